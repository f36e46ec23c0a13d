/-
  Proved: for every input the law FnRooms returns true and leaves its argument as it was; no condition. (The frame is the kit's skeleton.)
-/
import Derived.Test.YtgienfhogagdoaaRows
import Derived.WalkKit
import Derived.ProofKit
import Derived.OpenShut
import Derived.ShutString
import Derived.ChangeOld
import Derived.Below
import Derived.Test.YtgienfhogagdoaaSpecL05
import Derived.Test.YtgienfhogagdoaaImplL05
import Derived.Test.YtgienfhogagdoaaDrawL05
import Derived.Test.YtgienfhogagdoaaLawBase
import Derived.Deep.DeepCutAuto
namespace Go.Proofs.Ytgienfhogagdoaa.fnRooms
open Go.ChangeShapes Go.WideShapes Go.ChangeAt Go.RowKit
open Go.ChangeMaps (open_string shut_string)
set_option linter.unusedVariables false

theorem own : ownKnob Try.prog.godebug = none := by kernel_rfl
theorem laidOut : laidOutB Try.prog = true := by kernel_rfl

/-- WHAT THE WALK IS TOLD OF A SLICE OF INTEGERS THAT CAME IN: it is nil; or it leads to a row of 'cap' cells, the numbers 'zs' (the first 'len' are its elements, the rest its spare room), each fitting its kind. -/
def IsRow (k : IntKind) (w : World) (a : Option Addr) (len cap : Nat) (zs : List Int) : Prop :=
  (a = none ∧ len = 0 ∧ cap = 0 ∧ zs = []) ∨
  ∃ x, a = some x ∧ len ≤ cap ∧ cap ≤ maxLen ∧ zs.length = cap ∧ (∀ i, i < zs.length → w.cell? (x.add i) = some (.int k (zs.getD i 0))) ∧ ∀ n ∈ zs, (Lit.int k n).wf = true

/-- how many of the first d disks are not disk e -/
def before (e d : Int) : Int := if e < d then d - 1 else d
theorem before_next {e d : Int} (h : d ≠ e) : before e (d + 1) = before e d + 1 := by unfold before; split <;> split <;> omega
theorem before_same (e : Int) : before e (e + 1) = before e e := by unfold before; split <;> split <;> omega
theorem logZ_ok {n d r : Int} (h1 : inB n 3 5 = true) (h2 : inB r 0 15 = true) (h3 : inB d 0 (n - 1) = true) : (d = extraZ n r ∧ logZ n d r = -1) ∨ (d ≠ extraZ n r ∧ 0 ≤ logZ n d r) := by
  rw [extraZ_yes h1 h2]
  by_cases h4 : d = (n - 1 - r) % n
  · exact .inl ⟨h4, logZ_no (.inr (.inr (.inr h4)))⟩
  · exact .inr ⟨h4, (layout_of h1 h2 h3 h4).1⟩
theorem extraZ_back {n r : Int} (h1 : inB n 3 5 = true) (h2 : inB r 0 15 = true) (h : n ≤ r) : extraZ n (r - n) = extraZ n r := by
  have := inB_iff.1 h1; have := inB_iff.1 h2
  rw [extraZ_yes h1 h2, extraZ_yes h1 (inB_yes (by omega) (by omega))]
  rcases three h1 with rfl | rfl | rfl <;> omega
theorem extraZ_step {n r : Int} (h1 : inB n 3 5 = true) (h2 : inB r 0 15 = true) (h : 0 < r) : (extraZ n r == extraZ n (r - 1)) = false := by
  have := inB_iff.1 h2
  rw [extraZ_yes h1 h2, extraZ_yes h1 (inB_yes (by omega) (by omega))]
  apply beq_eq_false_iff_ne.2
  rcases three h1 with rfl | rfl | rfl <;> omega
theorem rows_next {n r : Int} : (n - 1) * (r + 1) = (n - 1) * r + (n - 1) := by rw [Int.mul_add, Int.mul_one]
theorem rows_in {n r : Int} (h1 : inB n 3 5 = true) (h0 : 0 ≤ r) (h9 : r ≤ 16) : 0 ≤ (n - 1) * r ∧ (n - 1) * r ≤ 64 := by
  rcases three h1 with rfl | rfl | rfl <;> omega

/-! ### STEP 1: THE WALK: the Go text returns true, AND WRITES NOTHING THAT WAS THERE: 'Below w.heap.size w w'' (Derived/Below.lean: '.refl', '.alloc', '.drew', '.setCell' at a new block, '.trans'). Open each 'IsRow' by 'rcases' AHEAD of 'go_enter'; part every test ahead of the walk. -/
set_option maxRecDepth 100000 in
set_option maxHeartbeats 4000000 in
theorem walk (a0 : Option Addr) (len0 cap0 : Nat) (z0 : List Int) (w : World) (w0 : IsRow .u8 w a0 len0 cap0 z0) :
    Calls Try.prog 4 #[.slice a0 len0 cap0] w fun e w' => e = .returned (.bool true) ∧ Below w.heap.size w w' := by
  by_cases hb : 4096 < len0
  · go_enter Try.func4, Try.ntmps4
    go_wp2_with fail
    go_fit (big_yes _ _ _ _ hb)
    rintro e w' ⟨rfl, rfl⟩
    go_wp2_with fail
    go_ret
    exact ⟨rfl, Below.refl _ _⟩
  have hR := codeAt_of w0 (by omega)
  clear w0
  go_enter Try.func4, Try.ntmps4
  go_wp2_with fail
  go_fit (big_no _ _ _ _ (by omega))
  rintro e w' ⟨rfl, rfl⟩
  go_wp2_with fail
  go_fit (drawRoomOf_any _ _ _ _ hR)
  rintro e w1 ⟨n, R, n0, n1, l0, l1, rfl, G⟩
  have bn : i64B n := ⟨by omega, by omega⟩
  go_wp2_with fail
  go_fit (implRoomOf_any n R _ bn)
  rintro e w2 ⟨rfl, g⟩
  replace G := gtrans G g
  clear g
  go_wp2_with fail
  go_fit (specRoomOf_any n R _)
  rintro e w' ⟨rfl, rfl⟩
  go_upto_region 7 with (fail)
  cases h1 : inB n 3 5
  · rw [roomZ_no (.inl h1)]
    have h1' := inB_nf h1
    clear h1
    by_cases c1 : n < 3
    · go_wp2_with fail
      go_ret
      exact ⟨rfl, gbelow G⟩
    · have c2 : 5 < n := by omega
      go_wp2_with fail
      go_ret
      exact ⟨rfl, gbelow G⟩
  obtain ⟨m0, m1⟩ := inB_iff.1 h1
  cases h2 : inB R 1 16
  · rw [roomZ_no (.inr h2)]
    have h1' := inB_nf h2
    have c1 : ¬ n < 3 := by omega
    have c2 : ¬ 5 < n := by omega
    clear h1 h2
    by_cases c3 : R < 1
    · go_wp2_with fail
      go_ret
      exact ⟨rfl, gbelow G⟩
    · have c4 : 16 < R := by omega
      go_wp2_with fail
      go_ret
      exact ⟨rfl, gbelow G⟩
  obtain ⟨r0, r1⟩ := inB_iff.1 h2
  have hrm := rows_in h1 (show 0 ≤ R by omega) (by omega)
  have hrp : 0 < (n - 1) * R := Int.mul_pos (by omega) (by omega)
  have hlast : Hid (0 ≤ diskZ n ((n - 1) * R - 1)) := (layout_at h1 (inB_yes (by omega) (by have := rows_in h1 (show 0 ≤ R by omega) r1; rcases three h1 with rfl | rfl | rfl <;> omega))).2.2.1
  rw [roomZ_yes h1 h2]
  have hK : Hid ((n - 1) * R = (n - 1) * R) := rfl
  have hnx : Hid (∀ r : Int, (n - 1) * (r + 1) = (n - 1) * r + (n - 1)) := fun r => rows_next
  have hin : Hid (∀ r : Int, 0 ≤ r → r ≤ 16 → 0 ≤ (n - 1) * r ∧ (n - 1) * r ≤ 64) := fun r h0 h9 => rows_in h1 h0 h9
  clear hK
  generalize hM : (n - 1) * R = M at *
  have HM := Lib.hid hM
  clear hM
  clear h2
  go_wp2_with fail
  go_loopw [6, 7, 8] (fun c r _ wr => ∃ k : Int, 0 ≤ k ∧ k ≤ R ∧ r = .int .i64 k ∧ c = .int .i64 ((n - 1) * k) ∧ w.grownBy wr none) (fun _ r _ _ => (R - intOf r).toNat)
  case atStart => exact ⟨0, by omega, by omega, rfl, by simp, G⟩
  case round =>
    clear G
    obtain ⟨k, k0, k1, rfl, rfl, G⟩ := hrel
    obtain ⟨p0, p1⟩ := hin.out k k0 (by omega)
    generalize hP : (n - 1) * k = P at *
    have HP := Lib.hid hP
    clear hP
    by_cases hlt : k < R
    · have h2 : inB k 0 15 = true := inB_yes k0 (by omega)
      go_wp2_with fail
      go_loopw [6, 8] (fun c d wx => ∃ j : Int, 0 ≤ j ∧ j ≤ n ∧ d = .int .i64 j ∧ c = .int .i64 (P + before (extraZ n k) j) ∧ w.grownBy wx none) (fun _ d _ => (n - intOf d).toNat)
      case atStart => exact ⟨0, by omega, by omega, rfl, by have := (extraZ_in (r := k) h1).1; rw [← extraZ_yes h1 h2] at this; simp [before]; omega, G⟩
      case round =>
        clear G
        obtain ⟨j, j0, j1, rfl, rfl, G⟩ := hrel
        have hbf : 0 ≤ before (extraZ n k) j ∧ before (extraZ n k) j ≤ 5 := by
          have := extraZ_in (r := k) h1; rw [← extraZ_yes h1 h2] at this
          unfold before; split <;> omega
        obtain ⟨b0, b1⟩ := hbf
        by_cases hjl : j < n
        · have h3 : inB j 0 (n - 1) = true := inB_yes j0 (by omega)
          rcases logZ_ok h1 h2 h3 with ⟨q1, q2⟩ | ⟨q1, q2⟩
          · have hs := Lib.hid (before_same (extraZ n k))
            have Q1 := Lib.hid q1
            have Q2 := Lib.hid q2
            clear q1 q2 h3 h2 h1
            go_wp2_with fail
            go_fit (implLogicalAt_any n j k _ bn)
            rintro e w5 ⟨rfl, g⟩
            rw [Q2.out]
            go_wp2_with fail
            go_roundw
            case rel => exact ⟨j + 1, by omega, by omega, rfl, by rw [Q1.out, hs.out], gtrans G g⟩
            case measure => simp [intOf]; omega
          · have hs := Lib.hid (before_next q1)
            clear q1 h3 h2 h1
            go_wp2_with fail
            go_fit (implLogicalAt_any n j k _ bn)
            rintro e w5 ⟨rfl, g⟩
            go_wp2_with fail
            go_roundw
            case rel => exact ⟨j + 1, by omega, by omega, rfl, by rw [hs.out, Int.add_assoc], gtrans G g⟩
            case measure => simp [intOf]; omega
        · obtain rfl : j = n := by omega
          have hcnt : Hid (P + before (extraZ j k) j = (j - 1) * (k + 1)) := by
            show _ = _
            have he := extraZ_in (r := k) h1; rw [← extraZ_yes h1 h2] at he
            rw [hnx.out, HP.out, before, if_pos he.2]
          rw [hcnt.out]
          have hq := hin.out (k + 1) (by omega) (by omega)
          generalize hP' : (j - 1) * (k + 1) = P' at *
          have HP' := Lib.hid hP'
          clear hP' hcnt b0 b1 j0 j1 hjl
          go_upto_region 18 with (fail)
          go_cut [84] (fun c wc => c = .bool false ∧ w.grownBy wc none)
          case first =>
            by_cases c0 : 0 < k
            · have e1 := extraZ_step h1 h2 c0
              by_cases c1 : j ≤ k
              · have e2 := Lib.hid (extraZ_back h1 h2 c1)
                clear h1 h2
                go_wp2_with fail
                go_fit (implExtraOf_any j k _ bn)
                rintro e w5 ⟨rfl, g5⟩
                go_wp2_with fail
                go_fit (implExtraOf_any j (k - j) _ bn)
                rintro e w6 ⟨rfl, g6⟩
                rw [e2.out]
                go_wp2_with fail
                go_fit (implExtraOf_any j k _ bn)
                rintro e w7 ⟨rfl, g7⟩
                go_wp2_with fail
                go_fit (implExtraOf_any j (k - 1) _ bn)
                rintro e w8 ⟨rfl, g8⟩
                go_wp2_with fail
                go_meet
                exact ⟨rfl, gtrans G (gtrans g5 (gtrans g6 (gtrans g7 g8)))⟩
              · clear h1 h2
                go_wp2_with fail
                go_fit (implExtraOf_any j k _ bn)
                rintro e w7 ⟨rfl, g7⟩
                go_wp2_with fail
                go_fit (implExtraOf_any j (k - 1) _ bn)
                rintro e w8 ⟨rfl, g8⟩
                go_wp2_with fail
                go_meet
                exact ⟨rfl, gtrans G (gtrans g7 g8)⟩
            · obtain rfl : k = 0 := by omega
              have c1 : ¬ j ≤ 0 := by omega
              clear h1 h2
              go_wp2_with fail
              go_meet
              exact ⟨rfl, G⟩
          case rest =>
            obtain ⟨rfl, g⟩ := hcut
            go_wp2_with fail
            go_roundw
            case rel => exact ⟨k + 1, by omega, by omega, rfl, by rw [HP'.out], g⟩
            case measure => simp [intOf]; omega
    · obtain rfl : k = R := by omega
      obtain rfl : P = M := by rw [← HP.out, ← HM.out]
      go_wp2_with fail
      go_fit (implDiskOf_any n (P - 1) _ bn)
      rintro e w5 ⟨rfl, g5⟩
      have hl := hlast.out
      go_wp2_with fail
      go_ret
      exact ⟨rfl, gbelow (gtrans G g5)⟩

/-! ### THE ROW's STEP: WRITTEN OUT: LEAVE IT -/
set_option maxRecDepth 100000 in
theorem lifted (os : Os) (started : os.Started) (H : Type) (enc : TypeId × Value → H) :
    ReturnsInHanded {} Try.checked os 4 .any (Rows.fnRoomsSpec.pre6 enc Try.prog Try.f4 Rows.fnRoomsRow.domain false) (Rows.fnRoomsSpec.post enc Try.prog Try.f4 false true false false) := by
  refine returnsInHanded_of_change (C := Try.checked) own started (by kernel_rfl) Try.func4
    (ChangeSpec.witness6 (enc := enc) (C := Try.checked) false ⟨#[], #[.slice none 0 0], []⟩ 8 (by kernel_rfl) (by kernel_rfl) (by kernel_rfl) (by kernel_rfl)) ?_
  intro W base args ds gs before hval0 hW hcnd _
  have hval : ∀ (j : Nat) t v, Try.f4.params[j]? = some t → args[j]? = some v → Value.okWide Try.prog W .any base t v := hval0
  have hW' := hW
  obtain ⟨p, q, hA0, hV, rfl, hfz, hnd⟩ := hW
  have hA : DataW.TrodAll enc Try.prog W 0 (fun _ => true) true Try.f4.params.toList args.toList ds p := hA0
  rw [Try.params4] at hA hval
  obtain ⟨v0, vs0, d0, ds0, p0, q0, hargs, rfl, rfl, h0, r0⟩ := trodAll_cons hA
  obtain ⟨rfl, rfl, rfl⟩ := trodAll_nil r0
  obtain rfl : args = #[v0] := by cases args; simp_all
  obtain ⟨rfl, rfl⟩ := trodVars_none hV
  obtain ⟨a0, len0, cap0, rfl⟩ := okWide_slice Try.underlying22 (hval 0 22 v0 rfl rfl)
  have k0 := h0
  have lt0 : ∀ x ∈ p0, x.block < W.heap.size := by obtain ⟨m, hm⟩ := k0; exact DataW.trod_lt m _ _ _ hm
  obtain ⟨z0, w0⟩ : ∃ zs, IsRow .u8 W a0 len0 cap0 zs := by
    obtain ⟨fuel, hf⟩ := h0
    rcases open_ints Try.underlying22 Try.underlying5 (by kernel_rfl) hf with ⟨hcs, _⟩ | ⟨x, l, c, zs, hcs, _, hl, hm, hz, _, hcell, hwz⟩
    · simp [Value.cells] at hcs
      obtain ⟨rfl, rfl, rfl⟩ := hcs
      exact ⟨[], .inl ⟨rfl, rfl, rfl, rfl⟩⟩
    · simp [Value.cells] at hcs
      obtain ⟨rfl, rfl, rfl⟩ := hcs
      exact ⟨zs, .inr ⟨_, rfl, hl, hm, by simpa using hz, hcell, hwz⟩⟩
  clear hA0 hval0
  refine (walk a0 len0 cap0 z0 W w0).mono fun e W' ⟨he, bel⟩ => ?_
  subst he
  exact ⟨_, rfl, _, _, _, [], _, [], hW', trodAll_mk1 (shut_bool Try.underlying4 _), (trodAll_cons_mk (Below.trod laidOut (by kernel_rfl) (of_decide_eq_true (by kernel_rfl)) k0 bel lt0) trodAll_mk0), rfl, bel.frame _, fun h => by cases h⟩

theorem over : Rows.fnRoomsRow.holds Try.pinned (OpenSpec.ofChange Rows.fnRoomsSpec) :=
  OpenClaim.holds_of_wide 4 Try.f4 rfl rfl rfl rfl rfl rfl rfl ⟨rfl, rfl, rfl, rfl, rfl⟩ rfl rfl rfl rfl rfl (by kernel_rfl) Try.func4 (by kernel_rfl)
    (of_decide_eq_true (by kernel_rfl)) (by unfold Func.isWrapper; first | (rw [if_pos (by decide +kernel)]; kernel_rfl) | (rw [if_neg (by decide +kernel)]; exact ⟨rfl, rfl⟩))
    (fun os started H enc _ => lifted os started H enc)

/-- ████ THE STATEMENT ████ -/
theorem proved : Rows.FnRoomsSaid := over
#print axioms proved
end Go.Proofs.Ytgienfhogagdoaa.fnRooms
