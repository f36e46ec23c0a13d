/-
  Proved: for every input the law FnLayout returns true and leaves its argument as it was; no condition. (The frame is the kit's skeleton.)
-/
import Derived.Test.YtgienfhogagdoaaRows
import Derived.WalkKit
import Derived.ProofKit
import Derived.OpenShut
import Derived.ShutString
import Derived.ChangeOld
import Derived.Below
import Derived.Test.YtgienfhogagdoaaSpecL05
import Derived.Test.YtgienfhogagdoaaImplL05
import Derived.Test.YtgienfhogagdoaaDrawL05
import Derived.Test.YtgienfhogagdoaaLawBase
import Derived.Deep.DeepCutAuto
namespace Go.Proofs.Ytgienfhogagdoaa.fnLayout
open Go.ChangeShapes Go.WideShapes Go.ChangeAt Go.RowKit
open Go.ChangeMaps (open_string shut_string)
set_option linter.unusedVariables false

theorem own : ownKnob Try.prog.godebug = none := by kernel_rfl
theorem laidOut : laidOutB Try.prog = true := by kernel_rfl

/-- WHAT THE WALK IS TOLD OF A SLICE OF INTEGERS THAT CAME IN: it is nil; or it leads to a row of 'cap' cells, the numbers 'zs' (the first 'len' are its elements, the rest its spare room), each fitting its kind. -/
def IsRow (k : IntKind) (w : World) (a : Option Addr) (len cap : Nat) (zs : List Int) : Prop :=
  (a = none ∧ len = 0 ∧ cap = 0 ∧ zs = []) ∨
  ∃ x, a = some x ∧ len ≤ cap ∧ cap ≤ maxLen ∧ zs.length = cap ∧ (∀ i, i < zs.length → w.cell? (x.add i) = some (.int k (zs.getD i 0))) ∧ ∀ n ∈ zs, (Lit.int k n).wf = true

theorem layout_no {n l : Int} (h : ¬ 0 ≤ diskZ n l) : diskZ n l = -1 := by
  cases h1 : inB n 3 5
  · exact diskZ_no (.inl h1)
  · cases h2 : inB l 0 (16 * (n - 1) - 1)
    · exact diskZ_no (.inr h2)
    · have := (layout_at h1 h2).2.2.1; omega
theorem layout_yes {n l : Int} (h : 0 ≤ diskZ n l) : logZ n (diskZ n l) (rowZ n l) = l ∧ (diskZ n l == extraZ n (rowZ n l)) = false ∧ diskZ n l < n := by
  cases h1 : inB n 3 5
  · rw [diskZ_no (.inl h1)] at h; omega
  · cases h2 : inB l 0 (16 * (n - 1) - 1)
    · rw [diskZ_no (.inr h2)] at h; omega
    · obtain ⟨_, _, _, a, b, c, _⟩ := layout_at h1 h2
      exact ⟨b, beq_eq_false_iff_ne.2 c, a⟩
theorem logZ_cases (n d r : Int) : (0 ≤ logZ n d r ∧ diskZ n (logZ n d r) = d ∧ rowZ n (logZ n d r) = r) ∨ (logZ n d r = -1 ∧ (n < 3 ∨ 5 < n ∨ d < 0 ∨ n ≤ d ∨ r < 0 ∨ 15 < r ∨ extraZ n r = d)) := by
  cases h1 : inB n 3 5
  · exact .inr ⟨logZ_no (.inl h1), by have := inB_nf h1; omega⟩
  cases h2 : inB r 0 15
  · exact .inr ⟨logZ_no (.inr (.inl h2)), by have := inB_nf h2; omega⟩
  cases h3 : inB d 0 (n - 1)
  · exact .inr ⟨logZ_no (.inr (.inr (.inl h3))), by have := inB_nf h3; omega⟩
  by_cases h4 : d = (n - 1 - r) % n
  · exact .inr ⟨logZ_no (.inr (.inr (.inr h4))), .inr (.inr (.inr (.inr (.inr (.inr (by rw [extraZ_yes h1 h2, h4]))))))⟩
  · obtain ⟨a, _, b, c⟩ := layout_of h1 h2 h3 h4
    exact .inl ⟨a, b, c⟩

/-! ### STEP 1: THE WALK: the Go text returns true, AND WRITES NOTHING THAT WAS THERE: 'Below w.heap.size w w'' (Derived/Below.lean: '.refl', '.alloc', '.drew', '.setCell' at a new block, '.trans'). Open each 'IsRow' by 'rcases' AHEAD of 'go_enter'; part every test ahead of the walk. -/
set_option maxRecDepth 100000 in
set_option maxHeartbeats 4000000 in
theorem walk (a0 : Option Addr) (len0 cap0 : Nat) (z0 : List Int) (w : World) (w0 : IsRow .u8 w a0 len0 cap0 z0) :
    Calls Try.prog 3 #[.slice a0 len0 cap0] w fun e w' => e = .returned (.bool true) ∧ Below w.heap.size w w' := by
  by_cases hb : 4096 < len0
  · go_enter Try.func3, Try.ntmps3
    go_wp2_with fail
    go_fit (big_yes _ _ _ _ hb)
    rintro e w' ⟨rfl, rfl⟩
    go_wp2_with fail
    go_ret
    exact ⟨rfl, Below.refl _ _⟩
  have hR := codeAt_of w0 (by omega)
  clear w0
  go_enter Try.func3, Try.ntmps3
  go_wp2_with fail
  go_fit (big_no _ _ _ _ (by omega))
  rintro e w' ⟨rfl, rfl⟩
  go_wp2_with fail
  go_fit (drawDiskOf_any _ _ _ _ hR)
  rintro e w1 ⟨n, l, n0, n1, l0, l1, rfl, G⟩
  have bn : i64B n := ⟨by omega, by omega⟩
  clear n0 n1
  go_wp2_with fail
  go_fit (implDiskOf_any n l _ bn)
  rintro e w2 ⟨rfl, g⟩
  replace G := gtrans G g
  clear g
  go_wp2_with fail
  go_fit (implRowOf_any n l _ bn)
  rintro e w3 ⟨rfl, g⟩
  replace G := gtrans G g
  clear g
  go_wp2_with fail
  go_fit (drawLogicalAt_any _ _ _ _ (hR.kept (gbelow G)))
  rintro e w4 ⟨m, dk, rw', bm, bd, br, rfl, g⟩
  replace G := gtrans G g
  clear g
  go_wp2_with fail
  go_fit (implLogicalAt_any m dk rw' _ bm)
  rintro e w5 ⟨rfl, g⟩
  replace G := gtrans G g
  clear g
  go_wp2_with fail
  go_fit (drawExtraOf_any _ _ _ _ (hR.kept (gbelow G)))
  rintro e w6 ⟨x, y, x0, x1, y0, y1, rfl, g⟩
  replace G := gtrans G g
  clear g
  have bx : i64B x := ⟨by omega, by omega⟩
  go_wp2_with fail
  go_fit (specDiskOf_any n l _)
  rintro e w7 ⟨rfl, g⟩
  replace G := gtrans G g
  clear g
  go_wp2_with fail
  go_fit (specRowOf_any n l _)
  rintro e w' ⟨rfl, rfl⟩
  go_wp2_with fail
  go_fit (specLogicalAt_any m dk rw' _)
  rintro e w' ⟨rfl, rfl⟩
  go_wp2_with fail
  go_fit (implExtraOf_any x y _ bx)
  rintro e w8 ⟨rfl, g⟩
  replace G := gtrans G g
  clear g
  go_wp2_with fail
  go_fit (specExtraOf_any x y _)
  rintro e w' ⟨rfl, rfl⟩
  go_upto_region 11 with (fail)
  clear x0 x1 y0 y1 bx l0 l1
  go_cut [91] (fun c wc => c = .bool false ∧ w8.grownBy wc none)
  case first =>
    by_cases hd : 0 ≤ diskZ n l
    · obtain ⟨q1, q2, q3⟩ := layout_yes hd
      have Q1 := Lib.hid q1
      have hc : ∀ w, Calls Try.prog 20 #[.int .i64 n, .int .i64 (rowZ n l)] w (Pure (.int .i64 (extraZ n (rowZ n l))) w) := fun w => implExtraOf_any n (rowZ n l) w bn
      clear q1
      generalize diskZ n l = D at *
      generalize rowZ n l = R at *
      generalize extraZ n R = E at *
      have q4 : ¬ n ≤ D := by omega
      go_wp2_with fail
      go_fit (implLogicalAt_any n D R _ bn)
      rintro e w9 ⟨rfl, g9⟩
      rw [Q1.out]
      go_wp2_with fail
      go_fit (hc _)
      rintro e w10 ⟨rfl, g10⟩
      go_wp2_with fail
      go_meet
      exact ⟨by simp [q4], gtrans g9 g10⟩
    · go_wp2_with fail
      go_meet
      exact ⟨rfl, grefl _⟩
  case rest =>
    obtain ⟨rfl, g⟩ := hcut
    replace G := gtrans G g
    clear g
    rcases logZ_cases m dk rw' with ⟨q0, q1, q2⟩ | ⟨q0, q1⟩
    · have Q1 := Lib.hid q1
      have Q2 := Lib.hid q2
      clear q1 q2
      generalize logZ m dk rw' = L at *
      go_wp2_with fail
      go_fit (implDiskOf_any m L _ bm)
      rintro e w9 ⟨rfl, g9⟩
      rw [Q1.out]
      go_wp2_with fail
      go_fit (implRowOf_any m L _ bm)
      rintro e w10 ⟨rfl, g10⟩
      rw [Q2.out]
      go_wp2_with fail
      go_ret
      exact ⟨rfl, gbelow (gtrans G (gtrans g9 g10))⟩
    · have Q1 := Lib.hid q1
      rw [q0]
      clear q0 q1
      by_cases c1 : m < 3
      · go_wp2_with fail
        go_ret
        exact ⟨rfl, gbelow G⟩
      by_cases c2 : 5 < m
      · go_wp2_with fail
        go_ret
        exact ⟨rfl, gbelow G⟩
      by_cases c3 : dk < 0
      · go_wp2_with fail
        go_ret
        exact ⟨rfl, gbelow G⟩
      by_cases c4 : m ≤ dk
      · go_wp2_with fail
        go_ret
        exact ⟨rfl, gbelow G⟩
      by_cases c5 : rw' < 0
      · go_wp2_with fail
        go_ret
        exact ⟨rfl, gbelow G⟩
      by_cases c6 : 15 < rw'
      · go_wp2_with fail
        go_ret
        exact ⟨rfl, gbelow G⟩
      have c7 : Hid (extraZ m rw' = dk) := by
        rcases Q1.out with h | h | h | h | h | h | h
        · exact absurd h c1
        · exact absurd h c2
        · exact absurd h c3
        · exact absurd h c4
        · exact absurd h c5
        · exact absurd h c6
        · exact h
      go_wp2_with fail
      go_fit (implExtraOf_any m rw' _ bm)
      rintro e w9 ⟨rfl, g9⟩
      rw [c7.out]
      go_wp2_with fail
      go_ret
      exact ⟨rfl, gbelow (gtrans G g9)⟩

/-! ### THE ROW's STEP: WRITTEN OUT: LEAVE IT -/
set_option maxRecDepth 100000 in
theorem lifted (os : Os) (started : os.Started) (H : Type) (enc : TypeId × Value → H) :
    ReturnsInHanded {} Try.checked os 3 .any (Rows.fnLayoutSpec.pre6 enc Try.prog Try.f3 Rows.fnLayoutRow.domain false) (Rows.fnLayoutSpec.post enc Try.prog Try.f3 false true false false) := by
  refine returnsInHanded_of_change (C := Try.checked) own started (by kernel_rfl) Try.func3
    (ChangeSpec.witness6 (enc := enc) (C := Try.checked) false ⟨#[], #[.slice none 0 0], []⟩ 8 (by kernel_rfl) (by kernel_rfl) (by kernel_rfl) (by kernel_rfl)) ?_
  intro W base args ds gs before hval0 hW hcnd _
  have hval : ∀ (j : Nat) t v, Try.f3.params[j]? = some t → args[j]? = some v → Value.okWide Try.prog W .any base t v := hval0
  have hW' := hW
  obtain ⟨p, q, hA0, hV, rfl, hfz, hnd⟩ := hW
  have hA : DataW.TrodAll enc Try.prog W 0 (fun _ => true) true Try.f3.params.toList args.toList ds p := hA0
  rw [Try.params3] at hA hval
  obtain ⟨v0, vs0, d0, ds0, p0, q0, hargs, rfl, rfl, h0, r0⟩ := trodAll_cons hA
  obtain ⟨rfl, rfl, rfl⟩ := trodAll_nil r0
  obtain rfl : args = #[v0] := by cases args; simp_all
  obtain ⟨rfl, rfl⟩ := trodVars_none hV
  obtain ⟨a0, len0, cap0, rfl⟩ := okWide_slice Try.underlying22 (hval 0 22 v0 rfl rfl)
  have k0 := h0
  have lt0 : ∀ x ∈ p0, x.block < W.heap.size := by obtain ⟨m, hm⟩ := k0; exact DataW.trod_lt m _ _ _ hm
  obtain ⟨z0, w0⟩ : ∃ zs, IsRow .u8 W a0 len0 cap0 zs := by
    obtain ⟨fuel, hf⟩ := h0
    rcases open_ints Try.underlying22 Try.underlying5 (by kernel_rfl) hf with ⟨hcs, _⟩ | ⟨x, l, c, zs, hcs, _, hl, hm, hz, _, hcell, hwz⟩
    · simp [Value.cells] at hcs
      obtain ⟨rfl, rfl, rfl⟩ := hcs
      exact ⟨[], .inl ⟨rfl, rfl, rfl, rfl⟩⟩
    · simp [Value.cells] at hcs
      obtain ⟨rfl, rfl, rfl⟩ := hcs
      exact ⟨zs, .inr ⟨_, rfl, hl, hm, by simpa using hz, hcell, hwz⟩⟩
  clear hA0 hval0
  refine (walk a0 len0 cap0 z0 W w0).mono fun e W' ⟨he, bel⟩ => ?_
  subst he
  exact ⟨_, rfl, _, _, _, [], _, [], hW', trodAll_mk1 (shut_bool Try.underlying4 _), (trodAll_cons_mk (Below.trod laidOut (by kernel_rfl) (of_decide_eq_true (by kernel_rfl)) k0 bel lt0) trodAll_mk0), rfl, bel.frame _, fun h => by cases h⟩

theorem over : Rows.fnLayoutRow.holds Try.pinned (OpenSpec.ofChange Rows.fnLayoutSpec) :=
  OpenClaim.holds_of_wide 3 Try.f3 rfl rfl rfl rfl rfl rfl rfl ⟨rfl, rfl, rfl, rfl, rfl⟩ rfl rfl rfl rfl rfl (by kernel_rfl) Try.func3 (by kernel_rfl)
    (of_decide_eq_true (by kernel_rfl)) (by unfold Func.isWrapper; first | (rw [if_pos (by decide +kernel)]; kernel_rfl) | (rw [if_neg (by decide +kernel)]; exact ⟨rfl, rfl⟩))
    (fun os started H enc _ => lifted os started H enc)

/-- ████ THE STATEMENT ████ -/
theorem proved : Rows.FnLayoutSaid := over
#print axioms proved
end Go.Proofs.Ytgienfhogagdoaa.fnLayout
