/-
  Proved: for every input the law FnSums returns true and leaves its argument as it was; no condition. (The frame is the kit's skeleton.)
-/
import Derived.Test.YtbimgkbcidjdpaaRows
import Derived.WalkKit
import Derived.ProofKit
import Derived.OpenShut
import Derived.ShutString
import Derived.ChangeOld
import Derived.Below
import Derived.Test.YtbimgkbcidjdpaaSpecL01
import Derived.Test.YtbimgkbcidjdpaaImplL01
import Derived.Test.YtbimgkbcidjdpaaDrawL01
import Derived.Test.YtbimgkbcidjdpaaLawBase
namespace Go.Proofs.Ytbimgkbcidjdpaa.fnSums
open Go.ChangeShapes Go.WideShapes Go.ChangeAt Go.RowKit
open Go.ChangeMaps (open_string shut_string)
set_option linter.unusedVariables false

theorem own : ownKnob Try.prog.godebug = none := by kernel_rfl
theorem laidOut : laidOutB Try.prog = true := by kernel_rfl

/-- WHAT THE WALK IS TOLD OF A SLICE OF INTEGERS THAT CAME IN: it is nil; or it leads to a row of 'cap' cells, the numbers 'zs' (the first 'len' are its elements, the rest its spare room), each fitting its kind. -/
def IsRow (k : IntKind) (w : World) (a : Option Addr) (len cap : Nat) (zs : List Int) : Prop :=
  (a = none ∧ len = 0 ∧ cap = 0 ∧ zs = []) ∨
  ∃ x, a = some x ∧ len ≤ cap ∧ cap ≤ maxLen ∧ zs.length = cap ∧ (∀ i, i < zs.length → w.cell? (x.add i) = some (.int k (zs.getD i 0))) ∧ ∀ n ∈ zs, (Lit.int k n).wf = true

/-! ### STEP 1: THE WALK: the Go text returns true, AND WRITES NOTHING THAT WAS THERE: 'Below w.heap.size w w'' (Derived/Below.lean: '.refl', '.alloc', '.drew', '.setCell' at a new block, '.trans'). Open each 'IsRow' by 'rcases' AHEAD of 'go_enter'; part every test ahead of the walk. -/
theorem walk (a0 : Option Addr) (len0 cap0 : Nat) (z0 : List Int) (w : World) (w0 : IsRow .u8 w a0 len0 cap0 z0) :
    Calls Try.prog 3 #[.slice a0 len0 cap0] w fun e w' => e = .returned (.bool true) ∧ Below w.heap.size w w' := by
  by_cases hb : 4096 < len0
  · go_enter Try.func3, Try.ntmps3
    go_wp2_with fail
    refine (big_yes _ _ _ _ hb).mono ?_
    rintro e w' ⟨rfl, rfl⟩
    go_wp2_with fail
    go_ret
    exact ⟨rfl, Below.refl _ _⟩
  have hR := codeAt_of w0 (by omega)
  clear w0
  go_enter Try.func3, Try.ntmps3
  go_wp2_with fail
  refine (big_no _ _ _ _ (by omega)).mono ?_
  rintro e w' ⟨rfl, rfl⟩
  go_wp2_with fail
  refine (drawSumOf_any _ _ _ _ hR).mono ?_
  rintro e w1 ⟨d, p, v, hd, hp, hv, rfl, hg1⟩
  go_wp2_with fail
  refine (implSumOf_any _ _ _ _).mono ?_
  rintro e w' ⟨rfl, rfl⟩
  go_wp2_with fail
  refine (drawFits_any _ _ _ _ (hR.kept (gbelow hg1))).mono ?_
  rintro e w2 ⟨e', q, u, t, _, _, _, _, rfl, hg2⟩
  go_wp2_with fail
  refine (specSumOf_any _ _ _ _).mono ?_
  rintro e w' ⟨rfl, rfl⟩
  go_wp2_with fail
  refine (implFits_any _ _ _ _ _).mono ?_
  rintro e w' ⟨rfl, rfl⟩
  go_wp2_with fail
  refine (specFits_any _ _ _ _ _).mono ?_
  rintro e w' ⟨rfl, rfl⟩
  go_wp2_with fail
  refine (implValueOk_any _ _).mono ?_
  rintro e w' ⟨rfl, rfl⟩
  go_wp2_with fail
  refine (specValueOk_any _ _).mono ?_
  rintro e w' ⟨rfl, rfl⟩
  have hg := gbelow (gkeep hg1 hg2)
  by_cases hneg : sumZ d p v < 0
  · have hno := sumZ_neg hneg
    by_cases c1 : d < 0
    · clear hno
      go_wp2_with fail
      go_ret
      exact ⟨rfl, hg⟩
    by_cases c2 : 4 < d
    · clear hno
      go_wp2_with fail
      go_ret
      exact ⟨rfl, hg⟩
    by_cases c3 : p < 0
    · clear hno
      go_wp2_with fail
      go_ret
      exact ⟨rfl, hg⟩
    by_cases c4 : 15 < p
    · clear hno
      go_wp2_with fail
      go_ret
      exact ⟨rfl, hg⟩
    have c5 : inB v 0 32767 = false := by
      rw [inB_yes (by omega) (by omega), inB_yes (by omega) (by omega)] at hno; simpa using hno
    clear hno
    go_wp2_with fail
    refine (implValueOk_any _ _).mono ?_
    rintro e w' ⟨rfl, rfl⟩
    go_wp2_with fail
    go_ret
    exact ⟨rfl, hg⟩
  · have hs9 := sumZ_hi d p v
    have hd4 : inB d 0 4 = true := by
      cases hh : inB d 0 4
      · exact absurd (sumZ_no (d := d) (p := p) (v := v) (.inl hh)) (by omega)
      · rfl
    have hp4 : inB p 0 15 = true := by
      cases hh : inB p 0 15
      · exact absurd (sumZ_no (d := d) (p := p) (v := v) (.inr (.inl hh))) (by omega)
      · rfl
    have hv4 : inB v 0 32767 = true := by
      cases hh : inB v 0 32767
      · exact absurd (sumZ_no (d := d) (p := p) (v := v) (.inr (.inr hh))) (by omega)
      · rfl
    have hf1 : fitsZ d p v (sumZ d p v) = true := by simp [fitsZ]; omega
    have hf2 : ∀ x, 0 ≤ x → x < 32768 → fitsZ d p x (sumZ d p v) = (x == v) := fun x h0 h1 => by
      have hv5 := inB_iff.1 hv4
      by_cases hxv : x = v
      · subst hxv; rw [hf1]; simp
      · have : sumZ d p x ≠ sumZ d p v := fun h => hxv (sumZ_inj hv5 ⟨h0, by omega⟩ hd4 hp4 h)
        rw [show (x == v) = false from beq_eq_false_iff_ne.2 hxv]
        simp [fitsZ, this]
    have HF1 := Lib.hid hf1
    have HF2 := Lib.hid hf2
    clear hf1 hf2 hd4 hp4 hv4
    have hz : ¬ sumZ d p v < 0 := hneg
    go_wp2_with fail
    refine (pick_any _ _ _ _ _ _ (hR.kept hg) (by omega) (by omega) (by omega) (by omega)).mono ?_
    rintro e w' ⟨x, hx0, hx1, rfl, rfl⟩
    go_wp2_with fail
    refine (implFits_any _ _ _ _ _).mono ?_
    rintro e w' ⟨rfl, rfl⟩
    rw [HF1.out]
    go_wp2_with fail
    refine (implFits_any _ _ _ _ _).mono ?_
    rintro e w' ⟨rfl, rfl⟩
    rw [HF2.out x hx0 hx1]
    go_wp2_with fail
    go_ret
    exact ⟨rfl, hg⟩

/-! ### THE ROW's STEP: WRITTEN OUT: LEAVE IT -/
set_option maxRecDepth 100000 in
theorem lifted (os : Os) (started : os.Started) (H : Type) (enc : TypeId × Value → H) :
    ReturnsInHanded {} Try.checked os 3 .any (Rows.fnSumsSpec.pre6 enc Try.prog Try.f3 Rows.fnSumsRow.domain false) (Rows.fnSumsSpec.post enc Try.prog Try.f3 false true false false) := by
  refine returnsInHanded_of_change (C := Try.checked) own started (by kernel_rfl) Try.func3
    (ChangeSpec.witness6 (enc := enc) (C := Try.checked) false ⟨#[], #[.slice none 0 0], []⟩ 8 (by kernel_rfl) (by kernel_rfl) (by kernel_rfl) (by kernel_rfl)) ?_
  intro W base args ds gs before hval0 hW hcnd _
  have hval : ∀ (j : Nat) t v, Try.f3.params[j]? = some t → args[j]? = some v → Value.okWide Try.prog W .any base t v := hval0
  have hW' := hW
  obtain ⟨p, q, hA0, hV, rfl, hfz, hnd⟩ := hW
  have hA : DataW.TrodAll enc Try.prog W 0 (fun _ => true) true Try.f3.params.toList args.toList ds p := hA0
  rw [Try.params3] at hA hval
  obtain ⟨v0, vs0, d0, ds0, p0, q0, hargs, rfl, rfl, h0, r0⟩ := trodAll_cons hA
  obtain ⟨rfl, rfl, rfl⟩ := trodAll_nil r0
  obtain rfl : args = #[v0] := by cases args; simp_all
  obtain ⟨rfl, rfl⟩ := trodVars_none hV
  obtain ⟨a0, len0, cap0, rfl⟩ := okWide_slice Try.underlying22 (hval 0 22 v0 rfl rfl)
  have k0 := h0
  have lt0 : ∀ x ∈ p0, x.block < W.heap.size := by obtain ⟨m, hm⟩ := k0; exact DataW.trod_lt m _ _ _ hm
  obtain ⟨z0, w0⟩ : ∃ zs, IsRow .u8 W a0 len0 cap0 zs := by
    obtain ⟨fuel, hf⟩ := h0
    rcases open_ints Try.underlying22 Try.underlying5 (by kernel_rfl) hf with ⟨hcs, _⟩ | ⟨x, l, c, zs, hcs, _, hl, hm, hz, _, hcell, hwz⟩
    · simp [Value.cells] at hcs
      obtain ⟨rfl, rfl, rfl⟩ := hcs
      exact ⟨[], .inl ⟨rfl, rfl, rfl, rfl⟩⟩
    · simp [Value.cells] at hcs
      obtain ⟨rfl, rfl, rfl⟩ := hcs
      exact ⟨zs, .inr ⟨_, rfl, hl, hm, by simpa using hz, hcell, hwz⟩⟩
  clear hA0 hval0
  refine (walk a0 len0 cap0 z0 W w0).mono fun e W' ⟨he, bel⟩ => ?_
  subst he
  exact ⟨_, rfl, _, _, _, [], _, [], hW', trodAll_mk1 (shut_bool Try.underlying4 _), (trodAll_cons_mk (Below.trod laidOut (by kernel_rfl) (of_decide_eq_true (by kernel_rfl)) k0 bel lt0) trodAll_mk0), rfl, bel.frame _, fun h => by cases h⟩

theorem over : Rows.fnSumsRow.holds Try.pinned (OpenSpec.ofChange Rows.fnSumsSpec) :=
  OpenClaim.holds_of_wide 3 Try.f3 rfl rfl rfl rfl rfl rfl rfl ⟨rfl, rfl, rfl, rfl, rfl⟩ rfl rfl rfl rfl rfl (by kernel_rfl) Try.func3 (by kernel_rfl)
    (of_decide_eq_true (by kernel_rfl)) (by unfold Func.isWrapper; first | (rw [if_pos (by decide +kernel)]; kernel_rfl) | (rw [if_neg (by decide +kernel)]; exact ⟨rfl, rfl⟩))
    (fun os started H enc _ => lifted os started H enc)

/-- ████ THE STATEMENT ████ -/
theorem proved : Rows.FnSumsSaid := over
#print axioms proved
end Go.Proofs.Ytbimgkbcidjdpaa.fnSums
