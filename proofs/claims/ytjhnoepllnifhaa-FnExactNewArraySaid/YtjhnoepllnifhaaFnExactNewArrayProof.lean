/-
  Proved: for every input the law FnExactNewArray returns true and leaves its arguments as they were; no condition.
-/
import Derived.Test.YtjhnoepllnifhaaRows
import Derived.WalkKit
import Derived.ProofKit
import Derived.OpenShut
import Derived.ShutString
import Derived.ChangeOld
import Derived.Below
import Derived.Carry
import Derived.Test.YtjhnoepllnifhaaImplNew
import Derived.Test.YtjhnoepllnifhaaLawL09
namespace Go.Proofs.Ytjhnoepllnifhaa.fnExactNewArray
open Go.ChangeShapes Go.WideShapes Go.ChangeAt Go.RowKit
set_option linter.unusedVariables false

theorem own : ownKnob Try.prog.godebug = none := by kernel_rfl
theorem laidOut : laidOutB Try.prog = true := by kernel_rfl
theorem newAZ_small (n rows : Int) : Small (newAZ n rows).ds := by
  unfold newAZ; split
  · rename_i h
    simp only [newAOk, Bool.and_eq_true] at h
    have hn := inB_iff.1 h.1
    have hr := inB_iff.1 h.2
    refine small_ok (by simp only [AZ.fresh, newDs_length]; omega) fun i hi => ?_
    simp only [AZ.fresh, newDs_length] at hi
    have e : (newDs rows.toNat n.toNat)[i]'(by rw [newDs_length]; exact hi) = newD (i : Int) (rows.toNat : Int) := by
      rw [newD_in (by omega) (by omega)]; simp [newDs]
    have : newOk (i : Int) (rows.toNat : Int) = true := by simp only [newOk, Bool.and_eq_true]; exact ⟨inB_yes (by omega) (by omega), inB_yes (by omega) (by omega)⟩
    have q := newD_ok this
    rw [← e] at q; exact q
  · simp [AZ.zero, Small, sizeC]

set_option maxRecDepth 100000 in
set_option maxHeartbeats 4000000 in
theorem walk (w : World) (a0 : Int) (w0 : i64B a0) (a1 : Int) (w1 : i64B a1) :
    Calls Try.prog 4 #[.int .i64 a0, .int .i64 a1] w fun e w' => e = .returned (.bool true) ∧ Below w.heap.size w w' := by
  have HSm : Hid (Small (newAZ a0 a1).ds) := newAZ_small _ _
  have CS := fun (W : World) => specNewArray_any a0 a1 W
  have CI := fun (W : World) => implNewArray_any a0 a1 W w0
  generalize newAZ a0 a1 = Z at *
  generalize newAOk a0 a1 = O at *
  go_enter Try.func4, Try.ntmps4
  have GA := grefl w
  go_wp2_with fail
  go_fit (CS _)
  rintro e wc ⟨v8, raw8, rfl, o8, gc⟩
  obtain ⟨v8a, v8c, rfl, -⟩ := o8.form
  have T8 := Lib.hid o8.tops
  have hs_gc := gc.size
  have G1 := gtrans GA gc
  clear GA
  have e8 := galloc (grefl wc) (.cells #[.slice v8a Z.ds.length v8c, .string (str Z.log), .string (str Z.next), .int .i64 Z.stage, .bool Z.up] 39)
  have B8 := Box5.new wc (.slice v8a Z.ds.length v8c) (.string (str Z.log)) (.string (str Z.next)) (.int .i64 Z.stage) (.bool Z.up) 39
  have hs_e8 : wc.heap.size < (wc.alloc (.cells #[.slice v8a Z.ds.length v8c, .string (str Z.log), .string (str Z.next), .int .i64 Z.stage, .bool Z.up] 39)).heap.size := by simp
  replace o8 := o8.grew e8
  have G2 := gtrans G1 e8
  clear G1
  go_upto_region 2 with (fail)
  generalize wc.alloc (.cells #[.slice v8a Z.ds.length v8c, .string (str Z.log), .string (str Z.next), .int .i64 Z.stage, .bool Z.up] 39) = W8 at *
  generalize hb8 : wc.heap.size = b8 at *
  go_wp2_with fail
  go_fit (CI _)
  rintro e wf ⟨v11, raw11, rfl, o11, gf⟩
  obtain ⟨v11a, v11c, rfl, -⟩ := o11.form
  have T11 := Lib.hid o11.tops
  have hs_gf := gf.size
  replace o8 := o8.grew gf
  replace B8 := B8.kept gf
  have G3 := gtrans G2 gf
  clear G2
  have e11 := galloc (grefl wf) (.cells #[.slice v11a Z.ds.length v11c, .string (str Z.log), .string (str Z.next), .int .i64 Z.stage, .bool Z.up] 39)
  have B11 := Box5.new wf (.slice v11a Z.ds.length v11c) (.string (str Z.log)) (.string (str Z.next)) (.int .i64 Z.stage) (.bool Z.up) 39
  have hs_e11 : wf.heap.size < (wf.alloc (.cells #[.slice v11a Z.ds.length v11c, .string (str Z.log), .string (str Z.next), .int .i64 Z.stage, .bool Z.up] 39)).heap.size := by simp
  replace o8 := o8.grew e11
  replace B8 := B8.kept e11
  replace o11 := o11.grew e11
  have G4 := gtrans G3 e11
  clear G3
  go_upto_region 3 with (fail)
  generalize wf.alloc (.cells #[.slice v11a Z.ds.length v11c, .string (str Z.log), .string (str Z.next), .int .i64 Z.stage, .bool Z.up] 39) = W11 at *
  generalize hb11 : wf.heap.size = b11 at *
  obtain ⟨x0, x1, x2, x3, x4⟩ := B11
  obtain ⟨y0, y1, y2, y3, y4⟩ := B8
  go_wp2_with fail
  go_fit (eqArray_yes Z _ _ _ o11.ld o8.ld)
  rintro e wg ⟨rfl, gg⟩
  replace B11 : Box5 _ b11 (.slice v11a Z.ds.length v11c) (.string (str Z.log)) (.string (str Z.next)) (.int .i64 Z.stage) (.bool Z.up) := ⟨x0, x1, x2, x3, x4⟩
  clear x0 x1 x2 x3 x4
  replace B8 : Box5 _ b8 (.slice v8a Z.ds.length v8c) (.string (str Z.log)) (.string (str Z.next)) (.int .i64 Z.stage) (.bool Z.up) := ⟨y0, y1, y2, y3, y4⟩
  clear y0 y1 y2 y3 y4
  replace o8 := o8.grew gg
  replace B8 := B8.kept gg
  replace o11 := o11.grew gg
  replace B11 := B11.kept gg
  have G5 := gtrans G4 gg
  clear G4
  have hlo : w.heap.size ≤ W8.heap.size := by omega
  obtain ⟨x0, x1, x2, x3, x4⟩ := B11
  go_wp2_with fail
  go_fit (markArray_at _ b11 _ Z raw11 1 _ o11 T11.out.1 T11.out.2 HSm.out (by omega) (by omega))
  rintro e wl ⟨rawn, rfl, o12, Oj⟩
  clear o11
  have hsl := Oj.size
  have hml := mkN_b HSm.out
  have hml2 : ¬ mkN 1 Z.ds Z.ds.length < 0 := by omega
  replace B11 : Box5 wl b11 (.slice v11a Z.ds.length v11c) (.string (str Z.log)) (.string (str Z.next)) (.int .i64 Z.stage) (.bool Z.up) := Box5.only ⟨x0, x1, x2, x3, x4⟩ Oj (fun hk => by omega)
  clear x0 x1 x2 x3 x4
  replace o8 := o8.away Oj T8.out.1 T8.out.2 (fun k hk => by omega)
  replace B8 := B8.only Oj (fun hk => by omega)
  have G6 := Oj.grew G5 (fun k hk => by omega)
  clear G5
  have CH11 := fun (v : Value) (W : World) (h : LD W v (markDs 1 Z.ds)) => heldArray_any v Z 1 W h HSm.out (by omega) (by omega)
  obtain ⟨x0, x1, x2, x3, x4⟩ := B11
  go_wp2_with fail
  go_fit (CH11 _ _ o12.ld)
  rintro e wm ⟨rfl, gm⟩
  replace B11 : Box5 _ b11 (.slice v11a Z.ds.length v11c) (.string (str Z.log)) (.string (str Z.next)) (.int .i64 Z.stage) (.bool Z.up) := ⟨x0, x1, x2, x3, x4⟩
  clear x0 x1 x2 x3 x4
  replace o8 := o8.grew gm
  replace B8 := B8.kept gm
  replace B11 := B11.kept gm
  replace o12 := o12.grew gm
  have G7 := gtrans G6 gm
  clear G6
  go_wp2_with fail
  go_fit (CI _)
  rintro e wo ⟨v16, raw16, rfl, o16, go⟩
  obtain ⟨v16a, v16c, rfl, -⟩ := o16.form
  replace o8 := o8.grew go
  replace B8 := B8.kept go
  replace B11 := B11.kept go
  replace o12 := o12.grew go
  have G8 := gtrans G7 go
  clear G7
  have e16 := galloc (grefl wo) (.cells #[.slice v16a Z.ds.length v16c, .string (str Z.log), .string (str Z.next), .int .i64 Z.stage, .bool Z.up] 39)
  have B16 := Box5.new wo (.slice v16a Z.ds.length v16c) (.string (str Z.log)) (.string (str Z.next)) (.int .i64 Z.stage) (.bool Z.up) 39
  replace o8 := o8.grew e16
  replace B8 := B8.kept e16
  replace B11 := B11.kept e16
  replace o12 := o12.grew e16
  replace o16 := o16.grew e16
  have G9 := gtrans G8 e16
  clear G8
  go_upto_region 14 with (fail)
  generalize wo.alloc (.cells #[.slice v16a Z.ds.length v16c, .string (str Z.log), .string (str Z.next), .int .i64 Z.stage, .bool Z.up] 39) = W16 at *
  generalize hb16 : wo.heap.size = b16 at *
  obtain ⟨x0, x1, x2, x3, x4⟩ := B16
  obtain ⟨y0, y1, y2, y3, y4⟩ := B8
  go_wp2_with fail
  go_fit (eqArray_yes Z _ _ _ o16.ld o8.ld)
  rintro e wq ⟨rfl, gq⟩
  clear x0 x1 x2 x3 x4 y0 y1 y2 y3 y4
  clear o16 o8
  replace B11 := B11.kept gq
  replace o12 := o12.grew gq
  have G10 := gtrans G9 gq
  clear G9
  obtain ⟨x0, x1, x2, x3, x4⟩ := B11
  go_wp2_with fail
  go_fit (CH11 _ _ o12.ld)
  rintro e wr ⟨rfl, gr⟩
  replace B11 : Box5 _ b11 (.slice v11a Z.ds.length v11c) (.string (str Z.log)) (.string (str Z.next)) (.int .i64 Z.stage) (.bool Z.up) := ⟨x0, x1, x2, x3, x4⟩
  clear x0 x1 x2 x3 x4
  replace B11 := B11.kept gr
  replace o12 := o12.grew gr
  have G11 := gtrans G10 gr
  clear G10
  go_wp2_with fail
  go_ret
  exact ⟨rfl, gbelow G11⟩

set_option maxRecDepth 100000 in
theorem lifted (os : Os) (started : os.Started) (H : Type) (enc : TypeId × Value → H) :
    ReturnsInHanded {} Try.checked os 4 .any (Rows.fnExactNewArraySpec.pre6 enc Try.prog Try.f4 Rows.fnExactNewArrayRow.domain false) (Rows.fnExactNewArraySpec.post enc Try.prog Try.f4 false true false false) := by
  refine returnsInHanded_of_change (C := Try.checked) own started (by kernel_rfl) Try.func4
    (ChangeSpec.witness6 (enc := enc) (C := Try.checked) false ⟨#[], #[.int .i64 0, .int .i64 0], []⟩ 8 (by kernel_rfl) (by kernel_rfl) (by kernel_rfl) (by kernel_rfl)) ?_
  intro W base args ds gs before hval0 hW hcnd _
  have hval : ∀ (j : Nat) t v, Try.f4.params[j]? = some t → args[j]? = some v → Value.okWide Try.prog W .any base t v := hval0
  have hW' := hW
  obtain ⟨p, q, hA0, hV, rfl, hfz, hnd⟩ := hW
  have hA : DataW.TrodAll enc Try.prog W 0 (fun _ => true) true Try.f4.params.toList args.toList ds p := hA0
  rw [Try.params4] at hA hval
  obtain ⟨x0, vs0, d0, ds0, p0, q0, hargs, rfl, rfl, h0, r0⟩ := trodAll_cons hA
  obtain ⟨x1, vs1, d1, ds1, p1, q1, rfl, rfl, rfl, h1, r1⟩ := trodAll_cons r0
  obtain ⟨rfl, rfl, rfl⟩ := trodAll_nil r1
  obtain rfl : args = #[x0, x1] := by cases args; simp_all
  obtain ⟨rfl, rfl⟩ := trodVars_none hV
  have k0 := h0
  have lt0 : ∀ x ∈ p0, x.block < W.heap.size := by obtain ⟨m, hm⟩ := k0; exact DataW.trod_lt m _ _ _ hm
  obtain ⟨a0, rfl, w0⟩ := openInt (hval 0 2 x0 rfl rfl) h0
  have k1 := h1
  have lt1 : ∀ x ∈ p1, x.block < W.heap.size := by obtain ⟨m, hm⟩ := k1; exact DataW.trod_lt m _ _ _ hm
  obtain ⟨a1, rfl, w1⟩ := openInt (hval 1 2 x1 rfl rfl) h1
  clear hA0 hval0
  refine (walk W a0 w0 a1 w1).mono fun e W' ⟨he, bel⟩ => ?_
  subst he
  exact ⟨_, rfl, _, _, _, [], _, [], hW', trodAll_mk1 (shut_bool Try.underlying4 _), (trodAll_cons_mk (Below.trod laidOut (by kernel_rfl) (of_decide_eq_true (by kernel_rfl)) k0 bel lt0) (trodAll_cons_mk (Below.trod laidOut (by kernel_rfl) (of_decide_eq_true (by kernel_rfl)) k1 bel lt1) trodAll_mk0)), rfl, bel.frame _, fun h => by cases h⟩

theorem over : Rows.fnExactNewArrayRow.holds Try.pinned (OpenSpec.ofChange Rows.fnExactNewArraySpec) :=
  OpenClaim.holds_of_wide 4 Try.f4 rfl rfl rfl rfl rfl rfl rfl ⟨rfl, rfl, rfl, rfl, rfl⟩ rfl rfl rfl rfl rfl (by kernel_rfl) Try.func4 (by kernel_rfl)
    (of_decide_eq_true (by kernel_rfl)) (by unfold Func.isWrapper; first | (rw [if_pos (by decide +kernel)]; kernel_rfl) | (rw [if_neg (by decide +kernel)]; exact ⟨rfl, rfl⟩))
    (fun os started H enc _ => lifted os started H enc)

theorem proved : Rows.FnExactNewArraySaid := over
#print axioms proved
end Go.Proofs.Ytjhnoepllnifhaa.fnExactNewArray
