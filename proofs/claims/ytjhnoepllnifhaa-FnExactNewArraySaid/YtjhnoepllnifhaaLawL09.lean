/- Arrays as the laws hold them: taken over, measured, compared, marked, held. What a law over arrays holds on to: two boxes; the arrays that are answered are small. -/
import Derived.Test.YtjhnoepllnifhaaOwnA
import Derived.Test.YtjhnoepllnifhaaLawL07c
import Derived.Test.YtjhnoepllnifhaaLawL06b
namespace Go.Proofs.Ytjhnoepllnifhaa
open Go.ChangeShapes Go.WideShapes Go.ChangeAt Go.RowKit Go.Joins Go.Deep
attribute [local go_sem] str_list str_size

/-- an array that came in -/
def InArray (w : World) (da : Option Addr) (dn : Nat) (z : AZ) : Prop := i64B z.stage ∧ z.log.length ≤ 9223372036854775807 ∧ z.next.length ≤ 9223372036854775807 ∧ InDisks w da dn z.ds
theorem InArray.kept {w w' : World} {da : Option Addr} {dn : Nat} {z : AZ} (h : InArray w da dn z) (g : w.grownBy w' none) : InArray w' da dn z := ⟨h.1, h.2.1, h.2.2.1, h.2.2.2.kept g⟩
/-- its size is bounded -/
def SmallA (z : AZ) : Prop := Small z.ds ∧ z.log.length ≤ 1048576 ∧ z.next.length ≤ 1048576
set_option maxRecDepth 8000
set_option maxHeartbeats 2000000 in
theorem eqArray_yes (z : AZ) (v1 v2 : Value) (w : World) (h1 : LD w v1 z.ds) (h2 : LD w v2 z.ds) :
    Calls Try.prog 18 #[z.val v1, z.val v2] w (Pure (.bool true) w) := by
  obtain ⟨a1, c1, rfl, -⟩ := h1.form
  obtain ⟨a2, c2, rfl, -⟩ := h2.form
  obtain ⟨ds, log, next, stage, up⟩ := z
  dsimp only at *
  have e1 := galloc (grefl w) (.cells #[.slice a1 ds.length c1, .string (str log), .string (str next), .int .i64 stage, .bool up] 39)
  have A1 := Box5.new w (.slice a1 ds.length c1) (.string (str log)) (.string (str next)) (.int .i64 stage) (.bool up) 39
  have A2 := Box5.new (w.alloc (.cells #[.slice a1 ds.length c1, .string (str log), .string (str next), .int .i64 stage, .bool up] 39)) (.slice a2 ds.length c2) (.string (str log)) (.string (str next)) (.int .i64 stage) (.bool up) 39
  have e2 := galloc (grefl (w.alloc (.cells #[.slice a1 ds.length c1, .string (str log), .string (str next), .int .i64 stage, .bool up] 39))) (.cells #[.slice a2 ds.length c2, .string (str log), .string (str next), .int .i64 stage, .bool up] 39)
  have B1 := A1.kept e2
  have G := gtrans e1 e2
  have hs : (w.alloc (.cells #[.slice a1 ds.length c1, .string (str log), .string (str next), .int .i64 stage, .bool up] 39)).heap.size = w.heap.size + 1 := by simp
  rw [hs] at A2
  clear A1 e1 e2 hs
  go_enter Try.func18, Try.ntmps18
  go_upto_region 1 with (fail)
  generalize (w.alloc (.cells #[.slice a1 ds.length c1, .string (str log), .string (str next), .int .i64 stage, .bool up] 39)).alloc (.cells #[.slice a2 ds.length c2, .string (str log), .string (str next), .int .i64 stage, .bool up] 39) = W0 at *
  have HB1 := Lib.hid B1
  have HB2 := Lib.hid A2
  obtain ⟨p0, p1, p2, p3, p4⟩ := B1
  obtain ⟨q0, q1, q2, q3, q4⟩ := A2
  go_wp2_with fail
  go_fit (eqDiskS_yes _ _ ds _ (h1.kept G) (h2.kept G))
  rintro e w1 ⟨rfl, g1⟩
  have G1 := gtrans G g1
  clear p0 p1 p2 p3 p4 q0 q1 q2 q3 q4
  obtain ⟨p0, p1, p2, p3, p4⟩ := HB1.out.kept g1
  obtain ⟨q0, q1, q2, q3, q4⟩ := HB2.out.kept g1
  go_wp2_with fail
  go_ret
  exact ⟨rfl, G1⟩
set_option maxHeartbeats 2000000 in
theorem markArray_at (base T : Nat) (v : Value) (z : AZ) (raw : List DV) (k : Int) (w : World) (h : OD w base v z.ds raw) (hT1 : ∀ i (hi : i < raw.length) b, raw[i].has b → b < T) (hT2 : ∀ b, v.ownBlock = some b → b < T) (hs : Small z.ds) (h0 : 0 ≤ k) (h1 : k ≤ 1000) :
    Calls Try.prog 19 #[z.val v, .int .i64 k] w fun e w' => ∃ raw', e = .returned (.int .i64 (mkN k z.ds z.ds.length)) ∧ OD w' base v (markDs k z.ds) raw' ∧ Only (fun b => base ≤ b ∧ b < T) w w' := by
  obtain ⟨va, vc, rfl, -⟩ := h.form
  have e0 := galloc (grefl w) (.cells #[.slice va z.ds.length vc, .string (str z.log), .string (str z.next), .int .i64 z.stage, .bool z.up] 39)
  obtain ⟨p0, p1, p2, p3, p4⟩ := Box5.new w (.slice va z.ds.length vc) (.string (str z.log)) (.string (str z.next)) (.int .i64 z.stage) (.bool z.up) 39
  go_enter Try.func19, Try.ntmps19
  go_upto_region 1 with (fail)
  generalize w.alloc (.cells #[.slice va z.ds.length vc, .string (str z.log), .string (str z.next), .int .i64 z.stage, .bool z.up] 39) = W0 at *
  go_wp2_with fail
  go_fit (markDiskS_at base T _ z.ds raw k _ (h.grew e0) hT1 hT2 hs h0 h1)
  rintro e w1 ⟨raw1, rfl, o1, O1⟩
  clear p0 p1 p2 p3 p4
  go_wp2_with fail
  go_ret
  exact ⟨raw1, rfl, o1, (Only.of e0 (fun _ e => by cases e)).trans O1⟩
set_option maxHeartbeats 2000000 in
theorem heldArray_any (v : Value) (z : AZ) (k : Int) (w : World) (h : LD w v (markDs k z.ds)) (hs : Small z.ds) (h0 : 0 ≤ k) (h1 : k ≤ 1000) :
    Calls Try.prog 20 #[z.val v, .int .i64 k] w (Pure (.int .i64 (mkN k z.ds z.ds.length)) w) := by
  obtain ⟨va, vc, rfl, -⟩ := h.form
  have e0 := galloc (grefl w) (.cells #[.slice va (markDs k z.ds).length vc, .string (str z.log), .string (str z.next), .int .i64 z.stage, .bool z.up] 39)
  obtain ⟨p0, p1, p2, p3, p4⟩ := Box5.new w (.slice va (markDs k z.ds).length vc) (.string (str z.log)) (.string (str z.next)) (.int .i64 z.stage) (.bool z.up) 39
  have hnn : ¬ mkN k z.ds z.ds.length < 0 := by have := Small.len hs; unfold Small at hs; unfold mkN; rw [List.take_length]; omega
  go_enter Try.func20, Try.ntmps20
  go_upto_region 1 with (fail)
  generalize w.alloc (.cells #[.slice va (markDs k z.ds).length vc, .string (str z.log), .string (str z.next), .int .i64 z.stage, .bool z.up] 39) = W0 at *
  go_wp2_with fail
  go_fit (heldDiskS_any _ z.ds k _ (h.kept e0) hs h0 h1)
  rintro e w1 ⟨rfl, g1⟩
  clear p0 p1 p2 p3 p4
  go_wp2_with fail
  go_ret
  exact ⟨rfl, gtrans e0 g1⟩
section
variable {H : Type} {enc : TypeId × Value → H} {w : World} {base : Nat} {held : Bool}
end
end Go.Proofs.Ytjhnoepllnifhaa
namespace Go.Proofs.Ytjhnoepllnifhaa
open Go.ChangeShapes Go.WideShapes Go.ChangeAt Go.RowKit

/-- two boxes of five cells -/
abbrev PA (w : World) (b : Nat) (x0 x1 x2 x3 x4 : Value) (c : Nat) (y0 y1 y2 y3 y4 : Value) : Prop := Box5 w b x0 x1 x2 x3 x4 ∧ Box5 w c y0 y1 y2 y3 y4
section
variable {w w' : World} {b c : Nat} {x0 x1 x2 x3 x4 y0 y1 y2 y3 y4 : Value}
theorem PA.kept (h : PA w b x0 x1 x2 x3 x4 c y0 y1 y2 y3 y4) (g : w.grownBy w' none) : PA w' b x0 x1 x2 x3 x4 c y0 y1 y2 y3 y4 := ⟨Box5.kept h.1 g, Box5.kept h.2 g⟩
theorem PA.drew (h : PA w b x0 x1 x2 x3 x4 c y0 y1 y2 y3 y4) : PA w.drew b x0 x1 x2 x3 x4 c y0 y1 y2 y3 y4 := h
end
theorem ok_smallA {a : AZ} (h : a.ok = true) : Small a.ds :=
  small_ok (ds_small (AZ.ok_ds h)).1 fun i hi => disksOk_at (AZ.ok_ds h) i hi
theorem zero_smallA : Small AZ.zero.ds := by simp [AZ.zero, Small, sizeC]
theorem written_step {a : AZ} {p x : Int} (h : a.ok = true) : (a.written p x).ok = true := by
  cases hb : beginOk a p x
  · simp [AZ.written, hb, h]
  · have e : a.written p x = (((((a.begun p x).stepped).stepped).stepped).stepped) := by
      have hf : forOk a.ds p x = true := by simp only [beginOk, Bool.and_eq_true] at hb; exact hb.2.2
      have hE := ents_one (for_ok hf)
      have e0 : a.begun p x = { a with next := frameT (forP a.ds p x).text, stage := 1 } := by simp [AZ.begun, hb]
      have e4 : a.written p x = { a with ds := flushAll (patchZ a.ds (forP a.ds p x)), log := [], next := [], stage := 0 } := by simp [AZ.written, hb]
      rw [e0, e4]
      simp [AZ.stepped, hE]
    rw [e]
    exact AZ.ok_stepped (AZ.ok_stepped (AZ.ok_stepped (AZ.ok_stepped (AZ.ok_begun h p x))))
theorem begunZ_small (a : AZ) (p x : Int) : Small (begunZ a p x).ds := by
  unfold begunZ; split
  · exact ok_smallA (AZ.ok_begun ‹_› p x)
  · exact zero_smallA
theorem steppedZ_small (a : AZ) : Small (steppedZ a).ds := by
  unfold steppedZ; split
  · exact ok_smallA (AZ.ok_stepped ‹_›)
  · exact zero_smallA
theorem writtenZ_small (a : AZ) (p x : Int) : Small (writtenZ a p x).ds := by
  unfold writtenZ; split
  · exact ok_smallA (written_step ‹_›)
  · exact zero_smallA
end Go.Proofs.Ytjhnoepllnifhaa
