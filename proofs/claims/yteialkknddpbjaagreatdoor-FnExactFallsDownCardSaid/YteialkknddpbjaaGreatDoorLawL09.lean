/- Arrays as the laws hold them: taken over, measured, compared, marked, held. What a law over arrays holds on to: two boxes; the arrays that are answered are small. -/
import Derived.Test.YteialkknddpbjaaGreatDoorOwnA
import Derived.Test.YteialkknddpbjaaGreatDoorLawL07c
import Derived.Test.YteialkknddpbjaaGreatDoorLawL06b
namespace Go.Proofs.YteialkknddpbjaaGreatDoor
open Go.ChangeShapes Go.WideShapes Go.ChangeAt Go.RowKit Go.Joins Go.Deep
attribute [local go_sem] str_list str_size

/-- an array that came in -/
def InArray (w : World) (da : Option Addr) (dn : Nat) (z : AZ) : Prop := i64B z.stage ∧ z.log.length ≤ 9223372036854775807 ∧ z.next.length ≤ 9223372036854775807 ∧ InDisks w da dn z.ds
theorem InArray.kept {w w' : World} {da : Option Addr} {dn : Nat} {z : AZ} (h : InArray w da dn z) (g : w.grownBy w' none) : InArray w' da dn z := ⟨h.1, h.2.1, h.2.2.1, h.2.2.2.kept g⟩
/-- its size is bounded -/
def SmallA (z : AZ) : Prop := Small z.ds ∧ z.log.length ≤ 1048576 ∧ z.next.length ≤ 1048576
set_option maxRecDepth 8000
set_option maxHeartbeats 2000000 in
theorem szArray_b (z : AZ) (da : Option Addr) (dn dc : Nat) (w : World) (h : InArray w da dn z) :
    Calls Tryz.prog 55 #[.agg #[.slice da dn dc, .string (str z.log), .string (str z.next), .int .i64 z.stage, .bool z.up], .int .i64 1048576] w fun e w' => ∃ x : Int, e = .returned (.int .i64 x) ∧ w.grownBy w' none ∧ (x < 0 ∨ (0 ≤ x ∧ SmallA z)) ∧ x ≤ 1048576 := by
  obtain ⟨-, h1, h2, hd⟩ := h
  have B0 := Box5.new w (.slice da dn dc) (.string (str z.log)) (.string (str z.next)) (.int .i64 z.stage) (.bool z.up) 64
  have G0 := galloc (grefl w) (.cells #[.slice da dn dc, .string (str z.log), .string (str z.next), .int .i64 z.stage, .bool z.up] 64)
  go_enter Tryz.func55, Tryz.ntmps55
  go_upto_region 1 with (fail)
  generalize w.alloc (.cells #[.slice da dn dc, .string (str z.log), .string (str z.next), .int .i64 z.stage, .bool z.up] 64) = W0 at *
  obtain ⟨p0, p1, p2, p3, p4⟩ := B0
  go_wp2_with fail
  go_fit (szDiskS_b da dn dc z.ds _ (hd.kept G0))
  rintro e w1 ⟨x, rfl, g1, hx, hxb⟩
  have G1 := gtrans G0 g1
  have q1 := gkc g1 p1
  have q2 := gkc g1 p2
  clear p0 p1 p2 p3 p4
  by_cases n1 : x < 0
  · go_wp2_with fail
    go_ret
    exact ⟨-1, rfl, G1, .inl (by omega), by omega⟩
  have hs : Small z.ds := by rcases hx with e | e; exact absurd e n1; exact e.2
  have HSm := Lib.hid hs
  clear hx hs
  by_cases n2 : x - (z.log.length : Int) < 0
  · go_wp2_with fail
    go_ret
    exact ⟨-1, rfl, G1, .inl (by omega), by omega⟩
  by_cases n3 : x - (z.log.length : Int) - (z.next.length : Int) < 0
  · go_wp2_with fail
    go_ret
    exact ⟨-1, rfl, G1, .inl (by omega), by omega⟩
  go_wp2_with fail
  go_ret
  exact ⟨_, rfl, G1, .inr ⟨by omega, HSm.out, by omega, by omega⟩, by omega⟩
set_option maxHeartbeats 2000000 in
theorem eqArray_yes (z : AZ) (v1 v2 : Value) (w : World) (h1 : LD w v1 z.ds) (h2 : LD w v2 z.ds) :
    Calls Tryz.prog 58 #[z.val v1, z.val v2] w (Pure (.bool true) w) := by
  obtain ⟨a1, c1, rfl, -⟩ := h1.form
  obtain ⟨a2, c2, rfl, -⟩ := h2.form
  obtain ⟨ds, log, next, stage, up⟩ := z
  dsimp only at *
  have e1 := galloc (grefl w) (.cells #[.slice a1 ds.length c1, .string (str log), .string (str next), .int .i64 stage, .bool up] 26)
  have A1 := Box5.new w (.slice a1 ds.length c1) (.string (str log)) (.string (str next)) (.int .i64 stage) (.bool up) 26
  have A2 := Box5.new (w.alloc (.cells #[.slice a1 ds.length c1, .string (str log), .string (str next), .int .i64 stage, .bool up] 26)) (.slice a2 ds.length c2) (.string (str log)) (.string (str next)) (.int .i64 stage) (.bool up) 26
  have e2 := galloc (grefl (w.alloc (.cells #[.slice a1 ds.length c1, .string (str log), .string (str next), .int .i64 stage, .bool up] 26))) (.cells #[.slice a2 ds.length c2, .string (str log), .string (str next), .int .i64 stage, .bool up] 26)
  have B1 := A1.kept e2
  have G := gtrans e1 e2
  have hs : (w.alloc (.cells #[.slice a1 ds.length c1, .string (str log), .string (str next), .int .i64 stage, .bool up] 26)).heap.size = w.heap.size + 1 := by simp
  rw [hs] at A2
  clear A1 e1 e2 hs
  go_enter Tryz.func58, Tryz.ntmps58
  go_upto_region 1 with (fail)
  generalize (w.alloc (.cells #[.slice a1 ds.length c1, .string (str log), .string (str next), .int .i64 stage, .bool up] 26)).alloc (.cells #[.slice a2 ds.length c2, .string (str log), .string (str next), .int .i64 stage, .bool up] 26) = W0 at *
  have HB1 := Lib.hid B1
  have HB2 := Lib.hid A2
  obtain ⟨p0, p1, p2, p3, p4⟩ := B1
  obtain ⟨q0, q1, q2, q3, q4⟩ := A2
  go_wp2_with fail
  go_fit (eqDiskS_yes _ _ ds _ (h1.kept G) (h2.kept G))
  rintro e w1 ⟨rfl, g1⟩
  have G1 := gtrans G g1
  clear p0 p1 p2 p3 p4 q0 q1 q2 q3 q4
  obtain ⟨p0, p1, p2, p3, p4⟩ := HB1.out.kept g1
  obtain ⟨q0, q1, q2, q3, q4⟩ := HB2.out.kept g1
  go_wp2_with fail
  go_ret
  exact ⟨rfl, G1⟩
set_option maxHeartbeats 2000000 in
theorem toArray_any (z : AZ) (da : Option Addr) (dn dc : Nat) (w : World) (h : InDisks w da dn z.ds) (hs : Small z.ds) :
    Calls Tryz.prog 57 #[.agg #[.slice da dn dc, .string (str z.log), .string (str z.next), .int .i64 z.stage, .bool z.up]] w (GotA z w) := by
  obtain ⟨P0, Z0, G0, s0⟩ := two_new w (.slice da dn dc) (.string (str z.log)) (.string (str z.next)) (.int .i64 z.stage) (.bool z.up) 64
  have e1 := galloc (grefl ((w.alloc (.cells #[.slice da dn dc, .string (str z.log), .string (str z.next), .int .i64 z.stage, .bool z.up] 64)).alloc zero5)) zero5
  have A1 : ABox (((w.alloc (.cells #[.slice da dn dc, .string (str z.log), .string (str z.next), .int .i64 z.stage, .bool z.up] 64)).alloc zero5).alloc zero5) ((w.alloc (.cells #[.slice da dn dc, .string (str z.log), .string (str z.next), .int .i64 z.stage, .bool z.up] 64)).alloc zero5).heap.size (w.heap.size + 3) .zero (.slice none 0 0) [] :=
    ⟨by simp [At, go_sem], by simp [At, go_sem, AZ.zero]; rfl, by simp [At, go_sem, AZ.zero]; rfl, by simp [At, go_sem, AZ.zero], by simp [At, go_sem, AZ.zero], OD.nil _ _, by simp [Value.ownBlock], fun i h => by simp at h⟩
  rw [s0] at A1
  have P1 := P0.kept e1
  have Z1 := Z0.kept e1 (by simp)
  have G1 := gtrans G0 e1
  have s1 : (((w.alloc (.cells #[.slice da dn dc, .string (str z.log), .string (str z.next), .int .i64 z.stage, .bool z.up] 64)).alloc zero5).alloc zero5).heap.size = w.heap.size + 3 := by simp
  clear P0 Z0 G0 s0 e1
  go_enter Tryz.func57, Tryz.ntmps57
  go_upto_region 2 with (fail)
  generalize ((w.alloc (.cells #[.slice da dn dc, .string (str z.log), .string (str z.next), .int .i64 z.stage, .bool z.up] 64)).alloc zero5).alloc zero5 = W1 at *
  have HP1 := Lib.hid P1
  obtain ⟨p0, p1, p2, p3, p4⟩ := P1
  go_wp2_with fail
  go_fit (toDiskS_any da dn dc z.ds _ (h.kept G1) hs)
  rintro e w2 ⟨v2, raw2, rfl, o2, g2⟩
  obtain ⟨va, vn, vc, rfl⟩ := o2.own.sl
  have hs2 := g2.size
  obtain ⟨n1, n2⟩ := o2.not_old (r := w.heap.size + 2) (by omega)
  obtain ⟨x0, f0⟩ := gk g2 A1.c0
  have A3 := A1.putDisks g2 (by simp) (o2.lower (base' := w.heap.size + 3) (by omega)) n1 n2
  have Z3 := (Z1.kept g2 (by simp)).far (c := w.heap.size + 2) (o := 0) (by omega) (.slice va vn vc)
  have G3 := gset1 (gtrans G1 g2) (show w.heap.size ≤ w.heap.size + 2 by omega) 0 (.slice va vn vc)
  have P3 : Box5 (w2.setCell ⟨w.heap.size + 2, 0, none⟩ (.slice va vn vc)) w.heap.size (.slice da dn dc) (.string (str z.log)) (.string (str z.next)) (.int .i64 z.stage) (.bool z.up) := by
    obtain ⟨c0, c1, c2, c3, c4⟩ := HP1.out.kept g2
    have q : ∀ o, (w2.setCell ⟨w.heap.size + 2, 0, none⟩ (.slice va vn vc)).cell? ⟨w.heap.size, o, none⟩ = w2.cell? ⟨w.heap.size, o, none⟩ := fun o => World.cell?_setCell_other _ _ _ _ (fun e => by injection e; omega)
    exact ⟨by rw [q]; exact c0, by rw [q]; exact c1, by rw [q]; exact c2, by rw [q]; exact c3, by rw [q]; exact c4⟩
  clear p0 p1 p2 p3 p4 A1 Z1 G1 o2
  go_upto_region 3 with (fail)
  generalize w2.setCell ⟨w.heap.size + 2, 0, none⟩ (.slice va vn vc) = W3 at *
  clear x0 f0
  have A7 := (((A3.setLog z.log).setNext z.next).setStage z.stage).setUp z.up
  have hge : w.heap.size ≤ w.heap.size + 2 := by omega
  have G7 := gset1 (gset1 (gset1 (gset1 G3 hge 1 (.string (str z.log))) hge 2 (.string (str z.next))) hge 3 (.int .i64 z.stage)) hge 4 (.bool z.up)
  have Z7 := ((((Z3.far (c := w.heap.size + 2) (o := 1) (by omega) (.string (str z.log))).far (c := w.heap.size + 2) (o := 2) (by omega) (.string (str z.next))).far (c := w.heap.size + 2) (o := 3) (by omega) (.int .i64 z.stage)).far (c := w.heap.size + 2) (o := 4) (by omega) (.bool z.up))
  have hne : ∀ o, (⟨w.heap.size, o, none⟩ : Addr) ≠ ⟨w.heap.size + 2, 0, none⟩ := fun o e => by injection e; omega
  obtain ⟨p0, p1, p2, p3, p4⟩ := P3
  obtain ⟨x1, f1⟩ := A3.c1
  obtain ⟨x2, f2⟩ := A3.c2
  obtain ⟨x3, f3⟩ := A3.c3
  obtain ⟨x4, f4⟩ := A3.c4
  clear A3 Z3 G3
  go_upto_region 7 with (fail)
  change Code.wp _ _ _ _ ((((W3.setCell ⟨w.heap.size + 2, 1, none⟩ (.string (str z.log))).setCell ⟨w.heap.size + 2, 2, none⟩ (.string (str z.next))).setCell ⟨w.heap.size + 2, 3, none⟩ (.int .i64 z.stage)).setCell ⟨w.heap.size + 2, 4, none⟩ (.bool z.up))
  generalize (((W3.setCell ⟨w.heap.size + 2, 1, none⟩ (.string (str z.log))).setCell ⟨w.heap.size + 2, 2, none⟩ (.string (str z.next))).setCell ⟨w.heap.size + 2, 3, none⟩ (.int .i64 z.stage)).setCell ⟨w.heap.size + 2, 4, none⟩ (.bool z.up) = W7 at *
  clear x1 f1 x2 f2 x3 f3 x4 f4 p0 p1 p2 p3 p4
  obtain ⟨k0, k1, k2, k3, k4⟩ := A7.box
  dsimp only at k1 k2 k3 k4
  obtain ⟨⟨z0, y0⟩, ⟨z1, y1⟩, ⟨z2, y2⟩, ⟨z3, y3⟩, ⟨z4, y4⟩⟩ := Z7
  have hR := res5l A7.od (r := w.heap.size + 1) (by omega) (by omega) G7 (.slice va vn vc) (.string (str z.log)) (.string (str z.next)) (.int .i64 z.stage) (.bool z.up)
  go_wp2_with fail
  exact bodyPost_ret (v := .agg #[.slice va vn vc, .string (str z.log), .string (str z.next), .int .i64 z.stage, .bool z.up]) (by simp [results, Tryz.results57, go_sem, z0, z1, z2, z3, z4]) rfl ⟨_, raw2, rfl, hR.1, hR.2⟩
set_option maxHeartbeats 2000000 in
theorem markArray_at (base T : Nat) (v : Value) (z : AZ) (raw : List DV) (k : Int) (w : World) (h : OD w base v z.ds raw) (hT1 : ∀ i (hi : i < raw.length) b, raw[i].has b → b < T) (hT2 : ∀ b, v.ownBlock = some b → b < T) (hs : Small z.ds) (h0 : 0 ≤ k) (h1 : k ≤ 1000) :
    Calls Tryz.prog 61 #[z.val v, .int .i64 k] w fun e w' => ∃ raw', e = .returned (.int .i64 (mkN k z.ds z.ds.length)) ∧ OD w' base v (markDs k z.ds) raw' ∧ Only (fun b => base ≤ b ∧ b < T) w w' := by
  obtain ⟨va, vc, rfl, -⟩ := h.form
  have e0 := galloc (grefl w) (.cells #[.slice va z.ds.length vc, .string (str z.log), .string (str z.next), .int .i64 z.stage, .bool z.up] 26)
  obtain ⟨p0, p1, p2, p3, p4⟩ := Box5.new w (.slice va z.ds.length vc) (.string (str z.log)) (.string (str z.next)) (.int .i64 z.stage) (.bool z.up) 26
  go_enter Tryz.func61, Tryz.ntmps61
  go_upto_region 1 with (fail)
  generalize w.alloc (.cells #[.slice va z.ds.length vc, .string (str z.log), .string (str z.next), .int .i64 z.stage, .bool z.up] 26) = W0 at *
  go_wp2_with fail
  go_fit (markDiskS_at base T _ z.ds raw k _ (h.grew e0) hT1 hT2 hs h0 h1)
  rintro e w1 ⟨raw1, rfl, o1, O1⟩
  clear p0 p1 p2 p3 p4
  go_wp2_with fail
  go_ret
  exact ⟨raw1, rfl, o1, (Only.of e0 (fun _ e => by cases e)).trans O1⟩
set_option maxHeartbeats 2000000 in
theorem heldArray_any (v : Value) (z : AZ) (k : Int) (w : World) (h : LD w v (markDs k z.ds)) (hs : Small z.ds) (h0 : 0 ≤ k) (h1 : k ≤ 1000) :
    Calls Tryz.prog 63 #[z.val v, .int .i64 k] w (Pure (.int .i64 (mkN k z.ds z.ds.length)) w) := by
  obtain ⟨va, vc, rfl, -⟩ := h.form
  have e0 := galloc (grefl w) (.cells #[.slice va (markDs k z.ds).length vc, .string (str z.log), .string (str z.next), .int .i64 z.stage, .bool z.up] 26)
  obtain ⟨p0, p1, p2, p3, p4⟩ := Box5.new w (.slice va (markDs k z.ds).length vc) (.string (str z.log)) (.string (str z.next)) (.int .i64 z.stage) (.bool z.up) 26
  have hnn : ¬ mkN k z.ds z.ds.length < 0 := by have := Small.len hs; unfold Small at hs; unfold mkN; rw [List.take_length]; omega
  go_enter Tryz.func63, Tryz.ntmps63
  go_upto_region 1 with (fail)
  generalize w.alloc (.cells #[.slice va (markDs k z.ds).length vc, .string (str z.log), .string (str z.next), .int .i64 z.stage, .bool z.up] 26) = W0 at *
  go_wp2_with fail
  go_fit (heldDiskS_any _ z.ds k _ (h.kept e0) hs h0 h1)
  rintro e w1 ⟨rfl, g1⟩
  clear p0 p1 p2 p3 p4
  go_wp2_with fail
  go_ret
  exact ⟨rfl, gtrans e0 g1⟩
section
variable {H : Type} {enc : TypeId × Value → H} {w : World} {base : Nat} {held : Bool}
theorem array_of {fuel : Nat} {cs : List Value} {x : DataW H × List MemPlace} (h : DataW.trod enc Tryz.prog w base (fun _ => true) held fuel 64 cs = some x) :
    ∃ (z : AZ) (da : Option Addr) (dn dc : Nat), cs = [.slice da dn dc, .string (str z.log), .string (str z.next), .int .i64 z.stage, .bool z.up] ∧ InArray w da dn z := by
  obtain ⟨xs, n, rfl, _, hlen, hxs, hf⟩ := DataW.trod_struct Tryz.underlying64 h
  have hc : Tryz.prog.cellsOf 64 = 5 := by kernel_rfl
  have hi : Tryz.prog.cellsOf 2 = 1 := by kernel_rfl
  have hb : Tryz.prog.cellsOf 4 = 1 := by kernel_rfl
  have hs : Tryz.prog.cellsOf 62 = 1 := by kernel_rfl
  have ht : Tryz.prog.cellsOf 9 = 1 := by kernel_rfl
  rw [hc] at hlen
  match cs, hlen with
  | [c0, c1, c2, c3, c4], _ =>
    match xs, hxs with
    | [y0, y1, y2, y3, y4], _ =>
      have h0 := hf 0 _ rfl
      have h1 := hf 1 _ rfl
      have h2 := hf 2 _ rfl
      have h3 := hf 3 _ rfl
      have h4 := hf 4 _ rfl
      simp [hi, hb, hs, ht] at h0 h1 h2 h3 h4
      obtain ⟨da, dn, dc, dl, rfl, hd⟩ := openDisksOf h0
      obtain ⟨s1, e1, _, l1⟩ := DataW.trod_string Tryz.underlying9 h1
      obtain ⟨s2, e2, _, l2⟩ := DataW.trod_string Tryz.underlying9 h2
      obtain ⟨u, e3, _, wn⟩ := DataW.trod_int Tryz.underlying2 h3
      obtain ⟨b, e4, _⟩ := DataW.trod_bool Tryz.underlying4 h4
      obtain ⟨t1, rfl⟩ := str_of s1
      obtain ⟨t2, rfl⟩ := str_of s2
      rw [str_size] at l1 l2
      simp at e1 e2 e3 e4
      simp only [Lit.wf, Bool.and_eq_true, decide_eq_true_eq] at wn
      unfold maxLen at l1 l2
      exact ⟨⟨dl, t1, t2, u, b⟩, da, dn, dc, by rw [e1, e2, e3, e4], wn, by dsimp only; omega, by dsimp only; omega, hd⟩
theorem openArray {r : Reach} {b0 : Nat} {v : Value} {d : DataW H} {p : List MemPlace} (hv : Value.okWide Tryz.prog w r b0 64 v) (h : DataW.Trod enc Tryz.prog w base (fun _ => true) held 64 v d p) :
    ∃ (z : AZ) (da : Option Addr) (dn dc : Nat), v = .agg #[.slice da dn dc, .string (str z.log), .string (str z.next), .int .i64 z.stage, .bool z.up] ∧ InArray w da dn z := by
  obtain ⟨cs, rfl, hsz⟩ := okWide_struct Tryz.underlying64 hv
  obtain ⟨fuel, h⟩ := h
  obtain ⟨z, da, dn, dc, h1, h2⟩ := array_of (by simpa [Value.cells] using h)
  exact ⟨z, da, dn, dc, by rw [← h1], h2⟩
end
end Go.Proofs.YteialkknddpbjaaGreatDoor
namespace Go.Proofs.YteialkknddpbjaaGreatDoor
open Go.ChangeShapes Go.WideShapes Go.ChangeAt Go.RowKit

/-- two boxes of five cells -/
abbrev PA (w : World) (b : Nat) (x0 x1 x2 x3 x4 : Value) (c : Nat) (y0 y1 y2 y3 y4 : Value) : Prop := Box5 w b x0 x1 x2 x3 x4 ∧ Box5 w c y0 y1 y2 y3 y4
section
variable {w w' : World} {b c : Nat} {x0 x1 x2 x3 x4 y0 y1 y2 y3 y4 : Value}
theorem PA.kept (h : PA w b x0 x1 x2 x3 x4 c y0 y1 y2 y3 y4) (g : w.grownBy w' none) : PA w' b x0 x1 x2 x3 x4 c y0 y1 y2 y3 y4 := ⟨Box5.kept h.1 g, Box5.kept h.2 g⟩
theorem PA.drew (h : PA w b x0 x1 x2 x3 x4 c y0 y1 y2 y3 y4) : PA w.drew b x0 x1 x2 x3 x4 c y0 y1 y2 y3 y4 := h
end
theorem ok_smallA {a : AZ} (h : a.ok = true) : Small a.ds :=
  small_ok (ds_small (AZ.ok_ds h)).1 fun i hi => disksOk_at (AZ.ok_ds h) i hi
theorem zero_smallA : Small AZ.zero.ds := by simp [AZ.zero, Small, sizeC]
theorem written_step {a : AZ} {p x : Int} (h : a.ok = true) : (a.written p x).ok = true := by
  cases hb : beginOk a p x
  · simp [AZ.written, hb, h]
  · have e : a.written p x = (((((a.begun p x).stepped).stepped).stepped).stepped) := by
      have hf : forOk a.ds p x = true := by simp only [beginOk, Bool.and_eq_true] at hb; exact hb.2.2
      have hE := ents_one (for_ok hf)
      have e0 : a.begun p x = { a with next := frameT (forP a.ds p x).text, stage := 1 } := by simp [AZ.begun, hb]
      have e4 : a.written p x = { a with ds := flushAll (patchZ a.ds (forP a.ds p x)), log := [], next := [], stage := 0 } := by simp [AZ.written, hb]
      rw [e0, e4]
      simp [AZ.stepped, hE]
    rw [e]
    exact AZ.ok_stepped (AZ.ok_stepped (AZ.ok_stepped (AZ.ok_stepped (AZ.ok_begun h p x))))
theorem begunZ_small (a : AZ) (p x : Int) : Small (begunZ a p x).ds := by
  unfold begunZ; split
  · exact ok_smallA (AZ.ok_begun ‹_› p x)
  · exact zero_smallA
theorem steppedZ_small (a : AZ) : Small (steppedZ a).ds := by
  unfold steppedZ; split
  · exact ok_smallA (AZ.ok_stepped ‹_›)
  · exact zero_smallA
theorem writtenZ_small (a : AZ) (p x : Int) : Small (writtenZ a p x).ds := by
  unfold writtenZ; split
  · exact ok_smallA (written_step ‹_›)
  · exact zero_smallA
end Go.Proofs.YteialkknddpbjaaGreatDoor
