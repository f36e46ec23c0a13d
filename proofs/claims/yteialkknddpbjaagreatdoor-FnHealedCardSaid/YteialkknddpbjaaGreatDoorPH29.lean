/- Valid arrays of chapter 9, as plain mathematics: what a write and its steps do keeps them valid. Arrays handed on by value: what a function answers with one, a local variable that holds one. What the specification's ArrayOk, ReadArray, Begun, Stepped and WriteArray return. What the specification's ReadArray, Begun, Stepped and WriteArray return. -/
import Derived.BigQuiet
import Derived.Deep.DeepFit
import Derived.Deep.RegionHeld3
import Derived.Test.YteialkknddpbjaaGreatDoorPH06
import Derived.Test.YteialkknddpbjaaGreatDoorPH09
import Derived.Test.YteialkknddpbjaaGreatDoorPH28
namespace Go.Proofs.YteialkknddpbjaaGreatDoor
open Go.ChangeShapes Go.WideShapes Go.ChangeAt Go.RowKit

/-- a disk may stand for another in its list -/
def Alike (d e : DZ) : Prop := e.n = d.n ∧ e.dead = d.dead ∧ e.m.length = d.m.length ∧ (d.ok = true → e.ok = true)
theorem Alike.refl (d : DZ) : Alike d d := ⟨rfl, rfl, rfl, id⟩
theorem Alike.trans {a b c : DZ} (h : Alike a b) (g : Alike b c) : Alike a c := ⟨g.1.trans h.1, g.2.1.trans h.2.1, g.2.2.1.trans h.2.2.1, fun o => g.2.2.2 (h.2.2.2 o)⟩
def AlikeL (l m : List DZ) : Prop := m.length = l.length ∧ ∀ i (h : i < l.length) (h' : i < m.length), Alike l[i] m[i]
theorem AlikeL.refl (l : List DZ) : AlikeL l l := ⟨rfl, fun _ _ _ => .refl _⟩
theorem AlikeL.trans {a b c : List DZ} (h : AlikeL a b) (g : AlikeL b c) : AlikeL a c := ⟨g.1.trans h.1, fun i p q => (h.2 i p (by have := g.1; omega)).trans (g.2 i (by have := g.1; omega) q)⟩
theorem AlikeL.rows {l m : List DZ} (h : AlikeL l m) : rowsZ m = rowsZ l := by
  induction l generalizing m with
  | nil =>
    match m, h with
    | [], _ => rfl
    | _ :: _, h => exact absurd h.1 (by simp)
  | cons d r ih =>
    match m, h with
    | [], h => exact absurd h.1 (by simp)
    | e :: s, h =>
      have h0 := h.2 0 (by simp) (by simp)
      have ht : AlikeL r s := ⟨by have := h.1; simpa using this, fun i a b => by have := h.2 (i + 1) (by simpa using a) (by simpa using b); simpa using this⟩
      simp only [List.getElem_cons_zero] at h0
      simp only [rowsZ]
      rw [h0.2.1, h0.2.2.1, ih ht]
theorem AlikeL.disksOk {l m : List DZ} (h : AlikeL l m) (hl : disksOkZ l = true) : disksOkZ m = true := by
  have hr := h.rows
  simp only [disksOkZ, Bool.and_eq_true, decide_eq_true_eq, List.all_eq_true, List.mem_range] at hl ⊢
  rw [h.1, hr]
  refine ⟨hl.1, fun i hi => ?_, hl.2.2⟩
  have q := hl.2.1 i hi
  have a := h.2 i hi (by have := h.1; omega)
  rw [getD_at hi] at q
  rw [getD_at (by have := h.1; omega)]
  simp only [DZ.fitsIn, Bool.and_eq_true] at q ⊢
  rw [a.1, a.2.1, a.2.2.1]
  exact ⟨a.2.2.2 q.1, q.2⟩
theorem AlikeL.set (l : List DZ) (i : Nat) (d : DZ) (h : ∀ hi : i < l.length, Alike l[i] d) : AlikeL l (l.set i d) := by
  refine ⟨by simp, fun j a b => ?_⟩
  by_cases e : i = j
  · subst e; simpa using h a
  · rw [List.getElem_set_ne e]; exact .refl _
theorem put_alike (d : DZ) (p v : Int) : Alike d (d.put p v) :=
  ⟨by unfold DZ.put; split <;> rfl, by unfold DZ.put; split <;> rfl, by unfold DZ.put; split <;> simp, DZ.put_ok'⟩
theorem flush_alike (d : DZ) : Alike d (d.withK d.m) := by
  refine ⟨rfl, rfl, rfl, fun h => ?_⟩
  cases hd : d.dead <;> simp [DZ.ok, DZ.withK, hd] at h ⊢ <;> simp [h]
theorem flushAll_alike (l : List DZ) : AlikeL l (flushAll l) := ⟨by simp [flushAll], fun i a b => by simp only [flushAll, List.getElem_map]; exact flush_alike _⟩

/-- the one patch of a text -/
def oneP (s : List UInt8) : PZ := (entsT s).getD 0 .zero
def oneOk (s : List UInt8) : Bool := decide ((entsT s).length = 1) && (frameT (oneP s).text == s)
/-- what an array that is up says of its texts -/
def AZ.textsOk (a : AZ) : Bool := if a.stage = 0 then a.log == [] && a.next == [] else oneOk a.next && (decide ((oneP a.next).row < rowsZ a.ds) && (if a.stage = 1 then a.log == [] else a.log == a.next))
/-- a valid array -/
def AZ.ok (a : AZ) : Bool := disksOkZ a.ds && (decide (a.log.length ≤ 2000) && (decide (a.next.length ≤ 2000) && (inB a.stage 0 4 && (if a.up then a.textsOk else a.next == [] && decide (a.stage = 0)))))
def AZ.zero : AZ := ⟨[], [], [], 0, false⟩
theorem one_ok {s : List UInt8} (h : oneOk s = true) : (oneP s).ok = true := by
  simp only [oneOk, Bool.and_eq_true, decide_eq_true_eq] at h
  unfold oneP
  rw [List.getD_eq_getElem?_getD, List.getElem?_eq_getElem (by omega)]
  exact ents_ok s _ (List.getElem_mem _)
section
variable {a : AZ}
theorem AZ.ok_ds (h : a.ok = true) : disksOkZ a.ds = true := by simp only [AZ.ok, Bool.and_eq_true] at h; exact h.1
theorem AZ.ok_len (h : a.ok = true) : a.log.length ≤ 2000 ∧ a.next.length ≤ 2000 := by simp only [AZ.ok, Bool.and_eq_true, decide_eq_true_eq] at h; exact ⟨h.2.1, h.2.2.1⟩
theorem AZ.ok_mk {b : AZ} (h1 : disksOkZ b.ds = true) (h2 : b.log.length ≤ 2000) (h3 : b.next.length ≤ 2000) (h4 : 0 ≤ b.stage ∧ b.stage ≤ 4) (hu : b.up = true) (ht : b.textsOk = true) : b.ok = true := by
  simp only [AZ.ok, Bool.and_eq_true, decide_eq_true_eq, hu, if_true]
  exact ⟨h1, h2, h3, inB_iff.2 h4, ht⟩
end
end Go.Proofs.YteialkknddpbjaaGreatDoor
namespace Go.Proofs.YteialkknddpbjaaGreatDoor
open Go.ChangeShapes Go.WideShapes Go.ChangeAt Go.RowKit

/-- what a function answers with an array: new memory -/
def GotA (a : AZ) (w : World) (e : Ending) (w' : World) : Prop := ∃ v raw, e = .returned (a.val v) ∧ OD w' w.heap.size v a.ds raw ∧ w.grownBy w' none
def GotAB (a : AZ) (ok : Bool) (w : World) (e : Ending) (w' : World) : Prop := ∃ v raw, e = .returned (.tuple #[a.val v, .bool ok]) ∧ OD w' w.heap.size v a.ds raw ∧ w.grownBy w' none
/-- a box of five cells, read -/
abbrev Box5 (w : World) (b : Nat) (x0 x1 x2 x3 x4 : Value) : Prop := w.cell? ⟨b, 0, none⟩ = some x0 ∧ w.cell? ⟨b, 1, none⟩ = some x1 ∧ w.cell? ⟨b, 2, none⟩ = some x2 ∧ w.cell? ⟨b, 3, none⟩ = some x3 ∧ w.cell? ⟨b, 4, none⟩ = some x4
section
variable {w w' W : World} {b B r : Nat} {x0 x1 x2 x3 x4 : Value} {a : AZ} {v : Value} {raw : List DV}
theorem Box5.new (w : World) (x0 x1 x2 x3 x4 : Value) (T : Nat) : Box5 (w.alloc (.cells #[x0, x1, x2, x3, x4] T)) w.heap.size x0 x1 x2 x3 x4 := by simp [Box5, go_sem]
theorem Box5.kept (h : Box5 w b x0 x1 x2 x3 x4) (g : w.grownBy w' none) : Box5 w' b x0 x1 x2 x3 x4 := ⟨gkc g h.1, gkc g h.2.1, gkc g h.2.2.1, gkc g h.2.2.2.1, gkc g h.2.2.2.2⟩
/-- changes elsewhere -/
theorem cell_only {S : Nat → Prop} (h : Only S w w') {o : Nat} {x : Value} (hb : ¬ S b) (c : w.cell? ⟨b, o, none⟩ = some x) : w'.cell? ⟨b, o, none⟩ = some x := (World.cell?_of_block (w := w) (h.block b (cell_lt c) hb)).trans c
theorem Box5.only {S : Nat → Prop} (h : Box5 w b x0 x1 x2 x3 x4) (o : Only S w w') (hb : ¬ S b) : Box5 w' b x0 x1 x2 x3 x4 := ⟨cell_only o hb h.1, cell_only o hb h.2.1, cell_only o hb h.2.2.1, cell_only o hb h.2.2.2.1, cell_only o hb h.2.2.2.2⟩
theorem Zero5.only {S : Nat → Prop} (h : Zero5 w r) (o : Only S w w') (hb : ¬ S r) : Zero5 w' r := ⟨o.at hb h.c0, o.at hb h.c1, o.at hb h.c2, o.at hb h.c3, o.at hb h.c4⟩
/-- a local variable that holds an array -/
theorem ABox.new (h : OD w B v a.ds raw) (T : Nat) : ABox (w.alloc (.cells #[v, .string (str a.log), .string (str a.next), .int .i64 a.stage, .bool a.up] T)) w.heap.size B a v raw :=
  ⟨by simp [At, go_sem], by simp [At, go_sem], by simp [At, go_sem], by simp [At, go_sem], by simp [At, go_sem], h.grew (galloc (grefl w) _),
    fun e => by have := (h.own.lt _ e).2; omega, fun i hi e => by have := (h.in i hi _ e).2; omega⟩
theorem ABox.box (h : ABox w b B a v raw) : Box5 w b v (.string (str a.log)) (.string (str a.next)) (.int .i64 a.stage) (.bool a.up) := ⟨h.c0.1, h.c1.1, h.c2.1, h.c3.1, h.c4.1⟩
/-- the result variable r takes an array -/
theorem res5 (h : OD W B v a.ds raw) (hr : r < B) (hw : w.heap.size ≤ r) (G : w.grownBy W none) (x0 x1 x2 x3 x4 : Value) : OD (set5 W r x0 x1 x2 x3 x4) w.heap.size v a.ds raw ∧ w.grownBy (set5 W r x0 x1 x2 x3 x4) none := by
  obtain ⟨h1, h2⟩ := h.not_old (r := r) hr
  exact ⟨(h.set5 h1 h2 _ _ _ _ _).lower (by omega), gset5 G hw _ _ _ _ _⟩
theorem res5l {l : List DZ} (h : OD W B v l raw) (hr : r < B) (hw : w.heap.size ≤ r) (G : w.grownBy W none) (x0 x1 x2 x3 x4 : Value) : OD (set5 W r x0 x1 x2 x3 x4) w.heap.size v l raw ∧ w.grownBy (set5 W r x0 x1 x2 x3 x4) none := by
  obtain ⟨h1, h2⟩ := h.not_old (r := r) hr
  exact ⟨(h.set5 h1 h2 _ _ _ _ _).lower (by omega), gset5 G hw _ _ _ _ _⟩
/-- the parameter's box and the result variable, both new -/
theorem two_new (w : World) (x0 x1 x2 x3 x4 : Value) (T : Nat) :
    Box5 ((w.alloc (.cells #[x0, x1, x2, x3, x4] T)).alloc zero5) w.heap.size x0 x1 x2 x3 x4 ∧ Zero5 ((w.alloc (.cells #[x0, x1, x2, x3, x4] T)).alloc zero5) (w.heap.size + 1) ∧
    w.grownBy ((w.alloc (.cells #[x0, x1, x2, x3, x4] T)).alloc zero5) none ∧ ((w.alloc (.cells #[x0, x1, x2, x3, x4] T)).alloc zero5).heap.size = w.heap.size + 2 := by
  have hs : (w.alloc (.cells #[x0, x1, x2, x3, x4] T)).heap.size = w.heap.size + 1 := by simp
  refine ⟨(Box5.new w x0 x1 x2 x3 x4 T).kept (galloc (grefl _) _), ?_, galloc (galloc (grefl w) _) _, by simp⟩
  have := Zero5.new (w.alloc (.cells #[x0, x1, x2, x3, x4] T))
  rw [hs] at this; exact this
end
end Go.Proofs.YteialkknddpbjaaGreatDoor
namespace Go.Proofs.YteialkknddpbjaaGreatDoor
open Go.ChangeShapes Go.WideShapes Go.ChangeAt Go.RowKit
attribute [local go_sem] str_list str_size str_add lit_list0 add_lit lit_add str_cut

/-- a box of five cells, written -/
structure Five (w : World) (b : Nat) (x0 x1 x2 x3 x4 : Value) : Prop where
  c0 : At w b 0 x0
  c1 : At w b 1 x1
  c2 : At w b 2 x2
  c3 : At w b 3 x3
  c4 : At w b 4 x4
section
variable {w w' : World} {b : Nat} {x0 x1 x2 x3 x4 : Value}
theorem Five.new (w : World) (x0 x1 x2 x3 x4 : Value) (T : Nat) : Five (w.alloc (.cells #[x0, x1, x2, x3, x4] T)) w.heap.size x0 x1 x2 x3 x4 := ⟨by simp [At, go_sem], by simp [At, go_sem], by simp [At, go_sem], by simp [At, go_sem], by simp [At, go_sem]⟩
theorem Five.kept (h : Five w b x0 x1 x2 x3 x4) (g : w.grownBy w' none) : Five w' b x0 x1 x2 x3 x4 := ⟨gk g h.c0, gk g h.c1, gk g h.c2, gk g h.c3, gk g h.c4⟩
theorem Five.put0 (h : Five w b x0 x1 x2 x3 x4) (v : Value) : Five (w.setCell ⟨b, 0, none⟩ v) b v x1 x2 x3 x4 := ⟨h.c0.same _, h.c1.other (by simp) _, h.c2.other (by simp) _, h.c3.other (by simp) _, h.c4.other (by simp) _⟩
theorem Zero5.far {c o : Nat} (h : Zero5 w b) (hc : c ≠ b) (u : Value) : Zero5 (w.setCell ⟨c, o, none⟩ u) b :=
  ⟨h.c0.other (by intro e; cases e; exact hc rfl) u, h.c1.other (by intro e; cases e; exact hc rfl) u, h.c2.other (by intro e; cases e; exact hc rfl) u, h.c3.other (by intro e; cases e; exact hc rfl) u, h.c4.other (by intro e; cases e; exact hc rfl) u⟩
theorem two_five (w : World) (x0 x1 x2 x3 x4 : Value) (T : Nat) :
    Five ((w.alloc (.cells #[x0, x1, x2, x3, x4] T)).alloc zero5) w.heap.size x0 x1 x2 x3 x4 ∧ Zero5 ((w.alloc (.cells #[x0, x1, x2, x3, x4] T)).alloc zero5) (w.heap.size + 1) ∧
    w.grownBy ((w.alloc (.cells #[x0, x1, x2, x3, x4] T)).alloc zero5) none ∧ ((w.alloc (.cells #[x0, x1, x2, x3, x4] T)).alloc zero5).heap.size = w.heap.size + 2 := by
  obtain ⟨-, b, c, d⟩ := two_new w x0 x1 x2 x3 x4 T
  exact ⟨(Five.new w x0 x1 x2 x3 x4 T).kept (galloc (grefl _) _), b, c, d⟩
end
set_option maxRecDepth 8000 in
set_option maxHeartbeats 4000000 in
theorem l9Copy_any (v : Value) (a : AZ) (w : World) (h : LD w v a.ds) (hl : a.ds.length ≤ 1000) (hd : ∀ i (h : i < a.ds.length), a.ds[i].k.length ≤ 1000 ∧ a.ds[i].m.length ≤ 1000) :
    Calls Tryz.prog 76 #[a.val v] w (GotA a w) := by
  obtain ⟨ds, log, next, stage, up⟩ := a
  dsimp only at *
  obtain ⟨x, cap, rfl, hm⟩ := h.form
  obtain ⟨B0, Z0, G0, s0⟩ := two_five w (.slice x ds.length cap) (.string (str log)) (.string (str next)) (.int .i64 stage) (.bool up) 26
  go_enter Tryz.func76, Tryz.ntmps76
  go_upto_region 1 with (fail)
  generalize (w.alloc (.cells #[.slice x ds.length cap, .string (str log), .string (str next), .int .i64 stage, .bool up] 26)).alloc zero5 = W0 at *
  obtain ⟨p0, q0⟩ := B0.c0
  go_wp2_with fail
  go_fit (l6Copy_any _ ds _ (h.kept G0) hl hd)
  rintro e w1 ⟨v1, raw1, rfl, o1, g1⟩
  obtain ⟨va, vn, vc, rfl⟩ := o1.own.sl
  have hs1 := g1.size
  obtain ⟨r0, t0⟩ := (B0.kept g1).c0
  have hno := o1.not_old (r := w.heap.size) (by omega)
  have B2 := (B0.kept g1).put0 (.slice va vn vc)
  have Z2 := ((Z0.kept g1 (by simp)).far (c := w.heap.size) (o := 0) (by omega) (.slice va vn vc))
  have O2 := o1.far (o := 0) hno.1 hno.2 (.slice va vn vc)
  have G2 : w.grownBy (w1.setCell ⟨w.heap.size, 0, none⟩ (.slice va vn vc)) none := gset1 (gtrans G0 g1) (Nat.le_refl _) _ _
  have hs2 : (w1.setCell ⟨w.heap.size, 0, none⟩ (.slice va vn vc)).heap.size = w1.heap.size := by simp [World.setCell]
  clear p0 q0 B0 Z0 o1 hno
  go_upto_region 2 with (fail)
  generalize w1.setCell ⟨w.heap.size, 0, none⟩ (.slice va vn vc) = W2 at *
  obtain ⟨⟨b0, -⟩, ⟨b1, -⟩, ⟨b2, -⟩, ⟨b3, -⟩, ⟨b4, -⟩⟩ := B2
  obtain ⟨⟨z0, y0⟩, ⟨z1, y1⟩, ⟨z2, y2⟩, ⟨z3, y3⟩, ⟨z4, y4⟩⟩ := Z2
  clear r0 t0
  have hR := res5l O2 (r := w.heap.size + 1) (by omega) (by omega) G2 (.slice va vn vc) (.string (str log)) (.string (str next)) (.int .i64 stage) (.bool up)
  go_wp2_with fail
  exact bodyPost_ret (v := .agg #[.slice va vn vc, .string (str log), .string (str next), .int .i64 stage, .bool up]) (by simp [results, Tryz.results76, go_sem, z0, z1, z2, z3, z4]) rfl ⟨_, raw1, rfl, hR.1, hR.2⟩
theorem ret_bool2 {a b : Bool} (h : a = b) : Ending.returned (.bool a) = .returned (.bool b) := by rw [h]
/-- what the test of the texts reads: the array, the patch -/
abbrev AoS (w w' : World) (b : Nat) (x0 x1 x2 x3 x4 : Value) (g : Nat) (row : Int) (dv vv : Value) : Prop := Box5 w' b x0 x1 x2 x3 x4 ∧ (w'.cell? ⟨g, 0, none⟩ = some (.int .i64 row) ∧ w'.cell? ⟨g, 1, none⟩ = some dv ∧ w'.cell? ⟨g, 2, none⟩ = some vv) ∧ w.grownBy w' none
theorem AoS.kept {w w' w2 : World} {b : Nat} {x0 x1 x2 x3 x4 : Value} {g : Nat} {row : Int} {dv vv : Value} (h : AoS w w' b x0 x1 x2 x3 x4 g row dv vv) (k : w'.grownBy w2 none) : AoS w w2 b x0 x1 x2 x3 x4 g row dv vv := ⟨Box5.kept h.1 k, ⟨gkc k h.2.1.1, gkc k h.2.1.2.1, gkc k h.2.1.2.2⟩, gtrans h.2.2 k⟩
theorem AoS.drew {w w' : World} {b : Nat} {x0 x1 x2 x3 x4 : Value} {g : Nat} {row : Int} {dv vv : Value} (h : AoS w w' b x0 x1 x2 x3 x4 g row dv vv) : AoS w w'.drew b x0 x1 x2 x3 x4 g row dv vv := h.kept (gdrew (grefl _) 1)
set_option maxRecDepth 8000 in
set_option maxHeartbeats 4000000 in
theorem specArrayOk_any (v : Value) (a : AZ) (w : World) (h : LD w v a.ds) (hlog : a.log.length ≤ 1100000) (hnext : a.next.length ≤ 1100000) :
    Calls Tryz.prog 25 #[a.val v] w (Pure (.bool a.ok) w) := by
  obtain ⟨ds, log, next, stage, up⟩ := a
  dsimp only at *
  obtain ⟨x, cap, rfl, hm⟩ := h.form
  have B0 := Box5.new w (.slice x ds.length cap) (.string (str log)) (.string (str next)) (.int .i64 stage) (.bool up) 26
  have G0 := galloc (grefl w) (.cells #[.slice x ds.length cap, .string (str log), .string (str next), .int .i64 stage, .bool up] 26)
  go_enter Tryz.func25, Tryz.ntmps25
  go_upto_region 1 with (fail)
  generalize w.alloc (.cells #[.slice x ds.length cap, .string (str log), .string (str next), .int .i64 stage, .bool up] 26) = W0 at *
  obtain ⟨p0, p1, p2, p3, p4⟩ := B0
  cases hdk : disksOkZ ds
  · have HE : Hid (AZ.ok ⟨ds, log, next, stage, up⟩ = false) := by show _ = _; simp [AZ.ok, hdk]
    go_wp2_with fail
    go_fit (specDisksOk_any _ ds _ (h.kept G0))
    rintro e w1 ⟨rfl, g1⟩
    rw [hdk]
    go_wp2_with fail
    go_ret
    exact ⟨ret_bool2 HE.out.symm, gtrans G0 g1⟩
  by_cases hlg : (2000 : Int) < log.length
  · have HE : Hid (AZ.ok ⟨ds, log, next, stage, up⟩ = false) := by show _ = _; simp only [AZ.ok, decide_eq_false (show ¬ (log.length ≤ 2000) by omega)]; simp
    go_wp2_with fail
    go_fit (specDisksOk_any _ ds _ (h.kept G0))
    rintro e w1 ⟨rfl, g1⟩
    rw [hdk]
    have c1 := gkc g1 p1
    go_wp2_with fail
    go_ret
    exact ⟨ret_bool2 HE.out.symm, gtrans G0 g1⟩
  by_cases hnx : (2000 : Int) < next.length
  · have HE : Hid (AZ.ok ⟨ds, log, next, stage, up⟩ = false) := by show _ = _; simp only [AZ.ok, decide_eq_false (show ¬ (next.length ≤ 2000) by omega)]; simp
    go_wp2_with fail
    go_fit (specDisksOk_any _ ds _ (h.kept G0))
    rintro e w1 ⟨rfl, g1⟩
    rw [hdk]
    have c1 := gkc g1 p1
    have c2 := gkc g1 p2
    go_wp2_with fail
    go_ret
    exact ⟨ret_bool2 HE.out.symm, gtrans G0 g1⟩
  have hl2 : next.length ≤ 1100000 := hnext
  clear hlog hnext
  cases hst : inB stage 0 4
  · have HE : Hid (AZ.ok ⟨ds, log, next, stage, up⟩ = false) := by show _ = _; simp only [AZ.ok, hst]; simp
    go_wp2_with fail
    go_fit (specDisksOk_any _ ds _ (h.kept G0))
    rintro e w1 ⟨rfl, g1⟩
    rw [hdk]
    have c1 := gkc g1 p1
    have c2 := gkc g1 p2
    have c3 := gkc g1 p3
    go_wp2_with fail
    go_fit (l1In_any _ _ _ _)
    rintro e w' ⟨rfl, rfl⟩
    rw [hst]
    go_wp2_with fail
    go_ret
    exact ⟨ret_bool2 HE.out.symm, gtrans G0 g1⟩
  have HE : Hid (AZ.ok ⟨ds, log, next, stage, up⟩ = if up then AZ.textsOk ⟨ds, log, next, stage, up⟩ else next == [] && decide (stage = 0)) := by
    show _ = _; simp only [AZ.ok, hdk, hst, decide_eq_true (show log.length ≤ 2000 by omega), decide_eq_true (show next.length ≤ 2000 by omega), Bool.true_and]
  go_wp2_with fail
  go_fit (specDisksOk_any _ ds _ (h.kept G0))
  rintro e w1 ⟨rfl, g1⟩
  rw [hdk]
  have c0 := gkc g1 p0
  have c1 := gkc g1 p1
  have c2 := gkc g1 p2
  have c3 := gkc g1 p3
  have c4 := gkc g1 p4
  have G1 := gtrans G0 g1
  clear p0 p1 p2 p3 p4 G0 g1
  go_wp2_with fail
  go_fit (l1In_any _ _ _ _)
  rintro e w' ⟨rfl, rfl⟩
  rw [hst]
  have hsb := inB_iff.1 hst
  clear hst hdk
  cases up
  · cases hn0 : (next == ([] : List UInt8))
    · have HF : Hid (AZ.ok ⟨ds, log, next, stage, false⟩ = false) := by show _ = _; rw [HE.out]; simp [hn0]
      go_wp2_with fail
      go_ret
      exact ⟨ret_bool2 HF.out.symm, G1⟩
    · have HF : Hid (AZ.ok ⟨ds, log, next, stage, false⟩ = (stage == 0)) := by show _ = _; rw [HE.out]; simp [hn0]; rfl
      go_wp2_with fail
      go_ret
      exact ⟨ret_bool2 HF.out.symm, G1⟩
  have HF : Hid (AZ.ok ⟨ds, log, next, stage, true⟩ = AZ.textsOk ⟨ds, log, next, stage, true⟩) := by show _ = _; rw [HE.out]; rfl
  clear HE
  cases hs0 : (stage == 0)
  rotate_left
  · cases hl0 : (log == ([] : List UInt8))
    · have HG : Hid (AZ.ok ⟨ds, log, next, stage, true⟩ = false) := by show _ = _; rw [HF.out]; simp only [beq_iff_eq] at hs0; simp [AZ.textsOk, hs0, hl0]
      go_wp2_with fail
      go_ret
      exact ⟨ret_bool2 HG.out.symm, G1⟩
    · have HG : Hid (AZ.ok ⟨ds, log, next, stage, true⟩ = next.isEmpty) := by show _ = _; rw [HF.out]; simp only [beq_iff_eq] at hs0; simp [AZ.textsOk, hs0, hl0]
      go_wp2_with fail
      go_ret
      exact ⟨ret_bool2 HG.out.symm, G1⟩
  have HG : Hid (AZ.ok ⟨ds, log, next, stage, true⟩ = (oneOk next && (decide ((oneP next).row < rowsZ ds) && (if stage = 1 then log == [] else log == next)))) := by
    show _ = _; rw [HF.out]; rw [beq_eq_false_iff_ne] at hs0; simp only [AZ.textsOk, hs0, if_false]
  clear HF
  have hEnt := fun p (hp : p ∈ entsT next) => ents_ok next p hp
  go_wp2_with fail
  go_fit (specEntries_any next _ hl2)
  rintro e w2 ⟨pv, praw, rfl, P2, g2⟩
  have G2 := gtrans G1 g2
  have B2 : Box5 w2 w.heap.size _ _ _ _ _ := Box5.kept ⟨c0, c1, c2, c3, c4⟩ g2
  have hd2 := h.kept G2
  clear c0 c1 c2 c3 c4 g2 G1
  obtain ⟨pa, pc, rfl, hpm⟩ := P2.form
  cases hone : (((entsT next).length : Int) != 1)
  rotate_left
  · have HH : Hid (AZ.ok ⟨ds, log, next, stage, true⟩ = false) := by show _ = _; rw [HG.out]; simp only [bne_iff_ne] at hone; simp only [oneOk, decide_eq_false (show ¬ (entsT next).length = 1 by omega), Bool.false_and]
    obtain ⟨c0, c1, c2, c3, c4⟩ := B2
    go_wp2_with fail
    go_quiet (fail)
    go_wp2_with fail
    go_ret
    exact ⟨ret_bool2 HH.out.symm, gdrew G2 _⟩
  have hlen1 : (entsT next).length = 1 := by rw [bne_eq_false_iff_eq] at hone; omega
  have hlp : 0 < (entsT next).length := by omega
  have hlpi : (0 : Int) < (entsT next).length := by omega
  have hpok := hEnt _ (List.getElem_mem hlp)
  have hpf := ok_fit hpok
  have HHo : Hid (oneOk next = (frameT (entsT next)[0].text == next) ∧ oneP next = (entsT next)[0]) := by
    have h0 : oneP next = (entsT next)[0] := by simp [oneP, List.getD_eq_getElem?_getD, hlp]
    exact ⟨by simp only [oneOk, hlen1, decide_true, Bool.true_and, h0], h0⟩
  have hpl : 0 < praw.length := by rw [P2.len]; exact hlp
  obtain ⟨pg, rfl, y0, y1, y2⟩ := P2.at 0 hpl hlp
  simp only [Nat.zero_mul, Nat.zero_add] at y0 y1 y2
  have hIs := P2.is 0 hpl hlp
  have hdv := hIs.ds.rd
  have hvv := hIs.vs.rd
  have htl := text_len hpok
  replace htl : (entsT next)[0].text.length ≤ 100000 := by omega
  generalize (entsT next)[0] = P at *
  generalize praw[0].dv = dv at *
  generalize praw[0].vv = vv at *
  have S0 : AoS w2 w2 w.heap.size (.slice x ds.length cap) (.string (str log)) (.string (str next)) (.int .i64 stage) (.bool true) pg P.row dv vv := ⟨B2, ⟨y0, y1, y2⟩, grefl _⟩
  clear hEnt P2 hpok hIs hlen1 y0 y1 y2 B2
  cases ht : (frameT P.text == next)
  · have HH : Hid (AZ.ok ⟨ds, log, next, stage, true⟩ = false) := by show _ = _; rw [HG.out, HHo.out.1, ht]; rfl
    go_wp2_with fail
    refine region_calm (fun w' => AoS w2 w' w.heap.size (.slice x ds.length cap) (.string (str log)) (.string (str next)) (.int .i64 stage) (.bool true) pg P.row dv vv) (by kernel_rfl) (by kernel_rfl) (S0.drew) ?_
    repeat (first
      | (refine calm_skip (by rfl) ?_; simp only [Act.put, List.setIfInBounds_toArray, List.set_cons_zero, List.set_cons_succ])
      | (refine calm_step (by rfl) ?_
         apply Exists.intro
         refine ⟨fun w' hw' => ?_, ?_⟩
         · go_simp
           first | done | exact rfl | (go_at_call 90; refine (l7Show_any P dv vv _ (hdv.kept hw'.2.2) (hvv.kept hw'.2.2) hpf).mono ?_; rintro e w8 ⟨rfl, g8⟩; exact ⟨rfl, hw'.kept g8⟩) | (go_at_call 89; refine (l8Framed_any P.text _ (Nat.le_trans htl (by decide))).mono ?_; rintro e w8 ⟨rfl, g8⟩; exact ⟨rfl, hw'.kept g8⟩) | (go_at_call 81; refine (l6Rows_any _ ds _ (hd2.kept hw'.2.2)).mono ?_; rintro e w8 ⟨rfl, rfl⟩; exact ⟨rfl, hw'⟩)
         simp only [Act.put, List.setIfInBounds_toArray, List.set_cons_zero, List.set_cons_succ]))
    refine calm_nil ?_
    intro w9 hw9
    go_wp2_with fail
    go_ret
    exact ⟨ret_bool2 HH.out.symm, gtrans G2 hw9.2.2⟩
  have HH : Hid (AZ.ok ⟨ds, log, next, stage, true⟩ = (decide (P.row < rowsZ ds) && (if stage = 1 then log == [] else log == next))) := by
    show _ = _; rw [HG.out, HHo.out.1, HHo.out.2, ht]; rfl
  by_cases hrow : (rowsZ ds : Int) ≤ P.row
  · have HI : Hid (AZ.ok ⟨ds, log, next, stage, true⟩ = false) := by show _ = _; rw [HH.out, decide_eq_false (by omega)]; rfl
    go_wp2_with fail
    refine region_calm (fun w' => AoS w2 w' w.heap.size (.slice x ds.length cap) (.string (str log)) (.string (str next)) (.int .i64 stage) (.bool true) pg P.row dv vv) (by kernel_rfl) (by kernel_rfl) (S0.drew) ?_
    repeat (first
      | (refine calm_skip (by rfl) ?_; simp only [Act.put, List.setIfInBounds_toArray, List.set_cons_zero, List.set_cons_succ])
      | (refine calm_step (by rfl) ?_
         apply Exists.intro
         refine ⟨fun w' hw' => ?_, ?_⟩
         · go_simp
           first | done | exact rfl | (go_at_call 90; refine (l7Show_any P dv vv _ (hdv.kept hw'.2.2) (hvv.kept hw'.2.2) hpf).mono ?_; rintro e w8 ⟨rfl, g8⟩; exact ⟨rfl, hw'.kept g8⟩) | (go_at_call 89; refine (l8Framed_any P.text _ (Nat.le_trans htl (by decide))).mono ?_; rintro e w8 ⟨rfl, g8⟩; exact ⟨rfl, hw'.kept g8⟩) | (go_at_call 81; refine (l6Rows_any _ ds _ (hd2.kept hw'.2.2)).mono ?_; rintro e w8 ⟨rfl, rfl⟩; exact ⟨rfl, hw'⟩)
         simp only [Act.put, List.setIfInBounds_toArray, List.set_cons_zero, List.set_cons_succ]))
    refine calm_nil ?_
    intro w9 hw9
    go_wp2_with fail
    go_ret
    exact ⟨ret_bool2 HI.out.symm, gtrans G2 hw9.2.2⟩
  have HI : Hid (AZ.ok ⟨ds, log, next, stage, true⟩ = if stage = 1 then log == [] else log == next) := by show _ = _; rw [HH.out, decide_eq_true (by omega)]; rfl
  clear HG HH HHo
  go_wp2_with fail
  refine region_calm (fun w' => AoS w2 w' w.heap.size (.slice x ds.length cap) (.string (str log)) (.string (str next)) (.int .i64 stage) (.bool true) pg P.row dv vv) (by kernel_rfl) (by kernel_rfl) (S0.drew) ?_
  repeat (first
    | (refine calm_skip (by rfl) ?_; simp only [Act.put, List.setIfInBounds_toArray, List.set_cons_zero, List.set_cons_succ])
    | (refine calm_step (by rfl) ?_
       apply Exists.intro
       refine ⟨fun w' hw' => ?_, ?_⟩
       · go_simp
         first | done | exact rfl | (go_at_call 90; refine (l7Show_any P dv vv _ (hdv.kept hw'.2.2) (hvv.kept hw'.2.2) hpf).mono ?_; rintro e w8 ⟨rfl, g8⟩; exact ⟨rfl, hw'.kept g8⟩) | (go_at_call 89; refine (l8Framed_any P.text _ (Nat.le_trans htl (by decide))).mono ?_; rintro e w8 ⟨rfl, g8⟩; exact ⟨rfl, hw'.kept g8⟩) | (go_at_call 81; refine (l6Rows_any _ ds _ (hd2.kept hw'.2.2)).mono ?_; rintro e w8 ⟨rfl, rfl⟩; exact ⟨rfl, hw'⟩)
       simp only [Act.put, List.setIfInBounds_toArray, List.set_cons_zero, List.set_cons_succ]))
  refine calm_nil ?_
  intro w9 hw9
  obtain ⟨⟨c0, c1, c2, c3, c4⟩, -, g9⟩ := hw9
  have G9 := gtrans G2 g9
  clear S0 hd2 hdv hvv G2 g9
  cases h1 : (stage == 1)
  · have HJ : Hid (AZ.ok ⟨ds, log, next, stage, true⟩ = (log == next)) := by show _ = _; rw [HI.out, if_neg (by simpa using h1)]
    have hgt : (1 : Int) < stage := by simp only [beq_eq_false_iff_ne] at hs0 h1; omega
    go_wp2_with fail
    go_ret
    exact ⟨ret_bool2 HJ.out.symm, G9⟩
  · have HJ : Hid (AZ.ok ⟨ds, log, next, stage, true⟩ = (log == [])) := by show _ = _; rw [HI.out, if_pos (by simpa using h1)]
    have hng : ¬ (1 : Int) < stage := by simp only [beq_iff_eq] at h1; omega
    cases hl0 : (log == ([] : List UInt8))
    · have HK : Hid (AZ.ok ⟨ds, log, next, stage, true⟩ = false) := by show _ = _; rw [HJ.out, hl0]
      go_wp2_with fail
      go_ret
      exact ⟨ret_bool2 HK.out.symm, G9⟩
    · have HK : Hid (AZ.ok ⟨ds, log, next, stage, true⟩ = true) := by show _ = _; rw [HJ.out, hl0]
      go_wp2_with fail
      go_ret
      exact ⟨ret_bool2 HK.out.symm, G9⟩
end Go.Proofs.YteialkknddpbjaaGreatDoor
namespace Go.Proofs.YteialkknddpbjaaGreatDoor
open Go.ChangeShapes Go.WideShapes Go.ChangeAt Go.RowKit
attribute [local go_sem] str_list str_size str_add lit_list0 add_lit lit_add str_cut

theorem ds_small {l : List DZ} (h : disksOkZ l = true) : l.length ≤ 5 ∧ ∀ i (h : i < l.length), l[i].k.length ≤ 16 ∧ l[i].m.length ≤ 16 := by
  have := inB_iff.1 (show inB l.length 3 5 = true by simp only [disksOkZ, Bool.and_eq_true] at h; exact h.1)
  exact ⟨by omega, fun i hi => by have := l[i].ok_len (disksOk_at h i hi); omega⟩
theorem ab_lo {w1 : Nat} {b B : Nat} (h1 : w1 ≤ b) (h2 : w1 ≤ B) (k : Nat) (h : AB b B k) : w1 ≤ k := by rcases h with h | h <;> omega
/-- what the reading of an array reads: the array -/
abbrev BxA (w w' : World) (b : Nat) (x0 x1 x2 x3 x4 : Value) : Prop := Box5 w' b x0 x1 x2 x3 x4 ∧ w.grownBy w' none
theorem BxA.kept {w w' w2 : World} {b : Nat} {x0 x1 x2 x3 x4 : Value} (h : BxA w w' b x0 x1 x2 x3 x4) (k : w'.grownBy w2 none) : BxA w w2 b x0 x1 x2 x3 x4 := ⟨Box5.kept h.1 k, gtrans h.2 k⟩
theorem BxA.drew {w w' : World} {b : Nat} {x0 x1 x2 x3 x4 : Value} (h : BxA w w' b x0 x1 x2 x3 x4) : BxA w w'.drew b x0 x1 x2 x3 x4 := h.kept (gdrew (grefl _) 1)
theorem tell_zero {l : List DZ} {d r : Int} (h : tellOk l d r = false) : tellV l d r = 0 := by
  simp only [tellOk, Bool.or_eq_false_iff] at h
  unfold tellV
  rw [if_neg (by rw [h.1]; simp), if_neg (by rw [h.2]; simp)]
theorem cellAt_in {l : List DZ} {d r : Int} (hh : hasZ l r = true) (hd : 0 ≤ d ∧ d < l.length) : cellAtOk l d r = tellOk l d r ∧ cellAtV l d r = tellV l d r := by
  have e : cellAtOk l d r = tellOk l d r := by simp only [cellAtOk, hh, decide_eq_true hd, Bool.true_and]
  refine ⟨e, ?_⟩
  unfold cellAtV
  rw [e]
  cases ht : tellOk l d r
  · rw [tell_zero ht]; rfl
  · rfl
end Go.Proofs.YteialkknddpbjaaGreatDoor
