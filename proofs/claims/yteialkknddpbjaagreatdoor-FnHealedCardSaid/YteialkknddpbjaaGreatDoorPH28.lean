/- Arrays of chapter 9: as plain mathematics, and in memory. What the specification's l9Begin does. What the specification's l9Step does. What the specification's l9Write does. What the specification's NewArray returns. -/
import Derived.Test.YteialkknddpbjaaGreatDoorPH20
import Derived.Test.YteialkknddpbjaaGreatDoorPH27
namespace Go.Proofs.YteialkknddpbjaaGreatDoor
open Go.ChangeShapes Go.WideShapes Go.ChangeAt Go.RowKit

/-- an array -/
structure AZ where
  ds : List DZ
  log : List UInt8
  next : List UInt8
  stage : Int
  up : Bool
/-- what lies in block b is the array a; its disks own their memory in blocks from B on, none of them b -/
structure ABox (w : World) (b B : Nat) (a : AZ) (v : Value) (raw : List DV) : Prop where
  c0 : At w b 0 v
  c1 : At w b 1 (.string (str a.log))
  c2 : At w b 2 (.string (str a.next))
  c3 : At w b 3 (.int .i64 a.stage)
  c4 : At w b 4 (.bool a.up)
  od : OD w B v a.ds raw
  vb : v.ownBlock ≠ some b
  rb : ∀ i (h : i < raw.length), ¬ raw[i].has b
/-- what an array's functions may change -/
def AB (b B : Nat) (k : Nat) : Prop := k = b ∨ B ≤ k
section
variable {w w' : World} {b B : Nat} {a : AZ} {v : Value} {raw : List DV}
theorem ABox.lt (h : ABox w b B a v raw) : b < w.heap.size := cell_lt h.c0.1
theorem ABox.kept (h : ABox w b B a v raw) (g : w.grownBy w' none) : ABox w' b B a v raw := ⟨gk g h.c0, gk g h.c1, gk g h.c2, gk g h.c3, gk g h.c4, h.od.grew g, h.vb, h.rb⟩
theorem OD.far {c o : Nat} {l : List DZ} (h : OD w B v l raw) (hv : v.ownBlock ≠ some c) (hr : ∀ i (h : i < raw.length), ¬ raw[i].has c) (u : Value) : OD (w.setCell ⟨c, o, none⟩ u) B v l raw :=
  ⟨Own.other h.own hv u, h.len, fun i a b => ⟨(h.is i a b).n, (h.is i a b).dead, Own.other (h.is i a b).isD.1 (fun e => hr i a (.inl e)) u, Own.other (h.is i a b).isD.2 (fun e => hr i a (.inr e)) u⟩, h.self, h.ap, h.out⟩
theorem ABox.setLog (h : ABox w b B a v raw) (x : List UInt8) : ABox (w.setCell ⟨b, 1, none⟩ (.string (str x))) b B { a with log := x } v raw :=
  ⟨h.c0.other (by simp) _, h.c1.same _, h.c2.other (by simp) _, h.c3.other (by simp) _, h.c4.other (by simp) _, h.od.far h.vb h.rb _, h.vb, h.rb⟩
theorem ABox.setNext (h : ABox w b B a v raw) (x : List UInt8) : ABox (w.setCell ⟨b, 2, none⟩ (.string (str x))) b B { a with next := x } v raw :=
  ⟨h.c0.other (by simp) _, h.c1.other (by simp) _, h.c2.same _, h.c3.other (by simp) _, h.c4.other (by simp) _, h.od.far h.vb h.rb _, h.vb, h.rb⟩
theorem ABox.setStage (h : ABox w b B a v raw) (x : Int) : ABox (w.setCell ⟨b, 3, none⟩ (.int .i64 x)) b B { a with stage := x } v raw :=
  ⟨h.c0.other (by simp) _, h.c1.other (by simp) _, h.c2.other (by simp) _, h.c3.same _, h.c4.other (by simp) _, h.od.far h.vb h.rb _, h.vb, h.rb⟩
theorem ABox.setUp (h : ABox w b B a v raw) (x : Bool) : ABox (w.setCell ⟨b, 4, none⟩ (.bool x)) b B { a with up := x } v raw :=
  ⟨h.c0.other (by simp) _, h.c1.other (by simp) _, h.c2.other (by simp) _, h.c3.other (by simp) _, h.c4.same _, h.od.far h.vb h.rb _, h.vb, h.rb⟩
theorem only_set (w : World) (b B o : Nat) (u : Value) : Only (AB b B) w (w.setCell ⟨b, o, none⟩ u) := Only.of (gset (World.grownBy.refl w (some b)) o u) (fun _ e => by cases e; exact .inl rfl)
theorem only_grew (h : w.grownBy w' none) : Only (AB b B) w w' := Only.of h (fun _ e => by cases e)
/-- the disks are changed in their own memory -/
theorem ABox.disks (h : ABox w b B a v raw) {l : List DZ} (o : Only (NowB raw) w w') (hd : OD w' B v l raw) : ABox w' b B { a with ds := l } v raw := by
  have hb : ¬ NowB raw b := fun ⟨i, hi, e⟩ => h.rb i hi (.inr e)
  exact ⟨o.at hb h.c0, o.at hb h.c1, o.at hb h.c2, o.at hb h.c3, o.at hb h.c4, hd, h.vb, h.rb⟩
theorem now_ab (h : ABox w b B a v raw) (k : Nat) (hk : NowB raw k) : AB b B k := by
  obtain ⟨i, hi, e⟩ := hk
  exact .inr (h.od.in i hi k (.inr e)).1
end
/-- the filter of a range, by its numbers -/
theorem two_of {F : List Nat} {x y : Nat} (hs : F.Pairwise (· < ·)) (hm : ∀ i ∈ F, i = x ∨ i = y) : F = [] ∨ (∃ a, F = [a]) ∨ (∃ a b, F = [a, b] ∧ a < b) := by
  match F, hs, hm with
  | [], _, _ => exact .inl rfl
  | [a], _, _ => exact .inr (.inl ⟨a, rfl⟩)
  | [a, b], hs, _ => exact .inr (.inr ⟨a, b, rfl, by simp at hs; exact hs⟩)
  | a :: b :: c :: r, hs, hm =>
    simp at hs
    have h1 := hm a (by simp)
    have h2 := hm b (by simp)
    have h3 := hm c (by simp)
    omega
theorem range_sorted (n : Nat) : (List.range n).Pairwise (· < ·) := List.pairwise_lt_range
theorem okv_of {x : Int} (h : 0 ≤ x ∧ x ≤ 32767) : okv x = true := okv_iff.2 h
theorem rowZ_b (n p : Int) (h : 0 ≤ rowZ n p) : inB n 3 5 = true ∧ rowZ n p ≤ 15 := by
  unfold rowZ at h ⊢
  split at h
  · rename_i hh
    rw [if_pos hh]
    refine ⟨hh.1, ?_⟩
    have h2 := inB_iff.1 hh.2
    rcases three hh.1 with rfl | rfl | rfl <;> omega
  · omega
theorem for_ok {l : List DZ} {p v : Int} (h : forOk l p v = true) : (forP l p v).ok = true := by
  have hA : forAll l p v = true := by simp only [forOk, Bool.and_eq_true] at h; exact h.1
  obtain ⟨h1, h2⟩ := for_yes hA
  rw [h2, decide_eq_true_eq] at h
  have hH : forHas l p v = true := by simp only [forAll, Bool.and_eq_true] at hA; exact hA.1
  simp only [forHas, Bool.and_eq_true, decide_eq_true_eq] at hH
  obtain ⟨⟨r0, r1⟩, hv⟩ := hH
  obtain ⟨hn, hr15⟩ := rowZ_b _ _ r0
  have hn' := inB_iff.1 hn
  have hvb := okv_iff.1 hv
  have hsb := sumK_b l (forD l p) (forE l p) (forRow l p) v hvb l.length
  rw [h1]
  generalize forD l p = d at *
  generalize forE l p = ex at *
  have hs := sumK_b l d ex (forRow l p) v hvb l.length
  have hfs : okv (forSum l p v) = true := by unfold forSum; exact okv_of (sumK_b _ _ _ _ _ hvb _)
  generalize forSum l p v = s at *
  unfold dsF at h ⊢
  unfold vsF
  have hF := two_of (x := d.toNat) (y := ex.toNat) (F := (List.range l.length).filter (pickI l d ex)) (List.Pairwise.filter _ (range_sorted _)) (fun i hi => by
    have := (List.mem_filter.1 hi).2
    simp only [pickI, Bool.and_eq_true, Bool.or_eq_true, beq_iff_eq] at this
    omega)
  have hlt : ∀ i ∈ (List.range l.length).filter (pickI l d ex), i < l.length := fun i hi => by simpa using (List.mem_filter.1 hi).1
  have hval : ∀ i : Nat, okv (if ((i : Int) == d) = true then v else s) = true := fun i => by split <;> assumption
  generalize (List.range l.length).filter (pickI l d ex) = F at *
  have hrow : inB (forRow l p) 0 15 = true := inB_iff.2 ⟨r0, hr15⟩
  rcases hF with rfl | ⟨i, rfl⟩ | ⟨i, j, rfl, hij⟩
  · simp at h
  · have := hlt i (by simp)
    simp only [PZ.ok, hrow, List.map_cons, List.map_nil, plists, pcell, hval, Bool.and_true, Bool.true_and]
    exact inB_iff.2 (by omega)
  · have := hlt i (by simp)
    have := hlt j (by simp)
    simp only [PZ.ok, hrow, List.map_cons, List.map_nil, plists, pcell, hval, Bool.and_true, Bool.true_and]
    rw [show inB (i : Int) 0 4 = true from inB_iff.2 (by omega), show inB (j : Int) 0 4 = true from inB_iff.2 (by omega), decide_eq_true (by omega)]
    rfl
end Go.Proofs.YteialkknddpbjaaGreatDoor
namespace Go.Proofs.YteialkknddpbjaaGreatDoor
open Go.ChangeShapes Go.WideShapes Go.ChangeAt Go.RowKit
attribute [local go_sem] str_list str_size str_add lit_list0 add_lit lit_add str_cut

def beginOk (a : AZ) (p x : Int) : Bool := a.up && (a.stage == 0 && forOk a.ds p x)
def AZ.begun (a : AZ) (p x : Int) : AZ := if beginOk a p x then { a with next := frameT (forP a.ds p x).text, stage := 1 } else a
/-- what a function leaves of an array -/
def ADid (b B : Nat) (ok : Bool) (a : AZ) (w : World) (e : Ending) (w' : World) : Prop := e = .returned (.bool ok) ∧ (∃ v raw, ABox w' b B a v raw) ∧ Only (AB b B) w w'
theorem text_len {p : PZ} (h : p.ok = true) : p.text.length ≤ 100 := by
  have := text_plain h
  simp only [plainT, Bool.and_eq_true, decide_eq_true_eq] at this
  exact this.2
set_option maxRecDepth 8000 in
set_option maxHeartbeats 2000000 in
theorem l9Begin_any (b B : Nat) (a : AZ) (v : Value) (raw : List DV) (p x : Int) (w : World) (h : ABox w b B a v raw) (hl : a.ds.length ≤ 1000) :
    Calls Tryz.prog 166 #[.pointer (some ⟨b, 0, none⟩), .int .i64 p, .int .i64 x] w fun e w' => e = .returned (.bool (beginOk a p x)) ∧ ABox w' b B (a.begun p x) v raw ∧ Only (AB b B) w w' := by
  obtain ⟨c0, f0⟩ := h.c0
  obtain ⟨c3, f3⟩ := h.c3
  obtain ⟨c4, f4⟩ := h.c4
  obtain ⟨va, vc, rfl, -⟩ := h.od.form
  cases hu : a.up
  · rw [hu] at c4
    have HB : Hid (beginOk a p x = false) := by show _ = _; simp [beginOk, hu]
    have HA : Hid (a.begun p x = a) := by show _ = _; simp [AZ.begun, HB.out]
    go_enter Tryz.func166, Tryz.ntmps166
    go_wp2_with fail
    go_ret
    exact ⟨ret_bool HB.out.symm, by rw [HA.out]; exact h, Only.refl _ _⟩
  rw [hu] at c4
  by_cases hst : a.stage = 0
  rotate_left
  · have hst' : (a.stage != 0) = true := bne_iff_ne.2 hst
    have HB : Hid (beginOk a p x = false) := by show _ = _; simp [beginOk, hst]
    have HA : Hid (a.begun p x = a) := by show _ = _; simp [AZ.begun, HB.out]
    clear hst
    go_enter Tryz.func166, Tryz.ntmps166
    go_wp2_with fail
    go_ret
    exact ⟨ret_bool HB.out.symm, by rw [HA.out]; exact h, Only.refl _ _⟩
  have hst' : (a.stage != 0) = false := by simp [hst]
  have HB : Hid (beginOk a p x = forOk a.ds p x) := by show _ = _; simp [beginOk, hst, hu]
  have HW : Hid (forOk a.ds p x = true → a.begun p x = { a with next := frameT (forP a.ds p x).text, stage := 1 }) := fun e => by simp [AZ.begun, HB.out, e]
  have HV : Hid (forOk a.ds p x = false → a.begun p x = a) := fun e => by simp [AZ.begun, HB.out, e]
  have HOk : Hid (forOk a.ds p x = true → (forP a.ds p x).ok = true) := fun e => for_ok e
  clear hst hu
  go_enter Tryz.func166, Tryz.ntmps166
  go_wp2_with fail
  go_fit (l7For_any _ a.ds p x _ h.od.ld hl)
  rintro e w2 ⟨dv, vv, rfl, id, iv, ap, g2⟩
  obtain ⟨da, dm, dc, rfl⟩ := id.sl
  obtain ⟨ea, em, ec, rfl⟩ := iv.sl
  have h2 := h.kept g2
  have e3 := galloc (grefl w2) (.cells #[.int .i64 (forP a.ds p x).row, .slice da dm dc, .slice ea em ec] 97)
  have h3 := h2.kept e3
  have B3 := Box3.new w2 (.int .i64 (forP a.ds p x).row) (.slice da dm dc) (.slice ea em ec) 97
  have id3 := Own.grew id e3
  have iv3 := Own.grew iv e3
  have G3 := gtrans g2 e3
  have hbne : b ≠ w2.heap.size := by have := h2.lt; omega
  go_upto_region 4 with (fail)
  generalize w2.alloc (.cells #[.int .i64 (forP a.ds p x).row, .slice da dm dc, .slice ea em ec] 97) = W3 at *
  generalize w2.heap.size = pb at *
  obtain ⟨b0, b1, b2⟩ := B3
  cases hok : forOk a.ds p x
  · go_wp2_with fail
    go_ret
    exact ⟨ret_bool (by rw [HB.out, hok]), by rw [HV.out hok]; exact h3, only_grew G3⟩
  have hpok := HOk.out hok
  have htl := text_len hpok
  clear h h2 c0 f0 c3 f3 c4 f4 id iv
  go_wp2_with fail
  go_fit (l7Show_any (forP a.ds p x) _ _ _ id3.rd iv3.rd (ok_fit hpok))
  rintro e w4 ⟨rfl, g4⟩
  go_wp2_with fail
  go_fit (l8Framed_any (forP a.ds p x).text _ (by omega))
  rintro e w5 ⟨rfl, g5⟩
  have h5 := h3.kept (gtrans g4 g5)
  obtain ⟨c2, f2⟩ := h5.c2
  obtain ⟨c3, f3⟩ := h5.c3
  go_wp2_with fail
  go_ret
  exact ⟨ret_bool (by rw [HB.out, hok]), by rw [HW.out hok]; exact (h5.setNext _).setStage 1, (only_grew (gtrans G3 (gtrans g4 g5))).trans ((only_set _ _ _ _ _).trans (only_set _ _ _ _ _))⟩
end Go.Proofs.YteialkknddpbjaaGreatDoor
namespace Go.Proofs.YteialkknddpbjaaGreatDoor
open Go.ChangeShapes Go.WideShapes Go.ChangeAt Go.RowKit
attribute [local go_sem] str_list str_size str_add lit_list0 add_lit lit_add str_cut

def flushAll (l : List DZ) : List DZ := l.map fun d => d.withK d.m
def flushK (l : List DZ) (k : Nat) : List DZ := flushAll (l.take k) ++ l.drop k
theorem flushK_length (l : List DZ) (k : Nat) (h : k ≤ l.length) : (flushK l k).length = l.length := by simp [flushK, flushAll]; omega
theorem flushK_get (l : List DZ) (k : Nat) (h : k < l.length) : (flushK l k)[k]'(by rw [flushK_length l k (by omega)]; exact h) = l[k] := by
  simp only [flushK]
  rw [List.getElem_append_right (by simp [flushAll]; omega)]
  simp [flushAll, Nat.min_eq_left (Nat.le_of_lt h)]
theorem flushK_set (l : List DZ) (k : Nat) (h : k < l.length) : (flushK l k).set k (l[k].withK l[k].m) = flushK l (k + 1) := by
  have hl : (flushAll (l.take k)).length = k := by simp [flushAll]; omega
  unfold flushK
  rw [List.set_append_right _ _ (by omega), hl, Nat.sub_self, List.drop_eq_getElem_cons h, List.set_cons_zero, List.take_succ_eq_append_getElem h]
  unfold flushAll
  rw [List.map_append, List.append_assoc]
  rfl
def stepOk (a : AZ) : Bool := inB a.stage 1 4
def AZ.stepped (a : AZ) : AZ :=
  if a.stage = 1 then { a with log := a.next, stage := 2 }
  else if a.stage = 2 then { a with ds := patchZ a.ds ((entsT a.next).getD 0 .zero), stage := 3 }
  else if a.stage = 3 then { a with ds := flushAll a.ds, stage := 4 }
  else if a.stage = 4 then { a with log := [], next := [], stage := 0 }
  else a
theorem OP.at {w : World} {base : Nat} {a : Option Addr} {n cap : Nat} {l : List PZ} {raw : List PV} (h : OP w base (.slice a n cap) l raw) (i : Nat) (hi : i < raw.length) (hi' : i < l.length) :
    ∃ g, a = some ⟨g, 0, none⟩ ∧ w.cell? ⟨g, i * 3, none⟩ = some (.int .i64 l[i].row) ∧ w.cell? ⟨g, i * 3 + 1, none⟩ = some raw[i].dv ∧ w.cell? ⟨g, i * 3 + 2, none⟩ = some raw[i].vv := by
  obtain ⟨g, h1, h2, h3, h4⟩ := Own.at h.own i hi
  have hr := h.is i hi hi'
  exact ⟨g, h1, by rw [← hr.row]; exact (h4 0 _ rfl).1, (h4 1 _ rfl).1, (h4 2 _ rfl).1⟩
/-- what the step reads of the array -/
abbrev StS (w' : World) (b : Nat) (x0 x2 : Value) : Prop := w'.cell? ⟨b, 0, none⟩ = some x0 ∧ w'.cell? ⟨b, 2, none⟩ = some x2
theorem StS.drew {w' : World} {b : Nat} {x0 x2 : Value} (h : StS w' b x0 x2) : StS w'.drew b x0 x2 := h
theorem StS.kept {w' w2 : World} {b : Nat} {x0 x2 : Value} (h : StS w' b x0 x2) (g : w'.grownBy w2 none) : StS w2 b x0 x2 := ⟨gkc g h.1, gkc g h.2⟩
set_option maxRecDepth 8000 in
set_option maxHeartbeats 4000000 in
theorem l9Step_any (b B : Nat) (a : AZ) (v : Value) (raw : List DV) (w : World) (h : ABox w b B a v raw) (hB : B ≤ w.heap.size) (hl : a.ds.length ≤ 1000) (hm : ∀ i (h : i < a.ds.length), a.ds[i].m.length ≤ 1000)
    (hn : a.next.length ≤ 100000) (he : a.stage = 2 → entsT a.next ≠ []) :
    Calls Tryz.prog 167 #[.pointer (some ⟨b, 0, none⟩)] w (ADid b B (stepOk a) a.stepped w) := by
  obtain ⟨c0, f0⟩ := h.c0
  obtain ⟨c1, f1⟩ := h.c1
  obtain ⟨c2, f2⟩ := h.c2
  obtain ⟨c3, f3⟩ := h.c3
  obtain ⟨va, vc, rfl, -⟩ := h.od.form
  by_cases s1 : a.stage = 1
  · have HA : Hid (a.stepped = { a with log := a.next, stage := 2 }) := by show _ = _; simp [AZ.stepped, s1]
    have HO : Hid (stepOk a = true) := by show _ = _; simp [stepOk, s1, inB]
    rw [s1] at c3
    clear s1 he
    have h1 := (h.setLog a.next).setStage 2
    go_enter Tryz.func167, Tryz.ntmps167
    go_wp2_with fail
    go_ret
    exact ⟨ret_bool HO.out.symm, ⟨_, _, by rw [HA.out]; exact h1⟩, (only_set _ _ _ _ _).trans (only_set _ _ _ _ _)⟩
  by_cases s4 : a.stage = 4
  · have HA : Hid (a.stepped = { a with log := [], next := [], stage := 0 }) := by show _ = _; simp [AZ.stepped, s4]
    have HO : Hid (stepOk a = true) := by show _ = _; simp [stepOk, s4, inB]
    rw [s4] at c3
    clear s1 s4 he
    have h1 := ((h.setLog []).setNext []).setStage 0
    go_enter Tryz.func167, Tryz.ntmps167
    go_wp2_with fail
    go_ret
    exact ⟨ret_bool HO.out.symm, ⟨_, _, by rw [HA.out]; exact h1⟩, (only_set _ _ _ _ _).trans ((only_set _ _ _ _ _).trans (only_set _ _ _ _ _))⟩
  by_cases s2 : a.stage = 2
  · have HA : Hid (a.stepped = { a with ds := patchZ a.ds ((entsT a.next).getD 0 .zero), stage := 3 }) := by show _ = _; simp [AZ.stepped, s2]
    have HO : Hid (stepOk a = true) := by show _ = _; simp [stepOk, s2, inB]
    have hne := he s2
    have hlp : 0 < (entsT a.next).length := List.length_pos_iff.2 hne
    have hlpi : (0 : Int) < (entsT a.next).length := by omega
    have h0 : (entsT a.next).getD 0 .zero = (entsT a.next)[0] := by simp [List.getD_eq_getElem?_getD, hlp]
    rw [h0] at HA
    have hpok := ents_ok a.next (entsT a.next)[0] (List.getElem_mem hlp)
    have hpf := ok_fit hpok
    have hbN : ¬ NowB raw b := fun ⟨i, hi, e⟩ => h.rb i hi (.inr e)
    have hbl := h.lt
    rw [s2] at c3
    have HD := Lib.hid h
    have HN0 : Hid (∀ k, NowB raw k → k < w.heap.size) := fun k ⟨i, hi, e⟩ => (h.od.in i hi k (.inr e)).2
    have HP0 : Hid (∀ i (h : i < (entsT a.next)[0].ds.length), 0 ≤ (entsT a.next)[0].ds[i]) := fun i hi => (hpf.2.2.2.1 i hi).1
    have HPl := Lib.hid hpf.2.1
    generalize hE : (entsT a.next)[0] = P at *
    clear s1 s2 s4 he hne h0 c1 f0 f1 f2 hpok hpf
    go_enter Tryz.func167, Tryz.ntmps167
    go_wp2_with fail
    go_region_with (first | (go_at_call 88; go_fit (specEntries_any a.next _ (Nat.le_trans hn (by omega))); rintro e w8 ⟨pv, praw, rfl, P8, g8⟩; have g8' : w.grownBy w8 none := gtrans (gdrew (grefl w) 1) g8; obtain ⟨pa, pc, rfl, -⟩ := P8.form; obtain ⟨pg, rfl, y0, y1, y2⟩ := P8.at 0 (by rw [P8.len]; exact hlp) hlp; simp only [Nat.zero_mul, Nat.zero_add] at y0 y1 y2; rw [hE] at y0; have c0' := gkc g8' c0) | (go_at_call 192; have hp0 : 0 < praw.length := (by rw [P8.len]; exact hlp); (have hI := P8.is 0 hp0 hlp); (rw [hE] at hI); (have hq1 : w.heap.size ≤ w.drew.heap.size := Nat.le_refl _); (have hX1 : ∀ k, praw[0].dv.ownBlock = some k → ¬ NowB raw k := fun k e x => by have := (hI.ds.lt k e).1; have := HN0.out k x; have : w.drew.heap.size = w.heap.size := rfl; omega); (have hX2 : ∀ k, praw[0].vv.ownBlock = some k → ¬ NowB raw k := fun k e x => by have := (hI.vs.lt k e).1; have := HN0.out k x; have : w.drew.heap.size = w.heap.size := rfl; omega); (go_fit (l7Patch_any B (.slice va a.ds.length vc) a.ds raw P praw[0].dv praw[0].vv w8 (HD.out.od.grew g8') hI.ds.rd hI.vs.rd HPl.out HP0.out hX1 hX2)); rintro e w9 ⟨rfl, C9, O9⟩; have h9 := (HD.out.kept g8').disks O9 C9; obtain ⟨d3, e3⟩ := h9.c3))
    all_goals (
      go_wp2_with fail
      go_ret
      exact ⟨ret_bool HO.out.symm, ⟨_, _, by rw [HA.out]; exact h9.setStage 3⟩, (only_grew g8').trans ((O9.mono (fun k hk => now_ab HD.out k hk)).trans (only_set _ _ _ _ _))⟩)
  by_cases s3 : a.stage = 3
  rotate_left
  · have HA : Hid (a.stepped = a) := by show _ = _; simp [AZ.stepped, s1, s2, s3, s4]
    have HO : Hid (stepOk a = false) := by show _ = _; simp [stepOk, inB]; omega
    have t1 : (a.stage == 1) = false := by simpa using s1
    have t2 : (a.stage == 2) = false := by simpa using s2
    have t3 : (a.stage == 3) = false := by simpa using s3
    have t4 : (a.stage == 4) = false := by simpa using s4
    clear s1 s2 s3 s4 he
    go_enter Tryz.func167, Tryz.ntmps167
    go_wp2_with fail
    go_ret
    exact ⟨ret_bool HO.out.symm, ⟨_, _, by rw [HA.out]; exact h⟩, Only.refl _ _⟩
  have HA : Hid (a.stepped = { a with ds := flushAll a.ds, stage := 4 }) := by show _ = _; simp [AZ.stepped, s3]
  have HO : Hid (stepOk a = true) := by show _ = _; simp [stepOk, s3, inB]
  rw [s3] at c3
  have HM : Hid (∀ i (h : i < a.ds.length), a.ds[i].m.length ≤ 1000) := hm
  clear s1 s2 s3 s4 he hm c0 c1 c2 f0 f1 f2 f3
  go_enter Tryz.func167, Tryz.ntmps167
  go_wp2_with fail
  go_loopw [3] (fun i wr => ∃ (k : Nat) (rw' : List DV), k ≤ a.ds.length ∧ i = .int .i64 k ∧ ABox wr b B { a with ds := flushK a.ds k } (.slice va a.ds.length vc) rw' ∧ Only (AB b B) w wr) (fun i _ => a.ds.length - (intOf i).toNat)
  case atStart => exact ⟨0, raw, Nat.zero_le _, rfl, by simpa [flushK, flushAll] using h, Only.refl _ _⟩
  case round =>
    clear h c3
    obtain ⟨k, raw', hk, rfl, H, O⟩ := hrel
    obtain ⟨c0, f0⟩ := H.c0
    have hfl := flushK_length a.ds k hk
    by_cases hlt : k < a.ds.length
    · have hki : (k : Int) < a.ds.length := by omega
      have hlk : k < (flushK a.ds k).length := by rw [hfl]; exact hlt
      have hrk : k < raw'.length := by rw [H.od.len]; exact hlk
      obtain ⟨g, e, hgB, hgl, -, -, -, -⟩ := H.od.at k hrk hlk
      cases e
      have DA := H.od.dat k hrk hlk
      dsimp only at DA
      have hbd := HM.out k hlt
      rw [flushK_get a.ds k hlt] at DA
      have hBs : B ≤ wr.heap.size := by have := O.size; omega
      have HS := Lib.hid (flushK_set a.ds k hlt)
      have HG := Lib.hid (flushK_get a.ds k hlt)
      go_wp2_with fail
      go_fit (l3FlushAt_any g (k * 4) B a.ds[k] _ _ _ DA hBs hbd)
      rintro e w2 ⟨kv, w1, rfl, rfl, g1, K1, N1, D2⟩
      obtain ⟨ka, km, kc, rfl⟩ := K1.sl
      have C2 := H.od.flushed k hrk hlk (a := ka) (m := km) (c := kc) g1 (by dsimp only; rw [HG.out]; exact K1) N1
      dsimp only at C2
      rw [HG.out, HS.out] at C2
      have hgb : g ≠ b := fun e => H.vb (by rw [e]; rfl)
      have H2 : ABox (w1.setCell ⟨g, k * 4 + 2, none⟩ (.slice ka km kc)) b B { a with ds := flushK a.ds (k + 1) } (.slice (some ⟨g, 0, none⟩) a.ds.length vc) (raw'.set k (raw'[k].kept ka km kc)) := by
        have H1 := H.kept g1
        refine ⟨H1.c0.other (fun e => hgb (congrArg Addr.block e)) _, H1.c1.other (fun e => hgb (congrArg Addr.block e)) _, H1.c2.other (fun e => hgb (congrArg Addr.block e)) _, H1.c3.other (fun e => hgb (congrArg Addr.block e)) _, H1.c4.other (fun e => hgb (congrArg Addr.block e)) _, C2, H.vb, fun i hi x => ?_⟩
        simp only [List.length_set] at hi
        by_cases e : k = i
        · subst e
          simp only [List.getElem_set_self] at x
          rcases x with x | x
          · have := N1 b x; have := H.lt; omega
          · exact H.rb k hi (.inr x)
        · simp only [List.getElem_set_ne e] at x
          exact H.rb i hi x
      have O2 : Only (AB b B) wr (w1.setCell ⟨g, k * 4 + 2, none⟩ (.slice ka km kc)) := (only_grew g1).trans (Only.of (gset (World.grownBy.refl w1 (some g)) _ _) (fun _ e => by cases e; exact .inr hgB))
      go_wp2_with fail
      go_roundw
      case rel => exact ⟨k + 1, _, by omega, by go_num, H2, O.trans O2⟩
      case measure => simp [intOf]; omega
    · obtain rfl : k = a.ds.length := by omega
      have hF : flushK a.ds a.ds.length = flushAll a.ds := by simp [flushK]
      rw [hF] at H
      obtain ⟨d3, e3⟩ := H.c3
      go_wp2_with fail
      go_ret
      exact ⟨ret_bool HO.out.symm, ⟨_, _, by rw [HA.out]; exact H.setStage 4⟩, O.trans (only_set _ _ _ _ _)⟩
end Go.Proofs.YteialkknddpbjaaGreatDoor
namespace Go.Proofs.YteialkknddpbjaaGreatDoor
open Go.ChangeShapes Go.WideShapes Go.ChangeAt Go.RowKit
attribute [local go_sem] str_list str_size str_add lit_list0 add_lit lit_add str_cut

/-- lists of disks as arrays have them -/
def DGood (l : List DZ) : Prop := l.length ≤ 5 ∧ ∀ d ∈ l, d.k.length = d.m.length ∧ d.m.length ≤ 16
theorem put_len (d : DZ) (p v : Int) : (d.put p v).k.length = d.k.length ∧ (d.put p v).m.length = d.m.length := by unfold DZ.put; split <;> simp
theorem DGood.set {l : List DZ} (h : DGood l) (i : Nat) {d : DZ} (hd : d.k.length = d.m.length ∧ d.m.length ≤ 16) : DGood (l.set i d) := by
  refine ⟨by simpa using h.1, fun x hx => ?_⟩
  rcases List.mem_or_eq_of_mem_set hx with hx | rfl
  · exact h.2 x hx
  · exact hd
theorem DGood.get {l : List DZ} (h : DGood l) (i : Nat) : (l.getD i .zero).k.length = (l.getD i .zero).m.length ∧ (l.getD i .zero).m.length ≤ 16 := by
  by_cases hi : i < l.length
  · rw [getD_at hi]; exact h.2 _ (List.getElem_mem hi)
  · simp [List.getD_eq_getElem?_getD, List.getElem?_eq_none (Nat.le_of_not_lt hi), DZ.zero]
theorem DGood.patchK {l : List DZ} (h : DGood l) (p : PZ) (k : Nat) : DGood (patchK l p k) := by
  induction k with
  | zero => exact h
  | succ k ih =>
    unfold Go.Proofs.YteialkknddpbjaaGreatDoor.patchK
    split
    · have q := ih.get (p.ds.getD k 0).toNat
      have r := put_len ((Go.Proofs.YteialkknddpbjaaGreatDoor.patchK l p k).getD (p.ds.getD k 0).toNat .zero) p.row (p.vs.getD k 0)
      exact ih.set _ (by omega)
    · exact ih
theorem DGood.patchZ {l : List DZ} (h : DGood l) (p : PZ) : DGood (patchZ l p) := h.patchK p _
theorem DGood.flush {l : List DZ} (h : DGood l) : DGood (flushAll l) := by
  refine ⟨by simpa [flushAll] using h.1, fun d hd => ?_⟩
  simp only [flushAll, List.mem_map] at hd
  obtain ⟨x, hx, rfl⟩ := hd
  exact ⟨rfl, (h.2 x hx).2⟩
/-- what a write leaves -/
def AZ.written (a : AZ) (p x : Int) : AZ := if beginOk a p x then { a with ds := flushAll (patchZ a.ds (forP a.ds p x)), log := [], next := [], stage := 0 } else a
def rankS : Value → Nat
  | .int _ x => if x = 0 then 0 else (5 - x).toNat
  | _ => 0
theorem frame_len {p : PZ} (h : p.ok = true) : (frameT p.text).length ≤ 120 := by
  have := frameT_length p.text (by have := text_len h; omega)
  have := text_len h
  omega
set_option maxRecDepth 8000 in
set_option maxHeartbeats 2000000 in
theorem l9Write_any (b B : Nat) (a : AZ) (v : Value) (raw : List DV) (p x : Int) (w : World) (h : ABox w b B a v raw) (hB : B ≤ w.heap.size) (hg : DGood a.ds) :
    Calls Tryz.prog 102 #[.pointer (some ⟨b, 0, none⟩), .int .i64 p, .int .i64 x] w (ADid b B (beginOk a p x) (a.written p x) w) := by
  have hl := hg.1
  cases hok : beginOk a p x
  · have HW : Hid (a.written p x = a ∧ a.begun p x = a) := by constructor <;> simp [AZ.written, AZ.begun, hok]
    go_enter Tryz.func102, Tryz.ntmps102
    go_wp2_with fail
    go_fit (l9Begin_any b B a v raw p x _ h (by omega))
    rintro e w1 ⟨rfl, h1, o1⟩
    rw [hok]
    go_wp2_with fail
    go_ret
    exact ⟨rfl, ⟨_, _, by rw [HW.out.1]; rw [HW.out.2] at h1; exact h1⟩, o1⟩
  have hfo : forOk a.ds p x = true := by simp only [beginOk, Bool.and_eq_true] at hok; exact hok.2.2
  have hpo := for_ok hfo
  have hE := ents_one hpo
  have hfl := frame_len hpo
  generalize hP : forP a.ds p x = P at *
  have HB1 : Hid (a.begun p x = { a with next := frameT P.text, stage := 1 }) := by show _ = _; simp [AZ.begun, hok, hP]
  have HW : Hid (a.written p x = { a with ds := flushAll (patchZ a.ds P), log := [], next := [], stage := 0 }) := by show _ = _; simp [AZ.written, hok, hP]
  have HE := Lib.hid hE
  have HG := Lib.hid hg
  clear hE hfo hP hg
  go_enter Tryz.func102, Tryz.ntmps102
  go_wp2_with fail
  go_fit (l9Begin_any b B a v raw p x _ h (by omega))
  rintro e w1 ⟨rfl, h1, o1⟩
  rw [hok]
  rw [HB1.out] at h1
  go_wp2_with fail
  go_loopw [] (fun wr => (∃ v' raw', ABox wr b B { a with next := frameT P.text, stage := 1 } v' raw' ∨ ABox wr b B { a with log := frameT P.text, next := frameT P.text, stage := 2 } v' raw' ∨ ABox wr b B { a with ds := patchZ a.ds P, log := frameT P.text, next := frameT P.text, stage := 3 } v' raw' ∨ ABox wr b B { a with ds := flushAll (patchZ a.ds P), log := frameT P.text, next := frameT P.text, stage := 4 } v' raw' ∨ ABox wr b B { a with ds := flushAll (patchZ a.ds P), log := [], next := [], stage := 0 } v' raw') ∧ Only (AB b B) w wr) (fun wr => rankS (valAt wr b 3))
  case atStart => exact ⟨⟨_, _, .inl h1⟩, o1⟩
  case round =>
    clear h h1 o1
    obtain ⟨⟨v', raw', hc⟩, O⟩ := hrel
    have hBs : B ≤ wr.heap.size := by have := O.size; omega
    rcases hc with hc | hc | hc | hc | hc
    · have HN : Hid (AZ.stepped { a with next := frameT P.text, stage := 1 } = { a with log := frameT P.text, next := frameT P.text, stage := 2 }) := by show _ = _; simp [AZ.stepped]
      have hv1 : valAt wr b 3 = .int .i64 1 := by simp [valAt, hc.c3.1]
      obtain ⟨c3, f3⟩ := hc.c3
      dsimp only at c3
      have hgd : DGood a.ds := HG.out
      have hgl := hgd.1
      have HM : Hid (∀ i (h : i < a.ds.length), (a.ds[i]).m.length ≤ 1000) := fun i hi => by have := (hgd.2 _ (List.getElem_mem hi)).2; omega
      go_wp2_with fail
      go_fit (l9Step_any b B { a with next := frameT P.text, stage := 1 } v' raw' wr hc hBs (by dsimp only; omega) (fun i hi => HM.out i hi) (by dsimp only; omega) (fun e => by simp at e))
      rintro e w2 ⟨rfl, ⟨v2, raw2, h2⟩, o2⟩
      rw [HN.out] at h2
      go_wp2_with fail
      go_roundw
      case rel => exact ⟨⟨v2, raw2, .inr (.inl h2)⟩, O.trans o2⟩
      case measure =>
        have hv2 := h2.c3.1
        dsimp only at hv2
        rw [hv1, show valAt w2 b 3 = _ from by simp [valAt, hv2]; rfl]
        decide
    · have HN : Hid (AZ.stepped { a with log := frameT P.text, next := frameT P.text, stage := 2 } = { a with ds := patchZ a.ds P, log := frameT P.text, next := frameT P.text, stage := 3 }) := by show _ = _; simp [AZ.stepped, HE.out]
      have hv1 : valAt wr b 3 = .int .i64 2 := by simp [valAt, hc.c3.1]
      obtain ⟨c3, f3⟩ := hc.c3
      dsimp only at c3
      have hgd : DGood a.ds := HG.out
      have hgl := hgd.1
      have HM : Hid (∀ i (h : i < a.ds.length), (a.ds[i]).m.length ≤ 1000) := fun i hi => by have := (hgd.2 _ (List.getElem_mem hi)).2; omega
      go_wp2_with fail
      go_fit (l9Step_any b B { a with log := frameT P.text, next := frameT P.text, stage := 2 } v' raw' wr hc hBs (by dsimp only; omega) (fun i hi => HM.out i hi) (by dsimp only; omega) (fun _ => by dsimp only; rw [HE.out]; simp))
      rintro e w2 ⟨rfl, ⟨v2, raw2, h2⟩, o2⟩
      rw [HN.out] at h2
      go_wp2_with fail
      go_roundw
      case rel => exact ⟨⟨v2, raw2, .inr (.inr (.inl h2))⟩, O.trans o2⟩
      case measure =>
        have hv2 := h2.c3.1
        dsimp only at hv2
        rw [hv1, show valAt w2 b 3 = _ from by simp [valAt, hv2]; rfl]
        decide
    · have HN : Hid (AZ.stepped { a with ds := patchZ a.ds P, log := frameT P.text, next := frameT P.text, stage := 3 } = { a with ds := flushAll (patchZ a.ds P), log := frameT P.text, next := frameT P.text, stage := 4 }) := by show _ = _; simp [AZ.stepped]
      have hv1 : valAt wr b 3 = .int .i64 3 := by simp [valAt, hc.c3.1]
      obtain ⟨c3, f3⟩ := hc.c3
      dsimp only at c3
      have hgd : DGood (patchZ a.ds P) := HG.out.patchZ P
      have hgl := hgd.1
      have HM : Hid (∀ i (h : i < (patchZ a.ds P).length), ((patchZ a.ds P)[i]).m.length ≤ 1000) := fun i hi => by have := (hgd.2 _ (List.getElem_mem hi)).2; omega
      go_wp2_with fail
      go_fit (l9Step_any b B { a with ds := patchZ a.ds P, log := frameT P.text, next := frameT P.text, stage := 3 } v' raw' wr hc hBs (by dsimp only; omega) (fun i hi => HM.out i hi) (by dsimp only; omega) (fun e => by simp at e))
      rintro e w2 ⟨rfl, ⟨v2, raw2, h2⟩, o2⟩
      rw [HN.out] at h2
      go_wp2_with fail
      go_roundw
      case rel => exact ⟨⟨v2, raw2, .inr (.inr (.inr (.inl h2)))⟩, O.trans o2⟩
      case measure =>
        have hv2 := h2.c3.1
        dsimp only at hv2
        rw [hv1, show valAt w2 b 3 = _ from by simp [valAt, hv2]; rfl]
        decide
    · have HN : Hid (AZ.stepped { a with ds := flushAll (patchZ a.ds P), log := frameT P.text, next := frameT P.text, stage := 4 } = { a with ds := flushAll (patchZ a.ds P), log := [], next := [], stage := 0 }) := by show _ = _; simp [AZ.stepped]
      have hv1 : valAt wr b 3 = .int .i64 4 := by simp [valAt, hc.c3.1]
      obtain ⟨c3, f3⟩ := hc.c3
      dsimp only at c3
      have hgd : DGood (flushAll (patchZ a.ds P)) := (HG.out.patchZ P).flush
      have hgl := hgd.1
      have HM : Hid (∀ i (h : i < (flushAll (patchZ a.ds P)).length), ((flushAll (patchZ a.ds P))[i]).m.length ≤ 1000) := fun i hi => by have := (hgd.2 _ (List.getElem_mem hi)).2; omega
      go_wp2_with fail
      go_fit (l9Step_any b B { a with ds := flushAll (patchZ a.ds P), log := frameT P.text, next := frameT P.text, stage := 4 } v' raw' wr hc hBs (by dsimp only; omega) (fun i hi => HM.out i hi) (by dsimp only; omega) (fun e => by simp at e))
      rintro e w2 ⟨rfl, ⟨v2, raw2, h2⟩, o2⟩
      rw [HN.out] at h2
      go_wp2_with fail
      go_roundw
      case rel => exact ⟨⟨v2, raw2, .inr (.inr (.inr (.inr h2)))⟩, O.trans o2⟩
      case measure =>
        have hv2 := h2.c3.1
        dsimp only at hv2
        rw [hv1, show valAt w2 b 3 = _ from by simp [valAt, hv2]; rfl]
        decide
    · obtain ⟨c3, f3⟩ := hc.c3
      dsimp only at c3
      go_wp2_with fail
      go_ret
      exact ⟨rfl, ⟨_, _, by rw [HW.out]; exact hc⟩, O⟩
end Go.Proofs.YteialkknddpbjaaGreatDoor
namespace Go.Proofs.YteialkknddpbjaaGreatDoor
open Go.ChangeShapes Go.WideShapes Go.ChangeAt Go.RowKit
attribute [local go_sem] str_list str_size str_add lit_list0 add_lit lit_add str_cut

def newDs (rows k : Nat) : List DZ := (List.range k).map fun i : Nat => (⟨(i : Int), false, newL i rows, newL i rows⟩ : DZ)
theorem newDs_next (rows k : Nat) : newDs rows (k + 1) = newDs rows k ++ [⟨(k : Int), false, newL k rows, newL k rows⟩] := by simp [newDs, List.range_succ]
theorem newDs_length (rows k : Nat) : (newDs rows k).length = k := by simp [newDs]
theorem newDs_good (rows k : Nat) (hr : rows ≤ 16) (hk : k ≤ 5) : DGood (newDs rows k) := by
  refine ⟨by rw [newDs_length]; exact hk, fun d hd => ?_⟩
  simp only [newDs, List.mem_map] at hd
  obtain ⟨i, _, rfl⟩ := hd
  exact ⟨rfl, by rw [newL_length]; exact hr⟩
def AZ.fresh (ds : List DZ) : AZ := ⟨ds, [], [], 0, true⟩
/-- the value of an array -/
abbrev AZ.val (a : AZ) (v : Value) : Value := .agg #[v, .string (str a.log), .string (str a.next), .int .i64 a.stage, .bool a.up]
section
variable {w w' : World} {b B : Nat} {a : AZ} {v v' : Value} {raw raw' : List DV}
/-- the list of disks is replaced -/
theorem ABox.putDisks {r : Option Nat} {l : List DZ} (h : ABox w b B a v raw) (g : w.grownBy w' r) (hr : r ≠ some b) (hd : OD w' B v' l raw') (hv : v'.ownBlock ≠ some b) (hb : ∀ i (h : i < raw'.length), ¬ raw'[i].has b) :
    ABox (w'.setCell ⟨b, 0, none⟩ v') b B { a with ds := l } v' raw' :=
  ⟨(gkr g hr h.c0).same _, (gkr g hr h.c1).other (by simp) _, (gkr g hr h.c2).other (by simp) _, (gkr g hr h.c3).other (by simp) _, (gkr g hr h.c4).other (by simp) _, hd.far hv hb _, hv, hb⟩
end
/-- a result variable of five cells -/
structure Zero5 (w : World) (r : Nat) : Prop where
  c0 : At w r 0 (.slice none 0 0)
  c1 : At w r 1 (.string (str []))
  c2 : At w r 2 (.string (str []))
  c3 : At w r 3 (.int .i64 0)
  c4 : At w r 4 (.bool false)
abbrev zero5 : Obj := .cells #[.slice none 0 0, .string ⟨#[]⟩, .string ⟨#[]⟩, .int .i64 0, .bool false] 26
theorem Zero5.new (w : World) : Zero5 (w.alloc zero5) w.heap.size := ⟨by simp [At, go_sem], by simp [At, go_sem]; rfl, by simp [At, go_sem]; rfl, by simp [At, go_sem], by simp [At, go_sem]⟩
theorem Zero5.kept {w w' : World} {r : Nat} {x : Option Nat} (h : Zero5 w r) (g : w.grownBy w' x) (hx : x ≠ some r) : Zero5 w' r := ⟨gkr g hx h.c0, gkr g hx h.c1, gkr g hx h.c2, gkr g hx h.c3, gkr g hx h.c4⟩
def set5 (w : World) (r : Nat) (x0 x1 x2 x3 x4 : Value) : World := ((((w.setCell ⟨r, 0, none⟩ x0).setCell ⟨r, 1, none⟩ x1).setCell ⟨r, 2, none⟩ x2).setCell ⟨r, 3, none⟩ x3).setCell ⟨r, 4, none⟩ x4
theorem gset5 {a w : World} {r : Nat} (h : a.grownBy w none) (hr : a.heap.size ≤ r) (x0 x1 x2 x3 x4 : Value) : a.grownBy (set5 w r x0 x1 x2 x3 x4) none := gset1 (gset1 (gset1 (gset1 (gset1 h hr _ _) hr _ _) hr _ _) hr _ _) hr _ _
theorem OD.set5 {w : World} {B r : Nat} {v : Value} {l : List DZ} {raw : List DV} (h : OD w B v l raw) (hv : v.ownBlock ≠ some r) (hr : ∀ i (h : i < raw.length), ¬ raw[i].has r) (x0 x1 x2 x3 x4 : Value) : OD (set5 w r x0 x1 x2 x3 x4) B v l raw :=
  ((((h.far hv hr _).far hv hr _).far hv hr _).far hv hr _).far hv hr _
theorem OD.not_old {w : World} {B r : Nat} {v : Value} {l : List DZ} {raw : List DV} (h : OD w B v l raw) (hr : r < B) : v.ownBlock ≠ some r ∧ ∀ i (h : i < raw.length), ¬ raw[i].has r :=
  ⟨fun e => by have := (h.own.lt r e).1; omega, fun i hi x => by have := (h.in i hi r x).1; omega⟩
set_option maxRecDepth 8000 in
set_option maxHeartbeats 4000000 in
theorem specNewArray_yes (n rows : Nat) (w : World) (hn : inB n 3 5 = true) (hr : inB rows 1 16 = true) :
    Calls Tryz.prog 100 #[.int .i64 n, .int .i64 rows] w fun e w' => ∃ v raw, e = .returned (.tuple #[(AZ.fresh (newDs rows n)).val v, .bool true]) ∧ OD w' w.heap.size v (newDs rows n) raw ∧ w.grownBy w' none := by
  have hn' := inB_iff.1 hn
  have hr' := inB_iff.1 hr
  have hr16 : rows ≤ 16 := by omega
  have hn5 : n ≤ 5 := by omega
  have Z0 := Zero5.new w
  have G0 := galloc (grefl w) zero5
  have e1 := galloc (grefl (w.alloc zero5)) (.cells #[.slice none 0 0, .string ⟨#[]⟩, .string ⟨#[]⟩, .int .i64 0, .bool true] 26)
  have Z1 := Z0.kept e1 (by simp)
  have G1 := gtrans G0 e1
  have hs1 : (w.alloc zero5).heap.size = w.heap.size + 1 := by simp
  have A1 : ABox ((w.alloc zero5).alloc (.cells #[.slice none 0 0, .string ⟨#[]⟩, .string ⟨#[]⟩, .int .i64 0, .bool true] 26)) (w.alloc zero5).heap.size ((w.alloc zero5).heap.size + 1) (AZ.fresh (newDs rows 0)) (.slice none 0 0) [] :=
    ⟨by simp [At, go_sem], by simp [At, go_sem]; rfl, by simp [At, go_sem]; rfl, by simp [At, go_sem]; rfl, by simp [At, go_sem]; rfl, OD.nil _ _, by simp [Value.ownBlock], fun i h => by simp at h⟩
  have hs2 : ((w.alloc zero5).alloc (.cells #[.slice none 0 0, .string ⟨#[]⟩, .string ⟨#[]⟩, .int .i64 0, .bool true] 26)).heap.size = w.heap.size + 2 := by simp
  rw [hs1] at A1
  clear Z0 G0 e1 hs1
  go_enter Tryz.func100, Tryz.ntmps100
  go_wp2_with fail
  go_fit (l5N_any _ _)
  rintro e w' ⟨rfl, rfl⟩
  rw [hn]
  go_wp2_with fail
  go_fit (l1In_any _ _ _ _)
  rintro e w' ⟨rfl, rfl⟩
  rw [hr]
  clear hn' hr' hn hr
  go_upto_region 4 with (fail)
  generalize (w.alloc zero5).alloc (.cells #[.slice none 0 0, .string ⟨#[]⟩, .string ⟨#[]⟩, .int .i64 0, .bool true] 26) = W0 at *
  go_wp2_with fail
  go_loopw [7] (fun i wr => ∃ (k : Nat) (v : Value) (raw : List DV), k ≤ n ∧ i = .int .i64 k ∧ ABox wr (w.heap.size + 1) (w.heap.size + 2) (AZ.fresh (newDs rows k)) v raw ∧ W0.grownBy wr (some (w.heap.size + 1))) (fun i _ => n - (intOf i).toNat)
  case atStart => exact ⟨0, _, _, Nat.zero_le _, rfl, A1, World.grownBy.refl _ _⟩
  case round =>
    clear A1
    obtain ⟨k, v, raw, hk, rfl, H, GX⟩ := hrel
    obtain ⟨va, vn, vc, rfl⟩ := H.od.own.sl
    have hwB : w.heap.size + 2 ≤ wr.heap.size := by have := GX.size; omega
    by_cases hlt : k < n
    · have hki : (k : Int) < n := by omega
      obtain ⟨c0, f0⟩ := H.c0
      have hrl : raw.length ≤ 5 := by have := H.od.len; simp [AZ.fresh, newDs_length] at this; omega
      have hlH := H.lt
      have HN := Lib.hid (newDs_next rows k)
      go_wp2_with fail
      go_region_law (first | (go_simp; go_at_call 148; go_fit (l3New_any (k : Int) rows _ hr16); rintro e w8 ⟨kv, nv, rfl, I8, ap8, g8⟩; have g8' : wr.grownBy w8 none := gtrans (gdrew (grefl wr) 1) g8; obtain ⟨ka, km, kc, rfl⟩ := I8.1.sl; obtain ⟨na, nm, nc, rfl⟩ := I8.2.sl; have H8 := H.kept g8'; obtain ⟨t0, u0⟩ := H8.c0; have hl8 := H8.lt) | (refine step_append_o (E := diskE) (base := w.heap.size + 2) rfl (.tmp 24) (.tmp 28) rfl rfl rfl (Own.grew H8.od.own (galloc (grefl _) _)) (DV.single _ ⟨(k : Int), false, ka, km, kc, na, nm, nc⟩) (by simp; omega) (by decide) (by have := g8'.size; simp; omega) ?_; intro v' w6 o6 g6 b6; have C6 := OD.app (H8.od.grew (galloc (grefl w8) _)) ⟨(k : Int), false, ka, km, kc, na, nm, nc⟩ ⟨(k : Int), false, newL k rows, newL k rows⟩ ⟨rfl, rfl, Own.grew (I8.1.lower hwB) (galloc (grefl w8) _), Own.grew (I8.2.lower hwB) (galloc (grefl w8) _)⟩ ap8 (fun q hq => by have h1 : wr.heap.size ≤ q := (by rcases hq with hq | hq; exact (I8.1.lt q hq).1; exact (I8.2.lt q hq).1); exact ⟨fun i hi x => (by have := (H.od.in i hi q x).2; omega), fun x => (by have := (H.od.own.lt q x).2; omega)⟩) g6 o6 b6; obtain ⟨t6, u6⟩ := gkr g6 H8.vb (gk (galloc (grefl w8) _) H8.c0); obtain ⟨a6, n6, c6, rfl⟩ := o6.sl))
      all_goals (
        have hb6 : (Value.slice a6 n6 c6).ownBlock ≠ some (w.heap.size + 1) := (C6.not_old (by omega)).1
        have H6 := (H8.kept (galloc (grefl w8) (.cells #[.int .i64 (k : Int), .bool false, .slice ka km kc, .slice na nm nc] 37))).putDisks g6 H8.vb C6 hb6 (C6.not_old (by omega)).2
        have G6 : W0.grownBy (w6.setCell ⟨w.heap.size + 1, 0, none⟩ (.slice a6 n6 c6)) (some (w.heap.size + 1)) := gset (gsubc (galloc (gtrans GX (gweak g8' _)) _) g6 (fun q e => by have := (H8.od.own.lt q e).1; omega)) _ _
        dsimp only [AZ.fresh] at H6
        rw [← HN.out] at H6
        generalize w6.setCell ⟨w.heap.size + 1, 0, none⟩ (.slice a6 n6 c6) = W6 at *
        clear C6 g6 o6 b6 t6 u6 t0 u0 H8
        go_wp2_with fail
        go_roundw
        case rel => exact ⟨k + 1, _, _, by omega, by go_num, H6, G6⟩
        case measure => simp [intOf]; omega)
    · obtain rfl : k = n := by omega
      have GG : w.grownBy wr none := gsub G1 GX (fun q e => by cases e; omega)
      obtain ⟨c0, f0⟩ := H.c0
      obtain ⟨c1, f1⟩ := H.c1
      obtain ⟨c2, f2⟩ := H.c2
      obtain ⟨c3, f3⟩ := H.c3
      obtain ⟨c4, f4⟩ := H.c4
      dsimp only [AZ.fresh] at c1 c2 c3 c4
      obtain ⟨⟨z0, y0⟩, ⟨z1, y1⟩, ⟨z2, y2⟩, ⟨z3, y3⟩, ⟨z4, y4⟩⟩ := Z1.kept GX (by simp)
      have hno := H.od.not_old (r := w.heap.size) (by omega)
      have hR : ∃ v raw, Ending.returned (.tuple #[(AZ.fresh (newDs rows k)).val (.slice va vn vc), .bool true]) = Ending.returned (.tuple #[(AZ.fresh (newDs rows k)).val v, .bool true]) ∧ OD (set5 wr w.heap.size (.slice va vn vc) (.string (str [])) (.string (str [])) (.int .i64 0) (.bool true)) w.heap.size v (newDs rows k) raw ∧ w.grownBy (set5 wr w.heap.size (.slice va vn vc) (.string (str [])) (.string (str [])) (.int .i64 0) (.bool true)) none :=
        ⟨_, raw, rfl, (H.od.set5 hno.1 hno.2 _ _ _ _ _).lower (by omega), gset5 GG (Nat.le_refl _) _ _ _ _ _⟩
      go_wp2_with fail
      exact bodyPost_ret (v := .tuple #[(AZ.fresh (newDs rows k)).val (.slice va vn vc), .bool true]) (by simp [results, Tryz.results100, go_sem, z0, z1, z2, z3, z4, AZ.fresh]) rfl hR
end Go.Proofs.YteialkknddpbjaaGreatDoor
