/- Arrays of chapter 9: as plain mathematics, and in memory. -/
import Derived.Test.YtfodjokcobljmaaGreatSpecL07d
import Derived.Test.YtfodjokcobljmaaGreatSpecL07e
import Derived.Test.YtfodjokcobljmaaGreatMathL08
namespace Go.Proofs.YtfodjokcobljmaaGreat
open Go.ChangeShapes Go.WideShapes Go.ChangeAt Go.RowKit

/-- an array -/
structure AZ where
  ds : List DZ
  log : List UInt8
  next : List UInt8
  stage : Int
  up : Bool
/-- what lies in block b is the array a; its disks own their memory in blocks from B on, none of them b -/
structure ABox (w : World) (b B : Nat) (a : AZ) (v : Value) (raw : List DV) : Prop where
  c0 : At w b 0 v
  c1 : At w b 1 (.string (str a.log))
  c2 : At w b 2 (.string (str a.next))
  c3 : At w b 3 (.int .i64 a.stage)
  c4 : At w b 4 (.bool a.up)
  od : OD w B v a.ds raw
  vb : v.ownBlock ≠ some b
  rb : ∀ i (h : i < raw.length), ¬ raw[i].has b
/-- what an array's functions may change -/
def AB (b B : Nat) (k : Nat) : Prop := k = b ∨ B ≤ k
section
variable {w w' : World} {b B : Nat} {a : AZ} {v : Value} {raw : List DV}
theorem ABox.lt (h : ABox w b B a v raw) : b < w.heap.size := cell_lt h.c0.1
theorem ABox.kept (h : ABox w b B a v raw) (g : w.grownBy w' none) : ABox w' b B a v raw := ⟨gk g h.c0, gk g h.c1, gk g h.c2, gk g h.c3, gk g h.c4, h.od.grew g, h.vb, h.rb⟩
theorem OD.far {c o : Nat} {l : List DZ} (h : OD w B v l raw) (hv : v.ownBlock ≠ some c) (hr : ∀ i (h : i < raw.length), ¬ raw[i].has c) (u : Value) : OD (w.setCell ⟨c, o, none⟩ u) B v l raw :=
  ⟨Own.other h.own hv u, h.len, fun i a b => ⟨(h.is i a b).n, (h.is i a b).dead, Own.other (h.is i a b).isD.1 (fun e => hr i a (.inl e)) u, Own.other (h.is i a b).isD.2 (fun e => hr i a (.inr e)) u⟩, h.self, h.ap, h.out⟩
theorem ABox.setLog (h : ABox w b B a v raw) (x : List UInt8) : ABox (w.setCell ⟨b, 1, none⟩ (.string (str x))) b B { a with log := x } v raw :=
  ⟨h.c0.other (by simp) _, h.c1.same _, h.c2.other (by simp) _, h.c3.other (by simp) _, h.c4.other (by simp) _, h.od.far h.vb h.rb _, h.vb, h.rb⟩
theorem ABox.setNext (h : ABox w b B a v raw) (x : List UInt8) : ABox (w.setCell ⟨b, 2, none⟩ (.string (str x))) b B { a with next := x } v raw :=
  ⟨h.c0.other (by simp) _, h.c1.other (by simp) _, h.c2.same _, h.c3.other (by simp) _, h.c4.other (by simp) _, h.od.far h.vb h.rb _, h.vb, h.rb⟩
theorem ABox.setStage (h : ABox w b B a v raw) (x : Int) : ABox (w.setCell ⟨b, 3, none⟩ (.int .i64 x)) b B { a with stage := x } v raw :=
  ⟨h.c0.other (by simp) _, h.c1.other (by simp) _, h.c2.other (by simp) _, h.c3.same _, h.c4.other (by simp) _, h.od.far h.vb h.rb _, h.vb, h.rb⟩
theorem ABox.setUp (h : ABox w b B a v raw) (x : Bool) : ABox (w.setCell ⟨b, 4, none⟩ (.bool x)) b B { a with up := x } v raw :=
  ⟨h.c0.other (by simp) _, h.c1.other (by simp) _, h.c2.other (by simp) _, h.c3.other (by simp) _, h.c4.same _, h.od.far h.vb h.rb _, h.vb, h.rb⟩
theorem only_set (w : World) (b B o : Nat) (u : Value) : Only (AB b B) w (w.setCell ⟨b, o, none⟩ u) := Only.of (gset (World.grownBy.refl w (some b)) o u) (fun _ e => by cases e; exact .inl rfl)
theorem only_grew (h : w.grownBy w' none) : Only (AB b B) w w' := Only.of h (fun _ e => by cases e)
/-- the disks are changed in their own memory -/
theorem ABox.disks (h : ABox w b B a v raw) {l : List DZ} (o : Only (NowB raw) w w') (hd : OD w' B v l raw) : ABox w' b B { a with ds := l } v raw := by
  have hb : ¬ NowB raw b := fun ⟨i, hi, e⟩ => h.rb i hi (.inr e)
  exact ⟨o.at hb h.c0, o.at hb h.c1, o.at hb h.c2, o.at hb h.c3, o.at hb h.c4, hd, h.vb, h.rb⟩
theorem now_ab (h : ABox w b B a v raw) (k : Nat) (hk : NowB raw k) : AB b B k := by
  obtain ⟨i, hi, e⟩ := hk
  exact .inr (h.od.in i hi k (.inr e)).1
end
/-- the filter of a range, by its numbers -/
theorem two_of {F : List Nat} {x y : Nat} (hs : F.Pairwise (· < ·)) (hm : ∀ i ∈ F, i = x ∨ i = y) : F = [] ∨ (∃ a, F = [a]) ∨ (∃ a b, F = [a, b] ∧ a < b) := by
  match F, hs, hm with
  | [], _, _ => exact .inl rfl
  | [a], _, _ => exact .inr (.inl ⟨a, rfl⟩)
  | [a, b], hs, _ => exact .inr (.inr ⟨a, b, rfl, by simp at hs; exact hs⟩)
  | a :: b :: c :: r, hs, hm =>
    simp at hs
    have h1 := hm a (by simp)
    have h2 := hm b (by simp)
    have h3 := hm c (by simp)
    omega
theorem range_sorted (n : Nat) : (List.range n).Pairwise (· < ·) := List.pairwise_lt_range
theorem okv_of {x : Int} (h : 0 ≤ x ∧ x ≤ 32767) : okv x = true := okv_iff.2 h
theorem rowZ_b (n p : Int) (h : 0 ≤ rowZ n p) : inB n 3 5 = true ∧ rowZ n p ≤ 15 := by
  unfold rowZ at h ⊢
  split at h
  · rename_i hh
    rw [if_pos hh]
    refine ⟨hh.1, ?_⟩
    have h2 := inB_iff.1 hh.2
    rcases three hh.1 with rfl | rfl | rfl <;> omega
  · omega
theorem for_ok {l : List DZ} {p v : Int} (h : forOk l p v = true) : (forP l p v).ok = true := by
  have hA : forAll l p v = true := by simp only [forOk, Bool.and_eq_true] at h; exact h.1
  obtain ⟨h1, h2⟩ := for_yes hA
  rw [h2, decide_eq_true_eq] at h
  have hH : forHas l p v = true := by simp only [forAll, Bool.and_eq_true] at hA; exact hA.1
  simp only [forHas, Bool.and_eq_true, decide_eq_true_eq] at hH
  obtain ⟨⟨r0, r1⟩, hv⟩ := hH
  obtain ⟨hn, hr15⟩ := rowZ_b _ _ r0
  have hn' := inB_iff.1 hn
  have hvb := okv_iff.1 hv
  have hsb := sumK_b l (forD l p) (forE l p) (forRow l p) v hvb l.length
  rw [h1]
  generalize forD l p = d at *
  generalize forE l p = ex at *
  have hs := sumK_b l d ex (forRow l p) v hvb l.length
  have hfs : okv (forSum l p v) = true := by unfold forSum; exact okv_of (sumK_b _ _ _ _ _ hvb _)
  generalize forSum l p v = s at *
  unfold dsF at h ⊢
  unfold vsF
  have hF := two_of (x := d.toNat) (y := ex.toNat) (F := (List.range l.length).filter (pickI l d ex)) (List.Pairwise.filter _ (range_sorted _)) (fun i hi => by
    have := (List.mem_filter.1 hi).2
    simp only [pickI, Bool.and_eq_true, Bool.or_eq_true, beq_iff_eq] at this
    omega)
  have hlt : ∀ i ∈ (List.range l.length).filter (pickI l d ex), i < l.length := fun i hi => by simpa using (List.mem_filter.1 hi).1
  have hval : ∀ i : Nat, okv (if ((i : Int) == d) = true then v else s) = true := fun i => by split <;> assumption
  generalize (List.range l.length).filter (pickI l d ex) = F at *
  have hrow : inB (forRow l p) 0 15 = true := inB_iff.2 ⟨r0, hr15⟩
  rcases hF with rfl | ⟨i, rfl⟩ | ⟨i, j, rfl, hij⟩
  · simp at h
  · have := hlt i (by simp)
    simp only [PZ.ok, hrow, List.map_cons, List.map_nil, plists, pcell, hval, Bool.and_true, Bool.true_and]
    exact inB_iff.2 (by omega)
  · have := hlt i (by simp)
    have := hlt j (by simp)
    simp only [PZ.ok, hrow, List.map_cons, List.map_nil, plists, pcell, hval, Bool.and_true, Bool.true_and]
    rw [show inB (i : Int) 0 4 = true from inB_iff.2 (by omega), show inB (j : Int) 0 4 = true from inB_iff.2 (by omega), decide_eq_true (by omega)]
    rfl
end Go.Proofs.YtfodjokcobljmaaGreat
