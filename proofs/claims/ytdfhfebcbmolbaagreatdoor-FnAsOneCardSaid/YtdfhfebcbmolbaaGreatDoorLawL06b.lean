/- A disk that came in, opened. The laws' own helpers over lists of disks: what came in, opened, measured, copied, compared. The laws' own helpers: lists of numbers and of disks are marked, and are held against their marks. The laws' own helpers: a list of disks is marked, told exactly, and is held against its marks. A list of disks that came in, opened. -/
import Derived.Test.YtdfhfebcbmolbaaGreatDoorLawL03b
import Derived.Deep.Slices
import Derived.Deep.Fields
import Derived.Test.YtdfhfebcbmolbaaGreatDoorOwnD2
import Derived.Test.YtdfhfebcbmolbaaGreatDoorBaseL04
import Derived.Deep.DeepFit
import Derived.Deep.DeepCutAuto
namespace Go.Proofs.YtdfhfebcbmolbaaGreatDoor
open Go.ChangeShapes Go.WideShapes Go.ChangeAt Go.RowKit Go.Joins Go.Deep
set_option maxRecDepth 8000

theorem list_of {P : Nat → Int → Int → Prop} : ∀ n : Nat, (∀ i, i < n → ∃ x y, P i x y) → ∃ l : List (Int × Int), l.length = n ∧ ∀ i (h : i < l.length), P i l[i].1 l[i].2
  | 0, _ => ⟨[], rfl, fun i h => by simp at h⟩
  | n + 1, hP => by
    obtain ⟨l, hl, h⟩ := list_of n (fun i hi => hP i (by omega))
    obtain ⟨x, y, hxy⟩ := hP n (by omega)
    refine ⟨l ++ [(x, y)], by simp [hl], fun i hi => ?_⟩
    simp at hi
    by_cases hn : i < l.length
    · rw [List.getElem_append_left hn]; exact h i hn
    · have : i = l.length := by omega
      subst this
      simp [hl]
      exact hxy
section
variable {H : Type} {enc : TypeId × Value → H} {w : World} {base : Nat} {held : Bool}
end
end Go.Proofs.YtdfhfebcbmolbaaGreatDoor
namespace Go.Proofs.YtdfhfebcbmolbaaGreatDoor
open Go.ChangeShapes Go.WideShapes Go.ChangeAt Go.RowKit Go.Joins Go.Deep

/-- disks that came in -/
def InDisks (w : World) (a : Option Addr) (len : Nat) (l : List DZ) : Prop :=
  len = l.length ∧ l.length ≤ 9223372036854775807 ∧ (l = [] ∨ ∃ b o, a = some ⟨b, o, none⟩ ∧ b < w.heap.size ∧ ∀ i (h : i < l.length), ∃ ka km kc na nm nc, w.cell? ⟨b, o + i * 4, none⟩ = some (.int .i64 l[i].n) ∧ w.cell? ⟨b, o + i * 4 + 1, none⟩ = some (.bool l[i].dead) ∧ w.cell? ⟨b, o + i * 4 + 2, none⟩ = some (.slice ka km kc) ∧ w.cell? ⟨b, o + i * 4 + 3, none⟩ = some (.slice na nm nc) ∧ InDisk w ka km na nm l[i])
theorem InDisks.kept {w w' : World} {a : Option Addr} {len : Nat} {l : List DZ} (h : InDisks w a len l) (g : w.grownBy w' none) : InDisks w' a len l := by
  obtain ⟨h1, h2, h3 | ⟨b, o, ha, hb, hc⟩⟩ := h
  · exact ⟨h1, h2, .inl h3⟩
  · refine ⟨h1, h2, .inr ⟨b, o, ha, by have := g.size; omega, fun i hi => ?_⟩⟩
    obtain ⟨ka, km, kc, na, nm, nc, x0, x1, x2, x3, x4⟩ := hc i hi
    exact ⟨ka, km, kc, na, nm, nc, gkc g x0, gkc g x1, gkc g x2, gkc g x3, x4.kept g⟩
/-- how many cells the disks have -/
def sizeC : List DZ → Nat
  | [] => 0
  | d :: r => d.k.length + d.m.length + sizeC r
theorem sizeC_append (a b : List DZ) : sizeC (a ++ b) = sizeC a + sizeC b := by
  induction a with
  | nil => simp [sizeC]
  | cons x r ih => simp [sizeC, ih]; omega
theorem sizeC_next {l : List DZ} {k : Nat} (h : k < l.length) : sizeC (l.take (k + 1)) = sizeC (l.take k) + (l[k].k.length + l[k].m.length) := by
  rw [List.take_succ_eq_append_getElem h, sizeC_append]; simp [sizeC]
theorem sizeC_take (l : List DZ) (k : Nat) : sizeC (l.take k) ≤ sizeC l := by
  have := sizeC_append (l.take k) (l.drop k)
  rw [List.take_append_drop] at this; omega
/-- they are not too many -/
def Small (l : List DZ) : Prop := l.length + sizeC l ≤ 1048576
theorem Small.at {l : List DZ} (h : Small l) (i : Nat) (hi : i < l.length) : l[i].k.length ≤ 1048576 ∧ l[i].m.length ≤ 1048576 := by
  have h1 := sizeC_next hi
  have h2 := sizeC_take l (i + 1)
  unfold Small at h; omega
theorem Small.len {l : List DZ} (h : Small l) : l.length ≤ 1048576 := by unfold Small at h; omega
def zeroV : DV := ⟨0, false, none, 0, 0, none, 0, 0⟩
theorem made_disks (n : Nat) : (madeCells diskE.z.cells (n * 4)).toList = diskE.all (List.replicate n zeroV) := by
  apply List.ext_getElem?
  intro i
  by_cases hi : i < n * 4
  · have h2 := diskE_all (List.replicate n zeroV) (i / 4) (by simp; omega) (i % 4) (by omega)
    rw [show i / 4 * 4 + i % 4 = i by omega] at h2
    rw [h2]
    simp [madeCells, hi]
    rcases (show i % 4 = 0 ∨ i % 4 = 1 ∨ i % 4 = 2 ∨ i % 4 = 3 by omega) with e | e | e | e <;> simp [e, diskE, Value.cells, zeroV, DV.kv, DV.nv]
  · rw [List.getElem?_eq_none (by rw [Array.length_toList, size_madeCells]; omega), List.getElem?_eq_none (by rw [Elt.all_length]; simp [diskE]; omega)]
def zeroD (n : Nat) : Array Value := madeCells diskE.z.cells (n * 4)
theorem make_disks (n : Nat) (hn : n ≤ 1048576) (w : World) : (Instr.makeSlice 24 (.int .i64 n) (.int .i64 n)).run Tryz.prog w = .ok (.slice (some ⟨w.heap.size, 0, none⟩) n n) (w.alloc (.cells (zeroD n) 44)) := by
  obtain ⟨i, hi, hz, h1, h2⟩ := info_parts diskE.info
  have hr := run_make (P := Tryz.prog) w diskE.S diskE.T i diskE.z diskE.und hi hz .i64 .i64 n n (by omega) (by omega) (by rw [h2]; show (64 : Int) * n ≤ _; omega) (by omega)
  rw [h1] at hr
  simp only [Int.toNat_natCast] at hr
  exact hr
theorem OD.made (w : World) (n : Nat) (hn : n ≤ 1048576) : OD (w.alloc (.cells (zeroD n) 44)) w.heap.size (.slice (some ⟨w.heap.size, 0, none⟩) n n) (List.replicate n .zero) (List.replicate n zeroV) := by
  have h1 := Own.fresh diskE w (List.replicate n zeroV) _ (made_disks n) (by simp; omega) (Nat.le_refl w.heap.size)
  rw [List.length_replicate] at h1
  have hno : ∀ k, ¬ zeroV.has k := fun k h => by rcases h with h | h <;> simp [zeroV, DV.kv, DV.nv, Value.ownBlock] at h
  refine ⟨h1, by simp, fun i a b => ?_, fun i a => ?_, fun i j a b k x y => ?_, fun i a k x => ?_⟩
  · simp only [List.getElem_replicate]; exact ⟨rfl, rfl, CS.nil _ _, CS.nil _ _⟩
  · simp only [List.getElem_replicate]; exact .inl rfl
  · simp only [List.getElem_replicate] at x; exact absurd x (hno k)
  · simp only [List.getElem_replicate] at x; exact absurd x (hno k)
/-- the disks that are filled so far -/
def fillD (l : List DZ) (k : Nat) : List DZ := l.take k ++ List.replicate (l.length - k) .zero
theorem fillD_length (l : List DZ) (k : Nat) (h : k ≤ l.length) : (fillD l k).length = l.length := by simp [fillD]; omega
theorem fillD_set (l : List DZ) (k : Nat) (h : k < l.length) : (fillD l k).set k l[k] = fillD l (k + 1) := by
  unfold fillD
  rw [List.set_append_right _ _ (by simp; omega), show k - (l.take k).length = 0 by simp; omega, show l.length - k = (l.length - (k + 1)) + 1 by omega, List.replicate_succ, List.set_cons_zero, List.take_succ_eq_append_getElem h, List.append_assoc]
  rfl
/-- disk i is replaced by a new one -/
theorem OD.fresh {w w2 : World} {base n cap g : Nat} {l : List DZ} {raw : List DV} (h : OD w base (.slice (some ⟨g, 0, none⟩) n cap) l raw) (i : Nat) (hi : i < raw.length) (g2 : w.grownBy w2 none) (hb : base ≤ w.heap.size) (d : DZ) (ka : Option Addr) (km kc : Nat) (na : Option Addr) (nm nc : Nat)
    (hd : IsD w2 w.heap.size (.slice ka km kc) (.slice na nm nc) d) (hs : Apart (.slice ka km kc) (.slice na nm nc)) :
    OD (set4o w2 g (i * 4) (.int .i64 d.n) (.bool d.dead) (.slice ka km kc) (.slice na nm nc)) base (.slice (some ⟨g, 0, none⟩) n cap) (l.set i d) (raw.set i ⟨d.n, d.dead, ka, km, kc, na, nm, nc⟩) := by
  have hg := (h.own.lt g rfl)
  refine (h.grew g2).put i hi ⟨d.n, d.dead, ka, km, kc, na, nm, nc⟩ d ⟨rfl, rfl, ⟨hd.1.lower hb, hd.2.lower hb⟩⟩ hs fun k hk => ?_
  have hk' : w.heap.size ≤ k := by
    rcases hk with hk | hk
    · exact (hd.1.lt k hk).1
    · exact (hd.2.lt k hk).1
  exact ⟨by omega, fun j hj _ x => by have := (h.in j hj k x).2; omega⟩
end Go.Proofs.YtdfhfebcbmolbaaGreatDoor
namespace Go.Proofs.YtdfhfebcbmolbaaGreatDoor
open Go.ChangeShapes Go.WideShapes Go.ChangeAt Go.RowKit Go.Joins Go.Deep

end Go.Proofs.YtdfhfebcbmolbaaGreatDoor
namespace Go.Proofs.YtdfhfebcbmolbaaGreatDoor
open Go.ChangeShapes Go.WideShapes Go.ChangeAt Go.RowKit Go.Joins Go.Deep

def mkD (k : Int) (d : DZ) : DZ := ⟨k, (k + 1) % 3 == 0, markL (k + 1 + 1) d.k.length, markL (k + 1 + 1 + 2 * d.k.length) d.m.length⟩
def mkN (k : Int) (l : List DZ) (j : Nat) : Int := k + 2 * j + 2 * sizeC (l.take j)
def markDs (k : Int) (l : List DZ) : List DZ := (List.range l.length).map fun i => mkD (mkN k l i) (l.getD i .zero)
theorem markDs_length (k : Int) (l : List DZ) : (markDs k l).length = l.length := by simp [markDs]
theorem markDs_get (k : Int) (l : List DZ) (i : Nat) (h : i < (markDs k l).length) : (markDs k l)[i] = mkD (mkN k l i) (l.getD i .zero) := by simp [markDs]
theorem markDs_of {k : Int} {l l' : List DZ} (hl : l'.length = l.length) (h : ∀ i (h : i < l'.length), i < l.length → l'[i] = mkD (mkN k l i) (l.getD i .zero)) : l' = markDs k l := by
  apply List.ext_getElem
  · rw [hl, markDs_length]
  · intro i h1 h2
    rw [markDs_get]
    exact h i h1 (by omega)
theorem mkN_next {k : Int} {l : List DZ} {j : Nat} (h : j < l.length) : mkN k l (j + 1) = mkN k l j + 1 + 1 + 2 * l[j].k.length + 2 * l[j].m.length := by
  unfold mkN
  rw [sizeC_next h]; omega
end Go.Proofs.YtdfhfebcbmolbaaGreatDoor
namespace Go.Proofs.YtdfhfebcbmolbaaGreatDoor
open Go.ChangeShapes Go.WideShapes Go.ChangeAt Go.RowKit Go.Joins Go.Deep
set_option maxRecDepth 8000

theorem listD_of {P : Nat → DZ → Prop} : ∀ n : Nat, (∀ i, i < n → ∃ x, P i x) → ∃ l : List DZ, l.length = n ∧ ∀ i (h : i < l.length), P i l[i]
  | 0, _ => ⟨[], rfl, fun i h => by simp at h⟩
  | n + 1, hP => by
    obtain ⟨l, hl, h⟩ := listD_of n (fun i hi => hP i (by omega))
    obtain ⟨x, hx⟩ := hP n (by omega)
    refine ⟨l ++ [x], by simp [hl], fun i hi => ?_⟩
    simp at hi
    by_cases hn : i < l.length
    · rw [List.getElem_append_left hn]; exact h i hn
    · have : i = l.length := by omega
      subst this
      simp [hl]
      exact hx
section
variable {H : Type} {enc : TypeId × Value → H} {w : World} {base : Nat} {held : Bool}
end
end Go.Proofs.YtdfhfebcbmolbaaGreatDoor
