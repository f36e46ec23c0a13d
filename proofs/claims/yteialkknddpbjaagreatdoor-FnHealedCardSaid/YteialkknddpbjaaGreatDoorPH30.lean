/- What Patched returns, the program's and the specification's. -/
import Derived.Deep.Slices
import Derived.Deep.Fields
import Derived.Deep.DeepFit
import Derived.Deep.DeepCutAuto
import Derived.Deep.RegionLaw
import Derived.Test.YteialkknddpbjaaGreatDoorPH09
import Derived.Test.YteialkknddpbjaaGreatDoorPH14
import Derived.Test.YteialkknddpbjaaGreatDoorPH21
import Derived.Test.YteialkknddpbjaaGreatDoorPH23
import Derived.Test.YteialkknddpbjaaGreatDoorPH27
import Derived.Test.YteialkknddpbjaaGreatDoorPH11
import Derived.Test.YteialkknddpbjaaGreatDoorPH12
import Derived.Test.YteialkknddpbjaaGreatDoorPH06
import Derived.Test.YteialkknddpbjaaGreatDoorPH13
namespace Go.Proofs.YteialkknddpbjaaGreatDoor
open Go.ChangeShapes Go.WideShapes Go.ChangeAt Go.RowKit
attribute [local go_sem] as_one_one as_two_one as_two_two as_nil_one as_nil_two

end Go.Proofs.YteialkknddpbjaaGreatDoor
namespace Go.Proofs.YteialkknddpbjaaGreatDoor
open Go.ChangeShapes Go.WideShapes Go.ChangeAt Go.RowKit

end Go.Proofs.YteialkknddpbjaaGreatDoor
namespace Go.Proofs.YteialkknddpbjaaGreatDoor

section
variable {l : List DZ} {d e : Nat} (hd : d < l.length) (he : e < l.length) (hne : d ≠ e) (x s : Int)
include hd he hne
end
end Go.Proofs.YteialkknddpbjaaGreatDoor
namespace Go.Proofs.YteialkknddpbjaaGreatDoor
open Go.ChangeShapes Go.WideShapes Go.ChangeAt Go.RowKit

end Go.Proofs.YteialkknddpbjaaGreatDoor
namespace Go.Proofs.YteialkknddpbjaaGreatDoor
open Go.ChangeShapes Go.WideShapes Go.ChangeAt Go.RowKit

/-- the put of the data cell and the world's growth -/
abbrev PfS (w w' : World) (b : Nat) (d x : Int) : Prop := w'.cell? ⟨b, 0, none⟩ = some (.int .i64 d) ∧ w'.cell? ⟨b, 1, none⟩ = some (.int .i64 x) ∧ w.grownBy w' none
theorem PfS.kept {w w' w2 : World} {b : Nat} {d x : Int} (h : PfS w w' b d x) (g : w'.grownBy w2 none) : PfS w w2 b d x := ⟨gkc g h.1, gkc g h.2.1, gtrans h.2.2 g⟩
end Go.Proofs.YteialkknddpbjaaGreatDoor

namespace Go.Proofs.YteialkknddpbjaaGreatDoor
open Go.ChangeShapes Go.WideShapes Go.ChangeAt Go.RowKit Go.Joins Go.Deep
set_option maxRecDepth 8000

section
variable {H : Type} {enc : TypeId × Value → H} {w : World} {base : Nat} {held : Bool}
end
end Go.Proofs.YteialkknddpbjaaGreatDoor
namespace Go.Proofs.YteialkknddpbjaaGreatDoor
open Go.ChangeShapes Go.WideShapes Go.ChangeAt Go.RowKit Go.Joins Go.Deep

/-- disks that came in -/
def InDisks (w : World) (a : Option Addr) (len : Nat) (l : List DZ) : Prop :=
  len = l.length ∧ l.length ≤ 9223372036854775807 ∧ (l = [] ∨ ∃ b o, a = some ⟨b, o, none⟩ ∧ b < w.heap.size ∧ ∀ i (h : i < l.length), ∃ ka km kc na nm nc, w.cell? ⟨b, o + i * 4, none⟩ = some (.int .i64 l[i].n) ∧ w.cell? ⟨b, o + i * 4 + 1, none⟩ = some (.bool l[i].dead) ∧ w.cell? ⟨b, o + i * 4 + 2, none⟩ = some (.slice ka km kc) ∧ w.cell? ⟨b, o + i * 4 + 3, none⟩ = some (.slice na nm nc) ∧ InDisk w ka km na nm l[i])
theorem InDisks.kept {w w' : World} {a : Option Addr} {len : Nat} {l : List DZ} (h : InDisks w a len l) (g : w.grownBy w' none) : InDisks w' a len l := by
  obtain ⟨h1, h2, h3 | ⟨b, o, ha, hb, hc⟩⟩ := h
  · exact ⟨h1, h2, .inl h3⟩
  · refine ⟨h1, h2, .inr ⟨b, o, ha, by have := g.size; omega, fun i hi => ?_⟩⟩
    obtain ⟨ka, km, kc, na, nm, nc, x0, x1, x2, x3, x4⟩ := hc i hi
    exact ⟨ka, km, kc, na, nm, nc, gkc g x0, gkc g x1, gkc g x2, gkc g x3, x4.kept g⟩
/-- how many cells the disks have -/
def sizeC : List DZ → Nat
  | [] => 0
  | d :: r => d.k.length + d.m.length + sizeC r
theorem sizeC_append (a b : List DZ) : sizeC (a ++ b) = sizeC a + sizeC b := by
  induction a with
  | nil => simp [sizeC]
  | cons x r ih => simp [sizeC, ih]; omega
theorem sizeC_next {l : List DZ} {k : Nat} (h : k < l.length) : sizeC (l.take (k + 1)) = sizeC (l.take k) + (l[k].k.length + l[k].m.length) := by
  rw [List.take_succ_eq_append_getElem h, sizeC_append]; simp [sizeC]
theorem sizeC_take (l : List DZ) (k : Nat) : sizeC (l.take k) ≤ sizeC l := by
  have := sizeC_append (l.take k) (l.drop k)
  rw [List.take_append_drop] at this; omega
/-- they are not too many -/
def Small (l : List DZ) : Prop := l.length + sizeC l ≤ 1048576
theorem Small.at {l : List DZ} (h : Small l) (i : Nat) (hi : i < l.length) : l[i].k.length ≤ 1048576 ∧ l[i].m.length ≤ 1048576 := by
  have h1 := sizeC_next hi
  have h2 := sizeC_take l (i + 1)
  unfold Small at h; omega
theorem Small.len {l : List DZ} (h : Small l) : l.length ≤ 1048576 := by unfold Small at h; omega
def zeroV : DV := ⟨0, false, none, 0, 0, none, 0, 0⟩
theorem made_disks (n : Nat) : (madeCells diskE.z.cells (n * 4)).toList = diskE.all (List.replicate n zeroV) := by
  apply List.ext_getElem?
  intro i
  by_cases hi : i < n * 4
  · have h2 := diskE_all (List.replicate n zeroV) (i / 4) (by simp; omega) (i % 4) (by omega)
    rw [show i / 4 * 4 + i % 4 = i by omega] at h2
    rw [h2]
    simp [madeCells, hi]
    rcases (show i % 4 = 0 ∨ i % 4 = 1 ∨ i % 4 = 2 ∨ i % 4 = 3 by omega) with e | e | e | e <;> simp [e, diskE, Value.cells, zeroV, DV.kv, DV.nv]
  · rw [List.getElem?_eq_none (by rw [Array.length_toList, size_madeCells]; omega), List.getElem?_eq_none (by rw [Elt.all_length]; simp [diskE]; omega)]
def zeroD (n : Nat) : Array Value := madeCells diskE.z.cells (n * 4)
theorem OD.made (w : World) (n : Nat) (hn : n ≤ 1048576) : OD (w.alloc (.cells (zeroD n) 37)) w.heap.size (.slice (some ⟨w.heap.size, 0, none⟩) n n) (List.replicate n .zero) (List.replicate n zeroV) := by
  have h1 := Own.fresh diskE w (List.replicate n zeroV) _ (made_disks n) (by simp; omega) (Nat.le_refl w.heap.size)
  rw [List.length_replicate] at h1
  have hno : ∀ k, ¬ zeroV.has k := fun k h => by rcases h with h | h <;> simp [zeroV, DV.kv, DV.nv, Value.ownBlock] at h
  refine ⟨h1, by simp, fun i a b => ?_, fun i a => ?_, fun i j a b k x y => ?_, fun i a k x => ?_⟩
  · simp only [List.getElem_replicate]; exact ⟨rfl, rfl, CS.nil _ _, CS.nil _ _⟩
  · simp only [List.getElem_replicate]; exact .inl rfl
  · simp only [List.getElem_replicate] at x; exact absurd x (hno k)
  · simp only [List.getElem_replicate] at x; exact absurd x (hno k)
/-- disk i is replaced by a new one -/
theorem OD.fresh {w w2 : World} {base n cap g : Nat} {l : List DZ} {raw : List DV} (h : OD w base (.slice (some ⟨g, 0, none⟩) n cap) l raw) (i : Nat) (hi : i < raw.length) (g2 : w.grownBy w2 none) (hb : base ≤ w.heap.size) (d : DZ) (ka : Option Addr) (km kc : Nat) (na : Option Addr) (nm nc : Nat)
    (hd : IsD w2 w.heap.size (.slice ka km kc) (.slice na nm nc) d) (hs : Apart (.slice ka km kc) (.slice na nm nc)) :
    OD (set4o w2 g (i * 4) (.int .i64 d.n) (.bool d.dead) (.slice ka km kc) (.slice na nm nc)) base (.slice (some ⟨g, 0, none⟩) n cap) (l.set i d) (raw.set i ⟨d.n, d.dead, ka, km, kc, na, nm, nc⟩) := by
  have hg := (h.own.lt g rfl)
  refine (h.grew g2).put i hi ⟨d.n, d.dead, ka, km, kc, na, nm, nc⟩ d ⟨rfl, rfl, ⟨hd.1.lower hb, hd.2.lower hb⟩⟩ hs fun k hk => ?_
  have hk' : w.heap.size ≤ k := by
    rcases hk with hk | hk
    · exact (hd.1.lt k hk).1
    · exact (hd.2.lt k hk).1
  exact ⟨by omega, fun j hj _ x => by have := (h.in j hj k x).2; omega⟩
end Go.Proofs.YteialkknddpbjaaGreatDoor
namespace Go.Proofs.YteialkknddpbjaaGreatDoor
open Go.ChangeShapes Go.WideShapes Go.ChangeAt Go.RowKit Go.Joins Go.Deep

end Go.Proofs.YteialkknddpbjaaGreatDoor
namespace Go.Proofs.YteialkknddpbjaaGreatDoor
open Go.ChangeShapes Go.WideShapes Go.ChangeAt Go.RowKit Go.Joins Go.Deep

end Go.Proofs.YteialkknddpbjaaGreatDoor
namespace Go.Proofs.YteialkknddpbjaaGreatDoor
open Go.ChangeShapes Go.WideShapes Go.ChangeAt Go.RowKit Go.Joins Go.Deep
set_option maxRecDepth 8000

section
variable {H : Type} {enc : TypeId × Value → H} {w : World} {base : Nat} {held : Bool}
end
end Go.Proofs.YteialkknddpbjaaGreatDoor

namespace Go.Proofs.YteialkknddpbjaaGreatDoor
open Go.ChangeShapes Go.WideShapes Go.ChangeAt Go.RowKit Go.Joins Go.Deep

theorem OD.away {S : Nat → Prop} {w w' : World} {base T : Nat} {v : Value} {l : List DZ} {raw : List DV} (h : OD w base v l raw) (O : Only S w w') (hT1 : ∀ i (hi : i < raw.length) b, raw[i].has b → b < T) (hT2 : ∀ b, v.ownBlock = some b → b < T) (hS : ∀ k, S k → k < base ∨ T ≤ k) : OD w' base v l raw := by
  have hb : ∀ i (hi : i < raw.length) k, raw[i].has k → w'.heap[k]? = w.heap[k]? := fun i hi k hk => O.block k (h.in i hi k hk).2 (fun s => by have := hS k s; have := (h.in i hi k hk).1; have := hT1 i hi k hk; omega)
  exact ⟨Own.same h.own (fun k e => O.block k (h.own.lt k e).2 (fun s => by have := hS k s; have := (h.own.lt k e).1; have := hT2 k e; omega)), h.len, fun i a b => ⟨(h.is i a b).n, (h.is i a b).dead, Own.same (h.is i a b).isD.1 (fun k e => hb i a k (.inl e)), Own.same (h.is i a b).isD.2 (fun k e => hb i a k (.inr e))⟩, h.self, h.ap, h.out⟩
/-- its blocks lie below T -/
def Tops (v : Value) (raw : List DV) (T : Nat) : Prop := (∀ i (hi : i < raw.length) b, raw[i].has b → b < T) ∧ ∀ b, v.ownBlock = some b → b < T
theorem OD.tops {w : World} {base : Nat} {v : Value} {l : List DZ} {raw : List DV} (h : OD w base v l raw) : Tops v raw w.heap.size := ⟨fun i hi b hb => (h.in i hi b hb).2, fun b hb => (h.own.lt b hb).2⟩
end Go.Proofs.YteialkknddpbjaaGreatDoor

namespace Go.Proofs.YteialkknddpbjaaGreatDoor
open Go.ChangeShapes Go.WideShapes Go.ChangeAt Go.RowKit

theorem written_put {d : DZ} {p v : Int} (h : d.ok = true) : d.written p v = d.put p v := by simp [DZ.written, h]
/-- what a round of Patched holds on to -/
abbrev PwS (w' : World) (q : Nat) (d x : Int) (b : Nat) (row : Int) (g o : Nat) (y0 y1 y2 y3 : Value) : Prop := w'.cell? ⟨q, 0, none⟩ = some (.int .i64 d) ∧ w'.cell? ⟨q, 1, none⟩ = some (.int .i64 x) ∧ w'.cell? ⟨b, 0, none⟩ = some (.int .i64 row) ∧ (w'.cell? ⟨g, o, none⟩ = some y0 ∧ w'.frozen? ⟨g, o, none⟩ = false) ∧ (w'.cell? ⟨g, o + 1, none⟩ = some y1 ∧ w'.frozen? ⟨g, o + 1, none⟩ = false) ∧ (w'.cell? ⟨g, o + 2, none⟩ = some y2 ∧ w'.frozen? ⟨g, o + 2, none⟩ = false) ∧ (w'.cell? ⟨g, o + 3, none⟩ = some y3 ∧ w'.frozen? ⟨g, o + 3, none⟩ = false)
section
variable {w' w2 : World} {q : Nat} {d x : Int} {b : Nat} {row : Int} {g o : Nat} {y0 y1 y2 y3 : Value}
theorem PwS.drew (s : PwS w' q d x b row g o y0 y1 y2 y3) : PwS w'.drew q d x b row g o y0 y1 y2 y3 := s
theorem PwS.kept (s : PwS w' q d x b row g o y0 y1 y2 y3) (k : w'.grownBy w2 none) : PwS w2 q d x b row g o y0 y1 y2 y3 := ⟨gkc k s.1, gkc k s.2.1, gkc k s.2.2.1, gk k s.2.2.2.1, gk k s.2.2.2.2.1, gk k s.2.2.2.2.2.1, gk k s.2.2.2.2.2.2⟩
end
theorem gkf {W w1 : World} {b o : Nat} {v : Value} (g : W.grownBy w1 none) (h : W.cell? ⟨b, o, none⟩ = some v) (f : W.frozen? ⟨b, o, none⟩ = false) : w1.frozen? ⟨b, o, none⟩ = false := (gk g ⟨h, f⟩).2
end Go.Proofs.YteialkknddpbjaaGreatDoor
