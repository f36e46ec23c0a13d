/- What the specification's functions of chapter 3 return: new disks. -/
import Derived.Test.YtncmocdfdkacfaaSpecL03
import Derived.Deep.RegionLaw
namespace Go.Proofs.Ytncmocdfdkacfaa
open Go.ChangeShapes Go.WideShapes Go.ChangeAt Go.RowKit

/-- the loop of l3New -/
structure NewS (w wr : World) (n : Int) (i j : Nat) (kv nv : Value) : Prop where
  box : DBox wr (w.heap.size + 1) (w.heap.size + 2) ⟨n, false, newL n i, newL n j⟩ kv nv
  zero : Zero4 wr w.heap.size
  grew : w.grownBy wr none
theorem NewS.kept {w wr w2 : World} {n : Int} {i j : Nat} {kv nv : Value} (h : NewS w wr n i j kv nv) (g : wr.grownBy w2 none) : NewS w w2 n i j kv nv := ⟨h.box.kept g, h.zero.kept g (by simp), gtrans h.grew g⟩
theorem NewS.drew {w wr : World} {n : Int} {i j : Nat} {kv nv : Value} (h : NewS w wr n i j kv nv) : NewS w wr.drew n i j kv nv := h.kept (gdrew (grefl _) 1)
theorem NewS.app2 {w wr w2 : World} {n : Int} {i j : Nat} {kv nv v : Value} (h : NewS w wr n i j kv nv) (g : wr.grownBy w2 kv.ownBlock) (hv : CS w2 (w.heap.size + 2) v (newL n i ++ [(cofV n i 0, cofS n i 0)])) (hat : v.ownBlock = kv.ownBlock ∨ v.ownBlock = some wr.heap.size) :
    NewS w (w2.setCell ⟨w.heap.size + 1, 2, none⟩ v) n (i + 1) j v nv := by
  have hb := h.box.app2 g hv hat
  dsimp only at hb
  rw [← newL_succ] at hb
  exact ⟨hb, (h.zero.kept g (fun e => by have := (h.box.ks.lt _ e).1; omega)).other (by omega) _, gset1 (gsub h.grew g fun k e => by have := (h.box.ks.lt k e).1; omega) (by omega) _ _⟩
theorem NewS.app3 {w wr w2 : World} {n : Int} {i j : Nat} {kv nv v : Value} (h : NewS w wr n i j kv nv) (g : wr.grownBy w2 nv.ownBlock) (hv : CS w2 (w.heap.size + 2) v (newL n j ++ [(cofV n j 0, cofS n j 0)])) (hat : v.ownBlock = nv.ownBlock ∨ v.ownBlock = some wr.heap.size) :
    NewS w (w2.setCell ⟨w.heap.size + 1, 3, none⟩ v) n i (j + 1) kv v := by
  have hb := h.box.app3 g hv hat
  dsimp only at hb
  rw [← newL_succ] at hb
  exact ⟨hb, (h.zero.kept g (fun e => by have := (h.box.ns.lt _ e).1; omega)).other (by omega) _, gset1 (gsub h.grew g fun k e => by have := (h.box.ns.lt k e).1; omega) (by omega) _ _⟩
end Go.Proofs.Ytncmocdfdkacfaa
