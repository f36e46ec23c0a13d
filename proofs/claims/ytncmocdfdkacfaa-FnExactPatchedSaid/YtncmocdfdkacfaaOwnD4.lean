/- Lists of disks that own all their memory: one of them is replaced by a new one. -/
import Derived.Test.YtncmocdfdkacfaaOwnD3
namespace Go.Proofs.Ytncmocdfdkacfaa
open Go.ChangeShapes Go.WideShapes Go.ChangeAt Go.RowKit

def set4At (w : World) (g o : Nat) (x0 x1 x2 x3 : Value) : World := (((w.setCell ⟨g, o, none⟩ x0).setCell ⟨g, o + 1, none⟩ x1).setCell ⟨g, o + 2, none⟩ x2).setCell ⟨g, o + 3, none⟩ x3
theorem gset4At {a w : World} {g o : Nat} (h : a.grownBy w (some g)) (x0 x1 x2 x3 : Value) : a.grownBy (set4At w g o x0 x1 x2 x3) (some g) := gset (gset (gset (gset h _ _) _ _) _ _) _ _
theorem set4At_block (w : World) (g o k : Nat) (x0 x1 x2 x3 : Value) (h : k ≠ g) : (set4At w g o x0 x1 x2 x3).heap[k]? = w.heap[k]? := by
  unfold set4At
  rw [Below.heap_setCell _ _ _ k h, Below.heap_setCell _ _ _ k h, Below.heap_setCell _ _ _ k h, Below.heap_setCell _ _ _ k h]
section
variable {w w1 : World} {base n cap g : Nat} {l : List DZ} {raw : List DV}
theorem own_set4 (h : Own diskE w base (.slice (some ⟨g, 0, none⟩) n cap) raw) (i : Nat) (hi : i < raw.length) (r : DV) :
    Own diskE (set4At w g (i * 4) (.int .i64 r.n) (.bool r.dead) r.kv r.nv) base (.slice (some ⟨g, 0, none⟩) n cap) (raw.set i r) := by
  have h1 := Own.setAt h i 0 (.int .i64 r.n) (raw[i].num r.n) hi (by decide) rfl
  have hi1 : i < (raw.set i (raw[i].num r.n)).length := by simpa using hi
  have h2 := Own.setAt h1 i 1 (.bool r.dead) ((raw[i].num r.n).lives r.dead) hi1 (by decide) (by simp [diskE, DV.kv, DV.nv, DV.lives, DV.num])
  rw [List.set_set] at h2
  have hi2 : i < (raw.set i ((raw[i].num r.n).lives r.dead)).length := by simpa using hi
  have h3 := Own.setAt h2 i 2 r.kv (((raw[i].num r.n).lives r.dead).kept r.ka r.km r.kc) hi2 (by decide) (by simp [diskE, DV.kv, DV.nv, DV.lives, DV.num, DV.kept])
  rw [List.set_set] at h3
  have hi3 : i < (raw.set i (((raw[i].num r.n).lives r.dead).kept r.ka r.km r.kc)).length := by simpa using hi
  have h4 := Own.setAt h3 i 3 r.nv r hi3 (by decide) (by simp [diskE, DV.kv, DV.nv, DV.lives, DV.num, DV.kept])
  rw [List.set_set] at h4
  exact h4
/-- disk i is replaced by a disk of new memory -/
theorem OD.replaced (h : OD w base (.slice (some ⟨g, 0, none⟩) n cap) l raw) (i : Nat) (hi : i < raw.length) (r : DV) (d : DZ) (g1 : w.grownBy w1 none) (hd : r.Is w1 base d) (hs : Apart r.kv r.nv) (hnew : ∀ k, r.has k → w.heap.size ≤ k) :
    OD (set4At w1 g (i * 4) (.int .i64 r.n) (.bool r.dead) r.kv r.nv) base (.slice (some ⟨g, 0, none⟩) n cap) (l.set i d) (raw.set i r) := by
  have hgl := (h.own.lt g rfl).2
  have hr0 : ∀ k, r.has k → k ≠ g := fun k hk e => by have := hnew k hk; omega
  refine (h.grew g1).upd i hi r d (own_set4 (h.grew g1).own i hi r) ⟨hd.n, hd.dead, Own.same hd.isD.1 (fun k e => set4At_block _ _ _ k _ _ _ _ (hr0 k (.inl e))), Own.same hd.isD.2 (fun k e => set4At_block _ _ _ k _ _ _ _ (hr0 k (.inr e)))⟩ hs
    (fun k hk => ⟨fun e => hr0 k hk (by cases e; rfl), fun j hj _ x => by have := (h.in j hj k x).2; have := hnew k hk; omega⟩)
    (fun j hj k _ x => set4At_block _ _ _ k _ _ _ _ (fun e => h.out j hj k x (by rw [e]; rfl)))
end
end Go.Proofs.Ytncmocdfdkacfaa
