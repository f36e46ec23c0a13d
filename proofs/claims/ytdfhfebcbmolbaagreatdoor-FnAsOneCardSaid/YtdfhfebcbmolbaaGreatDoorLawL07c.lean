/- What a law that marks lists of disks wants: lists that lie elsewhere stay; the lists of Patched are small. -/
import Derived.Test.YtdfhfebcbmolbaaGreatDoorLawL06b
import Derived.Test.YtdfhfebcbmolbaaGreatDoorSpecL07d
import Derived.Test.YtdfhfebcbmolbaaGreatDoorBaseL03
namespace Go.Proofs.YtdfhfebcbmolbaaGreatDoor
open Go.ChangeShapes Go.WideShapes Go.ChangeAt Go.RowKit Go.Joins Go.Deep

theorem OD.away {S : Nat → Prop} {w w' : World} {base T : Nat} {v : Value} {l : List DZ} {raw : List DV} (h : OD w base v l raw) (O : Only S w w') (hT1 : ∀ i (hi : i < raw.length) b, raw[i].has b → b < T) (hT2 : ∀ b, v.ownBlock = some b → b < T) (hS : ∀ k, S k → k < base ∨ T ≤ k) : OD w' base v l raw := by
  have hb : ∀ i (hi : i < raw.length) k, raw[i].has k → w'.heap[k]? = w.heap[k]? := fun i hi k hk => O.block k (h.in i hi k hk).2 (fun s => by have := hS k s; have := (h.in i hi k hk).1; have := hT1 i hi k hk; omega)
  exact ⟨Own.same h.own (fun k e => O.block k (h.own.lt k e).2 (fun s => by have := hS k s; have := (h.own.lt k e).1; have := hT2 k e; omega)), h.len, fun i a b => ⟨(h.is i a b).n, (h.is i a b).dead, Own.same (h.is i a b).isD.1 (fun k e => hb i a k (.inl e)), Own.same (h.is i a b).isD.2 (fun k e => hb i a k (.inr e))⟩, h.self, h.ap, h.out⟩
/-- its blocks lie below T -/
def Tops (v : Value) (raw : List DV) (T : Nat) : Prop := (∀ i (hi : i < raw.length) b, raw[i].has b → b < T) ∧ ∀ b, v.ownBlock = some b → b < T
theorem OD.tops {w : World} {base : Nat} {v : Value} {l : List DZ} {raw : List DV} (h : OD w base v l raw) : Tops v raw w.heap.size := ⟨fun i hi b hb => (h.in i hi b hb).2, fun b hb => (h.own.lt b hb).2⟩
theorem small_ok {l : List DZ} (h5 : l.length ≤ 5) (h : allOk l) : Small l := by
  have : ∀ (m : List DZ), (∀ d ∈ m, d.ok = true) → sizeC m ≤ 32 * m.length := by
    intro m
    induction m with
    | nil => intro _; simp [sizeC]
    | cons d r ih =>
      intro hm
      have h1 := d.ok_len (hm d (by simp))
      have h2 := ih (fun x hx => hm x (by simp [hx]))
      simp [sizeC]; omega
  have := this l (fun d hd => by obtain ⟨i, hi, rfl⟩ := List.getElem_of_mem hd; exact h i hi)
  unfold Small; omega
theorem patched_small (l : List DZ) (p : PZ) : Small (patchedZ l p) := by
  unfold patchedZ
  split
  · next h =>
    simp only [Bool.and_eq_true] at h
    have h5 : l.length ≤ 5 := by have := h.1; simp only [disksOkZ, Bool.and_eq_true, inB_iff] at this; omega
    exact small_ok (by rw [patchZ, patchK_length]; exact h5) (patchK_ok (fun i hi => disksOk_at h.1 i hi) p _)
  · simp [Small, sizeC]
theorem mkN_b {l : List DZ} (h : Small l) : 0 ≤ mkN 1 l l.length ∧ mkN 1 l l.length ≤ 10000000 := by
  have := h.len
  unfold Small at h; unfold mkN
  rw [List.take_length]; omega
end Go.Proofs.YtdfhfebcbmolbaaGreatDoor
