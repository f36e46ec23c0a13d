/- Plain mathematics of disks: what is made or written is right. -/
import Derived.Test.YtncmocdfdkacfaaBaseL03
import Derived.Test.YtncmocdfdkacfaaLawL02
namespace Go.Proofs.Ytncmocdfdkacfaa
open Go.ChangeShapes Go.WideShapes Go.ChangeAt Go.RowKit

theorem cof_ok (n p v : Int) : cellOkZ (cofV n p v) (cofS n p v) = true := by
  by_cases hs : sumZ n p v < 0
  · simp [cofV, cofS, hs, cellOkZ, inB]
  · obtain ⟨h1, h2, h3, _⟩ := cof_good hs
    rw [h1, h2]; simp [goodZ] at h3; exact h3.1
theorem newL_ok (n : Int) (p : Nat) : (newL n p).all okc = true := by
  rw [List.all_eq_true]; intro x hx
  simp only [newL, List.mem_map] at hx
  obtain ⟨i, _, rfl⟩ := hx
  exact cof_ok _ _ _
theorem newD_ok {n p : Int} (h : newOk n p = true) : (newD n p).ok = true := by
  have h' := h
  simp only [newOk, Bool.and_eq_true] at h'
  have hp := inB_iff.1 h'.2
  simp only [newD, h, if_true, DZ.ok, h'.1, Bool.true_and]
  have hl : inB ((newL n p.toNat).length : Int) 1 16 = true := by rw [newL_length]; exact inB_yes (by omega) (by omega)
  simp [cellsZ, newL_ok, hl]
theorem DZ.ok_n {d : DZ} (h : d.ok = true) : inB d.n 0 4 = true := by unfold DZ.ok at h; simp at h; exact h.1
theorem DZ.died_ok {d : DZ} (h : d.ok = true) : d.died.ok = true := by
  rw [DZ.died, if_pos h]; simp [DZ.ok, d.ok_n h]
theorem DZ.died_cant (d : DZ) (p : Int) : d.died.canRead p = false := by
  unfold DZ.died; split
  · simp [DZ.canRead, DZ.can]
  · simp [DZ.canRead, DZ.ok, DZ.zero, cellsZ, inB]
theorem DZ.put_ok {d : DZ} {p v : Int} (h : d.ok = true) (hm : d.may p v = true) : (d.put p v).ok = true := by
  have hd : d.dead = false := by simp [DZ.may] at hm; exact hm.1
  have h' := h
  simp only [DZ.ok, hd, Bool.and_eq_true, Bool.false_eq_true, if_false, cellsZ] at h'
  obtain ⟨h1, ⟨h2, h3⟩, ⟨h4, h5⟩, h6⟩ := h'
  have h7 : (d.m.set p.toNat (cofV d.n p v, cofS d.n p v)).all okc = true := by
    rw [List.all_eq_true]; intro x hx
    rcases List.mem_or_eq_of_mem_set hx with hx | rfl
    · exact List.all_eq_true.1 h4 x hx
    · exact cof_ok _ _ _
  simp only [DZ.put, hm, if_true, DZ.ok, hd, cellsZ, h1, h2, h3, h7, List.length_set, h5, h6, Bool.false_eq_true, if_false, Bool.and_self]
end Go.Proofs.Ytncmocdfdkacfaa
