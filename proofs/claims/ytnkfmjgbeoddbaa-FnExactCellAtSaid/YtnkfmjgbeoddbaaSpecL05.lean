/- The layout of chapter 5, as plain mathematics. What the specification's functions of chapter 5 return, for every argument. What the program's functions of chapter 5 return: closures over the number of disks. -/
import Derived.Test.YtnkfmjgbeoddbaaBase
import Derived.IntWalk
import Derived.Test.YtnkfmjgbeoddbaaSpecL01
import Derived.BigQuiet
import Derived.Test.YtnkfmjgbeoddbaaMem
import Derived.Deep.DeepFit
import Derived.Laws.EntriesVeiled
import Derived.Deep.RegionHeld3
namespace Go.Proofs.Ytnkfmjgbeoddbaa
open Go.ChangeShapes Go.WideShapes Go.ChangeAt Go.RowKit

def extraZ (n r : Int) : Int := if inB n 3 5 = true ∧ inB r 0 15 = true then (n - 1 - r) % n else -1
def rowZ (n l : Int) : Int := if inB n 3 5 = true ∧ inB l 0 (16 * (n - 1) - 1) = true then l / (n - 1) else -1
def diskZ (n l : Int) : Int := if inB n 3 5 = true ∧ inB l 0 (16 * (n - 1) - 1) = true then ((n - 1 - l / (n - 1)) % n + 1 + l % (n - 1)) % n else -1
def logZ (n d r : Int) : Int := if inB n 3 5 = true ∧ inB r 0 15 = true ∧ inB d 0 (n - 1) = true ∧ d ≠ (n - 1 - r) % n then r * (n - 1) + (d - (n - 1 - r) % n - 1 + n) % n else -1
def roomZ (n r : Int) : Int := if inB n 3 5 = true ∧ inB r 1 16 = true then (n - 1) * r else -1
theorem three {n : Int} (h : inB n 3 5 = true) : n = 3 ∨ n = 4 ∨ n = 5 := by have := inB_iff.1 h; omega
theorem tmod2 (a n : Int) (hn : 0 < n) : Int.tmod (Int.tmod a n + n) n = a % n := by
  have h1 := Int.tmod_def a n
  have h0 : -n < Int.tmod a n := by
    have := Int.tmod_lt_of_pos (-a) hn
    rw [Int.neg_tmod] at this; omega
  rw [Int.tmod_eq_emod_of_nonneg (by omega), Int.add_emod_right]
  rw [h1, Int.sub_mul_emod_self_left]
theorem tmod_in (a n : Int) (hn : 0 < n) : -n < Int.tmod a n ∧ Int.tmod a n < n := by
  have h0 := Int.tmod_lt_of_pos (-a) hn
  rw [Int.neg_tmod] at h0
  exact ⟨by omega, Int.tmod_lt_of_pos a hn⟩
theorem tmod2w (a n : Int) (hn : 0 < n) (h9 : n ≤ 5) : Int.tmod (wrap64 (Int.tmod a n + n)) n = a % n := by
  have h := tmod_in a n hn
  rw [IntWalk.wrap64_in _ (by omega)]
  exact tmod2 a n hn
theorem extraZ_no {n r : Int} (h : inB n 3 5 = false ∨ inB r 0 15 = false) : extraZ n r = -1 := by
  unfold extraZ; rw [if_neg]; rintro ⟨h1, h2⟩; rcases h with h | h <;> simp_all
theorem extraZ_yes {n r : Int} (h1 : inB n 3 5 = true) (h2 : inB r 0 15 = true) : extraZ n r = (n - 1 - r) % n := by unfold extraZ; rw [if_pos ⟨h1, h2⟩]
theorem rowZ_no {n l : Int} (h : inB n 3 5 = false ∨ inB l 0 (16 * (n - 1) - 1) = false) : rowZ n l = -1 := by
  unfold rowZ; rw [if_neg]; rintro ⟨h1, h2⟩; rcases h with h | h <;> simp_all
theorem rowZ_yes {n l : Int} (h1 : inB n 3 5 = true) (h2 : inB l 0 (16 * (n - 1) - 1) = true) : rowZ n l = l / (n - 1) := by unfold rowZ; rw [if_pos ⟨h1, h2⟩]
theorem diskZ_no {n l : Int} (h : inB n 3 5 = false ∨ inB l 0 (16 * (n - 1) - 1) = false) : diskZ n l = -1 := by
  unfold diskZ; rw [if_neg]; rintro ⟨h1, h2⟩; rcases h with h | h <;> simp_all
theorem diskZ_yes {n l : Int} (h1 : inB n 3 5 = true) (h2 : inB l 0 (16 * (n - 1) - 1) = true) : diskZ n l = ((n - 1 - l / (n - 1)) % n + 1 + l % (n - 1)) % n := by unfold diskZ; rw [if_pos ⟨h1, h2⟩]
theorem logZ_no {n d r : Int} (h : inB n 3 5 = false ∨ inB r 0 15 = false ∨ inB d 0 (n - 1) = false ∨ d = (n - 1 - r) % n) : logZ n d r = -1 := by
  unfold logZ; rw [if_neg]; rintro ⟨h1, h2, h3, h4⟩; rcases h with h | h | h | h <;> simp_all
theorem logZ_yes {n d r : Int} (h1 : inB n 3 5 = true) (h2 : inB r 0 15 = true) (h3 : inB d 0 (n - 1) = true) (h4 : d ≠ (n - 1 - r) % n) : logZ n d r = r * (n - 1) + (d - (n - 1 - r) % n - 1 + n) % n := by unfold logZ; rw [if_pos ⟨h1, h2, h3, h4⟩]
theorem roomZ_no {n r : Int} (h : inB n 3 5 = false ∨ inB r 1 16 = false) : roomZ n r = -1 := by
  unfold roomZ; rw [if_neg]; rintro ⟨h1, h2⟩; rcases h with h | h <;> simp_all
theorem roomZ_yes {n r : Int} (h1 : inB n 3 5 = true) (h2 : inB r 1 16 = true) : roomZ n r = (n - 1) * r := by unfold roomZ; rw [if_pos ⟨h1, h2⟩]
/-- what a logical place that is there has -/
theorem layout_at {n l : Int} (h1 : inB n 3 5 = true) (h2 : inB l 0 (16 * (n - 1) - 1) = true) :
    0 ≤ rowZ n l ∧ rowZ n l ≤ 15 ∧ 0 ≤ diskZ n l ∧ diskZ n l < n ∧ logZ n (diskZ n l) (rowZ n l) = l ∧ diskZ n l ≠ extraZ n (rowZ n l) ∧ extraZ n (rowZ n l) = (n - 1 - rowZ n l) % n := by
  have b := inB_iff.1 h2
  rw [rowZ_yes h1 h2, diskZ_yes h1 h2]
  rcases three h1 with rfl | rfl | rfl
  · have h3 : inB (l / (3 - 1)) 0 15 = true := inB_yes (by omega) (by omega)
    rw [extraZ_yes h1 h3]
    refine ⟨by omega, by omega, by omega, by omega, ?_, by omega, rfl⟩
    rw [logZ_yes h1 h3 (inB_yes (by omega) (by omega)) (by omega)]
    omega
  · have h3 : inB (l / (4 - 1)) 0 15 = true := inB_yes (by omega) (by omega)
    rw [extraZ_yes h1 h3]
    refine ⟨by omega, by omega, by omega, by omega, ?_, by omega, rfl⟩
    rw [logZ_yes h1 h3 (inB_yes (by omega) (by omega)) (by omega)]
    omega
  · have h3 : inB (l / (5 - 1)) 0 15 = true := inB_yes (by omega) (by omega)
    rw [extraZ_yes h1 h3]
    refine ⟨by omega, by omega, by omega, by omega, ?_, by omega, rfl⟩
    rw [logZ_yes h1 h3 (inB_yes (by omega) (by omega)) (by omega)]
    omega
/-- what a cell that is no parity cell has -/
theorem layout_of {n d r : Int} (h1 : inB n 3 5 = true) (h2 : inB r 0 15 = true) (h3 : inB d 0 (n - 1) = true) (h4 : d ≠ (n - 1 - r) % n) :
    0 ≤ logZ n d r ∧ inB (logZ n d r) 0 (16 * (n - 1) - 1) = true ∧ diskZ n (logZ n d r) = d ∧ rowZ n (logZ n d r) = r := by
  have b := inB_iff.1 h2
  have c := inB_iff.1 h3
  rw [logZ_yes h1 h2 h3 h4]
  rcases three h1 with rfl | rfl | rfl
  · have h5 : inB (r * (3 - 1) + (d - (3 - 1 - r) % 3 - 1 + 3) % 3) 0 (16 * (3 - 1) - 1) = true := inB_yes (by omega) (by omega)
    have hi : (d - (3 - 1 - r) % 3 - 1 + 3) % 3 ≤ 1 := by omega
    have q1 : (r * (3 - 1) + (d - (3 - 1 - r) % 3 - 1 + 3) % 3) / (3 - 1) = r := by omega
    have q2 : (r * (3 - 1) + (d - (3 - 1 - r) % 3 - 1 + 3) % 3) % (3 - 1) = (d - (3 - 1 - r) % 3 - 1 + 3) % 3 := by omega
    refine ⟨by omega, h5, ?_, ?_⟩
    · rw [diskZ_yes h1 h5, q1, q2]; omega
    · rw [rowZ_yes h1 h5, q1]
  · have h5 : inB (r * (4 - 1) + (d - (4 - 1 - r) % 4 - 1 + 4) % 4) 0 (16 * (4 - 1) - 1) = true := inB_yes (by omega) (by omega)
    have hi : (d - (4 - 1 - r) % 4 - 1 + 4) % 4 ≤ 2 := by omega
    have q1 : (r * (4 - 1) + (d - (4 - 1 - r) % 4 - 1 + 4) % 4) / (4 - 1) = r := by omega
    have q2 : (r * (4 - 1) + (d - (4 - 1 - r) % 4 - 1 + 4) % 4) % (4 - 1) = (d - (4 - 1 - r) % 4 - 1 + 4) % 4 := by omega
    refine ⟨by omega, h5, ?_, ?_⟩
    · rw [diskZ_yes h1 h5, q1, q2]; omega
    · rw [rowZ_yes h1 h5, q1]
  · have h5 : inB (r * (5 - 1) + (d - (5 - 1 - r) % 5 - 1 + 5) % 5) 0 (16 * (5 - 1) - 1) = true := inB_yes (by omega) (by omega)
    have hi : (d - (5 - 1 - r) % 5 - 1 + 5) % 5 ≤ 3 := by omega
    have q1 : (r * (5 - 1) + (d - (5 - 1 - r) % 5 - 1 + 5) % 5) / (5 - 1) = r := by omega
    have q2 : (r * (5 - 1) + (d - (5 - 1 - r) % 5 - 1 + 5) % 5) % (5 - 1) = (d - (5 - 1 - r) % 5 - 1 + 5) % 5 := by omega
    refine ⟨by omega, h5, ?_, ?_⟩
    · rw [diskZ_yes h1 h5, q1, q2]; omega
    · rw [rowZ_yes h1 h5, q1]
theorem extraZ_in {n r : Int} (h1 : inB n 3 5 = true) : 0 ≤ (n - 1 - r) % n ∧ (n - 1 - r) % n < n := by
  rcases three h1 with rfl | rfl | rfl <;> omega
end Go.Proofs.Ytnkfmjgbeoddbaa
namespace Go.Proofs.Ytnkfmjgbeoddbaa
open Go.ChangeShapes Go.WideShapes Go.ChangeAt Go.RowKit

theorem l5N_any (n : Int) (w : World) :
    Calls Try.prog 75 #[.int .i64 n] w fun e w' => e = .returned (.bool (inB n 3 5)) ∧ w = w' := by
  go_enter Try.func75, Try.ntmps75
  go_wp2_with fail
  go_fit (l1In_any _ _ _ _)
  rintro e w' ⟨rfl, rfl⟩
  go_wp2_with fail
  go_ret
  exact ⟨rfl, rfl⟩
end Go.Proofs.Ytnkfmjgbeoddbaa
namespace Go.Proofs.Ytnkfmjgbeoddbaa
open Go.ChangeShapes Go.WideShapes Go.ChangeAt Go.RowKit

abbrev ptr (b : Nat) : Value := .pointer (some ⟨b, 0, none⟩)
/-- a variable that holds v -/
abbrev Var (w : World) (b : Nat) (v : Value) : Prop := w.cell? ⟨b, 0, none⟩ = some v
theorem Var.new (w : World) (v : Value) (T : Nat) : Var (w.alloc (.cells #[v] T)) w.heap.size v := by simp [Var, go_sem]
/-- a new variable that is given its value -/
theorem At.new (w : World) (v : Value) (T : Nat) : At (w.alloc (.cells #[v] T)) w.heap.size 0 v := by simp [At, go_sem]
theorem Var.set {w : World} {b : Nat} {v : Value} (h : At w b 0 v) (u : Value) : Var (w.setCell ⟨b, 0, none⟩ u) b u := by simp [Var, go_sem, h.1]
theorem Var.set2 {w : World} {b c : Nat} {v : Value} (h : Var w b v) (hb : b ≠ c) (u : Value) : Var (w.setCell ⟨c, 0, none⟩ u) b v :=
  (World.cell?_of_block (w := w) (Below.heap_setCell w ⟨c, 0, none⟩ u b hb)).trans h
theorem room16 {n : Int} (h1 : inB n 3 5 = true) : roomZ n 16 = (n - 1) * 16 := roomZ_yes h1 (inB_yes (by omega) (by omega))
end Go.Proofs.Ytnkfmjgbeoddbaa
