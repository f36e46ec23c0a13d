/- The layout of chapter 5, as plain mathematics. What the specification's functions of chapter 5 return, for every argument. What the program's functions of chapter 5 return: closures over the number of disks. -/
import Derived.Test.YteialkknddpbjaaGreatDoorBase
import Derived.IntWalk
import Derived.Test.YteialkknddpbjaaGreatDoorSpecL01
import Derived.BigQuiet
import Derived.Test.YteialkknddpbjaaGreatDoorMem
import Derived.Deep.DeepFit
import Derived.Laws.EntriesVeiled
import Derived.Deep.RegionHeld3
namespace Go.Proofs.YteialkknddpbjaaGreatDoor
open Go.ChangeShapes Go.WideShapes Go.ChangeAt Go.RowKit

def extraZ (n r : Int) : Int := if inB n 3 5 = true ∧ inB r 0 15 = true then (n - 1 - r) % n else -1
def rowZ (n l : Int) : Int := if inB n 3 5 = true ∧ inB l 0 (16 * (n - 1) - 1) = true then l / (n - 1) else -1
def diskZ (n l : Int) : Int := if inB n 3 5 = true ∧ inB l 0 (16 * (n - 1) - 1) = true then ((n - 1 - l / (n - 1)) % n + 1 + l % (n - 1)) % n else -1
def logZ (n d r : Int) : Int := if inB n 3 5 = true ∧ inB r 0 15 = true ∧ inB d 0 (n - 1) = true ∧ d ≠ (n - 1 - r) % n then r * (n - 1) + (d - (n - 1 - r) % n - 1 + n) % n else -1
def roomZ (n r : Int) : Int := if inB n 3 5 = true ∧ inB r 1 16 = true then (n - 1) * r else -1
theorem three {n : Int} (h : inB n 3 5 = true) : n = 3 ∨ n = 4 ∨ n = 5 := by have := inB_iff.1 h; omega
theorem tmod2 (a n : Int) (hn : 0 < n) : Int.tmod (Int.tmod a n + n) n = a % n := by
  have h1 := Int.tmod_def a n
  have h0 : -n < Int.tmod a n := by
    have := Int.tmod_lt_of_pos (-a) hn
    rw [Int.neg_tmod] at this; omega
  rw [Int.tmod_eq_emod_of_nonneg (by omega), Int.add_emod_right]
  rw [h1, Int.sub_mul_emod_self_left]
theorem tmod_in (a n : Int) (hn : 0 < n) : -n < Int.tmod a n ∧ Int.tmod a n < n := by
  have h0 := Int.tmod_lt_of_pos (-a) hn
  rw [Int.neg_tmod] at h0
  exact ⟨by omega, Int.tmod_lt_of_pos a hn⟩
theorem tmod2w (a n : Int) (hn : 0 < n) (h9 : n ≤ 5) : Int.tmod (wrap64 (Int.tmod a n + n)) n = a % n := by
  have h := tmod_in a n hn
  rw [IntWalk.wrap64_in _ (by omega)]
  exact tmod2 a n hn
theorem extraZ_no {n r : Int} (h : inB n 3 5 = false ∨ inB r 0 15 = false) : extraZ n r = -1 := by
  unfold extraZ; rw [if_neg]; rintro ⟨h1, h2⟩; rcases h with h | h <;> simp_all
theorem extraZ_yes {n r : Int} (h1 : inB n 3 5 = true) (h2 : inB r 0 15 = true) : extraZ n r = (n - 1 - r) % n := by unfold extraZ; rw [if_pos ⟨h1, h2⟩]
theorem rowZ_no {n l : Int} (h : inB n 3 5 = false ∨ inB l 0 (16 * (n - 1) - 1) = false) : rowZ n l = -1 := by
  unfold rowZ; rw [if_neg]; rintro ⟨h1, h2⟩; rcases h with h | h <;> simp_all
theorem rowZ_yes {n l : Int} (h1 : inB n 3 5 = true) (h2 : inB l 0 (16 * (n - 1) - 1) = true) : rowZ n l = l / (n - 1) := by unfold rowZ; rw [if_pos ⟨h1, h2⟩]
theorem diskZ_no {n l : Int} (h : inB n 3 5 = false ∨ inB l 0 (16 * (n - 1) - 1) = false) : diskZ n l = -1 := by
  unfold diskZ; rw [if_neg]; rintro ⟨h1, h2⟩; rcases h with h | h <;> simp_all
theorem diskZ_yes {n l : Int} (h1 : inB n 3 5 = true) (h2 : inB l 0 (16 * (n - 1) - 1) = true) : diskZ n l = ((n - 1 - l / (n - 1)) % n + 1 + l % (n - 1)) % n := by unfold diskZ; rw [if_pos ⟨h1, h2⟩]
theorem logZ_no {n d r : Int} (h : inB n 3 5 = false ∨ inB r 0 15 = false ∨ inB d 0 (n - 1) = false ∨ d = (n - 1 - r) % n) : logZ n d r = -1 := by
  unfold logZ; rw [if_neg]; rintro ⟨h1, h2, h3, h4⟩; rcases h with h | h | h | h <;> simp_all
theorem logZ_yes {n d r : Int} (h1 : inB n 3 5 = true) (h2 : inB r 0 15 = true) (h3 : inB d 0 (n - 1) = true) (h4 : d ≠ (n - 1 - r) % n) : logZ n d r = r * (n - 1) + (d - (n - 1 - r) % n - 1 + n) % n := by unfold logZ; rw [if_pos ⟨h1, h2, h3, h4⟩]
theorem roomZ_no {n r : Int} (h : inB n 3 5 = false ∨ inB r 1 16 = false) : roomZ n r = -1 := by
  unfold roomZ; rw [if_neg]; rintro ⟨h1, h2⟩; rcases h with h | h <;> simp_all
theorem roomZ_yes {n r : Int} (h1 : inB n 3 5 = true) (h2 : inB r 1 16 = true) : roomZ n r = (n - 1) * r := by unfold roomZ; rw [if_pos ⟨h1, h2⟩]
/-- what a logical place that is there has -/
theorem layout_at {n l : Int} (h1 : inB n 3 5 = true) (h2 : inB l 0 (16 * (n - 1) - 1) = true) :
    0 ≤ rowZ n l ∧ rowZ n l ≤ 15 ∧ 0 ≤ diskZ n l ∧ diskZ n l < n ∧ logZ n (diskZ n l) (rowZ n l) = l ∧ diskZ n l ≠ extraZ n (rowZ n l) ∧ extraZ n (rowZ n l) = (n - 1 - rowZ n l) % n := by
  have b := inB_iff.1 h2
  rw [rowZ_yes h1 h2, diskZ_yes h1 h2]
  rcases three h1 with rfl | rfl | rfl
  · have h3 : inB (l / (3 - 1)) 0 15 = true := inB_yes (by omega) (by omega)
    rw [extraZ_yes h1 h3]
    refine ⟨by omega, by omega, by omega, by omega, ?_, by omega, rfl⟩
    rw [logZ_yes h1 h3 (inB_yes (by omega) (by omega)) (by omega)]
    omega
  · have h3 : inB (l / (4 - 1)) 0 15 = true := inB_yes (by omega) (by omega)
    rw [extraZ_yes h1 h3]
    refine ⟨by omega, by omega, by omega, by omega, ?_, by omega, rfl⟩
    rw [logZ_yes h1 h3 (inB_yes (by omega) (by omega)) (by omega)]
    omega
  · have h3 : inB (l / (5 - 1)) 0 15 = true := inB_yes (by omega) (by omega)
    rw [extraZ_yes h1 h3]
    refine ⟨by omega, by omega, by omega, by omega, ?_, by omega, rfl⟩
    rw [logZ_yes h1 h3 (inB_yes (by omega) (by omega)) (by omega)]
    omega
/-- what a cell that is no parity cell has -/
theorem layout_of {n d r : Int} (h1 : inB n 3 5 = true) (h2 : inB r 0 15 = true) (h3 : inB d 0 (n - 1) = true) (h4 : d ≠ (n - 1 - r) % n) :
    0 ≤ logZ n d r ∧ inB (logZ n d r) 0 (16 * (n - 1) - 1) = true ∧ diskZ n (logZ n d r) = d ∧ rowZ n (logZ n d r) = r := by
  have b := inB_iff.1 h2
  have c := inB_iff.1 h3
  rw [logZ_yes h1 h2 h3 h4]
  rcases three h1 with rfl | rfl | rfl
  · have h5 : inB (r * (3 - 1) + (d - (3 - 1 - r) % 3 - 1 + 3) % 3) 0 (16 * (3 - 1) - 1) = true := inB_yes (by omega) (by omega)
    have hi : (d - (3 - 1 - r) % 3 - 1 + 3) % 3 ≤ 1 := by omega
    have q1 : (r * (3 - 1) + (d - (3 - 1 - r) % 3 - 1 + 3) % 3) / (3 - 1) = r := by omega
    have q2 : (r * (3 - 1) + (d - (3 - 1 - r) % 3 - 1 + 3) % 3) % (3 - 1) = (d - (3 - 1 - r) % 3 - 1 + 3) % 3 := by omega
    refine ⟨by omega, h5, ?_, ?_⟩
    · rw [diskZ_yes h1 h5, q1, q2]; omega
    · rw [rowZ_yes h1 h5, q1]
  · have h5 : inB (r * (4 - 1) + (d - (4 - 1 - r) % 4 - 1 + 4) % 4) 0 (16 * (4 - 1) - 1) = true := inB_yes (by omega) (by omega)
    have hi : (d - (4 - 1 - r) % 4 - 1 + 4) % 4 ≤ 2 := by omega
    have q1 : (r * (4 - 1) + (d - (4 - 1 - r) % 4 - 1 + 4) % 4) / (4 - 1) = r := by omega
    have q2 : (r * (4 - 1) + (d - (4 - 1 - r) % 4 - 1 + 4) % 4) % (4 - 1) = (d - (4 - 1 - r) % 4 - 1 + 4) % 4 := by omega
    refine ⟨by omega, h5, ?_, ?_⟩
    · rw [diskZ_yes h1 h5, q1, q2]; omega
    · rw [rowZ_yes h1 h5, q1]
  · have h5 : inB (r * (5 - 1) + (d - (5 - 1 - r) % 5 - 1 + 5) % 5) 0 (16 * (5 - 1) - 1) = true := inB_yes (by omega) (by omega)
    have hi : (d - (5 - 1 - r) % 5 - 1 + 5) % 5 ≤ 3 := by omega
    have q1 : (r * (5 - 1) + (d - (5 - 1 - r) % 5 - 1 + 5) % 5) / (5 - 1) = r := by omega
    have q2 : (r * (5 - 1) + (d - (5 - 1 - r) % 5 - 1 + 5) % 5) % (5 - 1) = (d - (5 - 1 - r) % 5 - 1 + 5) % 5 := by omega
    refine ⟨by omega, h5, ?_, ?_⟩
    · rw [diskZ_yes h1 h5, q1, q2]; omega
    · rw [rowZ_yes h1 h5, q1]
theorem extraZ_in {n r : Int} (h1 : inB n 3 5 = true) : 0 ≤ (n - 1 - r) % n ∧ (n - 1 - r) % n < n := by
  rcases three h1 with rfl | rfl | rfl <;> omega
end Go.Proofs.YteialkknddpbjaaGreatDoor
namespace Go.Proofs.YteialkknddpbjaaGreatDoor
open Go.ChangeShapes Go.WideShapes Go.ChangeAt Go.RowKit

theorem l5N_any (n : Int) (w : World) :
    Calls Tryz.prog 150 #[.int .i64 n] w fun e w' => e = .returned (.bool (inB n 3 5)) ∧ w = w' := by
  go_enter Tryz.func150, Tryz.ntmps150
  go_wp2_with fail
  go_fit (l1In_any _ _ _ _)
  rintro e w' ⟨rfl, rfl⟩
  go_wp2_with fail
  go_ret
  exact ⟨rfl, rfl⟩
theorem specExtraOf_any (n r : Int) (w : World) :
    Calls Tryz.prog 238 #[.int .i64 n, .int .i64 r] w fun e w' => e = .returned (.int .i64 (extraZ n r)) ∧ w = w' := by
  cases h1 : inB n 3 5
  · have HF := Lib.hid (extraZ_no (n := n) (r := r) (.inl h1))
    go_enter Tryz.func238, Tryz.ntmps238
    go_wp2_with fail
    go_fit (l5N_any _ _)
    rintro e w' ⟨rfl, rfl⟩
    go_wp2_with fail
    go_ret
    exact ⟨ret_int HF.out.symm, rfl⟩
  cases h2 : inB r 0 15
  · have HF := Lib.hid (extraZ_no (n := n) (r := r) (.inr h2))
    go_enter Tryz.func238, Tryz.ntmps238
    go_wp2_with fail
    go_fit (l5N_any _ _)
    rintro e w' ⟨rfl, rfl⟩
    go_wp2_with fail
    go_fit (l1Place_any _ _)
    rintro e w' ⟨rfl, rfl⟩
    go_wp2_with fail
    go_ret
    exact ⟨ret_int HF.out.symm, rfl⟩
  obtain ⟨n0, n1⟩ := inB_iff.1 h1
  obtain ⟨r0, r1⟩ := inB_iff.1 h2
  have HF := Lib.hid ((extraZ_yes h1 h2).trans (tmod2w (n - 1 - r) n (by omega) (by omega)).symm)
  go_enter Tryz.func238, Tryz.ntmps238
  go_wp2_with fail
  go_fit (l5N_any _ _)
  rintro e w' ⟨rfl, rfl⟩
  go_wp2_with fail
  go_fit (l1Place_any _ _)
  rintro e w' ⟨rfl, rfl⟩
  go_wp2_with fail
  go_ret
  exact ⟨ret_int HF.out.symm, rfl⟩
theorem specRowOf_any (n l : Int) (w : World) :
    Calls Tryz.prog 168 #[.int .i64 n, .int .i64 l] w fun e w' => e = .returned (.int .i64 (rowZ n l)) ∧ w = w' := by
  cases h1 : inB n 3 5
  · have HF := Lib.hid (rowZ_no (n := n) (l := l) (.inl h1))
    go_enter Tryz.func168, Tryz.ntmps168
    go_wp2_with fail
    go_fit (l5N_any _ _)
    rintro e w' ⟨rfl, rfl⟩
    go_wp2_with fail
    go_ret
    exact ⟨ret_int HF.out.symm, rfl⟩
  obtain ⟨n0, n1⟩ := inB_iff.1 h1
  cases h2 : inB l 0 (16 * (n - 1) - 1)
  · have HF := Lib.hid (rowZ_no (n := n) (l := l) (.inr h2))
    go_enter Tryz.func168, Tryz.ntmps168
    go_wp2_with fail
    go_fit (l5N_any _ _)
    rintro e w' ⟨rfl, rfl⟩
    go_wp2_with fail
    go_fit (l1In_any _ _ _ _)
    rintro e w' ⟨rfl, rfl⟩
    go_wp2_with fail
    go_ret
    exact ⟨ret_int HF.out.symm, rfl⟩
  obtain ⟨r0, r1⟩ := inB_iff.1 h2
  have HF := Lib.hid (rowZ_yes h1 h2)
  go_enter Tryz.func168, Tryz.ntmps168
  go_wp2_with fail
  go_fit (l5N_any _ _)
  rintro e w' ⟨rfl, rfl⟩
  go_wp2_with fail
  go_fit (l1In_any _ _ _ _)
  rintro e w' ⟨rfl, rfl⟩
  go_wp2_with fail
  go_ret
  exact ⟨ret_int HF.out.symm, rfl⟩
theorem specDiskOf_any (n l : Int) (w : World) :
    Calls Tryz.prog 169 #[.int .i64 n, .int .i64 l] w (Pure (.int .i64 (diskZ n l)) w) := by
  by_cases h : rowZ n l < 0
  · have HF : Hid (diskZ n l = -1) := by
      show _ = _
      cases h1 : inB n 3 5
      · exact diskZ_no (.inl h1)
      · cases h2 : inB l 0 (16 * (n - 1) - 1)
        · exact diskZ_no (.inr h2)
        · have := (layout_at h1 h2).1; omega
    go_enter Tryz.func169, Tryz.ntmps169
    go_wp2_with fail
    go_fit (specRowOf_any _ _ _)
    rintro e w' ⟨rfl, rfl⟩
    go_wp2_with fail
    go_ret
    exact ⟨ret_int HF.out.symm, grefl _⟩
  cases h1 : inB n 3 5
  · rw [rowZ_no (.inl h1)] at h; omega
  cases h2 : inB l 0 (16 * (n - 1) - 1)
  · rw [rowZ_no (.inr h2)] at h; omega
  have hl := layout_at h1 h2
  obtain ⟨n0, n1⟩ := inB_iff.1 h1
  obtain ⟨l0, l1⟩ := inB_iff.1 h2
  have he : 0 ≤ (n - 1 - rowZ n l) % n ∧ (n - 1 - rowZ n l) % n < n := ⟨Int.emod_nonneg _ (by omega), Int.emod_lt_of_pos _ (by omega)⟩
  have hm : 0 ≤ l % (n - 1) ∧ l % (n - 1) < n - 1 := ⟨Int.emod_nonneg _ (by omega), Int.emod_lt_of_pos _ (by omega)⟩
  have HF : Hid (diskZ n l = (extraZ n (rowZ n l) + 1 + l % (n - 1)) % n) := by
    show _ = _
    rw [hl.2.2.2.2.2.2, diskZ_yes h1 h2, rowZ_yes h1 h2]
  have HE := hl.2.2.2.2.2.2
  have he0 : 0 ≤ extraZ n (rowZ n l) := by rw [HE]; exact he.1
  have he1 : extraZ n (rowZ n l) < n := by rw [HE]; exact he.2
  clear hl he HE
  obtain ⟨m0, m1⟩ := hm
  have hc : ∀ w, Calls Tryz.prog 238 #[.int .i64 n, .int .i64 (rowZ n l)] w fun e w' => e = .returned (.int .i64 (extraZ n (rowZ n l))) ∧ w = w' := fun w => specExtraOf_any n _ w
  generalize extraZ n (rowZ n l) = E at *
  go_enter Tryz.func169, Tryz.ntmps169
  go_wp2_with fail
  go_fit (specRowOf_any _ _ _)
  rintro e w' ⟨rfl, rfl⟩
  go_wp2_with fail
  go_quiet ((go_at_call 238; go_fit (hc _); rintro e w8 ⟨rfl, rfl⟩; exact ⟨rfl, _, rfl⟩))
  go_wp2_with fail
  go_ret
  exact ⟨ret_int HF.out.symm, gdrew (grefl _) _⟩
end Go.Proofs.YteialkknddpbjaaGreatDoor
namespace Go.Proofs.YteialkknddpbjaaGreatDoor
open Go.ChangeShapes Go.WideShapes Go.ChangeAt Go.RowKit

abbrev ptr (b : Nat) : Value := .pointer (some ⟨b, 0, none⟩)
abbrev fRing (b : Nat) : Value := .func (.func 284) #[] #[ptr b]
abbrev fExtra (b c : Nat) : Value := .func (.func 275) #[] #[ptr b, ptr c]
/-- a variable that holds v -/
abbrev Var (w : World) (b : Nat) (v : Value) : Prop := w.cell? ⟨b, 0, none⟩ = some v
/-- a variable that holds the ring of n -/
def VRing (w : World) (b : Nat) (n : Int) : Prop := ∃ r, Var w b (fRing r) ∧ Var w r (.int .i64 n)
/-- a variable that holds the parity disk's closure for n -/
def VExtra (w : World) (b : Nat) (n : Int) : Prop := ∃ c d, Var w b (fExtra c d) ∧ VRing w c n ∧ Var w d (.int .i64 n)
theorem Var.new (w : World) (v : Value) (T : Nat) : Var (w.alloc (.cells #[v] T)) w.heap.size v := by simp [Var, go_sem]
/-- a new variable that is given its value -/
theorem At.new (w : World) (v : Value) (T : Nat) : At (w.alloc (.cells #[v] T)) w.heap.size 0 v := by simp [At, go_sem]
theorem Var.set {w : World} {b : Nat} {v : Value} (h : At w b 0 v) (u : Value) : Var (w.setCell ⟨b, 0, none⟩ u) b u := by simp [Var, go_sem, h.1]
theorem Var.set2 {w : World} {b c : Nat} {v : Value} (h : Var w b v) (hb : b ≠ c) (u : Value) : Var (w.setCell ⟨c, 0, none⟩ u) b v :=
  (World.cell?_of_block (w := w) (Below.heap_setCell w ⟨c, 0, none⟩ u b hb)).trans h
theorem VRing.kept {w w' : World} {b : Nat} {n : Int} (h : VRing w b n) (g : w.grownBy w' none) : VRing w' b n := by
  obtain ⟨r, h1, h2⟩ := h; exact ⟨r, gkc g h1, gkc g h2⟩
theorem VExtra.kept {w w' : World} {b : Nat} {n : Int} (h : VExtra w b n) (g : w.grownBy w' none) : VExtra w' b n := by
  obtain ⟨c, d, h1, h2, h3⟩ := h; exact ⟨c, d, gkc g h1, h2.kept g, gkc g h3⟩
theorem ring_any (s n : Int) (b : Nat) (w : World) (h : Var w b (.int .i64 n)) (n0 : 3 ≤ n) (n1 : n ≤ 5) :
    Calls Tryz.prog 284 #[.int .i64 s, ptr b] w (Pure (.int .i64 (s % n)) w) := by
  have HF := Lib.hid (tmod2w s n (by omega) (by omega))
  have hh : Var w.drew b (.int .i64 n) := h
  go_enter Tryz.func284, Tryz.ntmps284
  go_wp2_with fail
  go_quiet (fail)
  go_wp2_with fail
  go_ret
  exact ⟨ret_int HF.out, gdrew (grefl _) _⟩
theorem ringOf_any (n : Int) (w : World) :
    Calls Tryz.prog 257 #[.int .i64 n] w fun e w' => ∃ b, e = .returned (fRing b) ∧ Var w' b (.int .i64 n) ∧ w.grownBy w' none := by
  go_enter Tryz.func257, Tryz.ntmps257
  go_wp2_with fail
  go_ret
  exact ⟨w.heap.size, rfl, Var.new _ _ _, galloc (grefl _) _⟩
theorem extraIn_any (n : Int) (w : World) :
    Calls Tryz.prog 249 #[.int .i64 n] w fun e w' => ∃ b c, e = .returned (fExtra b c) ∧ VRing w' b n ∧ Var w' c (.int .i64 n) ∧ w.grownBy w' none := by
  go_enter Tryz.func249, Tryz.ntmps249
  go_wp2_with fail
  go_fit (ringOf_any n _)
  rintro e w1 ⟨b, rfl, h1, g1⟩
  obtain ⟨c0, f0⟩ := At.new w1 .nilFunc 226
  go_wp2_with fail
  go_ret
  exact ⟨_, _, rfl, ⟨b, Var.new _ _ _, gkc (galloc (grefl _) _) h1⟩, gkc (galloc g1 _) (Var.new _ _ _), galloc (gtrans (galloc (grefl _) _) g1) _⟩
theorem extra_any (r n : Int) (b c : Nat) (w : World) (hb : VRing w b n) (hc : Var w c (.int .i64 n)) (n0 : 3 ≤ n) (n1 : n ≤ 5) (r0 : 0 ≤ r) (r1 : r ≤ 15) :
    Calls Tryz.prog 275 #[.int .i64 r, ptr b, ptr c] w (Pure (.int .i64 ((n - 1 - r) % n)) w) := by
  obtain ⟨q, h1, h2⟩ := hb
  go_enter Tryz.func275, Tryz.ntmps275
  go_wp2_with fail
  go_fit (ring_any (n - 1 - r) n q _ h2 n0 n1)
  rintro e w1 ⟨rfl, g1⟩
  go_wp2_with fail
  go_ret
  exact ⟨rfl, g1⟩
abbrev fData (b c : Nat) : Value := .func (.func 258) #[] #[ptr b, ptr c]
theorem dataDiskIn_any (n : Int) (w : World) :
    Calls Tryz.prog 207 #[.int .i64 n] w fun e w' => ∃ b c, e = .returned (fData b c) ∧ VRing w' b n ∧ VExtra w' c n ∧ w.grownBy w' none := by
  go_enter Tryz.func207, Tryz.ntmps207
  go_wp2_with fail
  go_fit (ringOf_any n _)
  rintro e w1 ⟨b, rfl, h1, g1⟩
  go_wp2_with fail
  go_fit (extraIn_any n _)
  rintro e w2 ⟨x, y, rfl, h2, h3, g2⟩
  go_wp2_with fail
  go_ret
  have gA : w2.grownBy ((w2.alloc (.cells #[fRing b] 226)).alloc (.cells #[fExtra x y] 226)) none := galloc (galloc (grefl _) _) _
  refine ⟨w2.heap.size, w2.heap.size + 1, rfl, ⟨b, gkc (galloc (grefl _) _) (Var.new _ _ _), gkc (gtrans g2 gA) h1⟩, ⟨x, y, ?_, h2.kept gA, gkc gA h3⟩, gtrans (gtrans g1 g2) gA⟩
  have h := Var.new (w2.alloc (.cells #[fRing b] 226)) (fExtra x y) 226
  have e : (w2.alloc (.cells #[fRing b] 226)).heap.size = w2.heap.size + 1 := by simp [go_sem]
  rw [e] at h
  exact h
/-- what the data closures read -/
abbrev DS (w w' : World) (b c q x y : Nat) (n : Int) : Prop := Var w' b (fRing q) ∧ Var w' c (fExtra x y) ∧ Var w' q (.int .i64 n) ∧ VRing w' x n ∧ Var w' y (.int .i64 n) ∧ w.grownBy w' none
theorem DS.kept {w w' w2 : World} {b c q x y : Nat} {n : Int} (h : DS w w' b c q x y n) (g : w'.grownBy w2 none) : DS w w2 b c q x y n :=
  ⟨gkc g h.1, gkc g h.2.1, gkc g h.2.2.1, h.2.2.2.1.kept g, gkc g h.2.2.2.2.1, gtrans h.2.2.2.2.2 g⟩
theorem dataDisk_any (r d n : Int) (b c : Nat) (w : World) (hb : VRing w b n) (hc : VExtra w c n) (n0 : 3 ≤ n) (n1 : n ≤ 5) (r0 : 0 ≤ r) (r1 : r ≤ 15) (d0 : 0 ≤ d) (d1 : d ≤ 4) :
    Calls Tryz.prog 258 #[.int .i64 r, .int .i64 d, ptr b, ptr c] w (Pure (.int .i64 (((n - 1 - r) % n + 1 + d) % n)) w) := by
  obtain ⟨q, h1, h2⟩ := hb
  obtain ⟨x, y, h3, h4, h5⟩ := hc
  have e0 : 0 ≤ (n - 1 - r) % n := Int.emod_nonneg _ (by omega)
  have e1 : (n - 1 - r) % n < n := Int.emod_lt_of_pos _ (by omega)
  have S0 : DS w w b c q x y n := ⟨h1, h3, h2, h4, h5, grefl _⟩
  clear h1 h2 h3 h4 h5
  have hx : ∀ w1, DS w w1 b c q x y n → Calls Tryz.prog 275 #[.int .i64 r, ptr x, ptr y] w1 (Pure (.int .i64 ((n - 1 - r) % n)) w1) := fun w1 h => extra_any r n x y w1 h.2.2.2.1 h.2.2.2.2.1 n0 n1 r0 r1
  generalize (n - 1 - r) % n = E at *
  have HF := Lib.hid (show IntKind.i64.wrap (IntKind.i64.wrap (E + 1) + d) % n = (E + 1 + d) % n by rw [IntWalk.i64_in (E + 1) (by omega), IntWalk.i64_in (E + 1 + d) (by omega)])
  go_enter Tryz.func258, Tryz.ntmps258
  go_wp2_with fail
  refine region_calm (fun w' => DS w w' b c q x y n) (by kernel_rfl) (by kernel_rfl) (S0.kept (gdrew (grefl w) 1)) ?_
  repeat (first
    | (refine calm_skip (by rfl) ?_; simp only [Act.put, List.setIfInBounds_toArray, List.set_cons_zero, List.set_cons_succ])
    | (refine calm_step (by rfl) ?_
       apply Exists.intro
       refine ⟨fun w' hw' => ?_, ?_⟩
       · go_simp
         first | done | exact rfl | (go_at_call 275; go_fit (hx _ hw'); rintro e w8 ⟨rfl, g8⟩; exact ⟨rfl, hw'.kept g8⟩) | (go_at_call 284; go_fit (ring_any _ n q _ hw'.2.2.1 n0 n1); rintro e w8 ⟨rfl, g8⟩; exact ⟨rfl, hw'.kept g8⟩)
       simp only [Act.put, List.setIfInBounds_toArray, List.set_cons_zero, List.set_cons_succ]))
  refine calm_nil ?_
  intro w9 hw9
  go_wp2_with fail
  go_ret
  exact ⟨ret_int HF.out, hw9.2.2.2.2.2⟩
theorem hasRow_any (n r : Int) (w : World) :
    Calls Tryz.prog 248 #[.int .i64 n, .int .i64 r] w fun e w' => e = .returned (.bool (inB n 3 5 && inB r 0 15)) ∧ w = w' := by
  cases h1 : inB n 3 5
  · go_enter Tryz.func248, Tryz.ntmps248
    go_wp2_with fail
    go_fit (between_any _ _ _ _)
    rintro e w' ⟨rfl, rfl⟩
    go_wp2_with fail
    go_ret
    exact ⟨rfl, rfl⟩
  · go_enter Tryz.func248, Tryz.ntmps248
    go_wp2_with fail
    go_fit (between_any _ _ _ _)
    rintro e w' ⟨rfl, rfl⟩
    go_wp2_with fail
    go_fit (between_any _ _ _ _)
    rintro e w' ⟨rfl, rfl⟩
    go_wp2_with fail
    go_ret
    exact ⟨rfl, rfl⟩
theorem roomOf_any (n r : Int) (w : World) :
    Calls Tryz.prog 194 #[.int .i64 n, .int .i64 r] w fun e w' => e = .returned (.int .i64 (roomZ n r)) ∧ w = w' := by
  cases h1 : inB n 3 5
  · have HF := Lib.hid (roomZ_no (n := n) (r := r) (.inl h1))
    go_enter Tryz.func194, Tryz.ntmps194
    go_wp2_with fail
    go_fit (between_any _ _ _ _)
    rintro e w' ⟨rfl, rfl⟩
    go_wp2_with fail
    go_ret
    exact ⟨ret_int HF.out.symm, rfl⟩
  obtain ⟨n0, n1⟩ := inB_iff.1 h1
  cases h2 : inB r 1 16
  · have HF := Lib.hid (roomZ_no (n := n) (r := r) (.inr h2))
    go_enter Tryz.func194, Tryz.ntmps194
    go_wp2_with fail
    go_fit (between_any _ _ _ _)
    rintro e w' ⟨rfl, rfl⟩
    go_wp2_with fail
    go_fit (between_any _ _ _ _)
    rintro e w' ⟨rfl, rfl⟩
    go_wp2_with fail
    go_ret
    exact ⟨ret_int HF.out.symm, rfl⟩
  obtain ⟨r0, r1⟩ := inB_iff.1 h2
  have HF := Lib.hid (roomZ_yes h1 h2)
  have hp : 0 ≤ (n - 1) * r ∧ (n - 1) * r ≤ 64 := by rcases three h1 with rfl | rfl | rfl <;> omega
  obtain ⟨p0, p1⟩ := hp
  go_enter Tryz.func194, Tryz.ntmps194
  go_wp2_with fail
  go_fit (between_any _ _ _ _)
  rintro e w' ⟨rfl, rfl⟩
  go_wp2_with fail
  go_fit (between_any _ _ _ _)
  rintro e w' ⟨rfl, rfl⟩
  go_wp2_with fail
  go_ret
  exact ⟨ret_int HF.out.symm, rfl⟩
theorem room16 {n : Int} (h1 : inB n 3 5 = true) : roomZ n 16 = (n - 1) * 16 := roomZ_yes h1 (inB_yes (by omega) (by omega))
theorem hasLogical_any (n l : Int) (w : World) :
    Calls Tryz.prog 206 #[.int .i64 n, .int .i64 l] w fun e w' => e = .returned (.bool (inB n 3 5 && inB l 0 (16 * (n - 1) - 1))) ∧ w = w' := by
  cases h1 : inB n 3 5
  · have HF := Lib.hid (inB_no (n := l) (lo := 0) (hi := -2) (by omega))
    have HR := Lib.hid (roomZ_no (n := n) (r := 16) (.inl h1))
    go_enter Tryz.func206, Tryz.ntmps206
    go_wp2_with fail
    go_fit (roomOf_any _ _ _)
    rintro e w' ⟨rfl, rfl⟩
    rw [HR.out]
    go_wp2_with fail
    go_fit (between_any _ _ _ _)
    rintro e w' ⟨rfl, rfl⟩
    go_wp2_with fail
    go_ret
    exact ⟨ret_bool HF.out, rfl⟩
  obtain ⟨n0, n1⟩ := inB_iff.1 h1
  have HR := Lib.hid (room16 h1)
  have HF := Lib.hid (show inB l 0 ((n - 1) * 16 - 1) = inB l 0 (16 * (n - 1) - 1) by rw [Int.mul_comm])
  clear h1
  go_enter Tryz.func206, Tryz.ntmps206
  go_wp2_with fail
  go_fit (roomOf_any _ _ _)
  rintro e w' ⟨rfl, rfl⟩
  rw [HR.out]
  go_wp2_with fail
  go_fit (between_any _ _ _ _)
  rintro e w' ⟨rfl, rfl⟩
  go_wp2_with fail
  go_ret
  exact ⟨ret_bool HF.out, rfl⟩
theorem extraOf_any (n r : Int) (w : World) :
    Calls Tryz.prog 197 #[.int .i64 n, .int .i64 r] w (Pure (.int .i64 (extraZ n r)) w) := by
  cases h : (inB n 3 5 && inB r 0 15)
  · have HF := Lib.hid (extraZ_no (n := n) (r := r) (by cases h1 : inB n 3 5 <;> simp_all))
    go_enter Tryz.func197, Tryz.ntmps197
    go_wp2_with fail
    go_fit (hasRow_any _ _ _)
    rintro e w' ⟨rfl, rfl⟩
    rw [h]
    go_wp2_with fail
    go_ret
    exact ⟨ret_int HF.out.symm, grefl _⟩
  have h1 : inB n 3 5 = true := by simp_all
  have h2 : inB r 0 15 = true := by simp_all
  obtain ⟨n0, n1⟩ := inB_iff.1 h1
  obtain ⟨r0, r1⟩ := inB_iff.1 h2
  have HF := Lib.hid (extraZ_yes h1 h2)
  clear h1 h2
  go_enter Tryz.func197, Tryz.ntmps197
  go_wp2_with fail
  go_fit (hasRow_any _ _ _)
  rintro e w' ⟨rfl, rfl⟩
  rw [h]
  go_wp2_with fail
  go_fit (extraIn_any _ _)
  rintro e w1 ⟨b, c, rfl, k1, k2, g1⟩
  go_wp2_with fail
  go_fit (extra_any r n b c _ k1 k2 n0 n1 r0 r1)
  rintro e w2 ⟨rfl, g2⟩
  go_wp2_with fail
  go_ret
  exact ⟨ret_int HF.out.symm, gtrans g1 g2⟩
theorem rowOf_any (n l : Int) (w : World) :
    Calls Tryz.prog 126 #[.int .i64 n, .int .i64 l] w fun e w' => e = .returned (.int .i64 (rowZ n l)) ∧ w = w' := by
  cases h : (inB n 3 5 && inB l 0 (16 * (n - 1) - 1))
  · have HF := Lib.hid (rowZ_no (n := n) (l := l) (by cases h1 : inB n 3 5 <;> simp_all))
    go_enter Tryz.func126, Tryz.ntmps126
    go_wp2_with fail
    go_fit (hasLogical_any _ _ _)
    rintro e w' ⟨rfl, rfl⟩
    rw [h]
    go_wp2_with fail
    go_ret
    exact ⟨ret_int HF.out.symm, rfl⟩
  have h1 : inB n 3 5 = true := by simp_all
  have h2 : inB l 0 (16 * (n - 1) - 1) = true := by simp_all
  obtain ⟨n0, n1⟩ := inB_iff.1 h1
  obtain ⟨r0, r1⟩ := inB_iff.1 h2
  have HF := Lib.hid (rowZ_yes h1 h2)
  clear h1 h2
  go_enter Tryz.func126, Tryz.ntmps126
  go_wp2_with fail
  go_fit (hasLogical_any _ _ _)
  rintro e w' ⟨rfl, rfl⟩
  rw [h]
  go_wp2_with fail
  go_ret
  exact ⟨ret_int HF.out.symm, rfl⟩
theorem implExtraOf_any (n r : Int) (w : World) (_bn : i64B n) :
    Calls Tryz.prog 197 #[.int .i64 n, .int .i64 r] w (Pure (.int .i64 (extraZ n r)) w) := extraOf_any n r w
theorem implRowOf_any (n l : Int) (w : World) (_bn : i64B n) :
    Calls Tryz.prog 126 #[.int .i64 n, .int .i64 l] w (Pure (.int .i64 (rowZ n l)) w) := by
  go_fit (rowOf_any n l w)
  rintro e w' ⟨rfl, rfl⟩
  exact ⟨rfl, grefl _⟩
theorem implRoomOf_any (n r : Int) (w : World) (_bn : i64B n) :
    Calls Tryz.prog 194 #[.int .i64 n, .int .i64 r] w (Pure (.int .i64 (roomZ n r)) w) := by
  go_fit (roomOf_any n r w)
  rintro e w' ⟨rfl, rfl⟩
  exact ⟨rfl, grefl _⟩
theorem implDiskOf_any (n l : Int) (w : World) (_bn : i64B n) :
    Calls Tryz.prog 125 #[.int .i64 n, .int .i64 l] w (Pure (.int .i64 (diskZ n l)) w) := by
  cases h : (inB n 3 5 && inB l 0 (16 * (n - 1) - 1))
  · have HF := Lib.hid (diskZ_no (n := n) (l := l) (by cases h1 : inB n 3 5 <;> simp_all))
    go_enter Tryz.func125, Tryz.ntmps125
    go_wp2_with fail
    go_fit (hasLogical_any _ _ _)
    rintro e w' ⟨rfl, rfl⟩
    rw [h]
    go_wp2_with fail
    go_ret
    exact ⟨ret_int HF.out.symm, grefl _⟩
  have h1 : inB n 3 5 = true := by simp_all
  have h2 : inB l 0 (16 * (n - 1) - 1) = true := by simp_all
  obtain ⟨n0, n1⟩ := inB_iff.1 h1
  obtain ⟨l0, l1⟩ := inB_iff.1 h2
  have hl := layout_at h1 h2
  have HF : Hid (diskZ n l = ((n - 1 - rowZ n l) % n + 1 + l % (n - 1)) % n) := by
    show _ = _
    rw [diskZ_yes h1 h2, rowZ_yes h1 h2]
  have r0 := hl.1
  have r1 := hl.2.1
  have m0 : 0 ≤ l % (n - 1) := Int.emod_nonneg _ (by omega)
  have m1 : l % (n - 1) < n - 1 := Int.emod_lt_of_pos _ (by omega)
  have hw1 : IntKind.i64.wrap (n - 1) = n - 1 := IntWalk.i64_in _ (by omega)
  have hn1 : ¬ n - 1 = 0 := by omega
  have hm1 : IntKind.i64.wrap (l % (n - 1)) = l % (n - 1) := IntWalk.i64_in _ (by omega)
  have hm2 : Int.tmod l (n - 1) = l % (n - 1) := Int.tmod_eq_emod_of_nonneg l0
  clear hl h1 h2
  go_enter Tryz.func125, Tryz.ntmps125
  go_wp2_with fail
  go_fit (hasLogical_any _ _ _)
  rintro e w' ⟨rfl, rfl⟩
  rw [h]
  go_wp2_with fail
  go_region_held3 (fun w' => w.grownBy w' none) (first | assumption | exact gdrew (grefl w) 1 | exact gtrans ‹w.grownBy _ none› ‹World.grownBy _ _ none›) (first | (go_at_call 207; go_fit (dataDiskIn_any n _); rintro e w8 ⟨b8, c8, rfl, k8, j8, g8⟩) | (go_at_call 126; go_fit (rowOf_any n l _); rintro e w9 ⟨rfl, rfl⟩) | (go_at_call 258; go_fit (dataDisk_any (rowZ n l) (l % (n - 1)) n b8 c8 _ k8 j8 n0 n1 r0 r1 m0 (by omega)); rintro e w10 ⟨rfl, g10⟩))
  all_goals (go_wp2_with fail)
  all_goals go_ret
  all_goals exact ⟨ret_int HF.out.symm, by assumption⟩
end Go.Proofs.YteialkknddpbjaaGreatDoor
