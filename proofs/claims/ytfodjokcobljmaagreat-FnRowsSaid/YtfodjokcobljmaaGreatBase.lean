/- Plain helpers of the walks: endings of one value, a number between two bounds as a Bool. -/
import Derived.Test.YtfodjokcobljmaaGreatRows
import Derived.WalkKit
import Derived.ProofKit
import Derived.IntWalk
import Derived.Lib.Hide
import Derived.Below
namespace Go.Proofs.YtfodjokcobljmaaGreat
open Go.ChangeShapes Go.WideShapes Go.ChangeAt Go.RowKit

theorem ret_int {k : IntKind} {a b : Int} (h : a = b) : Ending.returned (.int k a) = .returned (.int k b) := by rw [h]
theorem ret_bool {a b : Bool} (h : a = b) : Ending.returned (.bool a) = .returned (.bool b) := by rw [h]
def inB (n lo hi : Int) : Bool := decide (lo ≤ n ∧ n ≤ hi)
theorem inB_yes {n lo hi : Int} (h1 : lo ≤ n) (h2 : n ≤ hi) : inB n lo hi = true := by simp [inB, h1, h2]
theorem inB_no {n lo hi : Int} (h : n < lo ∨ hi < n) : inB n lo hi = false := by simp [inB]; omega
theorem inB_iff {n lo hi : Int} : inB n lo hi = true ↔ lo ≤ n ∧ n ≤ hi := by simp [inB]
theorem inB_nf {n lo hi : Int} (h : inB n lo hi = false) : n < lo ∨ hi < n := by simp [inB] at h; omega
/-- the checksum of chapter 1 -/
def sumZ (d p v : Int) : Int := if inB d 0 4 && (inB p 0 15 && inB v 0 32767) then (31 * v + 1000 * p + 20000 * d) % 65521 else -1
theorem sumZ_yes {d p v : Int} (h1 : inB d 0 4 = true) (h2 : inB p 0 15 = true) (h3 : inB v 0 32767 = true) : sumZ d p v = (31 * v + 1000 * p + 20000 * d) % 65521 := by simp [sumZ, h1, h2, h3]
theorem sumZ_no {d p v : Int} (h : inB d 0 4 = false ∨ inB p 0 15 = false ∨ inB v 0 32767 = false) : sumZ d p v = -1 := by
  unfold sumZ; rcases h with h | h | h <;> simp [h]
theorem sumZ_lo (d p v : Int) : -1 ≤ sumZ d p v := by
  unfold sumZ; split
  · have := Int.emod_nonneg (31 * v + 1000 * p + 20000 * d) (show (65521 : Int) ≠ 0 by omega); omega
  · omega
theorem sumZ_hi (d p v : Int) : sumZ d p v ≤ 65520 := by
  unfold sumZ; split
  · have := Int.emod_lt_of_pos (31 * v + 1000 * p + 20000 * d) (show (0 : Int) < 65521 by omega); omega
  · omega
theorem sumZ_neg {d p v : Int} (h : sumZ d p v < 0) : (inB d 0 4 && (inB p 0 15 && inB v 0 32767)) = false := by
  cases hc : (inB d 0 4 && (inB p 0 15 && inB v 0 32767))
  · rfl
  · exfalso; unfold sumZ at h; rw [hc] at h; simp at h; omega
/-- different values have different checksums at one place -/
theorem sumZ_inj {d p v x : Int} (hv : 0 ≤ v ∧ v ≤ 32767) (hx : 0 ≤ x ∧ x ≤ 32767) (hd : inB d 0 4 = true) (hp : inB p 0 15 = true) (h : sumZ d p x = sumZ d p v) : x = v := by
  rw [sumZ_yes hd hp (inB_yes hx.1 hx.2), sumZ_yes hd hp (inB_yes hv.1 hv.2)] at h
  omega
def fitsZ (d p v s : Int) : Bool := decide (0 ≤ sumZ d p v ∧ sumZ d p v = s)
end Go.Proofs.YtfodjokcobljmaaGreat
