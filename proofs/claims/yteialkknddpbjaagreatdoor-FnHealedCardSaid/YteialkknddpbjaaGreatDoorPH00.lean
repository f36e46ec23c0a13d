/- Plain helpers of the walks: endings of one value, a number between two bounds as a Bool. Texts as lists of bytes: what a text is. -/
import Derived.Test.YteialkknddpbjaaGreatDoorRows
import Derived.WalkKit
import Derived.ProofKit
import Derived.IntWalk
import Derived.Lib.Hide
import Derived.Below
import Derived.Laws.IdiomStrings
import Derived.Laws.Concat
import Derived.Laws.Strings2
import Derived.Laws.Strings3
import Derived.Laws.DeepStrings4
namespace Go.Proofs.YteialkknddpbjaaGreatDoor
open Go.ChangeShapes Go.WideShapes Go.ChangeAt Go.RowKit

theorem ret_int {k : IntKind} {a b : Int} (h : a = b) : Ending.returned (.int k a) = .returned (.int k b) := by rw [h]
theorem ret_bool {a b : Bool} (h : a = b) : Ending.returned (.bool a) = .returned (.bool b) := by rw [h]
def inB (n lo hi : Int) : Bool := decide (lo ≤ n ∧ n ≤ hi)
theorem inB_yes {n lo hi : Int} (h1 : lo ≤ n) (h2 : n ≤ hi) : inB n lo hi = true := by simp [inB, h1, h2]
theorem inB_no {n lo hi : Int} (h : n < lo ∨ hi < n) : inB n lo hi = false := by simp [inB]; omega
theorem inB_iff {n lo hi : Int} : inB n lo hi = true ↔ lo ≤ n ∧ n ≤ hi := by simp [inB]
theorem inB_nf {n lo hi : Int} (h : inB n lo hi = false) : n < lo ∨ hi < n := by simp [inB] at h; omega
/-- the checksum of chapter 1 -/
def sumZ (d p v : Int) : Int := if inB d 0 4 && (inB p 0 15 && inB v 0 32767) then (31 * v + 1000 * p + 20000 * d) % 65521 else -1
theorem sumZ_yes {d p v : Int} (h1 : inB d 0 4 = true) (h2 : inB p 0 15 = true) (h3 : inB v 0 32767 = true) : sumZ d p v = (31 * v + 1000 * p + 20000 * d) % 65521 := by simp [sumZ, h1, h2, h3]
theorem sumZ_no {d p v : Int} (h : inB d 0 4 = false ∨ inB p 0 15 = false ∨ inB v 0 32767 = false) : sumZ d p v = -1 := by
  unfold sumZ; rcases h with h | h | h <;> simp [h]
theorem sumZ_lo (d p v : Int) : -1 ≤ sumZ d p v := by
  unfold sumZ; split
  · have := Int.emod_nonneg (31 * v + 1000 * p + 20000 * d) (show (65521 : Int) ≠ 0 by omega); omega
  · omega
theorem sumZ_hi (d p v : Int) : sumZ d p v ≤ 65520 := by
  unfold sumZ; split
  · have := Int.emod_lt_of_pos (31 * v + 1000 * p + 20000 * d) (show (0 : Int) < 65521 by omega); omega
  · omega
/-- different values have different checksums at one place -/
theorem sumZ_inj {d p v x : Int} (hv : 0 ≤ v ∧ v ≤ 32767) (hx : 0 ≤ x ∧ x ≤ 32767) (hd : inB d 0 4 = true) (hp : inB p 0 15 = true) (h : sumZ d p x = sumZ d p v) : x = v := by
  rw [sumZ_yes hd hp (inB_yes hx.1 hx.2), sumZ_yes hd hp (inB_yes hv.1 hv.2)] at h
  omega
def fitsZ (d p v s : Int) : Bool := decide (0 ≤ sumZ d p v ∧ sumZ d p v = s)
end Go.Proofs.YteialkknddpbjaaGreatDoor
namespace Go.Proofs.YteialkknddpbjaaGreatDoor
open Go.ChangeShapes Go.WideShapes Go.ChangeAt Go.RowKit

/-- a text -/
def str (l : List UInt8) : ByteArray := ⟨l.toArray⟩
theorem str_size (l : List UInt8) : (str l).size = l.length := by simp [str, ByteArray.size]
theorem str_add (a b : List UInt8) : str a ++ str b = str (a ++ b) := ByteArray.mk_append_mk a b
theorem str_list (l : List UInt8) : (str l).toList = l := by
  have : (str l).toList = (str l).data.toList := ByteArray.toList_eq _
  rw [this]; simp [str]
theorem str_get (l : List UInt8) (i : Nat) (h : i < (str l).size) : (str l)[i]'h = l[i]'(by rw [str_size] at h; exact h) := by
  simp [str]; rfl
theorem str_cut (l : List UInt8) (a b : Nat) : (str l).extract a b = str ((l.drop a).take (b - a)) := ByteArray.extract_mk l a b
theorem lit_list0 : (⟨#[]⟩ : ByteArray).toList = [] := str_list []
theorem add_lit (a : List UInt8) (x : UInt8) : str a ++ (⟨#[x]⟩ : ByteArray) = str (a ++ [x]) := str_add a [x]
theorem lit_add (a : List UInt8) (x : UInt8) : (⟨#[x]⟩ : ByteArray) ++ str a = str (x :: a) := str_add [x] a
theorem ret_str {a b : List UInt8} (h : a = b) : Ending.returned (.string (str a)) = .returned (.string (str b)) := by rw [h]
end Go.Proofs.YteialkknddpbjaaGreatDoor
