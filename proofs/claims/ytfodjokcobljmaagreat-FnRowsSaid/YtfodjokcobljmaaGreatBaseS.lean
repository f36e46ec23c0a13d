/- Texts as lists of bytes: what a text is. -/
import Derived.Test.YtfodjokcobljmaaGreatBase
import Derived.Laws.IdiomStrings
import Derived.Laws.Concat
import Derived.Laws.Strings2
import Derived.Laws.Strings3
import Derived.Laws.DeepStrings4
namespace Go.Proofs.YtfodjokcobljmaaGreat
open Go.ChangeShapes Go.WideShapes Go.ChangeAt Go.RowKit

/-- a text -/
def str (l : List UInt8) : ByteArray := ⟨l.toArray⟩
theorem str_size (l : List UInt8) : (str l).size = l.length := by simp [str, ByteArray.size]
theorem str_add (a b : List UInt8) : str a ++ str b = str (a ++ b) := ByteArray.mk_append_mk a b
theorem str_list (l : List UInt8) : (str l).toList = l := by
  have : (str l).toList = (str l).data.toList := ByteArray.toList_eq _
  rw [this]; simp [str]
theorem str_get (l : List UInt8) (i : Nat) (h : i < (str l).size) : (str l)[i]'h = l[i]'(by rw [str_size] at h; exact h) := by
  simp [str]; rfl
theorem str_cut (l : List UInt8) (a b : Nat) : (str l).extract a b = str ((l.drop a).take (b - a)) := ByteArray.extract_mk l a b
theorem str_lit (l : List UInt8) : (⟨l.toArray⟩ : ByteArray) = str l := rfl
theorem str_0 : (⟨#[]⟩ : ByteArray) = str [] := rfl
theorem str_1 (x : UInt8) : (⟨#[x]⟩ : ByteArray) = str [x] := rfl
theorem str_inj {a b : List UInt8} (h : str a = str b) : a = b := by rw [← str_list a, h, str_list]
theorem lit_list (l : List UInt8) : (⟨l.toArray⟩ : ByteArray).toList = l := str_list l
theorem lit_list0 : (⟨#[]⟩ : ByteArray).toList = [] := str_list []
theorem add_lit (a : List UInt8) (x : UInt8) : str a ++ (⟨#[x]⟩ : ByteArray) = str (a ++ [x]) := str_add a [x]
theorem lit_add (a : List UInt8) (x : UInt8) : (⟨#[x]⟩ : ByteArray) ++ str a = str (x :: a) := str_add [x] a
theorem ret_str {a b : List UInt8} (h : a = b) : Ending.returned (.string (str a)) = .returned (.string (str b)) := by rw [h]
theorem tmod_nat (m k : Nat) : (m : Int).tmod k = ((m % k : Nat) : Int) := by rw [Int.tmod_eq_emod_of_nonneg (by omega)]; omega
theorem tdiv_nat (m k : Nat) : (m : Int).tdiv k = ((m / k : Nat) : Int) := by rw [Int.tdiv_eq_ediv_of_nonneg (by omega)]; omega
/-- every text is one -/
theorem str_of (s : ByteArray) : ∃ l, s = str l := ⟨s.data.toList, by simp [str]⟩
end Go.Proofs.YtfodjokcobljmaaGreat
