/- The layout of chapter 5, as plain mathematics. What the specification's functions of chapter 5 return, for every argument. What the program's functions of chapter 5 return: closures over the number of disks. -/
import Derived.Deep.DeepFit
import Derived.Deep.RegionHeld3
import Derived.Deep.Slices
import Derived.Deep.Fields
import Derived.BigQuiet
import Derived.LoopTactic
import Derived.IntWalk
import Derived.Laws.EntriesVeiled
import Derived.Test.YteialkknddpbjaaGreatDoorPH00
import Derived.Test.YteialkknddpbjaaGreatDoorPH05
import Derived.Test.YteialkknddpbjaaGreatDoorPH06
import Derived.Test.YteialkknddpbjaaGreatDoorPH07
import Derived.Test.YteialkknddpbjaaGreatDoorPH01
namespace Go.Proofs.YteialkknddpbjaaGreatDoor
open Go.ChangeShapes Go.WideShapes Go.ChangeAt Go.RowKit

def okv (x : Int) : Bool := inB x 0 32767
def foldX : List Int → Nat
  | [] => 0
  | x :: r => x.toNat ^^^ foldX r
/-- the parity of a list of values, -1 where one is no value -/
def xorZ (l : List Int) : Int := if l.all okv = true then (foldX l : Int) else -1
theorem okv_iff {x : Int} : okv x = true ↔ 0 ≤ x ∧ x ≤ 32767 := inB_iff
theorem foldX_append (a b : List Int) : foldX (a ++ b) = foldX a ^^^ foldX b := by
  induction a with
  | nil => simp [foldX]
  | cons x r ih => simp [foldX, ih, Nat.xor_assoc]
theorem xor_lt {a b : Nat} (ha : a < 32768) (hb : b < 32768) : a ^^^ b < 32768 := Nat.xor_lt_two_pow (n := 15) ha hb
theorem foldX_lt {l : List Int} (h : l.all okv = true) : foldX l < 32768 := by
  induction l with
  | nil => simp [foldX]
  | cons x r ih =>
    simp only [List.all_cons, Bool.and_eq_true] at h
    have := okv_iff.1 h.1
    exact xor_lt (by omega) (ih h.2)
theorem foldX_set (l : List Int) (i : Nat) (x : Int) (h : i < l.length) : foldX (l.set i x) = foldX l ^^^ l[i].toNat ^^^ x.toNat := by
  induction l generalizing i with
  | nil => simp at h
  | cons y r ih =>
    cases i with
    | zero =>
      simp only [List.set_cons_zero, List.getElem_cons_zero, foldX]
      rw [Nat.xor_comm y.toNat, Nat.xor_assoc (foldX r), Nat.xor_self, Nat.xor_zero, Nat.xor_comm]
    | succ i =>
      simp only [List.set_cons_succ, List.getElem_cons_succ, foldX]
      rw [ih i (by simpa using h)]
      simp [Nat.xor_assoc]
theorem foldX_take {l : List Int} {k : Nat} (h : k < l.length) : foldX (l.take (k + 1)) = foldX (l.take k) ^^^ l[k].toNat := by
  rw [List.take_succ_eq_append_getElem h, foldX_append]; simp [foldX]
theorem xor64 {a b : Int} (ha0 : 0 ≤ a) (ha : a ≤ 32767) (hb0 : 0 ≤ b) (hb : b ≤ 32767) : bits .xor .i64 a b = ((a.toNat ^^^ b.toNat : Nat) : Int) := by
  obtain ⟨A, rfl⟩ := Int.eq_ofNat_of_zero_le ha0
  obtain ⟨B, rfl⟩ := Int.eq_ofNat_of_zero_le hb0
  have e1 : (BitVec.ofInt 64 (A : Int)).toNat = A := by rw [BitVec.toNat_ofInt]; omega
  have e2 : (BitVec.ofInt 64 (B : Int)).toNat = B := by rw [BitVec.toNat_ofInt]; omega
  have e3 : (BitVec.ofInt 64 (A : Int) ^^^ BitVec.ofInt 64 (B : Int)).toNat = A ^^^ B := by rw [BitVec.toNat_xor, e1, e2]
  have le : A ^^^ B < 32768 := xor_lt (by omega) (by omega)
  show IntKind.i64.wrap _ = _
  rw [show (A : Int).toNat = A from rfl, show (B : Int).toNat = B from rfl, ← e3]
  exact IntWalk.i64_in ((BitVec.ofInt 64 (A : Int) ^^^ BitVec.ofInt 64 (B : Int)).toNat : Int) (by omega)
theorem xorZ_no {l : List Int} (h : l.all okv = false) : xorZ l = -1 := by simp [xorZ, h]
theorem xorZ_yes {l : List Int} (h : l.all okv = true) : xorZ l = (foldX l : Int) := by simp [xorZ, h]
theorem xorZ_bad {l : List Int} {k : Nat} (h : k < l.length) (hb : okv l[k] = false) : xorZ l = -1 := by
  apply xorZ_no
  rw [List.all_eq_false]
  exact ⟨l[k], List.getElem_mem h, by simp [hb]⟩
/-- one step of the parity -/
theorem xor_step {l : List Int} {k : Nat} (h : k < l.length) (ho : okv l[k] = true) (ha : (l.take k).all okv = true) :
    (l.take (k + 1)).all okv = true ∧ bits .xor .i64 (foldX (l.take k)) l[k] = (foldX (l.take (k + 1)) : Int) := by
  have h1 := okv_iff.1 ho
  have h2 := foldX_lt ha
  refine ⟨by rw [List.take_succ_eq_append_getElem h, List.all_append, ha]; simp [ho], ?_⟩
  rw [xor64 (by omega) (by omega) h1.1 h1.2, foldX_take h]
  rfl
theorem all_get {l : List Int} {k : Nat} (h : l.all okv = true) (hk : k < l.length) : okv l[k] = true := List.all_eq_true.1 h _ (List.getElem_mem hk)
def intE : Elt Int where
  T := 2
  S := 42
  size := 1
  bytes := 8
  z := .int .i64 0
  enc := fun p => [.int .i64 p]
  len := fun _ => rfl
  one := fun x u hu => by simp at hu; rcases hu with rfl; rfl
  pos := by omega
  und := Tryz.underlying42
  info := by kernel_rfl
  zs := rfl
/-- v is a slice that owns the numbers l -/
abbrev IS (w : World) (base : Nat) (v : Value) (l : List Int) : Prop := Own intE w base v l
/-- v is a slice whose numbers l can be read -/
abbrev IR (w : World) (v : Value) (l : List Int) : Prop := Rd intE w v l
theorem intE_all (l : List Int) : intE.all l = l.map (.int .i64 ·) := by
  induction l with
  | nil => rfl
  | cons x r ih => simp only [Elt.all, List.flatMap_cons, List.map_cons] at *; rw [ih]; rfl
section
variable {w w' : World} {base : Nat} {v : Value} {l : List Int}
theorem Rd.form (h : IR w v l) : ∃ a cap, v = .slice a l.length cap ∧ l.length ≤ 9223372036854775807 := by
  obtain ⟨a, cap, h1, h2, h3, _⟩ := h; exact ⟨a, cap, h1, by omega⟩
theorem Rd.at {a : Option Addr} {n cap : Nat} (h : IR w (.slice a n cap) l) (i : Nat) (hi : i < l.length) : ∃ g o, a = some ⟨g, o, none⟩ ∧ w.cell? ⟨g, o + i, none⟩ = some (.int .i64 l[i]) := by
  obtain ⟨a', cap', h1, _, _, h4 | ⟨g, o, h4, _, h6⟩⟩ := h
  · rw [h4] at hi; simp at hi
  · cases h1
    exact ⟨g, o, h4, h6 i _ (by rw [intE_all]; simp [hi])⟩
theorem IS.at {a : Option Addr} {n cap : Nat} (h : IS w base (.slice a n cap) l) (i : Nat) (hi : i < l.length) : ∃ g, a = some ⟨g, 0, none⟩ ∧ base ≤ g ∧ g < w.heap.size ∧ At w g i (.int .i64 l[i]) := by
  obtain ⟨g, h1, h2, h3, h4⟩ := Own.at h i hi
  exact ⟨g, h1, h2, h3, by have := h4 0 _ rfl; simpa [intE] using this⟩
/-- writing one number -/
theorem IS.set {n cap g : Nat} (h : IS w base (.slice (some ⟨g, 0, none⟩) n cap) l) (i : Nat) (x : Int) :
    IS (w.setCell ⟨g, i, none⟩ (.int .i64 x)) base (.slice (some ⟨g, 0, none⟩) n cap) (l.set i x) := by
  obtain ⟨h0, ⟨h1, h2⟩ | ⟨g', c, cur, hv, hb, hg, h1, h2, h3, h4⟩⟩ := h
  · cases h1
  · cases hv
    refine ⟨Elt.all_length _ _, .inr ⟨g, cap, cur.setIfInBounds i (.int .i64 x), by simp, hb, heap_set_same hg _, by simpa using h1, h2, by simp [h3], ?_⟩⟩
    rw [intE_all, List.map_set, ← intE_all, ← h4]
    simp [List.take_set]
theorem IS.single (w : World) (x : Int) (hb : base ≤ w.heap.size) : IS (w.alloc (.cells #[.int .i64 x] 2)) base (.slice (some ⟨w.heap.size, 0, none⟩) 1 1) [x] :=
  Own.fresh intE w [x] _ rfl (by simp) hb
theorem IS.empty (w : World) (hb : base ≤ w.heap.size) : IS (w.alloc (.cells #[] 2)) base (.slice (some ⟨w.heap.size, 0, none⟩) 0 0) [] :=
  Own.fresh intE w [] _ rfl (by simp) hb
theorem IS.three (w : World) (x y z : Int) (hb : base ≤ w.heap.size) : IS (w.alloc (.cells #[.int .i64 x, .int .i64 y, .int .i64 z] 2)) base (.slice (some ⟨w.heap.size, 0, none⟩) 3 3) [x, y, z] :=
  Own.fresh intE w [x, y, z] _ rfl (by simp) hb
end
/-- a new slice of numbers -/
def GotI (l : List Int) (w : World) (e : Ending) (w' : World) : Prop := ∃ v, e = .returned v ∧ IS w' w.heap.size v l ∧ w.grownBy w' none
end Go.Proofs.YteialkknddpbjaaGreatDoor
namespace Go.Proofs.YteialkknddpbjaaGreatDoor
open Go.ChangeShapes Go.WideShapes Go.ChangeAt Go.RowKit

end Go.Proofs.YteialkknddpbjaaGreatDoor
namespace Go.Proofs.YteialkknddpbjaaGreatDoor
open Go.ChangeShapes Go.WideShapes Go.ChangeAt Go.RowKit

theorem parityOf_any (v : Value) (l : List Int) (w : World) (h : IR w v l) :
    Calls Tryz.prog 236 #[v] w fun e w' => e = .returned (.int .i64 (xorZ l)) ∧ w = w' := by
  obtain ⟨a, cap, rfl, hm⟩ := h.form
  go_enter Tryz.func236, Tryz.ntmps236
  go_wp2
  go_loop [3, 8] (fun n i => ∃ k : Nat, k ≤ l.length ∧ i = .int .i64 k ∧ n = .int .i64 (foldX (l.take k)) ∧ Hid ((l.take k).all okv = true)) (fun _ i => l.length - (intOf i).toNat)
  case atStart => exact ⟨0, Nat.zero_le _, rfl, rfl, rfl⟩
  case round =>
    obtain ⟨k, hk, rfl, rfl, HA⟩ := hrel
    by_cases hlt : k < l.length
    · obtain ⟨g, o, rfl, c0⟩ := h.at k hlt
      cases hok : okv l[k]
      · have HN := Lib.hid (xorZ_bad hlt hok)
        have hok' : inB l[k] 0 32767 = false := hok
        clear hok
        go_wp2_with fail
        go_fit (implValueOk_any _ _)
        rintro e w' ⟨rfl, rfl⟩
        go_wp2_with fail
        go_ret
        exact ⟨ret_int HN.out.symm, rfl⟩
      · obtain ⟨h1, h2⟩ := xor_step hlt hok HA.out
        have H1 : Hid ((l.take (k + 1)).all okv = true) := h1
        have H2 := Lib.hid h2
        have hok' : inB l[k] 0 32767 = true := hok
        clear hok h1 h2 HA
        go_wp2_with fail
        go_fit (implValueOk_any _ _)
        rintro e w' ⟨rfl, rfl⟩
        go_wp2_with fail
        go_round
        case rel => exact ⟨k + 1, by omega, by go_num, by rw [H2.out], H1⟩
        case measure => simp [intOf]; omega
    · have HN : Hid (xorZ l = (foldX (l.take k) : Int)) := by
        show _ = _
        have := HA.out
        rw [List.take_of_length_le (by omega)] at this ⊢
        exact xorZ_yes this
      clear HA
      go_wp2_with fail
      go_ret
      exact ⟨ret_int HN.out.symm, rfl⟩
theorem implXor_any (v : Value) (l : List Int) (w : World) (h : IR w v l) :
    Calls Tryz.prog 163 #[v] w fun e w' => e = .returned (.int .i64 (xorZ l)) ∧ w = w' := by
  obtain ⟨a, cap, rfl, hm⟩ := h.form
  go_enter Tryz.func163, Tryz.ntmps163
  go_wp2_with fail
  go_fit (parityOf_any _ l _ h)
  rintro e w' ⟨rfl, rfl⟩
  go_wp2_with fail
  go_ret
  exact ⟨rfl, rfl⟩
end Go.Proofs.YteialkknddpbjaaGreatDoor
namespace Go.Proofs.YteialkknddpbjaaGreatDoor
open Go.ChangeShapes Go.WideShapes Go.ChangeAt Go.RowKit Go.Joins Go.Deep
set_option maxRecDepth 8000

theorem made_ints (n : Nat) : (madeCells intE.z.cells (n * 1)).toList = intE.all (List.replicate n (0 : Int)) := by
  rw [intE_all, List.map_replicate, Nat.mul_one]
  apply List.ext_getElem?
  intro i
  by_cases hi : i < n
  · rw [List.getElem?_replicate, if_pos hi]
    simp [madeCells, hi, intE, Value.cells, Nat.mod_one]
  · rw [List.getElem?_eq_none (by rw [Array.length_toList, size_madeCells]; omega), List.getElem?_eq_none (by simp; omega)]
def zeroI (n : Nat) : Array Value := madeCells intE.z.cells (n * 1)
theorem IS.made (w : World) (n : Nat) (hn : n ≤ 1048576) {base : Nat} (hb : base ≤ w.heap.size) : IS (w.alloc (.cells (zeroI n) 2)) base (.slice (some ⟨w.heap.size, 0, none⟩) n n) (List.replicate n 0) := by
  have := Own.fresh intE w (List.replicate n (0 : Int)) _ (made_ints n) (by simp; omega) hb
  rw [List.length_replicate] at this
  exact this
section
variable {H : Type} {enc : TypeId × Value → H} {w : World} {base : Nat} {held : Bool}
end
end Go.Proofs.YteialkknddpbjaaGreatDoor
namespace Go.Proofs.YteialkknddpbjaaGreatDoor
open Go.ChangeShapes Go.WideShapes Go.ChangeAt Go.RowKit Go.Joins Go.Deep

end Go.Proofs.YteialkknddpbjaaGreatDoor

namespace Go.Proofs.YteialkknddpbjaaGreatDoor
open Go.ChangeShapes Go.WideShapes Go.ChangeAt Go.RowKit

def extraZ (n r : Int) : Int := if inB n 3 5 = true ∧ inB r 0 15 = true then (n - 1 - r) % n else -1
def rowZ (n l : Int) : Int := if inB n 3 5 = true ∧ inB l 0 (16 * (n - 1) - 1) = true then l / (n - 1) else -1
def diskZ (n l : Int) : Int := if inB n 3 5 = true ∧ inB l 0 (16 * (n - 1) - 1) = true then ((n - 1 - l / (n - 1)) % n + 1 + l % (n - 1)) % n else -1
def logZ (n d r : Int) : Int := if inB n 3 5 = true ∧ inB r 0 15 = true ∧ inB d 0 (n - 1) = true ∧ d ≠ (n - 1 - r) % n then r * (n - 1) + (d - (n - 1 - r) % n - 1 + n) % n else -1
theorem three {n : Int} (h : inB n 3 5 = true) : n = 3 ∨ n = 4 ∨ n = 5 := by have := inB_iff.1 h; omega
theorem tmod2 (a n : Int) (hn : 0 < n) : Int.tmod (Int.tmod a n + n) n = a % n := by
  have h1 := Int.tmod_def a n
  have h0 : -n < Int.tmod a n := by
    have := Int.tmod_lt_of_pos (-a) hn
    rw [Int.neg_tmod] at this; omega
  rw [Int.tmod_eq_emod_of_nonneg (by omega), Int.add_emod_right]
  rw [h1, Int.sub_mul_emod_self_left]
theorem tmod_in (a n : Int) (hn : 0 < n) : -n < Int.tmod a n ∧ Int.tmod a n < n := by
  have h0 := Int.tmod_lt_of_pos (-a) hn
  rw [Int.neg_tmod] at h0
  exact ⟨by omega, Int.tmod_lt_of_pos a hn⟩
theorem tmod2w (a n : Int) (hn : 0 < n) (h9 : n ≤ 5) : Int.tmod (wrap64 (Int.tmod a n + n)) n = a % n := by
  have h := tmod_in a n hn
  rw [IntWalk.wrap64_in _ (by omega)]
  exact tmod2 a n hn
theorem extraZ_no {n r : Int} (h : inB n 3 5 = false ∨ inB r 0 15 = false) : extraZ n r = -1 := by
  unfold extraZ; rw [if_neg]; rintro ⟨h1, h2⟩; rcases h with h | h <;> simp_all
theorem extraZ_yes {n r : Int} (h1 : inB n 3 5 = true) (h2 : inB r 0 15 = true) : extraZ n r = (n - 1 - r) % n := by unfold extraZ; rw [if_pos ⟨h1, h2⟩]
theorem rowZ_no {n l : Int} (h : inB n 3 5 = false ∨ inB l 0 (16 * (n - 1) - 1) = false) : rowZ n l = -1 := by
  unfold rowZ; rw [if_neg]; rintro ⟨h1, h2⟩; rcases h with h | h <;> simp_all
theorem rowZ_yes {n l : Int} (h1 : inB n 3 5 = true) (h2 : inB l 0 (16 * (n - 1) - 1) = true) : rowZ n l = l / (n - 1) := by unfold rowZ; rw [if_pos ⟨h1, h2⟩]
theorem diskZ_no {n l : Int} (h : inB n 3 5 = false ∨ inB l 0 (16 * (n - 1) - 1) = false) : diskZ n l = -1 := by
  unfold diskZ; rw [if_neg]; rintro ⟨h1, h2⟩; rcases h with h | h <;> simp_all
theorem diskZ_yes {n l : Int} (h1 : inB n 3 5 = true) (h2 : inB l 0 (16 * (n - 1) - 1) = true) : diskZ n l = ((n - 1 - l / (n - 1)) % n + 1 + l % (n - 1)) % n := by unfold diskZ; rw [if_pos ⟨h1, h2⟩]
theorem logZ_yes {n d r : Int} (h1 : inB n 3 5 = true) (h2 : inB r 0 15 = true) (h3 : inB d 0 (n - 1) = true) (h4 : d ≠ (n - 1 - r) % n) : logZ n d r = r * (n - 1) + (d - (n - 1 - r) % n - 1 + n) % n := by unfold logZ; rw [if_pos ⟨h1, h2, h3, h4⟩]
/-- what a logical place that is there has -/
theorem layout_at {n l : Int} (h1 : inB n 3 5 = true) (h2 : inB l 0 (16 * (n - 1) - 1) = true) :
    0 ≤ rowZ n l ∧ rowZ n l ≤ 15 ∧ 0 ≤ diskZ n l ∧ diskZ n l < n ∧ logZ n (diskZ n l) (rowZ n l) = l ∧ diskZ n l ≠ extraZ n (rowZ n l) ∧ extraZ n (rowZ n l) = (n - 1 - rowZ n l) % n := by
  have b := inB_iff.1 h2
  rw [rowZ_yes h1 h2, diskZ_yes h1 h2]
  rcases three h1 with rfl | rfl | rfl
  · have h3 : inB (l / (3 - 1)) 0 15 = true := inB_yes (by omega) (by omega)
    rw [extraZ_yes h1 h3]
    refine ⟨by omega, by omega, by omega, by omega, ?_, by omega, rfl⟩
    rw [logZ_yes h1 h3 (inB_yes (by omega) (by omega)) (by omega)]
    omega
  · have h3 : inB (l / (4 - 1)) 0 15 = true := inB_yes (by omega) (by omega)
    rw [extraZ_yes h1 h3]
    refine ⟨by omega, by omega, by omega, by omega, ?_, by omega, rfl⟩
    rw [logZ_yes h1 h3 (inB_yes (by omega) (by omega)) (by omega)]
    omega
  · have h3 : inB (l / (5 - 1)) 0 15 = true := inB_yes (by omega) (by omega)
    rw [extraZ_yes h1 h3]
    refine ⟨by omega, by omega, by omega, by omega, ?_, by omega, rfl⟩
    rw [logZ_yes h1 h3 (inB_yes (by omega) (by omega)) (by omega)]
    omega
end Go.Proofs.YteialkknddpbjaaGreatDoor
namespace Go.Proofs.YteialkknddpbjaaGreatDoor
open Go.ChangeShapes Go.WideShapes Go.ChangeAt Go.RowKit

theorem l5N_any (n : Int) (w : World) :
    Calls Tryz.prog 150 #[.int .i64 n] w fun e w' => e = .returned (.bool (inB n 3 5)) ∧ w = w' := by
  go_enter Tryz.func150, Tryz.ntmps150
  go_wp2_with fail
  go_fit (l1In_any _ _ _ _)
  rintro e w' ⟨rfl, rfl⟩
  go_wp2_with fail
  go_ret
  exact ⟨rfl, rfl⟩
theorem specExtraOf_any (n r : Int) (w : World) :
    Calls Tryz.prog 238 #[.int .i64 n, .int .i64 r] w fun e w' => e = .returned (.int .i64 (extraZ n r)) ∧ w = w' := by
  cases h1 : inB n 3 5
  · have HF := Lib.hid (extraZ_no (n := n) (r := r) (.inl h1))
    go_enter Tryz.func238, Tryz.ntmps238
    go_wp2_with fail
    go_fit (l5N_any _ _)
    rintro e w' ⟨rfl, rfl⟩
    go_wp2_with fail
    go_ret
    exact ⟨ret_int HF.out.symm, rfl⟩
  cases h2 : inB r 0 15
  · have HF := Lib.hid (extraZ_no (n := n) (r := r) (.inr h2))
    go_enter Tryz.func238, Tryz.ntmps238
    go_wp2_with fail
    go_fit (l5N_any _ _)
    rintro e w' ⟨rfl, rfl⟩
    go_wp2_with fail
    go_fit (l1Place_any _ _)
    rintro e w' ⟨rfl, rfl⟩
    go_wp2_with fail
    go_ret
    exact ⟨ret_int HF.out.symm, rfl⟩
  obtain ⟨n0, n1⟩ := inB_iff.1 h1
  obtain ⟨r0, r1⟩ := inB_iff.1 h2
  have HF := Lib.hid ((extraZ_yes h1 h2).trans (tmod2w (n - 1 - r) n (by omega) (by omega)).symm)
  go_enter Tryz.func238, Tryz.ntmps238
  go_wp2_with fail
  go_fit (l5N_any _ _)
  rintro e w' ⟨rfl, rfl⟩
  go_wp2_with fail
  go_fit (l1Place_any _ _)
  rintro e w' ⟨rfl, rfl⟩
  go_wp2_with fail
  go_ret
  exact ⟨ret_int HF.out.symm, rfl⟩
theorem specRowOf_any (n l : Int) (w : World) :
    Calls Tryz.prog 168 #[.int .i64 n, .int .i64 l] w fun e w' => e = .returned (.int .i64 (rowZ n l)) ∧ w = w' := by
  cases h1 : inB n 3 5
  · have HF := Lib.hid (rowZ_no (n := n) (l := l) (.inl h1))
    go_enter Tryz.func168, Tryz.ntmps168
    go_wp2_with fail
    go_fit (l5N_any _ _)
    rintro e w' ⟨rfl, rfl⟩
    go_wp2_with fail
    go_ret
    exact ⟨ret_int HF.out.symm, rfl⟩
  obtain ⟨n0, n1⟩ := inB_iff.1 h1
  cases h2 : inB l 0 (16 * (n - 1) - 1)
  · have HF := Lib.hid (rowZ_no (n := n) (l := l) (.inr h2))
    go_enter Tryz.func168, Tryz.ntmps168
    go_wp2_with fail
    go_fit (l5N_any _ _)
    rintro e w' ⟨rfl, rfl⟩
    go_wp2_with fail
    go_fit (l1In_any _ _ _ _)
    rintro e w' ⟨rfl, rfl⟩
    go_wp2_with fail
    go_ret
    exact ⟨ret_int HF.out.symm, rfl⟩
  obtain ⟨r0, r1⟩ := inB_iff.1 h2
  have HF := Lib.hid (rowZ_yes h1 h2)
  go_enter Tryz.func168, Tryz.ntmps168
  go_wp2_with fail
  go_fit (l5N_any _ _)
  rintro e w' ⟨rfl, rfl⟩
  go_wp2_with fail
  go_fit (l1In_any _ _ _ _)
  rintro e w' ⟨rfl, rfl⟩
  go_wp2_with fail
  go_ret
  exact ⟨ret_int HF.out.symm, rfl⟩
theorem specDiskOf_any (n l : Int) (w : World) :
    Calls Tryz.prog 169 #[.int .i64 n, .int .i64 l] w (Pure (.int .i64 (diskZ n l)) w) := by
  by_cases h : rowZ n l < 0
  · have HF : Hid (diskZ n l = -1) := by
      show _ = _
      cases h1 : inB n 3 5
      · exact diskZ_no (.inl h1)
      · cases h2 : inB l 0 (16 * (n - 1) - 1)
        · exact diskZ_no (.inr h2)
        · have := (layout_at h1 h2).1; omega
    go_enter Tryz.func169, Tryz.ntmps169
    go_wp2_with fail
    go_fit (specRowOf_any _ _ _)
    rintro e w' ⟨rfl, rfl⟩
    go_wp2_with fail
    go_ret
    exact ⟨ret_int HF.out.symm, grefl _⟩
  cases h1 : inB n 3 5
  · rw [rowZ_no (.inl h1)] at h; omega
  cases h2 : inB l 0 (16 * (n - 1) - 1)
  · rw [rowZ_no (.inr h2)] at h; omega
  have hl := layout_at h1 h2
  obtain ⟨n0, n1⟩ := inB_iff.1 h1
  obtain ⟨l0, l1⟩ := inB_iff.1 h2
  have he : 0 ≤ (n - 1 - rowZ n l) % n ∧ (n - 1 - rowZ n l) % n < n := ⟨Int.emod_nonneg _ (by omega), Int.emod_lt_of_pos _ (by omega)⟩
  have hm : 0 ≤ l % (n - 1) ∧ l % (n - 1) < n - 1 := ⟨Int.emod_nonneg _ (by omega), Int.emod_lt_of_pos _ (by omega)⟩
  have HF : Hid (diskZ n l = (extraZ n (rowZ n l) + 1 + l % (n - 1)) % n) := by
    show _ = _
    rw [hl.2.2.2.2.2.2, diskZ_yes h1 h2, rowZ_yes h1 h2]
  have HE := hl.2.2.2.2.2.2
  have he0 : 0 ≤ extraZ n (rowZ n l) := by rw [HE]; exact he.1
  have he1 : extraZ n (rowZ n l) < n := by rw [HE]; exact he.2
  clear hl he HE
  obtain ⟨m0, m1⟩ := hm
  have hc : ∀ w, Calls Tryz.prog 238 #[.int .i64 n, .int .i64 (rowZ n l)] w fun e w' => e = .returned (.int .i64 (extraZ n (rowZ n l))) ∧ w = w' := fun w => specExtraOf_any n _ w
  generalize extraZ n (rowZ n l) = E at *
  go_enter Tryz.func169, Tryz.ntmps169
  go_wp2_with fail
  go_fit (specRowOf_any _ _ _)
  rintro e w' ⟨rfl, rfl⟩
  go_wp2_with fail
  go_quiet ((go_at_call 238; go_fit (hc _); rintro e w8 ⟨rfl, rfl⟩; exact ⟨rfl, _, rfl⟩))
  go_wp2_with fail
  go_ret
  exact ⟨ret_int HF.out.symm, gdrew (grefl _) _⟩
end Go.Proofs.YteialkknddpbjaaGreatDoor
namespace Go.Proofs.YteialkknddpbjaaGreatDoor
open Go.ChangeShapes Go.WideShapes Go.ChangeAt Go.RowKit

abbrev ptr (b : Nat) : Value := .pointer (some ⟨b, 0, none⟩)
abbrev fRing (b : Nat) : Value := .func (.func 284) #[] #[ptr b]
abbrev fExtra (b c : Nat) : Value := .func (.func 275) #[] #[ptr b, ptr c]
/-- a variable that holds v -/
abbrev Var (w : World) (b : Nat) (v : Value) : Prop := w.cell? ⟨b, 0, none⟩ = some v
/-- a variable that holds the ring of n -/
def VRing (w : World) (b : Nat) (n : Int) : Prop := ∃ r, Var w b (fRing r) ∧ Var w r (.int .i64 n)
/-- a variable that holds the parity disk's closure for n -/
def VExtra (w : World) (b : Nat) (n : Int) : Prop := ∃ c d, Var w b (fExtra c d) ∧ VRing w c n ∧ Var w d (.int .i64 n)
theorem Var.new (w : World) (v : Value) (T : Nat) : Var (w.alloc (.cells #[v] T)) w.heap.size v := by simp [Var, go_sem]
/-- a new variable that is given its value -/
theorem At.new (w : World) (v : Value) (T : Nat) : At (w.alloc (.cells #[v] T)) w.heap.size 0 v := by simp [At, go_sem]
theorem Var.set {w : World} {b : Nat} {v : Value} (h : At w b 0 v) (u : Value) : Var (w.setCell ⟨b, 0, none⟩ u) b u := by simp [Var, go_sem, h.1]
theorem Var.set2 {w : World} {b c : Nat} {v : Value} (h : Var w b v) (hb : b ≠ c) (u : Value) : Var (w.setCell ⟨c, 0, none⟩ u) b v :=
  (World.cell?_of_block (w := w) (Below.heap_setCell w ⟨c, 0, none⟩ u b hb)).trans h
theorem VRing.kept {w w' : World} {b : Nat} {n : Int} (h : VRing w b n) (g : w.grownBy w' none) : VRing w' b n := by
  obtain ⟨r, h1, h2⟩ := h; exact ⟨r, gkc g h1, gkc g h2⟩
theorem VExtra.kept {w w' : World} {b : Nat} {n : Int} (h : VExtra w b n) (g : w.grownBy w' none) : VExtra w' b n := by
  obtain ⟨c, d, h1, h2, h3⟩ := h; exact ⟨c, d, gkc g h1, h2.kept g, gkc g h3⟩
/-- what the data closures read -/
abbrev DS (w w' : World) (b c q x y : Nat) (n : Int) : Prop := Var w' b (fRing q) ∧ Var w' c (fExtra x y) ∧ Var w' q (.int .i64 n) ∧ VRing w' x n ∧ Var w' y (.int .i64 n) ∧ w.grownBy w' none
theorem DS.kept {w w' w2 : World} {b c q x y : Nat} {n : Int} (h : DS w w' b c q x y n) (g : w'.grownBy w2 none) : DS w w2 b c q x y n :=
  ⟨gkc g h.1, gkc g h.2.1, gkc g h.2.2.1, h.2.2.2.1.kept g, gkc g h.2.2.2.2.1, gtrans h.2.2.2.2.2 g⟩
end Go.Proofs.YteialkknddpbjaaGreatDoor
