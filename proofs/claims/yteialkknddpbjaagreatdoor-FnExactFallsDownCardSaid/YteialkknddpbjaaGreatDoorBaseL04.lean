/- Parity of values, as plain mathematics; slices of numbers. What the specification's functions of chapter 4 return. What the program's functions of chapter 4 return. The laws' own helpers over slices of numbers: what came in, opened, copied, compared. The laws' own helpers: lists of numbers are marked, and are held against their marks. -/
import Derived.Test.YteialkknddpbjaaGreatDoorOwn
import Derived.Test.YteialkknddpbjaaGreatDoorBase
import Derived.Test.YteialkknddpbjaaGreatDoorSpecL01
import Derived.Deep.DeepFit
import Derived.Deep.RegionHeld3
import Derived.Deep.Slices
import Derived.Deep.Fields
import Derived.BigQuiet
import Derived.Test.YteialkknddpbjaaGreatDoorBaseL02
import Derived.LoopTactic
namespace Go.Proofs.YteialkknddpbjaaGreatDoor
open Go.ChangeShapes Go.WideShapes Go.ChangeAt Go.RowKit

def okv (x : Int) : Bool := inB x 0 32767
def foldX : List Int → Nat
  | [] => 0
  | x :: r => x.toNat ^^^ foldX r
/-- the parity of a list of values, -1 where one is no value -/
def xorZ (l : List Int) : Int := if l.all okv = true then (foldX l : Int) else -1
theorem okv_iff {x : Int} : okv x = true ↔ 0 ≤ x ∧ x ≤ 32767 := inB_iff
theorem foldX_append (a b : List Int) : foldX (a ++ b) = foldX a ^^^ foldX b := by
  induction a with
  | nil => simp [foldX]
  | cons x r ih => simp [foldX, ih, Nat.xor_assoc]
theorem foldX_reverse (l : List Int) : foldX l.reverse = foldX l := by
  induction l with
  | nil => rfl
  | cons x r ih => rw [List.reverse_cons, foldX_append, ih]; simp [foldX, Nat.xor_comm]
theorem xor_lt {a b : Nat} (ha : a < 32768) (hb : b < 32768) : a ^^^ b < 32768 := Nat.xor_lt_two_pow (n := 15) ha hb
theorem foldX_lt {l : List Int} (h : l.all okv = true) : foldX l < 32768 := by
  induction l with
  | nil => simp [foldX]
  | cons x r ih =>
    simp only [List.all_cons, Bool.and_eq_true] at h
    have := okv_iff.1 h.1
    exact xor_lt (by omega) (ih h.2)
theorem foldX_set (l : List Int) (i : Nat) (x : Int) (h : i < l.length) : foldX (l.set i x) = foldX l ^^^ l[i].toNat ^^^ x.toNat := by
  induction l generalizing i with
  | nil => simp at h
  | cons y r ih =>
    cases i with
    | zero =>
      simp only [List.set_cons_zero, List.getElem_cons_zero, foldX]
      rw [Nat.xor_comm y.toNat, Nat.xor_assoc (foldX r), Nat.xor_self, Nat.xor_zero, Nat.xor_comm]
    | succ i =>
      simp only [List.set_cons_succ, List.getElem_cons_succ, foldX]
      rw [ih i (by simpa using h)]
      simp [Nat.xor_assoc]
theorem foldX_take {l : List Int} {k : Nat} (h : k < l.length) : foldX (l.take (k + 1)) = foldX (l.take k) ^^^ l[k].toNat := by
  rw [List.take_succ_eq_append_getElem h, foldX_append]; simp [foldX]
theorem xor64 {a b : Int} (ha0 : 0 ≤ a) (ha : a ≤ 32767) (hb0 : 0 ≤ b) (hb : b ≤ 32767) : bits .xor .i64 a b = ((a.toNat ^^^ b.toNat : Nat) : Int) := by
  obtain ⟨A, rfl⟩ := Int.eq_ofNat_of_zero_le ha0
  obtain ⟨B, rfl⟩ := Int.eq_ofNat_of_zero_le hb0
  have e1 : (BitVec.ofInt 64 (A : Int)).toNat = A := by rw [BitVec.toNat_ofInt]; omega
  have e2 : (BitVec.ofInt 64 (B : Int)).toNat = B := by rw [BitVec.toNat_ofInt]; omega
  have e3 : (BitVec.ofInt 64 (A : Int) ^^^ BitVec.ofInt 64 (B : Int)).toNat = A ^^^ B := by rw [BitVec.toNat_xor, e1, e2]
  have le : A ^^^ B < 32768 := xor_lt (by omega) (by omega)
  show IntKind.i64.wrap _ = _
  rw [show (A : Int).toNat = A from rfl, show (B : Int).toNat = B from rfl, ← e3]
  exact IntWalk.i64_in ((BitVec.ofInt 64 (A : Int) ^^^ BitVec.ofInt 64 (B : Int)).toNat : Int) (by omega)
theorem xorZ_no {l : List Int} (h : l.all okv = false) : xorZ l = -1 := by simp [xorZ, h]
theorem xorZ_yes {l : List Int} (h : l.all okv = true) : xorZ l = (foldX l : Int) := by simp [xorZ, h]
theorem xorZ_bad {l : List Int} {k : Nat} (h : k < l.length) (hb : okv l[k] = false) : xorZ l = -1 := by
  apply xorZ_no
  rw [List.all_eq_false]
  exact ⟨l[k], List.getElem_mem h, by simp [hb]⟩
theorem xorZ_lo (l : List Int) : -1 ≤ xorZ l := by unfold xorZ; split <;> omega
theorem xorZ_hi (l : List Int) : xorZ l ≤ 32767 := by
  unfold xorZ; split
  · have := foldX_lt (by assumption); omega
  · omega
theorem xorZ_iff {l : List Int} : 0 ≤ xorZ l ↔ l.all okv = true := by
  cases h : l.all okv
  · rw [xorZ_no h]; simp
  · rw [xorZ_yes h]; simp
/-- one step of the parity -/
theorem xor_step {l : List Int} {k : Nat} (h : k < l.length) (ho : okv l[k] = true) (ha : (l.take k).all okv = true) :
    (l.take (k + 1)).all okv = true ∧ bits .xor .i64 (foldX (l.take k)) l[k] = (foldX (l.take (k + 1)) : Int) := by
  have h1 := okv_iff.1 ho
  have h2 := foldX_lt ha
  refine ⟨by rw [List.take_succ_eq_append_getElem h, List.all_append, ha]; simp [ho], ?_⟩
  rw [xor64 (by omega) (by omega) h1.1 h1.2, foldX_take h]
  rfl
/-- Missing of chapter 4 -/
def missZ (l : List Int) (at' s : Int) : Int := if l.all okv = true ∧ 0 ≤ at' ∧ at' < l.length ∧ okv s = true then ((foldX l ^^^ (l.getD at'.toNat 0).toNat ^^^ s.toNat : Nat) : Int) else -1
theorem all_get {l : List Int} {k : Nat} (h : l.all okv = true) (hk : k < l.length) : okv l[k] = true := List.all_eq_true.1 h _ (List.getElem_mem hk)
theorem miss_lt {l : List Int} {k : Nat} {s : Int} (h : l.all okv = true) (hk : k < l.length) (hs : okv s = true) : foldX l ^^^ l[k].toNat ^^^ s.toNat < 32768 := by
  have h1 := okv_iff.1 (all_get h hk)
  have h2 := okv_iff.1 hs
  exact xor_lt (xor_lt (foldX_lt h) (by omega)) (by omega)
theorem missZ_yes {l : List Int} {k : Nat} {s : Int} (h : l.all okv = true) (hk : k < l.length) (hs : okv s = true) : missZ l k s = ((foldX l ^^^ l[k].toNat ^^^ s.toNat : Nat) : Int) := by
  unfold missZ
  rw [if_pos ⟨h, by omega, by omega, hs⟩]
  simp [List.getD_eq_getElem?_getD, List.getElem?_eq_getElem hk]
theorem missZ_no {l : List Int} {at' s : Int} (h : l.all okv = false ∨ at' < 0 ∨ (l.length : Int) ≤ at' ∨ okv s = false) : missZ l at' s = -1 := by
  unfold missZ
  rw [if_neg]
  rintro ⟨h1, h2, h3, h4⟩
  rcases h with h | h | h | h
  · rw [h1] at h; cases h
  · omega
  · omega
  · rw [h4] at h; cases h
theorem missZ_lo (l : List Int) (a s : Int) : -1 ≤ missZ l a s := by unfold missZ; split <;> omega
/-- what the program computes: the parity of the sum, the parity of the list and the element -/
theorem three_xor {l : List Int} {k : Nat} (s : Int) (hk : k < l.length) : xorZ [s, xorZ l, l[k]] = missZ l k s := by
  cases h : l.all okv
  · rw [missZ_no (.inl h), xorZ_no h]
    apply xorZ_no
    simp [okv, inB]
  · cases hs : okv s
    · rw [missZ_no (.inr (.inr (.inr hs)))]
      apply xorZ_no
      simp [hs]
    · have hl := foldX_lt h
      have hy : okv (foldX l : Int) = true := okv_iff.2 ⟨by omega, by omega⟩
      rw [missZ_yes h hk hs, xorZ_yes h, xorZ_yes (by simp [hs, hy, all_get h hk])]
      simp only [foldX, Nat.xor_zero, Int.toNat_natCast]
      rw [Nat.xor_comm]
/-- the missing value makes the parity right, and no other does -/
theorem miss_set {l : List Int} {k : Nat} {s x : Int} (h : l.all okv = true) (hk : k < l.length) (hs : okv s = true) (hx : okv x = true) : (xorZ (l.set k x) = s ↔ x = missZ l k s) := by
  have ha : (l.set k x).all okv = true := by
    rw [List.all_eq_true]
    intro y hy
    rcases List.mem_or_eq_of_mem_set hy with hy | rfl
    · exact List.all_eq_true.1 h _ hy
    · exact hx
  have h1 := okv_iff.1 hx
  have h2 := okv_iff.1 hs
  obtain ⟨X, rfl⟩ := Int.eq_ofNat_of_zero_le h1.1
  obtain ⟨S, rfl⟩ := Int.eq_ofNat_of_zero_le h2.1
  rw [xorZ_yes ha, missZ_yes h hk hs, foldX_set l k _ hk]
  generalize foldX l ^^^ l[k].toNat = A
  simp only [Int.toNat_natCast]
  constructor
  · intro e
    have e' : A ^^^ X = S := by omega
    subst e'
    rw [← Nat.xor_assoc, Nat.xor_self, Nat.zero_xor]
  · intro e
    have e' : X = A ^^^ S := by omega
    subst e'
    rw [← Nat.xor_assoc, Nat.xor_self, Nat.zero_xor]
theorem xorZ_reverse (l : List Int) : xorZ l.reverse = xorZ l := by
  unfold xorZ; rw [List.all_reverse, foldX_reverse]
theorem xorZ_double {l : List Int} (h : 0 ≤ xorZ l) : xorZ (l.reverse ++ l) = 0 := by
  have h := xorZ_iff.1 h
  rw [xorZ_yes (by rw [List.all_append, List.all_reverse, h]; rfl), foldX_append, foldX_reverse, Nat.xor_self]
  rfl
def intE : Elt Int where
  T := 2
  S := 42
  size := 1
  bytes := 8
  z := .int .i64 0
  enc := fun p => [.int .i64 p]
  len := fun _ => rfl
  one := fun x u hu => by simp at hu; rcases hu with rfl; rfl
  pos := by omega
  und := Tryz.underlying42
  info := by kernel_rfl
  zs := rfl
/-- v is a slice that owns the numbers l -/
abbrev IS (w : World) (base : Nat) (v : Value) (l : List Int) : Prop := Own intE w base v l
/-- v is a slice whose numbers l can be read -/
abbrev IR (w : World) (v : Value) (l : List Int) : Prop := Rd intE w v l
theorem intE_all (l : List Int) : intE.all l = l.map (.int .i64 ·) := by
  induction l with
  | nil => rfl
  | cons x r ih => simp only [Elt.all, List.flatMap_cons, List.map_cons] at *; rw [ih]; rfl
section
variable {w w' : World} {base : Nat} {v : Value} {l : List Int}
theorem Rd.form (h : IR w v l) : ∃ a cap, v = .slice a l.length cap ∧ l.length ≤ 9223372036854775807 := by
  obtain ⟨a, cap, h1, h2, h3, _⟩ := h; exact ⟨a, cap, h1, by omega⟩
theorem Rd.at {a : Option Addr} {n cap : Nat} (h : IR w (.slice a n cap) l) (i : Nat) (hi : i < l.length) : ∃ g o, a = some ⟨g, o, none⟩ ∧ w.cell? ⟨g, o + i, none⟩ = some (.int .i64 l[i]) := by
  obtain ⟨a', cap', h1, _, _, h4 | ⟨g, o, h4, _, h6⟩⟩ := h
  · rw [h4] at hi; simp at hi
  · cases h1
    exact ⟨g, o, h4, h6 i _ (by rw [intE_all]; simp [hi])⟩
theorem IS.at {a : Option Addr} {n cap : Nat} (h : IS w base (.slice a n cap) l) (i : Nat) (hi : i < l.length) : ∃ g, a = some ⟨g, 0, none⟩ ∧ base ≤ g ∧ g < w.heap.size ∧ At w g i (.int .i64 l[i]) := by
  obtain ⟨g, h1, h2, h3, h4⟩ := Own.at h i hi
  exact ⟨g, h1, h2, h3, by have := h4 0 _ rfl; simpa [intE] using this⟩
/-- writing one number -/
theorem IS.set {n cap g : Nat} (h : IS w base (.slice (some ⟨g, 0, none⟩) n cap) l) (i : Nat) (x : Int) :
    IS (w.setCell ⟨g, i, none⟩ (.int .i64 x)) base (.slice (some ⟨g, 0, none⟩) n cap) (l.set i x) := by
  obtain ⟨h0, ⟨h1, h2⟩ | ⟨g', c, cur, hv, hb, hg, h1, h2, h3, h4⟩⟩ := h
  · cases h1
  · cases hv
    refine ⟨Elt.all_length _ _, .inr ⟨g, cap, cur.setIfInBounds i (.int .i64 x), by simp, hb, heap_set_same hg _, by simpa using h1, h2, by simp [h3], ?_⟩⟩
    rw [intE_all, List.map_set, ← intE_all, ← h4]
    simp [List.take_set]
theorem IS.single (w : World) (x : Int) (hb : base ≤ w.heap.size) : IS (w.alloc (.cells #[.int .i64 x] 2)) base (.slice (some ⟨w.heap.size, 0, none⟩) 1 1) [x] :=
  Own.fresh intE w [x] _ rfl (by simp) hb
theorem IS.empty (w : World) (hb : base ≤ w.heap.size) : IS (w.alloc (.cells #[] 2)) base (.slice (some ⟨w.heap.size, 0, none⟩) 0 0) [] :=
  Own.fresh intE w [] _ rfl (by simp) hb
theorem IS.three (w : World) (x y z : Int) (hb : base ≤ w.heap.size) : IS (w.alloc (.cells #[.int .i64 x, .int .i64 y, .int .i64 z] 2)) base (.slice (some ⟨w.heap.size, 0, none⟩) 3 3) [x, y, z] :=
  Own.fresh intE w [x, y, z] _ rfl (by simp) hb
end
/-- a new slice of numbers -/
def GotI (l : List Int) (w : World) (e : Ending) (w' : World) : Prop := ∃ v, e = .returned v ∧ IS w' w.heap.size v l ∧ w.grownBy w' none
end Go.Proofs.YteialkknddpbjaaGreatDoor
namespace Go.Proofs.YteialkknddpbjaaGreatDoor
open Go.ChangeShapes Go.WideShapes Go.ChangeAt Go.RowKit

end Go.Proofs.YteialkknddpbjaaGreatDoor
namespace Go.Proofs.YteialkknddpbjaaGreatDoor
open Go.ChangeShapes Go.WideShapes Go.ChangeAt Go.RowKit

theorem parityOf_any (v : Value) (l : List Int) (w : World) (h : IR w v l) :
    Calls Tryz.prog 236 #[v] w fun e w' => e = .returned (.int .i64 (xorZ l)) ∧ w = w' := by
  obtain ⟨a, cap, rfl, hm⟩ := h.form
  go_enter Tryz.func236, Tryz.ntmps236
  go_wp2
  go_loop [3, 8] (fun n i => ∃ k : Nat, k ≤ l.length ∧ i = .int .i64 k ∧ n = .int .i64 (foldX (l.take k)) ∧ Hid ((l.take k).all okv = true)) (fun _ i => l.length - (intOf i).toNat)
  case atStart => exact ⟨0, Nat.zero_le _, rfl, rfl, rfl⟩
  case round =>
    obtain ⟨k, hk, rfl, rfl, HA⟩ := hrel
    by_cases hlt : k < l.length
    · obtain ⟨g, o, rfl, c0⟩ := h.at k hlt
      cases hok : okv l[k]
      · have HN := Lib.hid (xorZ_bad hlt hok)
        have hok' : inB l[k] 0 32767 = false := hok
        clear hok
        go_wp2_with fail
        go_fit (implValueOk_any _ _)
        rintro e w' ⟨rfl, rfl⟩
        go_wp2_with fail
        go_ret
        exact ⟨ret_int HN.out.symm, rfl⟩
      · obtain ⟨h1, h2⟩ := xor_step hlt hok HA.out
        have H1 : Hid ((l.take (k + 1)).all okv = true) := h1
        have H2 := Lib.hid h2
        have hok' : inB l[k] 0 32767 = true := hok
        clear hok h1 h2 HA
        go_wp2_with fail
        go_fit (implValueOk_any _ _)
        rintro e w' ⟨rfl, rfl⟩
        go_wp2_with fail
        go_round
        case rel => exact ⟨k + 1, by omega, by go_num, by rw [H2.out], H1⟩
        case measure => simp [intOf]; omega
    · have HN : Hid (xorZ l = (foldX (l.take k) : Int)) := by
        show _ = _
        have := HA.out
        rw [List.take_of_length_le (by omega)] at this ⊢
        exact xorZ_yes this
      clear HA
      go_wp2_with fail
      go_ret
      exact ⟨ret_int HN.out.symm, rfl⟩
theorem implXor_any (v : Value) (l : List Int) (w : World) (h : IR w v l) :
    Calls Tryz.prog 163 #[v] w fun e w' => e = .returned (.int .i64 (xorZ l)) ∧ w = w' := by
  obtain ⟨a, cap, rfl, hm⟩ := h.form
  go_enter Tryz.func163, Tryz.ntmps163
  go_wp2_with fail
  go_fit (parityOf_any _ l _ h)
  rintro e w' ⟨rfl, rfl⟩
  go_wp2_with fail
  go_ret
  exact ⟨rfl, rfl⟩
end Go.Proofs.YteialkknddpbjaaGreatDoor
namespace Go.Proofs.YteialkknddpbjaaGreatDoor
open Go.ChangeShapes Go.WideShapes Go.ChangeAt Go.RowKit Go.Joins Go.Deep
set_option maxRecDepth 8000

theorem made_ints (n : Nat) : (madeCells intE.z.cells (n * 1)).toList = intE.all (List.replicate n (0 : Int)) := by
  rw [intE_all, List.map_replicate, Nat.mul_one]
  apply List.ext_getElem?
  intro i
  by_cases hi : i < n
  · rw [List.getElem?_replicate, if_pos hi]
    simp [madeCells, hi, intE, Value.cells, Nat.mod_one]
  · rw [List.getElem?_eq_none (by rw [Array.length_toList, size_madeCells]; omega), List.getElem?_eq_none (by simp; omega)]
def zeroI (n : Nat) : Array Value := madeCells intE.z.cells (n * 1)
theorem make_ints (n : Nat) (hn : n ≤ 1048576) (w : World) : (Instr.makeSlice 42 (.int .i64 n) (.int .i64 n)).run Tryz.prog w = .ok (.slice (some ⟨w.heap.size, 0, none⟩) n n) (w.alloc (.cells (zeroI n) 2)) := by
  obtain ⟨i, hi, hz, h1, h2⟩ := info_parts intE.info
  have hr := run_make (P := Tryz.prog) w intE.S intE.T i intE.z intE.und hi hz .i64 .i64 n n (by omega) (by omega) (by rw [h2]; show (8 : Int) * n ≤ _; omega) (by omega)
  rw [h1] at hr
  simp only [Int.toNat_natCast] at hr
  exact hr
theorem IS.made (w : World) (n : Nat) (hn : n ≤ 1048576) {base : Nat} (hb : base ≤ w.heap.size) : IS (w.alloc (.cells (zeroI n) 2)) base (.slice (some ⟨w.heap.size, 0, none⟩) n n) (List.replicate n 0) := by
  have := Own.fresh intE w (List.replicate n (0 : Int)) _ (made_ints n) (by simp; omega) hb
  rw [List.length_replicate] at this
  exact this
/-- the numbers that are filled so far -/
def fillI (l : List Int) (k : Nat) : List Int := l.take k ++ List.replicate (l.length - k) 0
theorem fillI_length (l : List Int) (k : Nat) (h : k ≤ l.length) : (fillI l k).length = l.length := by simp [fillI]; omega
theorem fillI_set (l : List Int) (k : Nat) (h : k < l.length) : (fillI l k).set k l[k] = fillI l (k + 1) := by
  unfold fillI
  rw [List.set_append_right _ _ (by simp; omega), show k - (l.take k).length = 0 by simp; omega, show l.length - k = (l.length - (k + 1)) + 1 by omega, List.replicate_succ, List.set_cons_zero, List.take_succ_eq_append_getElem h, List.append_assoc]
  rfl
theorem toInt64S_any (v : Value) (l : List Int) (w : World) (h : IR w v l) (hl : l.length ≤ 1048576) :
    Calls Tryz.prog 59 #[v] w (GotI l w) := by
  obtain ⟨a, cap, rfl, hm⟩ := h.form
  have hmk := make_ints l.length hl
  have C0 := IS.made w l.length hl (Nat.le_refl w.heap.size)
  have g0 := galloc (grefl w) (.cells (zeroI l.length) 2)
  go_enter Tryz.func59, Tryz.ntmps59
  go_wp2
  go_loopw [4] (fun i wr => ∃ k : Nat, k ≤ l.length ∧ i = .int .i64 k ∧ IS wr w.heap.size (.slice (some ⟨w.heap.size, 0, none⟩) l.length l.length) (fillI l k) ∧ w.grownBy wr none) (fun i _ => l.length - (intOf i).toNat)
  case atStart => exact ⟨0, Nat.zero_le _, rfl, by simpa [fillI] using C0, g0⟩
  case round =>
    obtain ⟨k, hk, rfl, C, G⟩ := hrel
    by_cases hlt : k < l.length
    · obtain ⟨b, o, rfl, c0⟩ := (h.kept G).at k hlt
      obtain ⟨g, hg, _, _, x0, y0⟩ := IS.at C k (by rw [fillI_length l k hk]; exact hlt)
      cases hg
      have C3 := IS.set C k l[k]
      rw [fillI_set l k hlt] at C3
      clear hmk
      go_wp2_with fail
      go_roundw
      case rel => exact ⟨k + 1, by omega, by go_num, C3, gset1 G (Nat.le_refl _) _ _⟩
      case measure => simp [intOf]; omega
    · obtain rfl : k = l.length := by omega
      clear hmk
      go_wp2_with fail
      go_ret
      exact ⟨_, rfl, by simpa [fillI] using C, G⟩
theorem eqInt64S_yes (v1 v2 : Value) (l : List Int) (w : World) (h1 : IR w v1 l) (h2 : IR w v2 l) :
    Calls Tryz.prog 60 #[v1, v2] w (Pure (.bool true) w) := by
  obtain ⟨a1, c1, rfl, hm⟩ := h1.form
  obtain ⟨a2, c2, rfl, _⟩ := h2.form
  go_enter Tryz.func60, Tryz.ntmps60
  go_wp2
  go_loopw [5] (fun i wr => ∃ k : Nat, k ≤ l.length ∧ i = .int .i64 k ∧ w.grownBy wr none) (fun i _ => l.length - (intOf i).toNat)
  case atStart => exact ⟨0, Nat.zero_le _, rfl, grefl _⟩
  case round =>
    obtain ⟨k, hk, rfl, G⟩ := hrel
    by_cases hlt : k < l.length
    · obtain ⟨g1, o1, rfl, p0⟩ := (h1.kept G).at k hlt
      obtain ⟨g2, o2, rfl, q0⟩ := (h2.kept G).at k hlt
      have hi1 : (k : Int) < l.length := by omega
      go_wp2_with fail
      go_quiet (fail)
      go_wp2_with fail
      go_roundw
      case rel => exact ⟨k + 1, by omega, by go_num, gdrew G _⟩
      case measure => simp [intOf]; omega
    · go_wp2_with fail
      go_ret
      exact ⟨rfl, G⟩
/-- a list of numbers that came in, opened -/
theorem listI_of {P : Nat → Int → Prop} : ∀ n : Nat, (∀ i, i < n → ∃ x, P i x) → ∃ l : List Int, l.length = n ∧ ∀ i (h : i < l.length), P i l[i]
  | 0, _ => ⟨[], rfl, fun i h => by simp at h⟩
  | n + 1, hP => by
    obtain ⟨l, hl, h⟩ := listI_of n (fun i hi => hP i (by omega))
    obtain ⟨x, hx⟩ := hP n (by omega)
    refine ⟨l ++ [x], by simp [hl], fun i hi => ?_⟩
    simp at hi
    by_cases hn : i < l.length
    · rw [List.getElem_append_left hn]; exact h i hn
    · have : i = l.length := by omega
      subst this
      simp [hl]
      exact hx
section
variable {H : Type} {enc : TypeId × Value → H} {w : World} {base : Nat} {held : Bool}
theorem openIntsOf {fuel : Nat} {v : Value} {x : DataW H × List MemPlace} (h : DataW.trod enc Tryz.prog w base (fun _ => true) held fuel 42 [v] = some x) : ∃ a len cap l, v = .slice a len cap ∧ IR w (.slice a len cap) l := by
  have hc : Tryz.prog.cellsOf 2 = 1 := by kernel_rfl
  rcases open_slice Tryz.underlying42 h with ⟨hcs, _⟩ | ⟨a, len, cap, m, n, D, Pl, hcs, hl0, hl, hm, hmm, _, hi⟩
  · simp at hcs
    exact ⟨none, 0, 0, [], hcs, none, 0, rfl, by simp, by omega, .inl rfl⟩
  · simp at hcs hmm
    subst hmm
    rw [hc] at hi
    obtain ⟨l, hll, hP⟩ := listI_of (P := fun i x => w.cell? (a.add (i * 1)) = some (.int .i64 x)) len (fun i hi' => by
      obtain ⟨cs', h1, h2⟩ := hi i (by omega)
      obtain ⟨_, h3, h4⟩ := World.cells?_some h1
      obtain ⟨u, e0, _⟩ := DataW.trod_int Tryz.underlying2 h2
      subst e0
      exact ⟨u, by have := h4 0 (by omega); rw [add_add] at this; exact this⟩)
    unfold maxLen at hm
    refine ⟨some a, len, m, l, hcs, some a, m, by rw [hll], by omega, by omega, ?_⟩
    by_cases h0 : l = []
    · exact .inl h0
    · have hpos : 0 < l.length := List.length_pos_iff.2 h0
      obtain ⟨b, o, sp⟩ := a
      have hc0 := hP 0 hpos
      have hsp : sp = none := by
        cases sp with
        | none => rfl
        | some x => simp [World.cell?, Addr.add] at hc0; split at hc0 <;> simp_all
      subst hsp
      have hadd : ∀ i, (⟨b, o, none⟩ : Addr).add i = ⟨b, o + i, none⟩ := fun i => by cases i <;> simp [Addr.add]
      refine .inr ⟨b, o, rfl, ?_, fun j u hj => ?_⟩
      · rw [hadd] at hc0; exact cell_lt hc0
      · rw [intE_all] at hj
        obtain ⟨hj', hu⟩ := List.getElem?_eq_some_iff.1 hj
        simp at hj' hu
        have := hP j hj'; rw [hadd, Nat.mul_one, hu] at this; exact this
theorem openInts {r : Reach} {b0 : Nat} {v : Value} {d : DataW H} {p : List MemPlace} (hv : Value.okWide Tryz.prog w r b0 42 v) (h : DataW.Trod enc Tryz.prog w base (fun _ => true) held 42 v d p) :
    ∃ (l : List Int) (a : Option Addr) (len cap : Nat), v = .slice a len cap ∧ IR w (.slice a len cap) l := by
  obtain ⟨a0, n0, c0, rfl⟩ := okWide_slice Tryz.underlying42 hv
  obtain ⟨fuel, h⟩ := h
  obtain ⟨a, len, cap, l, h1, h2⟩ := openIntsOf (by simpa [Value.cells] using h)
  exact ⟨l, a, len, cap, h1, h2⟩
end
end Go.Proofs.YteialkknddpbjaaGreatDoor
namespace Go.Proofs.YteialkknddpbjaaGreatDoor
open Go.ChangeShapes Go.WideShapes Go.ChangeAt Go.RowKit Go.Joins Go.Deep

/-- the marks of a list of numbers -/
def markI (k : Int) (n : Nat) : List Int := (List.range n).map fun i : Nat => k + (i : Int)
theorem markI_length (k : Int) (n : Nat) : (markI k n).length = n := by simp [markI]
theorem markI_get (k : Int) (n i : Nat) (h : i < n) : (markI k n)[i]'(by rw [markI_length]; exact h) = k + (i : Int) := by simp [markI]
def partI (k : Int) (l : List Int) (j : Nat) : List Int := markI k j ++ l.drop j
theorem partI_length (k : Int) (l : List Int) (j : Nat) (h : j ≤ l.length) : (partI k l j).length = l.length := by simp [partI, markI_length]; omega
theorem partI_set (k : Int) (l : List Int) (j : Nat) (h : j < l.length) : (partI k l j).set j (k + (j : Int)) = partI k l (j + 1) := by
  unfold partI
  rw [List.set_append_right _ _ (by simp [markI_length]), show j - (markI k j).length = 0 by simp [markI_length], List.drop_eq_getElem_cons h, List.set_cons_zero]
  simp [markI, List.range_succ]
def MarkI (B : Nat) (v : Value) (k : Int) (n : Nat) (w : World) (e : Ending) (w' : World) : Prop := e = .returned (.int .i64 (k + n)) ∧ IS w' B v (markI k n) ∧ w.grownBy w' v.ownBlock
theorem markInt64S_any (B : Nat) (v : Value) (l : List Int) (k : Int) (w : World) (h : IS w B v l) (hl : l.length ≤ 1048576) (h0 : 0 ≤ k) (h1 : k ≤ 1099511627776) :
    Calls Tryz.prog 62 #[v, .int .i64 k] w (MarkI B v k l.length w) := by
  obtain ⟨a, c, rfl, _⟩ := h.form
  go_enter Tryz.func62, Tryz.ntmps62
  go_wp2
  go_loopw [1, 5] (fun m i wr => ∃ j : Nat, j ≤ l.length ∧ i = .int .i64 j ∧ m = .int .i64 (k + j) ∧ IS wr B (.slice a l.length c) (partI k l j) ∧ w.grownBy wr (Value.slice a l.length c).ownBlock) (fun _ i _ => l.length - (intOf i).toNat)
  case atStart => exact ⟨0, Nat.zero_le _, rfl, by simp, by simpa [partI, markI] using h, World.grownBy.refl _ _⟩
  case round =>
    obtain ⟨j, hj, rfl, rfl, C, G⟩ := hrel
    by_cases hlt : j < l.length
    · obtain ⟨g, rfl, _, _, ⟨x0, y0⟩⟩ := IS.at C j (by rw [partI_length k l j hj]; exact hlt)
      have C3 := IS.set C j (k + j)
      rw [partI_set k l j hlt] at C3
      have hi1 : (j : Int) < l.length := by omega
      go_wp2_with fail
      go_roundw
      case rel => exact ⟨j + 1, by omega, by go_num, by rw [show k + (j : Int) + 1 = k + ((j + 1 : Nat) : Int) by omega], C3, gset G _ _⟩
      case measure => simp [intOf]; omega
    · obtain rfl : j = l.length := by omega
      go_wp2_with fail
      go_ret
      exact ⟨rfl, by simpa [partI] using C, G⟩
end Go.Proofs.YteialkknddpbjaaGreatDoor
