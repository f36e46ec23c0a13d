/- Texts as lists of bytes. What the specification's functions over texts return: numbers, words. What the specification's l1Read returns: a number that is read. What the specification's Torn returns. -/
import Derived.Test.YtjhnoepllnifhaaBaseL04
import Derived.Test.YtjhnoepllnifhaaBase
import Derived.Laws.IdiomStrings
import Derived.Laws.Concat
import Derived.Laws.Strings2
import Derived.Laws.Strings3
import Derived.Laws.DeepStrings4
import Derived.Test.YtjhnoepllnifhaaMem
import Derived.Deep.DeepFit
import Derived.Deep.DeepCutAuto
namespace Go.Proofs.Ytjhnoepllnifhaa
open Go.ChangeShapes Go.WideShapes Go.ChangeAt Go.RowKit

/-- how long a text in a slot is -/
def szOf : Value → Nat | .string b => b.size | _ => 0
/-- a digit's byte -/
def digB (d : Nat) : UInt8 := UInt8.ofNat (48 + d)
theorem digB_nat {d : Nat} (h : d < 10) : (digB d).toNat = 48 + d := by unfold digB; exact UInt8.toNat_ofNat_of_lt' (by show _ < 256; omega)
/-- decimal digits -/
def digT (n : Nat) : List UInt8 := if n < 10 then [digB n] else digT (n / 10) ++ [digB (n % 10)]
termination_by n
decreasing_by omega
theorem digT_small {n : Nat} (h : n < 10) : digT n = [digB n] := by rw [digT, if_pos h]
theorem digT_big {n : Nat} (h : ¬ n < 10) : digT n = digT (n / 10) ++ [digB (n % 10)] := by rw [digT, if_neg h]
theorem digT_length (n k : Nat) (h : n < 10 ^ (k + 1)) : (digT n).length ≤ k + 1 := by
  induction k generalizing n with
  | zero => rw [digT_small (by simpa using h)]; simp
  | succ k ih =>
    by_cases hn : n < 10
    · rw [digT_small hn]; simp
    · rw [digT_big hn, List.length_append]
      have := ih (n / 10) (by rw [Nat.pow_succ] at h; omega)
      simp; omega
theorem digT_pos (n : Nat) : 0 < (digT n).length := by
  by_cases hn : n < 10
  · rw [digT_small hn]; simp
  · rw [digT_big hn]; simp
/-- the digits that are still to come -/
def leftT (m : Nat) : List UInt8 := if m = 0 then [] else digT m
theorem leftT_next {m : Nat} (h : 0 < m) : leftT m = leftT (m / 10) ++ [digB (m % 10)] := by
  unfold leftT
  rw [if_neg (by omega)]
  by_cases hm : m < 10
  · rw [digT_small hm, if_pos (by omega), Nat.mod_eq_of_lt hm]; rfl
  · rw [digT_big hm, if_neg (by omega)]
/-- the state of the number's text: what is there, what is left -/
def IntS (n0 m : Nat) (t : List UInt8) : Prop := (t = [] ∧ m = n0) ∨ (t ≠ [] ∧ leftT m ++ t = digT n0)
theorem IntS.next {n0 m : Nat} {t : List UInt8} (h : IntS n0 m t) (hm : t = [] ∨ 0 < m) : IntS n0 (m / 10) (digB (m % 10) :: t) := by
  refine .inr ⟨by simp, ?_⟩
  rcases h with ⟨rfl, rfl⟩ | ⟨h1, h2⟩
  · by_cases h0 : m = 0
    · subst h0; rw [digT_small (by omega)]; rfl
    · have := leftT_next (m := m) (by omega)
      unfold leftT at this ⊢
      rw [if_neg h0] at this
      rw [this]
  · rcases hm with rfl | hm
    · exact absurd rfl h1
    · rw [← h2, leftT_next hm]; simp
theorem IntS.done {n0 : Nat} {t : List UInt8} (h : IntS n0 0 t) (ht : t ≠ []) : t = digT n0 := by
  rcases h with ⟨h, _⟩ | ⟨_, h⟩
  · exact absurd h ht
  · rw [← h]; rfl
theorem IntS.length {n0 m : Nat} {t : List UInt8} (h : IntS n0 m t) : t.length ≤ (digT n0).length := by
  rcases h with ⟨rfl, _⟩ | ⟨_, h⟩
  · simp
  · rw [← h]; simp
/-- words with single blanks between them -/
def wordsT : List (List UInt8) → List UInt8
  | [] => []
  | [x] => x
  | x :: y :: r => x ++ 32 :: wordsT (y :: r)
theorem wordsT_snoc (l : List (List UInt8)) (h : l ≠ []) (x : List UInt8) : wordsT (l ++ [x]) = wordsT l ++ 32 :: x := by
  induction l with
  | nil => exact absurd rfl h
  | cons a r ih =>
    cases r with
    | nil => simp [wordsT]
    | cons b r => simp only [List.cons_append] at ih ⊢; simp only [wordsT]; rw [ih (by simp)]; simp
theorem wordsT_take0 {l : List (List UInt8)} {k : Nat} (h : k < l.length) (h0 : k = 0) : wordsT (l.take (k + 1)) = wordsT (l.take k) ++ l[k] := by
  subst h0
  rw [List.take_succ_eq_append_getElem h]; simp [wordsT]
theorem wordsT_takeS {l : List (List UInt8)} {k : Nat} (h : k < l.length) (h0 : k ≠ 0) : wordsT (l.take (k + 1)) = wordsT (l.take k) ++ 32 :: l[k] := by
  rw [List.take_succ_eq_append_getElem h, wordsT_snoc]
  intro e
  have := congrArg List.length e
  rw [List.length_take, List.length_nil] at this
  omega
theorem wordsT_length (l : List (List UInt8)) (b : Nat) (h : ∀ x ∈ l, x.length ≤ b) : (wordsT l).length ≤ (b + 1) * l.length := by
  induction l with
  | nil => simp [wordsT]
  | cons a r ih =>
    have h1 := h a (by simp)
    have h2 := ih (fun x hx => h x (by simp [hx]))
    cases r with
    | nil => simp [wordsT]; omega
    | cons c r =>
      simp only [wordsT, List.length_append, List.length_cons] at h2 ⊢
      have : (b + 1) * (r.length + 1 + 1) = (b + 1) * (r.length + 1) + (b + 1) := by rw [Nat.mul_add]; omega
      omega
section
variable {w : World} {base : Nat} {v : Value} {l : List (List UInt8)}
end
/-- the mark of a text -/
def markF (h : Nat) (l : List UInt8) : Nat := l.foldl (fun h c => (97 * h + c.toNat + 1) % 9973) h
def markT (l : List UInt8) : Nat := markF 3 l
theorem markF_snoc (h : Nat) (l : List UInt8) (x : UInt8) : markF h (l ++ [x]) = (97 * markF h l + x.toNat + 1) % 9973 := by simp [markF]
theorem markT_next {l : List UInt8} {k : Nat} (h : k < l.length) : markT (l.take (k + 1)) = (97 * markT (l.take k) + l[k].toNat + 1) % 9973 := by
  rw [List.take_succ_eq_append_getElem h]; exact markF_snoc _ _ _
theorem markT_lt (l : List UInt8) : markT l < 9973 := by
  rcases List.eq_nil_or_concat l with rfl | ⟨r, x, rfl⟩
  · decide
  · rw [List.concat_eq_append]; unfold markT; rw [markF_snoc]; omega
/-- the frame of a text -/
def frameT (s : List UInt8) : List UInt8 := digT s.length ++ (32 :: (digT (markT s) ++ (32 :: (s ++ [10]))))
def plainT (s : List UInt8) : Bool := s.all (fun c => c != 10) && decide (s.length ≤ 100)
/-- pieces: what is there of the piece under way, and the rest -/
def splitG (b : UInt8) (cur : List UInt8) : List UInt8 → List (List UInt8)
  | [] => [cur]
  | x :: r => if x == b then cur :: splitG b [] r else splitG b (cur ++ [x]) r
def splitT (b : UInt8) (s : List UInt8) : List (List UInt8) := splitG b [] s
theorem splitG_length (b : UInt8) (cur s : List UInt8) : (splitG b cur s).length ≤ s.length + 1 := by
  induction s generalizing cur with
  | nil => simp [splitG]
  | cons x r ih =>
    unfold splitG; split
    · have := ih []; simp; omega
    · have := ih (cur ++ [x]); simp; omega
/-- the state of the loop over a text that is split: pieces that are done, where the piece under way begins -/
def SplS (b : UInt8) (s : List UInt8) (i : Nat) (done : List (List UInt8)) (fr : Nat) : Prop := fr ≤ i ∧ i ≤ s.length ∧ done.length ≤ i ∧ splitT b s = done ++ splitG b ((s.drop fr).take (i - fr)) (s.drop i)
theorem SplS.start (b : UInt8) (s : List UInt8) : SplS b s 0 [] 0 := ⟨Nat.le_refl _, Nat.zero_le _, Nat.le_refl _, by simp [splitT]⟩
theorem SplS.cut {b : UInt8} {s : List UInt8} {i fr : Nat} {done : List (List UInt8)} (h : SplS b s i done fr) (hi : i < s.length) (hx : s[i] = b) : SplS b s (i + 1) (done ++ [(s.drop fr).take (i - fr)]) (i + 1) := by
  obtain ⟨h1, h2, h3, h4⟩ := h
  refine ⟨Nat.le_refl _, by omega, by simp; omega, ?_⟩
  rw [h4, List.drop_eq_getElem_cons hi]
  simp [splitG, hx]
theorem SplS.on {b : UInt8} {s : List UInt8} {i fr : Nat} {done : List (List UInt8)} (h : SplS b s i done fr) (hi : i < s.length) (hx : s[i] ≠ b) : SplS b s (i + 1) done fr := by
  obtain ⟨h1, h2, h3, h4⟩ := h
  refine ⟨by omega, by omega, by omega, ?_⟩
  have e : (s.drop fr).take (i + 1 - fr) = (s.drop fr).take (i - fr) ++ [s[i]] := by
    rw [show i + 1 - fr = (i - fr) + 1 by omega, List.take_succ_eq_append_getElem (by simp; omega)]
    congr 2
    simp; congr 1; omega
  rw [h4, List.drop_eq_getElem_cons hi, e]
  simp only [splitG]
  rw [if_neg (by simpa using hx)]
theorem SplS.ends {b : UInt8} {s : List UInt8} {fr : Nat} {done : List (List UInt8)} (h : SplS b s s.length done fr) : splitT b s = done ++ [(s.drop fr).take (s.length - fr)] := by
  rw [h.2.2.2]; simp [splitG]
/-- numbers in texts -/
def isDig (c : UInt8) : Bool := decide (48 ≤ c.toNat ∧ c.toNat ≤ 57)
def valT (t : List UInt8) : Nat := t.foldl (fun n c => n * 10 + (c.toNat - 48)) 0
def negT (s : List UInt8) : Bool := s.head? == some 45
def bodyT (s : List UInt8) : List UInt8 := if negT s then s.drop 1 else s
def readOk (s : List UInt8) : Bool := decide (1 ≤ (bodyT s).length ∧ (bodyT s).length ≤ 9) && ((bodyT s).all isDig && !((bodyT s).head? == some 48 && (negT s || decide (1 < s.length))))
def readZ (s : List UInt8) : Int := if readOk s then (if negT s then - (valT (bodyT s) : Int) else (valT (bodyT s) : Int)) else 0
theorem valT_snoc (t : List UInt8) (c : UInt8) : valT (t ++ [c]) = valT t * 10 + (c.toNat - 48) := by simp [valT]
theorem valT_ltN (n : Nat) : ∀ t : List UInt8, t.length = n → t.all isDig = true → valT t < 10 ^ n := by
  induction n with
  | zero => intro t ht _; rw [List.eq_nil_of_length_eq_zero ht]; decide
  | succ n ih =>
    intro t ht h
    rcases List.eq_nil_or_concat t with rfl | ⟨r, x, rfl⟩
    · simp at ht
    · rw [List.concat_eq_append] at h ht ⊢
      rw [List.all_append, Bool.and_eq_true] at h
      have ih := ih r (by simpa using ht) h.1
      have hx : isDig x = true := by simpa using h.2
      simp only [isDig, decide_eq_true_eq] at hx
      rw [valT_snoc, Nat.pow_succ]
      omega
theorem valT_lt (t : List UInt8) (h : t.all isDig = true) : valT t < 10 ^ t.length := valT_ltN _ t rfl h
theorem frameT_length (s : List UInt8) (h : s.length ≤ 100000) : (frameT s).length ≤ s.length + 20 := by
  have h1 := digT_length s.length 5 (by omega)
  have h2 := digT_length (markT s) 3 (by have := markT_lt s; omega)
  simp [frameT]; omega
theorem plain_no {s : List UInt8} {k : Nat} (h : k < s.length) (hx : s[k] = 10) : plainT s = false := by
  have : s.all (fun c => c != 10) = false := by
    rw [List.all_eq_false]; exact ⟨s[k], List.getElem_mem h, by simp [hx]⟩
  simp [plainT, this]
theorem plain_all {s : List UInt8} {k : Nat} (h : (s.take k).all (fun c => c != 10) = true) (hk : s.length ≤ k) : plainT s = decide (s.length ≤ 100) := by
  rw [List.take_of_length_le hk] at h
  simp [plainT, h]
theorem nolf_next {s : List UInt8} {k : Nat} (h : (s.take k).all (fun c => c != 10) = true) (hk : k < s.length) (hx : s[k] ≠ 10) : (s.take (k + 1)).all (fun c => c != 10) = true := by
  rw [List.take_succ_eq_append_getElem hk, List.all_append, h]
  simpa using hx
theorem u8_eq {c : UInt8} (n : Nat) (hn : n < 256) : ((c.toNat : Int) == (n : Int)) = (c == UInt8.ofNat n) := by
  rw [Bool.eq_iff_iff]
  simp only [beq_iff_eq]
  constructor
  · intro h
    apply UInt8.toNat_inj.1
    rw [UInt8.toNat_ofNat_of_lt' (by show n < 256; omega)]
    omega
  · rintro rfl
    rw [UInt8.toNat_ofNat_of_lt' (by show n < 256; omega)]
end Go.Proofs.Ytjhnoepllnifhaa
namespace Go.Proofs.Ytjhnoepllnifhaa
open Go.ChangeShapes Go.WideShapes Go.ChangeAt Go.RowKit

attribute [local go_sem] str_list str_size str_add lit_list0 add_lit lit_add str_cut
end Go.Proofs.Ytjhnoepllnifhaa
namespace Go.Proofs.Ytjhnoepllnifhaa
open Go.ChangeShapes Go.WideShapes Go.ChangeAt Go.RowKit
attribute [local go_sem] str_list str_size str_add lit_list0 add_lit lit_add str_cut

theorem read_short {s : List UInt8} (h : ¬ (1 ≤ (bodyT s).length ∧ (bodyT s).length ≤ 9)) : readOk s = false := by simp only [readOk, decide_eq_false h, Bool.false_and]
theorem read_bad {s : List UInt8} {j : Nat} (hj : j < (bodyT s).length) (h : isDig (bodyT s)[j] = false) : readOk s = false := by
  have : (bodyT s).all isDig = false := by rw [List.all_eq_false]; exact ⟨_, List.getElem_mem hj, by simp [h]⟩
  simp only [readOk, this, Bool.false_and, Bool.and_false]
theorem read_zero {s : List UInt8} (h : ((bodyT s).head? == some 48 && (negT s || decide (1 < s.length))) = true) : readOk s = false := by
  simp only [readOk, h, Bool.not_true, Bool.and_false]
theorem read_yes {s : List UInt8} (h1 : 1 ≤ (bodyT s).length ∧ (bodyT s).length ≤ 9) (h2 : (bodyT s).all isDig = true) (h3 : ((bodyT s).head? == some 48 && (negT s || decide (1 < s.length))) = false) : readOk s = true := by
  simp only [readOk, decide_eq_true h1, h2, h3, Bool.not_false, Bool.and_self]
theorem dig_next {b : List UInt8} {j : Nat} (hj : j < b.length) (ha : (b.take j).all isDig = true) (h : isDig b[j] = true) : (b.take (j + 1)).all isDig = true ∧ valT (b.take (j + 1)) = valT (b.take j) * 10 + (b[j].toNat - 48) := by
  rw [List.take_succ_eq_append_getElem hj, List.all_append, ha, valT_snoc]
  exact ⟨by simpa using h, rfl⟩
theorem val_small {b : List UInt8} (j : Nat) (ha : (b.take j).all isDig = true) (hb : b.length ≤ 9) : valT (b.take j) < 1000000000 := by
  have h1 := valT_lt _ ha
  have h2 : (b.take j).length ≤ 9 := by simp; omega
  exact Nat.lt_of_lt_of_le h1 (Nat.pow_le_pow_right (by omega) h2)
theorem head_at {b : List UInt8} (h : 0 < b.length) : (b.head? == some 48) = (b[0] == 48) := by
  cases b with
  | nil => simp at h
  | cons x r => simp
theorem int_eq {a b : Int} (h : a = b) : Value.int .i64 a = Value.int .i64 b := by rw [h]
theorem ret_pair {a c : Int} {b d : Bool} (h1 : a = c) (h2 : b = d) : Ending.returned (.tuple #[.int .i64 a, .bool b]) = .returned (.tuple #[.int .i64 c, .bool d]) := by rw [h1, h2]
end Go.Proofs.Ytjhnoepllnifhaa
namespace Go.Proofs.Ytjhnoepllnifhaa
open Go.ChangeShapes Go.WideShapes Go.ChangeAt Go.RowKit
attribute [local go_sem] str_list str_size str_add lit_list0 add_lit lit_add str_cut

/-- what is left of a text -/
def tornT (s : List UInt8) (k : Int) : List UInt8 := if k < 0 then [] else s.take k.toNat
end Go.Proofs.Ytjhnoepllnifhaa
