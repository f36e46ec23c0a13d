/- Texts as lists of bytes. What the specification's functions over texts return: numbers, words. What the specification's l1Read returns: a number that is read. What the specification's Torn returns. -/
import Derived.Laws.IdiomStrings
import Derived.Laws.Concat
import Derived.Laws.Strings2
import Derived.Laws.Strings3
import Derived.Laws.DeepStrings4
import Derived.Deep.DeepFit
import Derived.Deep.DeepCutAuto
import Derived.Test.YteialkknddpbjaaGreatDoorPH00
import Derived.Test.YteialkknddpbjaaGreatDoorPH01
import Derived.Test.YteialkknddpbjaaGreatDoorPH09
namespace Go.Proofs.YteialkknddpbjaaGreatDoor
open Go.ChangeShapes Go.WideShapes Go.ChangeAt Go.RowKit

/-- how long a text in a slot is -/
def szOf : Value → Nat | .string b => b.size | _ => 0
/-- a digit's byte -/
def digB (d : Nat) : UInt8 := UInt8.ofNat (48 + d)
theorem digB_nat {d : Nat} (h : d < 10) : (digB d).toNat = 48 + d := by unfold digB; exact UInt8.toNat_ofNat_of_lt' (by show _ < 256; omega)
/-- decimal digits -/
def digT (n : Nat) : List UInt8 := if n < 10 then [digB n] else digT (n / 10) ++ [digB (n % 10)]
termination_by n
decreasing_by omega
theorem digT_small {n : Nat} (h : n < 10) : digT n = [digB n] := by rw [digT, if_pos h]
theorem digT_big {n : Nat} (h : ¬ n < 10) : digT n = digT (n / 10) ++ [digB (n % 10)] := by rw [digT, if_neg h]
theorem digT_length (n k : Nat) (h : n < 10 ^ (k + 1)) : (digT n).length ≤ k + 1 := by
  induction k generalizing n with
  | zero => rw [digT_small (by simpa using h)]; simp
  | succ k ih =>
    by_cases hn : n < 10
    · rw [digT_small hn]; simp
    · rw [digT_big hn, List.length_append]
      have := ih (n / 10) (by rw [Nat.pow_succ] at h; omega)
      simp; omega
theorem digT_pos (n : Nat) : 0 < (digT n).length := by
  by_cases hn : n < 10
  · rw [digT_small hn]; simp
  · rw [digT_big hn]; simp
/-- the digits that are still to come -/
def leftT (m : Nat) : List UInt8 := if m = 0 then [] else digT m
theorem leftT_next {m : Nat} (h : 0 < m) : leftT m = leftT (m / 10) ++ [digB (m % 10)] := by
  unfold leftT
  rw [if_neg (by omega)]
  by_cases hm : m < 10
  · rw [digT_small hm, if_pos (by omega), Nat.mod_eq_of_lt hm]; rfl
  · rw [digT_big hm, if_neg (by omega)]
/-- the state of the number's text: what is there, what is left -/
def IntS (n0 m : Nat) (t : List UInt8) : Prop := (t = [] ∧ m = n0) ∨ (t ≠ [] ∧ leftT m ++ t = digT n0)
theorem IntS.next {n0 m : Nat} {t : List UInt8} (h : IntS n0 m t) (hm : t = [] ∨ 0 < m) : IntS n0 (m / 10) (digB (m % 10) :: t) := by
  refine .inr ⟨by simp, ?_⟩
  rcases h with ⟨rfl, rfl⟩ | ⟨h1, h2⟩
  · by_cases h0 : m = 0
    · subst h0; rw [digT_small (by omega)]; rfl
    · have := leftT_next (m := m) (by omega)
      unfold leftT at this ⊢
      rw [if_neg h0] at this
      rw [this]
  · rcases hm with rfl | hm
    · exact absurd rfl h1
    · rw [← h2, leftT_next hm]; simp
theorem IntS.done {n0 : Nat} {t : List UInt8} (h : IntS n0 0 t) (ht : t ≠ []) : t = digT n0 := by
  rcases h with ⟨h, _⟩ | ⟨_, h⟩
  · exact absurd h ht
  · rw [← h]; rfl
theorem IntS.length {n0 m : Nat} {t : List UInt8} (h : IntS n0 m t) : t.length ≤ (digT n0).length := by
  rcases h with ⟨rfl, _⟩ | ⟨_, h⟩
  · simp
  · rw [← h]; simp
/-- words with single blanks between them -/
def wordsT : List (List UInt8) → List UInt8
  | [] => []
  | [x] => x
  | x :: y :: r => x ++ 32 :: wordsT (y :: r)
theorem wordsT_snoc (l : List (List UInt8)) (h : l ≠ []) (x : List UInt8) : wordsT (l ++ [x]) = wordsT l ++ 32 :: x := by
  induction l with
  | nil => exact absurd rfl h
  | cons a r ih =>
    cases r with
    | nil => simp [wordsT]
    | cons b r => simp only [List.cons_append] at ih ⊢; simp only [wordsT]; rw [ih (by simp)]; simp
theorem wordsT_take0 {l : List (List UInt8)} {k : Nat} (h : k < l.length) (h0 : k = 0) : wordsT (l.take (k + 1)) = wordsT (l.take k) ++ l[k] := by
  subst h0
  rw [List.take_succ_eq_append_getElem h]; simp [wordsT]
theorem wordsT_takeS {l : List (List UInt8)} {k : Nat} (h : k < l.length) (h0 : k ≠ 0) : wordsT (l.take (k + 1)) = wordsT (l.take k) ++ 32 :: l[k] := by
  rw [List.take_succ_eq_append_getElem h, wordsT_snoc]
  intro e
  have := congrArg List.length e
  rw [List.length_take, List.length_nil] at this
  omega
theorem wordsT_length (l : List (List UInt8)) (b : Nat) (h : ∀ x ∈ l, x.length ≤ b) : (wordsT l).length ≤ (b + 1) * l.length := by
  induction l with
  | nil => simp [wordsT]
  | cons a r ih =>
    have h1 := h a (by simp)
    have h2 := ih (fun x hx => h x (by simp [hx]))
    cases r with
    | nil => simp [wordsT]; omega
    | cons c r =>
      simp only [wordsT, List.length_append, List.length_cons] at h2 ⊢
      have : (b + 1) * (r.length + 1 + 1) = (b + 1) * (r.length + 1) + (b + 1) := by rw [Nat.mul_add]; omega
      omega
/-- texts in memory -/
def strE : Elt (List UInt8) where
  T := 9
  S := 155
  size := 1
  bytes := 16
  z := .string ⟨#[]⟩
  enc := fun p => [.string (str p)]
  len := fun _ => rfl
  one := fun x u hu => by simp at hu; rcases hu with rfl; rfl
  pos := by omega
  und := Tryz.underlying155
  info := by kernel_rfl
  zs := rfl
/-- v is a slice that owns the texts l -/
abbrev TS (w : World) (base : Nat) (v : Value) (l : List (List UInt8)) : Prop := Own strE w base v l
abbrev TR (w : World) (v : Value) (l : List (List UInt8)) : Prop := Rd strE w v l
theorem strE_all (l : List (List UInt8)) : strE.all l = l.map (fun t => .string (str t)) := by
  induction l with
  | nil => rfl
  | cons a r ih => simp only [Elt.all, List.flatMap_cons, List.map_cons] at ih ⊢; rw [ih]; rfl
section
variable {w : World} {base : Nat} {v : Value} {l : List (List UInt8)}
theorem TR.form (h : TR w v l) : ∃ a cap, v = .slice a l.length cap ∧ l.length ≤ 9223372036854775807 := by
  obtain ⟨a, cap, h1, h2, h3, _⟩ := h; exact ⟨a, cap, h1, by omega⟩
theorem TR.at {a : Option Addr} {n cap : Nat} (h : TR w (.slice a n cap) l) (i : Nat) (hi : i < l.length) : ∃ g o, a = some ⟨g, o, none⟩ ∧ w.cell? ⟨g, o + i, none⟩ = some (.string (str l[i])) := by
  obtain ⟨a', cap', h1, _, _, h4⟩ := h
  rcases h4 with h4 | ⟨g, o, h4, _, h6⟩
  · rw [h4] at hi; simp at hi
  · cases h1
    exact ⟨g, o, h4, h6 i _ (by rw [strE_all]; simp [hi])⟩
theorem TS.single (w : World) (x : List UInt8) (hb : base ≤ w.heap.size) : TS (w.alloc (.cells #[.string (str x)] 9)) base (.slice (some ⟨w.heap.size, 0, none⟩) 1 1) [x] :=
  Own.fresh strE w [x] _ rfl (by simp) hb
theorem TS.empty (w : World) (hb : base ≤ w.heap.size) : TS (w.alloc (.cells #[] 9)) base (.slice (some ⟨w.heap.size, 0, none⟩) 0 0) [] :=
  Own.fresh strE w [] _ rfl (by simp) hb
end
/-- a new slice of texts -/
def GotT (l : List (List UInt8)) (w : World) (e : Ending) (w' : World) : Prop := ∃ v, e = .returned v ∧ TS w' w.heap.size v l ∧ w.grownBy w' none
/-- the mark of a text -/
def markF (h : Nat) (l : List UInt8) : Nat := l.foldl (fun h c => (97 * h + c.toNat + 1) % 9973) h
def markT (l : List UInt8) : Nat := markF 3 l
theorem markF_snoc (h : Nat) (l : List UInt8) (x : UInt8) : markF h (l ++ [x]) = (97 * markF h l + x.toNat + 1) % 9973 := by simp [markF]
theorem markT_next {l : List UInt8} {k : Nat} (h : k < l.length) : markT (l.take (k + 1)) = (97 * markT (l.take k) + l[k].toNat + 1) % 9973 := by
  rw [List.take_succ_eq_append_getElem h]; exact markF_snoc _ _ _
theorem markT_lt (l : List UInt8) : markT l < 9973 := by
  rcases List.eq_nil_or_concat l with rfl | ⟨r, x, rfl⟩
  · decide
  · rw [List.concat_eq_append]; unfold markT; rw [markF_snoc]; omega
/-- the frame of a text -/
def frameT (s : List UInt8) : List UInt8 := digT s.length ++ (32 :: (digT (markT s) ++ (32 :: (s ++ [10]))))
def plainT (s : List UInt8) : Bool := s.all (fun c => c != 10) && decide (s.length ≤ 100)
/-- pieces: what is there of the piece under way, and the rest -/
def splitG (b : UInt8) (cur : List UInt8) : List UInt8 → List (List UInt8)
  | [] => [cur]
  | x :: r => if x == b then cur :: splitG b [] r else splitG b (cur ++ [x]) r
def splitT (b : UInt8) (s : List UInt8) : List (List UInt8) := splitG b [] s
theorem splitG_length (b : UInt8) (cur s : List UInt8) : (splitG b cur s).length ≤ s.length + 1 := by
  induction s generalizing cur with
  | nil => simp [splitG]
  | cons x r ih =>
    unfold splitG; split
    · have := ih []; simp; omega
    · have := ih (cur ++ [x]); simp; omega
/-- the state of the loop over a text that is split: pieces that are done, where the piece under way begins -/
def SplS (b : UInt8) (s : List UInt8) (i : Nat) (done : List (List UInt8)) (fr : Nat) : Prop := fr ≤ i ∧ i ≤ s.length ∧ done.length ≤ i ∧ splitT b s = done ++ splitG b ((s.drop fr).take (i - fr)) (s.drop i)
theorem SplS.start (b : UInt8) (s : List UInt8) : SplS b s 0 [] 0 := ⟨Nat.le_refl _, Nat.zero_le _, Nat.le_refl _, by simp [splitT]⟩
theorem SplS.cut {b : UInt8} {s : List UInt8} {i fr : Nat} {done : List (List UInt8)} (h : SplS b s i done fr) (hi : i < s.length) (hx : s[i] = b) : SplS b s (i + 1) (done ++ [(s.drop fr).take (i - fr)]) (i + 1) := by
  obtain ⟨h1, h2, h3, h4⟩ := h
  refine ⟨Nat.le_refl _, by omega, by simp; omega, ?_⟩
  rw [h4, List.drop_eq_getElem_cons hi]
  simp [splitG, hx]
theorem SplS.on {b : UInt8} {s : List UInt8} {i fr : Nat} {done : List (List UInt8)} (h : SplS b s i done fr) (hi : i < s.length) (hx : s[i] ≠ b) : SplS b s (i + 1) done fr := by
  obtain ⟨h1, h2, h3, h4⟩ := h
  refine ⟨by omega, by omega, by omega, ?_⟩
  have e : (s.drop fr).take (i + 1 - fr) = (s.drop fr).take (i - fr) ++ [s[i]] := by
    rw [show i + 1 - fr = (i - fr) + 1 by omega, List.take_succ_eq_append_getElem (by simp; omega)]
    congr 2
    simp; congr 1; omega
  rw [h4, List.drop_eq_getElem_cons hi, e]
  simp only [splitG]
  rw [if_neg (by simpa using hx)]
theorem SplS.ends {b : UInt8} {s : List UInt8} {fr : Nat} {done : List (List UInt8)} (h : SplS b s s.length done fr) : splitT b s = done ++ [(s.drop fr).take (s.length - fr)] := by
  rw [h.2.2.2]; simp [splitG]
/-- numbers in texts -/
def isDig (c : UInt8) : Bool := decide (48 ≤ c.toNat ∧ c.toNat ≤ 57)
def valT (t : List UInt8) : Nat := t.foldl (fun n c => n * 10 + (c.toNat - 48)) 0
def negT (s : List UInt8) : Bool := s.head? == some 45
def bodyT (s : List UInt8) : List UInt8 := if negT s then s.drop 1 else s
def readOk (s : List UInt8) : Bool := decide (1 ≤ (bodyT s).length ∧ (bodyT s).length ≤ 9) && ((bodyT s).all isDig && !((bodyT s).head? == some 48 && (negT s || decide (1 < s.length))))
def readZ (s : List UInt8) : Int := if readOk s then (if negT s then - (valT (bodyT s) : Int) else (valT (bodyT s) : Int)) else 0
theorem valT_snoc (t : List UInt8) (c : UInt8) : valT (t ++ [c]) = valT t * 10 + (c.toNat - 48) := by simp [valT]
theorem valT_ltN (n : Nat) : ∀ t : List UInt8, t.length = n → t.all isDig = true → valT t < 10 ^ n := by
  induction n with
  | zero => intro t ht _; rw [List.eq_nil_of_length_eq_zero ht]; decide
  | succ n ih =>
    intro t ht h
    rcases List.eq_nil_or_concat t with rfl | ⟨r, x, rfl⟩
    · simp at ht
    · rw [List.concat_eq_append] at h ht ⊢
      rw [List.all_append, Bool.and_eq_true] at h
      have ih := ih r (by simpa using ht) h.1
      have hx : isDig x = true := by simpa using h.2
      simp only [isDig, decide_eq_true_eq] at hx
      rw [valT_snoc, Nat.pow_succ]
      omega
theorem valT_lt (t : List UInt8) (h : t.all isDig = true) : valT t < 10 ^ t.length := valT_ltN _ t rfl h
theorem frameT_length (s : List UInt8) (h : s.length ≤ 100000) : (frameT s).length ≤ s.length + 20 := by
  have h1 := digT_length s.length 5 (by omega)
  have h2 := digT_length (markT s) 3 (by have := markT_lt s; omega)
  simp [frameT]; omega
theorem plain_no {s : List UInt8} {k : Nat} (h : k < s.length) (hx : s[k] = 10) : plainT s = false := by
  have : s.all (fun c => c != 10) = false := by
    rw [List.all_eq_false]; exact ⟨s[k], List.getElem_mem h, by simp [hx]⟩
  simp [plainT, this]
theorem plain_all {s : List UInt8} {k : Nat} (h : (s.take k).all (fun c => c != 10) = true) (hk : s.length ≤ k) : plainT s = decide (s.length ≤ 100) := by
  rw [List.take_of_length_le hk] at h
  simp [plainT, h]
theorem nolf_next {s : List UInt8} {k : Nat} (h : (s.take k).all (fun c => c != 10) = true) (hk : k < s.length) (hx : s[k] ≠ 10) : (s.take (k + 1)).all (fun c => c != 10) = true := by
  rw [List.take_succ_eq_append_getElem hk, List.all_append, h]
  simpa using hx
theorem u8_eq {c : UInt8} (n : Nat) (hn : n < 256) : ((c.toNat : Int) == (n : Int)) = (c == UInt8.ofNat n) := by
  rw [Bool.eq_iff_iff]
  simp only [beq_iff_eq]
  constructor
  · intro h
    apply UInt8.toNat_inj.1
    rw [UInt8.toNat_ofNat_of_lt' (by show n < 256; omega)]
    omega
  · rintro rfl
    rw [UInt8.toNat_ofNat_of_lt' (by show n < 256; omega)]
end Go.Proofs.YteialkknddpbjaaGreatDoor
namespace Go.Proofs.YteialkknddpbjaaGreatDoor
open Go.ChangeShapes Go.WideShapes Go.ChangeAt Go.RowKit

attribute [local go_sem] str_list str_size str_add lit_list0 add_lit lit_add str_cut
set_option maxRecDepth 8000 in
set_option maxHeartbeats 1000000 in
theorem l1Int_any (n : Nat) (w : World) (hn : n ≤ 1099511627776) :
    Calls Tryz.prog 159 #[.int .i64 n] w (Pure (.string (str (digT n))) w) := by
  have hb : (digT n).length ≤ 13 := digT_length n 12 (by simp; omega)
  have hneg : ¬ (n : Int) < 0 := by omega
  go_enter Tryz.func159, Tryz.ntmps159
  go_wp2_with fail
  go_loopw [0, 3] (fun x s wr => ∃ (m : Nat) (t : List UInt8), x = .int .i64 m ∧ s = .string (str t) ∧ m ≤ 1099511627776 ∧ Hid (IntS n m t) ∧ t.length ≤ 13 ∧ w.grownBy wr none) (fun x s _ => (intOf x).toNat + (1 - szOf s))
  case atStart => exact ⟨n, [], rfl, rfl, hn, .inl ⟨rfl, rfl⟩, by simp, grefl _⟩
  case round =>
    obtain ⟨m, t, rfl, rfl, hm, HS, hl, G⟩ := hrel
    by_cases hc : t ≠ [] ∧ m = 0
    · obtain ⟨ht, rfl⟩ := hc
      have HD := Lib.hid (HS.out.done ht)
      have he : (t == []) = false := by simpa using ht
      clear ht HS
      go_wp2_with fail
      go_ret
      exact ⟨ret_str HD.out, G⟩
    · have hc' : t = [] ∨ 0 < m := by
        by_cases h : t = []
        · exact .inl h
        · exact .inr (Nat.pos_of_ne_zero fun e => hc ⟨h, e⟩)
      have HN := Lib.hid (HS.out.next hc')
      have HLn : Hid ((digB (m % 10) :: t).length ≤ 13) := Nat.le_trans HN.out.length hb
      have hge : 0 ≤ (m : Int) % 10 := by omega
      have hlt10 : (m : Int) % 10 < 10 := by omega
      have hconv : ∀ wx : World, (convert 22 9 (.slice (some ⟨wx.heap.size, 0, none⟩) 1 1)).run Tryz.prog (wx.alloc (.cells #[.int .u8 (48 + (m : Int) % 10)] 5)) = .ok (.string (str [digB (m % 10)])) (wx.alloc (.cells #[.int .u8 (48 + (m : Int) % 10)] 5)) := fun wx =>
        run_convert_bytes_back (P := Tryz.prog) (wx.alloc (.cells #[.int .u8 (48 + (m : Int) % 10)] 5)) 22 9 5 ⟨wx.heap.size, 0, none⟩ 1 [digB (m % 10)] Tryz.underlying22 Tryz.underlying5 Tryz.underlying9 (fun j hj => by
          have : j = 0 := by simpa using hj
          subst this
          simp [go_sem, digB_nat (show m % 10 < 10 by omega)])
      have hor : (t == []) = false → ((m : Int) != 0) = true := fun he => by
        rcases hc' with rfl | h
        · cases he
        · exact bne_iff_ne.2 (by omega)
      clear hc HS
      cases he : (t == [])
      · have hor' := hor he
        clear hor
        go_wp2_with fail
        go_roundw
        case rel => exact ⟨m / 10, _, by simp, rfl, by omega, HN.out, HLn.out, galloc G _⟩
        case measure =>
          have : 0 < t.length := by cases t; cases he; simp
          have : m ≠ 0 := by simpa using hor'
          simp [intOf, szOf, str_size]; omega
      · clear hor
        go_wp2_with fail
        go_roundw
        case rel => exact ⟨m / 10, _, by simp, rfl, by omega, HN.out, HLn.out, galloc G _⟩
        case measure =>
          have : t = [] := by simpa using he
          subst this
          simp [intOf, szOf, str_size]; omega
set_option maxRecDepth 8000 in
set_option maxHeartbeats 1000000 in
theorem l1Words_any (v : Value) (l : List (List UInt8)) (w : World) (h : TR w v l) (h1 : l.length ≤ 1000) (h2 : ∀ x ∈ l, x.length ≤ 1000) :
    Calls Tryz.prog 161 #[v] w fun e w' => e = .returned (.string (str (wordsT l))) ∧ w = w' := by
  obtain ⟨a, cap, rfl, hm⟩ := h.form
  have HB : Hid (∀ k, (wordsT (l.take k)).length ≤ 1001000) := fun k => by
    have q := wordsT_length (l.take k) 1000 (fun x hx => h2 x (List.mem_of_mem_take hx))
    have : (l.take k).length ≤ 1000 := by simp; omega
    omega
  have HW : Hid (∀ x ∈ l, x.length ≤ 1000) := h2
  clear h2
  go_enter Tryz.func161, Tryz.ntmps161
  go_wp2_with fail
  go_loop [3, 4] (fun s i => ∃ k : Nat, k ≤ l.length ∧ i = .int .i64 k ∧ s = .string (str (wordsT (l.take k)))) (fun _ i => l.length - (intOf i).toNat)
  case atStart => exact ⟨0, Nat.zero_le _, rfl, rfl⟩
  case round =>
    obtain ⟨k, hk, rfl, rfl⟩ := hrel
    by_cases hlt : k < l.length
    · have hki : (k : Int) < l.length := by omega
      obtain ⟨g, o, rfl, x0⟩ := h.at k hlt
      have hb0 := HB.out k
      have hb1 := HW.out l[k] (List.getElem_mem hlt)
      by_cases h0 : k = 0
      · have HN := Lib.hid (wordsT_take0 hlt h0)
        have h0' : ¬ (0 : Int) < k := by omega
        clear h0
        go_wp2_with fail
        go_round
        case rel => exact ⟨k + 1, by omega, by go_num, by rw [HN.out]⟩
        case measure => simp [intOf]; omega
      · have HN := Lib.hid (wordsT_takeS hlt h0)
        have h0' : (0 : Int) < k := by omega
        clear h0
        go_wp2_with fail
        go_round
        case rel => exact ⟨k + 1, by omega, by go_num, by rw [HN.out]⟩
        case measure => simp [intOf]; omega
    · obtain rfl : k = l.length := by omega
      go_wp2_with fail
      go_ret
      exact ⟨rfl, rfl⟩
set_option maxRecDepth 8000 in
set_option maxHeartbeats 1000000 in
theorem l8Mark_any (s : List UInt8) (w : World) (hs : s.length ≤ 1099511627776) :
    Calls Tryz.prog 160 #[.string (str s)] w fun e w' => e = .returned (.int .i64 (markT s)) ∧ w = w' := by
  go_enter Tryz.func160, Tryz.ntmps160
  go_wp2_with fail
  go_loop [3, 4] (fun h i => ∃ k : Nat, k ≤ s.length ∧ i = .int .i64 k ∧ h = .int .i64 (markT (s.take k))) (fun _ i => s.length - (intOf i).toNat)
  case atStart => exact ⟨0, Nat.zero_le _, rfl, rfl⟩
  case round =>
    obtain ⟨k, hk, rfl, rfl⟩ := hrel
    by_cases hlt : k < s.length
    · have hki : (k : Int) < s.length := by omega
      have HN := Lib.hid (markT_next hlt)
      have hml := markT_lt (s.take k)
      have hc : s[k].toNat < 256 := s[k].toNat_lt
      have hg := str_get s k (by rw [str_size]; exact hlt)
      go_wp2_with fail
      go_round
      case rel => exact ⟨k + 1, by omega, by go_num, by rw [HN.out]; simp⟩
      case measure => simp [intOf]; omega
    · obtain rfl : k = s.length := by omega
      go_wp2_with fail
      go_ret
      exact ⟨rfl, rfl⟩
set_option maxRecDepth 8000 in
set_option maxHeartbeats 1000000 in
theorem l8Plain_any (s : List UInt8) (w : World) (hs : s.length ≤ 1099511627776) :
    Calls Tryz.prog 233 #[.string (str s)] w fun e w' => e = .returned (.bool (plainT s)) ∧ w = w' := by
  go_enter Tryz.func233, Tryz.ntmps233
  go_wp2_with fail
  go_loop [3] (fun i => ∃ k : Nat, k ≤ s.length ∧ i = .int .i64 k ∧ Hid ((s.take k).all (fun c => c != 10) = true)) (fun i => s.length - (intOf i).toNat)
  case atStart => exact ⟨0, Nat.zero_le _, rfl, rfl⟩
  case round =>
    obtain ⟨k, hk, rfl, HA⟩ := hrel
    by_cases hlt : k < s.length
    · have hki : (k : Int) < s.length := by omega
      have hg := str_get s k (by rw [str_size]; exact hlt)
      by_cases hx : s[k] = 10
      · have HN := Lib.hid (plain_no hlt hx)
        have hx' : ((s[k].toNat : Int) == 10) = true := by rw [hx]; rfl
        clear hx HA
        go_wp2_with fail
        go_ret
        exact ⟨ret_bool HN.out.symm, rfl⟩
      · have HN := Lib.hid (nolf_next HA.out hlt hx)
        have hx' : ((s[k].toNat : Int) == 10) = false := by rw [show (10 : Int) = ((10 : Nat) : Int) from rfl, u8_eq 10 (by omega)]; simpa using hx
        clear hx HA
        go_wp2_with fail
        go_round
        case rel => exact ⟨k + 1, by omega, by go_num, HN.out⟩
        case measure => simp [intOf]; omega
    · have HN := Lib.hid (plain_all HA.out (by omega))
      clear HA
      obtain rfl : k = s.length := by omega
      go_wp2_with fail
      go_ret
      exact ⟨ret_bool (by rw [HN.out, decide_eq_decide]; omega), rfl⟩
set_option maxRecDepth 8000 in
set_option maxHeartbeats 1000000 in
theorem l8Framed_any (s : List UInt8) (w : World) (hs : s.length ≤ 1100000) :
    Calls Tryz.prog 89 #[.string (str s)] w (Pure (.string (str (frameT s))) w) := by
  have hm := markT_lt s
  have h1 := digT_length s.length 6 (by omega)
  have h2 := digT_length (markT s) 3 (by omega)
  go_enter Tryz.func89, Tryz.ntmps89
  go_wp2_with fail
  go_fit (l1Int_any s.length _ (by omega))
  rintro e w1 ⟨rfl, g1⟩
  go_wp2_with fail
  go_fit (l8Mark_any s _ (by omega))
  rintro e w' ⟨rfl, rfl⟩
  go_wp2_with fail
  go_fit (l1Int_any (markT s) _ (by omega))
  rintro e w2 ⟨rfl, g2⟩
  go_wp2_with fail
  go_ret
  exact ⟨ret_str (by simp [frameT]), gtrans g1 g2⟩
set_option maxRecDepth 8000 in
set_option maxHeartbeats 1000000 in
theorem l1Split_any (s : List UInt8) (b : UInt8) (w : World) (hs : s.length ≤ 1100000) :
    Calls Tryz.prog 232 #[.string (str s), .int .u8 b.toNat] w (GotT (splitT b s) w) := by
  have C0 := TS.empty w (Nat.le_refl w.heap.size)
  have g0 := galloc (grefl w) (.cells #[] 9)
  go_enter Tryz.func232, Tryz.ntmps232
  go_wp2
  go_loopw [5, 6, 7] (fun out fr i wr => ∃ (k f : Nat) (done : List (List UInt8)), i = .int .i64 k ∧ fr = .int .i64 f ∧ TS wr w.heap.size out done ∧ w.grownBy wr none ∧ ((k ≤ s.length ∧ f ≤ k ∧ Hid (SplS b s k done f)) ∨ (k = s.length + 1 ∧ Hid (splitT b s = done)))) (fun _ _ i _ => s.length + 1 - (intOf i).toNat)
  case atStart => exact ⟨0, 0, [], rfl, rfl, C0, g0, .inl ⟨Nat.zero_le _, Nat.le_refl _, SplS.start b s⟩⟩
  case round =>
    clear C0 g0
    obtain ⟨k, f, done, rfl, rfl, C, G, hcase⟩ := hrel
    obtain ⟨va, vn, vc, rfl⟩ := C.sl
    rcases hcase with ⟨hk, hf, HS⟩ | ⟨rfl, HS⟩
    rotate_left
    · have hend : ¬ ((s.length : Int) + 1 ≤ s.length) := by omega
      go_wp2_with fail
      go_ret
      exact ⟨_, rfl, by rw [HS.out]; exact C, G⟩
    have hfi : (f : Int) ≤ k := by omega
    have hki : (k : Int) ≤ s.length := by omega
    have hdl := HS.out.2.2.1
    have hsz := G.size
    by_cases hlt : k < s.length
    · have hlti : (k : Int) < s.length := by omega
      have hne : ((k : Int) == s.length) = false := by rw [beq_eq_false_iff_ne]; omega
      have hg := str_get s k (by rw [str_size]; exact hlt)
      by_cases hx : s[k] = b
      · have HN := Lib.hid (HS.out.cut hlt hx)
        have hx' : ((s[k].toNat : Int) == (b.toNat : Int)) = true := by rw [hx]; simp
        clear hx HS
        go_wp2_with (first | (at_builtin; refine wpList_append_o (E := strE) (base := w.heap.size) rfl (.tmp 26) (.tmp 31) rfl rfl rfl (C.grew (galloc (grefl _) _)) (TS.single _ ((s.drop f).take (k - f)) (Nat.zero_le _)) (by simp; omega) (by decide) (by simp; omega) ?_; intro v' w6 o6 g6 b6; have G6 := gnew (galloc G _) g6 (fun j e => (C.lt j e).1); clear g6 b6))
        go_roundw
        case rel => exact ⟨k + 1, k + 1, _, by go_num, by go_num, o6, G6, .inl ⟨by omega, Nat.le_refl _, HN.out⟩⟩
        case measure => simp [intOf]; omega
      · have HN := Lib.hid (HS.out.on hlt hx)
        have hx' : ((s[k].toNat : Int) == (b.toNat : Int)) = false := by
          rw [beq_eq_false_iff_ne]; intro e; exact hx (UInt8.toNat_inj.1 (by omega))
        clear hx HS
        go_wp2_with fail
        go_roundw
        case rel => exact ⟨k + 1, f, _, by go_num, rfl, C, G, .inl ⟨by omega, by omega, HN.out⟩⟩
        case measure => simp [intOf]; omega
    · obtain rfl : k = s.length := by omega
      have HN := Lib.hid (HS.out.ends)
      clear HS
      go_wp2_with (first | (at_builtin; refine wpList_append_o (E := strE) (base := w.heap.size) rfl (.tmp 26) (.tmp 31) rfl rfl rfl (C.grew (galloc (grefl _) _)) (TS.single _ ((s.drop f).take (s.length - f)) (Nat.zero_le _)) (by simp; omega) (by decide) (by simp; omega) ?_; intro v' w6 o6 g6 b6; have G6 := gnew (galloc G _) g6 (fun j e => (C.lt j e).1); clear g6 b6))
      go_roundw
      case rel => exact ⟨s.length + 1, s.length + 1, _, by go_num, by go_num, o6, G6, .inr ⟨rfl, HN.out⟩⟩
      case measure => simp [intOf]
end Go.Proofs.YteialkknddpbjaaGreatDoor
namespace Go.Proofs.YteialkknddpbjaaGreatDoor
open Go.ChangeShapes Go.WideShapes Go.ChangeAt Go.RowKit
attribute [local go_sem] str_list str_size str_add lit_list0 add_lit lit_add str_cut

theorem read_short {s : List UInt8} (h : ¬ (1 ≤ (bodyT s).length ∧ (bodyT s).length ≤ 9)) : readOk s = false := by simp only [readOk, decide_eq_false h, Bool.false_and]
theorem read_bad {s : List UInt8} {j : Nat} (hj : j < (bodyT s).length) (h : isDig (bodyT s)[j] = false) : readOk s = false := by
  have : (bodyT s).all isDig = false := by rw [List.all_eq_false]; exact ⟨_, List.getElem_mem hj, by simp [h]⟩
  simp only [readOk, this, Bool.false_and, Bool.and_false]
theorem read_zero {s : List UInt8} (h : ((bodyT s).head? == some 48 && (negT s || decide (1 < s.length))) = true) : readOk s = false := by
  simp only [readOk, h, Bool.not_true, Bool.and_false]
theorem read_yes {s : List UInt8} (h1 : 1 ≤ (bodyT s).length ∧ (bodyT s).length ≤ 9) (h2 : (bodyT s).all isDig = true) (h3 : ((bodyT s).head? == some 48 && (negT s || decide (1 < s.length))) = false) : readOk s = true := by
  simp only [readOk, decide_eq_true h1, h2, h3, Bool.not_false, Bool.and_self]
theorem dig_next {b : List UInt8} {j : Nat} (hj : j < b.length) (ha : (b.take j).all isDig = true) (h : isDig b[j] = true) : (b.take (j + 1)).all isDig = true ∧ valT (b.take (j + 1)) = valT (b.take j) * 10 + (b[j].toNat - 48) := by
  rw [List.take_succ_eq_append_getElem hj, List.all_append, ha, valT_snoc]
  exact ⟨by simpa using h, rfl⟩
theorem val_small {b : List UInt8} (j : Nat) (ha : (b.take j).all isDig = true) (hb : b.length ≤ 9) : valT (b.take j) < 1000000000 := by
  have h1 := valT_lt _ ha
  have h2 : (b.take j).length ≤ 9 := by simp; omega
  exact Nat.lt_of_lt_of_le h1 (Nat.pow_le_pow_right (by omega) h2)
theorem head_at {b : List UInt8} (h : 0 < b.length) : (b.head? == some 48) = (b[0] == 48) := by
  cases b with
  | nil => simp at h
  | cons x r => simp
theorem int_eq {a b : Int} (h : a = b) : Value.int .i64 a = Value.int .i64 b := by rw [h]
theorem ret_pair {a c : Int} {b d : Bool} (h1 : a = c) (h2 : b = d) : Ending.returned (.tuple #[.int .i64 a, .bool b]) = .returned (.tuple #[.int .i64 c, .bool d]) := by rw [h1, h2]
set_option maxRecDepth 8000 in
set_option maxHeartbeats 2000000 in
theorem l1Read_any (s : List UInt8) (w : World) (hs : s.length ≤ 1099511627776) :
    Calls Tryz.prog 234 #[.string (str s)] w fun e w' => e = .returned (.tuple #[.int .i64 (readZ s), .bool (readOk s)]) ∧ w = w' := by
  by_cases he : s = []
  · subst he
    rw [show readZ [] = 0 from rfl, show readOk [] = false from rfl]
    have hn : (([] : List UInt8) == []) = true := rfl
    go_enter Tryz.func234, Tryz.ntmps234
    go_wp2_with fail
    go_ret2
    exact ⟨rfl, rfl⟩
  have hpos : 0 < s.length := List.length_pos_iff.2 he
  have hposi : (0 : Int) < s.length := by omega
  have hn : (s == []) = false := by simpa using he
  have hg0 := str_get s 0 (by rw [str_size]; exact hpos)
  have hhead : s.head? = some s[0] := by cases s; exact absurd rfl he; rfl
  clear he
  by_cases h45 : s[0] = 45
  · have hneg : negT s = true := by simp [negT, hhead, h45]
    have h45' : ((s[0].toNat : Int) == 45) = true := by rw [show (45 : Int) = ((45 : Nat) : Int) from rfl, u8_eq 45 (by omega)]; simpa using h45
    have HBd : Hid (bodyT s = s.drop 1) := by show _ = _; simp [bodyT, hneg]
    have HBl : Hid ((bodyT s).length = s.length - 1) := by show _ = _; rw [HBd.out]; simp
    have HBg : Hid (∀ k (hk : k < s.length) (_ : 1 ≤ k) (hj : k - 1 < (bodyT s).length), (bodyT s)[k - 1] = s[k]) := fun k hk hi hj => by
      simp only [HBd.out, List.getElem_drop]
      congr 1; omega
    have HNg := Lib.hid hneg
    clear h45 hhead hneg
    by_cases hlen : 1 ≤ s.length - 1 ∧ s.length - 1 ≤ 9
    rotate_left
    · have HF := Lib.hid (read_short (s := s) (by rw [HBl.out]; exact hlen))
      have HZ : Hid (readZ s = 0) := by show _ = _; simp [readZ, HF.out]
      by_cases h1 : (s.length : Int) - 1 < 1
      · clear hlen
        go_enter Tryz.func234, Tryz.ntmps234
        go_wp2_with fail
        go_ret2
        exact ⟨ret_pair HZ.out.symm HF.out.symm, rfl⟩
      · have h2 : 9 < (s.length : Int) - 1 := by omega
        clear hlen
        go_enter Tryz.func234, Tryz.ntmps234
        go_wp2_with fail
        go_ret2
        exact ⟨ret_pair HZ.out.symm HF.out.symm, rfl⟩
    have HL := Lib.hid hlen
    have h1 : ¬ (s.length : Int) - 1 < 1 := by omega
    have h2 : ¬ 9 < (s.length : Int) - 1 := by omega
    have hI : 1 < s.length := by omega
    have hIi : (1 : Int) < s.length := by omega
    clear hlen
    go_enter Tryz.func234, Tryz.ntmps234
    go_wp2_with fail
    go_loop [6, 7] (fun n i => ∃ k : Nat, 1 ≤ k ∧ k ≤ s.length ∧ i = .int .i64 k ∧ n = .int .i64 (valT ((bodyT s).take (k - 1))) ∧ Hid (((bodyT s).take (k - 1)).all isDig = true)) (fun _ i => s.length - (intOf i).toNat)
    case atStart => exact ⟨1, Nat.le_refl _, by omega, rfl, rfl, rfl⟩
    case round =>
      obtain ⟨k, hI0, hk, rfl, rfl, HA⟩ := hrel
      have hl9 := HL.out
      have hbl := HBl.out
      by_cases hlt : k < s.length
      · have hki : (k : Int) < s.length := by omega
        have hjb : k - 1 < (bodyT s).length := by omega
        have hgj := str_get s k (by rw [str_size]; exact hlt)
        have hc : s[k].toNat < 256 := s[k].toNat_lt
        have hvs := val_small (k - 1) HA.out (by omega)
        (try simp only [Nat.sub_zero] at hvs)
        cases hd : isDig s[k]
        · have HF := Lib.hid (read_bad hjb (by rw [HBg.out k hlt hI0 hjb]; exact hd))
          have HZ : Hid (readZ s = 0) := by show _ = _; simp [readZ, HF.out]
          simp only [isDig, decide_eq_false_iff_not] at hd
          clear HA hbl hl9
          by_cases h48 : (s[k].toNat : Int) < 48
          · clear hd
            go_wp2_with fail
            go_ret2
            exact ⟨ret_pair HZ.out.symm HF.out.symm, rfl⟩
          · have h57 : (57 : Int) < s[k].toNat := by omega
            clear hd
            go_wp2_with fail
            go_ret2
            exact ⟨ret_pair HZ.out.symm HF.out.symm, rfl⟩
        · have HN := Lib.hid (dig_next hjb HA.out (by rw [HBg.out k hlt hI0 hjb]; exact hd))
          rw [HBg.out k hlt hI0 hjb, show k - 1 + 1 = k + 1 - 1 by omega] at HN
          simp only [isDig, decide_eq_true_eq] at hd
          have h48 : ¬ (s[k].toNat : Int) < 48 := by omega
          have h57 : ¬ (57 : Int) < s[k].toNat := by omega
          have h48n : 48 ≤ s[k].toNat := hd.1
          clear HA hbl hl9 hd
          go_wp2_with fail
          go_round
          case rel => exact ⟨k + 1, by omega, by omega, by go_num, int_eq (by have e := HN.out.2; (try simp only [Nat.sub_zero] at e ⊢); omega), HN.out.1⟩
          case measure => simp [intOf]; omega
      · obtain rfl : k = s.length := by omega
        have HA2 : Hid ((bodyT s).all isDig = true ∧ (bodyT s).take (s.length - 1) = bodyT s) := by
          have e : (bodyT s).take (s.length - 1) = bodyT s := List.take_of_length_le (by omega)
          have := HA.out
          rw [e] at this
          exact ⟨this, e⟩
        have hvs := val_small (s.length - 1) HA.out (by omega)
        (try simp only [Nat.sub_zero] at hvs)
        have hgI := str_get s 1 (by rw [str_size]; exact hI)
        have HH : Hid (((bodyT s).head? == some 48) = ((s[1].toNat : Int) == 48)) := by
          show _ = _
          have hb0 : 0 < (bodyT s).length := by omega
          rw [head_at hb0, show (48 : Int) = ((48 : Nat) : Int) from rfl, u8_eq 48 (by omega)]
          have := HBg.out 1 hI (Nat.le_refl _) (by omega)
          simp only [Nat.sub_self] at this
          rw [this]; rfl
        clear HA
        by_cases hz : ((s[1].toNat : Int) == 48) = true
        · have HF := Lib.hid (read_zero (s := s) (by rw [HH.out, hz, HNg.out]; rfl))
          have HZ : Hid (readZ s = 0) := by show _ = _; simp [readZ, HF.out]
          clear hl9 hbl
          go_wp2_with fail
          go_ret2
          exact ⟨ret_pair HZ.out.symm HF.out.symm, rfl⟩
        · have hz' : ((s[1].toNat : Int) == 48) = false := by simpa using hz
          have HF := Lib.hid (read_yes (s := s) (by rw [HBl.out]; exact HL.out) HA2.out.1 (by rw [HH.out, hz']; rfl))
          have HZ : Hid (readZ s = -(valT (bodyT s) : Int)) := by show _ = _; simp [readZ, HF.out, HNg.out]
          clear hl9 hbl hz
          go_wp2_with fail
          go_ret2
          exact ⟨ret_pair (by have e := HA2.out.2; (try simp only [Nat.sub_zero] at e); rw [HZ.out, e]) HF.out.symm, rfl⟩
  · have hneg : negT s = false := by simp [negT, hhead, h45]
    have h45' : ((s[0].toNat : Int) == 45) = false := by rw [show (45 : Int) = ((45 : Nat) : Int) from rfl, u8_eq 45 (by omega)]; simpa using h45
    have HBd : Hid (bodyT s = s.drop 0) := by show _ = _; simp [bodyT, hneg]
    have HBl : Hid ((bodyT s).length = s.length) := by show _ = _; rw [HBd.out]; simp
    have HBg : Hid (∀ k (hk : k < s.length) (_ : 0 ≤ k) (hj : k - 0 < (bodyT s).length), (bodyT s)[k - 0] = s[k]) := fun k hk hi hj => by
      simp only [HBd.out, List.getElem_drop]
      congr 1; omega
    have HNg := Lib.hid hneg
    clear h45 hhead hneg
    by_cases hlen : 1 ≤ s.length ∧ s.length ≤ 9
    rotate_left
    · have HF := Lib.hid (read_short (s := s) (by rw [HBl.out]; exact hlen))
      have HZ : Hid (readZ s = 0) := by show _ = _; simp [readZ, HF.out]
      by_cases h1 : (s.length : Int) < 1
      · clear hlen
        go_enter Tryz.func234, Tryz.ntmps234
        go_wp2_with fail
        go_ret2
        exact ⟨ret_pair HZ.out.symm HF.out.symm, rfl⟩
      · have h2 : 9 < (s.length : Int) := by omega
        clear hlen
        go_enter Tryz.func234, Tryz.ntmps234
        go_wp2_with fail
        go_ret2
        exact ⟨ret_pair HZ.out.symm HF.out.symm, rfl⟩
    have HL := Lib.hid hlen
    have h1 : ¬ (s.length : Int) < 1 := by omega
    have h2 : ¬ 9 < (s.length : Int) := by omega
    have hI : 0 < s.length := by omega
    have hIi : (0 : Int) < s.length := by omega
    clear hlen
    go_enter Tryz.func234, Tryz.ntmps234
    go_wp2_with fail
    go_loop [6, 7] (fun n i => ∃ k : Nat, 0 ≤ k ∧ k ≤ s.length ∧ i = .int .i64 k ∧ n = .int .i64 (valT ((bodyT s).take (k - 0))) ∧ Hid (((bodyT s).take (k - 0)).all isDig = true)) (fun _ i => s.length - (intOf i).toNat)
    case atStart => exact ⟨0, Nat.le_refl _, by omega, rfl, rfl, rfl⟩
    case round =>
      obtain ⟨k, hI0, hk, rfl, rfl, HA⟩ := hrel
      have hl9 := HL.out
      have hbl := HBl.out
      by_cases hlt : k < s.length
      · have hki : (k : Int) < s.length := by omega
        have hjb : k - 0 < (bodyT s).length := by omega
        have hgj := str_get s k (by rw [str_size]; exact hlt)
        have hc : s[k].toNat < 256 := s[k].toNat_lt
        have hvs := val_small (k - 0) HA.out (by omega)
        (try simp only [Nat.sub_zero] at hvs)
        cases hd : isDig s[k]
        · have HF := Lib.hid (read_bad hjb (by rw [HBg.out k hlt hI0 hjb]; exact hd))
          have HZ : Hid (readZ s = 0) := by show _ = _; simp [readZ, HF.out]
          simp only [isDig, decide_eq_false_iff_not] at hd
          clear HA hbl hl9
          by_cases h48 : (s[k].toNat : Int) < 48
          · clear hd
            go_wp2_with fail
            go_ret2
            exact ⟨ret_pair HZ.out.symm HF.out.symm, rfl⟩
          · have h57 : (57 : Int) < s[k].toNat := by omega
            clear hd
            go_wp2_with fail
            go_ret2
            exact ⟨ret_pair HZ.out.symm HF.out.symm, rfl⟩
        · have HN := Lib.hid (dig_next hjb HA.out (by rw [HBg.out k hlt hI0 hjb]; exact hd))
          rw [HBg.out k hlt hI0 hjb, show k - 0 + 1 = k + 1 - 0 by omega] at HN
          simp only [isDig, decide_eq_true_eq] at hd
          have h48 : ¬ (s[k].toNat : Int) < 48 := by omega
          have h57 : ¬ (57 : Int) < s[k].toNat := by omega
          have h48n : 48 ≤ s[k].toNat := hd.1
          clear HA hbl hl9 hd
          go_wp2_with fail
          go_round
          case rel => exact ⟨k + 1, by omega, by omega, by go_num, int_eq (by have e := HN.out.2; (try simp only [Nat.sub_zero] at e ⊢); omega), HN.out.1⟩
          case measure => simp [intOf]; omega
      · obtain rfl : k = s.length := by omega
        have HA2 : Hid ((bodyT s).all isDig = true ∧ (bodyT s).take (s.length - 0) = bodyT s) := by
          have e : (bodyT s).take (s.length - 0) = bodyT s := List.take_of_length_le (by omega)
          have := HA.out
          rw [e] at this
          exact ⟨this, e⟩
        have hvs := val_small (s.length - 0) HA.out (by omega)
        (try simp only [Nat.sub_zero] at hvs)
        have hgI := str_get s 0 (by rw [str_size]; exact hI)
        have HH : Hid (((bodyT s).head? == some 48) = ((s[0].toNat : Int) == 48)) := by
          show _ = _
          have hb0 : 0 < (bodyT s).length := by omega
          rw [head_at hb0, show (48 : Int) = ((48 : Nat) : Int) from rfl, u8_eq 48 (by omega)]
          have := HBg.out 0 hI (Nat.le_refl _) (by omega)
          simp only [Nat.sub_self] at this
          rw [this]; rfl
        clear HA
        by_cases hz : ((s[0].toNat : Int) == 48) = true
        · by_cases hm : (1 : Int) < s.length
          · have HF := Lib.hid (read_zero (s := s) (by rw [HH.out, hz, HNg.out, decide_eq_true (show 1 < s.length by omega)]; rfl))
            have HZ : Hid (readZ s = 0) := by show _ = _; simp [readZ, HF.out]
            clear hl9 hbl
            go_wp2_with fail
            go_ret2
            exact ⟨ret_pair HZ.out.symm HF.out.symm, rfl⟩
          · have HF := Lib.hid (read_yes (s := s) (by rw [HBl.out]; exact HL.out) HA2.out.1 (by rw [HH.out, hz, HNg.out, decide_eq_false (show ¬ 1 < s.length by omega)]; rfl))
            have HZ : Hid (readZ s = (valT (bodyT s) : Int)) := by show _ = _; simp [readZ, HF.out, HNg.out]
            clear hl9 hbl
            go_wp2_with fail
            go_ret2
            exact ⟨ret_pair (by have e := HA2.out.2; (try simp only [Nat.sub_zero] at e); rw [HZ.out, e]) HF.out.symm, rfl⟩
        · have hz' : ((s[0].toNat : Int) == 48) = false := by simpa using hz
          have HF := Lib.hid (read_yes (s := s) (by rw [HBl.out]; exact HL.out) HA2.out.1 (by rw [HH.out, hz']; rfl))
          have HZ : Hid (readZ s = (valT (bodyT s) : Int)) := by show _ = _; simp [readZ, HF.out, HNg.out]
          clear hl9 hbl hz
          go_wp2_with fail
          go_ret2
          exact ⟨ret_pair (by have e := HA2.out.2; (try simp only [Nat.sub_zero] at e); rw [HZ.out, e]) HF.out.symm, rfl⟩
end Go.Proofs.YteialkknddpbjaaGreatDoor
namespace Go.Proofs.YteialkknddpbjaaGreatDoor
open Go.ChangeShapes Go.WideShapes Go.ChangeAt Go.RowKit
attribute [local go_sem] str_list str_size str_add lit_list0 add_lit lit_add str_cut

/-- what is left of a text -/
def tornT (s : List UInt8) (k : Int) : List UInt8 := if k < 0 then [] else s.take k.toNat
theorem l1Min_any (a b : Int) (w : World) : Calls Tryz.prog 241 #[.int .i64 a, .int .i64 b] w fun e w' => e = .returned (.int .i64 (min a b)) ∧ w = w' := by
  by_cases h : a < b
  · have HM : Hid (min a b = a) := by show _ = _; omega
    go_enter Tryz.func241, Tryz.ntmps241
    go_wp2_with fail
    go_ret
    exact ⟨ret_int HM.out.symm, rfl⟩
  · have HM : Hid (min a b = b) := by show _ = _; omega
    go_enter Tryz.func241, Tryz.ntmps241
    go_wp2_with fail
    go_ret
    exact ⟨ret_int HM.out.symm, rfl⟩
theorem specTorn_any (s : List UInt8) (k : Int) (w : World) (hs : s.length ≤ 1100000) :
    Calls Tryz.prog 183 #[.string (str s), .int .i64 k] w fun e w' => e = .returned (.string (str (tornT s k))) ∧ w = w' := by
  by_cases h : k < 0
  · have HM : Hid (tornT s k = []) := by show _ = _; simp [tornT, h]
    go_enter Tryz.func183, Tryz.ntmps183
    go_wp2_with fail
    go_ret
    exact ⟨ret_str HM.out.symm, rfl⟩
  · have HM : Hid (s.take (min k (s.length : Int)).toNat = tornT s k) := by
      show _ = _
      rw [tornT, if_neg h]
      by_cases hl : k ≤ s.length
      · rw [show min k (s.length : Int) = k by omega]
      · rw [show min k (s.length : Int) = s.length by omega, List.take_of_length_le (by omega), List.take_of_length_le (by omega)]
    have h0 : 0 ≤ min k (s.length : Int) := by omega
    have h1 : min k (s.length : Int) ≤ s.length := by omega
    go_enter Tryz.func183, Tryz.ntmps183
    go_wp2_with fail
    go_fit (l1Min_any _ _ _)
    rintro e w' ⟨rfl, rfl⟩
    generalize min k (s.length : Int) = q at *
    go_wp2_with fail
    go_ret
    exact ⟨ret_str HM.out, rfl⟩
end Go.Proofs.YteialkknddpbjaaGreatDoor
