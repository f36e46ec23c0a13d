/- What is read is what was shown: texts whose numbers are read. -/
import Derived.Test.YtnhefdmnpoaegaaGreatDoorMathL07
import Derived.Lib.ParseIntB
namespace Go.Proofs.YtnhefdmnpoaegaaGreatDoor

theorem words_join (cur s : List UInt8) : wordsT (splitG 32 cur s) = cur ++ s := by
  induction s generalizing cur with
  | nil => simp [splitG, wordsT]
  | cons x r ih =>
    unfold splitG
    split
    · next h =>
      have hx : x = 32 := by simpa using h
      have hp := splitG_pos 32 [] r
      have e := ih []
      cases hL : splitG 32 [] r with
      | nil => rw [hL] at hp; simp at hp
      | cons y q =>
        rw [hL] at e
        rw [wordsT, e, hx]; simp
    · rw [ih]; simp
theorem words_back (s : List UInt8) : wordsT (splitT 32 s) = s := words_join [] s
theorem isDig_nat {c : UInt8} (h : isDig c = true) : 48 ≤ c.toNat ∧ c.toNat ≤ 57 := by simpa [isDig] using h
theorem digB_back {c : UInt8} (h : isDig c = true) : digB (c.toNat - 48) = c := by
  have := isDig_nat h
  apply UInt8.toNat_inj.1
  rw [digB_nat (by omega)]; omega
theorem digT_back (n : Nat) : ∀ t : List UInt8, t.length = n + 1 → t.all isDig = true → (t.head? = some 48 → t.length = 1) → digT (valT t) = t ∧ (t.head? ≠ some 48 → 1 ≤ valT t) := by
  induction n with
  | zero =>
    intro t ht ha _
    match t, ht with
    | [c], _ =>
      have hc : isDig c = true := by simpa using ha
      have hn := isDig_nat hc
      have hv : valT [c] = c.toNat - 48 := by simp [valT]
      rw [hv, digT_small (by omega), digB_back hc]
      refine ⟨rfl, fun h => ?_⟩
      have : c ≠ 48 := fun e => h (by simp [e])
      have h3 : c.toNat ≠ 48 := fun e => this (UInt8.toNat_inj.1 (by rw [e]; rfl))
      omega
  | succ n ih =>
    intro t ht ha hz
    obtain ⟨t', c, rfl⟩ : ∃ t' c, t = t' ++ [c] := ⟨t.dropLast, t.getLast (by intro e; simp [e] at ht), (List.dropLast_concat_getLast _).symm⟩
    have hl : t'.length = n + 1 := by simp at ht; omega
    have hne : t' ≠ [] := by intro e; simp [e] at hl
    rw [List.all_append] at ha
    simp only [Bool.and_eq_true] at ha
    have hc : isDig c = true := by simpa using ha.2
    have hn := isDig_nat hc
    have hh : (t' ++ [c]).head? = t'.head? := by cases t' with | nil => exact absurd rfl hne | cons a r => rfl
    rw [hh] at hz
    have hz' : t'.head? ≠ some 48 := fun e => by have := hz e; rw [List.length_append] at this; simp only [List.length_cons, List.length_nil] at this; omega
    obtain ⟨h1, h2⟩ := ih t' hl ha.1 (fun e => absurd e hz')
    have hv := h2 hz'
    rw [valT_snoc, digT_big (by omega), show (valT t' * 10 + (c.toNat - 48)) / 10 = valT t' by omega, show (valT t' * 10 + (c.toNat - 48)) % 10 = c.toNat - 48 by omega, h1, digB_back hc]
    exact ⟨rfl, fun _ => by omega⟩
theorem read_back {t : List UInt8} (h : readOk t = true) (h0 : 0 ≤ readZ t) : digT (readZ t).toNat = t := by
  have h' := h
  simp only [readOk, Bool.and_eq_true, decide_eq_true_eq, Bool.not_eq_true'] at h'
  obtain ⟨⟨l1, l2⟩, ha, hz⟩ := h'
  cases hn : negT t
  · have hb : bodyT t = t := by simp [bodyT, hn]
    rw [hb] at l1 l2 ha hz
    have hv : readZ t = (valT t : Int) := by simp [readZ, h, hn, hb]
    rw [hv, Int.toNat_natCast]
    refine (digT_back (t.length - 1) t (by omega) ha fun e => ?_).1
    rw [e] at hz
    simp [hn] at hz
    omega
  · exfalso
    have hv : readZ t = -(valT (bodyT t) : Int) := by simp [readZ, h, hn]
    have hz' : (bodyT t).head? ≠ some 48 := fun e => by rw [e] at hz; simp [hn] at hz
    have := (digT_back ((bodyT t).length - 1) (bodyT t) (by omega) ha (fun e => absurd e hz')).2 hz'
    omega
theorem parse_dig (B : Nat) : ∀ (l : List UInt8) (acc : Nat), l.all isDig = true → (l.foldl (fun a c => a * 10 + (c.toNat - 48)) acc) < 1000000000 → 1000000000 ≤ B → Lib.parseUintM B acc l = .ok (l.foldl (fun a c => a * 10 + (c.toNat - 48)) acc)
  | [], acc, _, _, _ => rfl
  | c :: r, acc, ha, hm, hB => by
    have hc : isDig c = true := by simp at ha; exact ha.1
    have hn := isDig_nat hc
    have mono : ∀ (l : List UInt8) (a : Nat), a ≤ l.foldl (fun a c => a * 10 + (c.toNat - 48)) a := by
      intro l
      induction l with
      | nil => intro a; exact Nat.le_refl _
      | cons x r ih => intro a; have := ih (a * 10 + (x.toNat - 48)); simp only [List.foldl_cons]; omega
    have h1 := mono r (acc * 10 + (c.toNat - 48))
    rw [List.foldl_cons] at hm ⊢
    unfold Lib.parseUintM
    rw [if_pos hn, if_neg (by omega), if_neg (by omega)]
    exact parse_dig B r _ (by simp at ha ⊢; exact ha.2) hm hB
theorem parse_dec (n : Nat) (hn : n < 1000000000) : Lib.parseIntB 64 (digT n) = .ok (n : Int) := by
  obtain ⟨d, r, e, hd, hz⟩ := digT_head n
  have hv : valT (digT n) = n := digT_val n
  have ha := digT_all n
  have hc : ¬ ((digB d).toNat = 43 ∨ (digB d).toNat = 45) := by rw [digB_nat hd]; omega
  have hp : Lib.parseUintB 64 (digT n) = .ok n := by
    unfold Lib.parseUintB
    rw [if_neg (by rw [e]; simp)]
    have := parse_dig (2 ^ 64 - 1) (digT n) 0 ha (by rw [show List.foldl (fun a c => a * 10 + (c.toNat - 48)) 0 (digT n) = valT (digT n) from rfl, hv]; exact hn) (by decide)
    rw [this]
    exact congrArg _ hv
  have h45 : ¬ (digB d).toNat = 45 := by rw [digB_nat hd]; omega
  rw [e] at hp ⊢
  unfold Lib.parseIntB
  dsimp only
  rw [if_neg hc, hp]
  dsimp only
  rw [if_neg (fun x => Nat.not_le.2 (Nat.lt_of_lt_of_le hn (by decide)) x.2), if_neg (fun x => h45 x.1), if_neg h45]
/-- the patch of a list of numbers, as the program builds it -/
def fromN (n : List Int) : PZ := ⟨n.getD 0 0, dsN n (n.length / 2), vsN n ((n.length - 1) / 2)⟩
theorem fromN_odd {n : List Int} (h : n.length % 2 = 1) : fromN n = PZ.ofN n := by
  unfold fromN PZ.ofN
  rw [show (n.length - 1) / 2 = n.length / 2 by omega]
theorem dsN_len (n : List Int) (j : Nat) : (dsN n j).length = j := by simp [dsN]
theorem vsN_len (n : List Int) (j : Nat) : (vsN n j).length = j := by simp [vsN]
theorem fromN_ok {n : List Int} (h : (fromN n).ok = true) : n.length % 2 = 1 ∧ (n.length = 3 ∨ n.length = 5) := by
  obtain ⟨-, h⟩ := ok_cases h
  rcases h with ⟨d, v, h1, h2, -⟩ | ⟨d, v, e, u, h1, h2, -⟩
  · have a := congrArg List.length h1
    have b := congrArg List.length h2
    simp only [fromN, dsN_len, vsN_len, List.length_cons, List.length_nil] at a b
    omega
  · have a := congrArg List.length h1
    have b := congrArg List.length h2
    simp only [fromN, dsN_len, vsN_len, List.length_cons, List.length_nil] at a b
    omega
/-- what was read is shown as it was -/
theorem read_text {s : List UInt8} (h : readPok s = true) : (readP s).text = s := by
  simp only [readPok, Bool.and_eq_true, beq_iff_eq] at h
  obtain ⟨hall, hodd, hok⟩ := h
  have hF : fromN (numsT s) = readP s := fromN_odd hodd
  have hlen := (fromN_ok (by rw [hF]; exact hok)).2
  have hwl : (numsT s).length = (splitT 32 s).length := by simp [numsT]
  have hw := words_back s
  obtain ⟨hrow, hc⟩ := ok_cases hok
  have key : ∀ t ∈ splitT 32 s, 0 ≤ readZ t → digT (readZ t).toNat = t := fun t ht h0 => read_back (List.all_eq_true.1 hall t ht) h0
  rw [hwl] at hlen
  unfold readP numsT at hrow hc ⊢
  generalize splitT 32 s = L at *
  rcases hlen with hl | hl
  · match L, hl with
    | [a, b, c], _ =>
      simp only [PZ.ofN, List.map_cons, List.map_nil, List.length_cons, List.length_nil, dsN, vsN] at hrow hc ⊢
      simp [List.range_succ] at hrow hc ⊢
      simp only [PZ.text, PZ.words, pairsW]
      rw [key a (by simp) hrow.1, key b (by simp) hc.1.1, key c (by simp) hc.2.1]
      exact hw
  · match L, hl with
    | [a, b, c, d, e], _ =>
      simp only [PZ.ofN, List.map_cons, List.map_nil, List.length_cons, List.length_nil, dsN, vsN] at hrow hc ⊢
      simp [List.range_succ] at hrow hc ⊢
      simp only [PZ.text, PZ.words, pairsW]
      obtain ⟨d1, v1, e1, ⟨rfl, rfl⟩, x1, ⟨rfl, rfl⟩, h1, h2, h3, h4, -⟩ := hc
      rw [key a (by simp) hrow.1, key b (by simp) h1.1, key c (by simp) h2.1, key d (by simp) h3.1, key e (by simp) h4.1]
      exact hw
def parseB (t : List UInt8) : Bool := match Lib.parseIntB 64 t with | .ok _ => true | _ => false
def parseV (t : List UInt8) : Int := match Lib.parseIntB 64 t with | .ok v => v | _ => 0
theorem parse_yes {t : List UInt8} (h : parseB t = true) : Lib.parseIntB 64 t = .ok (parseV t) := by
  unfold parseB at h
  unfold parseV
  rcases hp : Lib.parseIntB 64 t with v | _ | _
  · rfl
  · rw [hp] at h; cases h
  · rw [hp] at h; cases h
/-- the numbers of a text, as the program reads them -/
def numsP (s : List UInt8) : List Int := if (splitT 32 s).all parseB then (splitT 32 s).map parseV else []
theorem word_dig {s : List UInt8} (h : readPok s = true) (t : List UInt8) (ht : t ∈ splitT 32 s) : parseB t = true ∧ parseV t = readZ t := by
  have hx := read_text h
  have hw := words_split (readP s)
  rw [hx] at hw
  have hall : readOk t = true := by
    simp only [readPok, Bool.and_eq_true] at h
    exact List.all_eq_true.1 h.1 t ht
  obtain ⟨n, rfl⟩ : ∃ n, t = digT n := by
    rw [hw] at ht
    simp only [PZ.words, List.mem_cons] at ht
    rcases ht with rfl | ht
    · exact ⟨_, rfl⟩
    · exact pairsW_mem _ _ t ht
  have hn : n < 1000000000 := by
    have h2 := hall
    simp only [readOk, (digT_body n).2, Bool.and_eq_true, decide_eq_true_eq] at h2
    have := valT_ltN (digT n).length (digT n) rfl h2.2.1
    rw [digT_val] at this
    exact Nat.lt_of_lt_of_le this (Nat.pow_le_pow_right (by omega) h2.1.2)
  have hp := parse_dec n hn
  exact ⟨by simp [parseB, hp], by simp [parseV, hp, (digT_read n hn).2]⟩
theorem numsP_of {s : List UInt8} (h : readPok s = true) : numsP s = numsT s := by
  unfold numsP numsT
  rw [if_pos (List.all_eq_true.2 fun t ht => (word_dig h t ht).1)]
  exact List.map_congr_left fun t ht => (word_dig h t ht).2
/-- the program's test tells what can be read -/
theorem readP_test (s : List UInt8) : ((fromN (numsP s)).ok && decide ((fromN (numsP s)).text = s)) = readPok s ∧ (readPok s = true → fromN (numsP s) = readP s) := by
  have h2 : readPok s = true → fromN (numsP s) = readP s := fun h => by
    rw [numsP_of h]
    simp only [readPok, Bool.and_eq_true, beq_iff_eq] at h
    exact fromN_odd h.2.1
  refine ⟨?_, h2⟩
  cases hr : readPok s
  · cases ho : (fromN (numsP s)).ok
    · rfl
    · have ht := text_read ho
      by_cases he : (fromN (numsP s)).text = s
      · rw [he, hr] at ht; cases ht.1
      · simp [he]
  · have e := h2 hr
    have hok : (readP s).ok = true := by simp only [readPok, Bool.and_eq_true] at hr; exact hr.2.2
    rw [e, hok, read_text hr]
    simp
end Go.Proofs.YtnhefdmnpoaegaaGreatDoor
