/- Patches: what is shown is read back. What is read is what was shown: texts whose numbers are read. A text split at one byte: the library's way and the specification's. Logs: the frames of patches are read back. The frame that a log begins with, as the program finds it: behind the second blank, up to the line's end. Logs that are torn: the entries that are complete are left. What the specification's Framed and Noted return. -/
import Derived.Lib.ParseIntB
import Derived.Lib.SplitLaws
import Derived.Lib.Strings
import Derived.Lib.Bytealg
import Derived.Test.YteialkknddpbjaaGreatDoorPH17
import Derived.Test.YteialkknddpbjaaGreatDoorPH19
namespace Go.Proofs.YteialkknddpbjaaGreatDoor
open Go.ChangeShapes Go.WideShapes Go.ChangeAt Go.RowKit

theorem digB_dig {d : Nat} (h : d < 10) : isDig (digB d) = true := by simp only [isDig, digB_nat h, decide_eq_true_eq]; omega
theorem digT_all (n : Nat) : (digT n).all isDig = true := by
  induction n using Nat.strongRecOn with
  | ind n ih =>
    by_cases h : n < 10
    · rw [digT_small h]; simp [digB_dig h]
    · rw [digT_big h, List.all_append, ih (n / 10) (by omega)]
      simp [digB_dig (show n % 10 < 10 by omega)]
theorem digT_val (n : Nat) : valT (digT n) = n := by
  induction n using Nat.strongRecOn with
  | ind n ih =>
    by_cases h : n < 10
    · rw [digT_small h]; simp [valT, digB_nat h]
    · rw [digT_big h, valT_snoc, ih (n / 10) (by omega), digB_nat (show n % 10 < 10 by omega)]; omega
/-- the first digit -/
theorem digT_head (n : Nat) : ∃ d r, digT n = digB d :: r ∧ d < 10 ∧ (d = 0 → n = 0 ∧ r = []) := by
  induction n using Nat.strongRecOn with
  | ind n ih =>
    by_cases h : n < 10
    · exact ⟨n, [], digT_small h, h, fun e => ⟨e, rfl⟩⟩
    · obtain ⟨d, r, h1, h2, h3⟩ := ih (n / 10) (by omega)
      exact ⟨d, r ++ [digB (n % 10)], by rw [digT_big h, h1]; rfl, h2, fun e => by have := (h3 e).1; omega⟩
theorem digB_ne {d : Nat} (h : d < 10) (c : UInt8) (hc : c.toNat < 48 ∨ 57 < c.toNat) : digB d ≠ c := by
  intro e
  have := digB_nat h
  rw [e] at this
  omega
theorem digB_48 {d : Nat} (h : d < 10) : (digB d == 48) = decide (d = 0) := by
  rw [Bool.eq_iff_iff]
  simp only [beq_iff_eq, decide_eq_true_eq]
  constructor
  · intro e
    have := digB_nat h
    rw [e] at this
    have : (48 : UInt8).toNat = 48 := rfl
    omega
  · rintro rfl; rfl
theorem digT_body (n : Nat) : negT (digT n) = false ∧ bodyT (digT n) = digT n := by
  obtain ⟨d, r, h1, h2, h3⟩ := digT_head n
  have h : negT (digT n) = false := by
    rw [negT, h1]
    simp only [List.head?_cons, Option.some_beq_some]
    simpa using digB_ne h2 45 (.inl (by decide))
  exact ⟨h, by simp [bodyT, h]⟩
theorem digT_read (n : Nat) (hn : n < 1000000000) : readOk (digT n) = true ∧ readZ (digT n) = n := by
  obtain ⟨h1, h2⟩ := digT_body n
  have h3 : readOk (digT n) = true := by
    refine read_yes (by rw [h2]; have := digT_length n 8 (by omega); have := digT_pos n; omega) (by rw [h2]; exact digT_all n) ?_
    rw [h2, h1]
    obtain ⟨d, r, e1, e2, e3⟩ := digT_head n
    rw [e1]
    simp only [List.head?_cons, Option.some_beq_some, digB_48 e2, Bool.false_or]
    by_cases hd : d = 0
    · have := (e3 hd).2
      subst this
      simp
    · simp [hd]
  exact ⟨h3, by rw [readZ, h3, h1, h2, digT_val]; rfl⟩
theorem digT_no (n : Nat) (c : UInt8) (hc : c.toNat < 48 ∨ 57 < c.toNat) : c ∉ digT n := by
  intro h
  have := List.all_eq_true.1 (digT_all n) c h
  simp only [isDig, decide_eq_true_eq] at this
  omega
theorem splitG_word (b : UInt8) (cur x r : List UInt8) (h : b ∉ x) : splitG b cur (x ++ b :: r) = (cur ++ x) :: splitG b [] r := by
  induction x generalizing cur with
  | nil => simp [splitG]
  | cons y s ih =>
    have hy : y ≠ b := fun e => h (by simp [e])
    simp only [List.cons_append, splitG]
    rw [if_neg (by simpa using hy), ih (cur ++ [y]) (fun e => h (by simp [e]))]
    simp
theorem splitG_last (b : UInt8) (cur x : List UInt8) (h : b ∉ x) : splitG b cur x = [cur ++ x] := by
  induction x generalizing cur with
  | nil => simp [splitG]
  | cons y s ih =>
    have hy : y ≠ b := fun e => h (by simp [e])
    simp only [splitG]
    rw [if_neg (by simpa using hy), ih (cur ++ [y]) (fun e => h (by simp [e]))]
    simp
theorem split_words (l : List (List UInt8)) (hl : l ≠ []) (h : ∀ x ∈ l, (32 : UInt8) ∉ x) : splitT 32 (wordsT l) = l := by
  induction l with
  | nil => exact absurd rfl hl
  | cons a r ih =>
    have ha := h a (by simp)
    cases r with
    | nil => simp only [wordsT, splitT]; rw [splitG_last _ _ _ ha]; rfl
    | cons c r =>
      have ih := ih (by simp) (fun x hx => h x (by simp [hx]))
      simp only [wordsT, splitT] at ih ⊢
      rw [splitG_word _ _ _ _ ha, ih]; rfl
theorem pairsW_mem (ds vs : List Int) : ∀ t ∈ pairsW ds vs, ∃ n : Nat, t = digT n := by
  induction ds generalizing vs with
  | nil => simp [pairsW]
  | cons d r ih =>
    cases vs with
    | nil => simp [pairsW]
    | cons v s =>
      intro t ht
      simp only [pairsW, List.mem_cons] at ht
      rcases ht with rfl | rfl | ht
      · exact ⟨_, rfl⟩
      · exact ⟨_, rfl⟩
      · exact ih s t ht
theorem words_split (p : PZ) : splitT 32 p.text = p.words := by
  refine split_words _ (by simp [PZ.words]) fun x hx => ?_
  rcases List.mem_cons.1 hx with rfl | hx
  · exact digT_no _ 32 (.inl (by decide))
  · obtain ⟨n, rfl⟩ := pairsW_mem _ _ x hx
    exact digT_no _ 32 (.inl (by decide))
theorem ok_cases {p : PZ} (h : p.ok = true) : (0 ≤ p.row ∧ p.row ≤ 15) ∧ ((∃ d v, p.ds = [d] ∧ p.vs = [v] ∧ (0 ≤ d ∧ d ≤ 4) ∧ (0 ≤ v ∧ v ≤ 32767)) ∨ (∃ d v e u, p.ds = [d, e] ∧ p.vs = [v, u] ∧ (0 ≤ d ∧ d ≤ 4) ∧ (0 ≤ v ∧ v ≤ 32767) ∧ (0 ≤ e ∧ e ≤ 4) ∧ (0 ≤ u ∧ u ≤ 32767) ∧ d < e)) := by
  obtain ⟨row, ds, vs⟩ := p
  simp only [PZ.ok, Bool.and_eq_true] at h
  obtain ⟨h1, h2⟩ := h
  refine ⟨inB_iff.1 h1, ?_⟩
  dsimp only
  unfold plists at h2
  split at h2
  · simp only [pcell, Bool.and_eq_true] at h2
    exact .inl ⟨_, _, rfl, rfl, inB_iff.1 h2.1, okv_iff.1 h2.2⟩
  · simp only [pcell, Bool.and_eq_true, decide_eq_true_eq] at h2
    exact .inr ⟨_, _, _, _, rfl, rfl, inB_iff.1 h2.1.1, okv_iff.1 h2.1.2, inB_iff.1 h2.2.1.1, okv_iff.1 h2.2.1.2, h2.2.2⟩
  · cases h2
theorem toNat_read {x : Int} (h0 : 0 ≤ x) (h1 : x ≤ 32767) : readOk (digT x.toNat) = true ∧ readZ (digT x.toNat) = x := by
  obtain ⟨a, b⟩ := digT_read x.toNat (by omega)
  exact ⟨a, by rw [b]; omega⟩
theorem text_read {p : PZ} (h : p.ok = true) : readPok p.text = true ∧ readP p.text = p := by
  have hs := words_split p
  obtain ⟨⟨r0, r1⟩, hc⟩ := ok_cases h
  obtain ⟨ro, rz⟩ := toNat_read r0 (by omega)
  have key : (splitT 32 p.text).all readOk = true ∧ (numsT p.text).length % 2 = 1 ∧ readP p.text = p := by
    obtain ⟨row, ds, vs⟩ := p
    dsimp only at *
    rw [numsT, readP, numsT, hs]
    rcases hc with ⟨d, v, rfl, rfl, ⟨d0, d1⟩, ⟨v0, v1⟩⟩ | ⟨d, v, e, u, rfl, rfl, ⟨d0, d1⟩, ⟨v0, v1⟩, ⟨e0, e1⟩, ⟨u0, u1⟩, hlt⟩
    · obtain ⟨do', dz⟩ := toNat_read d0 (by omega)
      obtain ⟨vo, vz⟩ := toNat_read v0 v1
      refine ⟨by simp [PZ.words, pairsW, ro, do', vo], by simp [PZ.words, pairsW], ?_⟩
      simp [PZ.ofN, PZ.words, pairsW, rz, dz, vz, dsN, vsN, List.range_succ]
    · obtain ⟨do', dz⟩ := toNat_read d0 (by omega)
      obtain ⟨vo, vz⟩ := toNat_read v0 v1
      obtain ⟨eo, ez⟩ := toNat_read e0 (by omega)
      obtain ⟨uo, uz⟩ := toNat_read u0 u1
      refine ⟨by simp [PZ.words, pairsW, ro, do', vo, eo, uo], by simp [PZ.words, pairsW], ?_⟩
      simp [PZ.ofN, PZ.words, pairsW, rz, dz, vz, ez, uz, dsN, vsN, List.range_succ]
  obtain ⟨k1, k2, k3⟩ := key
  exact ⟨by rw [readPok, k1, k2, k3, h]; rfl, k3⟩
theorem ok_fit {p : PZ} (h : p.ok = true) : p.fit := by
  obtain ⟨⟨r0, r1⟩, hc⟩ := ok_cases h
  obtain ⟨row, ds, vs⟩ := p
  dsimp only at *
  rcases hc with ⟨d, v, rfl, rfl, ⟨d0, d1⟩, ⟨v0, v1⟩⟩ | ⟨d, v, e, u, rfl, rfl, ⟨d0, d1⟩, ⟨v0, v1⟩, ⟨e0, e1⟩, ⟨u0, u1⟩, hlt⟩
  · refine ⟨⟨r0, by dsimp only; omega⟩, rfl, by simp, fun i hi => ?_, fun i hi => ?_⟩
    · have : i = 0 := by simpa using hi
      subst this; simp; omega
    · have : i = 0 := by simpa using hi
      subst this; simp; omega
  · refine ⟨⟨r0, by dsimp only; omega⟩, rfl, by simp, fun i hi => ?_, fun i hi => ?_⟩
    · rcases (show i = 0 ∨ i = 1 by simp at hi; omega) with rfl | rfl <;> simp <;> omega
    · rcases (show i = 0 ∨ i = 1 by simp at hi; omega) with rfl | rfl <;> simp <;> omega
end Go.Proofs.YteialkknddpbjaaGreatDoor
namespace Go.Proofs.YteialkknddpbjaaGreatDoor

theorem words_join (cur s : List UInt8) : wordsT (splitG 32 cur s) = cur ++ s := by
  induction s generalizing cur with
  | nil => simp [splitG, wordsT]
  | cons x r ih =>
    unfold splitG
    split
    · next h =>
      have hx : x = 32 := by simpa using h
      have hp := splitG_pos 32 [] r
      have e := ih []
      cases hL : splitG 32 [] r with
      | nil => rw [hL] at hp; simp at hp
      | cons y q =>
        rw [hL] at e
        rw [wordsT, e, hx]; simp
    · rw [ih]; simp
theorem words_back (s : List UInt8) : wordsT (splitT 32 s) = s := words_join [] s
theorem isDig_nat {c : UInt8} (h : isDig c = true) : 48 ≤ c.toNat ∧ c.toNat ≤ 57 := by simpa [isDig] using h
theorem digB_back {c : UInt8} (h : isDig c = true) : digB (c.toNat - 48) = c := by
  have := isDig_nat h
  apply UInt8.toNat_inj.1
  rw [digB_nat (by omega)]; omega
theorem digT_back (n : Nat) : ∀ t : List UInt8, t.length = n + 1 → t.all isDig = true → (t.head? = some 48 → t.length = 1) → digT (valT t) = t ∧ (t.head? ≠ some 48 → 1 ≤ valT t) := by
  induction n with
  | zero =>
    intro t ht ha _
    match t, ht with
    | [c], _ =>
      have hc : isDig c = true := by simpa using ha
      have hn := isDig_nat hc
      have hv : valT [c] = c.toNat - 48 := by simp [valT]
      rw [hv, digT_small (by omega), digB_back hc]
      refine ⟨rfl, fun h => ?_⟩
      have : c ≠ 48 := fun e => h (by simp [e])
      have h3 : c.toNat ≠ 48 := fun e => this (UInt8.toNat_inj.1 (by rw [e]; rfl))
      omega
  | succ n ih =>
    intro t ht ha hz
    obtain ⟨t', c, rfl⟩ : ∃ t' c, t = t' ++ [c] := ⟨t.dropLast, t.getLast (by intro e; simp [e] at ht), (List.dropLast_concat_getLast _).symm⟩
    have hl : t'.length = n + 1 := by simp at ht; omega
    have hne : t' ≠ [] := by intro e; simp [e] at hl
    rw [List.all_append] at ha
    simp only [Bool.and_eq_true] at ha
    have hc : isDig c = true := by simpa using ha.2
    have hn := isDig_nat hc
    have hh : (t' ++ [c]).head? = t'.head? := by cases t' with | nil => exact absurd rfl hne | cons a r => rfl
    rw [hh] at hz
    have hz' : t'.head? ≠ some 48 := fun e => by have := hz e; rw [List.length_append] at this; simp only [List.length_cons, List.length_nil] at this; omega
    obtain ⟨h1, h2⟩ := ih t' hl ha.1 (fun e => absurd e hz')
    have hv := h2 hz'
    rw [valT_snoc, digT_big (by omega), show (valT t' * 10 + (c.toNat - 48)) / 10 = valT t' by omega, show (valT t' * 10 + (c.toNat - 48)) % 10 = c.toNat - 48 by omega, h1, digB_back hc]
    exact ⟨rfl, fun _ => by omega⟩
theorem read_back {t : List UInt8} (h : readOk t = true) (h0 : 0 ≤ readZ t) : digT (readZ t).toNat = t := by
  have h' := h
  simp only [readOk, Bool.and_eq_true, decide_eq_true_eq, Bool.not_eq_true'] at h'
  obtain ⟨⟨l1, l2⟩, ha, hz⟩ := h'
  cases hn : negT t
  · have hb : bodyT t = t := by simp [bodyT, hn]
    rw [hb] at l1 l2 ha hz
    have hv : readZ t = (valT t : Int) := by simp [readZ, h, hn, hb]
    rw [hv, Int.toNat_natCast]
    refine (digT_back (t.length - 1) t (by omega) ha fun e => ?_).1
    rw [e] at hz
    simp [hn] at hz
    omega
  · exfalso
    have hv : readZ t = -(valT (bodyT t) : Int) := by simp [readZ, h, hn]
    have hz' : (bodyT t).head? ≠ some 48 := fun e => by rw [e] at hz; simp [hn] at hz
    have := (digT_back ((bodyT t).length - 1) (bodyT t) (by omega) ha (fun e => absurd e hz')).2 hz'
    omega
theorem parse_dig (B : Nat) : ∀ (l : List UInt8) (acc : Nat), l.all isDig = true → (l.foldl (fun a c => a * 10 + (c.toNat - 48)) acc) < 1000000000 → 1000000000 ≤ B → Lib.parseUintM B acc l = .ok (l.foldl (fun a c => a * 10 + (c.toNat - 48)) acc)
  | [], acc, _, _, _ => rfl
  | c :: r, acc, ha, hm, hB => by
    have hc : isDig c = true := by simp at ha; exact ha.1
    have hn := isDig_nat hc
    have mono : ∀ (l : List UInt8) (a : Nat), a ≤ l.foldl (fun a c => a * 10 + (c.toNat - 48)) a := by
      intro l
      induction l with
      | nil => intro a; exact Nat.le_refl _
      | cons x r ih => intro a; have := ih (a * 10 + (x.toNat - 48)); simp only [List.foldl_cons]; omega
    have h1 := mono r (acc * 10 + (c.toNat - 48))
    rw [List.foldl_cons] at hm ⊢
    unfold Lib.parseUintM
    rw [if_pos hn, if_neg (by omega), if_neg (by omega)]
    exact parse_dig B r _ (by simp at ha ⊢; exact ha.2) hm hB
theorem parse_dec (n : Nat) (hn : n < 1000000000) : Lib.parseIntB 64 (digT n) = .ok (n : Int) := by
  obtain ⟨d, r, e, hd, hz⟩ := digT_head n
  have hv : valT (digT n) = n := digT_val n
  have ha := digT_all n
  have hc : ¬ ((digB d).toNat = 43 ∨ (digB d).toNat = 45) := by rw [digB_nat hd]; omega
  have hp : Lib.parseUintB 64 (digT n) = .ok n := by
    unfold Lib.parseUintB
    rw [if_neg (by rw [e]; simp)]
    have := parse_dig (2 ^ 64 - 1) (digT n) 0 ha (by rw [show List.foldl (fun a c => a * 10 + (c.toNat - 48)) 0 (digT n) = valT (digT n) from rfl, hv]; exact hn) (by decide)
    rw [this]
    exact congrArg _ hv
  have h45 : ¬ (digB d).toNat = 45 := by rw [digB_nat hd]; omega
  rw [e] at hp ⊢
  unfold Lib.parseIntB
  dsimp only
  rw [if_neg hc, hp]
  dsimp only
  rw [if_neg (fun x => Nat.not_le.2 (Nat.lt_of_lt_of_le hn (by decide)) x.2), if_neg (fun x => h45 x.1), if_neg h45]
/-- the patch of a list of numbers, as the program builds it -/
def fromN (n : List Int) : PZ := ⟨n.getD 0 0, dsN n (n.length / 2), vsN n ((n.length - 1) / 2)⟩
theorem fromN_odd {n : List Int} (h : n.length % 2 = 1) : fromN n = PZ.ofN n := by
  unfold fromN PZ.ofN
  rw [show (n.length - 1) / 2 = n.length / 2 by omega]
theorem dsN_len (n : List Int) (j : Nat) : (dsN n j).length = j := by simp [dsN]
theorem vsN_len (n : List Int) (j : Nat) : (vsN n j).length = j := by simp [vsN]
theorem fromN_ok {n : List Int} (h : (fromN n).ok = true) : n.length % 2 = 1 ∧ (n.length = 3 ∨ n.length = 5) := by
  obtain ⟨-, h⟩ := ok_cases h
  rcases h with ⟨d, v, h1, h2, -⟩ | ⟨d, v, e, u, h1, h2, -⟩
  · have a := congrArg List.length h1
    have b := congrArg List.length h2
    simp only [fromN, dsN_len, vsN_len, List.length_cons, List.length_nil] at a b
    omega
  · have a := congrArg List.length h1
    have b := congrArg List.length h2
    simp only [fromN, dsN_len, vsN_len, List.length_cons, List.length_nil] at a b
    omega
/-- what was read is shown as it was -/
theorem read_text {s : List UInt8} (h : readPok s = true) : (readP s).text = s := by
  simp only [readPok, Bool.and_eq_true, beq_iff_eq] at h
  obtain ⟨hall, hodd, hok⟩ := h
  have hF : fromN (numsT s) = readP s := fromN_odd hodd
  have hlen := (fromN_ok (by rw [hF]; exact hok)).2
  have hwl : (numsT s).length = (splitT 32 s).length := by simp [numsT]
  have hw := words_back s
  obtain ⟨hrow, hc⟩ := ok_cases hok
  have key : ∀ t ∈ splitT 32 s, 0 ≤ readZ t → digT (readZ t).toNat = t := fun t ht h0 => read_back (List.all_eq_true.1 hall t ht) h0
  rw [hwl] at hlen
  unfold readP numsT at hrow hc ⊢
  generalize splitT 32 s = L at *
  rcases hlen with hl | hl
  · match L, hl with
    | [a, b, c], _ =>
      simp only [PZ.ofN, List.map_cons, List.map_nil, List.length_cons, List.length_nil, dsN, vsN] at hrow hc ⊢
      simp [List.range_succ] at hrow hc ⊢
      simp only [PZ.text, PZ.words, pairsW]
      rw [key a (by simp) hrow.1, key b (by simp) hc.1.1, key c (by simp) hc.2.1]
      exact hw
  · match L, hl with
    | [a, b, c, d, e], _ =>
      simp only [PZ.ofN, List.map_cons, List.map_nil, List.length_cons, List.length_nil, dsN, vsN] at hrow hc ⊢
      simp [List.range_succ] at hrow hc ⊢
      simp only [PZ.text, PZ.words, pairsW]
      obtain ⟨d1, v1, e1, ⟨rfl, rfl⟩, x1, ⟨rfl, rfl⟩, h1, h2, h3, h4, -⟩ := hc
      rw [key a (by simp) hrow.1, key b (by simp) h1.1, key c (by simp) h2.1, key d (by simp) h3.1, key e (by simp) h4.1]
      exact hw
def parseB (t : List UInt8) : Bool := match Lib.parseIntB 64 t with | .ok _ => true | _ => false
def parseV (t : List UInt8) : Int := match Lib.parseIntB 64 t with | .ok v => v | _ => 0
/-- the numbers of a text, as the program reads them -/
def numsP (s : List UInt8) : List Int := if (splitT 32 s).all parseB then (splitT 32 s).map parseV else []
theorem word_dig {s : List UInt8} (h : readPok s = true) (t : List UInt8) (ht : t ∈ splitT 32 s) : parseB t = true ∧ parseV t = readZ t := by
  have hx := read_text h
  have hw := words_split (readP s)
  rw [hx] at hw
  have hall : readOk t = true := by
    simp only [readPok, Bool.and_eq_true] at h
    exact List.all_eq_true.1 h.1 t ht
  obtain ⟨n, rfl⟩ : ∃ n, t = digT n := by
    rw [hw] at ht
    simp only [PZ.words, List.mem_cons] at ht
    rcases ht with rfl | ht
    · exact ⟨_, rfl⟩
    · exact pairsW_mem _ _ t ht
  have hn : n < 1000000000 := by
    have h2 := hall
    simp only [readOk, (digT_body n).2, Bool.and_eq_true, decide_eq_true_eq] at h2
    have := valT_ltN (digT n).length (digT n) rfl h2.2.1
    rw [digT_val] at this
    exact Nat.lt_of_lt_of_le this (Nat.pow_le_pow_right (by omega) h2.1.2)
  have hp := parse_dec n hn
  exact ⟨by simp [parseB, hp], by simp [parseV, hp, (digT_read n hn).2]⟩
theorem numsP_of {s : List UInt8} (h : readPok s = true) : numsP s = numsT s := by
  unfold numsP numsT
  rw [if_pos (List.all_eq_true.2 fun t ht => (word_dig h t ht).1)]
  exact List.map_congr_left fun t ht => (word_dig h t ht).2
/-- the program's test tells what can be read -/
theorem readP_test (s : List UInt8) : ((fromN (numsP s)).ok && decide ((fromN (numsP s)).text = s)) = readPok s ∧ (readPok s = true → fromN (numsP s) = readP s) := by
  have h2 : readPok s = true → fromN (numsP s) = readP s := fun h => by
    rw [numsP_of h]
    simp only [readPok, Bool.and_eq_true, beq_iff_eq] at h
    exact fromN_odd h.2.1
  refine ⟨?_, h2⟩
  cases hr : readPok s
  · cases ho : (fromN (numsP s)).ok
    · rfl
    · have ht := text_read ho
      by_cases he : (fromN (numsP s)).text = s
      · rw [he, hr] at ht; cases ht.1
      · simp [he]
  · have e := h2 hr
    have hok : (readP s).ok = true := by simp only [readPok, Bool.and_eq_true] at hr; exact hr.2.2
    rw [e, hok, read_text hr]
    simp
end Go.Proofs.YteialkknddpbjaaGreatDoor
namespace Go.Proofs.YteialkknddpbjaaGreatDoor

theorem splitG_cur (b : UInt8) (cur s : List UInt8) : splitG b cur s = (cur ++ (splitG b [] s).headD []) :: (splitG b [] s).tail := by
  induction s generalizing cur with
  | nil => simp [splitG]
  | cons x r ih =>
    unfold splitG
    split
    · simp
    · rw [ih (cur ++ [x]), ih ([] ++ [x])]; simp
theorem index_yes {s : List UInt8} (h : (32 : UInt8) ∈ s) : 0 ≤ Lib.index s [32] := by
  induction s with
  | nil => cases h
  | cons x r ih =>
    unfold Lib.index
    split
    · omega
    · next hx =>
      have hx' : ¬ (32 : UInt8) = x := by simpa [List.isPrefixOf] using hx
      have := ih (by rcases List.mem_cons.1 h with e | e; exact absurd e hx'; exact e)
      rw [if_neg (by simp; omega)]
      omega
theorem splitK_T (s : List UInt8) : Lib.splitK [32] 0 (s.count 32) s = splitG 32 [] s := by
  induction s with
  | nil => rfl
  | cons x r ih =>
    by_cases hx : x = 32
    · subst hx
      rw [List.count_cons_self]
      unfold Lib.splitK splitG
      have h0 : Lib.index (32 :: r) [32] = 0 := by unfold Lib.index; simp [List.isPrefixOf]
      rw [h0, if_neg (by decide), if_pos (by decide)]
      simp only [Int.toNat_zero, List.take_zero, List.length_cons, List.length_nil, Nat.zero_add, List.drop_succ_cons, List.drop_zero]
      rw [ih]
    · rw [List.count_cons_of_ne hx]
      have hpre : ¬ ([32] : List UInt8).isPrefixOf (x :: r) = true := by simp [List.isPrefixOf]; exact fun e => hx e.symm
      unfold splitG
      rw [if_neg (by simpa using hx), List.nil_append]
      by_cases hm : (32 : UInt8) ∈ r
      · have hi := index_yes hm
        have hc : 0 < r.count 32 := List.count_pos_iff.2 hm
        obtain ⟨k, hk⟩ : ∃ k, r.count 32 = k + 1 := ⟨r.count 32 - 1, by omega⟩
        rw [hk] at ih ⊢
        unfold Lib.splitK at ih ⊢
        have hidx : Lib.index (x :: r) [32] = Lib.index r [32] + 1 := by
          rw [Lib.index, if_neg hpre, if_neg (by simp; omega)]
        rw [if_neg (by simp; omega)] at ih
        rw [hidx, if_neg (by simp; omega), splitG_cur 32 [x] r, ← ih]
        simp only [show (Lib.index r [32] + 1).toNat = (Lib.index r [32]).toNat + 1 by omega, Nat.add_zero, List.take_succ_cons, List.length_cons, List.length_nil, Nat.zero_add, List.drop_succ_cons, List.headD_cons, List.tail_cons]
        rfl
      · have hc : r.count 32 = 0 := List.count_eq_zero.2 hm
        rw [hc, splitG_last 32 [x] r hm]
        rfl
theorem split_lib (s : ByteArray) : (Lib.splitB ⟨#[32]⟩ 0 (Lib.countB s ⟨#[32]⟩) s).map (·.data.toList) = splitT 32 s.data.toList := by
  rw [Lib.splitB_data, show Lib.countB s ⟨#[32]⟩ = Lib.count s.data.toList [32] from rfl, Lib.count_one]
  exact splitK_T _
end Go.Proofs.YteialkknddpbjaaGreatDoor
namespace Go.Proofs.YteialkknddpbjaaGreatDoor
open Go.ChangeShapes Go.WideShapes Go.ChangeAt Go.RowKit

def frontT (t : List UInt8) : List UInt8 := digT t.length ++ (32 :: (digT (markT t) ++ (32 :: t)))
theorem frameT_front (t : List UInt8) : frameT t = frontT t ++ [10] := by simp [frameT, frontT]
theorem front_nolf {t : List UInt8} (h : plainT t = true) : (frontT t).all (fun c => c != 10) = true := by
  simp only [plainT, Bool.and_eq_true] at h
  have q : ∀ n, (digT n).all (fun c => c != 10) = true := fun n => by
    rw [List.all_eq_true]
    intro c hc
    have := digT_no n 10 (.inl (by decide))
    simp; intro e; subst e; exact this hc
  simp only [frontT, List.all_append, List.all_cons, q, h.1]
  rfl
theorem frame_split {t : List UInt8} : splitT 32 (frontT t) = digT t.length :: digT (markT t) :: splitT 32 t := by
  unfold splitT frontT
  rw [splitG_word _ _ _ _ (digT_no _ 32 (.inl (by decide))), splitG_word _ _ _ _ (digT_no _ 32 (.inl (by decide)))]
  rfl
theorem frame_first {t : List UInt8} (more : List UInt8) (h : plainT t = true) : firstOk (frameT t ++ more) = true ∧ firstT (frameT t ++ more) = t ∧ firstN (frameT t ++ more) = (frameT t).length := by
  have hl : t.length ≤ 100 := by simp only [plainT, Bool.and_eq_true, decide_eq_true_eq] at h; exact h.2
  have hs : frameT t ++ more = frontT t ++ 10 :: more := by rw [frameT_front]; simp
  have hlen : (frontT t).length < (frameT t ++ more).length := by rw [hs]; simp
  have htake : (frameT t ++ more).take (frontT t).length = frontT t := by rw [hs]; simp
  have hend : endT (frameT t ++ more) = (frontT t).length := endT_at (by rw [htake]; exact front_nolf h) hlen (by simp [hs])
  have hhead : headT (frameT t ++ more) = frontT t := by rw [headT, hend, htake]
  have hbeh : behindT (frontT t) = t := by
    rw [behindT, frame_split]
    simp only [List.getD_cons_zero, List.getD_cons_succ]
    unfold frontT
    rw [show (digT t.length).length + (digT (markT t)).length + 2 = (digT t.length).length + (1 + ((digT (markT t)).length + 1)) by omega, List.drop_append, List.drop_eq_nil_of_le (by omega)]
    simp [Nat.add_sub_cancel_left, List.drop_append, Nat.add_comm 1]
  have hfl : (frontT t).length ≤ 120 := by
    have h1 := digT_length t.length 2 (by omega)
    have h2 := digT_length (markT t) 3 (by have := markT_lt t; omega)
    simp [frontT]; omega
  have hpos := splitG_pos 32 [] t
  have hok : firstOk (frameT t ++ more) = true := by
    rw [firstOk, hhead, hbeh, hend, frame_split, h, decide_eq_true ⟨hlen, hfl⟩, decide_eq_true (by show 3 ≤ _; unfold splitT; simp; omega)]
    rw [show (frameT t ++ more).take ((frontT t).length + 1) = frameT t by rw [hs, frameT_front]; simp [List.take_append]; exact List.take_of_length_le (by omega)]
    simp
  refine ⟨hok, by rw [(first_yes hok).1, hhead, hbeh], by rw [(first_yes hok).2, hend, frameT_front]; simp⟩
theorem first_nil : firstOk [] = false := by simp [firstOk, endT]
theorem ents_nil : entsT [] = [] := entsT_no (by simp [first_nil])
theorem text_plain {p : PZ} (h : p.ok = true) : plainT p.text = true := by
  have hf := ok_fit h
  obtain ⟨⟨r0, r1⟩, hlen, hl2, hds, hvs⟩ := hf
  have hw : ∀ x ∈ p.words, x.length ≤ 7 := words_small (rn := p.row.toNat) (by omega) hds hvs
  have hl := wordsT_length p.words 7 hw
  have hwl : p.words.length ≤ 5 := by have := pairsW_length p.ds p.vs; simp [PZ.words]; omega
  have hall : ∀ l : List (List UInt8), (∀ x ∈ l, ∃ n : Nat, x = digT n) → (wordsT l).all (fun c => c != 10) = true := fun l => by
    induction l with
    | nil => intro _; rfl
    | cons a r ih =>
      intro hx
      obtain ⟨n, rfl⟩ := hx a (by simp)
      have q : (digT n).all (fun c => c != 10) = true := by
        rw [List.all_eq_true]
        intro c hc
        have := digT_no n 10 (.inl (by decide))
        simp; intro e; subst e; exact this hc
      cases r with
      | nil => simpa [wordsT] using q
      | cons b r =>
        simp only [wordsT, List.all_append, List.all_cons, q]
        rw [ih (fun x h => hx x (by simp [h]))]
        rfl
  have := hall p.words (fun x hx => by
    rcases List.mem_cons.1 hx with rfl | hx
    · exact ⟨_, rfl⟩
    · exact pairsW_mem _ _ x hx)
  unfold plainT PZ.text
  rw [this, decide_eq_true (by omega)]
  rfl
theorem ents_frame {p : PZ} (h : p.ok = true) (more : List UInt8) : entsT (frameT p.text ++ more) = p :: entsT more := by
  obtain ⟨h1, h2, h3⟩ := frame_first more (text_plain h)
  obtain ⟨h4, h5⟩ := text_read h
  rw [entsT_yes ⟨h1, by rw [h2]; exact h4⟩, h2, h5, h3]
  simp
theorem ents_one {p : PZ} (h : p.ok = true) : entsT (frameT p.text) = [p] := by
  have := ents_frame h []
  rw [List.append_nil, ents_nil] at this
  exact this
end Go.Proofs.YteialkknddpbjaaGreatDoor
namespace Go.Proofs.YteialkknddpbjaaGreatDoor
open Go.ChangeShapes Go.WideShapes Go.ChangeAt Go.RowKit

/-- what stands behind the first blank -/
def afterT (s : List UInt8) : List UInt8 := (s.dropWhile fun c => c != 32).drop 1
/-- the text that stands behind the second blank, up to the line's end -/
def lineT (b : List UInt8) : List UInt8 := if b.all (fun c => c != 10) then [] else b.take (endT b)
def progT (s : List UInt8) : List UInt8 := lineT (afterT (afterT s))
/-- what Framed returns -/
def framedZ (s : List UInt8) : List UInt8 := if plainT s then frameT s else []
theorem framedZ_no {s : List UInt8} (h : plainT s = false) : framedZ s = [] := by simp [framedZ, h]
theorem framedZ_yes {s : List UInt8} (h : plainT s = true) : framedZ s = frameT s := by simp [framedZ, h]
theorem plain_len {s : List UInt8} (h : plainT s = true) : s.length ≤ 100 := by
  simp only [plainT, Bool.and_eq_true, decide_eq_true_eq] at h; exact h.2
theorem afterT_word (a more : List UInt8) (h : 32 ∉ a) : afterT (a ++ 32 :: more) = more := by
  unfold afterT
  rw [List.dropWhile_append_of_pos (fun x hx => by simp; intro e; subst e; exact h hx)]
  simp
theorem afterT_len (s : List UInt8) : (afterT s).length ≤ s.length := by
  have := (List.dropWhile_sublist (fun c : UInt8 => c != 32) (l := s)).length_le
  unfold afterT; simp; omega
theorem lineT_len (b : List UInt8) : (lineT b).length ≤ b.length := by
  unfold lineT; split <;> simp
  omega
theorem progT_len (s : List UInt8) : (progT s).length ≤ s.length := by
  have h1 := lineT_len (afterT (afterT s))
  have h2 := afterT_len (afterT s)
  have h3 := afterT_len s
  unfold progT; omega
theorem lineT_of {t more : List UInt8} (h : t.all (fun c => c != 10) = true) : lineT (t ++ 10 :: more) = t := by
  have e : endT (t ++ 10 :: more) = t.length := endT_at (by simpa using h) (by simp) (by simp)
  unfold lineT
  rw [if_neg (by simp), e]
  simp
theorem progT_frame {t : List UInt8} (more : List UInt8) (h : plainT t = true) : progT (frameT t ++ more) = t := by
  have h1 : frameT t ++ more = digT t.length ++ 32 :: (digT (markT t) ++ 32 :: (t ++ 10 :: more)) := by simp [frameT]
  unfold progT
  rw [h1, afterT_word _ _ (digT_no _ 32 (.inl (by decide))), afterT_word _ _ (digT_no _ 32 (.inl (by decide)))]
  simp only [plainT, Bool.and_eq_true] at h
  exact lineT_of h.1
theorem read_plain {t : List UInt8} (h : readPok t = true) : plainT t = true := by
  have h1 := read_text h
  have h2 : (readP t).ok = true := by simp only [readPok, Bool.and_eq_true] at h; exact h.2.2
  have := text_plain h2
  rwa [h1] at this
theorem first_frame {s : List UInt8} (h : firstOk s = true) : plainT (firstT s) = true ∧ s.take (firstN s) = frameT (firstT s) ∧ (frameT (firstT s)).length = firstN s ∧ s = frameT (firstT s) ++ s.drop (firstN s) := by
  have hn := firstN_le h
  rw [(first_yes h).1, (first_yes h).2] at *
  simp only [firstOk, Bool.and_eq_true, decide_eq_true_eq, beq_iff_eq] at h
  obtain ⟨h1, h2, h3, h4⟩ := h
  refine ⟨h3, h4.symm, by rw [h4]; simp; omega, by rw [h4, List.take_append_drop]⟩
theorem ents_step {s : List UInt8} (h1 : readPok (progT s) = true) (h2 : Lib.hasPrefix s (framedZ (progT s)) = true) :
    entsT s = readPZ (progT s) :: entsT (Lib.trimPrefix s (framedZ (progT s))) ∧ (Lib.trimPrefix s (framedZ (progT s))).length < s.length := by
  have hp := read_plain h1
  rw [framedZ_yes hp] at *
  obtain ⟨more, he⟩ := List.isPrefixOf_iff_prefix.1 h2
  obtain ⟨f1, f2, f3⟩ := frame_first more hp
  rw [he] at f1 f2 f3
  have hf : 0 < (frameT (progT s)).length := by simp [frameT]; omega
  have hl := congrArg List.length he
  rw [List.length_append] at hl
  unfold Lib.trimPrefix
  rw [if_pos h2, entsT_yes ⟨f1, by rw [f2]; exact h1⟩, f2, f3, readPZ_yes h1]
  exact ⟨rfl, by simp; omega⟩
theorem ents_stop {s : List UInt8} (h : ¬ (readPok (progT s) = true ∧ Lib.hasPrefix s (framedZ (progT s)) = true)) : entsT s = [] := by
  refine entsT_no fun ⟨h1, h2⟩ => h ?_
  obtain ⟨hp, -, -, he⟩ := first_frame h1
  have hq : progT s = firstT s := by rw [he]; conv => rhs; rw [← he]
                                     exact progT_frame _ hp
  rw [hq, framedZ_yes hp]
  exact ⟨h2, List.isPrefixOf_iff_prefix.2 ⟨_, he.symm⟩⟩
/-- Contains, at the line's end -/
theorem nolf_has (s : List UInt8) : decide (0 ≤ Lib.indexByte s 10) = !s.all (fun c => c != 10) := by
  have q : 0 ≤ Lib.indexByte s 10 ↔ s.all (fun c => c != 10) = false := by
    induction s with
    | nil => decide
    | cons a r ih =>
      have hg := Lib.indexByte_ge r 10
      have e0 : Lib.indexByte (a :: r) 10 = if a == 10 then 0 else if Lib.indexByte r 10 == -1 then -1 else Lib.indexByte r 10 + 1 := rfl
      rw [e0, List.all_cons]
      by_cases h : a = 10
      · subst h; simp
      · have h' : (a == 10) = false := by simpa using h
        have hn : (a != 10) = true := by simpa using h
        rw [hn, Bool.true_and, ← ih, h', if_neg (by simp)]
        by_cases e : Lib.indexByte r 10 = -1
        · rw [e]; decide
        · rw [if_neg (by simpa using e)]; omega
  cases hb : s.all (fun c => c != 10)
  · rw [decide_eq_true (q.2 hb)]; rfl
  · rw [decide_eq_false (fun x => by rw [q.1 x] at hb; cases hb)]; rfl
end Go.Proofs.YteialkknddpbjaaGreatDoor
namespace Go.Proofs.YteialkknddpbjaaGreatDoor
open Go.ChangeShapes Go.WideShapes Go.ChangeAt Go.RowKit

theorem ents_ok (s : List UInt8) : ∀ p ∈ entsT s, p.ok = true := by
  by_cases h : firstOk s = true ∧ readPok (firstT s) = true
  · rw [entsT_yes h]
    have q := firstN_le h.1
    have ih := ents_ok (s.drop (firstN s))
    intro p hp
    rcases List.mem_cons.1 hp with rfl | hp
    · have h2 := h.2
      simp only [readPok, Bool.and_eq_true] at h2
      exact h2.2.2
    · exact ih p hp
  · rw [entsT_no h]; intro p hp; simp at hp
termination_by s.length
decreasing_by have := firstN_le h.1; simp; omega
/-- the frames of patches, one behind another -/
def framesT (l : List PZ) : List UInt8 := l.flatMap fun p => frameT p.text
end Go.Proofs.YteialkknddpbjaaGreatDoor
namespace Go.Proofs.YteialkknddpbjaaGreatDoor
open Go.ChangeShapes Go.WideShapes Go.ChangeAt Go.RowKit
attribute [local go_sem] str_list str_size str_add lit_list0 add_lit lit_add str_cut

/-- whether a patch is noted; the log then -/
def notedOk (l : List UInt8) (p : PZ) : Bool := p.ok && decide (l.length + (frameT p.text).length ≤ 2000)
def notedZ (l : List UInt8) (p : PZ) : List UInt8 := if notedOk l p then l ++ frameT p.text else l
theorem noted_no {l : List UInt8} {p : PZ} (h : notedOk l p = false) : notedZ l p = l := by simp [notedZ, h]
theorem noted_yes {l : List UInt8} {p : PZ} (h : notedOk l p = true) : notedZ l p = l ++ frameT p.text := by simp [notedZ, h]
theorem ret_noted {a b : List UInt8} {x y : Bool} (h1 : a = b) (h2 : x = y) : Ending.returned (.tuple #[.string (str a), .bool x]) = .returned (.tuple #[.string (str b), .bool y]) := by rw [h1, h2]
set_option maxHeartbeats 1000000 in
theorem specNoted_any (l : List UInt8) (p : PZ) (dv vv : Value) (w : World) (hd : IR w dv p.ds) (hv : IR w vv p.vs) (hl : l.length ≤ 1100000) :
    Calls Tryz.prog 214 #[.string (str l), .agg #[.int .i64 p.row, dv, vv]] w (Pure (.tuple #[.string (str (notedZ l p)), .bool (notedOk l p)]) w) := by
  obtain ⟨da, dc, rfl, dm⟩ := hd.form
  obtain ⟨va, vc, rfl, vm⟩ := hv.form
  have B0 := Box3.new w (.int .i64 p.row) (.slice da p.ds.length dc) (.slice va p.vs.length vc) 97
  have G0 := galloc (grefl w) (.cells #[.int .i64 p.row, .slice da p.ds.length dc, .slice va p.vs.length vc] 97)
  go_enter Tryz.func214, Tryz.ntmps214
  go_upto_region 1 with (fail)
  generalize w.alloc (.cells #[.int .i64 p.row, .slice da p.ds.length dc, .slice va p.vs.length vc] 97) = W0 at *
  generalize w.heap.size = bb at B0 ⊢
  have HB0 := Lib.hid B0
  obtain ⟨b0, b1, b2⟩ := B0
  cases hok : p.ok
  · have HO : Hid (notedOk l p = false) := by show _ = _; simp [notedOk, hok]
    have HZ := Lib.hid (noted_no HO.out)
    go_wp2_with fail
    go_fit (specPatchOk_any p _ _ _ (hd.kept G0) (hv.kept G0))
    rintro e w1 ⟨rfl, g1⟩
    rw [hok]
    go_wp2_with fail
    go_ret2
    exact ⟨ret_noted HZ.out.symm HO.out.symm, gtrans G0 g1⟩
  have HF := Lib.hid (ok_fit hok)
  have HPl := Lib.hid (text_plain hok)
  have HO : Hid (notedOk l p = decide (l.length + (frameT p.text).length ≤ 2000)) := by show _ = _; simp [notedOk, hok]
  go_wp2_with fail
  go_fit (specPatchOk_any p _ _ _ (hd.kept G0) (hv.kept G0))
  rintro e w1 ⟨rfl, g1⟩
  rw [hok]
  clear b0 b1 b2 hok
  obtain ⟨b0, b1, b2⟩ := HB0.out.kept g1
  have G1 := gtrans G0 g1
  have htl := plain_len HPl.out
  have hfl := frameT_length p.text (by omega)
  go_wp2_with fail
  go_fit (l7Show_any p _ _ _ (hd.kept G1) (hv.kept G1) HF.out)
  rintro e w2 ⟨rfl, g2⟩
  go_wp2_with fail
  go_fit (l8Framed_any p.text _ (by omega))
  rintro e w3 ⟨rfl, g3⟩
  have G3 := gtrans G1 (gtrans g2 g3)
  clear b0 b1 b2 g2 g3 G1 g1
  have HN : Hid (notedOk l p = true → notedZ l p = l ++ frameT p.text) := fun h => noted_yes h
  generalize frameT p.text = F at *
  by_cases hb : l.length + F.length ≤ 2000
  · have HZ : Hid (notedOk l p = true) := by show _ = _; rw [HO.out]; simpa using hb
    have HY : Hid (notedZ l p = l ++ F) := HN.out HZ.out
    have hbi : ¬ (2000 : Int) < (l.length : Int) + F.length := by omega
    go_wp2_with fail
    go_ret2
    exact ⟨ret_noted HY.out.symm HZ.out.symm, G3⟩
  · have HZ : Hid (notedOk l p = false) := by show _ = _; rw [HO.out]; simpa using hb
    have HY := Lib.hid (noted_no HZ.out)
    have hbi : (2000 : Int) < (l.length : Int) + F.length := by omega
    go_wp2_with fail
    go_ret2
    exact ⟨ret_noted HY.out.symm HZ.out.symm, G3⟩
end Go.Proofs.YteialkknddpbjaaGreatDoor
