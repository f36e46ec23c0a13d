/- Patches: what is shown is read back. -/
import Derived.Test.YtfodjokcobljmaaGreatSpecL07c
namespace Go.Proofs.YtfodjokcobljmaaGreat
open Go.ChangeShapes Go.WideShapes Go.ChangeAt Go.RowKit

theorem digB_dig {d : Nat} (h : d < 10) : isDig (digB d) = true := by simp only [isDig, digB_nat h, decide_eq_true_eq]; omega
theorem digT_all (n : Nat) : (digT n).all isDig = true := by
  induction n using Nat.strongRecOn with
  | ind n ih =>
    by_cases h : n < 10
    · rw [digT_small h]; simp [digB_dig h]
    · rw [digT_big h, List.all_append, ih (n / 10) (by omega)]
      simp [digB_dig (show n % 10 < 10 by omega)]
theorem digT_val (n : Nat) : valT (digT n) = n := by
  induction n using Nat.strongRecOn with
  | ind n ih =>
    by_cases h : n < 10
    · rw [digT_small h]; simp [valT, digB_nat h]
    · rw [digT_big h, valT_snoc, ih (n / 10) (by omega), digB_nat (show n % 10 < 10 by omega)]; omega
/-- the first digit -/
theorem digT_head (n : Nat) : ∃ d r, digT n = digB d :: r ∧ d < 10 ∧ (d = 0 → n = 0 ∧ r = []) := by
  induction n using Nat.strongRecOn with
  | ind n ih =>
    by_cases h : n < 10
    · exact ⟨n, [], digT_small h, h, fun e => ⟨e, rfl⟩⟩
    · obtain ⟨d, r, h1, h2, h3⟩ := ih (n / 10) (by omega)
      exact ⟨d, r ++ [digB (n % 10)], by rw [digT_big h, h1]; rfl, h2, fun e => by have := (h3 e).1; omega⟩
theorem digB_ne {d : Nat} (h : d < 10) (c : UInt8) (hc : c.toNat < 48 ∨ 57 < c.toNat) : digB d ≠ c := by
  intro e
  have := digB_nat h
  rw [e] at this
  omega
theorem digB_48 {d : Nat} (h : d < 10) : (digB d == 48) = decide (d = 0) := by
  rw [Bool.eq_iff_iff]
  simp only [beq_iff_eq, decide_eq_true_eq]
  constructor
  · intro e
    have := digB_nat h
    rw [e] at this
    have : (48 : UInt8).toNat = 48 := rfl
    omega
  · rintro rfl; rfl
theorem digT_body (n : Nat) : negT (digT n) = false ∧ bodyT (digT n) = digT n := by
  obtain ⟨d, r, h1, h2, h3⟩ := digT_head n
  have h : negT (digT n) = false := by
    rw [negT, h1]
    simp only [List.head?_cons, Option.some_beq_some]
    simpa using digB_ne h2 45 (.inl (by decide))
  exact ⟨h, by simp [bodyT, h]⟩
theorem digT_read (n : Nat) (hn : n < 1000000000) : readOk (digT n) = true ∧ readZ (digT n) = n := by
  obtain ⟨h1, h2⟩ := digT_body n
  have h3 : readOk (digT n) = true := by
    refine read_yes (by rw [h2]; have := digT_length n 8 (by omega); have := digT_pos n; omega) (by rw [h2]; exact digT_all n) ?_
    rw [h2, h1]
    obtain ⟨d, r, e1, e2, e3⟩ := digT_head n
    rw [e1]
    simp only [List.head?_cons, Option.some_beq_some, digB_48 e2, Bool.false_or]
    by_cases hd : d = 0
    · have := (e3 hd).2
      subst this
      simp
    · simp [hd]
  exact ⟨h3, by rw [readZ, h3, h1, h2, digT_val]; rfl⟩
theorem digT_no (n : Nat) (c : UInt8) (hc : c.toNat < 48 ∨ 57 < c.toNat) : c ∉ digT n := by
  intro h
  have := List.all_eq_true.1 (digT_all n) c h
  simp only [isDig, decide_eq_true_eq] at this
  omega
theorem splitG_word (b : UInt8) (cur x r : List UInt8) (h : b ∉ x) : splitG b cur (x ++ b :: r) = (cur ++ x) :: splitG b [] r := by
  induction x generalizing cur with
  | nil => simp [splitG]
  | cons y s ih =>
    have hy : y ≠ b := fun e => h (by simp [e])
    simp only [List.cons_append, splitG]
    rw [if_neg (by simpa using hy), ih (cur ++ [y]) (fun e => h (by simp [e]))]
    simp
theorem splitG_last (b : UInt8) (cur x : List UInt8) (h : b ∉ x) : splitG b cur x = [cur ++ x] := by
  induction x generalizing cur with
  | nil => simp [splitG]
  | cons y s ih =>
    have hy : y ≠ b := fun e => h (by simp [e])
    simp only [splitG]
    rw [if_neg (by simpa using hy), ih (cur ++ [y]) (fun e => h (by simp [e]))]
    simp
theorem split_words (l : List (List UInt8)) (hl : l ≠ []) (h : ∀ x ∈ l, (32 : UInt8) ∉ x) : splitT 32 (wordsT l) = l := by
  induction l with
  | nil => exact absurd rfl hl
  | cons a r ih =>
    have ha := h a (by simp)
    cases r with
    | nil => simp only [wordsT, splitT]; rw [splitG_last _ _ _ ha]; rfl
    | cons c r =>
      have ih := ih (by simp) (fun x hx => h x (by simp [hx]))
      simp only [wordsT, splitT] at ih ⊢
      rw [splitG_word _ _ _ _ ha, ih]; rfl
theorem pairsW_mem (ds vs : List Int) : ∀ t ∈ pairsW ds vs, ∃ n : Nat, t = digT n := by
  induction ds generalizing vs with
  | nil => simp [pairsW]
  | cons d r ih =>
    cases vs with
    | nil => simp [pairsW]
    | cons v s =>
      intro t ht
      simp only [pairsW, List.mem_cons] at ht
      rcases ht with rfl | rfl | ht
      · exact ⟨_, rfl⟩
      · exact ⟨_, rfl⟩
      · exact ih s t ht
theorem words_split (p : PZ) : splitT 32 p.text = p.words := by
  refine split_words _ (by simp [PZ.words]) fun x hx => ?_
  rcases List.mem_cons.1 hx with rfl | hx
  · exact digT_no _ 32 (.inl (by decide))
  · obtain ⟨n, rfl⟩ := pairsW_mem _ _ x hx
    exact digT_no _ 32 (.inl (by decide))
theorem ok_cases {p : PZ} (h : p.ok = true) : (0 ≤ p.row ∧ p.row ≤ 15) ∧ ((∃ d v, p.ds = [d] ∧ p.vs = [v] ∧ (0 ≤ d ∧ d ≤ 4) ∧ (0 ≤ v ∧ v ≤ 32767)) ∨ (∃ d v e u, p.ds = [d, e] ∧ p.vs = [v, u] ∧ (0 ≤ d ∧ d ≤ 4) ∧ (0 ≤ v ∧ v ≤ 32767) ∧ (0 ≤ e ∧ e ≤ 4) ∧ (0 ≤ u ∧ u ≤ 32767) ∧ d < e)) := by
  obtain ⟨row, ds, vs⟩ := p
  simp only [PZ.ok, Bool.and_eq_true] at h
  obtain ⟨h1, h2⟩ := h
  refine ⟨inB_iff.1 h1, ?_⟩
  dsimp only
  unfold plists at h2
  split at h2
  · simp only [pcell, Bool.and_eq_true] at h2
    exact .inl ⟨_, _, rfl, rfl, inB_iff.1 h2.1, okv_iff.1 h2.2⟩
  · simp only [pcell, Bool.and_eq_true, decide_eq_true_eq] at h2
    exact .inr ⟨_, _, _, _, rfl, rfl, inB_iff.1 h2.1.1, okv_iff.1 h2.1.2, inB_iff.1 h2.2.1.1, okv_iff.1 h2.2.1.2, h2.2.2⟩
  · cases h2
theorem toNat_read {x : Int} (h0 : 0 ≤ x) (h1 : x ≤ 32767) : readOk (digT x.toNat) = true ∧ readZ (digT x.toNat) = x := by
  obtain ⟨a, b⟩ := digT_read x.toNat (by omega)
  exact ⟨a, by rw [b]; omega⟩
theorem text_read {p : PZ} (h : p.ok = true) : readPok p.text = true ∧ readP p.text = p := by
  have hs := words_split p
  obtain ⟨⟨r0, r1⟩, hc⟩ := ok_cases h
  obtain ⟨ro, rz⟩ := toNat_read r0 (by omega)
  have key : (splitT 32 p.text).all readOk = true ∧ (numsT p.text).length % 2 = 1 ∧ readP p.text = p := by
    obtain ⟨row, ds, vs⟩ := p
    dsimp only at *
    rw [numsT, readP, numsT, hs]
    rcases hc with ⟨d, v, rfl, rfl, ⟨d0, d1⟩, ⟨v0, v1⟩⟩ | ⟨d, v, e, u, rfl, rfl, ⟨d0, d1⟩, ⟨v0, v1⟩, ⟨e0, e1⟩, ⟨u0, u1⟩, hlt⟩
    · obtain ⟨do', dz⟩ := toNat_read d0 (by omega)
      obtain ⟨vo, vz⟩ := toNat_read v0 v1
      refine ⟨by simp [PZ.words, pairsW, ro, do', vo], by simp [PZ.words, pairsW], ?_⟩
      simp [PZ.ofN, PZ.words, pairsW, rz, dz, vz, dsN, vsN, List.range_succ]
    · obtain ⟨do', dz⟩ := toNat_read d0 (by omega)
      obtain ⟨vo, vz⟩ := toNat_read v0 v1
      obtain ⟨eo, ez⟩ := toNat_read e0 (by omega)
      obtain ⟨uo, uz⟩ := toNat_read u0 u1
      refine ⟨by simp [PZ.words, pairsW, ro, do', vo, eo, uo], by simp [PZ.words, pairsW], ?_⟩
      simp [PZ.ofN, PZ.words, pairsW, rz, dz, vz, ez, uz, dsN, vsN, List.range_succ]
  obtain ⟨k1, k2, k3⟩ := key
  exact ⟨by rw [readPok, k1, k2, k3, h]; rfl, k3⟩
theorem ok_fit {p : PZ} (h : p.ok = true) : p.fit := by
  obtain ⟨⟨r0, r1⟩, hc⟩ := ok_cases h
  obtain ⟨row, ds, vs⟩ := p
  dsimp only at *
  rcases hc with ⟨d, v, rfl, rfl, ⟨d0, d1⟩, ⟨v0, v1⟩⟩ | ⟨d, v, e, u, rfl, rfl, ⟨d0, d1⟩, ⟨v0, v1⟩, ⟨e0, e1⟩, ⟨u0, u1⟩, hlt⟩
  · refine ⟨⟨r0, by dsimp only; omega⟩, rfl, by simp, fun i hi => ?_, fun i hi => ?_⟩
    · have : i = 0 := by simpa using hi
      subst this; simp; omega
    · have : i = 0 := by simpa using hi
      subst this; simp; omega
  · refine ⟨⟨r0, by dsimp only; omega⟩, rfl, by simp, fun i hi => ?_, fun i hi => ?_⟩
    · rcases (show i = 0 ∨ i = 1 by simp at hi; omega) with rfl | rfl <;> simp <;> omega
    · rcases (show i = 0 ∨ i = 1 by simp at hi; omega) with rfl | rfl <;> simp <;> omega
end Go.Proofs.YtfodjokcobljmaaGreat
