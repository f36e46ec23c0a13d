/- What the specification's l1Read returns: a number that is read. -/
import Derived.Test.YtfodjokcobljmaaGreatSpecT
namespace Go.Proofs.YtfodjokcobljmaaGreat
open Go.ChangeShapes Go.WideShapes Go.ChangeAt Go.RowKit
attribute [local go_sem] str_list str_size str_add lit_list0 add_lit lit_add str_cut

theorem read_short {s : List UInt8} (h : ¬ (1 ≤ (bodyT s).length ∧ (bodyT s).length ≤ 9)) : readOk s = false := by simp only [readOk, decide_eq_false h, Bool.false_and]
theorem read_bad {s : List UInt8} {j : Nat} (hj : j < (bodyT s).length) (h : isDig (bodyT s)[j] = false) : readOk s = false := by
  have : (bodyT s).all isDig = false := by rw [List.all_eq_false]; exact ⟨_, List.getElem_mem hj, by simp [h]⟩
  simp only [readOk, this, Bool.false_and, Bool.and_false]
theorem read_zero {s : List UInt8} (h : ((bodyT s).head? == some 48 && (negT s || decide (1 < s.length))) = true) : readOk s = false := by
  simp only [readOk, h, Bool.not_true, Bool.and_false]
theorem read_yes {s : List UInt8} (h1 : 1 ≤ (bodyT s).length ∧ (bodyT s).length ≤ 9) (h2 : (bodyT s).all isDig = true) (h3 : ((bodyT s).head? == some 48 && (negT s || decide (1 < s.length))) = false) : readOk s = true := by
  simp only [readOk, decide_eq_true h1, h2, h3, Bool.not_false, Bool.and_self]
theorem dig_next {b : List UInt8} {j : Nat} (hj : j < b.length) (ha : (b.take j).all isDig = true) (h : isDig b[j] = true) : (b.take (j + 1)).all isDig = true ∧ valT (b.take (j + 1)) = valT (b.take j) * 10 + (b[j].toNat - 48) := by
  rw [List.take_succ_eq_append_getElem hj, List.all_append, ha, valT_snoc]
  exact ⟨by simpa using h, rfl⟩
theorem val_small {b : List UInt8} (j : Nat) (ha : (b.take j).all isDig = true) (hb : b.length ≤ 9) : valT (b.take j) < 1000000000 := by
  have h1 := valT_lt _ ha
  have h2 : (b.take j).length ≤ 9 := by simp; omega
  exact Nat.lt_of_lt_of_le h1 (Nat.pow_le_pow_right (by omega) h2)
theorem head_at {b : List UInt8} (h : 0 < b.length) : (b.head? == some 48) = (b[0] == 48) := by
  cases b with
  | nil => simp at h
  | cons x r => simp
theorem int_eq {a b : Int} (h : a = b) : Value.int .i64 a = Value.int .i64 b := by rw [h]
theorem ret_pair {a c : Int} {b d : Bool} (h1 : a = c) (h2 : b = d) : Ending.returned (.tuple #[.int .i64 a, .bool b]) = .returned (.tuple #[.int .i64 c, .bool d]) := by rw [h1, h2]
set_option maxRecDepth 8000 in
set_option maxHeartbeats 2000000 in
theorem l1Read_any (s : List UInt8) (w : World) (hs : s.length ≤ 1099511627776) :
    Calls Tryz.prog 110 #[.string (str s)] w fun e w' => e = .returned (.tuple #[.int .i64 (readZ s), .bool (readOk s)]) ∧ w = w' := by
  by_cases he : s = []
  · subst he
    rw [show readZ [] = 0 from rfl, show readOk [] = false from rfl]
    have hn : (([] : List UInt8) == []) = true := rfl
    go_enter Tryz.func110, Tryz.ntmps110
    go_wp2_with fail
    go_ret2
    exact ⟨rfl, rfl⟩
  have hpos : 0 < s.length := List.length_pos_iff.2 he
  have hposi : (0 : Int) < s.length := by omega
  have hn : (s == []) = false := by simpa using he
  have hg0 := str_get s 0 (by rw [str_size]; exact hpos)
  have hhead : s.head? = some s[0] := by cases s; exact absurd rfl he; rfl
  clear he
  by_cases h45 : s[0] = 45
  · have hneg : negT s = true := by simp [negT, hhead, h45]
    have h45' : ((s[0].toNat : Int) == 45) = true := by rw [show (45 : Int) = ((45 : Nat) : Int) from rfl, u8_eq 45 (by omega)]; simpa using h45
    have HBd : Hid (bodyT s = s.drop 1) := by show _ = _; simp [bodyT, hneg]
    have HBl : Hid ((bodyT s).length = s.length - 1) := by show _ = _; rw [HBd.out]; simp
    have HBg : Hid (∀ k (hk : k < s.length) (_ : 1 ≤ k) (hj : k - 1 < (bodyT s).length), (bodyT s)[k - 1] = s[k]) := fun k hk hi hj => by
      simp only [HBd.out, List.getElem_drop]
      congr 1; omega
    have HNg := Lib.hid hneg
    clear h45 hhead hneg
    by_cases hlen : 1 ≤ s.length - 1 ∧ s.length - 1 ≤ 9
    rotate_left
    · have HF := Lib.hid (read_short (s := s) (by rw [HBl.out]; exact hlen))
      have HZ : Hid (readZ s = 0) := by show _ = _; simp [readZ, HF.out]
      by_cases h1 : (s.length : Int) - 1 < 1
      · clear hlen
        go_enter Tryz.func110, Tryz.ntmps110
        go_wp2_with fail
        go_ret2
        exact ⟨ret_pair HZ.out.symm HF.out.symm, rfl⟩
      · have h2 : 9 < (s.length : Int) - 1 := by omega
        clear hlen
        go_enter Tryz.func110, Tryz.ntmps110
        go_wp2_with fail
        go_ret2
        exact ⟨ret_pair HZ.out.symm HF.out.symm, rfl⟩
    have HL := Lib.hid hlen
    have h1 : ¬ (s.length : Int) - 1 < 1 := by omega
    have h2 : ¬ 9 < (s.length : Int) - 1 := by omega
    have hI : 1 < s.length := by omega
    have hIi : (1 : Int) < s.length := by omega
    clear hlen
    go_enter Tryz.func110, Tryz.ntmps110
    go_wp2_with fail
    go_loop [6, 7] (fun n i => ∃ k : Nat, 1 ≤ k ∧ k ≤ s.length ∧ i = .int .i64 k ∧ n = .int .i64 (valT ((bodyT s).take (k - 1))) ∧ Hid (((bodyT s).take (k - 1)).all isDig = true)) (fun _ i => s.length - (intOf i).toNat)
    case atStart => exact ⟨1, Nat.le_refl _, by omega, rfl, rfl, rfl⟩
    case round =>
      obtain ⟨k, hI0, hk, rfl, rfl, HA⟩ := hrel
      have hl9 := HL.out
      have hbl := HBl.out
      by_cases hlt : k < s.length
      · have hki : (k : Int) < s.length := by omega
        have hjb : k - 1 < (bodyT s).length := by omega
        have hgj := str_get s k (by rw [str_size]; exact hlt)
        have hc : s[k].toNat < 256 := s[k].toNat_lt
        have hvs := val_small (k - 1) HA.out (by omega)
        (try simp only [Nat.sub_zero] at hvs)
        cases hd : isDig s[k]
        · have HF := Lib.hid (read_bad hjb (by rw [HBg.out k hlt hI0 hjb]; exact hd))
          have HZ : Hid (readZ s = 0) := by show _ = _; simp [readZ, HF.out]
          simp only [isDig, decide_eq_false_iff_not] at hd
          clear HA hbl hl9
          by_cases h48 : (s[k].toNat : Int) < 48
          · clear hd
            go_wp2_with fail
            go_ret2
            exact ⟨ret_pair HZ.out.symm HF.out.symm, rfl⟩
          · have h57 : (57 : Int) < s[k].toNat := by omega
            clear hd
            go_wp2_with fail
            go_ret2
            exact ⟨ret_pair HZ.out.symm HF.out.symm, rfl⟩
        · have HN := Lib.hid (dig_next hjb HA.out (by rw [HBg.out k hlt hI0 hjb]; exact hd))
          rw [HBg.out k hlt hI0 hjb, show k - 1 + 1 = k + 1 - 1 by omega] at HN
          simp only [isDig, decide_eq_true_eq] at hd
          have h48 : ¬ (s[k].toNat : Int) < 48 := by omega
          have h57 : ¬ (57 : Int) < s[k].toNat := by omega
          have h48n : 48 ≤ s[k].toNat := hd.1
          clear HA hbl hl9 hd
          go_wp2_with fail
          go_round
          case rel => exact ⟨k + 1, by omega, by omega, by go_num, int_eq (by have e := HN.out.2; (try simp only [Nat.sub_zero] at e ⊢); omega), HN.out.1⟩
          case measure => simp [intOf]; omega
      · obtain rfl : k = s.length := by omega
        have HA2 : Hid ((bodyT s).all isDig = true ∧ (bodyT s).take (s.length - 1) = bodyT s) := by
          have e : (bodyT s).take (s.length - 1) = bodyT s := List.take_of_length_le (by omega)
          have := HA.out
          rw [e] at this
          exact ⟨this, e⟩
        have hvs := val_small (s.length - 1) HA.out (by omega)
        (try simp only [Nat.sub_zero] at hvs)
        have hgI := str_get s 1 (by rw [str_size]; exact hI)
        have HH : Hid (((bodyT s).head? == some 48) = ((s[1].toNat : Int) == 48)) := by
          show _ = _
          have hb0 : 0 < (bodyT s).length := by omega
          rw [head_at hb0, show (48 : Int) = ((48 : Nat) : Int) from rfl, u8_eq 48 (by omega)]
          have := HBg.out 1 hI (Nat.le_refl _) (by omega)
          simp only [Nat.sub_self] at this
          rw [this]; rfl
        clear HA
        by_cases hz : ((s[1].toNat : Int) == 48) = true
        · have HF := Lib.hid (read_zero (s := s) (by rw [HH.out, hz, HNg.out]; rfl))
          have HZ : Hid (readZ s = 0) := by show _ = _; simp [readZ, HF.out]
          clear hl9 hbl
          go_wp2_with fail
          go_ret2
          exact ⟨ret_pair HZ.out.symm HF.out.symm, rfl⟩
        · have hz' : ((s[1].toNat : Int) == 48) = false := by simpa using hz
          have HF := Lib.hid (read_yes (s := s) (by rw [HBl.out]; exact HL.out) HA2.out.1 (by rw [HH.out, hz']; rfl))
          have HZ : Hid (readZ s = -(valT (bodyT s) : Int)) := by show _ = _; simp [readZ, HF.out, HNg.out]
          clear hl9 hbl hz
          go_wp2_with fail
          go_ret2
          exact ⟨ret_pair (by have e := HA2.out.2; (try simp only [Nat.sub_zero] at e); rw [HZ.out, e]) HF.out.symm, rfl⟩
  · have hneg : negT s = false := by simp [negT, hhead, h45]
    have h45' : ((s[0].toNat : Int) == 45) = false := by rw [show (45 : Int) = ((45 : Nat) : Int) from rfl, u8_eq 45 (by omega)]; simpa using h45
    have HBd : Hid (bodyT s = s.drop 0) := by show _ = _; simp [bodyT, hneg]
    have HBl : Hid ((bodyT s).length = s.length) := by show _ = _; rw [HBd.out]; simp
    have HBg : Hid (∀ k (hk : k < s.length) (_ : 0 ≤ k) (hj : k - 0 < (bodyT s).length), (bodyT s)[k - 0] = s[k]) := fun k hk hi hj => by
      simp only [HBd.out, List.getElem_drop]
      congr 1; omega
    have HNg := Lib.hid hneg
    clear h45 hhead hneg
    by_cases hlen : 1 ≤ s.length ∧ s.length ≤ 9
    rotate_left
    · have HF := Lib.hid (read_short (s := s) (by rw [HBl.out]; exact hlen))
      have HZ : Hid (readZ s = 0) := by show _ = _; simp [readZ, HF.out]
      by_cases h1 : (s.length : Int) < 1
      · clear hlen
        go_enter Tryz.func110, Tryz.ntmps110
        go_wp2_with fail
        go_ret2
        exact ⟨ret_pair HZ.out.symm HF.out.symm, rfl⟩
      · have h2 : 9 < (s.length : Int) := by omega
        clear hlen
        go_enter Tryz.func110, Tryz.ntmps110
        go_wp2_with fail
        go_ret2
        exact ⟨ret_pair HZ.out.symm HF.out.symm, rfl⟩
    have HL := Lib.hid hlen
    have h1 : ¬ (s.length : Int) < 1 := by omega
    have h2 : ¬ 9 < (s.length : Int) := by omega
    have hI : 0 < s.length := by omega
    have hIi : (0 : Int) < s.length := by omega
    clear hlen
    go_enter Tryz.func110, Tryz.ntmps110
    go_wp2_with fail
    go_loop [6, 7] (fun n i => ∃ k : Nat, 0 ≤ k ∧ k ≤ s.length ∧ i = .int .i64 k ∧ n = .int .i64 (valT ((bodyT s).take (k - 0))) ∧ Hid (((bodyT s).take (k - 0)).all isDig = true)) (fun _ i => s.length - (intOf i).toNat)
    case atStart => exact ⟨0, Nat.le_refl _, by omega, rfl, rfl, rfl⟩
    case round =>
      obtain ⟨k, hI0, hk, rfl, rfl, HA⟩ := hrel
      have hl9 := HL.out
      have hbl := HBl.out
      by_cases hlt : k < s.length
      · have hki : (k : Int) < s.length := by omega
        have hjb : k - 0 < (bodyT s).length := by omega
        have hgj := str_get s k (by rw [str_size]; exact hlt)
        have hc : s[k].toNat < 256 := s[k].toNat_lt
        have hvs := val_small (k - 0) HA.out (by omega)
        (try simp only [Nat.sub_zero] at hvs)
        cases hd : isDig s[k]
        · have HF := Lib.hid (read_bad hjb (by rw [HBg.out k hlt hI0 hjb]; exact hd))
          have HZ : Hid (readZ s = 0) := by show _ = _; simp [readZ, HF.out]
          simp only [isDig, decide_eq_false_iff_not] at hd
          clear HA hbl hl9
          by_cases h48 : (s[k].toNat : Int) < 48
          · clear hd
            go_wp2_with fail
            go_ret2
            exact ⟨ret_pair HZ.out.symm HF.out.symm, rfl⟩
          · have h57 : (57 : Int) < s[k].toNat := by omega
            clear hd
            go_wp2_with fail
            go_ret2
            exact ⟨ret_pair HZ.out.symm HF.out.symm, rfl⟩
        · have HN := Lib.hid (dig_next hjb HA.out (by rw [HBg.out k hlt hI0 hjb]; exact hd))
          rw [HBg.out k hlt hI0 hjb, show k - 0 + 1 = k + 1 - 0 by omega] at HN
          simp only [isDig, decide_eq_true_eq] at hd
          have h48 : ¬ (s[k].toNat : Int) < 48 := by omega
          have h57 : ¬ (57 : Int) < s[k].toNat := by omega
          have h48n : 48 ≤ s[k].toNat := hd.1
          clear HA hbl hl9 hd
          go_wp2_with fail
          go_round
          case rel => exact ⟨k + 1, by omega, by omega, by go_num, int_eq (by have e := HN.out.2; (try simp only [Nat.sub_zero] at e ⊢); omega), HN.out.1⟩
          case measure => simp [intOf]; omega
      · obtain rfl : k = s.length := by omega
        have HA2 : Hid ((bodyT s).all isDig = true ∧ (bodyT s).take (s.length - 0) = bodyT s) := by
          have e : (bodyT s).take (s.length - 0) = bodyT s := List.take_of_length_le (by omega)
          have := HA.out
          rw [e] at this
          exact ⟨this, e⟩
        have hvs := val_small (s.length - 0) HA.out (by omega)
        (try simp only [Nat.sub_zero] at hvs)
        have hgI := str_get s 0 (by rw [str_size]; exact hI)
        have HH : Hid (((bodyT s).head? == some 48) = ((s[0].toNat : Int) == 48)) := by
          show _ = _
          have hb0 : 0 < (bodyT s).length := by omega
          rw [head_at hb0, show (48 : Int) = ((48 : Nat) : Int) from rfl, u8_eq 48 (by omega)]
          have := HBg.out 0 hI (Nat.le_refl _) (by omega)
          simp only [Nat.sub_self] at this
          rw [this]; rfl
        clear HA
        by_cases hz : ((s[0].toNat : Int) == 48) = true
        · by_cases hm : (1 : Int) < s.length
          · have HF := Lib.hid (read_zero (s := s) (by rw [HH.out, hz, HNg.out, decide_eq_true (show 1 < s.length by omega)]; rfl))
            have HZ : Hid (readZ s = 0) := by show _ = _; simp [readZ, HF.out]
            clear hl9 hbl
            go_wp2_with fail
            go_ret2
            exact ⟨ret_pair HZ.out.symm HF.out.symm, rfl⟩
          · have HF := Lib.hid (read_yes (s := s) (by rw [HBl.out]; exact HL.out) HA2.out.1 (by rw [HH.out, hz, HNg.out, decide_eq_false (show ¬ 1 < s.length by omega)]; rfl))
            have HZ : Hid (readZ s = (valT (bodyT s) : Int)) := by show _ = _; simp [readZ, HF.out, HNg.out]
            clear hl9 hbl
            go_wp2_with fail
            go_ret2
            exact ⟨ret_pair (by have e := HA2.out.2; (try simp only [Nat.sub_zero] at e); rw [HZ.out, e]) HF.out.symm, rfl⟩
        · have hz' : ((s[0].toNat : Int) == 48) = false := by simpa using hz
          have HF := Lib.hid (read_yes (s := s) (by rw [HBl.out]; exact HL.out) HA2.out.1 (by rw [HH.out, hz']; rfl))
          have HZ : Hid (readZ s = (valT (bodyT s) : Int)) := by show _ = _; simp [readZ, HF.out, HNg.out]
          clear hl9 hbl hz
          go_wp2_with fail
          go_ret2
          exact ⟨ret_pair (by have e := HA2.out.2; (try simp only [Nat.sub_zero] at e); rw [HZ.out, e]) HF.out.symm, rfl⟩
end Go.Proofs.YtfodjokcobljmaaGreat
