/- What the specification's functions over texts return: numbers, words. -/
import Derived.Test.YtfodjokcobljmaaGreatBaseT
import Derived.Test.YtfodjokcobljmaaGreatMemB
import Derived.Deep.DeepFit
import Derived.Deep.DeepCutAuto
namespace Go.Proofs.YtfodjokcobljmaaGreat
open Go.ChangeShapes Go.WideShapes Go.ChangeAt Go.RowKit

attribute [local go_sem] str_list str_size str_add lit_list0 add_lit lit_add str_cut
set_option maxRecDepth 8000 in
set_option maxHeartbeats 1000000 in
theorem l1Int_any (n : Nat) (w : World) (hn : n ≤ 1099511627776) :
    Calls Tryz.prog 99 #[.int .i64 n] w (Pure (.string (str (digT n))) w) := by
  have hb : (digT n).length ≤ 13 := digT_length n 12 (by simp; omega)
  have hneg : ¬ (n : Int) < 0 := by omega
  go_enter Tryz.func99, Tryz.ntmps99
  go_wp2_with fail
  go_loopw [0, 3] (fun x s wr => ∃ (m : Nat) (t : List UInt8), x = .int .i64 m ∧ s = .string (str t) ∧ m ≤ 1099511627776 ∧ Hid (IntS n m t) ∧ t.length ≤ 13 ∧ w.grownBy wr none) (fun x s _ => (intOf x).toNat + (1 - szOf s))
  case atStart => exact ⟨n, [], rfl, rfl, hn, .inl ⟨rfl, rfl⟩, by simp, grefl _⟩
  case round =>
    obtain ⟨m, t, rfl, rfl, hm, HS, hl, G⟩ := hrel
    by_cases hc : t ≠ [] ∧ m = 0
    · obtain ⟨ht, rfl⟩ := hc
      have HD := Lib.hid (HS.out.done ht)
      have he : (t == []) = false := by simpa using ht
      clear ht HS
      go_wp2_with fail
      go_ret
      exact ⟨ret_str HD.out, G⟩
    · have hc' : t = [] ∨ 0 < m := by
        by_cases h : t = []
        · exact .inl h
        · exact .inr (Nat.pos_of_ne_zero fun e => hc ⟨h, e⟩)
      have HN := Lib.hid (HS.out.next hc')
      have HLn : Hid ((digB (m % 10) :: t).length ≤ 13) := Nat.le_trans HN.out.length hb
      have hge : 0 ≤ (m : Int) % 10 := by omega
      have hlt10 : (m : Int) % 10 < 10 := by omega
      have hconv : ∀ wx : World, (convert 22 9 (.slice (some ⟨wx.heap.size, 0, none⟩) 1 1)).run Tryz.prog (wx.alloc (.cells #[.int .u8 (48 + (m : Int) % 10)] 5)) = .ok (.string (str [digB (m % 10)])) (wx.alloc (.cells #[.int .u8 (48 + (m : Int) % 10)] 5)) := fun wx =>
        run_convert_bytes_back (P := Tryz.prog) (wx.alloc (.cells #[.int .u8 (48 + (m : Int) % 10)] 5)) 22 9 5 ⟨wx.heap.size, 0, none⟩ 1 [digB (m % 10)] Tryz.underlying22 Tryz.underlying5 Tryz.underlying9 (fun j hj => by
          have : j = 0 := by simpa using hj
          subst this
          simp [go_sem, digB_nat (show m % 10 < 10 by omega)])
      have hor : (t == []) = false → ((m : Int) != 0) = true := fun he => by
        rcases hc' with rfl | h
        · cases he
        · exact bne_iff_ne.2 (by omega)
      clear hc HS
      cases he : (t == [])
      · have hor' := hor he
        clear hor
        go_wp2_with fail
        go_roundw
        case rel => exact ⟨m / 10, _, by simp, rfl, by omega, HN.out, HLn.out, galloc G _⟩
        case measure =>
          have : 0 < t.length := by cases t; cases he; simp
          have : m ≠ 0 := by simpa using hor'
          simp [intOf, szOf, str_size]; omega
      · clear hor
        go_wp2_with fail
        go_roundw
        case rel => exact ⟨m / 10, _, by simp, rfl, by omega, HN.out, HLn.out, galloc G _⟩
        case measure =>
          have : t = [] := by simpa using he
          subst this
          simp [intOf, szOf, str_size]; omega
set_option maxRecDepth 8000 in
set_option maxHeartbeats 1000000 in
theorem l1Words_any (v : Value) (l : List (List UInt8)) (w : World) (h : TR w v l) (h1 : l.length ≤ 1000) (h2 : ∀ x ∈ l, x.length ≤ 1000) :
    Calls Tryz.prog 101 #[v] w fun e w' => e = .returned (.string (str (wordsT l))) ∧ w = w' := by
  obtain ⟨a, cap, rfl, hm⟩ := h.form
  have HB : Hid (∀ k, (wordsT (l.take k)).length ≤ 1001000) := fun k => by
    have q := wordsT_length (l.take k) 1000 (fun x hx => h2 x (List.mem_of_mem_take hx))
    have : (l.take k).length ≤ 1000 := by simp; omega
    omega
  have HW : Hid (∀ x ∈ l, x.length ≤ 1000) := h2
  clear h2
  go_enter Tryz.func101, Tryz.ntmps101
  go_wp2_with fail
  go_loop [3, 4] (fun s i => ∃ k : Nat, k ≤ l.length ∧ i = .int .i64 k ∧ s = .string (str (wordsT (l.take k)))) (fun _ i => l.length - (intOf i).toNat)
  case atStart => exact ⟨0, Nat.zero_le _, rfl, rfl⟩
  case round =>
    obtain ⟨k, hk, rfl, rfl⟩ := hrel
    by_cases hlt : k < l.length
    · have hki : (k : Int) < l.length := by omega
      obtain ⟨g, o, rfl, x0⟩ := h.at k hlt
      have hb0 := HB.out k
      have hb1 := HW.out l[k] (List.getElem_mem hlt)
      by_cases h0 : k = 0
      · have HN := Lib.hid (wordsT_take0 hlt h0)
        have h0' : ¬ (0 : Int) < k := by omega
        clear h0
        go_wp2_with fail
        go_round
        case rel => exact ⟨k + 1, by omega, by go_num, by rw [HN.out]⟩
        case measure => simp [intOf]; omega
      · have HN := Lib.hid (wordsT_takeS hlt h0)
        have h0' : (0 : Int) < k := by omega
        clear h0
        go_wp2_with fail
        go_round
        case rel => exact ⟨k + 1, by omega, by go_num, by rw [HN.out]⟩
        case measure => simp [intOf]; omega
    · obtain rfl : k = l.length := by omega
      go_wp2_with fail
      go_ret
      exact ⟨rfl, rfl⟩
set_option maxRecDepth 8000 in
set_option maxHeartbeats 1000000 in
theorem l8Mark_any (s : List UInt8) (w : World) (hs : s.length ≤ 1099511627776) :
    Calls Tryz.prog 100 #[.string (str s)] w fun e w' => e = .returned (.int .i64 (markT s)) ∧ w = w' := by
  go_enter Tryz.func100, Tryz.ntmps100
  go_wp2_with fail
  go_loop [3, 4] (fun h i => ∃ k : Nat, k ≤ s.length ∧ i = .int .i64 k ∧ h = .int .i64 (markT (s.take k))) (fun _ i => s.length - (intOf i).toNat)
  case atStart => exact ⟨0, Nat.zero_le _, rfl, rfl⟩
  case round =>
    obtain ⟨k, hk, rfl, rfl⟩ := hrel
    by_cases hlt : k < s.length
    · have hki : (k : Int) < s.length := by omega
      have HN := Lib.hid (markT_next hlt)
      have hml := markT_lt (s.take k)
      have hc : s[k].toNat < 256 := s[k].toNat_lt
      have hg := str_get s k (by rw [str_size]; exact hlt)
      go_wp2_with fail
      go_round
      case rel => exact ⟨k + 1, by omega, by go_num, by rw [HN.out]; simp⟩
      case measure => simp [intOf]; omega
    · obtain rfl : k = s.length := by omega
      go_wp2_with fail
      go_ret
      exact ⟨rfl, rfl⟩
set_option maxRecDepth 8000 in
set_option maxHeartbeats 1000000 in
theorem l8Plain_any (s : List UInt8) (w : World) (hs : s.length ≤ 1099511627776) :
    Calls Tryz.prog 109 #[.string (str s)] w fun e w' => e = .returned (.bool (plainT s)) ∧ w = w' := by
  go_enter Tryz.func109, Tryz.ntmps109
  go_wp2_with fail
  go_loop [3] (fun i => ∃ k : Nat, k ≤ s.length ∧ i = .int .i64 k ∧ Hid ((s.take k).all (fun c => c != 10) = true)) (fun i => s.length - (intOf i).toNat)
  case atStart => exact ⟨0, Nat.zero_le _, rfl, rfl⟩
  case round =>
    obtain ⟨k, hk, rfl, HA⟩ := hrel
    by_cases hlt : k < s.length
    · have hki : (k : Int) < s.length := by omega
      have hg := str_get s k (by rw [str_size]; exact hlt)
      by_cases hx : s[k] = 10
      · have HN := Lib.hid (plain_no hlt hx)
        have hx' : ((s[k].toNat : Int) == 10) = true := by rw [hx]; rfl
        clear hx HA
        go_wp2_with fail
        go_ret
        exact ⟨ret_bool HN.out.symm, rfl⟩
      · have HN := Lib.hid (nolf_next HA.out hlt hx)
        have hx' : ((s[k].toNat : Int) == 10) = false := by rw [show (10 : Int) = ((10 : Nat) : Int) from rfl, u8_eq 10 (by omega)]; simpa using hx
        clear hx HA
        go_wp2_with fail
        go_round
        case rel => exact ⟨k + 1, by omega, by go_num, HN.out⟩
        case measure => simp [intOf]; omega
    · have HN := Lib.hid (plain_all HA.out (by omega))
      clear HA
      obtain rfl : k = s.length := by omega
      go_wp2_with fail
      go_ret
      exact ⟨ret_bool (by rw [HN.out, decide_eq_decide]; omega), rfl⟩
set_option maxRecDepth 8000 in
set_option maxHeartbeats 1000000 in
theorem l8Framed_any (s : List UInt8) (w : World) (hs : s.length ≤ 1100000) :
    Calls Tryz.prog 83 #[.string (str s)] w (Pure (.string (str (frameT s))) w) := by
  have hm := markT_lt s
  have h1 := digT_length s.length 6 (by omega)
  have h2 := digT_length (markT s) 3 (by omega)
  go_enter Tryz.func83, Tryz.ntmps83
  go_wp2_with fail
  go_fit (l1Int_any s.length _ (by omega))
  rintro e w1 ⟨rfl, g1⟩
  go_wp2_with fail
  go_fit (l8Mark_any s _ (by omega))
  rintro e w' ⟨rfl, rfl⟩
  go_wp2_with fail
  go_fit (l1Int_any (markT s) _ (by omega))
  rintro e w2 ⟨rfl, g2⟩
  go_wp2_with fail
  go_ret
  exact ⟨ret_str (by simp [frameT]), gtrans g1 g2⟩
set_option maxRecDepth 8000 in
set_option maxHeartbeats 1000000 in
theorem l1Split_any (s : List UInt8) (b : UInt8) (w : World) (hs : s.length ≤ 1100000) :
    Calls Tryz.prog 108 #[.string (str s), .int .u8 b.toNat] w (GotT (splitT b s) w) := by
  have C0 := TS.empty w (Nat.le_refl w.heap.size)
  have g0 := galloc (grefl w) (.cells #[] 9)
  go_enter Tryz.func108, Tryz.ntmps108
  go_wp2
  go_loopw [5, 6, 7] (fun out fr i wr => ∃ (k f : Nat) (done : List (List UInt8)), i = .int .i64 k ∧ fr = .int .i64 f ∧ TS wr w.heap.size out done ∧ w.grownBy wr none ∧ ((k ≤ s.length ∧ f ≤ k ∧ Hid (SplS b s k done f)) ∨ (k = s.length + 1 ∧ Hid (splitT b s = done)))) (fun _ _ i _ => s.length + 1 - (intOf i).toNat)
  case atStart => exact ⟨0, 0, [], rfl, rfl, C0, g0, .inl ⟨Nat.zero_le _, Nat.le_refl _, SplS.start b s⟩⟩
  case round =>
    clear C0 g0
    obtain ⟨k, f, done, rfl, rfl, C, G, hcase⟩ := hrel
    obtain ⟨va, vn, vc, rfl⟩ := C.sl
    rcases hcase with ⟨hk, hf, HS⟩ | ⟨rfl, HS⟩
    rotate_left
    · have hend : ¬ ((s.length : Int) + 1 ≤ s.length) := by omega
      go_wp2_with fail
      go_ret
      exact ⟨_, rfl, by rw [HS.out]; exact C, G⟩
    have hfi : (f : Int) ≤ k := by omega
    have hki : (k : Int) ≤ s.length := by omega
    have hdl := HS.out.2.2.1
    have hsz := G.size
    by_cases hlt : k < s.length
    · have hlti : (k : Int) < s.length := by omega
      have hne : ((k : Int) == s.length) = false := by rw [beq_eq_false_iff_ne]; omega
      have hg := str_get s k (by rw [str_size]; exact hlt)
      by_cases hx : s[k] = b
      · have HN := Lib.hid (HS.out.cut hlt hx)
        have hx' : ((s[k].toNat : Int) == (b.toNat : Int)) = true := by rw [hx]; simp
        clear hx HS
        go_wp2_with (first | (at_builtin; refine wpList_append_o (E := strE) (base := w.heap.size) rfl (.tmp 26) (.tmp 31) rfl rfl rfl (C.grew (galloc (grefl _) _)) (TS.single _ ((s.drop f).take (k - f)) (Nat.zero_le _)) (by simp; omega) (by decide) (by simp; omega) ?_; intro v' w6 o6 g6 b6; have G6 := gnew (galloc G _) g6 (fun j e => (C.lt j e).1); clear g6 b6))
        go_roundw
        case rel => exact ⟨k + 1, k + 1, _, by go_num, by go_num, o6, G6, .inl ⟨by omega, Nat.le_refl _, HN.out⟩⟩
        case measure => simp [intOf]; omega
      · have HN := Lib.hid (HS.out.on hlt hx)
        have hx' : ((s[k].toNat : Int) == (b.toNat : Int)) = false := by
          rw [beq_eq_false_iff_ne]; intro e; exact hx (UInt8.toNat_inj.1 (by omega))
        clear hx HS
        go_wp2_with fail
        go_roundw
        case rel => exact ⟨k + 1, f, _, by go_num, rfl, C, G, .inl ⟨by omega, by omega, HN.out⟩⟩
        case measure => simp [intOf]; omega
    · obtain rfl : k = s.length := by omega
      have HN := Lib.hid (HS.out.ends)
      clear HS
      go_wp2_with (first | (at_builtin; refine wpList_append_o (E := strE) (base := w.heap.size) rfl (.tmp 26) (.tmp 31) rfl rfl rfl (C.grew (galloc (grefl _) _)) (TS.single _ ((s.drop f).take (s.length - f)) (Nat.zero_le _)) (by simp; omega) (by decide) (by simp; omega) ?_; intro v' w6 o6 g6 b6; have G6 := gnew (galloc G _) g6 (fun j e => (C.lt j e).1); clear g6 b6))
      go_roundw
      case rel => exact ⟨s.length + 1, s.length + 1, _, by go_num, by go_num, o6, G6, .inr ⟨rfl, HN.out⟩⟩
      case measure => simp [intOf]
end Go.Proofs.YtfodjokcobljmaaGreat
