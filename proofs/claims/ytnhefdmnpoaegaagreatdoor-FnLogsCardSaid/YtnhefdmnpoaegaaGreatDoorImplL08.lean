/- What the program's markOf and firstText return. -/
import Derived.Test.YtnhefdmnpoaegaaGreatDoorMathL08p
import Derived.Test.YtnhefdmnpoaegaaGreatDoorJumpB
namespace Go.Proofs.YtnhefdmnpoaegaaGreatDoor
open Go.ChangeShapes Go.WideShapes Go.ChangeAt Go.RowKit
attribute [local go_sem] str_list str_size str_add lit_list0 add_lit lit_add str_cut

set_option maxRecDepth 8000 in
set_option maxHeartbeats 1000000 in
theorem markOf_any (s : List UInt8) (w : World) (hs : s.length ≤ 1099511627776) :
    Calls Tryz.prog 38 #[.string (str s)] w fun e w' => e = .returned (.int .i64 (markT s)) ∧ w = w' := by
  go_enter Tryz.func38, Tryz.ntmps38
  go_wp2_with fail
  go_loop [3, 7] (fun h i => ∃ k : Nat, k ≤ s.length ∧ i = .int .i64 k ∧ h = .int .i64 (markT (s.take k))) (fun _ i => s.length - (intOf i).toNat)
  case atStart => exact ⟨0, Nat.zero_le _, rfl, rfl⟩
  case round =>
    obtain ⟨k, hk, rfl, rfl⟩ := hrel
    by_cases hlt : k < s.length
    · have hki : (k : Int) < s.length := by omega
      have HN := Lib.hid (markT_next hlt)
      have hml := markT_lt (s.take k)
      have hc : s[k].toNat < 256 := s[k].toNat_lt
      have hg := str_get s k (by rw [str_size]; exact hlt)
      go_wp2_with fail
      go_round
      case rel => exact ⟨k + 1, by omega, by go_num, by rw [HN.out]; simp⟩
      case measure => simp [intOf]; omega
    · obtain rfl : k = s.length := by omega
      go_wp2_with fail
      go_ret
      exact ⟨by simp, rfl⟩
theorem after_on {s : List UInt8} {k : Nat} (h : k < s.length) (hx : s[k] ≠ 32) : afterT (s.drop k) = afterT (s.drop (k + 1)) := by
  unfold afterT
  rw [List.drop_eq_getElem_cons h, List.dropWhile_cons_of_pos (by simpa using hx)]
theorem after_hit {s : List UInt8} {k : Nat} (h : k < s.length) (hx : s[k] = 32) : afterT (s.drop k) = s.drop (k + 1) := by
  unfold afterT
  rw [List.drop_eq_getElem_cons h, List.dropWhile_cons_of_neg (by simp [hx])]
  simp
theorem after_end {s : List UInt8} : afterT (s.drop s.length) = [] := by simp [afterT]
/-- no line ends between f and k -/
def NoLf (s : List UInt8) (f k : Nat) : Prop := f ≤ k ∧ k ≤ s.length ∧ ((s.drop f).take (k - f)).all (fun c => c != 10) = true
theorem NoLf.on {s : List UInt8} {f k : Nat} (h : NoLf s f k) (hk : k < s.length) (hx : s[k] ≠ 10) : NoLf s f (k + 1) := by
  obtain ⟨h1, h2, h3⟩ := h
  refine ⟨by omega, by omega, ?_⟩
  have e : k + 1 - f = (k - f) + 1 := by omega
  rw [e]
  refine nolf_next h3 (by simp; omega) ?_
  simp only [List.getElem_drop]
  rwa [show s[f + (k - f)] = s[k] by congr 1; omega]
theorem NoLf.ends {s : List UInt8} {f : Nat} (h : NoLf s f s.length) : lineT (s.drop f) = [] := by
  have h3 := h.2.2
  rw [List.take_of_length_le (by simp)] at h3
  unfold lineT
  rw [if_pos h3]
theorem NoLf.hit {s : List UInt8} {f k : Nat} (h : NoLf s f k) (hk : k < s.length) (hx : s[k] = 10) : lineT (s.drop f) = (s.drop f).take (k - f) := by
  obtain ⟨h1, h2, h3⟩ := h
  have hl : k - f < (s.drop f).length := by simp; omega
  have hg : (s.drop f)[k - f] = 10 := by
    simp only [List.getElem_drop]
    rw [show s[f + (k - f)] = s[k] by congr 1; omega]; exact hx
  have he := endT_at h3 hl hg
  unfold lineT
  rw [if_neg, he]
  intro q
  have := List.all_eq_true.1 q _ (List.getElem_mem hl)
  rw [hg] at this
  simp at this
/-- where the run stands at a label: what is known there -/
def AtL (s : List UInt8) (l k f : Nat) : Prop := (l = 0 ∧ progT s = lineT (afterT (afterT (s.drop k)))) ∨ (l = 1 ∧ progT s = lineT (afterT (s.drop k))) ∨ (l = 2 ∧ progT s = lineT (s.drop f) ∧ NoLf s f k)
def LabJ (s : List UInt8) (w : World) (l : Nat) (a' : Act) (w' : World) : Prop := w' = w ∧ ∃ (k f : Nat) (u1 u5 u6 u7 u8 u9 u10 u11 u12 u13 u14 u15 u16 u17 u18 u19 u20 u21 u22 u23 u24 u25 u26 u27 u28 u29 u30 u31 u32 u33 u34 u35 u36 u37 u38 u39 u40 u41 u42 u43 : Value), a' = { tmps := (.string (str s) :: u1 :: .string ⟨#[]⟩ :: .int .i64 k :: .int .i64 f :: u5 :: u6 :: u7 :: u8 :: u9 :: u10 :: u11 :: u12 :: u13 :: u14 :: u15 :: u16 :: u17 :: u18 :: u19 :: u20 :: u21 :: u22 :: u23 :: u24 :: u25 :: u26 :: u27 :: u28 :: u29 :: u30 :: u31 :: u32 :: u33 :: u34 :: u35 :: u36 :: u37 :: u38 :: u39 :: u40 :: u41 :: u42 :: u43 :: []).toArray, defers := [] } ∧ k ≤ s.length ∧ Hid (AtL s l k f)
theorem AtL.lab {s : List UInt8} {l k f : Nat} (h : AtL s l k f) : l = 0 ∨ l = 1 ∨ l = 2 := by
  rcases h with h | h | h
  · exact .inl h.1
  · exact .inr (.inl h.1)
  · exact .inr (.inr h.1)
theorem AtL.e0 {s : List UInt8} {k f : Nat} (h : AtL s 0 k f) : progT s = lineT (afterT (afterT (s.drop k))) := by
  rcases h with h | h | h
  · exact h.2
  · exact absurd h.1 (by decide)
  · exact absurd h.1 (by decide)
theorem AtL.e1 {s : List UInt8} {k f : Nat} (h : AtL s 1 k f) : progT s = lineT (afterT (s.drop k)) := by
  rcases h with h | h | h
  · exact absurd h.1 (by decide)
  · exact h.2
  · exact absurd h.1 (by decide)
theorem AtL.e2 {s : List UInt8} {k f : Nat} (h : AtL s 2 k f) : progT s = lineT (s.drop f) ∧ NoLf s f k := by
  rcases h with h | h | h
  · exact absurd h.1 (by decide)
  · exact absurd h.1 (by decide)
  · exact h.2
theorem lineT_nil : lineT [] = [] := rfl
set_option maxRecDepth 100000 in
set_option maxHeartbeats 4000000 in
theorem firstText_any (s : List UInt8) (w : World) (hs : s.length ≤ 1100000) :
    Calls Tryz.prog 29 #[.string (str s)] w fun e w' => e = .returned (.string (str (progT s))) ∧ w = w' := by
  go_enter Tryz.func29, Tryz.ntmps29
  go_wp2
  refine wp_scope_jumps3 (LabJ s w) (fun a' _ => s.length - (intOf (a'.tmps.getD 3 undef)).toNat) (s.length + 1) rfl rfl rfl (fun l a w ⟨_, _, _, _, _, _, _, _, _, _, _, _, _, _, _, _, _, _, _, _, _, _, _, _, _, _, _, _, _, _, _, _, _, _, _, _, _, _, _, _, _, _, _, _, _, h⟩ => h.out.lab) ?_ ?_ ?_ ?_
  · rintro M a' w' ⟨rfl, k, f, u1, u5, u6, u7, u8, u9, u10, u11, u12, u13, u14, u15, u16, u17, u18, u19, u20, u21, u22, u23, u24, u25, u26, u27, u28, u29, u30, u31, u32, u33, u34, u35, u36, u37, u38, u39, u40, u41, u42, u43, rfl, hk, HA⟩ hM
    replace hM : s.length - k ≤ M := by simpa [intOf] using hM
    by_cases hlt : k < s.length
    rotate_left
    · obtain rfl : k = s.length := by omega
      have HE : Hid (progT s = []) := by show _ = _; rw [HA.out.e2.1, HA.out.e2.2.ends]
      go_wp2_with fail
      simp only [jumpF]
      go_ret
      exact ⟨ret_str (by rw [HE.out]), rfl⟩
    have hki : (k : Int) < s.length := by omega
    have hne : ((k : Int) == s.length) = false := by rw [beq_eq_false_iff_ne]; omega
    have hg := str_get s k (by rw [str_size]; exact hlt)
    by_cases hx : s[k] = 10
    · have HN := Lib.hid (HA.out.e2.2.hit hlt hx)
      have HF := Lib.hid HA.out.e2.1
      have hfk := HA.out.e2.2.1
      have hfi : (f : Int) ≤ k := by omega
      have hx' : ((s[k].toNat : Int) != 10) = false := by rw [hx]; rfl
      clear hx HA
      go_wp2_with fail
      simp only [jumpF]
      go_ret
      exact ⟨ret_str (by rw [HF.out, HN.out]), rfl⟩
    · have HN := Lib.hid (HA.out.e2.2.on hlt hx)
      have HF := Lib.hid HA.out.e2.1
      have hx' : ((s[k].toNat : Int) != 10) = true := by
        rw [bne, show (10 : Int) = ((10 : Nat) : Int) from rfl, u8_eq 10 (by omega)]; simpa using hx
      clear hx HA
      go_wp2_with fail
      go_step3
      exact ⟨⟨rfl, k + 1, f, _, _, _, _, _, _, _, _, _, _, _, _, _, _, _, _, _, _, _, _, _, _, _, _, _, _, _, _, _, _, _, _, _, _, _, _, _, _, _, _, rfl, hlt, .inr (.inr ⟨rfl, HF.out, HN.out⟩)⟩, by show s.length - (intOf (.int .i64 ((k : Int) + 1))).toNat < M; simp [intOf]; omega⟩
  · rintro q2 M a' w' ⟨rfl, k, f, u1, u5, u6, u7, u8, u9, u10, u11, u12, u13, u14, u15, u16, u17, u18, u19, u20, u21, u22, u23, u24, u25, u26, u27, u28, u29, u30, u31, u32, u33, u34, u35, u36, u37, u38, u39, u40, u41, u42, u43, rfl, hk, HA⟩ hM
    replace hM : s.length - k ≤ M := by simpa [intOf] using hM
    by_cases hlt : k < s.length
    rotate_left
    · obtain rfl : k = s.length := by omega
      have HE : Hid (progT s = []) := by show _ = _; rw [HA.out.e1, after_end, lineT_nil]
      clear q2
      go_wp2_with fail
      simp only [jumpF]
      go_ret
      exact ⟨ret_str (by rw [HE.out]), rfl⟩
    have hki : (k : Int) < s.length := by omega
    have hne : ((k : Int) == s.length) = false := by rw [beq_eq_false_iff_ne]; omega
    have hg := str_get s k (by rw [str_size]; exact hlt)
    by_cases hx : s[k] = 32
    · have HN : Hid (progT s = lineT (s.drop (k + 1)) ∧ NoLf s (k + 1) (k + 1)) := ⟨by rw [HA.out.e1, after_hit hlt hx], Nat.le_refl _, hlt, by simp⟩
      have hx' : ((s[k].toNat : Int) != 32) = false := by rw [hx]; rfl
      clear hx HA
      have Hq := Lib.hid q2
      clear q2
      go_wp2_with fail
      go_step3
      rename_i hK
      exact hK _ _ (Hq.out _ _ _ ⟨rfl, k + 1, k + 1, _, _, _, _, _, _, _, _, _, _, _, _, _, _, _, _, _, _, _, _, _, _, _, _, _, _, _, _, _, _, _, _, _, _, _, _, _, _, _, _, rfl, hlt, .inr (.inr ⟨rfl, HN.out⟩)⟩ (by show s.length - (intOf (.int .i64 ((k : Int) + 1))).toNat ≤ M; simp [intOf]; omega))
    · have HN : Hid (progT s = lineT (afterT (s.drop (k + 1)))) := by show _ = _; rw [HA.out.e1, after_on hlt hx]
      have hx' : ((s[k].toNat : Int) != 32) = true := by
        rw [bne, show (32 : Int) = ((32 : Nat) : Int) from rfl, u8_eq 32 (by omega)]; simpa using hx
      clear hx HA q2
      go_wp2_with fail
      go_step3
      exact ⟨⟨rfl, k + 1, f, _, _, _, _, _, _, _, _, _, _, _, _, _, _, _, _, _, _, _, _, _, _, _, _, _, _, _, _, _, _, _, _, _, _, _, _, _, _, _, _, rfl, hlt, .inr (.inl ⟨rfl, HN.out⟩)⟩, by show s.length - (intOf (.int .i64 ((k : Int) + 1))).toNat < M; simp [intOf]; omega⟩
  · rintro q1 M a' w' ⟨rfl, k, f, u1, u5, u6, u7, u8, u9, u10, u11, u12, u13, u14, u15, u16, u17, u18, u19, u20, u21, u22, u23, u24, u25, u26, u27, u28, u29, u30, u31, u32, u33, u34, u35, u36, u37, u38, u39, u40, u41, u42, u43, rfl, hk, HA⟩ hM
    replace hM : s.length - k ≤ M := by simpa [intOf] using hM
    by_cases hlt : k < s.length
    rotate_left
    · obtain rfl : k = s.length := by omega
      have HE : Hid (progT s = []) := by show _ = _; rw [HA.out.e0, after_end]; rfl
      clear q1
      go_wp2_with fail
      simp only [jumpF]
      go_ret
      exact ⟨ret_str (by rw [HE.out]), rfl⟩
    have hki : (k : Int) < s.length := by omega
    have hne : ((k : Int) == s.length) = false := by rw [beq_eq_false_iff_ne]; omega
    have hg := str_get s k (by rw [str_size]; exact hlt)
    by_cases hx : s[k] = 32
    · have HN : Hid (progT s = lineT (afterT (s.drop (k + 1)))) := by show _ = _; rw [HA.out.e0, after_hit hlt hx]
      have hx' : ((s[k].toNat : Int) != 32) = false := by rw [hx]; rfl
      clear hx HA
      have Hq := Lib.hid q1
      clear q1
      go_wp2_with fail
      go_step3
      rename_i hK
      exact hK _ _ (Hq.out _ _ _ ⟨rfl, k + 1, f, _, _, _, _, _, _, _, _, _, _, _, _, _, _, _, _, _, _, _, _, _, _, _, _, _, _, _, _, _, _, _, _, _, _, _, _, _, _, _, _, rfl, hlt, .inr (.inl ⟨rfl, HN.out⟩)⟩ (by show s.length - (intOf (.int .i64 ((k : Int) + 1))).toNat ≤ M; simp [intOf]; omega))
    · have HN : Hid (progT s = lineT (afterT (afterT (s.drop (k + 1))))) := by show _ = _; rw [HA.out.e0, after_on hlt hx]
      have hx' : ((s[k].toNat : Int) != 32) = true := by
        rw [bne, show (32 : Int) = ((32 : Nat) : Int) from rfl, u8_eq 32 (by omega)]; simpa using hx
      clear hx HA q1
      go_wp2_with fail
      go_step3
      exact ⟨⟨rfl, k + 1, f, _, _, _, _, _, _, _, _, _, _, _, _, _, _, _, _, _, _, _, _, _, _, _, _, _, _, _, _, _, _, _, _, _, _, _, _, _, _, _, _, rfl, hlt, .inl ⟨rfl, HN.out⟩⟩, by show s.length - (intOf (.int .i64 ((k : Int) + 1))).toNat < M; simp [intOf]; omega⟩
  · intro q0
    go_wp2
    go_step3
    rename_i hK
    exact hK _ _ (q0 _ _ _ ⟨rfl, 0, 0, _, _, _, _, _, _, _, _, _, _, _, _, _, _, _, _, _, _, _, _, _, _, _, _, _, _, _, _, _, _, _, _, _, _, _, _, _, _, _, _, rfl, Nat.zero_le _, .inl ⟨rfl, rfl⟩⟩ (by simp [intOf]))
end Go.Proofs.YtnhefdmnpoaegaaGreatDoor
