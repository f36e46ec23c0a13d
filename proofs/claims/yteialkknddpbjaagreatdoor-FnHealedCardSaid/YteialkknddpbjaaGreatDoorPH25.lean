/- What the program's markOf and firstText return. What the program's Framed, Noted and Torn return. What the program's Entries returns. -/
import Derived.Test.YteialkknddpbjaaGreatDoorPH02
import Derived.Test.YteialkknddpbjaaGreatDoorPH18
import Derived.Test.YteialkknddpbjaaGreatDoorPH20
import Derived.Test.YteialkknddpbjaaGreatDoorPH24
namespace Go.Proofs.YteialkknddpbjaaGreatDoor
open Go.ChangeShapes Go.WideShapes Go.ChangeAt Go.RowKit
attribute [local go_sem] str_list str_size str_add lit_list0 add_lit lit_add str_cut

set_option maxRecDepth 8000 in
set_option maxHeartbeats 1000000 in
theorem markOf_any (s : List UInt8) (w : World) (hs : s.length ≤ 1099511627776) :
    Calls Tryz.prog 202 #[.string (str s)] w fun e w' => e = .returned (.int .i64 (markT s)) ∧ w = w' := by
  go_enter Tryz.func202, Tryz.ntmps202
  go_wp2_with fail
  go_loop [3, 7] (fun h i => ∃ k : Nat, k ≤ s.length ∧ i = .int .i64 k ∧ h = .int .i64 (markT (s.take k))) (fun _ i => s.length - (intOf i).toNat)
  case atStart => exact ⟨0, Nat.zero_le _, rfl, rfl⟩
  case round =>
    obtain ⟨k, hk, rfl, rfl⟩ := hrel
    by_cases hlt : k < s.length
    · have hki : (k : Int) < s.length := by omega
      have HN := Lib.hid (markT_next hlt)
      have hml := markT_lt (s.take k)
      have hc : s[k].toNat < 256 := s[k].toNat_lt
      have hg := str_get s k (by rw [str_size]; exact hlt)
      go_wp2_with fail
      go_round
      case rel => exact ⟨k + 1, by omega, by go_num, by rw [HN.out]; simp⟩
      case measure => simp [intOf]; omega
    · obtain rfl : k = s.length := by omega
      go_wp2_with fail
      go_ret
      exact ⟨by simp, rfl⟩
theorem after_on {s : List UInt8} {k : Nat} (h : k < s.length) (hx : s[k] ≠ 32) : afterT (s.drop k) = afterT (s.drop (k + 1)) := by
  unfold afterT
  rw [List.drop_eq_getElem_cons h, List.dropWhile_cons_of_pos (by simpa using hx)]
theorem after_hit {s : List UInt8} {k : Nat} (h : k < s.length) (hx : s[k] = 32) : afterT (s.drop k) = s.drop (k + 1) := by
  unfold afterT
  rw [List.drop_eq_getElem_cons h, List.dropWhile_cons_of_neg (by simp [hx])]
  simp
theorem after_end {s : List UInt8} : afterT (s.drop s.length) = [] := by simp [afterT]
/-- no line ends between f and k -/
def NoLf (s : List UInt8) (f k : Nat) : Prop := f ≤ k ∧ k ≤ s.length ∧ ((s.drop f).take (k - f)).all (fun c => c != 10) = true
theorem NoLf.on {s : List UInt8} {f k : Nat} (h : NoLf s f k) (hk : k < s.length) (hx : s[k] ≠ 10) : NoLf s f (k + 1) := by
  obtain ⟨h1, h2, h3⟩ := h
  refine ⟨by omega, by omega, ?_⟩
  have e : k + 1 - f = (k - f) + 1 := by omega
  rw [e]
  refine nolf_next h3 (by simp; omega) ?_
  simp only [List.getElem_drop]
  rwa [show s[f + (k - f)] = s[k] by congr 1; omega]
theorem NoLf.ends {s : List UInt8} {f : Nat} (h : NoLf s f s.length) : lineT (s.drop f) = [] := by
  have h3 := h.2.2
  rw [List.take_of_length_le (by simp)] at h3
  unfold lineT
  rw [if_pos h3]
theorem NoLf.hit {s : List UInt8} {f k : Nat} (h : NoLf s f k) (hk : k < s.length) (hx : s[k] = 10) : lineT (s.drop f) = (s.drop f).take (k - f) := by
  obtain ⟨h1, h2, h3⟩ := h
  have hl : k - f < (s.drop f).length := by simp; omega
  have hg : (s.drop f)[k - f] = 10 := by
    simp only [List.getElem_drop]
    rw [show s[f + (k - f)] = s[k] by congr 1; omega]; exact hx
  have he := endT_at h3 hl hg
  unfold lineT
  rw [if_neg, he]
  intro q
  have := List.all_eq_true.1 q _ (List.getElem_mem hl)
  rw [hg] at this
  simp at this
/-- where the run stands at a label: what is known there -/
def AtL (s : List UInt8) (l k f : Nat) : Prop := (l = 0 ∧ progT s = lineT (afterT (afterT (s.drop k)))) ∨ (l = 1 ∧ progT s = lineT (afterT (s.drop k))) ∨ (l = 2 ∧ progT s = lineT (s.drop f) ∧ NoLf s f k)
def LabJ (s : List UInt8) (w : World) (l : Nat) (a' : Act) (w' : World) : Prop := w' = w ∧ ∃ (k f : Nat) (u1 u5 u6 u7 u8 u9 u10 u11 u12 u13 u14 u15 u16 u17 u18 u19 u20 u21 u22 u23 u24 u25 u26 u27 u28 u29 u30 u31 u32 u33 u34 u35 u36 u37 u38 u39 u40 u41 u42 u43 : Value), a' = { tmps := (.string (str s) :: u1 :: .string ⟨#[]⟩ :: .int .i64 k :: .int .i64 f :: u5 :: u6 :: u7 :: u8 :: u9 :: u10 :: u11 :: u12 :: u13 :: u14 :: u15 :: u16 :: u17 :: u18 :: u19 :: u20 :: u21 :: u22 :: u23 :: u24 :: u25 :: u26 :: u27 :: u28 :: u29 :: u30 :: u31 :: u32 :: u33 :: u34 :: u35 :: u36 :: u37 :: u38 :: u39 :: u40 :: u41 :: u42 :: u43 :: []).toArray, defers := [] } ∧ k ≤ s.length ∧ Hid (AtL s l k f)
theorem AtL.lab {s : List UInt8} {l k f : Nat} (h : AtL s l k f) : l = 0 ∨ l = 1 ∨ l = 2 := by
  rcases h with h | h | h
  · exact .inl h.1
  · exact .inr (.inl h.1)
  · exact .inr (.inr h.1)
theorem AtL.e0 {s : List UInt8} {k f : Nat} (h : AtL s 0 k f) : progT s = lineT (afterT (afterT (s.drop k))) := by
  rcases h with h | h | h
  · exact h.2
  · exact absurd h.1 (by decide)
  · exact absurd h.1 (by decide)
theorem AtL.e1 {s : List UInt8} {k f : Nat} (h : AtL s 1 k f) : progT s = lineT (afterT (s.drop k)) := by
  rcases h with h | h | h
  · exact absurd h.1 (by decide)
  · exact h.2
  · exact absurd h.1 (by decide)
theorem AtL.e2 {s : List UInt8} {k f : Nat} (h : AtL s 2 k f) : progT s = lineT (s.drop f) ∧ NoLf s f k := by
  rcases h with h | h | h
  · exact absurd h.1 (by decide)
  · exact absurd h.1 (by decide)
  · exact h.2
theorem lineT_nil : lineT [] = [] := rfl
set_option maxRecDepth 100000 in
set_option maxHeartbeats 4000000 in
theorem firstText_any (s : List UInt8) (w : World) (hs : s.length ≤ 1100000) :
    Calls Tryz.prog 186 #[.string (str s)] w fun e w' => e = .returned (.string (str (progT s))) ∧ w = w' := by
  go_enter Tryz.func186, Tryz.ntmps186
  go_wp2
  refine wp_scope_jumps3 (LabJ s w) (fun a' _ => s.length - (intOf (a'.tmps.getD 3 undef)).toNat) (s.length + 1) rfl rfl rfl (fun l a w ⟨_, _, _, _, _, _, _, _, _, _, _, _, _, _, _, _, _, _, _, _, _, _, _, _, _, _, _, _, _, _, _, _, _, _, _, _, _, _, _, _, _, _, _, _, _, h⟩ => h.out.lab) ?_ ?_ ?_ ?_
  · rintro M a' w' ⟨rfl, k, f, u1, u5, u6, u7, u8, u9, u10, u11, u12, u13, u14, u15, u16, u17, u18, u19, u20, u21, u22, u23, u24, u25, u26, u27, u28, u29, u30, u31, u32, u33, u34, u35, u36, u37, u38, u39, u40, u41, u42, u43, rfl, hk, HA⟩ hM
    replace hM : s.length - k ≤ M := by simpa [intOf] using hM
    by_cases hlt : k < s.length
    rotate_left
    · obtain rfl : k = s.length := by omega
      have HE : Hid (progT s = []) := by show _ = _; rw [HA.out.e2.1, HA.out.e2.2.ends]
      go_wp2_with fail
      simp only [jumpF]
      go_ret
      exact ⟨ret_str (by rw [HE.out]), rfl⟩
    have hki : (k : Int) < s.length := by omega
    have hne : ((k : Int) == s.length) = false := by rw [beq_eq_false_iff_ne]; omega
    have hg := str_get s k (by rw [str_size]; exact hlt)
    by_cases hx : s[k] = 10
    · have HN := Lib.hid (HA.out.e2.2.hit hlt hx)
      have HF := Lib.hid HA.out.e2.1
      have hfk := HA.out.e2.2.1
      have hfi : (f : Int) ≤ k := by omega
      have hx' : ((s[k].toNat : Int) != 10) = false := by rw [hx]; rfl
      clear hx HA
      go_wp2_with fail
      simp only [jumpF]
      go_ret
      exact ⟨ret_str (by rw [HF.out, HN.out]), rfl⟩
    · have HN := Lib.hid (HA.out.e2.2.on hlt hx)
      have HF := Lib.hid HA.out.e2.1
      have hx' : ((s[k].toNat : Int) != 10) = true := by
        rw [bne, show (10 : Int) = ((10 : Nat) : Int) from rfl, u8_eq 10 (by omega)]; simpa using hx
      clear hx HA
      go_wp2_with fail
      go_step3
      exact ⟨⟨rfl, k + 1, f, _, _, _, _, _, _, _, _, _, _, _, _, _, _, _, _, _, _, _, _, _, _, _, _, _, _, _, _, _, _, _, _, _, _, _, _, _, _, _, _, rfl, hlt, .inr (.inr ⟨rfl, HF.out, HN.out⟩)⟩, by show s.length - (intOf (.int .i64 ((k : Int) + 1))).toNat < M; simp [intOf]; omega⟩
  · rintro q2 M a' w' ⟨rfl, k, f, u1, u5, u6, u7, u8, u9, u10, u11, u12, u13, u14, u15, u16, u17, u18, u19, u20, u21, u22, u23, u24, u25, u26, u27, u28, u29, u30, u31, u32, u33, u34, u35, u36, u37, u38, u39, u40, u41, u42, u43, rfl, hk, HA⟩ hM
    replace hM : s.length - k ≤ M := by simpa [intOf] using hM
    by_cases hlt : k < s.length
    rotate_left
    · obtain rfl : k = s.length := by omega
      have HE : Hid (progT s = []) := by show _ = _; rw [HA.out.e1, after_end, lineT_nil]
      clear q2
      go_wp2_with fail
      simp only [jumpF]
      go_ret
      exact ⟨ret_str (by rw [HE.out]), rfl⟩
    have hki : (k : Int) < s.length := by omega
    have hne : ((k : Int) == s.length) = false := by rw [beq_eq_false_iff_ne]; omega
    have hg := str_get s k (by rw [str_size]; exact hlt)
    by_cases hx : s[k] = 32
    · have HN : Hid (progT s = lineT (s.drop (k + 1)) ∧ NoLf s (k + 1) (k + 1)) := ⟨by rw [HA.out.e1, after_hit hlt hx], Nat.le_refl _, hlt, by simp⟩
      have hx' : ((s[k].toNat : Int) != 32) = false := by rw [hx]; rfl
      clear hx HA
      have Hq := Lib.hid q2
      clear q2
      go_wp2_with fail
      go_step3
      rename_i hK
      exact hK _ _ (Hq.out _ _ _ ⟨rfl, k + 1, k + 1, _, _, _, _, _, _, _, _, _, _, _, _, _, _, _, _, _, _, _, _, _, _, _, _, _, _, _, _, _, _, _, _, _, _, _, _, _, _, _, _, rfl, hlt, .inr (.inr ⟨rfl, HN.out⟩)⟩ (by show s.length - (intOf (.int .i64 ((k : Int) + 1))).toNat ≤ M; simp [intOf]; omega))
    · have HN : Hid (progT s = lineT (afterT (s.drop (k + 1)))) := by show _ = _; rw [HA.out.e1, after_on hlt hx]
      have hx' : ((s[k].toNat : Int) != 32) = true := by
        rw [bne, show (32 : Int) = ((32 : Nat) : Int) from rfl, u8_eq 32 (by omega)]; simpa using hx
      clear hx HA q2
      go_wp2_with fail
      go_step3
      exact ⟨⟨rfl, k + 1, f, _, _, _, _, _, _, _, _, _, _, _, _, _, _, _, _, _, _, _, _, _, _, _, _, _, _, _, _, _, _, _, _, _, _, _, _, _, _, _, _, rfl, hlt, .inr (.inl ⟨rfl, HN.out⟩)⟩, by show s.length - (intOf (.int .i64 ((k : Int) + 1))).toNat < M; simp [intOf]; omega⟩
  · rintro q1 M a' w' ⟨rfl, k, f, u1, u5, u6, u7, u8, u9, u10, u11, u12, u13, u14, u15, u16, u17, u18, u19, u20, u21, u22, u23, u24, u25, u26, u27, u28, u29, u30, u31, u32, u33, u34, u35, u36, u37, u38, u39, u40, u41, u42, u43, rfl, hk, HA⟩ hM
    replace hM : s.length - k ≤ M := by simpa [intOf] using hM
    by_cases hlt : k < s.length
    rotate_left
    · obtain rfl : k = s.length := by omega
      have HE : Hid (progT s = []) := by show _ = _; rw [HA.out.e0, after_end]; rfl
      clear q1
      go_wp2_with fail
      simp only [jumpF]
      go_ret
      exact ⟨ret_str (by rw [HE.out]), rfl⟩
    have hki : (k : Int) < s.length := by omega
    have hne : ((k : Int) == s.length) = false := by rw [beq_eq_false_iff_ne]; omega
    have hg := str_get s k (by rw [str_size]; exact hlt)
    by_cases hx : s[k] = 32
    · have HN : Hid (progT s = lineT (afterT (s.drop (k + 1)))) := by show _ = _; rw [HA.out.e0, after_hit hlt hx]
      have hx' : ((s[k].toNat : Int) != 32) = false := by rw [hx]; rfl
      clear hx HA
      have Hq := Lib.hid q1
      clear q1
      go_wp2_with fail
      go_step3
      rename_i hK
      exact hK _ _ (Hq.out _ _ _ ⟨rfl, k + 1, f, _, _, _, _, _, _, _, _, _, _, _, _, _, _, _, _, _, _, _, _, _, _, _, _, _, _, _, _, _, _, _, _, _, _, _, _, _, _, _, _, rfl, hlt, .inr (.inl ⟨rfl, HN.out⟩)⟩ (by show s.length - (intOf (.int .i64 ((k : Int) + 1))).toNat ≤ M; simp [intOf]; omega))
    · have HN : Hid (progT s = lineT (afterT (afterT (s.drop (k + 1))))) := by show _ = _; rw [HA.out.e0, after_on hlt hx]
      have hx' : ((s[k].toNat : Int) != 32) = true := by
        rw [bne, show (32 : Int) = ((32 : Nat) : Int) from rfl, u8_eq 32 (by omega)]; simpa using hx
      clear hx HA q1
      go_wp2_with fail
      go_step3
      exact ⟨⟨rfl, k + 1, f, _, _, _, _, _, _, _, _, _, _, _, _, _, _, _, _, _, _, _, _, _, _, _, _, _, _, _, _, _, _, _, _, _, _, _, _, _, _, _, _, rfl, hlt, .inl ⟨rfl, HN.out⟩⟩, by show s.length - (intOf (.int .i64 ((k : Int) + 1))).toNat < M; simp [intOf]; omega⟩
  · intro q0
    go_wp2
    go_step3
    rename_i hK
    exact hK _ _ (q0 _ _ _ ⟨rfl, 0, 0, _, _, _, _, _, _, _, _, _, _, _, _, _, _, _, _, _, _, _, _, _, _, _, _, _, _, _, _, _, _, _, _, _, _, _, _, _, _, _, _, rfl, Nat.zero_le _, .inl ⟨rfl, rfl⟩⟩ (by simp [intOf]))
end Go.Proofs.YteialkknddpbjaaGreatDoor
namespace Go.Proofs.YteialkknddpbjaaGreatDoor
open Go.ChangeShapes Go.WideShapes Go.ChangeAt Go.RowKit
attribute [local go_sem] str_list str_size str_add lit_list0 add_lit lit_add str_cut

theorem str_bytes (l : List UInt8) : (str l).data.toList = l := by simp [str]
theorem itoa_any (n : Nat) (w : World) (hn : n ≤ 1000000) (ht : Pow10 w) :
    Calls Tryz.prog 200 #[.int .i64 n] w (Pure (.string (str (digT n))) w) := by
  go_fit (Tryz.strconv_Itoa n (by omega) (by omega) w ht)
  rintro e w' ⟨rfl, k, os, rfl⟩
  exact ⟨by rw [itoa_dig]; rfl, gGrow w k os⟩
theorem contains_lf (s : List UInt8) (w : World) :
    Calls Tryz.prog 199 #[.string (str s), .string ⟨#[10]⟩] w fun e w' => e = .returned (.bool (!s.all (fun c => c != 10))) ∧ w = w' := by
  go_fit (Tryz.strings_Contains_one (str s) 10 w)
  rintro e w' ⟨rfl, rfl⟩
  exact ⟨by rw [str_bytes, nolf_has], rfl⟩
theorem clone_any (s : List UInt8) (w : World) (hs : s.length ≤ 281474976710656) :
    Calls Tryz.prog 122 #[.string (str s)] w (Pure (.string (str s)) w) := by
  go_enter Tryz.func122, Tryz.ntmps122
  go_wp2_with fail
  go_fit (Tryz.stringslite_Clone (str s) _ (by rw [str_size]; exact hs))
  rintro e w1 ⟨rfl, hb⟩
  go_wp2_with fail
  go_ret
  exact ⟨rfl, below_grown hb⟩
set_option maxRecDepth 8000 in
set_option maxHeartbeats 1000000 in
theorem implFramed_any (s : List UInt8) (w : World) (hs : s.length ≤ 1100000) (ht : Pow10 w) :
    Calls Tryz.prog 120 #[.string (str s)] w (Pure (.string (str (framedZ s))) w) := by
  by_cases hl : 100 < s.length
  · have HZ : Hid (framedZ s = []) := framedZ_no (by unfold plainT; rw [decide_eq_false (by omega), Bool.and_false])
    have hli : (100 : Int) < s.length := by omega
    go_enter Tryz.func120, Tryz.ntmps120
    go_wp2_with fail
    go_ret
    exact ⟨ret_str (by rw [HZ.out]), grefl _⟩
  have hli : ¬ (100 : Int) < s.length := by omega
  cases ha : s.all (fun c => c != 10)
  · have HZ : Hid (framedZ s = []) := framedZ_no (by unfold plainT; rw [ha]; rfl)
    go_enter Tryz.func120, Tryz.ntmps120
    go_wp2_with fail
    go_fit (contains_lf s _)
    rintro e w' ⟨rfl, rfl⟩
    rw [ha]
    go_wp2_with fail
    go_ret
    exact ⟨ret_str (by rw [HZ.out]), grefl _⟩
  have HZ : Hid (framedZ s = frameT s) := framedZ_yes (by unfold plainT; rw [ha, decide_eq_true (by omega)]; rfl)
  have hm := markT_lt s
  have h1 := digT_length s.length 2 (by omega)
  have h2 := digT_length (markT s) 3 (by omega)
  have HT := Lib.hid ht
  clear ht
  go_enter Tryz.func120, Tryz.ntmps120
  go_wp2_with fail
  go_fit (contains_lf s _)
  rintro e w' ⟨rfl, rfl⟩
  rw [ha]
  go_wp2_with fail
  go_fit (itoa_any s.length _ (by omega) HT.out)
  rintro e w1 ⟨rfl, g1⟩
  go_wp2_with fail
  go_fit (markOf_any s _ (by omega))
  rintro e w' ⟨rfl, rfl⟩
  go_wp2_with fail
  go_fit (formatInt_any (markT s) _ (by omega) (HT.out.kept g1))
  rintro e w2 ⟨rfl, g2⟩
  go_wp2_with fail
  go_ret
  exact ⟨ret_str (by rw [HZ.out]; simp [frameT]), gtrans g1 g2⟩
end Go.Proofs.YteialkknddpbjaaGreatDoor
namespace Go.Proofs.YteialkknddpbjaaGreatDoor
open Go.ChangeShapes Go.WideShapes Go.ChangeAt Go.RowKit
attribute [local go_sem] str_list str_size str_add lit_list0 add_lit lit_add str_cut

theorem cutPrefix_any (s p : List UInt8) (w : World) :
    Calls Tryz.prog 188 #[.string (str s), .string (str p)] w fun e w' => e = .returned (.tuple #[.string (str (Lib.trimPrefix s p)), .bool (Lib.hasPrefix s p)]) ∧ w = w' := by
  go_fit (Tryz.strings_CutPrefix (str s) (str p) w)
  rintro e w' ⟨rfl, rfl⟩
  exact ⟨by rw [str_bytes, str_bytes]; rfl, rfl⟩
set_option maxRecDepth 8000 in
set_option maxHeartbeats 4000000 in
theorem implEntries_any (s : List UInt8) (w : World) (hs : s.length ≤ 1048576) (ht : Pow10 w) (hV : LibV w) :
    Calls Tryz.prog 116 #[.string (str s)] w (GotPL (entsT s) w) := by
  have C0 := OP.empty w
  have g0 := galloc (grefl w) (.cells #[] 97)
  have HT := Lib.hid ht
  have HV := Lib.hid hV
  clear ht hV
  go_enter Tryz.func116, Tryz.ntmps116
  go_wp2
  go_loopw [0, 3] (fun lg out wr => ∃ (t : List UInt8) (done : List PZ) (raw : List PV), lg = .string (str t) ∧ OP wr w.heap.size out done raw ∧ w.grownBy wr none ∧ t.length ≤ 1048576 ∧ done.length + t.length ≤ 1048576 ∧ Hid (entsT s = done ++ entsT t)) (fun lg _ _ => szOf lg)
  case atStart => exact ⟨s, [], [], rfl, C0, g0, hs, by simpa using hs, rfl⟩
  case round =>
    clear C0 g0
    obtain ⟨t, done, raw, rfl, C, G, htl, hdl, HS⟩ := hrel
    obtain ⟨oa, oc, rfl, -⟩ := C.form
    have hpl := progT_len t
    have HG : Hid (readPok (progT t) = true → Lib.hasPrefix t (framedZ (progT t)) = true → entsT t = readPZ (progT t) :: entsT (Lib.trimPrefix t (framedZ (progT t))) ∧ (Lib.trimPrefix t (framedZ (progT t))).length < t.length) := fun a b => ents_step a b
    have HE : Hid (¬ (readPok (progT t) = true ∧ Lib.hasPrefix t (framedZ (progT t)) = true) → entsT t = []) := fun h => ents_stop h
    go_wp2_with fail
    go_fit (firstText_any t _ (by omega))
    rintro e w' ⟨rfl, rfl⟩
    generalize progT t = P at *
    go_wp2_with fail
    go_fit (implReadPatch_any P _ (by omega) (HT.out.kept G) (HV.out.kept G))
    rintro e w3 ⟨dv, vv, rfl, id, iv, ap, g3⟩
    obtain ⟨da, dm, dc, rfl⟩ := id.sl
    obtain ⟨va, vm, vc, rfl⟩ := iv.sl
    have g4 := galloc (grefl w3) (.cells #[.int .i64 (readPZ P).row, .slice da dm dc, .slice va vm vc] 97)
    have B4 := Box3.new w3 (.int .i64 (readPZ P).row) (.slice da dm dc) (.slice va vm vc) 97
    have C4 := C.grew (gtrans g3 g4)
    have G4 := gtrans G (gtrans g3 g4)
    have I4 : PV.Is (w3.alloc (.cells #[.int .i64 (readPZ P).row, .slice da dm dc, .slice va vm vc] 97)) wr.heap.size ⟨(readPZ P).row, da, dm, dc, va, vm, vc⟩ (readPZ P) := ⟨rfl, Own.grew id g4, Own.grew iv g4⟩
    have hs2 := G.size
    have HNew : Hid (∀ k, PV.has ⟨(readPZ P).row, da, dm, dc, va, vm, vc⟩ k → (∀ i (hi : i < raw.length), ¬ raw[i].has k) ∧ (Value.slice oa done.length oc).ownBlock ≠ some k) := fun k hk => by
      have h1 : wr.heap.size ≤ k := by
        rcases hk with hk | hk
        · exact (id.lt k hk).1
        · exact (iv.lt k hk).1
      exact ⟨fun i hi x => by have := (C.in i hi k x).2; omega, fun x => by have := (C.own.lt k x).2; omega⟩
    go_upto_region 4 with (fail)
    clear g3 g4
    generalize w3.alloc (.cells #[.int .i64 (readPZ P).row, .slice da dm dc, .slice va vm vc] 97) = W4 at *
    generalize w3.heap.size = b4 at *
    go_wp2_with fail
    go_fit (implFramed_any P _ (by omega) (HT.out.kept G4))
    rintro e w5 ⟨rfl, g5⟩
    have C5 := C4.grew g5
    have G5 := gtrans G4 g5
    have I5 := I4.grew g5
    obtain ⟨b0, b1, b2⟩ := B4.kept g5
    clear C4 G4 I4 B4 g5 C
    generalize framedZ P = F at *
    go_wp2_with fail
    go_fit (cutPrefix_any t F _)
    rintro e w' ⟨rfl, rfl⟩
    by_cases hok : readPok P = true ∧ Lib.hasPrefix t F = true
    rotate_left
    · have HE' : Hid (entsT s = done) := by show _ = _; rw [HS.out, HE.out hok, List.append_nil]
      cases h1 : readPok P
      · go_wp2_with fail
        go_ret
        exact ⟨_, raw, rfl, by rw [HE'.out]; exact C5, G5⟩
      · have h2 : Lib.hasPrefix t F = false := by
          cases h2 : Lib.hasPrefix t F
          · rfl
          · exact absurd ⟨h1, h2⟩ hok
        rw [h2]
        go_wp2_with fail
        go_ret
        exact ⟨_, raw, rfl, by rw [HE'.out]; exact C5, G5⟩
    · obtain ⟨h1, h2⟩ := hok
      obtain ⟨e1, e2⟩ := HG.out h1 h2
      have HE' : Hid (entsT s = (done ++ [readPZ P]) ++ entsT (Lib.trimPrefix t F)) := by
        show _ = _
        rw [HS.out, e1]; simp
      rw [h1, h2]
      clear e1 HG HE
      generalize Lib.trimPrefix t F = T at *
      have hsw := G5.size
      go_wp2_with (first | (at_builtin; refine wpList_append_o (E := patE) (base := w.heap.size) rfl (.tmp 31) (.tmp 33) rfl rfl rfl (Own.grew C5.own (galloc (grefl _) _)) (PV.single _ ⟨(readPZ P).row, da, dm, dc, va, vm, vc⟩) (by have := C5.len; simp; omega) (by decide) (by simp; omega) ?_; intro v' w6 o6 g6 b6; have C6 := OP.app (C5.grew (galloc (grefl _) _)) _ (readPZ P) ((I5.lower hs2).grew (galloc (grefl _) _)) ap HNew.out g6 o6 b6; have G6 := gnew (galloc G5 _) g6 (fun j e => (C5.own.lt j e).1); clear g6 b6 o6))
      go_roundw
      case rel => exact ⟨T, _, _, rfl, C6, G6, by omega, by simp; omega, HE'.out⟩
      case measure => simp [szOf, str_size]; omega
end Go.Proofs.YteialkknddpbjaaGreatDoor
