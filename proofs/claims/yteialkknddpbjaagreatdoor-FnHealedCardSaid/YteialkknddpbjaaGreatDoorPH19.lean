/- What the specification's l8First returns: the frame at the beginning of a text. What the specification's Entries returns. -/
import Derived.BigQuiet
import Derived.Test.YteialkknddpbjaaGreatDoorPH01
import Derived.Test.YteialkknddpbjaaGreatDoorPH07
import Derived.Test.YteialkknddpbjaaGreatDoorPH16
import Derived.Test.YteialkknddpbjaaGreatDoorPH17
import Derived.Test.YteialkknddpbjaaGreatDoorPH18
namespace Go.Proofs.YteialkknddpbjaaGreatDoor
open Go.ChangeShapes Go.WideShapes Go.ChangeAt Go.RowKit
attribute [local go_sem] str_list str_size str_add lit_list0 add_lit lit_add str_cut

/-- where the first line ends -/
def endT (s : List UInt8) : Nat := (s.takeWhile fun c => c != 10).length
def headT (s : List UInt8) : List UInt8 := s.take (endT s)
/-- what stands behind the first two words -/
def behindT (h : List UInt8) : List UInt8 := h.drop (((splitT 32 h).getD 0 []).length + ((splitT 32 h).getD 1 []).length + 2)
def firstOk (s : List UInt8) : Bool := decide (endT s < s.length ∧ endT s ≤ 120) && (decide (3 ≤ (splitT 32 (headT s)).length) && (plainT (behindT (headT s)) && (frameT (behindT (headT s)) == s.take (endT s + 1))))
def firstT (s : List UInt8) : List UInt8 := if firstOk s then behindT (headT s) else []
def firstN (s : List UInt8) : Nat := if firstOk s then endT s + 1 else 0
theorem endT_at {s : List UInt8} {k : Nat} (h : (s.take k).all (fun c => c != 10) = true) (hk : k < s.length) (hx : s[k] = 10) : endT s = k := by
  have e : s = s.take k ++ s[k] :: s.drop (k + 1) := by
    rw [← List.drop_eq_getElem_cons hk, List.take_append_drop]
  have h' : ∀ c ∈ s.take k, (c != 10) = true := fun c hc => List.all_eq_true.1 h c hc
  unfold endT
  conv => lhs; rw [e, List.takeWhile_append_of_pos h']
  simp [hx]; omega
theorem endT_all {s : List UInt8} (h : s.all (fun c => c != 10) = true) : endT s = s.length := by
  have := List.takeWhile_append_of_pos (p := fun c : UInt8 => c != 10) (l₁ := s) (l₂ := []) (fun x hx => List.all_eq_true.1 h x hx)
  simp only [List.append_nil, List.takeWhile_nil] at this
  unfold endT
  rw [this]
theorem split_sum (b : UInt8) (cur s : List UInt8) : ((splitG b cur s).map List.length).sum + (splitG b cur s).length = cur.length + s.length + 1 := by
  induction s generalizing cur with
  | nil => simp [splitG]
  | cons x r ih =>
    unfold splitG; split
    · have := ih []; simp at this ⊢; omega
    · have := ih (cur ++ [x]); simp at this ⊢; omega
theorem two_words {s : List UInt8} (h : 3 ≤ (splitT 32 s).length) : ((splitT 32 s).getD 0 []).length + ((splitT 32 s).getD 1 []).length + 2 ≤ s.length := by
  have q := split_sum 32 [] s
  unfold splitT at *
  match hl : splitG 32 [] s, h with
  | a :: c :: d :: r, _ =>
    rw [hl] at q
    simp at q ⊢
    omega
theorem first_no {s : List UInt8} (h : firstOk s = false) : firstT s = [] ∧ firstN s = 0 := by simp [firstT, firstN, h]
theorem first_yes {s : List UInt8} (h : firstOk s = true) : firstT s = behindT (headT s) ∧ firstN s = endT s + 1 := by simp [firstT, firstN, h]
theorem ret_first {t t' : List UInt8} {n n' : Int} (h1 : t = t') (h2 : n = n') : Ending.returned (.tuple #[.string (str t), .int .i64 n]) = .returned (.tuple #[.string (str t'), .int .i64 n']) := by rw [h1, h2]
set_option maxRecDepth 8000 in
set_option maxHeartbeats 4000000 in
theorem l8First_any (s : List UInt8) (w : World) (hs : s.length ≤ 1100000) :
    Calls Tryz.prog 157 #[.string (str s)] w (Pure (.tuple #[.string (str (firstT s)), .int .i64 (firstN s)]) w) := by
  go_enter Tryz.func157, Tryz.ntmps157
  go_wp2_with fail
  go_loop [4] (fun i => ∃ k : Nat, k ≤ s.length ∧ i = .int .i64 k ∧ Hid ((s.take k).all (fun c => c != 10) = true)) (fun i => s.length - (intOf i).toNat)
  case atStart => exact ⟨0, Nat.zero_le _, rfl, rfl⟩
  case round =>
    obtain ⟨k, hk, rfl, HA⟩ := hrel
    by_cases hlt : k < s.length
    rotate_left
    · have HE : Hid (firstOk s = false) := by
        have e := HA.out
        rw [List.take_of_length_le (by omega)] at e
        show _ = _
        simp [firstOk, endT_all e]
      have HF := Lib.hid (first_no HE.out)
      obtain rfl : k = s.length := by omega
      clear HA
      go_wp2_with fail
      go_ret2
      exact ⟨ret_first HF.out.1.symm (by rw [HF.out.2]; rfl), grefl _⟩
    have hki : (k : Int) < s.length := by omega
    have hg := str_get s k (by rw [str_size]; exact hlt)
    by_cases hx : s[k] = 10
    rotate_left
    · have HN := Lib.hid (nolf_next HA.out hlt hx)
      have hx' : ((s[k].toNat : Int) != 10) = true := by
        rw [bne, show (10 : Int) = ((10 : Nat) : Int) from rfl, u8_eq 10 (by omega)]; simpa using hx
      clear hx HA
      go_wp2_with fail
      go_round
      case rel => exact ⟨k + 1, by omega, by go_num, HN.out⟩
      case measure => simp [intOf]; omega
    have HE := Lib.hid (endT_at HA.out hlt hx)
    have hx' : ((s[k].toNat : Int) != 10) = false := by rw [hx]; rfl
    have hne : ((k : Int) == s.length) = false := by rw [beq_eq_false_iff_ne]; omega
    clear hx HA
    by_cases h120 : (120 : Int) < k
    · have HO : Hid (firstOk s = false) := by
        show _ = _
        rw [firstOk, decide_eq_false (by rw [HE.out]; omega)]; rfl
      have HF := Lib.hid (first_no HO.out)
      go_wp2_with fail
      go_ret2
      exact ⟨ret_first HF.out.1.symm (by rw [HF.out.2]; rfl), grefl _⟩
    have HH : Hid (headT s = s.take k) := by show _ = _; rw [headT, HE.out]
    have hlk : (s.take k).length = k := by simp; omega
    have hkle : (k : Int) ≤ s.length := by omega
    have hk0 : (0 : Int) ≤ k := by omega
    have htk : (s.drop 0).take (k - 0) = s.take k := by simp
    go_wp2_with fail
    go_fit (l1Split32_any (s.take k) _ (by omega))
    rintro e w1 ⟨sv, rfl, T1, g1⟩
    obtain ⟨sa, sc, rfl, -⟩ := Own.form T1
    have HL : Hid (splitT 32 (s.take k) = splitT 32 (headT s)) := by show _ = _; rw [HH.out]
    have H2 : Hid (3 ≤ (splitT 32 (s.take k)).length → ((splitT 32 (s.take k)).getD 0 []).length + ((splitT 32 (s.take k)).getD 1 []).length + 2 ≤ k) := fun h => by have := two_words h; omega
    have HBh : Hid (behindT (headT s) = (s.drop (((splitT 32 (s.take k)).getD 0 []).length + ((splitT 32 (s.take k)).getD 1 []).length + 2)).take (k - (((splitT 32 (s.take k)).getD 0 []).length + ((splitT 32 (s.take k)).getD 1 []).length + 2))) := by
      show _ = _
      rw [behindT, HH.out, List.drop_take]
    generalize splitT 32 (s.take k) = L at *
    by_cases h3 : L.length < 3
    · have HO : Hid (firstOk s = false) := by
        show _ = _
        rw [firstOk, ← HL.out, decide_eq_false (show ¬ 3 ≤ L.length by omega)]; simp
      have HF := Lib.hid (first_no HO.out)
      have h3i : (L.length : Int) < 3 := by omega
      clear h3
      go_wp2_with fail
      go_ret2
      exact ⟨ret_first HF.out.1.symm (by rw [HF.out.2]; rfl), g1⟩
    have h3i : ¬ (L.length : Int) < 3 := by omega
    obtain ⟨g, o, rfl, x0⟩ := TR.at T1.rd 0 (by omega)
    obtain ⟨g', o', e', x1⟩ := TR.at T1.rd 1 (by omega)
    cases e'
    have hl0 : (L.getD 0 []) = L[0] := by simp [List.getD_eq_getElem?_getD, show 0 < L.length by omega]
    have hl1 : (L.getD 1 []) = L[1] := by simp [List.getD_eq_getElem?_getD, show 1 < L.length by omega]
    rw [hl0, hl1] at H2 HBh
    have h2k := H2.out (by omega)
    have H3 : Hid (3 ≤ L.length) := by show _ ≤ _; omega
    simp only [Nat.add_zero] at x0
    generalize L[0] = A0 at *
    generalize L[1] = A1 at *
    have x0' : w1.drew.cell? ⟨g, o, none⟩ = some (.string (str A0)) := x0
    have x1' : w1.drew.cell? ⟨g, o + 1, none⟩ = some (.string (str A1)) := x1
    have hL1 : (1 : Int) < L.length := by omega
    have hL0 : (0 : Int) < L.length := by omega
    have ha0 : (A0.length : Int) ≤ 120 := by omega
    have ha1 : (A1.length : Int) ≤ 120 := by omega
    have hsum : (A0.length : Int) + A1.length + 2 ≤ k := by omega
    have hsum0 : (0 : Int) ≤ (A0.length : Int) + A1.length + 2 := by omega
    have htn : ((A0.length : Int) + A1.length + 2).toNat = A0.length + A1.length + 2 := by omega
    have hw1 : IntKind.i64.wrap ((A0.length : Int) + A1.length) = (A0.length : Int) + A1.length := IntWalk.i64_in _ (by omega)
    have hw2 : IntKind.i64.wrap ((A0.length : Int) + A1.length + 2) = (A0.length : Int) + A1.length + 2 := IntWalk.i64_in _ (by omega)
    clear hl0 hl1 h3
    go_wp2_with fail
    go_quiet (fail)
    have htl : ((s.drop (A0.length + A1.length + 2)).take (k - (A0.length + A1.length + 2))).length ≤ 120 := by simp; omega
    go_wp2_with fail
    generalize (s.drop (A0.length + A1.length + 2)).take (k - (A0.length + A1.length + 2)) = t at *
    have g2 : w.grownBy (w1.drewN nq) none := gdrew g1 nq
    generalize w1.drewN nq = W1 at *
    cases hpl : plainT t
    · have HO : Hid (firstOk s = false) := by
        show _ = _
        rw [firstOk, HBh.out, hpl]; simp
      have HF := Lib.hid (first_no HO.out)
      go_wp2_with fail
      refine region_calm (fun w' => w.grownBy w' none) (by kernel_rfl) (by kernel_rfl) (gdrew g2 1) ?_
      repeat (first
        | (refine calm_skip (by rfl) ?_; simp only [Act.put, List.setIfInBounds_toArray, List.set_cons_zero, List.set_cons_succ])
        | (refine calm_step (by rfl) ?_
           apply Exists.intro
           refine ⟨fun w' hw' => ?_, ?_⟩
           · go_simp
             first | done | exact rfl | (go_at_call 233; go_fit (l8Plain_any _ _ (by omega)); rintro e w8 ⟨rfl, rfl⟩; rw [hpl]; exact ⟨rfl, hw'⟩)
           simp only [Act.put, List.setIfInBounds_toArray, List.set_cons_zero, List.set_cons_succ]))
      refine calm_nil ?_
      intro w9 hw9
      go_wp2_with fail
      go_ret2
      exact ⟨ret_first HF.out.1.symm (by rw [HF.out.2]; rfl), hw9⟩
    have hw3 : IntKind.i64.wrap ((k : Int) + 1) = (k : Int) + 1 := IntWalk.i64_in _ (by omega)
    have hk1 : (k : Int) + 1 ≤ s.length := by omega
    have hk10 : (0 : Int) ≤ (k : Int) + 1 := by omega
    have htn1 : ((k : Int) + 1).toNat = k + 1 := by omega
    cases hfr : (frameT t == s.take (k + 1))
    · have HO : Hid (firstOk s = false) := by
        show _ = _
        rw [firstOk, HBh.out, HE.out, hfr]; simp
      have HF := Lib.hid (first_no HO.out)
      go_wp2_with fail
      refine region_calm (fun w' => w.grownBy w' none) (by kernel_rfl) (by kernel_rfl) (gdrew g2 1) ?_
      repeat (first
        | (refine calm_skip (by rfl) ?_; simp only [Act.put, List.setIfInBounds_toArray, List.set_cons_zero, List.set_cons_succ])
        | (refine calm_step (by rfl) ?_
           apply Exists.intro
           refine ⟨fun w' hw' => ?_, ?_⟩
           · go_simp
             first | done | exact rfl | (go_at_call 233; go_fit (l8Plain_any _ _ (by omega)); rintro e w8 ⟨rfl, rfl⟩; rw [hpl]; exact ⟨rfl, hw'⟩) | (go_at_call 89; go_fit (l8Framed_any _ _ (by omega)); rintro e w8 ⟨rfl, g8⟩; exact ⟨rfl, gtrans hw' g8⟩)
           simp only [Act.put, List.setIfInBounds_toArray, List.set_cons_zero, List.set_cons_succ]))
      refine calm_nil ?_
      intro w9 hw9
      go_wp2_with fail
      go_ret2
      exact ⟨ret_first HF.out.1.symm (by rw [HF.out.2]; rfl), hw9⟩
    · have HO : Hid (firstOk s = true) := by
        show _ = _
        rw [firstOk, HBh.out, HE.out, hfr, hpl, ← HL.out, decide_eq_true H3.out, decide_eq_true (show k < s.length ∧ k ≤ 120 by omega)]; rfl
      have HF := Lib.hid (first_yes HO.out)
      go_wp2_with fail
      refine region_calm (fun w' => w.grownBy w' none) (by kernel_rfl) (by kernel_rfl) (gdrew g2 1) ?_
      repeat (first
        | (refine calm_skip (by rfl) ?_; simp only [Act.put, List.setIfInBounds_toArray, List.set_cons_zero, List.set_cons_succ])
        | (refine calm_step (by rfl) ?_
           apply Exists.intro
           refine ⟨fun w' hw' => ?_, ?_⟩
           · go_simp
             first | done | exact rfl | (go_at_call 233; go_fit (l8Plain_any _ _ (by omega)); rintro e w8 ⟨rfl, rfl⟩; rw [hpl]; exact ⟨rfl, hw'⟩) | (go_at_call 89; go_fit (l8Framed_any _ _ (by omega)); rintro e w8 ⟨rfl, g8⟩; exact ⟨rfl, gtrans hw' g8⟩)
           simp only [Act.put, List.setIfInBounds_toArray, List.set_cons_zero, List.set_cons_succ]))
      refine calm_nil ?_
      intro w9 hw9
      go_wp2_with fail
      go_ret2
      exact ⟨ret_first (by rw [HF.out.1, HBh.out]) (by rw [HF.out.2, HE.out]; simp), hw9⟩
end Go.Proofs.YteialkknddpbjaaGreatDoor
namespace Go.Proofs.YteialkknddpbjaaGreatDoor
open Go.ChangeShapes Go.WideShapes Go.ChangeAt Go.RowKit
attribute [local go_sem] str_list str_size str_add lit_list0 add_lit lit_add str_cut

theorem firstN_le {s : List UInt8} (h : firstOk s = true) : 1 ≤ firstN s ∧ firstN s ≤ s.length := by
  rw [(first_yes h).2]
  simp only [firstOk, Bool.and_eq_true, decide_eq_true_eq] at h
  omega
theorem firstT_len (s : List UInt8) : (firstT s).length ≤ 120 := by
  cases h : firstOk s
  · rw [(first_no h).1]; simp
  · rw [(first_yes h).1]
    simp only [firstOk, Bool.and_eq_true, decide_eq_true_eq] at h
    simp [behindT, headT]; omega
theorem firstN_zero (s : List UInt8) : ((firstN s : Int) == 0) = !firstOk s := by
  cases h : firstOk s
  · rw [(first_no h).2]; rfl
  · have := (firstN_le h).1
    simp; omega
set_option linter.unusedVariables false in
/-- the patches of a log -/
def entsT (s : List UInt8) : List PZ :=
  if h : firstOk s = true ∧ readPok (firstT s) = true then readP (firstT s) :: entsT (s.drop (firstN s)) else []
termination_by s.length
decreasing_by have := firstN_le h.1; simp; omega
theorem entsT_no {s : List UInt8} (h : ¬ (firstOk s = true ∧ readPok (firstT s) = true)) : entsT s = [] := by rw [entsT, dif_neg h]
theorem entsT_yes {s : List UInt8} (h : firstOk s = true ∧ readPok (firstT s) = true) : entsT s = readP (firstT s) :: entsT (s.drop (firstN s)) := by rw [entsT, dif_pos h]
theorem entsT_len (s : List UInt8) : (entsT s).length ≤ s.length := by
  by_cases h : firstOk s = true ∧ readPok (firstT s) = true
  · rw [entsT_yes h]
    have q := firstN_le h.1
    have ih := entsT_len (s.drop (firstN s))
    simp at ih ⊢; omega
  · rw [entsT_no h]; simp
termination_by s.length
decreasing_by have := firstN_le h.1; simp; omega
/-- a new list of patches -/
def GotPL (l : List PZ) (w : World) (e : Ending) (w' : World) : Prop := ∃ v raw, e = .returned v ∧ OP w' w.heap.size v l raw ∧ w.grownBy w' none
set_option maxRecDepth 8000 in
set_option maxHeartbeats 4000000 in
theorem specEntries_any (s : List UInt8) (w : World) (hs : s.length ≤ 1100000) :
    Calls Tryz.prog 88 #[.string (str s)] w (GotPL (entsT s) w) := by
  have C0 := OP.empty w
  have g0 := galloc (grefl w) (.cells #[] 97)
  go_enter Tryz.func88, Tryz.ntmps88
  go_wp2
  go_loopw [0, 3] (fun lg out wr => ∃ (t : List UInt8) (done : List PZ) (raw : List PV), lg = .string (str t) ∧ OP wr w.heap.size out done raw ∧ w.grownBy wr none ∧ t.length ≤ 1100000 ∧ done.length + t.length ≤ 1100000 ∧ Hid (entsT s = done ++ entsT t)) (fun lg _ _ => szOf lg)
  case atStart => exact ⟨s, [], [], rfl, C0, g0, hs, by simpa using hs, rfl⟩
  case round =>
    clear C0 g0
    obtain ⟨t, done, raw, rfl, C, G, htl, hdl, HS⟩ := hrel
    obtain ⟨oa, oc, rfl, -⟩ := C.form
    have hz := firstN_zero t
    have hfl := firstT_len t
    go_wp2_with fail
    go_fit (l8First_any t _ htl)
    rintro e w2 ⟨rfl, g2⟩
    go_wp2_with fail
    go_fit (specReadPatch_any (firstT t) _ (by omega))
    rintro e w3 ⟨dv, vv, rfl, id, iv, ap, g3⟩
    obtain ⟨da, dm, dc, rfl⟩ := id.sl
    obtain ⟨va, vm, vc, rfl⟩ := iv.sl
    have g4 := galloc (grefl w3) (.cells #[.int .i64 (readPZ (firstT t)).row, .slice da dm dc, .slice va vm vc] 97)
    have B4 := Box3.new w3 (.int .i64 (readPZ (firstT t)).row) (.slice da dm dc) (.slice va vm vc) 97
    have C4 := C.grew (gtrans (gtrans g2 g3) g4)
    have G4 := gtrans G (gtrans (gtrans g2 g3) g4)
    have I4 : PV.Is (w3.alloc (.cells #[.int .i64 (readPZ (firstT t)).row, .slice da dm dc, .slice va vm vc] 97)) w2.heap.size ⟨(readPZ (firstT t)).row, da, dm, dc, va, vm, vc⟩ (readPZ (firstT t)) := ⟨rfl, Own.grew id g4, Own.grew iv g4⟩
    have hs2 := (gtrans G g2).size
    have hs3 := g2.size
    have HNew : Hid (∀ k, PV.has ⟨(readPZ (firstT t)).row, da, dm, dc, va, vm, vc⟩ k → (∀ i (hi : i < raw.length), ¬ raw[i].has k) ∧ (Value.slice oa done.length oc).ownBlock ≠ some k) := fun k hk => by
      have h1 : w2.heap.size ≤ k := by
        rcases hk with hk | hk
        · exact (id.lt k hk).1
        · exact (iv.lt k hk).1
      exact ⟨fun i hi x => by have := (C.in i hi k x).2; omega, fun x => by have := (C.own.lt k x).2; omega⟩
    go_upto_region 4 with (fail)
    generalize w3.alloc (.cells #[.int .i64 (readPZ (firstT t)).row, .slice da dm dc, .slice va vm vc] 97) = W4 at *
    generalize w3.heap.size = b4 at *
    obtain ⟨b0, b1, b2⟩ := B4
    by_cases hok : firstOk t = true ∧ readPok (firstT t) = true
    rotate_left
    · have HE : Hid (entsT s = done) := by show _ = _; rw [HS.out, entsT_no hok, List.append_nil]
      cases h1 : firstOk t
      · rw [h1] at hz
        go_wp2_with fail
        go_ret
        exact ⟨_, raw, rfl, by rw [HE.out]; exact C4, G4⟩
      · have h2 : readPok (firstT t) = false := by
          cases h2 : readPok (firstT t)
          · rfl
          · exact absurd ⟨h1, h2⟩ hok
        rw [h1] at hz
        go_wp2_with fail
        go_ret
        exact ⟨_, raw, rfl, by rw [HE.out]; exact C4, G4⟩
    · have HE : Hid (entsT s = (done ++ [readPZ (firstT t)]) ++ entsT (t.drop (firstN t))) := by
        show _ = _
        rw [HS.out, entsT_yes hok, readPZ_yes hok.2]; simp
      have hN := firstN_le hok.1
      have hNi : (firstN t : Int) ≤ t.length := by omega
      have hN0 : (0 : Int) ≤ firstN t := by omega
      obtain ⟨h1, h2⟩ := hok
      rw [h1] at hz
      have hsw := G4.size
      go_wp2_with (first | (at_builtin; refine wpList_append_o (E := patE) (base := w.heap.size) rfl (.tmp 26) (.tmp 28) rfl rfl rfl (Own.grew C4.own (galloc (grefl _) _)) (PV.single _ ⟨(readPZ (firstT t)).row, da, dm, dc, va, vm, vc⟩) (by have := C4.len; simp; omega) (by decide) (by simp; omega) ?_; intro v' w6 o6 g6 b6; have C6 := OP.app (C4.grew (galloc (grefl _) _)) _ (readPZ (firstT t)) ((I4.lower hs2).grew (galloc (grefl _) _)) ap HNew.out g6 o6 b6; have G6 := gnew (galloc G4 _) g6 (fun j e => (C4.own.lt j e).1); clear g6 b6 o6))
      have HT : Hid ((t.drop (firstN t)).take (t.length - firstN t) = t.drop (firstN t)) := List.take_of_length_le (by simp)
      go_roundw
      case rel => exact ⟨t.drop (firstN t), _, _, by rw [HT.out], C6, G6, by simp; omega, by simp; omega, HE.out⟩
      case measure => rw [HT.out]; simp [szOf, str_size]; omega
end Go.Proofs.YteialkknddpbjaaGreatDoor
