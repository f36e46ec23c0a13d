/- What the specification's functions of chapter 6 return. What the specification's functions of chapter 6 return: rows, lost cells. -/
import Derived.Deep.DeepFit
import Derived.Deep.DeepCutAuto
import Derived.Test.YteialkknddpbjaaGreatDoorPH01
import Derived.Test.YteialkknddpbjaaGreatDoorPH09
import Derived.Test.YteialkknddpbjaaGreatDoorPH11
namespace Go.Proofs.YteialkknddpbjaaGreatDoor
open Go.ChangeShapes Go.WideShapes Go.ChangeAt Go.RowKit

set_option maxHeartbeats 1000000 in
theorem specDisksOk_any (v : Value) (l : List DZ) (w : World) (h : LD w v l) :
    Calls Tryz.prog 80 #[v] w (Pure (.bool (disksOkZ l)) w) := by
  obtain ⟨a, cap, rfl, hm⟩ := h.form
  cases hl : inB l.length 3 5
  · have HN := Lib.hid (disksOk_len hl)
    go_enter Tryz.func80, Tryz.ntmps80
    go_wp2_with fail
    go_fit (l5N_any _ _)
    rintro e w' ⟨rfl, rfl⟩
    go_wp2_with fail
    go_ret
    exact ⟨ret_bool HN.out.symm, grefl _⟩
  have hl5 := inB_iff.1 hl
  have HL := Lib.hid hl
  go_enter Tryz.func80, Tryz.ntmps80
  go_wp2_with fail
  go_fit (l5N_any _ _)
  rintro e w' ⟨rfl, rfl⟩
  go_wp2_with fail
  clear hl
  go_loopw [3, 4] (fun p i wr => ∃ k q : Nat, k ≤ l.length ∧ q ≤ 16 ∧ i = .int .i64 k ∧ p = .int .i64 q ∧ Hid (DokS l k q) ∧ w.grownBy wr none) (fun _ i _ => l.length - (intOf i).toNat)
  case atStart => exact ⟨0, 0, Nat.zero_le _, by omega, rfl, rfl, DokS.start l, grefl _⟩
  case round =>
    obtain ⟨k, q, hk, hq, rfl, rfl, HS, G⟩ := hrel
    by_cases hlt : k < l.length
    · obtain ⟨g, o, ka, km, kc, na, nm, nc, rfl, x0, x1, x2, x3, D⟩ := (h.kept G).at k hlt
      have hnm := D.2.bound.1
      have hki : (k : Int) < l.length := by omega
      have B0 := Box4.new wr (.int .i64 l[k].n) (.bool l[k].dead) (.slice ka km kc) (.slice na nm nc) 37
      have G0 := galloc (grefl wr) (.cells #[.int .i64 l[k].n, .bool l[k].dead, .slice ka km kc, .slice na nm nc] 37)
      have HNM := Lib.hid hnm
      have hnmb : nm ≤ 9223372036854775807 := by have := D.2.bound.2; omega
      clear hnm
      go_upto_region 8 with (fail)
      generalize wr.alloc (.cells #[.int .i64 l[k].n, .bool l[k].dead, .slice ka km kc, .slice na nm nc] 37) = W at *
      generalize wr.heap.size = bb at *
      have G1 := gtrans G G0
      clear x0 x1 x2 x3
      cases hok : l[k].ok
      · have HN := Lib.hid (disksOk_bad hlt (.inl hok))
        go_wp2_with fail
        go_fit (specDiskOk_any _ _ l[k] _ (D.grew G0))
        rintro e w2 ⟨rfl, g2⟩
        obtain ⟨b0, b1, b2, b3⟩ := B0.kept g2
        clear B0
        go_wp2_with fail
        go_ret
        exact ⟨ret_bool HN.out.symm, gtrans G1 g2⟩
      by_cases hn : l[k].n = (k : Int)
      rotate_left
      · have HN := Lib.hid (disksOk_bad hlt (.inr hn))
        have hn' : (l[k].n != (k : Int)) = true := bne_iff_ne.2 hn
        clear hn
        go_wp2_with fail
        go_fit (specDiskOk_any _ _ l[k] _ (D.grew G0))
        rintro e w2 ⟨rfl, g2⟩
        obtain ⟨b0, b1, b2, b3⟩ := B0.kept g2
        clear B0
        go_wp2_with fail
        go_ret
        exact ⟨ret_bool HN.out.symm, gtrans G1 g2⟩
      have hn' : (l[k].n != (k : Int)) = false := by simp [hn]
      cases hd : l[k].dead
      rotate_left
      · have HN := Lib.hid (DokS.gone HS.out hlt hok hn hd)
        clear hn HS
        have HD := Lib.hid hd
        clear hd
        go_wp2_with fail
        go_fit (specDiskOk_any _ _ l[k] _ (D.grew G0))
        rintro e w2 ⟨rfl, g2⟩
        obtain ⟨b0, b1, b2, b3⟩ := B0.kept g2
        clear B0
        rw [HD.out] at b1
        go_wp2_with fail
        go_roundw
        case rel => exact ⟨k + 1, q, by omega, hq, by go_num, rfl, HN.out, gtrans G1 g2⟩
        case measure => simp [intOf]; omega
      have h16 := (DZ.ok_pos hok hd).2
      by_cases hq0 : q = 0
      · have HN := Lib.hid (DokS.live HS.out hlt hok hn hd (.inl hq0))
        rw [← HNM.out] at HN
        subst hq0
        clear hn HS
        have HD := Lib.hid hd
        clear hd
        go_wp2_with fail
        go_fit (specDiskOk_any _ _ l[k] _ (D.grew G0))
        rintro e w2 ⟨rfl, g2⟩
        obtain ⟨b0, b1, b2, b3⟩ := B0.kept g2
        clear B0
        rw [HD.out] at b1
        go_wp2_with fail
        go_roundw
        case rel => exact ⟨k + 1, nm, by omega, by rw [HNM.out]; exact h16, by go_num, rfl, HN.out, gtrans G1 g2⟩
        case measure => simp [intOf]; omega
      have hqp : (0 : Int) < q := by omega
      by_cases hq1 : nm = q
      · have HN := Lib.hid (DokS.live HS.out hlt hok hn hd (.inr (by rw [← HNM.out]; exact hq1)))
        rw [← HNM.out] at HN
        have hq2 : ((nm : Int) != (q : Int)) = false := by simp [hq1]
        clear hn HS hq1 hq0
        have HD := Lib.hid hd
        clear hd
        go_wp2_with fail
        go_fit (specDiskOk_any _ _ l[k] _ (D.grew G0))
        rintro e w2 ⟨rfl, g2⟩
        obtain ⟨b0, b1, b2, b3⟩ := B0.kept g2
        clear B0
        rw [HD.out] at b1
        go_wp2_with fail
        go_roundw
        case rel => exact ⟨k + 1, nm, by omega, by rw [HNM.out]; exact h16, by go_num, rfl, HN.out, gtrans G1 g2⟩
        case measure => simp [intOf]; omega
      · have HN := Lib.hid (DokS.bad HS.out hlt hd (by omega) (by rw [← HNM.out]; exact hq1))
        have hq2 : ((nm : Int) != (q : Int)) = true := bne_iff_ne.2 (by omega)
        clear hn HS hq1 hq0
        have HD := Lib.hid hd
        clear hd
        go_wp2_with fail
        go_fit (specDiskOk_any _ _ l[k] _ (D.grew G0))
        rintro e w2 ⟨rfl, g2⟩
        obtain ⟨b0, b1, b2, b3⟩ := B0.kept g2
        clear B0
        rw [HD.out] at b1
        go_wp2_with fail
        go_ret
        exact ⟨ret_bool HN.out.symm, gtrans G1 g2⟩
    · obtain rfl : k = l.length := by omega
      have HN := Lib.hid (DokS.ends HS.out HL.out)
      clear HS
      go_wp2_with fail
      go_ret
      exact ⟨by rw [HN.out]; simp, G⟩
end Go.Proofs.YteialkknddpbjaaGreatDoor
namespace Go.Proofs.YteialkknddpbjaaGreatDoor
open Go.ChangeShapes Go.WideShapes Go.ChangeAt Go.RowKit

theorem rowsZ_here {l : List DZ} {k : Nat} (hk : k < l.length) (ha : (l.take k).all (·.dead) = true) (hd : l[k].dead = false) : rowsZ l = l[k].m.length := by
  induction l generalizing k with
  | nil => simp at hk
  | cons x r ih =>
    cases k with
    | zero => simp only [List.getElem_cons_zero] at hd ⊢; simp [rowsZ, hd]
    | succ k =>
      simp only [List.take_succ_cons, List.all_cons, Bool.and_eq_true] at ha
      simp only [List.getElem_cons_succ] at hd ⊢
      simp [rowsZ, ha.1, ih (by simpa using hk) ha.2 hd]
theorem l6Rows_any (v : Value) (l : List DZ) (w : World) (h : LD w v l) :
    Calls Tryz.prog 81 #[v] w fun e w' => e = .returned (.int .i64 (rowsZ l)) ∧ w = w' := by
  obtain ⟨a, cap, rfl, hm⟩ := h.form
  go_enter Tryz.func81, Tryz.ntmps81
  go_wp2
  go_loop [3] (fun i => ∃ k : Nat, k ≤ l.length ∧ i = .int .i64 k ∧ Hid ((l.take k).all (·.dead) = true)) (fun i => l.length - (intOf i).toNat)
  case atStart => exact ⟨0, Nat.zero_le _, rfl, rfl⟩
  case round =>
    obtain ⟨k, hk, rfl, HA⟩ := hrel
    by_cases hlt : k < l.length
    · obtain ⟨g, o, ka, km, kc, na, nm, nc, rfl, x0, x1, x2, x3, D⟩ := h.at k hlt
      have hki : (k : Int) < l.length := by omega
      cases hd : l[k].dead
      · have HN := Lib.hid (rowsZ_here hlt HA.out hd)
        have HNM := Lib.hid D.2.bound.1
        rw [hd] at x1
        clear hd HA D
        go_wp2_with fail
        go_ret
        exact ⟨ret_int (by rw [HN.out, HNM.out]), rfl⟩
      · have HN : Hid ((l.take (k + 1)).all (·.dead) = true) := by show _ = _; rw [List.take_succ_eq_append_getElem hlt, List.all_append, HA.out]; simp [hd]
        rw [hd] at x1
        clear hd HA D
        go_wp2_with fail
        go_round
        case rel => exact ⟨k + 1, by omega, by go_num, HN⟩
        case measure => simp [intOf]; omega
    · have HN : Hid (rowsZ l = 0) := by
        show _ = _
        have := HA.out
        rw [List.take_of_length_le (by omega)] at this
        exact rowsZ_dead this
      clear HA
      go_wp2_with fail
      go_ret
      exact ⟨ret_int (by rw [HN.out]; rfl), rfl⟩
theorem specRowsOf_any (v : Value) (l : List DZ) (w : World) (h : LD w v l) :
    Calls Tryz.prog 20 #[v] w (Pure (.int .i64 (rowsOfZ l)) w) := by
  obtain ⟨a, cap, rfl, hm⟩ := h.form
  cases ho : disksOkZ l
  · have HN := Lib.hid (show rowsOfZ l = -1 by simp [rowsOfZ, ho])
    go_enter Tryz.func20, Tryz.ntmps20
    go_wp2_with fail
    go_fit (specDisksOk_any _ l _ h)
    rintro e w1 ⟨rfl, g1⟩
    go_wp2_with fail
    go_ret
    exact ⟨ret_int HN.out.symm, g1⟩
  · have HN := Lib.hid (show rowsOfZ l = rowsZ l by simp [rowsOfZ, ho])
    go_enter Tryz.func20, Tryz.ntmps20
    go_wp2_with fail
    go_fit (specDisksOk_any _ l _ h)
    rintro e w1 ⟨rfl, g1⟩
    go_wp2_with fail
    go_fit (l6Rows_any _ l _ (h.kept g1))
    rintro e w' ⟨rfl, rfl⟩
    go_wp2_with fail
    go_ret
    exact ⟨ret_int HN.out.symm, g1⟩
theorem l6Has_any (v : Value) (l : List DZ) (r : Int) (w : World) (h : LD w v l) :
    Calls Tryz.prog 91 #[v, .int .i64 r] w (Pure (.bool (hasZ l r)) w) := by
  obtain ⟨a, cap, rfl, hm⟩ := h.form
  cases ho : disksOkZ l
  · have HN := Lib.hid (show hasZ l r = false by simp [hasZ, ho])
    go_enter Tryz.func91, Tryz.ntmps91
    go_wp2_with fail
    go_fit (specDisksOk_any _ l _ h)
    rintro e w1 ⟨rfl, g1⟩
    go_wp2_with fail
    go_ret
    exact ⟨ret_bool HN.out.symm, g1⟩
  by_cases h0 : 0 ≤ r
  · have HN := Lib.hid (show hasZ l r = decide (r < rowsZ l) by simp [hasZ, ho, h0])
    go_enter Tryz.func91, Tryz.ntmps91
    go_wp2_with fail
    go_fit (specDisksOk_any _ l _ h)
    rintro e w1 ⟨rfl, g1⟩
    go_wp2_with fail
    go_fit (l6Rows_any _ l _ (h.kept g1))
    rintro e w' ⟨rfl, rfl⟩
    go_wp2_with fail
    go_ret
    exact ⟨ret_bool HN.out.symm, g1⟩
  · have HN := Lib.hid (show hasZ l r = false by simp [hasZ, h0])
    go_enter Tryz.func91, Tryz.ntmps91
    go_wp2_with fail
    go_fit (specDisksOk_any _ l _ h)
    rintro e w1 ⟨rfl, g1⟩
    go_wp2_with fail
    go_ret
    exact ⟨ret_bool HN.out.symm, g1⟩
theorem l6Bad_any (v : Value) (l : List DZ) (r : Int) (w : World) (h : LD w v l) (hl : l.length ≤ 1048576) :
    Calls Tryz.prog 93 #[v, .int .i64 r] w (GotI (badZ l r) w) := by
  obtain ⟨a, cap, rfl, hm⟩ := h.form
  have C0 := IS.empty w (Nat.le_refl w.heap.size)
  have g0 := galloc (grefl w) (.cells #[] 2)
  go_enter Tryz.func93, Tryz.ntmps93
  go_wp2
  go_loopw [5, 6] (fun out i wr => ∃ k : Nat, k ≤ l.length ∧ i = .int .i64 k ∧ IS wr w.heap.size out (badL l r k) ∧ w.grownBy wr none) (fun _ i _ => l.length - (intOf i).toNat)
  case atStart => exact ⟨0, Nat.zero_le _, rfl, C0, g0⟩
  case round =>
    clear C0 g0
    obtain ⟨k, hk, rfl, C, G⟩ := hrel
    obtain ⟨va, vn, vc, rfl⟩ := C.sl
    by_cases hlt : k < l.length
    · obtain ⟨g, o, ka, km, kc, na, nm, nc, rfl, x0, x1, x2, x3, D⟩ := (h.kept G).at k hlt
      have hki : (k : Int) < l.length := by omega
      have HB := Lib.hid (badL_next l r k hlt)
      have hbl := badL_length l r k
      cases hc : l[k].can r
      · have HB' : Hid (badL l r (k + 1) = badL l r k ++ [(k : Int)]) := by show _ = _; rw [HB.out, hc]; rfl
        clear HB
        go_wp2_with fail
        go_fit (l3Read_any _ _ l[k] r _ D)
        rintro e w2 ⟨rfl, g2⟩
        rw [hc]
        have C2 := C.grew g2
        have hs := (gtrans G g2).size
        go_wp2_with (first | (at_builtin; refine wpList_append_o (E := intE) (base := w.heap.size) rfl (.tmp 27) (.tmp 29) rfl rfl rfl (C2.grew (galloc (grefl _) _)) (IS.single _ (k : Int) (Nat.zero_le _)) (by simp; omega) (by decide) (by simp; omega) ?_; intro v' w6 o6 g6 b6; have G6 := gnew (galloc (gtrans G g2) _) g6 (fun j e => (C2.lt j e).1); rw [← HB'.out] at o6; clear g6 b6))
        go_roundw
        case rel => exact ⟨k + 1, by omega, by go_num, o6, G6⟩
        case measure => simp [intOf]; omega
      · have HB' : Hid (badL l r (k + 1) = badL l r k) := by show _ = _; rw [HB.out, hc]; rfl
        clear HB
        go_wp2_with fail
        go_fit (l3Read_any _ _ l[k] r _ D)
        rintro e w2 ⟨rfl, g2⟩
        rw [hc]
        have C2 := C.grew g2
        rw [← HB'.out] at C2
        go_wp2_with fail
        go_roundw
        case rel => exact ⟨k + 1, by omega, by go_num, C2, gtrans G g2⟩
        case measure => simp [intOf]; omega
    · obtain rfl : k = l.length := by omega
      go_wp2_with fail
      go_ret
      exact ⟨_, rfl, C, G⟩
theorem specBadIn_any (v : Value) (l : List DZ) (r : Int) (w : World) (h : LD w v l) (hl : l.length ≤ 1048576) :
    Calls Tryz.prog 27 #[v, .int .i64 r] w (GotI (badInZ l r) w) := by
  obtain ⟨a, cap, rfl, hm⟩ := h.form
  cases ho : hasZ l r
  · have HN := Lib.hid (show badInZ l r = [] by simp [badInZ, ho])
    go_enter Tryz.func27, Tryz.ntmps27
    go_wp2_with fail
    go_fit (l6Has_any _ l r _ h)
    rintro e w1 ⟨rfl, g1⟩
    go_wp2_with fail
    go_ret
    exact ⟨_, rfl, by rw [HN.out]; exact IS.empty w1 (gsize g1), galloc g1 _⟩
  · have HN := Lib.hid (show badInZ l r = badZ l r by simp [badInZ, ho])
    go_enter Tryz.func27, Tryz.ntmps27
    go_wp2_with fail
    go_fit (l6Has_any _ l r _ h)
    rintro e w1 ⟨rfl, g1⟩
    go_wp2_with fail
    go_fit (l6Bad_any _ l r _ (h.kept g1) hl)
    rintro e w2 ⟨v2, rfl, s2, g2⟩
    go_wp2_with fail
    go_ret
    exact ⟨_, rfl, by rw [HN.out]; exact s2.lower (gsize g1), gtrans g1 g2⟩
theorem xor_in {a b : Int} (ha0 : 0 ≤ a) (ha : a ≤ 32767) (hb0 : 0 ≤ b) (hb : b ≤ 32767) : 0 ≤ bits .xor .i64 a b ∧ bits .xor .i64 a b ≤ 32767 := by
  rw [xor64 ha0 ha hb0 hb]
  have := xor_lt (a := a.toNat) (b := b.toNat) (by omega) (by omega)
  omega
theorem l6Cell_any (v : Value) (l : List DZ) (d : Nat) (r : Int) (w : World) (h : LD w v l) (hl : l.length ≤ 1048576) (hd : d < l.length) :
    Calls Tryz.prog 92 #[v, .int .i64 d, .int .i64 r] w (Pure (.tuple #[.int .i64 (tellV l d r), .bool (tellOk l d r)]) w) := by
  obtain ⟨a, cap, rfl, hm⟩ := h.form
  obtain ⟨g, o, ka, km, kc, na, nm, nc, rfl, x0, x1, x2, x3, D⟩ := h.at d hd
  have hdi : (d : Int) < l.length := by omega
  cases hc : l[d].can r
  rotate_left
  · have H1 := Lib.hid (show tellV l d r = canV l[d] r by unfold tellV; rw [Int.toNat_natCast, getD_at hd, hc]; rfl)
    have H2 := Lib.hid (show tellOk l d r = true by unfold tellOk; rw [Int.toNat_natCast, getD_at hd, hc]; rfl)
    rw [H1.out, H2.out]
    go_enter Tryz.func92, Tryz.ntmps92
    go_wp2_with fail
    go_fit (l3Read_any _ _ l[d] r _ D)
    rintro e w2 ⟨rfl, g2⟩
    rw [hc]
    go_wp2_with fail
    go_ret2
    exact ⟨rfl, g2⟩
  by_cases hb : (badZ l r).length = 1
  rotate_left
  · have hbne : (((badZ l r).length : Int) != 1) = true := bne_iff_ne.2 (by omega)
    have hbb := badL_length l r l.length
    have hb' : ((badZ l r).length == 1) = false := beq_eq_false_iff_ne.2 hb
    have H1 := Lib.hid (show tellV l d r = 0 by unfold tellV; rw [Int.toNat_natCast, getD_at hd, hc, hb']; rfl)
    have H2 := Lib.hid (show tellOk l d r = false by unfold tellOk; rw [Int.toNat_natCast, getD_at hd, hc, hb']; rfl)
    clear hb hb'
    rw [H1.out, H2.out]
    go_enter Tryz.func92, Tryz.ntmps92
    go_wp2_with fail
    go_fit (l3Read_any _ _ l[d] r _ D)
    rintro e w2 ⟨rfl, g2⟩
    rw [hc]
    go_wp2_with fail
    go_fit (l6Bad_any _ l r _ (h.kept g2) hl)
    rintro e w3 ⟨v3, rfl, s3, g3⟩
    obtain ⟨a3, c3, rfl, -⟩ := s3.form
    go_wp2_with fail
    go_ret2
    exact ⟨rfl, gtrans g2 g3⟩
  have hb' : ((badZ l r).length == 1) = true := by simp [hb]
  have hbi : (((badZ l r).length : Int) != 1) = false := by simp [hb]
  have H1 := Lib.hid (show tellV l d r = rowXk l r l.length by unfold tellV; rw [Int.toNat_natCast, getD_at hd, hc, hb', rowXk_all]; rfl)
  have H2 := Lib.hid (show tellOk l d r = true by unfold tellOk; rw [Int.toNat_natCast, getD_at hd, hc, hb']; rfl)
  clear hb hb'
  rw [H1.out, H2.out]
  go_enter Tryz.func92, Tryz.ntmps92
  go_wp2_with fail
  go_fit (l3Read_any _ _ l[d] r _ D)
  rintro e w2 ⟨rfl, g2⟩
  rw [hc]
  go_wp2_with fail
  go_fit (l6Bad_any _ l r _ (h.kept g2) hl)
  rintro e w3 ⟨v3, rfl, s3, g3⟩
  obtain ⟨a3, c3, rfl, -⟩ := s3.form
  have G3 := gtrans g2 g3
  clear g2 g3 s3
  go_wp2_with fail
  clear x0 x1 x2 x3 D
  go_loopw [10, 11] (fun n i wr => ∃ k : Nat, k ≤ l.length ∧ i = .int .i64 k ∧ n = .int .i64 (rowXk l r k) ∧ w.grownBy wr none) (fun _ i _ => l.length - (intOf i).toNat)
  case atStart => exact ⟨0, Nat.zero_le _, rfl, rfl, G3⟩
  case round =>
    clear G3
    obtain ⟨k, hk, rfl, rfl, G⟩ := hrel
    by_cases hlt : k < l.length
    · have hki : (k : Int) < l.length := by omega
      by_cases hkd : k = d
      · subst hkd
        have HX := Lib.hid (rowXk_skip l r k hlt hc)
        clear hc
        go_wp2_with fail
        go_roundw
        case rel => exact ⟨k + 1, by omega, by go_num, by rw [HX.out], G⟩
        case measure => simp [intOf]; omega
      · obtain ⟨g, o, ka, km, kc, na, nm, nc, hga, x0, x1, x2, x3, D⟩ := (h.kept G).at k hlt
        cases hga
        have HX := Lib.hid (rowXk_next l r k hlt)
        have hne : ((k : Int) != (d : Int)) = true := bne_iff_ne.2 (by omega)
        clear hkd
        go_wp2_with fail
        go_fit (l3Read_any _ _ l[k] r _ D)
        rintro e w4 ⟨rfl, g4⟩
        go_wp2_with fail
        go_roundw
        case rel => exact ⟨k + 1, by omega, by go_num, by rw [HX.out], gtrans G g4⟩
        case measure => simp [intOf]; omega
    · obtain rfl : k = l.length := by omega
      go_wp2_with fail
      go_ret2
      exact ⟨rfl, G⟩
theorem specCellAt_any (v : Value) (l : List DZ) (d r : Int) (w : World) (h : LD w v l) (hl : l.length ≤ 1048576) :
    Calls Tryz.prog 26 #[v, .int .i64 d, .int .i64 r] w (Pure (.tuple #[.int .i64 (cellAtV l d r), .bool (cellAtOk l d r)]) w) := by
  obtain ⟨a, cap, rfl, hm⟩ := h.form
  cases ho : hasZ l r
  · have H2 : Hid (cellAtOk l d r = false) := by show _ = _; simp [cellAtOk, ho]
    have H1 := Lib.hid (show cellAtV l d r = 0 by simp [cellAtV, H2.out])
    rw [H1.out, H2.out]
    go_enter Tryz.func26, Tryz.ntmps26
    go_wp2_with fail
    go_fit (l6Has_any _ l r _ h)
    rintro e w1 ⟨rfl, g1⟩
    go_wp2_with fail
    go_ret2
    exact ⟨rfl, g1⟩
  by_cases h0 : d < 0
  · have H2 : Hid (cellAtOk l d r = false) := by show _ = _; simp [cellAtOk, show ¬ 0 ≤ d by omega]
    have H1 := Lib.hid (show cellAtV l d r = 0 by simp [cellAtV, H2.out])
    rw [H1.out, H2.out]
    go_enter Tryz.func26, Tryz.ntmps26
    go_wp2_with fail
    go_fit (l6Has_any _ l r _ h)
    rintro e w1 ⟨rfl, g1⟩
    go_wp2_with fail
    go_ret2
    exact ⟨rfl, g1⟩
  obtain ⟨k, rfl⟩ := Int.eq_ofNat_of_zero_le (show 0 ≤ d by omega)
  by_cases h1 : k < l.length
  rotate_left
  · have H2 : Hid (cellAtOk l k r = false) := by show _ = _; simp [cellAtOk, h1]
    have H1 := Lib.hid (show cellAtV l k r = 0 by simp [cellAtV, H2.out])
    rw [H1.out, H2.out]
    go_enter Tryz.func26, Tryz.ntmps26
    go_wp2_with fail
    go_fit (l6Has_any _ l r _ h)
    rintro e w1 ⟨rfl, g1⟩
    go_wp2_with fail
    go_ret2
    exact ⟨rfl, g1⟩
  have H2 : Hid (cellAtOk l k r = tellOk l k r) := by show _ = _; simp [cellAtOk, ho, h1]
  have H1 : Hid (cellAtV l k r = tellV l k r) := by
    show _ = _
    unfold cellAtV; rw [H2.out]
    cases ht : tellOk l k r
    · unfold tellOk at ht; simp only [Bool.or_eq_false_iff] at ht; unfold tellV; rw [ht.1, ht.2]; rfl
    · rfl
  have h1i : (k : Int) < l.length := by omega
  rw [H1.out, H2.out]
  go_enter Tryz.func26, Tryz.ntmps26
  go_wp2_with fail
  go_fit (l6Has_any _ l r _ h)
  rintro e w1 ⟨rfl, g1⟩
  go_wp2_with fail
  go_fit (l6Cell_any _ l k r _ (h.kept g1) hl h1)
  rintro e w2 ⟨rfl, g2⟩
  go_wp2_with fail
  go_ret2
  exact ⟨rfl, gtrans g1 g2⟩
end Go.Proofs.YteialkknddpbjaaGreatDoor
