/- What NewArray returns, the program's and the specification's. -/
import Derived.Test.YtdfhfebcbmolbaaGreatDoorOwnA
import Derived.Test.YtdfhfebcbmolbaaGreatDoorImplL03
namespace Go.Proofs.YtdfhfebcbmolbaaGreatDoor
open Go.ChangeShapes Go.WideShapes Go.ChangeAt Go.RowKit
attribute [local go_sem] str_list str_size str_add lit_list0 add_lit lit_add str_cut

theorem gsubN {a b c : World} {r : Option Nat} (h : a.grownBy b r) (g : b.grownBy c none) : a.grownBy c r :=
  ⟨g.os.trans h.os, g.tape.trans h.tape, g.output.trans h.output, Nat.le_trans h.size g.size, fun i hi hne => (g.block i (Nat.lt_of_lt_of_le hi h.size) (by simp)).trans (h.block i hi hne)⟩
def newAOk (n rows : Int) : Bool := inB n 3 5 && inB rows 1 16
def newAZ (n rows : Int) : AZ := if newAOk n rows then AZ.fresh (newDs rows.toNat n.toNat) else .zero
set_option maxRecDepth 8000 in
set_option maxHeartbeats 4000000 in
theorem specNewArray_any (n rows : Int) (w : World) :
    Calls Tryz.prog 39 #[.int .i64 n, .int .i64 rows] w (GotAB (newAZ n rows) (newAOk n rows) w) := by
  cases hok : newAOk n rows
  · have HE : Hid (newAZ n rows = .zero) := by show _ = _; simp [newAZ, hok]
    have Z0 := Zero5.new w
    have G0 := galloc (grefl w) zero5
    have s0 : (w.alloc zero5).heap.size = w.heap.size + 1 := by simp
    have hR := res5l (OD.nil (w.alloc zero5) (w.heap.size + 1)) (r := w.heap.size) (by omega) (Nat.le_refl _) G0 (.slice none 0 0) (.string ⟨#[]⟩) (.string ⟨#[]⟩) (.int .i64 0) (.bool false)
    cases hn : inB n 3 5
    · go_enter Tryz.func39, Tryz.ntmps39
      go_upto_region 1 with (fail)
      generalize w.alloc zero5 = W0 at *
      obtain ⟨⟨z0, y0⟩, ⟨z1, y1⟩, ⟨z2, y2⟩, ⟨z3, y3⟩, ⟨z4, y4⟩⟩ := Z0
      go_wp2_with fail
      go_fit (l5N_any _ _)
      rintro e w' ⟨rfl, rfl⟩
      rw [hn]
      go_wp2_with fail
      exact bodyPost_ret (v := .tuple #[.agg #[.slice none 0 0, .string ⟨#[]⟩, .string ⟨#[]⟩, .int .i64 0, .bool false], .bool false]) (by simp [results, Tryz.results39, go_sem, z0, z1, z2, z3, z4]) rfl ⟨_, [], by rw [HE.out]; rfl, by rw [HE.out]; exact hR.1, hR.2⟩
    · have hr : inB rows 1 16 = false := by simpa [newAOk, hn] using hok
      go_enter Tryz.func39, Tryz.ntmps39
      go_upto_region 1 with (fail)
      generalize w.alloc zero5 = W0 at *
      obtain ⟨⟨z0, y0⟩, ⟨z1, y1⟩, ⟨z2, y2⟩, ⟨z3, y3⟩, ⟨z4, y4⟩⟩ := Z0
      go_wp2_with fail
      go_fit (l5N_any _ _)
      rintro e w' ⟨rfl, rfl⟩
      rw [hn]
      go_wp2_with fail
      go_fit (l1In_any _ _ _ _)
      rintro e w' ⟨rfl, rfl⟩
      rw [hr]
      go_wp2_with fail
      exact bodyPost_ret (v := .tuple #[.agg #[.slice none 0 0, .string ⟨#[]⟩, .string ⟨#[]⟩, .int .i64 0, .bool false], .bool false]) (by simp [results, Tryz.results39, go_sem, z0, z1, z2, z3, z4]) rfl ⟨_, [], by rw [HE.out]; rfl, by rw [HE.out]; exact hR.1, hR.2⟩
  · have h := hok
    simp only [newAOk, Bool.and_eq_true] at h
    have hn' := inB_iff.1 h.1
    have hr' := inB_iff.1 h.2
    obtain ⟨a, rfl⟩ := Int.eq_ofNat_of_zero_le (show 0 ≤ n by omega)
    obtain ⟨b, rfl⟩ := Int.eq_ofNat_of_zero_le (show 0 ≤ rows by omega)
    have e : newAZ (a : Int) (b : Int) = AZ.fresh (newDs b a) := by simp [newAZ, hok]
    refine (specNewArray_yes a b w h.1 h.2).mono ?_
    rintro e1 w1 ⟨v, raw, rfl, o, g⟩
    exact ⟨v, raw, by rw [e], by rw [e]; exact o, g⟩
theorem newD_in {k : Nat} {rows : Nat} (hk : k ≤ 4) (hr : 1 ≤ rows ∧ rows ≤ 16) : newD (k : Int) (rows : Int) = ⟨k, false, newL k rows, newL k rows⟩ := by
  have : newOk (k : Int) (rows : Int) = true := by simp only [newOk, Bool.and_eq_true]; exact ⟨inB_yes (by omega) (by omega), inB_yes (by omega) (by omega)⟩
  unfold newD
  rw [if_pos this, Int.toNat_natCast]
set_option maxRecDepth 8000 in
set_option maxHeartbeats 4000000 in
theorem implNewArray_any (n rows : Int) (w : World) (bn : i64B n) :
    Calls Tryz.prog 31 #[.int .i64 n, .int .i64 rows] w (GotAB (newAZ n rows) (newAOk n rows) w) := by
  have Z0 := Zero5.new w
  have G0 := galloc (grefl w) zero5
  have s0 : (w.alloc zero5).heap.size = w.heap.size + 1 := by simp
  cases hok : newAOk n rows
  · have HE : Hid (newAZ n rows = .zero) := by show _ = _; simp [newAZ, hok]
    have HR : Hid (roomZ n rows = -1) := by
      show _ = _
      simp only [newAOk, Bool.and_eq_false_iff] at hok
      exact roomZ_no hok
    go_enter Tryz.func31, Tryz.ntmps31
    go_upto_region 1 with (fail)
    generalize w.alloc zero5 = W0 at *
    go_wp2_with fail
    go_fit (implRoomOf_any n rows _ bn)
    rintro e w1 ⟨rfl, g1⟩
    rw [HR.out]
    have hs1 := g1.size
    obtain ⟨⟨z0, y0⟩, ⟨z1, y1⟩, ⟨z2, y2⟩, ⟨z3, y3⟩, ⟨z4, y4⟩⟩ := Z0.kept g1 (by simp)
    have hR := res5l (OD.nil w1 (w.heap.size + 1)) (r := w.heap.size) (by omega) (Nat.le_refl _) (gtrans G0 g1) (.slice none 0 0) (.string ⟨#[]⟩) (.string ⟨#[]⟩) (.int .i64 0) (.bool false)
    go_wp2_with fail
    exact bodyPost_ret (v := .tuple #[.agg #[.slice none 0 0, .string ⟨#[]⟩, .string ⟨#[]⟩, .int .i64 0, .bool false], .bool false]) (by simp [results, Tryz.results31, go_sem, z0, z1, z2, z3, z4]) rfl ⟨_, [], by rw [HE.out]; rfl, by rw [HE.out]; exact hR.1, hR.2⟩
  have hh := hok
  simp only [newAOk, Bool.and_eq_true] at hh
  have hn' := inB_iff.1 hh.1
  have hr' := inB_iff.1 hh.2
  obtain ⟨a, rfl⟩ := Int.eq_ofNat_of_zero_le (show 0 ≤ n by omega)
  obtain ⟨b, rfl⟩ := Int.eq_ofNat_of_zero_le (show 0 ≤ rows by omega)
  have HE : Hid (newAZ (a : Int) (b : Int) = AZ.fresh (newDs b a)) := by show _ = _; simp [newAZ, hok]
  have HR : Hid ((roomZ a b == -1) = false) := by
    show _ = _
    rw [roomZ_yes hh.1 hh.2, beq_eq_false_iff_ne]
    intro e
    have : (0 : Int) ≤ ((a : Int) - 1) * b := Int.mul_nonneg (by omega) (by omega)
    omega
  have ha5 : a ≤ 5 := by omega
  have hb : 1 ≤ b ∧ b ≤ 16 := by omega
  have hai : 3 ≤ (a : Int) := hn'.1
  clear hh hn' hr' hok
  go_enter Tryz.func31, Tryz.ntmps31
  go_upto_region 1 with (fail)
  generalize w.alloc zero5 = W0 at *
  go_wp2_with fail
  go_fit (implRoomOf_any a b _ bn)
  rintro e w1 ⟨rfl, g1⟩
  have HRo := HR.out
  have hs1 := g1.size
  have Z1 := Z0.kept g1 (by simp)
  have e2 := galloc (grefl w1) (.cells #[.slice none 0 0, .string ⟨#[]⟩, .string ⟨#[]⟩, .int .i64 0, .bool true] 47)
  have Z2 := Z1.kept e2 (by simp)
  have G2 := gtrans (gtrans G0 g1) e2
  have A2 : ABox (w1.alloc (.cells #[.slice none 0 0, .string ⟨#[]⟩, .string ⟨#[]⟩, .int .i64 0, .bool true] 47)) w1.heap.size (w1.heap.size + 1) (AZ.fresh (newDs b 0)) (.slice none 0 0) [] :=
    ⟨by simp [At, go_sem], by simp [At, go_sem]; rfl, by simp [At, go_sem]; rfl, by simp [At, go_sem]; rfl, by simp [At, go_sem]; rfl, OD.nil _ _, by simp [Value.ownBlock], fun i h => by simp at h⟩
  have hs2 : (w1.alloc (.cells #[.slice none 0 0, .string ⟨#[]⟩, .string ⟨#[]⟩, .int .i64 0, .bool true] 47)).heap.size = w1.heap.size + 1 := by simp
  clear Z0 Z1 G0 g1 e2 HR
  generalize roomZ a b = R at *
  go_upto_region 4 with (fail)
  clear HRo
  generalize w1.alloc (.cells #[.slice none 0 0, .string ⟨#[]⟩, .string ⟨#[]⟩, .int .i64 0, .bool true] 47) = W2 at *
  generalize hbx : w1.heap.size = bx at *
  go_wp2_with fail
  go_loopw [17] (fun i wr => ∃ (k : Nat) (v : Value) (raw : List DV), k ≤ a ∧ i = .int .i64 k ∧ ABox wr bx (bx + 1) (AZ.fresh (newDs b k)) v raw ∧ W2.grownBy wr (some bx)) (fun i _ => a - (intOf i).toNat)
  case atStart => exact ⟨0, _, _, Nat.zero_le _, rfl, A2, World.grownBy.refl _ _⟩
  case round =>
    clear A2
    obtain ⟨k, v, raw, hk, rfl, H, GX⟩ := hrel
    obtain ⟨va, vn, vc, rfl⟩ := H.od.own.sl
    have hwB : bx + 1 ≤ wr.heap.size := by have := GX.size; omega
    by_cases hlt : k < a
    · have hki : (k : Int) < a := by omega
      have HN := Lib.hid (newDs_next b k)
      have HD := Lib.hid (newD_in (k := k) (rows := b) (by omega) hb)
      have hrl : raw.length ≤ 5 := by have := H.od.len; simp [AZ.fresh, newDs_length] at this; omega
      go_wp2_with fail
      go_fit (implNewDisk_any (k : Int) (b : Int) _)
      rw [HD.out]
      rintro e w8 ⟨kv, nv, rfl, I8, ap8, g8⟩
      obtain ⟨ka, km, kc, rfl⟩ := I8.1.sl
      obtain ⟨na, nm, nc, rfl⟩ := I8.2.sl
      have e9 := galloc (grefl w8) (.cells #[.int .i64 (k : Int), .bool false, .slice ka km kc, .slice na nm nc] 44)
      have X9 := Box4.new w8 (.int .i64 (k : Int)) (.bool false) (.slice ka km kc) (.slice na nm nc) 44
      have g89 := gtrans g8 e9
      have H9 := H.kept g89
      have GX9 := gsubN GX g89
      have hs9 := g89.size
      have hI : DV.Is (w8.alloc (.cells #[.int .i64 (k : Int), .bool false, .slice ka km kc, .slice na nm nc] 44)) (bx + 1) ⟨k, false, ka, km, kc, na, nm, nc⟩ ⟨k, false, newL k b, newL k b⟩ := ⟨rfl, rfl, (I8.1.grew e9).lower (by omega), (I8.2.grew e9).lower (by omega)⟩
      have HNew : Hid (∀ q, DV.has ⟨k, false, ka, km, kc, na, nm, nc⟩ q → (∀ i (hi : i < raw.length), ¬ raw[i].has q) ∧ (Value.slice va vn vc).ownBlock ≠ some q) := fun q hq => by
        have h1 : wr.heap.size ≤ q := by
          rcases hq with hq | hq
          · exact (I8.1.lt q hq).1
          · exact (I8.2.lt q hq).1
        exact ⟨fun i hi x => by have := (H.od.in i hi q x).2; omega, fun x => by have := (H.od.own.lt q x).2; omega⟩
      clear g8 e9 g89 I8
      go_upto_region 8 with (fail)
      generalize w8.alloc (.cells #[.int .i64 (k : Int), .bool false, .slice ka km kc, .slice na nm nc] 44) = W9 at *
      obtain ⟨x0, x1, x2, x3⟩ := X9
      obtain ⟨c0, f0⟩ := H9.c0
      have C9 := H9.od
      have HH := Lib.hid H9
      have hbl := H9.lt
      go_wp2_with (first | (at_builtin; refine wpList_append_o (E := diskE) (base := bx + 1) rfl (.tmp 27) (.tmp 29) rfl rfl rfl (Own.grew C9.own (galloc (grefl _) _)) (DV.single _ ⟨k, false, ka, km, kc, na, nm, nc⟩) (by simp; omega) (by decide) (by simp; omega) ?_; intro v' w6 o6 g6 b6; have C6 := OD.app (C9.grew (galloc (grefl _) _)) _ ⟨k, false, newL k b, newL k b⟩ (hI.grew (galloc (grefl _) _)) ap8 HNew.out g6 o6 b6; obtain ⟨a6, n6, c6, rfl⟩ := C6.own.sl; obtain ⟨t0, u0⟩ := gkr g6 HH.out.vb (gk (galloc (grefl _) _) HH.out.c0)))
      have hb6 : (Value.slice a6 n6 c6).ownBlock ≠ some bx := (C6.not_old (by omega)).1
      have H6 := (HH.out.kept (galloc (grefl W9) (.cells #[.int .i64 (k : Int), .bool false, .slice ka km kc, .slice na nm nc] 44))).putDisks g6 HH.out.vb C6 hb6 (C6.not_old (by omega)).2
      have G6 : W2.grownBy (w6.setCell ⟨bx, 0, none⟩ (.slice a6 n6 c6)) (some bx) := gset (gsubc (gsubN GX9 (galloc (grefl W9) _)) g6 (fun q e => by have := (C9.own.lt q e).1; omega)) _ _
      dsimp only [AZ.fresh] at H6
      rw [← HN.out] at H6
      generalize w6.setCell ⟨bx, 0, none⟩ (.slice a6 n6 c6) = W6 at *
      clear C6 g6 o6 b6 t0 u0 H9 HH C9
      go_wp2_with fail
      go_roundw
      case rel => exact ⟨k + 1, _, _, by omega, by go_num, H6, G6⟩
      case measure => simp [intOf]; omega
    · obtain rfl : k = a := by omega
      have GG : w.grownBy wr none := gsub G2 GX (fun q e => by cases e; omega)
      obtain ⟨c0, c1, c2, c3, c4⟩ := H.box
      dsimp only [AZ.fresh] at c1 c2 c3 c4
      obtain ⟨⟨z0, y0⟩, ⟨z1, y1⟩, ⟨z2, y2⟩, ⟨z3, y3⟩, ⟨z4, y4⟩⟩ := Z2.kept GX (by simp; omega)
      have hR := res5l H.od (r := w.heap.size) (by omega) (Nat.le_refl _) GG (.slice va vn vc) (.string (str [])) (.string (str [])) (.int .i64 0) (.bool true)
      go_wp2_with fail
      exact bodyPost_ret (v := .tuple #[(AZ.fresh (newDs b k)).val (.slice va vn vc), .bool true]) (by simp [results, Tryz.results31, go_sem, z0, z1, z2, z3, z4, AZ.fresh]) rfl ⟨_, raw, by rw [HE.out], by rw [HE.out]; exact hR.1, hR.2⟩
end Go.Proofs.YtdfhfebcbmolbaaGreatDoor
