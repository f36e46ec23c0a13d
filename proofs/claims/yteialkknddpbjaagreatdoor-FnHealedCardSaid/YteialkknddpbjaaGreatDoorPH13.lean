/- What the program's functions of chapter 3 return, for every argument: validity, places, copies. What the program's functions of chapter 3 return: a cell replaced, a disk made of lists. What the program's functions of chapter 3 return: new disks, reads. What the program's functions of chapter 3 return: flushes, deaths. What the program's functions of chapter 3 return: writes. -/
import Derived.Test.YteialkknddpbjaaGreatDoorPH05
import Derived.Test.YteialkknddpbjaaGreatDoorPH07
import Derived.Test.YteialkknddpbjaaGreatDoorPH12
namespace Go.Proofs.YteialkknddpbjaaGreatDoor
open Go.ChangeShapes Go.WideShapes Go.ChangeAt Go.RowKit

theorem allValid_any (a : Option Addr) (cap : Nat) (l : List (Int × Int)) (w : World) (h : CS w 0 (.slice a l.length cap) l) :
    Calls Tryz.prog 264 #[.slice a l.length cap] w (Pure (.bool (l.all okc)) w) := by
  have hm := h.bound.2
  go_enter Tryz.func264, Tryz.ntmps264
  go_wp2
  go_loopw [7] (fun i wr => ∃ k : Nat, k ≤ l.length ∧ i = .int .i64 k ∧ Hid ((l.take k).all okc = true) ∧ w.grownBy wr none) (fun i _ => l.length - (intOf i).toNat)
  case atStart => exact ⟨0, Nat.zero_le _, rfl, rfl, grefl _⟩
  case round =>
    obtain ⟨k, hk, rfl, HA, G⟩ := hrel
    by_cases hlt : k < l.length
    · obtain ⟨g, rfl, _, _, ⟨c0, f0⟩, ⟨c1, f1⟩⟩ := (h.grew G).at k hlt
      have hT := Lib.hid (take_next hlt)
      go_wp2_with fail
      refine (implCellOk_any _ _ _).mono ?_
      rintro e w2 ⟨rfl, g2⟩
      cases hok : cellOkZ l[k].1 l[k].2
      · have HN := Lib.hid (all_no hlt hok)
        go_wp2_with fail
        go_ret
        exact ⟨ret_bool HN.out.symm, by repeat (first | exact G | refine galloc ?_ _ | refine gsetN ?_ (by have := gsize G; simp <;> omega) _ _ | refine gtrans ?_ g2)⟩
      · have HN : Hid ((l.take (k + 1)).all okc = true) := by show _ = _; rw [hT.out, HA.out, hok]; rfl
        clear HA hT
        go_wp2_with fail
        go_roundw
        case rel => exact ⟨k + 1, by omega, by go_num, HN, by repeat (first | exact G | refine galloc ?_ _ | refine gsetN ?_ (by have := gsize G; simp <;> omega) _ _ | refine gtrans ?_ g2)⟩
        case measure => simp [intOf]; omega
    · have HN : Hid (l.all okc = true) := by show _ = _; have := HA.out; rwa [List.take_of_length_le (by omega)] at this
      clear HA
      go_wp2_with fail
      go_ret
      exact ⟨ret_bool HN.out.symm, G⟩
theorem implDiskOk_any (kv nv : Value) (d : DZ) (w : World) (h : IsD w 0 kv nv d) :
    Calls Tryz.prog 218 #[.agg #[.int .i64 d.n, .bool d.dead, kv, nv]] w (Pure (.bool d.ok) w) := by
  obtain ⟨n, dead, kl, nl⟩ := d
  obtain ⟨hk, hn⟩ := h
  obtain ⟨ka, kc, rfl, km⟩ := hk.form
  obtain ⟨na, nc, rfl, nm⟩ := hn.form
  dsimp only at *
  have hk0 := hk.grew (galloc (grefl w) (.cells #[.int .i64 n, .bool dead, .slice ka kl.length kc, .slice na nl.length nc] 37))
  cases h1 : inB n 0 4
  · have HF := Lib.hid (show DZ.ok ⟨n, dead, kl, nl⟩ = false by simp [DZ.ok, h1])
    go_enter Tryz.func218, Tryz.ntmps218
    go_wp2_with (first | (go_at_call 140; refine (between_any _ _ _ _).mono ?_; rintro e w' ⟨rfl, rfl⟩))
    go_ret
    exact ⟨ret_bool HF.out.symm, galloc (grefl _) _⟩
  by_cases h2 : kl.length = nl.length
  rotate_left
  · have HF := Lib.hid (show DZ.ok ⟨n, dead, kl, nl⟩ = false by
      cases hh : DZ.ok ⟨n, dead, kl, nl⟩
      · rfl
      · exact absurd (DZ.ok_len hh).1 h2)
    have hne : ((kl.length : Int) != (nl.length : Int)) = true := bne_iff_ne.2 (by omega)
    clear h2
    go_enter Tryz.func218, Tryz.ntmps218
    go_wp2_with (first | (go_at_call 140; refine (between_any _ _ _ _).mono ?_; rintro e w' ⟨rfl, rfl⟩))
    go_ret
    exact ⟨ret_bool HF.out.symm, galloc (grefl _) _⟩
  have hne : ((kl.length : Int) != (nl.length : Int)) = false := by rw [bne_eq_false_iff_eq]; omega
  cases dead
  rotate_left
  · have HF := Lib.hid (show DZ.ok ⟨n, true, kl, nl⟩ = ((nl.length : Int) == 0) by
      rw [Bool.eq_iff_iff]; simp [DZ.ok, h1]
      intro h; exact List.eq_nil_of_length_eq_zero (by rw [h2, h]; rfl))
    clear h2
    go_enter Tryz.func218, Tryz.ntmps218
    go_wp2_with (first | (go_at_call 140; refine (between_any _ _ _ _).mono ?_; rintro e w' ⟨rfl, rfl⟩))
    go_ret
    exact ⟨ret_bool HF.out.symm, galloc (grefl _) _⟩
  have HO := Lib.hid (show DZ.ok ⟨n, false, kl, nl⟩ = (inB nl.length 1 16 && (kl.all okc && nl.all okc)) by
    simp [DZ.ok, h1, cellsZ, h2]; cases inB nl.length 1 16 <;> simp)
  clear h2
  rw [HO.out]
  cases h3 : inB nl.length 1 16
  · go_enter Tryz.func218, Tryz.ntmps218
    go_wp2_with (first | (go_at_call 140; refine (between_any _ _ _ _).mono ?_; rintro e w' ⟨rfl, rfl⟩))
    go_ret
    exact ⟨rfl, galloc (grefl _) _⟩
  cases h4 : kl.all okc
  · go_enter Tryz.func218, Tryz.ntmps218
    go_wp2_with (first | (go_at_call 140; refine (between_any _ _ _ _).mono ?_; rintro e w' ⟨rfl, rfl⟩))
    refine (allValid_any _ _ _ _ hk0).mono ?_
    rintro e w1 ⟨rfl, g1⟩
    rw [h4]
    go_wp2_with fail
    go_ret
    exact ⟨rfl, gtrans (galloc (grefl _) _) g1⟩
  · go_enter Tryz.func218, Tryz.ntmps218
    go_wp2_with (first | (go_at_call 140; refine (between_any _ _ _ _).mono ?_; rintro e w' ⟨rfl, rfl⟩))
    refine (allValid_any _ _ _ _ hk0).mono ?_
    rintro e w1 ⟨rfl, g1⟩
    rw [h4]
    have G1 := gtrans (galloc (grefl w) _) g1
    have c3 := gkc g1 (b := w.heap.size) (o := 3) (v := .slice na nl.length nc) (by simp [go_sem])
    go_wp2_with fail
    refine (allValid_any _ _ _ _ (hn.grew G1)).mono ?_
    rintro e w2 ⟨rfl, g2⟩
    go_wp2_with fail
    go_ret
    exact ⟨ret_bool (by simp), gtrans G1 g2⟩
theorem hasPlace_any (kv nv : Value) (d : DZ) (p : Int) (w : World) (h : IsD w 0 kv nv d) :
    Calls Tryz.prog 175 #[.agg #[.int .i64 d.n, .bool d.dead, kv, nv], .int .i64 p] w (Pure (.bool (d.has p)) w) := by
  obtain ⟨n, dead, kl, nl⟩ := d
  obtain ⟨hk, hn⟩ := h
  obtain ⟨na, nc, rfl, nm⟩ := hn.form
  dsimp only at *
  have HF := Lib.hid (show DZ.has ⟨n, dead, kl, nl⟩ p = inB p 0 ((nl.length : Int) - 1) by unfold DZ.has inB; rw [decide_eq_decide]; dsimp only; omega)
  go_enter Tryz.func175, Tryz.ntmps175
  go_wp2_with (first | (go_at_call 140; refine (between_any _ _ _ _).mono ?_; rintro e w' ⟨rfl, rfl⟩))
  go_ret
  exact ⟨ret_bool HF.out.symm, galloc (grefl _) _⟩
theorem copied_any (a : Option Addr) (cap : Nat) (l : List (Int × Int)) (w : World) (h : CS w 0 (.slice a l.length cap) l) (hl : l.length ≤ 1048576) :
    Calls Tryz.prog 221 #[.slice a l.length cap] w (GotC l w) := by
  have hmk := make_cells l.length hl
  have C0 := CS.made w l.length hl (Nat.le_refl w.heap.size)
  have g0 := galloc (grefl w) (.cells (zeros l.length) 59)
  have R0 := Own.rd (h.grew g0)
  obtain ⟨w1, r1, o1, g1⟩ := copy_own (E := cellE) 3 _ _ C0 _ _ R0 (by simp)
  change (Builtin.copy_ #[35, 35] 3 _).run Tryz.prog _ = _ at r1
  go_enter Tryz.func221, Tryz.ntmps221
  go_wp2
  go_ret
  exact ⟨_, rfl, o1, gsub g0 g1 (by intro k e; cases e; exact Nat.le_refl _)⟩
end Go.Proofs.YteialkknddpbjaaGreatDoor
namespace Go.Proofs.YteialkknddpbjaaGreatDoor
open Go.ChangeShapes Go.WideShapes Go.ChangeAt Go.RowKit

theorem set_split (l : List (Int × Int)) (k : Nat) (z : Int × Int) (hk : k < l.length) : l.set k z = (l.take k ++ [z]) ++ l.drop (k + 1) := by
  rw [List.set_eq_take_append_cons_drop, if_pos hk]; simp
set_option maxHeartbeats 1000000 in
theorem withCell_any (a : Option Addr) (cap : Nat) (l : List (Int × Int)) (k : Nat) (x y : Int) (w : World) (h : CS w 0 (.slice a l.length cap) l) (hk : k < l.length) (hl : l.length ≤ 1000) :
    Calls Tryz.prog 219 #[.slice a l.length cap, .int .i64 k, .agg #[.int .i64 x, .int .i64 y]] w (GotC (l.set k (x, y)) w) := by
  have R := Own.rd h
  obtain ⟨a', c', e1, hc1, hc2, hc3⟩ := id R
  cases e1
  obtain ⟨g, rfl, -, hgl, -, -⟩ := h.at k hk
  have hT := Two.new w x y 59
  have g0 := galloc (grefl w) (.cells #[.int .i64 x, .int .i64 y] 59)
  generalize hW : w.alloc (.cells #[.int .i64 x, .int .i64 y] 59) = W0 at *
  have hk0 : (0 : Int) ≤ k := by omega
  have hk1 : (k : Int) ≤ cap := by omega
  have hk2 : (k : Int) + 1 ≤ l.length := by omega
  have RF := (R.kept g0).front k k (by omega) (Nat.le_refl _) (by omega)
  obtain ⟨⟨x0, -⟩, ⟨x1, -⟩⟩ := hT
  clear hc3
  go_enter Tryz.func219, Tryz.ntmps219
  go_upto_region 1 with (fail)
  go_region_law (first | (refine step_append_f (E := cellE) (base := w.heap.size) rfl (.tmp 11) (.tmp 13) rfl rfl rfl (RF.kept (galloc (gdrew (grefl _) 1) _)) (Own.rd (CS.single (base := 0) _ _ _ (Nat.zero_le _))) (by simp) (by simp; omega) (by decide) (by have := g0.size; simp; omega) ?_; intro v1 w1 o1 g1 b1))
  have hs1 := g0.size
  have hs2 := g1.size
  simp at hs2 b1
  have G1 : w.grownBy w1 none := gtrans g0 (gtrans (gdrew (galloc (grefl _) _) 1) g1)
  have hRR := (R.kept G1).rest (k + 1) (by omega)
  obtain ⟨v1a, v1n, v1c, rfl⟩ := Own.sl o1
  clear x0 x1
  by_cases hck : cap = k + 1
  · subst hck
    have hRR : Rd cellE w1 (.slice (some ⟨g, 0, none⟩) 0 0) (List.drop (k + 1) l) := by
      simpa [sliced, Nat.sub_eq_zero_of_le hc1] using hRR
    go_wp2_with (first | (at_builtin; refine wpList_append_r (E := cellE) (base := w.heap.size) rfl (.tmp 15) (.tmp 19) rfl rfl rfl o1 hRR (by simp; omega) (by decide) (by omega) ?_; intro v2 w2 o2 g2' b2; have g2 : w1.grownBy w2 (Value.slice v1a v1n v1c).ownBlock := g2'; clear g2' b2; obtain ⟨v2a, v2n, v2c, rfl⟩ := Own.sl o2))
    go_ret
    exact ⟨_, rfl, by rw [set_split l k _ hk]; exact o2, gsub G1 g2 (by rw [b1]; intro k e; cases e; omega)⟩
  · have hRR : Rd cellE w1 (.slice (some ⟨g, (k + 1) * 2, none⟩) (l.length - (k + 1)) (cap - (k + 1))) (List.drop (k + 1) l) := by
      simpa [sliced, if_neg hck, add_at, cellE] using hRR
    go_wp2_with (first | (at_builtin; refine wpList_append_r (E := cellE) (base := w.heap.size) rfl (.tmp 15) (.tmp 19) rfl rfl rfl o1 hRR (by simp; omega) (by decide) (by omega) ?_; intro v2 w2 o2 g2' b2; have g2 : w1.grownBy w2 (Value.slice v1a v1n v1c).ownBlock := g2'; clear g2' b2; obtain ⟨v2a, v2n, v2c, rfl⟩ := Own.sl o2))
    go_ret
    exact ⟨_, rfl, by rw [set_split l k _ hk]; exact o2, gsub G1 g2 (by rw [b1]; intro k e; cases e; omega)⟩
/-- what holds while diskWith gathers its fields -/
abbrev DwS (w' : World) (b : Nat) (x0 x1 : Value) (r : Nat) : Prop := w'.cell? ⟨b, 0, none⟩ = some x0 ∧ w'.cell? ⟨b, 1, none⟩ = some x1 ∧ Live w' r 0 ∧ Live w' r 1 ∧ Live w' r 2 ∧ Live w' r 3
theorem DwS.kept {w' w2 : World} {b r : Nat} {x0 x1 : Value} (h : DwS w' b x0 x1 r) (g : w'.grownBy w2 none) : DwS w2 b x0 x1 r := ⟨gkc g h.1, gkc g h.2.1, h.2.2.1.kept g, h.2.2.2.1.kept g, h.2.2.2.2.1.kept g, h.2.2.2.2.2.kept g⟩
theorem DwS.drew {w' : World} {b r : Nat} {x0 x1 : Value} (h : DwS w' b x0 x1 r) : DwS w'.drew b x0 x1 r := h
theorem DwS.set {w' : World} {b r : Nat} {x0 x1 : Value} (h : DwS w' b x0 x1 r) (hb : r ≠ b) (y0 y1 y2 y3 : Value) : DwS (set4 w' r y0 y1 y2 y3) b x0 x1 r := by
  have hn : ∀ (W : World) (p q : Nat) (x : Value), (W.setCell ⟨r, p, none⟩ x).cell? ⟨b, q, none⟩ = W.cell? ⟨b, q, none⟩ := fun W p q x => World.cell?_setCell_other W _ _ x (fun e => hb (by cases e; rfl))
  refine ⟨?_, ?_, ?_, ?_, ?_, ?_⟩ <;> unfold set4
  · rw [hn, hn, hn, hn]; exact h.1
  · rw [hn, hn, hn, hn]; exact h.2.1
  · exact (((h.2.2.1.set _).set _).set _).set _
  · exact (((h.2.2.2.1.set _).set _).set _).set _
  · exact (((h.2.2.2.2.1.set _).set _).set _).set _
  · exact (((h.2.2.2.2.2.set _).set _).set _).set _
set_option maxHeartbeats 2000000 in
theorem diskWith_any (n : Int) (dead : Bool) (x2 x3 : Value) (ka na : Option Addr) (kc nc : Nat) (kl nl : List (Int × Int)) (w : World) (hk : CS w 0 (.slice ka kl.length kc) kl) (hn : CS w 0 (.slice na nl.length nc) nl) (lk : kl.length ≤ 1000) (ln : nl.length ≤ 1000) :
    Calls Tryz.prog 142 #[.agg #[.int .i64 n, .bool dead, x2, x3], .slice ka kl.length kc, .slice na nl.length nc] w (GotD ⟨n, dead, kl, nl⟩ w) := by
  have hb := boxed2 w (.int .i64 n) (.bool dead) x2 x3 37
  go_enter Tryz.func142, Tryz.ntmps142
  go_upto_region 1 with (fail)
  generalize (w.alloc (.cells #[.int .i64 n, .bool dead, x2, x3] 37)).alloc (.cells #[.int .i64 0, .bool false, .slice none 0 0, .slice none 0 0] 37) = W0 at *
  obtain ⟨B0, Z0, g0, s0⟩ := hb
  have S0 : DwS W0 w.heap.size _ _ (w.heap.size + 1) := ⟨B0.c0.1, B0.c1.1, Z0.c0.live, Z0.c1.live, Z0.c2.live, Z0.c3.live⟩
  have hk0 := hk.grew (gdrew g0 1)
  have hn0 := hn.grew (gdrew g0 1)
  go_region_held3 (fun w' => DwS w' w.heap.size (.int .i64 n) (.bool dead) (w.heap.size + 1)) (first | assumption | exact S0.drew | exact DwS.kept ‹DwS _ _ _ _ _› ‹World.grownBy _ _ none› | exact DwS.set ‹DwS _ _ _ _ _› (by omega) _ _ _ _) (first | (go_at_call 221; refine (copied_any _ _ kl _ hk0 (by omega)).mono ?_; rintro e w8 ⟨kv8, rfl, c8, g8⟩; have hn8 := hn0.grew g8; clear hk0; obtain ⟨ka8, km8, kc8, rfl⟩ := c8.sl) | (go_at_call 221; refine (copied_any _ _ nl _ hn8 (by omega)).mono ?_; rintro e w9 ⟨nv9, rfl, c9, g9⟩; obtain ⟨na9, nm9, nc9, rfl⟩ := c9.sl))
  have G8 := gtrans (gdrew g0 1) g8
  have hs8 := g8.size
  simp at hs8 c8
  have c8' := c8.grew g9
  have ap := fresh_apart c8 c9
  obtain ⟨⟨z0, -⟩, ⟨z1, -⟩, ⟨z2, -⟩, ⟨z3, -⟩⟩ := Z0.kept (gtrans (gtrans (gdrew (grefl W0) 1) g8) g9) (by simp)
  have hR : NewD w (set4 w9 (w.heap.size + 1) (.int .i64 n) (.bool dead) (.slice ka8 km8 kc8) (.slice na9 nm9 nc9)) (.slice ka8 km8 kc8) (.slice na9 nm9 nc9) ⟨n, dead, kl, nl⟩ :=
    ⟨⟨(c8'.lower (by omega)).set4 (not_own c8' (by omega)) _ _ _ _, (c9.lower (by omega)).set4 (not_own c9 (by omega)) _ _ _ _⟩, ap, gset4 (gtrans G8 g9) (by omega) _ _ _ _⟩
  clear S0 hn0 hn8 c8 c9 c8' B0 Z0
  go_wp2_with fail
  exact bodyPost_ret (v := .agg #[.int .i64 n, .bool dead, .slice ka8 km8 kc8, .slice na9 nm9 nc9]) (by simp [results, Tryz.results142, go_sem, z0, z1, z2, z3]) rfl ⟨_, _, rfl, hR⟩
end Go.Proofs.YteialkknddpbjaaGreatDoor
namespace Go.Proofs.YteialkknddpbjaaGreatDoor
open Go.ChangeShapes Go.WideShapes Go.ChangeAt Go.RowKit

theorem DZ.ok_has {d : DZ} {p : Int} (h : d.ok = true) (hh : d.has p = true) : d.dead = false := by
  cases hd : d.dead
  · rfl
  · simp [DZ.ok, hd] at h; simp [DZ.has, h.2.2] at hh; omega
set_option maxHeartbeats 1000000 in
theorem implRead_any (kv nv : Value) (d : DZ) (p : Int) (w : World) (h : IsD w 0 kv nv d) :
    Calls Tryz.prog 205 #[.agg #[.int .i64 d.n, .bool d.dead, kv, nv], .int .i64 p] w (Pure (.tuple #[.int .i64 (d.readV p), .bool (d.canRead p)]) w) := by
  have H := Lib.hid h
  obtain ⟨n, dead, kl, nl⟩ := d
  obtain ⟨hk, hn⟩ := h
  obtain ⟨ka, kc, rfl, km⟩ := hk.form
  obtain ⟨na, nc, rfl, nm⟩ := hn.form
  dsimp only at *
  have hW := galloc (grefl w) (.cells #[.int .i64 n, .bool dead, .slice ka kl.length kc, .slice na nl.length nc] 37)
  have S0 : BxS w _ _ _ _ _ _ := ⟨Box4.new w (.int .i64 n) (.bool dead) (.slice ka kl.length kc) (.slice na nl.length nc) 37, hW⟩
  cases hok : DZ.ok ⟨n, dead, kl, nl⟩
  · rw [show DZ.canRead ⟨n, dead, kl, nl⟩ p = false by simp [DZ.canRead, hok], show DZ.readV ⟨n, dead, kl, nl⟩ p = 0 by simp [DZ.readV, DZ.canRead, hok]]
    go_enter Tryz.func205, Tryz.ntmps205
    go_wp2_with fail
    refine region_calm (fun w' => BxS w w' w.heap.size (.int .i64 n) (.bool dead) (.slice ka kl.length kc) (.slice na nl.length nc)) (by kernel_rfl) (by kernel_rfl) (S0.drew) ?_
    repeat (first
      | (refine calm_skip (by rfl) ?_; simp only [Act.put, List.setIfInBounds_toArray, List.set_cons_zero, List.set_cons_succ])
      | (refine calm_step (by rfl) ?_
         apply Exists.intro
         refine ⟨fun w' hw' => ?_, ?_⟩
         · go_simp
           first | done | exact rfl | (go_at_call 218; refine (implDiskOk_any _ _ ⟨n, dead, kl, nl⟩ _ (H.out.grew hw'.2)).mono ?_; rintro e w8 ⟨rfl, g8⟩; rw [hok]; exact ⟨rfl, hw'.kept g8⟩)
         simp only [Act.put, List.setIfInBounds_toArray, List.set_cons_zero, List.set_cons_succ]))
    refine calm_nil ?_
    intro w9 hw9
    go_wp2_with fail
    go_ret2
    exact ⟨rfl, hw9.2⟩
  cases hh : DZ.has ⟨n, dead, kl, nl⟩ p
  · rw [show DZ.canRead ⟨n, dead, kl, nl⟩ p = false by simp [DZ.canRead, DZ.can, hh], show DZ.readV ⟨n, dead, kl, nl⟩ p = 0 by simp [DZ.readV, DZ.canRead, DZ.can, hh]]
    go_enter Tryz.func205, Tryz.ntmps205
    go_wp2_with fail
    refine region_calm (fun w' => BxS w w' w.heap.size (.int .i64 n) (.bool dead) (.slice ka kl.length kc) (.slice na nl.length nc)) (by kernel_rfl) (by kernel_rfl) (S0.drew) ?_
    repeat (first
      | (refine calm_skip (by rfl) ?_; simp only [Act.put, List.setIfInBounds_toArray, List.set_cons_zero, List.set_cons_succ])
      | (refine calm_step (by rfl) ?_
         apply Exists.intro
         refine ⟨fun w' hw' => ?_, ?_⟩
         · go_simp
           first | done | exact rfl | (go_at_call 218; refine (implDiskOk_any _ _ ⟨n, dead, kl, nl⟩ _ (H.out.grew hw'.2)).mono ?_; rintro e w8 ⟨rfl, g8⟩; rw [hok]; exact ⟨rfl, hw'.kept g8⟩) | (go_at_call 175; refine (hasPlace_any _ _ ⟨n, dead, kl, nl⟩ p _ (H.out.grew hw'.2)).mono ?_; rintro e w8 ⟨rfl, g8⟩; rw [hh]; exact ⟨rfl, hw'.kept g8⟩)
         simp only [Act.put, List.setIfInBounds_toArray, List.set_cons_zero, List.set_cons_succ]))
    refine calm_nil ?_
    intro w9 hw9
    go_wp2_with fail
    go_ret2
    exact ⟨rfl, hw9.2⟩
  obtain rfl : dead = false := DZ.ok_has hok hh
  obtain ⟨k, rfl, hk1⟩ : ∃ k : Nat, p = k ∧ k < nl.length := ⟨p.toNat, by simp [DZ.has] at hh; omega, by simp [DZ.has] at hh; omega⟩
  have hce : DZ.cell ⟨n, false, kl, nl⟩ k = nl[k] := by simp [DZ.cell, List.getD_eq_getElem?_getD, hk1]
  obtain ⟨g, rfl, _, hgl, ⟨c0, f0⟩, ⟨c1, f1⟩⟩ := hn.at k hk1
  have S1 : RdS w _ _ _ _ _ _ g (k * 2) _ _ := ⟨S0.1, ⟨gkc hW c0, gkc hW c1⟩, hW⟩
  rw [show DZ.canRead ⟨n, false, kl, nl⟩ k = goodZ nl[k].1 nl[k].2 n k by simp [DZ.canRead, DZ.can, hh, hce, hok], show DZ.readV ⟨n, false, kl, nl⟩ k = if goodZ nl[k].1 nl[k].2 n k then nl[k].1 else 0 by simp [DZ.readV, DZ.canRead, DZ.can, hh, hce, hok]]
  have hi1 : (k : Int) < nl.length := by omega
  clear hce hW c0 c1 f0 f1 S0
  cases hgd : goodZ nl[k].1 nl[k].2 n k
  · rw [if_neg (by simp)]
    go_enter Tryz.func205, Tryz.ntmps205
    go_wp2_with fail
    refine region_calm (fun w' => RdS w w' w.heap.size (.int .i64 n) (.bool false) (.slice ka kl.length kc) (.slice (some ⟨g, 0, none⟩) nl.length nc) g (k * 2) (.int .i64 nl[k].1) (.int .i64 nl[k].2)) (by kernel_rfl) (by kernel_rfl) (S1.drew) ?_
    repeat (first
      | (refine calm_skip (by rfl) ?_; simp only [Act.put, List.setIfInBounds_toArray, List.set_cons_zero, List.set_cons_succ])
      | (refine calm_step (by rfl) ?_
         apply Exists.intro
         refine ⟨fun w' hw' => ?_, ?_⟩
         · go_simp
           first | done | exact rfl | (go_at_call 218; refine (implDiskOk_any _ _ ⟨n, false, kl, nl⟩ _ (H.out.grew hw'.2.2)).mono ?_; rintro e w8 ⟨rfl, g8⟩; rw [hok]; exact ⟨rfl, hw'.kept g8⟩) | (go_at_call 175; refine (hasPlace_any _ _ ⟨n, false, kl, nl⟩ k _ (H.out.grew hw'.2.2)).mono ?_; rintro e w8 ⟨rfl, g8⟩; rw [hh]; exact ⟨rfl, hw'.kept g8⟩) | (go_at_call 256; refine (implGood_any _ _ _ _ _).mono ?_; rintro e w8 ⟨rfl, g8⟩; rw [hgd]; exact ⟨rfl, hw'.kept g8⟩)
         simp only [Act.put, List.setIfInBounds_toArray, List.set_cons_zero, List.set_cons_succ]))
    refine calm_nil ?_
    intro w9 hw9
    go_wp2_with fail
    go_ret2
    exact ⟨rfl, hw9.2.2⟩
  · rw [if_pos rfl]
    go_enter Tryz.func205, Tryz.ntmps205
    go_wp2_with fail
    refine region_calm (fun w' => RdS w w' w.heap.size (.int .i64 n) (.bool false) (.slice ka kl.length kc) (.slice (some ⟨g, 0, none⟩) nl.length nc) g (k * 2) (.int .i64 nl[k].1) (.int .i64 nl[k].2)) (by kernel_rfl) (by kernel_rfl) (S1.drew) ?_
    repeat (first
      | (refine calm_skip (by rfl) ?_; simp only [Act.put, List.setIfInBounds_toArray, List.set_cons_zero, List.set_cons_succ])
      | (refine calm_step (by rfl) ?_
         apply Exists.intro
         refine ⟨fun w' hw' => ?_, ?_⟩
         · go_simp
           first | done | exact rfl | (go_at_call 218; refine (implDiskOk_any _ _ ⟨n, false, kl, nl⟩ _ (H.out.grew hw'.2.2)).mono ?_; rintro e w8 ⟨rfl, g8⟩; rw [hok]; exact ⟨rfl, hw'.kept g8⟩) | (go_at_call 175; refine (hasPlace_any _ _ ⟨n, false, kl, nl⟩ k _ (H.out.grew hw'.2.2)).mono ?_; rintro e w8 ⟨rfl, g8⟩; rw [hh]; exact ⟨rfl, hw'.kept g8⟩) | (go_at_call 256; refine (implGood_any _ _ _ _ _).mono ?_; rintro e w8 ⟨rfl, g8⟩; rw [hgd]; exact ⟨rfl, hw'.kept g8⟩)
         simp only [Act.put, List.setIfInBounds_toArray, List.set_cons_zero, List.set_cons_succ]))
    refine calm_nil ?_
    intro w9 hw9
    obtain ⟨⟨x0, x1, x2, x3⟩, ⟨y0, y1⟩, GG⟩ := hw9
    go_wp2_with fail
    go_ret2
    exact ⟨rfl, GG⟩
end Go.Proofs.YteialkknddpbjaaGreatDoor
namespace Go.Proofs.YteialkknddpbjaaGreatDoor
open Go.ChangeShapes Go.WideShapes Go.ChangeAt Go.RowKit

/-- a disk that a callee has made is handed on through a result variable r -/
theorem NewD.res {w w1 w2 : World} {r : Nat} {kv nv : Value} {d : DZ} (h : NewD w1 w2 kv nv d) (g : w.grownBy w1 none) (hr : w.heap.size ≤ r) (hr1 : r < w1.heap.size) (x0 x1 x2 x3 : Value) : NewD w (set4 w2 r x0 x1 x2 x3) kv nv d := by
  have hs := g.size
  exact ⟨⟨(h.1.1.lower (by omega)).set4 (not_own h.1.1 hr1) _ _ _ _, (h.1.2.lower (by omega)).set4 (not_own h.1.2 hr1) _ _ _ _⟩, h.2.1, gset4 (gtrans g h.2.2) hr _ _ _ _⟩
end Go.Proofs.YteialkknddpbjaaGreatDoor
namespace Go.Proofs.YteialkknddpbjaaGreatDoor
open Go.ChangeShapes Go.WideShapes Go.ChangeAt Go.RowKit

/-- what holds while Written gathers its result -/
abbrev WtS (w' : World) (b : Nat) (x0 x2 : Value) (r : Nat) : Prop := w'.cell? ⟨b, 0, none⟩ = some x0 ∧ w'.cell? ⟨b, 2, none⟩ = some x2 ∧ Live w' r 0 ∧ Live w' r 1 ∧ Live w' r 2 ∧ Live w' r 3
theorem WtS.kept {w' w2 : World} {b r : Nat} {x0 x2 : Value} (h : WtS w' b x0 x2 r) (g : w'.grownBy w2 none) : WtS w2 b x0 x2 r := ⟨gkc g h.1, gkc g h.2.1, h.2.2.1.kept g, h.2.2.2.1.kept g, h.2.2.2.2.1.kept g, h.2.2.2.2.2.kept g⟩
theorem WtS.drew {w' : World} {b r : Nat} {x0 x2 : Value} (h : WtS w' b x0 x2 r) : WtS w'.drew b x0 x2 r := h
theorem WtS.set {w' : World} {b r : Nat} {x0 x2 : Value} (h : WtS w' b x0 x2 r) (hb : r ≠ b) (y0 y1 y2 y3 : Value) : WtS (set4 w' r y0 y1 y2 y3) b x0 x2 r := by
  have hn : ∀ (W : World) (p q : Nat) (x : Value), (W.setCell ⟨r, p, none⟩ x).cell? ⟨b, q, none⟩ = W.cell? ⟨b, q, none⟩ := fun W p q x => World.cell?_setCell_other W _ _ x (fun e => hb (by cases e; rfl))
  refine ⟨?_, ?_, ?_, ?_, ?_, ?_⟩ <;> unfold set4
  · rw [hn, hn, hn, hn]; exact h.1
  · rw [hn, hn, hn, hn]; exact h.2.1
  · exact (((h.2.2.1.set _).set _).set _).set _
  · exact (((h.2.2.2.1.set _).set _).set _).set _
  · exact (((h.2.2.2.2.1.set _).set _).set _).set _
  · exact (((h.2.2.2.2.2.set _).set _).set _).set _
abbrev WcS (w' : World) (b : Nat) (x0 x3 : Value) : Prop := w'.cell? ⟨b, 0, none⟩ = some x0 ∧ w'.cell? ⟨b, 3, none⟩ = some x3
theorem WcS.kept {w' w2 : World} {b : Nat} {x0 x3 : Value} (h : WcS w' b x0 x3) (g : w'.grownBy w2 none) : WcS w2 b x0 x3 := ⟨gkc g h.1, gkc g h.2⟩
theorem WcS.drew {w' : World} {b : Nat} {x0 x3 : Value} (h : WcS w' b x0 x3) : WcS w'.drew b x0 x3 := h
set_option maxHeartbeats 2000000 in
theorem implWritten_any (kv nv : Value) (d : DZ) (p v : Int) (w : World) (h : IsD w 0 kv nv d) :
    Calls Tryz.prog 139 #[.agg #[.int .i64 d.n, .bool d.dead, kv, nv], .int .i64 p, .int .i64 v] w (GotDB (d.written p v) (d.wrote p v) w) := by
  have H := Lib.hid h
  obtain ⟨hk, hn⟩ := h
  obtain ⟨ka, kc, rfl, km⟩ := hk.form
  obtain ⟨na, nc, rfl, nm⟩ := hn.form
  have hb := boxed2 w (.int .i64 d.n) (.bool d.dead) (.slice ka d.k.length kc) (.slice na d.m.length nc) 37
  cases hok : d.ok
  · rw [show d.written p v = .zero by simp [DZ.written, hok], show d.wrote p v = false by simp [DZ.wrote, hok]]
    go_enter Tryz.func139, Tryz.ntmps139
    go_upto_region 1 with (fail)
    generalize (w.alloc (.cells #[.int .i64 d.n, .bool d.dead, .slice ka d.k.length kc, .slice na d.m.length nc] 37)).alloc (.cells #[.int .i64 0, .bool false, .slice none 0 0, .slice none 0 0] 37) = W0 at *
    obtain ⟨B0, Z0, g0, s0⟩ := hb
    obtain ⟨⟨c0, f0⟩, ⟨c1, f1⟩, ⟨c2, f2⟩, ⟨c3, f3⟩⟩ := B0
    go_wp2_with fail
    refine (implDiskOk_any _ _ d _ (H.out.grew g0)).mono ?_
    rintro e w1 ⟨rfl, g1⟩
    rw [hok]
    obtain ⟨⟨z0, y0⟩, ⟨z1, y1⟩, ⟨z2, y2⟩, ⟨z3, y3⟩⟩ := Z0.kept g1 (by simp)
    go_wp2_with fail
    exact bodyPost_ret (v := .tuple #[.agg #[.int .i64 0, .bool false, .slice none 0 0, .slice none 0 0], .bool false]) (by simp [results, Tryz.results139, go_sem, z0, z1, z2, z3]) rfl ⟨_, _, rfl, newD_zero w (gset4 (gtrans g0 g1) (by omega) _ _ _ _)⟩
  rw [show d.written p v = d.put p v by simp [DZ.written, hok], show d.wrote p v = d.may p v by simp [DZ.wrote, hok]]
  have lk : d.k.length ≤ 16 := by have := d.ok_len hok; omega
  have lm : d.m.length ≤ 16 := (d.ok_len hok).2
  cases hm : d.has p && inB v 0 32767
  · have HM : d.may p v = false := by simp [DZ.may, hm]
    rw [show d.put p v = d by simp [DZ.put, HM], HM]
    clear HM
    go_enter Tryz.func139, Tryz.ntmps139
    go_upto_region 1 with (fail)
    generalize (w.alloc (.cells #[.int .i64 d.n, .bool d.dead, .slice ka d.k.length kc, .slice na d.m.length nc] 37)).alloc (.cells #[.int .i64 0, .bool false, .slice none 0 0, .slice none 0 0] 37) = W0 at *
    obtain ⟨B0, Z0, g0, s0⟩ := hb
    obtain ⟨⟨c0, f0⟩, ⟨c1, f1⟩, ⟨c2, f2⟩, ⟨c3, f3⟩⟩ := B0
    go_wp2_with fail
    refine (implDiskOk_any _ _ d _ (H.out.grew g0)).mono ?_
    rintro e w1 ⟨rfl, g1⟩
    rw [hok]
    have d0 := gkc g1 c0
    have d1 := gkc g1 c1
    have d2 := gkc g1 c2
    have d3 := gkc g1 c3
    have G1 := gtrans g0 g1
    clear c0 c1 c2 c3 f0 f1 f2 f3
    go_wp2_with fail
    refine (hasPlace_any _ _ d p _ (H.out.grew G1)).mono ?_
    rintro e w2 ⟨rfl, g2⟩
    have e0 := gkc g2 d0
    have e1 := gkc g2 d1
    have e2 := gkc g2 d2
    have e3 := gkc g2 d3
    have G2 := gtrans G1 g2
    have hs1 := (gtrans g1 g2).size
    have Z2 := Z0.kept (gtrans g1 g2) (by simp)
    have hk2 := hk.grew G2
    have hn2 := hn.grew G2
    clear d0 d1 d2 d3
    cases hh : d.has p
    · go_wp2_with fail
      refine (diskWith_any d.n d.dead _ _ _ _ _ _ d.k d.m _ hk2 hn2 (by omega) (by omega)).mono ?_
      rintro e w3 ⟨kv, nv, rfl, N2⟩
      obtain ⟨⟨z0, y0⟩, ⟨z1, y1⟩, ⟨z2, y2⟩, ⟨z3, y3⟩⟩ := Z2.kept N2.2.2 (by simp)
      have hR := N2.res G2 (r := w.heap.size + 1) (by omega) (by omega) (.int .i64 d.n) (.bool d.dead) kv nv
      obtain ⟨ka2, km2, kc2, rfl⟩ := N2.1.1.sl
      obtain ⟨na2, nm2, nc2, rfl⟩ := N2.1.2.sl
      clear e0 e1 e2 e3 N2
      go_wp2_with fail
      exact bodyPost_ret (v := .tuple #[.agg #[.int .i64 d.n, .bool d.dead, .slice ka2 km2 kc2, .slice na2 nm2 nc2], .bool false]) (by simp [results, Tryz.results139, go_sem, z0, z1, z2, z3]) rfl ⟨_, _, rfl, hR⟩
    · have hv : inB v 0 32767 = false := by simpa [hh] using hm
      go_wp2_with (first | (go_at_call 193; refine (implValueOk_any _ _).mono ?_; rintro e w' ⟨rfl, rfl⟩))
      refine (diskWith_any d.n d.dead _ _ _ _ _ _ d.k d.m _ hk2 hn2 (by omega) (by omega)).mono ?_
      rintro e w3 ⟨kv, nv, rfl, N2⟩
      obtain ⟨⟨z0, y0⟩, ⟨z1, y1⟩, ⟨z2, y2⟩, ⟨z3, y3⟩⟩ := Z2.kept N2.2.2 (by simp)
      have hR := N2.res G2 (r := w.heap.size + 1) (by omega) (by omega) (.int .i64 d.n) (.bool d.dead) kv nv
      obtain ⟨ka2, km2, kc2, rfl⟩ := N2.1.1.sl
      obtain ⟨na2, nm2, nc2, rfl⟩ := N2.1.2.sl
      clear e0 e1 e2 e3 N2
      go_wp2_with fail
      exact bodyPost_ret (v := .tuple #[.agg #[.int .i64 d.n, .bool d.dead, .slice ka2 km2 kc2, .slice na2 nm2 nc2], .bool false]) (by simp [results, Tryz.results139, go_sem, z0, z1, z2, z3]) rfl ⟨_, _, rfl, hR⟩
  · simp only [Bool.and_eq_true] at hm
    obtain ⟨hh, hv⟩ := hm
    have hd := Lib.hid (DZ.ok_has hok hh)
    obtain ⟨k, rfl, hk1⟩ : ∃ k : Nat, p = k ∧ k < d.m.length := ⟨p.toNat, by simp [DZ.has] at hh; omega, by simp [DZ.has] at hh; omega⟩
    have HM : d.may k v = true := by simp [DZ.may, hd.out, hh, hv]
    rw [show d.put k v = { d with m := d.m.set k (cofV d.n k v, cofS d.n k v) } by simp [DZ.put, HM], HM]
    clear HM
    go_enter Tryz.func139, Tryz.ntmps139
    go_upto_region 1 with (fail)
    generalize (w.alloc (.cells #[.int .i64 d.n, .bool d.dead, .slice ka d.k.length kc, .slice na d.m.length nc] 37)).alloc (.cells #[.int .i64 0, .bool false, .slice none 0 0, .slice none 0 0] 37) = W0 at *
    obtain ⟨B0, Z0, g0, s0⟩ := hb
    obtain ⟨⟨c0, f0⟩, ⟨c1, f1⟩, ⟨c2, f2⟩, ⟨c3, f3⟩⟩ := B0
    go_wp2_with fail
    refine (implDiskOk_any _ _ d _ (H.out.grew g0)).mono ?_
    rintro e w1 ⟨rfl, g1⟩
    rw [hok]
    have d0 := gkc g1 c0
    have d1 := gkc g1 c1
    have d2 := gkc g1 c2
    have d3 := gkc g1 c3
    have G1 := gtrans g0 g1
    clear c0 c1 c2 c3 f0 f1 f2 f3
    go_wp2_with fail
    refine (hasPlace_any _ _ d k _ (H.out.grew G1)).mono ?_
    rintro e w2 ⟨rfl, g2⟩
    rw [hh]
    have G2 := gtrans G1 g2
    have hs1 := (gtrans g1 g2).size
    have Z2 := Z0.kept (gtrans g1 g2) (by simp)
    have S0 : WcS w2 w.heap.size (.int .i64 d.n) (.slice na d.m.length nc) := ⟨gkc g2 d0, gkc g2 d3⟩
    have e2 := gkc g2 d2
    clear d0 d1 d2 d3
    go_wp2_with (first | (go_at_call 193; refine (implValueOk_any _ _).mono ?_; rintro e w' ⟨rfl, rfl⟩))
    have hn2 := hn.grew (gdrew G2 1)
    go_region_held3 (fun w' => WcS w' w.heap.size (.int .i64 d.n) (.slice na d.m.length nc)) (first | assumption | exact S0.drew | exact WcS.kept ‹WcS _ _ _ _› ‹World.grownBy _ _ none›) (first | (go_at_call 220; refine (implCellOf_any _ _ _ _).mono ?_; rintro e w8 ⟨rfl, g8⟩; have hn8 := hn2.grew g8) | (go_at_call 219; refine (withCell_any _ _ d.m k _ _ _ hn8 hk1 (by omega)).mono ?_; rintro e w9 ⟨nv9, rfl, c9, g9⟩; obtain ⟨na9, nm9, nc9, rfl⟩ := c9.sl))
    have hs8 := g8.size
    simp at hs8
    have G9 : w2.grownBy w9 none := gtrans (gtrans (gdrew (grefl w2) 1) g8) g9
    have e2' := gkc G9 e2
    have S1 : WtS w9 w.heap.size (.int .i64 d.n) (.slice ka d.k.length kc) (w.heap.size + 1) := ⟨gkc G9 S0.1, e2', (Z2.kept G9 (by simp)).c0.live, (Z2.kept G9 (by simp)).c1.live, (Z2.kept G9 (by simp)).c2.live, (Z2.kept G9 (by simp)).c3.live⟩
    have hk9 := hk.grew (gdrew (gtrans G2 G9) 1)
    clear e2 e2'
    go_wp2_with fail
    go_region_held3 (fun w' => WtS w' w.heap.size (.int .i64 d.n) (.slice ka d.k.length kc) (w.heap.size + 1)) (first | assumption | exact S1.drew | exact WtS.kept ‹WtS _ _ _ _ _› ‹World.grownBy _ _ none› | exact WtS.set ‹WtS _ _ _ _ _› (by omega) _ _ _ _) (first | (go_at_call 221; refine (copied_any _ _ d.k _ hk9 (by omega)).mono ?_; rintro e w10 ⟨kv10, rfl, c10, g10⟩; obtain ⟨ka10, km10, kc10, rfl⟩ := c10.sl))
    have G10 : w9.grownBy w10 none := gtrans (gdrew (grefl w9) 1) g10
    have hs9 := G9.size
    simp at c10
    have c9' := c9.grew G10
    have ap := (fresh_apart c9 c10).symm
    obtain ⟨⟨z0, -⟩, ⟨z1, -⟩, ⟨z2, -⟩, ⟨z3, -⟩⟩ := Z2.kept (gtrans G9 G10) (by simp)
    have hR : NewD w (set4 w10 (w.heap.size + 1) (.int .i64 d.n) (.bool false) (.slice ka10 km10 kc10) (.slice na9 nm9 nc9)) (.slice ka10 km10 kc10) (.slice na9 nm9 nc9) { d with m := d.m.set k (cofV d.n k v, cofS d.n k v) } :=
      ⟨⟨(c10.lower (by omega)).set4 (not_own c10 (by omega)) _ _ _ _, (c9'.lower (by omega)).set4 (not_own c9' (by omega)) _ _ _ _⟩, ap, gset4 (gtrans G2 (gtrans G9 G10)) (by omega) _ _ _ _⟩
    clear S0 S1 hn2 hn8 hk9 c9 c10 c9' Z0 Z2
    go_wp2_with fail
    exact bodyPost_ret (v := .tuple #[.agg #[.int .i64 d.n, .bool false, .slice ka10 km10 kc10, .slice na9 nm9 nc9], .bool true]) (by simp [results, Tryz.results139, go_sem, z0, z1, z2, z3]) rfl ⟨_, _, by rw [hd.out], hR⟩
end Go.Proofs.YteialkknddpbjaaGreatDoor
