/- What the program's functions of chapter 3 return, for every argument: validity, places, copies. What the program's functions of chapter 3 return: a cell replaced, a disk made of lists. What the program's functions of chapter 3 return: new disks, reads. What the program's functions of chapter 3 return: flushes, deaths. What the program's functions of chapter 3 return: writes. -/
import Derived.Test.YtnkfmjgbeoddbaaLawL03b
import Derived.Test.YtnkfmjgbeoddbaaSpecL02
import Derived.Test.YtnkfmjgbeoddbaaOwn
namespace Go.Proofs.Ytnkfmjgbeoddbaa
open Go.ChangeShapes Go.WideShapes Go.ChangeAt Go.RowKit

theorem allValid_any (a : Option Addr) (cap : Nat) (l : List (Int × Int)) (w : World) (h : CS w 0 (.slice a l.length cap) l) :
    Calls Try.prog 80 #[.slice a l.length cap] w (Pure (.bool (l.all okc)) w) := by
  have hm := h.bound.2
  go_enter Try.func80, Try.ntmps80
  go_wp2
  go_loopw [7] (fun i wr => ∃ k : Nat, k ≤ l.length ∧ i = .int .i64 k ∧ Hid ((l.take k).all okc = true) ∧ w.grownBy wr none) (fun i _ => l.length - (intOf i).toNat)
  case atStart => exact ⟨0, Nat.zero_le _, rfl, rfl, grefl _⟩
  case round =>
    obtain ⟨k, hk, rfl, HA, G⟩ := hrel
    by_cases hlt : k < l.length
    · obtain ⟨g, rfl, _, _, ⟨c0, f0⟩, ⟨c1, f1⟩⟩ := (h.grew G).at k hlt
      have hT := Lib.hid (take_next hlt)
      go_wp2_with fail
      refine (implCellOk_any _ _ _).mono ?_
      rintro e w2 ⟨rfl, g2⟩
      cases hok : cellOkZ l[k].1 l[k].2
      · have HN := Lib.hid (all_no hlt hok)
        go_wp2_with fail
        go_ret
        exact ⟨ret_bool HN.out.symm, by repeat (first | exact G | refine galloc ?_ _ | refine gsetN ?_ (by have := gsize G; simp <;> omega) _ _ | refine gtrans ?_ g2)⟩
      · have HN : Hid ((l.take (k + 1)).all okc = true) := by show _ = _; rw [hT.out, HA.out, hok]; rfl
        clear HA hT
        go_wp2_with fail
        go_roundw
        case rel => exact ⟨k + 1, by omega, by go_num, HN, by repeat (first | exact G | refine galloc ?_ _ | refine gsetN ?_ (by have := gsize G; simp <;> omega) _ _ | refine gtrans ?_ g2)⟩
        case measure => simp [intOf]; omega
    · have HN : Hid (l.all okc = true) := by show _ = _; have := HA.out; rwa [List.take_of_length_le (by omega)] at this
      clear HA
      go_wp2_with fail
      go_ret
      exact ⟨ret_bool HN.out.symm, G⟩
theorem implDiskOk_any (kv nv : Value) (d : DZ) (w : World) (h : IsD w 0 kv nv d) :
    Calls Try.prog 70 #[.agg #[.int .i64 d.n, .bool d.dead, kv, nv]] w (Pure (.bool d.ok) w) := by
  obtain ⟨n, dead, kl, nl⟩ := d
  obtain ⟨hk, hn⟩ := h
  obtain ⟨ka, kc, rfl, km⟩ := hk.form
  obtain ⟨na, nc, rfl, nm⟩ := hn.form
  dsimp only at *
  have hk0 := hk.grew (galloc (grefl w) (.cells #[.int .i64 n, .bool dead, .slice ka kl.length kc, .slice na nl.length nc] 74))
  cases h1 : inB n 0 4
  · have HF := Lib.hid (show DZ.ok ⟨n, dead, kl, nl⟩ = false by simp [DZ.ok, h1])
    go_enter Try.func70, Try.ntmps70
    go_wp2_with (first | (go_at_call 43; refine (between_any _ _ _ _).mono ?_; rintro e w' ⟨rfl, rfl⟩))
    go_ret
    exact ⟨ret_bool HF.out.symm, galloc (grefl _) _⟩
  by_cases h2 : kl.length = nl.length
  rotate_left
  · have HF := Lib.hid (show DZ.ok ⟨n, dead, kl, nl⟩ = false by
      cases hh : DZ.ok ⟨n, dead, kl, nl⟩
      · rfl
      · exact absurd (DZ.ok_len hh).1 h2)
    have hne : ((kl.length : Int) != (nl.length : Int)) = true := bne_iff_ne.2 (by omega)
    clear h2
    go_enter Try.func70, Try.ntmps70
    go_wp2_with (first | (go_at_call 43; refine (between_any _ _ _ _).mono ?_; rintro e w' ⟨rfl, rfl⟩))
    go_ret
    exact ⟨ret_bool HF.out.symm, galloc (grefl _) _⟩
  have hne : ((kl.length : Int) != (nl.length : Int)) = false := by rw [bne_eq_false_iff_eq]; omega
  cases dead
  rotate_left
  · have HF := Lib.hid (show DZ.ok ⟨n, true, kl, nl⟩ = ((nl.length : Int) == 0) by
      rw [Bool.eq_iff_iff]; simp [DZ.ok, h1]
      intro h; exact List.eq_nil_of_length_eq_zero (by rw [h2, h]; rfl))
    clear h2
    go_enter Try.func70, Try.ntmps70
    go_wp2_with (first | (go_at_call 43; refine (between_any _ _ _ _).mono ?_; rintro e w' ⟨rfl, rfl⟩))
    go_ret
    exact ⟨ret_bool HF.out.symm, galloc (grefl _) _⟩
  have HO := Lib.hid (show DZ.ok ⟨n, false, kl, nl⟩ = (inB nl.length 1 16 && (kl.all okc && nl.all okc)) by
    simp [DZ.ok, h1, cellsZ, h2]; cases inB nl.length 1 16 <;> simp)
  clear h2
  rw [HO.out]
  cases h3 : inB nl.length 1 16
  · go_enter Try.func70, Try.ntmps70
    go_wp2_with (first | (go_at_call 43; refine (between_any _ _ _ _).mono ?_; rintro e w' ⟨rfl, rfl⟩))
    go_ret
    exact ⟨rfl, galloc (grefl _) _⟩
  cases h4 : kl.all okc
  · go_enter Try.func70, Try.ntmps70
    go_wp2_with (first | (go_at_call 43; refine (between_any _ _ _ _).mono ?_; rintro e w' ⟨rfl, rfl⟩))
    refine (allValid_any _ _ _ _ hk0).mono ?_
    rintro e w1 ⟨rfl, g1⟩
    rw [h4]
    go_wp2_with fail
    go_ret
    exact ⟨rfl, gtrans (galloc (grefl _) _) g1⟩
  · go_enter Try.func70, Try.ntmps70
    go_wp2_with (first | (go_at_call 43; refine (between_any _ _ _ _).mono ?_; rintro e w' ⟨rfl, rfl⟩))
    refine (allValid_any _ _ _ _ hk0).mono ?_
    rintro e w1 ⟨rfl, g1⟩
    rw [h4]
    have G1 := gtrans (galloc (grefl w) _) g1
    have c3 := gkc g1 (b := w.heap.size) (o := 3) (v := .slice na nl.length nc) (by simp [go_sem])
    go_wp2_with fail
    refine (allValid_any _ _ _ _ (hn.grew G1)).mono ?_
    rintro e w2 ⟨rfl, g2⟩
    go_wp2_with fail
    go_ret
    exact ⟨ret_bool (by simp), gtrans G1 g2⟩
theorem hasPlace_any (kv nv : Value) (d : DZ) (p : Int) (w : World) (h : IsD w 0 kv nv d) :
    Calls Try.prog 71 #[.agg #[.int .i64 d.n, .bool d.dead, kv, nv], .int .i64 p] w (Pure (.bool (d.has p)) w) := by
  obtain ⟨n, dead, kl, nl⟩ := d
  obtain ⟨hk, hn⟩ := h
  obtain ⟨na, nc, rfl, nm⟩ := hn.form
  dsimp only at *
  have HF := Lib.hid (show DZ.has ⟨n, dead, kl, nl⟩ p = inB p 0 ((nl.length : Int) - 1) by unfold DZ.has inB; rw [decide_eq_decide]; dsimp only; omega)
  go_enter Try.func71, Try.ntmps71
  go_wp2_with (first | (go_at_call 43; refine (between_any _ _ _ _).mono ?_; rintro e w' ⟨rfl, rfl⟩))
  go_ret
  exact ⟨ret_bool HF.out.symm, galloc (grefl _) _⟩
end Go.Proofs.Ytnkfmjgbeoddbaa
namespace Go.Proofs.Ytnkfmjgbeoddbaa
open Go.ChangeShapes Go.WideShapes Go.ChangeAt Go.RowKit

theorem set_split (l : List (Int × Int)) (k : Nat) (z : Int × Int) (hk : k < l.length) : l.set k z = (l.take k ++ [z]) ++ l.drop (k + 1) := by
  rw [List.set_eq_take_append_cons_drop, if_pos hk]; simp
/-- what holds while diskWith gathers its fields -/
abbrev DwS (w' : World) (b : Nat) (x0 x1 : Value) (r : Nat) : Prop := w'.cell? ⟨b, 0, none⟩ = some x0 ∧ w'.cell? ⟨b, 1, none⟩ = some x1 ∧ Live w' r 0 ∧ Live w' r 1 ∧ Live w' r 2 ∧ Live w' r 3
theorem DwS.kept {w' w2 : World} {b r : Nat} {x0 x1 : Value} (h : DwS w' b x0 x1 r) (g : w'.grownBy w2 none) : DwS w2 b x0 x1 r := ⟨gkc g h.1, gkc g h.2.1, h.2.2.1.kept g, h.2.2.2.1.kept g, h.2.2.2.2.1.kept g, h.2.2.2.2.2.kept g⟩
theorem DwS.drew {w' : World} {b r : Nat} {x0 x1 : Value} (h : DwS w' b x0 x1 r) : DwS w'.drew b x0 x1 r := h
theorem DwS.set {w' : World} {b r : Nat} {x0 x1 : Value} (h : DwS w' b x0 x1 r) (hb : r ≠ b) (y0 y1 y2 y3 : Value) : DwS (set4 w' r y0 y1 y2 y3) b x0 x1 r := by
  have hn : ∀ (W : World) (p q : Nat) (x : Value), (W.setCell ⟨r, p, none⟩ x).cell? ⟨b, q, none⟩ = W.cell? ⟨b, q, none⟩ := fun W p q x => World.cell?_setCell_other W _ _ x (fun e => hb (by cases e; rfl))
  refine ⟨?_, ?_, ?_, ?_, ?_, ?_⟩ <;> unfold set4
  · rw [hn, hn, hn, hn]; exact h.1
  · rw [hn, hn, hn, hn]; exact h.2.1
  · exact (((h.2.2.1.set _).set _).set _).set _
  · exact (((h.2.2.2.1.set _).set _).set _).set _
  · exact (((h.2.2.2.2.1.set _).set _).set _).set _
  · exact (((h.2.2.2.2.2.set _).set _).set _).set _
end Go.Proofs.Ytnkfmjgbeoddbaa
namespace Go.Proofs.Ytnkfmjgbeoddbaa
open Go.ChangeShapes Go.WideShapes Go.ChangeAt Go.RowKit

theorem newL_get (n : Int) (p k : Nat) (h : k < (newL n p).length) : (newL n p)[k] = (cofV n k 0, cofS n k 0) := by simp [newL]
theorem DZ.ok_has {d : DZ} {p : Int} (h : d.ok = true) (hh : d.has p = true) : d.dead = false := by
  cases hd : d.dead
  · rfl
  · simp [DZ.ok, hd] at h; simp [DZ.has, h.2.2] at hh; omega
set_option maxHeartbeats 1000000 in
theorem implRead_any (kv nv : Value) (d : DZ) (p : Int) (w : World) (h : IsD w 0 kv nv d) :
    Calls Try.prog 53 #[.agg #[.int .i64 d.n, .bool d.dead, kv, nv], .int .i64 p] w (Pure (.tuple #[.int .i64 (d.readV p), .bool (d.canRead p)]) w) := by
  have H := Lib.hid h
  obtain ⟨n, dead, kl, nl⟩ := d
  obtain ⟨hk, hn⟩ := h
  obtain ⟨ka, kc, rfl, km⟩ := hk.form
  obtain ⟨na, nc, rfl, nm⟩ := hn.form
  dsimp only at *
  have hW := galloc (grefl w) (.cells #[.int .i64 n, .bool dead, .slice ka kl.length kc, .slice na nl.length nc] 74)
  have S0 : BxS w _ _ _ _ _ _ := ⟨Box4.new w (.int .i64 n) (.bool dead) (.slice ka kl.length kc) (.slice na nl.length nc) 74, hW⟩
  cases hok : DZ.ok ⟨n, dead, kl, nl⟩
  · rw [show DZ.canRead ⟨n, dead, kl, nl⟩ p = false by simp [DZ.canRead, hok], show DZ.readV ⟨n, dead, kl, nl⟩ p = 0 by simp [DZ.readV, DZ.canRead, hok]]
    go_enter Try.func53, Try.ntmps53
    go_wp2_with fail
    refine region_calm (fun w' => BxS w w' w.heap.size (.int .i64 n) (.bool dead) (.slice ka kl.length kc) (.slice na nl.length nc)) (by kernel_rfl) (by kernel_rfl) (S0.drew) ?_
    repeat (first
      | (refine calm_skip (by rfl) ?_; simp only [Act.put, List.setIfInBounds_toArray, List.set_cons_zero, List.set_cons_succ])
      | (refine calm_step (by rfl) ?_
         apply Exists.intro
         refine ⟨fun w' hw' => ?_, ?_⟩
         · go_simp
           first | done | exact rfl | (go_at_call 70; refine (implDiskOk_any _ _ ⟨n, dead, kl, nl⟩ _ (H.out.grew hw'.2)).mono ?_; rintro e w8 ⟨rfl, g8⟩; rw [hok]; exact ⟨rfl, hw'.kept g8⟩)
         simp only [Act.put, List.setIfInBounds_toArray, List.set_cons_zero, List.set_cons_succ]))
    refine calm_nil ?_
    intro w9 hw9
    go_wp2_with fail
    go_ret2
    exact ⟨rfl, hw9.2⟩
  cases hh : DZ.has ⟨n, dead, kl, nl⟩ p
  · rw [show DZ.canRead ⟨n, dead, kl, nl⟩ p = false by simp [DZ.canRead, DZ.can, hh], show DZ.readV ⟨n, dead, kl, nl⟩ p = 0 by simp [DZ.readV, DZ.canRead, DZ.can, hh]]
    go_enter Try.func53, Try.ntmps53
    go_wp2_with fail
    refine region_calm (fun w' => BxS w w' w.heap.size (.int .i64 n) (.bool dead) (.slice ka kl.length kc) (.slice na nl.length nc)) (by kernel_rfl) (by kernel_rfl) (S0.drew) ?_
    repeat (first
      | (refine calm_skip (by rfl) ?_; simp only [Act.put, List.setIfInBounds_toArray, List.set_cons_zero, List.set_cons_succ])
      | (refine calm_step (by rfl) ?_
         apply Exists.intro
         refine ⟨fun w' hw' => ?_, ?_⟩
         · go_simp
           first | done | exact rfl | (go_at_call 70; refine (implDiskOk_any _ _ ⟨n, dead, kl, nl⟩ _ (H.out.grew hw'.2)).mono ?_; rintro e w8 ⟨rfl, g8⟩; rw [hok]; exact ⟨rfl, hw'.kept g8⟩) | (go_at_call 71; refine (hasPlace_any _ _ ⟨n, dead, kl, nl⟩ p _ (H.out.grew hw'.2)).mono ?_; rintro e w8 ⟨rfl, g8⟩; rw [hh]; exact ⟨rfl, hw'.kept g8⟩)
         simp only [Act.put, List.setIfInBounds_toArray, List.set_cons_zero, List.set_cons_succ]))
    refine calm_nil ?_
    intro w9 hw9
    go_wp2_with fail
    go_ret2
    exact ⟨rfl, hw9.2⟩
  obtain rfl : dead = false := DZ.ok_has hok hh
  obtain ⟨k, rfl, hk1⟩ : ∃ k : Nat, p = k ∧ k < nl.length := ⟨p.toNat, by simp [DZ.has] at hh; omega, by simp [DZ.has] at hh; omega⟩
  have hce : DZ.cell ⟨n, false, kl, nl⟩ k = nl[k] := by simp [DZ.cell, List.getD_eq_getElem?_getD, hk1]
  obtain ⟨g, rfl, _, hgl, ⟨c0, f0⟩, ⟨c1, f1⟩⟩ := hn.at k hk1
  have S1 : RdS w _ _ _ _ _ _ g (k * 2) _ _ := ⟨S0.1, ⟨gkc hW c0, gkc hW c1⟩, hW⟩
  rw [show DZ.canRead ⟨n, false, kl, nl⟩ k = goodZ nl[k].1 nl[k].2 n k by simp [DZ.canRead, DZ.can, hh, hce, hok], show DZ.readV ⟨n, false, kl, nl⟩ k = if goodZ nl[k].1 nl[k].2 n k then nl[k].1 else 0 by simp [DZ.readV, DZ.canRead, DZ.can, hh, hce, hok]]
  have hi1 : (k : Int) < nl.length := by omega
  clear hce hW c0 c1 f0 f1 S0
  cases hgd : goodZ nl[k].1 nl[k].2 n k
  · rw [if_neg (by simp)]
    go_enter Try.func53, Try.ntmps53
    go_wp2_with fail
    refine region_calm (fun w' => RdS w w' w.heap.size (.int .i64 n) (.bool false) (.slice ka kl.length kc) (.slice (some ⟨g, 0, none⟩) nl.length nc) g (k * 2) (.int .i64 nl[k].1) (.int .i64 nl[k].2)) (by kernel_rfl) (by kernel_rfl) (S1.drew) ?_
    repeat (first
      | (refine calm_skip (by rfl) ?_; simp only [Act.put, List.setIfInBounds_toArray, List.set_cons_zero, List.set_cons_succ])
      | (refine calm_step (by rfl) ?_
         apply Exists.intro
         refine ⟨fun w' hw' => ?_, ?_⟩
         · go_simp
           first | done | exact rfl | (go_at_call 70; refine (implDiskOk_any _ _ ⟨n, false, kl, nl⟩ _ (H.out.grew hw'.2.2)).mono ?_; rintro e w8 ⟨rfl, g8⟩; rw [hok]; exact ⟨rfl, hw'.kept g8⟩) | (go_at_call 71; refine (hasPlace_any _ _ ⟨n, false, kl, nl⟩ k _ (H.out.grew hw'.2.2)).mono ?_; rintro e w8 ⟨rfl, g8⟩; rw [hh]; exact ⟨rfl, hw'.kept g8⟩) | (go_at_call 13; refine (implGood_any _ _ _ _ _).mono ?_; rintro e w8 ⟨rfl, g8⟩; rw [hgd]; exact ⟨rfl, hw'.kept g8⟩)
         simp only [Act.put, List.setIfInBounds_toArray, List.set_cons_zero, List.set_cons_succ]))
    refine calm_nil ?_
    intro w9 hw9
    go_wp2_with fail
    go_ret2
    exact ⟨rfl, hw9.2.2⟩
  · rw [if_pos rfl]
    go_enter Try.func53, Try.ntmps53
    go_wp2_with fail
    refine region_calm (fun w' => RdS w w' w.heap.size (.int .i64 n) (.bool false) (.slice ka kl.length kc) (.slice (some ⟨g, 0, none⟩) nl.length nc) g (k * 2) (.int .i64 nl[k].1) (.int .i64 nl[k].2)) (by kernel_rfl) (by kernel_rfl) (S1.drew) ?_
    repeat (first
      | (refine calm_skip (by rfl) ?_; simp only [Act.put, List.setIfInBounds_toArray, List.set_cons_zero, List.set_cons_succ])
      | (refine calm_step (by rfl) ?_
         apply Exists.intro
         refine ⟨fun w' hw' => ?_, ?_⟩
         · go_simp
           first | done | exact rfl | (go_at_call 70; refine (implDiskOk_any _ _ ⟨n, false, kl, nl⟩ _ (H.out.grew hw'.2.2)).mono ?_; rintro e w8 ⟨rfl, g8⟩; rw [hok]; exact ⟨rfl, hw'.kept g8⟩) | (go_at_call 71; refine (hasPlace_any _ _ ⟨n, false, kl, nl⟩ k _ (H.out.grew hw'.2.2)).mono ?_; rintro e w8 ⟨rfl, g8⟩; rw [hh]; exact ⟨rfl, hw'.kept g8⟩) | (go_at_call 13; refine (implGood_any _ _ _ _ _).mono ?_; rintro e w8 ⟨rfl, g8⟩; rw [hgd]; exact ⟨rfl, hw'.kept g8⟩)
         simp only [Act.put, List.setIfInBounds_toArray, List.set_cons_zero, List.set_cons_succ]))
    refine calm_nil ?_
    intro w9 hw9
    obtain ⟨⟨x0, x1, x2, x3⟩, ⟨y0, y1⟩, GG⟩ := hw9
    go_wp2_with fail
    go_ret2
    exact ⟨rfl, GG⟩
end Go.Proofs.Ytnkfmjgbeoddbaa
namespace Go.Proofs.Ytnkfmjgbeoddbaa
open Go.ChangeShapes Go.WideShapes Go.ChangeAt Go.RowKit

/-- a disk that a callee has made is handed on through a result variable r -/
theorem NewD.res {w w1 w2 : World} {r : Nat} {kv nv : Value} {d : DZ} (h : NewD w1 w2 kv nv d) (g : w.grownBy w1 none) (hr : w.heap.size ≤ r) (hr1 : r < w1.heap.size) (x0 x1 x2 x3 : Value) : NewD w (set4 w2 r x0 x1 x2 x3) kv nv d := by
  have hs := g.size
  exact ⟨⟨(h.1.1.lower (by omega)).set4 (not_own h.1.1 hr1) _ _ _ _, (h.1.2.lower (by omega)).set4 (not_own h.1.2 hr1) _ _ _ _⟩, h.2.1, gset4 (gtrans g h.2.2) hr _ _ _ _⟩
end Go.Proofs.Ytnkfmjgbeoddbaa
namespace Go.Proofs.Ytnkfmjgbeoddbaa
open Go.ChangeShapes Go.WideShapes Go.ChangeAt Go.RowKit

/-- what holds while Written gathers its result -/
abbrev WtS (w' : World) (b : Nat) (x0 x2 : Value) (r : Nat) : Prop := w'.cell? ⟨b, 0, none⟩ = some x0 ∧ w'.cell? ⟨b, 2, none⟩ = some x2 ∧ Live w' r 0 ∧ Live w' r 1 ∧ Live w' r 2 ∧ Live w' r 3
theorem WtS.kept {w' w2 : World} {b r : Nat} {x0 x2 : Value} (h : WtS w' b x0 x2 r) (g : w'.grownBy w2 none) : WtS w2 b x0 x2 r := ⟨gkc g h.1, gkc g h.2.1, h.2.2.1.kept g, h.2.2.2.1.kept g, h.2.2.2.2.1.kept g, h.2.2.2.2.2.kept g⟩
theorem WtS.drew {w' : World} {b r : Nat} {x0 x2 : Value} (h : WtS w' b x0 x2 r) : WtS w'.drew b x0 x2 r := h
theorem WtS.set {w' : World} {b r : Nat} {x0 x2 : Value} (h : WtS w' b x0 x2 r) (hb : r ≠ b) (y0 y1 y2 y3 : Value) : WtS (set4 w' r y0 y1 y2 y3) b x0 x2 r := by
  have hn : ∀ (W : World) (p q : Nat) (x : Value), (W.setCell ⟨r, p, none⟩ x).cell? ⟨b, q, none⟩ = W.cell? ⟨b, q, none⟩ := fun W p q x => World.cell?_setCell_other W _ _ x (fun e => hb (by cases e; rfl))
  refine ⟨?_, ?_, ?_, ?_, ?_, ?_⟩ <;> unfold set4
  · rw [hn, hn, hn, hn]; exact h.1
  · rw [hn, hn, hn, hn]; exact h.2.1
  · exact (((h.2.2.1.set _).set _).set _).set _
  · exact (((h.2.2.2.1.set _).set _).set _).set _
  · exact (((h.2.2.2.2.1.set _).set _).set _).set _
  · exact (((h.2.2.2.2.2.set _).set _).set _).set _
abbrev WcS (w' : World) (b : Nat) (x0 x3 : Value) : Prop := w'.cell? ⟨b, 0, none⟩ = some x0 ∧ w'.cell? ⟨b, 3, none⟩ = some x3
theorem WcS.kept {w' w2 : World} {b : Nat} {x0 x3 : Value} (h : WcS w' b x0 x3) (g : w'.grownBy w2 none) : WcS w2 b x0 x3 := ⟨gkc g h.1, gkc g h.2⟩
theorem WcS.drew {w' : World} {b : Nat} {x0 x3 : Value} (h : WcS w' b x0 x3) : WcS w'.drew b x0 x3 := h
end Go.Proofs.Ytnkfmjgbeoddbaa
