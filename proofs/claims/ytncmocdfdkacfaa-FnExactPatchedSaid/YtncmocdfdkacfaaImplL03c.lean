/- What the program's functions of chapter 3 return: a cell replaced, a disk made of lists. What the program's functions of chapter 3 return: new disks, reads. -/
import Derived.Test.YtncmocdfdkacfaaImplL03
namespace Go.Proofs.Ytncmocdfdkacfaa
open Go.ChangeShapes Go.WideShapes Go.ChangeAt Go.RowKit

theorem set_split (l : List (Int × Int)) (k : Nat) (z : Int × Int) (hk : k < l.length) : l.set k z = (l.take k ++ [z]) ++ l.drop (k + 1) := by
  rw [List.set_eq_take_append_cons_drop, if_pos hk]; simp
set_option maxHeartbeats 1000000 in
theorem withCell_any (a : Option Addr) (cap : Nat) (l : List (Int × Int)) (k : Nat) (x y : Int) (w : World) (h : CS w 0 (.slice a l.length cap) l) (hk : k < l.length) (hl : l.length ≤ 1000) :
    Calls Try.prog 82 #[.slice a l.length cap, .int .i64 k, .agg #[.int .i64 x, .int .i64 y]] w (GotC (l.set k (x, y)) w) := by
  have R := Own.rd h
  obtain ⟨a', c', e1, hc1, hc2, hc3⟩ := id R
  cases e1
  obtain ⟨g, rfl, -, hgl, -, -⟩ := h.at k hk
  have hT := Two.new w x y 100
  have g0 := galloc (grefl w) (.cells #[.int .i64 x, .int .i64 y] 100)
  generalize hW : w.alloc (.cells #[.int .i64 x, .int .i64 y] 100) = W0 at *
  have hk0 : (0 : Int) ≤ k := by omega
  have hk1 : (k : Int) ≤ cap := by omega
  have hk2 : (k : Int) + 1 ≤ l.length := by omega
  have RF := (R.kept g0).front k k (by omega) (Nat.le_refl _) (by omega)
  obtain ⟨⟨x0, -⟩, ⟨x1, -⟩⟩ := hT
  clear hc3
  go_enter Try.func82, Try.ntmps82
  go_upto_region 1 with (fail)
  go_region_law (first | (refine step_append_f (E := cellE) (base := w.heap.size) rfl (.tmp 11) (.tmp 13) rfl rfl rfl (RF.kept (galloc (gdrew (grefl _) 1) _)) (Own.rd (CS.single (base := 0) _ _ _ (Nat.zero_le _))) (by simp) (by simp; omega) (by decide) (by have := g0.size; simp; omega) ?_; intro v1 w1 o1 g1 b1))
  have hs1 := g0.size
  have hs2 := g1.size
  simp at hs2 b1
  have G1 : w.grownBy w1 none := gtrans g0 (gtrans (gdrew (galloc (grefl _) _) 1) g1)
  have hRR := (R.kept G1).rest (k + 1) (by omega)
  obtain ⟨v1a, v1n, v1c, rfl⟩ := Own.sl o1
  clear x0 x1
  by_cases hck : cap = k + 1
  · subst hck
    have hRR : Rd cellE w1 (.slice (some ⟨g, 0, none⟩) 0 0) (List.drop (k + 1) l) := by
      simpa [sliced, Nat.sub_eq_zero_of_le hc1] using hRR
    go_wp2_with (first | (at_builtin; refine wpList_append_r (E := cellE) (base := w.heap.size) rfl (.tmp 15) (.tmp 19) rfl rfl rfl o1 hRR (by simp; omega) (by decide) (by omega) ?_; intro v2 w2 o2 g2' b2; have g2 : w1.grownBy w2 (Value.slice v1a v1n v1c).ownBlock := g2'; clear g2' b2; obtain ⟨v2a, v2n, v2c, rfl⟩ := Own.sl o2))
    go_ret
    exact ⟨_, rfl, by rw [set_split l k _ hk]; exact o2, gsub G1 g2 (by rw [b1]; intro k e; cases e; omega)⟩
  · have hRR : Rd cellE w1 (.slice (some ⟨g, (k + 1) * 2, none⟩) (l.length - (k + 1)) (cap - (k + 1))) (List.drop (k + 1) l) := by
      simpa [sliced, if_neg hck, add_at, cellE] using hRR
    go_wp2_with (first | (at_builtin; refine wpList_append_r (E := cellE) (base := w.heap.size) rfl (.tmp 15) (.tmp 19) rfl rfl rfl o1 hRR (by simp; omega) (by decide) (by omega) ?_; intro v2 w2 o2 g2' b2; have g2 : w1.grownBy w2 (Value.slice v1a v1n v1c).ownBlock := g2'; clear g2' b2; obtain ⟨v2a, v2n, v2c, rfl⟩ := Own.sl o2))
    go_ret
    exact ⟨_, rfl, by rw [set_split l k _ hk]; exact o2, gsub G1 g2 (by rw [b1]; intro k e; cases e; omega)⟩
/-- what holds while diskWith gathers its fields -/
abbrev DwS (w' : World) (b : Nat) (x0 x1 : Value) (r : Nat) : Prop := w'.cell? ⟨b, 0, none⟩ = some x0 ∧ w'.cell? ⟨b, 1, none⟩ = some x1 ∧ Live w' r 0 ∧ Live w' r 1 ∧ Live w' r 2 ∧ Live w' r 3
theorem DwS.kept {w' w2 : World} {b r : Nat} {x0 x1 : Value} (h : DwS w' b x0 x1 r) (g : w'.grownBy w2 none) : DwS w2 b x0 x1 r := ⟨gkc g h.1, gkc g h.2.1, h.2.2.1.kept g, h.2.2.2.1.kept g, h.2.2.2.2.1.kept g, h.2.2.2.2.2.kept g⟩
theorem DwS.drew {w' : World} {b r : Nat} {x0 x1 : Value} (h : DwS w' b x0 x1 r) : DwS w'.drew b x0 x1 r := h
theorem DwS.set {w' : World} {b r : Nat} {x0 x1 : Value} (h : DwS w' b x0 x1 r) (hb : r ≠ b) (y0 y1 y2 y3 : Value) : DwS (set4 w' r y0 y1 y2 y3) b x0 x1 r := by
  have hn : ∀ (W : World) (p q : Nat) (x : Value), (W.setCell ⟨r, p, none⟩ x).cell? ⟨b, q, none⟩ = W.cell? ⟨b, q, none⟩ := fun W p q x => World.cell?_setCell_other W _ _ x (fun e => hb (by cases e; rfl))
  refine ⟨?_, ?_, ?_, ?_, ?_, ?_⟩ <;> unfold set4
  · rw [hn, hn, hn, hn]; exact h.1
  · rw [hn, hn, hn, hn]; exact h.2.1
  · exact (((h.2.2.1.set _).set _).set _).set _
  · exact (((h.2.2.2.1.set _).set _).set _).set _
  · exact (((h.2.2.2.2.1.set _).set _).set _).set _
  · exact (((h.2.2.2.2.2.set _).set _).set _).set _
set_option maxHeartbeats 2000000 in
theorem diskWith_any (n : Int) (dead : Bool) (x2 x3 : Value) (ka na : Option Addr) (kc nc : Nat) (kl nl : List (Int × Int)) (w : World) (hk : CS w 0 (.slice ka kl.length kc) kl) (hn : CS w 0 (.slice na nl.length nc) nl) (lk : kl.length ≤ 1000) (ln : nl.length ≤ 1000) :
    Calls Try.prog 51 #[.agg #[.int .i64 n, .bool dead, x2, x3], .slice ka kl.length kc, .slice na nl.length nc] w (GotD ⟨n, dead, kl, nl⟩ w) := by
  have hb := boxed2 w (.int .i64 n) (.bool dead) x2 x3 58
  go_enter Try.func51, Try.ntmps51
  go_upto_region 1 with (fail)
  generalize (w.alloc (.cells #[.int .i64 n, .bool dead, x2, x3] 58)).alloc (.cells #[.int .i64 0, .bool false, .slice none 0 0, .slice none 0 0] 58) = W0 at *
  obtain ⟨B0, Z0, g0, s0⟩ := hb
  have S0 : DwS W0 w.heap.size _ _ (w.heap.size + 1) := ⟨B0.c0.1, B0.c1.1, Z0.c0.live, Z0.c1.live, Z0.c2.live, Z0.c3.live⟩
  have hk0 := hk.grew (gdrew g0 1)
  have hn0 := hn.grew (gdrew g0 1)
  go_region_held3 (fun w' => DwS w' w.heap.size (.int .i64 n) (.bool dead) (w.heap.size + 1)) (first | assumption | exact S0.drew | exact DwS.kept ‹DwS _ _ _ _ _› ‹World.grownBy _ _ none› | exact DwS.set ‹DwS _ _ _ _ _› (by omega) _ _ _ _) (first | (go_at_call 79; refine (copied_any _ _ kl _ hk0 (by omega)).mono ?_; rintro e w8 ⟨kv8, rfl, c8, g8⟩; have hn8 := hn0.grew g8; clear hk0; obtain ⟨ka8, km8, kc8, rfl⟩ := c8.sl) | (go_at_call 79; refine (copied_any _ _ nl _ hn8 (by omega)).mono ?_; rintro e w9 ⟨nv9, rfl, c9, g9⟩; obtain ⟨na9, nm9, nc9, rfl⟩ := c9.sl))
  have G8 := gtrans (gdrew g0 1) g8
  have hs8 := g8.size
  simp at hs8 c8
  have c8' := c8.grew g9
  have ap := fresh_apart c8 c9
  obtain ⟨⟨z0, -⟩, ⟨z1, -⟩, ⟨z2, -⟩, ⟨z3, -⟩⟩ := Z0.kept (gtrans (gtrans (gdrew (grefl W0) 1) g8) g9) (by simp)
  have hR : NewD w (set4 w9 (w.heap.size + 1) (.int .i64 n) (.bool dead) (.slice ka8 km8 kc8) (.slice na9 nm9 nc9)) (.slice ka8 km8 kc8) (.slice na9 nm9 nc9) ⟨n, dead, kl, nl⟩ :=
    ⟨⟨(c8'.lower (by omega)).set4 (not_own c8' (by omega)) _ _ _ _, (c9.lower (by omega)).set4 (not_own c9 (by omega)) _ _ _ _⟩, ap, gset4 (gtrans G8 g9) (by omega) _ _ _ _⟩
  clear S0 hn0 hn8 c8 c9 c8' B0 Z0
  go_wp2_with fail
  exact bodyPost_ret (v := .agg #[.int .i64 n, .bool dead, .slice ka8 km8 kc8, .slice na9 nm9 nc9]) (by simp [results, Try.results51, go_sem, z0, z1, z2, z3]) rfl ⟨_, _, rfl, hR⟩
end Go.Proofs.Ytncmocdfdkacfaa
namespace Go.Proofs.Ytncmocdfdkacfaa
open Go.ChangeShapes Go.WideShapes Go.ChangeAt Go.RowKit

theorem newL_get (n : Int) (p k : Nat) (h : k < (newL n p).length) : (newL n p)[k] = (cofV n k 0, cofS n k 0) := by simp [newL]
theorem DZ.ok_has {d : DZ} {p : Int} (h : d.ok = true) (hh : d.has p = true) : d.dead = false := by
  cases hd : d.dead
  · rfl
  · simp [DZ.ok, hd] at h; simp [DZ.has, h.2.2] at hh; omega
set_option maxHeartbeats 1000000 in
theorem implRead_any (kv nv : Value) (d : DZ) (p : Int) (w : World) (h : IsD w 0 kv nv d) :
    Calls Try.prog 92 #[.agg #[.int .i64 d.n, .bool d.dead, kv, nv], .int .i64 p] w (Pure (.tuple #[.int .i64 (d.readV p), .bool (d.canRead p)]) w) := by
  have H := Lib.hid h
  obtain ⟨n, dead, kl, nl⟩ := d
  obtain ⟨hk, hn⟩ := h
  obtain ⟨ka, kc, rfl, km⟩ := hk.form
  obtain ⟨na, nc, rfl, nm⟩ := hn.form
  dsimp only at *
  have hW := galloc (grefl w) (.cells #[.int .i64 n, .bool dead, .slice ka kl.length kc, .slice na nl.length nc] 58)
  have S0 : BxS w _ _ _ _ _ _ := ⟨Box4.new w (.int .i64 n) (.bool dead) (.slice ka kl.length kc) (.slice na nl.length nc) 58, hW⟩
  cases hok : DZ.ok ⟨n, dead, kl, nl⟩
  · rw [show DZ.canRead ⟨n, dead, kl, nl⟩ p = false by simp [DZ.canRead, hok], show DZ.readV ⟨n, dead, kl, nl⟩ p = 0 by simp [DZ.readV, DZ.canRead, hok]]
    go_enter Try.func92, Try.ntmps92
    go_wp2_with fail
    refine region_calm (fun w' => BxS w w' w.heap.size (.int .i64 n) (.bool dead) (.slice ka kl.length kc) (.slice na nl.length nc)) (by kernel_rfl) (by kernel_rfl) (S0.drew) ?_
    repeat (first
      | (refine calm_skip (by rfl) ?_; simp only [Act.put, List.setIfInBounds_toArray, List.set_cons_zero, List.set_cons_succ])
      | (refine calm_step (by rfl) ?_
         apply Exists.intro
         refine ⟨fun w' hw' => ?_, ?_⟩
         · go_simp
           first | done | exact rfl | (go_at_call 80; refine (implDiskOk_any _ _ ⟨n, dead, kl, nl⟩ _ (H.out.grew hw'.2)).mono ?_; rintro e w8 ⟨rfl, g8⟩; rw [hok]; exact ⟨rfl, hw'.kept g8⟩)
         simp only [Act.put, List.setIfInBounds_toArray, List.set_cons_zero, List.set_cons_succ]))
    refine calm_nil ?_
    intro w9 hw9
    go_wp2_with fail
    go_ret2
    exact ⟨rfl, hw9.2⟩
  cases hh : DZ.has ⟨n, dead, kl, nl⟩ p
  · rw [show DZ.canRead ⟨n, dead, kl, nl⟩ p = false by simp [DZ.canRead, DZ.can, hh], show DZ.readV ⟨n, dead, kl, nl⟩ p = 0 by simp [DZ.readV, DZ.canRead, DZ.can, hh]]
    go_enter Try.func92, Try.ntmps92
    go_wp2_with fail
    refine region_calm (fun w' => BxS w w' w.heap.size (.int .i64 n) (.bool dead) (.slice ka kl.length kc) (.slice na nl.length nc)) (by kernel_rfl) (by kernel_rfl) (S0.drew) ?_
    repeat (first
      | (refine calm_skip (by rfl) ?_; simp only [Act.put, List.setIfInBounds_toArray, List.set_cons_zero, List.set_cons_succ])
      | (refine calm_step (by rfl) ?_
         apply Exists.intro
         refine ⟨fun w' hw' => ?_, ?_⟩
         · go_simp
           first | done | exact rfl | (go_at_call 80; refine (implDiskOk_any _ _ ⟨n, dead, kl, nl⟩ _ (H.out.grew hw'.2)).mono ?_; rintro e w8 ⟨rfl, g8⟩; rw [hok]; exact ⟨rfl, hw'.kept g8⟩) | (go_at_call 81; refine (hasPlace_any _ _ ⟨n, dead, kl, nl⟩ p _ (H.out.grew hw'.2)).mono ?_; rintro e w8 ⟨rfl, g8⟩; rw [hh]; exact ⟨rfl, hw'.kept g8⟩)
         simp only [Act.put, List.setIfInBounds_toArray, List.set_cons_zero, List.set_cons_succ]))
    refine calm_nil ?_
    intro w9 hw9
    go_wp2_with fail
    go_ret2
    exact ⟨rfl, hw9.2⟩
  obtain rfl : dead = false := DZ.ok_has hok hh
  obtain ⟨k, rfl, hk1⟩ : ∃ k : Nat, p = k ∧ k < nl.length := ⟨p.toNat, by simp [DZ.has] at hh; omega, by simp [DZ.has] at hh; omega⟩
  have hce : DZ.cell ⟨n, false, kl, nl⟩ k = nl[k] := by simp [DZ.cell, List.getD_eq_getElem?_getD, hk1]
  obtain ⟨g, rfl, _, hgl, ⟨c0, f0⟩, ⟨c1, f1⟩⟩ := hn.at k hk1
  have S1 : RdS w _ _ _ _ _ _ g (k * 2) _ _ := ⟨S0.1, ⟨gkc hW c0, gkc hW c1⟩, hW⟩
  rw [show DZ.canRead ⟨n, false, kl, nl⟩ k = goodZ nl[k].1 nl[k].2 n k by simp [DZ.canRead, DZ.can, hh, hce, hok], show DZ.readV ⟨n, false, kl, nl⟩ k = if goodZ nl[k].1 nl[k].2 n k then nl[k].1 else 0 by simp [DZ.readV, DZ.canRead, DZ.can, hh, hce, hok]]
  have hi1 : (k : Int) < nl.length := by omega
  clear hce hW c0 c1 f0 f1 S0
  cases hgd : goodZ nl[k].1 nl[k].2 n k
  · rw [if_neg (by simp)]
    go_enter Try.func92, Try.ntmps92
    go_wp2_with fail
    refine region_calm (fun w' => RdS w w' w.heap.size (.int .i64 n) (.bool false) (.slice ka kl.length kc) (.slice (some ⟨g, 0, none⟩) nl.length nc) g (k * 2) (.int .i64 nl[k].1) (.int .i64 nl[k].2)) (by kernel_rfl) (by kernel_rfl) (S1.drew) ?_
    repeat (first
      | (refine calm_skip (by rfl) ?_; simp only [Act.put, List.setIfInBounds_toArray, List.set_cons_zero, List.set_cons_succ])
      | (refine calm_step (by rfl) ?_
         apply Exists.intro
         refine ⟨fun w' hw' => ?_, ?_⟩
         · go_simp
           first | done | exact rfl | (go_at_call 80; refine (implDiskOk_any _ _ ⟨n, false, kl, nl⟩ _ (H.out.grew hw'.2.2)).mono ?_; rintro e w8 ⟨rfl, g8⟩; rw [hok]; exact ⟨rfl, hw'.kept g8⟩) | (go_at_call 81; refine (hasPlace_any _ _ ⟨n, false, kl, nl⟩ k _ (H.out.grew hw'.2.2)).mono ?_; rintro e w8 ⟨rfl, g8⟩; rw [hh]; exact ⟨rfl, hw'.kept g8⟩) | (go_at_call 105; refine (implGood_any _ _ _ _ _).mono ?_; rintro e w8 ⟨rfl, g8⟩; rw [hgd]; exact ⟨rfl, hw'.kept g8⟩)
         simp only [Act.put, List.setIfInBounds_toArray, List.set_cons_zero, List.set_cons_succ]))
    refine calm_nil ?_
    intro w9 hw9
    go_wp2_with fail
    go_ret2
    exact ⟨rfl, hw9.2.2⟩
  · rw [if_pos rfl]
    go_enter Try.func92, Try.ntmps92
    go_wp2_with fail
    refine region_calm (fun w' => RdS w w' w.heap.size (.int .i64 n) (.bool false) (.slice ka kl.length kc) (.slice (some ⟨g, 0, none⟩) nl.length nc) g (k * 2) (.int .i64 nl[k].1) (.int .i64 nl[k].2)) (by kernel_rfl) (by kernel_rfl) (S1.drew) ?_
    repeat (first
      | (refine calm_skip (by rfl) ?_; simp only [Act.put, List.setIfInBounds_toArray, List.set_cons_zero, List.set_cons_succ])
      | (refine calm_step (by rfl) ?_
         apply Exists.intro
         refine ⟨fun w' hw' => ?_, ?_⟩
         · go_simp
           first | done | exact rfl | (go_at_call 80; refine (implDiskOk_any _ _ ⟨n, false, kl, nl⟩ _ (H.out.grew hw'.2.2)).mono ?_; rintro e w8 ⟨rfl, g8⟩; rw [hok]; exact ⟨rfl, hw'.kept g8⟩) | (go_at_call 81; refine (hasPlace_any _ _ ⟨n, false, kl, nl⟩ k _ (H.out.grew hw'.2.2)).mono ?_; rintro e w8 ⟨rfl, g8⟩; rw [hh]; exact ⟨rfl, hw'.kept g8⟩) | (go_at_call 105; refine (implGood_any _ _ _ _ _).mono ?_; rintro e w8 ⟨rfl, g8⟩; rw [hgd]; exact ⟨rfl, hw'.kept g8⟩)
         simp only [Act.put, List.setIfInBounds_toArray, List.set_cons_zero, List.set_cons_succ]))
    refine calm_nil ?_
    intro w9 hw9
    obtain ⟨⟨x0, x1, x2, x3⟩, ⟨y0, y1⟩, GG⟩ := hw9
    go_wp2_with fail
    go_ret2
    exact ⟨rfl, GG⟩
end Go.Proofs.Ytncmocdfdkacfaa
