/- What the program's functions of chapter 3 return: new disks, reads. -/
import Derived.Test.YtgmkdmcbaeaeiaaImplL03b
namespace Go.Proofs.Ytgmkdmcbaeaeiaa
open Go.ChangeShapes Go.WideShapes Go.ChangeAt Go.RowKit

theorem newL_get (n : Int) (p k : Nat) (h : k < (newL n p).length) : (newL n p)[k] = (cofV n k 0, cofS n k 0) := by simp [newL]
set_option maxHeartbeats 1000000 in
theorem implNewDisk_any (n p : Int) (w : World) :
    Calls Try.prog 16 #[.int .i64 n, .int .i64 p] w (GotDB (newD n p) (newOk n p) w) := by
  cases h1 : inB n 0 4
  · rw [show newD n p = .zero by simp [newD, newOk, h1], show newOk n p = false by simp [newOk, h1]]
    go_enter Try.func16, Try.ntmps16
    go_wp2_with (first | (go_at_call 52; refine (between_any _ _ _ _).mono ?_; rintro e w' ⟨rfl, rfl⟩))
    exact bodyPost_ret (v := .tuple #[.agg #[.int .i64 0, .bool false, .slice none 0 0, .slice none 0 0], .bool false]) (by simp [results, Try.results16, go_sem]) rfl ⟨_, _, rfl, newD_zero w (galloc (grefl _) _)⟩
  cases h2 : inB p 1 16
  · rw [show newD n p = .zero by simp [newD, newOk, h2], show newOk n p = false by simp [newOk, h2]]
    go_enter Try.func16, Try.ntmps16
    go_wp2_with (first | (go_at_call 52; refine (between_any _ _ _ _).mono ?_; rintro e w' ⟨rfl, rfl⟩))
    exact bodyPost_ret (v := .tuple #[.agg #[.int .i64 0, .bool false, .slice none 0 0, .slice none 0 0], .bool false]) (by simp [results, Try.results16, go_sem]) rfl ⟨_, _, rfl, newD_zero w (galloc (grefl _) _)⟩
  have hp := inB_iff.1 h2
  obtain ⟨q, rfl⟩ := Int.eq_ofNat_of_zero_le (show 0 ≤ p by omega)
  rw [show newD n q = ⟨n, false, newL n q, newL n q⟩ by simp [newD, newOk, h1, h2], show newOk n q = true by simp [newOk, h1, h2]]
  have g0 := galloc (grefl w) (.cells #[.int .i64 0, .bool false, .slice none 0 0, .slice none 0 0] 26)
  have Z0 : Zero4 (w.alloc (.cells #[.int .i64 0, .bool false, .slice none 0 0, .slice none 0 0] 26)) w.heap.size := ⟨by simp [At, go_sem], by simp [At, go_sem], by simp [At, go_sem], by simp [At, go_sem]⟩
  have s0 : (w.alloc (.cells #[.int .i64 0, .bool false, .slice none 0 0, .slice none 0 0] 26)).heap.size = w.heap.size + 1 := by simp
  have hq : q ≤ 16 := by omega
  have hq1 : 1 ≤ q := by omega
  have hmk := make_cells q (by omega)
  have hL := newL_length n q
  clear hp
  go_enter Try.func16, Try.ntmps16
  go_upto_region 1 with (fail)
  generalize w.alloc (.cells #[.int .i64 0, .bool false, .slice none 0 0, .slice none 0 0] 26) = W0 at *
  have C0 := CS.made W0 q (by omega) (Nat.le_refl W0.heap.size)
  have g1 := galloc (grefl W0) (.cells (zeros q) 43)
  rw [s0] at C0
  go_wp2_with (first | (go_at_call 52; refine (between_any _ _ _ _).mono ?_; rintro e w' ⟨rfl, rfl⟩))
  go_loopw [20] (fun i wr => ∃ k : Nat, k ≤ q ∧ i = .int .i64 k ∧ CS wr (w.heap.size + 1) (.slice (some ⟨w.heap.size + 1, 0, none⟩) q q) (fillL (newL n q) k) ∧ W0.grownBy wr none) (fun i _ => q - (intOf i).toNat)
  case atStart => exact ⟨0, Nat.zero_le _, rfl, by simpa [fillL, hL] using C0, g1⟩
  case round =>
    obtain ⟨k, hk, rfl, C, G⟩ := hrel
    clear hmk
    by_cases hlt : k < q
    · go_wp2_with fail
      refine (implCellOf_any _ _ _ _).mono ?_
      rintro e w2 ⟨rfl, g2⟩
      have C2 := C.grew g2
      obtain ⟨g, hg, _, _, ⟨x0, y0⟩, ⟨x1, y1⟩⟩ := C2.at k (by rw [fillL_length _ k (by omega)]; omega)
      cases hg
      have C3 := CS.set C2 k (by rw [fillL_length _ k (by omega)]; omega) (cofV n k 0) (cofS n k 0)
      rw [← newL_get n q k (by omega), fillL_set _ k (by omega)] at C3
      go_wp2_with fail
      go_roundw
      case rel => exact ⟨k + 1, by omega, by go_num, C3, gset1 (gset1 (gtrans G g2) (by omega) _ _) (by omega) _ _⟩
      case measure => simp [intOf]; omega
    · obtain rfl : k = q := by omega
      have hF : fillL (newL n k) k = newL n k := by simp [fillL, hL, List.take_of_length_le (Nat.le_of_eq hL)]
      rw [hF] at C
      have C' : CS wr (w.heap.size + 1) (.slice (some ⟨w.heap.size + 1, 0, none⟩) (newL n k).length k) (newL n k) := by rw [hL]; exact C
      have C0' := C'.lower (Nat.zero_le _)
      have hD := diskWith_any n false (.slice none 0 0) (.slice none 0 0) _ _ _ _ _ _ _ C0' C0' (by omega) (by omega)
      rw [hL] at hD
      go_wp2_with fail
      refine hD.mono ?_
      rintro e w2 ⟨kv, nv, rfl, ⟨ks, ns⟩, ap, g2⟩
      have hs := G.size
      obtain ⟨⟨z0, y0⟩, ⟨z1, y1⟩, ⟨z2, y2⟩, ⟨z3, y3⟩⟩ := Z0.kept (gtrans G g2) (by simp)
      have hR : NewD w (set4 w2 w.heap.size (.int .i64 n) (.bool false) kv nv) kv nv ⟨n, false, newL n k, newL n k⟩ := ⟨⟨(ks.lower (by omega)).set4 (not_own ks (by omega)) _ _ _ _, (ns.lower (by omega)).set4 (not_own ns (by omega)) _ _ _ _⟩, ap, gset4 (gtrans g0 (gtrans G g2)) (Nat.le_refl _) _ _ _ _⟩
      obtain ⟨ka, km, kc, rfl⟩ := ks.sl
      obtain ⟨na, nm, nc, rfl⟩ := ns.sl
      go_wp2_with fail
      exact bodyPost_ret (v := .tuple #[.agg #[.int .i64 n, .bool false, .slice ka km kc, .slice na nm nc], .bool true]) (by simp [results, Try.results16, go_sem, z0, z1, z2, z3]) rfl ⟨_, _, rfl, hR⟩
theorem DZ.ok_has {d : DZ} {p : Int} (h : d.ok = true) (hh : d.has p = true) : d.dead = false := by
  cases hd : d.dead
  · rfl
  · simp [DZ.ok, hd] at h; simp [DZ.has, h.2.2] at hh; omega
set_option maxHeartbeats 1000000 in
theorem implRead_any (kv nv : Value) (d : DZ) (p : Int) (w : World) (h : IsD w 0 kv nv d) :
    Calls Try.prog 18 #[.agg #[.int .i64 d.n, .bool d.dead, kv, nv], .int .i64 p] w (Pure (.tuple #[.int .i64 (d.readV p), .bool (d.canRead p)]) w) := by
  have H := Lib.hid h
  obtain ⟨n, dead, kl, nl⟩ := d
  obtain ⟨hk, hn⟩ := h
  obtain ⟨ka, kc, rfl, km⟩ := hk.form
  obtain ⟨na, nc, rfl, nm⟩ := hn.form
  dsimp only at *
  have hW := galloc (grefl w) (.cells #[.int .i64 n, .bool dead, .slice ka kl.length kc, .slice na nl.length nc] 26)
  have S0 : BxS w _ _ _ _ _ _ := ⟨Box4.new w (.int .i64 n) (.bool dead) (.slice ka kl.length kc) (.slice na nl.length nc) 26, hW⟩
  cases hok : DZ.ok ⟨n, dead, kl, nl⟩
  · rw [show DZ.canRead ⟨n, dead, kl, nl⟩ p = false by simp [DZ.canRead, hok], show DZ.readV ⟨n, dead, kl, nl⟩ p = 0 by simp [DZ.readV, DZ.canRead, hok]]
    go_enter Try.func18, Try.ntmps18
    go_wp2_with fail
    refine region_calm (fun w' => BxS w w' w.heap.size (.int .i64 n) (.bool dead) (.slice ka kl.length kc) (.slice na nl.length nc)) (by kernel_rfl) (by kernel_rfl) (S0.drew) ?_
    repeat (first
      | (refine calm_skip (by rfl) ?_; simp only [Act.put, List.setIfInBounds_toArray, List.set_cons_zero, List.set_cons_succ])
      | (refine calm_step (by rfl) ?_
         apply Exists.intro
         refine ⟨fun w' hw' => ?_, ?_⟩
         · go_simp
           first | done | exact rfl | (go_at_call 22; refine (implDiskOk_any _ _ ⟨n, dead, kl, nl⟩ _ (H.out.grew hw'.2)).mono ?_; rintro e w8 ⟨rfl, g8⟩; rw [hok]; exact ⟨rfl, hw'.kept g8⟩)
         simp only [Act.put, List.setIfInBounds_toArray, List.set_cons_zero, List.set_cons_succ]))
    refine calm_nil ?_
    intro w9 hw9
    go_wp2_with fail
    go_ret2
    exact ⟨rfl, hw9.2⟩
  cases hh : DZ.has ⟨n, dead, kl, nl⟩ p
  · rw [show DZ.canRead ⟨n, dead, kl, nl⟩ p = false by simp [DZ.canRead, DZ.can, hh], show DZ.readV ⟨n, dead, kl, nl⟩ p = 0 by simp [DZ.readV, DZ.canRead, DZ.can, hh]]
    go_enter Try.func18, Try.ntmps18
    go_wp2_with fail
    refine region_calm (fun w' => BxS w w' w.heap.size (.int .i64 n) (.bool dead) (.slice ka kl.length kc) (.slice na nl.length nc)) (by kernel_rfl) (by kernel_rfl) (S0.drew) ?_
    repeat (first
      | (refine calm_skip (by rfl) ?_; simp only [Act.put, List.setIfInBounds_toArray, List.set_cons_zero, List.set_cons_succ])
      | (refine calm_step (by rfl) ?_
         apply Exists.intro
         refine ⟨fun w' hw' => ?_, ?_⟩
         · go_simp
           first | done | exact rfl | (go_at_call 22; refine (implDiskOk_any _ _ ⟨n, dead, kl, nl⟩ _ (H.out.grew hw'.2)).mono ?_; rintro e w8 ⟨rfl, g8⟩; rw [hok]; exact ⟨rfl, hw'.kept g8⟩) | (go_at_call 44; refine (hasPlace_any _ _ ⟨n, dead, kl, nl⟩ p _ (H.out.grew hw'.2)).mono ?_; rintro e w8 ⟨rfl, g8⟩; rw [hh]; exact ⟨rfl, hw'.kept g8⟩)
         simp only [Act.put, List.setIfInBounds_toArray, List.set_cons_zero, List.set_cons_succ]))
    refine calm_nil ?_
    intro w9 hw9
    go_wp2_with fail
    go_ret2
    exact ⟨rfl, hw9.2⟩
  obtain rfl : dead = false := DZ.ok_has hok hh
  obtain ⟨k, rfl, hk1⟩ : ∃ k : Nat, p = k ∧ k < nl.length := ⟨p.toNat, by simp [DZ.has] at hh; omega, by simp [DZ.has] at hh; omega⟩
  have hce : DZ.cell ⟨n, false, kl, nl⟩ k = nl[k] := by simp [DZ.cell, List.getD_eq_getElem?_getD, hk1]
  obtain ⟨g, rfl, _, hgl, ⟨c0, f0⟩, ⟨c1, f1⟩⟩ := hn.at k hk1
  have S1 : RdS w _ _ _ _ _ _ g (k * 2) _ _ := ⟨S0.1, ⟨gkc hW c0, gkc hW c1⟩, hW⟩
  rw [show DZ.canRead ⟨n, false, kl, nl⟩ k = goodZ nl[k].1 nl[k].2 n k by simp [DZ.canRead, DZ.can, hh, hce, hok], show DZ.readV ⟨n, false, kl, nl⟩ k = if goodZ nl[k].1 nl[k].2 n k then nl[k].1 else 0 by simp [DZ.readV, DZ.canRead, DZ.can, hh, hce, hok]]
  have hi1 : (k : Int) < nl.length := by omega
  clear hce hW c0 c1 f0 f1 S0
  cases hgd : goodZ nl[k].1 nl[k].2 n k
  · rw [if_neg (by simp)]
    go_enter Try.func18, Try.ntmps18
    go_wp2_with fail
    refine region_calm (fun w' => RdS w w' w.heap.size (.int .i64 n) (.bool false) (.slice ka kl.length kc) (.slice (some ⟨g, 0, none⟩) nl.length nc) g (k * 2) (.int .i64 nl[k].1) (.int .i64 nl[k].2)) (by kernel_rfl) (by kernel_rfl) (S1.drew) ?_
    repeat (first
      | (refine calm_skip (by rfl) ?_; simp only [Act.put, List.setIfInBounds_toArray, List.set_cons_zero, List.set_cons_succ])
      | (refine calm_step (by rfl) ?_
         apply Exists.intro
         refine ⟨fun w' hw' => ?_, ?_⟩
         · go_simp
           first | done | exact rfl | (go_at_call 22; refine (implDiskOk_any _ _ ⟨n, false, kl, nl⟩ _ (H.out.grew hw'.2.2)).mono ?_; rintro e w8 ⟨rfl, g8⟩; rw [hok]; exact ⟨rfl, hw'.kept g8⟩) | (go_at_call 44; refine (hasPlace_any _ _ ⟨n, false, kl, nl⟩ k _ (H.out.grew hw'.2.2)).mono ?_; rintro e w8 ⟨rfl, g8⟩; rw [hh]; exact ⟨rfl, hw'.kept g8⟩) | (go_at_call 53; refine (implGood_any _ _ _ _ _).mono ?_; rintro e w8 ⟨rfl, g8⟩; rw [hgd]; exact ⟨rfl, hw'.kept g8⟩)
         simp only [Act.put, List.setIfInBounds_toArray, List.set_cons_zero, List.set_cons_succ]))
    refine calm_nil ?_
    intro w9 hw9
    go_wp2_with fail
    go_ret2
    exact ⟨rfl, hw9.2.2⟩
  · rw [if_pos rfl]
    go_enter Try.func18, Try.ntmps18
    go_wp2_with fail
    refine region_calm (fun w' => RdS w w' w.heap.size (.int .i64 n) (.bool false) (.slice ka kl.length kc) (.slice (some ⟨g, 0, none⟩) nl.length nc) g (k * 2) (.int .i64 nl[k].1) (.int .i64 nl[k].2)) (by kernel_rfl) (by kernel_rfl) (S1.drew) ?_
    repeat (first
      | (refine calm_skip (by rfl) ?_; simp only [Act.put, List.setIfInBounds_toArray, List.set_cons_zero, List.set_cons_succ])
      | (refine calm_step (by rfl) ?_
         apply Exists.intro
         refine ⟨fun w' hw' => ?_, ?_⟩
         · go_simp
           first | done | exact rfl | (go_at_call 22; refine (implDiskOk_any _ _ ⟨n, false, kl, nl⟩ _ (H.out.grew hw'.2.2)).mono ?_; rintro e w8 ⟨rfl, g8⟩; rw [hok]; exact ⟨rfl, hw'.kept g8⟩) | (go_at_call 44; refine (hasPlace_any _ _ ⟨n, false, kl, nl⟩ k _ (H.out.grew hw'.2.2)).mono ?_; rintro e w8 ⟨rfl, g8⟩; rw [hh]; exact ⟨rfl, hw'.kept g8⟩) | (go_at_call 53; refine (implGood_any _ _ _ _ _).mono ?_; rintro e w8 ⟨rfl, g8⟩; rw [hgd]; exact ⟨rfl, hw'.kept g8⟩)
         simp only [Act.put, List.setIfInBounds_toArray, List.set_cons_zero, List.set_cons_succ]))
    refine calm_nil ?_
    intro w9 hw9
    obtain ⟨⟨x0, x1, x2, x3⟩, ⟨y0, y1⟩, GG⟩ := hw9
    go_wp2_with fail
    go_ret2
    exact ⟨rfl, GG⟩
end Go.Proofs.Ytgmkdmcbaeaeiaa
