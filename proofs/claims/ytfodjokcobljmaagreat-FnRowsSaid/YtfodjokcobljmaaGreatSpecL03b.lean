/- What the specification's functions of chapter 3 return: Read. -/
import Derived.Test.YtfodjokcobljmaaGreatSpecL03
namespace Go.Proofs.YtfodjokcobljmaaGreat
open Go.ChangeShapes Go.WideShapes Go.ChangeAt Go.RowKit

set_option maxHeartbeats 1000000 in
theorem l3Read_any (kv nv : Value) (d : DZ) (p : Int) (w : World) (h : IsD w 0 kv nv d) :
    Calls Tryz.prog 40 #[.agg #[.int .i64 d.n, .bool d.dead, kv, nv], .int .i64 p] w (Pure (.tuple #[.int .i64 (canV d p), .bool (d.can p)]) w) := by
  obtain ⟨n, dead, kl, nl⟩ := d
  have H := Lib.hid h
  obtain ⟨hk, hn⟩ := h
  obtain ⟨na, nc, rfl, nm⟩ := hn.form
  dsimp only at *
  cases dead
  rotate_left
  · have HF : Hid (DZ.can ⟨n, true, kl, nl⟩ p = false) := by simp [Hid, DZ.can]
    rw [show canV ⟨n, true, kl, nl⟩ p = 0 by simp [canV, HF.out], HF.out]
    have S0 : BxS w _ _ _ _ _ _ := ⟨Box4.new w (.int .i64 n) (.bool true) kv (.slice na nl.length nc) 41, galloc (grefl w) _⟩
    go_enter Tryz.func40, Tryz.ntmps40
    go_wp2_with fail
    refine region_calm (fun w' => BxS w w' w.heap.size (.int .i64 n) (.bool true) kv (.slice na nl.length nc)) (by kernel_rfl) (by kernel_rfl) (S0.drew) ?_
    repeat (first
      | (refine calm_skip (by rfl) ?_; simp only [Act.put, List.setIfInBounds_toArray, List.set_cons_zero, List.set_cons_succ])
      | (refine calm_step (by rfl) ?_
         apply Exists.intro
         refine ⟨fun w' hw' => ?_, ?_⟩
         · go_simp
           first | done | exact rfl 
         simp only [Act.put, List.setIfInBounds_toArray, List.set_cons_zero, List.set_cons_succ]))
    refine calm_nil ?_
    intro w9 hw9
    go_wp2_with fail
    go_ret2
    exact ⟨rfl, hw9.2⟩
  have hW := galloc (grefl w) (.cells #[.int .i64 n, .bool false, kv, .slice na nl.length nc] 41)
  have S0 : BxS w _ _ _ _ _ _ := ⟨Box4.new w (.int .i64 n) (.bool false) kv (.slice na nl.length nc) 41, hW⟩
  cases hh : DZ.has ⟨n, false, kl, nl⟩ p
  · have HF : Hid (DZ.can ⟨n, false, kl, nl⟩ p = false) := by simp [Hid, DZ.can, hh]
    rw [show canV ⟨n, false, kl, nl⟩ p = 0 by simp [canV, HF.out], HF.out]
    go_enter Tryz.func40, Tryz.ntmps40
    go_wp2_with fail
    refine region_calm (fun w' => BxS w w' w.heap.size (.int .i64 n) (.bool false) kv (.slice na nl.length nc)) (by kernel_rfl) (by kernel_rfl) (S0.drew) ?_
    repeat (first
      | (refine calm_skip (by rfl) ?_; simp only [Act.put, List.setIfInBounds_toArray, List.set_cons_zero, List.set_cons_succ])
      | (refine calm_step (by rfl) ?_
         apply Exists.intro
         refine ⟨fun w' hw' => ?_, ?_⟩
         · go_simp
           first | done | exact rfl | (go_at_call 56; refine (l3Has_any kv _ ⟨n, false, kl, nl⟩ p _ (H.out.grew hw'.2)).mono ?_; rintro e w8 ⟨rfl, g8⟩; rw [hh]; exact ⟨rfl, hw'.kept g8⟩)
         simp only [Act.put, List.setIfInBounds_toArray, List.set_cons_zero, List.set_cons_succ]))
    refine calm_nil ?_
    intro w9 hw9
    go_wp2_with fail
    go_ret2
    exact ⟨rfl, hw9.2⟩
  · obtain ⟨k, rfl, hk1⟩ : ∃ k : Nat, p = k ∧ k < nl.length := ⟨p.toNat, by simp [DZ.has] at hh; omega, by simp [DZ.has] at hh; omega⟩
    have hce : DZ.cell ⟨n, false, kl, nl⟩ k = nl[k] := by simp [DZ.cell, List.getD_eq_getElem?_getD, hk1]
    obtain ⟨g, rfl, _, hgl, ⟨c0, f0⟩, ⟨c1, f1⟩⟩ := hn.at k hk1
    have S0 : RdS w _ _ _ _ _ _ g (k * 2) _ _ := ⟨S0.1, ⟨gkc hW c0, gkc hW c1⟩, hW⟩
    have HC : Hid (DZ.can ⟨n, false, kl, nl⟩ k = goodZ nl[k].1 nl[k].2 n k) := by simp [Hid, DZ.can, hh, hce]
    have HV : Hid (canV ⟨n, false, kl, nl⟩ k = if goodZ nl[k].1 nl[k].2 n k then nl[k].1 else 0) := by simp [Hid, canV, HC.out, hce]
    rw [HC.out, HV.out]
    have hi1 : (k : Int) < nl.length := by omega
    clear hce hW c0 c1 f0 f1
    cases hgd : goodZ nl[k].1 nl[k].2 n k
    · rw [if_neg (by simp)]
      go_enter Tryz.func40, Tryz.ntmps40
      go_wp2_with fail
      refine region_calm (fun w' => RdS w w' w.heap.size (.int .i64 n) (.bool false) kv (.slice (some ⟨g, 0, none⟩) nl.length nc) g (k * 2) (.int .i64 nl[k].1) (.int .i64 nl[k].2)) (by kernel_rfl) (by kernel_rfl) (S0.drew) ?_
      repeat (first
        | (refine calm_skip (by rfl) ?_; simp only [Act.put, List.setIfInBounds_toArray, List.set_cons_zero, List.set_cons_succ])
        | (refine calm_step (by rfl) ?_
           apply Exists.intro
           refine ⟨fun w' hw' => ?_, ?_⟩
           · go_simp
             first | done | exact rfl | (go_at_call 56; refine (l3Has_any kv _ ⟨n, false, kl, nl⟩ k _ (H.out.grew hw'.2.2)).mono ?_; rintro e w8 ⟨rfl, g8⟩; rw [hh]; exact ⟨rfl, hw'.kept g8⟩) | (go_at_call 57; refine (specGood_any _ _ _ _ _).mono ?_; rintro e w8 ⟨rfl, g8⟩; rw [hgd]; exact ⟨rfl, hw'.kept g8⟩)
           simp only [Act.put, List.setIfInBounds_toArray, List.set_cons_zero, List.set_cons_succ]))
      refine calm_nil ?_
      intro w9 hw9
      go_wp2_with fail
      go_ret2
      exact ⟨rfl, hw9.2.2⟩
    · rw [if_pos rfl]
      go_enter Tryz.func40, Tryz.ntmps40
      go_wp2_with fail
      refine region_calm (fun w' => RdS w w' w.heap.size (.int .i64 n) (.bool false) kv (.slice (some ⟨g, 0, none⟩) nl.length nc) g (k * 2) (.int .i64 nl[k].1) (.int .i64 nl[k].2)) (by kernel_rfl) (by kernel_rfl) (S0.drew) ?_
      repeat (first
        | (refine calm_skip (by rfl) ?_; simp only [Act.put, List.setIfInBounds_toArray, List.set_cons_zero, List.set_cons_succ])
        | (refine calm_step (by rfl) ?_
           apply Exists.intro
           refine ⟨fun w' hw' => ?_, ?_⟩
           · go_simp
             first | done | exact rfl | (go_at_call 56; refine (l3Has_any kv _ ⟨n, false, kl, nl⟩ k _ (H.out.grew hw'.2.2)).mono ?_; rintro e w8 ⟨rfl, g8⟩; rw [hh]; exact ⟨rfl, hw'.kept g8⟩) | (go_at_call 57; refine (specGood_any _ _ _ _ _).mono ?_; rintro e w8 ⟨rfl, g8⟩; rw [hgd]; exact ⟨rfl, hw'.kept g8⟩)
           simp only [Act.put, List.setIfInBounds_toArray, List.set_cons_zero, List.set_cons_succ]))
      refine calm_nil ?_
      intro w9 hw9
      obtain ⟨⟨x0, x1, x2, x3⟩, ⟨y0, y1⟩, GG⟩ := hw9
      go_wp2_with fail
      go_ret2
      exact ⟨rfl, GG⟩
theorem specRead_any (kv nv : Value) (d : DZ) (p : Int) (w : World) (h : IsD w 0 kv nv d) :
    Calls Tryz.prog 19 #[.agg #[.int .i64 d.n, .bool d.dead, kv, nv], .int .i64 p] w (Pure (.tuple #[.int .i64 (d.readV p), .bool (d.canRead p)]) w) := by
  have H := Lib.hid h
  obtain ⟨hk, hn⟩ := h
  obtain ⟨na, nc, rfl, nm⟩ := hn.form
  obtain ⟨ka, kc, rfl, km⟩ := hk.form
  have hW := galloc (grefl w) (.cells #[.int .i64 d.n, .bool d.dead, .slice ka d.k.length kc, .slice na d.m.length nc] 41)
  have HW := Lib.hid (H.out.grew hW)
  have S0 := Lib.hid (Box4.new w (.int .i64 d.n) (.bool d.dead) (.slice ka d.k.length kc) (.slice na d.m.length nc) 41)
  cases hok : d.ok
  · rw [show d.canRead p = false by simp [DZ.canRead, hok], show d.readV p = 0 by simp [DZ.readV, DZ.canRead, hok]]
    go_enter Tryz.func19, Tryz.ntmps19
    go_wp2_with fail
    refine (specDiskOk_any _ _ d _ HW.out).mono ?_
    rintro e w1 ⟨rfl, g1⟩
    rw [hok]
    go_wp2_with fail
    go_ret2
    exact ⟨rfl, gtrans hW g1⟩
  · rw [show d.canRead p = d.can p by simp [DZ.canRead, hok], show d.readV p = canV d p by simp [DZ.readV, canV, DZ.canRead, hok]]
    go_enter Tryz.func19, Tryz.ntmps19
    go_wp2_with fail
    refine (specDiskOk_any _ _ d _ HW.out).mono ?_
    rintro e w1 ⟨rfl, g1⟩
    rw [hok]
    obtain ⟨s0, s1, s2, s3⟩ := S0.out.kept g1
    go_wp2_with fail
    refine (l3Read_any _ _ d p _ (HW.out.grew g1)).mono ?_
    rintro e w2 ⟨rfl, g2⟩
    go_wp2_with fail
    go_ret2
    exact ⟨rfl, gtrans hW (gtrans g1 g2)⟩
end Go.Proofs.YtfodjokcobljmaaGreat
