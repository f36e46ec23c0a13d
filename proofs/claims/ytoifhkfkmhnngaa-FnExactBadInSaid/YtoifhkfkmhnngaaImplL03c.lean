/- What the program's functions of chapter 3 return: new disks, reads. -/
import Derived.Test.YtoifhkfkmhnngaaImplL03b
namespace Go.Proofs.Ytoifhkfkmhnngaa
open Go.ChangeShapes Go.WideShapes Go.ChangeAt Go.RowKit

theorem newL_get (n : Int) (p k : Nat) (h : k < (newL n p).length) : (newL n p)[k] = (cofV n k 0, cofS n k 0) := by simp [newL]
theorem DZ.ok_has {d : DZ} {p : Int} (h : d.ok = true) (hh : d.has p = true) : d.dead = false := by
  cases hd : d.dead
  · rfl
  · simp [DZ.ok, hd] at h; simp [DZ.has, h.2.2] at hh; omega
set_option maxHeartbeats 1000000 in
theorem implRead_any (kv nv : Value) (d : DZ) (p : Int) (w : World) (h : IsD w 0 kv nv d) :
    Calls Try.prog 40 #[.agg #[.int .i64 d.n, .bool d.dead, kv, nv], .int .i64 p] w (Pure (.tuple #[.int .i64 (d.readV p), .bool (d.canRead p)]) w) := by
  have H := Lib.hid h
  obtain ⟨n, dead, kl, nl⟩ := d
  obtain ⟨hk, hn⟩ := h
  obtain ⟨ka, kc, rfl, km⟩ := hk.form
  obtain ⟨na, nc, rfl, nm⟩ := hn.form
  dsimp only at *
  have hW := galloc (grefl w) (.cells #[.int .i64 n, .bool dead, .slice ka kl.length kc, .slice na nl.length nc] 47)
  have S0 : BxS w _ _ _ _ _ _ := ⟨Box4.new w (.int .i64 n) (.bool dead) (.slice ka kl.length kc) (.slice na nl.length nc) 47, hW⟩
  cases hok : DZ.ok ⟨n, dead, kl, nl⟩
  · rw [show DZ.canRead ⟨n, dead, kl, nl⟩ p = false by simp [DZ.canRead, hok], show DZ.readV ⟨n, dead, kl, nl⟩ p = 0 by simp [DZ.readV, DZ.canRead, hok]]
    go_enter Try.func40, Try.ntmps40
    go_wp2_with fail
    refine region_calm (fun w' => BxS w w' w.heap.size (.int .i64 n) (.bool dead) (.slice ka kl.length kc) (.slice na nl.length nc)) (by kernel_rfl) (by kernel_rfl) (S0.drew) ?_
    repeat (first
      | (refine calm_skip (by rfl) ?_; simp only [Act.put, List.setIfInBounds_toArray, List.set_cons_zero, List.set_cons_succ])
      | (refine calm_step (by rfl) ?_
         apply Exists.intro
         refine ⟨fun w' hw' => ?_, ?_⟩
         · go_simp
           first | done | exact rfl | (go_at_call 50; refine (implDiskOk_any _ _ ⟨n, dead, kl, nl⟩ _ (H.out.grew hw'.2)).mono ?_; rintro e w8 ⟨rfl, g8⟩; rw [hok]; exact ⟨rfl, hw'.kept g8⟩)
         simp only [Act.put, List.setIfInBounds_toArray, List.set_cons_zero, List.set_cons_succ]))
    refine calm_nil ?_
    intro w9 hw9
    go_wp2_with fail
    go_ret2
    exact ⟨rfl, hw9.2⟩
  cases hh : DZ.has ⟨n, dead, kl, nl⟩ p
  · rw [show DZ.canRead ⟨n, dead, kl, nl⟩ p = false by simp [DZ.canRead, DZ.can, hh], show DZ.readV ⟨n, dead, kl, nl⟩ p = 0 by simp [DZ.readV, DZ.canRead, DZ.can, hh]]
    go_enter Try.func40, Try.ntmps40
    go_wp2_with fail
    refine region_calm (fun w' => BxS w w' w.heap.size (.int .i64 n) (.bool dead) (.slice ka kl.length kc) (.slice na nl.length nc)) (by kernel_rfl) (by kernel_rfl) (S0.drew) ?_
    repeat (first
      | (refine calm_skip (by rfl) ?_; simp only [Act.put, List.setIfInBounds_toArray, List.set_cons_zero, List.set_cons_succ])
      | (refine calm_step (by rfl) ?_
         apply Exists.intro
         refine ⟨fun w' hw' => ?_, ?_⟩
         · go_simp
           first | done | exact rfl | (go_at_call 50; refine (implDiskOk_any _ _ ⟨n, dead, kl, nl⟩ _ (H.out.grew hw'.2)).mono ?_; rintro e w8 ⟨rfl, g8⟩; rw [hok]; exact ⟨rfl, hw'.kept g8⟩) | (go_at_call 54; refine (hasPlace_any _ _ ⟨n, dead, kl, nl⟩ p _ (H.out.grew hw'.2)).mono ?_; rintro e w8 ⟨rfl, g8⟩; rw [hh]; exact ⟨rfl, hw'.kept g8⟩)
         simp only [Act.put, List.setIfInBounds_toArray, List.set_cons_zero, List.set_cons_succ]))
    refine calm_nil ?_
    intro w9 hw9
    go_wp2_with fail
    go_ret2
    exact ⟨rfl, hw9.2⟩
  obtain rfl : dead = false := DZ.ok_has hok hh
  obtain ⟨k, rfl, hk1⟩ : ∃ k : Nat, p = k ∧ k < nl.length := ⟨p.toNat, by simp [DZ.has] at hh; omega, by simp [DZ.has] at hh; omega⟩
  have hce : DZ.cell ⟨n, false, kl, nl⟩ k = nl[k] := by simp [DZ.cell, List.getD_eq_getElem?_getD, hk1]
  obtain ⟨g, rfl, _, hgl, ⟨c0, f0⟩, ⟨c1, f1⟩⟩ := hn.at k hk1
  have S1 : RdS w _ _ _ _ _ _ g (k * 2) _ _ := ⟨S0.1, ⟨gkc hW c0, gkc hW c1⟩, hW⟩
  rw [show DZ.canRead ⟨n, false, kl, nl⟩ k = goodZ nl[k].1 nl[k].2 n k by simp [DZ.canRead, DZ.can, hh, hce, hok], show DZ.readV ⟨n, false, kl, nl⟩ k = if goodZ nl[k].1 nl[k].2 n k then nl[k].1 else 0 by simp [DZ.readV, DZ.canRead, DZ.can, hh, hce, hok]]
  have hi1 : (k : Int) < nl.length := by omega
  clear hce hW c0 c1 f0 f1 S0
  cases hgd : goodZ nl[k].1 nl[k].2 n k
  · rw [if_neg (by simp)]
    go_enter Try.func40, Try.ntmps40
    go_wp2_with fail
    refine region_calm (fun w' => RdS w w' w.heap.size (.int .i64 n) (.bool false) (.slice ka kl.length kc) (.slice (some ⟨g, 0, none⟩) nl.length nc) g (k * 2) (.int .i64 nl[k].1) (.int .i64 nl[k].2)) (by kernel_rfl) (by kernel_rfl) (S1.drew) ?_
    repeat (first
      | (refine calm_skip (by rfl) ?_; simp only [Act.put, List.setIfInBounds_toArray, List.set_cons_zero, List.set_cons_succ])
      | (refine calm_step (by rfl) ?_
         apply Exists.intro
         refine ⟨fun w' hw' => ?_, ?_⟩
         · go_simp
           first | done | exact rfl | (go_at_call 50; refine (implDiskOk_any _ _ ⟨n, false, kl, nl⟩ _ (H.out.grew hw'.2.2)).mono ?_; rintro e w8 ⟨rfl, g8⟩; rw [hok]; exact ⟨rfl, hw'.kept g8⟩) | (go_at_call 54; refine (hasPlace_any _ _ ⟨n, false, kl, nl⟩ k _ (H.out.grew hw'.2.2)).mono ?_; rintro e w8 ⟨rfl, g8⟩; rw [hh]; exact ⟨rfl, hw'.kept g8⟩) | (go_at_call 55; refine (implGood_any _ _ _ _ _).mono ?_; rintro e w8 ⟨rfl, g8⟩; rw [hgd]; exact ⟨rfl, hw'.kept g8⟩)
         simp only [Act.put, List.setIfInBounds_toArray, List.set_cons_zero, List.set_cons_succ]))
    refine calm_nil ?_
    intro w9 hw9
    go_wp2_with fail
    go_ret2
    exact ⟨rfl, hw9.2.2⟩
  · rw [if_pos rfl]
    go_enter Try.func40, Try.ntmps40
    go_wp2_with fail
    refine region_calm (fun w' => RdS w w' w.heap.size (.int .i64 n) (.bool false) (.slice ka kl.length kc) (.slice (some ⟨g, 0, none⟩) nl.length nc) g (k * 2) (.int .i64 nl[k].1) (.int .i64 nl[k].2)) (by kernel_rfl) (by kernel_rfl) (S1.drew) ?_
    repeat (first
      | (refine calm_skip (by rfl) ?_; simp only [Act.put, List.setIfInBounds_toArray, List.set_cons_zero, List.set_cons_succ])
      | (refine calm_step (by rfl) ?_
         apply Exists.intro
         refine ⟨fun w' hw' => ?_, ?_⟩
         · go_simp
           first | done | exact rfl | (go_at_call 50; refine (implDiskOk_any _ _ ⟨n, false, kl, nl⟩ _ (H.out.grew hw'.2.2)).mono ?_; rintro e w8 ⟨rfl, g8⟩; rw [hok]; exact ⟨rfl, hw'.kept g8⟩) | (go_at_call 54; refine (hasPlace_any _ _ ⟨n, false, kl, nl⟩ k _ (H.out.grew hw'.2.2)).mono ?_; rintro e w8 ⟨rfl, g8⟩; rw [hh]; exact ⟨rfl, hw'.kept g8⟩) | (go_at_call 55; refine (implGood_any _ _ _ _ _).mono ?_; rintro e w8 ⟨rfl, g8⟩; rw [hgd]; exact ⟨rfl, hw'.kept g8⟩)
         simp only [Act.put, List.setIfInBounds_toArray, List.set_cons_zero, List.set_cons_succ]))
    refine calm_nil ?_
    intro w9 hw9
    obtain ⟨⟨x0, x1, x2, x3⟩, ⟨y0, y1⟩, GG⟩ := hw9
    go_wp2_with fail
    go_ret2
    exact ⟨rfl, GG⟩
end Go.Proofs.Ytoifhkfkmhnngaa
