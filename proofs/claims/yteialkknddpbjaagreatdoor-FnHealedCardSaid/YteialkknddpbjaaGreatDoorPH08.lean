/- What the specification's functions of chapter 3 return. What the specification's functions of chapter 3 return: Read. What the specification's functions of chapter 3 return: new disks. -/
import Derived.Deep.RegionHeld3
import Derived.Deep.RegionLaw
import Derived.Test.YteialkknddpbjaaGreatDoorPH06
import Derived.Test.YteialkknddpbjaaGreatDoorPH07
namespace Go.Proofs.YteialkknddpbjaaGreatDoor
open Go.ChangeShapes Go.WideShapes Go.ChangeAt Go.RowKit

theorem l3Cells_any (a : Option Addr) (cap : Nat) (l : List (Int × Int)) (w : World) (h : CS w 0 (.slice a l.length cap) l) :
    Calls Tryz.prog 152 #[.slice a l.length cap] w (Pure (.bool (cellsZ l)) w) := by
  have hm := h.bound.2
  go_enter Tryz.func152, Tryz.ntmps152
  go_wp2
  go_loopw [3] (fun i wr => ∃ k : Nat, k ≤ l.length ∧ i = .int .i64 k ∧ Hid ((l.take k).all okc = true) ∧ w.grownBy wr none) (fun i _ => l.length - (intOf i).toNat)
  case atStart => exact ⟨0, Nat.zero_le _, rfl, rfl, grefl _⟩
  case round =>
    obtain ⟨k, hk, rfl, HA, G⟩ := hrel
    by_cases hlt : k < l.length
    · obtain ⟨g, rfl, _, _, ⟨c0, f0⟩, ⟨c1, f1⟩⟩ := (h.grew G).at k hlt
      have hT := Lib.hid (take_next hlt)
      go_wp2_with fail
      refine (specCellOk_any _ _ _).mono ?_
      rintro e w2 ⟨rfl, g2⟩
      cases hok : cellOkZ l[k].1 l[k].2
      · have HN := Lib.hid (all_no hlt hok)
        go_wp2_with fail
        go_ret
        exact ⟨ret_bool (by simp [cellsZ, HN.out]), gtrans G g2⟩
      · have HN : Hid ((l.take (k + 1)).all okc = true) := by show _ = _; rw [hT.out, HA.out, hok]; rfl
        clear HA hT
        go_wp2_with fail
        go_roundw
        case rel => exact ⟨k + 1, by omega, by go_num, HN, gtrans G g2⟩
        case measure => simp [intOf]; omega
    · have HN : Hid (l.all okc = true) := by show _ = _; have := HA.out; rwa [List.take_of_length_le (by omega)] at this
      clear HA
      go_wp2_with fail
      refine (l1In_any _ _ _ _).mono ?_
      rintro e w' ⟨rfl, rfl⟩
      go_wp2_with fail
      go_ret
      exact ⟨ret_bool (by simp [cellsZ, HN.out]), G⟩
theorem specDiskOk_any (kv nv : Value) (d : DZ) (w : World) (h : IsD w 0 kv nv d) :
    Calls Tryz.prog 82 #[.agg #[.int .i64 d.n, .bool d.dead, kv, nv]] w (Pure (.bool d.ok) w) := by
  obtain ⟨n, dead, kl, nl⟩ := d
  obtain ⟨hk, hn⟩ := h
  obtain ⟨ka, kc, rfl, km⟩ := hk.form
  obtain ⟨na, nc, rfl, nm⟩ := hn.form
  dsimp only at *
  have hk0 := hk.grew (galloc (grefl w) (.cells #[.int .i64 n, .bool dead, .slice ka kl.length kc, .slice na nl.length nc] 37))
  cases h1 : inB n 0 4
  · have HF := Lib.hid (show DZ.ok ⟨n, dead, kl, nl⟩ = false by simp [DZ.ok, h1])
    go_enter Tryz.func82, Tryz.ntmps82
    go_wp2_with (first | (go_at_call 151; refine (l1Disk_any _ _).mono ?_; rintro e w' ⟨rfl, rfl⟩))
    go_ret
    exact ⟨ret_bool HF.out.symm, galloc (grefl _) _⟩
  cases dead
  · cases h2 : cellsZ kl
    · have HF := Lib.hid (show DZ.ok ⟨n, false, kl, nl⟩ = false by simp [DZ.ok, h2])
      go_enter Tryz.func82, Tryz.ntmps82
      go_wp2_with (first | (go_at_call 151; refine (l1Disk_any _ _).mono ?_; rintro e w' ⟨rfl, rfl⟩))
      refine (l3Cells_any _ _ _ _ hk0).mono ?_
      rintro e w1 ⟨rfl, g1⟩
      go_wp2_with fail
      go_ret
      exact ⟨ret_bool HF.out.symm, gtrans (galloc (grefl _) _) g1⟩
    cases h3 : cellsZ nl
    · have HF := Lib.hid (show DZ.ok ⟨n, false, kl, nl⟩ = false by simp [DZ.ok, h3])
      go_enter Tryz.func82, Tryz.ntmps82
      go_wp2_with (first | (go_at_call 151; refine (l1Disk_any _ _).mono ?_; rintro e w' ⟨rfl, rfl⟩))
      refine (l3Cells_any _ _ _ _ hk0).mono ?_
      rintro e w1 ⟨rfl, g1⟩
      have G1 := gtrans (galloc (grefl w) _) g1
      have c3 := gkc g1 (b := w.heap.size) (o := 3) (v := .slice na nl.length nc) (by simp [go_sem])
      go_wp2_with fail
      refine (l3Cells_any _ _ _ _ (hn.grew G1)).mono ?_
      rintro e w2 ⟨rfl, g2⟩
      go_wp2_with fail
      go_ret
      exact ⟨ret_bool HF.out.symm, gtrans G1 g2⟩
    · have HF := Lib.hid (show DZ.ok ⟨n, false, kl, nl⟩ = (kl.length == nl.length) by simp [DZ.ok, h1, h2, h3])
      go_enter Tryz.func82, Tryz.ntmps82
      go_wp2_with (first | (go_at_call 151; refine (l1Disk_any _ _).mono ?_; rintro e w' ⟨rfl, rfl⟩))
      refine (l3Cells_any _ _ _ _ hk0).mono ?_
      rintro e w1 ⟨rfl, g1⟩
      have G1 := gtrans (galloc (grefl w) _) g1
      have c2 := gkc g1 (b := w.heap.size) (o := 2) (v := .slice ka kl.length kc) (by simp [go_sem])
      have c3 := gkc g1 (b := w.heap.size) (o := 3) (v := .slice na nl.length nc) (by simp [go_sem])
      go_wp2_with fail
      refine (l3Cells_any _ _ _ _ (hn.grew G1)).mono ?_
      rintro e w2 ⟨rfl, g2⟩
      have c2 := gkc g2 c2
      have c3 := gkc g2 c3
      go_wp2_with fail
      go_ret
      refine ⟨ret_bool ?_, gtrans G1 g2⟩
      rw [HF.out, Bool.eq_iff_iff]
      simp only [beq_iff_eq]
      omega
  · have HF := Lib.hid (show DZ.ok ⟨n, true, kl, nl⟩ = (kl.length == 0 && nl.length == 0) by simp [DZ.ok, h1])
    have z1 : ∀ l : List (Int × Int), ((l.length : Int) == 0) = (l.length == 0) := fun l => by rw [Bool.eq_iff_iff]; simp
    cases k0 : kl.length == 0
    · have k1 : ((kl.length : Int) == 0) = false := by rw [z1]; exact k0
      go_enter Tryz.func82, Tryz.ntmps82
      go_wp2_with (first | (go_at_call 151; refine (l1Disk_any _ _).mono ?_; rintro e w' ⟨rfl, rfl⟩))
      go_ret
      exact ⟨ret_bool (by rw [HF.out, k0]; rfl), galloc (grefl _) _⟩
    · have k1 : ((kl.length : Int) == 0) = true := by rw [z1]; exact k0
      have n1 := Lib.hid (z1 nl)
      clear z1
      go_enter Tryz.func82, Tryz.ntmps82
      go_wp2_with (first | (go_at_call 151; refine (l1Disk_any _ _).mono ?_; rintro e w' ⟨rfl, rfl⟩))
      go_ret
      exact ⟨ret_bool (by rw [HF.out, k0, n1.out]; rfl), galloc (grefl _) _⟩
theorem l3Has_any (kv nv : Value) (d : DZ) (p : Int) (w : World) (h : IsD w 0 kv nv d) :
    Calls Tryz.prog 153 #[.agg #[.int .i64 d.n, .bool d.dead, kv, nv], .int .i64 p] w (Pure (.bool (d.has p)) w) := by
  obtain ⟨n, dead, kl, nl⟩ := d
  obtain ⟨hk, hn⟩ := h
  obtain ⟨na, nc, rfl, nm⟩ := hn.form
  dsimp only at *
  by_cases h0 : 0 ≤ p
  · have HF := Lib.hid (show DZ.has ⟨n, dead, kl, nl⟩ p = decide (p < nl.length) by simp [DZ.has, h0])
    go_enter Tryz.func153, Tryz.ntmps153
    go_wp2_with fail
    go_ret
    exact ⟨ret_bool HF.out.symm, galloc (grefl _) _⟩
  · have HF := Lib.hid (show DZ.has ⟨n, dead, kl, nl⟩ p = false by simp [DZ.has, h0])
    have h1 : p < 0 := by omega
    clear h0
    go_enter Tryz.func153, Tryz.ntmps153
    go_wp2_with fail
    go_ret
    exact ⟨ret_bool HF.out.symm, galloc (grefl _) _⟩
/-- what holds while l3Read gathers its operands -/
abbrev RdS (w w' : World) (b : Nat) (x0 x1 x2 x3 : Value) (g o : Nat) (y0 y1 : Value) : Prop := Box4 w' b x0 x1 x2 x3 ∧ TwoO w' g o y0 y1 ∧ w.grownBy w' none
theorem RdS.kept {w w' w2 : World} {b : Nat} {x0 x1 x2 x3 : Value} {g o : Nat} {y0 y1 : Value} (h : RdS w w' b x0 x1 x2 x3 g o y0 y1) (hg : w'.grownBy w2 none) : RdS w w2 b x0 x1 x2 x3 g o y0 y1 := ⟨h.1.kept hg, h.2.1.kept hg, gtrans h.2.2 hg⟩
theorem RdS.drew {w w' : World} {b : Nat} {x0 x1 x2 x3 : Value} {g o : Nat} {y0 y1 : Value} (h : RdS w w' b x0 x1 x2 x3 g o y0 y1) : RdS w w'.drew b x0 x1 x2 x3 g o y0 y1 := ⟨h.1, h.2.1, gdrew h.2.2 1⟩
abbrev BxS (w w' : World) (b : Nat) (x0 x1 x2 x3 : Value) : Prop := Box4 w' b x0 x1 x2 x3 ∧ w.grownBy w' none
theorem BxS.kept {w w' w2 : World} {b : Nat} {x0 x1 x2 x3 : Value} (h : BxS w w' b x0 x1 x2 x3) (hg : w'.grownBy w2 none) : BxS w w2 b x0 x1 x2 x3 := ⟨h.1.kept hg, gtrans h.2 hg⟩
theorem BxS.drew {w w' : World} {b : Nat} {x0 x1 x2 x3 : Value} (h : BxS w w' b x0 x1 x2 x3) : BxS w w'.drew b x0 x1 x2 x3 := ⟨h.1, gdrew h.2 1⟩
def canV (d : DZ) (p : Int) : Int := if d.can p then (d.cell p).1 else 0
end Go.Proofs.YteialkknddpbjaaGreatDoor
namespace Go.Proofs.YteialkknddpbjaaGreatDoor
open Go.ChangeShapes Go.WideShapes Go.ChangeAt Go.RowKit

set_option maxHeartbeats 1000000 in
theorem l3Read_any (kv nv : Value) (d : DZ) (p : Int) (w : World) (h : IsD w 0 kv nv d) :
    Calls Tryz.prog 83 #[.agg #[.int .i64 d.n, .bool d.dead, kv, nv], .int .i64 p] w (Pure (.tuple #[.int .i64 (canV d p), .bool (d.can p)]) w) := by
  obtain ⟨n, dead, kl, nl⟩ := d
  have H := Lib.hid h
  obtain ⟨hk, hn⟩ := h
  obtain ⟨na, nc, rfl, nm⟩ := hn.form
  dsimp only at *
  cases dead
  rotate_left
  · have HF : Hid (DZ.can ⟨n, true, kl, nl⟩ p = false) := by simp [Hid, DZ.can]
    rw [show canV ⟨n, true, kl, nl⟩ p = 0 by simp [canV, HF.out], HF.out]
    have S0 : BxS w _ _ _ _ _ _ := ⟨Box4.new w (.int .i64 n) (.bool true) kv (.slice na nl.length nc) 37, galloc (grefl w) _⟩
    go_enter Tryz.func83, Tryz.ntmps83
    go_wp2_with fail
    refine region_calm (fun w' => BxS w w' w.heap.size (.int .i64 n) (.bool true) kv (.slice na nl.length nc)) (by kernel_rfl) (by kernel_rfl) (S0.drew) ?_
    repeat (first
      | (refine calm_skip (by rfl) ?_; simp only [Act.put, List.setIfInBounds_toArray, List.set_cons_zero, List.set_cons_succ])
      | (refine calm_step (by rfl) ?_
         apply Exists.intro
         refine ⟨fun w' hw' => ?_, ?_⟩
         · go_simp
           first | done | exact rfl 
         simp only [Act.put, List.setIfInBounds_toArray, List.set_cons_zero, List.set_cons_succ]))
    refine calm_nil ?_
    intro w9 hw9
    go_wp2_with fail
    go_ret2
    exact ⟨rfl, hw9.2⟩
  have hW := galloc (grefl w) (.cells #[.int .i64 n, .bool false, kv, .slice na nl.length nc] 37)
  have S0 : BxS w _ _ _ _ _ _ := ⟨Box4.new w (.int .i64 n) (.bool false) kv (.slice na nl.length nc) 37, hW⟩
  cases hh : DZ.has ⟨n, false, kl, nl⟩ p
  · have HF : Hid (DZ.can ⟨n, false, kl, nl⟩ p = false) := by simp [Hid, DZ.can, hh]
    rw [show canV ⟨n, false, kl, nl⟩ p = 0 by simp [canV, HF.out], HF.out]
    go_enter Tryz.func83, Tryz.ntmps83
    go_wp2_with fail
    refine region_calm (fun w' => BxS w w' w.heap.size (.int .i64 n) (.bool false) kv (.slice na nl.length nc)) (by kernel_rfl) (by kernel_rfl) (S0.drew) ?_
    repeat (first
      | (refine calm_skip (by rfl) ?_; simp only [Act.put, List.setIfInBounds_toArray, List.set_cons_zero, List.set_cons_succ])
      | (refine calm_step (by rfl) ?_
         apply Exists.intro
         refine ⟨fun w' hw' => ?_, ?_⟩
         · go_simp
           first | done | exact rfl | (go_at_call 153; refine (l3Has_any kv _ ⟨n, false, kl, nl⟩ p _ (H.out.grew hw'.2)).mono ?_; rintro e w8 ⟨rfl, g8⟩; rw [hh]; exact ⟨rfl, hw'.kept g8⟩)
         simp only [Act.put, List.setIfInBounds_toArray, List.set_cons_zero, List.set_cons_succ]))
    refine calm_nil ?_
    intro w9 hw9
    go_wp2_with fail
    go_ret2
    exact ⟨rfl, hw9.2⟩
  · obtain ⟨k, rfl, hk1⟩ : ∃ k : Nat, p = k ∧ k < nl.length := ⟨p.toNat, by simp [DZ.has] at hh; omega, by simp [DZ.has] at hh; omega⟩
    have hce : DZ.cell ⟨n, false, kl, nl⟩ k = nl[k] := by simp [DZ.cell, List.getD_eq_getElem?_getD, hk1]
    obtain ⟨g, rfl, _, hgl, ⟨c0, f0⟩, ⟨c1, f1⟩⟩ := hn.at k hk1
    have S0 : RdS w _ _ _ _ _ _ g (k * 2) _ _ := ⟨S0.1, ⟨gkc hW c0, gkc hW c1⟩, hW⟩
    have HC : Hid (DZ.can ⟨n, false, kl, nl⟩ k = goodZ nl[k].1 nl[k].2 n k) := by simp [Hid, DZ.can, hh, hce]
    have HV : Hid (canV ⟨n, false, kl, nl⟩ k = if goodZ nl[k].1 nl[k].2 n k then nl[k].1 else 0) := by simp [Hid, canV, HC.out, hce]
    rw [HC.out, HV.out]
    have hi1 : (k : Int) < nl.length := by omega
    clear hce hW c0 c1 f0 f1
    cases hgd : goodZ nl[k].1 nl[k].2 n k
    · rw [if_neg (by simp)]
      go_enter Tryz.func83, Tryz.ntmps83
      go_wp2_with fail
      refine region_calm (fun w' => RdS w w' w.heap.size (.int .i64 n) (.bool false) kv (.slice (some ⟨g, 0, none⟩) nl.length nc) g (k * 2) (.int .i64 nl[k].1) (.int .i64 nl[k].2)) (by kernel_rfl) (by kernel_rfl) (S0.drew) ?_
      repeat (first
        | (refine calm_skip (by rfl) ?_; simp only [Act.put, List.setIfInBounds_toArray, List.set_cons_zero, List.set_cons_succ])
        | (refine calm_step (by rfl) ?_
           apply Exists.intro
           refine ⟨fun w' hw' => ?_, ?_⟩
           · go_simp
             first | done | exact rfl | (go_at_call 153; refine (l3Has_any kv _ ⟨n, false, kl, nl⟩ k _ (H.out.grew hw'.2.2)).mono ?_; rintro e w8 ⟨rfl, g8⟩; rw [hh]; exact ⟨rfl, hw'.kept g8⟩) | (go_at_call 154; refine (specGood_any _ _ _ _ _).mono ?_; rintro e w8 ⟨rfl, g8⟩; rw [hgd]; exact ⟨rfl, hw'.kept g8⟩)
           simp only [Act.put, List.setIfInBounds_toArray, List.set_cons_zero, List.set_cons_succ]))
      refine calm_nil ?_
      intro w9 hw9
      go_wp2_with fail
      go_ret2
      exact ⟨rfl, hw9.2.2⟩
    · rw [if_pos rfl]
      go_enter Tryz.func83, Tryz.ntmps83
      go_wp2_with fail
      refine region_calm (fun w' => RdS w w' w.heap.size (.int .i64 n) (.bool false) kv (.slice (some ⟨g, 0, none⟩) nl.length nc) g (k * 2) (.int .i64 nl[k].1) (.int .i64 nl[k].2)) (by kernel_rfl) (by kernel_rfl) (S0.drew) ?_
      repeat (first
        | (refine calm_skip (by rfl) ?_; simp only [Act.put, List.setIfInBounds_toArray, List.set_cons_zero, List.set_cons_succ])
        | (refine calm_step (by rfl) ?_
           apply Exists.intro
           refine ⟨fun w' hw' => ?_, ?_⟩
           · go_simp
             first | done | exact rfl | (go_at_call 153; refine (l3Has_any kv _ ⟨n, false, kl, nl⟩ k _ (H.out.grew hw'.2.2)).mono ?_; rintro e w8 ⟨rfl, g8⟩; rw [hh]; exact ⟨rfl, hw'.kept g8⟩) | (go_at_call 154; refine (specGood_any _ _ _ _ _).mono ?_; rintro e w8 ⟨rfl, g8⟩; rw [hgd]; exact ⟨rfl, hw'.kept g8⟩)
           simp only [Act.put, List.setIfInBounds_toArray, List.set_cons_zero, List.set_cons_succ]))
      refine calm_nil ?_
      intro w9 hw9
      obtain ⟨⟨x0, x1, x2, x3⟩, ⟨y0, y1⟩, GG⟩ := hw9
      go_wp2_with fail
      go_ret2
      exact ⟨rfl, GG⟩
theorem specRead_any (kv nv : Value) (d : DZ) (p : Int) (w : World) (h : IsD w 0 kv nv d) :
    Calls Tryz.prog 21 #[.agg #[.int .i64 d.n, .bool d.dead, kv, nv], .int .i64 p] w (Pure (.tuple #[.int .i64 (d.readV p), .bool (d.canRead p)]) w) := by
  have H := Lib.hid h
  obtain ⟨hk, hn⟩ := h
  obtain ⟨na, nc, rfl, nm⟩ := hn.form
  obtain ⟨ka, kc, rfl, km⟩ := hk.form
  have hW := galloc (grefl w) (.cells #[.int .i64 d.n, .bool d.dead, .slice ka d.k.length kc, .slice na d.m.length nc] 37)
  have HW := Lib.hid (H.out.grew hW)
  have S0 := Lib.hid (Box4.new w (.int .i64 d.n) (.bool d.dead) (.slice ka d.k.length kc) (.slice na d.m.length nc) 37)
  cases hok : d.ok
  · rw [show d.canRead p = false by simp [DZ.canRead, hok], show d.readV p = 0 by simp [DZ.readV, DZ.canRead, hok]]
    go_enter Tryz.func21, Tryz.ntmps21
    go_wp2_with fail
    refine (specDiskOk_any _ _ d _ HW.out).mono ?_
    rintro e w1 ⟨rfl, g1⟩
    rw [hok]
    go_wp2_with fail
    go_ret2
    exact ⟨rfl, gtrans hW g1⟩
  · rw [show d.canRead p = d.can p by simp [DZ.canRead, hok], show d.readV p = canV d p by simp [DZ.readV, canV, DZ.canRead, hok]]
    go_enter Tryz.func21, Tryz.ntmps21
    go_wp2_with fail
    refine (specDiskOk_any _ _ d _ HW.out).mono ?_
    rintro e w1 ⟨rfl, g1⟩
    rw [hok]
    obtain ⟨s0, s1, s2, s3⟩ := S0.out.kept g1
    go_wp2_with fail
    refine (l3Read_any _ _ d p _ (HW.out.grew g1)).mono ?_
    rintro e w2 ⟨rfl, g2⟩
    go_wp2_with fail
    go_ret2
    exact ⟨rfl, gtrans hW (gtrans g1 g2)⟩
end Go.Proofs.YteialkknddpbjaaGreatDoor
namespace Go.Proofs.YteialkknddpbjaaGreatDoor
open Go.ChangeShapes Go.WideShapes Go.ChangeAt Go.RowKit

/-- the loop of l3New -/
structure NewS (w wr : World) (n : Int) (i j : Nat) (kv nv : Value) : Prop where
  box : DBox wr (w.heap.size + 1) (w.heap.size + 2) ⟨n, false, newL n i, newL n j⟩ kv nv
  zero : Zero4 wr w.heap.size
  grew : w.grownBy wr none
theorem NewS.kept {w wr w2 : World} {n : Int} {i j : Nat} {kv nv : Value} (h : NewS w wr n i j kv nv) (g : wr.grownBy w2 none) : NewS w w2 n i j kv nv := ⟨h.box.kept g, h.zero.kept g (by simp), gtrans h.grew g⟩
theorem NewS.drew {w wr : World} {n : Int} {i j : Nat} {kv nv : Value} (h : NewS w wr n i j kv nv) : NewS w wr.drew n i j kv nv := h.kept (gdrew (grefl _) 1)
theorem NewS.app2 {w wr w2 : World} {n : Int} {i j : Nat} {kv nv v : Value} (h : NewS w wr n i j kv nv) (g : wr.grownBy w2 kv.ownBlock) (hv : CS w2 (w.heap.size + 2) v (newL n i ++ [(cofV n i 0, cofS n i 0)])) (hat : v.ownBlock = kv.ownBlock ∨ v.ownBlock = some wr.heap.size) :
    NewS w (w2.setCell ⟨w.heap.size + 1, 2, none⟩ v) n (i + 1) j v nv := by
  have hb := h.box.app2 g hv hat
  dsimp only at hb
  rw [← newL_succ] at hb
  exact ⟨hb, (h.zero.kept g (fun e => by have := (h.box.ks.lt _ e).1; omega)).other (by omega) _, gset1 (gsub h.grew g fun k e => by have := (h.box.ks.lt k e).1; omega) (by omega) _ _⟩
theorem NewS.app3 {w wr w2 : World} {n : Int} {i j : Nat} {kv nv v : Value} (h : NewS w wr n i j kv nv) (g : wr.grownBy w2 nv.ownBlock) (hv : CS w2 (w.heap.size + 2) v (newL n j ++ [(cofV n j 0, cofS n j 0)])) (hat : v.ownBlock = nv.ownBlock ∨ v.ownBlock = some wr.heap.size) :
    NewS w (w2.setCell ⟨w.heap.size + 1, 3, none⟩ v) n i (j + 1) kv v := by
  have hb := h.box.app3 g hv hat
  dsimp only at hb
  rw [← newL_succ] at hb
  exact ⟨hb, (h.zero.kept g (fun e => by have := (h.box.ns.lt _ e).1; omega)).other (by omega) _, gset1 (gsub h.grew g fun k e => by have := (h.box.ns.lt k e).1; omega) (by omega) _ _⟩
set_option maxHeartbeats 4000000 in
theorem l3New_any (n : Int) (p : Nat) (w : World) (hp : p ≤ 16) :
    Calls Tryz.prog 148 #[.int .i64 n, .int .i64 p] w (GotD ⟨n, false, newL n p, newL n p⟩ w) := by
  go_enter Tryz.func148, Tryz.ntmps148
  go_wp2
  go_loopw [6] (fun i wr => ∃ (k : Nat) (kv nv : Value), k ≤ p ∧ i = .int .i64 k ∧ NewS w wr n k k kv nv) (fun i _ => p - (intOf i).toNat)
  case atStart => exact ⟨0, _, _, Nat.zero_le _, rfl, ⟨⟨by simp [At, go_sem], by simp [At, go_sem], by simp [At, go_sem], by simp [At, go_sem], CS.nil _ _, CS.nil _ _, .inl rfl, by simp [Value.ownBlock], by simp [Value.ownBlock]⟩, ⟨by simp [At, go_sem], by simp [At, go_sem], by simp [At, go_sem], by simp [At, go_sem]⟩, galloc (galloc (grefl _) _) _⟩⟩
  case round =>
    obtain ⟨k, kv, nv, hk, rfl, hS⟩ := hrel
    by_cases hlt : k < p
    · obtain ⟨c0, f0⟩ := hS.box.c2
      obtain ⟨d0, e0⟩ := hS.box.c3
      have hl1 := (newL_length n k)
      have hlk : (newL n k).length ≤ 16 := by omega
      clear hl1
      go_wp2_with fail
      go_region_law (first | (go_simp; go_at_call 228; refine (specCellOf_any _ _ _ _).mono ?_; rintro e w8 ⟨rfl, g8⟩; have hS2 := hS.drew.kept g8; obtain ⟨c1, f1⟩ := hS2.box.c2; have hq := hS2.box.lt) | (refine step_append_o (E := cellE) rfl (.tmp 15) (.tmp 19) rfl rfl rfl (NewS.box (NewS.kept hS2 (galloc (grefl _) _))).ks (CS.single _ _ _ (Nat.zero_le _)) (by simp; omega) (by decide) (by have := hS2.grew.size; have := hS2.box.lt; simp; omega) ?_; intro v' w3 hown3 hg3 hat3; have hSp := NewS.kept hS2 (galloc (grefl w8) (.cells #[.int .i64 (cofV n k 0), .int .i64 (cofS n k 0)] 59)); have hS3 := NewS.app2 hSp hg3 hown3 hat3; obtain ⟨c4, f4⟩ := gkr hg3 hSp.box.kb hSp.box.c2; obtain ⟨a3, m3, q3, rfl⟩ := hown3.sl))
      all_goals
        clear c0 f0 d0 e0 c4 f4 c1 f1 hS2 hSp hg3 hat3 hown3 g8 hq hS
        obtain ⟨d0, e0⟩ := hS3.box.c3
        go_wp2_with fail
        generalize w3.setCell ⟨w.heap.size + 1, 2, none⟩ (.slice a3 m3 q3) = W3 at *
        generalize Value.slice a3 m3 q3 = kv3 at *
        go_region_law (first | (go_simp; go_at_call 228; refine (specCellOf_any _ _ _ _).mono ?_; rintro e w8' ⟨rfl, g8⟩; have hS2 := hS3.drew.kept g8; obtain ⟨c1, f1⟩ := hS2.box.c3; have hq := hS2.box.lt) | (refine step_append_o (E := cellE) rfl (.tmp 23) (.tmp 27) rfl rfl rfl (NewS.box (NewS.kept hS2 (galloc (grefl _) _))).ns (CS.single _ _ _ (Nat.zero_le _)) (by simp; omega) (by decide) (by have := hS2.grew.size; have := hS2.box.lt; simp; omega) ?_; intro v' w4 hown3 hg3 hat3; have hSp := NewS.kept hS2 (galloc (grefl w8') (.cells #[.int .i64 (cofV n k 0), .int .i64 (cofS n k 0)] 59)); have hS4 := NewS.app3 hSp hg3 hown3 hat3; obtain ⟨c4, f4⟩ := gkr hg3 hSp.box.nb hSp.box.c3; obtain ⟨a4, m4, q4, rfl⟩ := hown3.sl))
        all_goals
          clear d0 e0 c4 f4 c1 f1 hS2 hSp hg3 hat3 hown3 g8 hq hS3
          go_wp2_with fail
          go_roundw
          case rel => exact ⟨k + 1, _, _, by omega, by go_num, hS4⟩
          case measure => simp [intOf]; omega
    · obtain rfl : k = p := by omega
      obtain ⟨⟨c0, f0⟩, ⟨c1, f1⟩, ⟨c2, f2⟩, ⟨c3, f3⟩, ks, ns, ap, kb, nb⟩ := hS.box
      obtain ⟨⟨x0, y0⟩, ⟨x1, y1⟩, ⟨x2, y2⟩, ⟨x3, y3⟩⟩ := hS.zero
      obtain ⟨ka, km, kc, rfl⟩ := ks.sl
      obtain ⟨na, nm, nc, rfl⟩ := ns.sl
      have hR := hS.box.res hS.grew (r := w.heap.size) (Nat.le_refl _) (by omega) (not_own ks (by omega)) (not_own ns (by omega)) (.int .i64 n) (.bool false) (.slice ka km kc) (.slice na nm nc)
      go_wp2_with fail
      exact bodyPost_ret (v := .agg #[.int .i64 n, .bool false, .slice ka km kc, .slice na nm nc]) (by simp [results, Tryz.results148, go_sem, x0, x1, x2, x3]) rfl ⟨_, _, rfl, hR⟩
end Go.Proofs.YteialkknddpbjaaGreatDoor
