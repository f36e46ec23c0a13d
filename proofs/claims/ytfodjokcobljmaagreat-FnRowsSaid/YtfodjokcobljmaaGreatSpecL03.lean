/- What the specification's functions of chapter 3 return. -/
import Derived.Test.YtfodjokcobljmaaGreatBaseL03
import Derived.Test.YtfodjokcobljmaaGreatSpecL02
import Derived.Deep.RegionHeld3
namespace Go.Proofs.YtfodjokcobljmaaGreat
open Go.ChangeShapes Go.WideShapes Go.ChangeAt Go.RowKit

theorem l3Cells_any (a : Option Addr) (cap : Nat) (l : List (Int × Int)) (w : World) (h : CS w 0 (.slice a l.length cap) l) :
    Calls Tryz.prog 54 #[.slice a l.length cap] w (Pure (.bool (cellsZ l)) w) := by
  have hm := h.bound.2
  go_enter Tryz.func54, Tryz.ntmps54
  go_wp2
  go_loopw [3] (fun i wr => ∃ k : Nat, k ≤ l.length ∧ i = .int .i64 k ∧ Hid ((l.take k).all okc = true) ∧ w.grownBy wr none) (fun i _ => l.length - (intOf i).toNat)
  case atStart => exact ⟨0, Nat.zero_le _, rfl, rfl, grefl _⟩
  case round =>
    obtain ⟨k, hk, rfl, HA, G⟩ := hrel
    by_cases hlt : k < l.length
    · obtain ⟨g, rfl, _, _, ⟨c0, f0⟩, ⟨c1, f1⟩⟩ := (h.grew G).at k hlt
      have hT := Lib.hid (take_next hlt)
      go_wp2_with fail
      refine (specCellOk_any _ _ _).mono ?_
      rintro e w2 ⟨rfl, g2⟩
      cases hok : cellOkZ l[k].1 l[k].2
      · have HN := Lib.hid (all_no hlt hok)
        go_wp2_with fail
        go_ret
        exact ⟨ret_bool (by simp [cellsZ, HN.out]), gtrans G g2⟩
      · have HN : Hid ((l.take (k + 1)).all okc = true) := by show _ = _; rw [hT.out, HA.out, hok]; rfl
        clear HA hT
        go_wp2_with fail
        go_roundw
        case rel => exact ⟨k + 1, by omega, by go_num, HN, gtrans G g2⟩
        case measure => simp [intOf]; omega
    · have HN : Hid (l.all okc = true) := by show _ = _; have := HA.out; rwa [List.take_of_length_le (by omega)] at this
      clear HA
      go_wp2_with fail
      refine (l1In_any _ _ _ _).mono ?_
      rintro e w' ⟨rfl, rfl⟩
      go_wp2_with fail
      go_ret
      exact ⟨ret_bool (by simp [cellsZ, HN.out]), G⟩
theorem specDiskOk_any (kv nv : Value) (d : DZ) (w : World) (h : IsD w 0 kv nv d) :
    Calls Tryz.prog 35 #[.agg #[.int .i64 d.n, .bool d.dead, kv, nv]] w (Pure (.bool d.ok) w) := by
  obtain ⟨n, dead, kl, nl⟩ := d
  obtain ⟨hk, hn⟩ := h
  obtain ⟨ka, kc, rfl, km⟩ := hk.form
  obtain ⟨na, nc, rfl, nm⟩ := hn.form
  dsimp only at *
  have hk0 := hk.grew (galloc (grefl w) (.cells #[.int .i64 n, .bool dead, .slice ka kl.length kc, .slice na nl.length nc] 41))
  cases h1 : inB n 0 4
  · have HF := Lib.hid (show DZ.ok ⟨n, dead, kl, nl⟩ = false by simp [DZ.ok, h1])
    go_enter Tryz.func35, Tryz.ntmps35
    go_wp2_with (first | (go_at_call 53; refine (l1Disk_any _ _).mono ?_; rintro e w' ⟨rfl, rfl⟩))
    go_ret
    exact ⟨ret_bool HF.out.symm, galloc (grefl _) _⟩
  cases dead
  · cases h2 : cellsZ kl
    · have HF := Lib.hid (show DZ.ok ⟨n, false, kl, nl⟩ = false by simp [DZ.ok, h2])
      go_enter Tryz.func35, Tryz.ntmps35
      go_wp2_with (first | (go_at_call 53; refine (l1Disk_any _ _).mono ?_; rintro e w' ⟨rfl, rfl⟩))
      refine (l3Cells_any _ _ _ _ hk0).mono ?_
      rintro e w1 ⟨rfl, g1⟩
      go_wp2_with fail
      go_ret
      exact ⟨ret_bool HF.out.symm, gtrans (galloc (grefl _) _) g1⟩
    cases h3 : cellsZ nl
    · have HF := Lib.hid (show DZ.ok ⟨n, false, kl, nl⟩ = false by simp [DZ.ok, h3])
      go_enter Tryz.func35, Tryz.ntmps35
      go_wp2_with (first | (go_at_call 53; refine (l1Disk_any _ _).mono ?_; rintro e w' ⟨rfl, rfl⟩))
      refine (l3Cells_any _ _ _ _ hk0).mono ?_
      rintro e w1 ⟨rfl, g1⟩
      have G1 := gtrans (galloc (grefl w) _) g1
      have c3 := gkc g1 (b := w.heap.size) (o := 3) (v := .slice na nl.length nc) (by simp [go_sem])
      go_wp2_with fail
      refine (l3Cells_any _ _ _ _ (hn.grew G1)).mono ?_
      rintro e w2 ⟨rfl, g2⟩
      go_wp2_with fail
      go_ret
      exact ⟨ret_bool HF.out.symm, gtrans G1 g2⟩
    · have HF := Lib.hid (show DZ.ok ⟨n, false, kl, nl⟩ = (kl.length == nl.length) by simp [DZ.ok, h1, h2, h3])
      go_enter Tryz.func35, Tryz.ntmps35
      go_wp2_with (first | (go_at_call 53; refine (l1Disk_any _ _).mono ?_; rintro e w' ⟨rfl, rfl⟩))
      refine (l3Cells_any _ _ _ _ hk0).mono ?_
      rintro e w1 ⟨rfl, g1⟩
      have G1 := gtrans (galloc (grefl w) _) g1
      have c2 := gkc g1 (b := w.heap.size) (o := 2) (v := .slice ka kl.length kc) (by simp [go_sem])
      have c3 := gkc g1 (b := w.heap.size) (o := 3) (v := .slice na nl.length nc) (by simp [go_sem])
      go_wp2_with fail
      refine (l3Cells_any _ _ _ _ (hn.grew G1)).mono ?_
      rintro e w2 ⟨rfl, g2⟩
      have c2 := gkc g2 c2
      have c3 := gkc g2 c3
      go_wp2_with fail
      go_ret
      refine ⟨ret_bool ?_, gtrans G1 g2⟩
      rw [HF.out, Bool.eq_iff_iff]
      simp only [beq_iff_eq]
      omega
  · have HF := Lib.hid (show DZ.ok ⟨n, true, kl, nl⟩ = (kl.length == 0 && nl.length == 0) by simp [DZ.ok, h1])
    have z1 : ∀ l : List (Int × Int), ((l.length : Int) == 0) = (l.length == 0) := fun l => by rw [Bool.eq_iff_iff]; simp
    cases k0 : kl.length == 0
    · have k1 : ((kl.length : Int) == 0) = false := by rw [z1]; exact k0
      go_enter Tryz.func35, Tryz.ntmps35
      go_wp2_with (first | (go_at_call 53; refine (l1Disk_any _ _).mono ?_; rintro e w' ⟨rfl, rfl⟩))
      go_ret
      exact ⟨ret_bool (by rw [HF.out, k0]; rfl), galloc (grefl _) _⟩
    · have k1 : ((kl.length : Int) == 0) = true := by rw [z1]; exact k0
      have n1 := Lib.hid (z1 nl)
      clear z1
      go_enter Tryz.func35, Tryz.ntmps35
      go_wp2_with (first | (go_at_call 53; refine (l1Disk_any _ _).mono ?_; rintro e w' ⟨rfl, rfl⟩))
      go_ret
      exact ⟨ret_bool (by rw [HF.out, k0, n1.out]; rfl), galloc (grefl _) _⟩
theorem l3Has_any (kv nv : Value) (d : DZ) (p : Int) (w : World) (h : IsD w 0 kv nv d) :
    Calls Tryz.prog 56 #[.agg #[.int .i64 d.n, .bool d.dead, kv, nv], .int .i64 p] w (Pure (.bool (d.has p)) w) := by
  obtain ⟨n, dead, kl, nl⟩ := d
  obtain ⟨hk, hn⟩ := h
  obtain ⟨na, nc, rfl, nm⟩ := hn.form
  dsimp only at *
  by_cases h0 : 0 ≤ p
  · have HF := Lib.hid (show DZ.has ⟨n, dead, kl, nl⟩ p = decide (p < nl.length) by simp [DZ.has, h0])
    go_enter Tryz.func56, Tryz.ntmps56
    go_wp2_with fail
    go_ret
    exact ⟨ret_bool HF.out.symm, galloc (grefl _) _⟩
  · have HF := Lib.hid (show DZ.has ⟨n, dead, kl, nl⟩ p = false by simp [DZ.has, h0])
    have h1 : p < 0 := by omega
    clear h0
    go_enter Tryz.func56, Tryz.ntmps56
    go_wp2_with fail
    go_ret
    exact ⟨ret_bool HF.out.symm, galloc (grefl _) _⟩
/-- what holds while l3Read gathers its operands -/
abbrev RdS (w w' : World) (b : Nat) (x0 x1 x2 x3 : Value) (g o : Nat) (y0 y1 : Value) : Prop := Box4 w' b x0 x1 x2 x3 ∧ TwoO w' g o y0 y1 ∧ w.grownBy w' none
theorem RdS.kept {w w' w2 : World} {b : Nat} {x0 x1 x2 x3 : Value} {g o : Nat} {y0 y1 : Value} (h : RdS w w' b x0 x1 x2 x3 g o y0 y1) (hg : w'.grownBy w2 none) : RdS w w2 b x0 x1 x2 x3 g o y0 y1 := ⟨h.1.kept hg, h.2.1.kept hg, gtrans h.2.2 hg⟩
theorem RdS.drew {w w' : World} {b : Nat} {x0 x1 x2 x3 : Value} {g o : Nat} {y0 y1 : Value} (h : RdS w w' b x0 x1 x2 x3 g o y0 y1) : RdS w w'.drew b x0 x1 x2 x3 g o y0 y1 := ⟨h.1, h.2.1, gdrew h.2.2 1⟩
abbrev BxS (w w' : World) (b : Nat) (x0 x1 x2 x3 : Value) : Prop := Box4 w' b x0 x1 x2 x3 ∧ w.grownBy w' none
theorem BxS.kept {w w' w2 : World} {b : Nat} {x0 x1 x2 x3 : Value} (h : BxS w w' b x0 x1 x2 x3) (hg : w'.grownBy w2 none) : BxS w w2 b x0 x1 x2 x3 := ⟨h.1.kept hg, gtrans h.2 hg⟩
theorem BxS.drew {w w' : World} {b : Nat} {x0 x1 x2 x3 : Value} (h : BxS w w' b x0 x1 x2 x3) : BxS w w'.drew b x0 x1 x2 x3 := ⟨h.1, gdrew h.2 1⟩
def canV (d : DZ) (p : Int) : Int := if d.can p then (d.cell p).1 else 0
end Go.Proofs.YtfodjokcobljmaaGreat
