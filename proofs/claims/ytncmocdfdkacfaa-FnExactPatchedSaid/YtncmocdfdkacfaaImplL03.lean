/- What the program's functions of chapter 3 return, for every argument: validity, places, copies. -/
import Derived.Test.YtncmocdfdkacfaaLawL03b
import Derived.Test.YtncmocdfdkacfaaImplL02
import Derived.Test.YtncmocdfdkacfaaRd
namespace Go.Proofs.Ytncmocdfdkacfaa
open Go.ChangeShapes Go.WideShapes Go.ChangeAt Go.RowKit

theorem allValid_any (a : Option Addr) (cap : Nat) (l : List (Int × Int)) (w : World) (h : CS w 0 (.slice a l.length cap) l) :
    Calls Try.prog 100 #[.slice a l.length cap] w (Pure (.bool (l.all okc)) w) := by
  have hm := h.bound.2
  go_enter Try.func100, Try.ntmps100
  go_wp2
  go_loopw [7] (fun i wr => ∃ k : Nat, k ≤ l.length ∧ i = .int .i64 k ∧ Hid ((l.take k).all okc = true) ∧ w.grownBy wr none) (fun i _ => l.length - (intOf i).toNat)
  case atStart => exact ⟨0, Nat.zero_le _, rfl, rfl, grefl _⟩
  case round =>
    obtain ⟨k, hk, rfl, HA, G⟩ := hrel
    by_cases hlt : k < l.length
    · obtain ⟨g, rfl, _, _, ⟨c0, f0⟩, ⟨c1, f1⟩⟩ := (h.grew G).at k hlt
      have hT := Lib.hid (take_next hlt)
      go_wp2_with fail
      refine (implCellOk_any _ _ _).mono ?_
      rintro e w2 ⟨rfl, g2⟩
      cases hok : cellOkZ l[k].1 l[k].2
      · have HN := Lib.hid (all_no hlt hok)
        go_wp2_with fail
        go_ret
        exact ⟨ret_bool HN.out.symm, by repeat (first | exact G | refine galloc ?_ _ | refine gsetN ?_ (by have := gsize G; simp <;> omega) _ _ | refine gtrans ?_ g2)⟩
      · have HN : Hid ((l.take (k + 1)).all okc = true) := by show _ = _; rw [hT.out, HA.out, hok]; rfl
        clear HA hT
        go_wp2_with fail
        go_roundw
        case rel => exact ⟨k + 1, by omega, by go_num, HN, by repeat (first | exact G | refine galloc ?_ _ | refine gsetN ?_ (by have := gsize G; simp <;> omega) _ _ | refine gtrans ?_ g2)⟩
        case measure => simp [intOf]; omega
    · have HN : Hid (l.all okc = true) := by show _ = _; have := HA.out; rwa [List.take_of_length_le (by omega)] at this
      clear HA
      go_wp2_with fail
      go_ret
      exact ⟨ret_bool HN.out.symm, G⟩
theorem implDiskOk_any (kv nv : Value) (d : DZ) (w : World) (h : IsD w 0 kv nv d) :
    Calls Try.prog 80 #[.agg #[.int .i64 d.n, .bool d.dead, kv, nv]] w (Pure (.bool d.ok) w) := by
  obtain ⟨n, dead, kl, nl⟩ := d
  obtain ⟨hk, hn⟩ := h
  obtain ⟨ka, kc, rfl, km⟩ := hk.form
  obtain ⟨na, nc, rfl, nm⟩ := hn.form
  dsimp only at *
  have hk0 := hk.grew (galloc (grefl w) (.cells #[.int .i64 n, .bool dead, .slice ka kl.length kc, .slice na nl.length nc] 58))
  cases h1 : inB n 0 4
  · have HF := Lib.hid (show DZ.ok ⟨n, dead, kl, nl⟩ = false by simp [DZ.ok, h1])
    go_enter Try.func80, Try.ntmps80
    go_wp2_with (first | (go_at_call 27; refine (between_any _ _ _ _).mono ?_; rintro e w' ⟨rfl, rfl⟩))
    go_ret
    exact ⟨ret_bool HF.out.symm, galloc (grefl _) _⟩
  by_cases h2 : kl.length = nl.length
  rotate_left
  · have HF := Lib.hid (show DZ.ok ⟨n, dead, kl, nl⟩ = false by
      cases hh : DZ.ok ⟨n, dead, kl, nl⟩
      · rfl
      · exact absurd (DZ.ok_len hh).1 h2)
    have hne : ((kl.length : Int) != (nl.length : Int)) = true := bne_iff_ne.2 (by omega)
    clear h2
    go_enter Try.func80, Try.ntmps80
    go_wp2_with (first | (go_at_call 27; refine (between_any _ _ _ _).mono ?_; rintro e w' ⟨rfl, rfl⟩))
    go_ret
    exact ⟨ret_bool HF.out.symm, galloc (grefl _) _⟩
  have hne : ((kl.length : Int) != (nl.length : Int)) = false := by rw [bne_eq_false_iff_eq]; omega
  cases dead
  rotate_left
  · have HF := Lib.hid (show DZ.ok ⟨n, true, kl, nl⟩ = ((nl.length : Int) == 0) by
      rw [Bool.eq_iff_iff]; simp [DZ.ok, h1]
      intro h; exact List.eq_nil_of_length_eq_zero (by rw [h2, h]; rfl))
    clear h2
    go_enter Try.func80, Try.ntmps80
    go_wp2_with (first | (go_at_call 27; refine (between_any _ _ _ _).mono ?_; rintro e w' ⟨rfl, rfl⟩))
    go_ret
    exact ⟨ret_bool HF.out.symm, galloc (grefl _) _⟩
  have HO := Lib.hid (show DZ.ok ⟨n, false, kl, nl⟩ = (inB nl.length 1 16 && (kl.all okc && nl.all okc)) by
    simp [DZ.ok, h1, cellsZ, h2]; cases inB nl.length 1 16 <;> simp)
  clear h2
  rw [HO.out]
  cases h3 : inB nl.length 1 16
  · go_enter Try.func80, Try.ntmps80
    go_wp2_with (first | (go_at_call 27; refine (between_any _ _ _ _).mono ?_; rintro e w' ⟨rfl, rfl⟩))
    go_ret
    exact ⟨rfl, galloc (grefl _) _⟩
  cases h4 : kl.all okc
  · go_enter Try.func80, Try.ntmps80
    go_wp2_with (first | (go_at_call 27; refine (between_any _ _ _ _).mono ?_; rintro e w' ⟨rfl, rfl⟩))
    refine (allValid_any _ _ _ _ hk0).mono ?_
    rintro e w1 ⟨rfl, g1⟩
    rw [h4]
    go_wp2_with fail
    go_ret
    exact ⟨rfl, gtrans (galloc (grefl _) _) g1⟩
  · go_enter Try.func80, Try.ntmps80
    go_wp2_with (first | (go_at_call 27; refine (between_any _ _ _ _).mono ?_; rintro e w' ⟨rfl, rfl⟩))
    refine (allValid_any _ _ _ _ hk0).mono ?_
    rintro e w1 ⟨rfl, g1⟩
    rw [h4]
    have G1 := gtrans (galloc (grefl w) _) g1
    have c3 := gkc g1 (b := w.heap.size) (o := 3) (v := .slice na nl.length nc) (by simp [go_sem])
    go_wp2_with fail
    refine (allValid_any _ _ _ _ (hn.grew G1)).mono ?_
    rintro e w2 ⟨rfl, g2⟩
    go_wp2_with fail
    go_ret
    exact ⟨ret_bool (by simp), gtrans G1 g2⟩
theorem hasPlace_any (kv nv : Value) (d : DZ) (p : Int) (w : World) (h : IsD w 0 kv nv d) :
    Calls Try.prog 81 #[.agg #[.int .i64 d.n, .bool d.dead, kv, nv], .int .i64 p] w (Pure (.bool (d.has p)) w) := by
  obtain ⟨n, dead, kl, nl⟩ := d
  obtain ⟨hk, hn⟩ := h
  obtain ⟨na, nc, rfl, nm⟩ := hn.form
  dsimp only at *
  have HF := Lib.hid (show DZ.has ⟨n, dead, kl, nl⟩ p = inB p 0 ((nl.length : Int) - 1) by unfold DZ.has inB; rw [decide_eq_decide]; dsimp only; omega)
  go_enter Try.func81, Try.ntmps81
  go_wp2_with (first | (go_at_call 27; refine (between_any _ _ _ _).mono ?_; rintro e w' ⟨rfl, rfl⟩))
  go_ret
  exact ⟨ret_bool HF.out.symm, galloc (grefl _) _⟩
theorem copied_any (a : Option Addr) (cap : Nat) (l : List (Int × Int)) (w : World) (h : CS w 0 (.slice a l.length cap) l) (hl : l.length ≤ 1048576) :
    Calls Try.prog 79 #[.slice a l.length cap] w (GotC l w) := by
  have hmk := make_cells l.length hl
  have C0 := CS.made w l.length hl (Nat.le_refl w.heap.size)
  have g0 := galloc (grefl w) (.cells (zeros l.length) 100)
  have R0 := Own.rd (h.grew g0)
  obtain ⟨w1, r1, o1, g1⟩ := copy_own (E := cellE) 3 _ _ C0 _ _ R0 (by simp)
  change (Builtin.copy_ #[56, 56] 3 _).run Try.prog _ = _ at r1
  go_enter Try.func79, Try.ntmps79
  go_wp2
  go_ret
  exact ⟨_, rfl, o1, gsub g0 g1 (by intro k e; cases e; exact Nat.le_refl _)⟩
end Go.Proofs.Ytncmocdfdkacfaa
