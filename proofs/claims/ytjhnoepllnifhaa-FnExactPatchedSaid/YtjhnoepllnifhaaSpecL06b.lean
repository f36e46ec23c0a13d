/- What the specification's functions of chapter 6 return. What the specification's functions of chapter 6 return: rows, lost cells. -/
import Derived.Test.YtjhnoepllnifhaaOwnD2
import Derived.Test.YtjhnoepllnifhaaSpecL05
import Derived.Deep.DeepFit
import Derived.Deep.DeepCutAuto
import Derived.Test.YtjhnoepllnifhaaMem
namespace Go.Proofs.Ytjhnoepllnifhaa
open Go.ChangeShapes Go.WideShapes Go.ChangeAt Go.RowKit

set_option maxHeartbeats 1000000 in
theorem specDisksOk_any (v : Value) (l : List DZ) (w : World) (h : LD w v l) :
    Calls Try.prog 23 #[v] w (Pure (.bool (disksOkZ l)) w) := by
  obtain ⟨a, cap, rfl, hm⟩ := h.form
  cases hl : inB l.length 3 5
  · have HN := Lib.hid (disksOk_len hl)
    go_enter Try.func23, Try.ntmps23
    go_wp2_with fail
    go_fit (l5N_any _ _)
    rintro e w' ⟨rfl, rfl⟩
    go_wp2_with fail
    go_ret
    exact ⟨ret_bool HN.out.symm, grefl _⟩
  have hl5 := inB_iff.1 hl
  have HL := Lib.hid hl
  go_enter Try.func23, Try.ntmps23
  go_wp2_with fail
  go_fit (l5N_any _ _)
  rintro e w' ⟨rfl, rfl⟩
  go_wp2_with fail
  clear hl
  go_loopw [3, 4] (fun p i wr => ∃ k q : Nat, k ≤ l.length ∧ q ≤ 16 ∧ i = .int .i64 k ∧ p = .int .i64 q ∧ Hid (DokS l k q) ∧ w.grownBy wr none) (fun _ i _ => l.length - (intOf i).toNat)
  case atStart => exact ⟨0, 0, Nat.zero_le _, by omega, rfl, rfl, DokS.start l, grefl _⟩
  case round =>
    obtain ⟨k, q, hk, hq, rfl, rfl, HS, G⟩ := hrel
    by_cases hlt : k < l.length
    · obtain ⟨g, o, ka, km, kc, na, nm, nc, rfl, x0, x1, x2, x3, D⟩ := (h.kept G).at k hlt
      have hnm := D.2.bound.1
      have hki : (k : Int) < l.length := by omega
      have B0 := Box4.new wr (.int .i64 l[k].n) (.bool l[k].dead) (.slice ka km kc) (.slice na nm nc) 56
      have G0 := galloc (grefl wr) (.cells #[.int .i64 l[k].n, .bool l[k].dead, .slice ka km kc, .slice na nm nc] 56)
      have HNM := Lib.hid hnm
      have hnmb : nm ≤ 9223372036854775807 := by have := D.2.bound.2; omega
      clear hnm
      go_upto_region 8 with (fail)
      generalize wr.alloc (.cells #[.int .i64 l[k].n, .bool l[k].dead, .slice ka km kc, .slice na nm nc] 56) = W at *
      generalize wr.heap.size = bb at *
      have G1 := gtrans G G0
      clear x0 x1 x2 x3
      cases hok : l[k].ok
      · have HN := Lib.hid (disksOk_bad hlt (.inl hok))
        go_wp2_with fail
        go_fit (specDiskOk_any _ _ l[k] _ (D.grew G0))
        rintro e w2 ⟨rfl, g2⟩
        obtain ⟨b0, b1, b2, b3⟩ := B0.kept g2
        clear B0
        go_wp2_with fail
        go_ret
        exact ⟨ret_bool HN.out.symm, gtrans G1 g2⟩
      by_cases hn : l[k].n = (k : Int)
      rotate_left
      · have HN := Lib.hid (disksOk_bad hlt (.inr hn))
        have hn' : (l[k].n != (k : Int)) = true := bne_iff_ne.2 hn
        clear hn
        go_wp2_with fail
        go_fit (specDiskOk_any _ _ l[k] _ (D.grew G0))
        rintro e w2 ⟨rfl, g2⟩
        obtain ⟨b0, b1, b2, b3⟩ := B0.kept g2
        clear B0
        go_wp2_with fail
        go_ret
        exact ⟨ret_bool HN.out.symm, gtrans G1 g2⟩
      have hn' : (l[k].n != (k : Int)) = false := by simp [hn]
      cases hd : l[k].dead
      rotate_left
      · have HN := Lib.hid (DokS.gone HS.out hlt hok hn hd)
        clear hn HS
        have HD := Lib.hid hd
        clear hd
        go_wp2_with fail
        go_fit (specDiskOk_any _ _ l[k] _ (D.grew G0))
        rintro e w2 ⟨rfl, g2⟩
        obtain ⟨b0, b1, b2, b3⟩ := B0.kept g2
        clear B0
        rw [HD.out] at b1
        go_wp2_with fail
        go_roundw
        case rel => exact ⟨k + 1, q, by omega, hq, by go_num, rfl, HN.out, gtrans G1 g2⟩
        case measure => simp [intOf]; omega
      have h16 := (DZ.ok_pos hok hd).2
      by_cases hq0 : q = 0
      · have HN := Lib.hid (DokS.live HS.out hlt hok hn hd (.inl hq0))
        rw [← HNM.out] at HN
        subst hq0
        clear hn HS
        have HD := Lib.hid hd
        clear hd
        go_wp2_with fail
        go_fit (specDiskOk_any _ _ l[k] _ (D.grew G0))
        rintro e w2 ⟨rfl, g2⟩
        obtain ⟨b0, b1, b2, b3⟩ := B0.kept g2
        clear B0
        rw [HD.out] at b1
        go_wp2_with fail
        go_roundw
        case rel => exact ⟨k + 1, nm, by omega, by rw [HNM.out]; exact h16, by go_num, rfl, HN.out, gtrans G1 g2⟩
        case measure => simp [intOf]; omega
      have hqp : (0 : Int) < q := by omega
      by_cases hq1 : nm = q
      · have HN := Lib.hid (DokS.live HS.out hlt hok hn hd (.inr (by rw [← HNM.out]; exact hq1)))
        rw [← HNM.out] at HN
        have hq2 : ((nm : Int) != (q : Int)) = false := by simp [hq1]
        clear hn HS hq1 hq0
        have HD := Lib.hid hd
        clear hd
        go_wp2_with fail
        go_fit (specDiskOk_any _ _ l[k] _ (D.grew G0))
        rintro e w2 ⟨rfl, g2⟩
        obtain ⟨b0, b1, b2, b3⟩ := B0.kept g2
        clear B0
        rw [HD.out] at b1
        go_wp2_with fail
        go_roundw
        case rel => exact ⟨k + 1, nm, by omega, by rw [HNM.out]; exact h16, by go_num, rfl, HN.out, gtrans G1 g2⟩
        case measure => simp [intOf]; omega
      · have HN := Lib.hid (DokS.bad HS.out hlt hd (by omega) (by rw [← HNM.out]; exact hq1))
        have hq2 : ((nm : Int) != (q : Int)) = true := bne_iff_ne.2 (by omega)
        clear hn HS hq1 hq0
        have HD := Lib.hid hd
        clear hd
        go_wp2_with fail
        go_fit (specDiskOk_any _ _ l[k] _ (D.grew G0))
        rintro e w2 ⟨rfl, g2⟩
        obtain ⟨b0, b1, b2, b3⟩ := B0.kept g2
        clear B0
        rw [HD.out] at b1
        go_wp2_with fail
        go_ret
        exact ⟨ret_bool HN.out.symm, gtrans G1 g2⟩
    · obtain rfl : k = l.length := by omega
      have HN := Lib.hid (DokS.ends HS.out HL.out)
      clear HS
      go_wp2_with fail
      go_ret
      exact ⟨by rw [HN.out]; simp, G⟩
end Go.Proofs.Ytjhnoepllnifhaa
namespace Go.Proofs.Ytjhnoepllnifhaa
open Go.ChangeShapes Go.WideShapes Go.ChangeAt Go.RowKit

theorem rowsZ_here {l : List DZ} {k : Nat} (hk : k < l.length) (ha : (l.take k).all (·.dead) = true) (hd : l[k].dead = false) : rowsZ l = l[k].m.length := by
  induction l generalizing k with
  | nil => simp at hk
  | cons x r ih =>
    cases k with
    | zero => simp only [List.getElem_cons_zero] at hd ⊢; simp [rowsZ, hd]
    | succ k =>
      simp only [List.take_succ_cons, List.all_cons, Bool.and_eq_true] at ha
      simp only [List.getElem_cons_succ] at hd ⊢
      simp [rowsZ, ha.1, ih (by simpa using hk) ha.2 hd]
theorem xor_in {a b : Int} (ha0 : 0 ≤ a) (ha : a ≤ 32767) (hb0 : 0 ≤ b) (hb : b ≤ 32767) : 0 ≤ bits .xor .i64 a b ∧ bits .xor .i64 a b ≤ 32767 := by
  rw [xor64 ha0 ha hb0 hb]
  have := xor_lt (a := a.toNat) (b := b.toNat) (by omega) (by omega)
  omega
end Go.Proofs.Ytjhnoepllnifhaa
