/- The drawn arrays and lists of disks. -/
import Derived.Test.YtfodjokcobljmaaGreatOwnD3
import Derived.Test.YtfodjokcobljmaaGreatSpecL09
import Derived.Deep.DeepFit
import Derived.Test.YtfodjokcobljmaaGreatSpecL11c
import Derived.Test.YtfodjokcobljmaaGreatDrawL01
import Derived.Test.YtfodjokcobljmaaGreatMemB
import Derived.Test.YtfodjokcobljmaaGreatDrawL03
import Derived.Test.YtfodjokcobljmaaGreatSpecL03g
namespace Go.Proofs.YtfodjokcobljmaaGreat
open Go.ChangeShapes Go.WideShapes Go.ChangeAt Go.RowKit
theorem specDied_pure (kv nv : Value) (d : DZ) (w : World) (h : IsD w 0 kv nv d) :
    Calls Tryz.prog 74 #[.agg #[.int .i64 d.n, .bool d.dead, kv, nv]] w (Pure (.agg #[.int .i64 d.died.n, .bool d.died.dead, .slice none 0 0, .slice none 0 0]) w) := by
  have H := Lib.hid h
  obtain ⟨hk, hn⟩ := h
  obtain ⟨ka, km, kc, rfl⟩ := hk.sl
  obtain ⟨na, nm, nc, rfl⟩ := hn.sl
  have hb := boxed2 w (.int .i64 d.n) (.bool d.dead) (.slice ka km kc) (.slice na nm nc) 41
  cases hok : d.ok
  · rw [show d.died = .zero by simp [DZ.died, hok]]
    go_enter Tryz.func74, Tryz.ntmps74
    go_upto_region 1 with (fail)
    generalize (w.alloc (.cells #[.int .i64 d.n, .bool d.dead, .slice ka km kc, .slice na nm nc] 41)).alloc (.cells #[.int .i64 0, .bool false, .slice none 0 0, .slice none 0 0] 41) = W0 at *
    obtain ⟨B0, Z0, g0, s0⟩ := hb
    obtain ⟨⟨c0, f0⟩, ⟨c1, f1⟩, ⟨c2, f2⟩, ⟨c3, f3⟩⟩ := B0
    go_wp2_with fail
    refine (specDiskOk_any _ _ d _ (H.out.grew g0)).mono ?_
    rintro e w1 ⟨rfl, g1⟩
    rw [hok]
    obtain ⟨⟨z0, y0⟩, ⟨z1, y1⟩, ⟨z2, y2⟩, ⟨z3, y3⟩⟩ := Z0.kept g1 (by simp)
    go_wp2_with fail
    exact bodyPost_ret (v := .agg #[.int .i64 0, .bool false, .slice none 0 0, .slice none 0 0]) (by simp [results, Tryz.results74, go_sem, z0, z1, z2, z3]) rfl ⟨rfl, gset4 (gtrans g0 g1) (by omega) _ _ _ _⟩
  · rw [show d.died = ⟨d.n, true, [], []⟩ by simp [DZ.died, hok]]
    go_enter Tryz.func74, Tryz.ntmps74
    go_upto_region 1 with (fail)
    generalize (w.alloc (.cells #[.int .i64 d.n, .bool d.dead, .slice ka km kc, .slice na nm nc] 41)).alloc (.cells #[.int .i64 0, .bool false, .slice none 0 0, .slice none 0 0] 41) = W0 at *
    obtain ⟨B0, Z0, g0, s0⟩ := hb
    obtain ⟨⟨c0, f0⟩, ⟨c1, f1⟩, ⟨c2, f2⟩, ⟨c3, f3⟩⟩ := B0
    go_wp2_with fail
    refine (specDiskOk_any _ _ d _ (H.out.grew g0)).mono ?_
    rintro e w1 ⟨rfl, g1⟩
    rw [hok]
    obtain ⟨⟨z0, y0⟩, ⟨z1, y1⟩, ⟨z2, y2⟩, ⟨z3, y3⟩⟩ := Z0.kept g1 (by simp)
    have d0 := gkc g1 c0
    clear c0
    go_wp2_with fail
    exact bodyPost_ret (v := .agg #[.int .i64 d.n, .bool true, .slice none 0 0, .slice none 0 0]) (by simp [results, Tryz.results74, go_sem, z0, z1, z2, z3]) rfl ⟨rfl, gset4 (gtrans g0 g1) (by omega) _ _ _ _⟩
end Go.Proofs.YtfodjokcobljmaaGreat
namespace Go.Proofs.YtfodjokcobljmaaGreat
open Go.ChangeShapes Go.WideShapes Go.ChangeAt Go.RowKit

def set4At (w : World) (g o : Nat) (x0 x1 x2 x3 : Value) : World := (((w.setCell ⟨g, o, none⟩ x0).setCell ⟨g, o + 1, none⟩ x1).setCell ⟨g, o + 2, none⟩ x2).setCell ⟨g, o + 3, none⟩ x3
theorem gset4At {a w : World} {g o : Nat} (h : a.grownBy w (some g)) (x0 x1 x2 x3 : Value) : a.grownBy (set4At w g o x0 x1 x2 x3) (some g) := gset (gset (gset (gset h _ _) _ _) _ _) _ _
theorem set4At_block (w : World) (g o k : Nat) (x0 x1 x2 x3 : Value) (h : k ≠ g) : (set4At w g o x0 x1 x2 x3).heap[k]? = w.heap[k]? := by
  unfold set4At
  rw [Below.heap_setCell _ _ _ k h, Below.heap_setCell _ _ _ k h, Below.heap_setCell _ _ _ k h, Below.heap_setCell _ _ _ k h]
section
variable {w w1 : World} {base n cap g : Nat} {l : List DZ} {raw : List DV}
theorem own_set4 (h : Own diskE w base (.slice (some ⟨g, 0, none⟩) n cap) raw) (i : Nat) (hi : i < raw.length) (r : DV) :
    Own diskE (set4At w g (i * 4) (.int .i64 r.n) (.bool r.dead) r.kv r.nv) base (.slice (some ⟨g, 0, none⟩) n cap) (raw.set i r) := by
  have h1 := Own.setAt h i 0 (.int .i64 r.n) (raw[i].num r.n) hi (by decide) rfl
  have hi1 : i < (raw.set i (raw[i].num r.n)).length := by simpa using hi
  have h2 := Own.setAt h1 i 1 (.bool r.dead) ((raw[i].num r.n).lives r.dead) hi1 (by decide) (by simp [diskE, DV.kv, DV.nv, DV.lives, DV.num])
  rw [List.set_set] at h2
  have hi2 : i < (raw.set i ((raw[i].num r.n).lives r.dead)).length := by simpa using hi
  have h3 := Own.setAt h2 i 2 r.kv (((raw[i].num r.n).lives r.dead).kept r.ka r.km r.kc) hi2 (by decide) (by simp [diskE, DV.kv, DV.nv, DV.lives, DV.num, DV.kept])
  rw [List.set_set] at h3
  have hi3 : i < (raw.set i (((raw[i].num r.n).lives r.dead).kept r.ka r.km r.kc)).length := by simpa using hi
  have h4 := Own.setAt h3 i 3 r.nv r hi3 (by decide) (by simp [diskE, DV.kv, DV.nv, DV.lives, DV.num, DV.kept])
  rw [List.set_set] at h4
  exact h4
/-- disk i is replaced by a disk of new memory -/
theorem OD.replaced (h : OD w base (.slice (some ⟨g, 0, none⟩) n cap) l raw) (i : Nat) (hi : i < raw.length) (r : DV) (d : DZ) (g1 : w.grownBy w1 none) (hd : r.Is w1 base d) (hs : Apart r.kv r.nv) (hnew : ∀ k, r.has k → w.heap.size ≤ k) :
    OD (set4At w1 g (i * 4) (.int .i64 r.n) (.bool r.dead) r.kv r.nv) base (.slice (some ⟨g, 0, none⟩) n cap) (l.set i d) (raw.set i r) := by
  have hgl := (h.own.lt g rfl).2
  have hr0 : ∀ k, r.has k → k ≠ g := fun k hk e => by have := hnew k hk; omega
  refine (h.grew g1).upd i hi r d (own_set4 (h.grew g1).own i hi r) ⟨hd.n, hd.dead, Own.same hd.isD.1 (fun k e => set4At_block _ _ _ k _ _ _ _ (hr0 k (.inl e))), Own.same hd.isD.2 (fun k e => set4At_block _ _ _ k _ _ _ _ (hr0 k (.inr e)))⟩ hs
    (fun k hk => ⟨fun e => hr0 k hk (by cases e; rfl), fun j hj _ x => by have := (h.in j hj k x).2; have := hnew k hk; omega⟩)
    (fun j hj k _ x => set4At_block _ _ _ k _ _ _ _ (fun e => h.out j hj k x (by rw [e]; rfl)))
end
end Go.Proofs.YtfodjokcobljmaaGreat
namespace Go.Proofs.YtfodjokcobljmaaGreat
open Go.ChangeShapes Go.WideShapes Go.ChangeAt Go.RowKit

def aliveN (l : List DZ) : Nat := (l.filter fun d => !d.dead).length
theorem alive_yes {l : List DZ} {k : Nat} (h : k < l.length) (hd : l[k].dead = false) : aliveN (l.take (k + 1)) = aliveN (l.take k) + 1 := by
  unfold aliveN
  rw [List.take_succ_eq_append_getElem h, List.filter_append]; simp [hd]
theorem alive_no {l : List DZ} {k : Nat} (h : k < l.length) (hd : l[k].dead = true) : aliveN (l.take (k + 1)) = aliveN (l.take k) := by
  unfold aliveN
  rw [List.take_succ_eq_append_getElem h, List.filter_append]; simp [hd]
theorem alive_le (l : List DZ) : aliveN l ≤ l.length := List.length_filter_le _ _
def dieOk (a : AZ) (d : Int) : Bool := decide (0 ≤ d ∧ d < a.ds.length) && (!(a.ds.getD d.toNat .zero).dead && decide (2 ≤ aliveN a.ds))
def AZ.dies (a : AZ) (d : Int) : AZ := if dieOk a d then { a with ds := a.ds.set d.toNat (a.ds.getD d.toNat .zero).died } else a
theorem die_no {a : AZ} {d : Int} (h : dieOk a d = false) : a.dies d = a := by simp [AZ.dies, h]
/-- one disk of an array is replaced by a disk of new memory -/
theorem ABox.replaced {w w1 : World} {b B n cap g : Nat} {a : AZ} {raw : List DV} (h : ABox w b B a (.slice (some ⟨g, 0, none⟩) n cap) raw) (i : Nat) (hi : i < raw.length) (r : DV) (d : DZ) (g1 : w.grownBy w1 none) (hd : r.Is w1 B d) (hs : Apart r.kv r.nv) (hnew : ∀ k, r.has k → w.heap.size ≤ k) :
    ABox (set4At w1 g (i * 4) (.int .i64 r.n) (.bool r.dead) r.kv r.nv) b B { a with ds := a.ds.set i d } (.slice (some ⟨g, 0, none⟩) n cap) (raw.set i r) := by
  have hgb : g ≠ b := fun e => h.vb (by rw [e]; rfl)
  have far : ∀ {o : Nat} {u : Value}, At w1 b o u → At (set4At w1 g (i * 4) (.int .i64 r.n) (.bool r.dead) r.kv r.nv) b o u := fun q =>
    (((q.other (by intro e; cases e; exact hgb rfl) _).other (by intro e; cases e; exact hgb rfl) _).other (by intro e; cases e; exact hgb rfl) _).other (by intro e; cases e; exact hgb rfl) _
  refine ⟨far (gk g1 h.c0), far (gk g1 h.c1), far (gk g1 h.c2), far (gk g1 h.c3), far (gk g1 h.c4), h.od.replaced i hi r d g1 hd hs hnew, h.vb, fun j hj hk => ?_⟩
  simp only [List.length_set] at hj
  by_cases e : i = j
  · subst e
    simp only [List.getElem_set_self] at hk
    have := hnew b hk
    have := h.lt
    omega
  · simp only [List.getElem_set_ne e] at hk
    exact h.rb j hj hk
theorem died_nil (d : DZ) : d.died.k = [] ∧ d.died.m = [] := by unfold DZ.died; split <;> simp [DZ.zero]
set_option maxRecDepth 8000 in
set_option maxHeartbeats 4000000 in
theorem l11Die_any (b B : Nat) (a : AZ) (v : Value) (raw : List DV) (d : Int) (w : World) (h : ABox w b B a v raw) (hl : a.ds.length ≤ 1000) :
    Calls Tryz.prog 64 #[.pointer (some ⟨b, 0, none⟩), .int .i64 d] w (ADid b B (dieOk a d) (a.dies d) w) := by
  obtain ⟨va, vc, rfl, -⟩ := h.od.form
  obtain ⟨c0, f0⟩ := h.c0
  by_cases hd0 : d < 0
  · have HO : Hid (dieOk a d = false) := by show _ = _; rw [dieOk, decide_eq_false (by omega)]; rfl
    have HA := Lib.hid (die_no HO.out)
    go_enter Tryz.func64, Tryz.ntmps64
    go_wp2_with fail
    go_ret
    exact ⟨ret_bool HO.out.symm, ⟨_, _, by rw [HA.out]; exact h⟩, Only.refl _ _⟩
  by_cases hd1 : (a.ds.length : Int) ≤ d
  · have HO : Hid (dieOk a d = false) := by show _ = _; rw [dieOk, decide_eq_false (by omega)]; rfl
    have HA := Lib.hid (die_no HO.out)
    go_enter Tryz.func64, Tryz.ntmps64
    go_wp2_with fail
    go_ret
    exact ⟨ret_bool HO.out.symm, ⟨_, _, by rw [HA.out]; exact h⟩, Only.refl _ _⟩
  obtain ⟨i, rfl⟩ := Int.eq_ofNat_of_zero_le (show 0 ≤ d by omega)
  have hil : i < a.ds.length := by omega
  have hii : (i : Int) < a.ds.length := by omega
  have hir : i < raw.length := by rw [h.od.len]; exact hil
  have hgi : a.ds.getD i .zero = a.ds[i] := getD_at hil
  obtain ⟨g, e, hgB, hgl, t0, t1, t2, t3⟩ := h.od.at i hir hil
  cases e
  obtain ⟨q0, r0⟩ := t0
  obtain ⟨q1, r1⟩ := t1
  obtain ⟨q2, r2⟩ := t2
  obtain ⟨q3, r3⟩ := t3
  cases hdd : a.ds[i].dead
  rotate_left
  · have HO : Hid (dieOk a i = false) := by show _ = _; rw [dieOk, Int.toNat_natCast, hgi, hdd]; simp
    have HA := Lib.hid (die_no HO.out)
    rw [hdd] at q1
    go_enter Tryz.func64, Tryz.ntmps64
    go_wp2_with fail
    go_ret
    exact ⟨ret_bool HO.out.symm, ⟨_, _, by rw [HA.out]; exact h⟩, Only.refl _ _⟩
  rw [hdd] at q1
  have HI := (h.od.is i hir hil).isD
  have HI0 : IsD w 0 raw[i].kv raw[i].nv a.ds[i] := ⟨HI.1.lower (Nat.zero_le _), HI.2.lower (Nat.zero_le _)⟩
  have HOn : Hid (aliveN a.ds < 2 → dieOk a i = false) := fun e => by rw [dieOk, decide_eq_false (show ¬ 2 ≤ aliveN a.ds by omega)]; simp
  have HOy : Hid (2 ≤ aliveN a.ds → dieOk a i = true ∧ a.dies i = { a with ds := a.ds.set i a.ds[i].died }) := fun e => by
    have q : dieOk a i = true := by rw [dieOk, Int.toNat_natCast, hgi, hdd, decide_eq_true e, decide_eq_true (by omega)]; rfl
    exact ⟨q, by simp only [AZ.dies, q, if_true, Int.toNat_natCast, hgi]⟩
  have HAt : Hid (aliveN (a.ds.take a.ds.length) = aliveN a.ds) := by show _ = _; rw [List.take_length]
  have HAl := fun k => alive_le (a.ds.take k)
  go_enter Tryz.func64, Tryz.ntmps64
  go_wp2_with fail
  go_loop [5, 6] (fun c i => ∃ k : Nat, k ≤ a.ds.length ∧ i = .int .i64 k ∧ c = .int .i64 (aliveN (a.ds.take k))) (fun _ i => a.ds.length - (intOf i).toNat)
  case atStart => exact ⟨0, Nat.zero_le _, rfl, rfl⟩
  case round =>
    obtain ⟨k, hk, rfl, rfl⟩ := hrel
    by_cases hlt : k < a.ds.length
    · have hki : (k : Int) < a.ds.length := by omega
      have hkr : k < raw.length := by rw [h.od.len]; exact hlt
      obtain ⟨g', e', -, -, -, ⟨s1, -⟩, -⟩ := h.od.at k hkr hlt
      cases e'
      have hal : aliveN (a.ds.take k) ≤ 1000 := by have := HAl k; simp at this; omega
      cases hkd : a.ds[k].dead
      · have HN := Lib.hid (alive_yes hlt hkd)
        rw [hkd] at s1
        go_wp2_with fail
        go_round
        case rel => exact ⟨k + 1, by omega, by go_num, by rw [HN.out]; rfl⟩
        case measure => simp [intOf]; omega
      · have HN := Lib.hid (alive_no hlt hkd)
        rw [hkd] at s1
        go_wp2_with fail
        go_round
        case rel => exact ⟨k + 1, by omega, by go_num, by rw [HN.out]⟩
        case measure => simp [intOf]; omega
    · obtain rfl : k = a.ds.length := by omega
      rw [HAt.out]
      by_cases h2 : aliveN a.ds < 2
      · have h2i : (aliveN a.ds : Int) < 2 := by omega
        have HO := Lib.hid (HOn.out h2)
        have HA := Lib.hid (die_no HO.out)
        go_wp2_with fail
        go_ret
        exact ⟨ret_bool HO.out.symm, ⟨_, _, by rw [HA.out]; exact h⟩, Only.refl _ _⟩
      · have h2i : ¬ (aliveN a.ds : Int) < 2 := by omega
        have HY := Lib.hid (HOy.out (by omega))
        have HDn := died_nil a.ds[i]
        have HH := Lib.hid h
        have hkv : raw[i].kv = .slice raw[i].ka raw[i].km raw[i].kc := rfl
        have hnv : raw[i].nv = .slice raw[i].na raw[i].nm raw[i].nc := rfl
        rw [hkv] at q2
        rw [hnv] at q3
        have HD := specDied_pure raw[i].kv raw[i].nv a.ds[i] (w.drewN 1) (by exact HI0)
        rw [hdd, hkv, hnv] at HD
        have HF : Hid (∀ w1, (w.drewN 1).grownBy w1 none → ADid b B (dieOk a i) (a.dies i) w (.returned (.bool true)) (set4At w1 g (i * 4) (.int .i64 a.ds[i].died.n) (.bool a.ds[i].died.dead) (.slice none 0 0) (.slice none 0 0))) := fun w1 g1 => by
          have g1' : w.grownBy w1 none := gtrans (gdrew (grefl w) 1) g1
          have hR := HH.out.replaced i hir ⟨a.ds[i].died.n, a.ds[i].died.dead, none, 0, 0, none, 0, 0⟩ a.ds[i].died g1' ⟨rfl, rfl, ⟨by rw [HDn.1]; exact CS.nil _ _, by rw [HDn.2]; exact CS.nil _ _⟩⟩ (.inl rfl) (fun k hk => by rcases hk with hk | hk <;> cases hk)
          refine ⟨by rw [HY.out.1], ⟨_, _, by rw [HY.out.2]; exact hR⟩, (only_grew g1').trans (Only.of (gset4At (World.grownBy.refl w1 (some g)) _ _ _ _) (fun k e => by cases e; exact .inr hgB))⟩
        clear h HI HI0 HAl HOn HOy
        go_wp2_with fail
        go_region_with (first | (go_at_call 74; go_fit HD; rintro e w2 ⟨rfl, g2⟩; have g2' : w.grownBy w2 none := gtrans (gdrew (grefl w) 1) g2; have c0' := gkc g2' c0; obtain ⟨q0', r0'⟩ := gk g2' ⟨q0, r0⟩; obtain ⟨q1', r1'⟩ := gk g2' ⟨q1, r1⟩; obtain ⟨q2', r2'⟩ := gk g2' ⟨q2, r2⟩; obtain ⟨q3', r3'⟩ := gk g2' ⟨q3, r3⟩))
        all_goals
          go_wp2_with fail
          go_ret
          exact HF.out _ g2
end Go.Proofs.YtfodjokcobljmaaGreat
namespace Go.Proofs.YtfodjokcobljmaaGreat
open Go.ChangeShapes Go.WideShapes Go.ChangeAt Go.RowKit

def badAt (a : AZ) (r : Int) : Nat := ((badZ a.ds r).getD 0 0).toNat
def healGo (a : AZ) (r : Int) : Bool := a.up && (decide (0 ≤ r ∧ r < rowsZ a.ds) && (decide ((badZ a.ds r).length = 1) && !(a.ds.getD (badAt a r) .zero).dead))
def healOk (a : AZ) (r : Int) : Bool := healGo a r && (a.ds.getD (badAt a r) .zero).may r (tellV a.ds (badAt a r) r)
def AZ.healed (a : AZ) (r : Int) : AZ := if healGo a r then { a with ds := a.ds.set (badAt a r) ((a.ds.getD (badAt a r) .zero).put r (tellV a.ds (badAt a r) r)) } else a
theorem heal_no {a : AZ} {r : Int} (h : healGo a r = false) : healOk a r = false ∧ a.healed r = a := by simp [AZ.healed, healOk, h]
theorem badZ_at {l : List DZ} {r : Int} (i : Nat) (h : i < (badZ l r).length) : ∃ j : Nat, j < l.length ∧ (badZ l r)[i] = j := by
  have := List.getElem_mem h
  unfold badZ badL at this
  simp only [List.mem_map, List.mem_filter, List.mem_range] at this
  obtain ⟨j, ⟨h1, -⟩, h2⟩ := this
  exact ⟨j, h1, h2.symm⟩
abbrev HlS (w' : World) (b : Nat) (v : Value) (bg : Nat) (j : Int) (g o : Nat) (dd : Bool) : Prop := w'.cell? ⟨b, 0, none⟩ = some v ∧ w'.cell? ⟨bg, 0, none⟩ = some (.int .i64 j) ∧ w'.cell? ⟨g, o, none⟩ = some (.bool dd)
theorem HlS.drew {w' : World} {b : Nat} {v : Value} {bg : Nat} {j : Int} {g o : Nat} {dd : Bool} (s : HlS w' b v bg j g o dd) : HlS w'.drew b v bg j g o dd := s
theorem HlS.grew {w' w2 : World} {b : Nat} {v : Value} {bg : Nat} {j : Int} {g o : Nat} {dd : Bool} {r : Option Nat} (s : HlS w' b v bg j g o dd) (k : w'.grownBy w2 r) (h1 : r ≠ some b) (h2 : r ≠ some bg) (h3 : r ≠ some g) : HlS w2 b v bg j g o dd := by
  have q : ∀ {c o : Nat} {u : Value}, r ≠ some c → w'.cell? ⟨c, o, none⟩ = some u → w2.cell? ⟨c, o, none⟩ = some u := fun hc e => (World.cell?_of_block (w := w') (k.block _ (cell_lt e) (fun x => hc x.symm))).trans e
  exact ⟨q h1 s.1, q h2 s.2.1, q h3 s.2.2⟩
theorem HlS.only {S : Nat → Prop} {w' w2 : World} {b : Nat} {v : Value} {bg : Nat} {j : Int} {g o : Nat} {dd : Bool} (s : HlS w' b v bg j g o dd) (k : Only S w' w2) (h1 : ¬ S b) (h2 : ¬ S bg) (h3 : ¬ S g) : HlS w2 b v bg j g o dd :=
  ⟨only_cell s.1 k h1, only_cell s.2.1 k h2, only_cell s.2.2 k h3⟩
theorem ABox.disksQ {w w' : World} {b B : Nat} {a : AZ} {v : Value} {raw : List DV} {l : List DZ} {r : Option Nat} (h : ABox w b B a v raw) (g : w.grownBy w' r) (hr : r ≠ some b) (hd : OD w' B v l raw) : ABox w' b B { a with ds := l } v raw :=
  ⟨gkr g hr h.c0, gkr g hr h.c1, gkr g hr h.c2, gkr g hr h.c3, gkr g hr h.c4, hd, h.vb, h.rb⟩
set_option maxRecDepth 8000 in
set_option maxHeartbeats 4000000 in
theorem l10Heal_any (b B : Nat) (a : AZ) (v : Value) (raw : List DV) (r : Int) (w : World) (h : ABox w b B a v raw) (hl : a.ds.length ≤ 1000) :
    Calls Tryz.prog 68 #[.pointer (some ⟨b, 0, none⟩), .int .i64 r] w (ADid b B (healOk a r) (a.healed r) w) := by
  obtain ⟨va, vc, rfl, -⟩ := h.od.form
  obtain ⟨c0, f0⟩ := h.c0
  obtain ⟨c4, f4⟩ := h.c4
  have HN0 := fun (e : healGo a r = false) (w' : World) (g : w.grownBy w' none) => (show ADid b B (healOk a r) (a.healed r) w (.returned (.bool false)) w' from ⟨by rw [(heal_no e).1], ⟨_, _, by rw [(heal_no e).2]; exact h.kept g⟩, only_grew g⟩)
  cases hu : a.up
  · have HG := HN0 (by rw [healGo, hu]; rfl) w (grefl w)
    rw [hu] at c4
    go_enter Tryz.func68, Tryz.ntmps68
    go_wp2_with fail
    go_ret
    exact HG
  rw [hu] at c4
  by_cases hr0 : r < 0
  · have HG := HN0 (by rw [healGo, decide_eq_false (by omega)]; simp) w (grefl w)
    go_enter Tryz.func68, Tryz.ntmps68
    go_wp2_with fail
    go_ret
    exact HG
  by_cases hr1 : (rowsZ a.ds : Int) ≤ r
  · have HG := HN0 (by rw [healGo, decide_eq_false (by omega)]; simp) w (grefl w)
    go_enter Tryz.func68, Tryz.ntmps68
    go_wp2_with fail
    go_fit (l6Rows_any _ a.ds _ h.od.ld)
    rintro e w' ⟨rfl, rfl⟩
    go_wp2_with fail
    go_ret
    exact HG
  have hr2 : r < (rowsZ a.ds : Int) := by omega
  go_enter Tryz.func68, Tryz.ntmps68
  go_wp2_with fail
  go_fit (l6Rows_any _ a.ds _ h.od.ld)
  rintro e w' ⟨rfl, rfl⟩
  go_wp2_with fail
  go_fit (l6Bad_any _ a.ds r _ h.od.ld (by omega))
  rintro e w1 ⟨bv, rfl, C1, g1⟩
  have h1 := h.kept g1
  obtain ⟨ba, bn, bc, rfl⟩ := C1.sl
  have hbn : bn = (badZ a.ds r).length := C1.bound.1
  have hlb : w.heap.size ≤ w1.heap.size := g1.size
  clear c0 f0 c4 f4
  by_cases hb1 : bn = 1
  rotate_left
  · have HG : ∀ w', w1.grownBy w' none → _ := fun w' g' => HN0 (by rw [healGo, decide_eq_false (show ¬ (badZ a.ds r).length = 1 by omega)]; simp) w' (gtrans g1 g')
    have hbne : ((bn : Int) != 1) = true := bne_iff_ne.2 (by omega)
    clear hbn hb1 HN0
    go_wp2_with fail
    refine region_calm (fun w' => w1.grownBy w' none) (by kernel_rfl) (by kernel_rfl) (gdrew (grefl _) 1) ?_
    repeat (first
      | (refine calm_skip (by rfl) ?_; simp only [Act.put, List.setIfInBounds_toArray, List.set_cons_zero, List.set_cons_succ])
      | (refine calm_step (by rfl) ?_
         apply Exists.intro
         refine ⟨fun w' hw' => ?_, ?_⟩
         · go_simp
           first | done | exact rfl | (fail)
         simp only [Act.put, List.setIfInBounds_toArray, List.set_cons_zero, List.set_cons_succ]))
    refine calm_nil ?_
    intro w9 hw9
    go_wp2_with fail
    go_ret
    exact HG _ hw9
  subst hb1
  have hlen : 0 < (badZ a.ds r).length := by omega
  have HBN : Hid ((badZ a.ds r).length = 1) := hbn.symm
  clear hbn
  obtain ⟨bg, rfl, hbg, hbgl, ⟨x0, y0⟩⟩ := C1.at 0 hlen
  obtain ⟨j, hjl, hj⟩ := badZ_at (l := a.ds) (r := r) 0 hlen
  have hba : badAt a r = j := by unfold badAt; rw [List.getD_eq_getElem?_getD, List.getElem?_eq_getElem hlen, hj]; rfl
  rw [hj] at x0
  clear hj hlen C1
  have hji : (j : Int) < a.ds.length := by omega
  have hjr : j < raw.length := by rw [h.od.len]; exact hjl
  obtain ⟨g, e, hgB, hgl, t0, ⟨t1, u1⟩, t2, t3⟩ := h1.od.at j hjr hjl
  cases e
  have hgj : a.ds.getD j .zero = a.ds[j] := getD_at hjl
  obtain ⟨c0, f0⟩ := h1.c0
  cases hdd : a.ds[j].dead
  rotate_left
  · have HG := HN0 (by rw [healGo, hba, hgj, hdd]; simp) w1.drew (gdrew g1 1)
    rw [hdd] at t1
    have S0 : HlS w1 b _ bg j g (j * 4 + 1) true := ⟨c0, x0, t1⟩
    clear c0 x0 t1 HN0
    go_wp2_with fail
    go_region_held3 (fun w' => HlS w' b (.slice (some ⟨g, 0, none⟩) a.ds.length vc) bg j g (j * 4 + 1) true) (first | assumption | exact S0.drew) (fail)
    go_wp2_with fail
    go_ret
    exact HG
  have HGo : Hid (healGo a r = true) := by show _ = _; rw [healGo, hu, hba, hgj, hdd, decide_eq_true HBN.out, decide_eq_true (by omega)]; rfl
  have HOk : Hid (healOk a r = a.ds[j].may r (tellV a.ds j r)) := by show _ = _; rw [healOk, HGo.out, hba, hgj]; rfl
  have HHd : Hid (a.healed r = { a with ds := a.ds.set j (a.ds[j].put r (tellV a.ds j r)) }) := by show _ = _; simp only [AZ.healed, HGo.out, if_true, hba, hgj]
  rw [hdd] at t1
  have S0 : HlS w1 b _ bg j g (j * 4 + 1) false := ⟨c0, x0, t1⟩
  clear c0 x0 t1 HN0 HBN hba
  go_wp2_with fail
  go_region_held3 (fun w' => HlS w' b (.slice (some ⟨g, 0, none⟩) a.ds.length vc) bg j g (j * 4 + 1) false) (first | assumption | exact S0.drew) (fail)
  have h2 : ABox w1.drew b B a (.slice (some ⟨g, 0, none⟩) a.ds.length vc) raw := h1.kept (gdrew (grefl w1) 1)
  have S2 : HlS w1.drew b (.slice (some ⟨g, 0, none⟩) a.ds.length vc) bg j g (j * 4 + 1) false := S0.drew
  have g2 : w.grownBy w1.drew none := gdrew g1 1
  have hbgw : ¬ raw[j].has bg := fun e => by have := (h.od.in j hjr bg e).2; omega
  clear S0 h1 hbgl h g1 hlb
  go_wp2_with fail
  generalize w1.drew = W2 at *
  refine region_calm (fun w' => (w'.cell? ⟨b, 0, none⟩ = some (.slice (some ⟨g, 0, none⟩) a.ds.length vc) ∧ w'.cell? ⟨bg, 0, none⟩ = some (.int .i64 j) ∧ w'.cell? ⟨g, j * 4 + 1, none⟩ = some (.bool false)) ∧ W2.grownBy w' none) (by kernel_rfl) (by kernel_rfl) (⟨S2, gdrew (grefl _) 1⟩) ?_
  repeat (first
    | (refine calm_skip (by rfl) ?_; simp only [Act.put, List.setIfInBounds_toArray, List.set_cons_zero, List.set_cons_succ])
    | (refine calm_step (by rfl) ?_
       apply Exists.intro
       refine ⟨fun w' hw' => ?_, ?_⟩
       · go_simp
         first | done | exact rfl | (go_at_call 32; go_fit (l6Cell_any _ a.ds j r _ ((h2.kept hw'.2).od.ld) (by omega) hjl); rintro e w8 ⟨rfl, g8⟩; exact And.intro rfl (And.intro (HlS.grew hw'.1 g8 (by simp) (by simp) (by simp)) (gtrans hw'.2 g8)))
       simp only [Act.put, List.setIfInBounds_toArray, List.set_cons_zero, List.set_cons_succ]))
  refine calm_nil ?_
  intro w9 hw9
  obtain ⟨S3, g3⟩ := hw9
  have h3 := h2.kept g3
  have G3 := gtrans g2 g3
  clear S2 h2 g2 g3
  generalize tellV a.ds j r = x at *
  generalize tellOk a.ds j r = xo at *
  have DA := (h3.od.dat j hjr hjl).kept (gdrew (grefl w9) 1)
  have S0 : HlS w9 b (.slice (some ⟨g, 0, none⟩) a.ds.length vc) bg j g (j * 4 + 1) false := S3
  obtain ⟨c0, x0, t1⟩ := S3
  have hnb : raw[j].nv.ownBlock ≠ some b := fun e => h3.rb j hjr (.inr e)
  have hnbg : raw[j].nv.ownBlock ≠ some bg := fun e => hbgw (.inr e)
  have hng : raw[j].nv.ownBlock ≠ some g := fun e => h3.od.out j hjr g (.inr e) rfl
  go_wp2_with fail
  go_region_held3 (fun w' => HlS w' b (.slice (some ⟨g, 0, none⟩) a.ds.length vc) bg j g (j * 4 + 1) false) (first | assumption | exact S0.drew) (first | (go_at_call 71; go_fit (l3WriteAt_any g (j * 4) B a.ds[j] raw[j].kv raw[j].nv r x _ DA); rintro e w8 ⟨rfl, D8, g8⟩; have S8 := HlS.grew (S0.drew) g8 hnb hnbg hng))
  have h4 := (h3.kept (gdrew (grefl w9) 1)).disksQ g8 hnb ((h3.kept (gdrew (grefl w9) 1)).od.wrote j hjr hjl D8 g8)
  go_wp2_with fail
  go_ret
  exact ⟨ret_bool HOk.out.symm, ⟨_, _, by rw [HHd.out]; exact h4⟩, (only_grew (gdrew G3 1)).trans (Only.of g8 (fun k e => .inr (h3.od.in j hjr k (.inr e)).1))⟩
end Go.Proofs.YtfodjokcobljmaaGreat
namespace Go.Proofs.YtfodjokcobljmaaGreat
open Go.ChangeShapes Go.WideShapes Go.ChangeAt Go.RowKit

def bentC (c : Int × Int) : Int × Int := (c.1, (c.2 + 2) % 65521)
def bentK (l : List (Int × Int)) (k : Nat) : List (Int × Int) := (l.take k).map bentC ++ l.drop k
def bentL (l : List (Int × Int)) : List (Int × Int) := l.map bentC
theorem bentK_zero (l : List (Int × Int)) : bentK l 0 = l := by simp [bentK]
theorem bentK_all (l : List (Int × Int)) : bentK l l.length = bentL l := by simp [bentK, bentL]
theorem bentK_length (l : List (Int × Int)) (k : Nat) : (bentK l k).length = l.length := by simp [bentK]; omega
theorem bentK_get {l : List (Int × Int)} {k : Nat} (h : k < l.length) : (bentK l k)[k]'(by rw [bentK_length]; exact h) = l[k] := by
  unfold bentK
  rw [List.getElem_append_right (by simp; omega)]
  simp [Nat.min_eq_left (Nat.le_of_lt h)]
theorem bentK_next {l : List (Int × Int)} {k : Nat} (h : k < l.length) : (bentK l k).set k (bentC l[k]) = bentK l (k + 1) := by
  unfold bentK
  have e : ((l.take k).map bentC).length = k := by simp; omega
  rw [List.set_append_right _ _ (by omega), e, Nat.sub_self, List.drop_eq_getElem_cons h, List.set_cons_zero, List.take_succ_eq_append_getElem h, List.map_append]
  simp only [List.map_cons, List.map_nil, List.append_assoc, List.cons_append, List.nil_append]
theorem sumZ_cof (n p v : Int) : 0 ≤ cofS n p v ∧ cofS n p v ≤ 65520 := by
  unfold cofS
  have h1 := sumZ_lo n p v
  have h2 := sumZ_hi n p v
  split <;> omega
theorem newL_sum (n : Int) (p i : Nat) (h : i < (newL n p).length) : 0 ≤ (newL n p)[i].2 ∧ (newL n p)[i].2 ≤ 65520 := by
  simp only [newL, List.getElem_map]
  exact sumZ_cof _ _ _
def repOk (a : AZ) (d : Int) : Bool := a.up && (a.stage == 0 && (decide (0 ≤ d ∧ d < a.ds.length) && (a.ds.getD d.toNat .zero).dead))
def repD (a : AZ) (d : Int) : DZ := ⟨d, false, bentL (newL d (rowsZ a.ds)), bentL (newL d (rowsZ a.ds))⟩
def AZ.replacedZ (a : AZ) (d : Int) : AZ := if repOk a d then { a with ds := a.ds.set d.toNat (repD a d) } else a
theorem rep_no {a : AZ} {d : Int} (h : repOk a d = false) : a.replacedZ d = a := by simp [AZ.replacedZ, h]
/-- one Sum of Now is written, of a disk in a variable -/
theorem DBox.sum {w : World} {b B g n cap : Nat} {d : DZ} {kv : Value} (h : DBox w b B d kv (.slice (some ⟨g, 0, none⟩) n cap)) (i : Nat) (hi : i < d.m.length) (y : Int) :
    DBox (w.setCell ⟨g, i * 2 + 1, none⟩ (.int .i64 y)) b B { d with m := d.m.set i (d.m[i].1, y) } kv (.slice (some ⟨g, 0, none⟩) n cap) := by
  have hgb : g ≠ b := fun e => h.nb (by rw [e]; rfl)
  have hk : kv.ownBlock ≠ some g := fun e => by rcases h.ap with z | z; rw [z] at e; cases e; exact z e
  exact ⟨h.c0.other (fun e => hgb (congrArg Addr.block e)) _, h.c1.other (fun e => hgb (congrArg Addr.block e)) _, h.c2.other (fun e => hgb (congrArg Addr.block e)) _, h.c3.other (fun e => hgb (congrArg Addr.block e)) _, Own.other h.ks hk _, Own.setAt h.ns i 1 _ (d.m[i].1, y) hi (by decide) rfl, h.ap, h.kb, h.nb⟩
set_option maxRecDepth 8000 in
set_option maxHeartbeats 4000000 in
theorem l10Replace_any (b B : Nat) (a : AZ) (v : Value) (raw : List DV) (d : Int) (w : World) (h : ABox w b B a v raw) (hrow : rowsZ a.ds ≤ 16) :
    Calls Tryz.prog 67 #[.pointer (some ⟨b, 0, none⟩), .int .i64 d] w (ADid b B (repOk a d) (a.replacedZ d) w) := by
  obtain ⟨va, vc, rfl, -⟩ := h.od.form
  obtain ⟨c0, f0⟩ := h.c0
  obtain ⟨c3, f3⟩ := h.c3
  obtain ⟨c4, f4⟩ := h.c4
  have HN0 := fun (e : repOk a d = false) => (show ADid b B (repOk a d) (a.replacedZ d) w (.returned (.bool false)) w from ⟨by rw [e], ⟨_, _, by rw [rep_no e]; exact h⟩, Only.refl _ _⟩)
  cases hu : a.up
  · have HG := HN0 (by rw [repOk, hu]; rfl)
    rw [hu] at c4
    go_enter Tryz.func67, Tryz.ntmps67
    go_wp2_with fail
    go_ret
    exact HG
  rw [hu] at c4
  by_cases hst : a.stage = 0
  rotate_left
  · have hst' : (a.stage != 0) = true := bne_iff_ne.2 hst
    have HG := HN0 (by rw [repOk, beq_eq_false_iff_ne.2 hst]; simp)
    clear hst
    go_enter Tryz.func67, Tryz.ntmps67
    go_wp2_with fail
    go_ret
    exact HG
  have hst' : (a.stage != 0) = false := by simp [hst]
  by_cases hd0 : d < 0
  · have HG := HN0 (by rw [repOk, decide_eq_false (by omega)]; simp)
    clear hst
    go_enter Tryz.func67, Tryz.ntmps67
    go_wp2_with fail
    go_ret
    exact HG
  by_cases hd1 : (a.ds.length : Int) ≤ d
  · have HG := HN0 (by rw [repOk, decide_eq_false (by omega)]; simp)
    clear hst
    go_enter Tryz.func67, Tryz.ntmps67
    go_wp2_with fail
    go_ret
    exact HG
  obtain ⟨i, rfl⟩ := Int.eq_ofNat_of_zero_le (show 0 ≤ d by omega)
  have hil : i < a.ds.length := by omega
  have hii : (i : Int) < a.ds.length := by omega
  have hir : i < raw.length := by rw [h.od.len]; exact hil
  have hgi : a.ds.getD i .zero = a.ds[i] := getD_at hil
  obtain ⟨g, e, hgB, hgl, t0, ⟨t1, u1⟩, t2, t3⟩ := h.od.at i hir hil
  cases e
  cases hdd : a.ds[i].dead
  · have HG := HN0 (by rw [repOk, Int.toNat_natCast, hgi, hdd]; simp)
    rw [hdd] at t1
    clear hst
    go_enter Tryz.func67, Tryz.ntmps67
    go_wp2_with fail
    go_ret
    exact HG
  rw [hdd] at t1
  have HO : Hid (repOk a i = true) := by show _ = _; rw [repOk, Int.toNat_natCast, hgi, hdd, hu, hst, decide_eq_true (by omega)]; rfl
  have HA : Hid (a.replacedZ i = { a with ds := a.ds.set i (repD a i) }) := by show _ = _; simp only [AZ.replacedZ, HO.out, if_true, Int.toNat_natCast]
  clear hst HN0
  go_enter Tryz.func67, Tryz.ntmps67
  go_wp2_with fail
  go_fit (l6Rows_any _ a.ds _ h.od.ld)
  rintro e w' ⟨rfl, rfl⟩
  go_wp2_with fail
  go_fit (l3New_any (i : Int) (rowsZ a.ds) _ hrow)
  rintro e w2 ⟨kv, nv, rfl, I2, ap2, g2⟩
  obtain ⟨ka, km, kc, rfl⟩ := I2.1.sl
  obtain ⟨na, nm, nc, rfl⟩ := I2.2.sl
  have HNl : Hid ((newL (i : Int) (rowsZ a.ds)).length = rowsZ a.ds) := newL_length _ _
  have HNs : Hid (∀ k (h : k < (newL (i : Int) (rowsZ a.ds)).length), 0 ≤ (newL (i : Int) (rowsZ a.ds))[k].2 ∧ (newL (i : Int) (rowsZ a.ds))[k].2 ≤ 65520) := fun k h => newL_sum _ _ k h
  have HRd : Hid (repD a i = ⟨(i : Int), false, bentL (newL (i : Int) (rowsZ a.ds)), bentL (newL (i : Int) (rowsZ a.ds))⟩) := rfl
  generalize newL (i : Int) (rowsZ a.ds) = NL at *
  generalize rowsZ a.ds = R at *
  have e3 := galloc (grefl w2) (.cells #[.int .i64 (i : Int), .bool false, .slice ka km kc, .slice na nm nc] 41)
  have D3 : DBox (w2.alloc (.cells #[.int .i64 (i : Int), .bool false, .slice ka km kc, .slice na nm nc] 41)) w2.heap.size w.heap.size ⟨(i : Int), false, NL, NL⟩ (.slice ka km kc) (.slice na nm nc) :=
    ⟨by simp [At, go_sem], by simp [At, go_sem], by simp [At, go_sem], by simp [At, go_sem], Own.grew I2.1 e3, Own.grew I2.2 e3, ap2, fun e => by have := (Own.lt I2.1 _ e).2; omega, fun e => by have := (Own.lt I2.2 _ e).2; omega⟩
  have G3 := gtrans g2 e3
  have hdb : w.heap.size ≤ w2.heap.size := g2.size
  clear e3 I2 c0 f0 c3 f3 c4 f4 t1 u1 g2
  go_upto_region 4 with (fail)
  generalize w2.alloc (.cells #[.int .i64 (i : Int), .bool false, .slice ka km kc, .slice na nm nc] 41) = W3 at *
  generalize w2.heap.size = db at *
  have hnm : nm = R := by have := (CS.bound D3.ns).1; dsimp only at this; rw [HNl.out] at this; exact this
  subst hnm
  have HB0 := Lib.hid (bentK_zero NL)
  go_wp2_with fail
  go_loopw [6] (fun q wr => ∃ k : Nat, k ≤ nm ∧ q = .int .i64 k ∧ DBox wr db w.heap.size ⟨(i : Int), false, NL, bentK NL k⟩ (.slice ka km kc) (.slice na nm nc) ∧ w.grownBy wr none) (fun q _ => nm - (intOf q).toNat)
  case atStart => exact ⟨0, Nat.zero_le _, rfl, by rw [HB0.out]; exact D3, G3⟩
  case round =>
    clear D3 G3
    obtain ⟨k, hk, rfl, D, G⟩ := hrel
    have hbl := bentK_length NL k
    obtain ⟨c3, f3⟩ := D.c3
    by_cases hlt : k < nm
    · have hkl : k < NL.length := by rw [HNl.out]; exact hlt
      have hki : (k : Int) < nm := by omega
      have hkb : k < (bentK NL k).length := by rw [hbl]; exact hkl
      obtain ⟨ng, e, hg1, hg2, -, ⟨y1, z1⟩⟩ := CS.at D.ns k hkb
      cases e
      have HG := Lib.hid (bentK_get hkl)
      dsimp only at y1
      rw [HG.out] at y1
      obtain ⟨s0, s1⟩ := HNs.out k hkl
      have HD := (D.kept (gdrew (grefl wr) 1)).sum k hkb ((NL[k].2 + 2) % 65521)
      dsimp only at HD
      have HE : Hid ((bentK NL k).set k ((bentK NL k)[k].1, (NL[k].2 + 2) % 65521) = bentK NL (k + 1)) := by show _ = _; rw [HG.out, ← bentK_next hkl]; rfl
      rw [HE.out] at HD
      generalize NL[k].2 = sm at *
      have hmod : Int.tmod (sm + 2) 65521 = (sm + 2) % 65521 := Int.tmod_eq_emod_of_nonneg (by omega)
      clear D
      go_wp2_with fail
      go_region
      all_goals
        go_wp2_with fail
        go_roundw
        case rel => exact ⟨k + 1, by omega, by go_num, HD, gset1 (gdrew G 1) hg1 _ _⟩
        case measure => simp [intOf]; omega
    · obtain rfl : k = nm := by omega
      have HAl : Hid (bentK NL k = bentL NL) := by show _ = _; rw [← HNl.out]; exact bentK_all NL
      rw [HAl.out] at D
      have hml : (bentL NL).length ≤ 16 := by rw [← HAl.out, hbl, HNl.out]; exact hrow
      go_wp2_with fail
      go_fit (l3Flush_any db w.heap.size ⟨(i : Int), false, NL, bentL NL⟩ _ _ _ D (by have := G.size; omega) (by dsimp only; omega))
      rintro e w5 ⟨kv', rfl, D5, g5⟩
      have G5 : w.grownBy w5 none := gfresh G hdb g5
      have h5 := h.kept G5
      obtain ⟨ka', km', kc', rfl⟩ := D5.ks.sl
      obtain ⟨c0, f0⟩ := h5.c0
      obtain ⟨g', e', -, -, ⟨p0, r0⟩, ⟨p1, r1⟩, ⟨p2, r2⟩, ⟨p3, r3⟩⟩ := h5.od.at i hir hil
      cases e'
      obtain ⟨q0, -⟩ := D5.c0
      obtain ⟨q1, -⟩ := D5.c1
      obtain ⟨q2, -⟩ := D5.c2
      obtain ⟨q3, -⟩ := D5.c3
      dsimp only at q0 q1
      have hgdb : g ≠ db := by omega
      have hR := h.replaced i hir ⟨(i : Int), false, ka', km', kc', na, k, nc⟩ (repD a i) (gdrew G5 1) ⟨rfl, rfl, ⟨by rw [HRd.out]; exact Own.lower D5.ks (by omega), by rw [HRd.out]; exact Own.lower D5.ns (by omega)⟩⟩ D5.ap (fun k hk => by rcases hk with hk | hk; exact (Own.lt D5.ks k hk).1; exact (Own.lt D5.ns k hk).1)
      have HF : ADid b B (repOk a i) (a.replacedZ i) w (.returned (.bool true)) (set4At (w5.drewN 1) g (i * 4) (.int .i64 (i : Int)) (.bool false) (.slice ka' km' kc') (.slice na k nc)) :=
        ⟨by rw [HO.out], ⟨_, _, by rw [HA.out]; exact hR⟩, (only_grew (gdrew G5 1)).trans (Only.of (gset4At (World.grownBy.refl _ (some g)) _ _ _ _) (fun k e => by cases e; exact .inr hgB))⟩
      clear hR D5 h5 D
      go_wp2_with fail
      go_region
      all_goals
        go_wp2_with fail
        go_ret
        exact HF
end Go.Proofs.YtfodjokcobljmaaGreat
namespace Go.Proofs.YtfodjokcobljmaaGreat
open Go.ChangeShapes Go.WideShapes Go.ChangeAt Go.RowKit

set_option maxHeartbeats 1000000 in
theorem l6Copy_any (v : Value) (l : List DZ) (w : World) (h : LD w v l) (hl : l.length ≤ 1000) (hd : ∀ i (h : i < l.length), l[i].k.length ≤ 1000 ∧ l[i].m.length ≤ 1000) :
    Calls Tryz.prog 41 #[v] w (GotL l w) := by
  obtain ⟨a, cap, rfl, hm⟩ := h.form
  have C0 := OD.empty w
  have g0 := galloc (grefl w) (.cells #[] 41)
  have HDs : Hid (∀ i (h : i < l.length), l[i].k.length ≤ 1000 ∧ l[i].m.length ≤ 1000) := hd
  clear hd
  go_enter Tryz.func41, Tryz.ntmps41
  go_wp2
  go_loopw [3, 4] (fun out i wr => ∃ (k : Nat) (raw : List DV), k ≤ l.length ∧ i = .int .i64 k ∧ OD wr w.heap.size out (l.take k) raw ∧ w.grownBy wr none) (fun _ i _ => l.length - (intOf i).toNat)
  case atStart => exact ⟨0, [], Nat.zero_le _, rfl, C0, g0⟩
  case round =>
    clear C0 g0
    obtain ⟨k, raw, hk, rfl, C, G⟩ := hrel
    obtain ⟨oa, om, oc, rfl⟩ := C.own.sl
    by_cases hlt : k < l.length
    · have hki : (k : Int) < l.length := by omega
      obtain ⟨g, o, ka, km, kc, na, nm, nc, rfl, x0, x1, x2, x3, D⟩ := (h.kept G).at k hlt
      have hb := HDs.out k hlt
      have HT : Hid (l.take (k + 1) = l.take k ++ [l[k]]) := List.take_succ_eq_append_getElem hlt
      go_wp2_with fail
      go_fit (l3Copy_any _ _ l[k] _ D hb.1 hb.2)
      rintro e w2 ⟨kv, nv, rfl, I2, ap, g2⟩
      obtain ⟨ka', km', kc', rfl⟩ := I2.1.sl
      obtain ⟨na', nm', nc', rfl⟩ := I2.2.sl
      have C2 := C.grew g2
      have G2 := gtrans G g2
      have hs2 := G2.size
      have hsw := G.size
      have HNew : Hid (∀ q, DV.has ⟨l[k].n, l[k].dead, ka', km', kc', na', nm', nc'⟩ q → (∀ i (hi : i < raw.length), ¬ raw[i].has q) ∧ (Value.slice oa om oc).ownBlock ≠ some q) := fun q hq => by
        have h1 : wr.heap.size ≤ q := by
          rcases hq with hq | hq
          · exact (I2.1.lt q hq).1
          · exact (I2.2.lt q hq).1
        exact ⟨fun i hi x => by have := (C.in i hi q x).2; omega, fun x => by have := (C.own.lt q x).2; omega⟩
      have hI : DV.Is w2 w.heap.size ⟨l[k].n, l[k].dead, ka', km', kc', na', nm', nc'⟩ l[k] := ⟨rfl, rfl, I2.1.lower hsw, I2.2.lower hsw⟩
      have hrl : raw.length ≤ 1000 := by have := C.len; simp at this; omega
      go_wp2_with (first | (at_builtin; refine wpList_append_o (E := diskE) (base := w.heap.size) rfl (.tmp 12) (.tmp 18) rfl rfl rfl (Own.grew C2.own (galloc (grefl _) _)) (DV.single _ ⟨l[k].n, l[k].dead, ka', km', kc', na', nm', nc'⟩) (by simp; omega) (by decide) (by simp; omega) ?_; intro v' w6 o6 g6 b6; have C6 := OD.app (C2.grew (galloc (grefl _) _)) _ l[k] (hI.grew (galloc (grefl _) _)) ap HNew.out g6 o6 b6; have G6 := gnew (galloc G2 _) g6 (fun j e => (C2.own.lt j e).1); rw [← HT.out] at C6; clear g6 b6 o6))
      go_roundw
      case rel => exact ⟨k + 1, _, by omega, by go_num, C6, G6⟩
      case measure => simp [intOf]; omega
    · obtain rfl : k = l.length := by omega
      rw [List.take_length] at C
      go_wp2_with fail
      go_ret
      exact ⟨_, raw, rfl, C, G⟩
end Go.Proofs.YtfodjokcobljmaaGreat
namespace Go.Proofs.YtfodjokcobljmaaGreat
open Go.ChangeShapes Go.WideShapes Go.ChangeAt Go.RowKit
attribute [local go_sem] str_list str_size str_add lit_list0 add_lit lit_add str_cut

theorem DGood.rows {l : List DZ} (h : DGood l) : rowsZ l ≤ 16 := by
  obtain ⟨-, h2⟩ := h
  induction l with
  | nil => simp [rowsZ]
  | cons d r ih =>
    cases hd : d.dead
    · rw [rowsZ_here (k := 0) (by simp) (by simp) (by simpa using hd)]
      exact (h2 d (by simp)).2
    · simp only [rowsZ, hd, if_true]
      exact ih (fun x hx => h2 x (by simp [hx]))
theorem flushAll_len (l : List DZ) : (flushAll l).length = l.length := by simp [flushAll]
theorem patchZ_len (l : List DZ) (p : PZ) : (patchZ l p).length = l.length := patchK_length _ _ _
theorem fallZ_len (l : List DZ) (s : List Int) : (fallZ l s).length = l.length := by unfold fallZ; exact fallK_length _ _ _
theorem patchAll_len (l : List DZ) (ps : List PZ) : (patchAll l ps).length = l.length := by
  unfold patchAll
  induction ps generalizing l with
  | nil => rfl
  | cons p r ih => rw [List.foldl_cons, ih, patchZ_len]
/-- what is kept of a drawn array -/
structure AGood (a : AZ) : Prop where
  ds : DGood a.ds
  next : a.next.length ≤ 1000
  log : a.log.length ≤ 1000
  ents : inB a.stage 1 4 = true → entsT a.next ≠ []
  pos : 1 ≤ a.ds.length
section
variable {a : AZ}
theorem AGood.withDs (h : AGood a) {i : Nat} {d : DZ} (hl : DGood (a.ds.set i d)) : AGood { a with ds := a.ds.set i d } := ⟨hl, h.next, h.log, h.ents, by simpa using h.pos⟩
theorem AGood.fresh {l : List DZ} (h : DGood l) (hp : 1 ≤ l.length) : AGood (AZ.fresh l) := ⟨h, by simp [AZ.fresh], by simp [AZ.fresh], fun e => by simp [AZ.fresh, inB] at e, hp⟩
theorem AGood.begun (h : AGood a) (p x : Int) : AGood (a.begun p x) := by
  unfold AZ.begun
  split
  · rename_i hb
    have hok : (forP a.ds p x).ok = true := by simp only [beginOk, Bool.and_eq_true] at hb; exact for_ok hb.2.2
    have hl := frameT_length (forP a.ds p x).text (by have := text_len hok; omega)
    have := text_len hok
    exact ⟨h.ds, by dsimp only; omega, h.log, fun _ => by dsimp only; rw [ents_one hok]; simp, h.pos⟩
  · exact h
theorem AGood.stepped (h : AGood a) : AGood a.stepped := by
  unfold AZ.stepped
  split
  · rename_i e; exact ⟨h.ds, h.next, h.next, fun _ => h.ents (by rw [e]; rfl), h.pos⟩
  split
  · rename_i e; exact ⟨h.ds.patchZ _, h.next, h.log, fun _ => h.ents (by rw [e]; rfl), by rw [patchZ_len]; exact h.pos⟩
  split
  · rename_i e; exact ⟨h.ds.flush, h.next, h.log, fun _ => h.ents (by rw [e]; rfl), by rw [flushAll_len]; exact h.pos⟩
  split
  · exact ⟨h.ds, by simp, by simp, fun e => by simp [inB] at e, h.pos⟩
  · exact h
theorem AGood.written (h : AGood a) (p x : Int) : AGood (a.written p x) := by
  unfold AZ.written
  split
  · exact ⟨(h.ds.patchZ _).flush, by simp, by simp, fun e => by simp [inB] at e, by rw [flushAll_len, patchZ_len]; exact h.pos⟩
  · exact h
theorem AGood.rotted (h : AGood a) (d p y : Int) : AGood (a.rotted d p y) := by
  unfold AZ.rotted
  split
  · exact h.withDs (h.ds.rot _ _ _)
  · exact h
theorem AGood.dies (h : AGood a) (d : Int) : AGood (a.dies d) := by
  unfold AZ.dies
  split
  · have := died_nil (a.ds.getD d.toNat .zero)
    exact h.withDs (h.ds.set _ (by rw [this.1, this.2]; simp))
  · exact h
theorem torn_len (s : List UInt8) (k : Int) : (tornT s k).length ≤ s.length := by unfold tornT; split <;> simp; omega
theorem AGood.fell (h : AGood a) (sets : List Int) (k : Int) : AGood (a.fell sets k) := by
  unfold AZ.fell
  split
  · refine ⟨h.ds.fallZ _, by simp, ?_, fun e => by simp [inB] at e, by rw [fallZ_len]; exact h.pos⟩
    dsimp only
    have := torn_len a.next k
    have := h.next
    split
    · omega
    · exact h.log
  · exact h
theorem AGood.assembled (h : AGood a) : AGood a.assembled := by
  unfold AZ.assembled
  split
  · exact h
  · exact ⟨(h.ds.patchAll _).flush, h.next, by simp, h.ents, by rw [flushAll_len, patchAll_len]; exact h.pos⟩
theorem AGood.replacedZ (h : AGood a) (d : Int) : AGood (a.replacedZ d) := by
  unfold AZ.replacedZ
  split
  · refine h.withDs (h.ds.set _ ⟨rfl, ?_⟩)
    simp only [repD, bentL, List.length_map, newL_length]
    exact h.ds.rows
  · exact h
theorem AGood.healed (h : AGood a) (r : Int) : AGood (a.healed r) := by
  unfold AZ.healed
  split
  · have q := h.ds.get (badAt a r)
    have t := put_len (a.ds.getD (badAt a r) .zero) r (tellV a.ds (badAt a r) r)
    exact h.withDs (h.ds.set _ (by omega))
  · exact h
end
/-- the drawing of an array, on the way -/
structure DrA (w wr : World) (c b : Nat) (a : AZ) : Prop where
  box : ∃ v raw, ABox wr b (w.heap.size + 1) a v raw
  good : AGood a
  zero : Zero5 wr w.heap.size
  cur : Cur wr c
  grew : w.grownBy wr (some c)
  hc : c < w.heap.size
  hb : w.heap.size < b
section
variable {w wr w2 : World} {c b : Nat} {a a' : AZ}
theorem DrA.size (h : DrA w wr c b a) : w.heap.size + 1 ≤ wr.heap.size := by have := cell_lt h.zero.c0.1; omega
theorem DrA.did (h : DrA w wr c b a) (o : Only (AB b (w.heap.size + 1)) wr w2) (hx : ∃ v raw, ABox w2 b (w.heap.size + 1) a' v raw) (hg : AGood a') : DrA w w2 c b a' := by
  have h1 := h.hc
  have h2 := h.hb
  have hn : ∀ k, k ≤ w.heap.size → ¬ AB b (w.heap.size + 1) k := fun k hk e => by rcases e with e | e <;> omega
  refine ⟨hx, hg, ⟨o.at (hn _ (Nat.le_refl _)) h.zero.c0, o.at (hn _ (Nat.le_refl _)) h.zero.c1, o.at (hn _ (Nat.le_refl _)) h.zero.c2, o.at (hn _ (Nat.le_refl _)) h.zero.c3, o.at (hn _ (Nat.le_refl _)) h.zero.c4⟩, h.cur.above o.size (fun k hk => o.block k (by have := h.cur.lt; omega) (hn k (by omega))), ?_, h1, h2⟩
  exact ⟨o.os.trans h.grew.os, o.tape.trans h.grew.tape, o.output.trans h.grew.output, Nat.le_trans h.grew.size o.size, fun i hi hne => (o.block i (Nat.lt_of_lt_of_le hi h.grew.size) (hn i (by omega))).trans (h.grew.block i hi hne)⟩
/-- a draw -/
theorem ABox.drawn {B : Nat} {v : Value} {raw : List DV} (hB : ABox wr b B a v raw) (g : wr.grownBy w2 (some c)) (h1 : c < B) (h2 : c ≠ b) : ABox w2 b B a v raw := by
  have hno := hB.od.not_old (r := c) h1
  have hb : (some c : Option Nat) ≠ some b := by simpa using h2
  refine ⟨gkr g hb hB.c0, gkr g hb hB.c1, gkr g hb hB.c2, gkr g hb hB.c3, gkr g hb hB.c4, ?_, hB.vb, hB.rb⟩
  have hs : ∀ k, k ≠ c → k < wr.heap.size → w2.heap[k]? = wr.heap[k]? := fun k hk hl => g.block k hl (by intro e; cases e; exact hk rfl)
  exact ⟨Own.same hB.od.own (fun k e => hs k (fun x => hno.1 (by rw [← x]; exact e)) (hB.od.own.lt k e).2), hB.od.len, fun i p q => ⟨(hB.od.is i p q).n, (hB.od.is i p q).dead, Own.same (hB.od.is i p q).isD.1 (fun k e => hs k (fun x => hno.2 i p (by rw [← x]; exact .inl e)) (hB.od.in i p k (.inl e)).2), Own.same (hB.od.is i p q).isD.2 (fun k e => hs k (fun x => hno.2 i p (by rw [← x]; exact .inr e)) (hB.od.in i p k (.inr e)).2)⟩, hB.od.self, hB.od.ap, hB.od.out⟩
theorem DrA.draw (h : DrA w wr c b a) (g : wr.grownBy w2 (some c)) (hc : Cur w2 c) : DrA w w2 c b a := by
  have h1 := h.hc
  have h2 := h.hb
  obtain ⟨v, raw, hB⟩ := h.box
  exact ⟨⟨v, raw, hB.drawn g (by omega) (by omega)⟩, h.good, h.zero.kept g (by simp; omega), hc, gtrans h.grew g, h1, h2⟩
theorem DrA.kept (h : DrA w wr c b a) (g : wr.grownBy w2 none) : DrA w w2 c b a := by
  obtain ⟨v, raw, hB⟩ := h.box
  exact h.did (only_grew g) ⟨v, raw, hB.kept g⟩ h.good
end
/-- a drawn array -/
def DrawnA (c : Nat) (w : World) (e : Ending) (w' : World) : Prop :=
  ∃ (a : AZ) (v : Value) (raw : List DV), e = .returned (a.val v) ∧ AGood a ∧ OD w' w.heap.size v a.ds raw ∧ Cur w' c ∧ w.grownBy w' (some c)
set_option maxRecDepth 8000 in
set_option maxHeartbeats 8000000 in
theorem l9Draw_any (c : Nat) (w : World) (hc : Cur w c) :
    Calls Tryz.prog 42 #[.pointer (some ⟨c, 0, none⟩)] w (DrawnA c w) := by
  have hlt := hc.lt
  have Z0 := Zero5.new w
  have C0 := hc.alloc zero5
  have G0 := galloc (World.grownBy.refl w (some c)) zero5
  have hs0 : (w.alloc zero5).heap.size = w.heap.size + 1 := by simp
  clear hc
  go_enter Tryz.func42, Tryz.ntmps42
  go_upto_region 1 with (fail)
  generalize w.alloc zero5 = W0 at *
  go_wp2_with fail
  go_fit (l1Below_any c _ _ C0 (by omega))
  rintro e w1 ⟨n, ⟨hn0, hn1⟩, rfl, hc1, g1⟩
  go_wp2_with fail
  go_fit (l1Below_any c _ _ hc1 (by omega))
  rintro e w2 ⟨r, ⟨hr0, hr1⟩, rfl, hc2, g2⟩
  obtain ⟨n, rfl⟩ := Int.eq_ofNat_of_zero_le hn0
  obtain ⟨r, rfl⟩ := Int.eq_ofNat_of_zero_le hr0
  have hNA : ∀ w, Calls Tryz.prog 59 #[.int .i64 (3 + (n : Int)), .int .i64 (1 + (r : Int))] w fun e w' => ∃ v raw, e = .returned (.tuple #[(AZ.fresh (newDs (1 + r) (3 + n))).val v, .bool true]) ∧ OD w' w.heap.size v (newDs (1 + r) (3 + n)) raw ∧ w.grownBy w' none := fun w => by
    have := specNewArray_yes (3 + n) (1 + r) w (inB_iff.2 (by omega)) (inB_iff.2 (by omega))
    simpa using this
  have hgood := newDs_good (1 + r) (3 + n) (by omega) (by omega)
  go_wp2_with fail
  go_fit (hNA _)
  rintro e w3 ⟨v3, raw3, rfl, O3, g3⟩
  obtain ⟨va, vn, vc, rfl⟩ := O3.own.sl
  dsimp only [AZ.val, AZ.fresh]
  have e4 := galloc (grefl w3) (.cells #[.slice va vn vc, .string (str []), .string (str []), .int .i64 0, .bool true] 63)
  have hs2 : w.heap.size + 1 ≤ w2.heap.size := by have := g1.size; have := g2.size; omega
  have A4 : ABox (w3.alloc (.cells #[.slice va vn vc, .string (str []), .string (str []), .int .i64 0, .bool true] 63)) w3.heap.size (w.heap.size + 1) (AZ.fresh (newDs (1 + r) (3 + n))) (.slice va vn vc) raw3 :=
    ⟨by simp [At, go_sem], by simp [At, go_sem]; rfl, by simp [At, go_sem]; rfl, by simp [At, go_sem]; rfl, by simp [At, go_sem]; rfl, (O3.grew e4).lower hs2, fun e => by have := (O3.own.lt _ e).2; omega, fun i hi e => by have := (O3.in i hi _ e).2; omega⟩
  have Z4 := (((Z0.kept g1 (by simp; omega)).kept g2 (by simp; omega)).kept g3 (by simp)).kept e4 (by simp)
  have C4 : Cur (w3.alloc (.cells #[.slice va vn vc, .string (str []), .string (str []), .int .i64 0, .bool true] 63)) c := (hc2.kept g3 (by simp)).alloc _
  have G4 : w.grownBy (w3.alloc (.cells #[.slice va vn vc, .string (str []), .string (str []), .int .i64 0, .bool true] 63)) (some c) := galloc (gtrans (gtrans (gtrans G0 g1) g2) (gweak g3 (some c))) _
  have R : DrA w (w3.alloc (.cells #[.slice va vn vc, .string (str []), .string (str []), .int .i64 0, .bool true] 63)) c w3.heap.size (AZ.fresh (newDs (1 + r) (3 + n))) := ⟨⟨_, _, A4⟩, AGood.fresh hgood (by rw [newDs_length]; omega), Z4, C4, G4, hlt, by have := g3.size; omega⟩
  clear A4 Z4 C4 G4 O3 g1 g2 g3 e4 hc1 hc2 C0 G0 Z0 hNA
  go_upto_region 2 with (fail)
  generalize w3.alloc (.cells #[.slice va vn vc, .string (str []), .string (str []), .int .i64 0, .bool true] 63) = W4 at *
  generalize w3.heap.size = b at *
  generalize AZ.fresh (newDs (1 + r) (3 + n)) = a0 at *
  go_wp2_with fail
  go_fit (l1Below_any c _ _ R.cur (by omega))
  rintro e w5 ⟨m, ⟨hm0, hm1⟩, rfl, hc5, g5⟩
  replace R := R.draw g5 hc5
  obtain ⟨m, rfl⟩ := Int.eq_ofNat_of_zero_le hm0
  clear g5 hc5
  go_wp2_with fail
  go_loopw [5] (fun i wr => ∃ (k : Nat) (a : AZ), i = .int .i64 k ∧ k ≤ 11 ∧ DrA w wr c b a) (fun i _ => (intOf i).toNat)
  case atStart => exact ⟨m, a0, rfl, by omega, R⟩
  case round =>
    clear R
    obtain ⟨k, a, rfl, hk, R⟩ := hrel
    by_cases hpos : 0 < k
    · have hpi : (0 : Int) < k := by omega
      go_wp2_with fail
      go_fit (l1Below_any c _ _ R.cur (by omega))
      rintro e w9 ⟨q, ⟨hq0, hq1⟩, rfl, hc9, g9⟩
      replace R := R.draw g9 hc9
      clear g9 hc9
      rcases (show q = 0 ∨ q = 1 ∨ q = 2 ∨ q = 3 ∨ q = 4 ∨ q = 5 ∨ q = 6 ∨ q = 7 ∨ q = 8 ∨ q = 9 by omega) with rfl | rfl | rfl | rfl | rfl | rfl | rfl | rfl | rfl | rfl
      · go_wp2_with fail
        go_fit (l1Below_any c _ _ R.cur (by omega))
        rintro e w10 ⟨x, ⟨hx0, hx1⟩, rfl, hcw10, gw10⟩
        replace R := R.draw gw10 hcw10
        go_wp2_with fail
        go_fit (l1Below_any c _ _ R.cur (by omega))
        rintro e w11 ⟨y, ⟨hy0, hy1⟩, rfl, hcw11, gw11⟩
        replace R := R.draw gw11 hcw11
        go_wp2_with fail
        obtain ⟨v, raw, hB⟩ := R.box
        go_fit (l9Write_any b _ a v raw x y _ hB R.size R.good.ds)
        rintro e w12 ⟨rfl, hx, o⟩
        replace R := R.did o hx (R.good.written x y)
        clear hB v raw
        go_wp2_with fail
        go_roundw
        case rel => exact ⟨k - 1, _, by rw [show ((k - 1 : Nat) : Int) = (k : Int) - 1 by omega], by omega, R⟩
        case measure => simp [intOf]; omega
      · go_wp2_with fail
        go_fit (l1Below_any c _ _ R.cur (by omega))
        rintro e w10 ⟨x, ⟨hx0, hx1⟩, rfl, hcw10, gw10⟩
        replace R := R.draw gw10 hcw10
        go_wp2_with fail
        go_fit (l1Below_any c _ _ R.cur (by omega))
        rintro e w11 ⟨y, ⟨hy0, hy1⟩, rfl, hcw11, gw11⟩
        replace R := R.draw gw11 hcw11
        go_wp2_with fail
        obtain ⟨v, raw, hB⟩ := R.box
        go_fit (l9Write_any b _ a v raw x y _ hB R.size R.good.ds)
        rintro e w12 ⟨rfl, hx, o⟩
        replace R := R.did o hx (R.good.written x y)
        clear hB v raw
        go_wp2_with fail
        go_roundw
        case rel => exact ⟨k - 1, _, by rw [show ((k - 1 : Nat) : Int) = (k : Int) - 1 by omega], by omega, R⟩
        case measure => simp [intOf]; omega
      · go_wp2_with fail
        go_fit (l1Below_any c _ _ R.cur (by omega))
        rintro e w10 ⟨x, ⟨hx0, hx1⟩, rfl, hcw10, gw10⟩
        replace R := R.draw gw10 hcw10
        go_wp2_with fail
        go_fit (l1Below_any c _ _ R.cur (by omega))
        rintro e w11 ⟨y, ⟨hy0, hy1⟩, rfl, hcw11, gw11⟩
        replace R := R.draw gw11 hcw11
        go_wp2_with fail
        obtain ⟨v, raw, hB⟩ := R.box
        go_fit (l9Write_any b _ a v raw x y _ hB R.size R.good.ds)
        rintro e w12 ⟨rfl, hx, o⟩
        replace R := R.did o hx (R.good.written x y)
        clear hB v raw
        go_wp2_with fail
        go_roundw
        case rel => exact ⟨k - 1, _, by rw [show ((k - 1 : Nat) : Int) = (k : Int) - 1 by omega], by omega, R⟩
        case measure => simp [intOf]; omega
      · go_wp2_with fail
        go_fit (l1Below_any c _ _ R.cur (by omega))
        rintro e w10 ⟨x, ⟨hx0, hx1⟩, rfl, hcw10, gw10⟩
        replace R := R.draw gw10 hcw10
        go_wp2_with fail
        go_fit (l1Below_any c _ _ R.cur (by omega))
        rintro e w11 ⟨y, ⟨hy0, hy1⟩, rfl, hcw11, gw11⟩
        replace R := R.draw gw11 hcw11
        go_wp2_with fail
        obtain ⟨v, raw, hB⟩ := R.box
        go_fit (l9Write_any b _ a v raw x y _ hB R.size R.good.ds)
        rintro e w12 ⟨rfl, hx, o⟩
        replace R := R.did o hx (R.good.written x y)
        clear hB v raw
        go_wp2_with fail
        go_roundw
        case rel => exact ⟨k - 1, _, by rw [show ((k - 1 : Nat) : Int) = (k : Int) - 1 by omega], by omega, R⟩
        case measure => simp [intOf]; omega
      · go_wp2_with fail
        go_fit (l1Below_any c _ _ R.cur (by omega))
        rintro e w10 ⟨x, ⟨hx0, hx1⟩, rfl, hcw10, gw10⟩
        replace R := R.draw gw10 hcw10
        go_wp2_with fail
        go_fit (l1Below_any c _ _ R.cur (by omega))
        rintro e w11 ⟨y, ⟨hy0, hy1⟩, rfl, hcw11, gw11⟩
        replace R := R.draw gw11 hcw11
        go_wp2_with fail
        obtain ⟨v, raw, hB⟩ := R.box
        go_fit (l9Begin_any b _ a v raw x y _ hB (by have := R.good.ds.1; omega))
        rintro e w12 ⟨rfl, hx, o⟩
        replace R := R.did o ⟨_, _, hx⟩ (R.good.begun x y)
        clear hx hB v raw
        go_wp2_with fail
        go_roundw
        case rel => exact ⟨k - 1, _, by rw [show ((k - 1 : Nat) : Int) = (k : Int) - 1 by omega], by omega, R⟩
        case measure => simp [intOf]; omega
      · go_wp2_with fail
        obtain ⟨v, raw, hB⟩ := R.box
        go_fit (l9Step_any b _ a v raw _ hB R.size (by have := R.good.ds.1; omega) (fun i h => by have := (R.good.ds.2 _ (List.getElem_mem h)).2; omega) (by have := R.good.next; omega) (fun e => R.good.ents (by rw [e]; rfl)))
        rintro e w12 ⟨rfl, hx, o⟩
        replace R := R.did o hx (R.good.stepped)
        clear hB v raw
        go_wp2_with fail
        go_roundw
        case rel => exact ⟨k - 1, _, by rw [show ((k - 1 : Nat) : Int) = (k : Int) - 1 by omega], by omega, R⟩
        case measure => simp [intOf]; omega
      · go_wp2_with fail
        obtain ⟨v, raw, hB⟩ := R.box
        go_fit (l9Step_any b _ a v raw _ hB R.size (by have := R.good.ds.1; omega) (fun i h => by have := (R.good.ds.2 _ (List.getElem_mem h)).2; omega) (by have := R.good.next; omega) (fun e => R.good.ents (by rw [e]; rfl)))
        rintro e w12 ⟨rfl, hx, o⟩
        replace R := R.did o hx (R.good.stepped)
        clear hB v raw
        go_wp2_with fail
        go_roundw
        case rel => exact ⟨k - 1, _, by rw [show ((k - 1 : Nat) : Int) = (k : Int) - 1 by omega], by omega, R⟩
        case measure => simp [intOf]; omega
      · go_wp2_with fail
        go_fit (l1Below_any c _ _ R.cur (by omega))
        rintro e w10 ⟨x, ⟨hx0, hx1⟩, rfl, hcw10, gw10⟩
        replace R := R.draw gw10 hcw10
        go_wp2_with fail
        go_fit (l1Below_any c _ _ R.cur (by omega))
        rintro e w11 ⟨y, ⟨hy0, hy1⟩, rfl, hcw11, gw11⟩
        replace R := R.draw gw11 hcw11
        go_wp2_with fail
        go_fit (l1Below_any c _ _ R.cur (by omega))
        rintro e w12 ⟨z, ⟨hz0, hz1⟩, rfl, hcw12, gw12⟩
        replace R := R.draw gw12 hcw12
        go_wp2_with fail
        obtain ⟨v, raw, hB⟩ := R.box
        go_fit (l11Rot_any b _ a v raw x y (1 + z) _ hB R.good.ds)
        rintro e w13 ⟨rfl, hx, o⟩
        replace R := R.did o hx (R.good.rotted x y (1 + z))
        clear hB v raw
        go_wp2_with fail
        go_roundw
        case rel => exact ⟨k - 1, _, by rw [show ((k - 1 : Nat) : Int) = (k : Int) - 1 by omega], by omega, R⟩
        case measure => simp [intOf]; omega
      · go_wp2_with fail
        go_fit (l1Once_any c _ _ R.cur (by omega))
        rintro e w10 ⟨b1, rfl, hcw10, gw10⟩
        replace R := R.draw gw10 hcw10
        cases b1
        rotate_left
        · go_wp2_with fail
          go_fit (l1Below_any c _ _ R.cur (by omega))
          rintro e w11 ⟨x, ⟨hx0, hx1⟩, rfl, hcw11, gw11⟩
          replace R := R.draw gw11 hcw11
          go_wp2_with fail
          obtain ⟨v, raw, hB⟩ := R.box
          go_fit (l11Die_any b _ a v raw x _ hB (by have := R.good.ds.1; omega))
          rintro e w12 ⟨rfl, hx, o⟩
          replace R := R.did o hx (R.good.dies x)
          clear hB v raw
          go_wp2_with fail
          go_roundw
          case rel => exact ⟨k - 1, _, by rw [show ((k - 1 : Nat) : Int) = (k : Int) - 1 by omega], by omega, R⟩
          case measure => simp [intOf]; omega
        · obtain ⟨v, raw, hB⟩ := R.box
          obtain ⟨c4, f4⟩ := hB.c4
          cases hup : a.up
          · rw [hup] at c4
            clear hB v raw
            go_wp2_with fail
            go_roundw
            case rel => exact ⟨k - 1, _, by rw [show ((k - 1 : Nat) : Int) = (k : Int) - 1 by omega], by omega, R⟩
            case measure => simp [intOf]; omega
          · rw [hup] at c4
            clear hB v raw
            go_wp2_with fail
            go_fit (l1Once_any c _ _ R.cur (by omega))
            rintro e w11 ⟨b2, rfl, hcw11, gw11⟩
            replace R := R.draw gw11 hcw11
            clear c4 f4
            cases b2
            · go_wp2_with fail
              go_roundw
              case rel => exact ⟨k - 1, _, by rw [show ((k - 1 : Nat) : Int) = (k : Int) - 1 by omega], by omega, R⟩
              case measure => simp [intOf]; omega
            · go_wp2_with fail
              go_fit (l1Below_any c _ _ R.cur (by omega))
              rintro e w12 ⟨x, ⟨hx0, hx1⟩, rfl, hcw12, gw12⟩
              replace R := R.draw gw12 hcw12
              go_wp2_with fail
              go_fit (l1Below_any c _ _ R.cur (by omega))
              rintro e w13 ⟨y, ⟨hy0, hy1⟩, rfl, hcw13, gw13⟩
              replace R := R.draw gw13 hcw13
              go_wp2_with fail
              go_fit (l1Below_any c _ _ R.cur (by omega))
              rintro e w14 ⟨z, ⟨hz0, hz1⟩, rfl, hcw14, gw14⟩
              replace R := R.draw gw14 hcw14
              have I := IS.three (base := w14.heap.size) w14 x y z (Nat.le_refl _)
              obtain ⟨v, raw, hB⟩ := R.box
              have hbl := hB.lt
              have HRB : Hid (∀ k, HasB raw k → k < w14.heap.size) := fun k ⟨i, hi, e⟩ => (hB.od.in i hi k e).2
              have hB1 := hB.kept (galloc (grefl w14) (.cells #[.int .i64 x, .int .i64 y, .int .i64 z] 2))
              replace R := R.kept (galloc (grefl w14) (.cells #[.int .i64 x, .int .i64 y, .int .i64 z] 2))
              have hcl := R.hc
              have hbl2 := R.hb
              have hcw := hB.lt
              clear hB
              go_wp2_with fail
              go_fit (l1Below_any c _ _ R.cur (by omega))
              rintro e w15 ⟨u, ⟨hu0, hu1⟩, rfl, hcw15, gw15⟩
              replace R := R.draw gw15 hcw15
              have hB2 := hB1.drawn gw15 (by omega) (by omega)
              have I2 := Own.kept I gw15 (.inr (by simp [Value.ownBlock]; omega))
              go_wp2_with fail
              go_fit (l11Fall_any b _ a v raw _ [x, y, z] u _ hB2 R.good.ds (Own.rd I2) (fun k e => by cases e; exact ⟨by show w14.heap.size ≠ b; omega, fun hh => by have := HRB.out _ hh; simp at this⟩) (by have := R.good.next; omega))
              rintro e w16 ⟨rfl, hx, o⟩
              replace R := R.did o hx (R.good.fell [x, y, z] u)
              clear hB1 hB2 I I2
              go_wp2_with fail
              go_roundw
              case rel => exact ⟨k - 1, _, by rw [show ((k - 1 : Nat) : Int) = (k : Int) - 1 by omega], by omega, R⟩
              case measure => simp [intOf]; omega
      · go_wp2_with fail
        obtain ⟨v, raw, hB⟩ := R.box
        go_fit (l11Assemble_any b _ a v raw _ hB R.size R.good.ds (by have := R.good.log; omega))
        rintro e w12 ⟨rfl, hx, o⟩
        replace R := R.did o hx (R.good.assembled)
        clear hB v raw
        generalize a.assembled = a1 at *
        go_wp2_with fail
        go_fit (l1Below_any c _ _ R.cur (by omega))
        rintro e w13 ⟨x, ⟨hx0, hx1⟩, rfl, hcw13, gw13⟩
        replace R := R.draw gw13 hcw13
        go_wp2_with fail
        obtain ⟨v, raw, hB⟩ := R.box
        go_fit (l10Replace_any b _ a1 v raw x _ hB R.good.ds.rows)
        rintro e w14 ⟨rfl, hx, o⟩
        replace R := R.did o hx (R.good.replacedZ x)
        clear hB v raw
        generalize a1.replacedZ x = a2 at *
        go_wp2_with fail
        go_fit (l1Below_any c _ _ R.cur (by omega))
        rintro e w15 ⟨y, ⟨hy0, hy1⟩, rfl, hcw15, gw15⟩
        replace R := R.draw gw15 hcw15
        go_wp2_with fail
        obtain ⟨v, raw, hB⟩ := R.box
        go_fit (l10Heal_any b _ a2 v raw y _ hB (by have := R.good.ds.1; omega))
        rintro e w16 ⟨rfl, hx, o⟩
        replace R := R.did o hx (R.good.healed y)
        clear hB v raw
        go_wp2_with fail
        go_roundw
        case rel => exact ⟨k - 1, _, by rw [show ((k - 1 : Nat) : Int) = (k : Int) - 1 by omega], by omega, R⟩
        case measure => simp [intOf]; omega
    · obtain rfl : k = 0 := by omega
      obtain ⟨v, raw, hB⟩ := R.box
      obtain ⟨ca0, f0⟩ := hB.c0
      obtain ⟨ca1, f1⟩ := hB.c1
      obtain ⟨ca2, f2⟩ := hB.c2
      obtain ⟨ca3, f3⟩ := hB.c3
      obtain ⟨ca4, f4⟩ := hB.c4
      obtain ⟨va, vn, vc, rfl⟩ := hB.od.own.sl
      obtain ⟨⟨z0, y0⟩, ⟨z1, y1⟩, ⟨z2, y2⟩, ⟨z3, y3⟩, ⟨z4, y4⟩⟩ := R.zero
      have hno := hB.od.not_old (r := w.heap.size) (by omega)
      have hfin : DrawnA c w (.returned (a.val (.slice va vn vc))) (set5 wr w.heap.size (.slice va vn vc) (.string (str a.log)) (.string (str a.next)) (.int .i64 a.stage) (.bool a.up)) :=
        ⟨a, _, raw, rfl, R.good, (hB.od.set5 hno.1 hno.2 _ _ _ _ _).lower (by omega), ((((R.cur.set R.hc _ _).set R.hc _ _).set R.hc _ _).set R.hc _ _).set R.hc _ _, gset1 (gset1 (gset1 (gset1 (gset1 R.grew (Nat.le_refl _) _ _) (Nat.le_refl _) _ _) (Nat.le_refl _) _ _) (Nat.le_refl _) _ _) (Nat.le_refl _) _ _⟩
      clear hB R
      go_wp2_with fail
      exact bodyPost_ret (v := a.val (.slice va vn vc)) (by simp [results, Tryz.results42, go_sem, z0, z1, z2, z3, z4]) rfl hfin
end Go.Proofs.YtfodjokcobljmaaGreat
namespace Go.Proofs.YtfodjokcobljmaaGreat
open Go.ChangeShapes Go.WideShapes Go.ChangeAt Go.RowKit

section
variable {w w1 : World} {base n cap g : Nat} {l : List DZ} {raw : List DV}
/-- disk i is replaced by a disk of memory that is no other's -/
theorem OD.put4 (h : OD w base (.slice (some ⟨g, 0, none⟩) n cap) l raw) (i : Nat) (hi : i < raw.length) (r : DV) (d : DZ) (hd : r.Is w base d) (hs : Apart r.kv r.nv) (hnew : ∀ k, r.has k → k ≠ g ∧ ∀ j (hj : j < raw.length), ¬ raw[j].has k) :
    OD (set4At w g (i * 4) (.int .i64 r.n) (.bool r.dead) r.kv r.nv) base (.slice (some ⟨g, 0, none⟩) n cap) (l.set i d) (raw.set i r) :=
  h.upd i hi r d (own_set4 h.own i hi r) ⟨hd.n, hd.dead, Own.same hd.isD.1 (fun k e => set4At_block _ _ _ k _ _ _ _ (hnew k (.inl e)).1), Own.same hd.isD.2 (fun k e => set4At_block _ _ _ k _ _ _ _ (hnew k (.inr e)).1)⟩ hs
    (fun k hk => ⟨fun e => (hnew k hk).1 (by cases e; rfl), fun j hj _ => (hnew k hk).2 j hj⟩)
    (fun j hj k _ x => set4At_block _ _ _ k _ _ _ _ (fun e => h.out j hj k x (by rw [e]; rfl)))
/-- the cursor moves on -/
theorem OD.drawn {v : Value} {c : Nat} (h : OD w base v l raw) (g1 : w.grownBy w1 (some c)) (hc : c < base) : OD w1 base v l raw := by
  have hno := h.not_old (r := c) hc
  have hs : ∀ k, k ≠ c → k < w.heap.size → w1.heap[k]? = w.heap[k]? := fun k hk hl => g1.block k hl (by intro e; cases e; exact hk rfl)
  exact ⟨Own.same h.own (fun k e => hs k (fun x => hno.1 (by rw [← x]; exact e)) (h.own.lt k e).2), h.len, fun i p q => ⟨(h.is i p q).n, (h.is i p q).dead, Own.same (h.is i p q).isD.1 (fun k e => hs k (fun x => hno.2 i p (by rw [← x]; exact .inl e)) (h.in i p k (.inl e)).2), Own.same (h.is i p q).isD.2 (fun k e => hs k (fun x => hno.2 i p (by rw [← x]; exact .inr e)) (h.in i p k (.inr e)).2)⟩, h.self, h.ap, h.out⟩
/-- without its first disk -/
theorem OD.rest (h : OD w base (.slice (some ⟨g, 0, none⟩) n cap) l raw) (hn : 1 ≤ l.length) (a : Option Addr) (ha : 1 < l.length → a = some ⟨g, 4, none⟩) : LD w (.slice a (n - 1) (cap - 1)) (l.drop 1) := by
  have hl := h.len
  obtain ⟨a', cap', e1, hcap, hcm, h4⟩ := h.own.rd
  cases e1
  have hlr : (raw.drop 1).length = raw.length - 1 := by simp
  refine ⟨raw.drop 1, ⟨a, cap - 1, by rw [hlr], by rw [hlr]; omega, by omega, ?_⟩, by simp; omega, fun i hi hi' => ?_⟩
  · by_cases h1 : 1 < l.length
    · rcases h4 with h4 | ⟨g', o, e2, hb, hc⟩
      · rw [h4] at hl; simp at hl; omega
      · cases e2
        refine .inr ⟨g, 4, ha h1, hb, fun j u hj => ?_⟩
        have := hc (j + 4) u (by
          match raw, hl with
          | x :: r, _ =>
            simp only [List.drop_succ_cons, List.drop_zero] at hj
            have e : diskE.all (x :: r) = diskE.enc x ++ diskE.all r := rfl
            rw [e, List.getElem?_append_right (by rw [diskE.len]; show 4 ≤ _; omega), diskE.len]
            rw [show diskE.size = 4 from rfl, Nat.add_sub_cancel]; exact hj)
        rw [show 4 + j = 0 + (j + 4) by omega]; exact this
    · left
      apply List.eq_nil_of_length_eq_zero
      rw [hlr]; omega
  · simp at hi hi'
    have := h.is (1 + i) (by omega) (by omega)
    rw [List.getElem_drop, List.getElem_drop]
    exact ⟨this.n, this.dead, this.isD.1.lower (Nat.zero_le _), this.isD.2.lower (Nat.zero_le _)⟩
end
/-- a drawn list of disks -/
def DrawnLD (c : Nat) (w : World) (e : Ending) (w' : World) : Prop :=
  ∃ (l : List DZ) (v : Value), e = .returned v ∧ (∀ w2, w'.grownBy w2 (some c) → LD w2 v l) ∧ l.length ≤ 5 ∧ Cur w' c ∧ w.grownBy w' (some c)
set_option maxRecDepth 8000 in
set_option maxHeartbeats 4000000 in
theorem l6DrawAny_any (c : Nat) (w : World) (hc : Cur w c) :
    Calls Tryz.prog 22 #[.pointer (some ⟨c, 0, none⟩)] w (DrawnLD c w) := by
  have hlt := hc.lt
  go_enter Tryz.func22, Tryz.ntmps22
  go_wp2_with fail
  go_fit (l9Draw_any c _ hc)
  rintro e w1 ⟨a, v1, raw1, rfl, A1, O1, C1, g1⟩
  obtain ⟨va, vn, vc, rfl⟩ := O1.own.sl
  dsimp only [AZ.val]
  have hfld : (Instr.field 63 (.agg #[.slice va vn vc, .string (str a.log), .string (str a.next), .int .i64 a.stage, .bool a.up]) 0).run Tryz.prog w1 = .ok (.slice va vn vc) w1 := by first | kernel_rfl | rfl | simp [Instr.field, go_sem]
  go_wp2_with fail
  go_fit (l6Copy_any _ a.ds _ O1.ld (by have := A1.ds.1; omega) (fun i h => by have := A1.ds.2 _ (List.getElem_mem h); omega))
  rintro e w2 ⟨v2, raw2, rfl, O2, g2⟩
  have hl5 := A1.ds.1
  have hl1 : 1 ≤ a.ds.length := A1.pos
  have C2 := C1.kept g2 (by simp)
  have G2 := gtrans g1 (gweak g2 (some c))
  have hb : w.heap.size ≤ w1.heap.size := g1.size
  have HB : Hid (c < w1.heap.size) := by show _ < _; omega
  clear A1 O1 C1 g1 g2
  generalize a.ds = L at *
  generalize w1.heap.size = B at *
  obtain ⟨oa, oc, rfl, -⟩ := O2.form
  have hoc : L.length ≤ oc := by
    obtain ⟨a', cap', e1, hcap, -⟩ := O2.own.rd
    injection e1 with _ _ e3
    rw [O2.len] at hcap
    omega
  go_wp2_with fail
  go_fit (l1Once_any c _ _ C2 (by omega))
  rintro e w3 ⟨b1, rfl, C3, g3⟩
  replace O2 := O2.drawn g3 HB.out
  have G3 := gtrans G2 g3
  clear C2 G2 g3
  cases b1
  · go_wp2_with fail
    go_ret
    exact ⟨L, _, rfl, fun w2 g2 => (O2.drawn g2 HB.out).ld, hl5, C3, G3⟩
  · have hpos : (0 : Int) < L.length := by omega
    go_wp2_with fail
    go_fit (l1Below_any c _ _ C3 (by omega))
    rintro e w4 ⟨x, ⟨hx0, hx1⟩, rfl, C4, g4⟩
    replace O2 := O2.drawn g4 HB.out
    have G4 := gtrans G3 g4
    clear C3 G3 g4
    obtain ⟨i, rfl⟩ := Int.eq_ofNat_of_zero_le hx0
    have hil : i < L.length := by omega
    have hii : (i : Int) < L.length := by omega
    have hir : i < raw2.length := by rw [O2.len]; exact hil
    obtain ⟨g, e, hgB, hgl, -⟩ := O2.at i hir hil
    cases e
    go_wp2_with fail
    go_fit (l1Below_any c _ _ C4 (by omega))
    rintro e w5 ⟨q, ⟨hq0, hq1⟩, rfl, C5, g5⟩
    replace O2 := O2.drawn g5 HB.out
    have G5 := gtrans G4 g5
    clear C4 G4 g5 hgl
    rcases (show q = 0 ∨ q = 1 ∨ q = 2 by omega) with rfl | rfl | rfl
    · go_wp2_with fail
      go_fit (l3Draw_any c _ C5)
      rintro e w6 ⟨d, kv, nv, rfl, I6, ap6, -, -, C6, g6⟩
      obtain ⟨ka, km, kc, rfl⟩ := I6.1.sl
      obtain ⟨na, nm, nc, rfl⟩ := I6.2.sl
      have hb5 : B ≤ w5.heap.size := by have := (O2.own.lt g rfl); omega
      have O6 := O2.drawn g6 HB.out
      obtain ⟨g', e', -, -, ⟨t0, r0⟩, ⟨t1, r1⟩, ⟨t2, r2⟩, ⟨t3, r3⟩⟩ := O6.at i hir hil
      cases e'
      have hgl : g < w5.heap.size := (O2.own.lt g rfl).2
      have O7 := O6.put4 i hir ⟨d.n, d.dead, ka, km, kc, na, nm, nc⟩ d ⟨rfl, rfl, ⟨Own.lower I6.1 hb5, Own.lower I6.2 hb5⟩⟩ ap6 (fun k hk => by
        have hk5 : w5.heap.size ≤ k := by rcases hk with hk | hk; exact (Own.lt I6.1 k hk).1; exact (Own.lt I6.2 k hk).1
        exact ⟨by omega, fun j hj x => by have := (O2.in j hj k x).2; omega⟩)
      have C7 : Cur (set4At w6 g (i * 4) (.int .i64 d.n) (.bool d.dead) (.slice ka km kc) (.slice na nm nc)) c := (((C6.set (by omega) _ _).set (by omega) _ _).set (by omega) _ _).set (by omega) _ _
      have G7 : w.grownBy (set4At w6 g (i * 4) (.int .i64 d.n) (.bool d.dead) (.slice ka km kc) (.slice na nm nc)) (some c) := gset1 (gset1 (gset1 (gset1 (gtrans G5 g6) (by omega) _ _) (by omega) _ _) (by omega) _ _) (by omega) _ _
      clear O2 O6 I6 C6 g6 C5 G5
      go_wp2_with fail
      go_ret
      exact ⟨_, _, rfl, fun w2 g2 => (O7.drawn g2 HB.out).ld, by simpa using hl5, C7, G7⟩
    · go_wp2_with fail
      go_fit (l1DrawDisk_any c _ C5)
      rintro e w6 ⟨u, hu, rfl, C6, g6⟩
      have O6 := O2.drawn g6 HB.out
      obtain ⟨g', e', -, -, ⟨t0, r0⟩, -⟩ := O6.at i hir hil
      cases e'
      have O7 := O6.setNum i hir hil u
      have C7 := C6.set (r := g) (by omega) (i * 4) (.int .i64 u)
      have G7 := gset1 (gtrans G5 g6) (c := g) (by omega) (i * 4) (.int .i64 u)
      clear O2 O6 C6 g6 C5 G5
      go_wp2_with fail
      go_ret
      exact ⟨_, _, rfl, fun w2 g2 => (O7.drawn g2 HB.out).ld, by simpa using hl5, C7, G7⟩
    · have h1i : (1 : Int) ≤ L.length := by omega
      have h1n : 1 ≤ L.length := by omega
      by_cases ho1 : oc = 1
      · have hR := fun w2 (g2 : w5.grownBy w2 (some c)) => (O2.drawn g2 HB.out).rest (by omega) (some ⟨g, 0, none⟩) (fun h => by omega)
        have hL1 : L.length - 1 = 0 := by omega
        subst ho1
        rw [hL1] at hR
        go_wp2_with fail
        go_ret
        exact ⟨L.drop 1, _, rfl, hR, by simp; omega, C5, G5⟩
      · have hR := fun w2 (g2 : w5.grownBy w2 (some c)) => (O2.drawn g2 HB.out).rest (by omega) (some ⟨g, 4, none⟩) (fun _ => rfl)
        go_wp2_with fail
        go_ret
        exact ⟨L.drop 1, _, rfl, hR, by simp; omega, C5, G5⟩
theorem drawBadIn_any (a : Option Addr) (len cap : Nat) (w : World) (hR : CodeAt w a len) :
    Calls Tryz.prog 7 #[.slice a len cap] w fun e w' => ∃ (l : List DZ) (v : Value) (r : Int), e = .returned (.tuple #[v, .int .i64 r]) ∧ LD w' v l ∧ l.length ≤ 5 ∧ i64B r ∧ w.grownBy w' none := by
  go_enter Tryz.func7, Tryz.ntmps7
  go_wp2_with fail
  go_fit (l1New_any a len cap _ hR)
  rintro e w1 ⟨c, rfl, hlt, hc1, g1⟩
  go_wp2_with fail
  go_fit (l6DrawAny_any c _ hc1)
  rintro e w2 ⟨l, v, rfl, hL, h5, hc2, g2⟩
  obtain ⟨va, vc, rfl, -⟩ := (hL w2 (World.grownBy.refl _ _)).form
  go_wp2_with fail
  go_fit (l1DrawPlace_any c _ hc2)
  rintro e w3 ⟨r, hr, rfl, hc3, g3⟩
  go_wp2_with fail
  go_ret2
  exact ⟨l, _, r, rfl, hL _ g3, h5, hr, gfresh g1 hlt (gtrans g2 g3)⟩
theorem drawCellAt_any (a : Option Addr) (len cap : Nat) (w : World) (hR : CodeAt w a len) :
    Calls Tryz.prog 5 #[.slice a len cap] w fun e w' => ∃ (l : List DZ) (v : Value) (d r : Int), e = .returned (.tuple #[v, .int .i64 d, .int .i64 r]) ∧ LD w' v l ∧ l.length ≤ 5 ∧ i64B d ∧ i64B r ∧ w.grownBy w' none := by
  go_enter Tryz.func5, Tryz.ntmps5
  go_wp2_with fail
  go_fit (l1New_any a len cap _ hR)
  rintro e w1 ⟨c, rfl, hlt, hc1, g1⟩
  go_wp2_with fail
  go_fit (l6DrawAny_any c _ hc1)
  rintro e w2 ⟨l, v, rfl, hL, h5, hc2, g2⟩
  obtain ⟨va, vc, rfl, -⟩ := (hL w2 (World.grownBy.refl _ _)).form
  go_wp2_with fail
  go_fit (l1DrawDisk_any c _ hc2)
  rintro e w3 ⟨d, ⟨hd0, hd1⟩, rfl, hc3, g3⟩
  go_wp2_with fail
  go_fit (l1DrawPlace_any c _ hc3)
  rintro e w4 ⟨r, hr, rfl, hc4, g4⟩
  go_wp2_with fail
  go_ret3
  exact ⟨l, _, d, r, rfl, hL _ (gtrans g3 g4), h5, ⟨by omega, by omega⟩, hr, gfresh g1 hlt (gtrans g2 (gtrans g3 g4))⟩
end Go.Proofs.YtfodjokcobljmaaGreat
