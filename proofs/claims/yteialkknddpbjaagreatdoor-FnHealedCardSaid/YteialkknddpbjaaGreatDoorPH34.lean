/- What the specification's l11Die does. What the specification's l10Heal does. What the specification's l10Replace does. -/
import Derived.Test.YteialkknddpbjaaGreatDoorPH11
import Derived.Test.YteialkknddpbjaaGreatDoorPH28
import Derived.Test.YteialkknddpbjaaGreatDoorPH32
namespace Go.Proofs.YteialkknddpbjaaGreatDoor
open Go.ChangeShapes Go.WideShapes Go.ChangeAt Go.RowKit

def aliveN (l : List DZ) : Nat := (l.filter fun d => !d.dead).length
theorem alive_yes {l : List DZ} {k : Nat} (h : k < l.length) (hd : l[k].dead = false) : aliveN (l.take (k + 1)) = aliveN (l.take k) + 1 := by
  unfold aliveN
  rw [List.take_succ_eq_append_getElem h, List.filter_append]; simp [hd]
theorem alive_no {l : List DZ} {k : Nat} (h : k < l.length) (hd : l[k].dead = true) : aliveN (l.take (k + 1)) = aliveN (l.take k) := by
  unfold aliveN
  rw [List.take_succ_eq_append_getElem h, List.filter_append]; simp [hd]
theorem alive_le (l : List DZ) : aliveN l ≤ l.length := List.length_filter_le _ _
def dieOk (a : AZ) (d : Int) : Bool := decide (0 ≤ d ∧ d < a.ds.length) && (!(a.ds.getD d.toNat .zero).dead && decide (2 ≤ aliveN a.ds))
def AZ.dies (a : AZ) (d : Int) : AZ := if dieOk a d then { a with ds := a.ds.set d.toNat (a.ds.getD d.toNat .zero).died } else a
theorem die_no {a : AZ} {d : Int} (h : dieOk a d = false) : a.dies d = a := by simp [AZ.dies, h]
/-- one disk of an array is replaced by a disk of new memory -/
theorem ABox.replaced {w w1 : World} {b B n cap g : Nat} {a : AZ} {raw : List DV} (h : ABox w b B a (.slice (some ⟨g, 0, none⟩) n cap) raw) (i : Nat) (hi : i < raw.length) (r : DV) (d : DZ) (g1 : w.grownBy w1 none) (hd : r.Is w1 B d) (hs : Apart r.kv r.nv) (hnew : ∀ k, r.has k → w.heap.size ≤ k) :
    ABox (set4At w1 g (i * 4) (.int .i64 r.n) (.bool r.dead) r.kv r.nv) b B { a with ds := a.ds.set i d } (.slice (some ⟨g, 0, none⟩) n cap) (raw.set i r) := by
  have hgb : g ≠ b := fun e => h.vb (by rw [e]; rfl)
  have far : ∀ {o : Nat} {u : Value}, At w1 b o u → At (set4At w1 g (i * 4) (.int .i64 r.n) (.bool r.dead) r.kv r.nv) b o u := fun q =>
    (((q.other (by intro e; cases e; exact hgb rfl) _).other (by intro e; cases e; exact hgb rfl) _).other (by intro e; cases e; exact hgb rfl) _).other (by intro e; cases e; exact hgb rfl) _
  refine ⟨far (gk g1 h.c0), far (gk g1 h.c1), far (gk g1 h.c2), far (gk g1 h.c3), far (gk g1 h.c4), h.od.replaced i hi r d g1 hd hs hnew, h.vb, fun j hj hk => ?_⟩
  simp only [List.length_set] at hj
  by_cases e : i = j
  · subst e
    simp only [List.getElem_set_self] at hk
    have := hnew b hk
    have := h.lt
    omega
  · simp only [List.getElem_set_ne e] at hk
    exact h.rb j hj hk
theorem died_nil (d : DZ) : d.died.k = [] ∧ d.died.m = [] := by unfold DZ.died; split <;> simp [DZ.zero]
set_option maxRecDepth 8000 in
set_option maxHeartbeats 4000000 in
theorem l11Die_any (b B : Nat) (a : AZ) (v : Value) (raw : List DV) (d : Int) (w : World) (h : ABox w b B a v raw) (hl : a.ds.length ≤ 1000) :
    Calls Tryz.prog 101 #[.pointer (some ⟨b, 0, none⟩), .int .i64 d] w (ADid b B (dieOk a d) (a.dies d) w) := by
  obtain ⟨va, vc, rfl, -⟩ := h.od.form
  obtain ⟨c0, f0⟩ := h.c0
  by_cases hd0 : d < 0
  · have HO : Hid (dieOk a d = false) := by show _ = _; rw [dieOk, decide_eq_false (by omega)]; rfl
    have HA := Lib.hid (die_no HO.out)
    go_enter Tryz.func101, Tryz.ntmps101
    go_wp2_with fail
    go_ret
    exact ⟨ret_bool HO.out.symm, ⟨_, _, by rw [HA.out]; exact h⟩, Only.refl _ _⟩
  by_cases hd1 : (a.ds.length : Int) ≤ d
  · have HO : Hid (dieOk a d = false) := by show _ = _; rw [dieOk, decide_eq_false (by omega)]; rfl
    have HA := Lib.hid (die_no HO.out)
    go_enter Tryz.func101, Tryz.ntmps101
    go_wp2_with fail
    go_ret
    exact ⟨ret_bool HO.out.symm, ⟨_, _, by rw [HA.out]; exact h⟩, Only.refl _ _⟩
  obtain ⟨i, rfl⟩ := Int.eq_ofNat_of_zero_le (show 0 ≤ d by omega)
  have hil : i < a.ds.length := by omega
  have hii : (i : Int) < a.ds.length := by omega
  have hir : i < raw.length := by rw [h.od.len]; exact hil
  have hgi : a.ds.getD i .zero = a.ds[i] := getD_at hil
  obtain ⟨g, e, hgB, hgl, t0, t1, t2, t3⟩ := h.od.at i hir hil
  cases e
  obtain ⟨q0, r0⟩ := t0
  obtain ⟨q1, r1⟩ := t1
  obtain ⟨q2, r2⟩ := t2
  obtain ⟨q3, r3⟩ := t3
  cases hdd : a.ds[i].dead
  rotate_left
  · have HO : Hid (dieOk a i = false) := by show _ = _; rw [dieOk, Int.toNat_natCast, hgi, hdd]; simp
    have HA := Lib.hid (die_no HO.out)
    rw [hdd] at q1
    go_enter Tryz.func101, Tryz.ntmps101
    go_wp2_with fail
    go_ret
    exact ⟨ret_bool HO.out.symm, ⟨_, _, by rw [HA.out]; exact h⟩, Only.refl _ _⟩
  rw [hdd] at q1
  have HI := (h.od.is i hir hil).isD
  have HI0 : IsD w 0 raw[i].kv raw[i].nv a.ds[i] := ⟨HI.1.lower (Nat.zero_le _), HI.2.lower (Nat.zero_le _)⟩
  have HOn : Hid (aliveN a.ds < 2 → dieOk a i = false) := fun e => by rw [dieOk, decide_eq_false (show ¬ 2 ≤ aliveN a.ds by omega)]; simp
  have HOy : Hid (2 ≤ aliveN a.ds → dieOk a i = true ∧ a.dies i = { a with ds := a.ds.set i a.ds[i].died }) := fun e => by
    have q : dieOk a i = true := by rw [dieOk, Int.toNat_natCast, hgi, hdd, decide_eq_true e, decide_eq_true (by omega)]; rfl
    exact ⟨q, by simp only [AZ.dies, q, if_true, Int.toNat_natCast, hgi]⟩
  have HAt : Hid (aliveN (a.ds.take a.ds.length) = aliveN a.ds) := by show _ = _; rw [List.take_length]
  have HAl := fun k => alive_le (a.ds.take k)
  go_enter Tryz.func101, Tryz.ntmps101
  go_wp2_with fail
  go_loop [5, 6] (fun c i => ∃ k : Nat, k ≤ a.ds.length ∧ i = .int .i64 k ∧ c = .int .i64 (aliveN (a.ds.take k))) (fun _ i => a.ds.length - (intOf i).toNat)
  case atStart => exact ⟨0, Nat.zero_le _, rfl, rfl⟩
  case round =>
    obtain ⟨k, hk, rfl, rfl⟩ := hrel
    by_cases hlt : k < a.ds.length
    · have hki : (k : Int) < a.ds.length := by omega
      have hkr : k < raw.length := by rw [h.od.len]; exact hlt
      obtain ⟨g', e', -, -, -, ⟨s1, -⟩, -⟩ := h.od.at k hkr hlt
      cases e'
      have hal : aliveN (a.ds.take k) ≤ 1000 := by have := HAl k; simp at this; omega
      cases hkd : a.ds[k].dead
      · have HN := Lib.hid (alive_yes hlt hkd)
        rw [hkd] at s1
        go_wp2_with fail
        go_round
        case rel => exact ⟨k + 1, by omega, by go_num, by rw [HN.out]; rfl⟩
        case measure => simp [intOf]; omega
      · have HN := Lib.hid (alive_no hlt hkd)
        rw [hkd] at s1
        go_wp2_with fail
        go_round
        case rel => exact ⟨k + 1, by omega, by go_num, by rw [HN.out]⟩
        case measure => simp [intOf]; omega
    · obtain rfl : k = a.ds.length := by omega
      rw [HAt.out]
      by_cases h2 : aliveN a.ds < 2
      · have h2i : (aliveN a.ds : Int) < 2 := by omega
        have HO := Lib.hid (HOn.out h2)
        have HA := Lib.hid (die_no HO.out)
        go_wp2_with fail
        go_ret
        exact ⟨ret_bool HO.out.symm, ⟨_, _, by rw [HA.out]; exact h⟩, Only.refl _ _⟩
      · have h2i : ¬ (aliveN a.ds : Int) < 2 := by omega
        have HY := Lib.hid (HOy.out (by omega))
        have HDn := died_nil a.ds[i]
        have HH := Lib.hid h
        have hkv : raw[i].kv = .slice raw[i].ka raw[i].km raw[i].kc := rfl
        have hnv : raw[i].nv = .slice raw[i].na raw[i].nm raw[i].nc := rfl
        rw [hkv] at q2
        rw [hnv] at q3
        have HD := specDied_pure raw[i].kv raw[i].nv a.ds[i] (w.drewN 1) (by exact HI0)
        rw [hdd, hkv, hnv] at HD
        have HF : Hid (∀ w1, (w.drewN 1).grownBy w1 none → ADid b B (dieOk a i) (a.dies i) w (.returned (.bool true)) (set4At w1 g (i * 4) (.int .i64 a.ds[i].died.n) (.bool a.ds[i].died.dead) (.slice none 0 0) (.slice none 0 0))) := fun w1 g1 => by
          have g1' : w.grownBy w1 none := gtrans (gdrew (grefl w) 1) g1
          have hR := HH.out.replaced i hir ⟨a.ds[i].died.n, a.ds[i].died.dead, none, 0, 0, none, 0, 0⟩ a.ds[i].died g1' ⟨rfl, rfl, ⟨by rw [HDn.1]; exact CS.nil _ _, by rw [HDn.2]; exact CS.nil _ _⟩⟩ (.inl rfl) (fun k hk => by rcases hk with hk | hk <;> cases hk)
          refine ⟨by rw [HY.out.1], ⟨_, _, by rw [HY.out.2]; exact hR⟩, (only_grew g1').trans (Only.of (gset4At (World.grownBy.refl w1 (some g)) _ _ _ _) (fun k e => by cases e; exact .inr hgB))⟩
        clear h HI HI0 HAl HOn HOy
        go_wp2_with fail
        go_region_with (first | (go_at_call 165; go_fit HD; rintro e w2 ⟨rfl, g2⟩; have g2' : w.grownBy w2 none := gtrans (gdrew (grefl w) 1) g2; have c0' := gkc g2' c0; obtain ⟨q0', r0'⟩ := gk g2' ⟨q0, r0⟩; obtain ⟨q1', r1'⟩ := gk g2' ⟨q1, r1⟩; obtain ⟨q2', r2'⟩ := gk g2' ⟨q2, r2⟩; obtain ⟨q3', r3'⟩ := gk g2' ⟨q3, r3⟩))
        all_goals
          go_wp2_with fail
          go_ret
          exact HF.out _ g2
end Go.Proofs.YteialkknddpbjaaGreatDoor
namespace Go.Proofs.YteialkknddpbjaaGreatDoor
open Go.ChangeShapes Go.WideShapes Go.ChangeAt Go.RowKit

def badAt (a : AZ) (r : Int) : Nat := ((badZ a.ds r).getD 0 0).toNat
def healGo (a : AZ) (r : Int) : Bool := a.up && (decide (0 ≤ r ∧ r < rowsZ a.ds) && (decide ((badZ a.ds r).length = 1) && !(a.ds.getD (badAt a r) .zero).dead))
def healOk (a : AZ) (r : Int) : Bool := healGo a r && (a.ds.getD (badAt a r) .zero).may r (tellV a.ds (badAt a r) r)
def AZ.healed (a : AZ) (r : Int) : AZ := if healGo a r then { a with ds := a.ds.set (badAt a r) ((a.ds.getD (badAt a r) .zero).put r (tellV a.ds (badAt a r) r)) } else a
theorem heal_no {a : AZ} {r : Int} (h : healGo a r = false) : healOk a r = false ∧ a.healed r = a := by simp [AZ.healed, healOk, h]
theorem badZ_at {l : List DZ} {r : Int} (i : Nat) (h : i < (badZ l r).length) : ∃ j : Nat, j < l.length ∧ (badZ l r)[i] = j := by
  have := List.getElem_mem h
  unfold badZ badL at this
  simp only [List.mem_map, List.mem_filter, List.mem_range] at this
  obtain ⟨j, ⟨h1, -⟩, h2⟩ := this
  exact ⟨j, h1, h2.symm⟩
abbrev HlS (w' : World) (b : Nat) (v : Value) (bg : Nat) (j : Int) (g o : Nat) (dd : Bool) : Prop := w'.cell? ⟨b, 0, none⟩ = some v ∧ w'.cell? ⟨bg, 0, none⟩ = some (.int .i64 j) ∧ w'.cell? ⟨g, o, none⟩ = some (.bool dd)
theorem HlS.drew {w' : World} {b : Nat} {v : Value} {bg : Nat} {j : Int} {g o : Nat} {dd : Bool} (s : HlS w' b v bg j g o dd) : HlS w'.drew b v bg j g o dd := s
theorem HlS.grew {w' w2 : World} {b : Nat} {v : Value} {bg : Nat} {j : Int} {g o : Nat} {dd : Bool} {r : Option Nat} (s : HlS w' b v bg j g o dd) (k : w'.grownBy w2 r) (h1 : r ≠ some b) (h2 : r ≠ some bg) (h3 : r ≠ some g) : HlS w2 b v bg j g o dd := by
  have q : ∀ {c o : Nat} {u : Value}, r ≠ some c → w'.cell? ⟨c, o, none⟩ = some u → w2.cell? ⟨c, o, none⟩ = some u := fun hc e => (World.cell?_of_block (w := w') (k.block _ (cell_lt e) (fun x => hc x.symm))).trans e
  exact ⟨q h1 s.1, q h2 s.2.1, q h3 s.2.2⟩
theorem HlS.only {S : Nat → Prop} {w' w2 : World} {b : Nat} {v : Value} {bg : Nat} {j : Int} {g o : Nat} {dd : Bool} (s : HlS w' b v bg j g o dd) (k : Only S w' w2) (h1 : ¬ S b) (h2 : ¬ S bg) (h3 : ¬ S g) : HlS w2 b v bg j g o dd :=
  ⟨only_cell s.1 k h1, only_cell s.2.1 k h2, only_cell s.2.2 k h3⟩
theorem ABox.disksQ {w w' : World} {b B : Nat} {a : AZ} {v : Value} {raw : List DV} {l : List DZ} {r : Option Nat} (h : ABox w b B a v raw) (g : w.grownBy w' r) (hr : r ≠ some b) (hd : OD w' B v l raw) : ABox w' b B { a with ds := l } v raw :=
  ⟨gkr g hr h.c0, gkr g hr h.c1, gkr g hr h.c2, gkr g hr h.c3, gkr g hr h.c4, hd, h.vb, h.rb⟩
set_option maxRecDepth 8000 in
set_option maxHeartbeats 4000000 in
theorem l10Heal_any (b B : Nat) (a : AZ) (v : Value) (raw : List DV) (r : Int) (w : World) (h : ABox w b B a v raw) (hl : a.ds.length ≤ 1000) :
    Calls Tryz.prog 77 #[.pointer (some ⟨b, 0, none⟩), .int .i64 r] w (ADid b B (healOk a r) (a.healed r) w) := by
  obtain ⟨va, vc, rfl, -⟩ := h.od.form
  obtain ⟨c0, f0⟩ := h.c0
  obtain ⟨c4, f4⟩ := h.c4
  have HN0 := fun (e : healGo a r = false) (w' : World) (g : w.grownBy w' none) => (show ADid b B (healOk a r) (a.healed r) w (.returned (.bool false)) w' from ⟨by rw [(heal_no e).1], ⟨_, _, by rw [(heal_no e).2]; exact h.kept g⟩, only_grew g⟩)
  cases hu : a.up
  · have HG := HN0 (by rw [healGo, hu]; rfl) w (grefl w)
    rw [hu] at c4
    go_enter Tryz.func77, Tryz.ntmps77
    go_wp2_with fail
    go_ret
    exact HG
  rw [hu] at c4
  by_cases hr0 : r < 0
  · have HG := HN0 (by rw [healGo, decide_eq_false (by omega)]; simp) w (grefl w)
    go_enter Tryz.func77, Tryz.ntmps77
    go_wp2_with fail
    go_ret
    exact HG
  by_cases hr1 : (rowsZ a.ds : Int) ≤ r
  · have HG := HN0 (by rw [healGo, decide_eq_false (by omega)]; simp) w (grefl w)
    go_enter Tryz.func77, Tryz.ntmps77
    go_wp2_with fail
    go_fit (l6Rows_any _ a.ds _ h.od.ld)
    rintro e w' ⟨rfl, rfl⟩
    go_wp2_with fail
    go_ret
    exact HG
  have hr2 : r < (rowsZ a.ds : Int) := by omega
  go_enter Tryz.func77, Tryz.ntmps77
  go_wp2_with fail
  go_fit (l6Rows_any _ a.ds _ h.od.ld)
  rintro e w' ⟨rfl, rfl⟩
  go_wp2_with fail
  go_fit (l6Bad_any _ a.ds r _ h.od.ld (by omega))
  rintro e w1 ⟨bv, rfl, C1, g1⟩
  have h1 := h.kept g1
  obtain ⟨ba, bn, bc, rfl⟩ := C1.sl
  have hbn : bn = (badZ a.ds r).length := C1.bound.1
  have hlb : w.heap.size ≤ w1.heap.size := g1.size
  clear c0 f0 c4 f4
  by_cases hb1 : bn = 1
  rotate_left
  · have HG : ∀ w', w1.grownBy w' none → _ := fun w' g' => HN0 (by rw [healGo, decide_eq_false (show ¬ (badZ a.ds r).length = 1 by omega)]; simp) w' (gtrans g1 g')
    have hbne : ((bn : Int) != 1) = true := bne_iff_ne.2 (by omega)
    clear hbn hb1 HN0
    go_wp2_with fail
    refine region_calm (fun w' => w1.grownBy w' none) (by kernel_rfl) (by kernel_rfl) (gdrew (grefl _) 1) ?_
    repeat (first
      | (refine calm_skip (by rfl) ?_; simp only [Act.put, List.setIfInBounds_toArray, List.set_cons_zero, List.set_cons_succ])
      | (refine calm_step (by rfl) ?_
         apply Exists.intro
         refine ⟨fun w' hw' => ?_, ?_⟩
         · go_simp
           first | done | exact rfl | (fail)
         simp only [Act.put, List.setIfInBounds_toArray, List.set_cons_zero, List.set_cons_succ]))
    refine calm_nil ?_
    intro w9 hw9
    go_wp2_with fail
    go_ret
    exact HG _ hw9
  subst hb1
  have hlen : 0 < (badZ a.ds r).length := by omega
  have HBN : Hid ((badZ a.ds r).length = 1) := hbn.symm
  clear hbn
  obtain ⟨bg, rfl, hbg, hbgl, ⟨x0, y0⟩⟩ := C1.at 0 hlen
  obtain ⟨j, hjl, hj⟩ := badZ_at (l := a.ds) (r := r) 0 hlen
  have hba : badAt a r = j := by unfold badAt; rw [List.getD_eq_getElem?_getD, List.getElem?_eq_getElem hlen, hj]; rfl
  rw [hj] at x0
  clear hj hlen C1
  have hji : (j : Int) < a.ds.length := by omega
  have hjr : j < raw.length := by rw [h.od.len]; exact hjl
  obtain ⟨g, e, hgB, hgl, t0, ⟨t1, u1⟩, t2, t3⟩ := h1.od.at j hjr hjl
  cases e
  have hgj : a.ds.getD j .zero = a.ds[j] := getD_at hjl
  obtain ⟨c0, f0⟩ := h1.c0
  cases hdd : a.ds[j].dead
  rotate_left
  · have HG := HN0 (by rw [healGo, hba, hgj, hdd]; simp) w1.drew (gdrew g1 1)
    rw [hdd] at t1
    have S0 : HlS w1 b _ bg j g (j * 4 + 1) true := ⟨c0, x0, t1⟩
    clear c0 x0 t1 HN0
    go_wp2_with fail
    go_region_held3 (fun w' => HlS w' b (.slice (some ⟨g, 0, none⟩) a.ds.length vc) bg j g (j * 4 + 1) true) (first | assumption | exact S0.drew) (fail)
    go_wp2_with fail
    go_ret
    exact HG
  have HGo : Hid (healGo a r = true) := by show _ = _; rw [healGo, hu, hba, hgj, hdd, decide_eq_true HBN.out, decide_eq_true (by omega)]; rfl
  have HOk : Hid (healOk a r = a.ds[j].may r (tellV a.ds j r)) := by show _ = _; rw [healOk, HGo.out, hba, hgj]; rfl
  have HHd : Hid (a.healed r = { a with ds := a.ds.set j (a.ds[j].put r (tellV a.ds j r)) }) := by show _ = _; simp only [AZ.healed, HGo.out, if_true, hba, hgj]
  rw [hdd] at t1
  have S0 : HlS w1 b _ bg j g (j * 4 + 1) false := ⟨c0, x0, t1⟩
  clear c0 x0 t1 HN0 HBN hba
  go_wp2_with fail
  go_region_held3 (fun w' => HlS w' b (.slice (some ⟨g, 0, none⟩) a.ds.length vc) bg j g (j * 4 + 1) false) (first | assumption | exact S0.drew) (fail)
  have h2 : ABox w1.drew b B a (.slice (some ⟨g, 0, none⟩) a.ds.length vc) raw := h1.kept (gdrew (grefl w1) 1)
  have S2 : HlS w1.drew b (.slice (some ⟨g, 0, none⟩) a.ds.length vc) bg j g (j * 4 + 1) false := S0.drew
  have g2 : w.grownBy w1.drew none := gdrew g1 1
  have hbgw : ¬ raw[j].has bg := fun e => by have := (h.od.in j hjr bg e).2; omega
  clear S0 h1 hbgl h g1 hlb
  go_wp2_with fail
  generalize w1.drew = W2 at *
  refine region_calm (fun w' => (w'.cell? ⟨b, 0, none⟩ = some (.slice (some ⟨g, 0, none⟩) a.ds.length vc) ∧ w'.cell? ⟨bg, 0, none⟩ = some (.int .i64 j) ∧ w'.cell? ⟨g, j * 4 + 1, none⟩ = some (.bool false)) ∧ W2.grownBy w' none) (by kernel_rfl) (by kernel_rfl) (⟨S2, gdrew (grefl _) 1⟩) ?_
  repeat (first
    | (refine calm_skip (by rfl) ?_; simp only [Act.put, List.setIfInBounds_toArray, List.set_cons_zero, List.set_cons_succ])
    | (refine calm_step (by rfl) ?_
       apply Exists.intro
       refine ⟨fun w' hw' => ?_, ?_⟩
       · go_simp
         first | done | exact rfl | (go_at_call 92; go_fit (l6Cell_any _ a.ds j r _ ((h2.kept hw'.2).od.ld) (by omega) hjl); rintro e w8 ⟨rfl, g8⟩; exact And.intro rfl (And.intro (HlS.grew hw'.1 g8 (by simp) (by simp) (by simp)) (gtrans hw'.2 g8)))
       simp only [Act.put, List.setIfInBounds_toArray, List.set_cons_zero, List.set_cons_succ]))
  refine calm_nil ?_
  intro w9 hw9
  obtain ⟨S3, g3⟩ := hw9
  have h3 := h2.kept g3
  have G3 := gtrans g2 g3
  clear S2 h2 g2 g3
  generalize tellV a.ds j r = x at *
  generalize tellOk a.ds j r = xo at *
  have DA := (h3.od.dat j hjr hjl).kept (gdrew (grefl w9) 1)
  have S0 : HlS w9 b (.slice (some ⟨g, 0, none⟩) a.ds.length vc) bg j g (j * 4 + 1) false := S3
  obtain ⟨c0, x0, t1⟩ := S3
  have hnb : raw[j].nv.ownBlock ≠ some b := fun e => h3.rb j hjr (.inr e)
  have hnbg : raw[j].nv.ownBlock ≠ some bg := fun e => hbgw (.inr e)
  have hng : raw[j].nv.ownBlock ≠ some g := fun e => h3.od.out j hjr g (.inr e) rfl
  go_wp2_with fail
  go_region_held3 (fun w' => HlS w' b (.slice (some ⟨g, 0, none⟩) a.ds.length vc) bg j g (j * 4 + 1) false) (first | assumption | exact S0.drew) (first | (go_at_call 146; go_fit (l3WriteAt_any g (j * 4) B a.ds[j] raw[j].kv raw[j].nv r x _ DA); rintro e w8 ⟨rfl, D8, g8⟩; have S8 := HlS.grew (S0.drew) g8 hnb hnbg hng))
  have h4 := (h3.kept (gdrew (grefl w9) 1)).disksQ g8 hnb ((h3.kept (gdrew (grefl w9) 1)).od.wrote j hjr hjl D8 g8)
  go_wp2_with fail
  go_ret
  exact ⟨ret_bool HOk.out.symm, ⟨_, _, by rw [HHd.out]; exact h4⟩, (only_grew (gdrew G3 1)).trans (Only.of g8 (fun k e => .inr (h3.od.in j hjr k (.inr e)).1))⟩
end Go.Proofs.YteialkknddpbjaaGreatDoor
namespace Go.Proofs.YteialkknddpbjaaGreatDoor
open Go.ChangeShapes Go.WideShapes Go.ChangeAt Go.RowKit

def bentC (c : Int × Int) : Int × Int := (c.1, (c.2 + 2) % 65521)
def bentK (l : List (Int × Int)) (k : Nat) : List (Int × Int) := (l.take k).map bentC ++ l.drop k
def bentL (l : List (Int × Int)) : List (Int × Int) := l.map bentC
theorem bentK_zero (l : List (Int × Int)) : bentK l 0 = l := by simp [bentK]
theorem bentK_all (l : List (Int × Int)) : bentK l l.length = bentL l := by simp [bentK, bentL]
theorem bentK_length (l : List (Int × Int)) (k : Nat) : (bentK l k).length = l.length := by simp [bentK]; omega
theorem bentK_get {l : List (Int × Int)} {k : Nat} (h : k < l.length) : (bentK l k)[k]'(by rw [bentK_length]; exact h) = l[k] := by
  unfold bentK
  rw [List.getElem_append_right (by simp; omega)]
  simp [Nat.min_eq_left (Nat.le_of_lt h)]
theorem bentK_next {l : List (Int × Int)} {k : Nat} (h : k < l.length) : (bentK l k).set k (bentC l[k]) = bentK l (k + 1) := by
  unfold bentK
  have e : ((l.take k).map bentC).length = k := by simp; omega
  rw [List.set_append_right _ _ (by omega), e, Nat.sub_self, List.drop_eq_getElem_cons h, List.set_cons_zero, List.take_succ_eq_append_getElem h, List.map_append]
  simp only [List.map_cons, List.map_nil, List.append_assoc, List.cons_append, List.nil_append]
theorem sumZ_cof (n p v : Int) : 0 ≤ cofS n p v ∧ cofS n p v ≤ 65520 := by
  unfold cofS
  have h1 := sumZ_lo n p v
  have h2 := sumZ_hi n p v
  split <;> omega
theorem newL_sum (n : Int) (p i : Nat) (h : i < (newL n p).length) : 0 ≤ (newL n p)[i].2 ∧ (newL n p)[i].2 ≤ 65520 := by
  simp only [newL, List.getElem_map]
  exact sumZ_cof _ _ _
def repOk (a : AZ) (d : Int) : Bool := a.up && (a.stage == 0 && (decide (0 ≤ d ∧ d < a.ds.length) && (a.ds.getD d.toNat .zero).dead))
def repD (a : AZ) (d : Int) : DZ := ⟨d, false, bentL (newL d (rowsZ a.ds)), bentL (newL d (rowsZ a.ds))⟩
def AZ.replacedZ (a : AZ) (d : Int) : AZ := if repOk a d then { a with ds := a.ds.set d.toNat (repD a d) } else a
theorem rep_no {a : AZ} {d : Int} (h : repOk a d = false) : a.replacedZ d = a := by simp [AZ.replacedZ, h]
/-- one Sum of Now is written, of a disk in a variable -/
theorem DBox.sum {w : World} {b B g n cap : Nat} {d : DZ} {kv : Value} (h : DBox w b B d kv (.slice (some ⟨g, 0, none⟩) n cap)) (i : Nat) (hi : i < d.m.length) (y : Int) :
    DBox (w.setCell ⟨g, i * 2 + 1, none⟩ (.int .i64 y)) b B { d with m := d.m.set i (d.m[i].1, y) } kv (.slice (some ⟨g, 0, none⟩) n cap) := by
  have hgb : g ≠ b := fun e => h.nb (by rw [e]; rfl)
  have hk : kv.ownBlock ≠ some g := fun e => by rcases h.ap with z | z; rw [z] at e; cases e; exact z e
  exact ⟨h.c0.other (fun e => hgb (congrArg Addr.block e)) _, h.c1.other (fun e => hgb (congrArg Addr.block e)) _, h.c2.other (fun e => hgb (congrArg Addr.block e)) _, h.c3.other (fun e => hgb (congrArg Addr.block e)) _, Own.other h.ks hk _, Own.setAt h.ns i 1 _ (d.m[i].1, y) hi (by decide) rfl, h.ap, h.kb, h.nb⟩
set_option maxRecDepth 8000 in
set_option maxHeartbeats 4000000 in
theorem l10Replace_any (b B : Nat) (a : AZ) (v : Value) (raw : List DV) (d : Int) (w : World) (h : ABox w b B a v raw) (hrow : rowsZ a.ds ≤ 16) :
    Calls Tryz.prog 79 #[.pointer (some ⟨b, 0, none⟩), .int .i64 d] w (ADid b B (repOk a d) (a.replacedZ d) w) := by
  obtain ⟨va, vc, rfl, -⟩ := h.od.form
  obtain ⟨c0, f0⟩ := h.c0
  obtain ⟨c3, f3⟩ := h.c3
  obtain ⟨c4, f4⟩ := h.c4
  have HN0 := fun (e : repOk a d = false) => (show ADid b B (repOk a d) (a.replacedZ d) w (.returned (.bool false)) w from ⟨by rw [e], ⟨_, _, by rw [rep_no e]; exact h⟩, Only.refl _ _⟩)
  cases hu : a.up
  · have HG := HN0 (by rw [repOk, hu]; rfl)
    rw [hu] at c4
    go_enter Tryz.func79, Tryz.ntmps79
    go_wp2_with fail
    go_ret
    exact HG
  rw [hu] at c4
  by_cases hst : a.stage = 0
  rotate_left
  · have hst' : (a.stage != 0) = true := bne_iff_ne.2 hst
    have HG := HN0 (by rw [repOk, beq_eq_false_iff_ne.2 hst]; simp)
    clear hst
    go_enter Tryz.func79, Tryz.ntmps79
    go_wp2_with fail
    go_ret
    exact HG
  have hst' : (a.stage != 0) = false := by simp [hst]
  by_cases hd0 : d < 0
  · have HG := HN0 (by rw [repOk, decide_eq_false (by omega)]; simp)
    clear hst
    go_enter Tryz.func79, Tryz.ntmps79
    go_wp2_with fail
    go_ret
    exact HG
  by_cases hd1 : (a.ds.length : Int) ≤ d
  · have HG := HN0 (by rw [repOk, decide_eq_false (by omega)]; simp)
    clear hst
    go_enter Tryz.func79, Tryz.ntmps79
    go_wp2_with fail
    go_ret
    exact HG
  obtain ⟨i, rfl⟩ := Int.eq_ofNat_of_zero_le (show 0 ≤ d by omega)
  have hil : i < a.ds.length := by omega
  have hii : (i : Int) < a.ds.length := by omega
  have hir : i < raw.length := by rw [h.od.len]; exact hil
  have hgi : a.ds.getD i .zero = a.ds[i] := getD_at hil
  obtain ⟨g, e, hgB, hgl, t0, ⟨t1, u1⟩, t2, t3⟩ := h.od.at i hir hil
  cases e
  cases hdd : a.ds[i].dead
  · have HG := HN0 (by rw [repOk, Int.toNat_natCast, hgi, hdd]; simp)
    rw [hdd] at t1
    clear hst
    go_enter Tryz.func79, Tryz.ntmps79
    go_wp2_with fail
    go_ret
    exact HG
  rw [hdd] at t1
  have HO : Hid (repOk a i = true) := by show _ = _; rw [repOk, Int.toNat_natCast, hgi, hdd, hu, hst, decide_eq_true (by omega)]; rfl
  have HA : Hid (a.replacedZ i = { a with ds := a.ds.set i (repD a i) }) := by show _ = _; simp only [AZ.replacedZ, HO.out, if_true, Int.toNat_natCast]
  clear hst HN0
  go_enter Tryz.func79, Tryz.ntmps79
  go_wp2_with fail
  go_fit (l6Rows_any _ a.ds _ h.od.ld)
  rintro e w' ⟨rfl, rfl⟩
  go_wp2_with fail
  go_fit (l3New_any (i : Int) (rowsZ a.ds) _ hrow)
  rintro e w2 ⟨kv, nv, rfl, I2, ap2, g2⟩
  obtain ⟨ka, km, kc, rfl⟩ := I2.1.sl
  obtain ⟨na, nm, nc, rfl⟩ := I2.2.sl
  have HNl : Hid ((newL (i : Int) (rowsZ a.ds)).length = rowsZ a.ds) := newL_length _ _
  have HNs : Hid (∀ k (h : k < (newL (i : Int) (rowsZ a.ds)).length), 0 ≤ (newL (i : Int) (rowsZ a.ds))[k].2 ∧ (newL (i : Int) (rowsZ a.ds))[k].2 ≤ 65520) := fun k h => newL_sum _ _ k h
  have HRd : Hid (repD a i = ⟨(i : Int), false, bentL (newL (i : Int) (rowsZ a.ds)), bentL (newL (i : Int) (rowsZ a.ds))⟩) := rfl
  generalize newL (i : Int) (rowsZ a.ds) = NL at *
  generalize rowsZ a.ds = R at *
  have e3 := galloc (grefl w2) (.cells #[.int .i64 (i : Int), .bool false, .slice ka km kc, .slice na nm nc] 37)
  have D3 : DBox (w2.alloc (.cells #[.int .i64 (i : Int), .bool false, .slice ka km kc, .slice na nm nc] 37)) w2.heap.size w.heap.size ⟨(i : Int), false, NL, NL⟩ (.slice ka km kc) (.slice na nm nc) :=
    ⟨by simp [At, go_sem], by simp [At, go_sem], by simp [At, go_sem], by simp [At, go_sem], Own.grew I2.1 e3, Own.grew I2.2 e3, ap2, fun e => by have := (Own.lt I2.1 _ e).2; omega, fun e => by have := (Own.lt I2.2 _ e).2; omega⟩
  have G3 := gtrans g2 e3
  have hdb : w.heap.size ≤ w2.heap.size := g2.size
  clear e3 I2 c0 f0 c3 f3 c4 f4 t1 u1 g2
  go_upto_region 4 with (fail)
  generalize w2.alloc (.cells #[.int .i64 (i : Int), .bool false, .slice ka km kc, .slice na nm nc] 37) = W3 at *
  generalize w2.heap.size = db at *
  have hnm : nm = R := by have := (CS.bound D3.ns).1; dsimp only at this; rw [HNl.out] at this; exact this
  subst hnm
  have HB0 := Lib.hid (bentK_zero NL)
  go_wp2_with fail
  go_loopw [6] (fun q wr => ∃ k : Nat, k ≤ nm ∧ q = .int .i64 k ∧ DBox wr db w.heap.size ⟨(i : Int), false, NL, bentK NL k⟩ (.slice ka km kc) (.slice na nm nc) ∧ w.grownBy wr none) (fun q _ => nm - (intOf q).toNat)
  case atStart => exact ⟨0, Nat.zero_le _, rfl, by rw [HB0.out]; exact D3, G3⟩
  case round =>
    clear D3 G3
    obtain ⟨k, hk, rfl, D, G⟩ := hrel
    have hbl := bentK_length NL k
    obtain ⟨c3, f3⟩ := D.c3
    by_cases hlt : k < nm
    · have hkl : k < NL.length := by rw [HNl.out]; exact hlt
      have hki : (k : Int) < nm := by omega
      have hkb : k < (bentK NL k).length := by rw [hbl]; exact hkl
      obtain ⟨ng, e, hg1, hg2, -, ⟨y1, z1⟩⟩ := CS.at D.ns k hkb
      cases e
      have HG := Lib.hid (bentK_get hkl)
      dsimp only at y1
      rw [HG.out] at y1
      obtain ⟨s0, s1⟩ := HNs.out k hkl
      have HD := (D.kept (gdrew (grefl wr) 1)).sum k hkb ((NL[k].2 + 2) % 65521)
      dsimp only at HD
      have HE : Hid ((bentK NL k).set k ((bentK NL k)[k].1, (NL[k].2 + 2) % 65521) = bentK NL (k + 1)) := by show _ = _; rw [HG.out, ← bentK_next hkl]; rfl
      rw [HE.out] at HD
      generalize NL[k].2 = sm at *
      have hmod : Int.tmod (sm + 2) 65521 = (sm + 2) % 65521 := Int.tmod_eq_emod_of_nonneg (by omega)
      clear D
      go_wp2_with fail
      go_region
      all_goals
        go_wp2_with fail
        go_roundw
        case rel => exact ⟨k + 1, by omega, by go_num, HD, gset1 (gdrew G 1) hg1 _ _⟩
        case measure => simp [intOf]; omega
    · obtain rfl : k = nm := by omega
      have HAl : Hid (bentK NL k = bentL NL) := by show _ = _; rw [← HNl.out]; exact bentK_all NL
      rw [HAl.out] at D
      have hml : (bentL NL).length ≤ 16 := by rw [← HAl.out, hbl, HNl.out]; exact hrow
      go_wp2_with fail
      go_fit (l3Flush_any db w.heap.size ⟨(i : Int), false, NL, bentL NL⟩ _ _ _ D (by have := G.size; omega) (by dsimp only; omega))
      rintro e w5 ⟨kv', rfl, D5, g5⟩
      have G5 : w.grownBy w5 none := gfresh G hdb g5
      have h5 := h.kept G5
      obtain ⟨ka', km', kc', rfl⟩ := D5.ks.sl
      obtain ⟨c0, f0⟩ := h5.c0
      obtain ⟨g', e', -, -, ⟨p0, r0⟩, ⟨p1, r1⟩, ⟨p2, r2⟩, ⟨p3, r3⟩⟩ := h5.od.at i hir hil
      cases e'
      obtain ⟨q0, -⟩ := D5.c0
      obtain ⟨q1, -⟩ := D5.c1
      obtain ⟨q2, -⟩ := D5.c2
      obtain ⟨q3, -⟩ := D5.c3
      dsimp only at q0 q1
      have hgdb : g ≠ db := by omega
      have hR := h.replaced i hir ⟨(i : Int), false, ka', km', kc', na, k, nc⟩ (repD a i) (gdrew G5 1) ⟨rfl, rfl, ⟨by rw [HRd.out]; exact Own.lower D5.ks (by omega), by rw [HRd.out]; exact Own.lower D5.ns (by omega)⟩⟩ D5.ap (fun k hk => by rcases hk with hk | hk; exact (Own.lt D5.ks k hk).1; exact (Own.lt D5.ns k hk).1)
      have HF : ADid b B (repOk a i) (a.replacedZ i) w (.returned (.bool true)) (set4At (w5.drewN 1) g (i * 4) (.int .i64 (i : Int)) (.bool false) (.slice ka' km' kc') (.slice na k nc)) :=
        ⟨by rw [HO.out], ⟨_, _, by rw [HA.out]; exact hR⟩, (only_grew (gdrew G5 1)).trans (Only.of (gset4At (World.grownBy.refl _ (some g)) _ _ _ _) (fun k e => by cases e; exact .inr hgB))⟩
      clear hR D5 h5 D
      go_wp2_with fail
      go_region
      all_goals
        go_wp2_with fail
        go_ret
        exact HF
end Go.Proofs.YteialkknddpbjaaGreatDoor
