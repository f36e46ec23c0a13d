/- Patches of chapter 7, as plain mathematics; what the specification's PatchOk returns. -/
import Derived.Test.YtfodjokcobljmaaGreatSpecL01
import Derived.Test.YtfodjokcobljmaaGreatBaseL04
import Derived.Deep.DeepFit
import Derived.Deep.DeepCutAuto
namespace Go.Proofs.YtfodjokcobljmaaGreat
open Go.ChangeShapes Go.WideShapes Go.ChangeAt Go.RowKit

/-- a patch -/
structure PZ where
  row : Int
  ds : List Int
  vs : List Int
def PZ.zero : PZ := ⟨0, [], []⟩
/-- a disk and its value -/
def pcell (d v : Int) : Bool := inB d 0 4 && okv v
/-- the lists of a patch fit -/
def plists : List Int → List Int → Bool
  | [d0], [v0] => pcell d0 v0
  | [d0, d1], [v0, v1] => pcell d0 v0 && (pcell d1 v1 && decide (d0 < d1))
  | _, _ => false
def PZ.ok (p : PZ) : Bool := inB p.row 0 15 && plists p.ds p.vs
theorem plists_len {ds vs : List Int} (h : ¬ (1 ≤ ds.length ∧ ds.length ≤ 2 ∧ vs.length = ds.length)) : plists ds vs = false := by
  unfold plists
  split
  · simp at h
  · simp at h
  · rfl
/-- three cells -/
abbrev Box3 (w : World) (b : Nat) (x0 x1 x2 : Value) : Prop := w.cell? ⟨b, 0, none⟩ = some x0 ∧ w.cell? ⟨b, 1, none⟩ = some x1 ∧ w.cell? ⟨b, 2, none⟩ = some x2
theorem Box3.kept {W w1 : World} {b : Nat} {x0 x1 x2 : Value} (h : Box3 W b x0 x1 x2) (hg : W.grownBy w1 none) : Box3 w1 b x0 x1 x2 := ⟨gkc hg h.1, gkc hg h.2.1, gkc hg h.2.2⟩
theorem Box3.new (w : World) (x0 x1 x2 : Value) (T : Nat) : Box3 (w.alloc (.cells #[x0, x1, x2] T)) w.heap.size x0 x1 x2 := by simp [Box3, go_sem]
/-- what PatchOk reads: one disk -/
abbrev P1S (w w' : World) (b : Nat) (row : Int) (dv vv : Value) (g o : Nat) (d0 : Int) (h q : Nat) (v0 : Int) : Prop := Box3 w' b (.int .i64 row) dv vv ∧ w'.cell? ⟨g, o, none⟩ = some (.int .i64 d0) ∧ w'.cell? ⟨h, q, none⟩ = some (.int .i64 v0) ∧ w.grownBy w' none
abbrev P2S (w w' : World) (b : Nat) (row : Int) (dv vv : Value) (g o : Nat) (d0 d1 : Int) (h q : Nat) (v0 v1 : Int) : Prop := Box3 w' b (.int .i64 row) dv vv ∧ (w'.cell? ⟨g, o, none⟩ = some (.int .i64 d0) ∧ w'.cell? ⟨g, o + 1, none⟩ = some (.int .i64 d1)) ∧ (w'.cell? ⟨h, q, none⟩ = some (.int .i64 v0) ∧ w'.cell? ⟨h, q + 1, none⟩ = some (.int .i64 v1)) ∧ w.grownBy w' none
section
variable {w w' w2 : World} {b : Nat} {row : Int} {dv vv : Value} {g o h q : Nat} {d0 d1 v0 v1 : Int}
theorem P1S.kept (s : P1S w w' b row dv vv g o d0 h q v0) (k : w'.grownBy w2 none) : P1S w w2 b row dv vv g o d0 h q v0 := ⟨Box3.kept s.1 k, gkc k s.2.1, gkc k s.2.2.1, gtrans s.2.2.2 k⟩
theorem P2S.kept (s : P2S w w' b row dv vv g o d0 d1 h q v0 v1) (k : w'.grownBy w2 none) : P2S w w2 b row dv vv g o d0 d1 h q v0 v1 := ⟨Box3.kept s.1 k, ⟨gkc k s.2.1.1, gkc k s.2.1.2⟩, ⟨gkc k s.2.2.1.1, gkc k s.2.2.1.2⟩, gtrans s.2.2.2 k⟩
end
set_option maxRecDepth 8000 in
set_option maxHeartbeats 4000000 in
theorem specPatchOk_any (p : PZ) (dv vv : Value) (w : World) (hd : IR w dv p.ds) (hv : IR w vv p.vs) :
    Calls Tryz.prog 111 #[.agg #[.int .i64 p.row, dv, vv]] w (Pure (.bool p.ok) w) := by
  obtain ⟨row, ds, vs⟩ := p
  dsimp only at *
  obtain ⟨da, dc, rfl, dm⟩ := hd.form
  obtain ⟨va, vc, rfl, vm⟩ := hv.form
  have B0 := Box3.new w (.int .i64 row) (.slice da ds.length dc) (.slice va vs.length vc) 94
  have G0 := galloc (grefl w) (.cells #[.int .i64 row, .slice da ds.length dc, .slice va vs.length vc] 94)
  cases hr : inB row 0 15
  · have HF : Hid (PZ.ok ⟨row, ds, vs⟩ = false) := by show _ = _; simp [PZ.ok, hr]
    go_enter Tryz.func111, Tryz.ntmps111
    go_wp2_with fail
    go_fit (l1Place_any _ _)
    rintro e w' ⟨rfl, rfl⟩
    rw [hr]
    go_wp2_with fail
    go_ret
    exact ⟨ret_bool HF.out.symm, galloc (grefl _) _⟩
  by_cases hl : 1 ≤ ds.length ∧ ds.length ≤ 2 ∧ vs.length = ds.length
  rotate_left
  · have HF : Hid (PZ.ok ⟨row, ds, vs⟩ = false) := by show _ = _; simp [PZ.ok, plists_len hl]
    by_cases h1 : (ds.length : Int) < 1
    · clear hl
      go_enter Tryz.func111, Tryz.ntmps111
      go_wp2_with fail
      go_fit (l1Place_any _ _)
      rintro e w' ⟨rfl, rfl⟩
      rw [hr]
      go_wp2_with fail
      go_ret
      exact ⟨ret_bool HF.out.symm, galloc (grefl _) _⟩
    by_cases h2 : (2 : Int) < ds.length
    · clear hl
      go_enter Tryz.func111, Tryz.ntmps111
      go_wp2_with fail
      go_fit (l1Place_any _ _)
      rintro e w' ⟨rfl, rfl⟩
      rw [hr]
      go_wp2_with fail
      go_ret
      exact ⟨ret_bool HF.out.symm, galloc (grefl _) _⟩
    have h3 : ((vs.length : Int) != (ds.length : Int)) = true := bne_iff_ne.2 (by omega)
    clear hl
    go_enter Tryz.func111, Tryz.ntmps111
    go_wp2_with fail
    go_fit (l1Place_any _ _)
    rintro e w' ⟨rfl, rfl⟩
    rw [hr]
    go_wp2_with fail
    go_ret
    exact ⟨ret_bool HF.out.symm, galloc (grefl _) _⟩
  match ds, vs, hl with
  | [d0], [v0], _ =>
    have HO : Hid (PZ.ok ⟨row, [d0], [v0]⟩ = pcell d0 v0) := by show _ = _; simp [PZ.ok, hr, plists]
    obtain ⟨g, o, rfl, x0⟩ := hd.at 0 (by simp)
    obtain ⟨h, q, rfl, y0⟩ := hv.at 0 (by simp)
    simp only [List.getElem_cons_zero, Nat.add_zero] at x0 y0
    have S0 : P1S w (w.alloc (.cells #[.int .i64 row, .slice (some ⟨g, o, none⟩) 1 dc, .slice (some ⟨h, q, none⟩) 1 vc] 94)) w.heap.size row (.slice (some ⟨g, o, none⟩) 1 dc) (.slice (some ⟨h, q, none⟩) 1 vc) g o d0 h q v0 := ⟨B0, gkc G0 x0, gkc G0 y0, G0⟩
    clear B0 G0 hd hv x0 y0
    go_enter Tryz.func111, Tryz.ntmps111
    go_wp2_with fail
    go_fit (l1Place_any _ _)
    rintro e w' ⟨rfl, rfl⟩
    rw [hr]
    go_wp2_with fail
    generalize w.alloc (.cells #[.int .i64 row, .slice (some ⟨g, o, none⟩) 1 dc, .slice (some ⟨h, q, none⟩) 1 vc] 94) = W0 at *
    generalize w.heap.size = bb at *
    go_loopw [4] (fun i wr => P1S w wr bb row (.slice (some ⟨g, o, none⟩) 1 dc) (.slice (some ⟨h, q, none⟩) 1 vc) g o d0 h q v0 ∧ ((i = .int .i64 0) ∨ (i = .int .i64 1 ∧ Hid (pcell d0 v0 = true)))) (fun i _ => 1 - (intOf i).toNat)
    case atStart => exact ⟨S0, .inl rfl⟩
    case round =>
      clear S0
      obtain ⟨S, hk⟩ := hrel
      rcases hk with rfl | ⟨rfl, H1⟩
      · cases hD : inB d0 0 4
        · go_wp2_with fail
          refine region_calm (fun w' => P1S w w' bb row (.slice (some ⟨g, o, none⟩) 1 dc) (.slice (some ⟨h, q, none⟩) 1 vc) g o d0 h q v0) (by kernel_rfl) (by kernel_rfl) (S.kept (gdrew (grefl wr) 1)) ?_
          repeat (first
            | (refine calm_skip (by rfl) ?_; simp only [Act.put, List.setIfInBounds_toArray, List.set_cons_zero, List.set_cons_succ])
            | (refine calm_step (by rfl) ?_
               apply Exists.intro
               refine ⟨fun w' hw' => ?_, ?_⟩
               · go_simp
                 first | done | exact rfl | (go_at_call 53; go_fit (l1Disk_any _ _); rintro e w8 ⟨rfl, rfl⟩; rw [hD]; exact ⟨rfl, hw'⟩)
               simp only [Act.put, List.setIfInBounds_toArray, List.set_cons_zero, List.set_cons_succ]))
          refine calm_nil ?_
          intro w9 hw9
          go_wp2_with fail
          go_ret
          exact ⟨ret_bool (by rw [HO.out]; simp [pcell, okv, hD]), hw9.2.2.2⟩
        cases hV : inB v0 0 32767
        · go_wp2_with fail
          refine region_calm (fun w' => P1S w w' bb row (.slice (some ⟨g, o, none⟩) 1 dc) (.slice (some ⟨h, q, none⟩) 1 vc) g o d0 h q v0) (by kernel_rfl) (by kernel_rfl) (S.kept (gdrew (grefl wr) 1)) ?_
          repeat (first
            | (refine calm_skip (by rfl) ?_; simp only [Act.put, List.setIfInBounds_toArray, List.set_cons_zero, List.set_cons_succ])
            | (refine calm_step (by rfl) ?_
               apply Exists.intro
               refine ⟨fun w' hw' => ?_, ?_⟩
               · go_simp
                 first | done | exact rfl | (go_at_call 53; go_fit (l1Disk_any _ _); rintro e w8 ⟨rfl, rfl⟩; rw [hD]; exact ⟨rfl, hw'⟩) | (go_at_call 90; go_fit (l1Value_any _ _); rintro e w8 ⟨rfl, rfl⟩; rw [hV]; exact ⟨rfl, hw'⟩)
               simp only [Act.put, List.setIfInBounds_toArray, List.set_cons_zero, List.set_cons_succ]))
          refine calm_nil ?_
          intro w9 hw9
          go_wp2_with fail
          go_ret
          exact ⟨ret_bool (by rw [HO.out]; simp [pcell, okv, hD, hV]), hw9.2.2.2⟩
        have HP : Hid (pcell d0 v0 = true) := by show _ = _; simp [pcell, okv, hD, hV]
        go_wp2_with fail
        refine region_calm (fun w' => P1S w w' bb row (.slice (some ⟨g, o, none⟩) 1 dc) (.slice (some ⟨h, q, none⟩) 1 vc) g o d0 h q v0) (by kernel_rfl) (by kernel_rfl) (S.kept (gdrew (grefl wr) 1)) ?_
        repeat (first
          | (refine calm_skip (by rfl) ?_; simp only [Act.put, List.setIfInBounds_toArray, List.set_cons_zero, List.set_cons_succ])
          | (refine calm_step (by rfl) ?_
             apply Exists.intro
             refine ⟨fun w' hw' => ?_, ?_⟩
             · go_simp
               first | done | exact rfl | (go_at_call 53; go_fit (l1Disk_any _ _); rintro e w8 ⟨rfl, rfl⟩; rw [hD]; exact ⟨rfl, hw'⟩) | (go_at_call 90; go_fit (l1Value_any _ _); rintro e w8 ⟨rfl, rfl⟩; rw [hV]; exact ⟨rfl, hw'⟩)
             simp only [Act.put, List.setIfInBounds_toArray, List.set_cons_zero, List.set_cons_succ]))
        refine calm_nil ?_
        intro w9 hw9
        go_wp2_with fail
        go_roundw
        case rel => exact ⟨hw9, .inr ⟨rfl, HP⟩⟩
        case measure => simp [intOf]
      · go_wp2_with fail
        go_ret
        exact ⟨ret_bool (by rw [HO.out]; rw [H1.out]), S.2.2.2⟩
  | [d0, d1], [v0, v1], _ =>
    have HO : Hid (PZ.ok ⟨row, [d0, d1], [v0, v1]⟩ = (pcell d0 v0 && (pcell d1 v1 && decide (d0 < d1)))) := by show _ = _; simp [PZ.ok, hr, plists]
    obtain ⟨g, o, rfl, x0⟩ := hd.at 0 (by simp)
    obtain ⟨h, q, rfl, y0⟩ := hv.at 0 (by simp)
    obtain ⟨g', o', e1, x1⟩ := hd.at 1 (by simp)
    obtain ⟨h', q', e2, y1⟩ := hv.at 1 (by simp)
    cases e1
    cases e2
    simp only [List.getElem_cons_zero, List.getElem_cons_succ, Nat.add_zero] at x0 y0 x1 y1
    have S0 : P2S w (w.alloc (.cells #[.int .i64 row, .slice (some ⟨g, o, none⟩) 2 dc, .slice (some ⟨h, q, none⟩) 2 vc] 94)) w.heap.size row (.slice (some ⟨g, o, none⟩) 2 dc) (.slice (some ⟨h, q, none⟩) 2 vc) g o d0 d1 h q v0 v1 := ⟨B0, ⟨gkc G0 x0, gkc G0 x1⟩, ⟨gkc G0 y0, gkc G0 y1⟩, G0⟩
    clear B0 G0 hd hv x0 y0 x1 y1
    go_enter Tryz.func111, Tryz.ntmps111
    go_wp2_with fail
    go_fit (l1Place_any _ _)
    rintro e w' ⟨rfl, rfl⟩
    rw [hr]
    go_wp2_with fail
    generalize w.alloc (.cells #[.int .i64 row, .slice (some ⟨g, o, none⟩) 2 dc, .slice (some ⟨h, q, none⟩) 2 vc] 94) = W0 at *
    generalize w.heap.size = bb at *
    go_loopw [4] (fun i wr => P2S w wr bb row (.slice (some ⟨g, o, none⟩) 2 dc) (.slice (some ⟨h, q, none⟩) 2 vc) g o d0 d1 h q v0 v1 ∧ ((i = .int .i64 0) ∨ (i = .int .i64 1 ∧ Hid (pcell d0 v0 = true)) ∨ (i = .int .i64 2 ∧ Hid (pcell d0 v0 = true ∧ pcell d1 v1 = true ∧ d0 < d1)))) (fun i _ => 2 - (intOf i).toNat)
    case atStart => exact ⟨S0, .inl rfl⟩
    case round =>
      clear S0
      obtain ⟨S, hk⟩ := hrel
      rcases hk with rfl | ⟨rfl, H1⟩ | ⟨rfl, H2⟩
      · cases hD : inB d0 0 4
        · go_wp2_with fail
          refine region_calm (fun w' => P2S w w' bb row (.slice (some ⟨g, o, none⟩) 2 dc) (.slice (some ⟨h, q, none⟩) 2 vc) g o d0 d1 h q v0 v1) (by kernel_rfl) (by kernel_rfl) (S.kept (gdrew (grefl wr) 1)) ?_
          repeat (first
            | (refine calm_skip (by rfl) ?_; simp only [Act.put, List.setIfInBounds_toArray, List.set_cons_zero, List.set_cons_succ])
            | (refine calm_step (by rfl) ?_
               apply Exists.intro
               refine ⟨fun w' hw' => ?_, ?_⟩
               · go_simp
                 first | done | exact rfl | (go_at_call 53; go_fit (l1Disk_any _ _); rintro e w8 ⟨rfl, rfl⟩; rw [hD]; exact ⟨rfl, hw'⟩)
               simp only [Act.put, List.setIfInBounds_toArray, List.set_cons_zero, List.set_cons_succ]))
          refine calm_nil ?_
          intro w9 hw9
          go_wp2_with fail
          go_ret
          exact ⟨ret_bool (by rw [HO.out]; simp [pcell, okv, hD]), hw9.2.2.2⟩
        cases hV : inB v0 0 32767
        · go_wp2_with fail
          refine region_calm (fun w' => P2S w w' bb row (.slice (some ⟨g, o, none⟩) 2 dc) (.slice (some ⟨h, q, none⟩) 2 vc) g o d0 d1 h q v0 v1) (by kernel_rfl) (by kernel_rfl) (S.kept (gdrew (grefl wr) 1)) ?_
          repeat (first
            | (refine calm_skip (by rfl) ?_; simp only [Act.put, List.setIfInBounds_toArray, List.set_cons_zero, List.set_cons_succ])
            | (refine calm_step (by rfl) ?_
               apply Exists.intro
               refine ⟨fun w' hw' => ?_, ?_⟩
               · go_simp
                 first | done | exact rfl | (go_at_call 53; go_fit (l1Disk_any _ _); rintro e w8 ⟨rfl, rfl⟩; rw [hD]; exact ⟨rfl, hw'⟩) | (go_at_call 90; go_fit (l1Value_any _ _); rintro e w8 ⟨rfl, rfl⟩; rw [hV]; exact ⟨rfl, hw'⟩)
               simp only [Act.put, List.setIfInBounds_toArray, List.set_cons_zero, List.set_cons_succ]))
          refine calm_nil ?_
          intro w9 hw9
          go_wp2_with fail
          go_ret
          exact ⟨ret_bool (by rw [HO.out]; simp [pcell, okv, hD, hV]), hw9.2.2.2⟩
        have HP : Hid (pcell d0 v0 = true) := by show _ = _; simp [pcell, okv, hD, hV]
        go_wp2_with fail
        refine region_calm (fun w' => P2S w w' bb row (.slice (some ⟨g, o, none⟩) 2 dc) (.slice (some ⟨h, q, none⟩) 2 vc) g o d0 d1 h q v0 v1) (by kernel_rfl) (by kernel_rfl) (S.kept (gdrew (grefl wr) 1)) ?_
        repeat (first
          | (refine calm_skip (by rfl) ?_; simp only [Act.put, List.setIfInBounds_toArray, List.set_cons_zero, List.set_cons_succ])
          | (refine calm_step (by rfl) ?_
             apply Exists.intro
             refine ⟨fun w' hw' => ?_, ?_⟩
             · go_simp
               first | done | exact rfl | (go_at_call 53; go_fit (l1Disk_any _ _); rintro e w8 ⟨rfl, rfl⟩; rw [hD]; exact ⟨rfl, hw'⟩) | (go_at_call 90; go_fit (l1Value_any _ _); rintro e w8 ⟨rfl, rfl⟩; rw [hV]; exact ⟨rfl, hw'⟩)
             simp only [Act.put, List.setIfInBounds_toArray, List.set_cons_zero, List.set_cons_succ]))
        refine calm_nil ?_
        intro w9 hw9
        go_wp2_with fail
        go_roundw
        case rel => exact ⟨hw9, .inr (.inl ⟨rfl, HP⟩)⟩
        case measure => simp [intOf]
      · cases hD : inB d1 0 4
        · go_wp2_with fail
          refine region_calm (fun w' => P2S w w' bb row (.slice (some ⟨g, o, none⟩) 2 dc) (.slice (some ⟨h, q, none⟩) 2 vc) g o d0 d1 h q v0 v1) (by kernel_rfl) (by kernel_rfl) (S.kept (gdrew (grefl wr) 1)) ?_
          repeat (first
            | (refine calm_skip (by rfl) ?_; simp only [Act.put, List.setIfInBounds_toArray, List.set_cons_zero, List.set_cons_succ])
            | (refine calm_step (by rfl) ?_
               apply Exists.intro
               refine ⟨fun w' hw' => ?_, ?_⟩
               · go_simp
                 first | done | exact rfl | (go_at_call 53; go_fit (l1Disk_any _ _); rintro e w8 ⟨rfl, rfl⟩; rw [hD]; exact ⟨rfl, hw'⟩)
               simp only [Act.put, List.setIfInBounds_toArray, List.set_cons_zero, List.set_cons_succ]))
          refine calm_nil ?_
          intro w9 hw9
          go_wp2_with fail
          go_ret
          exact ⟨ret_bool (by rw [HO.out]; simp [pcell, okv, hD]), hw9.2.2.2⟩
        cases hV : inB v1 0 32767
        · go_wp2_with fail
          refine region_calm (fun w' => P2S w w' bb row (.slice (some ⟨g, o, none⟩) 2 dc) (.slice (some ⟨h, q, none⟩) 2 vc) g o d0 d1 h q v0 v1) (by kernel_rfl) (by kernel_rfl) (S.kept (gdrew (grefl wr) 1)) ?_
          repeat (first
            | (refine calm_skip (by rfl) ?_; simp only [Act.put, List.setIfInBounds_toArray, List.set_cons_zero, List.set_cons_succ])
            | (refine calm_step (by rfl) ?_
               apply Exists.intro
               refine ⟨fun w' hw' => ?_, ?_⟩
               · go_simp
                 first | done | exact rfl | (go_at_call 53; go_fit (l1Disk_any _ _); rintro e w8 ⟨rfl, rfl⟩; rw [hD]; exact ⟨rfl, hw'⟩) | (go_at_call 90; go_fit (l1Value_any _ _); rintro e w8 ⟨rfl, rfl⟩; rw [hV]; exact ⟨rfl, hw'⟩)
               simp only [Act.put, List.setIfInBounds_toArray, List.set_cons_zero, List.set_cons_succ]))
          refine calm_nil ?_
          intro w9 hw9
          go_wp2_with fail
          go_ret
          exact ⟨ret_bool (by rw [HO.out]; simp [pcell, okv, hD, hV]), hw9.2.2.2⟩
        by_cases hlt : d0 < d1
        · have hle : decide (d1 ≤ d0) = false := decide_eq_false (by omega)
          have hw0 : IntKind.i64.wrap 0 = 0 := by decide
          have HP : Hid (pcell d0 v0 = true ∧ pcell d1 v1 = true ∧ d0 < d1) := ⟨H1.out, by simp [pcell, okv, hD, hV], hlt⟩
          clear hlt
          go_wp2_with fail
          refine region_calm (fun w' => P2S w w' bb row (.slice (some ⟨g, o, none⟩) 2 dc) (.slice (some ⟨h, q, none⟩) 2 vc) g o d0 d1 h q v0 v1) (by kernel_rfl) (by kernel_rfl) (S.kept (gdrew (grefl wr) 1)) ?_
          repeat (first
            | (refine calm_skip (by rfl) ?_; simp only [Act.put, List.setIfInBounds_toArray, List.set_cons_zero, List.set_cons_succ])
            | (refine calm_step (by rfl) ?_
               apply Exists.intro
               refine ⟨fun w' hw' => ?_, ?_⟩
               · go_simp
                 first | done | exact rfl | (go_at_call 53; go_fit (l1Disk_any _ _); rintro e w8 ⟨rfl, rfl⟩; rw [hD]; exact ⟨rfl, hw'⟩) | (go_at_call 90; go_fit (l1Value_any _ _); rintro e w8 ⟨rfl, rfl⟩; rw [hV]; exact ⟨rfl, hw'⟩)
               simp only [Act.put, List.setIfInBounds_toArray, List.set_cons_zero, List.set_cons_succ]))
          refine calm_nil ?_
          intro w9 hw9
          go_wp2_with fail
          go_roundw
          case rel => exact ⟨hw9, .inr (.inr ⟨rfl, HP⟩)⟩
          case measure => simp [intOf]
        · have hle : decide (d1 ≤ d0) = true := decide_eq_true (by omega)
          have hw0 : IntKind.i64.wrap 0 = 0 := by decide
          have HP : Hid (decide (d0 < d1) = false) := decide_eq_false hlt
          clear hlt
          go_wp2_with fail
          refine region_calm (fun w' => P2S w w' bb row (.slice (some ⟨g, o, none⟩) 2 dc) (.slice (some ⟨h, q, none⟩) 2 vc) g o d0 d1 h q v0 v1) (by kernel_rfl) (by kernel_rfl) (S.kept (gdrew (grefl wr) 1)) ?_
          repeat (first
            | (refine calm_skip (by rfl) ?_; simp only [Act.put, List.setIfInBounds_toArray, List.set_cons_zero, List.set_cons_succ])
            | (refine calm_step (by rfl) ?_
               apply Exists.intro
               refine ⟨fun w' hw' => ?_, ?_⟩
               · go_simp
                 first | done | exact rfl | (go_at_call 53; go_fit (l1Disk_any _ _); rintro e w8 ⟨rfl, rfl⟩; rw [hD]; exact ⟨rfl, hw'⟩) | (go_at_call 90; go_fit (l1Value_any _ _); rintro e w8 ⟨rfl, rfl⟩; rw [hV]; exact ⟨rfl, hw'⟩)
               simp only [Act.put, List.setIfInBounds_toArray, List.set_cons_zero, List.set_cons_succ]))
          refine calm_nil ?_
          intro w9 hw9
          go_wp2_with fail
          go_ret
          exact ⟨ret_bool (by rw [HO.out]; rw [HP.out]; simp), hw9.2.2.2⟩
      · go_wp2_with fail
        go_ret
        exact ⟨ret_bool (by rw [HO.out]; obtain ⟨a, b, c⟩ := H2.out; simp [a, b, c]), S.2.2.2⟩
  | [], _, h => simp at h
  | [_], [], h => simp at h
  | [_], _ :: _ :: _, h => simp at h
  | [_, _], [], h => simp at h
  | [_, _], [_], h => simp at h
  | [_, _], _ :: _ :: _ :: _, h => simp at h
  | _ :: _ :: _ :: _, _, h => simp at h
end Go.Proofs.YtfodjokcobljmaaGreat
