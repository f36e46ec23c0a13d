/- Patches of chapter 7, as plain mathematics; what the specification's PatchOk returns. A patch in a variable, and a patch as a result. -/
import Derived.Deep.DeepFit
import Derived.Deep.DeepCutAuto
import Derived.Test.YteialkknddpbjaaGreatDoorPH05
import Derived.Test.YteialkknddpbjaaGreatDoorPH07
import Derived.Test.YteialkknddpbjaaGreatDoorPH09
namespace Go.Proofs.YteialkknddpbjaaGreatDoor
open Go.ChangeShapes Go.WideShapes Go.ChangeAt Go.RowKit

/-- a patch -/
structure PZ where
  row : Int
  ds : List Int
  vs : List Int
def PZ.zero : PZ := ⟨0, [], []⟩
/-- a disk and its value -/
def pcell (d v : Int) : Bool := inB d 0 4 && okv v
/-- the lists of a patch fit -/
def plists : List Int → List Int → Bool
  | [d0], [v0] => pcell d0 v0
  | [d0, d1], [v0, v1] => pcell d0 v0 && (pcell d1 v1 && decide (d0 < d1))
  | _, _ => false
def PZ.ok (p : PZ) : Bool := inB p.row 0 15 && plists p.ds p.vs
theorem plists_len {ds vs : List Int} (h : ¬ (1 ≤ ds.length ∧ ds.length ≤ 2 ∧ vs.length = ds.length)) : plists ds vs = false := by
  unfold plists
  split
  · simp at h
  · simp at h
  · rfl
/-- three cells -/
abbrev Box3 (w : World) (b : Nat) (x0 x1 x2 : Value) : Prop := w.cell? ⟨b, 0, none⟩ = some x0 ∧ w.cell? ⟨b, 1, none⟩ = some x1 ∧ w.cell? ⟨b, 2, none⟩ = some x2
theorem Box3.kept {W w1 : World} {b : Nat} {x0 x1 x2 : Value} (h : Box3 W b x0 x1 x2) (hg : W.grownBy w1 none) : Box3 w1 b x0 x1 x2 := ⟨gkc hg h.1, gkc hg h.2.1, gkc hg h.2.2⟩
theorem Box3.new (w : World) (x0 x1 x2 : Value) (T : Nat) : Box3 (w.alloc (.cells #[x0, x1, x2] T)) w.heap.size x0 x1 x2 := by simp [Box3, go_sem]
/-- what PatchOk reads: one disk -/
abbrev P1S (w w' : World) (b : Nat) (row : Int) (dv vv : Value) (g o : Nat) (d0 : Int) (h q : Nat) (v0 : Int) : Prop := Box3 w' b (.int .i64 row) dv vv ∧ w'.cell? ⟨g, o, none⟩ = some (.int .i64 d0) ∧ w'.cell? ⟨h, q, none⟩ = some (.int .i64 v0) ∧ w.grownBy w' none
abbrev P2S (w w' : World) (b : Nat) (row : Int) (dv vv : Value) (g o : Nat) (d0 d1 : Int) (h q : Nat) (v0 v1 : Int) : Prop := Box3 w' b (.int .i64 row) dv vv ∧ (w'.cell? ⟨g, o, none⟩ = some (.int .i64 d0) ∧ w'.cell? ⟨g, o + 1, none⟩ = some (.int .i64 d1)) ∧ (w'.cell? ⟨h, q, none⟩ = some (.int .i64 v0) ∧ w'.cell? ⟨h, q + 1, none⟩ = some (.int .i64 v1)) ∧ w.grownBy w' none
section
variable {w w' w2 : World} {b : Nat} {row : Int} {dv vv : Value} {g o h q : Nat} {d0 d1 v0 v1 : Int}
theorem P1S.kept (s : P1S w w' b row dv vv g o d0 h q v0) (k : w'.grownBy w2 none) : P1S w w2 b row dv vv g o d0 h q v0 := ⟨Box3.kept s.1 k, gkc k s.2.1, gkc k s.2.2.1, gtrans s.2.2.2 k⟩
theorem P2S.kept (s : P2S w w' b row dv vv g o d0 d1 h q v0 v1) (k : w'.grownBy w2 none) : P2S w w2 b row dv vv g o d0 d1 h q v0 v1 := ⟨Box3.kept s.1 k, ⟨gkc k s.2.1.1, gkc k s.2.1.2⟩, ⟨gkc k s.2.2.1.1, gkc k s.2.2.1.2⟩, gtrans s.2.2.2 k⟩
end
set_option maxRecDepth 8000 in
set_option maxHeartbeats 4000000 in
theorem specPatchOk_any (p : PZ) (dv vv : Value) (w : World) (hd : IR w dv p.ds) (hv : IR w vv p.vs) :
    Calls Tryz.prog 235 #[.agg #[.int .i64 p.row, dv, vv]] w (Pure (.bool p.ok) w) := by
  obtain ⟨row, ds, vs⟩ := p
  dsimp only at *
  obtain ⟨da, dc, rfl, dm⟩ := hd.form
  obtain ⟨va, vc, rfl, vm⟩ := hv.form
  have B0 := Box3.new w (.int .i64 row) (.slice da ds.length dc) (.slice va vs.length vc) 97
  have G0 := galloc (grefl w) (.cells #[.int .i64 row, .slice da ds.length dc, .slice va vs.length vc] 97)
  cases hr : inB row 0 15
  · have HF : Hid (PZ.ok ⟨row, ds, vs⟩ = false) := by show _ = _; simp [PZ.ok, hr]
    go_enter Tryz.func235, Tryz.ntmps235
    go_wp2_with fail
    go_fit (l1Place_any _ _)
    rintro e w' ⟨rfl, rfl⟩
    rw [hr]
    go_wp2_with fail
    go_ret
    exact ⟨ret_bool HF.out.symm, galloc (grefl _) _⟩
  by_cases hl : 1 ≤ ds.length ∧ ds.length ≤ 2 ∧ vs.length = ds.length
  rotate_left
  · have HF : Hid (PZ.ok ⟨row, ds, vs⟩ = false) := by show _ = _; simp [PZ.ok, plists_len hl]
    by_cases h1 : (ds.length : Int) < 1
    · clear hl
      go_enter Tryz.func235, Tryz.ntmps235
      go_wp2_with fail
      go_fit (l1Place_any _ _)
      rintro e w' ⟨rfl, rfl⟩
      rw [hr]
      go_wp2_with fail
      go_ret
      exact ⟨ret_bool HF.out.symm, galloc (grefl _) _⟩
    by_cases h2 : (2 : Int) < ds.length
    · clear hl
      go_enter Tryz.func235, Tryz.ntmps235
      go_wp2_with fail
      go_fit (l1Place_any _ _)
      rintro e w' ⟨rfl, rfl⟩
      rw [hr]
      go_wp2_with fail
      go_ret
      exact ⟨ret_bool HF.out.symm, galloc (grefl _) _⟩
    have h3 : ((vs.length : Int) != (ds.length : Int)) = true := bne_iff_ne.2 (by omega)
    clear hl
    go_enter Tryz.func235, Tryz.ntmps235
    go_wp2_with fail
    go_fit (l1Place_any _ _)
    rintro e w' ⟨rfl, rfl⟩
    rw [hr]
    go_wp2_with fail
    go_ret
    exact ⟨ret_bool HF.out.symm, galloc (grefl _) _⟩
  match ds, vs, hl with
  | [d0], [v0], _ =>
    have HO : Hid (PZ.ok ⟨row, [d0], [v0]⟩ = pcell d0 v0) := by show _ = _; simp [PZ.ok, hr, plists]
    obtain ⟨g, o, rfl, x0⟩ := hd.at 0 (by simp)
    obtain ⟨h, q, rfl, y0⟩ := hv.at 0 (by simp)
    simp only [List.getElem_cons_zero, Nat.add_zero] at x0 y0
    have S0 : P1S w (w.alloc (.cells #[.int .i64 row, .slice (some ⟨g, o, none⟩) 1 dc, .slice (some ⟨h, q, none⟩) 1 vc] 97)) w.heap.size row (.slice (some ⟨g, o, none⟩) 1 dc) (.slice (some ⟨h, q, none⟩) 1 vc) g o d0 h q v0 := ⟨B0, gkc G0 x0, gkc G0 y0, G0⟩
    clear B0 G0 hd hv x0 y0
    go_enter Tryz.func235, Tryz.ntmps235
    go_wp2_with fail
    go_fit (l1Place_any _ _)
    rintro e w' ⟨rfl, rfl⟩
    rw [hr]
    go_wp2_with fail
    generalize w.alloc (.cells #[.int .i64 row, .slice (some ⟨g, o, none⟩) 1 dc, .slice (some ⟨h, q, none⟩) 1 vc] 97) = W0 at *
    generalize w.heap.size = bb at *
    go_loopw [4] (fun i wr => P1S w wr bb row (.slice (some ⟨g, o, none⟩) 1 dc) (.slice (some ⟨h, q, none⟩) 1 vc) g o d0 h q v0 ∧ ((i = .int .i64 0) ∨ (i = .int .i64 1 ∧ Hid (pcell d0 v0 = true)))) (fun i _ => 1 - (intOf i).toNat)
    case atStart => exact ⟨S0, .inl rfl⟩
    case round =>
      clear S0
      obtain ⟨S, hk⟩ := hrel
      rcases hk with rfl | ⟨rfl, H1⟩
      · cases hD : inB d0 0 4
        · go_wp2_with fail
          refine region_calm (fun w' => P1S w w' bb row (.slice (some ⟨g, o, none⟩) 1 dc) (.slice (some ⟨h, q, none⟩) 1 vc) g o d0 h q v0) (by kernel_rfl) (by kernel_rfl) (S.kept (gdrew (grefl wr) 1)) ?_
          repeat (first
            | (refine calm_skip (by rfl) ?_; simp only [Act.put, List.setIfInBounds_toArray, List.set_cons_zero, List.set_cons_succ])
            | (refine calm_step (by rfl) ?_
               apply Exists.intro
               refine ⟨fun w' hw' => ?_, ?_⟩
               · go_simp
                 first | done | exact rfl | (go_at_call 151; go_fit (l1Disk_any _ _); rintro e w8 ⟨rfl, rfl⟩; rw [hD]; exact ⟨rfl, hw'⟩)
               simp only [Act.put, List.setIfInBounds_toArray, List.set_cons_zero, List.set_cons_succ]))
          refine calm_nil ?_
          intro w9 hw9
          go_wp2_with fail
          go_ret
          exact ⟨ret_bool (by rw [HO.out]; simp [pcell, okv, hD]), hw9.2.2.2⟩
        cases hV : inB v0 0 32767
        · go_wp2_with fail
          refine region_calm (fun w' => P1S w w' bb row (.slice (some ⟨g, o, none⟩) 1 dc) (.slice (some ⟨h, q, none⟩) 1 vc) g o d0 h q v0) (by kernel_rfl) (by kernel_rfl) (S.kept (gdrew (grefl wr) 1)) ?_
          repeat (first
            | (refine calm_skip (by rfl) ?_; simp only [Act.put, List.setIfInBounds_toArray, List.set_cons_zero, List.set_cons_succ])
            | (refine calm_step (by rfl) ?_
               apply Exists.intro
               refine ⟨fun w' hw' => ?_, ?_⟩
               · go_simp
                 first | done | exact rfl | (go_at_call 151; go_fit (l1Disk_any _ _); rintro e w8 ⟨rfl, rfl⟩; rw [hD]; exact ⟨rfl, hw'⟩) | (go_at_call 227; go_fit (l1Value_any _ _); rintro e w8 ⟨rfl, rfl⟩; rw [hV]; exact ⟨rfl, hw'⟩)
               simp only [Act.put, List.setIfInBounds_toArray, List.set_cons_zero, List.set_cons_succ]))
          refine calm_nil ?_
          intro w9 hw9
          go_wp2_with fail
          go_ret
          exact ⟨ret_bool (by rw [HO.out]; simp [pcell, okv, hD, hV]), hw9.2.2.2⟩
        have HP : Hid (pcell d0 v0 = true) := by show _ = _; simp [pcell, okv, hD, hV]
        go_wp2_with fail
        refine region_calm (fun w' => P1S w w' bb row (.slice (some ⟨g, o, none⟩) 1 dc) (.slice (some ⟨h, q, none⟩) 1 vc) g o d0 h q v0) (by kernel_rfl) (by kernel_rfl) (S.kept (gdrew (grefl wr) 1)) ?_
        repeat (first
          | (refine calm_skip (by rfl) ?_; simp only [Act.put, List.setIfInBounds_toArray, List.set_cons_zero, List.set_cons_succ])
          | (refine calm_step (by rfl) ?_
             apply Exists.intro
             refine ⟨fun w' hw' => ?_, ?_⟩
             · go_simp
               first | done | exact rfl | (go_at_call 151; go_fit (l1Disk_any _ _); rintro e w8 ⟨rfl, rfl⟩; rw [hD]; exact ⟨rfl, hw'⟩) | (go_at_call 227; go_fit (l1Value_any _ _); rintro e w8 ⟨rfl, rfl⟩; rw [hV]; exact ⟨rfl, hw'⟩)
             simp only [Act.put, List.setIfInBounds_toArray, List.set_cons_zero, List.set_cons_succ]))
        refine calm_nil ?_
        intro w9 hw9
        go_wp2_with fail
        go_roundw
        case rel => exact ⟨hw9, .inr ⟨rfl, HP⟩⟩
        case measure => simp [intOf]
      · go_wp2_with fail
        go_ret
        exact ⟨ret_bool (by rw [HO.out]; rw [H1.out]), S.2.2.2⟩
  | [d0, d1], [v0, v1], _ =>
    have HO : Hid (PZ.ok ⟨row, [d0, d1], [v0, v1]⟩ = (pcell d0 v0 && (pcell d1 v1 && decide (d0 < d1)))) := by show _ = _; simp [PZ.ok, hr, plists]
    obtain ⟨g, o, rfl, x0⟩ := hd.at 0 (by simp)
    obtain ⟨h, q, rfl, y0⟩ := hv.at 0 (by simp)
    obtain ⟨g', o', e1, x1⟩ := hd.at 1 (by simp)
    obtain ⟨h', q', e2, y1⟩ := hv.at 1 (by simp)
    cases e1
    cases e2
    simp only [List.getElem_cons_zero, List.getElem_cons_succ, Nat.add_zero] at x0 y0 x1 y1
    have S0 : P2S w (w.alloc (.cells #[.int .i64 row, .slice (some ⟨g, o, none⟩) 2 dc, .slice (some ⟨h, q, none⟩) 2 vc] 97)) w.heap.size row (.slice (some ⟨g, o, none⟩) 2 dc) (.slice (some ⟨h, q, none⟩) 2 vc) g o d0 d1 h q v0 v1 := ⟨B0, ⟨gkc G0 x0, gkc G0 x1⟩, ⟨gkc G0 y0, gkc G0 y1⟩, G0⟩
    clear B0 G0 hd hv x0 y0 x1 y1
    go_enter Tryz.func235, Tryz.ntmps235
    go_wp2_with fail
    go_fit (l1Place_any _ _)
    rintro e w' ⟨rfl, rfl⟩
    rw [hr]
    go_wp2_with fail
    generalize w.alloc (.cells #[.int .i64 row, .slice (some ⟨g, o, none⟩) 2 dc, .slice (some ⟨h, q, none⟩) 2 vc] 97) = W0 at *
    generalize w.heap.size = bb at *
    go_loopw [4] (fun i wr => P2S w wr bb row (.slice (some ⟨g, o, none⟩) 2 dc) (.slice (some ⟨h, q, none⟩) 2 vc) g o d0 d1 h q v0 v1 ∧ ((i = .int .i64 0) ∨ (i = .int .i64 1 ∧ Hid (pcell d0 v0 = true)) ∨ (i = .int .i64 2 ∧ Hid (pcell d0 v0 = true ∧ pcell d1 v1 = true ∧ d0 < d1)))) (fun i _ => 2 - (intOf i).toNat)
    case atStart => exact ⟨S0, .inl rfl⟩
    case round =>
      clear S0
      obtain ⟨S, hk⟩ := hrel
      rcases hk with rfl | ⟨rfl, H1⟩ | ⟨rfl, H2⟩
      · cases hD : inB d0 0 4
        · go_wp2_with fail
          refine region_calm (fun w' => P2S w w' bb row (.slice (some ⟨g, o, none⟩) 2 dc) (.slice (some ⟨h, q, none⟩) 2 vc) g o d0 d1 h q v0 v1) (by kernel_rfl) (by kernel_rfl) (S.kept (gdrew (grefl wr) 1)) ?_
          repeat (first
            | (refine calm_skip (by rfl) ?_; simp only [Act.put, List.setIfInBounds_toArray, List.set_cons_zero, List.set_cons_succ])
            | (refine calm_step (by rfl) ?_
               apply Exists.intro
               refine ⟨fun w' hw' => ?_, ?_⟩
               · go_simp
                 first | done | exact rfl | (go_at_call 151; go_fit (l1Disk_any _ _); rintro e w8 ⟨rfl, rfl⟩; rw [hD]; exact ⟨rfl, hw'⟩)
               simp only [Act.put, List.setIfInBounds_toArray, List.set_cons_zero, List.set_cons_succ]))
          refine calm_nil ?_
          intro w9 hw9
          go_wp2_with fail
          go_ret
          exact ⟨ret_bool (by rw [HO.out]; simp [pcell, okv, hD]), hw9.2.2.2⟩
        cases hV : inB v0 0 32767
        · go_wp2_with fail
          refine region_calm (fun w' => P2S w w' bb row (.slice (some ⟨g, o, none⟩) 2 dc) (.slice (some ⟨h, q, none⟩) 2 vc) g o d0 d1 h q v0 v1) (by kernel_rfl) (by kernel_rfl) (S.kept (gdrew (grefl wr) 1)) ?_
          repeat (first
            | (refine calm_skip (by rfl) ?_; simp only [Act.put, List.setIfInBounds_toArray, List.set_cons_zero, List.set_cons_succ])
            | (refine calm_step (by rfl) ?_
               apply Exists.intro
               refine ⟨fun w' hw' => ?_, ?_⟩
               · go_simp
                 first | done | exact rfl | (go_at_call 151; go_fit (l1Disk_any _ _); rintro e w8 ⟨rfl, rfl⟩; rw [hD]; exact ⟨rfl, hw'⟩) | (go_at_call 227; go_fit (l1Value_any _ _); rintro e w8 ⟨rfl, rfl⟩; rw [hV]; exact ⟨rfl, hw'⟩)
               simp only [Act.put, List.setIfInBounds_toArray, List.set_cons_zero, List.set_cons_succ]))
          refine calm_nil ?_
          intro w9 hw9
          go_wp2_with fail
          go_ret
          exact ⟨ret_bool (by rw [HO.out]; simp [pcell, okv, hD, hV]), hw9.2.2.2⟩
        have HP : Hid (pcell d0 v0 = true) := by show _ = _; simp [pcell, okv, hD, hV]
        go_wp2_with fail
        refine region_calm (fun w' => P2S w w' bb row (.slice (some ⟨g, o, none⟩) 2 dc) (.slice (some ⟨h, q, none⟩) 2 vc) g o d0 d1 h q v0 v1) (by kernel_rfl) (by kernel_rfl) (S.kept (gdrew (grefl wr) 1)) ?_
        repeat (first
          | (refine calm_skip (by rfl) ?_; simp only [Act.put, List.setIfInBounds_toArray, List.set_cons_zero, List.set_cons_succ])
          | (refine calm_step (by rfl) ?_
             apply Exists.intro
             refine ⟨fun w' hw' => ?_, ?_⟩
             · go_simp
               first | done | exact rfl | (go_at_call 151; go_fit (l1Disk_any _ _); rintro e w8 ⟨rfl, rfl⟩; rw [hD]; exact ⟨rfl, hw'⟩) | (go_at_call 227; go_fit (l1Value_any _ _); rintro e w8 ⟨rfl, rfl⟩; rw [hV]; exact ⟨rfl, hw'⟩)
             simp only [Act.put, List.setIfInBounds_toArray, List.set_cons_zero, List.set_cons_succ]))
        refine calm_nil ?_
        intro w9 hw9
        go_wp2_with fail
        go_roundw
        case rel => exact ⟨hw9, .inr (.inl ⟨rfl, HP⟩)⟩
        case measure => simp [intOf]
      · cases hD : inB d1 0 4
        · go_wp2_with fail
          refine region_calm (fun w' => P2S w w' bb row (.slice (some ⟨g, o, none⟩) 2 dc) (.slice (some ⟨h, q, none⟩) 2 vc) g o d0 d1 h q v0 v1) (by kernel_rfl) (by kernel_rfl) (S.kept (gdrew (grefl wr) 1)) ?_
          repeat (first
            | (refine calm_skip (by rfl) ?_; simp only [Act.put, List.setIfInBounds_toArray, List.set_cons_zero, List.set_cons_succ])
            | (refine calm_step (by rfl) ?_
               apply Exists.intro
               refine ⟨fun w' hw' => ?_, ?_⟩
               · go_simp
                 first | done | exact rfl | (go_at_call 151; go_fit (l1Disk_any _ _); rintro e w8 ⟨rfl, rfl⟩; rw [hD]; exact ⟨rfl, hw'⟩)
               simp only [Act.put, List.setIfInBounds_toArray, List.set_cons_zero, List.set_cons_succ]))
          refine calm_nil ?_
          intro w9 hw9
          go_wp2_with fail
          go_ret
          exact ⟨ret_bool (by rw [HO.out]; simp [pcell, okv, hD]), hw9.2.2.2⟩
        cases hV : inB v1 0 32767
        · go_wp2_with fail
          refine region_calm (fun w' => P2S w w' bb row (.slice (some ⟨g, o, none⟩) 2 dc) (.slice (some ⟨h, q, none⟩) 2 vc) g o d0 d1 h q v0 v1) (by kernel_rfl) (by kernel_rfl) (S.kept (gdrew (grefl wr) 1)) ?_
          repeat (first
            | (refine calm_skip (by rfl) ?_; simp only [Act.put, List.setIfInBounds_toArray, List.set_cons_zero, List.set_cons_succ])
            | (refine calm_step (by rfl) ?_
               apply Exists.intro
               refine ⟨fun w' hw' => ?_, ?_⟩
               · go_simp
                 first | done | exact rfl | (go_at_call 151; go_fit (l1Disk_any _ _); rintro e w8 ⟨rfl, rfl⟩; rw [hD]; exact ⟨rfl, hw'⟩) | (go_at_call 227; go_fit (l1Value_any _ _); rintro e w8 ⟨rfl, rfl⟩; rw [hV]; exact ⟨rfl, hw'⟩)
               simp only [Act.put, List.setIfInBounds_toArray, List.set_cons_zero, List.set_cons_succ]))
          refine calm_nil ?_
          intro w9 hw9
          go_wp2_with fail
          go_ret
          exact ⟨ret_bool (by rw [HO.out]; simp [pcell, okv, hD, hV]), hw9.2.2.2⟩
        by_cases hlt : d0 < d1
        · have hle : decide (d1 ≤ d0) = false := decide_eq_false (by omega)
          have hw0 : IntKind.i64.wrap 0 = 0 := by decide
          have HP : Hid (pcell d0 v0 = true ∧ pcell d1 v1 = true ∧ d0 < d1) := ⟨H1.out, by simp [pcell, okv, hD, hV], hlt⟩
          clear hlt
          go_wp2_with fail
          refine region_calm (fun w' => P2S w w' bb row (.slice (some ⟨g, o, none⟩) 2 dc) (.slice (some ⟨h, q, none⟩) 2 vc) g o d0 d1 h q v0 v1) (by kernel_rfl) (by kernel_rfl) (S.kept (gdrew (grefl wr) 1)) ?_
          repeat (first
            | (refine calm_skip (by rfl) ?_; simp only [Act.put, List.setIfInBounds_toArray, List.set_cons_zero, List.set_cons_succ])
            | (refine calm_step (by rfl) ?_
               apply Exists.intro
               refine ⟨fun w' hw' => ?_, ?_⟩
               · go_simp
                 first | done | exact rfl | (go_at_call 151; go_fit (l1Disk_any _ _); rintro e w8 ⟨rfl, rfl⟩; rw [hD]; exact ⟨rfl, hw'⟩) | (go_at_call 227; go_fit (l1Value_any _ _); rintro e w8 ⟨rfl, rfl⟩; rw [hV]; exact ⟨rfl, hw'⟩)
               simp only [Act.put, List.setIfInBounds_toArray, List.set_cons_zero, List.set_cons_succ]))
          refine calm_nil ?_
          intro w9 hw9
          go_wp2_with fail
          go_roundw
          case rel => exact ⟨hw9, .inr (.inr ⟨rfl, HP⟩)⟩
          case measure => simp [intOf]
        · have hle : decide (d1 ≤ d0) = true := decide_eq_true (by omega)
          have hw0 : IntKind.i64.wrap 0 = 0 := by decide
          have HP : Hid (decide (d0 < d1) = false) := decide_eq_false hlt
          clear hlt
          go_wp2_with fail
          refine region_calm (fun w' => P2S w w' bb row (.slice (some ⟨g, o, none⟩) 2 dc) (.slice (some ⟨h, q, none⟩) 2 vc) g o d0 d1 h q v0 v1) (by kernel_rfl) (by kernel_rfl) (S.kept (gdrew (grefl wr) 1)) ?_
          repeat (first
            | (refine calm_skip (by rfl) ?_; simp only [Act.put, List.setIfInBounds_toArray, List.set_cons_zero, List.set_cons_succ])
            | (refine calm_step (by rfl) ?_
               apply Exists.intro
               refine ⟨fun w' hw' => ?_, ?_⟩
               · go_simp
                 first | done | exact rfl | (go_at_call 151; go_fit (l1Disk_any _ _); rintro e w8 ⟨rfl, rfl⟩; rw [hD]; exact ⟨rfl, hw'⟩) | (go_at_call 227; go_fit (l1Value_any _ _); rintro e w8 ⟨rfl, rfl⟩; rw [hV]; exact ⟨rfl, hw'⟩)
               simp only [Act.put, List.setIfInBounds_toArray, List.set_cons_zero, List.set_cons_succ]))
          refine calm_nil ?_
          intro w9 hw9
          go_wp2_with fail
          go_ret
          exact ⟨ret_bool (by rw [HO.out]; rw [HP.out]; simp), hw9.2.2.2⟩
      · go_wp2_with fail
        go_ret
        exact ⟨ret_bool (by rw [HO.out]; obtain ⟨a, b, c⟩ := H2.out; simp [a, b, c]), S.2.2.2⟩
  | [], _, h => simp at h
  | [_], [], h => simp at h
  | [_], _ :: _ :: _, h => simp at h
  | [_, _], [], h => simp at h
  | [_, _], [_], h => simp at h
  | [_, _], _ :: _ :: _ :: _, h => simp at h
  | _ :: _ :: _ :: _, _, h => simp at h
end Go.Proofs.YteialkknddpbjaaGreatDoor
namespace Go.Proofs.YteialkknddpbjaaGreatDoor
open Go.ChangeShapes Go.WideShapes Go.ChangeAt Go.RowKit

/-- a patch in a variable, its slices own their memory -/
structure PBox (w : World) (b B : Nat) (p : PZ) (dv vv : Value) : Prop where
  c0 : At w b 0 (.int .i64 p.row)
  c1 : At w b 1 dv
  c2 : At w b 2 vv
  ds : IS w B dv p.ds
  vs : IS w B vv p.vs
  ap : Apart dv vv
  db : dv.ownBlock ≠ some b
  vb : vv.ownBlock ≠ some b
section
variable {w w' : World} {b B : Nat} {p : PZ} {dv vv : Value}
theorem PBox.kept (h : PBox w b B p dv vv) (g : w.grownBy w' none) : PBox w' b B p dv vv := ⟨gk g h.c0, gk g h.c1, gk g h.c2, h.ds.grew g, h.vs.grew g, h.ap, h.db, h.vb⟩
theorem PBox.lt (h : PBox w b B p dv vv) : b < w.heap.size := cell_lt h.c0.1
theorem PBox.other {c o : Nat} (h : PBox w b B p dv vv) (hc : c ≠ b) (hd : dv.ownBlock ≠ some c) (hv : vv.ownBlock ≠ some c) (u : Value) : PBox (w.setCell ⟨c, o, none⟩ u) b B p dv vv :=
  ⟨h.c0.other (by intro e; cases e; exact hc rfl) u, h.c1.other (by intro e; cases e; exact hc rfl) u, h.c2.other (by intro e; cases e; exact hc rfl) u, Own.other h.ds hd u, Own.other h.vs hv u, h.ap, h.db, h.vb⟩
/-- append onto Disks -/
theorem PBox.app1 (h : PBox w b B p dv vv) {v : Value} {m : List Int} (g : w.grownBy w' dv.ownBlock) (hv : IS w' B v (p.ds ++ m)) (hat : v.ownBlock = dv.ownBlock ∨ v.ownBlock = some w.heap.size) :
    PBox (w'.setCell ⟨b, 1, none⟩ v) b B { p with ds := p.ds ++ m } v vv := by
  have hb : v.ownBlock ≠ some b := lies_ne hat h.db h.lt
  have ha : Apart v vv := lies_apart hat h.ap fun k hk => (h.vs.lt k hk).2
  exact ⟨(gkr g h.db h.c0).other (by simp) _, (gkr g h.db h.c1).same _, (gkr g h.db h.c2).other (by simp) _, Own.other hv hb _, Own.other (h.vs.kept g h.ap.symm) h.vb _, ha, hb, h.vb⟩
/-- append onto Values -/
theorem PBox.app2 (h : PBox w b B p dv vv) {v : Value} {m : List Int} (g : w.grownBy w' vv.ownBlock) (hv : IS w' B v (p.vs ++ m)) (hat : v.ownBlock = vv.ownBlock ∨ v.ownBlock = some w.heap.size) :
    PBox (w'.setCell ⟨b, 2, none⟩ v) b B { p with vs := p.vs ++ m } dv v := by
  have hb : v.ownBlock ≠ some b := lies_ne hat h.vb h.lt
  have ha : Apart v dv := lies_apart hat h.ap.symm fun k hk => (h.ds.lt k hk).2
  exact ⟨(gkr g h.vb h.c0).other (by simp) _, (gkr g h.vb h.c1).other (by simp) _, (gkr g h.vb h.c2).same _, Own.other (h.ds.kept g h.ap) h.db _, Own.other hv hb _, ha.symm, h.db, hb⟩
end
/-- a new patch, and whether -/
def GotP (p : PZ) (ok : Bool) (w : World) (e : Ending) (w' : World) : Prop := ∃ dv vv, e = .returned (.tuple #[.agg #[.int .i64 p.row, dv, vv], .bool ok]) ∧ IS w' w.heap.size dv p.ds ∧ IS w' w.heap.size vv p.vs ∧ Apart dv vv ∧ w.grownBy w' none
/-- the result variable of three cells -/
structure Zero3 (w : World) (r : Nat) : Prop where
  c0 : At w r 0 (.int .i64 0)
  c1 : At w r 1 (.slice none 0 0)
  c2 : At w r 2 (.slice none 0 0)
theorem Zero3.new (w : World) : Zero3 (w.alloc (.cells #[.int .i64 0, .slice none 0 0, .slice none 0 0] 97)) w.heap.size := ⟨by simp [At, go_sem], by simp [At, go_sem], by simp [At, go_sem]⟩
theorem Zero3.kept {w w' : World} {r : Nat} {x : Option Nat} (h : Zero3 w r) (g : w.grownBy w' x) (hx : x ≠ some r) : Zero3 w' r := ⟨gkr g hx h.c0, gkr g hx h.c1, gkr g hx h.c2⟩
def set3 (w : World) (r : Nat) (x0 x1 x2 : Value) : World := ((w.setCell ⟨r, 0, none⟩ x0).setCell ⟨r, 1, none⟩ x1).setCell ⟨r, 2, none⟩ x2
theorem gset3 {a w : World} {r : Nat} (h : a.grownBy w none) (hr : a.heap.size ≤ r) (x0 x1 x2 : Value) : a.grownBy (set3 w r x0 x1 x2) none := gset1 (gset1 (gset1 h hr _ _) hr _ _) hr _ _
theorem ret_zero3 {w w' : World} {r : Nat} (h : w.grownBy w' none) (hr : w.heap.size ≤ r) : GotP .zero false w (.returned (.tuple #[.agg #[.int .i64 0, .slice none 0 0, .slice none 0 0], .bool false])) (set3 w' r (.int .i64 0) (.slice none 0 0) (.slice none 0 0)) :=
  ⟨_, _, rfl, Own.nil _ _ _, Own.nil _ _ _, .inl rfl, gset3 h hr _ _ _⟩
theorem Rd.only {α : Type} {E : Elt α} {S : Nat → Prop} {w w' : World} {v : Value} {l : List α} (h : Rd E w v l) (o : Only S w w') (hv : ∀ k, v.ownBlock = some k → ¬ S k) : Rd E w' v l := by
  obtain ⟨a, cap, h1, h2, h3, h4 | ⟨g, o', h5, h6, h7⟩⟩ := h
  · exact ⟨a, cap, h1, h2, h3, .inl h4⟩
  · have hg : ¬ S g := hv g (by rw [h1, h5]; rfl)
    refine ⟨a, cap, h1, h2, h3, .inr ⟨g, o', h5, by have := o.size; omega, fun j u hj => ?_⟩⟩
    exact (World.cell?_of_block (w := w) (o.block g h6 hg)).trans (h7 j u hj)
theorem Box3.only {S : Nat → Prop} {w w' : World} {b : Nat} {x0 x1 x2 : Value} (h : Box3 w b x0 x1 x2) (k : Only S w w') (hb : ¬ S b) : Box3 w' b x0 x1 x2 := ⟨only_cell h.1 k hb, only_cell h.2.1 k hb, only_cell h.2.2 k hb⟩
end Go.Proofs.YteialkknddpbjaaGreatDoor
