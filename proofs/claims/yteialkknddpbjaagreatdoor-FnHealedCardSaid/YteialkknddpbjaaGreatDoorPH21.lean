/- What the program's functions of chapter 7 return: puts, changes, PatchOk. The puts of a change, as the program's putsOf returns them. -/
import Derived.BigQuiet
import Derived.Deep.RegionHeld3
import Derived.Test.YteialkknddpbjaaGreatDoorPH05
import Derived.Test.YteialkknddpbjaaGreatDoorPH07
import Derived.Test.YteialkknddpbjaaGreatDoorPH15
namespace Go.Proofs.YteialkknddpbjaaGreatDoor
open Go.ChangeShapes Go.WideShapes Go.ChangeAt Go.RowKit

def putV (d v : Int) : Value := .agg #[.int .i64 d, .int .i64 v]
/-- what putIn reads -/
abbrev PiS (w' : World) (b : Nat) (row : Int) (dv vv : Value) (g o : Nat) (d : Int) (h q : Nat) (v : Int) (r : Nat) : Prop := Box3 w' b (.int .i64 row) dv vv ∧ w'.cell? ⟨g, o, none⟩ = some (.int .i64 d) ∧ w'.cell? ⟨h, q, none⟩ = some (.int .i64 v) ∧ Live w' r 0 ∧ Live w' r 1
def setP2 (w : World) (r : Nat) (x0 x1 : Value) : World := (w.setCell ⟨r, 0, none⟩ x0).setCell ⟨r, 1, none⟩ x1
theorem gsetP2 {a w : World} {r : Nat} (h : a.grownBy w none) (hr : a.heap.size ≤ r) (x0 x1 : Value) : a.grownBy (setP2 w r x0 x1) none := gset1 (gset1 h hr _ _) hr _ _
section
variable {w' : World} {b : Nat} {row : Int} {dv vv : Value} {g o : Nat} {d : Int} {h q : Nat} {v : Int} {r : Nat}
theorem PiS.drew (s : PiS w' b row dv vv g o d h q v r) : PiS w'.drew b row dv vv g o d h q v r := s
theorem PiS.set (s : PiS w' b row dv vv g o d h q v r) (hb : r ≠ b) (hg : r ≠ g) (hh : r ≠ h) (y0 y1 : Value) : PiS (setP2 w' r y0 y1) b row dv vv g o d h q v r := by
  have hn : ∀ (W : World) (c p q : Nat) (x : Value), r ≠ c → (W.setCell ⟨r, p, none⟩ x).cell? ⟨c, q, none⟩ = W.cell? ⟨c, q, none⟩ := fun W c p q x hb => World.cell?_setCell_other W _ _ x (fun e => hb (by cases e; rfl))
  obtain ⟨⟨s0, s1, s2⟩, s3, s4, s5, s6⟩ := s
  refine ⟨⟨?_, ?_, ?_⟩, ?_, ?_, ?_, ?_⟩ <;> unfold setP2
  · rw [hn _ _ _ _ _ hb, hn _ _ _ _ _ hb]; exact s0
  · rw [hn _ _ _ _ _ hb, hn _ _ _ _ _ hb]; exact s1
  · rw [hn _ _ _ _ _ hb, hn _ _ _ _ _ hb]; exact s2
  · rw [hn _ _ _ _ _ hg, hn _ _ _ _ _ hg]; exact s3
  · rw [hn _ _ _ _ _ hh, hn _ _ _ _ _ hh]; exact s4
  · exact (s5.set _).set _
  · exact (s6.set _).set _
end
set_option maxRecDepth 8000 in
set_option maxHeartbeats 1000000 in
theorem putIn_any (row : Int) (ds vs : List Int) (dv vv : Value) (k : Nat) (w : World) (hd : IR w dv ds) (hv : IR w vv vs) (h1 : k < ds.length) (h2 : k < vs.length) :
    Calls Tryz.prog 247 #[.agg #[.int .i64 row, dv, vv], .int .i64 k] w (Pure (putV ds[k] vs[k]) w) := by
  obtain ⟨da, dc, rfl, dm⟩ := hd.form
  obtain ⟨va, vc, rfl, vm⟩ := hv.form
  obtain ⟨g, o, rfl, x0⟩ := hd.at k h1
  obtain ⟨h, q, rfl, y0⟩ := hv.at k h2
  have hk1 : (k : Int) < ds.length := by omega
  have hk2 : (k : Int) < vs.length := by omega
  generalize ds[k] = d at *
  generalize vs[k] = v at *
  have B0 := Box3.new w (.int .i64 row) (.slice (some ⟨g, o, none⟩) ds.length dc) (.slice (some ⟨h, q, none⟩) vs.length vc) 97
  have G0 := galloc (grefl w) (.cells #[.int .i64 row, .slice (some ⟨g, o, none⟩) ds.length dc, .slice (some ⟨h, q, none⟩) vs.length vc] 97)
  have hs0 : (w.alloc (.cells #[.int .i64 row, .slice (some ⟨g, o, none⟩) ds.length dc, .slice (some ⟨h, q, none⟩) vs.length vc] 97)).heap.size = w.heap.size + 1 := by simp
  have lg := cell_lt x0
  have lh := cell_lt y0
  go_enter Tryz.func247, Tryz.ntmps247
  go_upto_region 1 with (fail)
  generalize w.alloc (.cells #[.int .i64 row, .slice (some ⟨g, o, none⟩) ds.length dc, .slice (some ⟨h, q, none⟩) vs.length vc] 97) = W0 at *
  have A0 : At (W0.alloc (.cells #[.int .i64 0, .int .i64 0] 174)) (w.heap.size + 1) 0 (.int .i64 0) := by rw [← hs0]; simp [At, go_sem]
  have A1 : At (W0.alloc (.cells #[.int .i64 0, .int .i64 0] 174)) (w.heap.size + 1) 1 (.int .i64 0) := by rw [← hs0]; simp [At, go_sem]
  have G1 := galloc (grefl W0) (.cells #[.int .i64 0, .int .i64 0] 174)
  have G2 := gtrans G0 G1
  have S0 : PiS (W0.alloc (.cells #[.int .i64 0, .int .i64 0] 174)) w.heap.size row _ _ g (o + k) d h (q + k) v (w.heap.size + 1) := ⟨B0.kept G1, gkc G2 x0, gkc G2 y0, A0.live, A1.live⟩
  generalize W0.alloc (.cells #[.int .i64 0, .int .i64 0] 174) = W1 at *
  clear x0 y0 B0 G0 G1 hd hv hs0
  have hR := gsetP2 (r := w.heap.size + 1) (gtrans G2 (gdrew (grefl W1) 1)) (by omega) (.int .i64 d) (.int .i64 v)
  go_region_held3 (fun w' => PiS w' w.heap.size row (.slice (some ⟨g, o, none⟩) ds.length dc) (.slice (some ⟨h, q, none⟩) vs.length vc) g (o + k) d h (q + k) v (w.heap.size + 1)) (first | assumption | exact S0.drew | exact PiS.set ‹PiS _ _ _ _ _ _ _ _ _ _ _ _› (by omega) (by omega) (by omega) _ _) (fail)
  obtain ⟨z0, -⟩ := A0
  obtain ⟨z1, -⟩ := A1
  go_wp2_with fail
  exact bodyPost_ret (v := putV d v) (by simp [putV, results, Tryz.results247, go_sem, z0, z1]) rfl ⟨rfl, hR⟩
theorem putIn0 (row : Int) (ds vs : List Int) (dv vv : Value) (w : World) (hd : IR w dv ds) (hv : IR w vv vs) (h1 : 0 < ds.length) (h2 : 0 < vs.length) :
    Calls Tryz.prog 247 #[.agg #[.int .i64 row, dv, vv], .int .i64 0] w (Pure (putV ds[0] vs[0]) w) := putIn_any row ds vs dv vv 0 w hd hv h1 h2
theorem putIn1 (row : Int) (ds vs : List Int) (dv vv : Value) (w : World) (hd : IR w dv ds) (hv : IR w vv vs) (h1 : 1 < ds.length) (h2 : 1 < vs.length) :
    Calls Tryz.prog 247 #[.agg #[.int .i64 row, dv, vv], .int .i64 1] w (Pure (putV ds[1] vs[1]) w) := putIn_any row ds vs dv vv 1 w hd hv h1 h2
set_option maxHeartbeats 1000000 in
theorem validPut_any (d v : Int) (w : World) :
    Calls Tryz.prog 274 #[.agg #[.int .i64 d, .int .i64 v]] w (Pure (.bool (pcell d v)) w) := by
  have G0 := galloc (grefl w) (.cells #[.int .i64 d, .int .i64 v] 174)
  cases hD : inB d 0 4
  · have HP : Hid (pcell d v = false) := by show _ = _; simp [pcell, hD]
    go_enter Tryz.func274, Tryz.ntmps274
    go_wp2_with fail
    go_fit (between_any _ _ _ _)
    rintro e w2 ⟨rfl, rfl⟩
    rw [hD]
    go_wp2_with fail
    go_ret
    exact ⟨ret_bool HP.out.symm, G0⟩
  have HP : Hid (pcell d v = inB v 0 32767) := by show _ = _; simp [pcell, okv, hD]
  go_enter Tryz.func274, Tryz.ntmps274
  go_wp2_with fail
  go_fit (between_any _ _ _ _)
  rintro e w2 ⟨rfl, rfl⟩
  rw [hD]
  go_wp2_with fail
  go_fit (implValueOk_any _ _)
  rintro e w2 ⟨rfl, rfl⟩
  go_wp2_with fail
  go_ret
  exact ⟨ret_bool HP.out.symm, G0⟩
/-- a change as the program keeps it -/
def oneV (d v : Int) : Value := .iface 221 (.agg #[.int .i64 d, .int .i64 v])
def twoV (d0 v0 d1 v1 : Int) : Value := .iface 223 (.agg #[.int .i64 d0, .int .i64 v0, .int .i64 d1, .int .i64 v1])
def chV : List Int → List Int → Value
  | [d0], [v0] => oneV d0 v0
  | [d0, d1], [v0, v1] => twoV d0 v0 d1 v1
  | _, _ => .nilIface
theorem chV_len {ds vs : List Int} (h : ¬ (1 ≤ ds.length ∧ ds.length ≤ 2 ∧ vs.length = ds.length)) : chV ds vs = .nilIface := by
  unfold chV
  split
  · simp at h
  · simp at h
  · rfl
/-- what changeIn reads -/
abbrev CiS (w w' : World) (b : Nat) (row : Int) (dv vv : Value) : Prop := Box3 w' b (.int .i64 row) dv vv ∧ w.grownBy w' none
theorem CiS.kept {w w' w2 : World} {b : Nat} {row : Int} {dv vv : Value} (s : CiS w w' b row dv vv) (k : w'.grownBy w2 none) : CiS w w2 b row dv vv := ⟨s.1.kept k, gtrans s.2 k⟩
set_option maxRecDepth 8000 in
set_option maxHeartbeats 2000000 in
theorem changeIn_any (row : Int) (ds vs : List Int) (dv vv : Value) (w : World) (hd : IR w dv ds) (hv : IR w vv vs) :
    Calls Tryz.prog 191 #[.agg #[.int .i64 row, dv, vv]] w (Pure (chV ds vs) w) := by
  obtain ⟨da, dc, rfl, dm⟩ := hd.form
  obtain ⟨va, vc, rfl, vm⟩ := hv.form
  have B0 := Box3.new w (.int .i64 row) (.slice da ds.length dc) (.slice va vs.length vc) 97
  have G0 := galloc (grefl w) (.cells #[.int .i64 row, .slice da ds.length dc, .slice va vs.length vc] 97)
  by_cases hl : ds.length = vs.length
  rotate_left
  · have HF := Lib.hid (chV_len (ds := ds) (vs := vs) (by omega))
    have h3 : ((ds.length : Int) != (vs.length : Int)) = true := bne_iff_ne.2 (by omega)
    clear hl
    go_enter Tryz.func191, Tryz.ntmps191
    go_wp2_with fail
    go_ret
    exact ⟨by rw [HF.out]; rfl, G0⟩
  have h3 : ((ds.length : Int) != (vs.length : Int)) = false := by rw [hl]; simp
  by_cases hn : 1 ≤ ds.length ∧ ds.length ≤ 2
  rotate_left
  · have HF := Lib.hid (chV_len (ds := ds) (vs := vs) (by omega))
    have h1 : ((ds.length : Int) == 1) = false := by simp; omega
    have h2 : ((ds.length : Int) == 2) = false := by simp; omega
    clear hl hn
    go_enter Tryz.func191, Tryz.ntmps191
    go_wp2_with fail
    go_ret
    exact ⟨by rw [HF.out]; rfl, G0⟩
  have HLn := Lib.hid hl
  have hn1 := hn.1
  have hn2 := hn.2
  match ds, vs, HLn with
  | [d0], [v0], _ =>
    clear hl h3 hn hn1 hn2 HLn
    have hd0 := hd.kept G0
    have hv0 := hv.kept G0
    go_enter Tryz.func191, Tryz.ntmps191
    go_wp2_with fail
    go_fit (putIn0 row [d0] [v0] _ _ _ hd0 hv0 (by simp) (by simp))
    rintro e w2 ⟨rfl, g2⟩
    simp only [List.getElem_cons_zero, putV]
    go_wp2_with fail
    go_ret
    exact ⟨rfl, gtrans G0 g2⟩
  | [d0, d1], [v0, v1], _ =>
    clear hl h3 hn hn1 hn2 HLn
    have hd0 := hd.kept G0
    have hv0 := hv.kept G0
    have S0 : CiS w (w.alloc (.cells #[.int .i64 row, .slice da [d0, d1].length dc, .slice va [v0, v1].length vc] 97)) w.heap.size row _ _ := ⟨B0, G0⟩
    clear B0 G0
    go_enter Tryz.func191, Tryz.ntmps191
    go_upto_region 7 with (fail)
    simp only [List.length_cons, List.length_nil, Nat.zero_add, Nat.reduceAdd] at S0 hd0 hv0 hd hv
    generalize w.alloc (.cells #[.int .i64 row, .slice da 2 dc, .slice va 2 vc] 97) = W0 at *
    generalize w.heap.size = bb at *
    refine region_calm (fun w' => CiS w w' bb row (.slice da 2 dc) (.slice va 2 vc)) (by kernel_rfl) (by kernel_rfl) (S0.kept (gdrew (grefl W0) 1)) ?_
    repeat (first
      | (refine calm_skip (by rfl) ?_; simp only [Act.put, List.setIfInBounds_toArray, List.set_cons_zero, List.set_cons_succ])
      | (refine calm_step (by rfl) ?_
         apply Exists.intro
         refine ⟨fun w' hw' => ?_, ?_⟩
         · go_simp
           first | done | exact rfl | (go_at_call 247; go_fit (putIn0 row [d0, d1] [v0, v1] _ _ _ (hd.kept hw'.2) (hv.kept hw'.2) (by simp) (by simp)); rintro e w8 ⟨rfl, g8⟩; simp only [List.getElem_cons_zero, putV]; exact ⟨rfl, CiS.kept hw' g8⟩) | (go_at_call 247; go_fit (putIn1 row [d0, d1] [v0, v1] _ _ _ (hd.kept hw'.2) (hv.kept hw'.2) (by simp) (by simp)); rintro e w8 ⟨rfl, g8⟩; simp only [List.getElem_cons_succ, List.getElem_cons_zero, putV]; exact ⟨rfl, CiS.kept hw' g8⟩)
         simp only [Act.put, List.setIfInBounds_toArray, List.set_cons_zero, List.set_cons_succ]))
    refine calm_nil ?_
    intro w9 hw9
    go_wp2_with fail
    go_ret
    exact ⟨rfl, hw9.2⟩
  | [], _, _ => simp at hn1
  | _ :: _ :: _ :: _, _, _ => simp at hn2
section
variable (v : Value) (w : World)
theorem as_one_one : (Instr.typeAssert (.iface 221 v) 171 221 true).run Tryz.prog w = .ok (.tuple #[v, .bool true]) w := by kernel_rfl
theorem as_two_one : (Instr.typeAssert (.iface 223 v) 171 221 true).run Tryz.prog w = .ok (.tuple #[.agg #[.int .i64 0, .int .i64 0], .bool false]) w := by kernel_rfl
theorem as_two_two : (Instr.typeAssert (.iface 223 v) 171 223 true).run Tryz.prog w = .ok (.tuple #[v, .bool true]) w := by kernel_rfl
theorem as_nil_one : (Instr.typeAssert .nilIface 171 221 true).run Tryz.prog w = .ok (.tuple #[.agg #[.int .i64 0, .int .i64 0], .bool false]) w := by kernel_rfl
theorem as_nil_two : (Instr.typeAssert .nilIface 171 223 true).run Tryz.prog w = .ok (.tuple #[.agg #[.int .i64 0, .int .i64 0, .int .i64 0, .int .i64 0], .bool false]) w := by kernel_rfl
end
attribute [local go_sem] as_one_one as_two_one as_two_two as_nil_one as_nil_two
set_option maxRecDepth 8000 in
set_option maxHeartbeats 1000000 in
theorem validChange_any (ds vs : List Int) (w : World) :
    Calls Tryz.prog 246 #[chV ds vs] w (Pure (.bool (plists ds vs)) w) := by
  unfold chV
  split
  · next d0 v0 =>
    have G0 := galloc (grefl w) (.cells #[.int .i64 d0, .int .i64 v0] 221)
    have HP : Hid (plists [d0] [v0] = pcell d0 v0) := rfl
    unfold oneV
    go_enter Tryz.func246, Tryz.ntmps246
    go_wp2_with fail
    go_fit (validPut_any _ _ _)
    rintro e w2 ⟨rfl, g2⟩
    go_wp2_with fail
    go_ret
    exact ⟨ret_bool HP.out.symm, gtrans G0 g2⟩
  · next d0 d1 v0 v1 =>
    have HP : Hid (plists [d0, d1] [v0, v1] = (pcell d0 v0 && (pcell d1 v1 && decide (d0 < d1)))) := rfl
    have B0 := Box4.new w (.int .i64 d0) (.int .i64 v0) (.int .i64 d1) (.int .i64 v1) 223
    have G0 := galloc (grefl w) (.cells #[.int .i64 d0, .int .i64 v0, .int .i64 d1, .int .i64 v1] 223)
    unfold twoV
    go_enter Tryz.func246, Tryz.ntmps246
    go_upto_region 7 with (fail)
    generalize w.alloc (.cells #[.int .i64 d0, .int .i64 v0, .int .i64 d1, .int .i64 v1] 223) = W0 at *
    generalize w.heap.size = bb at *
    obtain ⟨b0, b1, b2, b3⟩ := B0
    cases hP : pcell d0 v0
    · have HF : Hid (plists [d0, d1] [v0, v1] = false) := by show _ = _; rw [HP.out, hP]; rfl
      go_wp2_with fail
      go_fit (validPut_any _ _ _)
      rintro e w2 ⟨rfl, g2⟩
      rw [hP]
      go_wp2_with fail
      go_ret
      exact ⟨ret_bool HF.out.symm, gtrans G0 g2⟩
    cases hQ : pcell d1 v1
    · have HF : Hid (plists [d0, d1] [v0, v1] = false) := by show _ = _; rw [HP.out, hP, hQ]; rfl
      go_wp2_with fail
      go_fit (validPut_any _ _ _)
      rintro e w2 ⟨rfl, g2⟩
      rw [hP]
      have b2 := gkc g2 b2
      have b3 := gkc g2 b3
      go_wp2_with fail
      go_fit (validPut_any _ _ _)
      rintro e w3 ⟨rfl, g3⟩
      rw [hQ]
      go_wp2_with fail
      go_ret
      exact ⟨ret_bool HF.out.symm, gtrans (gtrans G0 g2) g3⟩
    have HF : Hid (plists [d0, d1] [v0, v1] = decide (d0 < d1)) := by show _ = _; rw [HP.out, hP, hQ]; rfl
    go_wp2_with fail
    go_fit (validPut_any _ _ _)
    rintro e w2 ⟨rfl, g2⟩
    rw [hP]
    replace b0 := gkc g2 b0
    replace b2 := gkc g2 b2
    replace b3 := gkc g2 b3
    go_wp2_with fail
    go_fit (validPut_any _ _ _)
    rintro e w3 ⟨rfl, g3⟩
    rw [hQ]
    replace b0 := gkc g3 b0
    replace b2 := gkc g3 b2
    go_wp2_with fail
    go_ret
    exact ⟨ret_bool HF.out.symm, gtrans (gtrans G0 g2) g3⟩
  · next h1 h2 =>
    have HP : Hid (plists ds vs = false) := by
      show _ = _
      unfold plists
      split
      · exact absurd rfl (h1 _ _ rfl)
      · exact absurd rfl (h2 _ _ _ _ rfl)
      · rfl
    go_enter Tryz.func246, Tryz.ntmps246
    go_wp2_with fail
    go_ret
    exact ⟨ret_bool HP.out.symm, grefl _⟩
set_option maxHeartbeats 1000000 in
theorem implPatchOk_any (p : PZ) (dv vv : Value) (w : World) (hd : IR w dv p.ds) (hv : IR w vv p.vs) :
    Calls Tryz.prog 189 #[.agg #[.int .i64 p.row, dv, vv]] w (Pure (.bool p.ok) w) := by
  obtain ⟨row, ds, vs⟩ := p
  dsimp only at *
  obtain ⟨da, dc, rfl, dm⟩ := hd.form
  obtain ⟨va, vc, rfl, vm⟩ := hv.form
  have B0 := Box3.new w (.int .i64 row) (.slice da ds.length dc) (.slice va vs.length vc) 97
  have G0 := galloc (grefl w) (.cells #[.int .i64 row, .slice da ds.length dc, .slice va vs.length vc] 97)
  cases hr : inB row 0 15
  · have HF : Hid (PZ.ok ⟨row, ds, vs⟩ = false) := by show _ = _; simp [PZ.ok, hr]
    go_enter Tryz.func189, Tryz.ntmps189
    go_wp2_with fail
    go_fit (between_any _ _ _ _)
    rintro e w2 ⟨rfl, rfl⟩
    rw [hr]
    go_wp2_with fail
    go_ret
    exact ⟨ret_bool HF.out.symm, G0⟩
  have HF : Hid (PZ.ok ⟨row, ds, vs⟩ = plists ds vs) := by show _ = _; simp [PZ.ok, hr]
  go_enter Tryz.func189, Tryz.ntmps189
  go_wp2_with fail
  go_fit (between_any _ _ _ _)
  rintro e w2 ⟨rfl, rfl⟩
  rw [hr]
  go_wp2_with fail
  go_fit (changeIn_any row ds vs _ _ _ (hd.kept G0) (hv.kept G0))
  rintro e w3 ⟨rfl, g3⟩
  go_wp2_with fail
  go_fit (validChange_any ds vs _)
  rintro e w4 ⟨rfl, g4⟩
  go_wp2_with fail
  go_ret
  exact ⟨ret_bool HF.out.symm, gtrans (gtrans G0 g3) g4⟩
end Go.Proofs.YteialkknddpbjaaGreatDoor
namespace Go.Proofs.YteialkknddpbjaaGreatDoor
open Go.ChangeShapes Go.WideShapes Go.ChangeAt Go.RowKit
attribute [local go_sem] as_one_one as_two_one as_two_two as_nil_one as_nil_two

def putE : Elt (Int × Int) where
  T := 174
  S := 169
  size := 2
  bytes := 16
  z := .agg #[.int .i64 0, .int .i64 0]
  enc := fun p => [.int .i64 p.1, .int .i64 p.2]
  len := fun _ => rfl
  one := fun x u hu => by simp at hu; rcases hu with rfl | rfl <;> rfl
  pos := by omega
  und := Tryz.underlying169
  info := by kernel_rfl
  zs := rfl
def chP : List Int → List Int → List (Int × Int)
  | [d0], [v0] => [(d0, v0)]
  | [d0, d1], [v0, v1] => [(d0, v0), (d1, v1)]
  | _, _ => []
def GotPuts (l : List (Int × Int)) (w : World) (e : Ending) (w' : World) : Prop := ∃ v, e = .returned v ∧ Own putE w' w.heap.size v l ∧ w.grownBy w' none
theorem Own.put_at {w : World} {base n cap : Nat} {a : Option Addr} {l : List (Int × Int)} (h : Own putE w base (.slice a n cap) l) (i : Nat) (hi : i < l.length) :
    ∃ g, a = some ⟨g, 0, none⟩ ∧ g < w.heap.size ∧ At w g (i * 2) (.int .i64 l[i].1) ∧ At w g (i * 2 + 1) (.int .i64 l[i].2) := by
  obtain ⟨g, h1, h2, h3, h4⟩ := Own.at h i hi
  exact ⟨g, h1, h3, h4 0 _ rfl, h4 1 _ rfl⟩
set_option maxRecDepth 8000 in
set_option maxHeartbeats 1000000 in
theorem putsOf_any (ds vs : List Int) (w : World) :
    Calls Tryz.prog 190 #[chV ds vs] w (GotPuts (chP ds vs) w) := by
  unfold chV
  split
  · next d0 v0 =>
    have F := Own.fresh putE (base := w.heap.size) (w.alloc (.cells #[.int .i64 d0, .int .i64 v0] 221)) [(d0, v0)] #[.int .i64 d0, .int .i64 v0] rfl (by simp) (by simp)
    have G := galloc (galloc (grefl w) (.cells #[.int .i64 d0, .int .i64 v0] 221)) (.cells #[.int .i64 d0, .int .i64 v0] 174)
    rw [show (w.alloc (.cells #[.int .i64 d0, .int .i64 v0] 221)).heap.size = w.heap.size + 1 by simp] at F
    unfold oneV
    go_enter Tryz.func190, Tryz.ntmps190
    go_wp2_with fail
    go_ret
    exact ⟨_, rfl, F, G⟩
  · next d0 d1 v0 v1 =>
    have F := Own.fresh putE (base := w.heap.size) (w.alloc (.cells #[.int .i64 d0, .int .i64 v0, .int .i64 d1, .int .i64 v1] 223)) [(d0, v0), (d1, v1)] #[.int .i64 d0, .int .i64 v0, .int .i64 d1, .int .i64 v1] rfl (by simp) (by simp)
    have G := galloc (galloc (grefl w) (.cells #[.int .i64 d0, .int .i64 v0, .int .i64 d1, .int .i64 v1] 223)) (.cells #[.int .i64 d0, .int .i64 v0, .int .i64 d1, .int .i64 v1] 174)
    rw [show (w.alloc (.cells #[.int .i64 d0, .int .i64 v0, .int .i64 d1, .int .i64 v1] 223)).heap.size = w.heap.size + 1 by simp] at F
    unfold twoV
    go_enter Tryz.func190, Tryz.ntmps190
    go_wp2_with fail
    go_ret
    exact ⟨_, rfl, F, G⟩
  · next h1 h2 =>
    have HP : Hid (chP ds vs = []) := by
      show _ = _
      unfold chP
      split
      · exact absurd rfl (h1 _ _ rfl)
      · exact absurd rfl (h2 _ _ _ _ rfl)
      · rfl
    go_enter Tryz.func190, Tryz.ntmps190
    go_wp2_with fail
    go_ret
    exact ⟨_, rfl, by rw [HP.out]; exact Own.nil _ _ _, grefl _⟩
theorem ok_lists {p : PZ} (h : p.ok = true) : chP p.ds p.vs = p.ds.zip p.vs ∧ p.vs.length = p.ds.length ∧ 1 ≤ p.ds.length ∧ p.ds.length ≤ 2 ∧ ∀ i (h : i < p.ds.length), 0 ≤ p.ds[i] := by
  obtain ⟨row, ds, vs⟩ := p
  simp only [PZ.ok, Bool.and_eq_true] at h
  obtain ⟨-, h⟩ := h
  unfold plists at h
  split at h
  · next d0 v0 =>
    simp only [pcell, Bool.and_eq_true, inB_iff] at h
    refine ⟨rfl, rfl, by simp, by simp, fun i hi => ?_⟩
    have : i = 0 := by simp at hi; exact hi
    subst this
    exact h.1.1
  · next d0 d1 v0 v1 =>
    simp only [pcell, Bool.and_eq_true, inB_iff] at h
    refine ⟨rfl, rfl, by simp, by simp, fun i hi => ?_⟩
    match i, hi with
    | 0, _ => exact h.1.1.1
    | 1, _ => exact h.2.1.1.1
  · cases h
end Go.Proofs.YteialkknddpbjaaGreatDoor
