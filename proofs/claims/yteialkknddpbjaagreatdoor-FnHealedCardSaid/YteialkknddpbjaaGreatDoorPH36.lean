/- What the specification's operations on arrays return that copy an array and then change the copy (chapters 10 and 11). Written by genspecx.py. -/
import Derived.Test.YteialkknddpbjaaGreatDoorPH29
import Derived.Test.YteialkknddpbjaaGreatDoorPH34
import Derived.Test.YteialkknddpbjaaGreatDoorPH35
namespace Go.Proofs.YteialkknddpbjaaGreatDoor
open Go.ChangeShapes Go.WideShapes Go.ChangeAt Go.RowKit
attribute [local go_sem] str_list str_size str_add lit_list0 add_lit lit_add str_cut

theorem ok_good {a : AZ} (hok : a.ok = true) : DGood a.ds := by
  obtain ⟨hl5, hd16⟩ := ds_small (AZ.ok_ds hok)
  refine ⟨hl5, fun d hd => ?_⟩
  obtain ⟨i, hi, rfl⟩ := List.getElem_of_mem hd
  have o := disksOk_at (AZ.ok_ds hok) i hi
  refine ⟨?_, (hd16 i hi).2⟩
  unfold DZ.ok at o
  cases hdd : a.ds[i].dead <;> simp [hdd] at o
  · exact o.2.2.2
  · rw [o.2.1, o.2.2]
def rottedZ (a : AZ) (d p y : Int) : AZ := if a.ok then a.rotted d p y else .zero
def rottedOk (a : AZ) (d p y : Int) : Bool := a.ok && rotOk a d p y
set_option maxRecDepth 8000 in
set_option maxHeartbeats 4000000 in
theorem specRots_any (v : Value) (a : AZ) (d p y : Int) (w : World) (h : LD w v a.ds) (h1 : a.log.length ≤ 1100000) (h2 : a.next.length ≤ 1100000) :
    Calls Tryz.prog 22 #[a.val v, .int .i64 d, .int .i64 p, .int .i64 y] w (GotAB (rottedZ a d p y) (rottedOk a d p y) w) := by
  obtain ⟨xa, cap, rfl, hm⟩ := h.form
  obtain ⟨B0, Z0, G0, s0⟩ := two_new w (.slice xa a.ds.length cap) (.string (str a.log)) (.string (str a.next)) (.int .i64 a.stage) (.bool a.up) 26
  go_enter Tryz.func22, Tryz.ntmps22
  go_upto_region 1 with (fail)
  generalize (w.alloc (.cells #[.slice xa a.ds.length cap, .string (str a.log), .string (str a.next), .int .i64 a.stage, .bool a.up] 26)).alloc zero5 = W0 at *
  have HB0 := Lib.hid B0
  obtain ⟨p0, p1, p2, p3, p4⟩ := B0
  cases hok : a.ok
  · have HE : Hid (rottedZ a d p y = .zero ∧ rottedOk a d p y = false) := by constructor <;> simp [rottedZ, rottedOk, hok]
    go_wp2_with fail
    go_fit (specArrayOk_any _ a _ (h.kept G0) h1 h2)
    rintro e w1 ⟨rfl, g1⟩
    rw [hok]
    obtain ⟨⟨z0, y0⟩, ⟨z1, y1⟩, ⟨z2, y2⟩, ⟨z3, y3⟩, ⟨z4, y4⟩⟩ := Z0.kept g1 (by simp)
    have hs1 := g1.size
    have hR := res5l (OD.nil w1 w1.heap.size) (r := w.heap.size + 1) (by omega) (by omega) (gtrans G0 g1) (.slice none 0 0) (.string ⟨#[]⟩) (.string ⟨#[]⟩) (.int .i64 0) (.bool false)
    go_wp2_with fail
    exact bodyPost_ret (v := .tuple #[.agg #[.slice none 0 0, .string ⟨#[]⟩, .string ⟨#[]⟩, .int .i64 0, .bool false], .bool false]) (by simp [results, Tryz.results22, go_sem, z0, z1, z2, z3, z4]) rfl ⟨_, [], by rw [HE.out.1, HE.out.2]; rfl, by rw [HE.out.1]; exact hR.1, hR.2⟩
  have HE : Hid (rottedZ a d p y = a.rotted d p y ∧ rottedOk a d p y = (rotOk a d p y)) := by constructor <;> simp [rottedZ, rottedOk, hok]
  obtain ⟨hl5, hd16⟩ := ds_small (AZ.ok_ds hok)
  have HGd : Hid (DGood a.ds) := ok_good hok
  have HRw : Hid (rowsZ a.ds ≤ 16) := (ok_good hok).rows
  have HLn : Hid (a.log.length ≤ 100000) := by have := (AZ.ok_len hok).1; show _ ≤ _; omega
  have HLn2 : Hid (a.next.length ≤ 100000) := by have := (AZ.ok_len hok).2; show _ ≤ _; omega
  go_wp2_with fail
  go_fit (specArrayOk_any _ a _ (h.kept G0) h1 h2)
  rintro e w1 ⟨rfl, g1⟩
  rw [hok]
  have G1 := gtrans G0 g1
  obtain ⟨c0, c1, c2, c3, c4⟩ := HB0.out.kept g1
  have hs1 := g1.size
  have Z1 := Z0.kept g1 (by simp)
  clear p0 p1 p2 p3 p4 HB0 g1 Z0 hok
  go_wp2_with fail
  go_fit (l9Copy_any _ a _ (h.kept G1) (by omega) (fun i hi => by have := hd16 i hi; omega))
  rintro e w2 ⟨v2, raw2, rfl, o2, g2⟩
  obtain ⟨va, vn, vc, rfl⟩ := o2.own.sl
  have hs2 := g2.size
  have A2 := ABox.new o2 26
  have e3 := galloc (grefl w2) (.cells #[.slice va vn vc, .string (str a.log), .string (str a.next), .int .i64 a.stage, .bool a.up] 26)
  have G2 := gtrans (gtrans G1 g2) e3
  have Z2 := (Z1.kept g2 (by simp)).kept e3 (by simp)
  have hs3 := e3.size
  clear c0 c1 c2 c3 c4 Z1 o2
  go_upto_region 4 with (fail)
  generalize w2.alloc (.cells #[.slice va vn vc, .string (str a.log), .string (str a.next), .int .i64 a.stage, .bool a.up] 26) = W2 at *
  go_wp2_with fail
  go_fit (l11Rot_any _ _ a _ raw2 d p y _ A2 HGd.out)
  rintro e w3 ⟨rfl, ⟨v3, raw3, A3⟩, O3⟩
  have G3 := O3.grew G2 (ab_lo (by omega) (by omega))
  have Z3 := Z2.only O3 (by intro k; rcases k with k | k <;> omega)
  generalize a.rotted d p y = a3 at *
  obtain ⟨va3, vc3, rfl, -⟩ := A3.od.form
  obtain ⟨c0, c1, c2, c3, c4⟩ := A3.box
  obtain ⟨⟨z0, y0⟩, ⟨z1, y1⟩, ⟨z2, y2⟩, ⟨z3, y3⟩, ⟨z4, y4⟩⟩ := Z3
  have hR := res5 A3.od (r := w.heap.size + 1) (by omega) (by omega) G3 (.slice va3 a3.ds.length vc3) (.string (str a3.log)) (.string (str a3.next)) (.int .i64 a3.stage) (.bool a3.up)
  go_wp2_with fail
  exact bodyPost_ret (v := .tuple #[a3.val (.slice va3 a3.ds.length vc3), .bool (rotOk a d p y)]) (by simp [results, Tryz.results22, go_sem, z0, z1, z2, z3, z4]) rfl ⟨_, raw3, by rw [HE.out.1, HE.out.2], by rw [HE.out.1]; exact hR.1, hR.2⟩
def healedZ (a : AZ) (r : Int) : AZ := if a.ok then a.healed r else .zero
def healedOk (a : AZ) (r : Int) : Bool := a.ok && healOk a r
set_option maxRecDepth 8000 in
set_option maxHeartbeats 4000000 in
theorem specHealed_any (v : Value) (a : AZ) (r : Int) (w : World) (h : LD w v a.ds) (h1 : a.log.length ≤ 1100000) (h2 : a.next.length ≤ 1100000) :
    Calls Tryz.prog 17 #[a.val v, .int .i64 r] w (GotAB (healedZ a r) (healedOk a r) w) := by
  obtain ⟨xa, cap, rfl, hm⟩ := h.form
  obtain ⟨B0, Z0, G0, s0⟩ := two_new w (.slice xa a.ds.length cap) (.string (str a.log)) (.string (str a.next)) (.int .i64 a.stage) (.bool a.up) 26
  go_enter Tryz.func17, Tryz.ntmps17
  go_upto_region 1 with (fail)
  generalize (w.alloc (.cells #[.slice xa a.ds.length cap, .string (str a.log), .string (str a.next), .int .i64 a.stage, .bool a.up] 26)).alloc zero5 = W0 at *
  have HB0 := Lib.hid B0
  obtain ⟨p0, p1, p2, p3, p4⟩ := B0
  cases hok : a.ok
  · have HE : Hid (healedZ a r = .zero ∧ healedOk a r = false) := by constructor <;> simp [healedZ, healedOk, hok]
    go_wp2_with fail
    go_fit (specArrayOk_any _ a _ (h.kept G0) h1 h2)
    rintro e w1 ⟨rfl, g1⟩
    rw [hok]
    obtain ⟨⟨z0, y0⟩, ⟨z1, y1⟩, ⟨z2, y2⟩, ⟨z3, y3⟩, ⟨z4, y4⟩⟩ := Z0.kept g1 (by simp)
    have hs1 := g1.size
    have hR := res5l (OD.nil w1 w1.heap.size) (r := w.heap.size + 1) (by omega) (by omega) (gtrans G0 g1) (.slice none 0 0) (.string ⟨#[]⟩) (.string ⟨#[]⟩) (.int .i64 0) (.bool false)
    go_wp2_with fail
    exact bodyPost_ret (v := .tuple #[.agg #[.slice none 0 0, .string ⟨#[]⟩, .string ⟨#[]⟩, .int .i64 0, .bool false], .bool false]) (by simp [results, Tryz.results17, go_sem, z0, z1, z2, z3, z4]) rfl ⟨_, [], by rw [HE.out.1, HE.out.2]; rfl, by rw [HE.out.1]; exact hR.1, hR.2⟩
  have HE : Hid (healedZ a r = a.healed r ∧ healedOk a r = (healOk a r)) := by constructor <;> simp [healedZ, healedOk, hok]
  obtain ⟨hl5, hd16⟩ := ds_small (AZ.ok_ds hok)
  have HGd : Hid (DGood a.ds) := ok_good hok
  have HRw : Hid (rowsZ a.ds ≤ 16) := (ok_good hok).rows
  have HLn : Hid (a.log.length ≤ 100000) := by have := (AZ.ok_len hok).1; show _ ≤ _; omega
  have HLn2 : Hid (a.next.length ≤ 100000) := by have := (AZ.ok_len hok).2; show _ ≤ _; omega
  go_wp2_with fail
  go_fit (specArrayOk_any _ a _ (h.kept G0) h1 h2)
  rintro e w1 ⟨rfl, g1⟩
  rw [hok]
  have G1 := gtrans G0 g1
  obtain ⟨c0, c1, c2, c3, c4⟩ := HB0.out.kept g1
  have hs1 := g1.size
  have Z1 := Z0.kept g1 (by simp)
  clear p0 p1 p2 p3 p4 HB0 g1 Z0 hok
  go_wp2_with fail
  go_fit (l9Copy_any _ a _ (h.kept G1) (by omega) (fun i hi => by have := hd16 i hi; omega))
  rintro e w2 ⟨v2, raw2, rfl, o2, g2⟩
  obtain ⟨va, vn, vc, rfl⟩ := o2.own.sl
  have hs2 := g2.size
  have A2 := ABox.new o2 26
  have e3 := galloc (grefl w2) (.cells #[.slice va vn vc, .string (str a.log), .string (str a.next), .int .i64 a.stage, .bool a.up] 26)
  have G2 := gtrans (gtrans G1 g2) e3
  have Z2 := (Z1.kept g2 (by simp)).kept e3 (by simp)
  have hs3 := e3.size
  clear c0 c1 c2 c3 c4 Z1 o2
  go_upto_region 4 with (fail)
  generalize w2.alloc (.cells #[.slice va vn vc, .string (str a.log), .string (str a.next), .int .i64 a.stage, .bool a.up] 26) = W2 at *
  go_wp2_with fail
  go_fit (l10Heal_any _ _ a _ raw2 r _ A2 (by omega))
  rintro e w3 ⟨rfl, ⟨v3, raw3, A3⟩, O3⟩
  have G3 := O3.grew G2 (ab_lo (by omega) (by omega))
  have Z3 := Z2.only O3 (by intro k; rcases k with k | k <;> omega)
  generalize a.healed r = a3 at *
  obtain ⟨va3, vc3, rfl, -⟩ := A3.od.form
  obtain ⟨c0, c1, c2, c3, c4⟩ := A3.box
  obtain ⟨⟨z0, y0⟩, ⟨z1, y1⟩, ⟨z2, y2⟩, ⟨z3, y3⟩, ⟨z4, y4⟩⟩ := Z3
  have hR := res5 A3.od (r := w.heap.size + 1) (by omega) (by omega) G3 (.slice va3 a3.ds.length vc3) (.string (str a3.log)) (.string (str a3.next)) (.int .i64 a3.stage) (.bool a3.up)
  go_wp2_with fail
  exact bodyPost_ret (v := .tuple #[a3.val (.slice va3 a3.ds.length vc3), .bool (healOk a r)]) (by simp [results, Tryz.results17, go_sem, z0, z1, z2, z3, z4]) rfl ⟨_, raw3, by rw [HE.out.1, HE.out.2], by rw [HE.out.1]; exact hR.1, hR.2⟩
def replZ (a : AZ) (d : Int) : AZ := if a.ok then a.replacedZ d else .zero
def replOk (a : AZ) (d : Int) : Bool := a.ok && repOk a d
set_option maxRecDepth 8000 in
set_option maxHeartbeats 4000000 in
theorem specReplaced_any (v : Value) (a : AZ) (d : Int) (w : World) (h : LD w v a.ds) (h1 : a.log.length ≤ 1100000) (h2 : a.next.length ≤ 1100000) :
    Calls Tryz.prog 19 #[a.val v, .int .i64 d] w (GotAB (replZ a d) (replOk a d) w) := by
  obtain ⟨xa, cap, rfl, hm⟩ := h.form
  obtain ⟨B0, Z0, G0, s0⟩ := two_new w (.slice xa a.ds.length cap) (.string (str a.log)) (.string (str a.next)) (.int .i64 a.stage) (.bool a.up) 26
  go_enter Tryz.func19, Tryz.ntmps19
  go_upto_region 1 with (fail)
  generalize (w.alloc (.cells #[.slice xa a.ds.length cap, .string (str a.log), .string (str a.next), .int .i64 a.stage, .bool a.up] 26)).alloc zero5 = W0 at *
  have HB0 := Lib.hid B0
  obtain ⟨p0, p1, p2, p3, p4⟩ := B0
  cases hok : a.ok
  · have HE : Hid (replZ a d = .zero ∧ replOk a d = false) := by constructor <;> simp [replZ, replOk, hok]
    go_wp2_with fail
    go_fit (specArrayOk_any _ a _ (h.kept G0) h1 h2)
    rintro e w1 ⟨rfl, g1⟩
    rw [hok]
    obtain ⟨⟨z0, y0⟩, ⟨z1, y1⟩, ⟨z2, y2⟩, ⟨z3, y3⟩, ⟨z4, y4⟩⟩ := Z0.kept g1 (by simp)
    have hs1 := g1.size
    have hR := res5l (OD.nil w1 w1.heap.size) (r := w.heap.size + 1) (by omega) (by omega) (gtrans G0 g1) (.slice none 0 0) (.string ⟨#[]⟩) (.string ⟨#[]⟩) (.int .i64 0) (.bool false)
    go_wp2_with fail
    exact bodyPost_ret (v := .tuple #[.agg #[.slice none 0 0, .string ⟨#[]⟩, .string ⟨#[]⟩, .int .i64 0, .bool false], .bool false]) (by simp [results, Tryz.results19, go_sem, z0, z1, z2, z3, z4]) rfl ⟨_, [], by rw [HE.out.1, HE.out.2]; rfl, by rw [HE.out.1]; exact hR.1, hR.2⟩
  have HE : Hid (replZ a d = a.replacedZ d ∧ replOk a d = (repOk a d)) := by constructor <;> simp [replZ, replOk, hok]
  obtain ⟨hl5, hd16⟩ := ds_small (AZ.ok_ds hok)
  have HGd : Hid (DGood a.ds) := ok_good hok
  have HRw : Hid (rowsZ a.ds ≤ 16) := (ok_good hok).rows
  have HLn : Hid (a.log.length ≤ 100000) := by have := (AZ.ok_len hok).1; show _ ≤ _; omega
  have HLn2 : Hid (a.next.length ≤ 100000) := by have := (AZ.ok_len hok).2; show _ ≤ _; omega
  go_wp2_with fail
  go_fit (specArrayOk_any _ a _ (h.kept G0) h1 h2)
  rintro e w1 ⟨rfl, g1⟩
  rw [hok]
  have G1 := gtrans G0 g1
  obtain ⟨c0, c1, c2, c3, c4⟩ := HB0.out.kept g1
  have hs1 := g1.size
  have Z1 := Z0.kept g1 (by simp)
  clear p0 p1 p2 p3 p4 HB0 g1 Z0 hok
  go_wp2_with fail
  go_fit (l9Copy_any _ a _ (h.kept G1) (by omega) (fun i hi => by have := hd16 i hi; omega))
  rintro e w2 ⟨v2, raw2, rfl, o2, g2⟩
  obtain ⟨va, vn, vc, rfl⟩ := o2.own.sl
  have hs2 := g2.size
  have A2 := ABox.new o2 26
  have e3 := galloc (grefl w2) (.cells #[.slice va vn vc, .string (str a.log), .string (str a.next), .int .i64 a.stage, .bool a.up] 26)
  have G2 := gtrans (gtrans G1 g2) e3
  have Z2 := (Z1.kept g2 (by simp)).kept e3 (by simp)
  have hs3 := e3.size
  clear c0 c1 c2 c3 c4 Z1 o2
  go_upto_region 4 with (fail)
  generalize w2.alloc (.cells #[.slice va vn vc, .string (str a.log), .string (str a.next), .int .i64 a.stage, .bool a.up] 26) = W2 at *
  go_wp2_with fail
  go_fit (l10Replace_any _ _ a _ raw2 d _ A2 HRw.out)
  rintro e w3 ⟨rfl, ⟨v3, raw3, A3⟩, O3⟩
  have G3 := O3.grew G2 (ab_lo (by omega) (by omega))
  have Z3 := Z2.only O3 (by intro k; rcases k with k | k <;> omega)
  generalize a.replacedZ d = a3 at *
  obtain ⟨va3, vc3, rfl, -⟩ := A3.od.form
  obtain ⟨c0, c1, c2, c3, c4⟩ := A3.box
  obtain ⟨⟨z0, y0⟩, ⟨z1, y1⟩, ⟨z2, y2⟩, ⟨z3, y3⟩, ⟨z4, y4⟩⟩ := Z3
  have hR := res5 A3.od (r := w.heap.size + 1) (by omega) (by omega) G3 (.slice va3 a3.ds.length vc3) (.string (str a3.log)) (.string (str a3.next)) (.int .i64 a3.stage) (.bool a3.up)
  go_wp2_with fail
  exact bodyPost_ret (v := .tuple #[a3.val (.slice va3 a3.ds.length vc3), .bool (repOk a d)]) (by simp [results, Tryz.results19, go_sem, z0, z1, z2, z3, z4]) rfl ⟨_, raw3, by rw [HE.out.1, HE.out.2], by rw [HE.out.1]; exact hR.1, hR.2⟩
end Go.Proofs.YteialkknddpbjaaGreatDoor
