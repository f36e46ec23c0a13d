/- What the specification's Framed and Noted return. -/
import Derived.Test.YtnhefdmnpoaegaaGreatDoorMathL08p
namespace Go.Proofs.YtnhefdmnpoaegaaGreatDoor
open Go.ChangeShapes Go.WideShapes Go.ChangeAt Go.RowKit
attribute [local go_sem] str_list str_size str_add lit_list0 add_lit lit_add str_cut

theorem specFramed_any (s : List UInt8) (w : World) (hs : s.length ≤ 1100000) :
    Calls Tryz.prog 13 #[.string (str s)] w (Pure (.string (str (framedZ s))) w) := by
  cases hp : plainT s
  · have HZ := Lib.hid (framedZ_no hp)
    go_enter Tryz.func13, Tryz.ntmps13
    go_wp2_with fail
    go_fit (l8Plain_any s _ (by omega))
    rintro e w' ⟨rfl, rfl⟩
    rw [hp]
    go_wp2_with fail
    go_ret
    exact ⟨ret_str (by rw [HZ.out]), grefl _⟩
  · have HZ := Lib.hid (framedZ_yes hp)
    go_enter Tryz.func13, Tryz.ntmps13
    go_wp2_with fail
    go_fit (l8Plain_any s _ (by omega))
    rintro e w' ⟨rfl, rfl⟩
    rw [hp]
    go_wp2_with fail
    go_fit (l8Framed_any s _ hs)
    rintro e w1 ⟨rfl, g1⟩
    go_wp2_with fail
    go_ret
    exact ⟨ret_str (by rw [HZ.out]), g1⟩
/-- whether a patch is noted; the log then -/
def notedOk (l : List UInt8) (p : PZ) : Bool := p.ok && decide (l.length + (frameT p.text).length ≤ 2000)
def notedZ (l : List UInt8) (p : PZ) : List UInt8 := if notedOk l p then l ++ frameT p.text else l
theorem noted_no {l : List UInt8} {p : PZ} (h : notedOk l p = false) : notedZ l p = l := by simp [notedZ, h]
theorem noted_yes {l : List UInt8} {p : PZ} (h : notedOk l p = true) : notedZ l p = l ++ frameT p.text := by simp [notedZ, h]
theorem ret_noted {a b : List UInt8} {x y : Bool} (h1 : a = b) (h2 : x = y) : Ending.returned (.tuple #[.string (str a), .bool x]) = .returned (.tuple #[.string (str b), .bool y]) := by rw [h1, h2]
set_option maxHeartbeats 1000000 in
theorem specNoted_any (l : List UInt8) (p : PZ) (dv vv : Value) (w : World) (hd : IR w dv p.ds) (hv : IR w vv p.vs) (hl : l.length ≤ 1100000) :
    Calls Tryz.prog 11 #[.string (str l), .agg #[.int .i64 p.row, dv, vv]] w (Pure (.tuple #[.string (str (notedZ l p)), .bool (notedOk l p)]) w) := by
  obtain ⟨da, dc, rfl, dm⟩ := hd.form
  obtain ⟨va, vc, rfl, vm⟩ := hv.form
  have B0 := Box3.new w (.int .i64 p.row) (.slice da p.ds.length dc) (.slice va p.vs.length vc) 26
  have G0 := galloc (grefl w) (.cells #[.int .i64 p.row, .slice da p.ds.length dc, .slice va p.vs.length vc] 26)
  go_enter Tryz.func11, Tryz.ntmps11
  go_upto_region 1 with (fail)
  generalize w.alloc (.cells #[.int .i64 p.row, .slice da p.ds.length dc, .slice va p.vs.length vc] 26) = W0 at *
  generalize w.heap.size = bb at B0 ⊢
  have HB0 := Lib.hid B0
  obtain ⟨b0, b1, b2⟩ := B0
  cases hok : p.ok
  · have HO : Hid (notedOk l p = false) := by show _ = _; simp [notedOk, hok]
    have HZ := Lib.hid (noted_no HO.out)
    go_wp2_with fail
    go_fit (specPatchOk_any p _ _ _ (hd.kept G0) (hv.kept G0))
    rintro e w1 ⟨rfl, g1⟩
    rw [hok]
    go_wp2_with fail
    go_ret2
    exact ⟨ret_noted HZ.out.symm HO.out.symm, gtrans G0 g1⟩
  have HF := Lib.hid (ok_fit hok)
  have HPl := Lib.hid (text_plain hok)
  have HO : Hid (notedOk l p = decide (l.length + (frameT p.text).length ≤ 2000)) := by show _ = _; simp [notedOk, hok]
  go_wp2_with fail
  go_fit (specPatchOk_any p _ _ _ (hd.kept G0) (hv.kept G0))
  rintro e w1 ⟨rfl, g1⟩
  rw [hok]
  clear b0 b1 b2 hok
  obtain ⟨b0, b1, b2⟩ := HB0.out.kept g1
  have G1 := gtrans G0 g1
  have htl := plain_len HPl.out
  have hfl := frameT_length p.text (by omega)
  go_wp2_with fail
  go_fit (l7Show_any p _ _ _ (hd.kept G1) (hv.kept G1) HF.out)
  rintro e w2 ⟨rfl, g2⟩
  go_wp2_with fail
  go_fit (l8Framed_any p.text _ (by omega))
  rintro e w3 ⟨rfl, g3⟩
  have G3 := gtrans G1 (gtrans g2 g3)
  clear b0 b1 b2 g2 g3 G1 g1
  have HN : Hid (notedOk l p = true → notedZ l p = l ++ frameT p.text) := fun h => noted_yes h
  generalize frameT p.text = F at *
  by_cases hb : l.length + F.length ≤ 2000
  · have HZ : Hid (notedOk l p = true) := by show _ = _; rw [HO.out]; simpa using hb
    have HY : Hid (notedZ l p = l ++ F) := HN.out HZ.out
    have hbi : ¬ (2000 : Int) < (l.length : Int) + F.length := by omega
    go_wp2_with fail
    go_ret2
    exact ⟨ret_noted HY.out.symm HZ.out.symm, G3⟩
  · have HZ : Hid (notedOk l p = false) := by show _ = _; rw [HO.out]; simpa using hb
    have HY := Lib.hid (noted_no HZ.out)
    have hbi : (2000 : Int) < (l.length : Int) + F.length := by omega
    go_wp2_with fail
    go_ret2
    exact ⟨ret_noted HY.out.symm HZ.out.symm, G3⟩
end Go.Proofs.YtnhefdmnpoaegaaGreatDoor
