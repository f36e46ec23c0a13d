/- What the program's Framed, Noted and Torn return. -/
import Derived.Test.YtnhefdmnpoaegaaGreatDoorImplL08
import Derived.Test.YtnhefdmnpoaegaaGreatDoorSpecL08c
import Derived.Test.YtnhefdmnpoaegaaGreatDoorImplL07t
namespace Go.Proofs.YtnhefdmnpoaegaaGreatDoor
open Go.ChangeShapes Go.WideShapes Go.ChangeAt Go.RowKit
attribute [local go_sem] str_list str_size str_add lit_list0 add_lit lit_add str_cut

theorem str_bytes (l : List UInt8) : (str l).data.toList = l := by simp [str]
theorem itoa_any (n : Nat) (w : World) (hn : n ≤ 1000000) (ht : Pow10 w) :
    Calls Tryz.prog 36 #[.int .i64 n] w (Pure (.string (str (digT n))) w) := by
  go_fit (Tryz.strconv_Itoa n (by omega) (by omega) w ht)
  rintro e w' ⟨rfl, k, os, rfl⟩
  exact ⟨by rw [itoa_dig]; rfl, gGrow w k os⟩
theorem contains_lf (s : List UInt8) (w : World) :
    Calls Tryz.prog 35 #[.string (str s), .string ⟨#[10]⟩] w fun e w' => e = .returned (.bool (!s.all (fun c => c != 10))) ∧ w = w' := by
  go_fit (Tryz.strings_Contains_one (str s) 10 w)
  rintro e w' ⟨rfl, rfl⟩
  exact ⟨by rw [str_bytes, nolf_has], rfl⟩
theorem clone_any (s : List UInt8) (w : World) (hs : s.length ≤ 281474976710656) :
    Calls Tryz.prog 27 #[.string (str s)] w (Pure (.string (str s)) w) := by
  go_enter Tryz.func27, Tryz.ntmps27
  go_wp2_with fail
  go_fit (Tryz.stringslite_Clone (str s) _ (by rw [str_size]; exact hs))
  rintro e w1 ⟨rfl, hb⟩
  go_wp2_with fail
  go_ret
  exact ⟨rfl, below_grown hb⟩
set_option maxRecDepth 8000 in
set_option maxHeartbeats 1000000 in
theorem implFramed_any (s : List UInt8) (w : World) (hs : s.length ≤ 1100000) (ht : Pow10 w) :
    Calls Tryz.prog 12 #[.string (str s)] w (Pure (.string (str (framedZ s))) w) := by
  by_cases hl : 100 < s.length
  · have HZ : Hid (framedZ s = []) := framedZ_no (by unfold plainT; rw [decide_eq_false (by omega), Bool.and_false])
    have hli : (100 : Int) < s.length := by omega
    go_enter Tryz.func12, Tryz.ntmps12
    go_wp2_with fail
    go_ret
    exact ⟨ret_str (by rw [HZ.out]), grefl _⟩
  have hli : ¬ (100 : Int) < s.length := by omega
  cases ha : s.all (fun c => c != 10)
  · have HZ : Hid (framedZ s = []) := framedZ_no (by unfold plainT; rw [ha]; rfl)
    go_enter Tryz.func12, Tryz.ntmps12
    go_wp2_with fail
    go_fit (contains_lf s _)
    rintro e w' ⟨rfl, rfl⟩
    rw [ha]
    go_wp2_with fail
    go_ret
    exact ⟨ret_str (by rw [HZ.out]), grefl _⟩
  have HZ : Hid (framedZ s = frameT s) := framedZ_yes (by unfold plainT; rw [ha, decide_eq_true (by omega)]; rfl)
  have hm := markT_lt s
  have h1 := digT_length s.length 2 (by omega)
  have h2 := digT_length (markT s) 3 (by omega)
  have HT := Lib.hid ht
  clear ht
  go_enter Tryz.func12, Tryz.ntmps12
  go_wp2_with fail
  go_fit (contains_lf s _)
  rintro e w' ⟨rfl, rfl⟩
  rw [ha]
  go_wp2_with fail
  go_fit (itoa_any s.length _ (by omega) HT.out)
  rintro e w1 ⟨rfl, g1⟩
  go_wp2_with fail
  go_fit (markOf_any s _ (by omega))
  rintro e w' ⟨rfl, rfl⟩
  go_wp2_with fail
  go_fit (formatInt_any (markT s) _ (by omega) (HT.out.kept g1))
  rintro e w2 ⟨rfl, g2⟩
  go_wp2_with fail
  go_ret
  exact ⟨ret_str (by rw [HZ.out]; simp [frameT]), gtrans g1 g2⟩
set_option maxRecDepth 8000 in
set_option maxHeartbeats 1000000 in
theorem implNoted_any (l : List UInt8) (p : PZ) (dv vv : Value) (w : World) (hd : IR w dv p.ds) (hv : IR w vv p.vs) (hl : l.length ≤ 1100000) (ht : Pow10 w) :
    Calls Tryz.prog 7 #[.string (str l), .agg #[.int .i64 p.row, dv, vv]] w (Pure (.tuple #[.string (str (notedZ l p)), .bool (notedOk l p)]) w) := by
  obtain ⟨da, dc, rfl, dm⟩ := hd.form
  obtain ⟨va, vc, rfl, vm⟩ := hv.form
  have B0 := Box3.new w (.int .i64 p.row) (.slice da p.ds.length dc) (.slice va p.vs.length vc) 26
  have G0 := galloc (grefl w) (.cells #[.int .i64 p.row, .slice da p.ds.length dc, .slice va p.vs.length vc] 26)
  go_enter Tryz.func7, Tryz.ntmps7
  go_upto_region 1 with (fail)
  have HT := Lib.hid (ht.kept G0)
  clear ht
  generalize w.alloc (.cells #[.int .i64 p.row, .slice da p.ds.length dc, .slice va p.vs.length vc] 26) = W0 at *
  generalize w.heap.size = bb at B0 ⊢
  have HB0 := Lib.hid B0
  obtain ⟨b0, b1, b2⟩ := B0
  go_wp2_with fail
  go_fit (implShowPatch_any p _ _ _ (hd.kept G0) (hv.kept G0) HT.out)
  rintro e w1 ⟨rfl, g1⟩
  have hsl : (showZ p).length ≤ 100 := by
    cases hok : p.ok
    · rw [showZ_no hok]; simp
    · rw [showZ_yes hok]; exact plain_len (text_plain hok)
  have hfl := framedZ_len (showZ p)
  clear b0 b1 b2
  obtain ⟨b0, b1, b2⟩ := HB0.out.kept g1
  replace HB0 := Lib.hid (HB0.out.kept g1)
  have G1 := gtrans G0 g1
  replace HT := Lib.hid (HT.out.kept g1)
  clear G0 g1
  go_wp2_with fail
  go_fit (implFramed_any (showZ p) _ (by omega) HT.out)
  rintro e w2 ⟨rfl, g2⟩
  clear b0 b1 b2
  obtain ⟨b0, b1, b2⟩ := HB0.out.kept g2
  have G2 := gtrans G1 g2
  clear G1 g2 HT HB0
  cases hok : p.ok
  · have HO : Hid (notedOk l p = false) := by show _ = _; simp [notedOk, hok]
    have HZ := Lib.hid (noted_no HO.out)
    go_wp2_with fail
    go_fit (implPatchOk_any p _ _ _ (hd.kept G2) (hv.kept G2))
    rintro e w3 ⟨rfl, g3⟩
    rw [hok]
    go_wp2_with fail
    go_fit (clone_any l _ (by omega))
    rintro e w4 ⟨rfl, g4⟩
    go_wp2_with fail
    go_ret2
    exact ⟨ret_noted HZ.out.symm HO.out.symm, gtrans G2 (gtrans g3 g4)⟩
  have HF : Hid (framedZ (showZ p) = frameT p.text) := by show _ = _; rw [showZ_yes hok, framedZ_yes (text_plain hok)]
  have HO : Hid (notedOk l p = decide (l.length + (frameT p.text).length ≤ 2000)) := by show _ = _; simp [notedOk, hok]
  have HN : Hid (notedOk l p = true → notedZ l p = l ++ frameT p.text) := fun h => noted_yes h
  go_wp2_with fail
  go_fit (implPatchOk_any p _ _ _ (hd.kept G2) (hv.kept G2))
  rintro e w3 ⟨rfl, g3⟩
  rw [hok]
  have hfl2 : (frameT p.text).length ≤ 120 := by rw [← HF.out]; exact hfl
  rw [HF.out]
  have G3 := gtrans G2 g3
  clear HF hsl hfl G2 g3 b0 b1 b2 hok
  generalize frameT p.text = F at *
  by_cases hb : l.length + F.length ≤ 2000
  · have HZ : Hid (notedOk l p = true) := by show _ = _; rw [HO.out]; simpa using hb
    have HY : Hid (notedZ l p = l ++ F) := HN.out HZ.out
    have hbi : ¬ (2000 : Int) < (l.length : Int) + F.length := by omega
    go_wp2_with fail
    go_ret2
    exact ⟨ret_noted HY.out.symm HZ.out.symm, G3⟩
  · have HZ : Hid (notedOk l p = false) := by show _ = _; rw [HO.out]; simpa using hb
    have HY := Lib.hid (noted_no HZ.out)
    have hbi : (2000 : Int) < (l.length : Int) + F.length := by omega
    go_wp2_with fail
    go_fit (clone_any l _ (by omega))
    rintro e w4 ⟨rfl, g4⟩
    go_wp2_with fail
    go_ret2
    exact ⟨ret_noted HY.out.symm HZ.out.symm, gtrans G3 g4⟩
end Go.Proofs.YtnhefdmnpoaegaaGreatDoor
