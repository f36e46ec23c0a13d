/- What the program's Assembled returns: the log's patches carried out, and all disks flushed. -/
import Derived.Test.YteialkknddpbjaaGreatDoorImplL11r
namespace Go.Proofs.YteialkknddpbjaaGreatDoor
open Go.ChangeShapes Go.WideShapes Go.ChangeAt Go.RowKit

def patchN (a : AZ) (k : Nat) : List DZ := patchAll a.ds ((entsT a.log).take k)
theorem patchN_alike (a : AZ) (k : Nat) : AlikeL a.ds (patchN a k) := patchAll_alike _ _
theorem patchN_next {a : AZ} (h : a.ok = true) {k : Nat} (hk : k < (entsT a.log).length) : patchedZ (patchN a k) (entsT a.log)[k] = patchN a (k + 1) := by
  have h1 : disksOkZ (patchN a k) = true := (patchN_alike a k).disksOk (AZ.ok_ds h)
  have h2 := ents_ok a.log _ (List.getElem_mem hk)
  unfold patchedZ
  rw [h1, h2]
  unfold patchN patchAll
  rw [List.take_succ_eq_append_getElem hk, List.foldl_append]
  rfl
section
attribute [local go_sem] str_list str_size str_add lit_list0 add_lit lit_add str_cut
set_option maxRecDepth 8000 in
set_option maxHeartbeats 4000000 in
theorem implAssembled_any (v : Value) (a : AZ) (w : World) (h : LD w v a.ds) (ht : Pow10 w) (hV : LibV w) :
    Calls Tryz.prog 50 #[a.val v] w (GotAB (assembledZ a) (assembledOk a) w) := by
  obtain ⟨xa, cap, rfl, hm⟩ := h.form
  obtain ⟨B0, Z0, G0, s0⟩ := two_new w (.slice xa a.ds.length cap) (.string (str a.log)) (.string (str a.next)) (.int .i64 a.stage) (.bool a.up) 26
  go_enter Tryz.func50, Tryz.ntmps50
  go_upto_region 1 with (fail)
  generalize (w.alloc (.cells #[.slice xa a.ds.length cap, .string (str a.log), .string (str a.next), .int .i64 a.stage, .bool a.up] 26)).alloc zero5 = W0 at *
  have HB0 := Lib.hid B0
  obtain ⟨p0, p1, p2, p3, p4⟩ := B0
  cases hok : a.ok
  · have HE : Hid (assembledZ a = .zero ∧ assembledOk a = false) := by constructor <;> simp [assembledZ, assembledOk, hok]
    go_wp2_with fail
    go_fit (implArrayOk_any _ a _ (h.kept G0) (ht.kept G0) (hV.kept G0))
    rintro e w1 ⟨rfl, g1⟩
    rw [hok]
    obtain ⟨⟨z0, y0⟩, ⟨z1, y1⟩, ⟨z2, y2⟩, ⟨z3, y3⟩, ⟨z4, y4⟩⟩ := Z0.kept g1 (by simp)
    have hs1 := g1.size
    have hR := res5l (OD.nil w1 w1.heap.size) (r := w.heap.size + 1) (by omega) (by omega) (gtrans G0 g1) (.slice none 0 0) (.string ⟨#[]⟩) (.string ⟨#[]⟩) (.int .i64 0) (.bool false)
    go_wp2_with fail
    exact bodyPost_ret (v := .tuple #[.agg #[.slice none 0 0, .string ⟨#[]⟩, .string ⟨#[]⟩, .int .i64 0, .bool false], .bool false]) (by simp [results, Tryz.results50, go_sem, z0, z1, z2, z3, z4]) rfl ⟨_, [], by rw [HE.out.1, HE.out.2]; rfl, by rw [HE.out.1]; exact hR.1, hR.2⟩
  have HE0 : Hid (assembledZ a = a.assembled ∧ assembledOk a = !a.up) := by constructor <;> simp [assembledZ, assembledOk, hok]
  have HA : Hid (a.ok = true) := hok
  obtain ⟨hl5, hd16⟩ := ds_small (AZ.ok_ds hok)
  have hll := AZ.ok_len hok
  go_wp2_with fail
  go_fit (implArrayOk_any _ a _ (h.kept G0) (ht.kept G0) (hV.kept G0))
  rintro e w1 ⟨rfl, g1⟩
  rw [hok]
  have G1 := gtrans G0 g1
  have HB1 := Lib.hid (HB0.out.kept g1)
  have hs1 := g1.size
  have Z1 := Z0.kept g1 (by simp)
  clear p0 p1 p2 p3 p4 HB0 g1 Z0
  obtain ⟨p0, p1, p2, p3, p4⟩ := HB1.out
  clear hok
  go_wp2_with fail
  go_fit (copiedArray_any _ a _ (h.kept G1) (by omega) (fun i hi => by have := hd16 i hi; omega) (by omega) (by omega))
  rintro e w2 ⟨v2, raw2, rfl, o2, g2⟩
  obtain ⟨va, vc, rfl, -⟩ := o2.form
  have hs2 := g2.size
  have A2 := ABox.new o2 26
  have e3 := galloc (grefl w2) (.cells #[.slice va a.ds.length vc, .string (str a.log), .string (str a.next), .int .i64 a.stage, .bool a.up] 26)
  have G2 := gtrans (gtrans G1 g2) e3
  have HB3 := Lib.hid ((HB1.out.kept g2).kept e3)
  have Z2 := (Z1.kept g2 (by simp)).kept e3 (by simp)
  have hs3 : w2.heap.size < (w2.alloc (.cells #[.slice va a.ds.length vc, .string (str a.log), .string (str a.next), .int .i64 a.stage, .bool a.up] 26)).heap.size := by simp
  clear p0 p1 p2 p3 p4 Z1 o2 e3 HB1
  go_upto_region 4 with (fail)
  generalize w2.alloc (.cells #[.slice va a.ds.length vc, .string (str a.log), .string (str a.next), .int .i64 a.stage, .bool a.up] 26) = W2 at *
  generalize hbb : w2.heap.size = bb at *
  obtain ⟨p0, p1, p2, p3, p4⟩ := HB3.out
  cases hup : a.up
  rotate_left
  · have HE : Hid (assembledZ a = a ∧ assembledOk a = false) := by
      show _ ∧ _
      rw [HE0.out.1, HE0.out.2, hup]; exact ⟨by simp [AZ.assembled, hup], rfl⟩
    obtain ⟨k0, k1, k2, k3, k4⟩ := A2.box
    obtain ⟨⟨z0, y0⟩, ⟨z1, y1⟩, ⟨z2, y2⟩, ⟨z3, y3⟩, ⟨z4, y4⟩⟩ := Z2
    have HRe := Lib.hid (res5 A2.od (r := w.heap.size + 1) (by omega) (by omega) G2 (.slice va a.ds.length vc) (.string (str a.log)) (.string (str a.next)) (.int .i64 a.stage) (.bool a.up))
    rw [hup] at p4
    clear hup
    go_wp2_with fail
    exact bodyPost_ret (v := .tuple #[a.val (.slice va a.ds.length vc), .bool false]) (by simp [results, Tryz.results50, go_sem, z0, z1, z2, z3, z4]) rfl ⟨_, raw2, by rw [HE.out.1, HE.out.2], by rw [HE.out.1]; exact HRe.out.1, HRe.out.2⟩
  have HFa := Lib.hid (flushed_all ((patchN_alike a (entsT a.log).length).disksOk (AZ.ok_ds HA.out)))
  have HE : Hid (assembledZ a = { a with ds := (patchN a (entsT a.log).length).map DZ.flushed, log := [], up := true } ∧ assembledOk a = true) := by
    show _ ∧ _
    rw [HE0.out.1, HE0.out.2, hup, HFa.out]; refine ⟨?_, rfl⟩
    simp only [AZ.assembled, hup, patchN, List.take_length]; rfl
  have HPn : Hid (∀ k (hk : k < (entsT a.log).length), patchedZ (patchN a k) (entsT a.log)[k] = patchN a (k + 1)) := fun k hk => patchN_next HA.out hk
  have HPl : Hid (∀ k, (patchN a k).length = a.ds.length) := fun k => (patchN_alike a k).1
  rw [hup] at p4
  clear HE0 hup HB3 HA HFa
  go_wp2_with fail
  go_fit (implEntries_any a.log _ (by omega) (ht.kept G2) (hV.kept G2))
  rintro e w5 ⟨pv, rawp, rfl, HP, g5⟩
  obtain ⟨pa, pc, rfl, hpm⟩ := HP.form
  have A5 := A2.kept g5
  have Z5 := Z2.kept g5 (by simp)
  have G5 := gtrans G2 g5
  have hs5 := g5.size
  have HPx := Lib.hid HP
  clear HP p0 p1 p2 p3 p4 A2 Z2
  go_wp2_with fail
  go_loopw [20] (fun i wr => ∃ (k : Nat) (v' : Value) (raw' : List DV), k ≤ (entsT a.log).length ∧ i = .int .i64 (k : Int) ∧ ABox wr bb w1.heap.size { a with ds := patchN a k } v' raw' ∧ w5.grownBy wr (some bb)) (fun i _ => (entsT a.log).length - (intOf i).toNat)
  case atStart => exact ⟨0, _, _, Nat.zero_le _, rfl, A5, World.grownBy.refl _ _⟩
  case round =>
    clear A5
    obtain ⟨k, v', raw', hk, rfl, A, GX⟩ := hrel
    obtain ⟨ya, yc, rfl, -⟩ := A.od.form
    have hsx := GX.size
    have GG : w.grownBy wr none := gsub G5 GX (fun q e => by cases e; omega)
    have HLn := Lib.hid (HPl.out k)
    by_cases hlt : k < (entsT a.log).length
    · have hki : (k : Int) < (entsT a.log).length := by omega
      have OPr := HPx.out.only (S := fun q => q = bb) (Only.of GX (fun q e => by cases e; rfl)) (fun q hq e => by omega)
      obtain ⟨pg, po, da, dm, dc, ea, em, ec, rfl, c0, c1, c2, id, iv⟩ := OPr.lp.at k hlt
      have HNx := Lib.hid (HPn.out k hlt)
      generalize hp : (entsT a.log)[k] = p at *
      generalize hL' : patchN a (k + 1) = L' at *
      generalize patchN a k = L at *
      have e7 := galloc (grefl wr) (.cells #[.int .i64 p.row, .slice da dm dc, .slice ea em ec] 97)
      obtain ⟨q0, q1, q2⟩ := Box3.new wr (.int .i64 p.row) (.slice da dm dc) (.slice ea em ec) 97
      have A7 := A.kept e7
      have id7 := id.kept e7
      have iv7 := iv.kept e7
      have G7 : w5.grownBy (wr.alloc (.cells #[.int .i64 p.row, .slice da dm dc, .slice ea em ec] 97)) (some bb) := gsub' GX e7
      clear A OPr id iv e7 hp
      go_upto_region 9 with (fail)
      generalize wr.alloc (.cells #[.int .i64 p.row, .slice da dm dc, .slice ea em ec] 97) = W7 at *
      clear c0 c1 c2
      have LA := A7.od.ld
      dsimp only at LA
      obtain ⟨k0, k1, k2, k3, k4⟩ := A7.box
      dsimp only at k0 k1 k2 k3 k4
      have hs7 := G7.size
      go_wp2_with fail
      go_fit (implPatched_any _ L p _ _ _ LA id7 iv7)
      rintro e w8 ⟨v8, raw8, rfl, o8, g8⟩
      rw [HNx.out] at o8
      obtain ⟨na, nc, rfl, -⟩ := o8.form
      have hA7 := A7.lt
      have hno := o8.not_old (r := bb) hA7
      have A9 := A7.putDisks g8 (by simp) (o8.lower (base' := w1.heap.size) (by omega)) hno.1 hno.2
      have G9 := gset (gsub' G7 g8) 0 (.slice na L'.length nc)
      obtain ⟨n0, f0⟩ := (A7.kept g8).c0
      clear A7 o8 k0 k1 k2 k3 k4 LA id7 iv7
      go_wp2_with fail
      go_roundw
      case rel => exact ⟨k + 1, _, raw8, by omega, by go_num, by rw [hL']; exact A9, G9⟩
      case measure => simp [intOf]; omega
    · obtain rfl : k = (entsT a.log).length := by omega
      have hki : ¬ ((entsT a.log).length : Int) < (entsT a.log).length := by omega
      have ZX := Z5.kept GX (by simp; omega)
      clear HPn HPl HPx Z5
      generalize patchN a (entsT a.log).length = L at *
      have LA := A.od.ld
      dsimp only at LA
      obtain ⟨k0, k1, k2, k3, k4⟩ := A.box
      dsimp only at k0 k1 k2 k3 k4
      have hLl : L.length ≤ 1000 := by have := HLn.out; omega
      go_wp2_with fail
      go_fit (flushedDisks_any _ L _ LA hLl)
      rintro e w8 ⟨v8, raw8, rfl, o8, g8⟩
      generalize L.map DZ.flushed = Z at *
      obtain ⟨na, nc, rfl, -⟩ := o8.form
      have hA := A.lt
      have hs8 := g8.size
      have hno := o8.not_old (r := bb) hA
      have A9 := A.putDisks g8 (by simp) (o8.lower (base' := w1.heap.size) (by omega)) hno.1 hno.2
      have HAx := Lib.hid ((A9.setLog []).setUp true)
      have Z8 := ZX.kept g8 (by simp)
      have Z6 := ((Z8.far (c := bb) (o := 0) (by omega) (.slice na Z.length nc)).far (c := bb) (o := 1) (by omega) (.string (str []))).far (c := bb) (o := 4) (by omega) (.bool true)
      have G6 := gset1 (gset1 (gset1 (gtrans GG g8) (show w.heap.size ≤ bb by omega) 0 (.slice na Z.length nc)) (show w.heap.size ≤ bb by omega) 1 (.string (str []))) (show w.heap.size ≤ bb by omega) 4 (.bool true)
      have A8 := A.kept g8
      obtain ⟨m0, f0⟩ := A8.c0
      obtain ⟨m1, f1⟩ := A8.c1
      obtain ⟨m4, f4⟩ := A8.c4
      clear k0 k1 k2 k3 k4 A A8 A9 ZX Z8 GX GG LA o8
      go_upto_region 13 with (fail)
      change Code.wp _ _ _ _ (((w8.setCell ⟨bb, 0, none⟩ (.slice na Z.length nc)).setCell ⟨bb, 1, none⟩ (.string (str []))).setCell ⟨bb, 4, none⟩ (.bool true))
      generalize ((w8.setCell ⟨bb, 0, none⟩ (.slice na Z.length nc)).setCell ⟨bb, 1, none⟩ (.string (str []))).setCell ⟨bb, 4, none⟩ (.bool true) = W6 at *
      clear m0 f0 m1 f1 m4 f4
      obtain ⟨k0, k1, k2, k3, k4⟩ := HAx.out.box
      dsimp only at k0 k1 k2 k3 k4
      obtain ⟨⟨z0, y0⟩, ⟨z1, y1⟩, ⟨z2, y2⟩, ⟨z3, y3⟩, ⟨z4, y4⟩⟩ := Z6
      have HR := Lib.hid (res5l HAx.out.od (r := w.heap.size + 1) (by omega) (by omega) G6 (.slice na Z.length nc) (.string (str [])) (.string (str a.next)) (.int .i64 a.stage) (.bool true))
      go_wp2_with fail
      exact bodyPost_ret (v := .tuple #[.agg #[.slice na Z.length nc, .string (str []), .string (str a.next), .int .i64 a.stage, .bool true], .bool true]) (by simp [results, Tryz.results50, go_sem, z0, z1, z2, z3, z4]) rfl ⟨_, raw8, (by rw [HE.out.1, HE.out.2]; first | done | rfl), by rw [HE.out.1]; exact HR.out.1, HR.out.2⟩
end
end Go.Proofs.YteialkknddpbjaaGreatDoor
