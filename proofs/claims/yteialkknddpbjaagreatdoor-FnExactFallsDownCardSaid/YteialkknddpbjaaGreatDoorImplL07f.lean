/- What Patched returns, the program's and the specification's. -/
import Derived.Test.YteialkknddpbjaaGreatDoorImplL07d
import Derived.Test.YteialkknddpbjaaGreatDoorImplL06c
import Derived.Test.YteialkknddpbjaaGreatDoorImplL03
import Derived.Test.YteialkknddpbjaaGreatDoorOwnD2
import Derived.Test.YteialkknddpbjaaGreatDoorBaseL03
import Derived.Test.YteialkknddpbjaaGreatDoorLawL07c
import Derived.Deep.RegionLaw
import Derived.Deep.DeepCutAuto
namespace Go.Proofs.YteialkknddpbjaaGreatDoor
open Go.ChangeShapes Go.WideShapes Go.ChangeAt Go.RowKit

theorem written_put {d : DZ} {p v : Int} (h : d.ok = true) : d.written p v = d.put p v := by simp [DZ.written, h]
/-- what a round of Patched holds on to -/
abbrev PwS (w' : World) (q : Nat) (d x : Int) (b : Nat) (row : Int) (g o : Nat) (y0 y1 y2 y3 : Value) : Prop := w'.cell? ⟨q, 0, none⟩ = some (.int .i64 d) ∧ w'.cell? ⟨q, 1, none⟩ = some (.int .i64 x) ∧ w'.cell? ⟨b, 0, none⟩ = some (.int .i64 row) ∧ (w'.cell? ⟨g, o, none⟩ = some y0 ∧ w'.frozen? ⟨g, o, none⟩ = false) ∧ (w'.cell? ⟨g, o + 1, none⟩ = some y1 ∧ w'.frozen? ⟨g, o + 1, none⟩ = false) ∧ (w'.cell? ⟨g, o + 2, none⟩ = some y2 ∧ w'.frozen? ⟨g, o + 2, none⟩ = false) ∧ (w'.cell? ⟨g, o + 3, none⟩ = some y3 ∧ w'.frozen? ⟨g, o + 3, none⟩ = false)
section
variable {w' w2 : World} {q : Nat} {d x : Int} {b : Nat} {row : Int} {g o : Nat} {y0 y1 y2 y3 : Value}
theorem PwS.drew (s : PwS w' q d x b row g o y0 y1 y2 y3) : PwS w'.drew q d x b row g o y0 y1 y2 y3 := s
theorem PwS.kept (s : PwS w' q d x b row g o y0 y1 y2 y3) (k : w'.grownBy w2 none) : PwS w2 q d x b row g o y0 y1 y2 y3 := ⟨gkc k s.1, gkc k s.2.1, gkc k s.2.2.1, gk k s.2.2.2.1, gk k s.2.2.2.2.1, gk k s.2.2.2.2.2.1, gk k s.2.2.2.2.2.2⟩
end
theorem gkf {W w1 : World} {b o : Nat} {v : Value} (g : W.grownBy w1 none) (h : W.cell? ⟨b, o, none⟩ = some v) (f : W.frozen? ⟨b, o, none⟩ = false) : w1.frozen? ⟨b, o, none⟩ = false := (gk g ⟨h, f⟩).2
theorem gsub' {a b c : World} {r : Option Nat} (h : a.grownBy b r) (g : b.grownBy c none) : a.grownBy c r :=
  ⟨g.os.trans h.os, g.tape.trans h.tape, g.output.trans h.output, Nat.le_trans h.size g.size, fun i hi hne => (g.block i (Nat.lt_of_lt_of_le hi h.size) (by simp)).trans (h.block i hi hne)⟩
/-- the disks behind the first k puts -/
theorem patchK_next (l : List DZ) (p : PZ) (k : Nat) (h1 : k < p.ds.length) (h2 : k < p.vs.length) : patchK l p (k + 1) = if p.ds[k] < l.length then (patchK l p k).set p.ds[k].toNat (((patchK l p k).getD p.ds[k].toNat .zero).put p.row p.vs[k]) else patchK l p k := by
  rw [patchK]
  simp only [List.getD_eq_getElem?_getD, List.getElem?_eq_getElem h1, List.getElem?_eq_getElem h2, Option.getD_some]
set_option maxRecDepth 8000 in
set_option maxHeartbeats 4000000 in
theorem implPatched_any (v : Value) (l : List DZ) (p : PZ) (dv vv : Value) (w : World) (h : LD w v l) (hd : IR w dv p.ds) (hv : IR w vv p.vs) :
    Calls Tryz.prog 117 #[v, .agg #[.int .i64 p.row, dv, vv]] w (GotL (patchedZ l p) w) := by
  have HPk := fun k => Lib.hid (patchK_next l p k)
  have HOkL : Hid (p.ok = true → chP p.ds p.vs = p.ds.zip p.vs ∧ p.vs.length = p.ds.length ∧ 1 ≤ p.ds.length ∧ p.ds.length ≤ 2 ∧ ∀ i (h : i < p.ds.length), 0 ≤ p.ds[i]) := fun e => ok_lists e
  have HZ : Hid (patchedZ l p = if disksOkZ l && p.ok then patchZ l p else []) := rfl
  obtain ⟨a, cap, rfl, hm⟩ := h.form
  obtain ⟨da, dc, rfl, dm⟩ := hd.form
  obtain ⟨va, vc, rfl, vm⟩ := hv.form
  have B0 := Box3.new w (.int .i64 p.row) (.slice da p.ds.length dc) (.slice va p.vs.length vc) 97
  have G0 := galloc (grefl w) (.cells #[.int .i64 p.row, .slice da p.ds.length dc, .slice va p.vs.length vc] 97)
  have hbw : w.heap.size < (w.alloc (.cells #[.int .i64 p.row, .slice da p.ds.length dc, .slice va p.vs.length vc] 97)).heap.size := by simp
  go_enter Tryz.func117, Tryz.ntmps117
  go_upto_region 1 with (fail)
  generalize w.alloc (.cells #[.int .i64 p.row, .slice da p.ds.length dc, .slice va p.vs.length vc] 97) = W0 at *
  generalize hbb : w.heap.size = bb at B0 hbw ⊢
  have HW : Hid (w.heap.size = bb) := hbb
  clear hbb
  cases hdk : disksOkZ l
  · have HE : Hid (patchedZ l p = []) := by show _ = _; rw [HZ.out, hdk]; rfl
    go_wp2_with fail
    go_fit (implDisksOk_any _ l _ (h.kept G0))
    rintro e w1 ⟨rfl, g1⟩
    rw [hdk]
    go_wp2_with fail
    go_ret
    exact ⟨_, [], rfl, by rw [HE.out]; exact OD.nil _ _, gtrans G0 g1⟩
  go_wp2_with fail
  go_fit (implDisksOk_any _ l _ (h.kept G0))
  rintro e w1 ⟨rfl, g1⟩
  rw [hdk]
  have G1 := gtrans G0 g1
  replace B0 := B0.kept g1
  have HB0 := Lib.hid B0
  obtain ⟨p0, p1, p2⟩ := B0
  clear g1 G0
  cases hpk : p.ok
  · have HE : Hid (patchedZ l p = []) := by show _ = _; rw [HZ.out, hpk]; simp
    go_wp2_with fail
    go_fit (implPatchOk_any p _ _ _ (hd.kept G1) (hv.kept G1))
    rintro e w2 ⟨rfl, g2⟩
    rw [hpk]
    go_wp2_with fail
    go_ret
    exact ⟨_, [], rfl, by rw [HE.out]; exact OD.nil _ _, gtrans G1 g2⟩
  have HE : Hid (patchedZ l p = patchK l p p.ds.length) := by show _ = _; rw [HZ.out, hdk, hpk]; rfl
  have HL := Lib.hid (HOkL.out hpk)
  have HAll : Hid (allOk l) := fun i hi => disksOk_at hdk i hi
  have hl5 : l.length ≤ 5 := by have := inB_iff.1 (disksOk_parts hdk).1; omega
  clear HOkL HZ
  go_wp2_with fail
  go_fit (implPatchOk_any p _ _ _ (hd.kept G1) (hv.kept G1))
  rintro e w2 ⟨rfl, g2⟩
  rw [hpk]
  have G2 := gtrans G1 g2
  replace HB0 := Lib.hid (HB0.out.kept g2)
  have hb2 : bb < w2.heap.size := cell_lt HB0.out.1
  clear g2 G1 p0 p1 p2 hpk hdk
  go_wp2_with fail
  go_fit (copiedDisks_any _ l _ (h.kept G2) (by omega) (fun i hi => by have := l[i].ok_len (HAll.out i hi); omega))
  rintro e wr ⟨ov, raw, rfl, C, G⟩
  obtain ⟨oa, om, oc, rfl⟩ := C.own.sl
  obtain ⟨b0, b1, b2⟩ := HB0.out.kept G
  have GW := gtrans G2 G
  have hlm : om = l.length := by have := C.form; obtain ⟨_, _, e, _⟩ := this; cases e; rfl
  subst hlm
  have HB1 := Lib.hid (HB0.out.kept G)
  have hlo := G.size
  have hbl : bb < w2.heap.size := hb2
  have HWb : Hid (w.heap.size ≤ w2.heap.size) := G2.size
  clear HB0 hb2 G G2
  go_wp2_with fail
  go_fit (changeIn_any p.row p.ds p.vs _ _ _ (hd.kept GW) (hv.kept GW))
  rintro e w5 ⟨rfl, g5⟩
  have HCh : chV p.ds p.vs = .nilIface ∨ ∃ t u, chV p.ds p.vs = .iface t u := by unfold chV; split; exact .inr ⟨_, _, rfl⟩; exact .inr ⟨_, _, rfl⟩; exact .inl rfl
  have CP := putsOf_any p.ds p.vs
  rw [HL.out.1] at CP
  generalize chV p.ds p.vs = cv at *
  go_wp2_with fail
  go_fit (CP _)
  rintro e w6 ⟨pv, rfl, P, g6⟩
  obtain ⟨pa, pc, rfl, -⟩ := Own.form P
  have g56 := gtrans g5 g6
  have C6 := C.grew g56
  have G6 := gtrans GW g56
  have HB6 := Lib.hid (HB1.out.kept g56)
  have HOb : Hid (∀ j, (Value.slice oa l.length oc).ownBlock = some j → w2.heap.size ≤ j ∧ j < wr.heap.size) := fun j e => C.own.lt j e
  have hzl : (p.ds.zip p.vs).length = p.ds.length := by rw [List.length_zip, HL.out.2.1]; simp
  have hp6 := (gtrans (grefl wr) g5).size
  clear C GW HB1 g5 g6 CP HCh b0 b1 b2
  generalize hpl : p.ds.zip p.vs = L at *
  have HLz := Lib.hid hpl
  have HLl := Lib.hid hzl
  have hL2 : L.length ≤ 2 := by rw [hzl]; exact HL.out.2.2.2.1
  clear hpl hzl
  have hs6 := g56.size
  have HPl : Hid (∀ j, (Value.slice pa L.length pc).ownBlock = some j → wr.heap.size ≤ j ∧ j < w6.heap.size) := fun j e => ⟨by have := (Own.lt P j e).1; omega, (Own.lt P j e).2⟩
  clear g56 HPk
  obtain ⟨Wl, hWl⟩ : ∃ x, x = wr := ⟨_, rfl⟩
  subst hWl
  go_wp2_with fail
  go_loopw [22] (fun i wx => ∃ (k : Nat) (raw' : List DV), k ≤ L.length ∧ i = .int .i64 k ∧ OD wx w2.heap.size (.slice oa l.length oc) (patchK l p k) raw' ∧ w6.grownBy wx (Value.slice oa l.length oc).ownBlock ∧ Hid (allOk (patchK l p k))) (fun i _ => L.length - (intOf i).toNat)
  case atStart => exact ⟨0, raw, Nat.zero_le _, rfl, C6, World.grownBy.refl _ _, HAll⟩
  case round =>
    clear C6
    obtain ⟨k, raw', hk', rfl, C, GX, HA⟩ := hrel
    by_cases hlt : k < L.length
    · have hki : (k : Int) < L.length := by omega
      have k1 : k < p.ds.length := by rw [← HLl.out]; exact hlt
      have k2 : k < p.vs.length := by rw [HL.out.2.1]; exact k1
      have HLk : Hid (L[k].1 = p.ds[k] ∧ L[k].2 = p.vs[k]) := by
        have e := HLz.out
        subst e
        show _ ∧ _
        simp
      have hnn := HL.out.2.2.2.2 k k1
      have HN := Lib.hid (patchK_next l p k k1 k2)
      obtain ⟨g, rfl, lg, ⟨x0, -⟩, ⟨x1, -⟩⟩ := Own.put_at (Own.kept P GX (by
        cases e : (Value.slice pa L.length pc).ownBlock with
        | none => exact .inl rfl
        | some j => refine .inr fun e2 => ?_; have := HPl.out j e; have := HOb.out j e2.symm; omega)) k hlt
      rw [HLk.out.1] at x0
      rw [HLk.out.2] at x1
      obtain ⟨d, hd'⟩ := Int.eq_ofNat_of_zero_le hnn
      rw [hd'] at x0 HN
      generalize p.vs[k] = x at *
      simp only [Int.toNat_natCast] at HN
      clear hnn hd' HLk
      have hplen := patchK_length l p k
      generalize patchK l p k = M at *
      have HBx := Lib.hid (only_cell HB6.out.1 (Only.of GX (fun _ e => e)) (fun e => by have := HOb.out bb e; omega))
      have e2 := galloc (grefl wr) (.cells #[.int .i64 d, .int .i64 x] 174)
      have q0 : (wr.alloc (.cells #[.int .i64 d, .int .i64 x] 174)).cell? ⟨wr.heap.size, 0, none⟩ = some (.int .i64 d) := by simp [go_sem]
      have q1 : (wr.alloc (.cells #[.int .i64 d, .int .i64 x] 174)).cell? ⟨wr.heap.size, 1, none⟩ = some (.int .i64 x) := by simp [go_sem]
      have hq : wr.heap.size < (wr.alloc (.cells #[.int .i64 d, .int .i64 x] 174)).heap.size := by simp
      have hb9 : bb ≠ wr.heap.size := by have := GX.size; omega
      replace HBx := Lib.hid (gkc e2 HBx.out)
      have C1 := C.grew e2
      have GX1 := gsub' GX e2
      have hsx := GX.size
      have HWs : Hid (Wl.heap.size ≤ wr.heap.size) := by show _ ≤ _; omega
      go_upto_if 30 with (fail)
      generalize wr.alloc (.cells #[.int .i64 d, .int .i64 x] 174) = W at *
      generalize wr.heap.size = qb at *
      clear x0 x1 e2 C GX
      by_cases hin : (d : Int) < l.length
      rotate_left
      · rw [if_neg hin] at HN
        go_wp2_with fail
        go_roundw
        case rel => exact ⟨k + 1, raw', by omega, by go_num, by rw [HN.out]; exact C1, GX1, by rw [HN.out]; exact HA⟩
        case measure => simp [intOf]; omega
      rw [if_pos hin] at HN
      have hdl : d < M.length := by omega
      have hdr : d < raw'.length := by rw [C1.len]; exact hdl
      rw [getD_at hdl] at HN
      obtain ⟨lg', e', hlo', hlg, c0, c1, c2, c3⟩ := C1.at d hdr hdl
      cases e'
      have hD := (C1.is d hdr hdl).isD
      have hok := HA.out d hdl
      have HMd := Lib.hid (written_put (p := p.row) (v := x) hok)
      have HA2 : Hid (allOk (patchK l p (k + 1))) := by show allOk _; rw [HN.out]; exact HA.out.set d (fun _ => DZ.put_ok' hok)
      generalize M[d] = D at *
      obtain ⟨c0, f0⟩ := c0
      obtain ⟨c1, f1⟩ := c1
      obtain ⟨c2, f2⟩ := c2
      obtain ⟨c3, f3⟩ := c3
      have q2 := HBx.out
      have hD0 : IsD (W.drewN 1) 0 (.slice raw'[d].ka raw'[d].km raw'[d].kc) (.slice raw'[d].na raw'[d].nm raw'[d].nc) D := ⟨(hD.1.grew (gdrew (grefl W) 1)).lower (Nat.zero_le _), (hD.2.grew (gdrew (grefl W) 1)).lower (Nat.zero_le _)⟩
      change W.cell? ⟨lg', d * 4 + 2, none⟩ = some (.slice raw'[d].ka raw'[d].km raw'[d].kc) at c2
      change W.cell? ⟨lg', d * 4 + 3, none⟩ = some (.slice raw'[d].na raw'[d].nm raw'[d].nc) at c3
      have hob : (Value.slice (some ⟨lg', 0, none⟩) l.length oc).ownBlock = some lg' := rfl
      have ne1 : lg' ≠ qb := by have := HOb.out lg' rfl; have := HWs.out; omega
      have ne2 : lg' ≠ bb := by omega
      have HFin : Hid (∀ (w8 : World) (ka8 : Option Addr) (km8 kc8 : Nat) (na8 : Option Addr) (nm8 nc8 : Nat), W.grownBy w8 none → IsD w8 W.drew.heap.size (.slice ka8 km8 kc8) (.slice na8 nm8 nc8) (D.put p.row x) → Apart (.slice ka8 km8 kc8) (.slice na8 nm8 nc8) →
          ∃ raw'', OD (set4At w8 lg' (d * 4) (.int .i64 (D.written p.row x).n) (.bool (D.written p.row x).dead) (.slice ka8 km8 kc8) (.slice na8 nm8 nc8)) w2.heap.size (.slice (some ⟨lg', 0, none⟩) l.length oc) (patchK l p (k + 1)) raw'' ∧ w6.grownBy (set4At w8 lg' (d * 4) (.int .i64 (D.written p.row x).n) (.bool (D.written p.row x).dead) (.slice ka8 km8 kc8) (.slice na8 nm8 nc8)) (Value.slice (some ⟨lg', 0, none⟩) l.length oc).ownBlock ∧ Hid (allOk (patchK l p (k + 1)))) := by
        intro w8 ka8 km8 kc8 na8 nm8 nc8 g8 I8 ap8
        have hs8 : w2.heap.size ≤ W.heap.size := by omega
        have hR := C1.replaced (w1 := w8) d hdr ⟨(D.put p.row x).n, (D.put p.row x).dead, ka8, km8, kc8, na8, nm8, nc8⟩ (D.put p.row x) g8 ⟨rfl, rfl, I8.1.lower hs8, I8.2.lower hs8⟩ ap8 (fun j hj => by
          rcases hj with hj | hj
          · exact (I8.1.lt j hj).1
          · exact (I8.2.lt j hj).1)
        rw [HMd.out]
        refine ⟨_, by rw [HN.out]; exact hR, ?_, HA2⟩
        rw [hob]
        exact gset4At (gsub' (by rw [← hob]; exact GX1) g8) _ _ _ _
      clear h hd hv HE HL HLz HLl P HPl HAll HOb HWs hsx hq hb9 HBx hlo hp6 hs6 HB6 G6 hbl HWb hbw HW hm dm vm lg HN hlo' hlg C1 GX1 hD hok HA HA2 hob ne1 ne2 k1 k2 hplen hdl
      go_wp2_with fail
      go_region_law (first | (go_simp; go_at_call 139; go_fit (implWritten_any _ _ D p.row x _ hD0); rintro e w8 ⟨kv, nv, rfl, I8, ap8, g8⟩; rw [HMd.out] at I8; obtain ⟨ka8, km8, kc8, rfl⟩ := I8.1.sl; obtain ⟨na8, nm8, nc8, rfl⟩ := I8.2.sl; have hF := Lib.hid (HFin.out w8 ka8 km8 kc8 na8 nm8 nc8 (gtrans (gdrew (grefl W) 1) g8) I8 ap8); have n0 := gkc g8 q0; have n1 := gkc g8 q1; have n2 := gkc g8 q2; have k0 := gkc g8 c0; have k1 := gkc g8 c1; have k2 := gkc g8 c2; have k3 := gkc g8 c3; have m0 := gkf g8 c0 f0; have m1 := gkf g8 c1 f1; have m2 := gkf g8 c2 f2; have m3 := gkf g8 c3 f3; clear I8 ap8 g8))
      all_goals (
        obtain ⟨raw2, C2, GX2, HA2⟩ := hF.out
        go_wp2_with fail
        go_roundw
        case rel => exact ⟨k + 1, raw2, by omega, by go_num, C2, GX2, HA2⟩
        case measure => simp [intOf]; omega)
    · obtain rfl : k = L.length := by omega
      have HEq : Hid (patchedZ l p = patchK l p L.length) := by show _ = _; rw [HE.out, HLl.out]
      have GF : w.grownBy wr none := gsub G6 GX (fun q e => by have := HOb.out q e; have := HWb.out; omega)
      have CF := C.lower HWb.out
      clear HE HL HLz HLl P HPl
      go_wp2_with fail
      go_ret
      exact ⟨_, raw', rfl, by rw [HEq.out]; exact CF, GF⟩
end Go.Proofs.YteialkknddpbjaaGreatDoor
