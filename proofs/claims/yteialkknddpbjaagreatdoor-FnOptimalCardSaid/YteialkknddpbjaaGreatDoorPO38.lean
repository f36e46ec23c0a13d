/- What the specification's HealedAll and Optimal return. The arrays that the operations of chapters 10 and 11 answer are small. -/
import Derived.Test.YteialkknddpbjaaGreatDoorPO30
import Derived.Test.YteialkknddpbjaaGreatDoorPO31
import Derived.Test.YteialkknddpbjaaGreatDoorPO37
import Derived.Test.YteialkknddpbjaaGreatDoorPO29
import Derived.Test.YteialkknddpbjaaGreatDoorPO36
namespace Go.Proofs.YteialkknddpbjaaGreatDoor
open Go.ChangeShapes Go.WideShapes Go.ChangeAt Go.RowKit

def noRep : RZ := (0, 0, 0)
def repA (l : List DZ) (r : Int) : RZ := (repOf l r).getD noRep
theorem rep_none {l : List DZ} {r : Int} (h : repGo l r = false) : repA l r = noRep ∧ (repOf l r).isSome = false := by simp [repA, repOf, h]
theorem rep_some {l : List DZ} {r : Int} (h : repGo l r = true) : repA l r = (r, badOf l r, tellV l (badOf l r) r) ∧ (repOf l r).isSome = true := by simp [repA, repOf, h]
set_option maxRecDepth 8000 in
set_option maxHeartbeats 4000000 in
theorem repairIn_any (v : Value) (l : List DZ) (r : Int) (w : World) (h : LD w v l) (hok : disksOkZ l = true) :
    Calls Tryz.prog 136 #[v, .int .i64 r] w (Pure (.tuple #[repV (repA l r), .bool (repOf l r).isSome]) w) := by
  obtain ⟨a, cap, rfl, hm⟩ := h.form
  have hl5 := ok_len5 hok
  unfold repV
  have e0 := galloc (grefl w) (.cells #[.int .i64 0, .int .i64 0, .int .i64 0] 130)
  have R0 : At (w.alloc (.cells #[.int .i64 0, .int .i64 0, .int .i64 0] 130)) w.heap.size 0 (.int .i64 0) ∧ At (w.alloc (.cells #[.int .i64 0, .int .i64 0, .int .i64 0] 130)) w.heap.size 1 (.int .i64 0) ∧ At (w.alloc (.cells #[.int .i64 0, .int .i64 0, .int .i64 0] 130)) w.heap.size 2 (.int .i64 0) := by simp [At, go_sem]
  have s0 : w.heap.size < (w.alloc (.cells #[.int .i64 0, .int .i64 0, .int .i64 0] 130)).heap.size := by simp
  have hcan : hasZ l r = decide (0 ≤ r ∧ r < rowsZ l) := by unfold hasZ; rw [hok]; simp
  go_enter Tryz.func136, Tryz.ntmps136
  go_upto_region 1 with (fail)
  generalize w.alloc (.cells #[.int .i64 0, .int .i64 0, .int .i64 0] 130) = W at *
  have h0 := h.kept e0
  go_wp2_with fail
  go_fit (implBadIn_any _ l r _ h0)
  rintro e w1 ⟨bv, rfl, C1, g1⟩
  obtain ⟨ba, bn, bc, rfl⟩ := C1.sl
  have hbn : bn = (badInZ l r).length := C1.bound.1
  obtain ⟨⟨z0, y0⟩, ⟨z1, y1⟩, ⟨z2, y2⟩⟩ : At w1 w.heap.size 0 (.int .i64 0) ∧ At w1 w.heap.size 1 (.int .i64 0) ∧ At w1 w.heap.size 2 (.int .i64 0) := ⟨gk g1 R0.1, gk g1 R0.2.1, gk g1 R0.2.2⟩
  have G1 := gtrans e0 g1
  have hs1 := g1.size
  have HNo : repGo l r = false → Hid (repA l r = noRep ∧ (repOf l r).isSome = false) := rep_none
  clear R0
  by_cases hb1 : bn = 1
  rotate_left
  · have hno := HNo (by
      unfold repGo
      by_cases hr : 0 ≤ r ∧ r < rowsZ l
      · have e : badInZ l r = badZ l r := by unfold badInZ; rw [hcan, decide_eq_true hr]; rfl
        rw [e] at hbn
        rw [decide_eq_false (show ¬ (badZ l r).length = 1 by omega)]; simp
      · rw [decide_eq_false hr]; rfl)
    have hbne : ((bn : Int) != 1) = true := bne_iff_ne.2 (by omega)
    clear hbn hb1
    go_wp2_with fail
    rw [hno.out.1, hno.out.2]
    refine bodyPost_ret (v := .tuple #[.agg #[.int .i64 0, .int .i64 0, .int .i64 0], .bool false]) (by simp [results, Tryz.results136, go_sem, z0, z1, z2]) rfl ⟨rfl, ?_⟩
    repeat (first | exact G1 | refine gdrew ?_ _ | refine gsetN ?_ (by simp) _ _)
  have hlen : 0 < (badInZ l r).length := by omega
  have hex : badInZ l r = badZ l r ∧ (0 ≤ r ∧ r < rowsZ l) := by
    by_cases hr : 0 ≤ r ∧ r < rowsZ l
    · exact ⟨by unfold badInZ; rw [hcan, decide_eq_true hr]; rfl, hr⟩
    · have : badInZ l r = [] := by unfold badInZ; rw [hcan, decide_eq_false hr]; rfl
      rw [this] at hlen; simp at hlen
  obtain ⟨hbe, hr⟩ := hex
  rw [hbe] at C1 hlen hbn
  obtain ⟨bg, rfl, hbg, hbgl, ⟨x0, f0⟩⟩ := C1.at 0 hlen
  obtain ⟨j, hjl, hj⟩ := badZ_at (l := l) (r := r) 0 hlen
  have hbo : badOf l r = j := by unfold badOf; rw [List.getD_eq_getElem?_getD, List.getElem?_eq_getElem hlen, hj]; rfl
  rw [hj] at x0
  obtain ⟨dg, dof, ka, km, kc, na, nm, nc, rfl, t0, t1, t2, t3, D⟩ := (h.kept G1).at j hjl
  have hji : (j : Int) < l.length := by omega
  have hbeq : ((1 : Int) != 1) = false := rfl
  have hone : (badZ l r).length = 1 := by omega
  have HOne := Lib.hid hone
  obtain rfl : bn = 1 := by omega
  clear hbn hone
  have hgj : l.getD j .zero = l[j] := getD_at hjl
  cases hdd : l[j].dead
  rotate_left
  · have hno := HNo (by unfold repGo; rw [hbo, hgj, hdd]; simp)
    rw [hdd] at t1
    clear HOne
    go_wp2_with fail
    rw [hno.out.1, hno.out.2]
    refine bodyPost_ret (v := .tuple #[.agg #[.int .i64 0, .int .i64 0, .int .i64 0], .bool false]) (by simp [results, Tryz.results136, go_sem, z0, z1, z2]) rfl ⟨rfl, ?_⟩
    repeat (first | exact G1 | refine gdrew ?_ _ | refine gsetN ?_ (by simp) _ _)
  have hyes : Hid (repA l r = (r, j, tellV l j r) ∧ (repOf l r).isSome = true) := by
    have := rep_some (l := l) (r := r) (by unfold repGo; rw [hbo, hgj, hdd, decide_eq_true hr, decide_eq_true HOne.out]; rfl)
    rw [hbo] at this; exact this
  have HC := cellAt_in (l := l) (d := (j : Int)) (r := r) (by rw [hcan, decide_eq_true hr]) ⟨by omega, by omega⟩
  have HCh : Hid (cellAtV l j r = tellV l j r) := HC.2
  clear HC
  rw [hdd] at t1
  clear HOne HNo
  go_wp2_with fail
  go_fit (implCellAt_any _ l j r _ (h.kept G1))
  rintro e w2 ⟨rfl, g2⟩
  rw [HCh.out]
  have c0 := gkc g2 x0
  obtain ⟨q0, p0⟩ := gk g2 ⟨z0, y0⟩
  obtain ⟨q1, p1⟩ := gk g2 ⟨z1, y1⟩
  obtain ⟨q2, p2⟩ := gk g2 ⟨z2, y2⟩
  have G2 := gtrans G1 g2
  clear x0 z0 z1 z2 y0 y1 y2 t0 t1 t2 t3 D
  go_wp2_with fail
  rw [hyes.out.1, hyes.out.2]
  refine bodyPost_ret (v := .tuple #[.agg #[.int .i64 r, .int .i64 (j : Int), .int .i64 (tellV l j r)], .bool true]) (by simp [results, Tryz.results136, go_sem, q0, q1, q2]) rfl ⟨rfl, ?_⟩
  repeat (first | exact G2 | refine gdrew ?_ _ | refine gsetN ?_ (by simp) _ _)
set_option maxRecDepth 8000 in
set_option maxHeartbeats 4000000 in
theorem rowsIn_any (v : Value) (l : List DZ) (w : World) (h : LD w v l) (hok : disksOkZ l = true) :
    Calls Tryz.prog 95 #[v] w fun e w' => ∃ rv, e = .returned rv ∧ IS w' w.heap.size rv (rowsTo (rowsZ l)) ∧ w.grownBy w' none := by
  have hr := rows_le hok
  have HRo : Hid (rowsOfZ l = rowsZ l) := by show _ = _; unfold rowsOfZ; rw [hok]; rfl
  obtain ⟨a, cap, rfl, hm⟩ := h.form
  go_enter Tryz.func95, Tryz.ntmps95
  go_wp2_with fail
  go_fit (implRowsOf_any _ l _ h)
  rintro e w1 ⟨rfl, g1⟩
  rw [HRo.out]
  generalize hR : rowsZ l = R at *
  have HRR := Lib.hid hR
  clear hR
  go_wp2_with fail
  go_loopw [3, 7] (fun out i wr => ∃ k : Nat, k ≤ R ∧ i = .int .i64 k ∧ IS wr w.heap.size out (rowsTo k) ∧ w.grownBy wr none) (fun _ i _ => R - (intOf i).toNat)
  case atStart => exact ⟨0, Nat.zero_le _, rfl, Own.nil _ _ _, g1⟩
  case round =>
    obtain ⟨k, hk, rfl, C, G⟩ := hrel
    obtain ⟨oa, om, oc, rfl⟩ := C.sl
    have hgs := G.size
    by_cases hlt : k < R
    · have hki : (k : Int) < R := by omega
      have HT : Hid (rowsTo (k + 1) = rowsTo k ++ [(k : Int)]) := rowsTo_next k
      have hkl := rowsTo_length k
      go_wp2_with (first | (at_builtin; refine wpList_append_o (E := intE) (base := w.heap.size) rfl (.tmp 10) (.tmp 12) rfl rfl rfl (Own.grew C (galloc (grefl _) _)) (IS.single _ (k : Int) (Nat.zero_le _)) (by simp; omega) (by decide) (by simp; omega) ?_; intro v' w6 o6 g6 b6; have G6 := gnew (galloc G _) g6 (fun j e => (Own.lt C j e).1); rw [← HT.out] at o6; clear g6 b6))
      go_roundw
      case rel => exact ⟨k + 1, by omega, by go_num, o6, G6⟩
      case measure => simp [intOf]; omega
    · obtain rfl : k = R := by omega
      have hki : ¬ (k : Int) < k := by omega
      go_wp2_with fail
      go_ret
      exact ⟨_, rfl, by rw [HRR.out]; exact C, G⟩
end Go.Proofs.YteialkknddpbjaaGreatDoor

namespace Go.Proofs.YteialkknddpbjaaGreatDoor
open Go.ChangeShapes Go.WideShapes Go.ChangeAt Go.RowKit Go.Joins Go.Deep
attribute [local go_sem] str_list str_size

/-- an array that came in -/
def InArray (w : World) (da : Option Addr) (dn : Nat) (z : AZ) : Prop := i64B z.stage ∧ z.log.length ≤ 9223372036854775807 ∧ z.next.length ≤ 9223372036854775807 ∧ InDisks w da dn z.ds
theorem InArray.kept {w w' : World} {da : Option Addr} {dn : Nat} {z : AZ} (h : InArray w da dn z) (g : w.grownBy w' none) : InArray w' da dn z := ⟨h.1, h.2.1, h.2.2.1, h.2.2.2.kept g⟩
set_option maxRecDepth 8000
section
variable {H : Type} {enc : TypeId × Value → H} {w : World} {base : Nat} {held : Bool}
end
end Go.Proofs.YteialkknddpbjaaGreatDoor
namespace Go.Proofs.YteialkknddpbjaaGreatDoor
open Go.ChangeShapes Go.WideShapes Go.ChangeAt Go.RowKit

/-- two boxes of five cells -/
abbrev PA (w : World) (b : Nat) (x0 x1 x2 x3 x4 : Value) (c : Nat) (y0 y1 y2 y3 y4 : Value) : Prop := Box5 w b x0 x1 x2 x3 x4 ∧ Box5 w c y0 y1 y2 y3 y4
section
variable {w w' : World} {b c : Nat} {x0 x1 x2 x3 x4 y0 y1 y2 y3 y4 : Value}
theorem PA.kept (h : PA w b x0 x1 x2 x3 x4 c y0 y1 y2 y3 y4) (g : w.grownBy w' none) : PA w' b x0 x1 x2 x3 x4 c y0 y1 y2 y3 y4 := ⟨Box5.kept h.1 g, Box5.kept h.2 g⟩
theorem PA.drew (h : PA w b x0 x1 x2 x3 x4 c y0 y1 y2 y3 y4) : PA w.drew b x0 x1 x2 x3 x4 c y0 y1 y2 y3 y4 := h
end
end Go.Proofs.YteialkknddpbjaaGreatDoor

namespace Go.Proofs.YteialkknddpbjaaGreatDoor
open Go.ChangeShapes Go.WideShapes Go.ChangeAt Go.RowKit

def ADidN (b B : Nat) (a : AZ) (w : World) (e : Ending) (w' : World) : Prop := e = .returned (.tuple #[]) ∧ (∃ v raw, ABox w' b B a v raw) ∧ Only (AB b B) w w'
set_option maxRecDepth 8000 in
set_option maxHeartbeats 4000000 in
theorem l10HealAll_any (b B : Nat) (a : AZ) (v : Value) (raw : List DV) (w : World) (h : ABox w b B a v raw) (hB : B ≤ w.heap.size) (hok : a.ok = true) :
    Calls Tryz.prog 97 #[.pointer (some ⟨b, 0, none⟩)] w (ADidN b B a.healedAll w) := by
  have HL : Hid (∀ k, (a.healK k).ds.length ≤ 5 ∧ rowsZ (a.healK k).ds = rowsZ a.ds ∧ DGood (a.healK k).ds) := fun k => ⟨(ok_good (AZ.ok_healK hok k)).1, (healK_alike a k).rows, ok_good (AZ.ok_healK hok k)⟩
  have hr16 : rowsZ a.ds ≤ 16 := (ok_good hok).rows
  have HA : Hid (a.healedAll = { a.healK (rowsZ a.ds) with ds := flushAll (a.healK (rowsZ a.ds)).ds }) := rfl
  have h' : ABox w b B (a.healK 0) v raw := h
  generalize rowsZ a.ds = R at *
  clear hok h
  go_enter Tryz.func97, Tryz.ntmps97
  go_wp2_with fail
  go_loopw [2] (fun i wr => ∃ (k : Nat) (v' : Value) (rw' : List DV), k ≤ R ∧ i = .int .i64 k ∧ ABox wr b B (a.healK k) v' rw' ∧ Only (AB b B) w wr) (fun i _ => R - (intOf i).toNat)
  case atStart => exact ⟨0, v, raw, Nat.zero_le _, rfl, h', Only.refl _ _⟩
  case round =>
    clear h'
    obtain ⟨k, v', raw', hk, rfl, H, O⟩ := hrel
    obtain ⟨va, vc, rfl, -⟩ := H.od.form
    obtain ⟨c0, f0⟩ := H.c0
    obtain ⟨hl5, hrr, hgd⟩ := HL.out k
    have HRr := Lib.hid hrr
    clear hrr
    go_wp2_with fail
    go_fit (l6Rows_any _ (a.healK k).ds _ H.od.ld)
    rintro e w' ⟨rfl, rfl⟩
    rw [HRr.out]
    by_cases hlt : k < R
    · have hki : (k : Int) < R := by omega
      go_wp2_with fail
      go_fit (l10Heal_any b B (a.healK k) _ raw' k _ H (by omega))
      rintro e w2 ⟨rfl, ⟨v2, raw2, H2⟩, O2⟩
      go_wp2_with fail
      go_roundw
      case rel => exact ⟨k + 1, v2, raw2, by omega, by go_num, H2, O.trans O2⟩
      case measure => simp [intOf]; omega
    · obtain rfl : k = R := by omega
      have HM : Hid (∀ i (h : i < (a.healK k).ds.length), ((a.healK k).ds[i]).m.length ≤ 1000) := fun i hi => by have := (hgd.2 _ (List.getElem_mem hi)).2; omega
      generalize a.healK k = M at *
      have hki : ¬ (k : Int) < k := by omega
      clear HL HRr hgd
      go_wp2_with fail
      go_loopw [3] (fun i wr => ∃ (k : Nat) (rw' : List DV), k ≤ M.ds.length ∧ i = .int .i64 k ∧ ABox wr b B { M with ds := flushK M.ds k } (.slice va M.ds.length vc) rw' ∧ Only (AB b B) w wr) (fun i _ => M.ds.length - (intOf i).toNat)
      case atStart => exact ⟨0, raw', Nat.zero_le _, rfl, by simpa [flushK, flushAll] using H, O⟩
      case round =>
        clear H O c0 f0 hki
        obtain ⟨k, raw', hk, rfl, H, O⟩ := hrel
        obtain ⟨c0, f0⟩ := H.c0
        have hfl := flushK_length M.ds k hk
        by_cases hlt : k < M.ds.length
        · have hki : (k : Int) < M.ds.length := by omega
          have hlk : k < (flushK M.ds k).length := by rw [hfl]; exact hlt
          have hrk : k < raw'.length := by rw [H.od.len]; exact hlk
          obtain ⟨g, e, hgB, hgl, -, -, -, -⟩ := H.od.at k hrk hlk
          cases e
          have DA := H.od.dat k hrk hlk
          dsimp only at DA
          have hbd := HM.out k hlt
          rw [flushK_get M.ds k hlt] at DA
          have hBs : B ≤ wr.heap.size := by have := O.size; omega
          have HS := Lib.hid (flushK_set M.ds k hlt)
          have HGt := Lib.hid (flushK_get M.ds k hlt)
          go_wp2_with fail
          go_fit (l3FlushAt_any g (k * 4) B M.ds[k] _ _ _ DA hBs hbd)
          rintro e w2 ⟨kv, w3, rfl, rfl, g3, K3, N3, D3⟩
          obtain ⟨ka, km, kc, rfl⟩ := K3.sl
          obtain ⟨H2, O2⟩ := H.flushed k hrk hlk (ka := ka) (km := km) (kc := kc) g3 (by dsimp only; rw [HGt.out]; exact K3) N3
          dsimp only at H2
          rw [HGt.out, HS.out] at H2
          go_wp2_with fail
          go_roundw
          case rel => exact ⟨k + 1, _, by omega, by go_num, H2, O.trans O2⟩
          case measure => simp [intOf]; omega
        · obtain rfl : k = M.ds.length := by omega
          have hF : flushK M.ds M.ds.length = flushAll M.ds := by simp [flushK]
          rw [hF] at H
          have hki : ¬ (M.ds.length : Int) < M.ds.length := by omega
          go_wp2_with fail
          go_end0
          exact ⟨rfl, ⟨_, _, by rw [HA.out]; exact H⟩, O⟩
def healedAllZ (a : AZ) : AZ := if a.ok then a.healedAll else .zero
set_option maxRecDepth 8000 in
set_option maxHeartbeats 4000000 in
theorem specHealedAll_any (v : Value) (a : AZ) (w : World) (h : LD w v a.ds) (h1 : a.log.length ≤ 1100000) (h2 : a.next.length ≤ 1100000) :
    Calls Tryz.prog 31 #[a.val v] w (GotA (healedAllZ a) w) := by
  obtain ⟨xa, cap, rfl, hm⟩ := h.form
  obtain ⟨B0, Z0, G0, s0⟩ := two_new w (.slice xa a.ds.length cap) (.string (str a.log)) (.string (str a.next)) (.int .i64 a.stage) (.bool a.up) 26
  go_enter Tryz.func31, Tryz.ntmps31
  go_upto_region 1 with (fail)
  generalize (w.alloc (.cells #[.slice xa a.ds.length cap, .string (str a.log), .string (str a.next), .int .i64 a.stage, .bool a.up] 26)).alloc zero5 = W0 at *
  have HB0 := Lib.hid B0
  obtain ⟨p0, p1, p2, p3, p4⟩ := B0
  cases hok : a.ok
  · have HE : Hid (healedAllZ a = .zero) := by show _ = _; simp [healedAllZ, hok]
    go_wp2_with fail
    go_fit (specArrayOk_any _ a _ (h.kept G0) h1 h2)
    rintro e w1 ⟨rfl, g1⟩
    rw [hok]
    obtain ⟨⟨z0, y0⟩, ⟨z1, y1⟩, ⟨z2, y2⟩, ⟨z3, y3⟩, ⟨z4, y4⟩⟩ := Z0.kept g1 (by simp)
    have hs1 := g1.size
    have hR := res5l (OD.nil w1 w1.heap.size) (r := w.heap.size + 1) (by omega) (by omega) (gtrans G0 g1) (.slice none 0 0) (.string ⟨#[]⟩) (.string ⟨#[]⟩) (.int .i64 0) (.bool false)
    go_wp2_with fail
    exact bodyPost_ret (v := .agg #[.slice none 0 0, .string ⟨#[]⟩, .string ⟨#[]⟩, .int .i64 0, .bool false]) (by simp [results, Tryz.results31, go_sem, z0, z1, z2, z3, z4]) rfl ⟨_, [], by rw [HE.out]; rfl, by rw [HE.out]; exact hR.1, hR.2⟩
  have HE : Hid (healedAllZ a = a.healedAll) := by show _ = _; simp [healedAllZ, hok]
  obtain ⟨hl5, hd16⟩ := ds_small (AZ.ok_ds hok)
  have HOk : Hid (a.ok = true) := hok
  go_wp2_with fail
  go_fit (specArrayOk_any _ a _ (h.kept G0) h1 h2)
  rintro e w1 ⟨rfl, g1⟩
  rw [hok]
  have G1 := gtrans G0 g1
  obtain ⟨c0, c1, c2, c3, c4⟩ := HB0.out.kept g1
  have hs1 := g1.size
  have Z1 := Z0.kept g1 (by simp)
  clear p0 p1 p2 p3 p4 HB0 g1 Z0 hok
  go_wp2_with fail
  go_fit (l9Copy_any _ a _ (h.kept G1) (by omega) (fun i hi => by have := hd16 i hi; omega))
  rintro e w2 ⟨v2, raw2, rfl, o2, g2⟩
  obtain ⟨va, vn, vc, rfl⟩ := o2.own.sl
  have hs2 := g2.size
  have A2 := ABox.new o2 26
  have e3 := galloc (grefl w2) (.cells #[.slice va vn vc, .string (str a.log), .string (str a.next), .int .i64 a.stage, .bool a.up] 26)
  have G2 := gtrans (gtrans G1 g2) e3
  have Z2 := (Z1.kept g2 (by simp)).kept e3 (by simp)
  have hs3 := e3.size
  clear c0 c1 c2 c3 c4 Z1 o2
  go_upto_region 4 with (fail)
  generalize w2.alloc (.cells #[.slice va vn vc, .string (str a.log), .string (str a.next), .int .i64 a.stage, .bool a.up] 26) = W2 at *
  go_wp2_with fail
  go_fit (l10HealAll_any _ _ a _ raw2 _ A2 (by omega) HOk.out)
  rintro e w3 ⟨rfl, ⟨v3, raw3, A3⟩, O3⟩
  have G3 := O3.grew G2 (ab_lo (by omega) (by omega))
  have Z3 := Z2.only O3 (by intro k; rcases k with k | k <;> omega)
  generalize a.healedAll = a3 at *
  obtain ⟨va3, vc3, rfl, -⟩ := A3.od.form
  obtain ⟨c0, c1, c2, c3, c4⟩ := A3.box
  obtain ⟨⟨z0, y0⟩, ⟨z1, y1⟩, ⟨z2, y2⟩, ⟨z3, y3⟩, ⟨z4, y4⟩⟩ := Z3
  have hR := res5 A3.od (r := w.heap.size + 1) (by omega) (by omega) G3 (.slice va3 a3.ds.length vc3) (.string (str a3.log)) (.string (str a3.next)) (.int .i64 a3.stage) (.bool a3.up)
  go_wp2_with fail
  exact bodyPost_ret (v := a3.val (.slice va3 a3.ds.length vc3)) (by simp [results, Tryz.results31, go_sem, z0, z1, z2, z3, z4]) rfl ⟨_, raw3, by rw [HE.out], by rw [HE.out]; exact hR.1, hR.2⟩
theorem optimal_no {a : AZ} (h : (a.ok && (a.up && a.stage == 0)) = false) : a.optimal = false := by
  unfold AZ.optimal
  cases h1 : a.ok <;> cases h2 : a.up <;> simp_all
theorem optimal_yes {a : AZ} (h : a.ok = true) (hu : a.up = true) (hs : a.stage = 0) : a.optimal = (List.range (rowsZ a.ds)).all fun r => wholeRow a.ds (r : Int) := by
  unfold AZ.optimal; rw [h, hu, hs]; rfl
set_option maxRecDepth 8000 in
set_option maxHeartbeats 4000000 in
theorem specOptimal_any (v : Value) (a : AZ) (w : World) (h : LD w v a.ds) (h1 : a.log.length ≤ 1100000) (h2 : a.next.length ≤ 1100000) :
    Calls Tryz.prog 33 #[a.val v] w (Pure (.bool a.optimal) w) := by
  obtain ⟨xa, cap, rfl, hm⟩ := h.form
  have B0 := Box5.new w (.slice xa a.ds.length cap) (.string (str a.log)) (.string (str a.next)) (.int .i64 a.stage) (.bool a.up) 26
  have G0 := galloc (grefl w) (.cells #[.slice xa a.ds.length cap, .string (str a.log), .string (str a.next), .int .i64 a.stage, .bool a.up] 26)
  go_enter Tryz.func33, Tryz.ntmps33
  go_upto_region 1 with (fail)
  generalize w.alloc (.cells #[.slice xa a.ds.length cap, .string (str a.log), .string (str a.next), .int .i64 a.stage, .bool a.up] 26) = W0 at *
  have HB0 := Lib.hid B0
  obtain ⟨p0, p1, p2, p3, p4⟩ := B0
  by_cases hgo : (a.ok && (a.up && a.stage == 0)) = true
  rotate_left
  · have HN : Hid (a.optimal = false) := optimal_no (by simpa using hgo)
    go_wp2_with fail
    go_fit (specArrayOk_any _ a _ (h.kept G0) h1 h2)
    rintro e w1 ⟨rfl, g1⟩
    obtain ⟨c0, c1, c2, c3, c4⟩ := HB0.out.kept g1
    cases hok : a.ok
    · go_wp2_with fail
      go_ret
      exact ⟨ret_bool HN.out.symm, gtrans G0 g1⟩
    cases hu : a.up
    · rw [hu] at c4
      go_wp2_with fail
      go_ret
      exact ⟨ret_bool HN.out.symm, gtrans G0 g1⟩
    rw [hu] at c4
    have hs : (a.stage != 0) = true := by
      rw [hok, hu] at hgo; simpa using hgo
    go_wp2_with fail
    go_ret
    exact ⟨ret_bool HN.out.symm, gtrans G0 g1⟩
  have hgo' := hgo
  simp only [Bool.and_eq_true, beq_iff_eq] at hgo'
  obtain ⟨hok, hu, hs⟩ := hgo'
  have HE := Lib.hid (optimal_yes hok hu hs)
  have HU := Lib.hid hu
  have HSt := Lib.hid hs
  clear hgo hu hs
  go_wp2_with fail
  go_fit (specArrayOk_any _ a _ (h.kept G0) h1 h2)
  rintro e w1 ⟨rfl, g1⟩
  rw [hok]
  have G1 := gtrans G0 g1
  have HB1 := Lib.hid (HB0.out.kept g1)
  obtain ⟨c0, c1, c2, c3, c4⟩ := HB1.out
  rw [HU.out] at c4
  rw [HSt.out] at c3
  clear p0 p1 p2 p3 p4
  have hr16 : rowsZ a.ds ≤ 16 := (ok_good hok).rows
  clear hok
  go_wp2_with fail
  go_loopw [3] (fun i wr => ∃ k : Nat, k ≤ rowsZ a.ds ∧ i = .int .i64 k ∧ Hid (∀ r : Nat, r < k → wholeRow a.ds (r : Int) = true) ∧ w1.grownBy wr none) (fun i _ => rowsZ a.ds - (intOf i).toNat)
  case atStart => exact ⟨0, Nat.zero_le _, rfl, fun r hr => by omega, grefl _⟩
  case round =>
    clear c0 c1 c2 c3 c4
    obtain ⟨k, hk, rfl, HW, G⟩ := hrel
    obtain ⟨c0, c1, c2, c3, c4⟩ := HB1.out.kept G
    have GG := gtrans G1 G
    have hL := h.kept GG
    go_wp2_with fail
    go_fit (l6Rows_any _ a.ds _ hL)
    rintro e w' ⟨rfl, rfl⟩
    by_cases hlt : k < rowsZ a.ds
    · have hki : (k : Int) < rowsZ a.ds := by omega
      go_wp2_with fail
      go_fit (l6Whole_any _ a.ds k _ hL)
      rintro e w2 ⟨rfl, g2⟩
      cases hwr : wholeRow a.ds (k : Int)
      · have HN : Hid (a.optimal = false) := by
          show _ = _
          rw [HE.out, List.all_eq_false]
          exact ⟨k, List.mem_range.2 hlt, by rw [hwr]; simp⟩
        go_wp2_with fail
        go_ret
        exact ⟨ret_bool HN.out.symm, gtrans GG g2⟩
      · have HN : Hid (∀ r : Nat, r < k + 1 → wholeRow a.ds (r : Int) = true) := fun r hr => by
          by_cases e : r = k
          · subst e; exact hwr
          · exact HW.out r (by omega)
        go_wp2_with fail
        go_roundw
        case rel => exact ⟨k + 1, by omega, by go_num, HN, gtrans G g2⟩
        case measure => simp [intOf]; omega
    · obtain rfl : k = rowsZ a.ds := by omega
      have HN : Hid (a.optimal = true) := by
        show _ = _
        rw [HE.out, List.all_eq_true]
        exact fun r hr => HW.out r (List.mem_range.1 hr)
      go_wp2_with fail
      go_ret
      exact ⟨ret_bool HN.out.symm, GG⟩
end Go.Proofs.YteialkknddpbjaaGreatDoor
