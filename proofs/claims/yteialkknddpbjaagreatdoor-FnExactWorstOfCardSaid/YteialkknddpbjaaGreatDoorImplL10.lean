/- What the program's repairIn, rowsIn and waitingIn return. -/
import Derived.Test.YteialkknddpbjaaGreatDoorImplL09
import Derived.Test.YteialkknddpbjaaGreatDoorImplHeap
import Derived.Test.YteialkknddpbjaaGreatDoorLawL07c
namespace Go.Proofs.YteialkknddpbjaaGreatDoor
open Go.ChangeShapes Go.WideShapes Go.ChangeAt Go.RowKit

def noRep : RZ := (0, 0, 0)
def repA (l : List DZ) (r : Int) : RZ := (repOf l r).getD noRep
theorem rep_none {l : List DZ} {r : Int} (h : repGo l r = false) : repA l r = noRep ∧ (repOf l r).isSome = false := by simp [repA, repOf, h]
theorem rep_some {l : List DZ} {r : Int} (h : repGo l r = true) : repA l r = (r, badOf l r, tellV l (badOf l r) r) ∧ (repOf l r).isSome = true := by simp [repA, repOf, h]
set_option maxRecDepth 8000 in
set_option maxHeartbeats 4000000 in
theorem repairIn_any (v : Value) (l : List DZ) (r : Int) (w : World) (h : LD w v l) (hok : disksOkZ l = true) :
    Calls Tryz.prog 136 #[v, .int .i64 r] w (Pure (.tuple #[repV (repA l r), .bool (repOf l r).isSome]) w) := by
  obtain ⟨a, cap, rfl, hm⟩ := h.form
  have hl5 := ok_len5 hok
  unfold repV
  have e0 := galloc (grefl w) (.cells #[.int .i64 0, .int .i64 0, .int .i64 0] 130)
  have R0 : At (w.alloc (.cells #[.int .i64 0, .int .i64 0, .int .i64 0] 130)) w.heap.size 0 (.int .i64 0) ∧ At (w.alloc (.cells #[.int .i64 0, .int .i64 0, .int .i64 0] 130)) w.heap.size 1 (.int .i64 0) ∧ At (w.alloc (.cells #[.int .i64 0, .int .i64 0, .int .i64 0] 130)) w.heap.size 2 (.int .i64 0) := by simp [At, go_sem]
  have s0 : w.heap.size < (w.alloc (.cells #[.int .i64 0, .int .i64 0, .int .i64 0] 130)).heap.size := by simp
  have hcan : hasZ l r = decide (0 ≤ r ∧ r < rowsZ l) := by unfold hasZ; rw [hok]; simp
  go_enter Tryz.func136, Tryz.ntmps136
  go_upto_region 1 with (fail)
  generalize w.alloc (.cells #[.int .i64 0, .int .i64 0, .int .i64 0] 130) = W at *
  have h0 := h.kept e0
  go_wp2_with fail
  go_fit (implBadIn_any _ l r _ h0)
  rintro e w1 ⟨bv, rfl, C1, g1⟩
  obtain ⟨ba, bn, bc, rfl⟩ := C1.sl
  have hbn : bn = (badInZ l r).length := C1.bound.1
  obtain ⟨⟨z0, y0⟩, ⟨z1, y1⟩, ⟨z2, y2⟩⟩ : At w1 w.heap.size 0 (.int .i64 0) ∧ At w1 w.heap.size 1 (.int .i64 0) ∧ At w1 w.heap.size 2 (.int .i64 0) := ⟨gk g1 R0.1, gk g1 R0.2.1, gk g1 R0.2.2⟩
  have G1 := gtrans e0 g1
  have hs1 := g1.size
  have HNo : repGo l r = false → Hid (repA l r = noRep ∧ (repOf l r).isSome = false) := rep_none
  clear R0
  by_cases hb1 : bn = 1
  rotate_left
  · have hno := HNo (by
      unfold repGo
      by_cases hr : 0 ≤ r ∧ r < rowsZ l
      · have e : badInZ l r = badZ l r := by unfold badInZ; rw [hcan, decide_eq_true hr]; rfl
        rw [e] at hbn
        rw [decide_eq_false (show ¬ (badZ l r).length = 1 by omega)]; simp
      · rw [decide_eq_false hr]; rfl)
    have hbne : ((bn : Int) != 1) = true := bne_iff_ne.2 (by omega)
    clear hbn hb1
    go_wp2_with fail
    rw [hno.out.1, hno.out.2]
    refine bodyPost_ret (v := .tuple #[.agg #[.int .i64 0, .int .i64 0, .int .i64 0], .bool false]) (by simp [results, Tryz.results136, go_sem, z0, z1, z2]) rfl ⟨rfl, ?_⟩
    repeat (first | exact G1 | refine gdrew ?_ _ | refine gsetN ?_ (by simp) _ _)
  have hlen : 0 < (badInZ l r).length := by omega
  have hex : badInZ l r = badZ l r ∧ (0 ≤ r ∧ r < rowsZ l) := by
    by_cases hr : 0 ≤ r ∧ r < rowsZ l
    · exact ⟨by unfold badInZ; rw [hcan, decide_eq_true hr]; rfl, hr⟩
    · have : badInZ l r = [] := by unfold badInZ; rw [hcan, decide_eq_false hr]; rfl
      rw [this] at hlen; simp at hlen
  obtain ⟨hbe, hr⟩ := hex
  rw [hbe] at C1 hlen hbn
  obtain ⟨bg, rfl, hbg, hbgl, ⟨x0, f0⟩⟩ := C1.at 0 hlen
  obtain ⟨j, hjl, hj⟩ := badZ_at (l := l) (r := r) 0 hlen
  have hbo : badOf l r = j := by unfold badOf; rw [List.getD_eq_getElem?_getD, List.getElem?_eq_getElem hlen, hj]; rfl
  rw [hj] at x0
  obtain ⟨dg, dof, ka, km, kc, na, nm, nc, rfl, t0, t1, t2, t3, D⟩ := (h.kept G1).at j hjl
  have hji : (j : Int) < l.length := by omega
  have hbeq : ((1 : Int) != 1) = false := rfl
  have hone : (badZ l r).length = 1 := by omega
  have HOne := Lib.hid hone
  obtain rfl : bn = 1 := by omega
  clear hbn hone
  have hgj : l.getD j .zero = l[j] := getD_at hjl
  cases hdd : l[j].dead
  rotate_left
  · have hno := HNo (by unfold repGo; rw [hbo, hgj, hdd]; simp)
    rw [hdd] at t1
    clear HOne
    go_wp2_with fail
    rw [hno.out.1, hno.out.2]
    refine bodyPost_ret (v := .tuple #[.agg #[.int .i64 0, .int .i64 0, .int .i64 0], .bool false]) (by simp [results, Tryz.results136, go_sem, z0, z1, z2]) rfl ⟨rfl, ?_⟩
    repeat (first | exact G1 | refine gdrew ?_ _ | refine gsetN ?_ (by simp) _ _)
  have hyes : Hid (repA l r = (r, j, tellV l j r) ∧ (repOf l r).isSome = true) := by
    have := rep_some (l := l) (r := r) (by unfold repGo; rw [hbo, hgj, hdd, decide_eq_true hr, decide_eq_true HOne.out]; rfl)
    rw [hbo] at this; exact this
  have HC := cellAt_in (l := l) (d := (j : Int)) (r := r) (by rw [hcan, decide_eq_true hr]) ⟨by omega, by omega⟩
  have HCh : Hid (cellAtV l j r = tellV l j r) := HC.2
  clear HC
  rw [hdd] at t1
  clear HOne HNo
  go_wp2_with fail
  go_fit (implCellAt_any _ l j r _ (h.kept G1))
  rintro e w2 ⟨rfl, g2⟩
  rw [HCh.out]
  have c0 := gkc g2 x0
  obtain ⟨q0, p0⟩ := gk g2 ⟨z0, y0⟩
  obtain ⟨q1, p1⟩ := gk g2 ⟨z1, y1⟩
  obtain ⟨q2, p2⟩ := gk g2 ⟨z2, y2⟩
  have G2 := gtrans G1 g2
  clear x0 z0 z1 z2 y0 y1 y2 t0 t1 t2 t3 D
  go_wp2_with fail
  rw [hyes.out.1, hyes.out.2]
  refine bodyPost_ret (v := .tuple #[.agg #[.int .i64 r, .int .i64 (j : Int), .int .i64 (tellV l j r)], .bool true]) (by simp [results, Tryz.results136, go_sem, q0, q1, q2]) rfl ⟨rfl, ?_⟩
  repeat (first | exact G2 | refine gdrew ?_ _ | refine gsetN ?_ (by simp) _ _)
set_option maxRecDepth 8000 in
set_option maxHeartbeats 4000000 in
theorem rowsIn_any (v : Value) (l : List DZ) (w : World) (h : LD w v l) (hok : disksOkZ l = true) :
    Calls Tryz.prog 95 #[v] w fun e w' => ∃ rv, e = .returned rv ∧ IS w' w.heap.size rv (rowsTo (rowsZ l)) ∧ w.grownBy w' none := by
  have hr := rows_le hok
  have HRo : Hid (rowsOfZ l = rowsZ l) := by show _ = _; unfold rowsOfZ; rw [hok]; rfl
  obtain ⟨a, cap, rfl, hm⟩ := h.form
  go_enter Tryz.func95, Tryz.ntmps95
  go_wp2_with fail
  go_fit (implRowsOf_any _ l _ h)
  rintro e w1 ⟨rfl, g1⟩
  rw [HRo.out]
  generalize hR : rowsZ l = R at *
  have HRR := Lib.hid hR
  clear hR
  go_wp2_with fail
  go_loopw [3, 7] (fun out i wr => ∃ k : Nat, k ≤ R ∧ i = .int .i64 k ∧ IS wr w.heap.size out (rowsTo k) ∧ w.grownBy wr none) (fun _ i _ => R - (intOf i).toNat)
  case atStart => exact ⟨0, Nat.zero_le _, rfl, Own.nil _ _ _, g1⟩
  case round =>
    obtain ⟨k, hk, rfl, C, G⟩ := hrel
    obtain ⟨oa, om, oc, rfl⟩ := C.sl
    have hgs := G.size
    by_cases hlt : k < R
    · have hki : (k : Int) < R := by omega
      have HT : Hid (rowsTo (k + 1) = rowsTo k ++ [(k : Int)]) := rowsTo_next k
      have hkl := rowsTo_length k
      go_wp2_with (first | (at_builtin; refine wpList_append_o (E := intE) (base := w.heap.size) rfl (.tmp 10) (.tmp 12) rfl rfl rfl (Own.grew C (galloc (grefl _) _)) (IS.single _ (k : Int) (Nat.zero_le _)) (by simp; omega) (by decide) (by simp; omega) ?_; intro v' w6 o6 g6 b6; have G6 := gnew (galloc G _) g6 (fun j e => (Own.lt C j e).1); rw [← HT.out] at o6; clear g6 b6))
      go_roundw
      case rel => exact ⟨k + 1, by omega, by go_num, o6, G6⟩
      case measure => simp [intOf]; omega
    · obtain rfl : k = R := by omega
      have hki : ¬ (k : Int) < k := by omega
      go_wp2_with fail
      go_ret
      exact ⟨_, rfl, by rw [HRR.out]; exact C, G⟩
set_option maxRecDepth 8000 in
set_option maxHeartbeats 4000000 in
theorem waitingIn_any (v : Value) (a : AZ) (rv : Value) (rows : List Int) (w : World) (h : LD w v a.ds) (hok : disksOkZ a.ds = true) (hr : IR w rv rows) (hn : rows.length ≤ 100) :
    Calls Tryz.prog 68 #[a.val v, rv] w fun e w' => ∃ hb hv L, e = .returned (.pointer (some ⟨hb, 0, none⟩)) ∧ HBox w' hb w.heap.size hv L ∧ w.heap.size ≤ hb ∧ L.Perm (waitZ a rows) ∧ w.grownBy w' none := by
  obtain ⟨ra, rc, rfl, -⟩ := hr.form
  obtain ⟨xa, cap, rfl, hm⟩ := h.form
  have B0 := Box5.new w (.slice xa a.ds.length cap) (.string (str a.log)) (.string (str a.next)) (.int .i64 a.stage) (.bool a.up) 26
  have G0 := galloc (grefl w) (.cells #[.slice xa a.ds.length cap, .string (str a.log), .string (str a.next), .int .i64 a.stage, .bool a.up] 26)
  have s0 : w.heap.size < (w.alloc (.cells #[.slice xa a.ds.length cap, .string (str a.log), .string (str a.next), .int .i64 a.stage, .bool a.up] 26)).heap.size := by simp
  go_enter Tryz.func68, Tryz.ntmps68
  go_upto_region 1 with (fail)
  generalize w.alloc (.cells #[.slice xa a.ds.length cap, .string (str a.log), .string (str a.next), .int .i64 a.stage, .bool a.up] 26) = W0 at *
  have K1 : Own repE (W0.alloc (.cells #[] 130)) W0.heap.size (.slice (some ⟨W0.heap.size, 0, none⟩) 0 0) [] := Own.fresh repE W0 [] #[] rfl (by simp) (Nat.le_refl _)
  have g1 := galloc (galloc (grefl W0) (.cells #[] 130)) (.cells #[.slice (some ⟨W0.heap.size, 0, none⟩) 0 0] 128)
  have H1 : HBox ((W0.alloc (.cells #[] 130)).alloc (.cells #[.slice (some ⟨W0.heap.size, 0, none⟩) 0 0] 128)) (W0.heap.size + 1) W0.heap.size (.slice (some ⟨W0.heap.size, 0, none⟩) 0 0) [] :=
    ⟨by simp [At, go_sem], Own.grew K1 (galloc (grefl _) _), by simp [Value.ownBlock]⟩
  have hsW : W0.heap.size + 1 < ((W0.alloc (.cells #[] 130)).alloc (.cells #[.slice (some ⟨W0.heap.size, 0, none⟩) 0 0] 128)).heap.size := by simp
  go_upto_region 2 with (fail)
  generalize (W0.alloc (.cells #[] 130)).alloc (.cells #[.slice (some ⟨W0.heap.size, 0, none⟩) 0 0] 128) = W1 at *
  have G1 := gtrans G0 g1
  have B1 := Lib.hid (B0.kept g1)
  obtain ⟨p0, p1, p2, p3, p4⟩ := B1.out
  generalize hbase : W0.heap.size = base at *
  clear hbase K1 B0
  have HFin := fun (w' : World) (hv : Value) (L : List RZ) (H : HBox w' (base + 1) base hv L) (hp : L.Perm (waitZ a rows)) (g : w.grownBy w' none) => (show ∃ hb hv L, Ending.returned (.pointer (some ⟨base + 1, 0, none⟩)) = .returned (.pointer (some ⟨hb, 0, none⟩)) ∧ HBox w' hb w.heap.size hv L ∧ w.heap.size ≤ hb ∧ L.Perm (waitZ a rows) ∧ w.grownBy w' none from
    ⟨_, hv, L, rfl, ⟨H.c, Own.lower H.own (by omega), H.ne⟩, by omega, hp, g⟩)
  cases hu : a.up
  · have HE : Hid (waitZ a rows = []) := by show _ = _; unfold waitZ; rw [hu]; rfl
    rw [hu] at p4
    go_wp2_with fail
    go_ret
    exact HFin _ _ _ H1 (by rw [HE.out]) G1
  rw [hu] at p4
  have HWn : Hid (∀ k (hk : k < rows.length), waitZ a (rows.take (k + 1)) = waitZ a (rows.take k) ++ (repOf a.ds rows[k]).toList) := fun k hk => by
    rw [List.take_succ_eq_append_getElem hk, waitZ_append]
    congr 1
    unfold waitZ; rw [hu]
    cases hq : repOf a.ds rows[k] <;> simp [hq]
  have HWl : Hid (∀ k, (waitZ a (rows.take k)).length ≤ 100) := fun k => by
    have e : waitZ a (rows.take k) = (rows.take k).filterMap (repOf a.ds) := by unfold waitZ; rw [hu]; rfl
    rw [e]
    exact Nat.le_trans (List.length_filterMap_le _ _) (by simp; omega)
  clear hu
  go_wp2_with fail
  go_loopw [18] (fun i wr => ∃ (k : Nat) (hv : Value) (L : List RZ), k ≤ rows.length ∧ i = .int .i64 k ∧ HBox wr (base + 1) base hv L ∧ L.Perm (waitZ a (rows.take k)) ∧ Only (fun q => base ≤ q) W1 wr) (fun i _ => rows.length - (intOf i).toNat)
  case atStart => exact ⟨0, _, [], Nat.zero_le _, rfl, H1, by simp [waitZ], Only.refl _ _⟩
  case round =>
    clear H1 p0 p1 p2 p3 p4
    obtain ⟨k, hv, L, hk, rfl, H, hp, O⟩ := hrel
    have G := O.grew G1 (fun q hq => by omega)
    have hos := O.size
    by_cases hlt : k < rows.length
    · have hki : (k : Int) < rows.length := by omega
      obtain ⟨rg, ro, rfl, r0⟩ := (hr.kept G).at k hlt
      obtain ⟨p0, p1, p2, p3, p4⟩ := B1.out.only O (by omega)
      have hLl : L.length ≤ 100 := by rw [hp.length_eq]; exact HWl.out k
      have HWk := Lib.hid (HWn.out k hlt)
      generalize rows[k] = r at *
      go_wp2_with fail
      go_fit (repairIn_any _ a.ds r _ (h.kept G) hok)
      rintro e w2 ⟨rfl, g2⟩
      have H2 := H.grew g2
      have O2 := O.trans (Only.of g2 (S := fun q => base ≤ q) (fun _ e => by cases e))
      obtain ⟨q0, q1, q2, q3, q4⟩ := B1.out.only O2 (by omega)
      unfold repV
      have e3 := galloc (grefl w2) (.cells #[.int .i64 (repA a.ds r).1, .int .i64 ((repA a.ds r).2.1 : Int), .int .i64 (repA a.ds r).2.2] 130)
      have H3 := H2.grew e3
      have O3 := O2.trans (Only.of e3 (S := fun q => base ≤ q) (fun _ e => by cases e))
      have hx0 : ((w2.alloc (.cells #[.int .i64 (repA a.ds r).1, .int .i64 ((repA a.ds r).2.1 : Int), .int .i64 (repA a.ds r).2.2] 130))).cell? ⟨w2.heap.size, 0, none⟩ = some (.int .i64 (repA a.ds r).1) ∧ ((w2.alloc (.cells #[.int .i64 (repA a.ds r).1, .int .i64 ((repA a.ds r).2.1 : Int), .int .i64 (repA a.ds r).2.2] 130))).cell? ⟨w2.heap.size, 1, none⟩ = some (.int .i64 ((repA a.ds r).2.1 : Int)) ∧ ((w2.alloc (.cells #[.int .i64 (repA a.ds r).1, .int .i64 ((repA a.ds r).2.1 : Int), .int .i64 (repA a.ds r).2.2] 130))).cell? ⟨w2.heap.size, 2, none⟩ = some (.int .i64 (repA a.ds r).2.2) := by simp [go_sem]
      have hs3 : w2.heap.size < (w2.alloc (.cells #[.int .i64 (repA a.ds r).1, .int .i64 ((repA a.ds r).2.1 : Int), .int .i64 (repA a.ds r).2.2] 130)).heap.size := by simp
      clear p0 p1 p2 p3 p4 q0 q1 q2 q3 q4 r0 H2 O2
      go_upto_region 8 with (fail)
      have hs2 := g2.size
      generalize w2.alloc (.cells #[.int .i64 (repA a.ds r).1, .int .i64 ((repA a.ds r).2.1 : Int), .int .i64 (repA a.ds r).2.2] 130) = W3 at *
      generalize w2.heap.size = ob at *
      obtain ⟨o0, o1, o2⟩ := hx0
      cases hsome : (repOf a.ds r).isSome
      · have hnone : repOf a.ds r = none := by simpa using hsome
        have HW' : Hid (waitZ a (rows.take (k + 1)) = waitZ a (rows.take k)) := by show _ = _; rw [HWk.out, hnone]; simp
        clear hnone
        go_wp2_with fail
        go_roundw
        case rel => exact ⟨k + 1, hv, L, by omega, by go_num, H3, by rw [HW'.out]; exact hp, O3⟩
        case measure => simp [intOf]; omega
      · have hsm : repOf a.ds r = some (repA a.ds r) := by
          obtain ⟨x, hx⟩ := Option.isSome_iff_exists.1 hsome
          unfold repA; rw [hx]; rfl
        have HW' : Hid (waitZ a (rows.take (k + 1)) = waitZ a (rows.take k) ++ [repA a.ds r]) := by show _ = _; rw [HWk.out, hsm]; rfl
        have HP := heapPush_any (base + 1) base hv L (repA a.ds r) W3 H3 (by omega) (by omega)
        unfold heapV repI repV at HP
        clear hsm hsome
        generalize repA a.ds r = x at *
        go_wp2_with fail
        go_fit HP
        rintro e w4 ⟨rfl, hv4, L4, hp4, H4, hb4, O4⟩
        have O5 := O3.trans (O4.mono (S' := fun q => base ≤ q) (fun q hq => by
          rcases hq with (hq | hq) | hq
          · omega
          · exact (H3.own.lt q hq).1
          · omega))
        go_wp2_with fail
        go_roundw
        case rel => exact ⟨k + 1, hv4, L4, by omega, by go_num, H4, by rw [HW'.out]; exact hp4.trans (List.Perm.append_right _ hp), O5⟩
        case measure => simp [intOf]; omega
    · obtain rfl : k = rows.length := by omega
      rw [List.take_length] at hp
      go_wp2_with fail
      go_ret
      exact HFin _ _ _ H hp G
end Go.Proofs.YteialkknddpbjaaGreatDoor
