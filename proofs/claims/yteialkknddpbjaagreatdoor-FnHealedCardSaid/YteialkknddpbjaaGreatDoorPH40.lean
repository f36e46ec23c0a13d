/- What the program's repaired, Healed and HealedAll return. -/
import Derived.Deep.RegionHeld3
import Derived.Test.YteialkknddpbjaaGreatDoorPH30
import Derived.Test.YteialkknddpbjaaGreatDoorPH33
import Derived.Test.YteialkknddpbjaaGreatDoorPH36
import Derived.Test.YteialkknddpbjaaGreatDoorPH37
import Derived.Test.YteialkknddpbjaaGreatDoorPH39
namespace Go.Proofs.YteialkknddpbjaaGreatDoor
open Go.ChangeShapes Go.WideShapes Go.ChangeAt Go.RowKit

/-- what holds between two repairs -/
def RepRel (w : World) (hb base : Nat) (hv : Value) (Z : List DZ) (n : Nat) (fv : Value) (wr : World) (L' : List RZ) : Prop :=
  ∃ (M : List DZ) (hv' : Value) (raw' : List DV), HBox wr hb base hv' L' ∧ hv'.ownBlock = hv.ownBlock ∧ L'.length ≤ 900 ∧ L'.foldl putR M = Z ∧ OneEach L' ∧ (∀ x ∈ L', x.2.1 < n) ∧ OD wr w.heap.size fv M raw' ∧ allOk M ∧ M.length = n ∧ Only (fun k => HS hb hv k ∨ w.heap.size ≤ k) w wr
section
attribute [local go_sem] as_rep'
set_option maxRecDepth 8000 in
set_option maxHeartbeats 4000000 in
theorem repaired_any (v : Value) (l : List DZ) (hb base : Nat) (hv : Value) (L : List RZ) (w : World) (h : LD w v l) (hok : disksOkZ l = true) (H : HBox w hb base hv L) (hL : L.length ≤ 900) (hone : OneEach L) (hx : ∀ x ∈ L, x.2.1 < l.length) :
    Calls Tryz.prog 70 #[v, .pointer (some ⟨hb, 0, none⟩)] w fun e w' => ∃ v' raw, e = .returned v' ∧ OD w' w.heap.size v' (L.foldl putR l) raw ∧ Only (HS hb hv) w w' := by
  obtain ⟨hl5, hd16⟩ := ds_small hok
  obtain ⟨a, cap, rfl, hm⟩ := h.form
  have HAll : Hid (allOk l) := fun i hi => disksOk_at hok i hi
  have hbs : hb < w.heap.size := H.lt
  have hvs : Hid (∀ k, hv.ownBlock = some k → k < w.heap.size) := fun k e => (H.own.lt k e).2
  have HX : Hid (OneEach L ∧ ∀ x ∈ L, x.2.1 < l.length) := ⟨hone, hx⟩
  generalize hZ : L.foldl putR l = Z at *
  have HZ := Lib.hid hZ
  clear hZ hone hx
  go_enter Tryz.func70, Tryz.ntmps70
  go_wp2_with fail
  go_fit (copiedDisks_any _ l _ h (by omega) (fun i hi => by have := hd16 i hi; omega))
  rintro e w1 ⟨v1, raw1, rfl, o1, g1⟩
  obtain ⟨fa, fc, rfl, -⟩ := o1.form
  have R1 : RepRel w hb base hv Z l.length (.slice fa l.length fc) w1 L := ⟨l, hv, raw1, H.grew g1, rfl, hL, HZ.out, HX.out.1, HX.out.2, o1, HAll.out, rfl, Only.of g1 (fun _ e => by cases e)⟩
  clear h H o1 g1 HAll HX HZ
  go_wp2_with fail
  go_loopw [] (fun wr => ∃ L', RepRel w hb base hv Z l.length (.slice fa l.length fc) wr L') (fun wr => match wr.cell? ⟨hb, 0, none⟩ with | some (.slice _ n _) => n | _ => 0)
  case atStart => exact ⟨L, R1⟩
  case round =>
    clear R1
    obtain ⟨L', M, hv', raw', HH, hob, hl', hF, h1', hx', C, hA, hMl, O⟩ := hrel
    obtain ⟨xa, xc, rfl, -⟩ := HH.own.form
    obtain ⟨c0, f0⟩ := HH.c
    by_cases hlt : L'.length = 0
    · obtain rfl : L' = [] := List.eq_nil_of_length_eq_zero hlt
      have HZ2 : Hid (M = Z) := hF
      have ON : Only (HS hb hv) w wr := ⟨O.os, O.tape, O.output, O.size, fun k hk hn => O.block k hk (by rintro (q | q); exact hn q; omega)⟩
      clear hF hMl
      go_wp2_with fail
      go_fit (repLen_any _ [] _ HH.own)
      rintro e w2 ⟨rfl, rfl⟩
      go_wp2_with fail
      go_ret
      exact ⟨_, raw', rfl, by rw [← HZ2.out]; exact C, ON⟩
    have hpos : (0 : Int) < L'.length := by omega
    have hP := heapPop_any hb base _ L' _ HH (by omega) (by omega)
    unfold heapV repI repV at hP
    have HF := Lib.hid hF
    have HX := Lib.hid (show OneEach L' ∧ ∀ x ∈ L', x.2.1 < l.length from ⟨h1', hx'⟩)
    have HMl := Lib.hid hMl
    have HA := Lib.hid hA
    have hcell := Lib.hid c0
    clear hF h1' hx' hMl hA
    go_wp2_with fail
    go_fit (repLen_any _ L' _ HH.own)
    rintro e w2 ⟨rfl, rfl⟩
    go_wp2_with fail
    go_fit hP
    rintro e w3 ⟨x, hv3, L3, rfl, hp3, H3, hob3, O3⟩
    have C3 : OD w3 w.heap.size (.slice fa l.length fc) M raw' := C.away O3 C.tops.1 C.tops.2 (fun k hk => by
      rcases hk with hk | hk
      · left; omega
      · left; exact hvs.out k (hob ▸ hk))
    have O4 : Only (fun k => HS hb hv k ∨ w.heap.size ≤ k) w w3 := O.trans (O3.mono (fun k hk => by
      rcases hk with hk | hk
      · exact .inl (.inl hk)
      · exact .inl (.inr (hob ▸ hk))))
    have HP3 : Hid (L3.foldl putR (putR M x) = Z ∧ OneEach L3 ∧ (∀ y ∈ L3, y.2.1 < l.length) ∧ L3.length + 1 = L'.length ∧ x.2.1 < l.length) := by
      have hmem : ∀ y ∈ x :: L3, y ∈ L' := fun y hy => hp3.subset hy
      have h1 : OneEach (x :: L3) := HX.out.1.sub hmem
      have e := putAll_perm hp3 h1 M
      rw [HF.out] at e
      exact ⟨e, h1.sub (fun y hy => List.mem_cons_of_mem _ hy), fun y hy => HX.out.2 y (hmem y (List.mem_cons_of_mem _ hy)), by have := hp3.length_eq; simpa using this, HX.out.2 x (hmem x (by simp))⟩
    have hob4 : hv3.ownBlock = hv.ownBlock := hob3.trans hob
    obtain ⟨ya, yc, rfl, -⟩ := H3.own.form
    have hxd := HP3.out.2.2.2.2
    have hl3 : L3.length ≤ 900 := by have := HP3.out.2.2.2.1; omega
    have e4 := galloc (grefl w3) (.cells #[.int .i64 x.1, .int .i64 (x.2.1 : Int), .int .i64 x.2.2] 130)
    have q0 : (w3.alloc (.cells #[.int .i64 x.1, .int .i64 (x.2.1 : Int), .int .i64 x.2.2] 130)).cell? ⟨w3.heap.size, 0, none⟩ = some (.int .i64 x.1) := by simp [go_sem]
    have q1 : (w3.alloc (.cells #[.int .i64 x.1, .int .i64 (x.2.1 : Int), .int .i64 x.2.2] 130)).cell? ⟨w3.heap.size, 1, none⟩ = some (.int .i64 (x.2.1 : Int)) := by simp [go_sem]
    have q2 : (w3.alloc (.cells #[.int .i64 x.1, .int .i64 (x.2.1 : Int), .int .i64 x.2.2] 130)).cell? ⟨w3.heap.size, 2, none⟩ = some (.int .i64 x.2.2) := by simp [go_sem]
    have C4 := C3.grew e4
    have hC3 : Hid (∀ k, (Value.slice fa l.length fc).ownBlock = some k → k < w3.heap.size) := fun k e => (C3.own.lt k e).2
    have H4 := H3.grew e4
    have O5 := O4.trans (Only.of e4 (S := fun k => HS hb hv k ∨ w.heap.size ≤ k) (fun _ e => by cases e))
    have hs3 : w.heap.size ≤ w3.heap.size := O4.size
    clear HH C c0 f0 hP H3 C3 O3 O O4 hp3 HF HX
    go_upto_region 4 with (fail)
    have hs4 : w3.heap.size < (w3.alloc (.cells #[.int .i64 x.1, .int .i64 (x.2.1 : Int), .int .i64 x.2.2] 130)).heap.size := by simp
    generalize w3.alloc (.cells #[.int .i64 x.1, .int .i64 (x.2.1 : Int), .int .i64 x.2.2] 130) = W at *
    generalize w3.heap.size = qb at *
    have hdl : x.2.1 < M.length := by rw [HMl.out]; exact hxd
    have hdr : x.2.1 < raw'.length := by rw [C4.len]; exact hdl
    have hdi : (x.2.1 : Int) < l.length := by omega
    obtain ⟨lg, e', hlo, hlg, k0, k1, k2, k3⟩ := C4.at x.2.1 hdr hdl
    cases e'
    have hD := (C4.is x.2.1 hdr hdl).isD
    have hok1 := HA.out x.2.1 hdl
    have HMd := Lib.hid (written_put (p := x.1) (v := x.2.2) hok1)
    have hlen3 : L3.length < L'.length := by have := HP3.out.2.2.2.1; omega
    have HPu : Hid (putR M x = M.set x.2.1 (M[x.2.1].put x.1 x.2.2)) := by show _ = _; unfold putR; rw [getD_at hdl]
    have HA2 : Hid (allOk (putR M x)) := by show allOk _; rw [HPu.out]; exact HA.out.set x.2.1 (fun _ => DZ.put_ok' hok1)
    obtain ⟨hc4, hf4⟩ := H4.c
    have HFin : Hid (∀ (w8 : World) (ka8 : Option Addr) (km8 kc8 : Nat) (na8 : Option Addr) (nm8 nc8 : Nat), W.grownBy w8 none → IsD w8 W.drew.heap.size (.slice ka8 km8 kc8) (.slice na8 nm8 nc8) (M[x.2.1].put x.1 x.2.2) → Apart (.slice ka8 km8 kc8) (.slice na8 nm8 nc8) →
        RepRel w hb base hv Z l.length (.slice (some ⟨lg, 0, none⟩) l.length fc) (set4At w8 lg (x.2.1 * 4) (.int .i64 (M[x.2.1].written x.1 x.2.2).n) (.bool (M[x.2.1].written x.1 x.2.2).dead) (.slice ka8 km8 kc8) (.slice na8 nm8 nc8)) L3 ∧ (set4At w8 lg (x.2.1 * 4) (.int .i64 (M[x.2.1].written x.1 x.2.2).n) (.bool (M[x.2.1].written x.1 x.2.2).dead) (.slice ka8 km8 kc8) (.slice na8 nm8 nc8)).cell? ⟨hb, 0, none⟩ = some (.slice ya L3.length yc)) := by
      intro w8 ka8 km8 kc8 na8 nm8 nc8 g8 I8 ap8
      have hs8 : w.heap.size ≤ W.heap.size := by omega
      have hR := C4.replaced (w1 := w8) x.2.1 hdr ⟨(M[x.2.1].put x.1 x.2.2).n, (M[x.2.1].put x.1 x.2.2).dead, ka8, km8, kc8, na8, nm8, nc8⟩ (M[x.2.1].put x.1 x.2.2) g8 ⟨rfl, rfl, I8.1.lower hs8, I8.2.lower hs8⟩ ap8 (fun j hj => by
        rcases hj with hj | hj
        · exact (I8.1.lt j hj).1
        · exact (I8.2.lt j hj).1)
      rw [HMd.out]
      have gS := gset4At (o := x.2.1 * 4) (World.grownBy.refl w8 (some lg)) (.int .i64 (M[x.2.1].put x.1 x.2.2).n) (.bool (M[x.2.1].put x.1 x.2.2).dead) (.slice ka8 km8 kc8) (.slice na8 nm8 nc8)
      have H8 := (H4.grew g8).kept gS (fun e => by cases e; omega) (.inr (fun e => by have := hvs.out lg (hob4 ▸ e); omega))
      refine ⟨⟨putR M x, _, _, H8, hob4, hl3, HP3.out.1, HP3.out.2.1, HP3.out.2.2.1, by rw [HPu.out]; exact hR, HA2.out, by rw [HPu.out, List.length_set]; exact HMl.out, ?_⟩, H8.c.1⟩
      exact (O5.trans (Only.of g8 (S := fun k => HS hb hv k ∨ w.heap.size ≤ k) (fun _ e => by cases e))).trans (Only.of gS (fun _ e => by cases e; exact .inr hlo))
    generalize M[x.2.1] = D at *
    obtain ⟨k0, m0⟩ := k0
    obtain ⟨k1, m1⟩ := k1
    obtain ⟨k2, m2⟩ := k2
    obtain ⟨k3, m3⟩ := k3
    have hD0 : IsD (W.drewN 1) 0 (.slice raw'[x.2.1].ka raw'[x.2.1].km raw'[x.2.1].kc) (.slice raw'[x.2.1].na raw'[x.2.1].nm raw'[x.2.1].nc) D := ⟨(hD.1.grew (gdrew (grefl W) 1)).lower (Nat.zero_le _), (hD.2.grew (gdrew (grefl W) 1)).lower (Nat.zero_le _)⟩
    change W.cell? ⟨lg, x.2.1 * 4 + 2, none⟩ = some (.slice raw'[x.2.1].ka raw'[x.2.1].km raw'[x.2.1].kc) at k2
    change W.cell? ⟨lg, x.2.1 * 4 + 3, none⟩ = some (.slice raw'[x.2.1].na raw'[x.2.1].nm raw'[x.2.1].nc) at k3
    have ne1 : lg ≠ qb := by have := hC3.out lg rfl; omega
    clear HP3 HPu HA2 HA HMl C4 hD O5 H4
    generalize raw'[x.2.1] = rd at *
    generalize x.1 = xr at *
    generalize x.2.2 = xv at *
    generalize x.2.1 = xd at *
    have hL3 : Hid (L3.length < L'.length) := hlen3
    go_wp2_with fail
    go_region_law (first | (go_simp; go_at_call 139; go_fit (implWritten_any _ _ D xr xv _ hD0); rintro e w8 ⟨kv, nv, rfl, I8, ap8, g8⟩; rw [HMd.out] at I8; obtain ⟨ka8, km8, kc8, rfl⟩ := I8.1.sl; obtain ⟨na8, nm8, nc8, rfl⟩ := I8.2.sl; have hF := Lib.hid (HFin.out w8 ka8 km8 kc8 na8 nm8 nc8 (gtrans (gdrew (grefl W) 1) g8) I8 ap8); have n0 := gkc g8 q0; have n1 := gkc g8 q1; have n2 := gkc g8 q2; have j0 := gkc g8 k0; have j1 := gkc g8 k1; have j2 := gkc g8 k2; have j3 := gkc g8 k3; have o0 := gkf g8 k0 m0; have o1 := gkf g8 k1 m1; have o2 := gkf g8 k2 m2; have o3 := gkf g8 k3 m3; clear I8 ap8 g8))
    all_goals (
      obtain ⟨hR, hc⟩ := hF.out
      go_wp2_with fail
      go_roundw
      case rel => exact ⟨L3, hR⟩
      case measure => unfold set4At at hc; rw [hc, hcell.out]; exact hL3.out)
end
attribute [local go_sem] str_list str_size str_add lit_list0 add_lit lit_add str_cut

theorem Own.someB {w : World} {base : Nat} {v : Value} {l : List RZ} (h : Own repE w base v l) (hl : l ≠ []) : v.ownBlock ≠ none := by
  obtain ⟨_, ⟨_, h1⟩ | ⟨g, c, cur, rfl, _⟩⟩ := h
  · exact absurd (List.eq_nil_of_length_eq_zero h1) hl
  · simp [Value.ownBlock]
set_option maxRecDepth 8000 in
set_option maxHeartbeats 4000000 in
theorem waitingIn2_any (v : Value) (a : AZ) (rv : Value) (rows : List Int) (w : World) (h : LD w v a.ds) (hok : disksOkZ a.ds = true) (hr : IR w rv rows) (hn : rows.length ≤ 100) :
    Calls Tryz.prog 68 #[a.val v, rv] w fun e w' => ∃ hb hv L, e = .returned (.pointer (some ⟨hb, 0, none⟩)) ∧ HBox w' hb w.heap.size hv L ∧ w.heap.size ≤ hb ∧ L.Perm (waitZ a rows) ∧ hv.ownBlock ≠ none ∧ w.grownBy w' none := by
  obtain ⟨ra, rc, rfl, -⟩ := hr.form
  obtain ⟨xa, cap, rfl, hm⟩ := h.form
  have B0 := Box5.new w (.slice xa a.ds.length cap) (.string (str a.log)) (.string (str a.next)) (.int .i64 a.stage) (.bool a.up) 26
  have G0 := galloc (grefl w) (.cells #[.slice xa a.ds.length cap, .string (str a.log), .string (str a.next), .int .i64 a.stage, .bool a.up] 26)
  have s0 : w.heap.size < (w.alloc (.cells #[.slice xa a.ds.length cap, .string (str a.log), .string (str a.next), .int .i64 a.stage, .bool a.up] 26)).heap.size := by simp
  go_enter Tryz.func68, Tryz.ntmps68
  go_upto_region 1 with (fail)
  generalize w.alloc (.cells #[.slice xa a.ds.length cap, .string (str a.log), .string (str a.next), .int .i64 a.stage, .bool a.up] 26) = W0 at *
  have K1 : Own repE (W0.alloc (.cells #[] 130)) W0.heap.size (.slice (some ⟨W0.heap.size, 0, none⟩) 0 0) [] := Own.fresh repE W0 [] #[] rfl (by simp) (Nat.le_refl _)
  have g1 := galloc (galloc (grefl W0) (.cells #[] 130)) (.cells #[.slice (some ⟨W0.heap.size, 0, none⟩) 0 0] 128)
  have H1 : HBox ((W0.alloc (.cells #[] 130)).alloc (.cells #[.slice (some ⟨W0.heap.size, 0, none⟩) 0 0] 128)) (W0.heap.size + 1) W0.heap.size (.slice (some ⟨W0.heap.size, 0, none⟩) 0 0) [] :=
    ⟨by simp [At, go_sem], Own.grew K1 (galloc (grefl _) _), by simp [Value.ownBlock]⟩
  have hsW : W0.heap.size + 1 < ((W0.alloc (.cells #[] 130)).alloc (.cells #[.slice (some ⟨W0.heap.size, 0, none⟩) 0 0] 128)).heap.size := by simp
  go_upto_region 2 with (fail)
  generalize (W0.alloc (.cells #[] 130)).alloc (.cells #[.slice (some ⟨W0.heap.size, 0, none⟩) 0 0] 128) = W1 at *
  have G1 := gtrans G0 g1
  have B1 := Lib.hid (B0.kept g1)
  obtain ⟨p0, p1, p2, p3, p4⟩ := B1.out
  generalize hbase : W0.heap.size = base at *
  clear hbase K1 B0
  have HFin := fun (w' : World) (hv : Value) (L : List RZ) (H : HBox w' (base + 1) base hv L) (hp : L.Perm (waitZ a rows)) (ho : hv.ownBlock ≠ none) (g : w.grownBy w' none) => (show ∃ hb hv L, Ending.returned (.pointer (some ⟨base + 1, 0, none⟩)) = .returned (.pointer (some ⟨hb, 0, none⟩)) ∧ HBox w' hb w.heap.size hv L ∧ w.heap.size ≤ hb ∧ L.Perm (waitZ a rows) ∧ hv.ownBlock ≠ none ∧ w.grownBy w' none from
    ⟨_, hv, L, rfl, ⟨H.c, Own.lower H.own (by omega), H.ne⟩, by omega, hp, ho, g⟩)
  cases hu : a.up
  · have HE : Hid (waitZ a rows = []) := by show _ = _; unfold waitZ; rw [hu]; rfl
    rw [hu] at p4
    go_wp2_with fail
    go_ret
    exact HFin _ _ _ H1 (by rw [HE.out]) (by simp [Value.ownBlock]) G1
  rw [hu] at p4
  have HWn : Hid (∀ k (hk : k < rows.length), waitZ a (rows.take (k + 1)) = waitZ a (rows.take k) ++ (repOf a.ds rows[k]).toList) := fun k hk => by
    rw [List.take_succ_eq_append_getElem hk, waitZ_append]
    congr 1
    unfold waitZ; rw [hu]
    cases hq : repOf a.ds rows[k] <;> simp [hq]
  have HWl : Hid (∀ k, (waitZ a (rows.take k)).length ≤ 100) := fun k => by
    have e : waitZ a (rows.take k) = (rows.take k).filterMap (repOf a.ds) := by unfold waitZ; rw [hu]; rfl
    rw [e]
    exact Nat.le_trans (List.length_filterMap_le _ _) (by simp; omega)
  clear hu
  go_wp2_with fail
  go_loopw [18] (fun i wr => ∃ (k : Nat) (hv : Value) (L : List RZ), k ≤ rows.length ∧ i = .int .i64 k ∧ HBox wr (base + 1) base hv L ∧ L.Perm (waitZ a (rows.take k)) ∧ hv.ownBlock ≠ none ∧ Only (fun q => base ≤ q) W1 wr) (fun i _ => rows.length - (intOf i).toNat)
  case atStart => exact ⟨0, _, [], Nat.zero_le _, rfl, H1, by simp [waitZ], by simp [Value.ownBlock], Only.refl _ _⟩
  case round =>
    clear H1 p0 p1 p2 p3 p4
    obtain ⟨k, hv, L, hk, rfl, H, hp, hon, O⟩ := hrel
    have G := O.grew G1 (fun q hq => by omega)
    have hos := O.size
    by_cases hlt : k < rows.length
    · have hki : (k : Int) < rows.length := by omega
      obtain ⟨rg, ro, rfl, r0⟩ := (hr.kept G).at k hlt
      obtain ⟨p0, p1, p2, p3, p4⟩ := B1.out.only O (by omega)
      have hLl : L.length ≤ 100 := by rw [hp.length_eq]; exact HWl.out k
      have HWk := Lib.hid (HWn.out k hlt)
      generalize rows[k] = r at *
      go_wp2_with fail
      go_fit (repairIn_any _ a.ds r _ (h.kept G) hok)
      rintro e w2 ⟨rfl, g2⟩
      have H2 := H.grew g2
      have O2 := O.trans (Only.of g2 (S := fun q => base ≤ q) (fun _ e => by cases e))
      obtain ⟨q0, q1, q2, q3, q4⟩ := B1.out.only O2 (by omega)
      unfold repV
      have e3 := galloc (grefl w2) (.cells #[.int .i64 (repA a.ds r).1, .int .i64 ((repA a.ds r).2.1 : Int), .int .i64 (repA a.ds r).2.2] 130)
      have H3 := H2.grew e3
      have O3 := O2.trans (Only.of e3 (S := fun q => base ≤ q) (fun _ e => by cases e))
      have hx0 : ((w2.alloc (.cells #[.int .i64 (repA a.ds r).1, .int .i64 ((repA a.ds r).2.1 : Int), .int .i64 (repA a.ds r).2.2] 130))).cell? ⟨w2.heap.size, 0, none⟩ = some (.int .i64 (repA a.ds r).1) ∧ ((w2.alloc (.cells #[.int .i64 (repA a.ds r).1, .int .i64 ((repA a.ds r).2.1 : Int), .int .i64 (repA a.ds r).2.2] 130))).cell? ⟨w2.heap.size, 1, none⟩ = some (.int .i64 ((repA a.ds r).2.1 : Int)) ∧ ((w2.alloc (.cells #[.int .i64 (repA a.ds r).1, .int .i64 ((repA a.ds r).2.1 : Int), .int .i64 (repA a.ds r).2.2] 130))).cell? ⟨w2.heap.size, 2, none⟩ = some (.int .i64 (repA a.ds r).2.2) := by simp [go_sem]
      have hs3 : w2.heap.size < (w2.alloc (.cells #[.int .i64 (repA a.ds r).1, .int .i64 ((repA a.ds r).2.1 : Int), .int .i64 (repA a.ds r).2.2] 130)).heap.size := by simp
      clear p0 p1 p2 p3 p4 q0 q1 q2 q3 q4 r0 H2 O2
      go_upto_region 8 with (fail)
      have hs2 := g2.size
      generalize w2.alloc (.cells #[.int .i64 (repA a.ds r).1, .int .i64 ((repA a.ds r).2.1 : Int), .int .i64 (repA a.ds r).2.2] 130) = W3 at *
      generalize w2.heap.size = ob at *
      obtain ⟨o0, o1, o2⟩ := hx0
      cases hsome : (repOf a.ds r).isSome
      · have hnone : repOf a.ds r = none := by simpa using hsome
        have HW' : Hid (waitZ a (rows.take (k + 1)) = waitZ a (rows.take k)) := by show _ = _; rw [HWk.out, hnone]; simp
        clear hnone
        go_wp2_with fail
        go_roundw
        case rel => exact ⟨k + 1, hv, L, by omega, by go_num, H3, by rw [HW'.out]; exact hp, hon, O3⟩
        case measure => simp [intOf]; omega
      · have hsm : repOf a.ds r = some (repA a.ds r) := by
          obtain ⟨x, hx⟩ := Option.isSome_iff_exists.1 hsome
          unfold repA; rw [hx]; rfl
        have HW' : Hid (waitZ a (rows.take (k + 1)) = waitZ a (rows.take k) ++ [repA a.ds r]) := by show _ = _; rw [HWk.out, hsm]; rfl
        have HP := heapPush_any (base + 1) base hv L (repA a.ds r) W3 H3 (by omega) (by omega)
        unfold heapV repI repV at HP
        clear hsm hsome
        generalize repA a.ds r = x at *
        go_wp2_with fail
        go_fit HP
        rintro e w4 ⟨rfl, hv4, L4, hp4, H4, hb4, O4⟩
        have O5 := O3.trans (O4.mono (S' := fun q => base ≤ q) (fun q hq => by
          rcases hq with (hq | hq) | hq
          · omega
          · exact (H3.own.lt q hq).1
          · omega))
        go_wp2_with fail
        go_roundw
        case rel => exact ⟨k + 1, hv4, L4, by omega, by go_num, H4, by rw [HW'.out]; exact hp4.trans (List.Perm.append_right _ hp), H4.own.someB (fun e => by have := hp4.length_eq; rw [e] at this; simp at this), O5⟩
        case measure => simp [intOf]; omega
    · obtain rfl : k = rows.length := by omega
      rw [List.take_length] at hp
      go_wp2_with fail
      go_ret
      exact HFin _ _ _ H hp hon G
set_option maxRecDepth 8000 in
set_option maxHeartbeats 4000000 in
theorem implHealed_any (v : Value) (a : AZ) (r : Int) (w : World) (h : LD w v a.ds) (ht : Pow10 w) (hV : LibV w) :
    Calls Tryz.prog 14 #[a.val v, .int .i64 r] w (GotAB (healedZ a r) (healedOk a r) w) := by
  obtain ⟨xa, cap, rfl, hm⟩ := h.form
  obtain ⟨B0, Z0, G0, s0⟩ := two_new w (.slice xa a.ds.length cap) (.string (str a.log)) (.string (str a.next)) (.int .i64 a.stage) (.bool a.up) 26
  go_enter Tryz.func14, Tryz.ntmps14
  go_upto_region 1 with (fail)
  generalize (w.alloc (.cells #[.slice xa a.ds.length cap, .string (str a.log), .string (str a.next), .int .i64 a.stage, .bool a.up] 26)).alloc zero5 = W0 at *
  have HB0 := Lib.hid B0
  obtain ⟨p0, p1, p2, p3, p4⟩ := B0
  cases hok : a.ok
  · have HE : Hid (healedZ a r = .zero ∧ healedOk a r = false) := by constructor <;> simp [healedZ, healedOk, hok]
    go_wp2_with fail
    go_fit (implArrayOk_any _ a _ (h.kept G0) (ht.kept G0) (hV.kept G0))
    rintro e w1 ⟨rfl, g1⟩
    rw [hok]
    obtain ⟨⟨z0, y0⟩, ⟨z1, y1⟩, ⟨z2, y2⟩, ⟨z3, y3⟩, ⟨z4, y4⟩⟩ := Z0.kept g1 (by simp)
    have hs1 := g1.size
    have hR := res5l (OD.nil w1 w1.heap.size) (r := w.heap.size + 1) (by omega) (by omega) (gtrans G0 g1) (.slice none 0 0) (.string ⟨#[]⟩) (.string ⟨#[]⟩) (.int .i64 0) (.bool false)
    go_wp2_with fail
    exact bodyPost_ret (v := .tuple #[.agg #[.slice none 0 0, .string ⟨#[]⟩, .string ⟨#[]⟩, .int .i64 0, .bool false], .bool false]) (by simp [results, Tryz.results14, go_sem, z0, z1, z2, z3, z4]) rfl ⟨_, [], by rw [HE.out.1, HE.out.2]; rfl, by rw [HE.out.1]; exact hR.1, hR.2⟩
  have HE : Hid (healedZ a r = { a with ds := (waitZ a [r]).foldl putR a.ds } ∧ healedOk a r = decide (0 < (waitZ a [r]).length)) := by
    constructor
    · simp only [healedZ, hok, if_true]; rw [healed_else, healed_wait]
    · simp only [healedOk, hok, Bool.true_and]; exact heal_wait hok r
  obtain ⟨hl5, hd16⟩ := ds_small (AZ.ok_ds hok)
  have hll := AZ.ok_len hok
  have HDk : Hid (disksOkZ a.ds = true) := AZ.ok_ds hok
  go_wp2_with fail
  go_fit (implArrayOk_any _ a _ (h.kept G0) (ht.kept G0) (hV.kept G0))
  rintro e w1 ⟨rfl, g1⟩
  rw [hok]
  have G1 := gtrans G0 g1
  have HB1 := Lib.hid (HB0.out.kept g1)
  have hs1 := g1.size
  have Z1 := Z0.kept g1 (by simp)
  clear p0 p1 p2 p3 p4 HB0 g1 Z0
  obtain ⟨p0, p1, p2, p3, p4⟩ := HB1.out
  clear hok
  go_upto_region 3 with (fail)
  refine region_rel 7 [[], [0], [], [], [3], [2, 4], []] (fun i v u => match i with
    | 0 => v = (.agg #[.slice xa a.ds.length cap, .string (str a.log), .string (str a.next), .int .i64 a.stage, .bool a.up])
    | 1 => ∃ va vc, v = a.val (.slice va a.ds.length vc)
    | 2 => v = (.agg #[.slice xa a.ds.length cap, .string (str a.log), .string (str a.next), .int .i64 a.stage, .bool a.up])
    | 3 => v = .int .i64 r
    | 4 => IR u v [r]
    | 5 => ∃ (hb : Nat) (hv : Value) (L : List RZ) (base : Nat), v = .pointer (some ⟨hb, 0, none⟩) ∧ HBox u hb base hv L ∧ w1.heap.size ≤ hb ∧ w1.heap.size ≤ base ∧ L.Perm (waitZ a [r]) ∧ hv.ownBlock ≠ none
    | 6 => ∃ fb : Nat, v = .pointer (some ⟨fb, 0, none⟩) ∧ w1.heap.size ≤ fb ∧ u.heap[fb]? = some (.cells #[.slice none 0 0, .string ⟨#[]⟩, .string ⟨#[]⟩, .int .i64 0, .bool false] 26 (0, 0))
    | _ => True) (by kernel_rfl) (by kernel_rfl) ?hst ?hop ?hend
  case hst =>
    refine ⟨⟨⟨⟨⟨⟨⟨trivial, ?_⟩, ?_⟩, ?_⟩, ?_⟩, ?_⟩, ?_⟩, ?_⟩
    · exact fun v u u' h g => h
    · exact fun v u u' h g => h
    · exact fun v u u' h g => h
    · exact fun v u u' h g => h
    · exact fun v u u' h g => Rd.kept h g
    · exact fun v u u' ⟨hb, hv, L, base, h1, h2, h3, h4, h5, h6⟩ g => ⟨hb, hv, L, base, h1, h2.grew g, h3, h4, h5, h6⟩
    · exact fun v u u' ⟨fb, h1, h2, h3⟩ g => ⟨fb, h1, h2, (g.block fb (Array.getElem?_eq_some_iff.1 h3).1 (by simp)).trans h3⟩
  case hop =>
    have HA : Hid (∀ u, w1.drew.grownBy u none → Box5 u w.heap.size (.slice xa a.ds.length cap) (.string (str a.log)) (.string (str a.next)) (.int .i64 a.stage) (.bool a.up) ∧ w1.grownBy u none) := fun u g => ⟨HB1.out.kept (gtrans (gdrew (grefl _) 1) g), gtrans (gdrew (grefl _) 1) g⟩
    refine ⟨⟨⟨⟨⟨⟨⟨trivial, ?_⟩, ?_⟩, ?_⟩, ?_⟩, ?_⟩, ?_⟩, ?_⟩
    · intro o ho vs u g hd
      obtain ⟨⟨c0, c1, c2, c3, c4⟩, gu⟩ := HA.out u g
      cases ho
      simp only [actOf, dstOf, List.foldl_nil, List.getElem?_toArray, Act.put, List.getD_cons_zero]
      go_simp
      exact ⟨grefl _, rfl⟩
    · intro o ho vs u g hd
      have h0 : vs 0 = _ := hd 0 (by simp)
      obtain ⟨-, gu⟩ := HA.out u g
      cases ho
      simp only [actOf, dstOf, List.foldl_cons, List.foldl_nil, List.getElem?_toArray, List.getElem?_cons_zero, Option.bind_some, Act.put, List.setIfInBounds_toArray, List.set_cons_zero, List.set_cons_succ, List.getD_cons_zero, List.getD_cons_succ]
      rw [h0]
      go_simp
      simp only [relUpon]
      go_fit (copiedArray_any _ a _ (h.kept (gtrans G1 gu)) (by omega) (fun i hi => by have := hd16 i hi; omega) (by omega) (by omega))
      rintro e w2 ⟨v2, raw2, rfl, o2, g2⟩
      obtain ⟨va, vc, rfl, -⟩ := o2.form
      exact ⟨_, rfl, g2, va, vc, rfl⟩
    · intro o ho vs u g hd
      obtain ⟨⟨c0, c1, c2, c3, c4⟩, gu⟩ := HA.out u g
      cases ho
      simp only [actOf, dstOf, List.foldl_nil, List.getElem?_toArray, Act.put, List.getD_cons_zero, List.getD_cons_succ]
      go_simp
      exact ⟨grefl _, rfl⟩
    · intro o ho vs u g hd
      cases ho
      simp only [actOf, dstOf, List.foldl_nil, List.getElem?_toArray, Act.put, List.getD_cons_zero, List.getD_cons_succ]
      go_simp
      exact ⟨grefl _, rfl⟩
    · intro o ho vs u g hd
      have h3 : vs 3 = _ := hd 3 (by simp)
      cases ho
      simp only [actOf, dstOf, List.foldl_cons, List.foldl_nil, List.getElem?_toArray, List.getElem?_cons_zero, List.getElem?_cons_succ, Option.bind_some, Act.put, List.setIfInBounds_toArray, List.set_cons_zero, List.set_cons_succ, List.getD_cons_zero, List.getD_cons_succ]
      rw [h3]
      go_simp
      exact ⟨galloc (grefl _) _, (IS.single _ r (Nat.zero_le _)).rd⟩
    · intro o ho vs u g hd
      have h2 : vs 2 = _ := hd 2 (by simp)
      have h4 : IR u (vs 4) [r] := hd 4 (by simp)
      obtain ⟨-, gu⟩ := HA.out u g
      cases ho
      simp only [actOf, dstOf, List.foldl_cons, List.foldl_nil, List.getElem?_toArray, List.getElem?_cons_zero, List.getElem?_cons_succ, Option.bind_some, Act.put, List.setIfInBounds_toArray, List.set_cons_zero, List.set_cons_succ, List.getD_cons_zero, List.getD_cons_succ]
      rw [h2]
      go_simp
      simp only [relUpon]
      go_fit (waitingIn2_any _ a _ [r] _ (h.kept (gtrans G1 gu)) HDk.out h4 (by simp))
      rintro e w3 ⟨hb, hv, L, rfl, H3, hb3, hp3, ho3, g3⟩
      have hs1 := gu.size
      exact ⟨_, rfl, g3, hb, rfl, hv, L, _, H3, by omega, hs1, hp3, ho3⟩
    · intro o ho vs u g hd
      obtain ⟨-, gu⟩ := HA.out u g
      cases ho
      simp only [actOf, dstOf, List.foldl_nil, List.getElem?_toArray, Act.put, List.getD_cons_zero, List.getD_cons_succ]
      go_simp
      exact ⟨galloc (grefl _) _, _, rfl, gu.size, World.alloc_heap_new u _⟩
  case hend =>
    intro vs u g hR
    obtain ⟨⟨⟨⟨⟨⟨⟨-, h0⟩, h1⟩, h2⟩, h3⟩, h4⟩, h5⟩, h6⟩ := hR
    dsimp only at h0 h1 h2 h3 h4 h5 h6
    obtain ⟨va, vc, h1⟩ := h1
    obtain ⟨hb, hv, L, base, h5, H, hb1, hb2, hp, hon⟩ := h5
    obtain ⟨fb, h6, hf1, hblk⟩ := h6
    have gu : w1.grownBy u none := gtrans (gdrew (grefl _) 1) g
    have F0 : Five u fb (.slice none 0 0) (.string ⟨#[]⟩) (.string ⟨#[]⟩) (.int .i64 0) (.bool false) := ⟨⟨by simp [World.cell?, hblk], by simp [World.frozen?, hblk]⟩, ⟨by simp [World.cell?, hblk], by simp [World.frozen?, hblk]⟩, ⟨by simp [World.cell?, hblk], by simp [World.frozen?, hblk]⟩, ⟨by simp [World.cell?, hblk], by simp [World.frozen?, hblk]⟩, ⟨by simp [World.cell?, hblk], by simp [World.frozen?, hblk]⟩⟩
    have hfb : fb ≠ hb := fun e => by
      subst e
      have e2 := H.c.1.symm.trans F0.c0.1
      cases e2
      exact hon rfl
    have hfv : hv.ownBlock ≠ some fb := fun e => by
      obtain ⟨_, ⟨e2, _⟩ | ⟨g', c, cur, e2, _, hg, _⟩⟩ := H.own
      · rw [e2] at e; cases e
      · rw [e2] at e
        cases e
        rw [hblk] at hg
        injection hg with hg
        injection hg with _ hg _
        exact absurd hg (by decide)
    have F1 : Five (set5 u fb (.slice va a.ds.length vc) (.string (str a.log)) (.string (str a.next)) (.int .i64 a.stage) (.bool a.up)) fb (.slice va a.ds.length vc) (.string (str a.log)) (.string (str a.next)) (.int .i64 a.stage) (.bool a.up) := by
      unfold set5
      exact ⟨((((F0.c0.same _).other (by simp) _).other (by simp) _).other (by simp) _).other (by simp) _, ((((F0.c1.other (by simp) _).same _).other (by simp) _).other (by simp) _).other (by simp) _, ((((F0.c2.other (by simp) _).other (by simp) _).same _).other (by simp) _).other (by simp) _, ((((F0.c3.other (by simp) _).other (by simp) _).other (by simp) _).same _).other (by simp) _, ((((F0.c4.other (by simp) _).other (by simp) _).other (by simp) _).other (by simp) _).same _⟩
    have gS := gset5b (World.grownBy.refl u (some fb)) (.slice va a.ds.length vc) (.string (str a.log)) (.string (str a.next)) (.int .i64 a.stage) (.bool a.up)
    have H1 : HBox (set5 u fb (.slice va a.ds.length vc) (.string (str a.log)) (.string (str a.next)) (.int .i64 a.stage) (.bool a.up)) hb base hv L := H.kept gS (fun e => hfb (by cases e; rfl)) (.inr hfv)
    have GS : w1.grownBy (set5 u fb (.slice va a.ds.length vc) (.string (str a.log)) (.string (str a.next)) (.int .i64 a.stage) (.bool a.up)) none := gsub gu gS (fun k e => by cases e; exact hf1)
    have hbu := H.lt
    have hfu : fb < u.heap.size := cell_lt F0.c0.1
    have hsz : (set5 u fb (.slice va a.ds.length vc) (.string (str a.log)) (.string (str a.next)) (.int .i64 a.stage) (.bool a.up)).heap.size = u.heap.size := by simp [set5, World.setCell]
    obtain ⟨⟨d0, e0⟩, ⟨d1, e1⟩, ⟨d2, e2⟩, ⟨d3, e3⟩, ⟨d4, e4⟩⟩ := F0
    change wpAny _ _ _ _ 2 #[true, true, true, true, true, true, true, false, false] (actOf _ vs _ [0, 1, 2, 3, 4, 5, 6]) _
    simp only [actOf, dstOf, List.foldl_cons, List.foldl_nil, List.getElem?_toArray, List.getElem?_cons_zero, List.getElem?_cons_succ, Option.bind_some, Act.put, List.setIfInBounds_toArray, List.set_cons_zero, List.set_cons_succ]
    rw [h0, h1, h2, h3, h5, h6]
    generalize vs 4 = s4
    refine wpAny_ready (rs := [7]) (by kernel_rfl) (by simp) ?_
    refine AllReady.cons rfl (fun K hK => ?_) AllReady.nil
    go_simp
    refine hK _ _ ?_
    clear hK K
    refine wpAny_ready (rs := [8]) (by kernel_rfl) (by simp) ?_
    refine AllReady.cons rfl (fun K hK => ?_) AllReady.nil
    go_simp
    refine hK _ _ ?_
    clear hK K
    refine wpAny_done (by kernel_rfl) ?_ _
    unfold set5 at F1 H1 GS hsz
    generalize World.setCell _ ⟨fb, 4, none⟩ (.bool a.up) = W5 at *
    have GG := gtrans G1 GS
    have HB5 := Lib.hid (HB1.out.kept GS)
    have ZZ := Lib.hid (Z1.kept GS (by simp))
    have HF := Lib.hid F1
    have hone : OneEach L := (waitZ_one a [r]).sub (fun x hx => hp.subset hx)
    have hbd : ∀ x ∈ L, x.2.1 < a.ds.length := fun x hx => (waitZ_facts (hp.subset hx)).2.2.1
    have hLl : L.length ≤ 900 := by
      rw [hp.length_eq]
      unfold waitZ; split
      · exact Nat.le_trans (List.length_filterMap_le _ _) (by simp)
      · simp
    have hfold := Lib.hid (putAll_perm hp hone a.ds)
    have hlen := Lib.hid hp.length_eq
    have hHS : Hid (∀ k, HS hb hv k → w1.heap.size ≤ k ∧ k ≠ fb) := fun k hk => by
      rcases hk with rfl | hk
      · exact ⟨hb1, fun e => hfb e.symm⟩
      · exact ⟨by have := (H1.own.lt k hk).1; omega, fun e => hfv (e ▸ hk)⟩
    have hs5 : w.heap.size + 1 < w1.heap.size := by omega
    obtain ⟨c0, y0⟩ := H1.c
    obtain ⟨p0, p1, p2, p3, p4⟩ := HB5.out
    clear H h2 h3 h4 hblk gu gS d0 d1 d2 d3 d4 e0 e1 e2 e3 e4 F1
    obtain ⟨xl, xc, rfl, -⟩ := H1.own.form
    go_wp2_with fail
    go_fit (repLen_any _ L _ H1.own)
    rintro e w6 ⟨rfl, rfl⟩
    go_wp2_with fail
    go_fit (repaired_any _ a.ds hb base _ L _ (h.kept GG) HDk.out H1 hLl hone hbd)
    rintro e w7 ⟨v7, raw7, rfl, O7, o7⟩
    obtain ⟨va7, vc7, rfl, -⟩ := O7.form
    have F7 : Five w7 fb (.slice va a.ds.length vc) (.string (str a.log)) (.string (str a.next)) (.int .i64 a.stage) (.bool a.up) := ⟨o7.at (fun hk => (hHS.out _ hk).2 rfl) HF.out.c0, o7.at (fun hk => (hHS.out _ hk).2 rfl) HF.out.c1, o7.at (fun hk => (hHS.out _ hk).2 rfl) HF.out.c2, o7.at (fun hk => (hHS.out _ hk).2 rfl) HF.out.c3, o7.at (fun hk => (hHS.out _ hk).2 rfl) HF.out.c4⟩
    have Z7 := ZZ.out.only o7 (fun hk => by have := (hHS.out _ hk).1; omega)
    have G7 := o7.grew GG (fun k hk => by have := (hHS.out _ hk).1; omega)
    have hl7 : (L.foldl putR a.ds).length = a.ds.length := (putAll_alike L a.ds).1
    have HL7 := Lib.hid hl7
    have HEq : Hid (healedZ a r = { a with ds := L.foldl putR a.ds } ∧ healedOk a r = decide ((0 : Int) < L.length)) := by
      constructor
      · rw [HE.out.1, hfold.out]
      · rw [HE.out.2, hlen.out]; simp
    have hfs : fb < W5.heap.size := by omega
    have hno := O7.not_old (r := fb) hfs
    have hno2 := O7.not_old (r := w.heap.size + 1) (by omega)
    generalize L.foldl putR a.ds = M at *
    clear hl7
    have F8 := F7.put0 (.slice va7 M.length vc7)
    have Z8 := Z7.far (c := fb) (o := 0) (by omega) (.slice va7 M.length vc7)
    have O8 := O7.far (o := 0) hno.1 hno.2 (.slice va7 M.length vc7)
    have G8 : w.grownBy (w7.setCell ⟨fb, 0, none⟩ (.slice va7 M.length vc7)) none := gset1 G7 (by omega) _ _
    obtain ⟨⟨f0, j0⟩, ⟨f1, -⟩, ⟨f2, -⟩, ⟨f3, -⟩, ⟨f4, -⟩⟩ := F7
    go_upto_region 6 with (fail)
    generalize w7.setCell ⟨fb, 0, none⟩ (.slice va7 M.length vc7) = W8 at *
    clear f0 f1 f2 f3 f4
    obtain ⟨⟨f0, -⟩, ⟨f1, -⟩, ⟨f2, -⟩, ⟨f3, -⟩, ⟨f4, -⟩⟩ := F8
    obtain ⟨⟨z0, y0⟩, ⟨z1, y1⟩, ⟨z2, y2⟩, ⟨z3, y3⟩, ⟨z4, y4⟩⟩ := Z8
    have hRes := res5l O8 (r := w.heap.size + 1) (by omega) (by omega) G8 (.slice va7 M.length vc7) (.string (str a.log)) (.string (str a.next)) (.int .i64 a.stage) (.bool a.up)
    unfold set5 at hRes
    have HR9 := Lib.hid hRes
    clear hRes
    go_wp2_with fail
    exact bodyPost_ret (v := .tuple #[.agg #[.slice va7 M.length vc7, .string (str a.log), .string (str a.next), .int .i64 a.stage, .bool a.up], .bool (decide ((0 : Int) < L.length))]) (by simp [results, Tryz.results14, go_sem, z0, z1, z2, z3, z4]) rfl ⟨_, raw7, by rw [HEq.out.1, HEq.out.2], by rw [HEq.out.1]; exact HR9.out.1, HR9.out.2⟩
end Go.Proofs.YteialkknddpbjaaGreatDoor
