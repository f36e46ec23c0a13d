/- What the program's repaired returns. -/
import Derived.Test.YtnkfmjgbeoddbaaGreatDoorImplL10
import Derived.Test.YtnkfmjgbeoddbaaGreatDoorImplHeap
import Derived.Test.YtnkfmjgbeoddbaaGreatDoorLawL07c
namespace Go.Proofs.YtnkfmjgbeoddbaaGreatDoor
open Go.ChangeShapes Go.WideShapes Go.ChangeAt Go.RowKit

/-- what holds between two repairs -/
def RepRel (w : World) (hb base : Nat) (hv : Value) (Z : List DZ) (n : Nat) (fv : Value) (wr : World) (L' : List RZ) : Prop :=
  ∃ (M : List DZ) (hv' : Value) (raw' : List DV), HBox wr hb base hv' L' ∧ hv'.ownBlock = hv.ownBlock ∧ L'.length ≤ 900 ∧ L'.foldl putR M = Z ∧ OneEach L' ∧ (∀ x ∈ L', x.2.1 < n) ∧ OD wr w.heap.size fv M raw' ∧ allOk M ∧ M.length = n ∧ Only (fun k => HS hb hv k ∨ w.heap.size ≤ k) w wr
section
attribute [local go_sem] as_rep'
set_option maxRecDepth 8000 in
set_option maxHeartbeats 4000000 in
theorem repaired_any (v : Value) (l : List DZ) (hb base : Nat) (hv : Value) (L : List RZ) (w : World) (h : LD w v l) (hok : disksOkZ l = true) (H : HBox w hb base hv L) (hL : L.length ≤ 900) (hone : OneEach L) (hx : ∀ x ∈ L, x.2.1 < l.length) :
    Calls Tryz.prog 54 #[v, .pointer (some ⟨hb, 0, none⟩)] w fun e w' => ∃ v' raw, e = .returned v' ∧ OD w' w.heap.size v' (L.foldl putR l) raw ∧ Only (HS hb hv) w w' := by
  obtain ⟨hl5, hd16⟩ := ds_small hok
  obtain ⟨a, cap, rfl, hm⟩ := h.form
  have HAll : Hid (allOk l) := fun i hi => disksOk_at hok i hi
  have hbs : hb < w.heap.size := H.lt
  have hvs : Hid (∀ k, hv.ownBlock = some k → k < w.heap.size) := fun k e => (H.own.lt k e).2
  have HX : Hid (OneEach L ∧ ∀ x ∈ L, x.2.1 < l.length) := ⟨hone, hx⟩
  generalize hZ : L.foldl putR l = Z at *
  have HZ := Lib.hid hZ
  clear hZ hone hx
  go_enter Tryz.func54, Tryz.ntmps54
  go_wp2_with fail
  go_fit (copiedDisks_any _ l _ h (by omega) (fun i hi => by have := hd16 i hi; omega))
  rintro e w1 ⟨v1, raw1, rfl, o1, g1⟩
  obtain ⟨fa, fc, rfl, -⟩ := o1.form
  have R1 : RepRel w hb base hv Z l.length (.slice fa l.length fc) w1 L := ⟨l, hv, raw1, H.grew g1, rfl, hL, HZ.out, HX.out.1, HX.out.2, o1, HAll.out, rfl, Only.of g1 (fun _ e => by cases e)⟩
  clear h H o1 g1 HAll HX HZ
  go_wp2_with fail
  go_loopw [] (fun wr => ∃ L', RepRel w hb base hv Z l.length (.slice fa l.length fc) wr L') (fun wr => match wr.cell? ⟨hb, 0, none⟩ with | some (.slice _ n _) => n | _ => 0)
  case atStart => exact ⟨L, R1⟩
  case round =>
    clear R1
    obtain ⟨L', M, hv', raw', HH, hob, hl', hF, h1', hx', C, hA, hMl, O⟩ := hrel
    obtain ⟨xa, xc, rfl, -⟩ := HH.own.form
    obtain ⟨c0, f0⟩ := HH.c
    by_cases hlt : L'.length = 0
    · obtain rfl : L' = [] := List.eq_nil_of_length_eq_zero hlt
      have HZ2 : Hid (M = Z) := hF
      have ON : Only (HS hb hv) w wr := ⟨O.os, O.tape, O.output, O.size, fun k hk hn => O.block k hk (by rintro (q | q); exact hn q; omega)⟩
      clear hF hMl
      go_wp2_with fail
      go_fit (repLen_any _ [] _ HH.own)
      rintro e w2 ⟨rfl, rfl⟩
      go_wp2_with fail
      go_ret
      exact ⟨_, raw', rfl, by rw [← HZ2.out]; exact C, ON⟩
    have hpos : (0 : Int) < L'.length := by omega
    have hP := heapPop_any hb base _ L' _ HH (by omega) (by omega)
    unfold heapV repI repV at hP
    have HF := Lib.hid hF
    have HX := Lib.hid (show OneEach L' ∧ ∀ x ∈ L', x.2.1 < l.length from ⟨h1', hx'⟩)
    have HMl := Lib.hid hMl
    have HA := Lib.hid hA
    have hcell := Lib.hid c0
    clear hF h1' hx' hMl hA
    go_wp2_with fail
    go_fit (repLen_any _ L' _ HH.own)
    rintro e w2 ⟨rfl, rfl⟩
    go_wp2_with fail
    go_fit hP
    rintro e w3 ⟨x, hv3, L3, rfl, hp3, H3, hob3, O3⟩
    have C3 : OD w3 w.heap.size (.slice fa l.length fc) M raw' := C.away O3 C.tops.1 C.tops.2 (fun k hk => by
      rcases hk with hk | hk
      · left; omega
      · left; exact hvs.out k (hob ▸ hk))
    have O4 : Only (fun k => HS hb hv k ∨ w.heap.size ≤ k) w w3 := O.trans (O3.mono (fun k hk => by
      rcases hk with hk | hk
      · exact .inl (.inl hk)
      · exact .inl (.inr (hob ▸ hk))))
    have HP3 : Hid (L3.foldl putR (putR M x) = Z ∧ OneEach L3 ∧ (∀ y ∈ L3, y.2.1 < l.length) ∧ L3.length + 1 = L'.length ∧ x.2.1 < l.length) := by
      have hmem : ∀ y ∈ x :: L3, y ∈ L' := fun y hy => hp3.subset hy
      have h1 : OneEach (x :: L3) := HX.out.1.sub hmem
      have e := putAll_perm hp3 h1 M
      rw [HF.out] at e
      exact ⟨e, h1.sub (fun y hy => List.mem_cons_of_mem _ hy), fun y hy => HX.out.2 y (hmem y (List.mem_cons_of_mem _ hy)), by have := hp3.length_eq; simpa using this, HX.out.2 x (hmem x (by simp))⟩
    have hob4 : hv3.ownBlock = hv.ownBlock := hob3.trans hob
    obtain ⟨ya, yc, rfl, -⟩ := H3.own.form
    have hxd := HP3.out.2.2.2.2
    have hl3 : L3.length ≤ 900 := by have := HP3.out.2.2.2.1; omega
    have e4 := galloc (grefl w3) (.cells #[.int .i64 x.1, .int .i64 (x.2.1 : Int), .int .i64 x.2.2] 111)
    have q0 : (w3.alloc (.cells #[.int .i64 x.1, .int .i64 (x.2.1 : Int), .int .i64 x.2.2] 111)).cell? ⟨w3.heap.size, 0, none⟩ = some (.int .i64 x.1) := by simp [go_sem]
    have q1 : (w3.alloc (.cells #[.int .i64 x.1, .int .i64 (x.2.1 : Int), .int .i64 x.2.2] 111)).cell? ⟨w3.heap.size, 1, none⟩ = some (.int .i64 (x.2.1 : Int)) := by simp [go_sem]
    have q2 : (w3.alloc (.cells #[.int .i64 x.1, .int .i64 (x.2.1 : Int), .int .i64 x.2.2] 111)).cell? ⟨w3.heap.size, 2, none⟩ = some (.int .i64 x.2.2) := by simp [go_sem]
    have C4 := C3.grew e4
    have hC3 : Hid (∀ k, (Value.slice fa l.length fc).ownBlock = some k → k < w3.heap.size) := fun k e => (C3.own.lt k e).2
    have H4 := H3.grew e4
    have O5 := O4.trans (Only.of e4 (S := fun k => HS hb hv k ∨ w.heap.size ≤ k) (fun _ e => by cases e))
    have hs3 : w.heap.size ≤ w3.heap.size := O4.size
    clear HH C c0 f0 hP H3 C3 O3 O O4 hp3 HF HX
    go_upto_region 4 with (fail)
    have hs4 : w3.heap.size < (w3.alloc (.cells #[.int .i64 x.1, .int .i64 (x.2.1 : Int), .int .i64 x.2.2] 111)).heap.size := by simp
    generalize w3.alloc (.cells #[.int .i64 x.1, .int .i64 (x.2.1 : Int), .int .i64 x.2.2] 111) = W at *
    generalize w3.heap.size = qb at *
    have hdl : x.2.1 < M.length := by rw [HMl.out]; exact hxd
    have hdr : x.2.1 < raw'.length := by rw [C4.len]; exact hdl
    have hdi : (x.2.1 : Int) < l.length := by omega
    obtain ⟨lg, e', hlo, hlg, k0, k1, k2, k3⟩ := C4.at x.2.1 hdr hdl
    cases e'
    have hD := (C4.is x.2.1 hdr hdl).isD
    have hok1 := HA.out x.2.1 hdl
    have HMd := Lib.hid (written_put (p := x.1) (v := x.2.2) hok1)
    have hlen3 : L3.length < L'.length := by have := HP3.out.2.2.2.1; omega
    have HPu : Hid (putR M x = M.set x.2.1 (M[x.2.1].put x.1 x.2.2)) := by show _ = _; unfold putR; rw [getD_at hdl]
    have HA2 : Hid (allOk (putR M x)) := by show allOk _; rw [HPu.out]; exact HA.out.set x.2.1 (fun _ => DZ.put_ok' hok1)
    obtain ⟨hc4, hf4⟩ := H4.c
    have HFin : Hid (∀ (w8 : World) (ka8 : Option Addr) (km8 kc8 : Nat) (na8 : Option Addr) (nm8 nc8 : Nat), W.grownBy w8 none → IsD w8 W.drew.heap.size (.slice ka8 km8 kc8) (.slice na8 nm8 nc8) (M[x.2.1].put x.1 x.2.2) → Apart (.slice ka8 km8 kc8) (.slice na8 nm8 nc8) →
        RepRel w hb base hv Z l.length (.slice (some ⟨lg, 0, none⟩) l.length fc) (set4At w8 lg (x.2.1 * 4) (.int .i64 (M[x.2.1].written x.1 x.2.2).n) (.bool (M[x.2.1].written x.1 x.2.2).dead) (.slice ka8 km8 kc8) (.slice na8 nm8 nc8)) L3 ∧ (set4At w8 lg (x.2.1 * 4) (.int .i64 (M[x.2.1].written x.1 x.2.2).n) (.bool (M[x.2.1].written x.1 x.2.2).dead) (.slice ka8 km8 kc8) (.slice na8 nm8 nc8)).cell? ⟨hb, 0, none⟩ = some (.slice ya L3.length yc)) := by
      intro w8 ka8 km8 kc8 na8 nm8 nc8 g8 I8 ap8
      have hs8 : w.heap.size ≤ W.heap.size := by omega
      have hR := C4.replaced (w1 := w8) x.2.1 hdr ⟨(M[x.2.1].put x.1 x.2.2).n, (M[x.2.1].put x.1 x.2.2).dead, ka8, km8, kc8, na8, nm8, nc8⟩ (M[x.2.1].put x.1 x.2.2) g8 ⟨rfl, rfl, I8.1.lower hs8, I8.2.lower hs8⟩ ap8 (fun j hj => by
        rcases hj with hj | hj
        · exact (I8.1.lt j hj).1
        · exact (I8.2.lt j hj).1)
      rw [HMd.out]
      have gS := gset4At (o := x.2.1 * 4) (World.grownBy.refl w8 (some lg)) (.int .i64 (M[x.2.1].put x.1 x.2.2).n) (.bool (M[x.2.1].put x.1 x.2.2).dead) (.slice ka8 km8 kc8) (.slice na8 nm8 nc8)
      have H8 := (H4.grew g8).kept gS (fun e => by cases e; omega) (.inr (fun e => by have := hvs.out lg (hob4 ▸ e); omega))
      refine ⟨⟨putR M x, _, _, H8, hob4, hl3, HP3.out.1, HP3.out.2.1, HP3.out.2.2.1, by rw [HPu.out]; exact hR, HA2.out, by rw [HPu.out, List.length_set]; exact HMl.out, ?_⟩, H8.c.1⟩
      exact (O5.trans (Only.of g8 (S := fun k => HS hb hv k ∨ w.heap.size ≤ k) (fun _ e => by cases e))).trans (Only.of gS (fun _ e => by cases e; exact .inr hlo))
    generalize M[x.2.1] = D at *
    obtain ⟨k0, m0⟩ := k0
    obtain ⟨k1, m1⟩ := k1
    obtain ⟨k2, m2⟩ := k2
    obtain ⟨k3, m3⟩ := k3
    have hD0 : IsD (W.drewN 1) 0 (.slice raw'[x.2.1].ka raw'[x.2.1].km raw'[x.2.1].kc) (.slice raw'[x.2.1].na raw'[x.2.1].nm raw'[x.2.1].nc) D := ⟨(hD.1.grew (gdrew (grefl W) 1)).lower (Nat.zero_le _), (hD.2.grew (gdrew (grefl W) 1)).lower (Nat.zero_le _)⟩
    change W.cell? ⟨lg, x.2.1 * 4 + 2, none⟩ = some (.slice raw'[x.2.1].ka raw'[x.2.1].km raw'[x.2.1].kc) at k2
    change W.cell? ⟨lg, x.2.1 * 4 + 3, none⟩ = some (.slice raw'[x.2.1].na raw'[x.2.1].nm raw'[x.2.1].nc) at k3
    have ne1 : lg ≠ qb := by have := hC3.out lg rfl; omega
    clear HP3 HPu HA2 HA HMl C4 hD O5 H4
    generalize raw'[x.2.1] = rd at *
    generalize x.1 = xr at *
    generalize x.2.2 = xv at *
    generalize x.2.1 = xd at *
    have hL3 : Hid (L3.length < L'.length) := hlen3
    go_wp2_with fail
    go_region_law (first | (go_simp; go_at_call 109; go_fit (implWritten_any _ _ D xr xv _ hD0); rintro e w8 ⟨kv, nv, rfl, I8, ap8, g8⟩; rw [HMd.out] at I8; obtain ⟨ka8, km8, kc8, rfl⟩ := I8.1.sl; obtain ⟨na8, nm8, nc8, rfl⟩ := I8.2.sl; have hF := Lib.hid (HFin.out w8 ka8 km8 kc8 na8 nm8 nc8 (gtrans (gdrew (grefl W) 1) g8) I8 ap8); have n0 := gkc g8 q0; have n1 := gkc g8 q1; have n2 := gkc g8 q2; have j0 := gkc g8 k0; have j1 := gkc g8 k1; have j2 := gkc g8 k2; have j3 := gkc g8 k3; have o0 := gkf g8 k0 m0; have o1 := gkf g8 k1 m1; have o2 := gkf g8 k2 m2; have o3 := gkf g8 k3 m3; clear I8 ap8 g8))
    all_goals (
      obtain ⟨hR, hc⟩ := hF.out
      go_wp2_with fail
      go_roundw
      case rel => exact ⟨L3, hR⟩
      case measure => unfold set4At at hc; rw [hc, hcell.out]; exact hL3.out)
end
end Go.Proofs.YtnkfmjgbeoddbaaGreatDoor
