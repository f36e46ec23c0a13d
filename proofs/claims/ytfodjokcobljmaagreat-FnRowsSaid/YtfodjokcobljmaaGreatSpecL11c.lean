/- What the specification's l11Rot does. -/
import Derived.Test.YtfodjokcobljmaaGreatSpecL11b
import Derived.Test.YtfodjokcobljmaaGreatSpecL02
namespace Go.Proofs.YtfodjokcobljmaaGreat
open Go.ChangeShapes Go.WideShapes Go.ChangeAt Go.RowKit

def rotOk (a : AZ) (d p y : Int) : Bool := decide (0 ≤ d ∧ d < a.ds.length) && ((a.ds.getD d.toNat .zero).has p && inB y 1 32767)
def rotC (c : Int × Int) (y : Int) : Int × Int := (rotV c.1 c.2 y, rotS c.1 c.2)
def DZ.rot (d : DZ) (p : Nat) (y : Int) : DZ := ⟨d.n, d.dead, d.k.set p (rotC (d.k.getD p (0, 0)) y), d.m.set p (rotC (d.m.getD p (0, 0)) y)⟩
def AZ.rotted (a : AZ) (d p y : Int) : AZ := if rotOk a d p y then { a with ds := a.ds.set d.toNat ((a.ds.getD d.toNat .zero).rot p.toNat y) } else a
theorem rot_len (d : DZ) (p : Nat) (y : Int) : (d.rot p y).k.length = d.k.length ∧ (d.rot p y).m.length = d.m.length := by simp [DZ.rot]
theorem DGood.rot {l : List DZ} (h : DGood l) (i p : Nat) (y : Int) : DGood (l.set i ((l.getD i .zero).rot p y)) := by
  have q := h.get i
  have r := rot_len (l.getD i .zero) p y
  exact h.set _ (by omega)
theorem rot_no {a : AZ} {d p y : Int} (h : rotOk a d p y = false) : a.rotted d p y = a := by simp [AZ.rotted, h]
theorem ABox.disksR {w w' : World} {b B : Nat} {a : AZ} {v : Value} {raw : List DV} {l : List DZ} {r : Option Nat} (h : ABox w b B a v raw) (g : w.grownBy w' r) (hr : r ≠ some b) (hd : OD w' B v l raw) : ABox w' b B { a with ds := l } v raw :=
  ⟨gkr g hr h.c0, gkr g hr h.c1, gkr g hr h.c2, gkr g hr h.c3, gkr g hr h.c4, hd, h.vb, h.rb⟩
theorem rot_set {l l2 : List DZ} {i k : Nat} {x0 x1 z0 z1 y : Int} (hi : i < l.length) (hk : k < l[i].k.length) (h2 : i < l2.length) (h : l.set i (l[i].withK (l[i].k.set k (rotV x0 x1 y, rotS x0 x1))) = l2)
    (e0 : l[i].k[k].1 = x0) (e1 : l[i].k[k].2 = x1) (hm : k < l2[i].m.length) (f0 : l2[i].m[k].1 = z0) (f1 : l2[i].m[k].2 = z1) :
    l2.set i (l2[i].withM (l2[i].m.set k (rotV z0 z1 y, rotS z0 z1))) = l.set i (l[i].rot k y) := by
  subst h
  have hm' : k < l[i].m.length := by simpa only [List.getElem_set_self, DZ.withK] using hm
  simp only [List.getElem_set_self, DZ.withK] at f0 f1
  subst e0 e1 f0 f1
  simp [DZ.withM, DZ.withK, DZ.rot, rotC, List.getElem?_eq_getElem hk, List.getElem?_eq_getElem hm']
set_option maxRecDepth 8000 in
set_option maxHeartbeats 4000000 in
theorem l11Rot_any (b B : Nat) (a : AZ) (v : Value) (raw : List DV) (d p y : Int) (w : World) (h : ABox w b B a v raw) (hg : DGood a.ds) :
    Calls Tryz.prog 63 #[.pointer (some ⟨b, 0, none⟩), .int .i64 d, .int .i64 p, .int .i64 y] w (ADid b B (rotOk a d p y) (a.rotted d p y) w) := by
  obtain ⟨va, vc, rfl, -⟩ := h.od.form
  obtain ⟨c0, f0⟩ := h.c0
  by_cases hd0 : d < 0
  · have HO : Hid (rotOk a d p y = false) := by show _ = _; rw [rotOk, decide_eq_false (by omega)]; rfl
    have HA := Lib.hid (rot_no HO.out)
    go_enter Tryz.func63, Tryz.ntmps63
    go_wp2_with fail
    go_ret
    exact ⟨ret_bool HO.out.symm, ⟨_, _, by rw [HA.out]; exact h⟩, Only.refl _ _⟩
  by_cases hd1 : (a.ds.length : Int) ≤ d
  · have HO : Hid (rotOk a d p y = false) := by show _ = _; rw [rotOk, decide_eq_false (by omega)]; rfl
    have HA := Lib.hid (rot_no HO.out)
    go_enter Tryz.func63, Tryz.ntmps63
    go_wp2_with fail
    go_ret
    exact ⟨ret_bool HO.out.symm, ⟨_, _, by rw [HA.out]; exact h⟩, Only.refl _ _⟩
  obtain ⟨i, rfl⟩ := Int.eq_ofNat_of_zero_le (show 0 ≤ d by omega)
  have hil : i < a.ds.length := by omega
  have hii : (i : Int) < a.ds.length := by omega
  have hir : i < raw.length := by rw [h.od.len]; exact hil
  have hgi : a.ds.getD i .zero = a.ds[i] := getD_at hil
  obtain ⟨g, e, hgB, hgl, t0, t1, t2, t3⟩ := h.od.at i hir hil
  cases e
  have HI := (h.od.is i hir hil).isD
  have HI0 : IsD w 0 raw[i].kv raw[i].nv a.ds[i] := ⟨HI.1.lower (Nat.zero_le _), HI.2.lower (Nat.zero_le _)⟩
  have hHas := l3Has_any raw[i].kv raw[i].nv a.ds[i] p w HI0
  obtain ⟨q0, -⟩ := t0
  obtain ⟨q1, -⟩ := t1
  obtain ⟨q2, -⟩ := t2
  obtain ⟨q3, -⟩ := t3
  cases hh : a.ds[i].has p
  · have HO : Hid (rotOk a i p y = false) := by show _ = _; rw [rotOk, Int.toNat_natCast, hgi, hh]; simp
    have HA := Lib.hid (rot_no HO.out)
    rw [hh] at hHas
    go_enter Tryz.func63, Tryz.ntmps63
    go_wp2_with fail
    go_fit hHas
    rintro e w1 ⟨rfl, g1⟩
    go_wp2_with fail
    go_ret
    exact ⟨ret_bool HO.out.symm, ⟨_, _, by rw [HA.out]; exact h.kept g1⟩, only_grew g1⟩
  rw [hh] at hHas
  cases hy : inB y 1 32767
  · have HO : Hid (rotOk a i p y = false) := by show _ = _; rw [rotOk, hy]; simp
    have HA := Lib.hid (rot_no HO.out)
    go_enter Tryz.func63, Tryz.ntmps63
    go_wp2_with fail
    go_fit hHas
    rintro e w1 ⟨rfl, g1⟩
    go_wp2_with fail
    go_fit (l1In_any _ _ _ _)
    rintro e w' ⟨rfl, rfl⟩
    rw [hy]
    go_wp2_with fail
    go_ret
    exact ⟨ret_bool HO.out.symm, ⟨_, _, by rw [HA.out]; exact h.kept g1⟩, only_grew g1⟩
  have hgood := hg.2 _ (List.getElem_mem hil)
  obtain ⟨k, rfl, hkm⟩ : ∃ k : Nat, p = k ∧ k < a.ds[i].m.length := ⟨p.toNat, by simp [DZ.has] at hh; omega, by simp [DZ.has] at hh; omega⟩
  have hkk : k < a.ds[i].k.length := by omega
  have HO : Hid (rotOk a i k y = true) := by show _ = _; rw [rotOk, Int.toNat_natCast, hgi, hh, hy, decide_eq_true (by omega)]; rfl
  have HA : Hid (a.rotted i k y = { a with ds := a.ds.set i (a.ds[i].rot k y) }) := by show _ = _; simp only [AZ.rotted, HO.out, if_true, Int.toNat_natCast, hgi]
  have hyd : a.ds[i].k.length = a.ds[i].m.length := hgood.1
  go_enter Tryz.func63, Tryz.ntmps63
  go_wp2_with fail
  go_fit hHas
  rintro e w1 ⟨rfl, g1⟩
  have h1 := h.kept g1
  clear c0 f0 q0 q1 q2 q3 hHas HI HI0 h
  obtain ⟨c0, f0⟩ := h1.c0
  go_wp2_with fail
  go_fit (l1In_any _ _ _ _)
  rintro e w' ⟨rfl, rfl⟩
  rw [hy]
  obtain ⟨g', e', -, -, -, -, ⟨q2, r2⟩, -⟩ := h1.od.at i hir hil
  cases e'
  have hks := (h1.od.is i hir hil).isD.1
  have hkm' : raw[i].km = a.ds[i].k.length := CS.bound hks |>.1
  obtain ⟨kg, hka, -, -, ⟨t0, s0⟩, ⟨t1, s1⟩⟩ := CS.at hks k hkk
  change w1.cell? ⟨g, i * 4 + 2, none⟩ = some (.slice raw[i].ka raw[i].km raw[i].kc) at q2
  rw [hka, hkm'] at q2
  have HKV : Hid (raw[i].kv = .slice (some ⟨kg, 0, none⟩) a.ds[i].k.length raw[i].kc) := by show Value.slice _ _ _ = _; rw [hka, hkm']
  have hki : (k : Int) < a.ds[i].k.length := by omega
  have H1 := Lib.hid h1
  have G1 := Lib.hid g1
  clear hks h1 g1 hka hkm' hgl
  generalize hx0 : a.ds[i].k[k].1 = x0 at *
  generalize hx1 : a.ds[i].k[k].2 = x1 at *
  have HX0 := Lib.hid hx0
  have HX1 := Lib.hid hx1
  clear hx0 hx1
  go_wp2_with fail
  go_region_with (first | (go_at_call 73; refine (specRotten_any _ _ _ _).mono ?_; rintro e w2 ⟨rfl, g2⟩; have g2' : w1.grownBy w2 none := gtrans (gdrew (grefl w1) 1) g2; obtain ⟨q2', r2'⟩ := gk g2' ⟨q2, r2⟩; obtain ⟨t0', s0'⟩ := gk g2' ⟨t0, s0⟩; obtain ⟨t1', s1'⟩ := gk g2' ⟨t1, s1⟩; have c0' := gkc g2' c0))
  all_goals
    have h2 := H1.out.kept g2'
    have gr : w2.grownBy ((w2.setCell ⟨kg, k * 2, none⟩ (.int .i64 (rotV x0 x1 y))).setCell ⟨kg, k * 2 + 1, none⟩ (.int .i64 (rotS x0 x1))) raw[i].kv.ownBlock := by rw [HKV.out]; exact gset2 w2 kg _ _ _ _
    have hc : CS ((w2.setCell ⟨kg, k * 2, none⟩ (.int .i64 (rotV x0 x1 y))).setCell ⟨kg, k * 2 + 1, none⟩ (.int .i64 (rotS x0 x1))) B raw[i].kv (a.ds[i].k.set k (rotV x0 x1 y, rotS x0 x1)) := by
      have q := (h2.od.is i hir hil).isD.1
      rw [HKV.out] at q ⊢
      exact CS.set q k hkk _ _
    have h3 := h2.disksR gr (fun e => h2.rb i hir (.inl e)) (h2.od.setKept i hir hil gr hc)
    have G3 : Only (AB b B) w _ := (only_grew (gtrans G1.out g2')).trans (Only.of gr (fun j e => .inr (h2.od.in i hir j (.inl e)).1))
    go_wp2_with fail
    clear f0 c0 r2 s0 s1 q2 t0 t1 g2 q2' r2' t0' s0' t1' s1' c0' h2 H1 G1 gr hc g2'
    generalize (w2.setCell ⟨kg, k * 2, none⟩ (.int .i64 (rotV x0 x1 y))).setCell ⟨kg, k * 2 + 1, none⟩ (.int .i64 (rotS x0 x1)) = W at *
    have hl2 : i < (a.ds.set i (a.ds[i].withK (a.ds[i].k.set k (rotV x0 x1 y, rotS x0 x1)))).length := by simpa using hil
    have hm2 : (a.ds.set i (a.ds[i].withK (a.ds[i].k.set k (rotV x0 x1 y, rotS x0 x1))))[i].m = a.ds[i].m := by simp [DZ.withK]
    generalize hD : a.ds.set i (a.ds[i].withK (a.ds[i].k.set k (rotV x0 x1 y, rotS x0 x1))) = l2 at *
    have HD := Lib.hid hD
    clear hD
    have hod : OD W B _ l2 raw := h3.od
    obtain ⟨g', e', -, -, -, -, -, ⟨q3, r3⟩⟩ := hod.at i hir hl2
    cases e'
    have hns := (hod.is i hir hl2).isD.2
    have hnm' : raw[i].nm = a.ds[i].m.length := (CS.bound hns).1.trans (by rw [hm2])
    have hkm2 : k < l2[i].m.length := by rw [hm2]; exact hkm
    obtain ⟨ng, hna, -, -, ⟨t0, s0⟩, ⟨t1, s1⟩⟩ := CS.at hns k hkm2
    change W.cell? ⟨g, i * 4 + 3, none⟩ = some (.slice raw[i].na raw[i].nm raw[i].nc) at q3
    rw [hna, hnm'] at q3
    have HNV : Hid (raw[i].nv = .slice (some ⟨ng, 0, none⟩) a.ds[i].m.length raw[i].nc) := by show Value.slice _ _ _ = _; rw [hna, hnm']
    have hki2 : (k : Int) < a.ds[i].m.length := by omega
    have H3 := Lib.hid h3
    have HG3 := Lib.hid G3
    clear hns h3 hod G3 hna hnm' hm2
    generalize hz0 : l2[i].m[k].1 = z0 at *
    generalize hz1 : l2[i].m[k].2 = z1 at *
    have HE := Lib.hid (rot_set hil hkk hl2 HD.out HX0.out HX1.out hkm2 hz0 hz1)
    clear hz0 hz1
    go_region_with (first | (go_at_call 73; refine (specRotten_any _ _ _ _).mono ?_; rintro e w4 ⟨rfl, g4⟩; have g4' : W.grownBy w4 none := gtrans (gdrew (grefl W) 1) g4; obtain ⟨q3', r3'⟩ := gk g4' ⟨q3, r3⟩; obtain ⟨t0', s0'⟩ := gk g4' ⟨t0, s0⟩; obtain ⟨t1', s1'⟩ := gk g4' ⟨t1, s1⟩))
    all_goals
      have h4 := H3.out.kept g4'
      have gr : w4.grownBy ((w4.setCell ⟨ng, k * 2, none⟩ (.int .i64 (rotV z0 z1 y))).setCell ⟨ng, k * 2 + 1, none⟩ (.int .i64 (rotS z0 z1))) raw[i].nv.ownBlock := by rw [HNV.out]; exact gset2 w4 ng _ _ _ _
      have hc : CS ((w4.setCell ⟨ng, k * 2, none⟩ (.int .i64 (rotV z0 z1 y))).setCell ⟨ng, k * 2 + 1, none⟩ (.int .i64 (rotS z0 z1))) B raw[i].nv (l2[i].m.set k (rotV z0 z1 y, rotS z0 z1)) := by
        have q := (OD.is (l := l2) h4.od i hir hl2).isD.2
        rw [HNV.out] at q ⊢
        exact CS.set q k hkm2 _ _
      have h5 := h4.disksR gr (fun e => h4.rb i hir (.inr e)) (OD.setNow (l := l2) h4.od i hir hl2 gr hc)
      have G5 := (HG3.out.trans (only_grew g4')).trans (Only.of gr (fun j e => .inr (h4.od.in i hir j (.inr e)).1))
      rw [HE.out] at h5
      go_wp2_with fail
      go_ret
      exact ⟨ret_bool HO.out.symm, ⟨_, _, by rw [HA.out]; exact h5⟩, G5⟩
end Go.Proofs.YtfodjokcobljmaaGreat
