/- What the specification's Patched returns. -/
import Derived.Test.YtncmocdfdkacfaaSpecL06c
import Derived.Test.YtncmocdfdkacfaaSpecL07d
import Derived.Test.YtncmocdfdkacfaaSpecL06b
namespace Go.Proofs.Ytncmocdfdkacfaa
open Go.ChangeShapes Go.WideShapes Go.ChangeAt Go.RowKit

def patchedZ (l : List DZ) (p : PZ) : List DZ := if disksOkZ l && p.ok then patchZ l p else []
theorem disksOk_at {l : List DZ} (h : disksOkZ l = true) (i : Nat) (hi : i < l.length) : l[i].ok = true := by
  simp only [disksOkZ, Bool.and_eq_true, decide_eq_true_eq] at h
  have := List.all_eq_true.1 h.2.1 i (by simpa using hi)
  rw [getD_at hi] at this
  simp only [DZ.fitsIn, Bool.and_eq_true] at this
  exact this.1
theorem ok_parts {p : PZ} (h : p.ok = true) : p.vs.length = p.ds.length ∧ 1 ≤ p.ds.length ∧ p.ds.length ≤ 2 ∧ ∀ i (h : i < p.ds.length), 0 ≤ p.ds[i] := by
  obtain ⟨row, ds, vs⟩ := p
  simp only [PZ.ok, Bool.and_eq_true] at h
  obtain ⟨-, h⟩ := h
  unfold plists at h
  split at h
  · next d0 v0 =>
    simp only [pcell, Bool.and_eq_true, inB_iff] at h
    refine ⟨rfl, by simp, by simp, fun i hi => ?_⟩
    have : i = 0 := by simp at hi; exact hi
    subst this
    exact h.1.1
  · next d0 d1 v0 v1 =>
    simp only [pcell, Bool.and_eq_true, inB_iff] at h
    refine ⟨rfl, by simp, by simp, fun i hi => ?_⟩
    match i, hi with
    | 0, _ => exact h.1.1.1
    | 1, _ => exact h.2.1.1.1
  · cases h
set_option maxHeartbeats 2000000 in
theorem specPatched_any (v : Value) (l : List DZ) (p : PZ) (dv vv : Value) (w : World) (h : LD w v l) (hd : IR w dv p.ds) (hv : IR w vv p.vs) (hbd : ∀ k, dv.ownBlock = some k → k < w.heap.size) (hbv : ∀ k, vv.ownBlock = some k → k < w.heap.size) :
    Calls Try.prog 19 #[v, .agg #[.int .i64 p.row, dv, vv]] w (GotL (patchedZ l p) w) := by
  have HZ : Hid (patchedZ l p = if disksOkZ l && p.ok then patchZ l p else []) := rfl
  have HOk : Hid (p.ok = true → p.vs.length = p.ds.length ∧ 1 ≤ p.ds.length ∧ p.ds.length ≤ 2 ∧ ∀ i (h : i < p.ds.length), 0 ≤ p.ds[i]) := fun e => ok_parts e
  obtain ⟨a, cap, rfl, hm⟩ := h.form
  obtain ⟨da, dc, rfl, dm⟩ := hd.form
  obtain ⟨va, vc, rfl, vm⟩ := hv.form
  have HBd : Hid (∀ k, (Value.slice da p.ds.length dc).ownBlock = some k → k < w.heap.size) := hbd
  have HBv : Hid (∀ k, (Value.slice va p.vs.length vc).ownBlock = some k → k < w.heap.size) := hbv
  have B0 := Box3.new w (.int .i64 p.row) (.slice da p.ds.length dc) (.slice va p.vs.length vc) 27
  have G0 := galloc (grefl w) (.cells #[.int .i64 p.row, .slice da p.ds.length dc, .slice va p.vs.length vc] 27)
  clear hbd hbv
  go_enter Try.func19, Try.ntmps19
  go_upto_region 1 with (fail)
  generalize w.alloc (.cells #[.int .i64 p.row, .slice da p.ds.length dc, .slice va p.vs.length vc] 27) = W0 at *
  cases hdk : disksOkZ l
  · have HE : Hid (patchedZ l p = []) := by show _ = _; rw [HZ.out, hdk]; rfl
    go_wp2_with fail
    go_fit (specDisksOk_any _ l _ (h.kept G0))
    rintro e w1 ⟨rfl, g1⟩
    rw [hdk]
    have G1 := gtrans G0 g1
    have E1 := (OD.empty w1).lower (base' := w.heap.size) G1.size
    go_wp2_with fail
    go_ret
    exact ⟨_, [], rfl, by rw [HE.out]; exact E1, galloc G1 _⟩
  go_wp2_with fail
  go_fit (specDisksOk_any _ l _ (h.kept G0))
  rintro e w1 ⟨rfl, g1⟩
  rw [hdk]
  have G1 := gtrans G0 g1
  replace B0 := B0.kept g1
  have HB0 := Lib.hid B0
  obtain ⟨p0, p1, p2⟩ := B0
  clear g1 G0
  cases hpk : p.ok
  · have HE : Hid (patchedZ l p = []) := by show _ = _; rw [HZ.out, hpk]; simp
    go_wp2_with fail
    go_fit (specPatchOk_any p _ _ _ (hd.kept G1) (hv.kept G1))
    rintro e w2 ⟨rfl, g2⟩
    rw [hpk]
    have G2 := gtrans G1 g2
    have E1 := (OD.empty w2).lower (base' := w.heap.size) G2.size
    go_wp2_with fail
    go_ret
    exact ⟨_, [], rfl, by rw [HE.out]; exact E1, galloc G2 _⟩
  have HE : Hid (patchedZ l p = patchZ l p) := by show _ = _; rw [HZ.out, hdk, hpk]; rfl
  have HL := Lib.hid (HOk.out hpk)
  have hl5 : l.length ≤ 1000 := by
    simp only [disksOkZ, Bool.and_eq_true, inB_iff] at hdk
    omega
  have HDs : Hid (∀ i (h : i < l.length), l[i].k.length ≤ 1000 ∧ l[i].m.length ≤ 1000) := fun i hi => by have := l[i].ok_len (disksOk_at hdk i hi); omega
  clear HOk HZ
  go_wp2_with fail
  go_fit (specPatchOk_any p _ _ _ (hd.kept G1) (hv.kept G1))
  rintro e w2 ⟨rfl, g2⟩
  rw [hpk]
  have G2 := gtrans G1 g2
  replace HB0 := Lib.hid (HB0.out.kept g2)
  clear g2 G1 p0 p1 p2 hpk hdk
  go_wp2_with fail
  go_fit (l6Copy_any _ l _ (h.kept G2) hl5 HDs.out)
  rintro e w3 ⟨ov, raw, rfl, C, g3⟩
  obtain ⟨oa, oc, rfl, -⟩ := C.form
  have G3 := gtrans G2 g3
  obtain ⟨b0, b1, b2⟩ := HB0.out.kept g3
  have hs2 := G2.size
  have HNow : Hid (∀ k, NowB raw k → w2.heap.size ≤ k) := fun k ⟨i, hi, e⟩ => (C.in i hi k (.inr e)).1
  go_wp2_with fail
  go_fit (l7Patch_any w2.heap.size _ l raw p _ _ _ C (hd.kept G3) (hv.kept G3) HL.out.1 HL.out.2.2.2 (fun k e x => by have := HBd.out k e; have := HNow.out k x; omega) (fun k e x => by have := HBv.out k e; have := HNow.out k x; omega))
  rintro e w4 ⟨rfl, C4, O4⟩
  have G4 := O4.grew G3 (fun k hk => by have := HNow.out k hk; omega)
  go_wp2_with fail
  go_ret
  exact ⟨_, raw, rfl, by rw [HE.out]; exact C4.lower hs2, G4⟩
end Go.Proofs.Ytncmocdfdkacfaa
