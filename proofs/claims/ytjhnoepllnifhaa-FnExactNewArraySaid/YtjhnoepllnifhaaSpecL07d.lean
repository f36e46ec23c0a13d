/- What the specification's l7Patch does to a list of disks. What the specification's l7For returns: the patch of a write. What the specification's Patched returns. -/
import Derived.Test.YtjhnoepllnifhaaOwnD2
import Derived.Test.YtjhnoepllnifhaaSpecL07
import Derived.Test.YtjhnoepllnifhaaMem
import Derived.BigQuiet
import Derived.Test.YtjhnoepllnifhaaSpecL06b
import Derived.RegionTactic
import Derived.Test.YtjhnoepllnifhaaBaseL03
namespace Go.Proofs.Ytjhnoepllnifhaa
open Go.ChangeShapes Go.WideShapes Go.ChangeAt Go.RowKit

/-- the disks behind a patch's first k writes -/
def patchK (l : List DZ) (p : PZ) : Nat → List DZ
  | 0 => l
  | k + 1 => if p.ds.getD k 0 < l.length then (patchK l p k).set (p.ds.getD k 0).toNat (((patchK l p k).getD (p.ds.getD k 0).toNat .zero).put p.row (p.vs.getD k 0)) else patchK l p k
def patchZ (l : List DZ) (p : PZ) : List DZ := patchK l p p.ds.length
theorem patchK_length (l : List DZ) (p : PZ) (k : Nat) : (patchK l p k).length = l.length := by
  induction k with
  | zero => rfl
  | succ k ih => unfold patchK; split <;> simp [ih]
/-- the blocks of the lists Now -/
def NowB (raw : List DV) (k : Nat) : Prop := ∃ i, ∃ h : i < raw.length, raw[i].nv.ownBlock = some k
/-- what l7Patch reads: the patch -/
abbrev PrS (w' : World) (b : Nat) (row : Int) (dv vv : Value) (g o : Nat) (d : Int) (h q : Nat) (v : Int) : Prop := Box3 w' b (.int .i64 row) dv vv ∧ w'.cell? ⟨g, o, none⟩ = some (.int .i64 d) ∧ w'.cell? ⟨h, q, none⟩ = some (.int .i64 v)
theorem PrS.drew {w' : World} {b : Nat} {row : Int} {dv vv : Value} {g o : Nat} {d : Int} {h q : Nat} {v : Int} (s : PrS w' b row dv vv g o d h q v) : PrS w'.drew b row dv vv g o d h q v := s
theorem PrS.only {S : Nat → Prop} {w' w2 : World} {b : Nat} {row : Int} {dv vv : Value} {g o : Nat} {d : Int} {h q : Nat} {v : Int} (s : PrS w' b row dv vv g o d h q v) (k : Only S w' w2) (h1 : ¬ S b) (h2 : ¬ S g) (h3 : ¬ S h) : PrS w2 b row dv vv g o d h q v :=
  ⟨s.1.only k h1, only_cell s.2.1 k h2, only_cell s.2.2 k h3⟩
set_option maxRecDepth 8000 in
set_option maxHeartbeats 4000000 in
theorem l7Patch_any (base : Nat) (v : Value) (l : List DZ) (raw : List DV) (p : PZ) (dv vv : Value) (w : World) (h : OD w base v l raw) (hd : IR w dv p.ds) (hv : IR w vv p.vs)
    (hlen : p.vs.length = p.ds.length) (hpos : ∀ i (h : i < p.ds.length), 0 ≤ p.ds[i])
    (hdb : ∀ k, dv.ownBlock = some k → ¬ NowB raw k) (hvb : ∀ k, vv.ownBlock = some k → ¬ NowB raw k) :
    Calls Try.prog 26 #[v, .agg #[.int .i64 p.row, dv, vv]] w fun e w' => e = .returned (.tuple #[]) ∧ OD w' base v (patchZ l p) raw ∧ Only (NowB raw) w w' := by
  obtain ⟨row, ds, vs⟩ := p
  dsimp only at *
  obtain ⟨da, dc, rfl, dm⟩ := hd.form
  obtain ⟨va, vc, rfl, vm⟩ := hv.form
  obtain ⟨a, cap, rfl, lm⟩ := h.form
  have B0 := Box3.new w (.int .i64 row) (.slice da ds.length dc) (.slice va vs.length vc) 31
  have G0 := galloc (grefl w) (.cells #[.int .i64 row, .slice da ds.length dc, .slice va vs.length vc] 31)
  have h0 := h.grew G0
  have hd0 := hd.kept G0
  have hv0 := hv.kept G0
  have hbb : ¬ NowB raw w.heap.size := fun ⟨i, hi, e⟩ => by have := (h.in i hi _ (.inr e)).2; omega
  have HLn := Lib.hid hlen
  have HPos : Hid (∀ i (h : i < ds.length), 0 ≤ ds[i]) := hpos
  have HDb : Hid (∀ k, (Value.slice da ds.length dc).ownBlock = some k → ¬ NowB raw k) := hdb
  have HVb : Hid (∀ k, (Value.slice va vs.length vc).ownBlock = some k → ¬ NowB raw k) := hvb
  clear hd hv hlen hpos hdb hvb h
  go_enter Try.func26, Try.ntmps26
  go_wp2_with fail
  generalize w.alloc (.cells #[.int .i64 row, .slice da ds.length dc, .slice va vs.length vc] 31) = W0 at *
  generalize w.heap.size = bb at *
  go_loopw [4] (fun i wr => ∃ k : Nat, k ≤ ds.length ∧ i = .int .i64 k ∧ OD wr base (.slice a l.length cap) (patchK l ⟨row, ds, vs⟩ k) raw ∧ Only (NowB raw) W0 wr) (fun i _ => ds.length - (intOf i).toNat)
  case atStart => exact ⟨0, Nat.zero_le _, rfl, h0, Only.refl _ _⟩
  case round =>
    clear h0
    obtain ⟨k, hk, rfl, C, O⟩ := hrel
    obtain ⟨b0, b1, b2⟩ := B0.only O hbb
    by_cases hlt : k < ds.length
    · have hki : (k : Int) < ds.length := by omega
      have hlv : k < vs.length := by rw [HLn.out]; exact hlt
      have hkv : (k : Int) < vs.length := by omega
      obtain ⟨g, o, rfl, x0⟩ := (Rd.only hd0 O HDb.out).at k hlt
      obtain ⟨hb, q, rfl, y0⟩ := (Rd.only hv0 O HVb.out).at k hlv
      have h1 := HPos.out k hlt
      have HK : Hid (patchK l ⟨row, ds, vs⟩ (k + 1) = if ds[k] < l.length then (patchK l ⟨row, ds, vs⟩ k).set ds[k].toNat (((patchK l ⟨row, ds, vs⟩ k).getD ds[k].toNat .zero).put row vs[k]) else patchK l ⟨row, ds, vs⟩ k) := by
        show _ = _
        rw [patchK]
        simp only [List.getD_eq_getElem?_getD, List.getElem?_eq_getElem hlt, List.getElem?_eq_getElem hlv, Option.getD_some]
      have hpl := patchK_length l ⟨row, ds, vs⟩ k
      generalize patchK l ⟨row, ds, vs⟩ k = M at *
      obtain ⟨d, hd⟩ := Int.eq_ofNat_of_zero_le h1
      rw [hd] at x0 HK
      simp only [Int.toNat_natCast] at HK
      generalize vs[k] = x at *
      clear hd h1
      by_cases hin : (d : Int) < l.length
      · rw [if_pos hin] at HK
        have hdl : d < M.length := by omega
        have hdr : d < raw.length := by rw [C.len]; exact hdl
        have hgd : M.getD d .zero = M[d] := getD_at hdl
        rw [hgd] at HK
        obtain ⟨lg, e, -, hlg, -, -, -, -⟩ := C.at d hdr hdl
        cases e
        have DA := (C.dat d hdr hdl).kept (gdrew (grefl wr) 1)
        have S0 : PrS wr bb row _ _ g (o + k) d hb (q + k) x := ⟨⟨b0, b1, b2⟩, x0, y0⟩
        have n1 : ¬ NowB raw g := HDb.out g rfl
        have n2 : ¬ NowB raw hb := HVb.out hb rfl
        have hlh : ¬ NowB raw lg := fun ⟨i, hi, e⟩ => C.out i hi lg (.inr e) rfl
        have hsub : ∀ j, raw[d].nv.ownBlock = some j → NowB raw j := fun j e => ⟨d, hdr, e⟩
        clear b0 b1 b2 x0 y0
        go_wp2_with fail
        go_region_held3 (fun w' => PrS w' bb row (.slice (some ⟨g, o, none⟩) ds.length dc) (.slice (some ⟨hb, q, none⟩) vs.length vc) g (o + k) d hb (q + k) x) (first | assumption | exact S0.drew) (first | (go_at_call 51; go_fit (l3WriteAt_any lg (d * 4) base M[d] raw[d].kv raw[d].nv row x _ DA); rintro e w8 ⟨rfl, D8, g8⟩; have O8 : Only (NowB raw) wr w8 := (Only.of (gdrew (grefl wr) 1) (fun _ e => by cases e)).trans (Only.of g8 hsub); have S8 := S0.only O8 hbb n1 n2))
        have C8 := (C.grew (gdrew (grefl wr) 1)).wrote d hdr hdl D8 g8
        rw [← HK.out] at C8
        go_wp2_with fail
        go_roundw
        case rel => exact ⟨k + 1, by omega, by go_num, C8, O.trans O8⟩
        case measure => simp [intOf]; omega
      · rw [if_neg hin] at HK
        rw [← HK.out] at C
        go_wp2_with fail
        go_roundw
        case rel => exact ⟨k + 1, by omega, by go_num, C, O⟩
        case measure => simp [intOf]; omega
    · obtain rfl : k = ds.length := by omega
      go_wp2_with fail
      go_end0
      exact ⟨rfl, C, (Only.of (gweak G0 none) (fun _ e => by cases e)).trans O⟩
end Go.Proofs.Ytjhnoepllnifhaa
namespace Go.Proofs.Ytjhnoepllnifhaa
open Go.ChangeShapes Go.WideShapes Go.ChangeAt Go.RowKit

theorem tellV_b (l : List DZ) (d r : Int) : 0 ≤ tellV l d r ∧ tellV l d r ≤ 32767 := by
  unfold tellV
  split
  · exact canV_b _ _
  · split
    · have := rowX_lt l r; omega
    · omega
def forHas (l : List DZ) (p v : Int) : Bool := decide (0 ≤ rowZ l.length p ∧ rowZ l.length p < rowsZ l) && okv v
def othersK (l : List DZ) (d ex row : Int) (k : Nat) : Bool := (List.range k).all fun i => (i : Int) == d || ((i : Int) == ex || tellOk l i row)
def sumK (l : List DZ) (d ex row v : Int) : Nat → Int
  | 0 => v
  | k + 1 => if ((k : Int) == d || (k : Int) == ex) = true then sumK l d ex row v k else bits .xor .i64 (sumK l d ex row v k) (tellV l k row)
theorem sumK_b (l : List DZ) (d ex row v : Int) (hv : 0 ≤ v ∧ v ≤ 32767) (k : Nat) : 0 ≤ sumK l d ex row v k ∧ sumK l d ex row v k ≤ 32767 := by
  induction k with
  | zero => exact hv
  | succ k ih =>
    unfold sumK
    split
    · exact ih
    · have := tellV_b l k row
      exact xor_in ih.1 ih.2 this.1 this.2
def pickI (l : List DZ) (d ex : Int) (i : Nat) : Bool := !(l.getD i .zero).dead && ((i : Int) == d || (i : Int) == ex)
def dsF (l : List DZ) (d ex : Int) (k : Nat) : List Int := ((List.range k).filter (pickI l d ex)).map fun i : Nat => (i : Int)
def vsF (l : List DZ) (d ex v s : Int) (k : Nat) : List Int := ((List.range k).filter (pickI l d ex)).map fun i : Nat => if ((i : Int) == d) = true then v else s
theorem dsF_next (l : List DZ) (d ex : Int) (k : Nat) : dsF l d ex (k + 1) = if pickI l d ex k then dsF l d ex k ++ [(k : Int)] else dsF l d ex k := by
  unfold dsF
  rw [List.range_succ, List.filter_append, List.map_append]
  cases h : pickI l d ex k <;> simp [h]
theorem vsF_next (l : List DZ) (d ex v s : Int) (k : Nat) : vsF l d ex v s (k + 1) = if pickI l d ex k then vsF l d ex v s k ++ [if ((k : Int) == d) = true then v else s] else vsF l d ex v s k := by
  unfold vsF
  rw [List.range_succ, List.filter_append, List.map_append]
  cases h : pickI l d ex k <;> simp [h]
theorem dsF_length (l : List DZ) (d ex : Int) (k : Nat) : (dsF l d ex k).length ≤ k := by
  unfold dsF; rw [List.length_map]; exact Nat.le_trans (List.length_filter_le _ _) (by simp)
theorem vsF_length (l : List DZ) (d ex v s : Int) (k : Nat) : (vsF l d ex v s k).length ≤ k := by
  unfold vsF; rw [List.length_map]; exact Nat.le_trans (List.length_filter_le _ _) (by simp)
theorem othersK_next (l : List DZ) (d ex row : Int) (k : Nat) : othersK l d ex row (k + 1) = (othersK l d ex row k && ((k : Int) == d || ((k : Int) == ex || tellOk l k row))) := by
  simp [othersK, List.range_succ]
theorem othersK_no {l : List DZ} {d ex row : Int} {k n : Nat} (hk : k < n) (h : ((k : Int) == d || ((k : Int) == ex || tellOk l k row)) = false) : othersK l d ex row n = false := by
  unfold othersK
  rw [List.all_eq_false]
  exact ⟨k, by simpa using hk, by simp [h]⟩
def forRow (l : List DZ) (p : Int) : Int := rowZ l.length p
def forD (l : List DZ) (p : Int) : Int := diskZ l.length p
def forE (l : List DZ) (p : Int) : Int := extraZ l.length (rowZ l.length p)
def forAll (l : List DZ) (p v : Int) : Bool := forHas l p v && othersK l (forD l p) (forE l p) (forRow l p) l.length
def forSum (l : List DZ) (p v : Int) : Int := sumK l (forD l p) (forE l p) (forRow l p) v l.length
/-- the patch of a write -/
def forP (l : List DZ) (p v : Int) : PZ := if forAll l p v then ⟨forRow l p, dsF l (forD l p) (forE l p) l.length, vsF l (forD l p) (forE l p) v (forSum l p v) l.length⟩ else .zero
def forOk (l : List DZ) (p v : Int) : Bool := forAll l p v && decide (0 < (dsF l (forD l p) (forE l p) l.length).length)
theorem for_no {l : List DZ} {p v : Int} (h : forAll l p v = false) : forP l p v = .zero ∧ forOk l p v = false := by simp [forP, forOk, h]
theorem for_yes {l : List DZ} {p v : Int} (h : forAll l p v = true) : forP l p v = ⟨forRow l p, dsF l (forD l p) (forE l p) l.length, vsF l (forD l p) (forE l p) v (forSum l p v) l.length⟩ ∧ forOk l p v = decide (0 < (dsF l (forD l p) (forE l p) l.length).length) := by simp [forP, forOk, h]
end Go.Proofs.Ytjhnoepllnifhaa
namespace Go.Proofs.Ytjhnoepllnifhaa
open Go.ChangeShapes Go.WideShapes Go.ChangeAt Go.RowKit

def patchedZ (l : List DZ) (p : PZ) : List DZ := if disksOkZ l && p.ok then patchZ l p else []
theorem disksOk_at {l : List DZ} (h : disksOkZ l = true) (i : Nat) (hi : i < l.length) : l[i].ok = true := by
  simp only [disksOkZ, Bool.and_eq_true, decide_eq_true_eq] at h
  have := List.all_eq_true.1 h.2.1 i (by simpa using hi)
  rw [getD_at hi] at this
  simp only [DZ.fitsIn, Bool.and_eq_true] at this
  exact this.1
theorem ok_parts {p : PZ} (h : p.ok = true) : p.vs.length = p.ds.length ∧ 1 ≤ p.ds.length ∧ p.ds.length ≤ 2 ∧ ∀ i (h : i < p.ds.length), 0 ≤ p.ds[i] := by
  obtain ⟨row, ds, vs⟩ := p
  simp only [PZ.ok, Bool.and_eq_true] at h
  obtain ⟨-, h⟩ := h
  unfold plists at h
  split at h
  · next d0 v0 =>
    simp only [pcell, Bool.and_eq_true, inB_iff] at h
    refine ⟨rfl, by simp, by simp, fun i hi => ?_⟩
    have : i = 0 := by simp at hi; exact hi
    subst this
    exact h.1.1
  · next d0 d1 v0 v1 =>
    simp only [pcell, Bool.and_eq_true, inB_iff] at h
    refine ⟨rfl, by simp, by simp, fun i hi => ?_⟩
    match i, hi with
    | 0, _ => exact h.1.1.1
    | 1, _ => exact h.2.1.1.1
  · cases h
set_option maxHeartbeats 2000000 in
theorem specPatched_any (v : Value) (l : List DZ) (p : PZ) (dv vv : Value) (w : World) (h : LD w v l) (hd : IR w dv p.ds) (hv : IR w vv p.vs) (hbd : ∀ k, dv.ownBlock = some k → k < w.heap.size) (hbv : ∀ k, vv.ownBlock = some k → k < w.heap.size) :
    Calls Try.prog 7 #[v, .agg #[.int .i64 p.row, dv, vv]] w (GotL (patchedZ l p) w) := by
  have HZ : Hid (patchedZ l p = if disksOkZ l && p.ok then patchZ l p else []) := rfl
  have HOk : Hid (p.ok = true → p.vs.length = p.ds.length ∧ 1 ≤ p.ds.length ∧ p.ds.length ≤ 2 ∧ ∀ i (h : i < p.ds.length), 0 ≤ p.ds[i]) := fun e => ok_parts e
  obtain ⟨a, cap, rfl, hm⟩ := h.form
  obtain ⟨da, dc, rfl, dm⟩ := hd.form
  obtain ⟨va, vc, rfl, vm⟩ := hv.form
  have HBd : Hid (∀ k, (Value.slice da p.ds.length dc).ownBlock = some k → k < w.heap.size) := hbd
  have HBv : Hid (∀ k, (Value.slice va p.vs.length vc).ownBlock = some k → k < w.heap.size) := hbv
  have B0 := Box3.new w (.int .i64 p.row) (.slice da p.ds.length dc) (.slice va p.vs.length vc) 31
  have G0 := galloc (grefl w) (.cells #[.int .i64 p.row, .slice da p.ds.length dc, .slice va p.vs.length vc] 31)
  clear hbd hbv
  go_enter Try.func7, Try.ntmps7
  go_upto_region 1 with (fail)
  generalize w.alloc (.cells #[.int .i64 p.row, .slice da p.ds.length dc, .slice va p.vs.length vc] 31) = W0 at *
  cases hdk : disksOkZ l
  · have HE : Hid (patchedZ l p = []) := by show _ = _; rw [HZ.out, hdk]; rfl
    go_wp2_with fail
    go_fit (specDisksOk_any _ l _ (h.kept G0))
    rintro e w1 ⟨rfl, g1⟩
    rw [hdk]
    have G1 := gtrans G0 g1
    have E1 := (OD.empty w1).lower (base' := w.heap.size) G1.size
    go_wp2_with fail
    go_ret
    exact ⟨_, [], rfl, by rw [HE.out]; exact E1, galloc G1 _⟩
  go_wp2_with fail
  go_fit (specDisksOk_any _ l _ (h.kept G0))
  rintro e w1 ⟨rfl, g1⟩
  rw [hdk]
  have G1 := gtrans G0 g1
  replace B0 := B0.kept g1
  have HB0 := Lib.hid B0
  obtain ⟨p0, p1, p2⟩ := B0
  clear g1 G0
  cases hpk : p.ok
  · have HE : Hid (patchedZ l p = []) := by show _ = _; rw [HZ.out, hpk]; simp
    go_wp2_with fail
    go_fit (specPatchOk_any p _ _ _ (hd.kept G1) (hv.kept G1))
    rintro e w2 ⟨rfl, g2⟩
    rw [hpk]
    have G2 := gtrans G1 g2
    have E1 := (OD.empty w2).lower (base' := w.heap.size) G2.size
    go_wp2_with fail
    go_ret
    exact ⟨_, [], rfl, by rw [HE.out]; exact E1, galloc G2 _⟩
  have HE : Hid (patchedZ l p = patchZ l p) := by show _ = _; rw [HZ.out, hdk, hpk]; rfl
  have HL := Lib.hid (HOk.out hpk)
  have hl5 : l.length ≤ 1000 := by
    simp only [disksOkZ, Bool.and_eq_true, inB_iff] at hdk
    omega
  have HDs : Hid (∀ i (h : i < l.length), l[i].k.length ≤ 1000 ∧ l[i].m.length ≤ 1000) := fun i hi => by have := l[i].ok_len (disksOk_at hdk i hi); omega
  clear HOk HZ
  go_wp2_with fail
  go_fit (specPatchOk_any p _ _ _ (hd.kept G1) (hv.kept G1))
  rintro e w2 ⟨rfl, g2⟩
  rw [hpk]
  have G2 := gtrans G1 g2
  replace HB0 := Lib.hid (HB0.out.kept g2)
  clear g2 G1 p0 p1 p2 hpk hdk
  go_wp2_with fail
  go_fit (l6Copy_any _ l _ (h.kept G2) hl5 HDs.out)
  rintro e w3 ⟨ov, raw, rfl, C, g3⟩
  obtain ⟨oa, oc, rfl, -⟩ := C.form
  have G3 := gtrans G2 g3
  obtain ⟨b0, b1, b2⟩ := HB0.out.kept g3
  have hs2 := G2.size
  have HNow : Hid (∀ k, NowB raw k → w2.heap.size ≤ k) := fun k ⟨i, hi, e⟩ => (C.in i hi k (.inr e)).1
  go_wp2_with fail
  go_fit (l7Patch_any w2.heap.size _ l raw p _ _ _ C (hd.kept G3) (hv.kept G3) HL.out.1 HL.out.2.2.2 (fun k e x => by have := HBd.out k e; have := HNow.out k x; omega) (fun k e x => by have := HBv.out k e; have := HNow.out k x; omega))
  rintro e w4 ⟨rfl, C4, O4⟩
  have G4 := O4.grew G3 (fun k hk => by have := HNow.out k hk; omega)
  go_wp2_with fail
  go_ret
  exact ⟨_, raw, rfl, by rw [HE.out]; exact C4.lower hs2, G4⟩
end Go.Proofs.Ytjhnoepllnifhaa
namespace Go.Proofs.Ytjhnoepllnifhaa
def allOk (l : List DZ) : Prop := ∀ i (h : i < l.length), l[i].ok = true
theorem allOk.set {l : List DZ} (h : allOk l) (i : Nat) {d : DZ} (hd : i < l.length → d.ok = true) : allOk (l.set i d) := fun j hj => by
  by_cases e : i = j
  · subst e; simpa using hd (by simpa using hj)
  · simp only [List.getElem_set_ne e]; exact h j (by simpa using hj)
theorem DZ.put_ok' {d : DZ} {p v : Int} (h : d.ok = true) : (d.put p v).ok = true := by
  cases hm : d.may p v
  · simp [DZ.put, hm, h]
  · exact DZ.put_ok h hm
theorem patchK_ok {l : List DZ} (h : allOk l) (p : PZ) (k : Nat) : allOk (patchK l p k) := by
  induction k with
  | zero => exact h
  | succ k ih =>
    unfold patchK
    split
    · exact ih.set _ (fun hi => by rw [getD_at hi]; exact DZ.put_ok' (ih _ hi))
    · exact ih
end Go.Proofs.Ytjhnoepllnifhaa
