/- What the specification's l7Patch does to a list of disks. What the specification's l7For returns: the patch of a write. What the specification's Patched returns. -/
import Derived.BigQuiet
import Derived.RegionTactic
import Derived.Test.YteialkknddpbjaaGreatDoorPH01
import Derived.Test.YteialkknddpbjaaGreatDoorPH06
import Derived.Test.YteialkknddpbjaaGreatDoorPH11
import Derived.Test.YteialkknddpbjaaGreatDoorPH15
import Derived.Test.YteialkknddpbjaaGreatDoorPH26
namespace Go.Proofs.YteialkknddpbjaaGreatDoor
open Go.ChangeShapes Go.WideShapes Go.ChangeAt Go.RowKit

/-- the disks behind a patch's first k writes -/
def patchK (l : List DZ) (p : PZ) : Nat → List DZ
  | 0 => l
  | k + 1 => if p.ds.getD k 0 < l.length then (patchK l p k).set (p.ds.getD k 0).toNat (((patchK l p k).getD (p.ds.getD k 0).toNat .zero).put p.row (p.vs.getD k 0)) else patchK l p k
def patchZ (l : List DZ) (p : PZ) : List DZ := patchK l p p.ds.length
theorem patchK_length (l : List DZ) (p : PZ) (k : Nat) : (patchK l p k).length = l.length := by
  induction k with
  | zero => rfl
  | succ k ih => unfold patchK; split <;> simp [ih]
/-- the blocks of the lists Now -/
def NowB (raw : List DV) (k : Nat) : Prop := ∃ i, ∃ h : i < raw.length, raw[i].nv.ownBlock = some k
/-- what l7Patch reads: the patch -/
abbrev PrS (w' : World) (b : Nat) (row : Int) (dv vv : Value) (g o : Nat) (d : Int) (h q : Nat) (v : Int) : Prop := Box3 w' b (.int .i64 row) dv vv ∧ w'.cell? ⟨g, o, none⟩ = some (.int .i64 d) ∧ w'.cell? ⟨h, q, none⟩ = some (.int .i64 v)
theorem PrS.drew {w' : World} {b : Nat} {row : Int} {dv vv : Value} {g o : Nat} {d : Int} {h q : Nat} {v : Int} (s : PrS w' b row dv vv g o d h q v) : PrS w'.drew b row dv vv g o d h q v := s
theorem PrS.only {S : Nat → Prop} {w' w2 : World} {b : Nat} {row : Int} {dv vv : Value} {g o : Nat} {d : Int} {h q : Nat} {v : Int} (s : PrS w' b row dv vv g o d h q v) (k : Only S w' w2) (h1 : ¬ S b) (h2 : ¬ S g) (h3 : ¬ S h) : PrS w2 b row dv vv g o d h q v :=
  ⟨s.1.only k h1, only_cell s.2.1 k h2, only_cell s.2.2 k h3⟩
set_option maxRecDepth 8000 in
set_option maxHeartbeats 4000000 in
theorem l7Patch_any (base : Nat) (v : Value) (l : List DZ) (raw : List DV) (p : PZ) (dv vv : Value) (w : World) (h : OD w base v l raw) (hd : IR w dv p.ds) (hv : IR w vv p.vs)
    (hlen : p.vs.length = p.ds.length) (hpos : ∀ i (h : i < p.ds.length), 0 ≤ p.ds[i])
    (hdb : ∀ k, dv.ownBlock = some k → ¬ NowB raw k) (hvb : ∀ k, vv.ownBlock = some k → ¬ NowB raw k) :
    Calls Tryz.prog 192 #[v, .agg #[.int .i64 p.row, dv, vv]] w fun e w' => e = .returned (.tuple #[]) ∧ OD w' base v (patchZ l p) raw ∧ Only (NowB raw) w w' := by
  obtain ⟨row, ds, vs⟩ := p
  dsimp only at *
  obtain ⟨da, dc, rfl, dm⟩ := hd.form
  obtain ⟨va, vc, rfl, vm⟩ := hv.form
  obtain ⟨a, cap, rfl, lm⟩ := h.form
  have B0 := Box3.new w (.int .i64 row) (.slice da ds.length dc) (.slice va vs.length vc) 97
  have G0 := galloc (grefl w) (.cells #[.int .i64 row, .slice da ds.length dc, .slice va vs.length vc] 97)
  have h0 := h.grew G0
  have hd0 := hd.kept G0
  have hv0 := hv.kept G0
  have hbb : ¬ NowB raw w.heap.size := fun ⟨i, hi, e⟩ => by have := (h.in i hi _ (.inr e)).2; omega
  have HLn := Lib.hid hlen
  have HPos : Hid (∀ i (h : i < ds.length), 0 ≤ ds[i]) := hpos
  have HDb : Hid (∀ k, (Value.slice da ds.length dc).ownBlock = some k → ¬ NowB raw k) := hdb
  have HVb : Hid (∀ k, (Value.slice va vs.length vc).ownBlock = some k → ¬ NowB raw k) := hvb
  clear hd hv hlen hpos hdb hvb h
  go_enter Tryz.func192, Tryz.ntmps192
  go_wp2_with fail
  generalize w.alloc (.cells #[.int .i64 row, .slice da ds.length dc, .slice va vs.length vc] 97) = W0 at *
  generalize w.heap.size = bb at *
  go_loopw [4] (fun i wr => ∃ k : Nat, k ≤ ds.length ∧ i = .int .i64 k ∧ OD wr base (.slice a l.length cap) (patchK l ⟨row, ds, vs⟩ k) raw ∧ Only (NowB raw) W0 wr) (fun i _ => ds.length - (intOf i).toNat)
  case atStart => exact ⟨0, Nat.zero_le _, rfl, h0, Only.refl _ _⟩
  case round =>
    clear h0
    obtain ⟨k, hk, rfl, C, O⟩ := hrel
    obtain ⟨b0, b1, b2⟩ := B0.only O hbb
    by_cases hlt : k < ds.length
    · have hki : (k : Int) < ds.length := by omega
      have hlv : k < vs.length := by rw [HLn.out]; exact hlt
      have hkv : (k : Int) < vs.length := by omega
      obtain ⟨g, o, rfl, x0⟩ := (Rd.only hd0 O HDb.out).at k hlt
      obtain ⟨hb, q, rfl, y0⟩ := (Rd.only hv0 O HVb.out).at k hlv
      have h1 := HPos.out k hlt
      have HK : Hid (patchK l ⟨row, ds, vs⟩ (k + 1) = if ds[k] < l.length then (patchK l ⟨row, ds, vs⟩ k).set ds[k].toNat (((patchK l ⟨row, ds, vs⟩ k).getD ds[k].toNat .zero).put row vs[k]) else patchK l ⟨row, ds, vs⟩ k) := by
        show _ = _
        rw [patchK]
        simp only [List.getD_eq_getElem?_getD, List.getElem?_eq_getElem hlt, List.getElem?_eq_getElem hlv, Option.getD_some]
      have hpl := patchK_length l ⟨row, ds, vs⟩ k
      generalize patchK l ⟨row, ds, vs⟩ k = M at *
      obtain ⟨d, hd⟩ := Int.eq_ofNat_of_zero_le h1
      rw [hd] at x0 HK
      simp only [Int.toNat_natCast] at HK
      generalize vs[k] = x at *
      clear hd h1
      by_cases hin : (d : Int) < l.length
      · rw [if_pos hin] at HK
        have hdl : d < M.length := by omega
        have hdr : d < raw.length := by rw [C.len]; exact hdl
        have hgd : M.getD d .zero = M[d] := getD_at hdl
        rw [hgd] at HK
        obtain ⟨lg, e, -, hlg, -, -, -, -⟩ := C.at d hdr hdl
        cases e
        have DA := (C.dat d hdr hdl).kept (gdrew (grefl wr) 1)
        have S0 : PrS wr bb row _ _ g (o + k) d hb (q + k) x := ⟨⟨b0, b1, b2⟩, x0, y0⟩
        have n1 : ¬ NowB raw g := HDb.out g rfl
        have n2 : ¬ NowB raw hb := HVb.out hb rfl
        have hlh : ¬ NowB raw lg := fun ⟨i, hi, e⟩ => C.out i hi lg (.inr e) rfl
        have hsub : ∀ j, raw[d].nv.ownBlock = some j → NowB raw j := fun j e => ⟨d, hdr, e⟩
        clear b0 b1 b2 x0 y0
        go_wp2_with fail
        go_region_held3 (fun w' => PrS w' bb row (.slice (some ⟨g, o, none⟩) ds.length dc) (.slice (some ⟨hb, q, none⟩) vs.length vc) g (o + k) d hb (q + k) x) (first | assumption | exact S0.drew) (first | (go_at_call 146; go_fit (l3WriteAt_any lg (d * 4) base M[d] raw[d].kv raw[d].nv row x _ DA); rintro e w8 ⟨rfl, D8, g8⟩; have O8 : Only (NowB raw) wr w8 := (Only.of (gdrew (grefl wr) 1) (fun _ e => by cases e)).trans (Only.of g8 hsub); have S8 := S0.only O8 hbb n1 n2))
        have C8 := (C.grew (gdrew (grefl wr) 1)).wrote d hdr hdl D8 g8
        rw [← HK.out] at C8
        go_wp2_with fail
        go_roundw
        case rel => exact ⟨k + 1, by omega, by go_num, C8, O.trans O8⟩
        case measure => simp [intOf]; omega
      · rw [if_neg hin] at HK
        rw [← HK.out] at C
        go_wp2_with fail
        go_roundw
        case rel => exact ⟨k + 1, by omega, by go_num, C, O⟩
        case measure => simp [intOf]; omega
    · obtain rfl : k = ds.length := by omega
      go_wp2_with fail
      go_end0
      exact ⟨rfl, C, (Only.of (gweak G0 none) (fun _ e => by cases e)).trans O⟩
end Go.Proofs.YteialkknddpbjaaGreatDoor
namespace Go.Proofs.YteialkknddpbjaaGreatDoor
open Go.ChangeShapes Go.WideShapes Go.ChangeAt Go.RowKit

theorem tellV_b (l : List DZ) (d r : Int) : 0 ≤ tellV l d r ∧ tellV l d r ≤ 32767 := by
  unfold tellV
  split
  · exact canV_b _ _
  · split
    · have := rowX_lt l r; omega
    · omega
def forHas (l : List DZ) (p v : Int) : Bool := decide (0 ≤ rowZ l.length p ∧ rowZ l.length p < rowsZ l) && okv v
def othersK (l : List DZ) (d ex row : Int) (k : Nat) : Bool := (List.range k).all fun i => (i : Int) == d || ((i : Int) == ex || tellOk l i row)
def sumK (l : List DZ) (d ex row v : Int) : Nat → Int
  | 0 => v
  | k + 1 => if ((k : Int) == d || (k : Int) == ex) = true then sumK l d ex row v k else bits .xor .i64 (sumK l d ex row v k) (tellV l k row)
theorem sumK_b (l : List DZ) (d ex row v : Int) (hv : 0 ≤ v ∧ v ≤ 32767) (k : Nat) : 0 ≤ sumK l d ex row v k ∧ sumK l d ex row v k ≤ 32767 := by
  induction k with
  | zero => exact hv
  | succ k ih =>
    unfold sumK
    split
    · exact ih
    · have := tellV_b l k row
      exact xor_in ih.1 ih.2 this.1 this.2
def pickI (l : List DZ) (d ex : Int) (i : Nat) : Bool := !(l.getD i .zero).dead && ((i : Int) == d || (i : Int) == ex)
def dsF (l : List DZ) (d ex : Int) (k : Nat) : List Int := ((List.range k).filter (pickI l d ex)).map fun i : Nat => (i : Int)
def vsF (l : List DZ) (d ex v s : Int) (k : Nat) : List Int := ((List.range k).filter (pickI l d ex)).map fun i : Nat => if ((i : Int) == d) = true then v else s
theorem dsF_next (l : List DZ) (d ex : Int) (k : Nat) : dsF l d ex (k + 1) = if pickI l d ex k then dsF l d ex k ++ [(k : Int)] else dsF l d ex k := by
  unfold dsF
  rw [List.range_succ, List.filter_append, List.map_append]
  cases h : pickI l d ex k <;> simp [h]
theorem vsF_next (l : List DZ) (d ex v s : Int) (k : Nat) : vsF l d ex v s (k + 1) = if pickI l d ex k then vsF l d ex v s k ++ [if ((k : Int) == d) = true then v else s] else vsF l d ex v s k := by
  unfold vsF
  rw [List.range_succ, List.filter_append, List.map_append]
  cases h : pickI l d ex k <;> simp [h]
theorem dsF_length (l : List DZ) (d ex : Int) (k : Nat) : (dsF l d ex k).length ≤ k := by
  unfold dsF; rw [List.length_map]; exact Nat.le_trans (List.length_filter_le _ _) (by simp)
theorem vsF_length (l : List DZ) (d ex v s : Int) (k : Nat) : (vsF l d ex v s k).length ≤ k := by
  unfold vsF; rw [List.length_map]; exact Nat.le_trans (List.length_filter_le _ _) (by simp)
theorem othersK_next (l : List DZ) (d ex row : Int) (k : Nat) : othersK l d ex row (k + 1) = (othersK l d ex row k && ((k : Int) == d || ((k : Int) == ex || tellOk l k row))) := by
  simp [othersK, List.range_succ]
theorem othersK_no {l : List DZ} {d ex row : Int} {k n : Nat} (hk : k < n) (h : ((k : Int) == d || ((k : Int) == ex || tellOk l k row)) = false) : othersK l d ex row n = false := by
  unfold othersK
  rw [List.all_eq_false]
  exact ⟨k, by simpa using hk, by simp [h]⟩
def forRow (l : List DZ) (p : Int) : Int := rowZ l.length p
def forD (l : List DZ) (p : Int) : Int := diskZ l.length p
def forE (l : List DZ) (p : Int) : Int := extraZ l.length (rowZ l.length p)
def forAll (l : List DZ) (p v : Int) : Bool := forHas l p v && othersK l (forD l p) (forE l p) (forRow l p) l.length
def forSum (l : List DZ) (p v : Int) : Int := sumK l (forD l p) (forE l p) (forRow l p) v l.length
/-- the patch of a write -/
def forP (l : List DZ) (p v : Int) : PZ := if forAll l p v then ⟨forRow l p, dsF l (forD l p) (forE l p) l.length, vsF l (forD l p) (forE l p) v (forSum l p v) l.length⟩ else .zero
def forOk (l : List DZ) (p v : Int) : Bool := forAll l p v && decide (0 < (dsF l (forD l p) (forE l p) l.length).length)
theorem for_no {l : List DZ} {p v : Int} (h : forAll l p v = false) : forP l p v = .zero ∧ forOk l p v = false := by simp [forP, forOk, h]
theorem for_yes {l : List DZ} {p v : Int} (h : forAll l p v = true) : forP l p v = ⟨forRow l p, dsF l (forD l p) (forE l p) l.length, vsF l (forD l p) (forE l p) v (forSum l p v) l.length⟩ ∧ forOk l p v = decide (0 < (dsF l (forD l p) (forE l p) l.length).length) := by simp [forP, forOk, h]
set_option maxRecDepth 8000 in
set_option maxHeartbeats 4000000 in
theorem l7For_any (v : Value) (l : List DZ) (p x : Int) (w : World) (h : LD w v l) (hl : l.length ≤ 1000) :
    Calls Tryz.prog 237 #[v, .int .i64 p, .int .i64 x] w (GotP (forP l p x) (forOk l p x) w) := by
  obtain ⟨a, cap, rfl, hm⟩ := h.form
  have Z0 := Zero3.new w
  have G0 := galloc (grefl w) (.cells #[.int .i64 0, .slice none 0 0, .slice none 0 0] 97)
  have e1 := galloc (grefl (w.alloc (.cells #[.int .i64 0, .slice none 0 0, .slice none 0 0] 97))) (.cells #[.int .i64 0, .slice none 0 0, .slice none 0 0] 97)
  have N0 := Zero3.new (w.alloc (.cells #[.int .i64 0, .slice none 0 0, .slice none 0 0] 97))
  have Z1 := Z0.kept e1 (by simp)
  have G1 := gtrans G0 e1
  have h1 := h.kept G1
  have hsz : (w.alloc (.cells #[.int .i64 0, .slice none 0 0, .slice none 0 0] 97)).heap.size = w.heap.size + 1 := by simp
  rw [hsz] at N0
  clear Z0 G0 e1 h
  go_enter Tryz.func237, Tryz.ntmps237
  go_upto_region 2 with (fail)
  generalize (w.alloc (.cells #[.int .i64 0, .slice none 0 0, .slice none 0 0] 97)).alloc (.cells #[.int .i64 0, .slice none 0 0, .slice none 0 0] 97) = W1 at *
  have hR1 := fun (w' : World) (g : W1.grownBy w' none) => ret_zero3 (r := w.heap.size) (gtrans G1 g) (Nat.le_refl _)
  obtain ⟨⟨m0, m0'⟩, ⟨m1, m1'⟩, ⟨m2, m2'⟩⟩ := N0
  have HRw : Hid (forRow l p = rowZ l.length p) := rfl
  have HDk : Hid (forD l p = diskZ l.length p) := rfl
  have HEx : Hid (forE l p = extraZ l.length (rowZ l.length p)) := rfl
  have HHas : Hid (forHas l p x = (decide (0 ≤ rowZ l.length p ∧ rowZ l.length p < rowsZ l) && okv x)) := rfl
  generalize hrow : rowZ l.length p = row at *
  by_cases hr0 : row < 0
  · have HF := Lib.hid (for_no (l := l) (p := p) (v := x) (by rw [forAll, HHas.out, decide_eq_false (by omega)]; rfl))
    have GR := grefl W1
    obtain ⟨⟨z0, y0⟩, ⟨z1, y1⟩, ⟨z2, y2⟩⟩ := Z1
    go_wp2_with fail
    go_fit (specRowOf_any _ _ _)
    rintro e w' ⟨rfl, rfl⟩
    rw [hrow]
    clear hrow
    go_wp2_with fail
    exact bodyPost_ret (v := .tuple #[.agg #[.int .i64 0, .slice none 0 0, .slice none 0 0], .bool false]) (by simp [results, Tryz.results237, go_sem, z0, z1, z2]) rfl (by rw [HF.out.1, HF.out.2]; exact hR1 _ GR)
  by_cases hr1 : (rowsZ l : Int) ≤ row
  · have HF := Lib.hid (for_no (l := l) (p := p) (v := x) (by rw [forAll, HHas.out, decide_eq_false (by omega)]; rfl))
    have GR := grefl W1
    obtain ⟨⟨z0, y0⟩, ⟨z1, y1⟩, ⟨z2, y2⟩⟩ := Z1
    go_wp2_with fail
    go_fit (specRowOf_any _ _ _)
    rintro e w' ⟨rfl, rfl⟩
    rw [hrow]
    clear hrow
    go_wp2_with fail
    go_fit (l6Rows_any _ l _ h1)
    rintro e w' ⟨rfl, rfl⟩
    go_wp2_with fail
    exact bodyPost_ret (v := .tuple #[.agg #[.int .i64 0, .slice none 0 0, .slice none 0 0], .bool false]) (by simp [results, Tryz.results237, go_sem, z0, z1, z2]) rfl (by rw [HF.out.1, HF.out.2]; exact hR1 _ GR)
  cases hx : inB x 0 32767
  · have HF := Lib.hid (for_no (l := l) (p := p) (v := x) (by rw [forAll, HHas.out, show okv x = false from hx]; simp))
    have GR := grefl W1
    obtain ⟨⟨z0, y0⟩, ⟨z1, y1⟩, ⟨z2, y2⟩⟩ := Z1
    go_wp2_with fail
    go_fit (specRowOf_any _ _ _)
    rintro e w' ⟨rfl, rfl⟩
    rw [hrow]
    clear hrow
    go_wp2_with fail
    go_fit (l6Rows_any _ l _ h1)
    rintro e w' ⟨rfl, rfl⟩
    go_wp2_with fail
    go_fit (l1Value_any _ _)
    rintro e w' ⟨rfl, rfl⟩
    rw [hx]
    go_wp2_with fail
    exact bodyPost_ret (v := .tuple #[.agg #[.int .i64 0, .slice none 0 0, .slice none 0 0], .bool false]) (by simp [results, Tryz.results237, go_sem, z0, z1, z2]) rfl (by rw [HF.out.1, HF.out.2]; exact hR1 _ GR)
  have HA : Hid (forHas l p x = true) := by show _ = _; rw [HHas.out, decide_eq_true (by omega), show okv x = true from hx]; rfl
  have hxb := inB_iff.1 hx
  go_wp2_with fail
  go_fit (specRowOf_any _ _ _)
  rintro e w' ⟨rfl, rfl⟩
  rw [hrow]
  go_wp2_with fail
  go_fit (l6Rows_any _ l _ h1)
  rintro e w' ⟨rfl, rfl⟩
  go_wp2_with fail
  go_fit (l1Value_any _ _)
  rintro e w' ⟨rfl, rfl⟩
  rw [hx]
  go_wp2_with fail
  go_fit (specDiskOf_any _ _ _)
  rintro e w2 ⟨rfl, g2⟩
  go_wp2_with fail
  go_fit (specExtraOf_any _ _ _)
  rintro e w' ⟨rfl, rfl⟩
  have HAl : Hid (forAll l p x = othersK l (diskZ l.length p) (extraZ l.length row) row l.length) := by show _ = _; rw [forAll, HA.out, HDk.out, HEx.out, HRw.out]; rfl
  generalize diskZ l.length p = d at *
  generalize extraZ l.length row = ex at *
  clear hrow hx
  go_wp2_with fail
  go_loopw [13, 14] (fun sm i wr => ∃ k : Nat, k ≤ l.length ∧ i = .int .i64 k ∧ sm = .int .i64 (sumK l d ex row x k) ∧ W1.grownBy wr none ∧ Hid (othersK l d ex row k = true)) (fun _ i _ => l.length - (intOf i).toNat)
  case atStart => exact ⟨0, Nat.zero_le _, rfl, rfl, g2, rfl⟩
  case round =>
    obtain ⟨k, hk, rfl, rfl, G, HO⟩ := hrel
    have hsb := sumK_b l d ex row x hxb k
    by_cases hlt : k < l.length
    · have hki : (k : Int) < l.length := by omega
      have HN := Lib.hid (othersK_next l d ex row k)
      cases hd : ((k : Int) == d)
      rotate_left
      · have HS : Hid (sumK l d ex row x (k + 1) = sumK l d ex row x k ∧ othersK l d ex row (k + 1) = true) := ⟨by simp [sumK, hd], by rw [HN.out, HO.out, hd]; rfl⟩
        go_wp2_with fail
        go_roundw
        case rel => exact ⟨k + 1, by omega, by go_num, by rw [HS.out.1], G, HS.out.2⟩
        case measure => simp [intOf]; omega
      cases he : ((k : Int) == ex)
      rotate_left
      · have HS : Hid (sumK l d ex row x (k + 1) = sumK l d ex row x k ∧ othersK l d ex row (k + 1) = true) := ⟨by simp [sumK, he], by rw [HN.out, HO.out, he]; simp⟩
        go_wp2_with fail
        go_roundw
        case rel => exact ⟨k + 1, by omega, by go_num, by rw [HS.out.1], G, HS.out.2⟩
        case measure => simp [intOf]; omega
      cases ht : tellOk l k row
      · have HF := Lib.hid (for_no (l := l) (p := p) (v := x) (by rw [HAl.out]; exact othersK_no hlt (by rw [hd, he, ht]; rfl)))
        go_wp2_with fail
        go_fit (l6Cell_any _ l k row _ (h1.kept G) (by omega) hlt)
        rintro e w5 ⟨rfl, g5⟩
        rw [ht]
        have GR := gtrans G g5
        obtain ⟨⟨z0, y0⟩, ⟨z1, y1⟩, ⟨z2, y2⟩⟩ := Z1.kept GR (by simp)
        have n0 := gkc GR m0
        have n1 := gkc GR m1
        have n2 := gkc GR m2
        go_wp2_with fail
        exact bodyPost_ret (v := .tuple #[.agg #[.int .i64 0, .slice none 0 0, .slice none 0 0], .bool false]) (by simp [results, Tryz.results237, go_sem, z0, z1, z2]) rfl (by rw [HF.out.1, HF.out.2]; exact hR1 _ GR)
      · have HS : Hid (sumK l d ex row x (k + 1) = bits .xor .i64 (sumK l d ex row x k) (tellV l k row) ∧ othersK l d ex row (k + 1) = true) := ⟨by simp [sumK, hd, he], by rw [HN.out, HO.out, ht]; simp⟩
        go_wp2_with fail
        go_fit (l6Cell_any _ l k row _ (h1.kept G) (by omega) hlt)
        rintro e w5 ⟨rfl, g5⟩
        rw [ht]
        go_wp2_with fail
        go_roundw
        case rel => exact ⟨k + 1, by omega, by go_num, by rw [HS.out.1], gtrans G g5, HS.out.2⟩
        case measure => simp [intOf]; omega
    · obtain rfl : k = l.length := by omega
      have HAll : Hid (forAll l p x = true) := by show _ = _; rw [HAl.out]; exact HO.out
      have HF := Lib.hid (for_yes HAll.out)
      rw [HRw.out, HDk.out, HEx.out] at HF
      have HSm : Hid (forSum l p x = sumK l d ex row x l.length) := by show _ = _; rw [forSum, HRw.out, HDk.out, HEx.out]
      rw [HSm.out] at HF
      have e0 := galloc (grefl wr) (.cells #[.int .i64 row, .slice none 0 0, .slice none 0 0] 97)
      have hsW : (wr.alloc (.cells #[.int .i64 row, .slice none 0 0, .slice none 0 0] 97)).heap.size = wr.heap.size + 1 := by simp
      have P0 : PBox (wr.alloc (.cells #[.int .i64 row, .slice none 0 0, .slice none 0 0] 97)) wr.heap.size (wr.heap.size + 1) ⟨row, dsF l d ex 0, vsF l d ex x (sumK l d ex row x l.length) 0⟩ (.slice none 0 0) (.slice none 0 0) :=
        ⟨by simp [At, go_sem], by simp [At, go_sem], by simp [At, go_sem], Own.nil _ _ _, Own.nil _ _ _, .inl rfl, by simp [Value.ownBlock], by simp [Value.ownBlock]⟩
      have G3 := gtrans G e0
      have hpb : W1.heap.size ≤ wr.heap.size := G.size
      have hrb : w.heap.size < W1.heap.size := cell_lt Z1.c0.1
      go_upto_region 18 with (fail)
      generalize wr.alloc (.cells #[.int .i64 row, .slice none 0 0, .slice none 0 0] 97) = W at *
      generalize wr.heap.size = pb at *
      clear e0 m0 m0' m1 m1' m2 m2' HO HAl HAll HSm
      go_wp2_with fail
      go_loopw [18] (fun i wx => ∃ (k : Nat) (dv vv : Value), k ≤ l.length ∧ i = .int .i64 k ∧ PBox wx pb (pb + 1) ⟨row, dsF l d ex k, vsF l d ex x (sumK l d ex row x l.length) k⟩ dv vv ∧ W.grownBy wx (some pb)) (fun i _ => l.length - (intOf i).toNat)
      case atStart => exact ⟨0, _, _, Nat.zero_le _, rfl, P0, World.grownBy.refl _ _⟩
      case round =>
        clear P0
        obtain ⟨k, dv, vv, hk, rfl, PB, GX⟩ := hrel
        obtain ⟨da, dn, dc, rfl⟩ := PB.ds.sl
        obtain ⟨va, vn, vc, rfl⟩ := PB.vs.sl
        have hwx : pb + 1 ≤ wr.heap.size := by have := GX.size; omega
        have hpl := PB.lt
        have GW : W1.grownBy wr none := gsub G3 GX (fun q e => by cases e; exact hpb)
        obtain ⟨p0, pf0⟩ := PB.c0
        obtain ⟨p1, pf1⟩ := PB.c1
        obtain ⟨p2, pf2⟩ := PB.c2
        by_cases hlt : k < l.length
        · have hki : (k : Int) < l.length := by omega
          obtain ⟨g, o, ka, km, kc, na, nm, nc, rfl, x0, x1, x2, x3, D⟩ := (h1.kept GW).at k hlt
          have HD := Lib.hid (dsF_next l d ex k)
          have HV := Lib.hid (vsF_next l d ex x (sumK l d ex row x l.length) k)
          have hpk : pickI l d ex k = (!l[k].dead && ((k : Int) == d || (k : Int) == ex)) := by unfold pickI; rw [getD_at hlt]
          rw [hpk] at HD HV
          clear hpk
          cases hdd : l[k].dead
          rotate_left
          · rw [hdd] at x1 HD HV
            simp only [Bool.not_true, Bool.false_and, Bool.false_eq_true, if_false] at HD HV
            go_wp2_with fail
            go_roundw
            case rel => exact ⟨k + 1, _, _, by omega, by go_num, by rw [HD.out, HV.out]; exact PB, GX⟩
            case measure => simp [intOf]; omega
          rw [hdd] at x1 HD HV
          cases hd : ((k : Int) == d)
          · cases he : ((k : Int) == ex)
            · have hd' : ((k : Int) != d) = true := by rw [bne, hd]; rfl
              have he' : ((k : Int) != ex) = true := by rw [bne, he]; rfl
              rw [hd, he] at HD HV
              simp only [Bool.not_false, Bool.true_and, Bool.or_self, Bool.false_eq_true, if_false] at HD HV
              go_wp2_with fail
              go_roundw
              case rel => exact ⟨k + 1, _, _, by omega, by go_num, by rw [HD.out, HV.out]; exact PB, GX⟩
              case measure => simp [intOf]; omega
            · have hd' : ((k : Int) != d) = true := by rw [bne, hd]; rfl
              have he' : ((k : Int) != ex) = false := by rw [bne, he]; rfl
              rw [hd, he] at HD HV
              simp only [Bool.not_false, Bool.true_and, Bool.or_true, Bool.false_eq_true, if_true, if_false] at HD HV
              go_upto_region 26 with (first | (at_builtin; refine wpList_append_o (E := intE) (base := pb + 1) rfl (.tmp 101) (.tmp 103) rfl rfl rfl (PB.ds.grew (galloc (grefl _) _)) (IS.single _ (k : Int) (Nat.zero_le _)) (by have := dsF_length l d ex k; simp; omega) (by decide) (by simp; omega) ?_; intro v1 wa ho1 hg1 ha1; obtain ⟨q1, r1⟩ := gkr hg1 PB.db (gk (galloc (grefl wr) _) PB.c1); have P1 := PBox.app1 (PB.kept (galloc (grefl wr) _)) hg1 ho1 ha1; have GX1 : W.grownBy (wa.setCell ⟨pb, 1, none⟩ v1) (some pb) := gset (gsubc (galloc GX _) hg1 (fun q e => by have := (PB.ds.lt q e).1; omega)) _ _; obtain ⟨a1, n1, c1', rfl⟩ := ho1.sl))
              dsimp only at P1
              generalize wa.setCell ⟨pb, 1, none⟩ (.slice a1 n1 c1') = Wb at *
              have hl1 := P1.lt
              have hw1 : pb + 1 ≤ Wb.heap.size := by have := GX1.size; omega
              obtain ⟨t2, u2⟩ := P1.c2
              clear PB GX p0 p1 p2 pf0 pf1 pf2 hg1 ho1 ha1 q1 r1 GW x0 x1 x2 x3 D
              go_wp2_with (first | (at_builtin; refine wpList_append_o (E := intE) (base := pb + 1) rfl (.tmp 107) (.tmp 109) rfl rfl rfl (P1.vs.grew (galloc (grefl _) _)) (IS.single _ (sumK l d ex row x l.length) (Nat.zero_le _)) (by have := vsF_length l d ex x (sumK l d ex row x l.length) k; simp; omega) (by decide) (by simp; omega) ?_; intro v2 wb ho2 hg2 ha2; obtain ⟨q2, r2⟩ := gkr hg2 P1.vb (gk (galloc (grefl _) _) P1.c2); have P2 := PBox.app2 (P1.kept (galloc (grefl _) _)) hg2 ho2 ha2; have GX2 : W.grownBy (wb.setCell ⟨pb, 2, none⟩ v2) (some pb) := gset (gsubc (galloc GX1 _) hg2 (fun q e => by have := (P1.vs.lt q e).1; omega)) _ _; obtain ⟨a2, n2, c2', rfl⟩ := ho2.sl))
              dsimp only at P2
              rw [← HD.out, ← HV.out] at P2
              go_roundw
              case rel => exact ⟨k + 1, _, _, by omega, by go_num, P2, GX2⟩
              case measure => simp [intOf]; omega
          · have hd' : ((k : Int) != d) = false := by rw [bne, hd]; rfl
            rw [hd] at HD HV
            simp only [Bool.not_false, Bool.true_and, Bool.true_or, if_true] at HD HV
            go_upto_region 26 with (first | (at_builtin; refine wpList_append_o (E := intE) (base := pb + 1) rfl (.tmp 101) (.tmp 103) rfl rfl rfl (PB.ds.grew (galloc (grefl _) _)) (IS.single _ (k : Int) (Nat.zero_le _)) (by have := dsF_length l d ex k; simp; omega) (by decide) (by simp; omega) ?_; intro v1 wa ho1 hg1 ha1; obtain ⟨q1, r1⟩ := gkr hg1 PB.db (gk (galloc (grefl wr) _) PB.c1); have P1 := PBox.app1 (PB.kept (galloc (grefl wr) _)) hg1 ho1 ha1; have GX1 : W.grownBy (wa.setCell ⟨pb, 1, none⟩ v1) (some pb) := gset (gsubc (galloc GX _) hg1 (fun q e => by have := (PB.ds.lt q e).1; omega)) _ _; obtain ⟨a1, n1, c1', rfl⟩ := ho1.sl))
            dsimp only at P1
            generalize wa.setCell ⟨pb, 1, none⟩ (.slice a1 n1 c1') = Wb at *
            have hl1 := P1.lt
            have hw1 : pb + 1 ≤ Wb.heap.size := by have := GX1.size; omega
            obtain ⟨t2, u2⟩ := P1.c2
            clear PB GX p0 p1 p2 pf0 pf1 pf2 hg1 ho1 ha1 q1 r1 GW x0 x1 x2 x3 D
            go_wp2_with (first | (at_builtin; refine wpList_append_o (E := intE) (base := pb + 1) rfl (.tmp 107) (.tmp 109) rfl rfl rfl (P1.vs.grew (galloc (grefl _) _)) (IS.single _ x (Nat.zero_le _)) (by have := vsF_length l d ex x (sumK l d ex row x l.length) k; simp; omega) (by decide) (by simp; omega) ?_; intro v2 wb ho2 hg2 ha2; obtain ⟨q2, r2⟩ := gkr hg2 P1.vb (gk (galloc (grefl _) _) P1.c2); have P2 := PBox.app2 (P1.kept (galloc (grefl _) _)) hg2 ho2 ha2; have GX2 : W.grownBy (wb.setCell ⟨pb, 2, none⟩ v2) (some pb) := gset (gsubc (galloc GX1 _) hg2 (fun q e => by have := (P1.vs.lt q e).1; omega)) _ _; obtain ⟨a2, n2, c2', rfl⟩ := ho2.sl))
            dsimp only at P2
            rw [← HD.out, ← HV.out] at P2
            go_roundw
            case rel => exact ⟨k + 1, _, _, by omega, by go_num, P2, GX2⟩
            case measure => simp [intOf]; omega
        · obtain rfl : k = l.length := by omega
          have HDn : Hid ((dn : Int) = ((dsF l d ex l.length).length : Int)) := by
            obtain ⟨_, _, e, _⟩ := Own.form PB.ds
            cases e; rfl
          have GG : w.grownBy wr none := gtrans G1 GW
          obtain ⟨⟨z0, y0⟩, ⟨z1, y1⟩, ⟨z2, y2⟩⟩ := Z1.kept GW (by simp)
          have hdn : (Value.slice da dn dc).ownBlock ≠ some w.heap.size := fun e => by have := (PB.ds.lt _ e).1; omega
          have hvn : (Value.slice va vn vc).ownBlock ≠ some w.heap.size := fun e => by have := (PB.vs.lt _ e).1; omega
          have hne : w.heap.size ≠ pb := by omega
          have hR : ∀ w', wr.grownBy w' none → GotP (forP l p x) (forOk l p x) w (.returned (.tuple #[.agg #[.int .i64 row, .slice da dn dc, .slice va vn vc], .bool (decide ((0 : Int) < dn))])) (set3 w' w.heap.size (.int .i64 row) (.slice da dn dc) (.slice va vn vc)) := fun w' g => by
            have P5 := PB.kept g
            rw [HF.out.1, HF.out.2]
            refine ⟨_, _, ?_, (Own.other (Own.other (Own.other P5.ds hdn _) hdn _) hdn _).lower (by omega), (Own.other (Own.other (Own.other P5.vs hvn _) hvn _) hvn _).lower (by omega), P5.ap, gset3 (gtrans GG g) (Nat.le_refl _) _ _ _⟩
            rw [HDn.out, show decide ((0 : Int) < ((dsF l d ex l.length).length : Int)) = decide (0 < (dsF l d ex l.length).length) by rw [decide_eq_decide]; omega]
          clear HF HDn G3 h1
          go_wp2_with fail
          go_region
          all_goals (
            go_wp2_with fail
            exact bodyPost_ret (v := .tuple #[.agg #[.int .i64 row, .slice da dn dc, .slice va vn vc], .bool (decide ((0 : Int) < dn))]) (by simp [results, Tryz.results237, go_sem, z0, z1, z2]) rfl (hR _ (gdrew (grefl wr) 1)))
end Go.Proofs.YteialkknddpbjaaGreatDoor
namespace Go.Proofs.YteialkknddpbjaaGreatDoor
open Go.ChangeShapes Go.WideShapes Go.ChangeAt Go.RowKit

theorem disksOk_at {l : List DZ} (h : disksOkZ l = true) (i : Nat) (hi : i < l.length) : l[i].ok = true := by
  simp only [disksOkZ, Bool.and_eq_true, decide_eq_true_eq] at h
  have := List.all_eq_true.1 h.2.1 i (by simpa using hi)
  rw [getD_at hi] at this
  simp only [DZ.fitsIn, Bool.and_eq_true] at this
  exact this.1
end Go.Proofs.YteialkknddpbjaaGreatDoor
namespace Go.Proofs.YteialkknddpbjaaGreatDoor
def allOk (l : List DZ) : Prop := ∀ i (h : i < l.length), l[i].ok = true
theorem allOk.set {l : List DZ} (h : allOk l) (i : Nat) {d : DZ} (hd : i < l.length → d.ok = true) : allOk (l.set i d) := fun j hj => by
  by_cases e : i = j
  · subst e; simpa using hd (by simpa using hj)
  · simp only [List.getElem_set_ne e]; exact h j (by simpa using hj)
theorem DZ.put_ok' {d : DZ} {p v : Int} (h : d.ok = true) : (d.put p v).ok = true := by
  cases hm : d.may p v
  · simp [DZ.put, hm, h]
  · exact DZ.put_ok h hm
end Go.Proofs.YteialkknddpbjaaGreatDoor
