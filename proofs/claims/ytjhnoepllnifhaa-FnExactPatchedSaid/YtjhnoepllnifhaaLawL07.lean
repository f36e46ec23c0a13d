/- The laws' own helpers over patches: what came in, opened, measured, copied, compared, marked, held. -/
import Derived.Test.YtjhnoepllnifhaaSpecL07
import Derived.Test.YtjhnoepllnifhaaBaseL04
import Derived.Lib.SmallJoins
namespace Go.Proofs.Ytjhnoepllnifhaa
open Go.ChangeShapes Go.WideShapes Go.ChangeAt Go.RowKit Go.Joins Go.Deep
set_option maxRecDepth 8000

theorem i_not_own {w : World} {B r : Nat} {v : Value} {l : List Int} (h : IS w B v l) (hr : r < B) : v.ownBlock ≠ some r := fun e => by have := (h.lt r e).1; omega
theorem i_apart {w w1 : World} {B : Nat} {v u : Value} {l m : List Int} (hv : IS w B v l) (hu : IS w1 w.heap.size u m) : Apart v u := by
  cases e1 : v.ownBlock with
  | none => exact .inl e1
  | some a =>
    refine .inr ?_
    rw [e1]
    intro e2
    have := (hv.lt a e1).2
    have := (hu.lt a e2.symm).1
    omega
/-- a new patch -/
def FreshP (w w' : World) (dv vv : Value) (p : PZ) : Prop := IS w' w.heap.size dv p.ds ∧ IS w' w.heap.size vv p.vs ∧ Apart dv vv ∧ w.grownBy w' none
def GotPt (p : PZ) (w : World) (e : Ending) (w' : World) : Prop := ∃ dv vv, e = .returned (.agg #[.int .i64 p.row, dv, vv]) ∧ FreshP w w' dv vv p
theorem PBox.put1 {w w' : World} {b B : Nat} {p : PZ} {dv vv v : Value} {l : List Int} (h : PBox w b B p dv vv) (g : w.grownBy w' none) (hB : B ≤ w.heap.size) (hv : IS w' w.heap.size v l) : PBox (w'.setCell ⟨b, 1, none⟩ v) b B ⟨p.row, l, p.vs⟩ v vv := by
  have hb : v.ownBlock ≠ some b := i_not_own hv h.lt
  exact ⟨(gk g h.c0).other (by simp) _, (gk g h.c1).same _, (gk g h.c2).other (by simp) _, Own.other (hv.lower hB) hb _, Own.other (h.vs.grew g) h.vb _, (i_apart h.vs hv).symm, hb, h.vb⟩
theorem PBox.put2 {w w' : World} {b B : Nat} {p : PZ} {dv vv v : Value} {l : List Int} (h : PBox w b B p dv vv) (g : w.grownBy w' none) (hB : B ≤ w.heap.size) (hv : IS w' w.heap.size v l) : PBox (w'.setCell ⟨b, 2, none⟩ v) b B ⟨p.row, p.ds, l⟩ dv v := by
  have hb : v.ownBlock ≠ some b := i_not_own hv h.lt
  exact ⟨(gk g h.c0).other (by simp) _, (gk g h.c1).other (by simp) _, (gk g h.c2).same _, Own.other (h.ds.grew g) h.db _, Own.other (hv.lower hB) hb _, i_apart h.ds hv, h.db, hb⟩
theorem Zero3.other {w : World} {r c o : Nat} (h : Zero3 w r) (hc : c ≠ r) (u : Value) : Zero3 (w.setCell ⟨c, o, none⟩ u) r :=
  ⟨h.c0.other (by intro e; cases e; exact hc rfl) u, h.c1.other (by intro e; cases e; exact hc rfl) u, h.c2.other (by intro e; cases e; exact hc rfl) u⟩
theorem Box3.far {w : World} {b c o : Nat} {x0 x1 x2 : Value} (h : Box3 w b x0 x1 x2) (hc : c ≠ b) (u : Value) : Box3 (w.setCell ⟨c, o, none⟩ u) b x0 x1 x2 := by
  have hn : ∀ q, (w.setCell ⟨c, o, none⟩ u).cell? ⟨b, q, none⟩ = w.cell? ⟨b, q, none⟩ := fun q => World.cell?_setCell_other w _ _ u (fun e => hc (by cases e; rfl))
  exact ⟨by rw [hn]; exact h.1, by rw [hn]; exact h.2.1, by rw [hn]; exact h.2.2⟩
theorem PBox.res {w w' : World} {b r B : Nat} {p : PZ} {dv vv : Value} (h : PBox w' b B p dv vv) (g : w.grownBy w' none) (hB : w.heap.size ≤ B) (hr : w.heap.size ≤ r) (hrd : dv.ownBlock ≠ some r) (hrv : vv.ownBlock ≠ some r) (x0 x1 x2 : Value) : FreshP w (set3 w' r x0 x1 x2) dv vv p :=
  ⟨Own.other (Own.other (Own.other (h.ds.lower hB) hrd _) hrd _) hrd _, Own.other (Own.other (Own.other (h.vs.lower hB) hrv _) hrv _) hrv _, h.ap, gset3 g hr _ _ _⟩
theorem boxedP (w : World) (row : Int) (x1 x2 : Value) (T U : Nat) :
    Box3 (((w.alloc (.cells #[.int .i64 row, x1, x2] T)).alloc (.cells #[.int .i64 0, .slice none 0 0, .slice none 0 0] U)).alloc (.cells #[.int .i64 row, .slice none 0 0, .slice none 0 0] U)) w.heap.size (.int .i64 row) x1 x2 ∧
    Zero3 (((w.alloc (.cells #[.int .i64 row, x1, x2] T)).alloc (.cells #[.int .i64 0, .slice none 0 0, .slice none 0 0] U)).alloc (.cells #[.int .i64 row, .slice none 0 0, .slice none 0 0] U)) (w.heap.size + 1) ∧
    PBox (((w.alloc (.cells #[.int .i64 row, x1, x2] T)).alloc (.cells #[.int .i64 0, .slice none 0 0, .slice none 0 0] U)).alloc (.cells #[.int .i64 row, .slice none 0 0, .slice none 0 0] U)) (w.heap.size + 1 + 1) (w.heap.size + 3) ⟨row, [], []⟩ (.slice none 0 0) (.slice none 0 0) ∧
    w.grownBy (((w.alloc (.cells #[.int .i64 row, x1, x2] T)).alloc (.cells #[.int .i64 0, .slice none 0 0, .slice none 0 0] U)).alloc (.cells #[.int .i64 row, .slice none 0 0, .slice none 0 0] U)) none ∧
    w.heap.size + 3 ≤ (((w.alloc (.cells #[.int .i64 row, x1, x2] T)).alloc (.cells #[.int .i64 0, .slice none 0 0, .slice none 0 0] U)).alloc (.cells #[.int .i64 row, .slice none 0 0, .slice none 0 0] U)).heap.size := by
  refine ⟨⟨?_, ?_, ?_⟩, ⟨?_, ?_, ?_⟩, ⟨?_, ?_, ?_, Own.nil _ _ _, Own.nil _ _ _, .inl rfl, by simp [Value.ownBlock], by simp [Value.ownBlock]⟩, galloc (galloc (galloc (grefl _) _) _) _, by simp⟩ <;> simp [At, go_sem]
set_option maxHeartbeats 1000000 in
theorem toPatch_any (p : PZ) (dv vv : Value) (w : World) (hd : IR w dv p.ds) (hv : IR w vv p.vs) (ld : p.ds.length ≤ 1048576) (lv : p.vs.length ≤ 1048576) :
    Calls Try.prog 9 #[.agg #[.int .i64 p.row, dv, vv]] w (GotPt p w) := by
  obtain ⟨row, ds, vs⟩ := p
  dsimp only at *
  obtain ⟨da, dc, rfl, -⟩ := hd.form
  obtain ⟨va, vc, rfl, -⟩ := hv.form
  have hb := boxedP w row (.slice da ds.length dc) (.slice va vs.length vc) 25 31
  go_enter Try.func9, Try.ntmps9
  go_upto_region 3 with (fail)
  generalize ((w.alloc (.cells #[.int .i64 row, .slice da ds.length dc, .slice va vs.length vc] 25)).alloc (.cells #[.int .i64 0, .slice none 0 0, .slice none 0 0] 31)).alloc (.cells #[.int .i64 row, .slice none 0 0, .slice none 0 0] 31) = W0 at *
  obtain ⟨B0, Z0, D0, g0, s0⟩ := hb
  have HB0 := Lib.hid B0
  obtain ⟨p0, p1, p2⟩ := B0
  go_wp2_with fail
  go_fit (toInt64S_any _ ds _ (hd.kept g0) ld)
  rintro e w1 ⟨v1, rfl, c1, g1⟩
  have hs1 := g1.size
  have D1 := D0.put1 (v := v1) (l := ds) g1 s0 c1
  have Z1 := (Z0.kept g1 (by simp)).other (c := w.heap.size + 1 + 1) (o := 1) (by omega) v1
  have B1 := (HB0.out.kept g1).far (c := w.heap.size + 1 + 1) (o := 1) (by omega) v1
  have G1 : w.grownBy (w1.setCell ⟨w.heap.size + 1 + 1, 1, none⟩ v1) none := gset1 (gtrans g0 g1) (by omega) _ _
  have s1 : w.heap.size + 3 ≤ (w1.setCell ⟨w.heap.size + 1 + 1, 1, none⟩ v1).heap.size := by simp [World.setCell]; omega
  obtain ⟨xa, xm, xc, rfl⟩ := Own.sl c1
  obtain ⟨x2, y2⟩ := (gk g1 D0.c1)
  clear p0 p1 p2 c1 hs1 HB0
  go_upto_region 4 with (fail)
  generalize w1.setCell ⟨w.heap.size + 1 + 1, 1, none⟩ (.slice xa xm xc) = W1 at *
  clear x2 y2
  obtain ⟨p0, p1, p2⟩ := B1
  go_wp2_with fail
  go_fit (toInt64S_any _ vs _ (hv.kept G1) lv)
  rintro e w2 ⟨v2, rfl, c2, g2⟩
  have hs2 := g2.size
  have D2 := D1.put2 (v := v2) (l := vs) g2 s1 c2
  have Z2 := (Z1.kept g2 (by simp)).other (c := w.heap.size + 1 + 1) (o := 2) (by omega) v2
  have G2 : w.grownBy (w2.setCell ⟨w.heap.size + 1 + 1, 2, none⟩ v2) none := gset1 (gtrans G1 g2) (by omega) _ _
  obtain ⟨ua, um, uc, rfl⟩ := Own.sl c2
  obtain ⟨x2, y2⟩ := (gk g2 D1.c2)
  clear p0 p1 p2 c2
  go_upto_region 5 with (fail)
  generalize w2.setCell ⟨w.heap.size + 1 + 1, 2, none⟩ (.slice ua um uc) = W2 at *
  clear x2 y2
  have hR := D2.res G2 (r := w.heap.size + 1) (by omega) (by omega) (i_not_own D2.ds (by omega)) (i_not_own D2.vs (by omega)) (.int .i64 row) (.slice xa xm xc) (.slice ua um uc)
  obtain ⟨⟨z0, y0⟩, ⟨z1, y1⟩, ⟨z2, y2⟩⟩ := Z2
  obtain ⟨c0, f0⟩ := D2.c0
  obtain ⟨c1, f1⟩ := D2.c1
  obtain ⟨c2, f2⟩ := D2.c2
  dsimp only at c0 c1
  clear D2
  go_wp2_with fail
  exact bodyPost_ret (v := .agg #[.int .i64 row, .slice xa xm xc, .slice ua um uc]) (by simp [results, Try.results9, go_sem, z0, z1, z2]) rfl ⟨_, _, rfl, hR⟩
theorem szInt64S_any (a : Option Addr) (len cap : Nat) (left : Int) (w : World) (h : len ≤ 9223372036854775807) (h0 : 0 ≤ left) (h1 : left ≤ 1048576) :
    Calls Try.prog 22 #[.slice a len cap, .int .i64 left] w fun e w' => e = .returned (.int .i64 (if left - len < 0 then -1 else left - len)) ∧ w = w' := by
  by_cases hn : left - (len : Int) < 0
  · rw [if_pos hn]
    go_enter Try.func22, Try.ntmps22
    go_wp2_with fail
    go_ret
    exact ⟨rfl, rfl⟩
  · rw [if_neg hn]
    go_enter Try.func22, Try.ntmps22
    go_wp2_with fail
    go_ret
    exact ⟨rfl, rfl⟩
theorem szPatch_any (row left : Int) (ds vs : List Int) (dv vv : Value) (w : World) (hd : IR w dv ds) (hv : IR w vv vs) (h0 : 0 ≤ left) (h1 : left ≤ 1048576) :
    Calls Try.prog 6 #[.agg #[.int .i64 row, dv, vv], .int .i64 left] w fun e w' => ∃ x : Int, e = .returned (.int .i64 x) ∧ w.grownBy w' none ∧ (x < 0 ∨ (0 ≤ x ∧ (ds.length ≤ 1048576 ∧ vs.length ≤ 1048576))) := by
  obtain ⟨da, dc, rfl, dm⟩ := hd.form
  obtain ⟨va, vc, rfl, vm⟩ := hv.form
  have G0 := galloc (grefl w) (.cells #[.int .i64 row, .slice da ds.length dc, .slice va vs.length vc] 25)
  by_cases hn : left - (ds.length : Int) < 0
  · go_enter Try.func6, Try.ntmps6
    go_wp2_with fail
    go_fit (szInt64S_any _ _ _ _ _ dm h0 h1)
    rintro e w2 ⟨rfl, rfl⟩
    rw [if_pos (by omega)]
    go_wp2_with fail
    go_ret
    exact ⟨-1, rfl, G0, .inl (by omega)⟩
  by_cases hn2 : left - (ds.length : Int) - (vs.length : Int) < 0
  · go_enter Try.func6, Try.ntmps6
    go_wp2_with fail
    go_fit (szInt64S_any _ _ _ _ _ dm h0 h1)
    rintro e w2 ⟨rfl, rfl⟩
    rw [if_neg (by omega)]
    go_wp2_with fail
    go_fit (szInt64S_any _ _ _ _ _ vm (by omega) (by omega))
    rintro e w2 ⟨rfl, rfl⟩
    rw [if_pos (by omega)]
    go_wp2_with fail
    go_ret
    exact ⟨-1, rfl, G0, .inl (by omega)⟩
  go_enter Try.func6, Try.ntmps6
  go_wp2_with fail
  go_fit (szInt64S_any _ _ _ _ _ dm h0 h1)
  rintro e w2 ⟨rfl, rfl⟩
  rw [if_neg (by omega)]
  go_wp2_with fail
  go_fit (szInt64S_any _ _ _ _ _ vm (by omega) (by omega))
  rintro e w2 ⟨rfl, rfl⟩
  rw [if_neg (by omega)]
  go_wp2_with fail
  go_ret
  exact ⟨_, rfl, G0, .inr ⟨by omega, by omega, by omega⟩⟩
set_option maxHeartbeats 1000000 in
theorem eqPatch_yes (p : PZ) (dv vv du vu : Value) (w : World) (h1 : IR w dv p.ds) (h2 : IR w vv p.vs) (h3 : IR w du p.ds) (h4 : IR w vu p.vs) :
    Calls Try.prog 12 #[.agg #[.int .i64 p.row, dv, vv], .agg #[.int .i64 p.row, du, vu]] w (Pure (.bool true) w) := by
  obtain ⟨row, ds, vs⟩ := p
  dsimp only at *
  obtain ⟨da, dc, rfl, -⟩ := h1.form
  obtain ⟨va, vc, rfl, -⟩ := h2.form
  obtain ⟨ea, ec, rfl, -⟩ := h3.form
  obtain ⟨ua, uc, rfl, -⟩ := h4.form
  have g0 : w.grownBy ((w.alloc (.cells #[.int .i64 row, .slice da ds.length dc, .slice va vs.length vc] 31)).alloc (.cells #[.int .i64 row, .slice ea ds.length ec, .slice ua vs.length uc] 31)) none := galloc (galloc (grefl _) _) _
  have B1 : Box3 ((w.alloc (.cells #[.int .i64 row, .slice da ds.length dc, .slice va vs.length vc] 31)).alloc (.cells #[.int .i64 row, .slice ea ds.length ec, .slice ua vs.length uc] 31)) w.heap.size (.int .i64 row) (.slice da ds.length dc) (.slice va vs.length vc) := by simp [Box3, go_sem]
  have B2 : Box3 ((w.alloc (.cells #[.int .i64 row, .slice da ds.length dc, .slice va vs.length vc] 31)).alloc (.cells #[.int .i64 row, .slice ea ds.length ec, .slice ua vs.length uc] 31)) (w.heap.size + 1) (.int .i64 row) (.slice ea ds.length ec) (.slice ua vs.length uc) := by simp [Box3, go_sem]
  go_enter Try.func12, Try.ntmps12
  go_upto_region 1 with (fail)
  generalize (w.alloc (.cells #[.int .i64 row, .slice da ds.length dc, .slice va vs.length vc] 31)).alloc (.cells #[.int .i64 row, .slice ea ds.length ec, .slice ua vs.length uc] 31) = W0 at *
  have HB1 := Lib.hid B1
  have HB2 := Lib.hid B2
  obtain ⟨a0, a1, a2⟩ := B1
  obtain ⟨b0, b1, b2⟩ := B2
  go_wp2_with fail
  go_fit (eqInt64S_yes _ _ ds _ (h1.kept g0) (h3.kept g0))
  rintro e w1 ⟨rfl, g1⟩
  clear a0 a1 a2 b0 b1 b2
  obtain ⟨a0, a1, a2⟩ := HB1.out.kept g1
  obtain ⟨b0, b1, b2⟩ := HB2.out.kept g1
  go_wp2_with fail
  go_fit (eqInt64S_yes _ _ vs _ (h2.kept (gtrans g0 g1)) (h4.kept (gtrans g0 g1)))
  rintro e w2 ⟨rfl, g2⟩
  go_wp2_with fail
  go_ret
  exact ⟨rfl, gtrans (gtrans g0 g1) g2⟩
theorem markPatch_any (B : Nat) (row : Int) (ds vs : List Int) (dv vv : Value) (k : Int) (w : World) (h1 : IS w B dv ds) (h2 : IS w B vv vs) (ap : Apart dv vv) (ld : ds.length ≤ 1048576) (lv : vs.length ≤ 1048576) (h0 : 0 ≤ k) (hk : k ≤ 1099509000000) :
    Calls Try.prog 14 #[.agg #[.int .i64 row, dv, vv], .int .i64 k] w fun e w' => e = .returned (.int .i64 (k + ds.length + vs.length)) ∧ IS w' B dv (markI k ds.length) ∧ IS w' B vv (markI (k + ds.length) vs.length) ∧ Only (fun b => dv.ownBlock = some b ∨ vv.ownBlock = some b) w w' := by
  obtain ⟨da, dc, rfl, -⟩ := Own.form h1
  obtain ⟨va, vc, rfl, -⟩ := Own.form h2
  have G0 := galloc (grefl w) (.cells #[.int .i64 row, .slice da ds.length dc, .slice va vs.length vc] 31)
  have B0 := Box3.new w (.int .i64 row) (.slice da ds.length dc) (.slice va vs.length vc) 31
  have lb1 : (Value.slice da ds.length dc).ownBlock ≠ some w.heap.size := fun e => by have := (Own.lt h1 _ e).2; omega
  go_enter Try.func14, Try.ntmps14
  go_upto_region 1 with (fail)
  generalize w.alloc (.cells #[.int .i64 row, .slice da ds.length dc, .slice va vs.length vc] 31) = W0 at *
  generalize hbb : w.heap.size = bb at *
  have HB0 := Lib.hid B0
  obtain ⟨a0, a1, a2⟩ := B0
  go_wp2_with fail
  go_fit (markInt64S_any B _ ds k _ (Own.grew h1 G0) ld h0 (by omega))
  rintro e w1 ⟨rfl, s1, g1⟩
  clear a0 a1 a2
  have hne : (Value.slice da ds.length dc).ownBlock ≠ some bb := lb1
  obtain ⟨a0, a1, a2⟩ : Box3 w1 bb _ _ _ := ⟨(World.cell?_of_block (w := W0) (g1.block bb (cell_lt HB0.out.1) (by intro e; exact hne e.symm))).trans HB0.out.1, (World.cell?_of_block (w := W0) (g1.block bb (cell_lt HB0.out.1) (by intro e; exact hne e.symm))).trans HB0.out.2.1, (World.cell?_of_block (w := W0) (g1.block bb (cell_lt HB0.out.1) (by intro e; exact hne e.symm))).trans HB0.out.2.2⟩
  go_wp2_with fail
  go_fit (markInt64S_any B _ vs (k + ds.length) _ (Own.kept (Own.grew h2 G0) g1 ap.symm) lv (by omega) (by omega))
  rintro e w2 ⟨rfl, s2, g2⟩
  go_wp2_with fail
  go_ret
  exact ⟨rfl, Own.kept s1 g2 ap, s2, (Only.of (gweak G0 none) (fun _ e => by cases e)).trans ((Only.of g1 (fun j e => .inl e)).trans (Only.of g2 (fun j e => .inr e)))⟩
/-- what a law's drawn test holds on to -/
abbrev Pr3 (w' : World) (a : Nat) (x0 x1 x2 : Value) (b : Nat) (y0 y1 y2 : Value) : Prop := Box3 w' a x0 x1 x2 ∧ Box3 w' b y0 y1 y2
theorem Pr3.kept {w' w2 : World} {a b : Nat} {x0 x1 x2 y0 y1 y2 : Value} (h : Pr3 w' a x0 x1 x2 b y0 y1 y2) (g : w'.grownBy w2 none) : Pr3 w2 a x0 x1 x2 b y0 y1 y2 := ⟨h.1.kept g, h.2.kept g⟩
theorem Pr3.drew {w' : World} {a b : Nat} {x0 x1 x2 y0 y1 y2 : Value} (h : Pr3 w' a x0 x1 x2 b y0 y1 y2) : Pr3 w'.drew a x0 x1 x2 b y0 y1 y2 := h
section
variable {H : Type} {enc : TypeId × Value → H} {w : World} {base : Nat} {held : Bool}
theorem openPatch {r : Reach} {b0 : Nat} {v : Value} {d : DataW H} {p : List MemPlace} (hv : Value.okWide Try.prog w r b0 25 v) (h : DataW.Trod enc Try.prog w base (fun _ => true) held 25 v d p) :
    ∃ (z : PZ) (dv vv : Value), v = .agg #[.int .i64 z.row, dv, vv] ∧ i64B z.row ∧ IR w dv z.ds ∧ IR w vv z.vs := by
  obtain ⟨c0, c1, c2, y0, y1, y2, m, rfl, rfl, rfl, h0, h1, h2⟩ := open_agg3 Try.underlying25 (by kernel_rfl) (by kernel_rfl) hv h
  obtain ⟨n, e0, _, wn⟩ := DataW.trod_int Try.underlying2 h0
  obtain ⟨ka, km, kc, kl, rfl, hk⟩ := openIntsOf h1
  obtain ⟨na, nm, nc, nl, rfl, hn⟩ := openIntsOf h2
  simp at e0
  subst e0
  simp only [Lit.wf, Bool.and_eq_true, decide_eq_true_eq] at wn
  exact ⟨⟨n, kl, nl⟩, _, _, rfl, wn, hk, hn⟩
end
end Go.Proofs.Ytjhnoepllnifhaa
