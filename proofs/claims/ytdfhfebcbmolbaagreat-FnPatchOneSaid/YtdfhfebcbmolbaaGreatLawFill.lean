/- What the laws fill: an array in which some places were written, and the list of what they hold. -/
import Derived.Test.YtdfhfebcbmolbaaGreatMathHurt
import Derived.Deep.Slices
import Derived.Deep.Fields
namespace Go.Proofs.YtdfhfebcbmolbaaGreat
open Go.ChangeShapes Go.WideShapes Go.ChangeAt Go.RowKit
attribute [local go_sem] str_list str_size str_add lit_list0 add_lit lit_add str_cut

theorem only_set5' (w : World) (r : Nat) (x0 x1 x2 x3 x4 : Value) {S : Nat → Prop} (hr : S r) : Only S w (set5 w r x0 x1 x2 x3 x4) :=
  Only.of (gset (gset (gset (gset (gset (World.grownBy.refl w (some r)) _ _) _ _) _ _) _ _) _ _) (fun k e => by cases e; exact hr)
theorem Five.all {w : World} {b : Nat} {x0 x1 x2 x3 x4 : Value} (h : Five w b x0 x1 x2 x3 x4) (y0 y1 y2 y3 y4 : Value) : Five (set5 w b y0 y1 y2 y3 y4) b y0 y1 y2 y3 y4 :=
  ⟨((((h.c0.same _).other (by simp) _).other (by simp) _).other (by simp) _).other (by simp) _,
    ((((h.c1.other (by simp) _).same _).other (by simp) _).other (by simp) _).other (by simp) _,
    ((((h.c2.other (by simp) _).other (by simp) _).same _).other (by simp) _).other (by simp) _,
    ((((h.c3.other (by simp) _).other (by simp) _).other (by simp) _).same _).other (by simp) _,
    ((((h.c4.other (by simp) _).other (by simp) _).other (by simp) _).other (by simp) _).same _⟩
theorem Five.far {w : World} {b c o : Nat} {x0 x1 x2 x3 x4 : Value} (h : Five w b x0 x1 x2 x3 x4) (hc : c ≠ b) (u : Value) : Five (w.setCell ⟨c, o, none⟩ u) b x0 x1 x2 x3 x4 :=
  ⟨h.c0.other (by intro e; cases e; exact hc rfl) u, h.c1.other (by intro e; cases e; exact hc rfl) u, h.c2.other (by intro e; cases e; exact hc rfl) u, h.c3.other (by intro e; cases e; exact hc rfl) u, h.c4.other (by intro e; cases e; exact hc rfl) u⟩
theorem Five.box {w : World} {b : Nat} {x0 x1 x2 x3 x4 : Value} (h : Five w b x0 x1 x2 x3 x4) : Box5 w b x0 x1 x2 x3 x4 := ⟨h.c0.1, h.c1.1, h.c2.1, h.c3.1, h.c4.1⟩
/-- on the way: the array lies in box b, what its places hold in block q, the result variable is r -/
structure FillS (w wr : World) (b q r m : Nat) (A : AZ) (p : List Int) (v : Value) (raw : List DV) : Prop where
  five : Five wr b v (.string (str A.log)) (.string (str A.next)) (.int .i64 A.stage) (.bool A.up)
  od : OD wr (r + 1) v A.ds raw
  nb : v.ownBlock ≠ some b ∧ ∀ i (h : i < raw.length), ¬ raw[i].has b
  nq : v.ownBlock ≠ some q ∧ ∀ i (h : i < raw.length), ¬ raw[i].has q
  is : IS wr (r + 1) (.slice (some ⟨q, 0, none⟩) m m) p
  zero : Zero5 wr r
  grew : w.grownBy wr none
section
variable {w wr w8 : World} {b q r m : Nat} {A A' : AZ} {p : List Int} {v v8 : Value} {raw raw8 : List DV}
theorem FillS.kept (h : FillS w wr b q r m A p v raw) (g : wr.grownBy w8 none) : FillS w w8 b q r m A p v raw :=
  ⟨h.five.kept g, h.od.grew g, h.nb, h.nq, Own.grew h.is g, h.zero.kept g (by simp), gtrans h.grew g⟩
theorem FillS.call (h : FillS w wr b q r m A p v raw) (g : wr.grownBy w8 none) (o : OD w8 wr.heap.size v8 A'.ds raw8) (hq : q < wr.heap.size) (hbq : b ≠ q) (hbr : r < b) (hw : w.heap.size ≤ b) :
    FillS w (set5 w8 b v8 (.string (str A'.log)) (.string (str A'.next)) (.int .i64 A'.stage) (.bool A'.up)) b q r m A' p v8 raw8 := by
  have h8 := h.kept g
  have hb : b < wr.heap.size := cell_lt h.five.c0.1
  obtain ⟨n1, n2⟩ := o.not_old hb
  obtain ⟨k1, k2⟩ := o.not_old hq
  have hs : (Value.slice (some ⟨q, 0, none⟩) m m).ownBlock ≠ some b := by simp [Value.ownBlock]; omega
  have hbr' : b ≠ r := by omega
  exact ⟨h8.five.all _ _ _ _ _, (o.set5 n1 n2 _ _ _ _ _).lower (by omega), ⟨n1, n2⟩, ⟨k1, k2⟩, Own.other (Own.other (Own.other (Own.other (Own.other h8.is hs _) hs _) hs _) hs _) hs _,
    ((((h8.zero.far hbr' _).far hbr' _).far hbr' _).far hbr' _).far hbr' _, gset5 h8.grew hw _ _ _ _ _⟩
theorem FillS.put (h : FillS w wr b q r m A p v raw) (i : Nat) (x : Int) (hbq : b ≠ q) (hqr : q ≠ r) (hw : w.heap.size ≤ q) : FillS w (wr.setCell ⟨q, i, none⟩ (.int .i64 x)) b q r m A (p.set i x) v raw :=
  ⟨h.five.far (Ne.symm hbq) _, h.od.far h.nq.1 h.nq.2 _, h.nb, h.nq, IS.set h.is i x, h.zero.far hqr _, gset1 h.grew hw _ _⟩
end
theorem specNewArray_z (n rows : Nat) (Z : AZ) (w : World) (hZ : Z = AZ.fresh (newDs rows n)) (hn : inB n 3 5 = true) (hr : inB rows 1 16 = true) :
    Calls Tryz.prog 29 #[.int .i64 n, .int .i64 rows] w fun e w' => ∃ v raw, e = .returned (.tuple #[Z.val v, .bool true]) ∧ OD w' w.heap.size v Z.ds raw ∧ w.grownBy w' none := by
  subst hZ; exact specNewArray_yes n rows w hn hr
theorem new_held_z {n rows : Nat} {Z : AZ} (hZ : Z = AZ.fresh (newDs rows n)) (hn : inB n 3 5 = true) (hr : inB rows 1 16 = true) : Held Z (fun _ _ => 0) (List.replicate ((n - 1) * rows) 0) ∧ NoBad Z.ds := by
  subst hZ; exact new_held hn hr
theorem ir_older {w : World} {v : Value} {l : List Int} (h : IR w v l) (hl : 1 ≤ l.length) (k : Nat) (hk : v.ownBlock = some k) : k < w.heap.size := by
  obtain ⟨a, c, rfl, -⟩ := h.form
  obtain ⟨g, o, rfl, hc⟩ := h.at 0 (by omega)
  simp only [Value.ownBlock, Option.some.injEq] at hk
  subst hk; exact cell_lt hc
/-- another array comes into the box -/
theorem hurt_put {w W w8 : World} {b B : Nat} {x0 x1 x2 x3 x4 : Value} {A1 : AZ} {v1 vp : Value} {raw : List DV} {p : List Int} (f : Five W b x0 x1 x2 x3 x4) (g : W.grownBy w8 none) (o : OD w8 B v1 A1.ds raw) (hb : b < B) (ip : IR W vp p) (hp : ∀ k, vp.ownBlock = some k → k < b) (G : w.grownBy W none) (hw : w.heap.size ≤ b) :
    Box5 (set5 w8 b v1 (.string (str A1.log)) (.string (str A1.next)) (.int .i64 A1.stage) (.bool A1.up)) b v1 (.string (str A1.log)) (.string (str A1.next)) (.int .i64 A1.stage) (.bool A1.up) ∧
    LD (set5 w8 b v1 (.string (str A1.log)) (.string (str A1.next)) (.int .i64 A1.stage) (.bool A1.up)) v1 A1.ds ∧
    IR (set5 w8 b v1 (.string (str A1.log)) (.string (str A1.next)) (.int .i64 A1.stage) (.bool A1.up)) vp p ∧
    w.grownBy (set5 w8 b v1 (.string (str A1.log)) (.string (str A1.next)) (.int .i64 A1.stage) (.bool A1.up)) none := by
  obtain ⟨n1, n2⟩ := o.not_old hb
  refine ⟨((f.kept g).all _ _ _ _ _).box, (o.set5 n1 n2 _ _ _ _ _).ld, ?_, gset5 (gtrans G g) hw _ _ _ _ _⟩
  exact Rd.only (ip.kept g) (only_set5' w8 b _ _ _ _ _ (S := fun k => k = b) rfl) (fun k hk e => by have := hp k hk; omega)
/-- an array that was filled, and what its places hold -/
def GotF (w : World) (e : Ending) (w' : World) : Prop := ∃ (a : AZ) (F : Int → Nat → Int) (p : List Int) (va vp : Value), e = .returned (.tuple #[a.val va, vp]) ∧ Hid (Held a F p ∧ NoBad a.ds) ∧ 1 ≤ p.length ∧ p.length ≤ 100 ∧ LD w' va a.ds ∧ IR w' vp p ∧ w.grownBy w' none
theorem held_sizes {a : AZ} {F : Int → Nat → Int} {p : List Int} (h : Held a F p) : a.log.length ≤ 1100000 ∧ a.next.length ≤ 1100000 := by
  rw [h.log, h.next]; simp
set_option maxRecDepth 8000 in
set_option maxHeartbeats 8000000 in
theorem filled_any (a : Option Addr) (len cap : Nat) (w : World) (hR : CodeAt w a len) :
    Calls Tryz.prog 9 #[.slice a len cap] w (GotF w) := by
  have Z0 := Zero5.new w
  have e0 := galloc (grefl w) zero5
  have s0 : (w.alloc zero5).heap.size = w.heap.size + 1 := by simp
  have hR0 := hR.kept (gbelow e0)
  go_enter Tryz.func9, Tryz.ntmps9
  go_upto_region 1 with (fail)
  generalize w.alloc zero5 = W0 at *
  go_wp2_with fail
  go_fit (pick_any a len cap _ _ _ hR0 (by omega) (by omega) (by omega) (by omega))
  rintro e w' ⟨x, x0, x1, rfl, rfl⟩
  go_upto_region 2 with (fail)
  have hx3 : 3 ≤ 3 + x ∧ 3 + x ≤ 5 := by omega
  generalize 3 + x = n at *
  clear x0 x1
  obtain ⟨n, rfl⟩ := Int.eq_ofNat_of_zero_le (show 0 ≤ n by omega)
  go_wp2_with fail
  go_fit (pick_any a len cap _ _ _ hR0 (by omega) (by omega) (by omega) (by omega))
  rintro e w' ⟨y, y0, y1, rfl, rfl⟩
  go_upto_region 3 with (fail)
  have hy3 : 1 ≤ 1 + y ∧ 1 + y ≤ 5 := by omega
  generalize 1 + y = rows at *
  clear y0 y1
  obtain ⟨rows, rfl⟩ := Int.eq_ofNat_of_zero_le (show 0 ≤ rows by omega)
  have hnn : inB n 3 5 = true := inB_yes (by omega) (by omega)
  have hrr : inB rows 1 16 = true := inB_yes (by omega) (by omega)
  obtain ⟨Z, hZ⟩ : ∃ Z, Z = AZ.fresh (newDs rows n) := ⟨_, rfl⟩
  have HZ := Lib.hid hZ
  have HN := Lib.hid (new_held_z hZ hnn hrr)
  clear hZ
  obtain ⟨m, hm0, hm1, hmul⟩ : ∃ m : Nat, 1 ≤ m ∧ m ≤ 20 ∧ ((n : Int) - 1) * (rows : Int) = m := by
    have : n = 3 ∨ n = 4 ∨ n = 5 := by omega
    rcases this with rfl | rfl | rfl
    · exact ⟨2 * rows, by omega, by omega, by omega⟩
    · exact ⟨3 * rows, by omega, by omega, by omega⟩
    · exact ⟨4 * rows, by omega, by omega, by omega⟩
  have hmn : (n - 1) * rows = m := by
    have : n = 3 ∨ n = 4 ∨ n = 5 := by omega
    rcases this with rfl | rfl | rfl <;> omega
  rw [hmn] at HN
  go_wp2_with fail
  go_fit (specNewArray_z n rows Z _ HZ.out hnn hrr)
  rintro e w1 ⟨v, raw, rfl, o1, g1⟩
  obtain ⟨va, vn, vc, rfl⟩ := o1.own.sl
  have hs1 := g1.size
  have F2 := Five.new w1 (.slice va vn vc) (.string (str Z.log)) (.string (str Z.next)) (.int .i64 Z.stage) (.bool Z.up) 29
  have e2 := galloc (grefl w1) (.cells #[.slice va vn vc, .string (str Z.log), .string (str Z.next), .int .i64 Z.stage, .bool Z.up] 29)
  have Z2 := (Z0.kept g1 (by simp)).kept e2 (by simp)
  have O2 := o1.grew e2
  have G2 := gtrans (gtrans e0 g1) e2
  have N2 : (∀ i (hi : i < raw.length) k, raw[i].has k → k < w1.heap.size) ∧ ∀ k, (Value.slice va vn vc).ownBlock = some k → k < w1.heap.size := ⟨fun i hi k hk => (o1.in i hi k hk).2, fun k hk => (o1.own.lt k hk).2⟩
  have hs2 : (w1.alloc (.cells #[.slice va vn vc, .string (str Z.log), .string (str Z.next), .int .i64 Z.stage, .bool Z.up] 29)).heap.size = w1.heap.size + 1 := by simp
  clear Z0 e0 g1 e2 o1
  go_upto_region 4 with (fail)
  generalize w1.alloc (.cells #[.slice va vn vc, .string (str Z.log), .string (str Z.next), .int .i64 Z.stage, .bool Z.up] 29) = W2 at *
  have hmk := make_ints m (by omega)
  have I3 := IS.made W2 m (by omega) (base := w.heap.size + 1) (by omega)
  have e3 := galloc (grefl W2) (.cells (zeroI m) 2)
  have hs3 : (W2.alloc (.cells (zeroI m) 2)).heap.size = W2.heap.size + 1 := by simp
  have S3 : FillS w (W2.alloc (.cells (zeroI m) 2)) w1.heap.size W2.heap.size w.heap.size m Z (List.replicate m 0) (.slice va vn vc) raw :=
    ⟨F2.kept e3, (O2.lower (by omega)).grew e3, ⟨fun e => by have := N2.2 _ e; omega, fun i hi e => by have := N2.1 i hi _ e; omega⟩, ⟨fun e => by have := N2.2 _ e; omega, fun i hi e => by have := N2.1 i hi _ e; omega⟩, I3, Z2.kept e3 (by simp), gtrans G2 e3⟩
  clear F2 O2 I3 Z2 N2 e3
  go_upto_region 5 with (fail)
  generalize hq : W2.heap.size = q at *
  generalize W2.alloc (.cells (zeroI m) 2) = W3 at *
  generalize w1.heap.size = b at *
  obtain rfl : q = b + 1 := by omega
  clear hmk
  go_wp2_with fail
  go_loopw [9] (fun i wr => ∃ (k : Nat) (A : AZ) (F : Int → Nat → Int) (p : List Int) (v : Value) (raw : List DV), k ≤ 12 ∧ i = .int .i64 k ∧ Hid (Held A F p ∧ NoBad A.ds) ∧ Hid (p.length = m) ∧ FillS w wr b (b + 1) w.heap.size m A p v raw ∧ b + 1 < wr.heap.size) (fun i _ => 12 - (intOf i).toNat)
  case atStart => exact ⟨0, _, _, _, _, _, by omega, rfl, HN.out, by show _ = _; simp, S3, by omega⟩
  case round =>
    clear S3
    obtain ⟨k, A, F, p, v, raw, hk, rfl, HA, HP, S, hqr⟩ := hrel
    have hRr := hR.kept (gbelow S.grew)
    go_wp2_with fail
    go_fit (pick_any a len cap _ _ _ hRr (by omega) (by omega) (by omega) (by omega))
    rintro e w' ⟨t, t0, t1, rfl, rfl⟩
    by_cases hlt : (k : Int) < t
    · go_wp2_with fail
      go_fit (pick_any a len cap _ _ _ hRr (by omega) (by omega) (by omega) (by omega))
      rintro e w' ⟨l, l0, l1, rfl, rfl⟩
      obtain ⟨l, rfl⟩ := Int.eq_ofNat_of_zero_le l0
      have hlm : l < m := by omega
      go_wp2_with fail
      go_fit (pick_any a len cap _ _ _ hRr (by omega) (by omega) (by omega) (by omega))
      rintro e w' ⟨x, x0, x1, rfl, rfl⟩
      obtain ⟨xa, xc, rfl, -⟩ := S.od.form
      obtain ⟨k0, k1, k2, k3, k4⟩ := S.five.box
      have LA := S.od.ld
      have HWr : Hid (∃ F', Held (A.written l x) F' (p.set l x) ∧ NoBad (A.written l x).ds) := by
        obtain ⟨F', h1, h2⟩ := HA.out.1.write (i := l) (by rw [HP.out]; exact hlm) (v := x) (by unfold okv; exact inB_yes (by omega) (by omega))
        exact ⟨F', h1, h2 HA.out.2⟩
      have HZ : Hid (writtenZ A l x = A.written l x) := by show _ = _; unfold writtenZ; rw [if_pos HA.out.1.ok]
      obtain ⟨hz1, hz2⟩ := held_sizes HA.out.1
      have hk12 : k < 12 := by omega
      clear t0 t1 hlt l0
      go_wp2_with fail
      go_fit (specWriteArray_any _ A l x _ LA hz1 hz2)
      rintro e w8 ⟨v8, raw8, rfl, o8, g8⟩
      rw [HZ.out] at o8 ⊢
      generalize A.written l x = A8 at *
      obtain ⟨ya, yc, rfl, -⟩ := o8.form
      have S8 := S.call g8 o8 hqr (by omega) (by omega) (by omega)
      have S9 := S8.put l x (by omega) (by omega) (by omega)
      obtain ⟨F', hF⟩ := HWr.out
      have HF := Lib.hid hF
      have hs8 := g8.size
      obtain ⟨f0, f1, f2, f3, f4⟩ : w8.frozen? ⟨b, 0, none⟩ = false ∧ w8.frozen? ⟨b, 1, none⟩ = false ∧ w8.frozen? ⟨b, 2, none⟩ = false ∧ w8.frozen? ⟨b, 3, none⟩ = false ∧ w8.frozen? ⟨b, 4, none⟩ = false :=
        ⟨(S.five.kept g8).c0.2, (S.five.kept g8).c1.2, (S.five.kept g8).c2.2, (S.five.kept g8).c3.2, (S.five.kept g8).c4.2⟩
      obtain ⟨h0, h1, h2, h3, h4⟩ := (S.five.kept g8).box
      obtain ⟨g, eg, -, -, hc, hfz⟩ := IS.at (S8.is) l (by rw [HP.out]; exact hlm)
      cases eg
      have hsz : (set5 w8 b (.slice ya A8.ds.length yc) (.string (str A8.log)) (.string (str A8.next)) (.int .i64 A8.stage) (.bool A8.up)).heap.size = w8.heap.size := by simp [set5, World.setCell]
      have hSp : Hid ((p.set l x).length = m) := by show _ = _; rw [List.length_set]; exact HP.out
      clear k0 k1 k2 k3 k4 LA S o8 hF HWr HZ
      unfold set5 at S9 hc hfz hsz
      clear S8
      go_upto_region 11 with (fail)
      generalize ((((w8.setCell ⟨b, 0, none⟩ (.slice ya A8.ds.length yc)).setCell ⟨b, 1, none⟩ (.string (str A8.log))).setCell ⟨b, 2, none⟩ (.string (str A8.next))).setCell ⟨b, 3, none⟩ (.int .i64 A8.stage)).setCell ⟨b, 4, none⟩ (.bool A8.up) = W9 at *
      have hli : (l : Int) < m := by omega
      clear f0 f1 f2 f3 f4 h0 h1 h2 h3 h4
      go_wp2_with fail
      go_roundw
      case rel => exact ⟨k + 1, _, F', _, _, raw8, by omega, by go_num, HF.out, hSp.out, S9, by simp [World.setCell]; omega⟩
      case measure => simp [intOf]; omega
    · obtain ⟨xa, xc, rfl, -⟩ := S.od.form
      obtain ⟨k0, k1, k2, k3, k4⟩ := S.five.box
      obtain ⟨⟨z0, y0⟩, ⟨z1, y1⟩, ⟨z2, y2⟩, ⟨z3, y3⟩, ⟨z4, y4⟩⟩ := S.zero
      obtain ⟨n1, n2⟩ := S.od.not_old (r := w.heap.size) (by omega)
      have hLD := (S.od.set5 n1 n2 (.slice xa A.ds.length xc) (.string (str A.log)) (.string (str A.next)) (.int .i64 A.stage) (.bool A.up)).ld
      have hs : (Value.slice (some ⟨b + 1, 0, none⟩) m m).ownBlock ≠ some w.heap.size := by simp [Value.ownBlock]; omega
      have hIS := Own.rd (Own.other (Own.other (Own.other (Own.other (Own.other S.is hs (.slice xa A.ds.length xc) (o := 0)) hs (.string (str A.log)) (o := 1)) hs (.string (str A.next)) (o := 2)) hs (.int .i64 A.stage) (o := 3)) hs (.bool A.up) (o := 4))
      have hG := gset5 S.grew (Nat.le_refl w.heap.size) (.slice xa A.ds.length xc) (.string (str A.log)) (.string (str A.next)) (.int .i64 A.stage) (.bool A.up)
      go_wp2_with fail
      exact bodyPost_ret (v := .tuple #[A.val (.slice xa A.ds.length xc), .slice (some ⟨b + 1, 0, none⟩) m m]) (by simp [results, Tryz.results9, go_sem, z0, z1, z2, z3, z4]) rfl ⟨A, F, p, _, _, rfl, HA, by rw [HP.out]; exact hm0, by rw [HP.out]; omega, hLD, hIS, hG⟩
end Go.Proofs.YtdfhfebcbmolbaaGreat
