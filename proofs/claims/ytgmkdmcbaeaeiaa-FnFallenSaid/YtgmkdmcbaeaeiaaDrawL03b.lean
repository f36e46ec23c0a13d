/- The drawn arguments of chapter 3. -/
import Derived.Test.YtgmkdmcbaeaeiaaDrawL03
namespace Go.Proofs.Ytgmkdmcbaeaeiaa
open Go.ChangeShapes Go.WideShapes Go.ChangeAt Go.RowKit

/-- a drawn disk in its box, beside a result variable that is still to be written -/
structure FnS (w W : World) (c b B : Nat) (d : DZ) (kv nv : Value) : Prop where
  box : DBox W b B d kv nv
  zero : Zero4 W w.heap.size
  cur : Cur W c
  grew : w.grownBy W none
  h1 : w.heap.size < c
  h2 : c < B
  h3 : c < b
section
variable {w W W' : World} {c b B : Nat} {d : DZ} {kv nv : Value}
theorem FnS.draw (h : FnS w W c b B d kv nv) (g : W.grownBy W' (some c)) (hc : Cur W' c) : FnS w W' c b B d kv nv := by
  have h1 := h.h1
  have h2 := h.h2
  have h3 := h.h3
  have hb : (some c : Option Nat) ≠ some b := by simp; omega
  exact ⟨⟨gkr g hb h.box.c0, gkr g hb h.box.c1, gkr g hb h.box.c2, gkr g hb h.box.c3, h.box.ks.kept g (.inr (not_own h.box.ks h2)), h.box.ns.kept g (.inr (not_own h.box.ns h2)), h.box.ap, h.box.kb, h.box.nb⟩, h.zero.kept g (by simp; omega), hc, gfresh h.grew (by omega) g, h1, h2, h3⟩
theorem FnS.kept (h : FnS w W c b B d kv nv) (g : W.grownBy W' none) : FnS w W' c b B d kv nv := ⟨h.box.kept g, h.zero.kept g (by simp), h.cur.grew g, gtrans h.grew g, h.h1, h.h2, h.h3⟩
theorem FnS.fin (h : FnS w W c b B d kv nv) (x0 x1 x2 x3 : Value) : IsD (set4 W w.heap.size x0 x1 x2 x3) w.heap.size kv nv d ∧ Apart kv nv ∧ w.grownBy (set4 W w.heap.size x0 x1 x2 x3) none := by
  have h1 := h.h1
  have h2 := h.h2
  exact ⟨⟨(h.box.ks.lower (by omega)).set4 (not_own h.box.ks (by omega)) _ _ _ _, (h.box.ns.lower (by omega)).set4 (not_own h.box.ns (by omega)) _ _ _ _⟩, h.box.ap, gset4 h.grew (Nat.le_refl _) _ _ _ _⟩
theorem FnS.b4 (h : FnS w W c b B d kv nv) : Box4 W b (.int .i64 d.n) (.bool d.dead) kv nv := ⟨h.box.c0.1, h.box.c1.1, h.box.c2.1, h.box.c3.1⟩
end
/-- a drawn disk -/
def DrawnD0 (w : World) (e : Ending) (w' : World) : Prop :=
  ∃ (d : DZ) (kv nv : Value), e = .returned (.agg #[.int .i64 d.n, .bool d.dead, kv, nv]) ∧ IsD w' w.heap.size kv nv d ∧ Apart kv nv ∧ d.k.length ≤ 6 ∧ d.m.length ≤ 6 ∧ w.grownBy w' none
def DrawnD1 (w : World) (e : Ending) (w' : World) : Prop :=
  ∃ (d : DZ) (kv nv : Value) (x : Int), e = .returned (.tuple #[.agg #[.int .i64 d.n, .bool d.dead, kv, nv], .int .i64 x]) ∧ IsD w' w.heap.size kv nv d ∧ Apart kv nv ∧ d.k.length ≤ 6 ∧ d.m.length ≤ 6 ∧ i64B x ∧ w.grownBy w' none
def DrawnD2 (w : World) (e : Ending) (w' : World) : Prop :=
  ∃ (d : DZ) (kv nv : Value) (x y : Int), e = .returned (.tuple #[.agg #[.int .i64 d.n, .bool d.dead, kv, nv], .int .i64 x, .int .i64 y]) ∧ IsD w' w.heap.size kv nv d ∧ Apart kv nv ∧ d.k.length ≤ 6 ∧ d.m.length ≤ 6 ∧ i64B x ∧ i64B y ∧ w.grownBy w' none
/-- the beginning of every one: the result variable, the cursor, the disk -/
theorem zeroed (w : World) (T : Nat) : Zero4 (w.alloc (.cells #[.int .i64 0, .bool false, .slice none 0 0, .slice none 0 0] T)) w.heap.size := ⟨by simp [At, go_sem], by simp [At, go_sem], by simp [At, go_sem], by simp [At, go_sem]⟩
/-- what the last region of a draw holds on to -/
abbrev RtS (w' : World) (b : Nat) (x0 x1 x2 x3 : Value) (r : Nat) : Prop := Box4 w' b x0 x1 x2 x3 ∧ Live w' r 0 ∧ Live w' r 1 ∧ Live w' r 2 ∧ Live w' r 3
section
variable {w' w2 : World} {b r c : Nat} {x0 x1 x2 x3 : Value}
theorem RtS.drew (h : RtS w' b x0 x1 x2 x3 r) : RtS w'.drew b x0 x1 x2 x3 r := h
theorem RtS.draw (h : RtS w' b x0 x1 x2 x3 r) (g : w'.grownBy w2 (some c)) (hb : b ≠ c) (hr : r ≠ c) : RtS w2 b x0 x1 x2 x3 r := by
  have hl := g.block b (cell_lt h.1.1) (by intro e; cases e; exact hb rfl)
  exact ⟨⟨(World.cell?_of_block (w := w') hl).trans h.1.1, (World.cell?_of_block (w := w') hl).trans h.1.2.1, (World.cell?_of_block (w := w') hl).trans h.1.2.2.1, (World.cell?_of_block (w := w') hl).trans h.1.2.2.2⟩, h.2.1.kept1 hr g, h.2.2.1.kept1 hr g, h.2.2.2.1.kept1 hr g, h.2.2.2.2.kept1 hr g⟩
theorem RtS.set (h : RtS w' b x0 x1 x2 x3 r) (hr : r ≠ b) (y0 y1 y2 y3 : Value) : RtS ((((w'.setCell ⟨r, 0, none⟩ y0).setCell ⟨r, 1, none⟩ y1).setCell ⟨r, 2, none⟩ y2).setCell ⟨r, 3, none⟩ y3) b x0 x1 x2 x3 r := by
  have hn : ∀ (W : World) (p q : Nat) (x : Value), (W.setCell ⟨r, p, none⟩ x).cell? ⟨b, q, none⟩ = W.cell? ⟨b, q, none⟩ := fun W p q x => World.cell?_setCell_other W _ _ x (fun e => hr (by cases e; rfl))
  exact ⟨⟨by rw [hn, hn, hn, hn]; exact h.1.1, by rw [hn, hn, hn, hn]; exact h.1.2.1, by rw [hn, hn, hn, hn]; exact h.1.2.2.1, by rw [hn, hn, hn, hn]; exact h.1.2.2.2⟩, (((h.2.1.set _).set _).set _).set _, (((h.2.2.1.set _).set _).set _).set _, (((h.2.2.2.1.set _).set _).set _).set _, (((h.2.2.2.2.set _).set _).set _).set _⟩
end
theorem Zero4.rt {W : World} {r b : Nat} {x0 x1 x2 x3 : Value} (z : Zero4 W r) (h : Box4 W b x0 x1 x2 x3) : RtS W b x0 x1 x2 x3 r := ⟨h, z.c0.live, z.c1.live, z.c2.live, z.c3.live⟩
set_option maxHeartbeats 2000000 in
theorem drawRead_any (a : Option Addr) (len cap : Nat) (w : World) (hR : CodeAt w a len) :
    Calls Try.prog 17 #[.slice a len cap] w (DrawnD1 w) := by
  have Z0 := zeroed w 26
  have g0 := galloc (grefl w) (.cells #[.int .i64 0, .bool false, .slice none 0 0, .slice none 0 0] 26)
  have hR0 := hR.kept (gbelow g0)
  go_enter Try.func17, Try.ntmps17
  go_wp2_with fail
  refine (l1New_any a len cap _ hR0).mono ?_
  rintro e w1 ⟨c, rfl, hlt, hc1, g1⟩
  have Z1 := Z0.kept g1 (by simp)
  have G1 := gtrans g0 g1
  have hcr : w.heap.size < c := by simp at hlt; omega
  have hc9 := hc1.lt
  clear hR0 Z0 g0 g1 hlt
  go_wp2_with fail
  refine (l3Draw_any c _ hc1).mono ?_
  rintro e w2 ⟨d, kv, nv, rfl, hd, ap, M1, M2, hc2, g2⟩
  have D2 := DBox.boxed hd ap 26
  have e2 := galloc (grefl w2) (.cells #[.int .i64 d.n, .bool d.dead, kv, nv] 26)
  have s2 := g2.size
  have R2 : FnS w _ c _ _ d kv nv := ⟨D2, (Z1.kept g2 (by simp; omega)).kept e2 (by simp), hc2.grew e2, gtrans (gfresh G1 (by omega) g2) e2, hcr, hc9, by omega⟩
  obtain ⟨ka, km, kc, rfl⟩ := hd.1.sl
  obtain ⟨na, nm, nc, rfl⟩ := hd.2.sl
  clear D2 Z1 G1 hc1 hc2 g2 e2 hd ap
  go_upto_region 3 with (fail)
  generalize w2.alloc (.cells #[.int .i64 d.n, .bool d.dead, .slice ka km kc, .slice na nm nc] 26) = W2 at *
  have hbc : w2.heap.size ≠ c := by omega
  have hrb : w.heap.size ≠ w2.heap.size := by omega
  have hrc : w.heap.size ≠ c := by omega
  generalize w2.heap.size = b at *
  have S0 : RtS W2 b _ _ _ _ w.heap.size := R2.zero.rt R2.b4
  go_region_held3 (fun w' => RtS w' b (.int .i64 d.n) (.bool d.dead) (.slice ka km kc) (.slice na nm nc) w.heap.size) (first | assumption | exact S0.drew | exact RtS.draw ‹RtS _ b _ _ _ _ w.heap.size› ‹World.grownBy _ _ (some c)› hbc hrc | exact RtS.set ‹RtS _ b _ _ _ _ w.heap.size› hrb _ _ _ _) (first | (go_at_call 42; refine (l1DrawPlace_any c _ (R2.kept (gdrew (grefl _) 1)).cur).mono ?_; rintro e w8 ⟨x, bx, rfl, hc8, g8⟩))
  have R8 := (R2.kept (gdrew (grefl _) 1)).draw g8 hc8
  have hfin := R8.fin (.int .i64 d.n) (.bool d.dead) (.slice ka km kc) (.slice na nm nc)
  obtain ⟨⟨z0, y0⟩, ⟨z1, y1⟩, ⟨z2, y2⟩, ⟨z3, y3⟩⟩ := R8.zero
  go_wp2_with fail
  exact bodyPost_ret (v := .tuple #[.agg #[.int .i64 d.n, .bool d.dead, .slice ka km kc, .slice na nm nc], .int .i64 x]) (by simp [results, Try.results17, go_sem, z0, z1, z2, z3]) rfl ⟨d, _, _, x, rfl, hfin.1, hfin.2.1, M1, M2, bx, hfin.2.2⟩
end Go.Proofs.Ytgmkdmcbaeaeiaa
