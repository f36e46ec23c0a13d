/- Worlds that only grew: nothing that was there has changed. -/
import Derived.Test.YtfodjokcobljmaaGreatDraw
import Derived.Deep.Quiet
import Derived.BigQuiet
namespace Go.Proofs.YtfodjokcobljmaaGreat
open Go.ChangeShapes Go.WideShapes Go.ChangeAt Go.RowKit

theorem grefl (w : World) : w.grownBy w none := World.grownBy.refl w none
theorem gsetN {a w : World} (h : a.grownBy w none) {c : Nat} (hc : a.heap.size ≤ c) (o : Nat) (v : Value) : a.grownBy (w.setCell ⟨c, o, none⟩ v) none :=
  ⟨h.os, h.tape, h.output, by simpa [World.setCell] using h.size, fun i hi hne => (Below.heap_setCell w _ v i (by
    intro e; simp at e; omega)).trans (h.block i hi hne)⟩
theorem gcell {W w1 : World} (hg : W.grownBy w1 none) : (∀ b o, b < W.heap.size → w1.cell? ⟨b, o, none⟩ = W.cell? ⟨b, o, none⟩) ∧ (∀ b o, b < W.heap.size → w1.frozen? ⟨b, o, none⟩ = W.frozen? ⟨b, o, none⟩) :=
  ⟨fun b o h => (gbelow hg).cell (p := ⟨b, o, none⟩) h, fun b o h => (gbelow hg).frozen (p := ⟨b, o, none⟩) h⟩
theorem gsize {W w1 : World} {r : Option Nat} (hg : W.grownBy w1 r) : W.heap.size ≤ w1.heap.size := hg.size
/-- a cell that holds v and may be written -/
def At (w : World) (b o : Nat) (v : Value) : Prop := w.cell? ⟨b, o, none⟩ = some v ∧ w.frozen? ⟨b, o, none⟩ = false
theorem cell_lt {w : World} {b o : Nat} {v : Value} (h : w.cell? ⟨b, o, none⟩ = some v) : b < w.heap.size := by
  apply Classical.byContradiction; intro hn
  simp [World.cell?, Array.getElem?_eq_none (Nat.le_of_not_lt hn)] at h
theorem gkc {W w1 : World} (hg : W.grownBy w1 none) {b o : Nat} {v : Value} (h : W.cell? ⟨b, o, none⟩ = some v) : w1.cell? ⟨b, o, none⟩ = some v :=
  ((gcell hg).1 b o (cell_lt h)).trans h
theorem gk {W w1 : World} (hg : W.grownBy w1 none) {b o : Nat} {v : Value} (h : At W b o v) : At w1 b o v :=
  ⟨gkc hg h.1, ((gcell hg).2 b o (cell_lt h.1)).trans h.2⟩
/-- a function that answers v and changes nothing that was there -/
def Pure (v : Value) (w : World) (e : Ending) (w' : World) : Prop := e = .returned v ∧ w.grownBy w' none
theorem gk1 {W w1 : World} {c : Nat} (hg : W.grownBy w1 (some c)) {b o : Nat} {v : Value} (hb : b ≠ c) (h : At W b o v) : At w1 b o v := by
  have hl := hg.block b (cell_lt h.1) (by intro e; cases e; exact hb rfl)
  exact ⟨(World.cell?_of_block (w := W) hl).trans h.1, (World.frozen?_of_block (w := W) hl).trans h.2⟩
/-- a block of two integers (a cell, as a local variable holds it) -/
def Two (w : World) (b : Nat) (v s : Int) : Prop := At w b 0 (.int .i64 v) ∧ At w b 1 (.int .i64 s)
theorem Two.new (w : World) (v s : Int) (T : Nat) : Two (w.alloc (.cells #[.int .i64 v, .int .i64 s] T)) w.heap.size v s := by
  simp [Two, At, go_sem]
theorem Two.kept {W w1 : World} {b : Nat} {v s : Int} (h : Two W b v s) (hg : W.grownBy w1 none) : Two w1 b v s := ⟨gk hg h.1, gk hg h.2⟩
theorem Two.kept1 {W w1 : World} {b c : Nat} {v s : Int} (h : Two W b v s) (hb : b ≠ c) (hg : W.grownBy w1 (some c)) : Two w1 b v s := ⟨gk1 hg hb h.1, gk1 hg hb h.2⟩
theorem Two.alloc {W : World} {b : Nat} {v s : Int} (h : Two W b v s) (o : Obj) : Two (W.alloc o) b v s := h.kept (galloc (grefl _) o)
theorem Two.lt {W : World} {b : Nat} {v s : Int} (h : Two W b v s) : b < W.heap.size := cell_lt h.1.1
theorem Cur.grew {w w' : World} {c : Nat} (h : Cur w c) (hg : w.grownBy w' none) : Cur w' c := h.kept hg (by simp)
theorem gweak {a b : World} (h : a.grownBy b none) (r : Option Nat) : a.grownBy b r := ⟨h.os, h.tape, h.output, h.size, fun i hi _ => h.block i hi (by simp)⟩
/-- writing into a block that is new -/
theorem gset1 {a w : World} {r : Option Nat} (h : a.grownBy w r) {c : Nat} (hc : a.heap.size ≤ c) (o : Nat) (v : Value) : a.grownBy (w.setCell ⟨c, o, none⟩ v) r :=
  ⟨h.os, h.tape, h.output, by simpa [World.setCell] using h.size, fun i hi hne => (Below.heap_setCell w _ v i (by
    intro e; simp at e; omega)).trans (h.block i hi hne)⟩
/-- what a cell holds, as a function of the world: for a cell that a drawn region writes -/
def valAt (w : World) (b o : Nat) : Value := (w.cell? ⟨b, o, none⟩).getD undef
/-- a cell that is there and may be written, whatever it holds -/
abbrev Live (w : World) (b o : Nat) : Prop := w.cell? ⟨b, o, none⟩ = some (valAt w b o) ∧ w.frozen? ⟨b, o, none⟩ = false
/-- a block of two integers, its four facts laid open -/
abbrev TwoR (w : World) (b : Nat) (v s : Int) : Prop := w.cell? ⟨b, 0, none⟩ = some (.int .i64 v) ∧ w.cell? ⟨b, 1, none⟩ = some (.int .i64 s)
theorem At.live {w : World} {b o : Nat} {v : Value} (h : At w b o v) : Live w b o := ⟨by rw [h.1]; simp [valAt, h.1], h.2⟩
theorem Two.r {w : World} {b : Nat} {v s : Int} (h : Two w b v s) : TwoR w b v s := ⟨h.1.1, h.2.1⟩
theorem TwoR.kept {W w1 : World} {b : Nat} {v s : Int} (h : TwoR W b v s) (hg : W.grownBy w1 none) : TwoR w1 b v s := ⟨gkc hg h.1, gkc hg h.2⟩
theorem Live.at {w : World} {b o : Nat} (h : Live w b o) : At w b o (valAt w b o) := h
theorem Live.kept1 {W w1 : World} {b o c : Nat} (h : Live W b o) (hb : b ≠ c) (hg : W.grownBy w1 (some c)) : Live w1 b o := (gk1 hg hb h.at).live
theorem Live.kept {W w1 : World} {b o : Nat} (h : Live W b o) (hg : W.grownBy w1 none) : Live w1 b o := (gk hg h.at).live
theorem TwoR.kept1 {W w1 : World} {b c : Nat} {v s : Int} (h : TwoR W b v s) (hb : b ≠ c) (hg : W.grownBy w1 (some c)) : TwoR w1 b v s := by
  have hl := hg.block b (cell_lt h.1) (by intro e; cases e; exact hb rfl)
  exact ⟨(World.cell?_of_block (w := W) hl).trans h.1, (World.cell?_of_block (w := W) hl).trans h.2⟩
theorem TwoR.set {W : World} {b r o : Nat} {v s : Int} (h : TwoR W b v s) (hb : b ≠ r) (u : Value) : TwoR (W.setCell ⟨r, o, none⟩ u) b v s := by
  have hl := Below.heap_setCell W ⟨r, o, none⟩ u b hb
  exact ⟨(World.cell?_of_block (w := W) hl).trans h.1, (World.cell?_of_block (w := W) hl).trans h.2⟩
theorem Live.set {W : World} {b o r p : Nat} (h : Live W b o) (u : Value) : Live (W.setCell ⟨r, p, none⟩ u) b o := by
  by_cases hb : (⟨b, o, none⟩ : Addr) = ⟨r, p, none⟩
  · cases hb
    have h1 : (W.setCell ⟨b, o, none⟩ u).cell? ⟨b, o, none⟩ = some u := by simp [go_sem, h.1]
    exact At.live (v := u) ⟨h1, by simp [go_sem, h.2]⟩
  · have h1 : (W.setCell ⟨r, p, none⟩ u).cell? ⟨b, o, none⟩ = W.cell? ⟨b, o, none⟩ := World.cell?_setCell_other W _ _ u (fun e => hb e.symm)
    exact At.live (v := valAt W b o) ⟨h1.trans h.1, by rw [World.frozen?_setCell]; exact h.2⟩
/-- a block of four cells, read -/
abbrev Box4 (w : World) (b : Nat) (x0 x1 x2 x3 : Value) : Prop := w.cell? ⟨b, 0, none⟩ = some x0 ∧ w.cell? ⟨b, 1, none⟩ = some x1 ∧ w.cell? ⟨b, 2, none⟩ = some x2 ∧ w.cell? ⟨b, 3, none⟩ = some x3
theorem Box4.kept {W w1 : World} {b : Nat} {x0 x1 x2 x3 : Value} (h : Box4 W b x0 x1 x2 x3) (hg : W.grownBy w1 none) : Box4 w1 b x0 x1 x2 x3 := ⟨gkc hg h.1, gkc hg h.2.1, gkc hg h.2.2.1, gkc hg h.2.2.2⟩
theorem Box4.new (w : World) (x0 x1 x2 x3 : Value) (T : Nat) : Box4 (w.alloc (.cells #[x0, x1, x2, x3] T)) w.heap.size x0 x1 x2 x3 := by simp [Box4, go_sem]
/-- two cells side by side, read -/
abbrev TwoO (w : World) (b o : Nat) (x0 x1 : Value) : Prop := w.cell? ⟨b, o, none⟩ = some x0 ∧ w.cell? ⟨b, o + 1, none⟩ = some x1
theorem TwoO.kept {W w1 : World} {b o : Nat} {x0 x1 : Value} (h : TwoO W b o x0 x1) (hg : W.grownBy w1 none) : TwoO w1 b o x0 x1 := ⟨gkc hg h.1, gkc hg h.2⟩
/-- the quiet walk of a region, closed to the elaborator -/
structure Calm (ops : Array Oper) (C : World → Prop) (Q : Act → Prop) (l : List Oper) (a : Act) : Prop where
  out : wpQuiet Tryz.prog ops C Q l a
/-- a region that draws its order, whose operations read or call functions that only make memory: one walk of the text's order serves every order; C: what holds in every world on the way -/
theorem region_calm {id : Nat} {Q : Exit → Act → World → Prop} {a : Act} {w : World} {l : List Oper} (C : World → Prop) (hm : Tryz.prog.follows .mixedOrders = true) (hB : Region.lexB .any l.toArray = true) (hC : C w.drew)
    (h : Calm l.toArray C (fun a' => ∀ w', C w' → Q .normal a' w') l a) : (Code.region id l.toArray true).wp Tryz.prog Q a w :=
  wp_region_quiet (C := C) hm hB hC (by simpa using h.out)
theorem calm_step {ops : Array Oper} {C : World → Prop} {Q : Act → Prop} {a : Act} {o : Oper} {rest : List Oper} (hw : Region.wanted o (yielded ops a.tmps) = true)
    (h : ∃ v, (∀ w, C w → o.quietAt Tryz.prog a C w v) ∧ Calm ops C Q rest (a.put o.dst v)) : Calm ops C Q (o :: rest) a :=
  ⟨wpQuiet_step fun _ hK => by obtain ⟨v, h, hn⟩ := h; rw [if_pos hw]; exact ⟨v, h, hK _ hn.out⟩⟩
theorem calm_skip {ops : Array Oper} {C : World → Prop} {Q : Act → Prop} {a : Act} {o : Oper} {rest : List Oper} (hw : Region.wanted o (yielded ops a.tmps) = false) (h : Calm ops C Q rest (a.put o.dst undef)) : Calm ops C Q (o :: rest) a :=
  ⟨BigFrame.wpQuiet_skip hw h.out⟩
theorem calm_nil {ops : Array Oper} {C : World → Prop} {Q : Act → Prop} {a : Act} (h : Q a) : Calm ops C Q [] a := ⟨wpQuiet_nil h⟩
end Go.Proofs.YtfodjokcobljmaaGreat
