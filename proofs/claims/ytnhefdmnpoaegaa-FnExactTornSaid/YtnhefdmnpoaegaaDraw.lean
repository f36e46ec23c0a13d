/- The cursor over the bytes of a draw: what a draw returns is in range, and it changes nothing but its own cursor and new memory. -/
import Derived.Test.YtnhefdmnpoaegaaBase
import Derived.Deep.QuietTactic
import Derived.BigQuiet
import Derived.LoopTactic
import Derived.OwnWalk
namespace Go.Proofs.Ytnhefdmnpoaegaa
open Go.ChangeShapes Go.WideShapes Go.ChangeAt Go.RowKit

/-- bytes that can be read at a slice's address, in a block older than c -/
def Row (w : World) (c : Nat) (a : Option Addr) (len : Nat) : Prop :=
  len = 0 ∨ ∃ b o, a = some ⟨b, o, none⟩ ∧ b < c ∧ b < w.heap.size ∧ len ≤ 140737488351232 ∧ ∀ k, k < len → ∃ n : Int, 0 ≤ n ∧ n ≤ 255 ∧ w.cell? ⟨b, o + k, none⟩ = some (.int .u8 n)
/-- block c of the world is a cursor -/
def Cur (w : World) (c : Nat) : Prop :=
  ∃ (a : Option Addr) (len cap i : Nat) (h : Int), Row w c a len ∧ i ≤ len ∧ w.cell? ⟨c, 0, none⟩ = some (.slice a len cap) ∧ w.cell? ⟨c, 1, none⟩ = some (.int .i64 i) ∧ w.cell? ⟨c, 2, none⟩ = some (.int .i64 h)
    ∧ w.frozen? ⟨c, 1, none⟩ = false ∧ w.frozen? ⟨c, 2, none⟩ = false
theorem Cur.lt {w : World} {c : Nat} (h : Cur w c) : c < w.heap.size := by
  obtain ⟨a, len, cap, i, h, _, _, h0, _⟩ := h
  apply Classical.byContradiction; intro hn
  simp [World.cell?, Array.getElem?_eq_none (Nat.le_of_not_lt hn)] at h0
theorem Row.kept {w w' : World} {c : Nat} {a : Option Addr} {len : Nat} (h : Row w c a len) (hs : w.heap.size ≤ w'.heap.size) (hb : ∀ b, b < w.heap.size → b ≠ c → w'.heap[b]? = w.heap[b]?) : Row w' c a len := by
  rcases h with h | ⟨b, o, ha, h1, h2, h3, h4⟩
  · exact .inl h
  · refine .inr ⟨b, o, ha, h1, by omega, h3, fun k hk => ?_⟩
    obtain ⟨n, n1, n2, n3⟩ := h4 k hk
    exact ⟨n, n1, n2, by rw [World.cell?_of_block (w := w) (hb b h2 (by omega))]; exact n3⟩
theorem Cur.kept {w w' : World} {c : Nat} (h : Cur w c) {r : Option Nat} (hg : w.grownBy w' r) (hrow : ∀ k, r = some k → w.heap.size ≤ k) : Cur w' c := by
  have hlt := h.lt
  obtain ⟨a, len, cap, i, h, hR, hi, h0, h1, h2, f1, f2⟩ := h
  have hb : ∀ k, k < w.heap.size → w'.heap[k]? = w.heap[k]? := fun k hk => hg.block k hk (fun e => by have := hrow k e.symm; omega)
  have hc := hb c hlt
  refine ⟨a, len, cap, i, h, hR.kept hg.size (fun b hb' _ => hb b hb'), hi, ?_, ?_, ?_, ?_, ?_⟩
  · rw [World.cell?_of_block (w := w) hc]; exact h0
  · rw [World.cell?_of_block (w := w) hc]; exact h1
  · rw [World.cell?_of_block (w := w) hc]; exact h2
  · rw [World.frozen?_of_block (w := w) hc]; exact f1
  · rw [World.frozen?_of_block (w := w) hc]; exact f2
theorem Cur.alloc {w : World} {c : Nat} (h : Cur w c) (o : Obj) : Cur (w.alloc o) c :=
  h.kept (World.grownBy_alloc w o none) (by simp)

theorem Cur.set {w : World} {c r : Nat} (h : Cur w c) (hr : c < r) (o : Nat) (v : Value) : Cur (w.setCell ⟨r, o, none⟩ v) c := by
  obtain ⟨a, len, cap, i, h, hR, hi, h0, h1, h2, f1, f2⟩ := h
  have hb : ∀ k, k < r → (w.setCell ⟨r, o, none⟩ v).heap[k]? = w.heap[k]? := fun k hk => Below.heap_setCell _ _ _ _ (by intro e; simp at e; omega)
  have hc := hb c hr
  refine ⟨a, len, cap, i, h, ?_, hi, ?_, ?_, ?_, ?_, ?_⟩
  · rcases hR with h | ⟨b, o', ha, h1, h2, h3, h4⟩
    · exact .inl h
    · refine .inr ⟨b, o', ha, h1, by simpa [World.setCell] using h2, h3, fun k hk => ?_⟩
      obtain ⟨n, n1, n2, n3⟩ := h4 k hk
      exact ⟨n, n1, n2, by rw [World.cell?_of_block (w := w) (hb b (by omega))]; exact n3⟩
  · rw [World.cell?_of_block (w := w) hc]; exact h0
  · rw [World.cell?_of_block (w := w) hc]; exact h1
  · rw [World.cell?_of_block (w := w) hc]; exact h2
  · rw [World.frozen?_of_block (w := w) hc]; exact f1
  · rw [World.frozen?_of_block (w := w) hc]; exact f2
theorem Cur.drewN {w : World} {c : Nat} (h : Cur w c) (n : Nat) : Cur (w.drewN n) c := h
theorem and_in (x m : Int) (h0 : 0 ≤ m) (hm : m ≤ 9223372036854775807) : 0 ≤ bits .and .i64 x m ∧ bits .and .i64 x m ≤ m := by
  obtain ⟨m, rfl⟩ := Int.eq_ofNat_of_zero_le h0
  have e : (BitVec.ofInt 64 (m : Int)).toNat = m := by
    rw [BitVec.toNat_ofInt]; omega
  have l : (BitVec.ofInt 64 x &&& BitVec.ofInt 64 (m : Int)).toNat ≤ m := by
    rw [BitVec.toNat_and, e]; exact Nat.and_le_right
  have q : bits .and .i64 x m = ((BitVec.ofInt 64 x &&& BitVec.ofInt 64 (m : Int)).toNat : Int) := by
    show IntKind.i64.wrap _ = _
    exact IntWalk.i64_in ((BitVec.ofInt 64 x &&& BitVec.ofInt 64 (m : Int)).toNat : Int) (by omega)
  rw [q]; omega
theorem gset {w w' : World} {c : Nat} (h : w.grownBy w' (some c)) (o : Nat) (v : Value) : w.grownBy (w'.setCell ⟨c, o, none⟩ v) (some c) :=
  ⟨h.os, h.tape, h.output, by have := h.size; simp [World.setCell]; omega, fun k hk hne => by rw [Below.heap_setCell _ _ _ _ (by intro e; exact hne (by rw [e]))]; exact h.block k hk hne⟩
theorem gdrew {w w' : World} {r : Option Nat} (h : w.grownBy w' r) (n : Nat) : w.grownBy (w'.drewN n) r :=
  ⟨h.os, h.tape, h.output, h.size, h.block⟩
theorem galloc {w w' : World} {r : Option Nat} (h : w.grownBy w' r) (o : Obj) : w.grownBy (w'.alloc o) r :=
  ⟨h.os, h.tape, h.output, by have := h.size; simp; omega, fun k hk hne => by rw [Below.heap_alloc _ _ _ (by have := h.size; omega)]; exact h.block k hk hne⟩
theorem gtrans {a b c : World} {r : Option Nat} (h : a.grownBy b r) (k : b.grownBy c r) : a.grownBy c r :=
  ⟨k.os.trans h.os, k.tape.trans h.tape, k.output.trans h.output, Nat.le_trans h.size k.size, fun i hi hne => (k.block i (Nat.lt_of_lt_of_le hi h.size) hne).trans (h.block i hi hne)⟩
/-- the cursor after its hash and its position were written -/
theorem Cur.mk' {w w' : World} {c : Nat} {a : Option Addr} {len cap i : Nat} {h : Int} (hR : Row w c a len) (hg : w.grownBy w' (some c)) (hi : i ≤ len) (h0 : w'.cell? ⟨c, 0, none⟩ = some (.slice a len cap)) (h1 : w'.cell? ⟨c, 1, none⟩ = some (.int .i64 i)) (h2 : w'.cell? ⟨c, 2, none⟩ = some (.int .i64 h))
    (f1 : w'.frozen? ⟨c, 1, none⟩ = false) (f2 : w'.frozen? ⟨c, 2, none⟩ = false) : Cur w' c :=
  ⟨a, len, cap, i, h, hR.kept hg.size (fun b hb hne => hg.block b hb (by intro e; exact hne (by cases e; rfl))), hi, h0, h1, h2, f1, f2⟩
/-- what a draw leaves: a number of which P holds, the cursor, and a world in which only the cursor and new memory may differ -/
def Drawn (P : Int → Prop) (c : Nat) (w : World) (e : Ending) (w' : World) : Prop :=
  ∃ n : Int, P n ∧ e = .returned (.int .i64 n) ∧ Cur w' c ∧ w.grownBy w' (some c)

def DrawnB (c : Nat) (w : World) (e : Ending) (w' : World) : Prop :=
  ∃ b : Bool, e = .returned (.bool b) ∧ Cur w' c ∧ w.grownBy w' (some c)
/-- the cursor that l1New returns is a new block -/
def Began (w : World) (e : Ending) (w' : World) : Prop :=
  ∃ c : Nat, e = .returned (.pointer (some ⟨c, 0, none⟩)) ∧ w.heap.size ≤ c ∧ Cur w' c ∧ w.grownBy w' none
/-- the bytes of a draw, as they lie in a world -/
def CodeAt (w : World) (a : Option Addr) (len : Nat) : Prop :=
  len = 0 ∨ ∃ b o, a = some ⟨b, o, none⟩ ∧ b < w.heap.size ∧ len ≤ 140737488351232 ∧ ∀ k, k < len → ∃ n : Int, 0 ≤ n ∧ n ≤ 255 ∧ w.cell? ⟨b, o + k, none⟩ = some (.int .u8 n)
theorem CodeAt.row {w : World} {a : Option Addr} {len c : Nat} (h : CodeAt w a len) (hc : w.heap.size ≤ c) : Row w c a len := by
  rcases h with h | ⟨b, o, h1, h2, h3, h4⟩
  · exact .inl h
  · exact .inr ⟨b, o, h1, by omega, h2, h3, h4⟩
theorem CodeAt.kept {w w' : World} {a : Option Addr} {len : Nat} (h : CodeAt w a len) (hb : Below w.heap.size w w') : CodeAt w' a len := by
  rcases h with h | ⟨b, o, h1, h2, h3, h4⟩
  · exact .inl h
  · refine .inr ⟨b, o, h1, by have := hb.size; omega, h3, fun k hk => ?_⟩
    obtain ⟨n, n1, n2, n3⟩ := h4 k hk
    exact ⟨n, n1, n2, by rw [hb.cell (p := ⟨b, o + k, none⟩) h2]; exact n3⟩
theorem gfresh {a b c : World} {k : Nat} (h : a.grownBy b none) (hk : a.heap.size ≤ k) (h2 : b.grownBy c (some k)) : a.grownBy c none :=
  ⟨h2.os.trans h.os, h2.tape.trans h.tape, h2.output.trans h.output, Nat.le_trans h.size h2.size, fun i hi _ => (h2.block i (Nat.lt_of_lt_of_le hi h.size) (by intro e; cases e; omega)).trans (h.block i hi (by simp))⟩
theorem gbelow {a b : World} (h : a.grownBy b none) : Below a.heap.size a b := (Below.refl _ _).grown h (Nat.le_refl _) (by simp)
def i64B (n : Int) : Prop := -9223372036854775808 ≤ n ∧ n ≤ 9223372036854775807
/-- a table written out in the text, read behind a draw -/
theorem table_cell {w1 w2 : World} {c T : Nat} {cs : Array Value} (h : (w1.alloc (.cells cs T)).grownBy w2 (some c)) (hc : c < w1.heap.size) (k : Nat) : w2.cell? ⟨w1.heap.size, k, none⟩ = cs[k]? := by
  have hb := h.block w1.heap.size (by simp) (by intro e; cases e; omega)
  have hn : (w1.alloc (.cells cs T)).heap[w1.heap.size]? = some (.cells cs T) := by
    show (w1.heap.push _)[_]? = _
    simp
  unfold World.cell?; rw [hb, hn]; rfl
end Go.Proofs.Ytnhefdmnpoaegaa
