/- The cursor over the bytes of a draw: what a draw returns is in range, and it changes nothing but its own cursor and new memory. The laws' own helpers: big (is the code too long?) and pick (a number below n). Worlds that only grew: nothing that was there has changed. A cursor is kept where only later blocks are written; worlds that grew, joined. -/
import Derived.Deep.QuietTactic
import Derived.BigQuiet
import Derived.LoopTactic
import Derived.OwnWalk
import Derived.Deep.Quiet
import Derived.Test.YteialkknddpbjaaGreatDoorPH00
namespace Go.Proofs.YteialkknddpbjaaGreatDoor
open Go.ChangeShapes Go.WideShapes Go.ChangeAt Go.RowKit

/-- bytes that can be read at a slice's address, in a block older than c -/
def Row (w : World) (c : Nat) (a : Option Addr) (len : Nat) : Prop :=
  len = 0 ∨ ∃ b o, a = some ⟨b, o, none⟩ ∧ b < c ∧ b < w.heap.size ∧ len ≤ 140737488351232 ∧ ∀ k, k < len → ∃ n : Int, 0 ≤ n ∧ n ≤ 255 ∧ w.cell? ⟨b, o + k, none⟩ = some (.int .u8 n)
/-- block c of the world is a cursor -/
def Cur (w : World) (c : Nat) : Prop :=
  ∃ (a : Option Addr) (len cap i : Nat) (h : Int), Row w c a len ∧ i ≤ len ∧ w.cell? ⟨c, 0, none⟩ = some (.slice a len cap) ∧ w.cell? ⟨c, 1, none⟩ = some (.int .i64 i) ∧ w.cell? ⟨c, 2, none⟩ = some (.int .i64 h)
    ∧ w.frozen? ⟨c, 1, none⟩ = false ∧ w.frozen? ⟨c, 2, none⟩ = false
theorem Cur.lt {w : World} {c : Nat} (h : Cur w c) : c < w.heap.size := by
  obtain ⟨a, len, cap, i, h, _, _, h0, _⟩ := h
  apply Classical.byContradiction; intro hn
  simp [World.cell?, Array.getElem?_eq_none (Nat.le_of_not_lt hn)] at h0
theorem Row.kept {w w' : World} {c : Nat} {a : Option Addr} {len : Nat} (h : Row w c a len) (hs : w.heap.size ≤ w'.heap.size) (hb : ∀ b, b < w.heap.size → b ≠ c → w'.heap[b]? = w.heap[b]?) : Row w' c a len := by
  rcases h with h | ⟨b, o, ha, h1, h2, h3, h4⟩
  · exact .inl h
  · refine .inr ⟨b, o, ha, h1, by omega, h3, fun k hk => ?_⟩
    obtain ⟨n, n1, n2, n3⟩ := h4 k hk
    exact ⟨n, n1, n2, by rw [World.cell?_of_block (w := w) (hb b h2 (by omega))]; exact n3⟩
theorem Cur.kept {w w' : World} {c : Nat} (h : Cur w c) {r : Option Nat} (hg : w.grownBy w' r) (hrow : ∀ k, r = some k → w.heap.size ≤ k) : Cur w' c := by
  have hlt := h.lt
  obtain ⟨a, len, cap, i, h, hR, hi, h0, h1, h2, f1, f2⟩ := h
  have hb : ∀ k, k < w.heap.size → w'.heap[k]? = w.heap[k]? := fun k hk => hg.block k hk (fun e => by have := hrow k e.symm; omega)
  have hc := hb c hlt
  refine ⟨a, len, cap, i, h, hR.kept hg.size (fun b hb' _ => hb b hb'), hi, ?_, ?_, ?_, ?_, ?_⟩
  · rw [World.cell?_of_block (w := w) hc]; exact h0
  · rw [World.cell?_of_block (w := w) hc]; exact h1
  · rw [World.cell?_of_block (w := w) hc]; exact h2
  · rw [World.frozen?_of_block (w := w) hc]; exact f1
  · rw [World.frozen?_of_block (w := w) hc]; exact f2
theorem Cur.alloc {w : World} {c : Nat} (h : Cur w c) (o : Obj) : Cur (w.alloc o) c :=
  h.kept (World.grownBy_alloc w o none) (by simp)

theorem Cur.set {w : World} {c r : Nat} (h : Cur w c) (hr : c < r) (o : Nat) (v : Value) : Cur (w.setCell ⟨r, o, none⟩ v) c := by
  obtain ⟨a, len, cap, i, h, hR, hi, h0, h1, h2, f1, f2⟩ := h
  have hb : ∀ k, k < r → (w.setCell ⟨r, o, none⟩ v).heap[k]? = w.heap[k]? := fun k hk => Below.heap_setCell _ _ _ _ (by intro e; simp at e; omega)
  have hc := hb c hr
  refine ⟨a, len, cap, i, h, ?_, hi, ?_, ?_, ?_, ?_, ?_⟩
  · rcases hR with h | ⟨b, o', ha, h1, h2, h3, h4⟩
    · exact .inl h
    · refine .inr ⟨b, o', ha, h1, by simpa [World.setCell] using h2, h3, fun k hk => ?_⟩
      obtain ⟨n, n1, n2, n3⟩ := h4 k hk
      exact ⟨n, n1, n2, by rw [World.cell?_of_block (w := w) (hb b (by omega))]; exact n3⟩
  · rw [World.cell?_of_block (w := w) hc]; exact h0
  · rw [World.cell?_of_block (w := w) hc]; exact h1
  · rw [World.cell?_of_block (w := w) hc]; exact h2
  · rw [World.frozen?_of_block (w := w) hc]; exact f1
  · rw [World.frozen?_of_block (w := w) hc]; exact f2
theorem Cur.drewN {w : World} {c : Nat} (h : Cur w c) (n : Nat) : Cur (w.drewN n) c := h
theorem and_in (x m : Int) (h0 : 0 ≤ m) (hm : m ≤ 9223372036854775807) : 0 ≤ bits .and .i64 x m ∧ bits .and .i64 x m ≤ m := by
  obtain ⟨m, rfl⟩ := Int.eq_ofNat_of_zero_le h0
  have e : (BitVec.ofInt 64 (m : Int)).toNat = m := by
    rw [BitVec.toNat_ofInt]; omega
  have l : (BitVec.ofInt 64 x &&& BitVec.ofInt 64 (m : Int)).toNat ≤ m := by
    rw [BitVec.toNat_and, e]; exact Nat.and_le_right
  have q : bits .and .i64 x m = ((BitVec.ofInt 64 x &&& BitVec.ofInt 64 (m : Int)).toNat : Int) := by
    show IntKind.i64.wrap _ = _
    exact IntWalk.i64_in ((BitVec.ofInt 64 x &&& BitVec.ofInt 64 (m : Int)).toNat : Int) (by omega)
  rw [q]; omega
theorem gset {w w' : World} {c : Nat} (h : w.grownBy w' (some c)) (o : Nat) (v : Value) : w.grownBy (w'.setCell ⟨c, o, none⟩ v) (some c) :=
  ⟨h.os, h.tape, h.output, by have := h.size; simp [World.setCell]; omega, fun k hk hne => by rw [Below.heap_setCell _ _ _ _ (by intro e; exact hne (by rw [e]))]; exact h.block k hk hne⟩
theorem gdrew {w w' : World} {r : Option Nat} (h : w.grownBy w' r) (n : Nat) : w.grownBy (w'.drewN n) r :=
  ⟨h.os, h.tape, h.output, h.size, h.block⟩
theorem galloc {w w' : World} {r : Option Nat} (h : w.grownBy w' r) (o : Obj) : w.grownBy (w'.alloc o) r :=
  ⟨h.os, h.tape, h.output, by have := h.size; simp; omega, fun k hk hne => by rw [Below.heap_alloc _ _ _ (by have := h.size; omega)]; exact h.block k hk hne⟩
theorem gtrans {a b c : World} {r : Option Nat} (h : a.grownBy b r) (k : b.grownBy c r) : a.grownBy c r :=
  ⟨k.os.trans h.os, k.tape.trans h.tape, k.output.trans h.output, Nat.le_trans h.size k.size, fun i hi hne => (k.block i (Nat.lt_of_lt_of_le hi h.size) hne).trans (h.block i hi hne)⟩
/-- the cursor after its hash and its position were written -/
theorem Cur.mk' {w w' : World} {c : Nat} {a : Option Addr} {len cap i : Nat} {h : Int} (hR : Row w c a len) (hg : w.grownBy w' (some c)) (hi : i ≤ len) (h0 : w'.cell? ⟨c, 0, none⟩ = some (.slice a len cap)) (h1 : w'.cell? ⟨c, 1, none⟩ = some (.int .i64 i)) (h2 : w'.cell? ⟨c, 2, none⟩ = some (.int .i64 h))
    (f1 : w'.frozen? ⟨c, 1, none⟩ = false) (f2 : w'.frozen? ⟨c, 2, none⟩ = false) : Cur w' c :=
  ⟨a, len, cap, i, h, hR.kept hg.size (fun b hb hne => hg.block b hb (by intro e; exact hne (by cases e; rfl))), hi, h0, h1, h2, f1, f2⟩
/-- what a draw leaves: a number of which P holds, the cursor, and a world in which only the cursor and new memory may differ -/
def Drawn (P : Int → Prop) (c : Nat) (w : World) (e : Ending) (w' : World) : Prop :=
  ∃ n : Int, P n ∧ e = .returned (.int .i64 n) ∧ Cur w' c ∧ w.grownBy w' (some c)

theorem l1Byte_any (c : Nat) (w : World) (hc : Cur w c) :
    Calls Tryz.prog 170 #[.pointer (some ⟨c, 0, none⟩)] w (Drawn (fun n => 0 ≤ n ∧ n ≤ 255) c w) := by
  obtain ⟨a, len, cap, i, h, hR, hi, h0, h1, h2, f1, f2⟩ := hc
  have HR := Lib.hid hR
  by_cases hl : i < len
  · rcases hR with hR | ⟨b, o, rfl, hb0, hbs, hm, hR⟩
    · omega
    obtain ⟨n, n1, n2, n3⟩ := hR i hl
    have hb : b ≠ c := by omega
    clear hR hb0
    go_enter Tryz.func170, Tryz.ntmps170
    go_wp2
    generalize wrap64 (wrap64 (h * 6364136223846793005) + 1442695040888963407) = h'
    go_quiet (fail)
    go_wp2
    obtain ⟨hx0, hx1⟩ := and_in (bits BinOp.xor IntKind.i64 (h' / 8589934592) (h' / 35184372088832)) 255 (by omega) (by omega)
    generalize bits BinOp.and IntKind.i64 (bits BinOp.xor IntKind.i64 (h' / 8589934592) (h' / 35184372088832)) 255 = x at *
    go_quiet (fail)
    go_wp2
    go_quiet (fail)
    go_wp2
    go_ret
    have hg : ∀ k, w.grownBy (((w.setCell ⟨c, 2, none⟩ (.int .i64 h')).drewN k).setCell ⟨c, 1, none⟩ (.int .i64 ((i : Int) + 1))) (some c) := fun k => gset (gdrew (gset (World.grownBy.refl w _) _ _) _) _ _
    exact ⟨_, and_in (x + n) 255 (by omega) (by omega), rfl, Cur.mk' (i := i + 1) (h := h') (cap := cap) HR.out (hg _) (by omega) (by simp [h0, go_sem]) (by simp [h1, go_sem]) (by simp [h2, go_sem]) (by simp [f1, go_sem]) (by simp [f2, go_sem]), hg _⟩
  · have hl' : ¬ ((i : Int) < (len : Int)) := by omega
    go_enter Tryz.func170, Tryz.ntmps170
    go_wp2
    generalize wrap64 (wrap64 (h * 6364136223846793005) + 1442695040888963407) = h'
    go_quiet (fail)
    go_wp2
    obtain ⟨hx0, hx1⟩ := and_in (bits BinOp.xor IntKind.i64 (h' / 8589934592) (h' / 35184372088832)) 255 (by omega) (by omega)
    generalize bits BinOp.and IntKind.i64 (bits BinOp.xor IntKind.i64 (h' / 8589934592) (h' / 35184372088832)) 255 = x at *
    go_quiet (fail)
    go_wp2
    go_ret
    have hg : ∀ k l, w.grownBy (((w.setCell ⟨c, 2, none⟩ (.int .i64 h')).drewN k).drewN l) (some c) := fun k l => gdrew (gdrew (gset (World.grownBy.refl w _) _ _) _) _
    exact ⟨_, ⟨hx0, hx1⟩, rfl, Cur.mk' (i := i) (h := h') (cap := cap) HR.out (hg _ _) (by omega) (by simp [h0, go_sem]) (by simp [h1, go_sem]) (by simp [h2, go_sem]) (by simp [f1, go_sem]) (by simp [f2, go_sem]), hg _ _⟩
theorem l1Below_any (c : Nat) (n : Int) (w : World) (hc : Cur w c) (hn : 0 < n ∧ n ≤ 9223372036854775807) :
    Calls Tryz.prog 105 #[.pointer (some ⟨c, 0, none⟩), .int .i64 n] w (Drawn (fun x => 0 ≤ x ∧ x < n) c w) := by
  obtain ⟨hn0, hn9⟩ := hn
  have hn1 : decide (n ≤ 0) = false := by simp; omega
  by_cases hs : n ≤ 256
  · go_enter Tryz.func105, Tryz.ntmps105
    go_wp2_with fail
    refine (l1Byte_any c _ hc).mono ?_
    rintro e w1 ⟨x, ⟨hx0, hx1⟩, rfl, hc1, hg1⟩
    have HC := Lib.hid hc1; clear hc1
    go_wp2_with fail
    go_ret
    exact ⟨_, ⟨Int.emod_nonneg _ (by omega), Int.emod_lt_of_pos _ (by omega)⟩, rfl, HC.out, hg1⟩
  · have hs' : decide (n ≤ 256) = false := by simp; omega
    go_enter Tryz.func105, Tryz.ntmps105
    go_wp2_with fail
    refine (l1Byte_any c _ hc).mono ?_
    rintro e w1 ⟨x, ⟨hx0, hx1⟩, rfl, hc1, hg1⟩
    go_wp2_with fail
    refine (l1Byte_any c _ hc1).mono ?_
    rintro e w2 ⟨y, ⟨hy0, hy1⟩, rfl, hc2, hg2⟩
    go_wp2_with fail
    refine (l1Byte_any c _ hc2).mono ?_
    rintro e w3 ⟨z, ⟨hz0, hz1⟩, rfl, hc3, hg3⟩
    go_wp2_with fail
    refine (l1Byte_any c _ hc3).mono ?_
    rintro e w4 ⟨u, ⟨hu0, hu1⟩, rfl, hc4, hg4⟩
    go_wp2_with fail
    go_ret
    exact ⟨_, ⟨Int.emod_nonneg _ (by omega), Int.emod_lt_of_pos _ (by omega)⟩, rfl, hc4, gtrans hg1 (gtrans hg2 (gtrans hg3 hg4))⟩
def DrawnB (c : Nat) (w : World) (e : Ending) (w' : World) : Prop :=
  ∃ b : Bool, e = .returned (.bool b) ∧ Cur w' c ∧ w.grownBy w' (some c)
theorem l1Once_any (c : Nat) (n : Int) (w : World) (hc : Cur w c) (hn : 0 < n ∧ n ≤ 9223372036854775807) :
    Calls Tryz.prog 71 #[.pointer (some ⟨c, 0, none⟩), .int .i64 n] w (DrawnB c w) := by
  go_enter Tryz.func71, Tryz.ntmps71
  go_wp2_with fail
  refine (l1Below_any c _ _ hc hn).mono ?_
  rintro e w1 ⟨x, ⟨hx0, hx1⟩, rfl, hc1, hg1⟩
  go_wp2_with fail
  go_ret
  exact ⟨_, rfl, hc1, hg1⟩
theorem l1From_any (c : Nat) (lo hi : Int) (w : World) (hc : Cur w c) (hl : -4611686018427387904 ≤ lo) (hlh : lo ≤ hi) (hh : hi ≤ 4611686018427387900) :
    Calls Tryz.prog 66 #[.pointer (some ⟨c, 0, none⟩), .int .i64 lo, .int .i64 hi] w (Drawn (fun x => lo ≤ x ∧ x ≤ hi) c w) := by
  go_enter Tryz.func66, Tryz.ntmps66
  go_wp2_with fail
  refine (l1Below_any c _ _ hc (by omega)).mono ?_
  rintro e w1 ⟨x, ⟨hx0, hx1⟩, rfl, hc1, hg1⟩
  go_wp2_with fail
  go_ret
  exact ⟨_, ⟨by omega, by omega⟩, rfl, hc1, hg1⟩
/-- the cursor that l1New returns is a new block -/
def Began (w : World) (e : Ending) (w' : World) : Prop :=
  ∃ c : Nat, e = .returned (.pointer (some ⟨c, 0, none⟩)) ∧ w.heap.size ≤ c ∧ Cur w' c ∧ w.grownBy w' none
/-- the bytes of a draw, as they lie in a world -/
def CodeAt (w : World) (a : Option Addr) (len : Nat) : Prop :=
  len = 0 ∨ ∃ b o, a = some ⟨b, o, none⟩ ∧ b < w.heap.size ∧ len ≤ 140737488351232 ∧ ∀ k, k < len → ∃ n : Int, 0 ≤ n ∧ n ≤ 255 ∧ w.cell? ⟨b, o + k, none⟩ = some (.int .u8 n)
theorem CodeAt.row {w : World} {a : Option Addr} {len c : Nat} (h : CodeAt w a len) (hc : w.heap.size ≤ c) : Row w c a len := by
  rcases h with h | ⟨b, o, h1, h2, h3, h4⟩
  · exact .inl h
  · exact .inr ⟨b, o, h1, by omega, h2, h3, h4⟩
theorem CodeAt.kept {w w' : World} {a : Option Addr} {len : Nat} (h : CodeAt w a len) (hb : Below w.heap.size w w') : CodeAt w' a len := by
  rcases h with h | ⟨b, o, h1, h2, h3, h4⟩
  · exact .inl h
  · refine .inr ⟨b, o, h1, by have := hb.size; omega, h3, fun k hk => ?_⟩
    obtain ⟨n, n1, n2, n3⟩ := h4 k hk
    exact ⟨n, n1, n2, by rw [hb.cell (p := ⟨b, o + k, none⟩) h2]; exact n3⟩
theorem l1New_any (a : Option Addr) (len cap : Nat) (w : World) (hR : CodeAt w a len) :
    Calls Tryz.prog 64 #[.slice a len cap] w (Began w) := by
  have hm : len ≤ 140737488351232 := by rcases hR with h | ⟨_, _, _, _, h, _⟩ <;> omega
  have HR := Lib.hid hR
  clear hR
  go_enter Tryz.func64, Tryz.ntmps64
  go_wp2
  go_loop [3, 4] (fun h i => ∃ (k : Nat) (z : Int), k ≤ len ∧ i = .int .i64 k ∧ h = .int .i64 z ∧ 0 ≤ z ∧ z ≤ 1000000000000000) (fun _ i => len - (intOf i).toNat)
  case atStart => exact ⟨0, _, Nat.zero_le _, rfl, rfl, by omega, by omega⟩
  case round =>
    obtain ⟨k, z, hk, rfl, rfl, hz0, hz1⟩ := hrel
    by_cases hlt : k < len
    · rcases HR.out with h | ⟨b, o, rfl, hbs, _, hR⟩
      · omega
      obtain ⟨n, n1, n2, n3⟩ := hR k hlt
      clear hR
      go_wp2
      obtain ⟨hx0, hx1⟩ := and_in (z * 137 + n + 11) 1073741823 (by omega) (by omega)
      generalize bits BinOp.and IntKind.i64 (z * 137 + n + 11) 1073741823 = x at *
      go_round
      case rel => exact ⟨k + 1, _, by omega, by go_num, rfl, hx0, by omega⟩
      case measure => simp [intOf]; omega
    · go_wp2
      go_ret
      exact ⟨w.heap.size, rfl, Nat.le_refl _, ⟨a, len, cap, 0, z, (HR.out.row (Nat.le_refl _)).kept (by simp) (fun b hb _ => Below.heap_alloc _ _ _ hb), by omega, by simp [go_sem], by simp [go_sem], by simp [go_sem], by simp [go_sem], by simp [go_sem]⟩, World.grownBy_alloc _ _ _⟩
theorem gfresh {a b c : World} {k : Nat} (h : a.grownBy b none) (hk : a.heap.size ≤ k) (h2 : b.grownBy c (some k)) : a.grownBy c none :=
  ⟨h2.os.trans h.os, h2.tape.trans h.tape, h2.output.trans h.output, Nat.le_trans h.size h2.size, fun i hi _ => (h2.block i (Nat.lt_of_lt_of_le hi h.size) (by intro e; cases e; omega)).trans (h.block i hi (by simp))⟩
theorem gbelow {a b : World} (h : a.grownBy b none) : Below a.heap.size a b := (Below.refl _ _).grown h (Nat.le_refl _) (by simp)
def i64B (n : Int) : Prop := -9223372036854775808 ≤ n ∧ n ≤ 9223372036854775807
theorem l1DrawDisk_any (c : Nat) (w : World) (hc : Cur w c) :
    Calls Tryz.prog 72 #[.pointer (some ⟨c, 0, none⟩)] w (Drawn (fun x => -1 ≤ x ∧ x ≤ 5) c w) := by
  go_enter Tryz.func72, Tryz.ntmps72
  go_wp2_with fail
  refine (l1From_any c _ _ _ hc (by omega) (by omega) (by omega)).mono ?_
  rintro e w1 ⟨x, ⟨hx0, hx1⟩, rfl, hc1, hg1⟩
  go_wp2_with fail
  go_ret
  exact ⟨_, ⟨hx0, hx1⟩, rfl, hc1, hg1⟩
/-- a table written out in the text, read behind a draw -/
theorem table_cell {w1 w2 : World} {c T : Nat} {cs : Array Value} (h : (w1.alloc (.cells cs T)).grownBy w2 (some c)) (hc : c < w1.heap.size) (k : Nat) : w2.cell? ⟨w1.heap.size, k, none⟩ = cs[k]? := by
  have hb := h.block w1.heap.size (by simp) (by intro e; cases e; omega)
  have hn : (w1.alloc (.cells cs T)).heap[w1.heap.size]? = some (.cells cs T) := by
    show (w1.heap.push _)[_]? = _
    simp
  unfold World.cell?; rw [hb, hn]; rfl
theorem l1DrawPlace_any (c : Nat) (w : World) (hc : Cur w c) :
    Calls Tryz.prog 110 #[.pointer (some ⟨c, 0, none⟩)] w (Drawn i64B c w) := by
  go_enter Tryz.func110, Tryz.ntmps110
  go_wp2_with fail
  refine (l1Once_any c _ _ hc (by omega)).mono ?_
  rintro e w1 ⟨b, rfl, hc1, hg1⟩
  cases b
  · go_wp2_with fail
    refine (l1Below_any c _ _ hc1 (by omega)).mono ?_
    rintro e w2 ⟨x, ⟨hx0, hx1⟩, rfl, hc2, hg2⟩
    go_wp2_with fail
    go_ret
    exact ⟨_, ⟨by omega, by omega⟩, rfl, hc2, gtrans hg1 hg2⟩
  · go_wp2_with fail
    refine (l1Below_any c _ _ (hc1.alloc _) (by omega)).mono ?_
    rintro e w2 ⟨x, ⟨hx0, hx1⟩, rfl, hc2, hg2⟩
    obtain ⟨k, rfl⟩ := Int.eq_ofNat_of_zero_le hx0
    obtain ⟨v, hv, hcell⟩ : ∃ v, i64B v ∧ w2.cell? ⟨w1.heap.size, k, none⟩ = some (.int .i64 v) := by
      rw [table_cell hg2 hc1.lt k]
      rcases (show k = 0 ∨ k = 1 ∨ k = 2 ∨ k = 3 by omega) with rfl | rfl | rfl | rfl <;> exact ⟨_, ⟨by omega, by omega⟩, rfl⟩
    go_wp2_with fail
    go_ret
    exact ⟨_, hv, rfl, hc2, gtrans (galloc hg1 _) hg2⟩
theorem l1DrawValue_any (c : Nat) (w : World) (hc : Cur w c) :
    Calls Tryz.prog 263 #[.pointer (some ⟨c, 0, none⟩)] w (Drawn i64B c w) := by
  go_enter Tryz.func263, Tryz.ntmps263
  go_wp2_with fail
  refine (l1Once_any c _ _ hc (by omega)).mono ?_
  rintro e w1 ⟨b, rfl, hc1, hg1⟩
  cases b
  · go_wp2_with fail
    refine (l1Below_any c _ _ hc1 (by omega)).mono ?_
    rintro e w2 ⟨x, ⟨hx0, hx1⟩, rfl, hc2, hg2⟩
    go_wp2_with fail
    go_ret
    exact ⟨_, ⟨by omega, by omega⟩, rfl, hc2, gtrans hg1 hg2⟩
  · go_wp2_with fail
    refine (l1Below_any c _ _ (hc1.alloc _) (by omega)).mono ?_
    rintro e w2 ⟨x, ⟨hx0, hx1⟩, rfl, hc2, hg2⟩
    obtain ⟨k, rfl⟩ := Int.eq_ofNat_of_zero_le hx0
    obtain ⟨v, hv, hcell⟩ : ∃ v, i64B v ∧ w2.cell? ⟨w1.heap.size, k, none⟩ = some (.int .i64 v) := by
      rw [table_cell hg2 hc1.lt k]
      rcases (show k = 0 ∨ k = 1 ∨ k = 2 ∨ k = 3 by omega) with rfl | rfl | rfl | rfl <;> exact ⟨_, ⟨by omega, by omega⟩, rfl⟩
    go_wp2_with fail
    go_ret
    exact ⟨_, hv, rfl, hc2, gtrans (galloc hg1 _) hg2⟩
end Go.Proofs.YteialkknddpbjaaGreatDoor
namespace Go.Proofs.YteialkknddpbjaaGreatDoor
open Go.ChangeShapes Go.WideShapes Go.ChangeAt Go.RowKit

theorem codeAt_of {w : World} {a : Option Addr} {len cap : Nat} {z : List Int}
    (h : (a = none ∧ len = 0 ∧ cap = 0 ∧ z = []) ∨ ∃ x, a = some x ∧ len ≤ cap ∧ cap ≤ maxLen ∧ z.length = cap ∧ (∀ i, i < z.length → w.cell? (x.add i) = some (.int .u8 (z.getD i 0))) ∧ ∀ n ∈ z, (Lit.int .u8 n).wf = true)
    (hl : len ≤ 4096) : CodeAt w a len := by
  rcases h with ⟨rfl, rfl, rfl, rfl⟩ | ⟨⟨b, o, sp⟩, rfl, h1, h2, h3, h4, h5⟩
  · exact .inl rfl
  · by_cases h0 : len = 0
    · exact .inl h0
    have hc0 := h4 0 (by omega)
    have hsp : sp = none := by
      cases sp with
      | none => rfl
      | some x => simp [World.cell?, Addr.add] at hc0; split at hc0 <;> simp_all
    subst hsp
    have hlt : b < w.heap.size := by
      apply Classical.byContradiction; intro hn
      simp [World.cell?, Addr.add, Array.getElem?_eq_none (Nat.le_of_not_lt hn)] at hc0
    refine .inr ⟨b, o, rfl, hlt, by omega, fun k hk => ?_⟩
    have hw := h5 (z.getD k 0) (by rw [List.getD_eq_getElem?_getD, List.getElem?_eq_getElem (by omega)]; exact List.getElem_mem _)
    have hw' : 0 ≤ z.getD k 0 ∧ z.getD k 0 ≤ 255 := by
      have h6 := hw
      simp only [Lit.wf, Bool.and_eq_true, decide_eq_true_eq] at h6
      exact h6
    exact ⟨_, hw'.1, hw'.2, by have := h4 k (by omega); rw [← this]; cases k <;> simp [Addr.add]⟩
theorem big_yes (a : Option Addr) (len cap : Nat) (w : World) (h : 4096 < len) :
    Calls Tryz.prog 12 #[.slice a len cap] w fun e w' => e = .returned (.bool true) ∧ w = w' := by
  have h' : (4096 : Int) < (len : Int) := by omega
  go_enter Tryz.func12, Tryz.ntmps12
  go_wp2
  go_ret
  exact ⟨rfl, rfl⟩
theorem big_no (a : Option Addr) (len cap : Nat) (w : World) (h : len ≤ 4096) :
    Calls Tryz.prog 12 #[.slice a len cap] w fun e w' => e = .returned (.bool false) ∧ w = w' := by
  have h' : ¬ (4096 : Int) < (len : Int) := by omega
  go_enter Tryz.func12, Tryz.ntmps12
  go_wp2
  go_ret
  exact ⟨ret_bool (by simp), rfl⟩
def Picked (n : Int) (w : World) (e : Ending) (w' : World) : Prop := ∃ x : Int, 0 ≤ x ∧ x < n ∧ e = .returned (.int .i64 x) ∧ w = w'
theorem pick_any (a : Option Addr) (len cap : Nat) (s n : Int) (w : World) (hR : CodeAt w a len) (hs : 0 ≤ s) (hs1 : s ≤ 1000000) (hn : 0 < n) (hn1 : n ≤ 4611686018427387904) :
    Calls Tryz.prog 23 #[.slice a len cap, .int .i64 s, .int .i64 n] w (Picked n w) := by
  have hm : len ≤ 140737488351232 := by rcases hR with h | ⟨_, _, _, _, h, _⟩ <;> omega
  have HR := Lib.hid hR
  clear hR
  go_enter Tryz.func23, Tryz.ntmps23
  go_wp2
  go_loop [7, 8] (fun h i => ∃ (k : Nat) (z : Int), k ≤ len ∧ i = .int .i64 k ∧ h = .int .i64 z ∧ 0 ≤ z ∧ z ≤ 1000000000000000) (fun _ i => len - (intOf i).toNat)
  case atStart => exact ⟨0, _, Nat.zero_le _, rfl, rfl, by omega, by omega⟩
  case round =>
    obtain ⟨k, z, hk, rfl, rfl, hz0, hz1⟩ := hrel
    by_cases hlt : k < len
    · rcases HR.out with h | ⟨b, o, rfl, hbs, _, hR⟩
      · omega
      obtain ⟨x, n1, n2, n3⟩ := hR k hlt
      clear hR
      go_wp2
      have hx0 := Int.emod_nonneg (z * 241 + x + s) (show (1000003 : Int) ≠ 0 by omega)
      have hx1 := Int.emod_lt_of_pos (z * 241 + x + s) (show (0 : Int) < 1000003 by omega)
      generalize (z * 241 + x + s) % 1000003 = y at *
      go_round
      case rel => exact ⟨k + 1, _, by omega, by go_num, rfl, hx0, by omega⟩
      case measure => simp [intOf]; omega
    · go_wp2
      go_ret
      exact ⟨_, Int.emod_nonneg _ (by omega), Int.emod_lt_of_pos _ hn, rfl, rfl⟩
end Go.Proofs.YteialkknddpbjaaGreatDoor
namespace Go.Proofs.YteialkknddpbjaaGreatDoor
open Go.ChangeShapes Go.WideShapes Go.ChangeAt Go.RowKit

theorem grefl (w : World) : w.grownBy w none := World.grownBy.refl w none
theorem gsetN {a w : World} (h : a.grownBy w none) {c : Nat} (hc : a.heap.size ≤ c) (o : Nat) (v : Value) : a.grownBy (w.setCell ⟨c, o, none⟩ v) none :=
  ⟨h.os, h.tape, h.output, by simpa [World.setCell] using h.size, fun i hi hne => (Below.heap_setCell w _ v i (by
    intro e; simp at e; omega)).trans (h.block i hi hne)⟩
theorem gcell {W w1 : World} (hg : W.grownBy w1 none) : (∀ b o, b < W.heap.size → w1.cell? ⟨b, o, none⟩ = W.cell? ⟨b, o, none⟩) ∧ (∀ b o, b < W.heap.size → w1.frozen? ⟨b, o, none⟩ = W.frozen? ⟨b, o, none⟩) :=
  ⟨fun b o h => (gbelow hg).cell (p := ⟨b, o, none⟩) h, fun b o h => (gbelow hg).frozen (p := ⟨b, o, none⟩) h⟩
theorem gsize {W w1 : World} {r : Option Nat} (hg : W.grownBy w1 r) : W.heap.size ≤ w1.heap.size := hg.size
/-- a cell that holds v and may be written -/
def At (w : World) (b o : Nat) (v : Value) : Prop := w.cell? ⟨b, o, none⟩ = some v ∧ w.frozen? ⟨b, o, none⟩ = false
theorem cell_lt {w : World} {b o : Nat} {v : Value} (h : w.cell? ⟨b, o, none⟩ = some v) : b < w.heap.size := by
  apply Classical.byContradiction; intro hn
  simp [World.cell?, Array.getElem?_eq_none (Nat.le_of_not_lt hn)] at h
theorem gkc {W w1 : World} (hg : W.grownBy w1 none) {b o : Nat} {v : Value} (h : W.cell? ⟨b, o, none⟩ = some v) : w1.cell? ⟨b, o, none⟩ = some v :=
  ((gcell hg).1 b o (cell_lt h)).trans h
theorem gk {W w1 : World} (hg : W.grownBy w1 none) {b o : Nat} {v : Value} (h : At W b o v) : At w1 b o v :=
  ⟨gkc hg h.1, ((gcell hg).2 b o (cell_lt h.1)).trans h.2⟩
/-- a function that answers v and changes nothing that was there -/
def Pure (v : Value) (w : World) (e : Ending) (w' : World) : Prop := e = .returned v ∧ w.grownBy w' none
theorem gk1 {W w1 : World} {c : Nat} (hg : W.grownBy w1 (some c)) {b o : Nat} {v : Value} (hb : b ≠ c) (h : At W b o v) : At w1 b o v := by
  have hl := hg.block b (cell_lt h.1) (by intro e; cases e; exact hb rfl)
  exact ⟨(World.cell?_of_block (w := W) hl).trans h.1, (World.frozen?_of_block (w := W) hl).trans h.2⟩
/-- a block of two integers (a cell, as a local variable holds it) -/
def Two (w : World) (b : Nat) (v s : Int) : Prop := At w b 0 (.int .i64 v) ∧ At w b 1 (.int .i64 s)
theorem Two.new (w : World) (v s : Int) (T : Nat) : Two (w.alloc (.cells #[.int .i64 v, .int .i64 s] T)) w.heap.size v s := by
  simp [Two, At, go_sem]
theorem Two.kept {W w1 : World} {b : Nat} {v s : Int} (h : Two W b v s) (hg : W.grownBy w1 none) : Two w1 b v s := ⟨gk hg h.1, gk hg h.2⟩
theorem Two.kept1 {W w1 : World} {b c : Nat} {v s : Int} (h : Two W b v s) (hb : b ≠ c) (hg : W.grownBy w1 (some c)) : Two w1 b v s := ⟨gk1 hg hb h.1, gk1 hg hb h.2⟩
theorem Two.alloc {W : World} {b : Nat} {v s : Int} (h : Two W b v s) (o : Obj) : Two (W.alloc o) b v s := h.kept (galloc (grefl _) o)
theorem Two.lt {W : World} {b : Nat} {v s : Int} (h : Two W b v s) : b < W.heap.size := cell_lt h.1.1
theorem Cur.grew {w w' : World} {c : Nat} (h : Cur w c) (hg : w.grownBy w' none) : Cur w' c := h.kept hg (by simp)
theorem gweak {a b : World} (h : a.grownBy b none) (r : Option Nat) : a.grownBy b r := ⟨h.os, h.tape, h.output, h.size, fun i hi _ => h.block i hi (by simp)⟩
/-- writing into a block that is new -/
theorem gset1 {a w : World} {r : Option Nat} (h : a.grownBy w r) {c : Nat} (hc : a.heap.size ≤ c) (o : Nat) (v : Value) : a.grownBy (w.setCell ⟨c, o, none⟩ v) r :=
  ⟨h.os, h.tape, h.output, by simpa [World.setCell] using h.size, fun i hi hne => (Below.heap_setCell w _ v i (by
    intro e; simp at e; omega)).trans (h.block i hi hne)⟩
/-- what a cell holds, as a function of the world: for a cell that a drawn region writes -/
def valAt (w : World) (b o : Nat) : Value := (w.cell? ⟨b, o, none⟩).getD undef
/-- a cell that is there and may be written, whatever it holds -/
abbrev Live (w : World) (b o : Nat) : Prop := w.cell? ⟨b, o, none⟩ = some (valAt w b o) ∧ w.frozen? ⟨b, o, none⟩ = false
/-- a block of two integers, its four facts laid open -/
abbrev TwoR (w : World) (b : Nat) (v s : Int) : Prop := w.cell? ⟨b, 0, none⟩ = some (.int .i64 v) ∧ w.cell? ⟨b, 1, none⟩ = some (.int .i64 s)
theorem At.live {w : World} {b o : Nat} {v : Value} (h : At w b o v) : Live w b o := ⟨by rw [h.1]; simp [valAt, h.1], h.2⟩
theorem Two.r {w : World} {b : Nat} {v s : Int} (h : Two w b v s) : TwoR w b v s := ⟨h.1.1, h.2.1⟩
theorem TwoR.kept {W w1 : World} {b : Nat} {v s : Int} (h : TwoR W b v s) (hg : W.grownBy w1 none) : TwoR w1 b v s := ⟨gkc hg h.1, gkc hg h.2⟩
theorem Live.at {w : World} {b o : Nat} (h : Live w b o) : At w b o (valAt w b o) := h
theorem Live.kept1 {W w1 : World} {b o c : Nat} (h : Live W b o) (hb : b ≠ c) (hg : W.grownBy w1 (some c)) : Live w1 b o := (gk1 hg hb h.at).live
theorem Live.kept {W w1 : World} {b o : Nat} (h : Live W b o) (hg : W.grownBy w1 none) : Live w1 b o := (gk hg h.at).live
theorem TwoR.kept1 {W w1 : World} {b c : Nat} {v s : Int} (h : TwoR W b v s) (hb : b ≠ c) (hg : W.grownBy w1 (some c)) : TwoR w1 b v s := by
  have hl := hg.block b (cell_lt h.1) (by intro e; cases e; exact hb rfl)
  exact ⟨(World.cell?_of_block (w := W) hl).trans h.1, (World.cell?_of_block (w := W) hl).trans h.2⟩
theorem TwoR.set {W : World} {b r o : Nat} {v s : Int} (h : TwoR W b v s) (hb : b ≠ r) (u : Value) : TwoR (W.setCell ⟨r, o, none⟩ u) b v s := by
  have hl := Below.heap_setCell W ⟨r, o, none⟩ u b hb
  exact ⟨(World.cell?_of_block (w := W) hl).trans h.1, (World.cell?_of_block (w := W) hl).trans h.2⟩
theorem Live.set {W : World} {b o r p : Nat} (h : Live W b o) (u : Value) : Live (W.setCell ⟨r, p, none⟩ u) b o := by
  by_cases hb : (⟨b, o, none⟩ : Addr) = ⟨r, p, none⟩
  · cases hb
    have h1 : (W.setCell ⟨b, o, none⟩ u).cell? ⟨b, o, none⟩ = some u := by simp [go_sem, h.1]
    exact At.live (v := u) ⟨h1, by simp [go_sem, h.2]⟩
  · have h1 : (W.setCell ⟨r, p, none⟩ u).cell? ⟨b, o, none⟩ = W.cell? ⟨b, o, none⟩ := World.cell?_setCell_other W _ _ u (fun e => hb e.symm)
    exact At.live (v := valAt W b o) ⟨h1.trans h.1, by rw [World.frozen?_setCell]; exact h.2⟩
/-- a block of four cells, read -/
abbrev Box4 (w : World) (b : Nat) (x0 x1 x2 x3 : Value) : Prop := w.cell? ⟨b, 0, none⟩ = some x0 ∧ w.cell? ⟨b, 1, none⟩ = some x1 ∧ w.cell? ⟨b, 2, none⟩ = some x2 ∧ w.cell? ⟨b, 3, none⟩ = some x3
theorem Box4.kept {W w1 : World} {b : Nat} {x0 x1 x2 x3 : Value} (h : Box4 W b x0 x1 x2 x3) (hg : W.grownBy w1 none) : Box4 w1 b x0 x1 x2 x3 := ⟨gkc hg h.1, gkc hg h.2.1, gkc hg h.2.2.1, gkc hg h.2.2.2⟩
theorem Box4.new (w : World) (x0 x1 x2 x3 : Value) (T : Nat) : Box4 (w.alloc (.cells #[x0, x1, x2, x3] T)) w.heap.size x0 x1 x2 x3 := by simp [Box4, go_sem]
/-- two cells side by side, read -/
abbrev TwoO (w : World) (b o : Nat) (x0 x1 : Value) : Prop := w.cell? ⟨b, o, none⟩ = some x0 ∧ w.cell? ⟨b, o + 1, none⟩ = some x1
theorem TwoO.kept {W w1 : World} {b o : Nat} {x0 x1 : Value} (h : TwoO W b o x0 x1) (hg : W.grownBy w1 none) : TwoO w1 b o x0 x1 := ⟨gkc hg h.1, gkc hg h.2⟩
/-- the quiet walk of a region, closed to the elaborator -/
structure Calm (ops : Array Oper) (C : World → Prop) (Q : Act → Prop) (l : List Oper) (a : Act) : Prop where
  out : wpQuiet Tryz.prog ops C Q l a
/-- a region that draws its order, whose operations read or call functions that only make memory: one walk of the text's order serves every order; C: what holds in every world on the way -/
theorem region_calm {id : Nat} {Q : Exit → Act → World → Prop} {a : Act} {w : World} {l : List Oper} (C : World → Prop) (hm : Tryz.prog.follows .mixedOrders = true) (hB : Region.lexB .any l.toArray = true) (hC : C w.drew)
    (h : Calm l.toArray C (fun a' => ∀ w', C w' → Q .normal a' w') l a) : (Code.region id l.toArray true).wp Tryz.prog Q a w :=
  wp_region_quiet (C := C) hm hB hC (by simpa using h.out)
theorem calm_step {ops : Array Oper} {C : World → Prop} {Q : Act → Prop} {a : Act} {o : Oper} {rest : List Oper} (hw : Region.wanted o (yielded ops a.tmps) = true)
    (h : ∃ v, (∀ w, C w → o.quietAt Tryz.prog a C w v) ∧ Calm ops C Q rest (a.put o.dst v)) : Calm ops C Q (o :: rest) a :=
  ⟨wpQuiet_step fun _ hK => by obtain ⟨v, h, hn⟩ := h; rw [if_pos hw]; exact ⟨v, h, hK _ hn.out⟩⟩
theorem calm_skip {ops : Array Oper} {C : World → Prop} {Q : Act → Prop} {a : Act} {o : Oper} {rest : List Oper} (hw : Region.wanted o (yielded ops a.tmps) = false) (h : Calm ops C Q rest (a.put o.dst undef)) : Calm ops C Q (o :: rest) a :=
  ⟨BigFrame.wpQuiet_skip hw h.out⟩
theorem calm_nil {ops : Array Oper} {C : World → Prop} {Q : Act → Prop} {a : Act} (h : Q a) : Calm ops C Q [] a := ⟨wpQuiet_nil h⟩
end Go.Proofs.YteialkknddpbjaaGreatDoor
namespace Go.Proofs.YteialkknddpbjaaGreatDoor
open Go.ChangeShapes Go.WideShapes Go.ChangeAt Go.RowKit

theorem Cur.above {w w' : World} {c : Nat} (h : Cur w c) (hs : w.heap.size ≤ w'.heap.size) (hb : ∀ k, k ≤ c → w'.heap[k]? = w.heap[k]?) : Cur w' c := by
  obtain ⟨a, len, cap, i, h, hR, hi, h0, h1, h2, f1, f2⟩ := h
  have hc := hb c (Nat.le_refl _)
  refine ⟨a, len, cap, i, h, ?_, hi, ?_, ?_, ?_, ?_, ?_⟩
  · rcases hR with h | ⟨b, o', ha, h1, h2, h3, h4⟩
    · exact .inl h
    · refine .inr ⟨b, o', ha, h1, by omega, h3, fun k hk => ?_⟩
      obtain ⟨n, n1, n2, n3⟩ := h4 k hk
      exact ⟨n, n1, n2, by rw [World.cell?_of_block (w := w) (hb b (by omega))]; exact n3⟩
  · rw [World.cell?_of_block (w := w) hc]; exact h0
  · rw [World.cell?_of_block (w := w) hc]; exact h1
  · rw [World.cell?_of_block (w := w) hc]; exact h2
  · rw [World.frozen?_of_block (w := w) hc]; exact f1
  · rw [World.frozen?_of_block (w := w) hc]; exact f2
theorem gstep {a b c : World} {k : Nat} {r : Option Nat} (h : a.grownBy b (some k)) (g : b.grownBy c r) (hr : ∀ j, r = some j → a.heap.size ≤ j) : a.grownBy c (some k) :=
  ⟨g.os.trans h.os, g.tape.trans h.tape, g.output.trans h.output, Nat.le_trans h.size g.size, fun i hi hne => (g.block i (Nat.lt_of_lt_of_le hi h.size) (fun e => by have := hr i e.symm; omega)).trans (h.block i hi hne)⟩
theorem gnew {a b c : World} {r : Option Nat} (h : a.grownBy b none) (g : b.grownBy c r) (hr : ∀ j, r = some j → a.heap.size ≤ j) : a.grownBy c none :=
  ⟨g.os.trans h.os, g.tape.trans h.tape, g.output.trans h.output, Nat.le_trans h.size g.size, fun i hi hne => (g.block i (Nat.lt_of_lt_of_le hi h.size) (fun e => by have := hr i e.symm; omega)).trans (h.block i hi hne)⟩
end Go.Proofs.YteialkknddpbjaaGreatDoor
