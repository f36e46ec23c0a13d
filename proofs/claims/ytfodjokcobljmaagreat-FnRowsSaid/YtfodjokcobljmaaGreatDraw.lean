/- The cursor over the bytes of a draw: what a draw returns is in range, and it changes nothing but its own cursor and new memory. -/
import Derived.Test.YtfodjokcobljmaaGreatBase
import Derived.Deep.QuietTactic
import Derived.BigQuiet
import Derived.LoopTactic
import Derived.OwnWalk
namespace Go.Proofs.YtfodjokcobljmaaGreat
open Go.ChangeShapes Go.WideShapes Go.ChangeAt Go.RowKit

/-- bytes that can be read at a slice's address, in a block older than c -/
def Row (w : World) (c : Nat) (a : Option Addr) (len : Nat) : Prop :=
  len = 0 ∨ ∃ b o, a = some ⟨b, o, none⟩ ∧ b < c ∧ b < w.heap.size ∧ len ≤ 140737488351232 ∧ ∀ k, k < len → ∃ n : Int, 0 ≤ n ∧ n ≤ 255 ∧ w.cell? ⟨b, o + k, none⟩ = some (.int .u8 n)
/-- block c of the world is a cursor -/
def Cur (w : World) (c : Nat) : Prop :=
  ∃ (a : Option Addr) (len cap i : Nat) (h : Int), Row w c a len ∧ i ≤ len ∧ w.cell? ⟨c, 0, none⟩ = some (.slice a len cap) ∧ w.cell? ⟨c, 1, none⟩ = some (.int .i64 i) ∧ w.cell? ⟨c, 2, none⟩ = some (.int .i64 h)
    ∧ w.frozen? ⟨c, 1, none⟩ = false ∧ w.frozen? ⟨c, 2, none⟩ = false
theorem Cur.lt {w : World} {c : Nat} (h : Cur w c) : c < w.heap.size := by
  obtain ⟨a, len, cap, i, h, _, _, h0, _⟩ := h
  apply Classical.byContradiction; intro hn
  simp [World.cell?, Array.getElem?_eq_none (Nat.le_of_not_lt hn)] at h0
theorem Row.kept {w w' : World} {c : Nat} {a : Option Addr} {len : Nat} (h : Row w c a len) (hs : w.heap.size ≤ w'.heap.size) (hb : ∀ b, b < w.heap.size → b ≠ c → w'.heap[b]? = w.heap[b]?) : Row w' c a len := by
  rcases h with h | ⟨b, o, ha, h1, h2, h3, h4⟩
  · exact .inl h
  · refine .inr ⟨b, o, ha, h1, by omega, h3, fun k hk => ?_⟩
    obtain ⟨n, n1, n2, n3⟩ := h4 k hk
    exact ⟨n, n1, n2, by rw [World.cell?_of_block (w := w) (hb b h2 (by omega))]; exact n3⟩
theorem Cur.kept {w w' : World} {c : Nat} (h : Cur w c) {r : Option Nat} (hg : w.grownBy w' r) (hrow : ∀ k, r = some k → w.heap.size ≤ k) : Cur w' c := by
  have hlt := h.lt
  obtain ⟨a, len, cap, i, h, hR, hi, h0, h1, h2, f1, f2⟩ := h
  have hb : ∀ k, k < w.heap.size → w'.heap[k]? = w.heap[k]? := fun k hk => hg.block k hk (fun e => by have := hrow k e.symm; omega)
  have hc := hb c hlt
  refine ⟨a, len, cap, i, h, hR.kept hg.size (fun b hb' _ => hb b hb'), hi, ?_, ?_, ?_, ?_, ?_⟩
  · rw [World.cell?_of_block (w := w) hc]; exact h0
  · rw [World.cell?_of_block (w := w) hc]; exact h1
  · rw [World.cell?_of_block (w := w) hc]; exact h2
  · rw [World.frozen?_of_block (w := w) hc]; exact f1
  · rw [World.frozen?_of_block (w := w) hc]; exact f2
theorem Cur.alloc {w : World} {c : Nat} (h : Cur w c) (o : Obj) : Cur (w.alloc o) c :=
  h.kept (World.grownBy_alloc w o none) (by simp)

theorem Cur.set {w : World} {c r : Nat} (h : Cur w c) (hr : c < r) (o : Nat) (v : Value) : Cur (w.setCell ⟨r, o, none⟩ v) c := by
  obtain ⟨a, len, cap, i, h, hR, hi, h0, h1, h2, f1, f2⟩ := h
  have hb : ∀ k, k < r → (w.setCell ⟨r, o, none⟩ v).heap[k]? = w.heap[k]? := fun k hk => Below.heap_setCell _ _ _ _ (by intro e; simp at e; omega)
  have hc := hb c hr
  refine ⟨a, len, cap, i, h, ?_, hi, ?_, ?_, ?_, ?_, ?_⟩
  · rcases hR with h | ⟨b, o', ha, h1, h2, h3, h4⟩
    · exact .inl h
    · refine .inr ⟨b, o', ha, h1, by simpa [World.setCell] using h2, h3, fun k hk => ?_⟩
      obtain ⟨n, n1, n2, n3⟩ := h4 k hk
      exact ⟨n, n1, n2, by rw [World.cell?_of_block (w := w) (hb b (by omega))]; exact n3⟩
  · rw [World.cell?_of_block (w := w) hc]; exact h0
  · rw [World.cell?_of_block (w := w) hc]; exact h1
  · rw [World.cell?_of_block (w := w) hc]; exact h2
  · rw [World.frozen?_of_block (w := w) hc]; exact f1
  · rw [World.frozen?_of_block (w := w) hc]; exact f2
theorem Cur.drewN {w : World} {c : Nat} (h : Cur w c) (n : Nat) : Cur (w.drewN n) c := h
theorem and_in (x m : Int) (h0 : 0 ≤ m) (hm : m ≤ 9223372036854775807) : 0 ≤ bits .and .i64 x m ∧ bits .and .i64 x m ≤ m := by
  obtain ⟨m, rfl⟩ := Int.eq_ofNat_of_zero_le h0
  have e : (BitVec.ofInt 64 (m : Int)).toNat = m := by
    rw [BitVec.toNat_ofInt]; omega
  have l : (BitVec.ofInt 64 x &&& BitVec.ofInt 64 (m : Int)).toNat ≤ m := by
    rw [BitVec.toNat_and, e]; exact Nat.and_le_right
  have q : bits .and .i64 x m = ((BitVec.ofInt 64 x &&& BitVec.ofInt 64 (m : Int)).toNat : Int) := by
    show IntKind.i64.wrap _ = _
    exact IntWalk.i64_in ((BitVec.ofInt 64 x &&& BitVec.ofInt 64 (m : Int)).toNat : Int) (by omega)
  rw [q]; omega
theorem gset {w w' : World} {c : Nat} (h : w.grownBy w' (some c)) (o : Nat) (v : Value) : w.grownBy (w'.setCell ⟨c, o, none⟩ v) (some c) :=
  ⟨h.os, h.tape, h.output, by have := h.size; simp [World.setCell]; omega, fun k hk hne => by rw [Below.heap_setCell _ _ _ _ (by intro e; exact hne (by rw [e]))]; exact h.block k hk hne⟩
theorem gdrew {w w' : World} {r : Option Nat} (h : w.grownBy w' r) (n : Nat) : w.grownBy (w'.drewN n) r :=
  ⟨h.os, h.tape, h.output, h.size, h.block⟩
theorem galloc {w w' : World} {r : Option Nat} (h : w.grownBy w' r) (o : Obj) : w.grownBy (w'.alloc o) r :=
  ⟨h.os, h.tape, h.output, by have := h.size; simp; omega, fun k hk hne => by rw [Below.heap_alloc _ _ _ (by have := h.size; omega)]; exact h.block k hk hne⟩
theorem gtrans {a b c : World} {r : Option Nat} (h : a.grownBy b r) (k : b.grownBy c r) : a.grownBy c r :=
  ⟨k.os.trans h.os, k.tape.trans h.tape, k.output.trans h.output, Nat.le_trans h.size k.size, fun i hi hne => (k.block i (Nat.lt_of_lt_of_le hi h.size) hne).trans (h.block i hi hne)⟩
/-- the cursor after its hash and its position were written -/
theorem Cur.mk' {w w' : World} {c : Nat} {a : Option Addr} {len cap i : Nat} {h : Int} (hR : Row w c a len) (hg : w.grownBy w' (some c)) (hi : i ≤ len) (h0 : w'.cell? ⟨c, 0, none⟩ = some (.slice a len cap)) (h1 : w'.cell? ⟨c, 1, none⟩ = some (.int .i64 i)) (h2 : w'.cell? ⟨c, 2, none⟩ = some (.int .i64 h))
    (f1 : w'.frozen? ⟨c, 1, none⟩ = false) (f2 : w'.frozen? ⟨c, 2, none⟩ = false) : Cur w' c :=
  ⟨a, len, cap, i, h, hR.kept hg.size (fun b hb hne => hg.block b hb (by intro e; exact hne (by cases e; rfl))), hi, h0, h1, h2, f1, f2⟩
/-- what a draw leaves: a number of which P holds, the cursor, and a world in which only the cursor and new memory may differ -/
def Drawn (P : Int → Prop) (c : Nat) (w : World) (e : Ending) (w' : World) : Prop :=
  ∃ n : Int, P n ∧ e = .returned (.int .i64 n) ∧ Cur w' c ∧ w.grownBy w' (some c)

theorem l1Byte_any (c : Nat) (w : World) (hc : Cur w c) :
    Calls Tryz.prog 69 #[.pointer (some ⟨c, 0, none⟩)] w (Drawn (fun n => 0 ≤ n ∧ n ≤ 255) c w) := by
  obtain ⟨a, len, cap, i, h, hR, hi, h0, h1, h2, f1, f2⟩ := hc
  have HR := Lib.hid hR
  by_cases hl : i < len
  · rcases hR with hR | ⟨b, o, rfl, hb0, hbs, hm, hR⟩
    · omega
    obtain ⟨n, n1, n2, n3⟩ := hR i hl
    have hb : b ≠ c := by omega
    clear hR hb0
    go_enter Tryz.func69, Tryz.ntmps69
    go_wp2
    generalize wrap64 (wrap64 (h * 6364136223846793005) + 1442695040888963407) = h'
    go_quiet (fail)
    go_wp2
    obtain ⟨hx0, hx1⟩ := and_in (bits BinOp.xor IntKind.i64 (h' / 8589934592) (h' / 35184372088832)) 255 (by omega) (by omega)
    generalize bits BinOp.and IntKind.i64 (bits BinOp.xor IntKind.i64 (h' / 8589934592) (h' / 35184372088832)) 255 = x at *
    go_quiet (fail)
    go_wp2
    go_quiet (fail)
    go_wp2
    go_ret
    have hg : ∀ k, w.grownBy (((w.setCell ⟨c, 2, none⟩ (.int .i64 h')).drewN k).setCell ⟨c, 1, none⟩ (.int .i64 ((i : Int) + 1))) (some c) := fun k => gset (gdrew (gset (World.grownBy.refl w _) _ _) _) _ _
    exact ⟨_, and_in (x + n) 255 (by omega) (by omega), rfl, Cur.mk' (i := i + 1) (h := h') (cap := cap) HR.out (hg _) (by omega) (by simp [h0, go_sem]) (by simp [h1, go_sem]) (by simp [h2, go_sem]) (by simp [f1, go_sem]) (by simp [f2, go_sem]), hg _⟩
  · have hl' : ¬ ((i : Int) < (len : Int)) := by omega
    go_enter Tryz.func69, Tryz.ntmps69
    go_wp2
    generalize wrap64 (wrap64 (h * 6364136223846793005) + 1442695040888963407) = h'
    go_quiet (fail)
    go_wp2
    obtain ⟨hx0, hx1⟩ := and_in (bits BinOp.xor IntKind.i64 (h' / 8589934592) (h' / 35184372088832)) 255 (by omega) (by omega)
    generalize bits BinOp.and IntKind.i64 (bits BinOp.xor IntKind.i64 (h' / 8589934592) (h' / 35184372088832)) 255 = x at *
    go_quiet (fail)
    go_wp2
    go_ret
    have hg : ∀ k l, w.grownBy (((w.setCell ⟨c, 2, none⟩ (.int .i64 h')).drewN k).drewN l) (some c) := fun k l => gdrew (gdrew (gset (World.grownBy.refl w _) _ _) _) _
    exact ⟨_, ⟨hx0, hx1⟩, rfl, Cur.mk' (i := i) (h := h') (cap := cap) HR.out (hg _ _) (by omega) (by simp [h0, go_sem]) (by simp [h1, go_sem]) (by simp [h2, go_sem]) (by simp [f1, go_sem]) (by simp [f2, go_sem]), hg _ _⟩
theorem l1Below_any (c : Nat) (n : Int) (w : World) (hc : Cur w c) (hn : 0 < n ∧ n ≤ 9223372036854775807) :
    Calls Tryz.prog 44 #[.pointer (some ⟨c, 0, none⟩), .int .i64 n] w (Drawn (fun x => 0 ≤ x ∧ x < n) c w) := by
  obtain ⟨hn0, hn9⟩ := hn
  have hn1 : decide (n ≤ 0) = false := by simp; omega
  by_cases hs : n ≤ 256
  · go_enter Tryz.func44, Tryz.ntmps44
    go_wp2_with fail
    refine (l1Byte_any c _ hc).mono ?_
    rintro e w1 ⟨x, ⟨hx0, hx1⟩, rfl, hc1, hg1⟩
    have HC := Lib.hid hc1; clear hc1
    go_wp2_with fail
    go_ret
    exact ⟨_, ⟨Int.emod_nonneg _ (by omega), Int.emod_lt_of_pos _ (by omega)⟩, rfl, HC.out, hg1⟩
  · have hs' : decide (n ≤ 256) = false := by simp; omega
    go_enter Tryz.func44, Tryz.ntmps44
    go_wp2_with fail
    refine (l1Byte_any c _ hc).mono ?_
    rintro e w1 ⟨x, ⟨hx0, hx1⟩, rfl, hc1, hg1⟩
    go_wp2_with fail
    refine (l1Byte_any c _ hc1).mono ?_
    rintro e w2 ⟨y, ⟨hy0, hy1⟩, rfl, hc2, hg2⟩
    go_wp2_with fail
    refine (l1Byte_any c _ hc2).mono ?_
    rintro e w3 ⟨z, ⟨hz0, hz1⟩, rfl, hc3, hg3⟩
    go_wp2_with fail
    refine (l1Byte_any c _ hc3).mono ?_
    rintro e w4 ⟨u, ⟨hu0, hu1⟩, rfl, hc4, hg4⟩
    go_wp2_with fail
    go_ret
    exact ⟨_, ⟨Int.emod_nonneg _ (by omega), Int.emod_lt_of_pos _ (by omega)⟩, rfl, hc4, gtrans hg1 (gtrans hg2 (gtrans hg3 hg4))⟩
def DrawnB (c : Nat) (w : World) (e : Ending) (w' : World) : Prop :=
  ∃ b : Bool, e = .returned (.bool b) ∧ Cur w' c ∧ w.grownBy w' (some c)
theorem l1Once_any (c : Nat) (n : Int) (w : World) (hc : Cur w c) (hn : 0 < n ∧ n ≤ 9223372036854775807) :
    Calls Tryz.prog 43 #[.pointer (some ⟨c, 0, none⟩), .int .i64 n] w (DrawnB c w) := by
  go_enter Tryz.func43, Tryz.ntmps43
  go_wp2_with fail
  refine (l1Below_any c _ _ hc hn).mono ?_
  rintro e w1 ⟨x, ⟨hx0, hx1⟩, rfl, hc1, hg1⟩
  go_wp2_with fail
  go_ret
  exact ⟨_, rfl, hc1, hg1⟩
theorem l1From_any (c : Nat) (lo hi : Int) (w : World) (hc : Cur w c) (hl : -4611686018427387904 ≤ lo) (hlh : lo ≤ hi) (hh : hi ≤ 4611686018427387900) :
    Calls Tryz.prog 46 #[.pointer (some ⟨c, 0, none⟩), .int .i64 lo, .int .i64 hi] w (Drawn (fun x => lo ≤ x ∧ x ≤ hi) c w) := by
  go_enter Tryz.func46, Tryz.ntmps46
  go_wp2_with fail
  refine (l1Below_any c _ _ hc (by omega)).mono ?_
  rintro e w1 ⟨x, ⟨hx0, hx1⟩, rfl, hc1, hg1⟩
  go_wp2_with fail
  go_ret
  exact ⟨_, ⟨by omega, by omega⟩, rfl, hc1, hg1⟩
/-- the cursor that l1New returns is a new block -/
def Began (w : World) (e : Ending) (w' : World) : Prop :=
  ∃ c : Nat, e = .returned (.pointer (some ⟨c, 0, none⟩)) ∧ w.heap.size ≤ c ∧ Cur w' c ∧ w.grownBy w' none
/-- the bytes of a draw, as they lie in a world -/
def CodeAt (w : World) (a : Option Addr) (len : Nat) : Prop :=
  len = 0 ∨ ∃ b o, a = some ⟨b, o, none⟩ ∧ b < w.heap.size ∧ len ≤ 140737488351232 ∧ ∀ k, k < len → ∃ n : Int, 0 ≤ n ∧ n ≤ 255 ∧ w.cell? ⟨b, o + k, none⟩ = some (.int .u8 n)
theorem CodeAt.row {w : World} {a : Option Addr} {len c : Nat} (h : CodeAt w a len) (hc : w.heap.size ≤ c) : Row w c a len := by
  rcases h with h | ⟨b, o, h1, h2, h3, h4⟩
  · exact .inl h
  · exact .inr ⟨b, o, h1, by omega, h2, h3, h4⟩
theorem CodeAt.kept {w w' : World} {a : Option Addr} {len : Nat} (h : CodeAt w a len) (hb : Below w.heap.size w w') : CodeAt w' a len := by
  rcases h with h | ⟨b, o, h1, h2, h3, h4⟩
  · exact .inl h
  · refine .inr ⟨b, o, h1, by have := hb.size; omega, h3, fun k hk => ?_⟩
    obtain ⟨n, n1, n2, n3⟩ := h4 k hk
    exact ⟨n, n1, n2, by rw [hb.cell (p := ⟨b, o + k, none⟩) h2]; exact n3⟩
theorem l1New_any (a : Option Addr) (len cap : Nat) (w : World) (hR : CodeAt w a len) :
    Calls Tryz.prog 21 #[.slice a len cap] w (Began w) := by
  have hm : len ≤ 140737488351232 := by rcases hR with h | ⟨_, _, _, _, h, _⟩ <;> omega
  have HR := Lib.hid hR
  clear hR
  go_enter Tryz.func21, Tryz.ntmps21
  go_wp2
  go_loop [3, 4] (fun h i => ∃ (k : Nat) (z : Int), k ≤ len ∧ i = .int .i64 k ∧ h = .int .i64 z ∧ 0 ≤ z ∧ z ≤ 1000000000000000) (fun _ i => len - (intOf i).toNat)
  case atStart => exact ⟨0, _, Nat.zero_le _, rfl, rfl, by omega, by omega⟩
  case round =>
    obtain ⟨k, z, hk, rfl, rfl, hz0, hz1⟩ := hrel
    by_cases hlt : k < len
    · rcases HR.out with h | ⟨b, o, rfl, hbs, _, hR⟩
      · omega
      obtain ⟨n, n1, n2, n3⟩ := hR k hlt
      clear hR
      go_wp2
      obtain ⟨hx0, hx1⟩ := and_in (z * 137 + n + 11) 1073741823 (by omega) (by omega)
      generalize bits BinOp.and IntKind.i64 (z * 137 + n + 11) 1073741823 = x at *
      go_round
      case rel => exact ⟨k + 1, _, by omega, by go_num, rfl, hx0, by omega⟩
      case measure => simp [intOf]; omega
    · go_wp2
      go_ret
      exact ⟨w.heap.size, rfl, Nat.le_refl _, ⟨a, len, cap, 0, z, (HR.out.row (Nat.le_refl _)).kept (by simp) (fun b hb _ => Below.heap_alloc _ _ _ hb), by omega, by simp [go_sem], by simp [go_sem], by simp [go_sem], by simp [go_sem], by simp [go_sem]⟩, World.grownBy_alloc _ _ _⟩
theorem gfresh {a b c : World} {k : Nat} (h : a.grownBy b none) (hk : a.heap.size ≤ k) (h2 : b.grownBy c (some k)) : a.grownBy c none :=
  ⟨h2.os.trans h.os, h2.tape.trans h.tape, h2.output.trans h.output, Nat.le_trans h.size h2.size, fun i hi _ => (h2.block i (Nat.lt_of_lt_of_le hi h.size) (by intro e; cases e; omega)).trans (h.block i hi (by simp))⟩
theorem gbelow {a b : World} (h : a.grownBy b none) : Below a.heap.size a b := (Below.refl _ _).grown h (Nat.le_refl _) (by simp)
def i64B (n : Int) : Prop := -9223372036854775808 ≤ n ∧ n ≤ 9223372036854775807
theorem l1DrawDisk_any (c : Nat) (w : World) (hc : Cur w c) :
    Calls Tryz.prog 23 #[.pointer (some ⟨c, 0, none⟩)] w (Drawn (fun x => -1 ≤ x ∧ x ≤ 5) c w) := by
  go_enter Tryz.func23, Tryz.ntmps23
  go_wp2_with fail
  refine (l1From_any c _ _ _ hc (by omega) (by omega) (by omega)).mono ?_
  rintro e w1 ⟨x, ⟨hx0, hx1⟩, rfl, hc1, hg1⟩
  go_wp2_with fail
  go_ret
  exact ⟨_, ⟨hx0, hx1⟩, rfl, hc1, hg1⟩
/-- a table written out in the text, read behind a draw -/
theorem table_cell {w1 w2 : World} {c T : Nat} {cs : Array Value} (h : (w1.alloc (.cells cs T)).grownBy w2 (some c)) (hc : c < w1.heap.size) (k : Nat) : w2.cell? ⟨w1.heap.size, k, none⟩ = cs[k]? := by
  have hb := h.block w1.heap.size (by simp) (by intro e; cases e; omega)
  have hn : (w1.alloc (.cells cs T)).heap[w1.heap.size]? = some (.cells cs T) := by
    show (w1.heap.push _)[_]? = _
    simp
  unfold World.cell?; rw [hb, hn]; rfl
theorem l1DrawPlace_any (c : Nat) (w : World) (hc : Cur w c) :
    Calls Tryz.prog 24 #[.pointer (some ⟨c, 0, none⟩)] w (Drawn i64B c w) := by
  go_enter Tryz.func24, Tryz.ntmps24
  go_wp2_with fail
  refine (l1Once_any c _ _ hc (by omega)).mono ?_
  rintro e w1 ⟨b, rfl, hc1, hg1⟩
  cases b
  · go_wp2_with fail
    refine (l1Below_any c _ _ hc1 (by omega)).mono ?_
    rintro e w2 ⟨x, ⟨hx0, hx1⟩, rfl, hc2, hg2⟩
    go_wp2_with fail
    go_ret
    exact ⟨_, ⟨by omega, by omega⟩, rfl, hc2, gtrans hg1 hg2⟩
  · go_wp2_with fail
    refine (l1Below_any c _ _ (hc1.alloc _) (by omega)).mono ?_
    rintro e w2 ⟨x, ⟨hx0, hx1⟩, rfl, hc2, hg2⟩
    obtain ⟨k, rfl⟩ := Int.eq_ofNat_of_zero_le hx0
    obtain ⟨v, hv, hcell⟩ : ∃ v, i64B v ∧ w2.cell? ⟨w1.heap.size, k, none⟩ = some (.int .i64 v) := by
      rw [table_cell hg2 hc1.lt k]
      rcases (show k = 0 ∨ k = 1 ∨ k = 2 ∨ k = 3 by omega) with rfl | rfl | rfl | rfl <;> exact ⟨_, ⟨by omega, by omega⟩, rfl⟩
    go_wp2_with fail
    go_ret
    exact ⟨_, hv, rfl, hc2, gtrans (galloc hg1 _) hg2⟩
theorem l1DrawValue_any (c : Nat) (w : World) (hc : Cur w c) :
    Calls Tryz.prog 91 #[.pointer (some ⟨c, 0, none⟩)] w (Drawn i64B c w) := by
  go_enter Tryz.func91, Tryz.ntmps91
  go_wp2_with fail
  refine (l1Once_any c _ _ hc (by omega)).mono ?_
  rintro e w1 ⟨b, rfl, hc1, hg1⟩
  cases b
  · go_wp2_with fail
    refine (l1Below_any c _ _ hc1 (by omega)).mono ?_
    rintro e w2 ⟨x, ⟨hx0, hx1⟩, rfl, hc2, hg2⟩
    go_wp2_with fail
    go_ret
    exact ⟨_, ⟨by omega, by omega⟩, rfl, hc2, gtrans hg1 hg2⟩
  · go_wp2_with fail
    refine (l1Below_any c _ _ (hc1.alloc _) (by omega)).mono ?_
    rintro e w2 ⟨x, ⟨hx0, hx1⟩, rfl, hc2, hg2⟩
    obtain ⟨k, rfl⟩ := Int.eq_ofNat_of_zero_le hx0
    obtain ⟨v, hv, hcell⟩ : ∃ v, i64B v ∧ w2.cell? ⟨w1.heap.size, k, none⟩ = some (.int .i64 v) := by
      rw [table_cell hg2 hc1.lt k]
      rcases (show k = 0 ∨ k = 1 ∨ k = 2 ∨ k = 3 by omega) with rfl | rfl | rfl | rfl <;> exact ⟨_, ⟨by omega, by omega⟩, rfl⟩
    go_wp2_with fail
    go_ret
    exact ⟨_, hv, rfl, hc2, gtrans (galloc hg1 _) hg2⟩
end Go.Proofs.YtfodjokcobljmaaGreat
