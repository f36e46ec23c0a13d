/- The laws' own helpers over disks: what came in, copied. The laws' own helpers over disks: compared, marked, held. -/
import Derived.Test.YtdfhfebcbmolbaaGreatDoorSpecL03g
import Derived.Test.YtdfhfebcbmolbaaGreatDoorBaseL02
namespace Go.Proofs.YtdfhfebcbmolbaaGreatDoor
open Go.ChangeShapes Go.WideShapes Go.ChangeAt Go.RowKit

theorem made_cells (n : Nat) : (madeCells cellE.z.cells (n * 2)).toList = cellE.all (List.replicate n ((0 : Int), (0 : Int))) := by
  apply List.ext_getElem?
  intro i
  by_cases hi : i < n * 2
  · have h1 : cellE.size = 2 := rfl
    have h2 := cellE.all_get (List.replicate n ((0 : Int), (0 : Int))) (i / 2) (i % 2) (by simp; omega) (by rw [h1]; omega)
    rw [h1, show i / 2 * 2 + i % 2 = i by omega] at h2
    rw [h2]
    simp [madeCells, hi]
    rcases (show i % 2 = 0 ∨ i % 2 = 1 by omega) with e | e <;> simp [e, cellE, Value.cells]
  · rw [List.getElem?_eq_none (by rw [Array.length_toList, size_madeCells]; omega), List.getElem?_eq_none (by rw [Elt.all_length]; simp [cellE]; omega)]
/-- the cells of a slice that was just made -/
def zeros (n : Nat) : Array Value := madeCells cellE.z.cells (n * 2)
theorem make_cells (n : Nat) (hn : n ≤ 1048576) (w : World) : (Instr.makeSlice 42 (.int .i64 n) (.int .i64 n)).run Tryz.prog w = .ok (.slice (some ⟨w.heap.size, 0, none⟩) n n) (w.alloc (.cells (zeros n) 157)) := by
  obtain ⟨i, hi, hz, h1, h2⟩ := info_parts cellE.info
  have hr := run_make (P := Tryz.prog) w cellE.S cellE.T i cellE.z cellE.und hi hz .i64 .i64 n n (by omega) (by omega) (by rw [h2]; show (16 : Int) * n ≤ _; omega) (by omega)
  rw [h1] at hr
  simp only [Int.toNat_natCast] at hr
  exact hr
theorem CS.made (w : World) (n : Nat) (hn : n ≤ 1048576) {base : Nat} (hb : base ≤ w.heap.size) : CS (w.alloc (.cells (zeros n) 157)) base (.slice (some ⟨w.heap.size, 0, none⟩) n n) (List.replicate n (0, 0)) := by
  have := Own.fresh cellE w (List.replicate n ((0 : Int), (0 : Int))) _ (made_cells n) (by simp; omega) hb
  rw [List.length_replicate] at this
  exact this
/-- cells that came in -/
def InCells (w : World) (a : Option Addr) (len : Nat) (l : List (Int × Int)) : Prop :=
  len = l.length ∧ l.length ≤ 9223372036854775807 ∧ (l = [] ∨ ∃ b o, a = some ⟨b, o, none⟩ ∧ b < w.heap.size ∧ ∀ i (h : i < l.length), w.cell? ⟨b, o + i * 2, none⟩ = some (.int .i64 l[i].1) ∧ w.cell? ⟨b, o + i * 2 + 1, none⟩ = some (.int .i64 l[i].2))
theorem InCells.kept {w w' : World} {a : Option Addr} {len : Nat} {l : List (Int × Int)} (h : InCells w a len l) (g : w.grownBy w' none) : InCells w' a len l := by
  obtain ⟨h1, h2, h3 | ⟨b, o, ha, hb, hc⟩⟩ := h
  · exact ⟨h1, h2, .inl h3⟩
  · exact ⟨h1, h2, .inr ⟨b, o, ha, by have := g.size; omega, fun i hi => ⟨gkc g (hc i hi).1, gkc g (hc i hi).2⟩⟩⟩
/-- the cells that are filled so far -/
def fillL (l : List (Int × Int)) (k : Nat) : List (Int × Int) := l.take k ++ List.replicate (l.length - k) (0, 0)
theorem fillL_length (l : List (Int × Int)) (k : Nat) (h : k ≤ l.length) : (fillL l k).length = l.length := by simp [fillL]; omega
theorem fillL_set (l : List (Int × Int)) (k : Nat) (h : k < l.length) : (fillL l k).set k l[k] = fillL l (k + 1) := by
  unfold fillL
  rw [List.set_append_right _ _ (by simp; omega), show k - (l.take k).length = 0 by simp; omega, show l.length - k = (l.length - (k + 1)) + 1 by omega, List.replicate_succ, List.set_cons_zero, List.take_succ_eq_append_getElem h, List.append_assoc]
  rfl
/-- a new slice of cells -/
def GotC (l : List (Int × Int)) (w : World) (e : Ending) (w' : World) : Prop := ∃ v, e = .returned v ∧ CS w' w.heap.size v l ∧ w.grownBy w' none
/-- a disk that came in -/
def InDisk (w : World) (ka : Option Addr) (km : Nat) (na : Option Addr) (nm : Nat) (d : DZ) : Prop := InCells w ka km d.k ∧ InCells w na nm d.m
theorem InDisk.kept {w w' : World} {ka na : Option Addr} {km nm : Nat} {d : DZ} (h : InDisk w ka km na nm d) (g : w.grownBy w' none) : InDisk w' ka km na nm d := ⟨h.1.kept g, h.2.kept g⟩
theorem boxed3 (w : World) (n : Int) (dead : Bool) (x2 x3 : Value) (T U : Nat) :
    Box4W (((w.alloc (.cells #[.int .i64 n, .bool dead, x2, x3] T)).alloc (.cells #[.int .i64 0, .bool false, .slice none 0 0, .slice none 0 0] U)).alloc (.cells #[.int .i64 n, .bool dead, .slice none 0 0, .slice none 0 0] U)) w.heap.size (.int .i64 n) (.bool dead) x2 x3 ∧
    Zero4 (((w.alloc (.cells #[.int .i64 n, .bool dead, x2, x3] T)).alloc (.cells #[.int .i64 0, .bool false, .slice none 0 0, .slice none 0 0] U)).alloc (.cells #[.int .i64 n, .bool dead, .slice none 0 0, .slice none 0 0] U)) (w.heap.size + 1) ∧
    DBox (((w.alloc (.cells #[.int .i64 n, .bool dead, x2, x3] T)).alloc (.cells #[.int .i64 0, .bool false, .slice none 0 0, .slice none 0 0] U)).alloc (.cells #[.int .i64 n, .bool dead, .slice none 0 0, .slice none 0 0] U)) (w.heap.size + 1 + 1) (w.heap.size + 3) ⟨n, dead, [], []⟩ (.slice none 0 0) (.slice none 0 0) ∧
    w.grownBy (((w.alloc (.cells #[.int .i64 n, .bool dead, x2, x3] T)).alloc (.cells #[.int .i64 0, .bool false, .slice none 0 0, .slice none 0 0] U)).alloc (.cells #[.int .i64 n, .bool dead, .slice none 0 0, .slice none 0 0] U)) none ∧
    w.heap.size + 3 ≤ (((w.alloc (.cells #[.int .i64 n, .bool dead, x2, x3] T)).alloc (.cells #[.int .i64 0, .bool false, .slice none 0 0, .slice none 0 0] U)).alloc (.cells #[.int .i64 n, .bool dead, .slice none 0 0, .slice none 0 0] U)).heap.size := by
  refine ⟨⟨?_, ?_, ?_, ?_⟩, ⟨?_, ?_, ?_, ?_⟩, ⟨?_, ?_, ?_, ?_, CS.nil _ _, CS.nil _ _, .inl rfl, by simp [Value.ownBlock], by simp [Value.ownBlock]⟩, galloc (galloc (galloc (grefl _) _) _) _, by simp⟩ <;> simp [At, go_sem]
end Go.Proofs.YtdfhfebcbmolbaaGreatDoor
namespace Go.Proofs.YtdfhfebcbmolbaaGreatDoor
open Go.ChangeShapes Go.WideShapes Go.ChangeAt Go.RowKit

theorem boxW (w : World) (x0 x1 x2 x3 : Value) (T : Nat) : Box4W (w.alloc (.cells #[x0, x1, x2, x3] T)) w.heap.size x0 x1 x2 x3 := by
  refine ⟨?_, ?_, ?_, ?_⟩ <;> simp [At, go_sem]
/-- the marks of a list of cells -/
def markL (k : Int) (n : Nat) : List (Int × Int) := (List.range n).map fun i : Nat => (k + 2 * (i : Int), k + 2 * (i : Int) + 1)
theorem markL_length (k : Int) (n : Nat) : (markL k n).length = n := by simp [markL]
theorem markL_get (k : Int) (n i : Nat) (h : i < n) : (markL k n)[i]'(by rw [markL_length]; exact h) = (k + 2 * (i : Int), k + 2 * (i : Int) + 1) := by simp [markL]
/-- the first j cells are marked -/
def partL (k : Int) (l : List (Int × Int)) (j : Nat) : List (Int × Int) := markL k j ++ l.drop j
theorem partL_length (k : Int) (l : List (Int × Int)) (j : Nat) (h : j ≤ l.length) : (partL k l j).length = l.length := by simp [partL, markL_length]; omega
theorem partL_set (k : Int) (l : List (Int × Int)) (j : Nat) (h : j < l.length) : (partL k l j).set j (k + 2 * (j : Int), k + 2 * (j : Int) + 1) = partL k l (j + 1) := by
  unfold partL
  rw [List.set_append_right _ _ (by simp [markL_length]), show j - (markL k j).length = 0 by simp [markL_length], List.drop_eq_getElem_cons h, List.set_cons_zero]
  simp [markL, List.range_succ]
/-- what marking a slice leaves -/
def MarkS (B : Nat) (v : Value) (k : Int) (n : Nat) (w : World) (e : Ending) (w' : World) : Prop := e = .returned (.int .i64 (k + 2 * n)) ∧ CS w' B v (markL k n) ∧ w.grownBy w' v.ownBlock
/-- a disk whose cells are marked from k on -/
def markD (k : Int) (d : DZ) : DZ := { d with k := markL k d.k.length, m := markL (k + 2 * d.k.length) d.m.length }
def markE (k : Int) (d : DZ) : Int := k + 2 * d.k.length + 2 * d.m.length
/-- what marking a disk leaves -/
def MarkD (B : Nat) (kv nv : Value) (k : Int) (d : DZ) (w : World) (e : Ending) (w' : World) : Prop := e = .returned (.int .i64 (markE k d)) ∧ IsD w' B kv nv (markD k d) ∧ Only (Two2 kv nv) w w'
end Go.Proofs.YtdfhfebcbmolbaaGreatDoor
