/- The laws' own helpers over disks: what came in, copied. The laws' own helpers over disks: compared, marked, held. -/
import Derived.Test.YteialkknddpbjaaGreatDoorPH06
import Derived.Test.YteialkknddpbjaaGreatDoorPH10
namespace Go.Proofs.YteialkknddpbjaaGreatDoor
open Go.ChangeShapes Go.WideShapes Go.ChangeAt Go.RowKit

theorem made_cells (n : Nat) : (madeCells cellE.z.cells (n * 2)).toList = cellE.all (List.replicate n ((0 : Int), (0 : Int))) := by
  apply List.ext_getElem?
  intro i
  by_cases hi : i < n * 2
  · have h1 : cellE.size = 2 := rfl
    have h2 := cellE.all_get (List.replicate n ((0 : Int), (0 : Int))) (i / 2) (i % 2) (by simp; omega) (by rw [h1]; omega)
    rw [h1, show i / 2 * 2 + i % 2 = i by omega] at h2
    rw [h2]
    simp [madeCells, hi]
    rcases (show i % 2 = 0 ∨ i % 2 = 1 by omega) with e | e <;> simp [e, cellE, Value.cells]
  · rw [List.getElem?_eq_none (by rw [Array.length_toList, size_madeCells]; omega), List.getElem?_eq_none (by rw [Elt.all_length]; simp [cellE]; omega)]
/-- the cells of a slice that was just made -/
def zeros (n : Nat) : Array Value := madeCells cellE.z.cells (n * 2)
theorem make_cells (n : Nat) (hn : n ≤ 1048576) (w : World) : (Instr.makeSlice 35 (.int .i64 n) (.int .i64 n)).run Tryz.prog w = .ok (.slice (some ⟨w.heap.size, 0, none⟩) n n) (w.alloc (.cells (zeros n) 59)) := by
  obtain ⟨i, hi, hz, h1, h2⟩ := info_parts cellE.info
  have hr := run_make (P := Tryz.prog) w cellE.S cellE.T i cellE.z cellE.und hi hz .i64 .i64 n n (by omega) (by omega) (by rw [h2]; show (16 : Int) * n ≤ _; omega) (by omega)
  rw [h1] at hr
  simp only [Int.toNat_natCast] at hr
  exact hr
theorem CS.made (w : World) (n : Nat) (hn : n ≤ 1048576) {base : Nat} (hb : base ≤ w.heap.size) : CS (w.alloc (.cells (zeros n) 59)) base (.slice (some ⟨w.heap.size, 0, none⟩) n n) (List.replicate n (0, 0)) := by
  have := Own.fresh cellE w (List.replicate n ((0 : Int), (0 : Int))) _ (made_cells n) (by simp; omega) hb
  rw [List.length_replicate] at this
  exact this
/-- cells that came in -/
def InCells (w : World) (a : Option Addr) (len : Nat) (l : List (Int × Int)) : Prop :=
  len = l.length ∧ l.length ≤ 9223372036854775807 ∧ (l = [] ∨ ∃ b o, a = some ⟨b, o, none⟩ ∧ b < w.heap.size ∧ ∀ i (h : i < l.length), w.cell? ⟨b, o + i * 2, none⟩ = some (.int .i64 l[i].1) ∧ w.cell? ⟨b, o + i * 2 + 1, none⟩ = some (.int .i64 l[i].2))
theorem InCells.kept {w w' : World} {a : Option Addr} {len : Nat} {l : List (Int × Int)} (h : InCells w a len l) (g : w.grownBy w' none) : InCells w' a len l := by
  obtain ⟨h1, h2, h3 | ⟨b, o, ha, hb, hc⟩⟩ := h
  · exact ⟨h1, h2, .inl h3⟩
  · exact ⟨h1, h2, .inr ⟨b, o, ha, by have := g.size; omega, fun i hi => ⟨gkc g (hc i hi).1, gkc g (hc i hi).2⟩⟩⟩
/-- a new slice of cells -/
def GotC (l : List (Int × Int)) (w : World) (e : Ending) (w' : World) : Prop := ∃ v, e = .returned v ∧ CS w' w.heap.size v l ∧ w.grownBy w' none
/-- a disk that came in -/
def InDisk (w : World) (ka : Option Addr) (km : Nat) (na : Option Addr) (nm : Nat) (d : DZ) : Prop := InCells w ka km d.k ∧ InCells w na nm d.m
theorem InDisk.kept {w w' : World} {ka na : Option Addr} {km nm : Nat} {d : DZ} (h : InDisk w ka km na nm d) (g : w.grownBy w' none) : InDisk w' ka km na nm d := ⟨h.1.kept g, h.2.kept g⟩
end Go.Proofs.YteialkknddpbjaaGreatDoor
namespace Go.Proofs.YteialkknddpbjaaGreatDoor
open Go.ChangeShapes Go.WideShapes Go.ChangeAt Go.RowKit

end Go.Proofs.YteialkknddpbjaaGreatDoor
