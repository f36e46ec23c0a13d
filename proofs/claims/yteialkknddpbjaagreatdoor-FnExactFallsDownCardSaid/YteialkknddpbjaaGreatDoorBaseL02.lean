/- Plain mathematics of chapter 2: cells. The laws' own helpers over cells. -/
import Derived.Test.YteialkknddpbjaaGreatDoorMem
import Derived.OpenShut
import Derived.Lib.SmallJoins
namespace Go.Proofs.YteialkknddpbjaaGreatDoor
open Go.ChangeShapes Go.WideShapes Go.ChangeAt Go.RowKit

def cellV (v s : Int) : Value := .agg #[.int .i64 v, .int .i64 s]
def cellOkZ (v s : Int) : Bool := inB v 0 32767 && inB s 0 65520
/-- the value and the sum of CellOf -/
def cofV (d p v : Int) : Int := if sumZ d p v < 0 then 0 else v
def cofS (d p v : Int) : Int := if sumZ d p v < 0 then 0 else sumZ d p v
def goodZ (v s d p : Int) : Bool := cellOkZ v s && fitsZ d p v s
/-- the value and the sum of Rotten -/
def rotV (v s b : Int) : Int := if cellOkZ v s then (if inB b 1 32767 then (v + b) % 32768 else v) else 0
def rotS (v s : Int) : Int := if cellOkZ v s then s else 0
theorem cellOk_iff {v s : Int} : cellOkZ v s = true ↔ (0 ≤ v ∧ v ≤ 32767) ∧ 0 ≤ s ∧ s ≤ 65520 := by simp [cellOkZ, inB_iff]
theorem rotS_ok {v s : Int} (h : cellOkZ v s = true) : rotS v s = s := by simp [rotS, h]
theorem rot_out {v s n : Int} (h : cellOkZ v s = true) (hn : n < 1 ∨ 32767 < n) : rotV v s n = v := by simp [rotV, h, inB_no hn]
theorem rot_in {v s n : Int} (h : cellOkZ v s = true) (h1 : 1 ≤ n) (h2 : n ≤ 32767) : rotV v s n = (v + n) % 32768 := by simp [rotV, h, inB_yes h1 h2]
theorem rot_ne {v s n : Int} (h : cellOkZ v s = true) (h1 : 1 ≤ n) (h2 : n ≤ 32767) : rotV v s n ≠ v := by
  rw [rot_in h h1 h2]; have := cellOk_iff.1 h; omega
theorem rot_ok {v s n : Int} (h : cellOkZ v s = true) : cellOkZ (rotV v s n) (rotS v s) = true := by
  rw [rotS_ok h]
  have h' := cellOk_iff.1 h
  by_cases hn : 1 ≤ n ∧ n ≤ 32767
  · rw [rot_in h hn.1 hn.2]; exact cellOk_iff.2 ⟨by omega, h'.2⟩
  · rw [rot_out h (by omega)]; exact h
theorem cof_good {d p v : Int} (hs : ¬ sumZ d p v < 0) : cofV d p v = v ∧ cofS d p v = sumZ d p v ∧ goodZ v (sumZ d p v) d p = true ∧ ∀ n, 1 ≤ n → n ≤ 32767 → goodZ (rotV v (sumZ d p v) n) (rotS v (sumZ d p v)) d p = false := by
  have h9 := sumZ_hi d p v
  have hd4 : inB d 0 4 = true := by
    cases hh : inB d 0 4
    · exact absurd (sumZ_no (d := d) (p := p) (v := v) (.inl hh)) (by omega)
    · rfl
  have hp4 : inB p 0 15 = true := by
    cases hh : inB p 0 15
    · exact absurd (sumZ_no (d := d) (p := p) (v := v) (.inr (.inl hh))) (by omega)
    · rfl
  have hv4 : inB v 0 32767 = true := by
    cases hh : inB v 0 32767
    · exact absurd (sumZ_no (d := d) (p := p) (v := v) (.inr (.inr hh))) (by omega)
    · rfl
  have hv5 := inB_iff.1 hv4
  have hok : cellOkZ v (sumZ d p v) = true := cellOk_iff.2 ⟨hv5, by omega, h9⟩
  refine ⟨by simp [cofV, hs], by simp [cofS, hs], by simp [goodZ, hok, fitsZ]; omega, fun n h1 h2 => ?_⟩
  have hr := rot_in hok h1 h2
  have hne : sumZ d p (rotV v (sumZ d p v) n) ≠ sumZ d p v := fun h => rot_ne hok h1 h2 (sumZ_inj hv5 (by rw [hr]; omega) hd4 hp4 h)
  rw [rotS_ok hok]
  simp [goodZ, fitsZ, hne]
end Go.Proofs.YteialkknddpbjaaGreatDoor
namespace Go.Proofs.YteialkknddpbjaaGreatDoor
open Go.ChangeShapes Go.WideShapes Go.ChangeAt Go.RowKit Go.Joins

theorem toCell_any (v s : Int) (w : World) :
    Calls Tryz.prog 285 #[.agg #[.int .i64 v, .int .i64 s]] w (Pure (.agg #[.int .i64 v, .int .i64 s]) w) := by
  go_enter Tryz.func285, Tryz.ntmps285
  go_wp2
  refine bodyPost_ret (v := .agg #[.int .i64 v, .int .i64 s]) (by simp [results, Tryz.results285, go_sem]) rfl ⟨rfl, ?_⟩
  repeat (first | exact grefl _ | refine galloc ?_ _ | refine gdrew ?_ _ | refine gsetN ?_ (by simp) _ _)
theorem eqCell_yes (v s : Int) (w : World) :
    Calls Tryz.prog 286 #[.agg #[.int .i64 v, .int .i64 s], .agg #[.int .i64 v, .int .i64 s]] w (Pure (.bool true) w) := by
  go_enter Tryz.func286, Tryz.ntmps286
  go_wp2
  go_ret
  refine ⟨rfl, ?_⟩
  repeat (first | exact grefl _ | refine galloc ?_ _ | refine gdrew ?_ _ | refine gsetN ?_ (by simp) _ _)
set_option maxRecDepth 20000 in
theorem openInt {H : Type} {enc : TypeId × Value → H} {w : World} {base b0 : Nat} {spare : Nat → Bool} {held : Bool} {r : Reach} {v : Value} {d : DataW H} {p : List MemPlace}
    (hv : Value.okWide Tryz.prog w r b0 2 v) (h : DataW.Trod enc Tryz.prog w base spare held 2 v d p) :
    ∃ x : Int, v = .int .i64 x ∧ i64B x := by
  obtain ⟨a, rfl, rfl, rfl, wa⟩ := open_int Tryz.underlying2 hv h
  simp only [Lit.wf, Bool.and_eq_true, decide_eq_true_eq] at wa
  exact ⟨a, rfl, wa⟩
set_option maxRecDepth 20000 in
theorem openCell {H : Type} {enc : TypeId × Value → H} {w : World} {base b0 : Nat} {spare : Nat → Bool} {held : Bool} {r : Reach} {v : Value} {d : DataW H} {p : List MemPlace}
    (hv : Value.okWide Tryz.prog w r b0 259 v) (h : DataW.Trod enc Tryz.prog w base spare held 259 v d p) :
    ∃ x y : Int, v = .agg #[.int .i64 x, .int .i64 y] ∧ i64B x ∧ i64B y := by
  obtain ⟨c0, c1, y0, y1, m, rfl, rfl, rfl, hy0, hy1⟩ := open_agg2 Tryz.underlying259 (by kernel_rfl) (by kernel_rfl) hv h
  obtain ⟨a, e0, rfl, wa⟩ := DataW.trod_int Tryz.underlying2 hy0
  obtain ⟨b, e1, rfl, wb⟩ := DataW.trod_int Tryz.underlying2 hy1
  simp at e0 e1
  subst e0 e1
  simp only [Lit.wf, Bool.and_eq_true, decide_eq_true_eq] at wa wb
  exact ⟨a, b, rfl, wa, wb⟩
end Go.Proofs.YteialkknddpbjaaGreatDoor
