/- Arrays as the laws hold them: taken over, measured, compared, marked, held. What a law over arrays holds on to: two boxes; the arrays that are answered are small. -/
import Derived.Test.YteialkknddpbjaaGreatDoorPH30
import Derived.Test.YteialkknddpbjaaGreatDoorPH31
import Derived.Test.YteialkknddpbjaaGreatDoorPH38
import Derived.Test.YteialkknddpbjaaGreatDoorPH29
namespace Go.Proofs.YteialkknddpbjaaGreatDoor
open Go.ChangeShapes Go.WideShapes Go.ChangeAt Go.RowKit

def noRep : RZ := (0, 0, 0)
def repA (l : List DZ) (r : Int) : RZ := (repOf l r).getD noRep
theorem rep_none {l : List DZ} {r : Int} (h : repGo l r = false) : repA l r = noRep ∧ (repOf l r).isSome = false := by simp [repA, repOf, h]
theorem rep_some {l : List DZ} {r : Int} (h : repGo l r = true) : repA l r = (r, badOf l r, tellV l (badOf l r) r) ∧ (repOf l r).isSome = true := by simp [repA, repOf, h]
set_option maxRecDepth 8000 in
set_option maxHeartbeats 4000000 in
theorem repairIn_any (v : Value) (l : List DZ) (r : Int) (w : World) (h : LD w v l) (hok : disksOkZ l = true) :
    Calls Tryz.prog 136 #[v, .int .i64 r] w (Pure (.tuple #[repV (repA l r), .bool (repOf l r).isSome]) w) := by
  obtain ⟨a, cap, rfl, hm⟩ := h.form
  have hl5 := ok_len5 hok
  unfold repV
  have e0 := galloc (grefl w) (.cells #[.int .i64 0, .int .i64 0, .int .i64 0] 130)
  have R0 : At (w.alloc (.cells #[.int .i64 0, .int .i64 0, .int .i64 0] 130)) w.heap.size 0 (.int .i64 0) ∧ At (w.alloc (.cells #[.int .i64 0, .int .i64 0, .int .i64 0] 130)) w.heap.size 1 (.int .i64 0) ∧ At (w.alloc (.cells #[.int .i64 0, .int .i64 0, .int .i64 0] 130)) w.heap.size 2 (.int .i64 0) := by simp [At, go_sem]
  have s0 : w.heap.size < (w.alloc (.cells #[.int .i64 0, .int .i64 0, .int .i64 0] 130)).heap.size := by simp
  have hcan : hasZ l r = decide (0 ≤ r ∧ r < rowsZ l) := by unfold hasZ; rw [hok]; simp
  go_enter Tryz.func136, Tryz.ntmps136
  go_upto_region 1 with (fail)
  generalize w.alloc (.cells #[.int .i64 0, .int .i64 0, .int .i64 0] 130) = W at *
  have h0 := h.kept e0
  go_wp2_with fail
  go_fit (implBadIn_any _ l r _ h0)
  rintro e w1 ⟨bv, rfl, C1, g1⟩
  obtain ⟨ba, bn, bc, rfl⟩ := C1.sl
  have hbn : bn = (badInZ l r).length := C1.bound.1
  obtain ⟨⟨z0, y0⟩, ⟨z1, y1⟩, ⟨z2, y2⟩⟩ : At w1 w.heap.size 0 (.int .i64 0) ∧ At w1 w.heap.size 1 (.int .i64 0) ∧ At w1 w.heap.size 2 (.int .i64 0) := ⟨gk g1 R0.1, gk g1 R0.2.1, gk g1 R0.2.2⟩
  have G1 := gtrans e0 g1
  have hs1 := g1.size
  have HNo : repGo l r = false → Hid (repA l r = noRep ∧ (repOf l r).isSome = false) := rep_none
  clear R0
  by_cases hb1 : bn = 1
  rotate_left
  · have hno := HNo (by
      unfold repGo
      by_cases hr : 0 ≤ r ∧ r < rowsZ l
      · have e : badInZ l r = badZ l r := by unfold badInZ; rw [hcan, decide_eq_true hr]; rfl
        rw [e] at hbn
        rw [decide_eq_false (show ¬ (badZ l r).length = 1 by omega)]; simp
      · rw [decide_eq_false hr]; rfl)
    have hbne : ((bn : Int) != 1) = true := bne_iff_ne.2 (by omega)
    clear hbn hb1
    go_wp2_with fail
    rw [hno.out.1, hno.out.2]
    refine bodyPost_ret (v := .tuple #[.agg #[.int .i64 0, .int .i64 0, .int .i64 0], .bool false]) (by simp [results, Tryz.results136, go_sem, z0, z1, z2]) rfl ⟨rfl, ?_⟩
    repeat (first | exact G1 | refine gdrew ?_ _ | refine gsetN ?_ (by simp) _ _)
  have hlen : 0 < (badInZ l r).length := by omega
  have hex : badInZ l r = badZ l r ∧ (0 ≤ r ∧ r < rowsZ l) := by
    by_cases hr : 0 ≤ r ∧ r < rowsZ l
    · exact ⟨by unfold badInZ; rw [hcan, decide_eq_true hr]; rfl, hr⟩
    · have : badInZ l r = [] := by unfold badInZ; rw [hcan, decide_eq_false hr]; rfl
      rw [this] at hlen; simp at hlen
  obtain ⟨hbe, hr⟩ := hex
  rw [hbe] at C1 hlen hbn
  obtain ⟨bg, rfl, hbg, hbgl, ⟨x0, f0⟩⟩ := C1.at 0 hlen
  obtain ⟨j, hjl, hj⟩ := badZ_at (l := l) (r := r) 0 hlen
  have hbo : badOf l r = j := by unfold badOf; rw [List.getD_eq_getElem?_getD, List.getElem?_eq_getElem hlen, hj]; rfl
  rw [hj] at x0
  obtain ⟨dg, dof, ka, km, kc, na, nm, nc, rfl, t0, t1, t2, t3, D⟩ := (h.kept G1).at j hjl
  have hji : (j : Int) < l.length := by omega
  have hbeq : ((1 : Int) != 1) = false := rfl
  have hone : (badZ l r).length = 1 := by omega
  have HOne := Lib.hid hone
  obtain rfl : bn = 1 := by omega
  clear hbn hone
  have hgj : l.getD j .zero = l[j] := getD_at hjl
  cases hdd : l[j].dead
  rotate_left
  · have hno := HNo (by unfold repGo; rw [hbo, hgj, hdd]; simp)
    rw [hdd] at t1
    clear HOne
    go_wp2_with fail
    rw [hno.out.1, hno.out.2]
    refine bodyPost_ret (v := .tuple #[.agg #[.int .i64 0, .int .i64 0, .int .i64 0], .bool false]) (by simp [results, Tryz.results136, go_sem, z0, z1, z2]) rfl ⟨rfl, ?_⟩
    repeat (first | exact G1 | refine gdrew ?_ _ | refine gsetN ?_ (by simp) _ _)
  have hyes : Hid (repA l r = (r, j, tellV l j r) ∧ (repOf l r).isSome = true) := by
    have := rep_some (l := l) (r := r) (by unfold repGo; rw [hbo, hgj, hdd, decide_eq_true hr, decide_eq_true HOne.out]; rfl)
    rw [hbo] at this; exact this
  have HC := cellAt_in (l := l) (d := (j : Int)) (r := r) (by rw [hcan, decide_eq_true hr]) ⟨by omega, by omega⟩
  have HCh : Hid (cellAtV l j r = tellV l j r) := HC.2
  clear HC
  rw [hdd] at t1
  clear HOne HNo
  go_wp2_with fail
  go_fit (implCellAt_any _ l j r _ (h.kept G1))
  rintro e w2 ⟨rfl, g2⟩
  rw [HCh.out]
  have c0 := gkc g2 x0
  obtain ⟨q0, p0⟩ := gk g2 ⟨z0, y0⟩
  obtain ⟨q1, p1⟩ := gk g2 ⟨z1, y1⟩
  obtain ⟨q2, p2⟩ := gk g2 ⟨z2, y2⟩
  have G2 := gtrans G1 g2
  clear x0 z0 z1 z2 y0 y1 y2 t0 t1 t2 t3 D
  go_wp2_with fail
  rw [hyes.out.1, hyes.out.2]
  refine bodyPost_ret (v := .tuple #[.agg #[.int .i64 r, .int .i64 (j : Int), .int .i64 (tellV l j r)], .bool true]) (by simp [results, Tryz.results136, go_sem, q0, q1, q2]) rfl ⟨rfl, ?_⟩
  repeat (first | exact G2 | refine gdrew ?_ _ | refine gsetN ?_ (by simp) _ _)
end Go.Proofs.YteialkknddpbjaaGreatDoor

namespace Go.Proofs.YteialkknddpbjaaGreatDoor
open Go.ChangeShapes Go.WideShapes Go.ChangeAt Go.RowKit Go.Joins Go.Deep
attribute [local go_sem] str_list str_size

/-- an array that came in -/
def InArray (w : World) (da : Option Addr) (dn : Nat) (z : AZ) : Prop := i64B z.stage ∧ z.log.length ≤ 9223372036854775807 ∧ z.next.length ≤ 9223372036854775807 ∧ InDisks w da dn z.ds
theorem InArray.kept {w w' : World} {da : Option Addr} {dn : Nat} {z : AZ} (h : InArray w da dn z) (g : w.grownBy w' none) : InArray w' da dn z := ⟨h.1, h.2.1, h.2.2.1, h.2.2.2.kept g⟩
set_option maxRecDepth 8000
section
variable {H : Type} {enc : TypeId × Value → H} {w : World} {base : Nat} {held : Bool}
end
end Go.Proofs.YteialkknddpbjaaGreatDoor
namespace Go.Proofs.YteialkknddpbjaaGreatDoor
open Go.ChangeShapes Go.WideShapes Go.ChangeAt Go.RowKit

/-- two boxes of five cells -/
abbrev PA (w : World) (b : Nat) (x0 x1 x2 x3 x4 : Value) (c : Nat) (y0 y1 y2 y3 y4 : Value) : Prop := Box5 w b x0 x1 x2 x3 x4 ∧ Box5 w c y0 y1 y2 y3 y4
section
variable {w w' : World} {b c : Nat} {x0 x1 x2 x3 x4 y0 y1 y2 y3 y4 : Value}
theorem PA.kept (h : PA w b x0 x1 x2 x3 x4 c y0 y1 y2 y3 y4) (g : w.grownBy w' none) : PA w' b x0 x1 x2 x3 x4 c y0 y1 y2 y3 y4 := ⟨Box5.kept h.1 g, Box5.kept h.2 g⟩
theorem PA.drew (h : PA w b x0 x1 x2 x3 x4 c y0 y1 y2 y3 y4) : PA w.drew b x0 x1 x2 x3 x4 c y0 y1 y2 y3 y4 := h
end
end Go.Proofs.YteialkknddpbjaaGreatDoor
