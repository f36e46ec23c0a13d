/- The puts of a change, as the program's putsOf returns them. -/
import Derived.Test.YtnhefdmnpoaegaaGreatDoorImplL07
import Derived.Test.YtnhefdmnpoaegaaGreatDoorRd
namespace Go.Proofs.YtnhefdmnpoaegaaGreatDoor
open Go.ChangeShapes Go.WideShapes Go.ChangeAt Go.RowKit
attribute [local go_sem] as_one_one as_two_one as_two_two as_nil_one as_nil_two

def putE : Elt (Int × Int) where
  T := 70
  S := 65
  size := 2
  bytes := 16
  z := .agg #[.int .i64 0, .int .i64 0]
  enc := fun p => [.int .i64 p.1, .int .i64 p.2]
  len := fun _ => rfl
  one := fun x u hu => by simp at hu; rcases hu with rfl | rfl <;> rfl
  pos := by omega
  und := Tryz.underlying65
  info := by kernel_rfl
  zs := rfl
def chP : List Int → List Int → List (Int × Int)
  | [d0], [v0] => [(d0, v0)]
  | [d0, d1], [v0, v1] => [(d0, v0), (d1, v1)]
  | _, _ => []
def GotPuts (l : List (Int × Int)) (w : World) (e : Ending) (w' : World) : Prop := ∃ v, e = .returned v ∧ Own putE w' w.heap.size v l ∧ w.grownBy w' none
theorem Own.put_at {w : World} {base n cap : Nat} {a : Option Addr} {l : List (Int × Int)} (h : Own putE w base (.slice a n cap) l) (i : Nat) (hi : i < l.length) :
    ∃ g, a = some ⟨g, 0, none⟩ ∧ g < w.heap.size ∧ At w g (i * 2) (.int .i64 l[i].1) ∧ At w g (i * 2 + 1) (.int .i64 l[i].2) := by
  obtain ⟨g, h1, h2, h3, h4⟩ := Own.at h i hi
  exact ⟨g, h1, h3, h4 0 _ rfl, h4 1 _ rfl⟩
set_option maxRecDepth 8000 in
set_option maxHeartbeats 1000000 in
theorem putsOf_any (ds vs : List Int) (w : World) :
    Calls Tryz.prog 49 #[chV ds vs] w (GotPuts (chP ds vs) w) := by
  unfold chV
  split
  · next d0 v0 =>
    have F := Own.fresh putE (base := w.heap.size) (w.alloc (.cells #[.int .i64 d0, .int .i64 v0] 85)) [(d0, v0)] #[.int .i64 d0, .int .i64 v0] rfl (by simp) (by simp)
    have G := galloc (galloc (grefl w) (.cells #[.int .i64 d0, .int .i64 v0] 85)) (.cells #[.int .i64 d0, .int .i64 v0] 70)
    rw [show (w.alloc (.cells #[.int .i64 d0, .int .i64 v0] 85)).heap.size = w.heap.size + 1 by simp] at F
    unfold oneV
    go_enter Tryz.func49, Tryz.ntmps49
    go_wp2_with fail
    go_ret
    exact ⟨_, rfl, F, G⟩
  · next d0 d1 v0 v1 =>
    have F := Own.fresh putE (base := w.heap.size) (w.alloc (.cells #[.int .i64 d0, .int .i64 v0, .int .i64 d1, .int .i64 v1] 87)) [(d0, v0), (d1, v1)] #[.int .i64 d0, .int .i64 v0, .int .i64 d1, .int .i64 v1] rfl (by simp) (by simp)
    have G := galloc (galloc (grefl w) (.cells #[.int .i64 d0, .int .i64 v0, .int .i64 d1, .int .i64 v1] 87)) (.cells #[.int .i64 d0, .int .i64 v0, .int .i64 d1, .int .i64 v1] 70)
    rw [show (w.alloc (.cells #[.int .i64 d0, .int .i64 v0, .int .i64 d1, .int .i64 v1] 87)).heap.size = w.heap.size + 1 by simp] at F
    unfold twoV
    go_enter Tryz.func49, Tryz.ntmps49
    go_wp2_with fail
    go_ret
    exact ⟨_, rfl, F, G⟩
  · next h1 h2 =>
    have HP : Hid (chP ds vs = []) := by
      show _ = _
      unfold chP
      split
      · exact absurd rfl (h1 _ _ rfl)
      · exact absurd rfl (h2 _ _ _ _ rfl)
      · rfl
    go_enter Tryz.func49, Tryz.ntmps49
    go_wp2_with fail
    go_ret
    exact ⟨_, rfl, by rw [HP.out]; exact Own.nil _ _ _, grefl _⟩
theorem take_map_next {α β : Type} (L : List α) (f : α → β) (k : Nat) (h : k < L.length) : (L.take (k + 1)).map f = (L.take k).map f ++ [f L[k]] := by
  rw [List.take_succ_eq_append_getElem h, List.map_append]; rfl
theorem chP_len (ds vs : List Int) : (chP ds vs).length ≤ 2 := by unfold chP; split <;> simp
theorem ok_lists {p : PZ} (h : p.ok = true) : chP p.ds p.vs = p.ds.zip p.vs ∧ p.vs.length = p.ds.length ∧ 1 ≤ p.ds.length ∧ p.ds.length ≤ 2 ∧ ∀ i (h : i < p.ds.length), 0 ≤ p.ds[i] := by
  obtain ⟨row, ds, vs⟩ := p
  simp only [PZ.ok, Bool.and_eq_true] at h
  obtain ⟨-, h⟩ := h
  unfold plists at h
  split at h
  · next d0 v0 =>
    simp only [pcell, Bool.and_eq_true, inB_iff] at h
    refine ⟨rfl, rfl, by simp, by simp, fun i hi => ?_⟩
    have : i = 0 := by simp at hi; exact hi
    subst this
    exact h.1.1
  · next d0 d1 v0 v1 =>
    simp only [pcell, Bool.and_eq_true, inB_iff] at h
    refine ⟨rfl, rfl, by simp, by simp, fun i hi => ?_⟩
    match i, hi with
    | 0, _ => exact h.1.1.1
    | 1, _ => exact h.2.1.1.1
  · cases h
end Go.Proofs.YtnhefdmnpoaegaaGreatDoor
