/- Slices of cells. -/
import Derived.Test.YtfodjokcobljmaaGreatMem2
import Derived.Test.YtfodjokcobljmaaGreatBaseL02
namespace Go.Proofs.YtfodjokcobljmaaGreat
open Go.ChangeShapes Go.WideShapes Go.ChangeAt Go.RowKit

def cellE : Elt (Int × Int) where
  T := 73
  S := 39
  size := 2
  bytes := 16
  z := .agg #[.int .i64 0, .int .i64 0]
  enc := fun p => [.int .i64 p.1, .int .i64 p.2]
  len := fun _ => rfl
  one := fun x u hu => by simp at hu; rcases hu with rfl | rfl <;> rfl
  pos := by omega
  und := Tryz.underlying39
  info := by kernel_rfl
  zs := rfl
/-- v is a slice that owns the cells l -/
def CS (w : World) (base : Nat) (v : Value) (l : List (Int × Int)) : Prop := Own cellE w base v l
section
variable {w w' : World} {base base' : Nat} {v : Value} {l : List (Int × Int)}
theorem CS.nil (w : World) (base : Nat) : CS w base (.slice none 0 0) [] := Own.nil cellE w base
theorem CS.form (h : CS w base v l) : ∃ a cap, v = .slice a l.length cap ∧ l.length ≤ 9223372036854775807 := Own.form h
theorem CS.sl (h : CS w base v l) : ∃ a n c, v = .slice a n c := Own.sl h
theorem CS.bound {a : Option Addr} {n cap : Nat} (h : CS w base (.slice a n cap) l) : n = l.length ∧ l.length ≤ 9223372036854775807 := Own.bound h
theorem CS.kept {r : Option Nat} (h : CS w base v l) (hg : w.grownBy w' r) (hne : v.ownBlock = none ∨ v.ownBlock ≠ r) : CS w' base v l := Own.kept h hg hne
theorem CS.grew (h : CS w base v l) (hg : w.grownBy w' none) : CS w' base v l := Own.grew h hg
theorem CS.lt (h : CS w base v l) : ∀ k, v.ownBlock = some k → base ≤ k ∧ k < w.heap.size := Own.lt h
theorem CS.lower (h : CS w base v l) (hb : base' ≤ base) : CS w base' v l := Own.lower h hb
theorem CS.raise (h : CS w base v l) (hb : ∀ k, v.ownBlock = some k → base' ≤ k) : CS w base' v l := Own.raise h hb
theorem CS.other {c o : Nat} (h : CS w base v l) (hne : v.ownBlock ≠ some c) (u : Value) : CS (w.setCell ⟨c, o, none⟩ u) base v l := Own.other h hne u
theorem CS.at {a : Option Addr} {n cap : Nat} (h : CS w base (.slice a n cap) l) (i : Nat) (hi : i < l.length) :
    ∃ g, a = some ⟨g, 0, none⟩ ∧ base ≤ g ∧ g < w.heap.size ∧ At w g (i * 2) (.int .i64 l[i].1) ∧ At w g (i * 2 + 1) (.int .i64 l[i].2) := by
  obtain ⟨g, h1, h2, h3, h4⟩ := Own.at h i hi
  exact ⟨g, h1, h2, h3, h4 0 _ rfl, h4 1 _ rfl⟩
/-- writing one cell -/
theorem CS.set {n cap g : Nat} (h : CS w base (.slice (some ⟨g, 0, none⟩) n cap) l) (i : Nat) (hi : i < l.length) (x y : Int) :
    CS ((w.setCell ⟨g, i * 2, none⟩ (.int .i64 x)).setCell ⟨g, i * 2 + 1, none⟩ (.int .i64 y)) base (.slice (some ⟨g, 0, none⟩) n cap) (l.set i (x, y)) := by
  obtain ⟨h0, ⟨h1, h2⟩ | ⟨g', c, cur, hv, hb, hg, h1, h2, h3, h4⟩⟩ := h
  · cases h1
  · cases hv
    refine ⟨Elt.all_length _ _, .inr ⟨g, cap, (cur.setIfInBounds (i * 2) (.int .i64 x)).setIfInBounds (i * 2 + 1) (.int .i64 y), by simp, hb, ?_, by simpa using h1, h2, by simp [h3], ?_⟩⟩
    · exact heap_set_same (heap_set_same hg _) _
    · have : ∀ (l : List (Int × Int)) (i : Nat), i < l.length → cellE.all (l.set i (x, y)) = ((cellE.all l).set (i * 2) (.int .i64 x)).set (i * 2 + 1) (.int .i64 y) := by
        intro l
        induction l with
        | nil => intro i hi; simp at hi
        | cons q r ih =>
          intro i hi
          cases i with
          | zero => rfl
          | succ i =>
            have e := ih i (by simpa using hi)
            simp only [Elt.all, List.set_cons_succ, List.flatMap_cons] at e ⊢
            rw [e]
            simp [cellE, Nat.add_mul]
      rw [this l i hi, ← h4]
      simp [List.take_set]
/-- the slice of one element that an append of one element is written with -/
theorem CS.single (w : World) (x y : Int) (hb : base ≤ w.heap.size) : CS (w.alloc (.cells #[.int .i64 x, .int .i64 y] 73)) base (.slice (some ⟨w.heap.size, 0, none⟩) 1 1) [(x, y)] :=
  Own.fresh cellE w [(x, y)] _ rfl (by simp) hb
theorem CS.empty (w : World) (hb : base ≤ w.heap.size) : CS (w.alloc (.cells #[] 73)) base (.slice (some ⟨w.heap.size, 0, none⟩) 0 0) [] :=
  Own.fresh cellE w [] _ rfl (by simp) hb
end
end Go.Proofs.YtfodjokcobljmaaGreat
