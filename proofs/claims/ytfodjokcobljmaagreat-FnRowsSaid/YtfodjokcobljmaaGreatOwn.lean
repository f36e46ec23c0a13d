/- Slices that own their memory: their elements in a block of their own, from its beginning. -/
import Derived.Test.YtfodjokcobljmaaGreatMem
import Derived.Laws.AppendOwn
import Derived.Laws.MakeOwn
import Derived.Maps.AppendAt
import Derived.Deep.AppendLies
import Derived.RegionTactic
import Derived.OwnWalk
namespace Go.Proofs.YtfodjokcobljmaaGreat
open Go.ChangeShapes Go.WideShapes Go.ChangeAt Go.RowKit

/-- a kind of elements: how one lies in memory -/
structure Elt (α : Type) where
  T : TypeId
  S : TypeId
  size : Nat
  bytes : Nat
  z : Value
  enc : α → List Value
  len : ∀ x, (enc x).length = size
  one : ∀ x, ∀ u ∈ enc x, u.oneCell' = true
  pos : 0 < size
  und : Tryz.prog.underlying S = some (.slice T)
  info : (Tryz.prog.info? T).map (fun i => (i.zero, i.size, i.bytes)) = some (some z, size, bytes)
  zs : z.cells.size = size
section
variable {α : Type} (E : Elt α)
/-- the memory of a list -/
def Elt.all (l : List α) : List Value := l.flatMap E.enc
theorem Elt.all_length (l : List α) : (E.all l).length = l.length * E.size := by
  induction l with
  | nil => simp [Elt.all]
  | cons p r ih => simp only [Elt.all, List.flatMap_cons, List.length_append, List.length_cons] at *; rw [ih, E.len, Nat.add_mul]; omega
theorem Elt.all_append (a b : List α) : E.all (a ++ b) = E.all a ++ E.all b := by simp [Elt.all]
theorem Elt.all_get (l : List α) (i j : Nat) (hi : i < l.length) (hj : j < E.size) : (E.all l)[i * E.size + j]? = (E.enc l[i])[j]? := by
  induction l generalizing i with
  | nil => simp at hi
  | cons p r ih =>
    cases i with
    | zero => simp [Elt.all, List.getElem?_append_left, E.len, hj]
    | succ i =>
      have h1 : (i + 1) * E.size + j = (E.enc p).length + (i * E.size + j) := by rw [E.len, Nat.add_mul]; omega
      rw [show E.all (p :: r) = E.enc p ++ E.all r by simp [Elt.all], h1, List.getElem?_append_right (by omega), Nat.add_sub_cancel_left]
      exact ih i (by simpa using hi)
theorem Elt.all_one (l : List α) : ∀ u ∈ E.all l, u.oneCell' = true := by
  intro u hu
  simp only [Elt.all, List.mem_flatMap] at hu
  obtain ⟨x, _, hx⟩ := hu
  exact E.one x u hx
end
/-- v is a slice that owns the elements l, in a block from base on -/
def Own {α : Type} (E : Elt α) (w : World) (base : Nat) (v : Value) (l : List α) : Prop := w.ownsRow base E.T E.size v l.length (E.all l)
section
variable {α : Type} {E : Elt α} {w w' : World} {base base' : Nat} {v : Value} {l : List α}
theorem Own.nil (E : Elt α) (w : World) (base : Nat) : Own E w base (.slice none 0 0) [] := World.ownsRow_nil w base _ _
theorem Own.form (h : Own E w base v l) : ∃ a cap, v = .slice a l.length cap ∧ l.length ≤ 9223372036854775807 := by
  obtain ⟨_, ⟨rfl, h0⟩ | ⟨g, cap, cur, rfl, _, _, h1, h2, _⟩⟩ := h
  · exact ⟨none, 0, by rw [h0], by omega⟩
  · exact ⟨_, cap, rfl, by unfold maxLen at h2; omega⟩
theorem Own.sl (h : Own E w base v l) : ∃ a n c, v = .slice a n c := by
  obtain ⟨a, c, h, _⟩ := h.form; exact ⟨a, _, c, h⟩
theorem Own.bound {a : Option Addr} {n cap : Nat} (h : Own E w base (.slice a n cap) l) : n = l.length ∧ l.length ≤ 9223372036854775807 := by
  obtain ⟨a, c, h1, h2⟩ := h.form
  cases h1; exact ⟨rfl, h2⟩
theorem Own.kept {r : Option Nat} (h : Own E w base v l) (hg : w.grownBy w' r) (hne : v.ownBlock = none ∨ v.ownBlock ≠ r) : Own E w' base v l := World.ownsRow.kept h hg hne
theorem Own.grew (h : Own E w base v l) (hg : w.grownBy w' none) : Own E w' base v l := h.kept hg (by cases hv : v.ownBlock <;> simp)
theorem Own.lt (h : Own E w base v l) : ∀ k, v.ownBlock = some k → base ≤ k ∧ k < w.heap.size := World.ownsRow.lt h
theorem Own.lower (h : Own E w base v l) (hb : base' ≤ base) : Own E w base' v l := by
  obtain ⟨h0, h1 | ⟨g, c, cur, hv, hg, rest⟩⟩ := h
  · exact ⟨h0, .inl h1⟩
  · exact ⟨h0, .inr ⟨g, c, cur, hv, by omega, rest⟩⟩
theorem Own.raise (h : Own E w base v l) (hb : ∀ k, v.ownBlock = some k → base' ≤ k) : Own E w base' v l := by
  obtain ⟨h0, h1 | ⟨g, c, cur, hv, hg, rest⟩⟩ := h
  · exact ⟨h0, .inl h1⟩
  · exact ⟨h0, .inr ⟨g, c, cur, hv, hb g (by rw [hv]; rfl), rest⟩⟩
/-- what lies where: element i, its cell j -/
theorem Own.at {a : Option Addr} {n cap : Nat} (h : Own E w base (.slice a n cap) l) (i : Nat) (hi : i < l.length) :
    ∃ g, a = some ⟨g, 0, none⟩ ∧ base ≤ g ∧ g < w.heap.size ∧ ∀ j u, (E.enc l[i])[j]? = some u → At w g (i * E.size + j) u := by
  obtain ⟨_, ⟨h0, h1⟩ | ⟨g, c, cur, hv, hb, hg, h1, h2, h3, h4⟩⟩ := h
  · omega
  · cases hv
    refine ⟨g, rfl, hb, (Array.getElem?_eq_some_iff.1 hg).1, fun j u hj => ⟨?_, by simp [World.frozen?, hg]⟩⟩
    have hj' : j < E.size := by rw [← E.len l[i]]; exact (List.getElem?_eq_some_iff.1 hj).1
    rw [← E.all_get l i j hi hj', ← h4, List.getElem?_take] at hj
    split at hj
    · simp [World.cell?, hg]; rw [← hj]; simp
    · cases hj
theorem heap_set_same {w : World} {g o : Nat} {cs : Array Value} {T : TypeId} {f : Nat × Nat} (h : w.heap[g]? = some (.cells cs T f)) (v : Value) : (w.setCell ⟨g, o, none⟩ v).heap[g]? = some (.cells (cs.setIfInBounds o v) T f) := by
  simp [World.setCell, Array.getElem?_modify, h]
/-- a write elsewhere -/
theorem Own.other {c o : Nat} (h : Own E w base v l) (hne : v.ownBlock ≠ some c) (u : Value) : Own E (w.setCell ⟨c, o, none⟩ u) base v l :=
  h.kept (r := some c) ⟨rfl, rfl, rfl, by simp [World.setCell], fun i _ hi => Below.heap_setCell w _ u i (fun e => hi (by rw [e]))⟩ (.inr hne)
/-- the new block of a slice that is written out: []T{x, ..}, append's fresh row, make -/
theorem Own.fresh (E : Elt α) (w : World) (l : List α) (cs : Array Value) (h : cs.toList = E.all l) (hl : l.length ≤ 9223372036854775807) (hb : base ≤ w.heap.size) : Own E (w.alloc (.cells cs E.T)) base (.slice (some ⟨w.heap.size, 0, none⟩) l.length l.length) l := by
  refine ⟨E.all_length l, .inr ⟨w.heap.size, l.length, cs, rfl, hb, by show (w.heap.push _)[_]? = _; simp, Nat.le_refl _, by unfold maxLen; omega, ?_, ?_⟩⟩
  · rw [← E.all_length, ← h]; simp
  · rw [h, List.take_of_length_le]; rw [E.all_length]; exact Nat.le_refl _
end
section
variable {α : Type} {E : Elt α} {w : World} {base : Nat}
theorem append_own (ty : TypeId) (v : Value) (l : List α) (hv : Own E w base v l) (s : Value) (m : List α) (hs : Own E w 0 s m) (hn : l.length + m.length ≤ 1099511627776) (hby : E.bytes ≤ 128) (hbase : base ≤ w.heap.size) :
    ∃ v' w', (Builtin.append_ #[E.S, E.S] ty #[v, s]).run Tryz.prog w = .ok v' w' ∧ Own E w' base v' (l ++ m) ∧ w.grownBy w' v.ownBlock ∧ (v'.ownBlock = v.ownBlock ∨ v'.ownBlock = some w.heap.size) := by
  obtain ⟨i, hi, hz, h1, h2⟩ := info_parts E.info
  have hb : (l.length + m.length) * E.bytes ≤ 140737488355328 := Nat.le_trans (Nat.mul_le_mul hn hby) (by omega)
  obtain ⟨hx, ⟨rfl, hm⟩ | ⟨g, cap, cur, rfl, _, hg, h3, h4, h5, h6⟩⟩ := hs
  · have hm' : m = [] := List.eq_nil_of_length_eq_zero hm
    subst hm'
    refine ⟨v, w, ?_, by simpa using hv, World.grownBy.refl w _, .inl rfl⟩
    obtain ⟨_, ⟨rfl, hl⟩ | ⟨g, cap, cur, rfl, _, _, hnc, _⟩⟩ := hv
    · simp [Builtin.append_, run_underlying E.und, sizeOf, typeInfo, hi, Builtin.lenOf, Builtin.firstCells]
    · simp [Builtin.append_, run_underlying E.und, sizeOf, typeInfo, hi, Builtin.lenOf, Builtin.firstCells, hnc, storeCells]
  · have hc : ∀ j u, (E.all m)[j]? = some u → w.cell? ((⟨g, 0, none⟩ : Addr).add j) = some u := fun j u hj => by
      rw [← h6, List.getElem?_take] at hj
      have ha : (⟨g, 0, none⟩ : Addr).add j = ⟨g, j, none⟩ := by cases j <;> simp [Addr.add]
      rw [ha]
      split at hj
      · simp [World.cell?, hg]; rw [← hj]; simp
      · cases hj
    obtain ⟨v', w', r1, r2, r3, _, r5⟩ := run_append_own_at (P := Tryz.prog) w base E.S ty E.T i E.z E.size E.bytes E.und hi hz h1 h2 E.zs E.pos v l.length (E.all l) hv ⟨g, 0, none⟩ m.length cap (E.all m) hx hc (E.all_one m) (by unfold maxLen; omega) hb hbase
    exact ⟨v', w', r1, by rw [Own, E.all_append, List.length_append]; exact r2, r3, r5⟩
/-- the walk's step at an append onto a slice that is its own, from a slice that owns its memory -/
theorem wp_append_o {o : Oper} {a : Act} {K : Act → World → Prop} {Q : Exit → Act → World → Prop} (s x : Operand) (ho : o.op = .call { callee := .builtin .append, args := #[s, x], argTypes := #[E.S, E.S] })
    {v sv : Value} {l m : List α} (hs : a.eval s = v) (hx : a.eval x = sv) (hv : Own E w base v l) (hm : Own E w 0 sv m) (hn : l.length + m.length ≤ 1099511627776) (hby : E.bytes ≤ 128) (hbase : base ≤ w.heap.size)
    (h : ∀ v' w', Own E w' base v' (l ++ m) → w.grownBy w' v.ownBlock → (v'.ownBlock = v.ownBlock ∨ v'.ownBlock = some w.heap.size) → K (a.put o.dst v') w') : o.wp Tryz.prog a w K Q := by
  obtain ⟨v', w', r1, r2, r3, r4⟩ := append_own o.type v l hv sv m hm hn hby hbase
  unfold Oper.wp execOp
  simp only [ho, resolve, invoke, builtin, Sem.run_bind, Sem.run_pure, Result.andThen_ok, List.map_toArray, List.map_cons, List.map_nil, hs, hx, r1]
  exact h v' w' r2 r3 r4
theorem wpList_append_o {ops : Array Oper} {rest : List Oper} {o : Oper} {a : Act} {Q : Exit → Act → World → Prop} (hgd : o.guard = none) (s x : Operand) (ho : o.op = .call { callee := .builtin .append, args := #[s, x], argTypes := #[E.S, E.S] })
    {v sv : Value} {l m : List α} (hs : a.eval s = v) (hx : a.eval x = sv) (hv : Own E w base v l) (hm : Own E w 0 sv m) (hn : l.length + m.length ≤ 1099511627776) (hby : E.bytes ≤ 128) (hbase : base ≤ w.heap.size)
    (h : ∀ v' w', Own E w' base v' (l ++ m) → w.grownBy w' v.ownBlock → (v'.ownBlock = v.ownBlock ∨ v'.ownBlock = some w.heap.size) → wpList Tryz.prog ops Q rest (a.put o.dst v') w') : wpList Tryz.prog ops Q (o :: rest) a w :=
  wpList_plain hgd fun _ hK => wp_append_o s x ho hs hx hv hm hn hby hbase fun v' w' h2 h3 h4 => hK _ _ (h v' w' h2 h3 h4)
theorem step_append_o {ops : Array Oper} {o : Oper} {a : Act} {K : Act → World → Prop} {Q : Exit → Act → World → Prop} {F : Prop} (hgd : o.guard = none) (s x : Operand) (ho : o.op = .call { callee := .builtin .append, args := #[s, x], argTypes := #[E.S, E.S] })
    {v sv : Value} {l m : List α} (hs : a.eval s = v) (hx : a.eval x = sv) (hv : Own E w base v l) (hm : Own E w 0 sv m) (hn : l.length + m.length ≤ 1099511627776) (hby : E.bytes ≤ 128) (hbase : base ≤ w.heap.size)
    (h : ∀ v' w', Own E w' base v' (l ++ m) → w.grownBy w' v.ownBlock → (v'.ownBlock = v.ownBlock ∨ v'.ownBlock = some w.heap.size) → K (a.put o.dst v') w') :
    if Region.wanted o (yielded ops a.tmps) = true then Oper.wp Tryz.prog o a w K Q else F := by
  have hw : Region.wanted o (yielded ops a.tmps) = true := by simp [Region.wanted, hgd]
  rw [if_pos hw]
  exact wp_append_o s x ho hs hx hv hm hn hby hbase h
end
end Go.Proofs.YtfodjokcobljmaaGreat
