/- Slices that own their memory: their elements in a block of their own, from its beginning. Worlds in which some blocks may differ; cells and slices that lie elsewhere. One cell of one element of a slice that owns its memory is written. Slices that can be read; append onto a slice that has no room left; copy. -/
import Derived.Laws.AppendOwn
import Derived.Laws.MakeOwn
import Derived.Maps.AppendAt
import Derived.Deep.AppendLies
import Derived.RegionTactic
import Derived.OwnWalk
import Derived.Laws.IdiomCopy
import Derived.Test.YteialkknddpbjaaGreatDoorPH01
namespace Go.Proofs.YteialkknddpbjaaGreatDoor
open Go.ChangeShapes Go.WideShapes Go.ChangeAt Go.RowKit

/-- a kind of elements: how one lies in memory -/
structure Elt (α : Type) where
  T : TypeId
  S : TypeId
  size : Nat
  bytes : Nat
  z : Value
  enc : α → List Value
  len : ∀ x, (enc x).length = size
  one : ∀ x, ∀ u ∈ enc x, u.oneCell' = true
  pos : 0 < size
  und : Tryz.prog.underlying S = some (.slice T)
  info : (Tryz.prog.info? T).map (fun i => (i.zero, i.size, i.bytes)) = some (some z, size, bytes)
  zs : z.cells.size = size
section
variable {α : Type} (E : Elt α)
/-- the memory of a list -/
def Elt.all (l : List α) : List Value := l.flatMap E.enc
theorem Elt.all_length (l : List α) : (E.all l).length = l.length * E.size := by
  induction l with
  | nil => simp [Elt.all]
  | cons p r ih => simp only [Elt.all, List.flatMap_cons, List.length_append, List.length_cons] at *; rw [ih, E.len, Nat.add_mul]; omega
theorem Elt.all_append (a b : List α) : E.all (a ++ b) = E.all a ++ E.all b := by simp [Elt.all]
theorem Elt.all_get (l : List α) (i j : Nat) (hi : i < l.length) (hj : j < E.size) : (E.all l)[i * E.size + j]? = (E.enc l[i])[j]? := by
  induction l generalizing i with
  | nil => simp at hi
  | cons p r ih =>
    cases i with
    | zero => simp [Elt.all, List.getElem?_append_left, E.len, hj]
    | succ i =>
      have h1 : (i + 1) * E.size + j = (E.enc p).length + (i * E.size + j) := by rw [E.len, Nat.add_mul]; omega
      rw [show E.all (p :: r) = E.enc p ++ E.all r by simp [Elt.all], h1, List.getElem?_append_right (by omega), Nat.add_sub_cancel_left]
      exact ih i (by simpa using hi)
theorem Elt.all_one (l : List α) : ∀ u ∈ E.all l, u.oneCell' = true := by
  intro u hu
  simp only [Elt.all, List.mem_flatMap] at hu
  obtain ⟨x, _, hx⟩ := hu
  exact E.one x u hx
end
/-- v is a slice that owns the elements l, in a block from base on -/
def Own {α : Type} (E : Elt α) (w : World) (base : Nat) (v : Value) (l : List α) : Prop := w.ownsRow base E.T E.size v l.length (E.all l)
section
variable {α : Type} {E : Elt α} {w w' : World} {base base' : Nat} {v : Value} {l : List α}
theorem Own.nil (E : Elt α) (w : World) (base : Nat) : Own E w base (.slice none 0 0) [] := World.ownsRow_nil w base _ _
theorem Own.form (h : Own E w base v l) : ∃ a cap, v = .slice a l.length cap ∧ l.length ≤ 9223372036854775807 := by
  obtain ⟨_, ⟨rfl, h0⟩ | ⟨g, cap, cur, rfl, _, _, h1, h2, _⟩⟩ := h
  · exact ⟨none, 0, by rw [h0], by omega⟩
  · exact ⟨_, cap, rfl, by unfold maxLen at h2; omega⟩
theorem Own.sl (h : Own E w base v l) : ∃ a n c, v = .slice a n c := by
  obtain ⟨a, c, h, _⟩ := h.form; exact ⟨a, _, c, h⟩
theorem Own.bound {a : Option Addr} {n cap : Nat} (h : Own E w base (.slice a n cap) l) : n = l.length ∧ l.length ≤ 9223372036854775807 := by
  obtain ⟨a, c, h1, h2⟩ := h.form
  cases h1; exact ⟨rfl, h2⟩
theorem Own.kept {r : Option Nat} (h : Own E w base v l) (hg : w.grownBy w' r) (hne : v.ownBlock = none ∨ v.ownBlock ≠ r) : Own E w' base v l := World.ownsRow.kept h hg hne
theorem Own.grew (h : Own E w base v l) (hg : w.grownBy w' none) : Own E w' base v l := h.kept hg (by cases hv : v.ownBlock <;> simp)
theorem Own.lt (h : Own E w base v l) : ∀ k, v.ownBlock = some k → base ≤ k ∧ k < w.heap.size := World.ownsRow.lt h
theorem Own.lower (h : Own E w base v l) (hb : base' ≤ base) : Own E w base' v l := by
  obtain ⟨h0, h1 | ⟨g, c, cur, hv, hg, rest⟩⟩ := h
  · exact ⟨h0, .inl h1⟩
  · exact ⟨h0, .inr ⟨g, c, cur, hv, by omega, rest⟩⟩
/-- what lies where: element i, its cell j -/
theorem Own.at {a : Option Addr} {n cap : Nat} (h : Own E w base (.slice a n cap) l) (i : Nat) (hi : i < l.length) :
    ∃ g, a = some ⟨g, 0, none⟩ ∧ base ≤ g ∧ g < w.heap.size ∧ ∀ j u, (E.enc l[i])[j]? = some u → At w g (i * E.size + j) u := by
  obtain ⟨_, ⟨h0, h1⟩ | ⟨g, c, cur, hv, hb, hg, h1, h2, h3, h4⟩⟩ := h
  · omega
  · cases hv
    refine ⟨g, rfl, hb, (Array.getElem?_eq_some_iff.1 hg).1, fun j u hj => ⟨?_, by simp [World.frozen?, hg]⟩⟩
    have hj' : j < E.size := by rw [← E.len l[i]]; exact (List.getElem?_eq_some_iff.1 hj).1
    rw [← E.all_get l i j hi hj', ← h4, List.getElem?_take] at hj
    split at hj
    · simp [World.cell?, hg]; rw [← hj]; simp
    · cases hj
theorem heap_set_same {w : World} {g o : Nat} {cs : Array Value} {T : TypeId} {f : Nat × Nat} (h : w.heap[g]? = some (.cells cs T f)) (v : Value) : (w.setCell ⟨g, o, none⟩ v).heap[g]? = some (.cells (cs.setIfInBounds o v) T f) := by
  simp [World.setCell, Array.getElem?_modify, h]
/-- a write elsewhere -/
theorem Own.other {c o : Nat} (h : Own E w base v l) (hne : v.ownBlock ≠ some c) (u : Value) : Own E (w.setCell ⟨c, o, none⟩ u) base v l :=
  h.kept (r := some c) ⟨rfl, rfl, rfl, by simp [World.setCell], fun i _ hi => Below.heap_setCell w _ u i (fun e => hi (by rw [e]))⟩ (.inr hne)
/-- the new block of a slice that is written out: []T{x, ..}, append's fresh row, make -/
theorem Own.fresh (E : Elt α) (w : World) (l : List α) (cs : Array Value) (h : cs.toList = E.all l) (hl : l.length ≤ 9223372036854775807) (hb : base ≤ w.heap.size) : Own E (w.alloc (.cells cs E.T)) base (.slice (some ⟨w.heap.size, 0, none⟩) l.length l.length) l := by
  refine ⟨E.all_length l, .inr ⟨w.heap.size, l.length, cs, rfl, hb, by show (w.heap.push _)[_]? = _; simp, Nat.le_refl _, by unfold maxLen; omega, ?_, ?_⟩⟩
  · rw [← E.all_length, ← h]; simp
  · rw [h, List.take_of_length_le]; rw [E.all_length]; exact Nat.le_refl _
end
section
variable {α : Type} {E : Elt α} {w : World} {base : Nat}
theorem append_own (ty : TypeId) (v : Value) (l : List α) (hv : Own E w base v l) (s : Value) (m : List α) (hs : Own E w 0 s m) (hn : l.length + m.length ≤ 1099511627776) (hby : E.bytes ≤ 128) (hbase : base ≤ w.heap.size) :
    ∃ v' w', (Builtin.append_ #[E.S, E.S] ty #[v, s]).run Tryz.prog w = .ok v' w' ∧ Own E w' base v' (l ++ m) ∧ w.grownBy w' v.ownBlock ∧ (v'.ownBlock = v.ownBlock ∨ v'.ownBlock = some w.heap.size) := by
  obtain ⟨i, hi, hz, h1, h2⟩ := info_parts E.info
  have hb : (l.length + m.length) * E.bytes ≤ 140737488355328 := Nat.le_trans (Nat.mul_le_mul hn hby) (by omega)
  obtain ⟨hx, ⟨rfl, hm⟩ | ⟨g, cap, cur, rfl, _, hg, h3, h4, h5, h6⟩⟩ := hs
  · have hm' : m = [] := List.eq_nil_of_length_eq_zero hm
    subst hm'
    refine ⟨v, w, ?_, by simpa using hv, World.grownBy.refl w _, .inl rfl⟩
    obtain ⟨_, ⟨rfl, hl⟩ | ⟨g, cap, cur, rfl, _, _, hnc, _⟩⟩ := hv
    · simp [Builtin.append_, run_underlying E.und, sizeOf, typeInfo, hi, Builtin.lenOf, Builtin.firstCells]
    · simp [Builtin.append_, run_underlying E.und, sizeOf, typeInfo, hi, Builtin.lenOf, Builtin.firstCells, hnc, storeCells]
  · have hc : ∀ j u, (E.all m)[j]? = some u → w.cell? ((⟨g, 0, none⟩ : Addr).add j) = some u := fun j u hj => by
      rw [← h6, List.getElem?_take] at hj
      have ha : (⟨g, 0, none⟩ : Addr).add j = ⟨g, j, none⟩ := by cases j <;> simp [Addr.add]
      rw [ha]
      split at hj
      · simp [World.cell?, hg]; rw [← hj]; simp
      · cases hj
    obtain ⟨v', w', r1, r2, r3, _, r5⟩ := run_append_own_at (P := Tryz.prog) w base E.S ty E.T i E.z E.size E.bytes E.und hi hz h1 h2 E.zs E.pos v l.length (E.all l) hv ⟨g, 0, none⟩ m.length cap (E.all m) hx hc (E.all_one m) (by unfold maxLen; omega) hb hbase
    exact ⟨v', w', r1, by rw [Own, E.all_append, List.length_append]; exact r2, r3, r5⟩
/-- the walk's step at an append onto a slice that is its own, from a slice that owns its memory -/
theorem wp_append_o {o : Oper} {a : Act} {K : Act → World → Prop} {Q : Exit → Act → World → Prop} (s x : Operand) (ho : o.op = .call { callee := .builtin .append, args := #[s, x], argTypes := #[E.S, E.S] })
    {v sv : Value} {l m : List α} (hs : a.eval s = v) (hx : a.eval x = sv) (hv : Own E w base v l) (hm : Own E w 0 sv m) (hn : l.length + m.length ≤ 1099511627776) (hby : E.bytes ≤ 128) (hbase : base ≤ w.heap.size)
    (h : ∀ v' w', Own E w' base v' (l ++ m) → w.grownBy w' v.ownBlock → (v'.ownBlock = v.ownBlock ∨ v'.ownBlock = some w.heap.size) → K (a.put o.dst v') w') : o.wp Tryz.prog a w K Q := by
  obtain ⟨v', w', r1, r2, r3, r4⟩ := append_own o.type v l hv sv m hm hn hby hbase
  unfold Oper.wp execOp
  simp only [ho, resolve, invoke, builtin, Sem.run_bind, Sem.run_pure, Result.andThen_ok, List.map_toArray, List.map_cons, List.map_nil, hs, hx, r1]
  exact h v' w' r2 r3 r4
theorem wpList_append_o {ops : Array Oper} {rest : List Oper} {o : Oper} {a : Act} {Q : Exit → Act → World → Prop} (hgd : o.guard = none) (s x : Operand) (ho : o.op = .call { callee := .builtin .append, args := #[s, x], argTypes := #[E.S, E.S] })
    {v sv : Value} {l m : List α} (hs : a.eval s = v) (hx : a.eval x = sv) (hv : Own E w base v l) (hm : Own E w 0 sv m) (hn : l.length + m.length ≤ 1099511627776) (hby : E.bytes ≤ 128) (hbase : base ≤ w.heap.size)
    (h : ∀ v' w', Own E w' base v' (l ++ m) → w.grownBy w' v.ownBlock → (v'.ownBlock = v.ownBlock ∨ v'.ownBlock = some w.heap.size) → wpList Tryz.prog ops Q rest (a.put o.dst v') w') : wpList Tryz.prog ops Q (o :: rest) a w :=
  wpList_plain hgd fun _ hK => wp_append_o s x ho hs hx hv hm hn hby hbase fun v' w' h2 h3 h4 => hK _ _ (h v' w' h2 h3 h4)
theorem step_append_o {ops : Array Oper} {o : Oper} {a : Act} {K : Act → World → Prop} {Q : Exit → Act → World → Prop} {F : Prop} (hgd : o.guard = none) (s x : Operand) (ho : o.op = .call { callee := .builtin .append, args := #[s, x], argTypes := #[E.S, E.S] })
    {v sv : Value} {l m : List α} (hs : a.eval s = v) (hx : a.eval x = sv) (hv : Own E w base v l) (hm : Own E w 0 sv m) (hn : l.length + m.length ≤ 1099511627776) (hby : E.bytes ≤ 128) (hbase : base ≤ w.heap.size)
    (h : ∀ v' w', Own E w' base v' (l ++ m) → w.grownBy w' v.ownBlock → (v'.ownBlock = v.ownBlock ∨ v'.ownBlock = some w.heap.size) → K (a.put o.dst v') w') :
    if Region.wanted o (yielded ops a.tmps) = true then Oper.wp Tryz.prog o a w K Q else F := by
  have hw : Region.wanted o (yielded ops a.tmps) = true := by simp [Region.wanted, hgd]
  rw [if_pos hw]
  exact wp_append_o s x ho hs hx hv hm hn hby hbase h
end
end Go.Proofs.YteialkknddpbjaaGreatDoor
namespace Go.Proofs.YteialkknddpbjaaGreatDoor
open Go.ChangeShapes Go.WideShapes Go.ChangeAt Go.RowKit

/-- two slices that do not share memory -/
def Apart (v u : Value) : Prop := v.ownBlock = none ∨ v.ownBlock ≠ u.ownBlock
theorem Apart.symm {v u : Value} (h : Apart v u) : Apart u v := by
  rcases h with h | h
  · unfold Apart; rw [h]; cases u.ownBlock <;> simp
  · exact .inr fun e => h e.symm
theorem gkr {W w1 : World} {r : Option Nat} (hg : W.grownBy w1 r) {b o : Nat} {v : Value} (hb : r ≠ some b) (h : At W b o v) : At w1 b o v := by
  have hl := hg.block b (cell_lt h.1) (fun e => hb e.symm)
  exact ⟨(World.cell?_of_block (w := W) hl).trans h.1, (World.frozen?_of_block (w := W) hl).trans h.2⟩
theorem At.other {w : World} {b o c p : Nat} {v : Value} (h : At w b o v) (hne : (⟨c, p, none⟩ : Addr) ≠ ⟨b, o, none⟩) (u : Value) : At (w.setCell ⟨c, p, none⟩ u) b o v :=
  ⟨(World.cell?_setCell_other w _ _ u hne).trans h.1, by rw [World.frozen?_setCell]; exact h.2⟩
theorem At.same {w : World} {b o : Nat} {v : Value} (h : At w b o v) (u : Value) : At (w.setCell ⟨b, o, none⟩ u) b o u :=
  ⟨World.cell?_setCell_same w _ u h.1, by rw [World.frozen?_setCell]; exact h.2⟩
section
variable {w : World}
/-- where an append's row lies -/
theorem lies_ne {v v' : Value} {c : Nat} (hat : v'.ownBlock = v.ownBlock ∨ v'.ownBlock = some w.heap.size) (hv : v.ownBlock ≠ some c) (hc : c < w.heap.size) : v'.ownBlock ≠ some c := by
  rcases hat with e | e <;> rw [e]
  · exact hv
  · intro x; cases x; omega
theorem lies_apart {v v' u : Value} (hat : v'.ownBlock = v.ownBlock ∨ v'.ownBlock = some w.heap.size) (hv : Apart v u) (hu : ∀ k, u.ownBlock = some k → k < w.heap.size) : Apart v' u := by
  rcases hat with e | e
  · unfold Apart; rw [e]; exact hv
  · right; rw [e]; intro x; have := hu _ x.symm; omega
end
theorem gsub {a b c : World} {r : Option Nat} (h : a.grownBy b none) (g : b.grownBy c r) (hr : ∀ k, r = some k → a.heap.size ≤ k) : a.grownBy c none :=
  ⟨g.os.trans h.os, g.tape.trans h.tape, g.output.trans h.output, Nat.le_trans h.size g.size, fun i hi _ => (g.block i (Nat.lt_of_lt_of_le hi h.size) (by intro e; have := hr i e.symm; omega)).trans (h.block i hi (by simp))⟩
/-- a world in which only blocks of S, and new ones, may differ -/
structure Only (S : Nat → Prop) (w w' : World) : Prop where
  os : w'.os = w.os
  tape : w'.tape = w.tape
  output : w'.output = w.output
  size : w.heap.size ≤ w'.heap.size
  block : ∀ k, k < w.heap.size → ¬ S k → w'.heap[k]? = w.heap[k]?
section
variable {S S' : Nat → Prop} {w w' w2 : World}
theorem Only.refl (S : Nat → Prop) (w : World) : Only S w w := ⟨rfl, rfl, rfl, Nat.le_refl _, fun _ _ _ => rfl⟩
theorem Only.trans (h : Only S w w') (k : Only S w' w2) : Only S w w2 :=
  ⟨k.os.trans h.os, k.tape.trans h.tape, k.output.trans h.output, Nat.le_trans h.size k.size, fun i hi hn => (k.block i (Nat.lt_of_lt_of_le hi h.size) hn).trans (h.block i hi hn)⟩
theorem Only.of {r : Option Nat} (g : w.grownBy w' r) (hr : ∀ k, r = some k → S k) : Only S w w' := ⟨g.os, g.tape, g.output, g.size, fun k hk hn => g.block k hk (fun e => hn (hr k e.symm))⟩
theorem Only.mono (h : Only S w w') (hs : ∀ k, S k → S' k) : Only S' w w' := ⟨h.os, h.tape, h.output, h.size, fun k hk hn => h.block k hk (fun e => hn (hs k e))⟩
theorem Only.at {b o : Nat} {v : Value} (h : Only S w w') (hb : ¬ S b) (ha : At w b o v) : At w' b o v := by
  have hl := h.block b (cell_lt ha.1) hb
  exact ⟨(World.cell?_of_block (w := w) hl).trans ha.1, (World.frozen?_of_block (w := w) hl).trans ha.2⟩
theorem Only.grew {a : World} (h : Only S w w') (g : a.grownBy w none) (hs : ∀ k, S k → a.heap.size ≤ k) : a.grownBy w' none :=
  ⟨h.os.trans g.os, h.tape.trans g.tape, h.output.trans g.output, Nat.le_trans g.size h.size, fun i hi _ => (h.block i (Nat.lt_of_lt_of_le hi g.size) (fun e => by have := hs i e; omega)).trans (g.block i hi (by simp))⟩
end
section
variable {α : Type} {E : Elt α} {w w' : World} {base : Nat} {v : Value} {l : List α}
/-- its block is as it was -/
theorem Own.same (h : Own E w base v l) (hb : ∀ k, v.ownBlock = some k → w'.heap[k]? = w.heap[k]?) : Own E w' base v l := by
  obtain ⟨h0, h1 | ⟨g, c, cur, hv, hg, hc, rest⟩⟩ := h
  · exact ⟨h0, .inl h1⟩
  · exact ⟨h0, .inr ⟨g, c, cur, hv, hg, (hb g (by rw [hv]; rfl)).trans hc, rest⟩⟩
end
theorem only_cell {S : Nat → Prop} {w w' : World} {b o : Nat} {v : Value} (h : w.cell? ⟨b, o, none⟩ = some v) (k : Only S w w') (hb : ¬ S b) : w'.cell? ⟨b, o, none⟩ = some v :=
  (World.cell?_of_block (w := w) (k.block b (cell_lt h) hb)).trans h
theorem gsubc {a b c : World} {q : Nat} {r : Option Nat} (h : a.grownBy b (some q)) (g : b.grownBy c r) (hr : ∀ k, r = some k → a.heap.size ≤ k) : a.grownBy c (some q) :=
  ⟨g.os.trans h.os, g.tape.trans h.tape, g.output.trans h.output, Nat.le_trans h.size g.size, fun i hi hne => (g.block i (Nat.lt_of_lt_of_le hi h.size) (by intro e; have := hr i e.symm; omega)).trans (h.block i hi hne)⟩
end Go.Proofs.YteialkknddpbjaaGreatDoor
namespace Go.Proofs.YteialkknddpbjaaGreatDoor
open Go.ChangeShapes Go.WideShapes Go.ChangeAt Go.RowKit

section
variable {α : Type} {E : Elt α} {w : World} {base : Nat}
theorem Elt.all_set (l : List α) (i j : Nat) (u : Value) (x : α) (hi : i < l.length) (hj : j < E.size) (hx : E.enc x = (E.enc l[i]).set j u) : E.all (l.set i x) = (E.all l).set (i * E.size + j) u := by
  induction l generalizing i with
  | nil => simp at hi
  | cons q r ih =>
    cases i with
    | zero =>
      simp only [List.getElem_cons_zero] at hx
      simp only [List.set_cons_zero, Elt.all, List.flatMap_cons, Nat.zero_mul, Nat.zero_add]
      rw [List.set_append_left _ _ (by rw [E.len]; exact hj), hx]
    | succ i =>
      have e := ih i (by simpa using hi) (by simpa using hx)
      simp only [Elt.all, List.set_cons_succ, List.flatMap_cons] at e ⊢
      rw [e, List.set_append_right _ _ (by rw [E.len, Nat.add_mul]; omega)]
      congr 2
      rw [E.len, Nat.add_mul]; omega
/-- one cell of one element is written -/
theorem Own.setAt {n cap g : Nat} {l : List α} (h : Own E w base (.slice (some ⟨g, 0, none⟩) n cap) l) (i j : Nat) (u : Value) (x : α) (hi : i < l.length) (hj : j < E.size) (hx : E.enc x = (E.enc l[i]).set j u) :
    Own E (w.setCell ⟨g, i * E.size + j, none⟩ u) base (.slice (some ⟨g, 0, none⟩) n cap) (l.set i x) := by
  obtain ⟨h0, ⟨h1, h2⟩ | ⟨g', c, cur, hv, hb, hg, h1, h2, h3, h4⟩⟩ := h
  · cases h1
  · cases hv
    refine ⟨Elt.all_length _ _, .inr ⟨g, cap, cur.setIfInBounds (i * E.size + j) u, by simp, hb, heap_set_same hg _, by simpa using h1, h2, by simp [h3], ?_⟩⟩
    rw [Elt.all_set l i j u x hi hj hx, ← h4]
    simp [List.take_set]
end
end Go.Proofs.YteialkknddpbjaaGreatDoor
namespace Go.Proofs.YteialkknddpbjaaGreatDoor
open Go.ChangeShapes Go.WideShapes Go.ChangeAt Go.RowKit

/-- v is a slice whose elements l can be read -/
def Rd {α : Type} (E : Elt α) (w : World) (v : Value) (l : List α) : Prop :=
  ∃ a cap, v = .slice a l.length cap ∧ l.length ≤ cap ∧ cap ≤ 9223372036854775807 ∧ (l = [] ∨ ∃ g o, a = some ⟨g, o, none⟩ ∧ g < w.heap.size ∧ ∀ j u, (E.all l)[j]? = some u → w.cell? ⟨g, o + j, none⟩ = some u)
theorem add_at (g o j : Nat) : (⟨g, o, none⟩ : Addr).add j = ⟨g, o + j, none⟩ := by unfold Addr.add; split <;> simp_all
section
variable {α : Type} {E : Elt α} {w w' : World} {base : Nat} {v : Value} {l : List α}
theorem Own.rd (h : Own E w base v l) : Rd E w v l := by
  obtain ⟨hx, ⟨rfl, hm⟩ | ⟨g, cap, cur, rfl, _, hg, h3, h4, h5, h6⟩⟩ := h
  · exact ⟨none, 0, by rw [hm], by omega, by omega, .inl (List.eq_nil_of_length_eq_zero hm)⟩
  · refine ⟨_, cap, rfl, h3, by unfold maxLen at h4; omega, .inr ⟨g, 0, rfl, (Array.getElem?_eq_some_iff.1 hg).1, fun j u hj => ?_⟩⟩
    rw [← h6, List.getElem?_take] at hj
    split at hj
    · simp [World.cell?, hg]; rw [← hj]; simp
    · cases hj
theorem Rd.kept (h : Rd E w v l) (hg : w.grownBy w' none) : Rd E w' v l := by
  obtain ⟨a, cap, h1, h2, h3, h4 | ⟨g, o, h4, h5, h6⟩⟩ := h
  · exact ⟨a, cap, h1, h2, h3, .inl h4⟩
  · exact ⟨a, cap, h1, h2, h3, .inr ⟨g, o, h4, by have := hg.size; omega, fun j u hj => gkc hg (h6 j u hj)⟩⟩
theorem Elt.all_take (E : Elt α) (l : List α) (k j : Nat) (u : Value) (h : (E.all (l.take k))[j]? = some u) : (E.all l)[j]? = some u := by
  have e : E.all l = E.all (l.take k) ++ E.all (l.drop k) := by rw [← E.all_append, List.take_append_drop]
  rw [e, List.getElem?_append_left (List.getElem?_eq_some_iff.1 h).1]; exact h
theorem Elt.all_drop (E : Elt α) (l : List α) (k j : Nat) (u : Value) (hk : k ≤ l.length) (h : (E.all (l.drop k))[j]? = some u) : (E.all l)[k * E.size + j]? = some u := by
  have e : E.all l = E.all (l.take k) ++ E.all (l.drop k) := by rw [← E.all_append, List.take_append_drop]
  have hl : (E.all (l.take k)).length = k * E.size := by rw [E.all_length, List.length_take, Nat.min_eq_left hk]
  rw [e, List.getElem?_append_right (by omega), hl, Nat.add_sub_cancel_left]; exact h
/-- the front of a slice -/
theorem Rd.front {a : Option Addr} {n c : Nat} (h : Rd E w (.slice a n c) l) (k c' : Nat) (hk : k ≤ l.length) (hc : k ≤ c') (hc' : c' ≤ c) : Rd E w (.slice a k c') (l.take k) := by
  obtain ⟨a, cap, h1, h2, h3, h4⟩ := h
  cases h1
  refine ⟨a, c', by simp [Nat.min_eq_left hk], by simp; omega, by omega, ?_⟩
  rcases h4 with h4 | ⟨g, o, h4, h5, h6⟩
  · exact .inl (by simp [h4])
  · exact .inr ⟨g, o, h4, h5, fun j u hj => h6 j u (E.all_take l k j u hj)⟩
/-- the rest of a slice -/
theorem Rd.rest {a : Option Addr} {n c : Nat} (h : Rd E w (.slice a n c) l) (k : Nat) (hk : k ≤ l.length) : Rd E w (sliced a k n c E.size) (l.drop k) := by
  obtain ⟨a, cap, h1, h2, h3, h4⟩ := h
  cases h1
  refine ⟨_, c - k, by unfold sliced; rw [List.length_drop], by simp; omega, by omega, ?_⟩
  rcases h4 with h4 | ⟨g, o, h4, h5, h6⟩
  · exact .inl (by simp [h4])
  · by_cases hck : c = k
    · exact .inl (List.drop_of_length_le (by omega))
    · refine .inr ⟨g, o + k * E.size, by simp [hck, h4, add_at], h5, fun j u hj => ?_⟩
      rw [Nat.add_assoc]
      exact h6 _ u (E.all_drop l k j u hk hj)
/-- a block that holds the elements -/
theorem Own.of {g cap : Nat} {cur : Array Value} (hb : base ≤ g) (hg : w.heap[g]? = some (.cells cur E.T (0, 0))) (h1 : l.length ≤ cap) (h2 : cap ≤ maxLen) (h3 : cur.size = cap * E.size)
    (h : ∀ j u, (E.all l)[j]? = some u → w.cell? ⟨g, j, none⟩ = some u) : Own E w base (.slice (some ⟨g, 0, none⟩) l.length cap) l := by
  refine ⟨E.all_length l, .inr ⟨g, cap, cur, rfl, hb, hg, h1, h2, h3, ?_⟩⟩
  apply List.ext_getElem?
  intro j
  have hle : l.length * E.size ≤ cap * E.size := Nat.mul_le_mul_right _ h1
  by_cases hj : j < l.length * E.size
  · have hj' : j < (E.all l).length := by rw [E.all_length]; exact hj
    have := h j _ (List.getElem?_eq_getElem hj')
    simp [World.cell?, hg] at this
    rw [List.getElem?_take, if_pos hj, List.getElem?_eq_getElem hj', ← this]
    simp
  · rw [List.getElem?_take, if_neg hj, List.getElem?_eq_none (by rw [E.all_length]; omega)]
end
section
variable {α : Type} {E : Elt α} {w : World} {base : Nat}
/-- what a growing append makes -/
theorem grown_own (l m : List α) (old : Nat) (z : Value) (hz : z.cells.size = E.size) (hn : l.length + m.length ≤ 1099511627776) (hbase : base ≤ w.heap.size) :
    Own E (w.drew.alloc (.cells ((E.all l).toArray ++ (E.all m).toArray ++ Builtin.zeroCells z.cells (grownCap w (l.length + m.length) old E.T - (l.length + m.length))) E.T)) base
      (.slice (some ⟨w.heap.size, 0, none⟩) (l.length + m.length) (grownCap w (l.length + m.length) old E.T)) (l ++ m) := by
  have hge := grownCap_ge w (l.length + m.length) old E.T
  have hcm : grownCap w (l.length + m.length) old E.T ≤ maxLen := grownCap_le_maxLen w (l.length + m.length) old E.T (by unfold maxLen; omega)
  have hlen : (E.all l ++ E.all m).length = (l.length + m.length) * E.size := by rw [List.length_append, E.all_length, E.all_length, Nat.add_mul]
  refine ⟨E.all_length _, .inr ⟨w.heap.size, _, _, by rw [List.length_append], hbase, heap_alloc_new w.drew _, by rw [List.length_append]; exact hge, hcm, ?_, ?_⟩⟩
  · simp only [Array.size_append, List.size_toArray, size_zeroCells, hz, E.all_length, ← Nat.add_mul]
    congr 1
    omega
  · simp only [Array.toList_append, List.append_assoc]
    rw [← List.append_assoc, List.length_append, ← hlen, E.all_append]
    exact List.take_left
/-- append onto a slice that has no room left: the answer is new memory -/
theorem append_full (ty : TypeId) (a : Option Addr) (n : Nat) (l : List α) (hv : Rd E w (.slice a n n) l) (s : Value) (m : List α) (hs : Rd E w s m) (hm : m ≠ []) (hn : l.length + m.length ≤ 1099511627776) (hby : E.bytes ≤ 128) (hbase : base ≤ w.heap.size)
    (ha : l = [] → a = none → n = 0) :
    ∃ v' w', (Builtin.append_ #[E.S, E.S] ty #[.slice a n n, s]).run Tryz.prog w = .ok v' w' ∧ Own E w' base v' (l ++ m) ∧ w.grownBy w' none ∧ v'.ownBlock = some w.heap.size := by
  obtain ⟨i, hi, hz, h1, h2⟩ := info_parts E.info
  have hb : (l.length + m.length) * E.bytes ≤ 140737488355328 := Nat.le_trans (Nat.mul_le_mul hn hby) (by omega)
  have hmp : 0 < m.length := List.length_pos_iff.2 hm
  obtain ⟨_, sc, rfl, s1, s2, s3 | ⟨sg, so, rfl, s4, s5⟩⟩ := hs
  · exact absurd s3 hm
  have hsrc : ∀ j u, (E.all m)[j]? = some u → w.cell? ((⟨sg, so, none⟩ : Addr).add j) = some u := fun j u hj => by rw [add_at]; exact s5 j u hj
  have hg2 : ∀ o : Obj, w.grownBy (w.drew.alloc o) none := fun o => galloc (gdrew (grefl w) 1) o
  obtain ⟨a', c', hv1, hv2, hv3, hv4⟩ := hv
  cases hv1
  cases a with
  | none =>
    rcases hv4 with hv4 | ⟨g, o, h, _⟩
    · subst hv4
      have hr := run_append_nil (P := Tryz.prog) w E.S ty E.T i E.z E.und hi hz ⟨sg, so, none⟩ m.length sc (E.all m) (by rw [h1, E.all_length]) hsrc hmp (by omega) (by rw [h2]; simp at hb; omega)
      have ho := grown_own (E := E) (w := w) (base := base) [] m 0 E.z E.zs (by simpa using hn) hbase
      simp only [List.length_nil, Nat.zero_add] at ho
      exact ⟨_, _, hr, by simpa [Elt.all] using ho, hg2 _, rfl⟩
    · cases h
  | some b =>
    have holds : ∀ j u, (E.all l)[j]? = some u → w.cell? (b.add j) = some u := by
      rcases hv4 with hv4 | ⟨g, o, h, _, h6⟩
      · subst hv4; intro j u hj; simp [Elt.all] at hj
      · cases h; intro j u hj; rw [add_at]; exact h6 j u hj
    have hr := run_append_grow (P := Tryz.prog) w E.S ty E.T i E.z E.und hi hz b l.length l.length (E.all l) (by rw [h1, E.all_length]) holds ⟨sg, so, none⟩ m.length sc (E.all m) (by rw [h1, E.all_length]) hsrc (by omega) (by omega) (growslice_fits (by omega) (by rw [h2]; exact hb))
    exact ⟨_, _, hr, grown_own l m l.length E.z E.zs hn hbase, hg2 _, rfl⟩
/-- append onto a slice that is its own, from one that can be read -/
theorem append_own_rd (ty : TypeId) (v : Value) (l : List α) (hv : Own E w base v l) (s : Value) (m : List α) (hs : Rd E w s m) (hn : l.length + m.length ≤ 1099511627776) (hby : E.bytes ≤ 128) (hbase : base ≤ w.heap.size) :
    ∃ v' w', (Builtin.append_ #[E.S, E.S] ty #[v, s]).run Tryz.prog w = .ok v' w' ∧ Own E w' base v' (l ++ m) ∧ w.grownBy w' v.ownBlock ∧ (v'.ownBlock = v.ownBlock ∨ v'.ownBlock = some w.heap.size) := by
  obtain ⟨i, hi, hz, h1, h2⟩ := info_parts E.info
  have hb : (l.length + m.length) * E.bytes ≤ 140737488355328 := Nat.le_trans (Nat.mul_le_mul hn hby) (by omega)
  obtain ⟨sa, sc, rfl, s1, s2, s3⟩ := hs
  rcases s3 with rfl | ⟨sg, so, rfl, s4, s5⟩
  · refine ⟨v, w, ?_, by simpa using hv, World.grownBy.refl w _, .inl rfl⟩
    have hl0 : ∀ x : Addr, (loadCells x 0).run Tryz.prog w = .ok #[] w := fun x => by simpa using run_loadCells_list (P := Tryz.prog) w x [] (by simp)
    obtain ⟨_, ⟨rfl, hl⟩ | ⟨g, cap, cur, rfl, _, _, hnc, _⟩⟩ := hv
    · cases sa <;> simp [Builtin.append_, run_underlying E.und, sizeOf, typeInfo, hi, Builtin.lenOf, Builtin.firstCells, hl0]
    · cases sa <;> simp [Builtin.append_, run_underlying E.und, sizeOf, typeInfo, hi, Builtin.lenOf, Builtin.firstCells, hnc, storeCells, hl0]
  · obtain ⟨v', w', r1, r2, r3, _, r5⟩ := run_append_own_at (P := Tryz.prog) w base E.S ty E.T i E.z E.size E.bytes E.und hi hz h1 h2 E.zs E.pos v l.length (E.all l) hv ⟨sg, so, none⟩ m.length sc (E.all m) (by rw [E.all_length]) (fun j u hj => by rw [add_at]; exact s5 j u hj) (E.all_one m) (by unfold maxLen; omega) hb hbase
    exact ⟨v', w', r1, by rw [Own, E.all_append, List.length_append]; exact r2, r3, r5⟩
theorem heap_setCells {T : TypeId} {f : Nat × Nat} (g : Nat) : ∀ (vs : List Value) (o : Nat) (w : World) (cur : Array Value), w.heap[g]? = some (.cells cur T f) → ∃ cur', (w.setCells g o vs).heap[g]? = some (.cells cur' T f) ∧ cur'.size = cur.size
  | [], _, _, cur, h => ⟨cur, h, rfl⟩
  | v :: r, o, w, cur, h => by
    obtain ⟨c', h1, h2⟩ := heap_setCells g r (o + 1) (w.setCell ⟨g, o, none⟩ v) _ (heap_set_same h v)
    exact ⟨c', h1, by simpa using h2⟩
theorem gsetCells (g : Nat) : ∀ (vs : List Value) (o : Nat) (w : World), w.grownBy (w.setCells g o vs) (some g)
  | [], _, w => World.grownBy.refl w _
  | v :: r, o, w => gtrans (gset (World.grownBy.refl w _) o v) (gsetCells g r (o + 1) (w.setCell ⟨g, o, none⟩ v))
/-- copy between two slices of one length -/
theorem copy_own (ty : TypeId) (d : Value) (l : List α) (hd : Own E w base d l) (s : Value) (m : List α) (hs : Rd E w s m) (hlm : l.length = m.length) :
    ∃ w', (Builtin.copy_ #[E.S, E.S] ty #[d, s]).run Tryz.prog w = .ok (goInt m.length) w' ∧ Own E w' base d m ∧ w.grownBy w' d.ownBlock := by
  obtain ⟨i, hi, hz, h1, h2⟩ := info_parts E.info
  have hl0 : ∀ x : Addr, (loadCells x 0).run Tryz.prog w = .ok #[] w := fun x => by simpa using run_loadCells_list (P := Tryz.prog) w x [] (by simp)
  have hd0 := hd
  obtain ⟨sa, sc, rfl, s1, s2, s3⟩ := hs
  rcases s3 with rfl | ⟨sg, so, rfl, s4, s5⟩
  · obtain rfl : l = [] := List.eq_nil_of_length_eq_zero hlm
    refine ⟨w, ?_, hd0, World.grownBy.refl w _⟩
    obtain ⟨_, ⟨rfl, hl⟩ | ⟨g, cap, cur, rfl, _, _, hnc, _⟩⟩ := hd
    · cases sa <;> simp [Builtin.copy_, run_underlying E.und, sizeOf, typeInfo, hi, Builtin.lenOf, Builtin.firstCells, hl0]
    · cases sa <;> simp [Builtin.copy_, run_underlying E.und, sizeOf, typeInfo, hi, Builtin.lenOf, Builtin.firstCells, hl0, storeCells]
  · obtain ⟨_, ⟨rfl, hl⟩ | ⟨g, cap, cur, rfl, hb, hg, hnc, hcm, hcs, htk⟩⟩ := hd
    · obtain rfl : l = [] := List.eq_nil_of_length_eq_zero hl
      obtain rfl : m = [] := List.eq_nil_of_length_eq_zero hlm.symm
      exact ⟨w, by simp [Builtin.copy_, run_underlying E.und, sizeOf, typeInfo, hi, Builtin.lenOf, Builtin.firstCells, hl0], hd0, World.grownBy.refl w _⟩
    · have hl := run_loadCells_list (P := Tryz.prog) w ⟨sg, so, none⟩ (E.all m) (fun j u hj => by rw [add_at]; exact s5 j u hj)
      have hml : (E.all m).length ≤ cur.size := by rw [E.all_length, hcs]; exact Nat.mul_le_mul_right _ (by omega)
      have hin : ∀ j, j < (E.all m).length → (w.cell? ⟨g, j, none⟩).isSome = true := fun j hj => by
        simp [World.cell?, hg, Array.getElem?_eq_getElem (show j < cur.size by omega)]
      have hst := run_storeCells_cells (P := Tryz.prog) g 0 (E.all m) 0 w (by simpa using hin) (fun j hj => by simp [World.frozen?, hg]) (E.all_one m)
      rw [E.all_length] at hl
      obtain ⟨c', e1, e2⟩ := heap_setCells g (E.all m) 0 w cur hg
      refine ⟨w.setCells g 0 (E.all m), ?_, ?_, gsetCells g _ _ _⟩
      · simp [Builtin.copy_, run_underlying E.und, Builtin.lenOf, Builtin.firstCells, sizeOf, typeInfo, hi, h1, hlm, hl, hst]
      · rw [hlm]
        refine Own.of hb e1 (by omega) hcm (by omega) fun j u hj => ?_
        obtain ⟨hj', hu⟩ := List.getElem?_eq_some_iff.1 hj
        have := World.cell?_setCells_in g (E.all m) 0 w (by simpa using hin) j hj'
        rw [Nat.zero_add] at this
        rw [this, hu]
/-- the walk's steps -/
theorem wp_append_f {o : Oper} {a : Act} {K : Act → World → Prop} {Q : Exit → Act → World → Prop} (s x : Operand) (ho : o.op = .call { callee := .builtin .append, args := #[s, x], argTypes := #[E.S, E.S] })
    {ad : Option Addr} {n : Nat} {sv : Value} {l m : List α} (hs : a.eval s = .slice ad n n) (hx : a.eval x = sv) (hv : Rd E w (.slice ad n n) l) (hm : Rd E w sv m) (hm0 : m ≠ []) (hn : l.length + m.length ≤ 1099511627776) (hby : E.bytes ≤ 128) (hbase : base ≤ w.heap.size)
    (h : ∀ v' w', Own E w' base v' (l ++ m) → w.grownBy w' none → v'.ownBlock = some w.heap.size → K (a.put o.dst v') w') : o.wp Tryz.prog a w K Q := by
  obtain ⟨v', w', r1, r2, r3, r4⟩ := append_full (base := base) o.type ad n l hv sv m hm hm0 hn hby hbase (fun h _ => by obtain ⟨_, _, e, _⟩ := hv; cases e; simp [h])
  unfold Oper.wp execOp
  simp only [ho, resolve, invoke, builtin, Sem.run_bind, Sem.run_pure, Result.andThen_ok, List.map_toArray, List.map_cons, List.map_nil, hs, hx, r1]
  exact h v' w' r2 r3 r4
theorem step_append_f {ops : Array Oper} {o : Oper} {a : Act} {K : Act → World → Prop} {Q : Exit → Act → World → Prop} {F : Prop} (hgd : o.guard = none) (s x : Operand) (ho : o.op = .call { callee := .builtin .append, args := #[s, x], argTypes := #[E.S, E.S] })
    {ad : Option Addr} {n : Nat} {sv : Value} {l m : List α} (hs : a.eval s = .slice ad n n) (hx : a.eval x = sv) (hv : Rd E w (.slice ad n n) l) (hm : Rd E w sv m) (hm0 : m ≠ []) (hn : l.length + m.length ≤ 1099511627776) (hby : E.bytes ≤ 128) (hbase : base ≤ w.heap.size)
    (h : ∀ v' w', Own E w' base v' (l ++ m) → w.grownBy w' none → v'.ownBlock = some w.heap.size → K (a.put o.dst v') w') :
    if Region.wanted o (yielded ops a.tmps) = true then Oper.wp Tryz.prog o a w K Q else F := by
  have hw : Region.wanted o (yielded ops a.tmps) = true := by simp [Region.wanted, hgd]
  rw [if_pos hw]
  exact wp_append_f s x ho hs hx hv hm hm0 hn hby hbase h
theorem wp_append_r {o : Oper} {a : Act} {K : Act → World → Prop} {Q : Exit → Act → World → Prop} (s x : Operand) (ho : o.op = .call { callee := .builtin .append, args := #[s, x], argTypes := #[E.S, E.S] })
    {v sv : Value} {l m : List α} (hs : a.eval s = v) (hx : a.eval x = sv) (hv : Own E w base v l) (hm : Rd E w sv m) (hn : l.length + m.length ≤ 1099511627776) (hby : E.bytes ≤ 128) (hbase : base ≤ w.heap.size)
    (h : ∀ v' w', Own E w' base v' (l ++ m) → w.grownBy w' v.ownBlock → (v'.ownBlock = v.ownBlock ∨ v'.ownBlock = some w.heap.size) → K (a.put o.dst v') w') : o.wp Tryz.prog a w K Q := by
  obtain ⟨v', w', r1, r2, r3, r4⟩ := append_own_rd o.type v l hv sv m hm hn hby hbase
  unfold Oper.wp execOp
  simp only [ho, resolve, invoke, builtin, Sem.run_bind, Sem.run_pure, Result.andThen_ok, List.map_toArray, List.map_cons, List.map_nil, hs, hx, r1]
  exact h v' w' r2 r3 r4
theorem wpList_append_r {ops : Array Oper} {rest : List Oper} {o : Oper} {a : Act} {Q : Exit → Act → World → Prop} (hgd : o.guard = none) (s x : Operand) (ho : o.op = .call { callee := .builtin .append, args := #[s, x], argTypes := #[E.S, E.S] })
    {v sv : Value} {l m : List α} (hs : a.eval s = v) (hx : a.eval x = sv) (hv : Own E w base v l) (hm : Rd E w sv m) (hn : l.length + m.length ≤ 1099511627776) (hby : E.bytes ≤ 128) (hbase : base ≤ w.heap.size)
    (h : ∀ v' w', Own E w' base v' (l ++ m) → w.grownBy w' v.ownBlock → (v'.ownBlock = v.ownBlock ∨ v'.ownBlock = some w.heap.size) → wpList Tryz.prog ops Q rest (a.put o.dst v') w') : wpList Tryz.prog ops Q (o :: rest) a w :=
  wpList_plain hgd fun _ hK => wp_append_r s x ho hs hx hv hm hn hby hbase fun v' w' h2 h3 h4 => hK _ _ (h v' w' h2 h3 h4)
end
end Go.Proofs.YteialkknddpbjaaGreatDoor
