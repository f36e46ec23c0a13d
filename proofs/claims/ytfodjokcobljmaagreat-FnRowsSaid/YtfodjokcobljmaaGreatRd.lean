/- Slices that can be read; append onto a slice that has no room left; copy. -/
import Derived.Test.YtfodjokcobljmaaGreatOwn
import Derived.Laws.IdiomCopy
namespace Go.Proofs.YtfodjokcobljmaaGreat
open Go.ChangeShapes Go.WideShapes Go.ChangeAt Go.RowKit

/-- v is a slice whose elements l can be read -/
def Rd {α : Type} (E : Elt α) (w : World) (v : Value) (l : List α) : Prop :=
  ∃ a cap, v = .slice a l.length cap ∧ l.length ≤ cap ∧ cap ≤ 9223372036854775807 ∧ (l = [] ∨ ∃ g o, a = some ⟨g, o, none⟩ ∧ g < w.heap.size ∧ ∀ j u, (E.all l)[j]? = some u → w.cell? ⟨g, o + j, none⟩ = some u)
theorem add_at (g o j : Nat) : (⟨g, o, none⟩ : Addr).add j = ⟨g, o + j, none⟩ := by unfold Addr.add; split <;> simp_all
section
variable {α : Type} {E : Elt α} {w w' : World} {base : Nat} {v : Value} {l : List α}
theorem Own.rd (h : Own E w base v l) : Rd E w v l := by
  obtain ⟨hx, ⟨rfl, hm⟩ | ⟨g, cap, cur, rfl, _, hg, h3, h4, h5, h6⟩⟩ := h
  · exact ⟨none, 0, by rw [hm], by omega, by omega, .inl (List.eq_nil_of_length_eq_zero hm)⟩
  · refine ⟨_, cap, rfl, h3, by unfold maxLen at h4; omega, .inr ⟨g, 0, rfl, (Array.getElem?_eq_some_iff.1 hg).1, fun j u hj => ?_⟩⟩
    rw [← h6, List.getElem?_take] at hj
    split at hj
    · simp [World.cell?, hg]; rw [← hj]; simp
    · cases hj
theorem Rd.kept (h : Rd E w v l) (hg : w.grownBy w' none) : Rd E w' v l := by
  obtain ⟨a, cap, h1, h2, h3, h4 | ⟨g, o, h4, h5, h6⟩⟩ := h
  · exact ⟨a, cap, h1, h2, h3, .inl h4⟩
  · exact ⟨a, cap, h1, h2, h3, .inr ⟨g, o, h4, by have := hg.size; omega, fun j u hj => gkc hg (h6 j u hj)⟩⟩
theorem Elt.all_take (E : Elt α) (l : List α) (k j : Nat) (u : Value) (h : (E.all (l.take k))[j]? = some u) : (E.all l)[j]? = some u := by
  have e : E.all l = E.all (l.take k) ++ E.all (l.drop k) := by rw [← E.all_append, List.take_append_drop]
  rw [e, List.getElem?_append_left (List.getElem?_eq_some_iff.1 h).1]; exact h
theorem Elt.all_drop (E : Elt α) (l : List α) (k j : Nat) (u : Value) (hk : k ≤ l.length) (h : (E.all (l.drop k))[j]? = some u) : (E.all l)[k * E.size + j]? = some u := by
  have e : E.all l = E.all (l.take k) ++ E.all (l.drop k) := by rw [← E.all_append, List.take_append_drop]
  have hl : (E.all (l.take k)).length = k * E.size := by rw [E.all_length, List.length_take, Nat.min_eq_left hk]
  rw [e, List.getElem?_append_right (by omega), hl, Nat.add_sub_cancel_left]; exact h
/-- the front of a slice -/
theorem Rd.front {a : Option Addr} {n c : Nat} (h : Rd E w (.slice a n c) l) (k c' : Nat) (hk : k ≤ l.length) (hc : k ≤ c') (hc' : c' ≤ c) : Rd E w (.slice a k c') (l.take k) := by
  obtain ⟨a, cap, h1, h2, h3, h4⟩ := h
  cases h1
  refine ⟨a, c', by simp [Nat.min_eq_left hk], by simp; omega, by omega, ?_⟩
  rcases h4 with h4 | ⟨g, o, h4, h5, h6⟩
  · exact .inl (by simp [h4])
  · exact .inr ⟨g, o, h4, h5, fun j u hj => h6 j u (E.all_take l k j u hj)⟩
/-- the rest of a slice -/
theorem Rd.rest {a : Option Addr} {n c : Nat} (h : Rd E w (.slice a n c) l) (k : Nat) (hk : k ≤ l.length) : Rd E w (sliced a k n c E.size) (l.drop k) := by
  obtain ⟨a, cap, h1, h2, h3, h4⟩ := h
  cases h1
  refine ⟨_, c - k, by unfold sliced; rw [List.length_drop], by simp; omega, by omega, ?_⟩
  rcases h4 with h4 | ⟨g, o, h4, h5, h6⟩
  · exact .inl (by simp [h4])
  · by_cases hck : c = k
    · exact .inl (List.drop_of_length_le (by omega))
    · refine .inr ⟨g, o + k * E.size, by simp [hck, h4, add_at], h5, fun j u hj => ?_⟩
      rw [Nat.add_assoc]
      exact h6 _ u (E.all_drop l k j u hk hj)
/-- a block that holds the elements -/
theorem Own.of {g cap : Nat} {cur : Array Value} (hb : base ≤ g) (hg : w.heap[g]? = some (.cells cur E.T (0, 0))) (h1 : l.length ≤ cap) (h2 : cap ≤ maxLen) (h3 : cur.size = cap * E.size)
    (h : ∀ j u, (E.all l)[j]? = some u → w.cell? ⟨g, j, none⟩ = some u) : Own E w base (.slice (some ⟨g, 0, none⟩) l.length cap) l := by
  refine ⟨E.all_length l, .inr ⟨g, cap, cur, rfl, hb, hg, h1, h2, h3, ?_⟩⟩
  apply List.ext_getElem?
  intro j
  have hle : l.length * E.size ≤ cap * E.size := Nat.mul_le_mul_right _ h1
  by_cases hj : j < l.length * E.size
  · have hj' : j < (E.all l).length := by rw [E.all_length]; exact hj
    have := h j _ (List.getElem?_eq_getElem hj')
    simp [World.cell?, hg] at this
    rw [List.getElem?_take, if_pos hj, List.getElem?_eq_getElem hj', ← this]
    simp
  · rw [List.getElem?_take, if_neg hj, List.getElem?_eq_none (by rw [E.all_length]; omega)]
end
section
variable {α : Type} {E : Elt α} {w : World} {base : Nat}
/-- what a growing append makes -/
theorem grown_own (l m : List α) (old : Nat) (z : Value) (hz : z.cells.size = E.size) (hn : l.length + m.length ≤ 1099511627776) (hbase : base ≤ w.heap.size) :
    Own E (w.drew.alloc (.cells ((E.all l).toArray ++ (E.all m).toArray ++ Builtin.zeroCells z.cells (grownCap w (l.length + m.length) old E.T - (l.length + m.length))) E.T)) base
      (.slice (some ⟨w.heap.size, 0, none⟩) (l.length + m.length) (grownCap w (l.length + m.length) old E.T)) (l ++ m) := by
  have hge := grownCap_ge w (l.length + m.length) old E.T
  have hcm : grownCap w (l.length + m.length) old E.T ≤ maxLen := grownCap_le_maxLen w (l.length + m.length) old E.T (by unfold maxLen; omega)
  have hlen : (E.all l ++ E.all m).length = (l.length + m.length) * E.size := by rw [List.length_append, E.all_length, E.all_length, Nat.add_mul]
  refine ⟨E.all_length _, .inr ⟨w.heap.size, _, _, by rw [List.length_append], hbase, heap_alloc_new w.drew _, by rw [List.length_append]; exact hge, hcm, ?_, ?_⟩⟩
  · simp only [Array.size_append, List.size_toArray, size_zeroCells, hz, E.all_length, ← Nat.add_mul]
    congr 1
    omega
  · simp only [Array.toList_append, List.append_assoc]
    rw [← List.append_assoc, List.length_append, ← hlen, E.all_append]
    exact List.take_left
/-- append onto a slice that has no room left: the answer is new memory -/
theorem append_full (ty : TypeId) (a : Option Addr) (n : Nat) (l : List α) (hv : Rd E w (.slice a n n) l) (s : Value) (m : List α) (hs : Rd E w s m) (hm : m ≠ []) (hn : l.length + m.length ≤ 1099511627776) (hby : E.bytes ≤ 128) (hbase : base ≤ w.heap.size)
    (ha : l = [] → a = none → n = 0) :
    ∃ v' w', (Builtin.append_ #[E.S, E.S] ty #[.slice a n n, s]).run Tryz.prog w = .ok v' w' ∧ Own E w' base v' (l ++ m) ∧ w.grownBy w' none ∧ v'.ownBlock = some w.heap.size := by
  obtain ⟨i, hi, hz, h1, h2⟩ := info_parts E.info
  have hb : (l.length + m.length) * E.bytes ≤ 140737488355328 := Nat.le_trans (Nat.mul_le_mul hn hby) (by omega)
  have hmp : 0 < m.length := List.length_pos_iff.2 hm
  obtain ⟨_, sc, rfl, s1, s2, s3 | ⟨sg, so, rfl, s4, s5⟩⟩ := hs
  · exact absurd s3 hm
  have hsrc : ∀ j u, (E.all m)[j]? = some u → w.cell? ((⟨sg, so, none⟩ : Addr).add j) = some u := fun j u hj => by rw [add_at]; exact s5 j u hj
  have hg2 : ∀ o : Obj, w.grownBy (w.drew.alloc o) none := fun o => galloc (gdrew (grefl w) 1) o
  obtain ⟨a', c', hv1, hv2, hv3, hv4⟩ := hv
  cases hv1
  cases a with
  | none =>
    rcases hv4 with hv4 | ⟨g, o, h, _⟩
    · subst hv4
      have hr := run_append_nil (P := Tryz.prog) w E.S ty E.T i E.z E.und hi hz ⟨sg, so, none⟩ m.length sc (E.all m) (by rw [h1, E.all_length]) hsrc hmp (by omega) (by rw [h2]; simp at hb; omega)
      have ho := grown_own (E := E) (w := w) (base := base) [] m 0 E.z E.zs (by simpa using hn) hbase
      simp only [List.length_nil, Nat.zero_add] at ho
      exact ⟨_, _, hr, by simpa [Elt.all] using ho, hg2 _, rfl⟩
    · cases h
  | some b =>
    have holds : ∀ j u, (E.all l)[j]? = some u → w.cell? (b.add j) = some u := by
      rcases hv4 with hv4 | ⟨g, o, h, _, h6⟩
      · subst hv4; intro j u hj; simp [Elt.all] at hj
      · cases h; intro j u hj; rw [add_at]; exact h6 j u hj
    have hr := run_append_grow (P := Tryz.prog) w E.S ty E.T i E.z E.und hi hz b l.length l.length (E.all l) (by rw [h1, E.all_length]) holds ⟨sg, so, none⟩ m.length sc (E.all m) (by rw [h1, E.all_length]) hsrc (by omega) (by omega) (growslice_fits (by omega) (by rw [h2]; exact hb))
    exact ⟨_, _, hr, grown_own l m l.length E.z E.zs hn hbase, hg2 _, rfl⟩
/-- append onto a slice that is its own, from one that can be read -/
theorem append_own_rd (ty : TypeId) (v : Value) (l : List α) (hv : Own E w base v l) (s : Value) (m : List α) (hs : Rd E w s m) (hn : l.length + m.length ≤ 1099511627776) (hby : E.bytes ≤ 128) (hbase : base ≤ w.heap.size) :
    ∃ v' w', (Builtin.append_ #[E.S, E.S] ty #[v, s]).run Tryz.prog w = .ok v' w' ∧ Own E w' base v' (l ++ m) ∧ w.grownBy w' v.ownBlock ∧ (v'.ownBlock = v.ownBlock ∨ v'.ownBlock = some w.heap.size) := by
  obtain ⟨i, hi, hz, h1, h2⟩ := info_parts E.info
  have hb : (l.length + m.length) * E.bytes ≤ 140737488355328 := Nat.le_trans (Nat.mul_le_mul hn hby) (by omega)
  obtain ⟨sa, sc, rfl, s1, s2, s3⟩ := hs
  rcases s3 with rfl | ⟨sg, so, rfl, s4, s5⟩
  · refine ⟨v, w, ?_, by simpa using hv, World.grownBy.refl w _, .inl rfl⟩
    have hl0 : ∀ x : Addr, (loadCells x 0).run Tryz.prog w = .ok #[] w := fun x => by simpa using run_loadCells_list (P := Tryz.prog) w x [] (by simp)
    obtain ⟨_, ⟨rfl, hl⟩ | ⟨g, cap, cur, rfl, _, _, hnc, _⟩⟩ := hv
    · cases sa <;> simp [Builtin.append_, run_underlying E.und, sizeOf, typeInfo, hi, Builtin.lenOf, Builtin.firstCells, hl0]
    · cases sa <;> simp [Builtin.append_, run_underlying E.und, sizeOf, typeInfo, hi, Builtin.lenOf, Builtin.firstCells, hnc, storeCells, hl0]
  · obtain ⟨v', w', r1, r2, r3, _, r5⟩ := run_append_own_at (P := Tryz.prog) w base E.S ty E.T i E.z E.size E.bytes E.und hi hz h1 h2 E.zs E.pos v l.length (E.all l) hv ⟨sg, so, none⟩ m.length sc (E.all m) (by rw [E.all_length]) (fun j u hj => by rw [add_at]; exact s5 j u hj) (E.all_one m) (by unfold maxLen; omega) hb hbase
    exact ⟨v', w', r1, by rw [Own, E.all_append, List.length_append]; exact r2, r3, r5⟩
theorem heap_setCells {T : TypeId} {f : Nat × Nat} (g : Nat) : ∀ (vs : List Value) (o : Nat) (w : World) (cur : Array Value), w.heap[g]? = some (.cells cur T f) → ∃ cur', (w.setCells g o vs).heap[g]? = some (.cells cur' T f) ∧ cur'.size = cur.size
  | [], _, _, cur, h => ⟨cur, h, rfl⟩
  | v :: r, o, w, cur, h => by
    obtain ⟨c', h1, h2⟩ := heap_setCells g r (o + 1) (w.setCell ⟨g, o, none⟩ v) _ (heap_set_same h v)
    exact ⟨c', h1, by simpa using h2⟩
theorem gsetCells (g : Nat) : ∀ (vs : List Value) (o : Nat) (w : World), w.grownBy (w.setCells g o vs) (some g)
  | [], _, w => World.grownBy.refl w _
  | v :: r, o, w => gtrans (gset (World.grownBy.refl w _) o v) (gsetCells g r (o + 1) (w.setCell ⟨g, o, none⟩ v))
/-- copy between two slices of one length -/
theorem copy_own (ty : TypeId) (d : Value) (l : List α) (hd : Own E w base d l) (s : Value) (m : List α) (hs : Rd E w s m) (hlm : l.length = m.length) :
    ∃ w', (Builtin.copy_ #[E.S, E.S] ty #[d, s]).run Tryz.prog w = .ok (goInt m.length) w' ∧ Own E w' base d m ∧ w.grownBy w' d.ownBlock := by
  obtain ⟨i, hi, hz, h1, h2⟩ := info_parts E.info
  have hl0 : ∀ x : Addr, (loadCells x 0).run Tryz.prog w = .ok #[] w := fun x => by simpa using run_loadCells_list (P := Tryz.prog) w x [] (by simp)
  have hd0 := hd
  obtain ⟨sa, sc, rfl, s1, s2, s3⟩ := hs
  rcases s3 with rfl | ⟨sg, so, rfl, s4, s5⟩
  · obtain rfl : l = [] := List.eq_nil_of_length_eq_zero hlm
    refine ⟨w, ?_, hd0, World.grownBy.refl w _⟩
    obtain ⟨_, ⟨rfl, hl⟩ | ⟨g, cap, cur, rfl, _, _, hnc, _⟩⟩ := hd
    · cases sa <;> simp [Builtin.copy_, run_underlying E.und, sizeOf, typeInfo, hi, Builtin.lenOf, Builtin.firstCells, hl0]
    · cases sa <;> simp [Builtin.copy_, run_underlying E.und, sizeOf, typeInfo, hi, Builtin.lenOf, Builtin.firstCells, hl0, storeCells]
  · obtain ⟨_, ⟨rfl, hl⟩ | ⟨g, cap, cur, rfl, hb, hg, hnc, hcm, hcs, htk⟩⟩ := hd
    · obtain rfl : l = [] := List.eq_nil_of_length_eq_zero hl
      obtain rfl : m = [] := List.eq_nil_of_length_eq_zero hlm.symm
      exact ⟨w, by simp [Builtin.copy_, run_underlying E.und, sizeOf, typeInfo, hi, Builtin.lenOf, Builtin.firstCells, hl0], hd0, World.grownBy.refl w _⟩
    · have hl := run_loadCells_list (P := Tryz.prog) w ⟨sg, so, none⟩ (E.all m) (fun j u hj => by rw [add_at]; exact s5 j u hj)
      have hml : (E.all m).length ≤ cur.size := by rw [E.all_length, hcs]; exact Nat.mul_le_mul_right _ (by omega)
      have hin : ∀ j, j < (E.all m).length → (w.cell? ⟨g, j, none⟩).isSome = true := fun j hj => by
        simp [World.cell?, hg, Array.getElem?_eq_getElem (show j < cur.size by omega)]
      have hst := run_storeCells_cells (P := Tryz.prog) g 0 (E.all m) 0 w (by simpa using hin) (fun j hj => by simp [World.frozen?, hg]) (E.all_one m)
      rw [E.all_length] at hl
      obtain ⟨c', e1, e2⟩ := heap_setCells g (E.all m) 0 w cur hg
      refine ⟨w.setCells g 0 (E.all m), ?_, ?_, gsetCells g _ _ _⟩
      · simp [Builtin.copy_, run_underlying E.und, Builtin.lenOf, Builtin.firstCells, sizeOf, typeInfo, hi, h1, hlm, hl, hst]
      · rw [hlm]
        refine Own.of hb e1 (by omega) hcm (by omega) fun j u hj => ?_
        obtain ⟨hj', hu⟩ := List.getElem?_eq_some_iff.1 hj
        have := World.cell?_setCells_in g (E.all m) 0 w (by simpa using hin) j hj'
        rw [Nat.zero_add] at this
        rw [this, hu]
/-- the walk's steps -/
theorem wp_append_f {o : Oper} {a : Act} {K : Act → World → Prop} {Q : Exit → Act → World → Prop} (s x : Operand) (ho : o.op = .call { callee := .builtin .append, args := #[s, x], argTypes := #[E.S, E.S] })
    {ad : Option Addr} {n : Nat} {sv : Value} {l m : List α} (hs : a.eval s = .slice ad n n) (hx : a.eval x = sv) (hv : Rd E w (.slice ad n n) l) (hm : Rd E w sv m) (hm0 : m ≠ []) (hn : l.length + m.length ≤ 1099511627776) (hby : E.bytes ≤ 128) (hbase : base ≤ w.heap.size)
    (h : ∀ v' w', Own E w' base v' (l ++ m) → w.grownBy w' none → v'.ownBlock = some w.heap.size → K (a.put o.dst v') w') : o.wp Tryz.prog a w K Q := by
  obtain ⟨v', w', r1, r2, r3, r4⟩ := append_full (base := base) o.type ad n l hv sv m hm hm0 hn hby hbase (fun h _ => by obtain ⟨_, _, e, _⟩ := hv; cases e; simp [h])
  unfold Oper.wp execOp
  simp only [ho, resolve, invoke, builtin, Sem.run_bind, Sem.run_pure, Result.andThen_ok, List.map_toArray, List.map_cons, List.map_nil, hs, hx, r1]
  exact h v' w' r2 r3 r4
theorem step_append_f {ops : Array Oper} {o : Oper} {a : Act} {K : Act → World → Prop} {Q : Exit → Act → World → Prop} {F : Prop} (hgd : o.guard = none) (s x : Operand) (ho : o.op = .call { callee := .builtin .append, args := #[s, x], argTypes := #[E.S, E.S] })
    {ad : Option Addr} {n : Nat} {sv : Value} {l m : List α} (hs : a.eval s = .slice ad n n) (hx : a.eval x = sv) (hv : Rd E w (.slice ad n n) l) (hm : Rd E w sv m) (hm0 : m ≠ []) (hn : l.length + m.length ≤ 1099511627776) (hby : E.bytes ≤ 128) (hbase : base ≤ w.heap.size)
    (h : ∀ v' w', Own E w' base v' (l ++ m) → w.grownBy w' none → v'.ownBlock = some w.heap.size → K (a.put o.dst v') w') :
    if Region.wanted o (yielded ops a.tmps) = true then Oper.wp Tryz.prog o a w K Q else F := by
  have hw : Region.wanted o (yielded ops a.tmps) = true := by simp [Region.wanted, hgd]
  rw [if_pos hw]
  exact wp_append_f s x ho hs hx hv hm hm0 hn hby hbase h
theorem wp_append_r {o : Oper} {a : Act} {K : Act → World → Prop} {Q : Exit → Act → World → Prop} (s x : Operand) (ho : o.op = .call { callee := .builtin .append, args := #[s, x], argTypes := #[E.S, E.S] })
    {v sv : Value} {l m : List α} (hs : a.eval s = v) (hx : a.eval x = sv) (hv : Own E w base v l) (hm : Rd E w sv m) (hn : l.length + m.length ≤ 1099511627776) (hby : E.bytes ≤ 128) (hbase : base ≤ w.heap.size)
    (h : ∀ v' w', Own E w' base v' (l ++ m) → w.grownBy w' v.ownBlock → (v'.ownBlock = v.ownBlock ∨ v'.ownBlock = some w.heap.size) → K (a.put o.dst v') w') : o.wp Tryz.prog a w K Q := by
  obtain ⟨v', w', r1, r2, r3, r4⟩ := append_own_rd o.type v l hv sv m hm hn hby hbase
  unfold Oper.wp execOp
  simp only [ho, resolve, invoke, builtin, Sem.run_bind, Sem.run_pure, Result.andThen_ok, List.map_toArray, List.map_cons, List.map_nil, hs, hx, r1]
  exact h v' w' r2 r3 r4
theorem wpList_append_r {ops : Array Oper} {rest : List Oper} {o : Oper} {a : Act} {Q : Exit → Act → World → Prop} (hgd : o.guard = none) (s x : Operand) (ho : o.op = .call { callee := .builtin .append, args := #[s, x], argTypes := #[E.S, E.S] })
    {v sv : Value} {l m : List α} (hs : a.eval s = v) (hx : a.eval x = sv) (hv : Own E w base v l) (hm : Rd E w sv m) (hn : l.length + m.length ≤ 1099511627776) (hby : E.bytes ≤ 128) (hbase : base ≤ w.heap.size)
    (h : ∀ v' w', Own E w' base v' (l ++ m) → w.grownBy w' v.ownBlock → (v'.ownBlock = v.ownBlock ∨ v'.ownBlock = some w.heap.size) → wpList Tryz.prog ops Q rest (a.put o.dst v') w') : wpList Tryz.prog ops Q (o :: rest) a w :=
  wpList_plain hgd fun _ hK => wp_append_r s x ho hs hx hv hm hn hby hbase fun v' w' h2 h3 h4 => hK _ _ (h v' w' h2 h3 h4)
/-- an append that is guarded, its guard says yes -/
theorem wpList_append_rg {ops : Array Oper} {rest : List Oper} {o : Oper} {a : Act} {Q : Exit → Act → World → Prop} (hgd : Region.wanted o (yielded ops a.tmps) = true) (s x : Operand) (ho : o.op = .call { callee := .builtin .append, args := #[s, x], argTypes := #[E.S, E.S] })
    {v sv : Value} {l m : List α} (hs : a.eval s = v) (hx : a.eval x = sv) (hv : Own E w base v l) (hm : Rd E w sv m) (hn : l.length + m.length ≤ 1099511627776) (hby : E.bytes ≤ 128) (hbase : base ≤ w.heap.size)
    (h : ∀ v' w', Own E w' base v' (l ++ m) → w.grownBy w' v.ownBlock → (v'.ownBlock = v.ownBlock ∨ v'.ownBlock = some w.heap.size) → wpList Tryz.prog ops Q rest (a.put o.dst v') w') : wpList Tryz.prog ops Q (o :: rest) a w :=
  BigFrame.wpList_want hgd fun _ hK => wp_append_r s x ho hs hx hv hm hn hby hbase fun v' w' h2 h3 h4 => hK _ _ (h v' w' h2 h3 h4)
theorem wpList_copy_o {ops : Array Oper} {rest : List Oper} {o : Oper} {a : Act} {Q : Exit → Act → World → Prop} (hgd : o.guard = none) (d s : Operand) (ho : o.op = .call { callee := .builtin .copy, args := #[d, s], argTypes := #[E.S, E.S] })
    {v sv : Value} {l m : List α} (hd : a.eval d = v) (hs : a.eval s = sv) (hv : Own E w base v l) (hm : Rd E w sv m) (hlm : l.length = m.length)
    (h : ∀ w', Own E w' base v m → w.grownBy w' v.ownBlock → wpList Tryz.prog ops Q rest (a.put o.dst (goInt m.length)) w') : wpList Tryz.prog ops Q (o :: rest) a w :=
  wpList_plain hgd fun _ hK => by
    obtain ⟨w', r1, r2, r3⟩ := copy_own o.type v l hv sv m hm hlm
    unfold Oper.wp execOp
    simp only [ho, resolve, invoke, builtin, Sem.run_bind, Sem.run_pure, Result.andThen_ok, List.map_toArray, List.map_cons, List.map_nil, hd, hs, r1]
    exact hK _ _ (h w' r2 r3)
end
end Go.Proofs.YtfodjokcobljmaaGreat
