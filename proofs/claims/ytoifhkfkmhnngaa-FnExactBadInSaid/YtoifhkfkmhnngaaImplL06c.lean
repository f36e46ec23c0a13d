/- What the program's functions of chapter 6 return: lost cells, recomputed values. -/
import Derived.Test.YtoifhkfkmhnngaaImplL06b
namespace Go.Proofs.Ytoifhkfkmhnngaa
open Go.ChangeShapes Go.WideShapes Go.ChangeAt Go.RowKit Go.Shelf
attribute [local go_sem] Oper.semAt_some

/-- a block of two cells -/
def Boxed2 (W : World) (B : Nat) (t : TypeId) (u v : Value) : Prop := W.heap[B]? = some (.cells #[u, v] t (0, 0))
theorem Boxed2.new (W : World) (t : TypeId) (u v : Value) : Boxed2 (W.alloc (.cells #[u, v] t)) W.heap.size t u v := World.alloc_heap_new W _
theorem Boxed2.cell0 {W : World} {B : Nat} {t : TypeId} {u v : Value} (h : Boxed2 W B t u v) : W.cell? ⟨B, 0, none⟩ = some u := by simp [World.cell?, show W.heap[B]? = _ from h]
theorem Boxed2.cell1 {W : World} {B : Nat} {t : TypeId} {u v : Value} (h : Boxed2 W B t u v) : W.cell? ⟨B, 1, none⟩ = some v := by simp [World.cell?, show W.heap[B]? = _ from h]
theorem boxed2_own {β : Type} (B : Nat) (t : TypeId) (u v : Value) : Go.Own (fun (_ : β) W => Boxed2 W B t u v) := fun s X Y row hs hg hrow => by
  refine (hg.block B (Array.getElem?_eq_some_iff.1 hs).1 fun e => ?_).trans hs
  obtain ⟨o, ho, hc⟩ := hrow B e.symm
  rw [show X.heap[B]? = _ from hs] at ho; cases ho; cases hc
/-- what an append onto the slice in box B, and the store of its answer, leave -/
theorem collected {W w1 : World} {n₀ N B c : Nat} {t e : TypeId} {size : Nat} {v v' : Value} {k m : Nat} {xs ys : List Value} {tmp : Obj}
    (hv : Boxed W B t v) (hte : t ≠ e) (hrow : W.ownsRow N e size v k xs) (hN : N ≤ W.heap.size) (hB : n₀ ≤ B) (hBN : B < N) (hc : c < N) (hcB : c ≠ B)
    (hown' : w1.ownsRow N e size v' m ys) (hgrow : (W.alloc tmp).grownBy w1 v.ownBlock) :
    Boxed w1 B t v ∧ Boxed (w1.setCell ⟨B, 0, none⟩ v') B t v' ∧ (w1.setCell ⟨B, 0, none⟩ v').ownsRow N e size v' m ys ∧ KeepsOthers W (w1.setCell ⟨B, 0, none⟩ v') ∧ KpR n₀ c W (w1.setCell ⟨B, 0, none⟩ v') := by
  have hv1 : Boxed w1 B t v := (hv.alloc tmp).kept hgrow (hv.not_row hte hrow)
  have hlow : ∀ j, j < N → w1.heap[j]? = W.heap[j]? := fun j hj => by
    refine (hgrow.block j (by simp; omega) fun e' => ?_).trans (Below.heap_alloc W tmp j (by omega))
    rcases hrow.2 with ⟨rfl, _⟩ | ⟨g, cap, cur, rfl, hb, _, _⟩
    · simp [Value.ownBlock] at e'
    · have : j = g := by simpa [Value.ownBlock] using e'
      omega
  refine ⟨hv1, hv1.set v', hown'.kept (grownBy_setCell' w1 B v') (.inr (hv1.not_row hte hown').symm), ?_, ?_, ?_⟩
  · refine ((KeepsOthers.alloc W tmp).trans (KeepsOthers.of_grownBy hgrow fun j o ej hj => ?_)).trans (KeepsOthers.setCell _ _ _)
    rcases (hrow.alloc tmp).2 with ⟨rfl, _⟩ | ⟨g, cap, cur, rfl, _, hgb, _⟩
    · simp [Value.ownBlock] at ej
    · obtain rfl : g = j := by simpa [Value.ownBlock] using ej
      rw [hgb] at hj; cases hj; rfl
  · have h1 : Below n₀ W w1 := ⟨hgrow.os, hgrow.tape, hgrow.output, Nat.le_trans (by simp) hgrow.size, fun j hj => hlow j (by omega)⟩
    exact h1.setCell (p := ⟨B, 0, none⟩) hB v'
  · exact (Below.heap_setCell w1 ⟨B, 0, none⟩ v' c hcB).trans (hlow c hc)
/-- the values that can be read -/
def goodR (l : List RX) : List Int := (l.filter fun x => x.2.2).map fun x => x.2.1
def badR (l : List RX) : List Int := (l.filter fun x => !x.2.2).map fun x => x.1
theorem goodR_yes (l : List RX) {x : RX} (h : x.2.2 = true) : goodR (l ++ [x]) = goodR l ++ [x.2.1] := by simp [goodR, h]
theorem goodR_no (l : List RX) {x : RX} (h : x.2.2 = false) : goodR (l ++ [x]) = goodR l := by simp [goodR, h]
theorem badR_yes (l : List RX) {x : RX} (h : x.2.2 = false) : badR (l ++ [x]) = badR l ++ [x.1] := by simp [badR, h]
theorem badR_no (l : List RX) {x : RX} (h : x.2.2 = true) : badR (l ++ [x]) = badR l := by simp [badR, h]
theorem goodR_length (l : List RX) : (goodR l).length ≤ l.length := by unfold goodR; rw [List.length_map]; exact List.length_filter_le _ _
theorem badR_length (l : List RX) : (badR l).length ≤ l.length := by unfold badR; rw [List.length_map]; exact List.length_filter_le _ _
theorem has_ok {l : List DZ} {r : Int} (h : hasZ l r = true) : disksOkZ l = true := by simp only [hasZ, Bool.and_eq_true] at h; exact h.1
theorem ok_len5 {l : List DZ} (h : disksOkZ l = true) : 3 ≤ l.length ∧ l.length ≤ 5 := by
  simp only [disksOkZ, Bool.and_eq_true] at h
  have := inB_iff.1 h.1
  omega
theorem has_len {l : List DZ} {r : Int} (h : hasZ l r = true) : l.length ≤ 1048576 := by have := ok_len5 (has_ok h); omega
theorem ok_each {l : List DZ} (h : disksOkZ l = true) (i : Nat) (hi : i < l.length) : l[i].ok = true ∧ l[i].n = (i : Int) := by
  simp only [disksOkZ, Bool.and_eq_true, List.all_eq_true] at h
  have := h.2.1 i (by simpa using hi)
  rw [getD_at hi] at this
  simp only [DZ.fitsIn, Bool.and_eq_true, beq_iff_eq] at this
  exact ⟨this.1, this.2.1⟩
theorem can_ok {d : DZ} (h : d.ok = true) (p : Int) : d.canRead p = d.can p ∧ d.readV p = canV d p := ⟨by simp [DZ.canRead, h], by simp [DZ.readV, canV, DZ.canRead, h]⟩
theorem bad_take {l : List DZ} (h : disksOkZ l = true) (r : Int) (k : Nat) (hk : k ≤ l.length) : badR (readR (l.take k) r) = badL l r k := by
  induction k with
  | zero => simp [readR, badR, badL]
  | succ k ih =>
    have hk' : k < l.length := by omega
    obtain ⟨h1, h2⟩ := ok_each h k hk'
    rw [readR_next hk', badL_next l r k hk', ← ih (by omega), (can_ok h1 r).1, h2]
    cases hc : l[k].can r
    · rw [badR_yes _ rfl]; rfl
    · rw [badR_no _ rfl]; rfl
theorem bad_eq {l : List DZ} {r : Int} (h : disksOkZ l = true) : badZ l r = badR (readR l r) := by
  have := bad_take h r l.length (Nat.le_refl _)
  rw [List.take_length] at this
  exact this.symm
theorem good_take {l : List DZ} (h : disksOkZ l = true) (r : Int) (k : Nat) (hk : k ≤ l.length) : foldX (goodR (readR (l.take k) r)) = rowXk l r k ∧ (goodR (readR (l.take k) r)).all okv = true := by
  induction k with
  | zero => exact ⟨rfl, rfl⟩
  | succ k ih =>
    have hk' : k < l.length := by omega
    obtain ⟨h1, h2⟩ := ok_each h k hk'
    obtain ⟨i1, i2⟩ := ih (by omega)
    obtain ⟨c1, c2⟩ := can_ok h1 r
    rw [readR_next hk', c1, c2]
    cases hc : l[k].can r
    · rw [goodR_no _ rfl, rowXk_skip l r k hk' hc]; exact ⟨i1, i2⟩
    · rw [goodR_yes _ rfl, foldX_append, i1, List.all_append, i2]
      refine ⟨?_, by simp [canV_in]⟩
      unfold rowXk
      rw [List.take_succ_eq_append_getElem hk', List.map_append, foldX_append]
      rfl
theorem good_xor {l : List DZ} {r : Int} (h : disksOkZ l = true) : xorZ (goodR (readR l r)) = (rowX l r : Int) := by
  obtain ⟨h1, h2⟩ := good_take h r l.length (Nat.le_refl _)
  rw [List.take_length] at h1 h2
  rw [xorZ_yes h2, h1, rowXk_all]
theorem bad_none (l : List DZ) (r : Int) : ((badZ l r).length == 0) = allCan l r := by
  rw [Bool.eq_iff_iff]
  simp only [badZ, badL, allCan, List.length_map, beq_iff_eq, List.length_eq_zero_iff, List.filter_eq_nil_iff, List.all_eq_true, List.mem_range]
  constructor
  · intro h d hd
    obtain ⟨i, hi, rfl⟩ := List.getElem_of_mem hd
    have := h i hi
    rw [getD_at hi] at this
    simpa using this
  · intro h i hi
    rw [getD_at hi]
    simpa using h _ (List.getElem_mem hi)
set_option maxRecDepth 100000 in
set_option maxHeartbeats 2000000 in
theorem goodValues_any (v : Value) (l : List DZ) (r : Int) (w : World) (h : LD w v l) (hl : l.length ≤ 1048576) :
    Calls Try.prog 42 #[v, .int .i64 r] w (GotI (goodR (readR l r)) w) := by
  obtain ⟨a, cap, rfl, hm⟩ := h.form
  obtain ⟨i0, hi, hz, hz1, hz2⟩ := info_parts intE.info
  have bO := Boxed.new w 30 (.slice none 0 0)
  have G0 := galloc (grefl w) (.cells #[.slice none 0 0] 30)
  refine (callsIn_wide (n := 6)).1 ?_
  refine callsIn_of_wp_marks Try.func42 rfl trivial ?_ rfl
  simp only [Try.ntmps42, List.size_toArray, List.length_cons, List.length_nil, Nat.reduceAdd, Nat.reduceSub, Array.replicate_succ, Array.replicate_zero, List.push_toArray, List.append_toArray, List.nil_append, List.cons_append]
  gi_wp2_with fail
  refine ⟨trivial, CallsIn.mono (callsIn_wide.2 (readingsIn_any _ _ _ _ _)) ?_⟩
  rintro e w3 ⟨b, c, rfl, hb, hc, g3, hbb, hcc⟩
  have bO3 := bO.kept g3 (by simp)
  have GG3 := gtrans G0 g3
  have hcl : c < w3.heap.size := World.block_lt_of_cell? w3 ⟨c, 0, none⟩ hc
  have hBc : w.heap.size < c := by simp at hcc; omega
  gi_wp2_with fail
  refine wpIn_rangeFunc_ownH rfl (by decide) (gf := 53) (lb := #[vptr b, vptr c]) rfl trivial (enters_of Try.func53 (by kernel_rfl) rfl)
    (readings_stops 5 b c _ l r w w3 (by decide) (below0 GG3) h hb hc) KpR.trans (KpR.put GG3.size hcl) (Below.refl _ _) (fun _ => rfl)
    (fun pre W => ((∃ v, Boxed W w.heap.size 30 v ∧ W.ownsRow w3.heap.size 2 1 v (goodR pre).length ((goodR pre).map (.int .i64 ·)) ∧ True) ∧ Below w.heap.size w W) ∧ Below w3.heap.size w3 w3 ∧ w3.heap.size ≤ W.heap.size)
    (fun _ _ _ => False)
    (OwnFrom.and (OwnFrom.and (Own.from (holdsRow_own w3.heap.size w.heap.size 30 2 1 (fun pre => (goodR pre).length) (fun pre => (goodR pre).map (.int .i64 ·)) (fun _ _ => True)) _) (ownFrom_below (Nat.le_refl _) GG3.size)) (fun s X Y row hs hg _ => ⟨hs.1, Nat.le_trans hs.2 hg.size⟩))
    (fun _ _ _ _ _ hs _ _ => hs)
    ⟨⟨⟨_, bO3, World.ownsRow_nil _ _ _ _, trivial⟩, below0 GG3⟩, Below.refl _ _, Nat.le_refl _⟩
    (fun x a' W => ∃ Bx, Boxed2 W Bx 59 (.int .i64 x.2.1) (.bool x.2.2) ∧ a' = { tmps := #[.slice a l.length cap, .int .i64 r, undef, undef, .slice none 0 0, vptr w.heap.size, undef, vptr Bx, .slice a l.length cap, .int .i64 r, .func (.func 53) #[] #[vptr b, vptr c], .int .i64 x.1, .agg #[.int .i64 x.2.1, .bool x.2.2], undef, undef, undef, undef, undef, undef, undef, undef], defers := [] })
    (fun x a' _ X Y row hs hg hr => by obtain ⟨Bx, h2, h3⟩ := hs; exact ⟨Bx, boxed2_own (β := Unit) Bx _ _ _ () X Y row h2 hg (fun r e => (hr r e).2), h3⟩)
    ?assign ?body ?done ?stop
  case assign =>
    rintro ll pre x W K ⟨⟨⟨v, hv, hrow, -⟩, B⟩, hB3, hs3⟩ hK
    gi_wp2_with fail
    exact hK _ _ ((KeepsOthers.alloc _ _).from _) ⟨(Below.refl _ W).alloc B.size _, Below.heap_alloc W _ c (by omega)⟩ ⟨⟨⟨v, hv.alloc _, hrow.alloc _, trivial⟩, B.alloc B.size _⟩, hB3, by simp; omega⟩ ⟨W.heap.size, Boxed2.new W _ _ _, rfl⟩
  case body =>
    rintro ll pre x a' W hll - ⟨⟨⟨v, hv, hrow, -⟩, B⟩, hB3, hs3⟩ ⟨Bx, bX, rfl⟩ hlt
    have hcv := hv.cell
    have c0 := bX.cell0
    have c1 := bX.cell1
    have hpl := goodR_length pre
    cases hx : x.2.2
    · rw [hx] at c1
      have HX := Lib.hid hx
      gi_wp2_with fail
      exact ⟨KeepsFrom.refl _ _, KpR.refl _ _ _, ⟨⟨⟨v, hv, by rw [goodR_no pre HX.out]; exact hrow, trivial⟩, B⟩, hB3, hs3⟩⟩
    · rw [hx] at c1
      have HX := Lib.hid hx
      gi_wp2_with (gi_at_builtin; refine wpListIn_append_own _ rfl _ _ 30 rfl w3.heap.size 2 i0 (.int .i64 0) 1 8 intE.und hi hz hz1 hz2 rfl (by decide) _ _ _ rfl (hrow.alloc _) ⟨W.heap.size, 0, none⟩ 1 1 [.int .i64 x.2.1] rfl rfl (cell_one_new _ _ _) (by simp [Value.oneCell']) (by unfold maxLen; omega) (by omega) (by simp; omega) ?_; intro v' w1 hown' hgrow _; obtain ⟨g', cap', rfl⟩ := ownsRow_succ hown'; obtain ⟨hv1, hv2, hr2, hk2, hb2⟩ := collected hv (by decide) hrow hs3 (Nat.le_refl _) (by omega) hcl (by omega) hown' hgrow; have hc1 := hv1.cell; have hf1 := hv1.frozen)
      exact ⟨hk2.from _, hb2, ⟨⟨⟨_, hv2, by rw [goodR_yes pre HX.out]; simpa using hr2, trivial⟩, B.trans hb2.1⟩, hB3, Nat.le_trans hs3 hb2.1.size⟩⟩
  case done =>
    rintro D ys W hD rfl ⟨⟨⟨v, hv, hrow, -⟩, B⟩, hB3, hs3⟩ hK
    have hcv := hv.cell
    gi_wp2_with fail
    refine ⟨by simp, .inl ⟨_, _, rfl, run_takeDeferred hK, ?_⟩⟩
    refine ⟨v, by simp [results, Try.results42, go_sem], v, rfl, ?_, gbelow0 (B.trans (belowK_b (w := w) (Nat.le_refl _) W D _ _ (by have := GG3.size; omega) hK rfl rfl))⟩
    have q := ownsRow_putObj hrow (.deferred none) hK rfl
    have q' : IS (W.putObj D (.deferred none)) w3.heap.size v (goodR (readR l r)) := by unfold IS Own; rw [intE_all]; exact q
    exact q'.lower GG3.size
  case stop =>
    rintro D c pre W _ _ h _
    exact h.elim
set_option maxRecDepth 100000 in
set_option maxHeartbeats 2000000 in
theorem implBadIn_any (v : Value) (l : List DZ) (r : Int) (w : World) (h : LD w v l) :
    Calls Try.prog 16 #[v, .int .i64 r] w (GotI (badInZ l r) w) := by
  obtain ⟨a, cap, rfl, hm⟩ := h.form
  obtain ⟨i0, hi, hz, hz1, hz2⟩ := info_parts intE.info
  refine (callsIn_wide (n := 6)).1 ?_
  refine callsIn_of_wp_marks Try.func16 rfl trivial ?_ rfl
  simp only [Try.ntmps16, List.size_toArray, List.length_cons, List.length_nil, Nat.reduceAdd, Nat.reduceSub, Array.replicate_succ, Array.replicate_zero, List.push_toArray, List.append_toArray, List.nil_append, List.cons_append]
  cases hh : hasZ l r
  · have HN := Lib.hid (show badInZ l r = [] by simp [badInZ, hh])
    gi_wp2_with fail
    refine ⟨trivial, CallsIn.mono (callsIn_wide.2 (rowExists_any _ l r _ h)) ?_⟩
    rintro e w1 ⟨rfl, g1⟩
    rw [hh]
    gi_wp2_with fail
    exact ⟨.slice none 0 0, by simp [results, Try.results16, go_sem], _, rfl, by rw [HN.out]; exact Own.nil _ _ _, g1⟩
  have hl := has_len hh
  have HN := Lib.hid (show badInZ l r = badR (readR l r) by rw [badInZ, hh, if_pos rfl, bad_eq (has_ok hh)])
  have HB := Lib.hid hh
  gi_wp2_with fail
  refine ⟨trivial, CallsIn.mono (callsIn_wide.2 (rowExists_any _ l r _ h)) ?_⟩
  rintro e w1 ⟨rfl, g1⟩
  rw [hh]
  have bO := Boxed.new w1 30 (.slice none 0 0)
  have G0 := gtrans g1 (galloc (grefl w1) (.cells #[.slice none 0 0] 30))
  clear hh
  gi_wp2_with fail
  refine ⟨trivial, CallsIn.mono (callsIn_wide.2 (readingsIn_any _ _ _ _ _)) ?_⟩
  rintro e w3 ⟨b, c, rfl, hb, hc, g3, hbb, hcc⟩
  have bO3 := bO.kept g3 (by simp)
  have GG3 := gtrans G0 g3
  have hcl : c < w3.heap.size := World.block_lt_of_cell? w3 ⟨c, 0, none⟩ hc
  have hBc : w1.heap.size < c := by simp at hcc; omega
  gi_wp2_with fail
  refine wpIn_rangeFunc_ownH rfl (by decide) (gf := 53) (lb := #[vptr b, vptr c]) rfl trivial (enters_of Try.func53 (by kernel_rfl) rfl)
    (readings_stops 5 b c _ l r w w3 (by decide) (below0 GG3) h hb hc) KpR.trans (KpR.put GG3.size hcl) (Below.refl _ _) (fun _ => rfl)
    (fun pre W => ((∃ v, Boxed W w1.heap.size 30 v ∧ W.ownsRow w3.heap.size 2 1 v (badR pre).length ((badR pre).map (.int .i64 ·)) ∧ True) ∧ Below w.heap.size w W) ∧ Below w3.heap.size w3 w3 ∧ w3.heap.size ≤ W.heap.size)
    (fun _ _ _ => False)
    (OwnFrom.and (OwnFrom.and (Own.from (holdsRow_own w3.heap.size w1.heap.size 30 2 1 (fun pre => (badR pre).length) (fun pre => (badR pre).map (.int .i64 ·)) (fun _ _ => True)) _) (ownFrom_below (Nat.le_refl _) GG3.size)) (fun s X Y row hs hg _ => ⟨hs.1, Nat.le_trans hs.2 hg.size⟩))
    (fun _ _ _ _ _ hs _ _ => hs)
    ⟨⟨⟨_, bO3, World.ownsRow_nil _ _ _ _, trivial⟩, below0 GG3⟩, Below.refl _ _, Nat.le_refl _⟩
    (fun x a' W => ∃ Bx, Boxed2 W Bx 59 (.int .i64 x.2.1) (.bool x.2.2) ∧ a' = { tmps := #[.slice a l.length cap, .int .i64 r, undef, undef, .slice none 0 0, vptr w1.heap.size, .int .i64 x.1, vptr Bx, .slice a l.length cap, .int .i64 r, .bool true, .bool false, .slice a l.length cap, .int .i64 r, .func (.func 53) #[] #[vptr b, vptr c], .int .i64 x.1, .agg #[.int .i64 x.2.1, .bool x.2.2], undef, undef, undef, undef, undef, undef, undef, undef], defers := [] })
    (fun x a' _ X Y row hs hg hr => by obtain ⟨Bx, h2, h3⟩ := hs; exact ⟨Bx, boxed2_own (β := Unit) Bx _ _ _ () X Y row h2 hg (fun r e => (hr r e).2), h3⟩)
    ?assign ?body ?done ?stop
  case assign =>
    rintro ll pre x W K ⟨⟨⟨v, hv, hrow, -⟩, B⟩, hB3, hs3⟩ hK
    gi_wp2_with fail
    exact hK _ _ ((KeepsOthers.alloc _ _).from _) ⟨(Below.refl _ W).alloc B.size _, Below.heap_alloc W _ c (by omega)⟩ ⟨⟨⟨v, hv.alloc _, hrow.alloc _, trivial⟩, B.alloc B.size _⟩, hB3, by simp; omega⟩ ⟨W.heap.size, Boxed2.new W _ _ _, rfl⟩
  case body =>
    rintro ll pre x a' W hll - ⟨⟨⟨v, hv, hrow, -⟩, B⟩, hB3, hs3⟩ ⟨Bx, bX, rfl⟩ hlt
    have hcv := hv.cell
    have c0 := bX.cell0
    have c1 := bX.cell1
    have hpl := badR_length pre
    cases hx : x.2.2
    · rw [hx] at c1
      have HX := Lib.hid hx
      gi_wp2_with (gi_at_builtin; refine wpListIn_append_own _ rfl _ _ 30 rfl w3.heap.size 2 i0 (.int .i64 0) 1 8 intE.und hi hz hz1 hz2 rfl (by decide) _ _ _ rfl (hrow.alloc _) ⟨W.heap.size, 0, none⟩ 1 1 [.int .i64 x.1] rfl rfl (cell_one_new _ _ _) (by simp [Value.oneCell']) (by unfold maxLen; omega) (by omega) (by simp; omega) ?_; intro v' w1 hown' hgrow _; obtain ⟨g', cap', rfl⟩ := ownsRow_succ hown'; obtain ⟨hv1, hv2, hr2, hk2, hb2⟩ := collected hv (by decide) hrow hs3 g1.size (by omega) hcl (by omega) hown' hgrow; have hc1 := hv1.cell; have hf1 := hv1.frozen)
      exact ⟨hk2.from _, hb2, ⟨⟨⟨_, hv2, by rw [badR_yes pre HX.out]; simpa using hr2, trivial⟩, B.trans hb2.1⟩, hB3, Nat.le_trans hs3 hb2.1.size⟩⟩
    · rw [hx] at c1
      have HX := Lib.hid hx
      gi_wp2_with fail
      exact ⟨KeepsFrom.refl _ _, KpR.refl _ _ _, ⟨⟨⟨v, hv, by rw [badR_no pre HX.out]; exact hrow, trivial⟩, B⟩, hB3, hs3⟩⟩
  case done =>
    rintro D ys W hD rfl ⟨⟨⟨v, hv, hrow, -⟩, B⟩, hB3, hs3⟩ hK
    have hcv := hv.cell
    gi_wp2_with fail
    refine ⟨by simp, .inl ⟨_, _, rfl, run_takeDeferred hK, ?_⟩⟩
    refine ⟨v, by simp [results, Try.results16, go_sem], v, rfl, ?_, gbelow0 (B.trans (belowK_b (w := w) (Nat.le_refl _) W D _ _ (by have := GG3.size; omega) hK rfl rfl))⟩
    have q := ownsRow_putObj hrow (.deferred none) hK rfl
    have q' : IS (W.putObj D (.deferred none)) w3.heap.size v (badR (readR l r)) := by unfold IS Own; rw [intE_all]; exact q
    rw [HN.out]
    exact q'.lower GG3.size
  case stop =>
    rintro D c pre W _ _ h _
    exact h.elim
theorem xorI (v : Value) (l : List Int) (w : World) {base : Nat} (h : IS w base v l) : Calls Try.prog 41 #[v] w fun e w' => e = .returned (.int .i64 (xorZ l)) ∧ w = w' := implXor_any v l w h.rd
set_option maxHeartbeats 1000000 in
theorem implCellAt_any (v : Value) (l : List DZ) (d r : Int) (w : World) (h : LD w v l) :
    Calls Try.prog 22 #[v, .int .i64 d, .int .i64 r] w (Pure (.tuple #[.int .i64 (cellAtV l d r), .bool (cellAtOk l d r)]) w) := by
  obtain ⟨a, cap, rfl, hm⟩ := h.form
  cases hh : hasZ l r
  · have HN : Hid (cellAtOk l d r = false) := by show _ = _; simp [cellAtOk, hh]
    have HV : Hid (cellAtV l d r = 0) := by show _ = _; simp [cellAtV, HN.out]
    rw [HN.out, HV.out]
    go_enter Try.func22, Try.ntmps22
    go_wp2_with fail
    go_fit (rowExists_any _ l r _ h)
    rintro e w1 ⟨rfl, g1⟩
    rw [hh]
    go_wp2_with fail
    go_ret2
    exact ⟨rfl, g1⟩
  cases hb : inB d 0 (l.length - 1)
  · have HN : Hid (cellAtOk l d r = false) := by
      show _ = _
      have := inB_nf hb
      have e : decide (0 ≤ d ∧ d < (l.length : Int)) = false := decide_eq_false (by omega)
      simp only [cellAtOk, e, Bool.false_and, Bool.and_false]
    have HV : Hid (cellAtV l d r = 0) := by show _ = _; simp [cellAtV, HN.out]
    rw [HN.out, HV.out]
    go_enter Try.func22, Try.ntmps22
    go_wp2_with fail
    go_fit (rowExists_any _ l r _ h)
    rintro e w1 ⟨rfl, g1⟩
    rw [hh]
    go_wp2_with fail
    go_fit (between_any _ _ _ _)
    rintro e w2 ⟨rfl, rfl⟩
    rw [hb]
    go_wp2_with fail
    go_ret2
    exact ⟨rfl, g1⟩
  have hd := inB_iff.1 hb
  obtain ⟨k, rfl⟩ := Int.eq_ofNat_of_zero_le hd.1
  have hk : k < l.length := by omega
  have hki : (k : Int) < l.length := by omega
  have hok := (ok_each (has_ok hh) k hk).1
  have HL := Lib.hid (has_len hh)
  have HO : Hid (cellAtOk l k r = tellOk l k r ∧ tellOk l k r = (l[k].canRead r || (badInZ l r).length == 1)) := by
    refine ⟨?_, ?_⟩
    · simp [cellAtOk, hh, hk]
    · simp only [tellOk, Int.toNat_natCast, getD_at hk, (can_ok hok r).1, badInZ, hh, if_true]
  have HV : Hid (cellAtV l k r = if l[k].canRead r then l[k].readV r else if (badInZ l r).length == 1 then xorZ (goodR (readR l r)) else 0) := by
    show _ = _
    rw [cellAtV, HO.out.1, HO.out.2, good_xor (has_ok hh)]
    simp only [tellV, Int.toNat_natCast, getD_at hk, (can_ok hok r).1, (can_ok hok r).2, badInZ, hh, if_true]
    cases l[k].can r <;> cases (badZ l r).length == 1 <;> simp
  clear hok hd
  cases hc : l[k].canRead r
  rotate_left
  · rw [HO.out.1, HO.out.2, HV.out, hc, if_pos rfl, Bool.true_or]
    go_enter Try.func22, Try.ntmps22
    go_wp2_with fail
    go_fit (rowExists_any _ l r _ h)
    rintro e w1 ⟨rfl, g1⟩
    rw [hh]
    go_wp2_with fail
    go_fit (between_any _ _ _ _)
    rintro e w2 ⟨rfl, rfl⟩
    rw [hb]
    obtain ⟨g, o, ka, km, kc, na, nm, nc, rfl, x0, x1, x2, x3, D⟩ := (h.kept g1).at k hk
    go_wp2_with fail
    go_fit (implRead_any _ _ l[k] r _ D)
    rintro e w2 ⟨rfl, g2⟩
    rw [hc]
    go_wp2_with fail
    go_ret2
    exact ⟨rfl, gtrans g1 g2⟩
  by_cases hn : (badInZ l r).length = 1
  · have hn' : (((badInZ l r).length : Int) != 1) = false := by rw [bne_eq_false_iff_eq]; omega
    rw [HO.out.1, HO.out.2, HV.out, hc, hn]
    simp only [Bool.false_or, beq_self_eq_true, if_true, Bool.false_eq_true, if_false]
    clear hn
    go_enter Try.func22, Try.ntmps22
    go_wp2_with fail
    go_fit (rowExists_any _ l r _ h)
    rintro e w1 ⟨rfl, g1⟩
    rw [hh]
    go_wp2_with fail
    go_fit (between_any _ _ _ _)
    rintro e w2 ⟨rfl, rfl⟩
    rw [hb]
    obtain ⟨g, o, ka, km, kc, na, nm, nc, rfl, x0, x1, x2, x3, D⟩ := (h.kept g1).at k hk
    go_wp2_with fail
    go_fit (implRead_any _ _ l[k] r _ D)
    rintro e w2 ⟨rfl, g2⟩
    rw [hc]
    go_wp2_with fail
    go_fit (implBadIn_any _ l r _ (h.kept (gtrans g1 g2)))
    rintro e w3 ⟨v3, rfl, I3, g3⟩
    obtain ⟨a3, c3, rfl, m3⟩ := I3.form
    have G3 := gtrans (gtrans g1 g2) g3
    go_wp2_with fail
    go_fit (goodValues_any _ l r _ (h.kept G3) HL.out)
    rintro e w4 ⟨v4, rfl, I4, g4⟩
    obtain ⟨a4, c4, rfl, m4⟩ := I4.form
    go_wp2_with fail
    go_fit (xorI _ _ _ I4)
    rintro e w5 ⟨rfl, rfl⟩
    go_wp2_with fail
    go_ret2
    exact ⟨rfl, gtrans G3 g4⟩
  · have hn' : (((badInZ l r).length : Int) != 1) = true := bne_iff_ne.2 (by omega)
    have hn2 : ((badInZ l r).length == 1) = false := by simpa using hn
    rw [HO.out.1, HO.out.2, HV.out, hc, hn2]
    simp only [Bool.false_or, Bool.false_eq_true, if_false]
    clear hn hn2
    go_enter Try.func22, Try.ntmps22
    go_wp2_with fail
    go_fit (rowExists_any _ l r _ h)
    rintro e w1 ⟨rfl, g1⟩
    rw [hh]
    go_wp2_with fail
    go_fit (between_any _ _ _ _)
    rintro e w2 ⟨rfl, rfl⟩
    rw [hb]
    obtain ⟨g, o, ka, km, kc, na, nm, nc, rfl, x0, x1, x2, x3, D⟩ := (h.kept g1).at k hk
    go_wp2_with fail
    go_fit (implRead_any _ _ l[k] r _ D)
    rintro e w2 ⟨rfl, g2⟩
    rw [hc]
    go_wp2_with fail
    go_fit (implBadIn_any _ l r _ (h.kept (gtrans g1 g2)))
    rintro e w3 ⟨v3, rfl, I3, g3⟩
    obtain ⟨a3, c3, rfl, m3⟩ := I3.form
    have G3 := gtrans (gtrans g1 g2) g3
    go_wp2_with fail
    go_ret2
    exact ⟨rfl, G3⟩
set_option maxHeartbeats 1000000 in
theorem implWhole_any (v : Value) (l : List DZ) (r : Int) (w : World) (h : LD w v l) :
    Calls Try.prog 24 #[v, .int .i64 r] w (Pure (.bool (wholeZ l r)) w) := by
  obtain ⟨a, cap, rfl, hm⟩ := h.form
  cases hh : hasZ l r
  · have HN : Hid (wholeZ l r = false) := by show _ = _; simp [wholeZ, hh]
    rw [HN.out]
    go_enter Try.func24, Try.ntmps24
    go_wp2_with fail
    go_fit (rowExists_any _ l r _ h)
    rintro e w1 ⟨rfl, g1⟩
    rw [hh]
    go_wp2_with fail
    go_ret
    exact ⟨rfl, g1⟩
  have HL := Lib.hid (has_len hh)
  have HN : Hid (wholeZ l r = (((badInZ l r).length == 0) && (xorZ (goodR (readR l r)) == 0))) := by
    show _ = _
    rw [good_xor (has_ok hh), badInZ, hh, if_pos rfl, bad_none, wholeZ, hh, wholeRow, Bool.true_and]
    congr 1
    rw [Bool.eq_iff_iff]; simp
  rw [HN.out]
  by_cases hn : (badInZ l r).length = 0
  · have hn' : (((badInZ l r).length : Int) == 0) = true := by simp [hn]
    rw [hn, beq_self_eq_true, Bool.true_and]
    clear hn
    go_enter Try.func24, Try.ntmps24
    go_wp2_with fail
    go_fit (rowExists_any _ l r _ h)
    rintro e w1 ⟨rfl, g1⟩
    rw [hh]
    go_wp2_with fail
    go_fit (implBadIn_any _ l r _ (h.kept g1))
    rintro e w3 ⟨v3, rfl, I3, g3⟩
    obtain ⟨a3, c3, rfl, m3⟩ := I3.form
    have G3 := gtrans g1 g3
    go_wp2_with fail
    go_fit (goodValues_any _ l r _ (h.kept G3) HL.out)
    rintro e w4 ⟨v4, rfl, I4, g4⟩
    obtain ⟨a4, c4, rfl, m4⟩ := I4.form
    go_wp2_with fail
    go_fit (xorI _ _ _ I4)
    rintro e w5 ⟨rfl, rfl⟩
    go_wp2_with fail
    go_ret
    exact ⟨rfl, gtrans G3 g4⟩
  · have hn' : (((badInZ l r).length : Int) == 0) = false := by simpa using hn
    have hn2 : ((badInZ l r).length == 0) = false := by simpa using hn
    rw [hn2, Bool.false_and]
    clear hn hn2
    go_enter Try.func24, Try.ntmps24
    go_wp2_with fail
    go_fit (rowExists_any _ l r _ h)
    rintro e w1 ⟨rfl, g1⟩
    rw [hh]
    go_wp2_with fail
    go_fit (implBadIn_any _ l r _ (h.kept g1))
    rintro e w3 ⟨v3, rfl, I3, g3⟩
    obtain ⟨a3, c3, rfl, m3⟩ := I3.form
    go_wp2_with fail
    go_ret
    exact ⟨rfl, gtrans g1 g3⟩
end Go.Proofs.Ytoifhkfkmhnngaa
