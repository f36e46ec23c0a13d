/- What the program's functions of chapter 6 return: numbers in order, rows. -/
import Derived.Test.YtoifhkfkmhnngaaImplL06
import Derived.Deep.DeepCutAuto
namespace Go.Proofs.Ytoifhkfkmhnngaa
open Go.ChangeShapes Go.WideShapes Go.ChangeAt Go.RowKit Go.Shelf
attribute [local go_sem] Oper.semAt_some

def numbK (l : List DZ) (k : Nat) : Bool := (List.range k).all fun i => (l.getD i .zero).ok && (l.getD i .zero).n == (i : Int)
def numbZ (l : List DZ) : Bool := numbK l l.length
theorem numbK_next {l : List DZ} {k : Nat} (h : k < l.length) : numbK l (k + 1) = (numbK l k && (l[k].ok && l[k].n == (k : Int))) := by
  unfold numbK
  rw [List.range_succ, List.all_append]
  simp [List.getD_eq_getElem?_getD, h]
theorem numbZ_no {l : List DZ} {k : Nat} (h : k < l.length) (hk : (l[k].ok && l[k].n == (k : Int)) = false) : numbZ l = false := by
  unfold numbZ numbK
  rw [List.all_eq_false]
  exact ⟨k, by simpa using h, by rw [getD_at h]; simpa using hk⟩
theorem numbZ_at {l : List DZ} (h : numbZ l = true) (i : Nat) (hi : i < l.length) : l[i].ok = true ∧ l[i].n = (i : Int) := by
  unfold numbZ numbK at h
  rw [List.all_eq_true] at h
  have := h i (by simpa using hi)
  rw [getD_at hi] at this
  simpa using this
set_option maxHeartbeats 1000000 in
theorem numberedInOrder_any (v : Value) (l : List DZ) (w : World) (h : LD w v l) :
    Calls Try.prog 32 #[v] w (Pure (.bool (numbZ l)) w) := by
  obtain ⟨a, cap, rfl, hm⟩ := h.form
  go_enter Try.func32, Try.ntmps32
  go_wp2_with fail
  go_loopw [7] (fun i wr => ∃ k : Nat, k ≤ l.length ∧ i = .int .i64 k ∧ Hid (numbK l k = true) ∧ w.grownBy wr none) (fun i _ => l.length - (intOf i).toNat)
  case atStart => exact ⟨0, Nat.zero_le _, rfl, rfl, grefl _⟩
  case round =>
    obtain ⟨k, hk, rfl, HS, G⟩ := hrel
    by_cases hlt : k < l.length
    · obtain ⟨g, o, ka, km, kc, na, nm, nc, rfl, x0, x1, x2, x3, D⟩ := (h.kept G).at k hlt
      have hki : (k : Int) < l.length := by omega
      have B0 := Box4.new wr (.int .i64 l[k].n) (.bool l[k].dead) (.slice ka km kc) (.slice na nm nc) 47
      have G0 := galloc (grefl wr) (.cells #[.int .i64 l[k].n, .bool l[k].dead, .slice ka km kc, .slice na nm nc] 47)
      go_upto_region 4 with (fail)
      generalize wr.alloc (.cells #[.int .i64 l[k].n, .bool l[k].dead, .slice ka km kc, .slice na nm nc] 47) = W at *
      generalize wr.heap.size = bb at *
      have G1 := gtrans G G0
      clear x0 x1 x2 x3
      cases hok : l[k].ok
      · have HN := Lib.hid (numbZ_no hlt (by simp [hok]))
        go_wp2_with fail
        go_fit (implDiskOk_any _ _ l[k] _ (D.grew G0))
        rintro e w2 ⟨rfl, g2⟩
        obtain ⟨b0, b1, b2, b3⟩ := B0.kept g2
        clear B0
        go_wp2_with fail
        go_ret
        exact ⟨ret_bool HN.out.symm, gtrans G1 g2⟩
      by_cases hn : l[k].n = (k : Int)
      rotate_left
      · have HN := Lib.hid (numbZ_no hlt (by simp [hn]))
        have hn' : (l[k].n != (k : Int)) = true := bne_iff_ne.2 hn
        clear hn
        go_wp2_with fail
        go_fit (implDiskOk_any _ _ l[k] _ (D.grew G0))
        rintro e w2 ⟨rfl, g2⟩
        obtain ⟨b0, b1, b2, b3⟩ := B0.kept g2
        clear B0
        go_wp2_with fail
        go_ret
        exact ⟨ret_bool HN.out.symm, gtrans G1 g2⟩
      · have hn' : (l[k].n != (k : Int)) = false := by simp [hn]
        have HN : Hid (numbK l (k + 1) = true) := by show _ = _; rw [numbK_next hlt, HS.out, hok, hn]; simp
        clear hn HS
        go_wp2_with fail
        go_fit (implDiskOk_any _ _ l[k] _ (D.grew G0))
        rintro e w2 ⟨rfl, g2⟩
        obtain ⟨b0, b1, b2, b3⟩ := B0.kept g2
        clear B0
        go_wp2_with fail
        go_roundw
        case rel => exact ⟨k + 1, by omega, by go_num, HN.out, gtrans G1 g2⟩
        case measure => simp [intOf]; omega
    · obtain rfl : k = l.length := by omega
      have HN : Hid (numbZ l = true) := HS.out
      clear HS
      go_wp2_with fail
      go_ret
      exact ⟨ret_bool HN.out.symm, G⟩
/-- the last one -/
def lastR (l : List Nat) : Int := match l.getLast? with | none => -1 | some x => (x : Int)
theorem lastR_nil : lastR [] = -1 := rfl
theorem lastR_snoc (l : List Nat) (x : Nat) : lastR (l ++ [x]) = x := by simp [lastR]
def sameR (l : List Nat) : Prop := ∀ a ∈ l, (a : Int) = lastR l
theorem sameR_snoc {l : List Nat} {x : Nat} (h : sameR l) (hx : l = [] ∨ lastR l = x) : sameR (l ++ [x]) := by
  intro a ha
  rw [lastR_snoc]
  rcases List.mem_append.1 ha with q | q
  · rcases hx with rfl | hx
    · simp at q
    · rw [← hx]; exact h a q
  · simp at q; rw [q]
def differR (l : List Nat) : Prop := ∃ a b, a ∈ l ∧ b ∈ l ∧ a ≠ b
theorem lastR_mem {l : List Nat} (h : l ≠ []) : ∃ a, a ∈ l ∧ lastR l = (a : Int) := by
  refine ⟨l.getLast h, List.getLast_mem h, ?_⟩
  simp [lastR, List.getLast?_eq_some_getLast h]
theorem lastR_none {l : List Nat} (h : lastR l = -1) : l = [] := by
  by_cases e : l = []
  · exact e
  · obtain ⟨a, _, ha⟩ := lastR_mem e; omega
theorem differR_snoc {l : List Nat} {x : Nat} (h : lastR l ≠ -1) (hx : lastR l ≠ x) : differR (l ++ [x]) := by
  have hl : l ≠ [] := fun e => h (by rw [e]; rfl)
  obtain ⟨a, h1, h2⟩ := lastR_mem hl
  exact ⟨a, x, List.mem_append.2 (.inl h1), List.mem_append.2 (.inr (by simp)), fun e => hx (by rw [h2, e])⟩
theorem rowsZ_live (l : List DZ) : rowsZ l = (liveR l).headD 0 := by
  induction l with
  | nil => rfl
  | cons d r ih =>
    unfold liveR at ih ⊢
    cases hd : d.dead <;> simp [rowsZ, hd, ih]
theorem live_mem {l : List DZ} {a : Nat} : a ∈ liveR l ↔ ∃ i, ∃ h : i < l.length, l[i].dead = false ∧ l[i].m.length = a := by
  unfold liveR
  rw [List.mem_map]
  constructor
  · rintro ⟨d, h1, h2⟩
    obtain ⟨h3, h4⟩ := List.mem_filter.1 h1
    obtain ⟨i, hi, rfl⟩ := List.getElem_of_mem h3
    exact ⟨i, hi, by simpa using h4, h2⟩
  · rintro ⟨i, hi, h1, h2⟩
    exact ⟨l[i], List.mem_filter.2 ⟨List.getElem_mem hi, by simp [h1]⟩, h2⟩
theorem liveR_take {l : List DZ} {k a : Nat} (h : a ∈ liveR (l.take k)) : a ∈ liveR l := by
  obtain ⟨i, hi, h1, h2⟩ := live_mem.1 h
  have hi' : i < l.length := by simp at hi; omega
  exact live_mem.2 ⟨i, hi', by simpa using h1, by simpa using h2⟩
theorem rows_len {l : List DZ} (h : inB l.length 3 5 = false) : rowsOfZ l = -1 := by simp [rowsOfZ, disksOk_len h]
theorem rows_numb {l : List DZ} (h : numbZ l = false) : rowsOfZ l = -1 := by
  unfold numbZ numbK at h
  rw [List.all_eq_false] at h
  obtain ⟨i, hi, h1⟩ := h
  have hi' : i < l.length := by simpa using hi
  rw [getD_at hi'] at h1
  have : disksOkZ l = false := disksOk_bad hi' (by
    cases hok : l[i].ok
    · exact .inl rfl
    · right; simpa [hok] using h1)
  simp [rowsOfZ, this]
theorem rows_differ {l : List DZ} (h : differR (liveR l)) : rowsOfZ l = -1 := by
  cases hd : disksOkZ l
  · simp [rowsOfZ, hd]
  · exfalso
    simp only [disksOkZ, Bool.and_eq_true, List.all_eq_true] at hd
    obtain ⟨a, b, ha, hb, hne⟩ := h
    have q : ∀ a, a ∈ liveR l → a = rowsZ l := fun a ha => by
      obtain ⟨i, hi, h1, h2⟩ := live_mem.1 ha
      have := hd.2.1 i (by simpa using hi)
      rw [getD_at hi] at this
      simp [DZ.fitsIn, h1] at this
      omega
    exact hne ((q a ha).trans (q b hb).symm)
theorem rows_same {l : List DZ} (h1 : inB l.length 3 5 = true) (h2 : numbZ l = true) (h3 : sameR (liveR l)) : rowsOfZ l = lastR (liveR l) := by
  by_cases e : liveR l = []
  · have : rowsZ l = 0 := by rw [rowsZ_live, e]; rfl
    rw [e, lastR_nil]
    simp [rowsOfZ, disksOkZ, this]
  · have hr : (rowsZ l : Int) = lastR (liveR l) := by
      rw [rowsZ_live]
      obtain ⟨x, r, hx⟩ := List.exists_cons_of_ne_nil e
      rw [hx] at h3 ⊢
      exact h3 x (by simp)
    have hpos : 0 < rowsZ l := by
      obtain ⟨a, ha, hl⟩ := lastR_mem e
      obtain ⟨i, hi, d1, d2⟩ := live_mem.1 ha
      have := (DZ.ok_pos (numbZ_at h2 i hi).1 d1).1
      omega
    have hall : (List.range l.length).all (fun i => (l.getD i .zero).fitsIn i (rowsZ l)) = true := by
      rw [List.all_eq_true]
      intro i hi
      have hi' : i < l.length := by simpa using hi
      rw [getD_at hi']
      obtain ⟨q1, q2⟩ := numbZ_at h2 i hi'
      cases hd : l[i].dead
      · have q3 := h3 l[i].m.length (live_mem.2 ⟨i, hi', hd, rfl⟩)
        have q4 : l[i].m.length = rowsZ l := by omega
        simp [DZ.fitsIn, q1, q2, q4]
      · simp [DZ.fitsIn, q1, q2, hd]
    rw [rowsOfZ, disksOkZ, h1, hall]
    simp [hpos, hr]
set_option maxRecDepth 100000 in
set_option maxHeartbeats 2000000 in
theorem implRowsOf_any (v : Value) (l : List DZ) (w : World) (h : LD w v l) :
    Calls Try.prog 14 #[v] w (Pure (.int .i64 (rowsOfZ l)) w) := by
  obtain ⟨a, cap, rfl, hm⟩ := h.form
  have bR := Boxed.new w 2 (.int .i64 0)
  have G0 := galloc (grefl w) (.cells #[.int .i64 0] 2)
  refine (callsIn_wide (n := 6)).1 ?_
  refine callsIn_of_wp_marks Try.func14 rfl trivial ?_ rfl
  simp only [Try.ntmps14, List.size_toArray, List.length_cons, List.length_nil, Nat.reduceAdd, Nat.reduceSub, Array.replicate_succ, Array.replicate_zero, List.push_toArray, List.append_toArray, List.nil_append, List.cons_append]
  cases hl : inB l.length 3 5
  · have HN := Lib.hid (rows_len hl)
    gi_wp2_with fail
    refine ⟨trivial, CallsIn.mono (callsIn_wide.2 (between_any _ _ _ _)) ?_⟩
    rintro e w' ⟨rfl, rfl⟩
    rw [hl]
    gi_wp2_with fail
    refine ⟨trivial, ?_⟩
    gi_wp2_with fail
    exact ⟨.int .i64 (-1), by simp [results, Try.results14, go_sem], by rw [HN.out], galloc (grefl _) _⟩
  cases hn : numbZ l
  · have HN := Lib.hid (rows_numb hn)
    gi_wp2_with fail
    refine ⟨trivial, CallsIn.mono (callsIn_wide.2 (between_any _ _ _ _)) ?_⟩
    rintro e w' ⟨rfl, rfl⟩
    rw [hl]
    gi_wp2_with fail
    refine ⟨trivial, CallsIn.mono (callsIn_wide.2 (numberedInOrder_any _ l _ (h.kept G0))) ?_⟩
    rintro e w1 ⟨rfl, g1⟩
    rw [hn]
    have bR1 := (bR.kept g1 (by simp)).cell
    have fR1 := (bR.kept g1 (by simp)).frozen
    gi_wp2_with fail
    exact ⟨.int .i64 (-1), by simp [results, Try.results14, go_sem, bR1], by rw [HN.out], gset1 (gtrans G0 g1) (Nat.le_refl _) _ _⟩
  have HS := Lib.hid (fun h3 => rows_same hl hn (l := l) h3)
  gi_wp2_with fail
  refine ⟨trivial, CallsIn.mono (callsIn_wide.2 (between_any _ _ _ _)) ?_⟩
  rintro e w' ⟨rfl, rfl⟩
  rw [hl]
  gi_wp2_with fail
  refine ⟨trivial, CallsIn.mono (callsIn_wide.2 (numberedInOrder_any _ l _ (h.kept G0))) ?_⟩
  rintro e w1 ⟨rfl, g1⟩
  rw [hn]
  have bR1 := bR.kept g1 (by simp)
  have GG1 := gtrans G0 g1
  have bP := Boxed.new w1 2 (.int .i64 (-1))
  have G2 := galloc (grefl w1) (.cells #[.int .i64 (-1)] 2)
  gi_wp2_with fail
  refine ⟨trivial, CallsIn.mono (callsIn_wide.2 (livePlaces_any _ _ _ _)) ?_⟩
  rintro e w3 ⟨b, rfl, hb, g3, hbb⟩
  have bR3 := (bR1.kept G2 (by simp)).kept g3 (by simp)
  have bP3 := bP.kept g3 (by simp)
  have GG3 := gtrans GG1 (gtrans G2 g3)
  have hrp : w.heap.size < w1.heap.size := bR1.lt
  generalize w1.heap.size = P at *
  gi_wp2_with fail
  refine wpIn_rangeFunc_ownG rfl (by decide) (gf := 51) (lb := #[vptr b]) rfl trivial (enters_of Try.func51 (by kernel_rfl) rfl)
    (live_stops 5 b _ l w w3 (by decide) (below0 GG3) h hb) belowK_t (belowK_b GG3.size) (Below.refl _ _) (fun _ => rfl)
    (fun pre W => ((Boxed W w.heap.size 2 (.int .i64 0) ∧ Boxed W P 2 (.int .i64 (lastR pre))) ∧ sameR pre) ∧ Below w.heap.size w W)
    (fun c pre W => ((c = .ret ∧ Boxed W w.heap.size 2 (.int .i64 (-1))) ∧ differR pre) ∧ Below w.heap.size w W)
    (OwnFrom.and (OwnFrom.and (OwnFrom.and (Own.from (boxed_own _ _ _) _) (Own.from (boxed_own _ _ _) _)) (ownFrom_pure _ _)) (ownFrom_below (Nat.le_refl _) GG3.size))
    (fun c => OwnFrom.and (OwnFrom.and (OwnFrom.and (ownFrom_pure _ _) (Own.from (boxed_own _ _ _) _)) (ownFrom_pure _ _)) (ownFrom_below (Nat.le_refl _) GG3.size))
    ⟨⟨⟨bR3, bP3⟩, fun a h => by simp at h⟩, below0 GG3⟩
    (fun x => { tmps := #[.slice a l.length cap, undef, vptr w.heap.size, vptr P, .int .i64 (x : Int), .slice a l.length cap, .int .i64 l.length, .bool true, .bool false, .bool false, .slice a l.length cap, .bool true, .bool false, .bool false, .slice a l.length cap, .func (.func 51) #[] #[vptr b], .int .i64 (x : Int), undef, undef, undef, undef, undef, undef, undef, undef, undef], defers := [] }) ?assign ?body ?done ?stop
  case assign =>
    intro l x W K hK
    gi_wp2_with fail
    exact hK
  case body =>
    rintro ll pre x W ⟨⟨⟨bR, bP⟩, hs⟩, B⟩ hlt
    have cP := bP.cell
    have fP := bP.frozen
    have cR := bR.cell
    have fR := bR.frozen
    have HA := Lib.hid hs
    clear hs hb h hn hl bR3 bP3 bR1 HS
    by_cases h1 : lastR pre = -1
    · have h1' : (lastR pre != -1) = false := by simp [h1]
      have HE := Lib.hid (lastR_none h1)
      clear h1
      gi_wp2_with fail
      exact ⟨(KeepsOthers.setCell _ _ _).from _, (Below.refl _ _).setCell (p := ⟨P, 0, none⟩) (Nat.le_of_lt hrp) _, ⟨⟨bR.other (by omega) _, by rw [lastR_snoc]; exact bP.set _⟩, sameR_snoc HA.out (.inl HE.out)⟩, B.setCell (p := ⟨P, 0, none⟩) (Nat.le_of_lt hrp) _⟩
    have h1' : (lastR pre != -1) = true := bne_iff_ne.2 h1
    by_cases h2 : lastR pre = (x : Int)
    · have h2' : (lastR pre != (x : Int)) = false := by simp [h2]
      have HE := Lib.hid h2
      clear h1 h2
      gi_wp2_with fail
      exact ⟨(KeepsOthers.setCell _ _ _).from _, (Below.refl _ _).setCell (p := ⟨P, 0, none⟩) (Nat.le_of_lt hrp) _, ⟨⟨bR.other (by omega) _, by rw [lastR_snoc]; exact bP.set _⟩, sameR_snoc HA.out (.inr HE.out)⟩, B.setCell (p := ⟨P, 0, none⟩) (Nat.le_of_lt hrp) _⟩
    · have h2' : (lastR pre != (x : Int)) = true := bne_iff_ne.2 h2
      have HE := Lib.hid (differR_snoc h1 h2)
      clear h1 h2
      gi_wp2_with fail
      exact ⟨(KeepsOthers.setCell _ _ _).from _, ⟨⟨rfl, bR.set _⟩, HE.out⟩, B.setCell (p := ⟨w.heap.size, 0, none⟩) (Nat.le_refl _) _⟩
  case done =>
    rintro D ys W hD rfl ⟨⟨⟨bR, bP⟩, hs⟩, B⟩ hK
    have HN := Lib.hid (HS.out hs)
    have cP := bP.cell
    have cR := bR.cell
    have fR := bR.frozen
    clear hs HS hn hl
    gi_wp2_with fail
    have hK' := (KeepsOthers.setCell W ⟨w.heap.size, 0, none⟩ (.int .i64 (lastR (liveR l)))).same D _ hK rfl
    have hc5 := cell_kept (bR.set (.int .i64 (lastR (liveR l)))).cell (grownBy_putObj' _ D (.deferred none)) (fun r e => by cases e; exact ⟨_, hK', rfl⟩)
    refine ⟨by simp, .inl ⟨_, _, rfl, run_takeDeferred hK', ?_⟩⟩
    refine ⟨.int .i64 (lastR (liveR l)), by simp [results, Try.results14, go_sem, hc5], by rw [HN.out], ?_⟩
    exact gbelow0 ((B.setCell (p := ⟨w.heap.size, 0, none⟩) (Nat.le_refl _) _).trans (belowK_b (w := w) (Nat.le_refl _) _ D _ _ (by have := GG3.size; omega) hK' rfl rfl))
  case stop =>
    rintro D c pre W hD ⟨k, hk, rfl⟩ ⟨⟨⟨rfl, bR⟩, hd⟩, B⟩ hK
    have HN := Lib.hid (rows_differ (l := l) (by obtain ⟨x, y, h1, h2, h3⟩ := hd; exact ⟨x, y, liveR_take h1, liveR_take h2, h3⟩))
    gi_wp2_with fail
    have hc5 := cell_kept bR.cell (grownBy_putObj' _ D (.deferred none)) (fun r e => by cases e; exact ⟨_, hK, rfl⟩)
    refine ⟨by simp, .inl ⟨_, _, rfl, run_takeDeferred hK, ?_⟩⟩
    refine ⟨.int .i64 (-1), by simp [results, Try.results14, go_sem, hc5], by rw [HN.out], ?_⟩
    exact gbelow0 (B.trans (belowK_b (w := w) (Nat.le_refl _) _ D _ _ (by have := GG3.size; omega) hK rfl rfl))
theorem rowExists_any (v : Value) (l : List DZ) (r : Int) (w : World) (h : LD w v l) :
    Calls Try.prog 36 #[v, .int .i64 r] w (Pure (.bool (hasZ l r)) w) := by
  obtain ⟨a, cap, rfl, hm⟩ := h.form
  have HB : Hid (inB r 0 (rowsOfZ l - 1) = hasZ l r ∧ -1 ≤ rowsOfZ l ∧ rowsOfZ l ≤ 16) := by
    show _ ∧ _
    unfold rowsOfZ hasZ
    cases hd : disksOkZ l
    · refine ⟨?_, by simp, by simp⟩
      simp [inB]; omega
    · have h16 : rowsZ l ≤ 16 := by
        simp only [disksOkZ, Bool.and_eq_true, decide_eq_true_eq, List.all_eq_true] at hd
        obtain ⟨h1, h2, h3⟩ := hd
        rw [rowsZ_live] at h3 ⊢
        cases hl : liveR l with
        | nil => simp
        | cons x q =>
          obtain ⟨i, hi, d1, d2⟩ := live_mem.1 (show x ∈ liveR l by rw [hl]; simp)
          have := h2 i (by simpa using hi)
          rw [getD_at hi] at this
          simp only [DZ.fitsIn, Bool.and_eq_true] at this
          have := (DZ.ok_pos this.1 d1).2
          simp; omega
      refine ⟨?_, by simp only [if_true]; omega, by simp only [if_true]; omega⟩
      unfold inB
      simp only [if_true, Bool.true_and]
      rw [decide_eq_decide]
      omega
  obtain ⟨-, hlo, hhi⟩ := HB.out
  go_enter Try.func36, Try.ntmps36
  go_wp2_with fail
  go_fit (implRowsOf_any _ l _ h)
  rintro e w1 ⟨rfl, g1⟩
  go_wp2_with fail
  go_fit (between_any _ _ _ _)
  rintro e w2 ⟨rfl, rfl⟩
  go_wp2_with fail
  go_ret
  exact ⟨ret_bool HB.out.1, g1⟩
theorem implDisksOk_any (v : Value) (l : List DZ) (w : World) (h : LD w v l) :
    Calls Try.prog 11 #[v] w (Pure (.bool (disksOkZ l)) w) := by
  obtain ⟨a, cap, rfl, hm⟩ := h.form
  have HB : Hid ((rowsOfZ l != -1) = disksOkZ l) := by
    show _ = _
    unfold rowsOfZ
    cases hd : disksOkZ l
    · simp
    · simp only [if_true]
      exact bne_iff_ne.2 (by omega)
  go_enter Try.func11, Try.ntmps11
  go_wp2_with fail
  go_fit (implRowsOf_any _ l _ h)
  rintro e w1 ⟨rfl, g1⟩
  go_wp2_with fail
  go_ret
  exact ⟨ret_bool HB.out, g1⟩
end Go.Proofs.Ytoifhkfkmhnngaa
