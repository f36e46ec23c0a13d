/- What the program's functions of chapter 7 return: puts, the change on living disks, the parity behind a write. What the program's functions of chapter 7 return: the parity behind a write, the patch of a change. The patch of a write, by which of its two disks are dead. What the program's patchOf returns: the patch of a change. What the program's PatchFor returns. -/
import Derived.Test.YteialkknddpbjaaGreatDoorImplL07
import Derived.Test.YteialkknddpbjaaGreatDoorImplL06c
import Derived.Test.YteialkknddpbjaaGreatDoorSpecL07d
import Derived.Test.YteialkknddpbjaaGreatDoorSpecL05
import Derived.Test.YteialkknddpbjaaGreatDoorLawL07
namespace Go.Proofs.YteialkknddpbjaaGreatDoor
open Go.ChangeShapes Go.WideShapes Go.ChangeAt Go.RowKit
attribute [local go_sem] as_one_one as_two_one as_two_two as_nil_one as_nil_two

/-- the change of a write -/
def livV (fd fe : Bool) (d x e s : Int) : Value := if fd && fe then .nilIface else if fd then oneV e s else if fe then oneV d x else if e < d then twoV e s d x else twoV d x e s
set_option maxRecDepth 8000 in
set_option maxHeartbeats 2000000 in
theorem onLiving_any (v : Value) (l : List DZ) (d e : Nat) (x s : Int) (w : World) (h : LD w v l) (hd : d < l.length) (he : e < l.length) :
    Calls Tryz.prog 196 #[v, .agg #[.int .i64 d, .int .i64 x], .agg #[.int .i64 e, .int .i64 s]] w (Pure (livV l[d].dead l[e].dead d x e s) w) := by
  obtain ⟨a, cap, rfl, hm⟩ := h.form
  have G0 := galloc (galloc (grefl w) (.cells #[.int .i64 d, .int .i64 x] 174)) (.cells #[.int .i64 e, .int .i64 s] 174)
  have hdi : (d : Int) < l.length := by omega
  have hei : (e : Int) < l.length := by omega
  obtain ⟨g, o, ka, km, kc, na, nm, nc, rfl, x0, x1, x2, x3, -⟩ := h.at d hd
  obtain ⟨g', o', ka', km', kc', na', nm', nc', e', y0, y1, y2, y3, -⟩ := h.at e he
  cases e'
  generalize l[d].dead = fd at *
  generalize l[e].dead = fe at *
  have lg := cell_lt x1
  clear x0 x2 x3 y0 y2 y3
  replace x1 := gkc G0 x1
  replace y1 := gkc G0 y1
  cases fd <;> cases fe
  · by_cases hlt : (e : Int) < d
    · have HR : Hid (livV false false d x e s = twoV e s d x) := by show _ = _; simp [livV, hlt]
      go_enter Tryz.func196, Tryz.ntmps196
      go_wp2_with fail
      go_ret
      exact ⟨by rw [HR.out]; rfl, G0⟩
    · have HR : Hid (livV false false d x e s = twoV d x e s) := by show _ = _; simp [livV, hlt]
      go_enter Tryz.func196, Tryz.ntmps196
      go_wp2_with fail
      go_ret
      exact ⟨by rw [HR.out]; rfl, G0⟩
  all_goals (
    go_enter Tryz.func196, Tryz.ntmps196
    go_wp2_with fail
    go_ret
    exact ⟨rfl, G0⟩)
/-- the values whose parity a write makes -/
def valsK (l : List DZ) (d ex row x : Int) : Nat → List Int
  | 0 => [x]
  | k + 1 => if ((k : Int) == d || (k : Int) == ex) = true then valsK l d ex row x k else valsK l d ex row x k ++ [tellV l k row]
theorem valsK_ok (l : List DZ) (d ex row x : Int) (hx : okv x = true) (k : Nat) : (valsK l d ex row x k).all okv = true := by
  induction k with
  | zero => simp [valsK, hx]
  | succ k ih =>
    unfold valsK
    split
    · exact ih
    · have := tellV_b l k row
      rw [List.all_append, ih]
      simp [okv_iff, this]
theorem valsK_length (l : List DZ) (d ex row x : Int) (k : Nat) : (valsK l d ex row x k).length ≤ k + 1 := by
  induction k with
  | zero => simp [valsK]
  | succ k ih =>
    unfold valsK
    split
    · omega
    · simp; omega
theorem valsK_sum (l : List DZ) (d ex row x : Int) (hx : okv x = true) (k : Nat) : xorZ (valsK l d ex row x k) = sumK l d ex row x k := by
  rw [xorZ_yes (valsK_ok l d ex row x hx k)]
  have hx' := okv_iff.1 hx
  induction k with
  | zero => simp [valsK, sumK, foldX]; omega
  | succ k ih =>
    have hb := sumK_b l d ex row x hx' k
    have ht := tellV_b l k row
    unfold valsK sumK
    split
    · exact ih
    · rw [foldX_append, xor64 hb.1 hb.2 ht.1 ht.2, ← ih]
      simp [foldX]
end Go.Proofs.YteialkknddpbjaaGreatDoor
namespace Go.Proofs.YteialkknddpbjaaGreatDoor
open Go.ChangeShapes Go.WideShapes Go.ChangeAt Go.RowKit

theorem gkr0 {W w1 : World} {b o : Nat} {v : Value} {x : Option Nat} (hg : W.grownBy w1 x) (hx : x ≠ some b) (h : W.cell? ⟨b, o, none⟩ = some v) : w1.cell? ⟨b, o, none⟩ = some v :=
  (World.cell?_of_block (w := W) (hg.block b (cell_lt h) (fun e => hx e.symm))).trans h
/-- what parityAfter returns -/
def parV (l : List DZ) (d ex row x : Int) : Value := .tuple #[.int .i64 (if othersK l d ex row l.length then sumK l d ex row x l.length else -1), .bool (othersK l d ex row l.length)]
set_option maxRecDepth 8000 in
set_option maxHeartbeats 4000000 in
theorem parityAfter_any (v : Value) (l : List DZ) (row d x : Int) (w : World) (h : LD w v l) (hs : hasZ l row = true) (hx : okv x = true) :
    Calls Tryz.prog 195 #[v, .int .i64 row, .agg #[.int .i64 d, .int .i64 x]] w (Pure (parV l d (extraZ l.length row) row x) w) := by
  obtain ⟨a, cap, rfl, hm⟩ := h.form
  have hl5 : l.length ≤ 5 := by
    have := has_ok hs
    simp only [disksOkZ, Bool.and_eq_true, inB_iff] at this
    omega
  have hl0 : i64B (l.length : Int) := ⟨by omega, by omega⟩
  have e0 := galloc (grefl w) (.cells #[.int .i64 d, .int .i64 x] 174)
  have c0 : (w.alloc (.cells #[.int .i64 d, .int .i64 x] 174)).cell? ⟨w.heap.size, 0, none⟩ = some (.int .i64 d) := by simp [go_sem]
  have c1 : (w.alloc (.cells #[.int .i64 d, .int .i64 x] 174)).cell? ⟨w.heap.size, 1, none⟩ = some (.int .i64 x) := by simp [go_sem]
  have HX := Lib.hid hx
  have HS := Lib.hid hs
  clear hs hx
  go_enter Tryz.func195, Tryz.ntmps195
  go_upto_region 1 with (fail)
  generalize w.alloc (.cells #[.int .i64 d, .int .i64 x] 174) = W0 at *
  generalize hbb : w.heap.size = bb at c0 c1 ⊢
  have HW : Hid (w.heap.size ≤ bb) := Nat.le_of_eq hbb
  clear hbb
  go_wp2_with fail
  go_fit (implExtraOf_any _ row _ hl0)
  rintro e w1 ⟨rfl, g1⟩
  generalize extraZ l.length row = ex at *
  replace c0 := gkc g1 c0
  replace c1 := gkc g1 c1
  have G1 := gtrans e0 g1
  have lb := cell_lt c0
  have I0 := IS.single w1 x (Nat.le_refl w1.heap.size)
  have e1 := galloc (grefl w1) (.cells #[.int .i64 x] 2)
  clear e0 g1
  go_upto_region 3 with (fail)
  clear c1
  replace c0 := gkc e1 c0
  have G2 := gtrans G1 e1
  have hsz : w1.heap.size ≤ (w1.alloc (.cells #[.int .i64 x] 2)).heap.size := e1.size
  clear e1 G1
  generalize w1.alloc (.cells #[.int .i64 x] 2) = W2 at *
  generalize w1.heap.size = B at *
  have HE : Hid (ex = ex) := rfl
  go_wp2_with fail
  go_loopw [9, 22] (fun vals i wr => ∃ k : Nat, k ≤ l.length ∧ i = .int .i64 k ∧ IS wr B vals (valsK l d ex row x k) ∧ w.grownBy wr none ∧ wr.cell? ⟨bb, 0, none⟩ = some (.int .i64 d) ∧ B ≤ wr.heap.size ∧ Hid (othersK l d ex row k = true)) (fun _ i _ => l.length - (intOf i).toNat)
  case atStart => exact ⟨0, Nat.zero_le _, rfl, I0, G2, c0, hsz, rfl⟩
  case round =>
    clear I0 G2 c0 hsz HE
    obtain ⟨k, hk, rfl, C, G, c0, hsz, HO⟩ := hrel
    obtain ⟨va, vn, vc, rfl⟩ := Own.sl C
    by_cases hlt : k < l.length
    · have hki : (k : Int) < l.length := by omega
      have HN := Lib.hid (othersK_next l d ex row k)
      cases hd : ((k : Int) == d)
      rotate_left
      · have HS' : Hid (valsK l d ex row x (k + 1) = valsK l d ex row x k ∧ othersK l d ex row (k + 1) = true) := ⟨by simp [valsK, hd], by rw [HN.out, HO.out, hd]; rfl⟩
        go_wp2_with fail
        go_roundw
        case rel => exact ⟨k + 1, by omega, by go_num, by rw [HS'.out.1]; exact C, G, c0, hsz, HS'.out.2⟩
        case measure => simp [intOf]; omega
      cases he : ((k : Int) == ex)
      rotate_left
      · have HS' : Hid (valsK l d ex row x (k + 1) = valsK l d ex row x k ∧ othersK l d ex row (k + 1) = true) := ⟨by simp [valsK, he], by rw [HN.out, HO.out, he]; simp⟩
        go_wp2_with fail
        go_roundw
        case rel => exact ⟨k + 1, by omega, by go_num, by rw [HS'.out.1]; exact C, G, c0, hsz, HS'.out.2⟩
        case measure => simp [intOf]; omega
      have HT : Hid (cellAtOk l k row = tellOk l k row) := by show _ = _; simp [cellAtOk, HS.out, hlt]
      cases ht : tellOk l k row
      · have HF : Hid (othersK l d ex row l.length = false) := othersK_no hlt (by rw [hd, he, ht]; rfl)
        have HC : Hid (cellAtOk l k row = false) := HT.out.trans ht
        go_wp2_with fail
        go_fit (implCellAt_any _ l k row _ (h.kept G))
        rintro e w5 ⟨rfl, g5⟩
        rw [HC.out]
        go_wp2_with fail
        go_ret2
        exact ⟨by unfold parV; rw [HF.out]; rfl, gtrans G g5⟩
      · have HS' : Hid (valsK l d ex row x (k + 1) = valsK l d ex row x k ++ [tellV l k row] ∧ othersK l d ex row (k + 1) = true) := ⟨by simp [valsK, hd, he], by rw [HN.out, HO.out, ht]; simp⟩
        have HC : Hid (cellAtOk l k row = true) := HT.out.trans ht
        have HV : Hid (cellAtV l k row = tellV l k row) := by show _ = _; rw [cellAtV, HC.out]; rfl
        go_wp2_with fail
        go_fit (implCellAt_any _ l k row _ (h.kept G))
        rintro e w5 ⟨rfl, g5⟩
        rw [HC.out, HV.out]
        have hsz5 := Nat.le_trans hsz g5.size
        have C5 := Own.grew C g5
        have c5 := gkc g5 c0
        have hvl := valsK_length l d ex row x k
        go_wp2_with (first | (at_builtin; refine wpList_append_o (E := intE) (base := B) rfl (.tmp 43) (.tmp 45) rfl rfl rfl (Own.grew C5 (galloc (grefl _) _)) (IS.single _ (tellV l k row) (Nat.zero_le _)) (by simp; omega) (by decide) (by simp; omega) ?_; intro v1 wa ho1 hg1 ha1; have G6 : w.grownBy wa none := gsub (galloc (gtrans G g5) _) hg1 (fun q e => by have := (Own.lt C5 q e).1; have := HW.out; omega); have c6 := gkr0 hg1 (fun e => by have := (Own.lt C5 bb e).1; omega) (gkc (galloc (grefl w5) _) c5); have hs6 := hg1.size; obtain ⟨a1, n1, c1', rfl⟩ := ho1.sl))
        go_roundw
        case rel => exact ⟨k + 1, by omega, by go_num, by rw [HS'.out.1]; exact ho1, G6, c6, by simp at hs6; omega, HS'.out.2⟩
        case measure => simp [intOf]; omega
    · obtain rfl : k = l.length := by omega
      have HP : Hid (xorZ (valsK l d ex row x l.length) = sumK l d ex row x l.length) := valsK_sum l d ex row x HX.out _
      go_wp2_with fail
      go_fit (implXor_any _ (valsK l d ex row x l.length) _ (Own.rd C))
      rintro e w5 ⟨rfl, rfl⟩
      rw [HP.out]
      go_wp2_with fail
      go_ret2
      exact ⟨by unfold parV; rw [HO.out]; rfl, G⟩
end Go.Proofs.YteialkknddpbjaaGreatDoor
namespace Go.Proofs.YteialkknddpbjaaGreatDoor

def oneN (f : Nat → Bool) (n x : Nat) : List Nat := if x < n ∧ f x = false then [x] else []
theorem oneN_other {f : Nat → Bool} {n x : Nat} (h : x ≠ n) : oneN f (n + 1) x = oneN f n x := by
  unfold oneN
  have : (x < n + 1 ∧ f x = false) ↔ (x < n ∧ f x = false) := by constructor <;> rintro ⟨a, b⟩ <;> exact ⟨by omega, b⟩
  simp only [this]
theorem oneN_no {f : Nat → Bool} {n x : Nat} (h : n ≤ x) : oneN f n x = [] := by unfold oneN; rw [if_neg (by omega)]
theorem oneN_self (f : Nat → Bool) (n : Nat) : oneN f (n + 1) n = if f n = false then [n] else [] := by simp [oneN]
theorem pick_list (f : Nat → Bool) (d e : Nat) (hne : d ≠ e) (n : Nat) :
    (List.range n).filter (fun i => !f i && (i == d || i == e)) = if e < d then oneN f n e ++ oneN f n d else oneN f n d ++ oneN f n e := by
  induction n with
  | zero => simp [oneN]
  | succ n ih =>
    rw [List.range_succ, List.filter_append, ih]
    by_cases h1 : n = d
    · subst h1
      rw [oneN_other (x := e) (Ne.symm hne), oneN_self, oneN_no (Nat.le_refl n)]
      by_cases hlt : e < n
      · rw [if_pos hlt, if_pos hlt]
        cases hf : f n <;> simp [hf]
      · rw [if_neg hlt, if_neg hlt, oneN_no (x := e) (by omega)]
        cases hf : f n <;> simp [hf]
    · by_cases h2 : n = e
      · subst h2
        rw [oneN_other (x := d) (Ne.symm h1), oneN_self, oneN_no (Nat.le_refl n)]
        by_cases hlt : n < d
        · rw [if_pos hlt, if_pos hlt, oneN_no (x := d) (by omega)]
          cases hf : f n <;> simp [hf]
        · rw [if_neg hlt, if_neg hlt]
          cases hf : f n <;> simp [hf]
      · rw [oneN_other (x := d) (Ne.symm h1), oneN_other (x := e) (Ne.symm h2)]
        simp [h1, h2]
theorem pick_eq (l : List DZ) (d e : Nat) (n : Nat) : (List.range n).filter (pickI l (d : Int) (e : Int)) = (List.range n).filter (fun i => !(l.getD i .zero).dead && (i == d || i == e)) := by
  congr 1
  funext i
  unfold pickI
  have h1 : ((i : Int) == (d : Int)) = (i == d) := by rw [Bool.eq_iff_iff]; simp; omega
  have h2 : ((i : Int) == (e : Int)) = (i == e) := by rw [Bool.eq_iff_iff]; simp; omega
  rw [h1, h2]
section
variable {l : List DZ} {d e : Nat} (hd : d < l.length) (he : e < l.length) (hne : d ≠ e) (x s : Int)
include hd he hne
theorem for_lists : dsF l d e l.length = (if l[d].dead && l[e].dead then [] else if l[d].dead then [(e : Int)] else if l[e].dead then [(d : Int)] else if (e : Int) < d then [(e : Int), (d : Int)] else [(d : Int), (e : Int)]) ∧
    vsF l d e x s l.length = (if l[d].dead && l[e].dead then [] else if l[d].dead then [s] else if l[e].dead then [x] else if (e : Int) < d then [s, x] else [x, s]) := by
  have h0 := pick_list (fun i => (l.getD i .zero).dead) d e hne l.length
  unfold dsF vsF
  rw [pick_eq, h0]
  by_cases hlt : e < d
  · have hlt' : (e : Int) < d := by omega
    rw [if_pos hlt]
    cases fd : l[d].dead <;> cases fe : l[e].dead <;> simp [oneN, hd, he, fd, fe, hlt', List.getD_eq_getElem?_getD] <;> omega
  · have hlt' : ¬ (e : Int) < d := by omega
    rw [if_neg hlt]
    cases fd : l[d].dead <;> cases fe : l[e].dead <;> simp [oneN, hd, he, fd, fe, hlt', List.getD_eq_getElem?_getD] <;> omega
theorem for_change : chV (dsF l d e l.length) (vsF l d e x s l.length) = livV l[d].dead l[e].dead d x e s := by
  obtain ⟨h1, h2⟩ := for_lists hd he hne x s
  rw [h1, h2]
  unfold livV
  by_cases hlt : (e : Int) < d
  · rw [if_pos hlt, if_pos hlt, if_pos hlt]
    cases fd : l[d].dead <;> cases fe : l[e].dead <;> simp [chV]
  · rw [if_neg hlt, if_neg hlt, if_neg hlt]
    cases fd : l[d].dead <;> cases fe : l[e].dead <;> simp [chV]
theorem for_puts : (chP (dsF l d e l.length) (vsF l d e x s l.length)).map (·.1) = dsF l d e l.length ∧ (chP (dsF l d e l.length) (vsF l d e x s l.length)).map (·.2) = vsF l d e x s l.length := by
  obtain ⟨h1, h2⟩ := for_lists hd he hne x s
  rw [h1, h2]
  by_cases hlt : (e : Int) < d
  · rw [if_pos hlt, if_pos hlt]
    cases fd : l[d].dead <;> cases fe : l[e].dead <;> simp [chP]
  · rw [if_neg hlt, if_neg hlt]
    cases fd : l[d].dead <;> cases fe : l[e].dead <;> simp [chP]
theorem for_some : decide (0 < (dsF l d e l.length).length) = !(l[d].dead && l[e].dead) := by
  obtain ⟨h1, -⟩ := for_lists hd he hne 0 0
  rw [h1]
  by_cases hlt : (e : Int) < d
  · rw [if_pos hlt]
    cases fd : l[d].dead <;> cases fe : l[e].dead <;> simp
  · rw [if_neg hlt]
    cases fd : l[d].dead <;> cases fe : l[e].dead <;> simp
end
end Go.Proofs.YteialkknddpbjaaGreatDoor
namespace Go.Proofs.YteialkknddpbjaaGreatDoor
open Go.ChangeShapes Go.WideShapes Go.ChangeAt Go.RowKit

set_option maxRecDepth 8000 in
set_option maxHeartbeats 4000000 in
theorem patchOf_any (row : Int) (ds vs : List Int) (w : World) :
    Calls Tryz.prog 198 #[.int .i64 row, chV ds vs] w (GotPt ⟨row, (chP ds vs).map (·.1), (chP ds vs).map (·.2)⟩ w) := by
  have hL2 := chP_len ds vs
  have Z0 := Zero3.new w
  have e1 := galloc (grefl (w.alloc (.cells #[.int .i64 0, .slice none 0 0, .slice none 0 0] 97))) (.cells #[.int .i64 row, .slice none 0 0, .slice none 0 0] 97)
  have G1 := gtrans (galloc (grefl w) (.cells #[.int .i64 0, .slice none 0 0, .slice none 0 0] 97)) e1
  have Z1 := Z0.kept e1 (by simp)
  have C0 : At ((w.alloc (.cells #[.int .i64 0, .slice none 0 0, .slice none 0 0] 97)).alloc (.cells #[.int .i64 row, .slice none 0 0, .slice none 0 0] 97)) (w.heap.size + 1) 0 (.int .i64 row) := by simp [At, go_sem]
  have C1 : At ((w.alloc (.cells #[.int .i64 0, .slice none 0 0, .slice none 0 0] 97)).alloc (.cells #[.int .i64 row, .slice none 0 0, .slice none 0 0] 97)) (w.heap.size + 1) 1 (.slice none 0 0) := by simp [At, go_sem]
  have C2 : At ((w.alloc (.cells #[.int .i64 0, .slice none 0 0, .slice none 0 0] 97)).alloc (.cells #[.int .i64 row, .slice none 0 0, .slice none 0 0] 97)) (w.heap.size + 1) 2 (.slice none 0 0) := by simp [At, go_sem]
  have C : chV ds vs = .nilIface ∨ ∃ t u, chV ds vs = .iface t u := by unfold chV; split; exact .inr ⟨_, _, rfl⟩; exact .inr ⟨_, _, rfl⟩; exact .inl rfl
  have CP := putsOf_any ds vs
  generalize chP ds vs = L at *
  generalize chV ds vs = cv at *
  clear Z0 e1
  go_enter Tryz.func198, Tryz.ntmps198
  go_upto_region 2 with (fail)
  generalize (w.alloc (.cells #[.int .i64 0, .slice none 0 0, .slice none 0 0] 97)).alloc (.cells #[.int .i64 row, .slice none 0 0, .slice none 0 0] 97) = W1 at *
  have hpb : w.heap.size + 1 < W1.heap.size := cell_lt C0.1
  generalize hpp : w.heap.size + 1 = pb at *
  go_wp2_with fail
  go_fit (CP _)
  rintro e W ⟨pv, rfl, P, g2⟩
  obtain ⟨pa, pc, rfl, -⟩ := Own.form P
  have Z2 := Z1.kept g2 (by simp)
  have G2 := gtrans G1 g2
  have P0 : PBox W pb W.heap.size ⟨row, (L.take 0).map (·.1), (L.take 0).map (·.2)⟩ (.slice none 0 0) (.slice none 0 0) := ⟨gk g2 C0, gk g2 C1, gk g2 C2, Own.nil _ _ _, Own.nil _ _ _, .inl rfl, by simp [Value.ownBlock], by simp [Value.ownBlock]⟩
  have hpW : pb < W.heap.size := P0.lt
  have hne : w.heap.size ≠ pb := by omega
  have HPb : Hid (w.heap.size ≤ pb) := by show _ ≤ _; omega
  have HPu : Hid ((Value.slice pa L.length pc).ownBlock ≠ some pb) := fun e => by have := (Own.lt P _ e).1; omega
  clear Z1 C0 C1 C2 G1 g2 CP C hpp hpb
  generalize hBW : W.heap.size = B at *
  have HB : Hid (W.heap.size = B) := hBW
  clear hBW
  go_wp2_with fail
  go_loopw [13] (fun i wx => ∃ (k : Nat) (dv vv : Value), k ≤ L.length ∧ i = .int .i64 k ∧ PBox wx pb B ⟨row, (L.take k).map (·.1), (L.take k).map (·.2)⟩ dv vv ∧ W.grownBy wx (some pb)) (fun i _ => L.length - (intOf i).toNat)
  case atStart => exact ⟨0, _, _, Nat.zero_le _, rfl, P0, World.grownBy.refl _ _⟩
  case round =>
    clear P0
    obtain ⟨k, dv, vv, hk, rfl, PB, GX⟩ := hrel
    obtain ⟨da, dn, dc, rfl⟩ := PB.ds.sl
    obtain ⟨va, vn, vc, rfl⟩ := PB.vs.sl
    have hwx : B ≤ wr.heap.size := by have := GX.size; rw [HB.out] at this; exact this
    by_cases hlt : k < L.length
    · have hki : (k : Int) < L.length := by omega
      have HD : Hid ((L.take (k + 1)).map (·.1) = (L.take k).map (·.1) ++ [L[k].1] ∧ (L.take (k + 1)).map (·.2) = (L.take k).map (·.2) ++ [L[k].2]) := ⟨take_map_next L _ k hlt, take_map_next L _ k hlt⟩
      obtain ⟨g, rfl, lg, ⟨x0, -⟩, ⟨x1, -⟩⟩ := Own.put_at (Own.kept P GX (.inr HPu.out)) k hlt
      generalize L[k].1 = d at *
      generalize L[k].2 = x at *
      have e2 := galloc (grefl wr) (.cells #[.int .i64 d, .int .i64 x] 174)
      have q0 : (wr.alloc (.cells #[.int .i64 d, .int .i64 x] 174)).cell? ⟨wr.heap.size, 0, none⟩ = some (.int .i64 d) := by simp [go_sem]
      have q1 : (wr.alloc (.cells #[.int .i64 d, .int .i64 x] 174)).cell? ⟨wr.heap.size, 1, none⟩ = some (.int .i64 x) := by simp [go_sem]
      have hd1 : ∀ j, (Value.slice da dn dc).ownBlock = some j → B ≤ j ∧ j < wr.heap.size := PB.ds.lt
      have hd2 : ∀ j, (Value.slice va vn vc).ownBlock = some j → B ≤ j ∧ j < wr.heap.size := PB.vs.lt
      have hlen : ((L.take k).map (·.1)).length ≤ 2 ∧ ((L.take k).map (·.2)).length ≤ 2 := by simp; omega
      go_upto_region 5 with (fail)
      replace PB := PB.kept e2
      replace GX := gsubc GX e2 (fun q e => by cases e)
      have hq : B ≤ wr.heap.size := hwx
      have hqW : wr.heap.size < (wr.alloc (.cells #[.int .i64 d, .int .i64 x] 174)).heap.size := by simp
      clear x0 x1 e2 hwx
      generalize wr.alloc (.cells #[.int .i64 d, .int .i64 x] 174) = Wq at *
      generalize wr.heap.size = qb at *
      generalize (L.take k).map (·.1) = M1 at *
      generalize (L.take k).map (·.2) = M2 at *
      have hpl := PB.lt
      obtain ⟨p0, pf0⟩ := PB.c0
      obtain ⟨p1, pf1⟩ := PB.c1
      obtain ⟨p2, pf2⟩ := PB.c2
      go_upto_region 6 with (first | (at_builtin; refine wpList_append_o (E := intE) (base := B) rfl (.tmp 18) (.tmp 21) rfl rfl rfl (PB.ds.grew (galloc (grefl _) _)) (IS.single _ d (Nat.zero_le _)) (by simp only [List.length_cons, List.length_nil]; omega) (by decide) (by simp; omega) ?_; intro v1 wa ho1 hg1 ha1; obtain ⟨q1', r1⟩ := gkr hg1 PB.db (gk (galloc (grefl Wq) _) PB.c1); have P1 := PBox.app1 (PB.kept (galloc (grefl Wq) _)) hg1 ho1 ha1; have GX1 : W.grownBy (wa.setCell ⟨pb, 1, none⟩ v1) (some pb) := gset (gsubc (galloc GX _) hg1 (fun q e => by have := (hd1 q e).1; rw [HB.out]; omega)) _ _; have q1a := gkr0 hg1 (fun e => by have := (hd1 qb e).2; omega) (gkc (galloc (grefl Wq) _) q1); have q1b : (wa.setCell ⟨pb, 1, none⟩ v1).cell? ⟨qb, 1, none⟩ = some (.int .i64 x) := (World.cell?_setCell_other wa _ _ v1 (fun e => by cases e; omega)).trans q1a; obtain ⟨a1, n1, c1', rfl⟩ := ho1.sl))
      dsimp only at P1
      generalize wa.setCell ⟨pb, 1, none⟩ (.slice a1 n1 c1') = Wb at *
      have hl1 := P1.lt
      have hw1 : B ≤ Wb.heap.size := by have := GX1.size; rw [HB.out] at this; exact this
      obtain ⟨t2, u2⟩ := P1.c2
      clear PB GX p0 p1 p2 pf0 pf1 pf2 hg1 ho1 ha1 q1' r1 q0 q1 q1a
      go_wp2_with (first | (at_builtin; refine wpList_append_o (E := intE) (base := B) rfl (.tmp 25) (.tmp 28) rfl rfl rfl (P1.vs.grew (galloc (grefl _) _)) (IS.single _ x (Nat.zero_le _)) (by simp only [List.length_cons, List.length_nil]; omega) (by decide) (by simp; omega) ?_; intro v2 wb ho2 hg2 ha2; obtain ⟨q2, r2⟩ := gkr hg2 P1.vb (gk (galloc (grefl _) _) P1.c2); have P2 := PBox.app2 (P1.kept (galloc (grefl _) _)) hg2 ho2 ha2; have GX2 : W.grownBy (wb.setCell ⟨pb, 2, none⟩ v2) (some pb) := gset (gsubc (galloc GX1 _) hg2 (fun q e => by have := (hd2 q e).1; rw [HB.out]; omega)) _ _; obtain ⟨a2, n2, c2', rfl⟩ := ho2.sl))
      dsimp only at P2
      rw [← HD.out.1, ← HD.out.2] at P2
      go_roundw
      case rel => exact ⟨k + 1, _, _, by omega, by go_num, P2, GX2⟩
      case measure => simp [intOf]; omega
    · obtain rfl : k = L.length := by omega
      have HT : Hid (L.take L.length = L) := List.take_length
      rw [HT.out] at PB
      have GW : w.grownBy wr none := gsub G2 GX (fun q e => by cases e; exact HPb.out)
      obtain ⟨⟨z0, y0⟩, ⟨z1, y1⟩, ⟨z2, y2⟩⟩ := Z2.kept GX (by simp; omega)
      have lB : w.heap.size < B := by have := HPb.out; omega
      have hR := PB.res GW (r := w.heap.size) (by omega) (by omega) (i_not_own PB.ds lB) (i_not_own PB.vs lB) (.int .i64 row) (.slice da dn dc) (.slice va vn vc)
      obtain ⟨c0, f0⟩ := PB.c0
      obtain ⟨c1, f1⟩ := PB.c1
      obtain ⟨c2, f2⟩ := PB.c2
      dsimp only at c0
      clear PB GX
      go_wp2_with fail
      exact bodyPost_ret (v := .agg #[.int .i64 row, .slice da dn dc, .slice va vn vc]) (by simp [results, Tryz.results198, go_sem, z0, z1, z2]) rfl ⟨_, _, rfl, hR⟩
end Go.Proofs.YteialkknddpbjaaGreatDoor
namespace Go.Proofs.YteialkknddpbjaaGreatDoor
open Go.ChangeShapes Go.WideShapes Go.ChangeAt Go.RowKit

theorem rowsZ_some {l : List DZ} (h : 0 < rowsZ l) : ∃ i, ∃ hi : i < l.length, l[i].dead = false ∧ l[i].m.length = rowsZ l := by
  induction l with
  | nil => simp [rowsZ] at h
  | cons d r ih =>
    unfold rowsZ at h ⊢
    cases hd : d.dead
    · exact ⟨0, by simp, hd, by simp⟩
    · rw [hd] at h
      obtain ⟨i, hi, h1, h2⟩ := ih (by simpa using h)
      exact ⟨i + 1, by simpa using hi, h1, by simpa using h2⟩
theorem disksOk_parts {l : List DZ} (h : disksOkZ l = true) : inB l.length 3 5 = true ∧ 0 < rowsZ l ∧ rowsZ l ≤ 16 := by
  simp only [disksOkZ, Bool.and_eq_true, decide_eq_true_eq] at h
  obtain ⟨h1, h2, h3⟩ := h
  refine ⟨h1, h3, ?_⟩
  obtain ⟨i, hi, hd, hm⟩ := rowsZ_some h3
  have := List.all_eq_true.1 h2 i (by simpa using hi)
  rw [getD_at hi] at this
  simp only [DZ.fitsIn, Bool.and_eq_true] at this
  have := (DZ.ok_pos this.1 hd).2
  omega
def rightP (l : List DZ) (p : Int) : Bool := decide (0 ≤ rowZ l.length p ∧ rowZ l.length p < rowsZ l)
theorem room_in {l : List DZ} (h : disksOkZ l = true) (p : Int) : inB p 0 (roomZ l.length (rowsOfZ l) - 1) = rightP l p := by
  obtain ⟨h1, h2, h3⟩ := disksOk_parts h
  have e1 : rowsOfZ l = rowsZ l := by simp [rowsOfZ, h]
  rw [e1, roomZ_yes h1 (inB_yes (by omega) (by omega)), Bool.eq_iff_iff]
  unfold rightP
  rw [decide_eq_true_iff]
  cases hi : inB p 0 (16 * ((l.length : Int) - 1) - 1)
  · rw [rowZ_no (.inr hi)]
    have := inB_nf hi
    rw [inB_iff]
    rcases three h1 with e | e | e <;> rw [e] at this ⊢ <;> omega
  · rw [rowZ_yes h1 hi, inB_iff]
    have := inB_iff.1 hi
    rcases three h1 with e | e | e <;> rw [e] at this ⊢ <;> omega
theorem room_out {l : List DZ} (h : disksOkZ l = false) (p : Int) : inB p 0 (roomZ l.length (rowsOfZ l) - 1) = false := by
  have e1 : rowsOfZ l = -1 := by simp [rowsOfZ, h]
  rw [e1, roomZ_no (.inr (by decide))]
  cases hc : inB p 0 (-1 - 1)
  · rfl
  · have := inB_iff.1 hc; omega
/-- what PatchFor returns -/
def pfOk (l : List DZ) (p v : Int) : Bool := disksOkZ l && forOk l p v
def pfZ (l : List DZ) (p v : Int) : PZ := if pfOk l p v then forP l p v else .zero
theorem pf_no {l : List DZ} {p v : Int} (h : pfOk l p v = false) : pfZ l p v = .zero := by simp [pfZ, h]
theorem pf_yes {l : List DZ} {p v : Int} (h : pfOk l p v = true) : pfZ l p v = forP l p v := by simp [pfZ, h]
theorem right_at {l : List DZ} {p : Int} (h : disksOkZ l = true) (hp : rightP l p = true) : ∃ d e : Nat, d < l.length ∧ e < l.length ∧ diskZ l.length p = d ∧ extraZ l.length (rowZ l.length p) = e ∧ d ≠ e ∧ hasZ l (rowZ l.length p) = true := by
  obtain ⟨h1, h2, h3⟩ := disksOk_parts h
  unfold rightP at hp
  rw [decide_eq_true_iff] at hp
  cases hi : inB p 0 (16 * ((l.length : Int) - 1) - 1)
  · rw [rowZ_no (.inr hi)] at hp; omega
  obtain ⟨a1, a2, a3, a4, a5, a6, a7⟩ := layout_at h1 hi
  have a8 := extraZ_in (n := l.length) (r := rowZ l.length p) h1
  rw [← a7] at a8
  exact ⟨(diskZ l.length p).toNat, (extraZ l.length (rowZ l.length p)).toNat, by omega, by omega, by omega, by omega, by omega, by unfold hasZ; rw [h, decide_eq_true hp]; rfl⟩
theorem pf_len {l : List DZ} {n : Nat} (h : l.length ≤ n) (p v : Int) : (pfZ l p v).ds.length ≤ n ∧ (pfZ l p v).vs.length ≤ n := by
  unfold pfZ forP
  split
  · split
    · have h1 := dsF_length l (forD l p) (forE l p) l.length
      have h2 := vsF_length l (forD l p) (forE l p) v (forSum l p v) l.length
      exact ⟨by dsimp only; omega, by dsimp only; omega⟩
    · simp [PZ.zero]
  · simp [PZ.zero]
theorem roomZ_b (n r : Int) : -1 ≤ roomZ n r ∧ roomZ n r ≤ 64 := by
  unfold roomZ
  split
  · next h =>
    have := inB_iff.1 h.2
    rcases three h.1 with rfl | rfl | rfl <;> omega
  · omega
/-- the put of the data cell and the world's growth -/
abbrev PfS (w w' : World) (b : Nat) (d x : Int) : Prop := w'.cell? ⟨b, 0, none⟩ = some (.int .i64 d) ∧ w'.cell? ⟨b, 1, none⟩ = some (.int .i64 x) ∧ w.grownBy w' none
theorem PfS.kept {w w' w2 : World} {b : Nat} {d x : Int} (h : PfS w w' b d x) (g : w'.grownBy w2 none) : PfS w w2 b d x := ⟨gkc g h.1, gkc g h.2.1, gtrans h.2.2 g⟩
theorem forOk_has {l : List DZ} {p v : Int} (h : forHas l p v = false) : forOk l p v = false := by simp [forOk, forAll, h]
set_option maxRecDepth 8000 in
set_option maxHeartbeats 4000000 in
theorem implPatchFor_any (v : Value) (l : List DZ) (p x : Int) (w : World) (h : LD w v l) :
    Calls Tryz.prog 119 #[v, .int .i64 p, .int .i64 x] w (GotP (pfZ l p x) (pfOk l p x) w) := by
  obtain ⟨a, cap, rfl, hm⟩ := h.form
  have Z0 := Zero3.new w
  have G0 := galloc (grefl w) (.cells #[.int .i64 0, .slice none 0 0, .slice none 0 0] 97)
  have h0 := h.kept G0
  have hl0 : i64B (l.length : Int) := ⟨by omega, by omega⟩
  go_enter Tryz.func119, Tryz.ntmps119
  go_upto_region 1 with (fail)
  generalize w.alloc (.cells #[.int .i64 0, .slice none 0 0, .slice none 0 0] 97) = W0 at *
  have hR0 := fun (w' : World) (g : W0.grownBy w' none) => ret_zero3 (r := w.heap.size) (gtrans G0 g) (Nat.le_refl _)
  cases hx : inB x 0 32767
  · have HF : Hid (pfOk l p x = false ∧ pfZ l p x = .zero) := by
      have e : pfOk l p x = false := by simp [pfOk, forOk_has (l := l) (p := p) (v := x) (by simp [forHas, okv, hx])]
      exact ⟨e, pf_no e⟩
    obtain ⟨⟨z0, y0⟩, ⟨z1, y1⟩, ⟨z2, y2⟩⟩ := Z0
    go_wp2_with fail
    go_fit (implValueOk_any _ _)
    rintro e w1 ⟨rfl, rfl⟩
    rw [hx]
    go_wp2_with fail
    exact bodyPost_ret (v := .tuple #[.agg #[.int .i64 0, .slice none 0 0, .slice none 0 0], .bool false]) (by simp [results, Tryz.results119, go_sem, z0, z1, z2]) rfl (by rw [HF.out.1, HF.out.2]; exact hR0 _ (grefl _))
  have HX : Hid (okv x = true) := hx
  go_wp2_with fail
  go_fit (implValueOk_any _ _)
  rintro e w1 ⟨rfl, rfl⟩
  rw [hx]
  clear hx
  go_wp2_with fail
  go_fit (implRowsOf_any _ l _ h0)
  rintro e w1 ⟨rfl, g1⟩
  go_wp2_with fail
  go_fit (implRoomOf_any _ _ _ hl0)
  rintro e w2 ⟨rfl, g2⟩
  have hrb := roomZ_b l.length (rowsOfZ l)
  have HRm : Hid (∀ q, inB p 0 (q - 1) = inB p 0 (q - 1)) := fun _ => rfl
  have HNo : Hid (disksOkZ l = false → inB p 0 (roomZ l.length (rowsOfZ l) - 1) = false) := fun e => room_out e p
  have HYes : Hid (disksOkZ l = true → inB p 0 (roomZ l.length (rowsOfZ l) - 1) = rightP l p) := fun e => room_in e p
  generalize roomZ l.length (rowsOfZ l) = R at *
  have G2 := gtrans g1 g2
  clear g1 g2 HRm
  go_wp2_with fail
  go_fit (between_any _ _ _ _)
  rintro e w3 ⟨rfl, rfl⟩
  cases hin : inB p 0 (R - 1)
  · have HF : Hid (pfOk l p x = false ∧ pfZ l p x = .zero) := by
      have e : pfOk l p x = false := by
        cases hd : disksOkZ l
        · simp [pfOk, hd]
        · have e1 := HYes.out hd
          rw [hin] at e1
          have e2 : forHas l p x = false := by unfold forHas; rw [show decide (0 ≤ rowZ l.length p ∧ rowZ l.length p < rowsZ l) = rightP l p from rfl, ← e1]; rfl
          simp [pfOk, forOk_has e2]
      exact ⟨e, pf_no e⟩
    obtain ⟨⟨z0, y0⟩, ⟨z1, y1⟩, ⟨z2, y2⟩⟩ := Z0.kept G2 (by simp)
    go_wp2_with fail
    exact bodyPost_ret (v := .tuple #[.agg #[.int .i64 0, .slice none 0 0, .slice none 0 0], .bool false]) (by simp [results, Tryz.results119, go_sem, z0, z1, z2]) rfl (by rw [HF.out.1, HF.out.2]; exact hR0 _ G2)
  have HDk : Hid (disksOkZ l = true) := by
    show _ = _
    cases hd : disksOkZ l
    · have := HNo.out hd; rw [hin] at this; cases this
    · rfl
  have HRt : Hid (rightP l p = true) := by show _ = _; rw [← HYes.out HDk.out, hin]
  obtain ⟨d, ex, hd, he, hdz, hez, hne, hhas⟩ := right_at HDk.out HRt.out
  have HHas := Lib.hid hhas
  have HFor : Hid (forHas l p x = true) := by show _ = _; unfold forHas; rw [show decide (0 ≤ rowZ l.length p ∧ rowZ l.length p < rowsZ l) = rightP l p from rfl, HRt.out, HX.out]; rfl
  have HAll : Hid (forAll l p x = othersK l d ex (rowZ l.length p) l.length) := by show _ = _; unfold forAll forD forE forRow; rw [HFor.out, hdz, hez]; rfl
  have HSum : Hid (forSum l p x = sumK l d ex (rowZ l.length p) x l.length) := by show _ = _; unfold forSum forD forE forRow; rw [hdz, hez]
  have HP1 : Hid (forAll l p x = true → forP l p x = ⟨rowZ l.length p, dsF l d ex l.length, vsF l d ex x (forSum l p x) l.length⟩ ∧ forOk l p x = decide (0 < (dsF l d ex l.length).length)) := fun e => by
    have := for_yes e
    unfold forD forE forRow at this
    rw [hdz, hez] at this
    exact this
  clear hhas hin HNo HYes hrb
  go_wp2_with fail
  go_fit (implRowOf_any _ _ _ hl0)
  rintro e w3 ⟨rfl, g3⟩
  have G3 := gtrans G2 g3
  go_wp2_with fail
  go_fit (implDiskOf_any _ _ _ hl0)
  rintro e w4 ⟨rfl, g4⟩
  rw [hdz]
  have HEz := Lib.hid hez
  clear hdz hez
  generalize rowZ l.length p = row at *
  have G4 := gtrans G3 g4
  have e4 := galloc G4 (.cells #[.int .i64 d, .int .i64 x] 174)
  have S4 : PfS W0 (w4.alloc (.cells #[.int .i64 d, .int .i64 x] 174)) w4.heap.size d x := ⟨by simp [go_sem], by simp [go_sem], e4⟩
  clear e4 G4 G3 G2 g3 g4
  go_upto_region 5 with (fail)
  generalize w4.alloc (.cells #[.int .i64 d, .int .i64 x] 174) = W4 at *
  generalize w4.heap.size = pb at *
  have HS4 := Lib.hid S4
  obtain ⟨q0, q1, -⟩ := S4
  go_wp2_with fail
  go_fit (parityAfter_any _ l row d x _ (h0.kept HS4.out.2.2) HHas.out HX.out)
  rintro e w5 ⟨rfl, g5⟩
  have S5 := HS4.out.kept g5
  clear q0 q1 HS4 g5
  unfold parV
  rw [HEz.out]
  cases ho : othersK l d ex row l.length
  · have HF : Hid (pfOk l p x = false ∧ pfZ l p x = .zero) := by
      have e0 : forAll l p x = false := by rw [HAll.out, ho]
      have e : pfOk l p x = false := by simp [pfOk, forOk, e0]
      exact ⟨e, pf_no e⟩
    obtain ⟨⟨z0, y0⟩, ⟨z1, y1⟩, ⟨z2, y2⟩⟩ := Z0.kept S5.2.2 (by simp)
    go_wp2_with fail
    exact bodyPost_ret (v := .tuple #[.agg #[.int .i64 0, .slice none 0 0, .slice none 0 0], .bool false]) (by simp [results, Tryz.results119, go_sem, z0, z1, z2]) rfl (by rw [HF.out.1, HF.out.2]; exact hR0 _ S5.2.2)
  have HAl2 : Hid (forAll l p x = true) := by show _ = _; rw [HAll.out, ho]
  rw [if_pos rfl]
  generalize sumK l d ex row x l.length = sm at *
  go_upto_region 8 with (fail)
  clear ho
  refine region_calm (fun w' => PfS W0 w' pb d x) (by kernel_rfl) (by kernel_rfl) (S5.kept (gdrew (grefl w5) 1)) ?_
  repeat (first
    | (refine calm_skip (by rfl) ?_; simp only [Act.put, List.setIfInBounds_toArray, List.set_cons_zero, List.set_cons_succ])
    | (refine calm_step (by rfl) ?_
       apply Exists.intro
       refine ⟨fun w' hw' => ?_, ?_⟩
       · go_simp
         first | done | exact rfl | (go_at_call 197; go_fit (implExtraOf_any _ row _ hl0); rintro e w8 ⟨rfl, g8⟩; rw [HEz.out]; exact ⟨rfl, PfS.kept hw' g8⟩) | (go_at_call 196; go_fit (onLiving_any _ l d ex x sm _ (h0.kept hw'.2.2) hd he); rintro e w8 ⟨rfl, g8⟩; exact ⟨rfl, PfS.kept hw' g8⟩)
       simp only [Act.put, List.setIfInBounds_toArray, List.set_cons_zero, List.set_cons_succ]))
  refine calm_nil ?_
  intro w9 hw9
  have HP2 := HP1.out HAl2.out
  rw [HSum.out] at HP2
  have HP := Lib.hid HP2
  have HSome := Lib.hid (for_some hd he hne)
  have HPt := Lib.hid (for_puts hd he hne x sm)
  have CP := patchOf_any row (dsF l d ex l.length) (vsF l d ex x sm l.length)
  rw [HPt.out.1, HPt.out.2, for_change hd he hne x sm] at CP
  clear HP1 HP2 S5 HPt
  cases hb : (l[d].dead && l[ex].dead)
  rotate_left
  · have HF : Hid (pfOk l p x = false ∧ pfZ l p x = .zero) := by
      have e : pfOk l p x = false := by simp only [pfOk, HP.out.2, HSome.out, hb]; simp
      exact ⟨e, pf_no e⟩
    have HL : livV l[d].dead l[ex].dead d x ex sm = .nilIface := by unfold livV; rw [hb]; rfl
    rw [HL]
    clear CP HL
    obtain ⟨⟨z0, y0⟩, ⟨z1, y1⟩, ⟨z2, y2⟩⟩ := Z0.kept hw9.2.2 (by simp)
    go_wp2_with fail
    exact bodyPost_ret (v := .tuple #[.agg #[.int .i64 0, .slice none 0 0, .slice none 0 0], .bool false]) (by simp [results, Tryz.results119, go_sem, z0, z1, z2]) rfl (by rw [HF.out.1, HF.out.2]; exact hR0 _ hw9.2.2)
  have HF : Hid (pfOk l p x = true ∧ pfZ l p x = ⟨row, dsF l d ex l.length, vsF l d ex x sm l.length⟩) := by
    have e : pfOk l p x = true := by simp only [pfOk, HDk.out, HP.out.2, HSome.out, hb]; rfl
    exact ⟨e, by rw [pf_yes e, HP.out.1]⟩
  obtain ⟨t, u, hu⟩ : ∃ t u, livV l[d].dead l[ex].dead d x ex sm = .iface t u := by
    unfold livV
    rw [hb]
    simp only [Bool.false_eq_true, if_false]
    split
    · exact ⟨_, _, rfl⟩
    · split
      · exact ⟨_, _, rfl⟩
      · split <;> exact ⟨_, _, rfl⟩
  rw [hu] at CP ⊢
  clear hu hb HP HSome
  generalize dsF l d ex l.length = D at *
  generalize vsF l d ex x sm l.length = V at *
  go_wp2_with fail
  go_fit (CP _)
  rintro e w10 ⟨dv, vv, rfl, s1, s2, ap, g10⟩
  obtain ⟨da, dn, dc, rfl⟩ := Own.sl s1
  obtain ⟨va, vn, vc, rfl⟩ := Own.sl s2
  have GA := gtrans hw9.2.2 g10
  have hs9 := (gtrans G0 hw9.2.2).size
  have hb0 : w.heap.size < w9.heap.size := by have := cell_lt (Z0.kept hw9.2.2 (by simp)).c0.1; omega
  have hdn : (Value.slice da dn dc).ownBlock ≠ some w.heap.size := i_not_own s1 hb0
  have hvn : (Value.slice va vn vc).ownBlock ≠ some w.heap.size := i_not_own s2 hb0
  have hR : GotP (pfZ l p x) (pfOk l p x) w (.returned (.tuple #[.agg #[.int .i64 row, .slice da dn dc, .slice va vn vc], .bool true])) (set3 w10 w.heap.size (.int .i64 row) (.slice da dn dc) (.slice va vn vc)) := by
    rw [HF.out.1, HF.out.2]
    exact ⟨_, _, rfl, (Own.other (Own.other (Own.other s1 hdn _) hdn _) hdn _).lower hs9, (Own.other (Own.other (Own.other s2 hvn _) hvn _) hvn _).lower hs9, ap, gset3 (gtrans G0 GA) (Nat.le_refl _) _ _ _⟩
  obtain ⟨⟨z0, y0⟩, ⟨z1, y1⟩, ⟨z2, y2⟩⟩ := Z0.kept GA (by simp)
  clear s1 s2 HF CP
  go_wp2_with fail
  exact bodyPost_ret (v := .tuple #[.agg #[.int .i64 row, .slice da dn dc, .slice va vn vc], .bool true]) (by simp [results, Tryz.results119, go_sem, z0, z1, z2]) rfl hR
end Go.Proofs.YteialkknddpbjaaGreatDoor
