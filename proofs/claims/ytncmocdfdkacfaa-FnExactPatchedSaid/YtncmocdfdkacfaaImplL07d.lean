/- What the program's functions of chapter 7 return: puts, the change on living disks, the parity behind a write. What the program's functions of chapter 7 return: the parity behind a write, the patch of a change. The patch of a write, by which of its two disks are dead. What the program's patchOf returns: the patch of a change. -/
import Derived.Test.YtncmocdfdkacfaaImplL07
import Derived.Test.YtncmocdfdkacfaaImplL06c
import Derived.Test.YtncmocdfdkacfaaSpecL07e
import Derived.Test.YtncmocdfdkacfaaImplL05
import Derived.Test.YtncmocdfdkacfaaLawL07
namespace Go.Proofs.Ytncmocdfdkacfaa
open Go.ChangeShapes Go.WideShapes Go.ChangeAt Go.RowKit
attribute [local go_sem] as_one_one as_two_one as_two_two as_nil_one as_nil_two

def putE : Elt (Int × Int) where
  T := 63
  S := 73
  size := 2
  bytes := 16
  z := .agg #[.int .i64 0, .int .i64 0]
  enc := fun p => [.int .i64 p.1, .int .i64 p.2]
  len := fun _ => rfl
  one := fun x u hu => by simp at hu; rcases hu with rfl | rfl <;> rfl
  pos := by omega
  und := Try.underlying73
  info := by kernel_rfl
  zs := rfl
def chP : List Int → List Int → List (Int × Int)
  | [d0], [v0] => [(d0, v0)]
  | [d0, d1], [v0, v1] => [(d0, v0), (d1, v1)]
  | _, _ => []
def GotPuts (l : List (Int × Int)) (w : World) (e : Ending) (w' : World) : Prop := ∃ v, e = .returned v ∧ Own putE w' w.heap.size v l ∧ w.grownBy w' none
theorem Own.put_at {w : World} {base n cap : Nat} {a : Option Addr} {l : List (Int × Int)} (h : Own putE w base (.slice a n cap) l) (i : Nat) (hi : i < l.length) :
    ∃ g, a = some ⟨g, 0, none⟩ ∧ g < w.heap.size ∧ At w g (i * 2) (.int .i64 l[i].1) ∧ At w g (i * 2 + 1) (.int .i64 l[i].2) := by
  obtain ⟨g, h1, h2, h3, h4⟩ := Own.at h i hi
  exact ⟨g, h1, h3, h4 0 _ rfl, h4 1 _ rfl⟩
set_option maxRecDepth 8000 in
set_option maxHeartbeats 1000000 in
theorem putsOf_any (ds vs : List Int) (w : World) :
    Calls Try.prog 52 #[chV ds vs] w (GotPuts (chP ds vs) w) := by
  unfold chV
  split
  · next d0 v0 =>
    have F := Own.fresh putE (base := w.heap.size) (w.alloc (.cells #[.int .i64 d0, .int .i64 v0] 78)) [(d0, v0)] #[.int .i64 d0, .int .i64 v0] rfl (by simp) (by simp)
    have G := galloc (galloc (grefl w) (.cells #[.int .i64 d0, .int .i64 v0] 78)) (.cells #[.int .i64 d0, .int .i64 v0] 63)
    rw [show (w.alloc (.cells #[.int .i64 d0, .int .i64 v0] 78)).heap.size = w.heap.size + 1 by simp] at F
    unfold oneV
    go_enter Try.func52, Try.ntmps52
    go_wp2_with fail
    go_ret
    exact ⟨_, rfl, F, G⟩
  · next d0 d1 v0 v1 =>
    have F := Own.fresh putE (base := w.heap.size) (w.alloc (.cells #[.int .i64 d0, .int .i64 v0, .int .i64 d1, .int .i64 v1] 81)) [(d0, v0), (d1, v1)] #[.int .i64 d0, .int .i64 v0, .int .i64 d1, .int .i64 v1] rfl (by simp) (by simp)
    have G := galloc (galloc (grefl w) (.cells #[.int .i64 d0, .int .i64 v0, .int .i64 d1, .int .i64 v1] 81)) (.cells #[.int .i64 d0, .int .i64 v0, .int .i64 d1, .int .i64 v1] 63)
    rw [show (w.alloc (.cells #[.int .i64 d0, .int .i64 v0, .int .i64 d1, .int .i64 v1] 81)).heap.size = w.heap.size + 1 by simp] at F
    unfold twoV
    go_enter Try.func52, Try.ntmps52
    go_wp2_with fail
    go_ret
    exact ⟨_, rfl, F, G⟩
  · next h1 h2 =>
    have HP : Hid (chP ds vs = []) := by
      show _ = _
      unfold chP
      split
      · exact absurd rfl (h1 _ _ rfl)
      · exact absurd rfl (h2 _ _ _ _ rfl)
      · rfl
    go_enter Try.func52, Try.ntmps52
    go_wp2_with fail
    go_ret
    exact ⟨_, rfl, by rw [HP.out]; exact Own.nil _ _ _, grefl _⟩
/-- the change of a write -/
def livV (fd fe : Bool) (d x e s : Int) : Value := if fd && fe then .nilIface else if fd then oneV e s else if fe then oneV d x else if e < d then twoV e s d x else twoV d x e s
set_option maxRecDepth 8000 in
set_option maxHeartbeats 2000000 in
theorem onLiving_any (v : Value) (l : List DZ) (d e : Nat) (x s : Int) (w : World) (h : LD w v l) (hd : d < l.length) (he : e < l.length) :
    Calls Try.prog 41 #[v, .agg #[.int .i64 d, .int .i64 x], .agg #[.int .i64 e, .int .i64 s]] w (Pure (livV l[d].dead l[e].dead d x e s) w) := by
  obtain ⟨a, cap, rfl, hm⟩ := h.form
  have G0 := galloc (galloc (grefl w) (.cells #[.int .i64 d, .int .i64 x] 63)) (.cells #[.int .i64 e, .int .i64 s] 63)
  have hdi : (d : Int) < l.length := by omega
  have hei : (e : Int) < l.length := by omega
  obtain ⟨g, o, ka, km, kc, na, nm, nc, rfl, x0, x1, x2, x3, -⟩ := h.at d hd
  obtain ⟨g', o', ka', km', kc', na', nm', nc', e', y0, y1, y2, y3, -⟩ := h.at e he
  cases e'
  generalize l[d].dead = fd at *
  generalize l[e].dead = fe at *
  have lg := cell_lt x1
  clear x0 x2 x3 y0 y2 y3
  replace x1 := gkc G0 x1
  replace y1 := gkc G0 y1
  cases fd <;> cases fe
  · by_cases hlt : (e : Int) < d
    · have HR : Hid (livV false false d x e s = twoV e s d x) := by show _ = _; simp [livV, hlt]
      go_enter Try.func41, Try.ntmps41
      go_wp2_with fail
      go_ret
      exact ⟨by rw [HR.out]; rfl, G0⟩
    · have HR : Hid (livV false false d x e s = twoV d x e s) := by show _ = _; simp [livV, hlt]
      go_enter Try.func41, Try.ntmps41
      go_wp2_with fail
      go_ret
      exact ⟨by rw [HR.out]; rfl, G0⟩
  all_goals (
    go_enter Try.func41, Try.ntmps41
    go_wp2_with fail
    go_ret
    exact ⟨rfl, G0⟩)
/-- the values whose parity a write makes -/
def valsK (l : List DZ) (d ex row x : Int) : Nat → List Int
  | 0 => [x]
  | k + 1 => if ((k : Int) == d || (k : Int) == ex) = true then valsK l d ex row x k else valsK l d ex row x k ++ [tellV l k row]
theorem valsK_ok (l : List DZ) (d ex row x : Int) (hx : okv x = true) (k : Nat) : (valsK l d ex row x k).all okv = true := by
  induction k with
  | zero => simp [valsK, hx]
  | succ k ih =>
    unfold valsK
    split
    · exact ih
    · have := tellV_b l k row
      rw [List.all_append, ih]
      simp [okv_iff, this]
theorem valsK_length (l : List DZ) (d ex row x : Int) (k : Nat) : (valsK l d ex row x k).length ≤ k + 1 := by
  induction k with
  | zero => simp [valsK]
  | succ k ih =>
    unfold valsK
    split
    · omega
    · simp; omega
theorem valsK_sum (l : List DZ) (d ex row x : Int) (hx : okv x = true) (k : Nat) : xorZ (valsK l d ex row x k) = sumK l d ex row x k := by
  rw [xorZ_yes (valsK_ok l d ex row x hx k)]
  have hx' := okv_iff.1 hx
  induction k with
  | zero => simp [valsK, sumK, foldX]; omega
  | succ k ih =>
    have hb := sumK_b l d ex row x hx' k
    have ht := tellV_b l k row
    unfold valsK sumK
    split
    · exact ih
    · rw [foldX_append, xor64 hb.1 hb.2 ht.1 ht.2, ← ih]
      simp [foldX]
end Go.Proofs.Ytncmocdfdkacfaa
namespace Go.Proofs.Ytncmocdfdkacfaa
open Go.ChangeShapes Go.WideShapes Go.ChangeAt Go.RowKit

theorem gkr0 {W w1 : World} {b o : Nat} {v : Value} {x : Option Nat} (hg : W.grownBy w1 x) (hx : x ≠ some b) (h : W.cell? ⟨b, o, none⟩ = some v) : w1.cell? ⟨b, o, none⟩ = some v :=
  (World.cell?_of_block (w := W) (hg.block b (cell_lt h) (fun e => hx e.symm))).trans h
/-- what parityAfter returns -/
def parV (l : List DZ) (d ex row x : Int) : Value := .tuple #[.int .i64 (if othersK l d ex row l.length then sumK l d ex row x l.length else -1), .bool (othersK l d ex row l.length)]
set_option maxRecDepth 8000 in
set_option maxHeartbeats 4000000 in
theorem parityAfter_any (v : Value) (l : List DZ) (row d x : Int) (w : World) (h : LD w v l) (hs : hasZ l row = true) (hx : okv x = true) :
    Calls Try.prog 40 #[v, .int .i64 row, .agg #[.int .i64 d, .int .i64 x]] w (Pure (parV l d (extraZ l.length row) row x) w) := by
  obtain ⟨a, cap, rfl, hm⟩ := h.form
  have hl5 : l.length ≤ 5 := by
    have := has_ok hs
    simp only [disksOkZ, Bool.and_eq_true, inB_iff] at this
    omega
  have hl0 : i64B (l.length : Int) := ⟨by omega, by omega⟩
  have e0 := galloc (grefl w) (.cells #[.int .i64 d, .int .i64 x] 63)
  have c0 : (w.alloc (.cells #[.int .i64 d, .int .i64 x] 63)).cell? ⟨w.heap.size, 0, none⟩ = some (.int .i64 d) := by simp [go_sem]
  have c1 : (w.alloc (.cells #[.int .i64 d, .int .i64 x] 63)).cell? ⟨w.heap.size, 1, none⟩ = some (.int .i64 x) := by simp [go_sem]
  have HX := Lib.hid hx
  have HS := Lib.hid hs
  clear hs hx
  go_enter Try.func40, Try.ntmps40
  go_upto_region 1 with (fail)
  generalize w.alloc (.cells #[.int .i64 d, .int .i64 x] 63) = W0 at *
  generalize hbb : w.heap.size = bb at c0 c1 ⊢
  have HW : Hid (w.heap.size ≤ bb) := Nat.le_of_eq hbb
  clear hbb
  go_wp2_with fail
  go_fit (implExtraOf_any _ row _ hl0)
  rintro e w1 ⟨rfl, g1⟩
  generalize extraZ l.length row = ex at *
  replace c0 := gkc g1 c0
  replace c1 := gkc g1 c1
  have G1 := gtrans e0 g1
  have lb := cell_lt c0
  have I0 := IS.single w1 x (Nat.le_refl w1.heap.size)
  have e1 := galloc (grefl w1) (.cells #[.int .i64 x] 2)
  clear e0 g1
  go_upto_region 3 with (fail)
  clear c1
  replace c0 := gkc e1 c0
  have G2 := gtrans G1 e1
  have hsz : w1.heap.size ≤ (w1.alloc (.cells #[.int .i64 x] 2)).heap.size := e1.size
  clear e1 G1
  generalize w1.alloc (.cells #[.int .i64 x] 2) = W2 at *
  generalize w1.heap.size = B at *
  have HE : Hid (ex = ex) := rfl
  go_wp2_with fail
  go_loopw [9, 22] (fun vals i wr => ∃ k : Nat, k ≤ l.length ∧ i = .int .i64 k ∧ IS wr B vals (valsK l d ex row x k) ∧ w.grownBy wr none ∧ wr.cell? ⟨bb, 0, none⟩ = some (.int .i64 d) ∧ B ≤ wr.heap.size ∧ Hid (othersK l d ex row k = true)) (fun _ i _ => l.length - (intOf i).toNat)
  case atStart => exact ⟨0, Nat.zero_le _, rfl, I0, G2, c0, hsz, rfl⟩
  case round =>
    clear I0 G2 c0 hsz HE
    obtain ⟨k, hk, rfl, C, G, c0, hsz, HO⟩ := hrel
    obtain ⟨va, vn, vc, rfl⟩ := Own.sl C
    by_cases hlt : k < l.length
    · have hki : (k : Int) < l.length := by omega
      have HN := Lib.hid (othersK_next l d ex row k)
      cases hd : ((k : Int) == d)
      rotate_left
      · have HS' : Hid (valsK l d ex row x (k + 1) = valsK l d ex row x k ∧ othersK l d ex row (k + 1) = true) := ⟨by simp [valsK, hd], by rw [HN.out, HO.out, hd]; rfl⟩
        go_wp2_with fail
        go_roundw
        case rel => exact ⟨k + 1, by omega, by go_num, by rw [HS'.out.1]; exact C, G, c0, hsz, HS'.out.2⟩
        case measure => simp [intOf]; omega
      cases he : ((k : Int) == ex)
      rotate_left
      · have HS' : Hid (valsK l d ex row x (k + 1) = valsK l d ex row x k ∧ othersK l d ex row (k + 1) = true) := ⟨by simp [valsK, he], by rw [HN.out, HO.out, he]; simp⟩
        go_wp2_with fail
        go_roundw
        case rel => exact ⟨k + 1, by omega, by go_num, by rw [HS'.out.1]; exact C, G, c0, hsz, HS'.out.2⟩
        case measure => simp [intOf]; omega
      have HT : Hid (cellAtOk l k row = tellOk l k row) := by show _ = _; simp [cellAtOk, HS.out, hlt]
      cases ht : tellOk l k row
      · have HF : Hid (othersK l d ex row l.length = false) := othersK_no hlt (by rw [hd, he, ht]; rfl)
        have HC : Hid (cellAtOk l k row = false) := HT.out.trans ht
        go_wp2_with fail
        go_fit (implCellAt_any _ l k row _ (h.kept G))
        rintro e w5 ⟨rfl, g5⟩
        rw [HC.out]
        go_wp2_with fail
        go_ret2
        exact ⟨by unfold parV; rw [HF.out]; rfl, gtrans G g5⟩
      · have HS' : Hid (valsK l d ex row x (k + 1) = valsK l d ex row x k ++ [tellV l k row] ∧ othersK l d ex row (k + 1) = true) := ⟨by simp [valsK, hd, he], by rw [HN.out, HO.out, ht]; simp⟩
        have HC : Hid (cellAtOk l k row = true) := HT.out.trans ht
        have HV : Hid (cellAtV l k row = tellV l k row) := by show _ = _; rw [cellAtV, HC.out]; rfl
        go_wp2_with fail
        go_fit (implCellAt_any _ l k row _ (h.kept G))
        rintro e w5 ⟨rfl, g5⟩
        rw [HC.out, HV.out]
        have hsz5 := Nat.le_trans hsz g5.size
        have C5 := Own.grew C g5
        have c5 := gkc g5 c0
        have hvl := valsK_length l d ex row x k
        go_wp2_with (first | (at_builtin; refine wpList_append_o (E := intE) (base := B) rfl (.tmp 43) (.tmp 45) rfl rfl rfl (Own.grew C5 (galloc (grefl _) _)) (IS.single _ (tellV l k row) (Nat.zero_le _)) (by simp; omega) (by decide) (by simp; omega) ?_; intro v1 wa ho1 hg1 ha1; have G6 : w.grownBy wa none := gsub (galloc (gtrans G g5) _) hg1 (fun q e => by have := (Own.lt C5 q e).1; have := HW.out; omega); have c6 := gkr0 hg1 (fun e => by have := (Own.lt C5 bb e).1; omega) (gkc (galloc (grefl w5) _) c5); have hs6 := hg1.size; obtain ⟨a1, n1, c1', rfl⟩ := ho1.sl))
        go_roundw
        case rel => exact ⟨k + 1, by omega, by go_num, by rw [HS'.out.1]; exact ho1, G6, c6, by simp at hs6; omega, HS'.out.2⟩
        case measure => simp [intOf]; omega
    · obtain rfl : k = l.length := by omega
      have HP : Hid (xorZ (valsK l d ex row x l.length) = sumK l d ex row x l.length) := valsK_sum l d ex row x HX.out _
      go_wp2_with fail
      go_fit (implXor_any _ (valsK l d ex row x l.length) _ (Own.rd C))
      rintro e w5 ⟨rfl, rfl⟩
      rw [HP.out]
      go_wp2_with fail
      go_ret2
      exact ⟨by unfold parV; rw [HO.out]; rfl, G⟩
end Go.Proofs.Ytncmocdfdkacfaa
namespace Go.Proofs.Ytncmocdfdkacfaa

def oneN (f : Nat → Bool) (n x : Nat) : List Nat := if x < n ∧ f x = false then [x] else []
theorem oneN_other {f : Nat → Bool} {n x : Nat} (h : x ≠ n) : oneN f (n + 1) x = oneN f n x := by
  unfold oneN
  have : (x < n + 1 ∧ f x = false) ↔ (x < n ∧ f x = false) := by constructor <;> rintro ⟨a, b⟩ <;> exact ⟨by omega, b⟩
  simp only [this]
theorem oneN_no {f : Nat → Bool} {n x : Nat} (h : n ≤ x) : oneN f n x = [] := by unfold oneN; rw [if_neg (by omega)]
theorem oneN_self (f : Nat → Bool) (n : Nat) : oneN f (n + 1) n = if f n = false then [n] else [] := by simp [oneN]
theorem pick_list (f : Nat → Bool) (d e : Nat) (hne : d ≠ e) (n : Nat) :
    (List.range n).filter (fun i => !f i && (i == d || i == e)) = if e < d then oneN f n e ++ oneN f n d else oneN f n d ++ oneN f n e := by
  induction n with
  | zero => simp [oneN]
  | succ n ih =>
    rw [List.range_succ, List.filter_append, ih]
    by_cases h1 : n = d
    · subst h1
      rw [oneN_other (x := e) (Ne.symm hne), oneN_self, oneN_no (Nat.le_refl n)]
      by_cases hlt : e < n
      · rw [if_pos hlt, if_pos hlt]
        cases hf : f n <;> simp [hf]
      · rw [if_neg hlt, if_neg hlt, oneN_no (x := e) (by omega)]
        cases hf : f n <;> simp [hf]
    · by_cases h2 : n = e
      · subst h2
        rw [oneN_other (x := d) (Ne.symm h1), oneN_self, oneN_no (Nat.le_refl n)]
        by_cases hlt : n < d
        · rw [if_pos hlt, if_pos hlt, oneN_no (x := d) (by omega)]
          cases hf : f n <;> simp [hf]
        · rw [if_neg hlt, if_neg hlt]
          cases hf : f n <;> simp [hf]
      · rw [oneN_other (x := d) (Ne.symm h1), oneN_other (x := e) (Ne.symm h2)]
        simp [h1, h2]
theorem pick_eq (l : List DZ) (d e : Nat) (n : Nat) : (List.range n).filter (pickI l (d : Int) (e : Int)) = (List.range n).filter (fun i => !(l.getD i .zero).dead && (i == d || i == e)) := by
  congr 1
  funext i
  unfold pickI
  have h1 : ((i : Int) == (d : Int)) = (i == d) := by rw [Bool.eq_iff_iff]; simp; omega
  have h2 : ((i : Int) == (e : Int)) = (i == e) := by rw [Bool.eq_iff_iff]; simp; omega
  rw [h1, h2]
section
variable {l : List DZ} {d e : Nat} (hd : d < l.length) (he : e < l.length) (hne : d ≠ e) (x s : Int)
include hd he hne
theorem for_lists : dsF l d e l.length = (if l[d].dead && l[e].dead then [] else if l[d].dead then [(e : Int)] else if l[e].dead then [(d : Int)] else if (e : Int) < d then [(e : Int), (d : Int)] else [(d : Int), (e : Int)]) ∧
    vsF l d e x s l.length = (if l[d].dead && l[e].dead then [] else if l[d].dead then [s] else if l[e].dead then [x] else if (e : Int) < d then [s, x] else [x, s]) := by
  have h0 := pick_list (fun i => (l.getD i .zero).dead) d e hne l.length
  unfold dsF vsF
  rw [pick_eq, h0]
  by_cases hlt : e < d
  · have hlt' : (e : Int) < d := by omega
    rw [if_pos hlt]
    cases fd : l[d].dead <;> cases fe : l[e].dead <;> simp [oneN, hd, he, fd, fe, hlt', List.getD_eq_getElem?_getD] <;> omega
  · have hlt' : ¬ (e : Int) < d := by omega
    rw [if_neg hlt]
    cases fd : l[d].dead <;> cases fe : l[e].dead <;> simp [oneN, hd, he, fd, fe, hlt', List.getD_eq_getElem?_getD] <;> omega
theorem for_change : chV (dsF l d e l.length) (vsF l d e x s l.length) = livV l[d].dead l[e].dead d x e s := by
  obtain ⟨h1, h2⟩ := for_lists hd he hne x s
  rw [h1, h2]
  unfold livV
  by_cases hlt : (e : Int) < d
  · rw [if_pos hlt, if_pos hlt, if_pos hlt]
    cases fd : l[d].dead <;> cases fe : l[e].dead <;> simp [chV]
  · rw [if_neg hlt, if_neg hlt, if_neg hlt]
    cases fd : l[d].dead <;> cases fe : l[e].dead <;> simp [chV]
theorem for_puts : (chP (dsF l d e l.length) (vsF l d e x s l.length)).map (·.1) = dsF l d e l.length ∧ (chP (dsF l d e l.length) (vsF l d e x s l.length)).map (·.2) = vsF l d e x s l.length := by
  obtain ⟨h1, h2⟩ := for_lists hd he hne x s
  rw [h1, h2]
  by_cases hlt : (e : Int) < d
  · rw [if_pos hlt, if_pos hlt]
    cases fd : l[d].dead <;> cases fe : l[e].dead <;> simp [chP]
  · rw [if_neg hlt, if_neg hlt]
    cases fd : l[d].dead <;> cases fe : l[e].dead <;> simp [chP]
theorem for_some : decide (0 < (dsF l d e l.length).length) = !(l[d].dead && l[e].dead) := by
  obtain ⟨h1, -⟩ := for_lists hd he hne 0 0
  rw [h1]
  by_cases hlt : (e : Int) < d
  · rw [if_pos hlt]
    cases fd : l[d].dead <;> cases fe : l[e].dead <;> simp
  · rw [if_neg hlt]
    cases fd : l[d].dead <;> cases fe : l[e].dead <;> simp
end
end Go.Proofs.Ytncmocdfdkacfaa
namespace Go.Proofs.Ytncmocdfdkacfaa
open Go.ChangeShapes Go.WideShapes Go.ChangeAt Go.RowKit

theorem take_map_next {α β : Type} (L : List α) (f : α → β) (k : Nat) (h : k < L.length) : (L.take (k + 1)).map f = (L.take k).map f ++ [f L[k]] := by
  rw [List.take_succ_eq_append_getElem h, List.map_append]; rfl
theorem chP_len (ds vs : List Int) : (chP ds vs).length ≤ 2 := by unfold chP; split <;> simp
set_option maxRecDepth 8000 in
set_option maxHeartbeats 4000000 in
theorem patchOf_any (row : Int) (ds vs : List Int) (w : World) :
    Calls Try.prog 43 #[.int .i64 row, chV ds vs] w (GotPt ⟨row, (chP ds vs).map (·.1), (chP ds vs).map (·.2)⟩ w) := by
  have hL2 := chP_len ds vs
  have Z0 := Zero3.new w
  have e1 := galloc (grefl (w.alloc (.cells #[.int .i64 0, .slice none 0 0, .slice none 0 0] 27))) (.cells #[.int .i64 row, .slice none 0 0, .slice none 0 0] 27)
  have G1 := gtrans (galloc (grefl w) (.cells #[.int .i64 0, .slice none 0 0, .slice none 0 0] 27)) e1
  have Z1 := Z0.kept e1 (by simp)
  have C0 : At ((w.alloc (.cells #[.int .i64 0, .slice none 0 0, .slice none 0 0] 27)).alloc (.cells #[.int .i64 row, .slice none 0 0, .slice none 0 0] 27)) (w.heap.size + 1) 0 (.int .i64 row) := by simp [At, go_sem]
  have C1 : At ((w.alloc (.cells #[.int .i64 0, .slice none 0 0, .slice none 0 0] 27)).alloc (.cells #[.int .i64 row, .slice none 0 0, .slice none 0 0] 27)) (w.heap.size + 1) 1 (.slice none 0 0) := by simp [At, go_sem]
  have C2 : At ((w.alloc (.cells #[.int .i64 0, .slice none 0 0, .slice none 0 0] 27)).alloc (.cells #[.int .i64 row, .slice none 0 0, .slice none 0 0] 27)) (w.heap.size + 1) 2 (.slice none 0 0) := by simp [At, go_sem]
  have C : chV ds vs = .nilIface ∨ ∃ t u, chV ds vs = .iface t u := by unfold chV; split; exact .inr ⟨_, _, rfl⟩; exact .inr ⟨_, _, rfl⟩; exact .inl rfl
  have CP := putsOf_any ds vs
  generalize chP ds vs = L at *
  generalize chV ds vs = cv at *
  clear Z0 e1
  go_enter Try.func43, Try.ntmps43
  go_upto_region 2 with (fail)
  generalize (w.alloc (.cells #[.int .i64 0, .slice none 0 0, .slice none 0 0] 27)).alloc (.cells #[.int .i64 row, .slice none 0 0, .slice none 0 0] 27) = W1 at *
  have hpb : w.heap.size + 1 < W1.heap.size := cell_lt C0.1
  generalize hpp : w.heap.size + 1 = pb at *
  go_wp2_with fail
  go_fit (CP _)
  rintro e W ⟨pv, rfl, P, g2⟩
  obtain ⟨pa, pc, rfl, -⟩ := Own.form P
  have Z2 := Z1.kept g2 (by simp)
  have G2 := gtrans G1 g2
  have P0 : PBox W pb W.heap.size ⟨row, (L.take 0).map (·.1), (L.take 0).map (·.2)⟩ (.slice none 0 0) (.slice none 0 0) := ⟨gk g2 C0, gk g2 C1, gk g2 C2, Own.nil _ _ _, Own.nil _ _ _, .inl rfl, by simp [Value.ownBlock], by simp [Value.ownBlock]⟩
  have hpW : pb < W.heap.size := P0.lt
  have hne : w.heap.size ≠ pb := by omega
  have HPb : Hid (w.heap.size ≤ pb) := by show _ ≤ _; omega
  have HPu : Hid ((Value.slice pa L.length pc).ownBlock ≠ some pb) := fun e => by have := (Own.lt P _ e).1; omega
  clear Z1 C0 C1 C2 G1 g2 CP C hpp hpb
  generalize hBW : W.heap.size = B at *
  have HB : Hid (W.heap.size = B) := hBW
  clear hBW
  go_wp2_with fail
  go_loopw [13] (fun i wx => ∃ (k : Nat) (dv vv : Value), k ≤ L.length ∧ i = .int .i64 k ∧ PBox wx pb B ⟨row, (L.take k).map (·.1), (L.take k).map (·.2)⟩ dv vv ∧ W.grownBy wx (some pb)) (fun i _ => L.length - (intOf i).toNat)
  case atStart => exact ⟨0, _, _, Nat.zero_le _, rfl, P0, World.grownBy.refl _ _⟩
  case round =>
    clear P0
    obtain ⟨k, dv, vv, hk, rfl, PB, GX⟩ := hrel
    obtain ⟨da, dn, dc, rfl⟩ := PB.ds.sl
    obtain ⟨va, vn, vc, rfl⟩ := PB.vs.sl
    have hwx : B ≤ wr.heap.size := by have := GX.size; rw [HB.out] at this; exact this
    by_cases hlt : k < L.length
    · have hki : (k : Int) < L.length := by omega
      have HD : Hid ((L.take (k + 1)).map (·.1) = (L.take k).map (·.1) ++ [L[k].1] ∧ (L.take (k + 1)).map (·.2) = (L.take k).map (·.2) ++ [L[k].2]) := ⟨take_map_next L _ k hlt, take_map_next L _ k hlt⟩
      obtain ⟨g, rfl, lg, ⟨x0, -⟩, ⟨x1, -⟩⟩ := Own.put_at (Own.kept P GX (.inr HPu.out)) k hlt
      generalize L[k].1 = d at *
      generalize L[k].2 = x at *
      have e2 := galloc (grefl wr) (.cells #[.int .i64 d, .int .i64 x] 63)
      have q0 : (wr.alloc (.cells #[.int .i64 d, .int .i64 x] 63)).cell? ⟨wr.heap.size, 0, none⟩ = some (.int .i64 d) := by simp [go_sem]
      have q1 : (wr.alloc (.cells #[.int .i64 d, .int .i64 x] 63)).cell? ⟨wr.heap.size, 1, none⟩ = some (.int .i64 x) := by simp [go_sem]
      have hd1 : ∀ j, (Value.slice da dn dc).ownBlock = some j → B ≤ j ∧ j < wr.heap.size := PB.ds.lt
      have hd2 : ∀ j, (Value.slice va vn vc).ownBlock = some j → B ≤ j ∧ j < wr.heap.size := PB.vs.lt
      have hlen : ((L.take k).map (·.1)).length ≤ 2 ∧ ((L.take k).map (·.2)).length ≤ 2 := by simp; omega
      go_upto_region 5 with (fail)
      replace PB := PB.kept e2
      replace GX := gsubc GX e2 (fun q e => by cases e)
      have hq : B ≤ wr.heap.size := hwx
      have hqW : wr.heap.size < (wr.alloc (.cells #[.int .i64 d, .int .i64 x] 63)).heap.size := by simp
      clear x0 x1 e2 hwx
      generalize wr.alloc (.cells #[.int .i64 d, .int .i64 x] 63) = Wq at *
      generalize wr.heap.size = qb at *
      generalize (L.take k).map (·.1) = M1 at *
      generalize (L.take k).map (·.2) = M2 at *
      have hpl := PB.lt
      obtain ⟨p0, pf0⟩ := PB.c0
      obtain ⟨p1, pf1⟩ := PB.c1
      obtain ⟨p2, pf2⟩ := PB.c2
      go_upto_region 6 with (first | (at_builtin; refine wpList_append_o (E := intE) (base := B) rfl (.tmp 18) (.tmp 21) rfl rfl rfl (PB.ds.grew (galloc (grefl _) _)) (IS.single _ d (Nat.zero_le _)) (by simp only [List.length_cons, List.length_nil]; omega) (by decide) (by simp; omega) ?_; intro v1 wa ho1 hg1 ha1; obtain ⟨q1', r1⟩ := gkr hg1 PB.db (gk (galloc (grefl Wq) _) PB.c1); have P1 := PBox.app1 (PB.kept (galloc (grefl Wq) _)) hg1 ho1 ha1; have GX1 : W.grownBy (wa.setCell ⟨pb, 1, none⟩ v1) (some pb) := gset (gsubc (galloc GX _) hg1 (fun q e => by have := (hd1 q e).1; rw [HB.out]; omega)) _ _; have q1a := gkr0 hg1 (fun e => by have := (hd1 qb e).2; omega) (gkc (galloc (grefl Wq) _) q1); have q1b : (wa.setCell ⟨pb, 1, none⟩ v1).cell? ⟨qb, 1, none⟩ = some (.int .i64 x) := (World.cell?_setCell_other wa _ _ v1 (fun e => by cases e; omega)).trans q1a; obtain ⟨a1, n1, c1', rfl⟩ := ho1.sl))
      dsimp only at P1
      generalize wa.setCell ⟨pb, 1, none⟩ (.slice a1 n1 c1') = Wb at *
      have hl1 := P1.lt
      have hw1 : B ≤ Wb.heap.size := by have := GX1.size; rw [HB.out] at this; exact this
      obtain ⟨t2, u2⟩ := P1.c2
      clear PB GX p0 p1 p2 pf0 pf1 pf2 hg1 ho1 ha1 q1' r1 q0 q1 q1a
      go_wp2_with (first | (at_builtin; refine wpList_append_o (E := intE) (base := B) rfl (.tmp 25) (.tmp 28) rfl rfl rfl (P1.vs.grew (galloc (grefl _) _)) (IS.single _ x (Nat.zero_le _)) (by simp only [List.length_cons, List.length_nil]; omega) (by decide) (by simp; omega) ?_; intro v2 wb ho2 hg2 ha2; obtain ⟨q2, r2⟩ := gkr hg2 P1.vb (gk (galloc (grefl _) _) P1.c2); have P2 := PBox.app2 (P1.kept (galloc (grefl _) _)) hg2 ho2 ha2; have GX2 : W.grownBy (wb.setCell ⟨pb, 2, none⟩ v2) (some pb) := gset (gsubc (galloc GX1 _) hg2 (fun q e => by have := (hd2 q e).1; rw [HB.out]; omega)) _ _; obtain ⟨a2, n2, c2', rfl⟩ := ho2.sl))
      dsimp only at P2
      rw [← HD.out.1, ← HD.out.2] at P2
      go_roundw
      case rel => exact ⟨k + 1, _, _, by omega, by go_num, P2, GX2⟩
      case measure => simp [intOf]; omega
    · obtain rfl : k = L.length := by omega
      have HT : Hid (L.take L.length = L) := List.take_length
      rw [HT.out] at PB
      have GW : w.grownBy wr none := gsub G2 GX (fun q e => by cases e; exact HPb.out)
      obtain ⟨⟨z0, y0⟩, ⟨z1, y1⟩, ⟨z2, y2⟩⟩ := Z2.kept GX (by simp; omega)
      have lB : w.heap.size < B := by have := HPb.out; omega
      have hR := PB.res GW (r := w.heap.size) (by omega) (by omega) (i_not_own PB.ds lB) (i_not_own PB.vs lB) (.int .i64 row) (.slice da dn dc) (.slice va vn vc)
      obtain ⟨c0, f0⟩ := PB.c0
      obtain ⟨c1, f1⟩ := PB.c1
      obtain ⟨c2, f2⟩ := PB.c2
      dsimp only at c0
      clear PB GX
      go_wp2_with fail
      exact bodyPost_ret (v := .agg #[.int .i64 row, .slice da dn dc, .slice va vn vc]) (by simp [results, Try.results43, go_sem, z0, z1, z2]) rfl ⟨_, _, rfl, hR⟩
end Go.Proofs.Ytncmocdfdkacfaa
