/- The program's iterators of chapter 6: the cells of a row, the sizes of the disks that are alive. What the program's functions of chapter 6 return: numbers in order, rows. What the program's functions of chapter 6 return: lost cells, recomputed values. What the program's copiedDisks returns. -/
import Derived.RangeFuncNested
import Derived.RangeFuncBound
import Derived.RangeFuncCalls
import Derived.RangeFuncLeaves
import Derived.RangeFuncBox
import Derived.Shelf.Abstract
import Derived.Shelf.RegionOpen
import Derived.WalkKit
import Derived.OwnWalkIn
import Derived.TacticsInMore
import Derived.LoopNIn
import Derived.LoopIn
import Derived.Maps.AppendAt
import Derived.Laws.EntriesVeiled
import Derived.Deep.DeepFit
import Derived.Deep.DeepCutAuto
import Derived.Deep.RegionLaw
import Derived.Test.YteialkknddpbjaaGreatDoorPH09
import Derived.Test.YteialkknddpbjaaGreatDoorPH11
import Derived.Test.YteialkknddpbjaaGreatDoorPH13
namespace Go.Proofs.YteialkknddpbjaaGreatDoor
open Go.ChangeShapes Go.WideShapes Go.ChangeAt Go.RowKit Go.Shelf
attribute [local go_sem] Oper.semAt_some

theorem gbelow0 {w w' : World} (h : Below w.heap.size w w') : w.grownBy w' none := ⟨h.os, h.tape, h.output, h.size, fun k hk _ => h.block k hk⟩
theorem below0 {w w' : World} (h : w.grownBy w' none) : Below w.heap.size w w' := ⟨h.os, h.tape, h.output, h.size, fun k hk => h.block k hk (by simp)⟩
theorem belowN {n : Nat} {w w' : World} (h : w.grownBy w' none) (hn : n ≤ w.heap.size) : Below n w w' := (below0 h).mono hn
/-- what a reading is: the disk's number, the value, whether it can be read -/
abbrev RX := Int × Int × Bool
abbrev encR (x : RX) : Array Value := #[.int .i64 x.1, .agg #[.int .i64 x.2.1, .bool x.2.2]]
def readR (l : List DZ) (r : Int) : List RX := l.map fun d => (d.n, d.readV r, d.canRead r)
theorem readR_next {l : List DZ} {k : Nat} (h : k < l.length) (r : Int) : readR (l.take (k + 1)) r = readR (l.take k) r ++ [(l[k].n, l[k].readV r, l[k].canRead r)] := by
  unfold readR; rw [List.take_succ_eq_append_getElem h, List.map_append]; rfl
abbrev vptr (b : Nat) : Value := .pointer (some ⟨b, 0, none⟩)
/-- what a round keeps: all that lay below n, and block c -/
def KpR (n c : Nat) (W W' : World) : Prop := Below n W W' ∧ W'.heap[c]? = W.heap[c]?
theorem KpR.refl (n c : Nat) (W : World) : KpR n c W W := ⟨Below.refl _ _, rfl⟩
theorem KpR.trans {n c : Nat} {A B C : World} (h : KpR n c A B) (k : KpR n c B C) : KpR n c A C := ⟨h.1.trans k.1, k.2.trans h.2⟩
theorem KpR.put {n c : Nat} {w : World} (hn : n ≤ w.heap.size) (hc : c < w.heap.size) (W : World) (l : Nat) (o o' : Obj) (hl : w.heap.size ≤ l) (h : W.heap[l]? = some o) (h1 : o.isCells = false) (h2 : o.isWalk = false) : KpR n c W (W.putObj l o') :=
  ⟨belowK_b hn W l o o' hl h h1 h2, World.putObj_heap_other (by omega)⟩
set_option maxRecDepth 100000 in
set_option maxHeartbeats 2000000 in
theorem readings1_in (n l b c : Nat) (v : Value) (ds : List DZ) (r : Int) (wf W : World) (J Jx : List RX → World → Prop) (hn : 1 ≤ n)
    (hJ : AbidesFrom W.heap.size J)
    (hY : ∀ pre x W1, J pre W1 → pre.length < ds.length → YieldAt Fence.wide (n - 1) Tryz.prog l (encR x) W1 fun e W' =>
      (e = .returned (.bool true) ∧ J (pre ++ [x]) W' ∧ KpR wf.heap.size c W1 W') ∨ (e = .returned (.bool false) ∧ Jx (pre ++ [x]) W'))
    (hB : Below wf.heap.size wf W) (hL : LD wf v ds) (hb : W.cell? ⟨b, 0, none⟩ = some v) (hc : W.cell? ⟨c, 0, none⟩ = some (.int .i64 r)) (h0 : J [] W) :
    CallsIn Fence.wide n Tryz.prog 242 #[.func (.yield l) #[] #[], vptr b, vptr c] W fun e W' => (∃ v, e = .returned v) ∧
      ((∃ ys, ys = readR ds r ∧ J ys W') ∨ (∃ pre, True ∧ Jx pre W')) := by
  obtain ⟨a, cap, rfl, hm⟩ := hL.form
  refine callsIn_of_wp Tryz.func242 rfl trivial ?_ rfl
  simp only [Tryz.ntmps242, List.size_toArray, List.length_cons, List.length_nil, Nat.reduceAdd, Nat.reduceSub, Array.replicate_succ, Array.replicate_zero, List.push_toArray, List.append_toArray, List.nil_append, List.cons_append]
  gi_wp2
  gi_loopw [10] (fun i wr => ∃ k : Nat, k ≤ ds.length ∧ i = .int .i64 k ∧ J (readR (ds.take k) r) wr ∧ Below wf.heap.size wf wr ∧ wr.cell? ⟨c, 0, none⟩ = some (.int .i64 r)) (fun i _ => ds.length - (intOf i).toNat)
  case atStart => exact ⟨0, Nat.zero_le _, rfl, h0, hB, hc⟩
  case round =>
    obtain ⟨k, hk, rfl, hj, B, hcc⟩ := hrel
    by_cases hlt : k < ds.length
    · have hki : (k : Int) < ds.length := by omega
      obtain ⟨g, o, ka, km, kc, na, nm, nc, rfl, x0, x1, x2, x3, D⟩ := (hL.kept (gbelow0 B)).at k hlt
      have B0 := Box4.new wr (.int .i64 ds[k].n) (.bool ds[k].dead) (.slice ka km kc) (.slice na nm nc) 37
      have G0 := galloc (grefl wr) (.cells #[.int .i64 ds[k].n, .bool ds[k].dead, .slice ka km kc, .slice na nm nc] 37)
      have hcc0 := gkc G0 hcc
      gi_wp2_with fail
      refine ⟨trivial, CallsIn.mono (callsIn_wide.2 (implRead_any _ _ ds[k] r _ (D.grew G0))) ?_⟩
      rintro e w2 ⟨rfl, g2⟩
      obtain ⟨b0, b1, b2, b3⟩ := B0.kept g2
      have hc2 := gkc g2 hcc0
      have j2 := hJ _ _ _ none hj (gtrans G0 g2) (fun _ e => by cases e)
      have HN := Lib.hid (readR_next hlt r)
      obtain ⟨fn, tmps, assign, body, hy, hR⟩ := hY _ (ds[k].n, ds[k].readV r, ds[k].canRead r) w2 j2 (by simp [readR]; omega)
      have BB := B.trans (belowN (gtrans G0 g2) B.size)
      clear x0 x1 x2 x3 D B0 G0 hcc0 hcc hj hY hb
      dsimp only [encR] at hy
      gi_wp2_with fail
      refine hR.mono ?_
      rintro e w3 (⟨rfl, j3, k3⟩ | ⟨rfl, j3⟩)
      · have hc3 := (World.cell?_of_block (a := ⟨c, 0, none⟩) k3.2).trans hc2
        gi_wp2_with fail
        go_roundw
        case rel => exact ⟨k + 1, by omega, by go_num, by rw [HN.out]; exact j3, BB.trans k3.1, hc3⟩
        case measure => simp [intOf]; omega
      · gi_wp2_with fail
        refine bodyPost_ret (results_none rfl _ _ _) rfl ?_
        exact ⟨⟨_, rfl⟩, .inr ⟨_, trivial, j3⟩⟩
    · obtain rfl : k = ds.length := by omega
      gi_wp2
      go_end0
      exact ⟨⟨_, rfl⟩, .inl ⟨_, by rw [List.take_length], hj⟩⟩
theorem readingsIn_any (a : Option Addr) (len cap : Nat) (r : Int) (w : World) :
    Calls Tryz.prog 184 #[.slice a len cap, .int .i64 r] w fun e w' => ∃ b c, e = .returned (.func (.func 242) #[] #[vptr b, vptr c]) ∧ w'.cell? ⟨b, 0, none⟩ = some (.slice a len cap) ∧ w'.cell? ⟨c, 0, none⟩ = some (.int .i64 r) ∧ w.grownBy w' none ∧ w.heap.size ≤ b ∧ w.heap.size ≤ c := by
  go_enter Tryz.func184, Tryz.ntmps184
  go_wp2_with fail
  go_ret
  exact ⟨w.heap.size, w.heap.size + 1, rfl, by simp [go_sem], by simp [go_sem], galloc (galloc (grefl _) _) _, Nat.le_refl _, by omega⟩
theorem livePlaces_any (a : Option Addr) (len cap : Nat) (w : World) :
    Calls Tryz.prog 144 #[.slice a len cap] w fun e w' => ∃ b, e = .returned (.func (.func 225) #[] #[vptr b]) ∧ w'.cell? ⟨b, 0, none⟩ = some (.slice a len cap) ∧ w.grownBy w' none ∧ w.heap.size ≤ b := by
  go_enter Tryz.func144, Tryz.ntmps144
  go_wp2_with fail
  go_ret
  exact ⟨w.heap.size, rfl, by simp [go_sem], galloc (grefl _) _, Nat.le_refl _⟩
theorem readings_stops (n b c : Nat) (v : Value) (ds : List DZ) (r : Int) (wf w : World) (hn : 1 ≤ n) (hB : Below wf.heap.size wf w) (hL : LD wf v ds) (hb : w.cell? ⟨b, 0, none⟩ = some v) (hc : w.cell? ⟨c, 0, none⟩ = some (.int .i64 r)) :
    SeqStopsK Fence.wide n Tryz.prog 242 #[vptr b, vptr c] encR (KpR wf.heap.size c) (fun ys => ys = readR ds r) (fun _ => True) ds.length w := fun l J Jx W hW hJ _ hY h0 =>
  readings1_in n l b c v ds r wf W J Jx hn hJ hY (hB.trans (hW.mono hB.size)) hL ((hW.cell (p := ⟨b, 0, none⟩) (World.block_lt_of_cell? w _ hb)).trans hb) ((hW.cell (p := ⟨c, 0, none⟩) (World.block_lt_of_cell? w _ hc)).trans hc) h0
/-- the sizes of the disks that are alive -/
def liveR (l : List DZ) : List Nat := (l.filter fun d => !d.dead).map fun d => d.m.length
theorem liveR_next {l : List DZ} {k : Nat} (h : k < l.length) : liveR (l.take (k + 1)) = if l[k].dead then liveR (l.take k) else liveR (l.take k) ++ [l[k].m.length] := by
  unfold liveR; rw [List.take_succ_eq_append_getElem h, List.filter_append]
  cases hd : l[k].dead <;> simp [hd]
theorem liveR_length (l : List DZ) : (liveR l).length ≤ l.length := by unfold liveR; rw [List.length_map]; exact List.length_filter_le _ _
abbrev encP (x : Nat) : Array Value := #[.int .i64 (x : Int)]
set_option maxRecDepth 100000 in
set_option maxHeartbeats 2000000 in
theorem live1_in (n l b : Nat) (v : Value) (ds : List DZ) (wf W : World) (J Jx : List Nat → World → Prop) (hn : 1 ≤ n)
    (hJ : AbidesFrom W.heap.size J)
    (hY : ∀ pre x W1, J pre W1 → pre.length < ds.length → YieldAt Fence.wide (n - 1) Tryz.prog l (encP x) W1 fun e W' =>
      (e = .returned (.bool true) ∧ J (pre ++ [x]) W' ∧ Below wf.heap.size W1 W') ∨ (e = .returned (.bool false) ∧ Jx (pre ++ [x]) W'))
    (hB : Below wf.heap.size wf W) (hL : LD wf v ds) (hb : W.cell? ⟨b, 0, none⟩ = some v) (h0 : J [] W) :
    CallsIn Fence.wide n Tryz.prog 225 #[.func (.yield l) #[] #[], vptr b] W fun e W' => (∃ v, e = .returned v) ∧
      ((∃ ys, ys = liveR ds ∧ J ys W') ∨ (∃ pre, (∃ k, k ≤ ds.length ∧ pre = liveR (ds.take k)) ∧ Jx pre W')) := by
  obtain ⟨a, cap, rfl, hm⟩ := hL.form
  refine callsIn_of_wp Tryz.func225 rfl trivial ?_ rfl
  simp only [Tryz.ntmps225, List.size_toArray, List.length_cons, List.length_nil, Nat.reduceAdd, Nat.reduceSub, Array.replicate_succ, Array.replicate_zero, List.push_toArray, List.append_toArray, List.nil_append, List.cons_append]
  gi_wp2
  gi_loopw [7] (fun i wr => ∃ k : Nat, k ≤ ds.length ∧ i = .int .i64 k ∧ J (liveR (ds.take k)) wr ∧ Below wf.heap.size wf wr) (fun i _ => ds.length - (intOf i).toNat)
  case atStart => exact ⟨0, Nat.zero_le _, rfl, h0, hB⟩
  case round =>
    obtain ⟨k, hk, rfl, hj, B⟩ := hrel
    by_cases hlt : k < ds.length
    · have hki : (k : Int) < ds.length := by omega
      obtain ⟨g, o, ka, km, kc, na, nm, nc, rfl, x0, x1, x2, x3, D⟩ := (hL.kept (gbelow0 B)).at k hlt
      have G0 := galloc (grefl wr) (.cells #[.int .i64 ds[k].n, .bool ds[k].dead, .slice ka km kc, .slice na nm nc] 37)
      obtain ⟨b0, b1, b2, b3⟩ := Box4.new wr (.int .i64 ds[k].n) (.bool ds[k].dead) (.slice ka km kc) (.slice na nm nc) 37
      have j2 := hJ _ _ _ none hj G0 (fun _ e => by cases e)
      have BB := B.trans (belowN G0 B.size)
      have HN := Lib.hid (liveR_next hlt)
      have hlen : (liveR (ds.take k)).length < ds.length := Nat.lt_of_le_of_lt (liveR_length _) (by simp; omega)
      have HNM : Hid (nm = ds[k].m.length) := D.2.bound.1
      have hnm : nm ≤ 9223372036854775807 := by have := D.2.bound; omega
      cases hd : ds[k].dead
      · rw [hd] at x1 b1 j2 BB HN
        obtain ⟨fn, tmps, assign, body, hy, hR⟩ := hY _ nm _ j2 hlen
        clear D hj hY hb G0
        dsimp only [encP] at hy
        gi_wp2_with fail
        refine hR.mono ?_
        rintro e w3 (⟨rfl, j3, k3⟩ | ⟨rfl, j3⟩)
        · gi_wp2_with fail
          go_roundw
          case rel => exact ⟨k + 1, by omega, by go_num, by rw [HN.out, ← HNM.out]; exact j3, BB.trans k3⟩
          case measure => simp [intOf]; omega
        · gi_wp2_with fail
          refine bodyPost_ret (results_none rfl _ _ _) rfl ?_
          exact ⟨⟨_, rfl⟩, .inr ⟨_, ⟨k + 1, by omega, by rw [HN.out, ← HNM.out]; rfl⟩, j3⟩⟩
      · rw [hd] at x1 b1 j2 BB HN
        clear D hj hY hb G0
        gi_wp2_with fail
        refine ⟨fun _ h => (by cases h), ?_⟩
        gi_wp2_with fail
        go_roundw
        case rel => exact ⟨k + 1, by omega, by go_num, by rw [HN.out]; exact j2, BB⟩
        case measure => simp [intOf]; omega
    · obtain rfl : k = ds.length := by omega
      gi_wp2
      go_end0
      exact ⟨⟨_, rfl⟩, .inl ⟨_, by rw [List.take_length], hj⟩⟩
theorem live_stops (n b : Nat) (v : Value) (ds : List DZ) (wf w : World) (hn : 1 ≤ n) (hB : Below wf.heap.size wf w) (hL : LD wf v ds) (hb : w.cell? ⟨b, 0, none⟩ = some v) :
    SeqStopsK Fence.wide n Tryz.prog 225 #[vptr b] encP (Below wf.heap.size) (fun ys => ys = liveR ds) (fun pre => ∃ k, k ≤ ds.length ∧ pre = liveR (ds.take k)) ds.length w := fun l J Jx W hW hJ _ hY h0 =>
  live1_in n l b v ds wf W J Jx hn hJ hY (hB.trans (hW.mono hB.size)) hL ((hW.cell (p := ⟨b, 0, none⟩) (World.block_lt_of_cell? w _ hb)).trans hb) h0
end Go.Proofs.YteialkknddpbjaaGreatDoor
namespace Go.Proofs.YteialkknddpbjaaGreatDoor
open Go.ChangeShapes Go.WideShapes Go.ChangeAt Go.RowKit Go.Shelf
attribute [local go_sem] Oper.semAt_some

def numbK (l : List DZ) (k : Nat) : Bool := (List.range k).all fun i => (l.getD i .zero).ok && (l.getD i .zero).n == (i : Int)
def numbZ (l : List DZ) : Bool := numbK l l.length
theorem numbK_next {l : List DZ} {k : Nat} (h : k < l.length) : numbK l (k + 1) = (numbK l k && (l[k].ok && l[k].n == (k : Int))) := by
  unfold numbK
  rw [List.range_succ, List.all_append]
  simp [List.getD_eq_getElem?_getD, h]
theorem numbZ_no {l : List DZ} {k : Nat} (h : k < l.length) (hk : (l[k].ok && l[k].n == (k : Int)) = false) : numbZ l = false := by
  unfold numbZ numbK
  rw [List.all_eq_false]
  exact ⟨k, by simpa using h, by rw [getD_at h]; simpa using hk⟩
theorem numbZ_at {l : List DZ} (h : numbZ l = true) (i : Nat) (hi : i < l.length) : l[i].ok = true ∧ l[i].n = (i : Int) := by
  unfold numbZ numbK at h
  rw [List.all_eq_true] at h
  have := h i (by simpa using hi)
  rw [getD_at hi] at this
  simpa using this
set_option maxHeartbeats 1000000 in
theorem numberedInOrder_any (v : Value) (l : List DZ) (w : World) (h : LD w v l) :
    Calls Tryz.prog 143 #[v] w (Pure (.bool (numbZ l)) w) := by
  obtain ⟨a, cap, rfl, hm⟩ := h.form
  go_enter Tryz.func143, Tryz.ntmps143
  go_wp2_with fail
  go_loopw [7] (fun i wr => ∃ k : Nat, k ≤ l.length ∧ i = .int .i64 k ∧ Hid (numbK l k = true) ∧ w.grownBy wr none) (fun i _ => l.length - (intOf i).toNat)
  case atStart => exact ⟨0, Nat.zero_le _, rfl, rfl, grefl _⟩
  case round =>
    obtain ⟨k, hk, rfl, HS, G⟩ := hrel
    by_cases hlt : k < l.length
    · obtain ⟨g, o, ka, km, kc, na, nm, nc, rfl, x0, x1, x2, x3, D⟩ := (h.kept G).at k hlt
      have hki : (k : Int) < l.length := by omega
      have B0 := Box4.new wr (.int .i64 l[k].n) (.bool l[k].dead) (.slice ka km kc) (.slice na nm nc) 37
      have G0 := galloc (grefl wr) (.cells #[.int .i64 l[k].n, .bool l[k].dead, .slice ka km kc, .slice na nm nc] 37)
      go_upto_region 4 with (fail)
      generalize wr.alloc (.cells #[.int .i64 l[k].n, .bool l[k].dead, .slice ka km kc, .slice na nm nc] 37) = W at *
      generalize wr.heap.size = bb at *
      have G1 := gtrans G G0
      clear x0 x1 x2 x3
      cases hok : l[k].ok
      · have HN := Lib.hid (numbZ_no hlt (by simp [hok]))
        go_wp2_with fail
        go_fit (implDiskOk_any _ _ l[k] _ (D.grew G0))
        rintro e w2 ⟨rfl, g2⟩
        obtain ⟨b0, b1, b2, b3⟩ := B0.kept g2
        clear B0
        go_wp2_with fail
        go_ret
        exact ⟨ret_bool HN.out.symm, gtrans G1 g2⟩
      by_cases hn : l[k].n = (k : Int)
      rotate_left
      · have HN := Lib.hid (numbZ_no hlt (by simp [hn]))
        have hn' : (l[k].n != (k : Int)) = true := bne_iff_ne.2 hn
        clear hn
        go_wp2_with fail
        go_fit (implDiskOk_any _ _ l[k] _ (D.grew G0))
        rintro e w2 ⟨rfl, g2⟩
        obtain ⟨b0, b1, b2, b3⟩ := B0.kept g2
        clear B0
        go_wp2_with fail
        go_ret
        exact ⟨ret_bool HN.out.symm, gtrans G1 g2⟩
      · have hn' : (l[k].n != (k : Int)) = false := by simp [hn]
        have HN : Hid (numbK l (k + 1) = true) := by show _ = _; rw [numbK_next hlt, HS.out, hok, hn]; simp
        clear hn HS
        go_wp2_with fail
        go_fit (implDiskOk_any _ _ l[k] _ (D.grew G0))
        rintro e w2 ⟨rfl, g2⟩
        obtain ⟨b0, b1, b2, b3⟩ := B0.kept g2
        clear B0
        go_wp2_with fail
        go_roundw
        case rel => exact ⟨k + 1, by omega, by go_num, HN.out, gtrans G1 g2⟩
        case measure => simp [intOf]; omega
    · obtain rfl : k = l.length := by omega
      have HN : Hid (numbZ l = true) := HS.out
      clear HS
      go_wp2_with fail
      go_ret
      exact ⟨ret_bool HN.out.symm, G⟩
/-- the last one -/
def lastR (l : List Nat) : Int := match l.getLast? with | none => -1 | some x => (x : Int)
theorem lastR_nil : lastR [] = -1 := rfl
theorem lastR_snoc (l : List Nat) (x : Nat) : lastR (l ++ [x]) = x := by simp [lastR]
def sameR (l : List Nat) : Prop := ∀ a ∈ l, (a : Int) = lastR l
theorem sameR_snoc {l : List Nat} {x : Nat} (h : sameR l) (hx : l = [] ∨ lastR l = x) : sameR (l ++ [x]) := by
  intro a ha
  rw [lastR_snoc]
  rcases List.mem_append.1 ha with q | q
  · rcases hx with rfl | hx
    · simp at q
    · rw [← hx]; exact h a q
  · simp at q; rw [q]
def differR (l : List Nat) : Prop := ∃ a b, a ∈ l ∧ b ∈ l ∧ a ≠ b
theorem lastR_mem {l : List Nat} (h : l ≠ []) : ∃ a, a ∈ l ∧ lastR l = (a : Int) := by
  refine ⟨l.getLast h, List.getLast_mem h, ?_⟩
  simp [lastR, List.getLast?_eq_some_getLast h]
theorem lastR_none {l : List Nat} (h : lastR l = -1) : l = [] := by
  by_cases e : l = []
  · exact e
  · obtain ⟨a, _, ha⟩ := lastR_mem e; omega
theorem differR_snoc {l : List Nat} {x : Nat} (h : lastR l ≠ -1) (hx : lastR l ≠ x) : differR (l ++ [x]) := by
  have hl : l ≠ [] := fun e => h (by rw [e]; rfl)
  obtain ⟨a, h1, h2⟩ := lastR_mem hl
  exact ⟨a, x, List.mem_append.2 (.inl h1), List.mem_append.2 (.inr (by simp)), fun e => hx (by rw [h2, e])⟩
theorem rowsZ_live (l : List DZ) : rowsZ l = (liveR l).headD 0 := by
  induction l with
  | nil => rfl
  | cons d r ih =>
    unfold liveR at ih ⊢
    cases hd : d.dead <;> simp [rowsZ, hd, ih]
theorem live_mem {l : List DZ} {a : Nat} : a ∈ liveR l ↔ ∃ i, ∃ h : i < l.length, l[i].dead = false ∧ l[i].m.length = a := by
  unfold liveR
  rw [List.mem_map]
  constructor
  · rintro ⟨d, h1, h2⟩
    obtain ⟨h3, h4⟩ := List.mem_filter.1 h1
    obtain ⟨i, hi, rfl⟩ := List.getElem_of_mem h3
    exact ⟨i, hi, by simpa using h4, h2⟩
  · rintro ⟨i, hi, h1, h2⟩
    exact ⟨l[i], List.mem_filter.2 ⟨List.getElem_mem hi, by simp [h1]⟩, h2⟩
theorem liveR_take {l : List DZ} {k a : Nat} (h : a ∈ liveR (l.take k)) : a ∈ liveR l := by
  obtain ⟨i, hi, h1, h2⟩ := live_mem.1 h
  have hi' : i < l.length := by simp at hi; omega
  exact live_mem.2 ⟨i, hi', by simpa using h1, by simpa using h2⟩
theorem rows_len {l : List DZ} (h : inB l.length 3 5 = false) : rowsOfZ l = -1 := by simp [rowsOfZ, disksOk_len h]
theorem rows_numb {l : List DZ} (h : numbZ l = false) : rowsOfZ l = -1 := by
  unfold numbZ numbK at h
  rw [List.all_eq_false] at h
  obtain ⟨i, hi, h1⟩ := h
  have hi' : i < l.length := by simpa using hi
  rw [getD_at hi'] at h1
  have : disksOkZ l = false := disksOk_bad hi' (by
    cases hok : l[i].ok
    · exact .inl rfl
    · right; simpa [hok] using h1)
  simp [rowsOfZ, this]
theorem rows_differ {l : List DZ} (h : differR (liveR l)) : rowsOfZ l = -1 := by
  cases hd : disksOkZ l
  · simp [rowsOfZ, hd]
  · exfalso
    simp only [disksOkZ, Bool.and_eq_true, List.all_eq_true] at hd
    obtain ⟨a, b, ha, hb, hne⟩ := h
    have q : ∀ a, a ∈ liveR l → a = rowsZ l := fun a ha => by
      obtain ⟨i, hi, h1, h2⟩ := live_mem.1 ha
      have := hd.2.1 i (by simpa using hi)
      rw [getD_at hi] at this
      simp [DZ.fitsIn, h1] at this
      omega
    exact hne ((q a ha).trans (q b hb).symm)
theorem rows_same {l : List DZ} (h1 : inB l.length 3 5 = true) (h2 : numbZ l = true) (h3 : sameR (liveR l)) : rowsOfZ l = lastR (liveR l) := by
  by_cases e : liveR l = []
  · have : rowsZ l = 0 := by rw [rowsZ_live, e]; rfl
    rw [e, lastR_nil]
    simp [rowsOfZ, disksOkZ, this]
  · have hr : (rowsZ l : Int) = lastR (liveR l) := by
      rw [rowsZ_live]
      obtain ⟨x, r, hx⟩ := List.exists_cons_of_ne_nil e
      rw [hx] at h3 ⊢
      exact h3 x (by simp)
    have hpos : 0 < rowsZ l := by
      obtain ⟨a, ha, hl⟩ := lastR_mem e
      obtain ⟨i, hi, d1, d2⟩ := live_mem.1 ha
      have := (DZ.ok_pos (numbZ_at h2 i hi).1 d1).1
      omega
    have hall : (List.range l.length).all (fun i => (l.getD i .zero).fitsIn i (rowsZ l)) = true := by
      rw [List.all_eq_true]
      intro i hi
      have hi' : i < l.length := by simpa using hi
      rw [getD_at hi']
      obtain ⟨q1, q2⟩ := numbZ_at h2 i hi'
      cases hd : l[i].dead
      · have q3 := h3 l[i].m.length (live_mem.2 ⟨i, hi', hd, rfl⟩)
        have q4 : l[i].m.length = rowsZ l := by omega
        simp [DZ.fitsIn, q1, q2, q4]
      · simp [DZ.fitsIn, q1, q2, hd]
    rw [rowsOfZ, disksOkZ, h1, hall]
    simp [hpos, hr]
set_option maxRecDepth 100000 in
set_option maxHeartbeats 2000000 in
theorem implRowsOf_any (v : Value) (l : List DZ) (w : World) (h : LD w v l) :
    Calls Tryz.prog 75 #[v] w (Pure (.int .i64 (rowsOfZ l)) w) := by
  obtain ⟨a, cap, rfl, hm⟩ := h.form
  have bR := Boxed.new w 2 (.int .i64 0)
  have G0 := galloc (grefl w) (.cells #[.int .i64 0] 2)
  refine (callsIn_wide (n := 6)).1 ?_
  refine callsIn_of_wp_marks Tryz.func75 rfl trivial ?_ rfl
  simp only [Tryz.ntmps75, List.size_toArray, List.length_cons, List.length_nil, Nat.reduceAdd, Nat.reduceSub, Array.replicate_succ, Array.replicate_zero, List.push_toArray, List.append_toArray, List.nil_append, List.cons_append]
  cases hl : inB l.length 3 5
  · have HN := Lib.hid (rows_len hl)
    gi_wp2_with fail
    refine ⟨trivial, CallsIn.mono (callsIn_wide.2 (between_any _ _ _ _)) ?_⟩
    rintro e w' ⟨rfl, rfl⟩
    rw [hl]
    gi_wp2_with fail
    refine ⟨trivial, ?_⟩
    gi_wp2_with fail
    exact ⟨.int .i64 (-1), by simp [results, Tryz.results75, go_sem], by rw [HN.out], galloc (grefl _) _⟩
  cases hn : numbZ l
  · have HN := Lib.hid (rows_numb hn)
    gi_wp2_with fail
    refine ⟨trivial, CallsIn.mono (callsIn_wide.2 (between_any _ _ _ _)) ?_⟩
    rintro e w' ⟨rfl, rfl⟩
    rw [hl]
    gi_wp2_with fail
    refine ⟨trivial, CallsIn.mono (callsIn_wide.2 (numberedInOrder_any _ l _ (h.kept G0))) ?_⟩
    rintro e w1 ⟨rfl, g1⟩
    rw [hn]
    have bR1 := (bR.kept g1 (by simp)).cell
    have fR1 := (bR.kept g1 (by simp)).frozen
    gi_wp2_with fail
    exact ⟨.int .i64 (-1), by simp [results, Tryz.results75, go_sem, bR1], by rw [HN.out], gset1 (gtrans G0 g1) (Nat.le_refl _) _ _⟩
  have HS := Lib.hid (fun h3 => rows_same hl hn (l := l) h3)
  gi_wp2_with fail
  refine ⟨trivial, CallsIn.mono (callsIn_wide.2 (between_any _ _ _ _)) ?_⟩
  rintro e w' ⟨rfl, rfl⟩
  rw [hl]
  gi_wp2_with fail
  refine ⟨trivial, CallsIn.mono (callsIn_wide.2 (numberedInOrder_any _ l _ (h.kept G0))) ?_⟩
  rintro e w1 ⟨rfl, g1⟩
  rw [hn]
  have bR1 := bR.kept g1 (by simp)
  have GG1 := gtrans G0 g1
  have bP := Boxed.new w1 2 (.int .i64 (-1))
  have G2 := galloc (grefl w1) (.cells #[.int .i64 (-1)] 2)
  gi_wp2_with fail
  refine ⟨trivial, CallsIn.mono (callsIn_wide.2 (livePlaces_any _ _ _ _)) ?_⟩
  rintro e w3 ⟨b, rfl, hb, g3, hbb⟩
  have bR3 := (bR1.kept G2 (by simp)).kept g3 (by simp)
  have bP3 := bP.kept g3 (by simp)
  have GG3 := gtrans GG1 (gtrans G2 g3)
  have hrp : w.heap.size < w1.heap.size := bR1.lt
  generalize w1.heap.size = P at *
  gi_wp2_with fail
  refine wpIn_rangeFunc_ownG rfl (by decide) (gf := 225) (lb := #[vptr b]) rfl trivial (enters_of Tryz.func225 (by kernel_rfl) rfl)
    (live_stops 5 b _ l w w3 (by decide) (below0 GG3) h hb) belowK_t (belowK_b GG3.size) (Below.refl _ _) (fun _ => rfl)
    (fun pre W => ((Boxed W w.heap.size 2 (.int .i64 0) ∧ Boxed W P 2 (.int .i64 (lastR pre))) ∧ sameR pre) ∧ Below w.heap.size w W)
    (fun c pre W => ((c = .ret ∧ Boxed W w.heap.size 2 (.int .i64 (-1))) ∧ differR pre) ∧ Below w.heap.size w W)
    (OwnFrom.and (OwnFrom.and (OwnFrom.and (Own.from (boxed_own _ _ _) _) (Own.from (boxed_own _ _ _) _)) (ownFrom_pure _ _)) (ownFrom_below (Nat.le_refl _) GG3.size))
    (fun c => OwnFrom.and (OwnFrom.and (OwnFrom.and (ownFrom_pure _ _) (Own.from (boxed_own _ _ _) _)) (ownFrom_pure _ _)) (ownFrom_below (Nat.le_refl _) GG3.size))
    ⟨⟨⟨bR3, bP3⟩, fun a h => by simp at h⟩, below0 GG3⟩
    (fun x => { tmps := #[.slice a l.length cap, undef, vptr w.heap.size, vptr P, .int .i64 (x : Int), .slice a l.length cap, .int .i64 l.length, .bool true, .bool false, .bool false, .slice a l.length cap, .bool true, .bool false, .bool false, .slice a l.length cap, .func (.func 225) #[] #[vptr b], .int .i64 (x : Int), undef, undef, undef, undef, undef, undef, undef, undef, undef], defers := [] }) ?assign ?body ?done ?stop
  case assign =>
    intro l x W K hK
    gi_wp2_with fail
    exact hK
  case body =>
    rintro ll pre x W ⟨⟨⟨bR, bP⟩, hs⟩, B⟩ hlt
    have cP := bP.cell
    have fP := bP.frozen
    have cR := bR.cell
    have fR := bR.frozen
    have HA := Lib.hid hs
    clear hs hb h hn hl bR3 bP3 bR1 HS
    by_cases h1 : lastR pre = -1
    · have h1' : (lastR pre != -1) = false := by simp [h1]
      have HE := Lib.hid (lastR_none h1)
      clear h1
      gi_wp2_with fail
      exact ⟨(KeepsOthers.setCell _ _ _).from _, (Below.refl _ _).setCell (p := ⟨P, 0, none⟩) (Nat.le_of_lt hrp) _, ⟨⟨bR.other (by omega) _, by rw [lastR_snoc]; exact bP.set _⟩, sameR_snoc HA.out (.inl HE.out)⟩, B.setCell (p := ⟨P, 0, none⟩) (Nat.le_of_lt hrp) _⟩
    have h1' : (lastR pre != -1) = true := bne_iff_ne.2 h1
    by_cases h2 : lastR pre = (x : Int)
    · have h2' : (lastR pre != (x : Int)) = false := by simp [h2]
      have HE := Lib.hid h2
      clear h1 h2
      gi_wp2_with fail
      exact ⟨(KeepsOthers.setCell _ _ _).from _, (Below.refl _ _).setCell (p := ⟨P, 0, none⟩) (Nat.le_of_lt hrp) _, ⟨⟨bR.other (by omega) _, by rw [lastR_snoc]; exact bP.set _⟩, sameR_snoc HA.out (.inr HE.out)⟩, B.setCell (p := ⟨P, 0, none⟩) (Nat.le_of_lt hrp) _⟩
    · have h2' : (lastR pre != (x : Int)) = true := bne_iff_ne.2 h2
      have HE := Lib.hid (differR_snoc h1 h2)
      clear h1 h2
      gi_wp2_with fail
      exact ⟨(KeepsOthers.setCell _ _ _).from _, ⟨⟨rfl, bR.set _⟩, HE.out⟩, B.setCell (p := ⟨w.heap.size, 0, none⟩) (Nat.le_refl _) _⟩
  case done =>
    rintro D ys W hD rfl ⟨⟨⟨bR, bP⟩, hs⟩, B⟩ hK
    have HN := Lib.hid (HS.out hs)
    have cP := bP.cell
    have cR := bR.cell
    have fR := bR.frozen
    clear hs HS hn hl
    gi_wp2_with fail
    have hK' := (KeepsOthers.setCell W ⟨w.heap.size, 0, none⟩ (.int .i64 (lastR (liveR l)))).same D _ hK rfl
    have hc5 := cell_kept (bR.set (.int .i64 (lastR (liveR l)))).cell (grownBy_putObj' _ D (.deferred none)) (fun r e => by cases e; exact ⟨_, hK', rfl⟩)
    refine ⟨by simp, .inl ⟨_, _, rfl, run_takeDeferred hK', ?_⟩⟩
    refine ⟨.int .i64 (lastR (liveR l)), by simp [results, Tryz.results75, go_sem, hc5], by rw [HN.out], ?_⟩
    exact gbelow0 ((B.setCell (p := ⟨w.heap.size, 0, none⟩) (Nat.le_refl _) _).trans (belowK_b (w := w) (Nat.le_refl _) _ D _ _ (by have := GG3.size; omega) hK' rfl rfl))
  case stop =>
    rintro D c pre W hD ⟨k, hk, rfl⟩ ⟨⟨⟨rfl, bR⟩, hd⟩, B⟩ hK
    have HN := Lib.hid (rows_differ (l := l) (by obtain ⟨x, y, h1, h2, h3⟩ := hd; exact ⟨x, y, liveR_take h1, liveR_take h2, h3⟩))
    gi_wp2_with fail
    have hc5 := cell_kept bR.cell (grownBy_putObj' _ D (.deferred none)) (fun r e => by cases e; exact ⟨_, hK, rfl⟩)
    refine ⟨by simp, .inl ⟨_, _, rfl, run_takeDeferred hK, ?_⟩⟩
    refine ⟨.int .i64 (-1), by simp [results, Tryz.results75, go_sem, hc5], by rw [HN.out], ?_⟩
    exact gbelow0 (B.trans (belowK_b (w := w) (Nat.le_refl _) _ D _ _ (by have := GG3.size; omega) hK rfl rfl))
theorem rowExists_any (v : Value) (l : List DZ) (r : Int) (w : World) (h : LD w v l) :
    Calls Tryz.prog 156 #[v, .int .i64 r] w (Pure (.bool (hasZ l r)) w) := by
  obtain ⟨a, cap, rfl, hm⟩ := h.form
  have HB : Hid (inB r 0 (rowsOfZ l - 1) = hasZ l r ∧ -1 ≤ rowsOfZ l ∧ rowsOfZ l ≤ 16) := by
    show _ ∧ _
    unfold rowsOfZ hasZ
    cases hd : disksOkZ l
    · refine ⟨?_, by simp, by simp⟩
      simp [inB]; omega
    · have h16 : rowsZ l ≤ 16 := by
        simp only [disksOkZ, Bool.and_eq_true, decide_eq_true_eq, List.all_eq_true] at hd
        obtain ⟨h1, h2, h3⟩ := hd
        rw [rowsZ_live] at h3 ⊢
        cases hl : liveR l with
        | nil => simp
        | cons x q =>
          obtain ⟨i, hi, d1, d2⟩ := live_mem.1 (show x ∈ liveR l by rw [hl]; simp)
          have := h2 i (by simpa using hi)
          rw [getD_at hi] at this
          simp only [DZ.fitsIn, Bool.and_eq_true] at this
          have := (DZ.ok_pos this.1 d1).2
          simp; omega
      refine ⟨?_, by simp only [if_true]; omega, by simp only [if_true]; omega⟩
      unfold inB
      simp only [if_true, Bool.true_and]
      rw [decide_eq_decide]
      omega
  obtain ⟨-, hlo, hhi⟩ := HB.out
  go_enter Tryz.func156, Tryz.ntmps156
  go_wp2_with fail
  go_fit (implRowsOf_any _ l _ h)
  rintro e w1 ⟨rfl, g1⟩
  go_wp2_with fail
  go_fit (between_any _ _ _ _)
  rintro e w2 ⟨rfl, rfl⟩
  go_wp2_with fail
  go_ret
  exact ⟨ret_bool HB.out.1, g1⟩
theorem implDisksOk_any (v : Value) (l : List DZ) (w : World) (h : LD w v l) :
    Calls Tryz.prog 85 #[v] w (Pure (.bool (disksOkZ l)) w) := by
  obtain ⟨a, cap, rfl, hm⟩ := h.form
  have HB : Hid ((rowsOfZ l != -1) = disksOkZ l) := by
    show _ = _
    unfold rowsOfZ
    cases hd : disksOkZ l
    · simp
    · simp only [if_true]
      exact bne_iff_ne.2 (by omega)
  go_enter Tryz.func85, Tryz.ntmps85
  go_wp2_with fail
  go_fit (implRowsOf_any _ l _ h)
  rintro e w1 ⟨rfl, g1⟩
  go_wp2_with fail
  go_ret
  exact ⟨ret_bool HB.out, g1⟩
end Go.Proofs.YteialkknddpbjaaGreatDoor
namespace Go.Proofs.YteialkknddpbjaaGreatDoor
open Go.ChangeShapes Go.WideShapes Go.ChangeAt Go.RowKit Go.Shelf
attribute [local go_sem] Oper.semAt_some

/-- a block of two cells -/
def Boxed2 (W : World) (B : Nat) (t : TypeId) (u v : Value) : Prop := W.heap[B]? = some (.cells #[u, v] t (0, 0))
theorem Boxed2.new (W : World) (t : TypeId) (u v : Value) : Boxed2 (W.alloc (.cells #[u, v] t)) W.heap.size t u v := World.alloc_heap_new W _
theorem Boxed2.cell0 {W : World} {B : Nat} {t : TypeId} {u v : Value} (h : Boxed2 W B t u v) : W.cell? ⟨B, 0, none⟩ = some u := by simp [World.cell?, show W.heap[B]? = _ from h]
theorem Boxed2.cell1 {W : World} {B : Nat} {t : TypeId} {u v : Value} (h : Boxed2 W B t u v) : W.cell? ⟨B, 1, none⟩ = some v := by simp [World.cell?, show W.heap[B]? = _ from h]
theorem boxed2_own {β : Type} (B : Nat) (t : TypeId) (u v : Value) : Go.Own (fun (_ : β) W => Boxed2 W B t u v) := fun s X Y row hs hg hrow => by
  refine (hg.block B (Array.getElem?_eq_some_iff.1 hs).1 fun e => ?_).trans hs
  obtain ⟨o, ho, hc⟩ := hrow B e.symm
  rw [show X.heap[B]? = _ from hs] at ho; cases ho; cases hc
/-- what an append onto the slice in box B, and the store of its answer, leave -/
theorem collected {W w1 : World} {n₀ N B c : Nat} {t e : TypeId} {size : Nat} {v v' : Value} {k m : Nat} {xs ys : List Value} {tmp : Obj}
    (hv : Boxed W B t v) (hte : t ≠ e) (hrow : W.ownsRow N e size v k xs) (hN : N ≤ W.heap.size) (hB : n₀ ≤ B) (hBN : B < N) (hc : c < N) (hcB : c ≠ B)
    (hown' : w1.ownsRow N e size v' m ys) (hgrow : (W.alloc tmp).grownBy w1 v.ownBlock) :
    Boxed w1 B t v ∧ Boxed (w1.setCell ⟨B, 0, none⟩ v') B t v' ∧ (w1.setCell ⟨B, 0, none⟩ v').ownsRow N e size v' m ys ∧ KeepsOthers W (w1.setCell ⟨B, 0, none⟩ v') ∧ KpR n₀ c W (w1.setCell ⟨B, 0, none⟩ v') := by
  have hv1 : Boxed w1 B t v := (hv.alloc tmp).kept hgrow (hv.not_row hte hrow)
  have hlow : ∀ j, j < N → w1.heap[j]? = W.heap[j]? := fun j hj => by
    refine (hgrow.block j (by simp; omega) fun e' => ?_).trans (Below.heap_alloc W tmp j (by omega))
    rcases hrow.2 with ⟨rfl, _⟩ | ⟨g, cap, cur, rfl, hb, _, _⟩
    · simp [Value.ownBlock] at e'
    · have : j = g := by simpa [Value.ownBlock] using e'
      omega
  refine ⟨hv1, hv1.set v', hown'.kept (grownBy_setCell' w1 B v') (.inr (hv1.not_row hte hown').symm), ?_, ?_, ?_⟩
  · refine ((KeepsOthers.alloc W tmp).trans (KeepsOthers.of_grownBy hgrow fun j o ej hj => ?_)).trans (KeepsOthers.setCell _ _ _)
    rcases (hrow.alloc tmp).2 with ⟨rfl, _⟩ | ⟨g, cap, cur, rfl, _, hgb, _⟩
    · simp [Value.ownBlock] at ej
    · obtain rfl : g = j := by simpa [Value.ownBlock] using ej
      rw [hgb] at hj; cases hj; rfl
  · have h1 : Below n₀ W w1 := ⟨hgrow.os, hgrow.tape, hgrow.output, Nat.le_trans (by simp) hgrow.size, fun j hj => hlow j (by omega)⟩
    exact h1.setCell (p := ⟨B, 0, none⟩) hB v'
  · exact (Below.heap_setCell w1 ⟨B, 0, none⟩ v' c hcB).trans (hlow c hc)
/-- the values that can be read -/
def goodR (l : List RX) : List Int := (l.filter fun x => x.2.2).map fun x => x.2.1
def badR (l : List RX) : List Int := (l.filter fun x => !x.2.2).map fun x => x.1
theorem goodR_yes (l : List RX) {x : RX} (h : x.2.2 = true) : goodR (l ++ [x]) = goodR l ++ [x.2.1] := by simp [goodR, h]
theorem goodR_no (l : List RX) {x : RX} (h : x.2.2 = false) : goodR (l ++ [x]) = goodR l := by simp [goodR, h]
theorem badR_yes (l : List RX) {x : RX} (h : x.2.2 = false) : badR (l ++ [x]) = badR l ++ [x.1] := by simp [badR, h]
theorem badR_no (l : List RX) {x : RX} (h : x.2.2 = true) : badR (l ++ [x]) = badR l := by simp [badR, h]
theorem goodR_length (l : List RX) : (goodR l).length ≤ l.length := by unfold goodR; rw [List.length_map]; exact List.length_filter_le _ _
theorem badR_length (l : List RX) : (badR l).length ≤ l.length := by unfold badR; rw [List.length_map]; exact List.length_filter_le _ _
theorem has_ok {l : List DZ} {r : Int} (h : hasZ l r = true) : disksOkZ l = true := by simp only [hasZ, Bool.and_eq_true] at h; exact h.1
theorem ok_len5 {l : List DZ} (h : disksOkZ l = true) : 3 ≤ l.length ∧ l.length ≤ 5 := by
  simp only [disksOkZ, Bool.and_eq_true] at h
  have := inB_iff.1 h.1
  omega
theorem has_len {l : List DZ} {r : Int} (h : hasZ l r = true) : l.length ≤ 1048576 := by have := ok_len5 (has_ok h); omega
theorem ok_each {l : List DZ} (h : disksOkZ l = true) (i : Nat) (hi : i < l.length) : l[i].ok = true ∧ l[i].n = (i : Int) := by
  simp only [disksOkZ, Bool.and_eq_true, List.all_eq_true] at h
  have := h.2.1 i (by simpa using hi)
  rw [getD_at hi] at this
  simp only [DZ.fitsIn, Bool.and_eq_true, beq_iff_eq] at this
  exact ⟨this.1, this.2.1⟩
theorem can_ok {d : DZ} (h : d.ok = true) (p : Int) : d.canRead p = d.can p ∧ d.readV p = canV d p := ⟨by simp [DZ.canRead, h], by simp [DZ.readV, canV, DZ.canRead, h]⟩
theorem bad_take {l : List DZ} (h : disksOkZ l = true) (r : Int) (k : Nat) (hk : k ≤ l.length) : badR (readR (l.take k) r) = badL l r k := by
  induction k with
  | zero => simp [readR, badR, badL]
  | succ k ih =>
    have hk' : k < l.length := by omega
    obtain ⟨h1, h2⟩ := ok_each h k hk'
    rw [readR_next hk', badL_next l r k hk', ← ih (by omega), (can_ok h1 r).1, h2]
    cases hc : l[k].can r
    · rw [badR_yes _ rfl]; rfl
    · rw [badR_no _ rfl]; rfl
theorem bad_eq {l : List DZ} {r : Int} (h : disksOkZ l = true) : badZ l r = badR (readR l r) := by
  have := bad_take h r l.length (Nat.le_refl _)
  rw [List.take_length] at this
  exact this.symm
theorem good_take {l : List DZ} (h : disksOkZ l = true) (r : Int) (k : Nat) (hk : k ≤ l.length) : foldX (goodR (readR (l.take k) r)) = rowXk l r k ∧ (goodR (readR (l.take k) r)).all okv = true := by
  induction k with
  | zero => exact ⟨rfl, rfl⟩
  | succ k ih =>
    have hk' : k < l.length := by omega
    obtain ⟨h1, h2⟩ := ok_each h k hk'
    obtain ⟨i1, i2⟩ := ih (by omega)
    obtain ⟨c1, c2⟩ := can_ok h1 r
    rw [readR_next hk', c1, c2]
    cases hc : l[k].can r
    · rw [goodR_no _ rfl, rowXk_skip l r k hk' hc]; exact ⟨i1, i2⟩
    · rw [goodR_yes _ rfl, foldX_append, i1, List.all_append, i2]
      refine ⟨?_, by simp [canV_in]⟩
      unfold rowXk
      rw [List.take_succ_eq_append_getElem hk', List.map_append, foldX_append]
      rfl
theorem good_xor {l : List DZ} {r : Int} (h : disksOkZ l = true) : xorZ (goodR (readR l r)) = (rowX l r : Int) := by
  obtain ⟨h1, h2⟩ := good_take h r l.length (Nat.le_refl _)
  rw [List.take_length] at h1 h2
  rw [xorZ_yes h2, h1, rowXk_all]
set_option maxRecDepth 100000 in
set_option maxHeartbeats 2000000 in
theorem goodValues_any (v : Value) (l : List DZ) (r : Int) (w : World) (h : LD w v l) (hl : l.length ≤ 1048576) :
    Calls Tryz.prog 164 #[v, .int .i64 r] w (GotI (goodR (readR l r)) w) := by
  obtain ⟨a, cap, rfl, hm⟩ := h.form
  obtain ⟨i0, hi, hz, hz1, hz2⟩ := info_parts intE.info
  have bO := Boxed.new w 42 (.slice none 0 0)
  have G0 := galloc (grefl w) (.cells #[.slice none 0 0] 42)
  refine (callsIn_wide (n := 6)).1 ?_
  refine callsIn_of_wp_marks Tryz.func164 rfl trivial ?_ rfl
  simp only [Tryz.ntmps164, List.size_toArray, List.length_cons, List.length_nil, Nat.reduceAdd, Nat.reduceSub, Array.replicate_succ, Array.replicate_zero, List.push_toArray, List.append_toArray, List.nil_append, List.cons_append]
  gi_wp2_with fail
  refine ⟨trivial, CallsIn.mono (callsIn_wide.2 (readingsIn_any _ _ _ _ _)) ?_⟩
  rintro e w3 ⟨b, c, rfl, hb, hc, g3, hbb, hcc⟩
  have bO3 := bO.kept g3 (by simp)
  have GG3 := gtrans G0 g3
  have hcl : c < w3.heap.size := World.block_lt_of_cell? w3 ⟨c, 0, none⟩ hc
  have hBc : w.heap.size < c := by simp at hcc; omega
  gi_wp2_with fail
  refine wpIn_rangeFunc_ownH rfl (by decide) (gf := 242) (lb := #[vptr b, vptr c]) rfl trivial (enters_of Tryz.func242 (by kernel_rfl) rfl)
    (readings_stops 5 b c _ l r w w3 (by decide) (below0 GG3) h hb hc) KpR.trans (KpR.put GG3.size hcl) (Below.refl _ _) (fun _ => rfl)
    (fun pre W => ((∃ v, Boxed W w.heap.size 42 v ∧ W.ownsRow w3.heap.size 2 1 v (goodR pre).length ((goodR pre).map (.int .i64 ·)) ∧ True) ∧ Below w.heap.size w W) ∧ Below w3.heap.size w3 w3 ∧ w3.heap.size ≤ W.heap.size)
    (fun _ _ _ => False)
    (OwnFrom.and (OwnFrom.and (Own.from (holdsRow_own w3.heap.size w.heap.size 42 2 1 (fun pre => (goodR pre).length) (fun pre => (goodR pre).map (.int .i64 ·)) (fun _ _ => True)) _) (ownFrom_below (Nat.le_refl _) GG3.size)) (fun s X Y row hs hg _ => ⟨hs.1, Nat.le_trans hs.2 hg.size⟩))
    (fun _ _ _ _ _ hs _ _ => hs)
    ⟨⟨⟨_, bO3, World.ownsRow_nil _ _ _ _, trivial⟩, below0 GG3⟩, Below.refl _ _, Nat.le_refl _⟩
    (fun x a' W => ∃ Bx, Boxed2 W Bx 165 (.int .i64 x.2.1) (.bool x.2.2) ∧ a' = { tmps := #[.slice a l.length cap, .int .i64 r, undef, undef, .slice none 0 0, vptr w.heap.size, undef, vptr Bx, .slice a l.length cap, .int .i64 r, .func (.func 242) #[] #[vptr b, vptr c], .int .i64 x.1, .agg #[.int .i64 x.2.1, .bool x.2.2], undef, undef, undef, undef, undef, undef, undef, undef], defers := [] })
    (fun x a' _ X Y row hs hg hr => by obtain ⟨Bx, h2, h3⟩ := hs; exact ⟨Bx, boxed2_own (β := Unit) Bx _ _ _ () X Y row h2 hg (fun r e => (hr r e).2), h3⟩)
    ?assign ?body ?done ?stop
  case assign =>
    rintro ll pre x W K ⟨⟨⟨v, hv, hrow, -⟩, B⟩, hB3, hs3⟩ hK
    gi_wp2_with fail
    exact hK _ _ ((KeepsOthers.alloc _ _).from _) ⟨(Below.refl _ W).alloc B.size _, Below.heap_alloc W _ c (by omega)⟩ ⟨⟨⟨v, hv.alloc _, hrow.alloc _, trivial⟩, B.alloc B.size _⟩, hB3, by simp; omega⟩ ⟨W.heap.size, Boxed2.new W _ _ _, rfl⟩
  case body =>
    rintro ll pre x a' W hll - ⟨⟨⟨v, hv, hrow, -⟩, B⟩, hB3, hs3⟩ ⟨Bx, bX, rfl⟩ hlt
    have hcv := hv.cell
    have c0 := bX.cell0
    have c1 := bX.cell1
    have hpl := goodR_length pre
    cases hx : x.2.2
    · rw [hx] at c1
      have HX := Lib.hid hx
      gi_wp2_with fail
      exact ⟨KeepsFrom.refl _ _, KpR.refl _ _ _, ⟨⟨⟨v, hv, by rw [goodR_no pre HX.out]; exact hrow, trivial⟩, B⟩, hB3, hs3⟩⟩
    · rw [hx] at c1
      have HX := Lib.hid hx
      gi_wp2_with (gi_at_builtin; refine wpListIn_append_own _ rfl _ _ 42 rfl w3.heap.size 2 i0 (.int .i64 0) 1 8 intE.und hi hz hz1 hz2 rfl (by decide) _ _ _ rfl (hrow.alloc _) ⟨W.heap.size, 0, none⟩ 1 1 [.int .i64 x.2.1] rfl rfl (cell_one_new _ _ _) (by simp [Value.oneCell']) (by unfold maxLen; omega) (by omega) (by simp; omega) ?_; intro v' w1 hown' hgrow _; obtain ⟨g', cap', rfl⟩ := ownsRow_succ hown'; obtain ⟨hv1, hv2, hr2, hk2, hb2⟩ := collected hv (by decide) hrow hs3 (Nat.le_refl _) (by omega) hcl (by omega) hown' hgrow; have hc1 := hv1.cell; have hf1 := hv1.frozen)
      exact ⟨hk2.from _, hb2, ⟨⟨⟨_, hv2, by rw [goodR_yes pre HX.out]; simpa using hr2, trivial⟩, B.trans hb2.1⟩, hB3, Nat.le_trans hs3 hb2.1.size⟩⟩
  case done =>
    rintro D ys W hD rfl ⟨⟨⟨v, hv, hrow, -⟩, B⟩, hB3, hs3⟩ hK
    have hcv := hv.cell
    gi_wp2_with fail
    refine ⟨by simp, .inl ⟨_, _, rfl, run_takeDeferred hK, ?_⟩⟩
    refine ⟨v, by simp [results, Tryz.results164, go_sem], v, rfl, ?_, gbelow0 (B.trans (belowK_b (w := w) (Nat.le_refl _) W D _ _ (by have := GG3.size; omega) hK rfl rfl))⟩
    have q := ownsRow_putObj hrow (.deferred none) hK rfl
    have q' : IS (W.putObj D (.deferred none)) w3.heap.size v (goodR (readR l r)) := by unfold IS Own; rw [intE_all]; exact q
    exact q'.lower GG3.size
  case stop =>
    rintro D c pre W _ _ h _
    exact h.elim
set_option maxRecDepth 100000 in
set_option maxHeartbeats 2000000 in
theorem implBadIn_any (v : Value) (l : List DZ) (r : Int) (w : World) (h : LD w v l) :
    Calls Tryz.prog 114 #[v, .int .i64 r] w (GotI (badInZ l r) w) := by
  obtain ⟨a, cap, rfl, hm⟩ := h.form
  obtain ⟨i0, hi, hz, hz1, hz2⟩ := info_parts intE.info
  refine (callsIn_wide (n := 6)).1 ?_
  refine callsIn_of_wp_marks Tryz.func114 rfl trivial ?_ rfl
  simp only [Tryz.ntmps114, List.size_toArray, List.length_cons, List.length_nil, Nat.reduceAdd, Nat.reduceSub, Array.replicate_succ, Array.replicate_zero, List.push_toArray, List.append_toArray, List.nil_append, List.cons_append]
  cases hh : hasZ l r
  · have HN := Lib.hid (show badInZ l r = [] by simp [badInZ, hh])
    gi_wp2_with fail
    refine ⟨trivial, CallsIn.mono (callsIn_wide.2 (rowExists_any _ l r _ h)) ?_⟩
    rintro e w1 ⟨rfl, g1⟩
    rw [hh]
    gi_wp2_with fail
    exact ⟨.slice none 0 0, by simp [results, Tryz.results114, go_sem], _, rfl, by rw [HN.out]; exact Own.nil _ _ _, g1⟩
  have hl := has_len hh
  have HN := Lib.hid (show badInZ l r = badR (readR l r) by rw [badInZ, hh, if_pos rfl, bad_eq (has_ok hh)])
  have HB := Lib.hid hh
  gi_wp2_with fail
  refine ⟨trivial, CallsIn.mono (callsIn_wide.2 (rowExists_any _ l r _ h)) ?_⟩
  rintro e w1 ⟨rfl, g1⟩
  rw [hh]
  have bO := Boxed.new w1 42 (.slice none 0 0)
  have G0 := gtrans g1 (galloc (grefl w1) (.cells #[.slice none 0 0] 42))
  clear hh
  gi_wp2_with fail
  refine ⟨trivial, CallsIn.mono (callsIn_wide.2 (readingsIn_any _ _ _ _ _)) ?_⟩
  rintro e w3 ⟨b, c, rfl, hb, hc, g3, hbb, hcc⟩
  have bO3 := bO.kept g3 (by simp)
  have GG3 := gtrans G0 g3
  have hcl : c < w3.heap.size := World.block_lt_of_cell? w3 ⟨c, 0, none⟩ hc
  have hBc : w1.heap.size < c := by simp at hcc; omega
  gi_wp2_with fail
  refine wpIn_rangeFunc_ownH rfl (by decide) (gf := 242) (lb := #[vptr b, vptr c]) rfl trivial (enters_of Tryz.func242 (by kernel_rfl) rfl)
    (readings_stops 5 b c _ l r w w3 (by decide) (below0 GG3) h hb hc) KpR.trans (KpR.put GG3.size hcl) (Below.refl _ _) (fun _ => rfl)
    (fun pre W => ((∃ v, Boxed W w1.heap.size 42 v ∧ W.ownsRow w3.heap.size 2 1 v (badR pre).length ((badR pre).map (.int .i64 ·)) ∧ True) ∧ Below w.heap.size w W) ∧ Below w3.heap.size w3 w3 ∧ w3.heap.size ≤ W.heap.size)
    (fun _ _ _ => False)
    (OwnFrom.and (OwnFrom.and (Own.from (holdsRow_own w3.heap.size w1.heap.size 42 2 1 (fun pre => (badR pre).length) (fun pre => (badR pre).map (.int .i64 ·)) (fun _ _ => True)) _) (ownFrom_below (Nat.le_refl _) GG3.size)) (fun s X Y row hs hg _ => ⟨hs.1, Nat.le_trans hs.2 hg.size⟩))
    (fun _ _ _ _ _ hs _ _ => hs)
    ⟨⟨⟨_, bO3, World.ownsRow_nil _ _ _ _, trivial⟩, below0 GG3⟩, Below.refl _ _, Nat.le_refl _⟩
    (fun x a' W => ∃ Bx, Boxed2 W Bx 165 (.int .i64 x.2.1) (.bool x.2.2) ∧ a' = { tmps := #[.slice a l.length cap, .int .i64 r, undef, undef, .slice none 0 0, vptr w1.heap.size, .int .i64 x.1, vptr Bx, .slice a l.length cap, .int .i64 r, .bool true, .bool false, .slice a l.length cap, .int .i64 r, .func (.func 242) #[] #[vptr b, vptr c], .int .i64 x.1, .agg #[.int .i64 x.2.1, .bool x.2.2], undef, undef, undef, undef, undef, undef, undef, undef], defers := [] })
    (fun x a' _ X Y row hs hg hr => by obtain ⟨Bx, h2, h3⟩ := hs; exact ⟨Bx, boxed2_own (β := Unit) Bx _ _ _ () X Y row h2 hg (fun r e => (hr r e).2), h3⟩)
    ?assign ?body ?done ?stop
  case assign =>
    rintro ll pre x W K ⟨⟨⟨v, hv, hrow, -⟩, B⟩, hB3, hs3⟩ hK
    gi_wp2_with fail
    exact hK _ _ ((KeepsOthers.alloc _ _).from _) ⟨(Below.refl _ W).alloc B.size _, Below.heap_alloc W _ c (by omega)⟩ ⟨⟨⟨v, hv.alloc _, hrow.alloc _, trivial⟩, B.alloc B.size _⟩, hB3, by simp; omega⟩ ⟨W.heap.size, Boxed2.new W _ _ _, rfl⟩
  case body =>
    rintro ll pre x a' W hll - ⟨⟨⟨v, hv, hrow, -⟩, B⟩, hB3, hs3⟩ ⟨Bx, bX, rfl⟩ hlt
    have hcv := hv.cell
    have c0 := bX.cell0
    have c1 := bX.cell1
    have hpl := badR_length pre
    cases hx : x.2.2
    · rw [hx] at c1
      have HX := Lib.hid hx
      gi_wp2_with (gi_at_builtin; refine wpListIn_append_own _ rfl _ _ 42 rfl w3.heap.size 2 i0 (.int .i64 0) 1 8 intE.und hi hz hz1 hz2 rfl (by decide) _ _ _ rfl (hrow.alloc _) ⟨W.heap.size, 0, none⟩ 1 1 [.int .i64 x.1] rfl rfl (cell_one_new _ _ _) (by simp [Value.oneCell']) (by unfold maxLen; omega) (by omega) (by simp; omega) ?_; intro v' w1 hown' hgrow _; obtain ⟨g', cap', rfl⟩ := ownsRow_succ hown'; obtain ⟨hv1, hv2, hr2, hk2, hb2⟩ := collected hv (by decide) hrow hs3 g1.size (by omega) hcl (by omega) hown' hgrow; have hc1 := hv1.cell; have hf1 := hv1.frozen)
      exact ⟨hk2.from _, hb2, ⟨⟨⟨_, hv2, by rw [badR_yes pre HX.out]; simpa using hr2, trivial⟩, B.trans hb2.1⟩, hB3, Nat.le_trans hs3 hb2.1.size⟩⟩
    · rw [hx] at c1
      have HX := Lib.hid hx
      gi_wp2_with fail
      exact ⟨KeepsFrom.refl _ _, KpR.refl _ _ _, ⟨⟨⟨v, hv, by rw [badR_no pre HX.out]; exact hrow, trivial⟩, B⟩, hB3, hs3⟩⟩
  case done =>
    rintro D ys W hD rfl ⟨⟨⟨v, hv, hrow, -⟩, B⟩, hB3, hs3⟩ hK
    have hcv := hv.cell
    gi_wp2_with fail
    refine ⟨by simp, .inl ⟨_, _, rfl, run_takeDeferred hK, ?_⟩⟩
    refine ⟨v, by simp [results, Tryz.results114, go_sem], v, rfl, ?_, gbelow0 (B.trans (belowK_b (w := w) (Nat.le_refl _) W D _ _ (by have := GG3.size; omega) hK rfl rfl))⟩
    have q := ownsRow_putObj hrow (.deferred none) hK rfl
    have q' : IS (W.putObj D (.deferred none)) w3.heap.size v (badR (readR l r)) := by unfold IS Own; rw [intE_all]; exact q
    rw [HN.out]
    exact q'.lower GG3.size
  case stop =>
    rintro D c pre W _ _ h _
    exact h.elim
theorem xorI (v : Value) (l : List Int) (w : World) {base : Nat} (h : IS w base v l) : Calls Tryz.prog 163 #[v] w fun e w' => e = .returned (.int .i64 (xorZ l)) ∧ w = w' := implXor_any v l w h.rd
theorem hasDisk_any (a : Option Addr) (n cap : Nat) (d : Int) (w : World) (hm : n ≤ 9223372036854775807) :
    Calls Tryz.prog 73 #[.slice a n cap, .int .i64 d] w fun e w' => e = .returned (.bool (inB d 0 (n - 1))) ∧ w = w' := by
  go_enter Tryz.func73, Tryz.ntmps73
  go_wp2_with fail
  go_fit (between_any _ _ _ _)
  rintro e w1 ⟨rfl, rfl⟩
  go_wp2_with fail
  go_ret
  exact ⟨rfl, rfl⟩
set_option maxHeartbeats 1000000 in
theorem implCellAt_any (v : Value) (l : List DZ) (d r : Int) (w : World) (h : LD w v l) :
    Calls Tryz.prog 124 #[v, .int .i64 d, .int .i64 r] w (Pure (.tuple #[.int .i64 (cellAtV l d r), .bool (cellAtOk l d r)]) w) := by
  obtain ⟨a, cap, rfl, hm⟩ := h.form
  cases hh : hasZ l r
  · have HN : Hid (cellAtOk l d r = false) := by show _ = _; simp [cellAtOk, hh]
    have HV : Hid (cellAtV l d r = 0) := by show _ = _; simp [cellAtV, HN.out]
    rw [HN.out, HV.out]
    go_enter Tryz.func124, Tryz.ntmps124
    go_wp2_with fail
    go_fit (rowExists_any _ l r _ h)
    rintro e w1 ⟨rfl, g1⟩
    rw [hh]
    go_wp2_with fail
    go_ret2
    exact ⟨rfl, g1⟩
  cases hb : inB d 0 (l.length - 1)
  · have HN : Hid (cellAtOk l d r = false) := by
      show _ = _
      have := inB_nf hb
      have e : decide (0 ≤ d ∧ d < (l.length : Int)) = false := decide_eq_false (by omega)
      simp only [cellAtOk, e, Bool.false_and, Bool.and_false]
    have HV : Hid (cellAtV l d r = 0) := by show _ = _; simp [cellAtV, HN.out]
    rw [HN.out, HV.out]
    go_enter Tryz.func124, Tryz.ntmps124
    go_wp2_with fail
    go_fit (rowExists_any _ l r _ h)
    rintro e w1 ⟨rfl, g1⟩
    rw [hh]
    go_wp2_with fail
    go_fit (hasDisk_any _ _ _ _ _ hm)
    rintro e w2 ⟨rfl, rfl⟩
    rw [hb]
    go_wp2_with fail
    go_ret2
    exact ⟨rfl, g1⟩
  have hd := inB_iff.1 hb
  obtain ⟨k, rfl⟩ := Int.eq_ofNat_of_zero_le hd.1
  have hk : k < l.length := by omega
  have hki : (k : Int) < l.length := by omega
  have hok := (ok_each (has_ok hh) k hk).1
  have HL := Lib.hid (has_len hh)
  have HO : Hid (cellAtOk l k r = tellOk l k r ∧ tellOk l k r = (l[k].canRead r || (badInZ l r).length == 1)) := by
    refine ⟨?_, ?_⟩
    · simp [cellAtOk, hh, hk]
    · simp only [tellOk, Int.toNat_natCast, getD_at hk, (can_ok hok r).1, badInZ, hh, if_true]
  have HV : Hid (cellAtV l k r = if l[k].canRead r then l[k].readV r else if (badInZ l r).length == 1 then xorZ (goodR (readR l r)) else 0) := by
    show _ = _
    rw [cellAtV, HO.out.1, HO.out.2, good_xor (has_ok hh)]
    simp only [tellV, Int.toNat_natCast, getD_at hk, (can_ok hok r).1, (can_ok hok r).2, badInZ, hh, if_true]
    cases l[k].can r <;> cases (badZ l r).length == 1 <;> simp
  clear hok hd
  cases hc : l[k].canRead r
  rotate_left
  · rw [HO.out.1, HO.out.2, HV.out, hc, if_pos rfl, Bool.true_or]
    go_enter Tryz.func124, Tryz.ntmps124
    go_wp2_with fail
    go_fit (rowExists_any _ l r _ h)
    rintro e w1 ⟨rfl, g1⟩
    rw [hh]
    go_wp2_with fail
    go_fit (hasDisk_any _ _ _ _ _ hm)
    rintro e w2 ⟨rfl, rfl⟩
    rw [hb]
    obtain ⟨g, o, ka, km, kc, na, nm, nc, rfl, x0, x1, x2, x3, D⟩ := (h.kept g1).at k hk
    go_wp2_with fail
    go_fit (implRead_any _ _ l[k] r _ D)
    rintro e w2 ⟨rfl, g2⟩
    rw [hc]
    go_wp2_with fail
    go_ret2
    exact ⟨rfl, gtrans g1 g2⟩
  by_cases hn : (badInZ l r).length = 1
  · have hn' : (((badInZ l r).length : Int) != 1) = false := by rw [bne_eq_false_iff_eq]; omega
    rw [HO.out.1, HO.out.2, HV.out, hc, hn]
    simp only [Bool.false_or, beq_self_eq_true, if_true, Bool.false_eq_true, if_false]
    clear hn
    go_enter Tryz.func124, Tryz.ntmps124
    go_wp2_with fail
    go_fit (rowExists_any _ l r _ h)
    rintro e w1 ⟨rfl, g1⟩
    rw [hh]
    go_wp2_with fail
    go_fit (hasDisk_any _ _ _ _ _ hm)
    rintro e w2 ⟨rfl, rfl⟩
    rw [hb]
    obtain ⟨g, o, ka, km, kc, na, nm, nc, rfl, x0, x1, x2, x3, D⟩ := (h.kept g1).at k hk
    go_wp2_with fail
    go_fit (implRead_any _ _ l[k] r _ D)
    rintro e w2 ⟨rfl, g2⟩
    rw [hc]
    go_wp2_with fail
    go_fit (implBadIn_any _ l r _ (h.kept (gtrans g1 g2)))
    rintro e w3 ⟨v3, rfl, I3, g3⟩
    obtain ⟨a3, c3, rfl, m3⟩ := I3.form
    have G3 := gtrans (gtrans g1 g2) g3
    go_wp2_with fail
    go_fit (goodValues_any _ l r _ (h.kept G3) HL.out)
    rintro e w4 ⟨v4, rfl, I4, g4⟩
    obtain ⟨a4, c4, rfl, m4⟩ := I4.form
    go_wp2_with fail
    go_fit (xorI _ _ _ I4)
    rintro e w5 ⟨rfl, rfl⟩
    go_wp2_with fail
    go_ret2
    exact ⟨rfl, gtrans G3 g4⟩
  · have hn' : (((badInZ l r).length : Int) != 1) = true := bne_iff_ne.2 (by omega)
    have hn2 : ((badInZ l r).length == 1) = false := by simpa using hn
    rw [HO.out.1, HO.out.2, HV.out, hc, hn2]
    simp only [Bool.false_or, Bool.false_eq_true, if_false]
    clear hn hn2
    go_enter Tryz.func124, Tryz.ntmps124
    go_wp2_with fail
    go_fit (rowExists_any _ l r _ h)
    rintro e w1 ⟨rfl, g1⟩
    rw [hh]
    go_wp2_with fail
    go_fit (hasDisk_any _ _ _ _ _ hm)
    rintro e w2 ⟨rfl, rfl⟩
    rw [hb]
    obtain ⟨g, o, ka, km, kc, na, nm, nc, rfl, x0, x1, x2, x3, D⟩ := (h.kept g1).at k hk
    go_wp2_with fail
    go_fit (implRead_any _ _ l[k] r _ D)
    rintro e w2 ⟨rfl, g2⟩
    rw [hc]
    go_wp2_with fail
    go_fit (implBadIn_any _ l r _ (h.kept (gtrans g1 g2)))
    rintro e w3 ⟨v3, rfl, I3, g3⟩
    obtain ⟨a3, c3, rfl, m3⟩ := I3.form
    have G3 := gtrans (gtrans g1 g2) g3
    go_wp2_with fail
    go_ret2
    exact ⟨rfl, G3⟩
end Go.Proofs.YteialkknddpbjaaGreatDoor
namespace Go.Proofs.YteialkknddpbjaaGreatDoor
open Go.ChangeShapes Go.WideShapes Go.ChangeAt Go.RowKit

set_option maxRecDepth 8000 in
set_option maxHeartbeats 4000000 in
theorem copiedDisks_any (v : Value) (l : List DZ) (w : World) (h : LD w v l) (hl : l.length ≤ 1000) (hd : ∀ i (h : i < l.length), l[i].k.length ≤ 1000 ∧ l[i].m.length ≤ 1000) :
    Calls Tryz.prog 135 #[v] w (GotL l w) := by
  have HD : Hid (∀ i (h : i < l.length), l[i].k.length ≤ 1000 ∧ l[i].m.length ≤ 1000) := hd
  obtain ⟨a, cap, rfl, hm⟩ := h.form
  clear hd
  go_enter Tryz.func135, Tryz.ntmps135
  go_wp2_with fail
  go_loopw [3, 8] (fun out i wr => ∃ (k : Nat) (raw : List DV), k ≤ l.length ∧ i = .int .i64 k ∧ OD wr w.heap.size out (l.take k) raw ∧ w.grownBy wr none) (fun _ i _ => l.length - (intOf i).toNat)
  case atStart => exact ⟨0, [], Nat.zero_le _, rfl, OD.nil _ _, grefl _⟩
  case round =>
    obtain ⟨k, raw, hk, rfl, C, G⟩ := hrel
    obtain ⟨oa, om, oc, rfl⟩ := C.own.sl
    by_cases hlt : k < l.length
    · have hki : (k : Int) < l.length := by omega
      obtain ⟨g, o, ka, km, kc, na, nm, nc, rfl, x0, x1, x2, x3, D⟩ := (h.kept G).at k hlt
      have HT : Hid (l.take (k + 1) = l.take k ++ [l[k]]) := List.take_succ_eq_append_getElem hlt
      have hk1 := HD.out k hlt
      have X0 := Box4.new wr (.int .i64 l[k].n) (.bool l[k].dead) (.slice ka km kc) (.slice na nm nc) 37
      have e1 := galloc (grefl wr) (.cells #[.int .i64 l[k].n, .bool l[k].dead, .slice ka km kc, .slice na nm nc] 37)
      go_upto_region 5 with (fail)
      have hsW : wr.heap.size ≤ (wr.alloc (.cells #[.int .i64 l[k].n, .bool l[k].dead, .slice ka km kc, .slice na nm nc] 37)).heap.size := e1.size
      generalize wr.alloc (.cells #[.int .i64 l[k].n, .bool l[k].dead, .slice ka km kc, .slice na nm nc] 37) = W at *
      have D1 := D.grew e1
      have C1 := C.grew e1
      have G3 := gtrans G e1
      clear x0 x1 x2 x3 D e1
      obtain ⟨x0, x1, x2, x3⟩ := X0
      obtain ⟨rfl, -⟩ := CS.bound D1.1
      obtain ⟨rfl, -⟩ := CS.bound D1.2
      go_wp2_with fail
      go_fit (diskWith_any l[k].n l[k].dead _ _ _ _ _ _ l[k].k l[k].m _ D1.1 D1.2 hk1.1 hk1.2)
      rintro e w4 ⟨kv, nv, rfl, I2, ap, g2⟩
      obtain ⟨ka', km', kc', rfl⟩ := I2.1.sl
      obtain ⟨na', nm', nc', rfl⟩ := I2.2.sl
      have C2 := C1.grew g2
      have G4 := gtrans G3 g2
      have hs2 := G4.size
      have hsw := G3.size
      have HNew : Hid (∀ q, DV.has ⟨l[k].n, l[k].dead, ka', km', kc', na', nm', nc'⟩ q → (∀ i (hi : i < raw.length), ¬ raw[i].has q) ∧ (Value.slice oa om oc).ownBlock ≠ some q) := fun q hq => by
        have h1 : W.heap.size ≤ q := by
          rcases hq with hq | hq
          · exact (I2.1.lt q hq).1
          · exact (I2.2.lt q hq).1
        exact ⟨fun i hi x => by have := (C1.in i hi q x).2; omega, fun x => by have := (C1.own.lt q x).2; omega⟩
      have hI : DV.Is w4 w.heap.size ⟨l[k].n, l[k].dead, ka', km', kc', na', nm', nc'⟩ l[k] := ⟨rfl, rfl, I2.1.lower hsw, I2.2.lower hsw⟩
      have hrl : raw.length ≤ 1000 := by have := C.len; simp at this; omega
      go_wp2_with (first | (at_builtin; refine wpList_append_o (E := diskE) (base := w.heap.size) rfl (.tmp 12) (.tmp 19) rfl rfl rfl (Own.grew C2.own (galloc (grefl _) _)) (DV.single _ ⟨l[k].n, l[k].dead, ka', km', kc', na', nm', nc'⟩) (by simp; omega) (by decide) (by simp; omega) ?_; intro v' w6 o6 g6 b6; have C6 := OD.app (C2.grew (galloc (grefl _) _)) _ l[k] (hI.grew (galloc (grefl _) _)) ap HNew.out g6 o6 b6; have G6 := gnew (galloc G4 _) g6 (fun j e => (C2.own.lt j e).1); rw [← HT.out] at C6; clear g6 b6 o6))
      go_roundw
      case rel => exact ⟨k + 1, _, by omega, by go_num, C6, G6⟩
      case measure => simp [intOf]; omega
    · obtain rfl : k = l.length := by omega
      rw [List.take_length] at C
      go_wp2_with fail
      go_ret
      exact ⟨_, raw, rfl, C, G⟩
end Go.Proofs.YteialkknddpbjaaGreatDoor
