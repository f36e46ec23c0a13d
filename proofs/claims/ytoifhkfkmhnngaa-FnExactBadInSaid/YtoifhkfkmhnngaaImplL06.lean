/- The program's iterators of chapter 6: the cells of a row, the sizes of the disks that are alive. -/
import Derived.Test.YtoifhkfkmhnngaaOwnD
import Derived.Test.YtoifhkfkmhnngaaImplL03c
import Derived.Test.YtoifhkfkmhnngaaImplL04
import Derived.RangeFuncNested
import Derived.RangeFuncBound
import Derived.RangeFuncCalls
import Derived.RangeFuncLeaves
import Derived.RangeFuncBox
import Derived.Shelf.Abstract
import Derived.Shelf.RegionOpen
import Derived.WalkKit
import Derived.OwnWalkIn
import Derived.TacticsInMore
import Derived.LoopNIn
import Derived.LoopIn
import Derived.Maps.AppendAt
import Derived.Laws.EntriesVeiled
import Derived.Deep.DeepFit
namespace Go.Proofs.Ytoifhkfkmhnngaa
open Go.ChangeShapes Go.WideShapes Go.ChangeAt Go.RowKit Go.Shelf
attribute [local go_sem] Oper.semAt_some

theorem gbelow0 {w w' : World} (h : Below w.heap.size w w') : w.grownBy w' none := ⟨h.os, h.tape, h.output, h.size, fun k hk _ => h.block k hk⟩
theorem below0 {w w' : World} (h : w.grownBy w' none) : Below w.heap.size w w' := ⟨h.os, h.tape, h.output, h.size, fun k hk => h.block k hk (by simp)⟩
theorem belowN {n : Nat} {w w' : World} (h : w.grownBy w' none) (hn : n ≤ w.heap.size) : Below n w w' := (below0 h).mono hn
/-- what a reading is: the disk's number, the value, whether it can be read -/
abbrev RX := Int × Int × Bool
abbrev encR (x : RX) : Array Value := #[.int .i64 x.1, .agg #[.int .i64 x.2.1, .bool x.2.2]]
def readR (l : List DZ) (r : Int) : List RX := l.map fun d => (d.n, d.readV r, d.canRead r)
theorem readR_next {l : List DZ} {k : Nat} (h : k < l.length) (r : Int) : readR (l.take (k + 1)) r = readR (l.take k) r ++ [(l[k].n, l[k].readV r, l[k].canRead r)] := by
  unfold readR; rw [List.take_succ_eq_append_getElem h, List.map_append]; rfl
abbrev vptr (b : Nat) : Value := .pointer (some ⟨b, 0, none⟩)
/-- what a round keeps: all that lay below n, and block c -/
def KpR (n c : Nat) (W W' : World) : Prop := Below n W W' ∧ W'.heap[c]? = W.heap[c]?
theorem KpR.refl (n c : Nat) (W : World) : KpR n c W W := ⟨Below.refl _ _, rfl⟩
theorem KpR.trans {n c : Nat} {A B C : World} (h : KpR n c A B) (k : KpR n c B C) : KpR n c A C := ⟨h.1.trans k.1, k.2.trans h.2⟩
theorem KpR.put {n c : Nat} {w : World} (hn : n ≤ w.heap.size) (hc : c < w.heap.size) (W : World) (l : Nat) (o o' : Obj) (hl : w.heap.size ≤ l) (h : W.heap[l]? = some o) (h1 : o.isCells = false) (h2 : o.isWalk = false) : KpR n c W (W.putObj l o') :=
  ⟨belowK_b hn W l o o' hl h h1 h2, World.putObj_heap_other (by omega)⟩
set_option maxRecDepth 100000 in
set_option maxHeartbeats 2000000 in
theorem readings1_in (n l b c : Nat) (v : Value) (ds : List DZ) (r : Int) (wf W : World) (J Jx : List RX → World → Prop) (hn : 1 ≤ n)
    (hJ : AbidesFrom W.heap.size J)
    (hY : ∀ pre x W1, J pre W1 → pre.length < ds.length → YieldAt Fence.wide (n - 1) Try.prog l (encR x) W1 fun e W' =>
      (e = .returned (.bool true) ∧ J (pre ++ [x]) W' ∧ KpR wf.heap.size c W1 W') ∨ (e = .returned (.bool false) ∧ Jx (pre ++ [x]) W'))
    (hB : Below wf.heap.size wf W) (hL : LD wf v ds) (hb : W.cell? ⟨b, 0, none⟩ = some v) (hc : W.cell? ⟨c, 0, none⟩ = some (.int .i64 r)) (h0 : J [] W) :
    CallsIn Fence.wide n Try.prog 53 #[.func (.yield l) #[] #[], vptr b, vptr c] W fun e W' => (∃ v, e = .returned v) ∧
      ((∃ ys, ys = readR ds r ∧ J ys W') ∨ (∃ pre, True ∧ Jx pre W')) := by
  obtain ⟨a, cap, rfl, hm⟩ := hL.form
  refine callsIn_of_wp Try.func53 rfl trivial ?_ rfl
  simp only [Try.ntmps53, List.size_toArray, List.length_cons, List.length_nil, Nat.reduceAdd, Nat.reduceSub, Array.replicate_succ, Array.replicate_zero, List.push_toArray, List.append_toArray, List.nil_append, List.cons_append]
  gi_wp2
  gi_loopw [10] (fun i wr => ∃ k : Nat, k ≤ ds.length ∧ i = .int .i64 k ∧ J (readR (ds.take k) r) wr ∧ Below wf.heap.size wf wr ∧ wr.cell? ⟨c, 0, none⟩ = some (.int .i64 r)) (fun i _ => ds.length - (intOf i).toNat)
  case atStart => exact ⟨0, Nat.zero_le _, rfl, h0, hB, hc⟩
  case round =>
    obtain ⟨k, hk, rfl, hj, B, hcc⟩ := hrel
    by_cases hlt : k < ds.length
    · have hki : (k : Int) < ds.length := by omega
      obtain ⟨g, o, ka, km, kc, na, nm, nc, rfl, x0, x1, x2, x3, D⟩ := (hL.kept (gbelow0 B)).at k hlt
      have B0 := Box4.new wr (.int .i64 ds[k].n) (.bool ds[k].dead) (.slice ka km kc) (.slice na nm nc) 47
      have G0 := galloc (grefl wr) (.cells #[.int .i64 ds[k].n, .bool ds[k].dead, .slice ka km kc, .slice na nm nc] 47)
      have hcc0 := gkc G0 hcc
      gi_wp2_with fail
      refine ⟨trivial, CallsIn.mono (callsIn_wide.2 (implRead_any _ _ ds[k] r _ (D.grew G0))) ?_⟩
      rintro e w2 ⟨rfl, g2⟩
      obtain ⟨b0, b1, b2, b3⟩ := B0.kept g2
      have hc2 := gkc g2 hcc0
      have j2 := hJ _ _ _ none hj (gtrans G0 g2) (fun _ e => by cases e)
      have HN := Lib.hid (readR_next hlt r)
      obtain ⟨fn, tmps, assign, body, hy, hR⟩ := hY _ (ds[k].n, ds[k].readV r, ds[k].canRead r) w2 j2 (by simp [readR]; omega)
      have BB := B.trans (belowN (gtrans G0 g2) B.size)
      clear x0 x1 x2 x3 D B0 G0 hcc0 hcc hj hY hb
      dsimp only [encR] at hy
      gi_wp2_with fail
      refine hR.mono ?_
      rintro e w3 (⟨rfl, j3, k3⟩ | ⟨rfl, j3⟩)
      · have hc3 := (World.cell?_of_block (a := ⟨c, 0, none⟩) k3.2).trans hc2
        gi_wp2_with fail
        go_roundw
        case rel => exact ⟨k + 1, by omega, by go_num, by rw [HN.out]; exact j3, BB.trans k3.1, hc3⟩
        case measure => simp [intOf]; omega
      · gi_wp2_with fail
        refine bodyPost_ret (results_none rfl _ _ _) rfl ?_
        exact ⟨⟨_, rfl⟩, .inr ⟨_, trivial, j3⟩⟩
    · obtain rfl : k = ds.length := by omega
      gi_wp2
      go_end0
      exact ⟨⟨_, rfl⟩, .inl ⟨_, by rw [List.take_length], hj⟩⟩
theorem readingsIn_any (a : Option Addr) (len cap : Nat) (r : Int) (w : World) :
    Calls Try.prog 37 #[.slice a len cap, .int .i64 r] w fun e w' => ∃ b c, e = .returned (.func (.func 53) #[] #[vptr b, vptr c]) ∧ w'.cell? ⟨b, 0, none⟩ = some (.slice a len cap) ∧ w'.cell? ⟨c, 0, none⟩ = some (.int .i64 r) ∧ w.grownBy w' none ∧ w.heap.size ≤ b ∧ w.heap.size ≤ c := by
  go_enter Try.func37, Try.ntmps37
  go_wp2_with fail
  go_ret
  exact ⟨w.heap.size, w.heap.size + 1, rfl, by simp [go_sem], by simp [go_sem], galloc (galloc (grefl _) _) _, Nat.le_refl _, by omega⟩
theorem livePlaces_any (a : Option Addr) (len cap : Nat) (w : World) :
    Calls Try.prog 33 #[.slice a len cap] w fun e w' => ∃ b, e = .returned (.func (.func 51) #[] #[vptr b]) ∧ w'.cell? ⟨b, 0, none⟩ = some (.slice a len cap) ∧ w.grownBy w' none ∧ w.heap.size ≤ b := by
  go_enter Try.func33, Try.ntmps33
  go_wp2_with fail
  go_ret
  exact ⟨w.heap.size, rfl, by simp [go_sem], galloc (grefl _) _, Nat.le_refl _⟩
theorem readings_stops (n b c : Nat) (v : Value) (ds : List DZ) (r : Int) (wf w : World) (hn : 1 ≤ n) (hB : Below wf.heap.size wf w) (hL : LD wf v ds) (hb : w.cell? ⟨b, 0, none⟩ = some v) (hc : w.cell? ⟨c, 0, none⟩ = some (.int .i64 r)) :
    SeqStopsK Fence.wide n Try.prog 53 #[vptr b, vptr c] encR (KpR wf.heap.size c) (fun ys => ys = readR ds r) (fun _ => True) ds.length w := fun l J Jx W hW hJ _ hY h0 =>
  readings1_in n l b c v ds r wf W J Jx hn hJ hY (hB.trans (hW.mono hB.size)) hL ((hW.cell (p := ⟨b, 0, none⟩) (World.block_lt_of_cell? w _ hb)).trans hb) ((hW.cell (p := ⟨c, 0, none⟩) (World.block_lt_of_cell? w _ hc)).trans hc) h0
/-- the sizes of the disks that are alive -/
def liveR (l : List DZ) : List Nat := (l.filter fun d => !d.dead).map fun d => d.m.length
theorem liveR_next {l : List DZ} {k : Nat} (h : k < l.length) : liveR (l.take (k + 1)) = if l[k].dead then liveR (l.take k) else liveR (l.take k) ++ [l[k].m.length] := by
  unfold liveR; rw [List.take_succ_eq_append_getElem h, List.filter_append]
  cases hd : l[k].dead <;> simp [hd]
theorem liveR_length (l : List DZ) : (liveR l).length ≤ l.length := by unfold liveR; rw [List.length_map]; exact List.length_filter_le _ _
abbrev encP (x : Nat) : Array Value := #[.int .i64 (x : Int)]
set_option maxRecDepth 100000 in
set_option maxHeartbeats 2000000 in
theorem live1_in (n l b : Nat) (v : Value) (ds : List DZ) (wf W : World) (J Jx : List Nat → World → Prop) (hn : 1 ≤ n)
    (hJ : AbidesFrom W.heap.size J)
    (hY : ∀ pre x W1, J pre W1 → pre.length < ds.length → YieldAt Fence.wide (n - 1) Try.prog l (encP x) W1 fun e W' =>
      (e = .returned (.bool true) ∧ J (pre ++ [x]) W' ∧ Below wf.heap.size W1 W') ∨ (e = .returned (.bool false) ∧ Jx (pre ++ [x]) W'))
    (hB : Below wf.heap.size wf W) (hL : LD wf v ds) (hb : W.cell? ⟨b, 0, none⟩ = some v) (h0 : J [] W) :
    CallsIn Fence.wide n Try.prog 51 #[.func (.yield l) #[] #[], vptr b] W fun e W' => (∃ v, e = .returned v) ∧
      ((∃ ys, ys = liveR ds ∧ J ys W') ∨ (∃ pre, (∃ k, k ≤ ds.length ∧ pre = liveR (ds.take k)) ∧ Jx pre W')) := by
  obtain ⟨a, cap, rfl, hm⟩ := hL.form
  refine callsIn_of_wp Try.func51 rfl trivial ?_ rfl
  simp only [Try.ntmps51, List.size_toArray, List.length_cons, List.length_nil, Nat.reduceAdd, Nat.reduceSub, Array.replicate_succ, Array.replicate_zero, List.push_toArray, List.append_toArray, List.nil_append, List.cons_append]
  gi_wp2
  gi_loopw [7] (fun i wr => ∃ k : Nat, k ≤ ds.length ∧ i = .int .i64 k ∧ J (liveR (ds.take k)) wr ∧ Below wf.heap.size wf wr) (fun i _ => ds.length - (intOf i).toNat)
  case atStart => exact ⟨0, Nat.zero_le _, rfl, h0, hB⟩
  case round =>
    obtain ⟨k, hk, rfl, hj, B⟩ := hrel
    by_cases hlt : k < ds.length
    · have hki : (k : Int) < ds.length := by omega
      obtain ⟨g, o, ka, km, kc, na, nm, nc, rfl, x0, x1, x2, x3, D⟩ := (hL.kept (gbelow0 B)).at k hlt
      have G0 := galloc (grefl wr) (.cells #[.int .i64 ds[k].n, .bool ds[k].dead, .slice ka km kc, .slice na nm nc] 47)
      obtain ⟨b0, b1, b2, b3⟩ := Box4.new wr (.int .i64 ds[k].n) (.bool ds[k].dead) (.slice ka km kc) (.slice na nm nc) 47
      have j2 := hJ _ _ _ none hj G0 (fun _ e => by cases e)
      have BB := B.trans (belowN G0 B.size)
      have HN := Lib.hid (liveR_next hlt)
      have hlen : (liveR (ds.take k)).length < ds.length := Nat.lt_of_le_of_lt (liveR_length _) (by simp; omega)
      have HNM : Hid (nm = ds[k].m.length) := D.2.bound.1
      have hnm : nm ≤ 9223372036854775807 := by have := D.2.bound; omega
      cases hd : ds[k].dead
      · rw [hd] at x1 b1 j2 BB HN
        obtain ⟨fn, tmps, assign, body, hy, hR⟩ := hY _ nm _ j2 hlen
        clear D hj hY hb G0
        dsimp only [encP] at hy
        gi_wp2_with fail
        refine hR.mono ?_
        rintro e w3 (⟨rfl, j3, k3⟩ | ⟨rfl, j3⟩)
        · gi_wp2_with fail
          go_roundw
          case rel => exact ⟨k + 1, by omega, by go_num, by rw [HN.out, ← HNM.out]; exact j3, BB.trans k3⟩
          case measure => simp [intOf]; omega
        · gi_wp2_with fail
          refine bodyPost_ret (results_none rfl _ _ _) rfl ?_
          exact ⟨⟨_, rfl⟩, .inr ⟨_, ⟨k + 1, by omega, by rw [HN.out, ← HNM.out]; rfl⟩, j3⟩⟩
      · rw [hd] at x1 b1 j2 BB HN
        clear D hj hY hb G0
        gi_wp2_with fail
        refine ⟨fun _ h => (by cases h), ?_⟩
        gi_wp2_with fail
        go_roundw
        case rel => exact ⟨k + 1, by omega, by go_num, by rw [HN.out]; exact j2, BB⟩
        case measure => simp [intOf]; omega
    · obtain rfl : k = ds.length := by omega
      gi_wp2
      go_end0
      exact ⟨⟨_, rfl⟩, .inl ⟨_, by rw [List.take_length], hj⟩⟩
theorem live_stops (n b : Nat) (v : Value) (ds : List DZ) (wf w : World) (hn : 1 ≤ n) (hB : Below wf.heap.size wf w) (hL : LD wf v ds) (hb : w.cell? ⟨b, 0, none⟩ = some v) :
    SeqStopsK Fence.wide n Try.prog 51 #[vptr b] encP (Below wf.heap.size) (fun ys => ys = liveR ds) (fun pre => ∃ k, k ≤ ds.length ∧ pre = liveR (ds.take k)) ds.length w := fun l J Jx W hW hJ _ hY h0 =>
  live1_in n l b v ds wf W J Jx hn hJ hY (hB.trans (hW.mono hB.size)) hL ((hW.cell (p := ⟨b, 0, none⟩) (World.block_lt_of_cell? w _ hb)).trans hb) h0
end Go.Proofs.Ytoifhkfkmhnngaa
