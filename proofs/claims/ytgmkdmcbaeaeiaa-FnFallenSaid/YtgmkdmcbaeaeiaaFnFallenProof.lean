/-
  Proved: for every input the law FnFallen returns true and leaves its argument as it was; no condition. (The frame is the kit's skeleton.)
-/
import Derived.Test.YtgmkdmcbaeaeiaaRows
import Derived.WalkKit
import Derived.ProofKit
import Derived.OpenShut
import Derived.ShutString
import Derived.ChangeOld
import Derived.Below
import Derived.Test.YtgmkdmcbaeaeiaaSpecL03b
import Derived.Test.YtgmkdmcbaeaeiaaSpecL03g
import Derived.Test.YtgmkdmcbaeaeiaaImplL03e
import Derived.Test.YtgmkdmcbaeaeiaaImplL03f
import Derived.Test.YtgmkdmcbaeaeiaaDrawL03c
import Derived.Test.YtgmkdmcbaeaeiaaDrawL03d
import Derived.Test.YtgmkdmcbaeaeiaaLawBase
import Derived.Test.YtgmkdmcbaeaeiaaLawL03d
import Derived.Test.YtgmkdmcbaeaeiaaVarL03
import Derived.Deep.RegionHeld3
import Derived.Deep.DeepFit
import Derived.Deep.DeepCutAuto
namespace Go.Proofs.Ytgmkdmcbaeaeiaa.fnFallen
open Go.ChangeShapes Go.WideShapes Go.ChangeAt Go.RowKit
open Go.ChangeMaps (open_string shut_string)
set_option linter.unusedVariables false

theorem own : ownKnob Try.prog.godebug = none := by kernel_rfl
theorem laidOut : laidOutB Try.prog = true := by kernel_rfl

/-- WHAT THE WALK IS TOLD OF A SLICE OF INTEGERS THAT CAME IN: it is nil; or it leads to a row of 'cap' cells, the numbers 'zs' (the first 'len' are its elements, the rest its spare room), each fitting its kind. -/
def IsRow (k : IntKind) (w : World) (a : Option Addr) (len cap : Nat) (zs : List Int) : Prop :=
  (a = none ∧ len = 0 ∧ cap = 0 ∧ zs = []) ∨
  ∃ x, a = some x ∧ len ≤ cap ∧ cap ≤ maxLen ∧ zs.length = cap ∧ (∀ i, i < zs.length → w.cell? (x.add i) = some (.int k (zs.getD i 0))) ∧ ∀ n ∈ zs, (Lit.int k n).wf = true

theorem fallL_self (s : Int) (l : List (Int × Int)) : fallL s l l = l := by
  apply List.ext_getElem (by simp [fallL])
  intro i h1 h2
  have h3 : i < l.length := h2
  simp [fallL, h3]
theorem DZ.flushed_fallen {f : DZ} {s : Int} (h : f.ok = true) (hs : inB s 0 65535 = true) : f.flushed.fallen s = f.flushed := by
  have e : f.flushed = { f with k := f.m } := by simp [DZ.flushed, h]
  have hfall : ({ f with k := f.m } : DZ).fall s = { f with k := f.m } := by simp only [DZ.fall, fallL_self]
  have hok : ({ f with k := f.m } : DZ).ok = true := by
    obtain ⟨n, dead, k, m⟩ := f
    cases dead
    · simp only [DZ.ok, Bool.and_eq_true, Bool.false_eq_true, if_false] at h ⊢
      exact ⟨h.1, h.2.2.1, h.2.2.1, by simp⟩
    · simp only [DZ.ok, Bool.and_eq_true, if_true] at h ⊢
      exact ⟨h.1, h.2.2, h.2.2⟩
  rw [e, DZ.fallen, if_pos hok, if_pos hs, hfall]
theorem DZ.fall_ok {d : DZ} {s : Int} (h : d.ok = true) : (d.fall s).ok = true := by
  have hl := d.ok_len h
  obtain ⟨n, dead, k, m⟩ := d
  dsimp only at hl
  cases dead
  · simp only [DZ.ok, DZ.fall, cellsZ, Bool.and_eq_true, Bool.false_eq_true, if_false, fallL_length] at h ⊢
    obtain ⟨h1, ⟨h2, h3⟩, ⟨h4, h5⟩, h6⟩ := h
    have ha : (fallL s k m).all okc = true := by
      rw [List.all_eq_true]; intro x hx
      simp only [fallL, List.mem_map, List.mem_range] at hx
      obtain ⟨i, hi, rfl⟩ := hx
      split
      · rw [List.getD_eq_getElem?_getD, List.getElem?_eq_getElem hi]; exact List.all_eq_true.1 h4 _ (List.getElem_mem _)
      · rw [List.getD_eq_getElem?_getD, List.getElem?_eq_getElem (by omega)]; exact List.all_eq_true.1 h2 _ (List.getElem_mem _)
    exact ⟨h1, ⟨ha, h5⟩, ⟨ha, h5⟩, by simp⟩
  · simp only [DZ.ok, DZ.fall, Bool.and_eq_true, if_true, fallL_length] at h ⊢
    exact ⟨h.1, h.2.2, h.2.2⟩
abbrev TkS (w' : World) (b5 : Nat) (x3 x2 : Value) (g5 g4 o : Nat) (y0 y1 : Value) (b9 : Nat) (u v : Int) : Prop := w'.cell? ⟨b5, 3, none⟩ = some x3 ∧ w'.cell? ⟨b5, 2, none⟩ = some x2 ∧ TwoO w' g5 o y0 y1 ∧ TwoO w' g4 o y0 y1 ∧ TwoR w' b9 u v
abbrev LS4 (w' : World) (b1 : Nat) (x0 x1 x2 x3 : Value) (b2 : Nat) (y0 y1 y2 y3 : Value) (b3 : Nat) (z0 z1 z2 z3 : Value) (b4 : Nat) (t0 t1 t2 t3 : Value) : Prop := Box4 w' b1 x0 x1 x2 x3 ∧ Box4 w' b2 y0 y1 y2 y3 ∧ Box4 w' b3 z0 z1 z2 z3 ∧ Box4 w' b4 t0 t1 t2 t3
section
variable {w' w2 : World} {b1 b2 b3 b4 : Nat} {x0 x1 x2 x3 y0 y1 y2 y3 z0 z1 z2 z3 t0 t1 t2 t3 : Value}
theorem LS4.kept (h : LS4 w' b1 x0 x1 x2 x3 b2 y0 y1 y2 y3 b3 z0 z1 z2 z3 b4 t0 t1 t2 t3) (g : w'.grownBy w2 none) : LS4 w2 b1 x0 x1 x2 x3 b2 y0 y1 y2 y3 b3 z0 z1 z2 z3 b4 t0 t1 t2 t3 := ⟨h.1.kept g, h.2.1.kept g, h.2.2.1.kept g, h.2.2.2.kept g⟩
theorem LS4.drew (h : LS4 w' b1 x0 x1 x2 x3 b2 y0 y1 y2 y3 b3 z0 z1 z2 z3 b4 t0 t1 t2 t3) : LS4 w'.drew b1 x0 x1 x2 x3 b2 y0 y1 y2 y3 b3 z0 z1 z2 z3 b4 t0 t1 t2 t3 := h
end

/-! ### STEP 1: THE WALK: the Go text returns true, AND WRITES NOTHING THAT WAS THERE: 'Below w.heap.size w w'' (Derived/Below.lean: '.refl', '.alloc', '.drew', '.setCell' at a new block, '.trans'). Open each 'IsRow' by 'rcases' AHEAD of 'go_enter'; part every test ahead of the walk. -/
set_option maxRecDepth 100000 in
set_option maxHeartbeats 4000000 in
theorem walk (a0 : Option Addr) (len0 cap0 : Nat) (z0 : List Int) (w : World) (w0 : IsRow .u8 w a0 len0 cap0 z0) :
    Calls Try.prog 4 #[.slice a0 len0 cap0] w fun e w' => e = .returned (.bool true) ∧ Below w.heap.size w w' := by
  by_cases hb : 4096 < len0
  · go_enter Try.func4, Try.ntmps4
    go_wp2_with fail
    refine (big_yes _ _ _ _ hb).mono ?_
    rintro e w' ⟨rfl, rfl⟩
    go_wp2_with fail
    go_ret
    exact ⟨rfl, Below.refl _ _⟩
  have hR := codeAt_of w0 (by omega)
  clear w0
  have G := grefl w
  go_enter Try.func4, Try.ntmps4
  go_wp2_with fail
  refine (big_no _ _ _ _ (by omega)).mono ?_
  rintro e w' ⟨rfl, rfl⟩
  clear hb
  go_wp2_with fail
  go_fit (drawFallen_any _ _ _ _ hR)
  rintro e w1 ⟨d, kv3, nv3, st, rfl, i1, -, lk, lm, bs, g1⟩
  have e1 := galloc g1 (.cells #[.int .i64 d.n, .bool d.dead, kv3, nv3] 26)
  replace G := gtrans G e1
  have L3 := Loc.new i1 26
  obtain ⟨ka3, km3, kc3, rfl⟩ := i1.1.sl
  obtain ⟨na3, nm3, nc3, rfl⟩ := i1.2.sl
  clear e1 g1 i1
  go_upto_region 4 with (fail)
  generalize w1.alloc (.cells #[.int .i64 d.n, .bool d.dead, .slice ka3 km3 kc3, .slice na3 nm3 nc3] 26) = W1 at *
  generalize w1.heap.size = b3 at *
  obtain ⟨p30, p31, p32, p33⟩ := L3.b4
  go_wp2_with fail
  go_fit (implFallen_any _ _ d st _ L3.isD)
  rintro e w2 ⟨kv5, nv5, rfl, i2, -, g2⟩
  generalize hx : d.fallen st = x at *
  replace hx := Lib.hid hx
  clear p30 p31 p32 p33
  have e2 := galloc g2 (.cells #[.int .i64 x.n, .bool x.dead, kv5, nv5] 26)
  replace G := gtrans G e2
  replace L3 := L3.kept e2
  have L5 := Loc.new i2 26
  obtain ⟨ka5, km5, kc5, rfl⟩ := i2.1.sl
  obtain ⟨na5, nm5, nc5, rfl⟩ := i2.2.sl
  clear e2 g2 i2
  go_upto_region 5 with (fail)
  generalize w2.alloc (.cells #[.int .i64 x.n, .bool x.dead, .slice ka5 km5 kc5, .slice na5 nm5 nc5] 26) = W2 at *
  generalize w2.heap.size = b5 at *
  go_wp2_with fail
  go_fit (drawFlushed_any _ _ _ _ (hR.kept (gbelow G)))
  rintro e w3 ⟨f, kv6, nv6, rfl, i3, -, fk, fm, g3⟩
  have e3 := galloc g3 (.cells #[.int .i64 f.n, .bool f.dead, kv6, nv6] 26)
  replace G := gtrans G e3
  replace L3 := L3.kept e3
  replace L5 := L5.kept e3
  have L6 := Loc.new i3 26
  obtain ⟨ka6, km6, kc6, rfl⟩ := i3.1.sl
  obtain ⟨na6, nm6, nc6, rfl⟩ := i3.2.sl
  clear e3 g3 i3
  go_upto_region 6 with (fail)
  generalize w3.alloc (.cells #[.int .i64 f.n, .bool f.dead, .slice ka6 km6 kc6, .slice na6 nm6 nc6] 26) = W3 at *
  generalize w3.heap.size = b6 at *
  obtain ⟨p60, p61, p62, p63⟩ := L6.b4
  go_wp2_with fail
  go_fit (implFlushed_any _ _ f _ L6.isD)
  rintro e w4 ⟨kv7, nv7, rfl, i4, -, g4⟩
  generalize hy : f.flushed = y at *
  replace hy := Lib.hid hy
  clear p60 p61 p62 p63
  have e4 := galloc g4 (.cells #[.int .i64 y.n, .bool y.dead, kv7, nv7] 26)
  replace G := gtrans G e4
  replace L3 := L3.kept e4
  replace L5 := L5.kept e4
  replace L6 := L6.kept e4
  have L7 := Loc.new i4 26
  obtain ⟨ka7, km7, kc7, rfl⟩ := i4.1.sl
  obtain ⟨na7, nm7, nc7, rfl⟩ := i4.2.sl
  clear e4 g4 i4
  go_upto_region 7 with (fail)
  generalize w4.alloc (.cells #[.int .i64 y.n, .bool y.dead, .slice ka7 km7 kc7, .slice na7 nm7 nc7] 26) = W4 at *
  generalize w4.heap.size = b7 at *
  have S0 : LS4 W4 b3 (.int .i64 d.n) (.bool d.dead) (.slice ka3 km3 kc3) (.slice na3 nm3 nc3) b5 (.int .i64 x.n) (.bool x.dead) (.slice ka5 km5 kc5) (.slice na5 nm5 nc5) b6 (.int .i64 f.n) (.bool f.dead) (.slice ka6 km6 kc6) (.slice na6 nm6 nc6) b7 (.int .i64 y.n) (.bool y.dead) (.slice ka7 km7 kc7) (.slice na7 nm7 nc7) := ⟨L3.b4, L5.b4, L6.b4, L7.b4⟩
  go_cut [36] (fun c wc => c = .bool false ∧ W4.grownBy wc none)
  case first =>
    have D := gdrew (grefl W4) 1
    go_region_held3 (fun w' => LS4 w' b3 (.int .i64 d.n) (.bool d.dead) (.slice ka3 km3 kc3) (.slice na3 nm3 nc3) b5 (.int .i64 x.n) (.bool x.dead) (.slice ka5 km5 kc5) (.slice na5 nm5 nc5) b6 (.int .i64 f.n) (.bool f.dead) (.slice ka6 km6 kc6) (.slice na6 nm6 nc6) b7 (.int .i64 y.n) (.bool y.dead) (.slice ka7 km7 kc7) (.slice na7 nm7 nc7)) (first | assumption | exact S0.drew | exact LS4.kept ‹LS4 _ _ _ _ _ _ _ _ _ _ _ _ _ _ _ _ _ _ _ _ _› ‹World.grownBy _ _ none›) (first | (go_at_call 33; go_fit (specFallen_any _ _ d st _ (L3.isD.grew D)); rintro e w8 ⟨kv8, nv8, rfl, i8, -, g8⟩; rw [hx.out] at i8 ⊢; obtain ⟨ka8, km8, kc8, rfl⟩ := i8.1.sl; obtain ⟨na8, nm8, nc8, rfl⟩ := i8.2.sl) | (go_at_call 21; go_fit (likeDisk_yes _ _ _ _ x _ (L5.isD.grew (gtrans D g8)) ⟨i8.1.lower (Nat.zero_le _), i8.2.lower (Nat.zero_le _)⟩); rintro e w9 ⟨rfl, g9⟩) | (go_at_call 34; go_fit (specFlushed_any _ _ f _ (L6.isD.grew (gtrans D (gtrans g8 g9)))); rintro e w10 ⟨kv10, nv10, rfl, i10, -, g10⟩; rw [hy.out] at i10 ⊢; obtain ⟨ka10, km10, kc10, rfl⟩ := i10.1.sl; obtain ⟨na10, nm10, nc10, rfl⟩ := i10.2.sl) | (go_at_call 21; go_fit (likeDisk_yes _ _ _ _ y _ (L7.isD.grew (gtrans D (gtrans g8 (gtrans g9 g10)))) ⟨i10.1.lower (Nat.zero_le _), i10.2.lower (Nat.zero_le _)⟩); rintro e w11 ⟨rfl, g11⟩))
    go_wp2_with fail
    go_meet
    exact ⟨rfl, gtrans D (gtrans g8 (gtrans g9 (gtrans g10 g11)))⟩
  case rest =>
    obtain ⟨rfl, g11⟩ := hcut
    replace G := gtrans G g11
    replace L3 := L3.kept g11
    replace L5 := L5.kept g11
    replace L6 := L6.kept g11
    replace L7 := L7.kept g11
    clear g11 S0
    go_upto_region 9 with (fail)
    go_cut [70] (fun c w9 => c = .bool false ∧ wc.grownBy w9 none)
    case first =>
      cases hfo : f.ok
      · go_wp2_with fail
        refine region_calm (fun w' => Box4 w' b6 (.int .i64 f.n) (.bool f.dead) (.slice ka6 km6 kc6) (.slice na6 nm6 nc6) ∧ wc.grownBy w' none) (by kernel_rfl) (by kernel_rfl) (⟨L6.b4, gdrew (grefl _) 1⟩) ?_
        repeat (first
          | (refine calm_skip (by rfl) ?_; simp only [Act.put, List.setIfInBounds_toArray, List.set_cons_zero, List.set_cons_succ])
          | (refine calm_step (by rfl) ?_
             apply Exists.intro
             refine ⟨fun w' hw' => ?_, ?_⟩
             · go_simp
               first | done | exact rfl | (go_at_call 23; go_fit (specDiskOk_any _ _ f _ (L6.isD.grew hw'.2)); rintro e w9 ⟨rfl, g9⟩; rw [hfo]; exact ⟨rfl, And.intro (hw'.1.kept g9) (gtrans hw'.2 g9)⟩)
             simp only [Act.put, List.setIfInBounds_toArray, List.set_cons_zero, List.set_cons_succ]))
        refine calm_nil ?_
        intro w9 hw9
        go_wp2_with fail
        go_meet
        exact ⟨rfl, hw9.2⟩
      have hyk : y.k = f.m := by rw [← hy.out]; simp [DZ.flushed, hfo]
      have hym : y.m = f.m := by rw [← hy.out]; simp [DZ.flushed, hfo]
      have hk7 := L7.isD.1
      have hn7 := L7.isD.2
      have hn6 := L6.isD.2
      rw [hyk] at hk7
      rw [hym] at hn7
      obtain rfl := hk7.bound.1
      obtain rfl := hn7.bound.1
      obtain rfl := hn6.bound.1
      by_cases h1 : 0 ≤ st
      · by_cases h2 : st ≤ 65535
        · have hyf : Hid (y.fallen st = y) := by show _ = _; rw [← hy.out]; exact DZ.flushed_fallen hfo (inB_yes h1 h2)
          clear hyk hym
          have S0 : LS wc b6 (.int .i64 f.n) (.bool f.dead) (.slice ka6 km6 kc6) (.slice na6 f.m.length nc6) b7 (.int .i64 y.n) (.bool y.dead) (.slice ka7 f.m.length kc7) (.slice na7 f.m.length nc7) := ⟨L6.b4, L7.b4⟩
          have D := gdrew (grefl wc) 1
          go_wp2_with fail
          go_region_held3 (fun w' => LS w' b6 (.int .i64 f.n) (.bool f.dead) (.slice ka6 km6 kc6) (.slice na6 f.m.length nc6) b7 (.int .i64 y.n) (.bool y.dead) (.slice ka7 f.m.length kc7) (.slice na7 f.m.length nc7)) (first | assumption | exact S0.drew | exact LS.kept ‹LS _ _ _ _ _ _ _ _ _ _ _› ‹World.grownBy _ _ none›) (first | (go_at_call 23; go_fit (specDiskOk_any _ _ f _ (L6.isD.grew D)); rintro e w8 ⟨rfl, g8⟩; rw [hfo]) | (go_at_call 28; go_fit (likeCells_yes _ _ _ _ f.m _ (hk7.grew (gtrans D g8)) (hn6.grew (gtrans D g8))); rintro e w9 ⟨rfl, g9⟩) | (go_at_call 28; go_fit (likeCells_yes _ _ _ _ f.m _ (hn7.grew (gtrans D (gtrans g8 g9))) (hn6.grew (gtrans D (gtrans g8 g9)))); rintro e w10 ⟨rfl, g10⟩) | (go_at_call 30; go_fit (implFallen_any _ _ y st _ (L7.isD.grew (gtrans D (gtrans g8 (gtrans g9 g10))))); rintro e w11 ⟨kv11, nv11, rfl, i11, -, g11⟩; rw [hyf.out] at i11 ⊢; obtain ⟨ka11, km11, kc11, rfl⟩ := i11.1.sl; obtain ⟨na11, nm11, nc11, rfl⟩ := i11.2.sl) | (go_at_call 21; go_fit (likeDisk_yes _ _ _ _ y _ ⟨i11.1.lower (Nat.zero_le _), i11.2.lower (Nat.zero_le _)⟩ (L7.isD.grew (gtrans D (gtrans g8 (gtrans g9 (gtrans g10 g11)))))); rintro e w12 ⟨rfl, g12⟩))
          go_wp2_with fail
          go_meet
          exact ⟨rfl, gtrans D (gtrans g8 (gtrans g9 (gtrans g10 (gtrans g11 g12))))⟩
        · have h2' : decide (st ≤ 65535) = false := by simpa using h2
          clear hyk hym
          go_wp2_with fail
          refine region_calm (fun w' => Box4 w' b6 (.int .i64 f.n) (.bool f.dead) (.slice ka6 km6 kc6) (.slice na6 f.m.length nc6) ∧ Box4 w' b7 (.int .i64 y.n) (.bool y.dead) (.slice ka7 f.m.length kc7) (.slice na7 f.m.length nc7) ∧ wc.grownBy w' none) (by kernel_rfl) (by kernel_rfl) (⟨L6.b4, L7.b4, gdrew (grefl _) 1⟩) ?_
          repeat (first
            | (refine calm_skip (by rfl) ?_; simp only [Act.put, List.setIfInBounds_toArray, List.set_cons_zero, List.set_cons_succ])
            | (refine calm_step (by rfl) ?_
               apply Exists.intro
               refine ⟨fun w' hw' => ?_, ?_⟩
               · go_simp
                 first | done | exact rfl | (go_at_call 23; go_fit (specDiskOk_any _ _ f _ (L6.isD.grew hw'.2.2)); rintro e w9 ⟨rfl, g9⟩; rw [hfo]; exact ⟨rfl, And.intro (hw'.1.kept g9) (And.intro (hw'.2.1.kept g9) (gtrans hw'.2.2 g9))⟩) | (go_at_call 28; go_fit (likeCells_yes _ _ _ _ f.m _ (hk7.grew hw'.2.2) (hn6.grew hw'.2.2)); rintro e w9 ⟨rfl, g9⟩; exact ⟨rfl, And.intro (hw'.1.kept g9) (And.intro (hw'.2.1.kept g9) (gtrans hw'.2.2 g9))⟩) | (go_at_call 28; go_fit (likeCells_yes _ _ _ _ f.m _ (hn7.grew hw'.2.2) (hn6.grew hw'.2.2)); rintro e w9 ⟨rfl, g9⟩; exact ⟨rfl, And.intro (hw'.1.kept g9) (And.intro (hw'.2.1.kept g9) (gtrans hw'.2.2 g9))⟩)
               simp only [Act.put, List.setIfInBounds_toArray, List.set_cons_zero, List.set_cons_succ]))
          refine calm_nil ?_
          intro w9 hw9
          go_wp2_with fail
          go_meet
          exact ⟨rfl, hw9.2.2⟩
      · have h1' : decide (0 ≤ st) = false := by simpa using h1
        clear hyk hym
        go_wp2_with fail
        refine region_calm (fun w' => Box4 w' b6 (.int .i64 f.n) (.bool f.dead) (.slice ka6 km6 kc6) (.slice na6 f.m.length nc6) ∧ Box4 w' b7 (.int .i64 y.n) (.bool y.dead) (.slice ka7 f.m.length kc7) (.slice na7 f.m.length nc7) ∧ wc.grownBy w' none) (by kernel_rfl) (by kernel_rfl) (⟨L6.b4, L7.b4, gdrew (grefl _) 1⟩) ?_
        repeat (first
          | (refine calm_skip (by rfl) ?_; simp only [Act.put, List.setIfInBounds_toArray, List.set_cons_zero, List.set_cons_succ])
          | (refine calm_step (by rfl) ?_
             apply Exists.intro
             refine ⟨fun w' hw' => ?_, ?_⟩
             · go_simp
               first | done | exact rfl | (go_at_call 23; go_fit (specDiskOk_any _ _ f _ (L6.isD.grew hw'.2.2)); rintro e w9 ⟨rfl, g9⟩; rw [hfo]; exact ⟨rfl, And.intro (hw'.1.kept g9) (And.intro (hw'.2.1.kept g9) (gtrans hw'.2.2 g9))⟩) | (go_at_call 28; go_fit (likeCells_yes _ _ _ _ f.m _ (hk7.grew hw'.2.2) (hn6.grew hw'.2.2)); rintro e w9 ⟨rfl, g9⟩; exact ⟨rfl, And.intro (hw'.1.kept g9) (And.intro (hw'.2.1.kept g9) (gtrans hw'.2.2 g9))⟩) | (go_at_call 28; go_fit (likeCells_yes _ _ _ _ f.m _ (hn7.grew hw'.2.2) (hn6.grew hw'.2.2)); rintro e w9 ⟨rfl, g9⟩; exact ⟨rfl, And.intro (hw'.1.kept g9) (And.intro (hw'.2.1.kept g9) (gtrans hw'.2.2 g9))⟩)
             simp only [Act.put, List.setIfInBounds_toArray, List.set_cons_zero, List.set_cons_succ]))
        refine calm_nil ?_
        intro w9 hw9
        go_wp2_with fail
        go_meet
        exact ⟨rfl, hw9.2.2⟩
    case rest =>
      obtain ⟨rfl, g12⟩ := hcut
      clear L6 L7 hy
      replace G := gtrans G g12
      replace L3 := L3.kept g12
      replace L5 := L5.kept g12
      clear g12
      cases hok : d.ok
      · obtain rfl : x = .zero := by rw [← hx.out]; simp [DZ.fallen, hok]
        obtain ⟨o0, o1, o2, o3⟩ := L3.b4
        go_wp2_with fail
        go_fit (specDiskOk_any _ _ d _ L3.isD)
        rintro e w20 ⟨rfl, g20⟩
        rw [hok]
        clear o0 o1 o2 o3
        obtain ⟨o0, o1, o2, o3⟩ := (L5.kept g20).b4
        go_wp2_with fail
        go_fit (likeDisk_yes _ _ _ _ .zero _ (L5.kept g20).isD (isD_zero _))
        rintro e w21 ⟨rfl, g21⟩
        go_wp2_with fail
        go_ret
        exact ⟨rfl, gbelow (gtrans G (gtrans g20 g21))⟩
      obtain ⟨o0, o1, o2, o3⟩ := L3.b4
      go_wp2_with fail
      go_fit (specDiskOk_any _ _ d _ L3.isD)
      rintro e w20 ⟨rfl, g20⟩
      rw [hok]
      clear o0 o1 o2 o3
      replace G := gtrans G g20
      replace L3 := L3.kept g20
      replace L5 := L5.kept g20
      clear g20
      by_cases hs : st < 0 ∨ 65535 < st
      · obtain rfl : d = x := by rw [← hx.out]; simp [DZ.fallen, hok, inB_no hs]
        clear hx hok
        obtain ⟨o0, o1, o2, o3⟩ := L3.b4
        obtain ⟨r0, r1, r2, r3⟩ := L5.b4
        rcases hs with hs | hs
        · have h1 : decide (st < 0) = true := decide_eq_true hs
          go_wp2_with fail
          go_fit (likeDisk_yes _ _ _ _ d _ L5.isD L3.isD)
          rintro e w21 ⟨rfl, g21⟩
          go_wp2_with fail
          go_ret
          exact ⟨rfl, gbelow (gtrans G g21)⟩
        · have h1 : decide (st < 0) = false := decide_eq_false (by omega)
          have h2 : decide (65535 < st) = true := decide_eq_true hs
          go_wp2_with fail
          go_fit (likeDisk_yes _ _ _ _ d _ L5.isD L3.isD)
          rintro e w21 ⟨rfl, g21⟩
          go_wp2_with fail
          go_ret
          exact ⟨rfl, gbelow (gtrans G g21)⟩
      have hs1 : 0 ≤ st := by omega
      have hs2 : st ≤ 65535 := by omega
      have h1 : decide (st < 0) = false := decide_eq_false (by omega)
      have h2 : decide (65535 < st) = false := decide_eq_false (by omega)
      obtain rfl : d.fall st = x := by rw [← hx.out]; simp [DZ.fallen, hok, inB_yes hs1 hs2]
      have hxo := Lib.hid (DZ.fall_ok (s := st) hok)
      have hxm : Hid ((d.fall st).m = fallL st d.k d.m) := rfl
      have hxk : Hid ((d.fall st).k = fallL st d.k d.m) := rfl
      have hkl := Lib.hid (d.ok_len hok).1
      have lm2 := (d.ok_len hok).2
      have hfl := Lib.hid (fallL_length st d.k d.m)
      have hfg : Hid (∀ i (_ : i < d.m.length) (h' : i < (fallL st d.k d.m).length), (fallL st d.k d.m)[i] = if bitOf st i then d.m.getD i (0, 0) else d.k.getD i (0, 0)) := fun i h _ => fallL_get st d.k d.m i h
      generalize d.fall st = x at *
      have hn3 := L3.isD.2
      have hk3 := L3.isD.1
      have hn5 := L5.isD.2
      have hk5 := L5.isD.1
      rw [hxm.out] at hn5
      rw [hxk.out] at hk5
      have e1 := hn3.bound.1
      have e2 := hk3.bound.1
      have e3 := hn5.bound.1
      have e4 := hk5.bound.1
      rw [hkl.out] at e2
      rw [hfl.out] at e3 e4
      subst e1
      subst e2
      subst e3
      subst e4
      generalize fallL st d.k d.m = fl at *
      clear hx hok hs
      obtain ⟨c30, c31, c32, c33⟩ := L3.b4
      obtain ⟨c50, c51, c52, c53⟩ := L5.b4
      go_wp2_with fail
      go_loopw [8] (fun i wr => ∃ k : Nat, k ≤ d.m.length ∧ i = .int .i64 k ∧ w20.grownBy wr none) (fun i _ => d.m.length - (intOf i).toNat)
      case atStart => exact ⟨0, Nat.zero_le _, rfl, grefl _⟩
      case round =>
        obtain ⟨k, hk, rfl, g⟩ := hrel
        have e33 := gkc g c33
        have e32 := gkc g c32
        have e53 := gkc g c53
        have e52 := gkc g c52
        by_cases hlt : k < d.m.length
        · have hi1 : (k : Int) < d.m.length := by omega
          have hlk : k < d.k.length := by rw [hkl.out]; exact hlt
          have hlf : k < fl.length := by rw [hfl.out]; exact hlt
          obtain ⟨g3, rfl, _, l3, ⟨q0, _⟩, ⟨q1, _⟩⟩ := (hn3.grew g).at k hlt
          obtain ⟨g2, rfl, _, l2, ⟨r0, _⟩, ⟨r1, _⟩⟩ := (hk3.grew g).at k hlk
          obtain ⟨g5, rfl, _, l5, ⟨s0, _⟩, ⟨s1, _⟩⟩ := (hn5.grew g).at k hlf
          obtain ⟨g4, rfl, _, l4, ⟨t0, _⟩, ⟨t1, _⟩⟩ := (hk5.grew g).at k hlf
          have hfgk := hfg.out k hlt hlf
          have hmk : d.m.getD k (0, 0) = d.m[k] := by simp [List.getD_eq_getElem?_getD, hlt]
          have hkk : d.k.getD k (0, 0) = d.k[k] := by simp [List.getD_eq_getElem?_getD, hlk]
          have hb3 := cell_lt e33
          have hb5 := cell_lt e53
          have hbt : ((st / 2 ^ k).tmod 2 == 1) = bitOf st k := by
            unfold bitOf; rw [Int.tmod_eq_emod_of_nonneg (Int.ediv_nonneg hs1 (by exact_mod_cast Nat.zero_le (2 ^ k)))]
          rw [hmk, hkk] at hfgk
          clear hmk hkk
          cases hbit : bitOf st k
          · rw [hbit] at hbt hfgk
            rw [if_neg (by simp)] at hfgk
            rw [hfgk] at s0 s1 t0 t1
            clear hfgk hbit q0 q1
            have gA := galloc (grefl wr) (.cells #[.int .i64 d.k[k].1, .int .i64 d.k[k].2] 43)
            have T9 := Two.new wr d.k[k].1 d.k[k].2 43
            have S9 : TkS _ _ _ _ _ _ _ _ _ _ _ _ := ⟨gkc gA e53, gkc gA e52, ⟨gkc gA s0, gkc gA s1⟩, ⟨gkc gA t0, gkc gA t1⟩, T9.r⟩
            go_upto_region 21 with (fail)
            generalize wr.alloc (.cells #[.int .i64 d.k[k].1, .int .i64 d.k[k].2] 43) = W9 at *
            generalize wr.heap.size = b9 at *
            clear T9 e33 e32 e53 e52 s0 s1 t0 t1 r0 r1
            go_wp2_with fail
            refine region_calm (fun w' => TkS w' b5 (.slice (some ⟨g5, 0, none⟩) d.m.length nc5) (.slice (some ⟨g4, 0, none⟩) d.m.length kc5) g5 g4 (k * 2) (.int .i64 d.k[k].1) (.int .i64 d.k[k].2) b9 d.k[k].1 d.k[k].2 ∧ w20.grownBy w' none) (by kernel_rfl) (by kernel_rfl) (⟨S9, gdrew (gtrans g gA) 1⟩) ?_
            repeat (first
              | (refine calm_skip (by rfl) ?_; simp only [Act.put, List.setIfInBounds_toArray, List.set_cons_zero, List.set_cons_succ])
              | (refine calm_step (by rfl) ?_
                 apply Exists.intro
                 refine ⟨fun w' hw' => ?_, ?_⟩
                 · go_simp
                   first | done | exact rfl | (fail)
                 simp only [Act.put, List.setIfInBounds_toArray, List.set_cons_zero, List.set_cons_succ]))
            refine calm_nil ?_
            intro w9 hw9
            go_wp2_with fail
            go_roundw
            case rel => exact ⟨k + 1, by omega, by go_num, hw9.2⟩
            case measure => simp [intOf]; omega
          · rw [hbit] at hbt hfgk
            rw [if_pos rfl] at hfgk
            rw [hfgk] at s0 s1 t0 t1
            clear hfgk hbit
            have gA := galloc (grefl wr) (.cells #[.int .i64 d.m[k].1, .int .i64 d.m[k].2] 43)
            have T9 := Two.new wr d.m[k].1 d.m[k].2 43
            have S9 : TkS _ _ _ _ _ _ _ _ _ _ _ _ := ⟨gkc gA e53, gkc gA e52, ⟨gkc gA s0, gkc gA s1⟩, ⟨gkc gA t0, gkc gA t1⟩, T9.r⟩
            go_upto_region 21 with (fail)
            generalize wr.alloc (.cells #[.int .i64 d.m[k].1, .int .i64 d.m[k].2] 43) = W9 at *
            generalize wr.heap.size = b9 at *
            clear T9 e33 e32 e53 e52 s0 s1 t0 t1 r0 r1 q0 q1
            go_wp2_with fail
            refine region_calm (fun w' => TkS w' b5 (.slice (some ⟨g5, 0, none⟩) d.m.length nc5) (.slice (some ⟨g4, 0, none⟩) d.m.length kc5) g5 g4 (k * 2) (.int .i64 d.m[k].1) (.int .i64 d.m[k].2) b9 d.m[k].1 d.m[k].2 ∧ w20.grownBy w' none) (by kernel_rfl) (by kernel_rfl) (⟨S9, gdrew (gtrans g gA) 1⟩) ?_
            repeat (first
              | (refine calm_skip (by rfl) ?_; simp only [Act.put, List.setIfInBounds_toArray, List.set_cons_zero, List.set_cons_succ])
              | (refine calm_step (by rfl) ?_
                 apply Exists.intro
                 refine ⟨fun w' hw' => ?_, ?_⟩
                 · go_simp
                   first | done | exact rfl | (fail)
                 simp only [Act.put, List.setIfInBounds_toArray, List.set_cons_zero, List.set_cons_succ]))
            refine calm_nil ?_
            intro w9 hw9
            go_wp2_with fail
            go_roundw
            case rel => exact ⟨k + 1, by omega, by go_num, hw9.2⟩
            case measure => simp [intOf]; omega
        · obtain ⟨o0, o1, o2, o3⟩ := (L5.kept g).b4
          go_wp2_with fail
          go_fit (implDiskOk_any _ _ x _ (L5.kept g).isD)
          rintro e w21 ⟨rfl, g21⟩
          rw [hxo.out]
          go_wp2_with fail
          go_ret
          exact ⟨rfl, gbelow (gtrans G (gtrans g g21))⟩

/-! ### THE ROW's STEP: WRITTEN OUT: LEAVE IT -/
set_option maxRecDepth 100000 in
theorem lifted (os : Os) (started : os.Started) (H : Type) (enc : TypeId × Value → H) :
    ReturnsInHanded {} Try.checked os 4 .any (Rows.fnFallenSpec.pre6 enc Try.prog Try.f4 Rows.fnFallenRow.domain false) (Rows.fnFallenSpec.post enc Try.prog Try.f4 false true false false) := by
  refine returnsInHanded_of_change (C := Try.checked) own started (by kernel_rfl) Try.func4
    (ChangeSpec.witness6 (enc := enc) (C := Try.checked) false ⟨#[], #[.slice none 0 0], []⟩ 8 (by kernel_rfl) (by kernel_rfl) (by kernel_rfl) (by kernel_rfl)) ?_
  intro W base args ds gs before hval0 hW hcnd _
  have hval : ∀ (j : Nat) t v, Try.f4.params[j]? = some t → args[j]? = some v → Value.okWide Try.prog W .any base t v := hval0
  have hW' := hW
  obtain ⟨p, q, hA0, hV, rfl, hfz, hnd⟩ := hW
  have hA : DataW.TrodAll enc Try.prog W 0 (fun _ => true) true Try.f4.params.toList args.toList ds p := hA0
  rw [Try.params4] at hA hval
  obtain ⟨v0, vs0, d0, ds0, p0, q0, hargs, rfl, rfl, h0, r0⟩ := trodAll_cons hA
  obtain ⟨rfl, rfl, rfl⟩ := trodAll_nil r0
  obtain rfl : args = #[v0] := by cases args; simp_all
  obtain ⟨rfl, rfl⟩ := trodVars_none hV
  obtain ⟨a0, len0, cap0, rfl⟩ := okWide_slice Try.underlying22 (hval 0 22 v0 rfl rfl)
  have k0 := h0
  have lt0 : ∀ x ∈ p0, x.block < W.heap.size := by obtain ⟨m, hm⟩ := k0; exact DataW.trod_lt m _ _ _ hm
  obtain ⟨z0, w0⟩ : ∃ zs, IsRow .u8 W a0 len0 cap0 zs := by
    obtain ⟨fuel, hf⟩ := h0
    rcases open_ints Try.underlying22 Try.underlying5 (by kernel_rfl) hf with ⟨hcs, _⟩ | ⟨x, l, c, zs, hcs, _, hl, hm, hz, _, hcell, hwz⟩
    · simp [Value.cells] at hcs
      obtain ⟨rfl, rfl, rfl⟩ := hcs
      exact ⟨[], .inl ⟨rfl, rfl, rfl, rfl⟩⟩
    · simp [Value.cells] at hcs
      obtain ⟨rfl, rfl, rfl⟩ := hcs
      exact ⟨zs, .inr ⟨_, rfl, hl, hm, by simpa using hz, hcell, hwz⟩⟩
  clear hA0 hval0
  refine (walk a0 len0 cap0 z0 W w0).mono fun e W' ⟨he, bel⟩ => ?_
  subst he
  exact ⟨_, rfl, _, _, _, [], _, [], hW', trodAll_mk1 (shut_bool Try.underlying4 _), (trodAll_cons_mk (Below.trod laidOut (by kernel_rfl) (of_decide_eq_true (by kernel_rfl)) k0 bel lt0) trodAll_mk0), rfl, bel.frame _, fun h => by cases h⟩

theorem over : Rows.fnFallenRow.holds Try.pinned (OpenSpec.ofChange Rows.fnFallenSpec) :=
  OpenClaim.holds_of_wide 4 Try.f4 rfl rfl rfl rfl rfl rfl rfl ⟨rfl, rfl, rfl, rfl, rfl⟩ rfl rfl rfl rfl rfl (by kernel_rfl) Try.func4 (by kernel_rfl)
    (of_decide_eq_true (by kernel_rfl)) (by unfold Func.isWrapper; first | (rw [if_pos (by decide +kernel)]; kernel_rfl) | (rw [if_neg (by decide +kernel)]; exact ⟨rfl, rfl⟩))
    (fun os started H enc _ => lifted os started H enc)

/-- ████ THE STATEMENT ████ -/
theorem proved : Rows.FnFallenSaid := over
#print axioms proved
end Go.Proofs.Ytgmkdmcbaeaeiaa.fnFallen
