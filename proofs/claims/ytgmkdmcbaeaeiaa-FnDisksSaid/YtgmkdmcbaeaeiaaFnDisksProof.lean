/-
  Proved: for every input the law FnDisks returns true and leaves its argument as it was; no condition. (The frame is the kit's skeleton.)
-/
import Derived.Test.YtgmkdmcbaeaeiaaRows
import Derived.WalkKit
import Derived.ProofKit
import Derived.OpenShut
import Derived.ShutString
import Derived.ChangeOld
import Derived.Below
import Derived.Test.YtgmkdmcbaeaeiaaSpecL03b
import Derived.Test.YtgmkdmcbaeaeiaaSpecL03g
import Derived.Test.YtgmkdmcbaeaeiaaImplL03e
import Derived.Test.YtgmkdmcbaeaeiaaImplL03f
import Derived.Test.YtgmkdmcbaeaeiaaDrawL03c
import Derived.Test.YtgmkdmcbaeaeiaaDrawL03d
import Derived.Test.YtgmkdmcbaeaeiaaLawBase
import Derived.Test.YtgmkdmcbaeaeiaaLawL03d
import Derived.Deep.RegionHeld3
import Derived.Deep.DeepFit
import Derived.Deep.DeepCutAuto
namespace Go.Proofs.Ytgmkdmcbaeaeiaa.fnDisks
open Go.ChangeShapes Go.WideShapes Go.ChangeAt Go.RowKit
open Go.ChangeMaps (open_string shut_string)
set_option linter.unusedVariables false

theorem own : ownKnob Try.prog.godebug = none := by kernel_rfl
theorem laidOut : laidOutB Try.prog = true := by kernel_rfl

/-- WHAT THE WALK IS TOLD OF A SLICE OF INTEGERS THAT CAME IN: it is nil; or it leads to a row of 'cap' cells, the numbers 'zs' (the first 'len' are its elements, the rest its spare room), each fitting its kind. -/
def IsRow (k : IntKind) (w : World) (a : Option Addr) (len cap : Nat) (zs : List Int) : Prop :=
  (a = none ∧ len = 0 ∧ cap = 0 ∧ zs = []) ∨
  ∃ x, a = some x ∧ len ≤ cap ∧ cap ≤ maxLen ∧ zs.length = cap ∧ (∀ i, i < zs.length → w.cell? (x.add i) = some (.int k (zs.getD i 0))) ∧ ∀ n ∈ zs, (Lit.int k n).wf = true

theorem put_k (d : DZ) (p v : Int) : (d.put p v).k = d.k := (put_len d p v).2
theorem put_l (d : DZ) (p v : Int) : (d.put p v).m.length = d.m.length := (put_len d p v).1
theorem put_get (d : DZ) (p v : Int) : ∀ k (h : k < d.m.length) (h' : k < (d.put p v).m.length), ¬ (k : Int) = p → (d.put p v).m[k] = d.m[k] := by
  unfold DZ.put; split
  · rename_i hm
    intro k h h' hne
    have h0 : 0 ≤ p := by simp [DZ.may, DZ.has] at hm; omega
    exact List.getElem_set_ne (by omega) _
  · intro k h h' _; rfl

/-! ### STEP 1: THE WALK: the Go text returns true, AND WRITES NOTHING THAT WAS THERE: 'Below w.heap.size w w'' (Derived/Below.lean: '.refl', '.alloc', '.drew', '.setCell' at a new block, '.trans'). Open each 'IsRow' by 'rcases' AHEAD of 'go_enter'; part every test ahead of the walk. -/
set_option maxRecDepth 100000 in
set_option maxHeartbeats 4000000 in
theorem walk (a0 : Option Addr) (len0 cap0 : Nat) (z0 : List Int) (w : World) (w0 : IsRow .u8 w a0 len0 cap0 z0) :
    Calls Try.prog 3 #[.slice a0 len0 cap0] w fun e w' => e = .returned (.bool true) ∧ Below w.heap.size w w' := by
  by_cases hb : 4096 < len0
  · go_enter Try.func3, Try.ntmps3
    go_wp2_with fail
    refine (big_yes _ _ _ _ hb).mono ?_
    rintro e w' ⟨rfl, rfl⟩
    go_wp2_with fail
    go_ret
    exact ⟨rfl, Below.refl _ _⟩
  have hR := codeAt_of w0 (by omega)
  clear w0
  have G := grefl w
  go_enter Try.func3, Try.ntmps3
  go_wp2_with fail
  refine (big_no _ _ _ _ (by omega)).mono ?_
  rintro e w' ⟨rfl, rfl⟩
  clear hb
  go_wp2_with fail
  go_fit (drawWritten_any _ _ _ _ hR)
  rintro e w1 ⟨d, kv3, nv3, p, v, rfl, i1, -, lk, lm, bp, bv, g1⟩
  have e1 := galloc g1 (.cells #[.int .i64 d.n, .bool d.dead, kv3, nv3] 26)
  replace G := gtrans G e1
  have L3 := Loc.new i1 26
  obtain ⟨ka3, km3, kc3, rfl⟩ := i1.1.sl
  obtain ⟨na3, nm3, nc3, rfl⟩ := i1.2.sl
  clear e1 g1 i1
  go_upto_region 4 with (fail)
  generalize w1.alloc (.cells #[.int .i64 d.n, .bool d.dead, .slice ka3 km3 kc3, .slice na3 nm3 nc3] 26) = W1 at *
  generalize w1.heap.size = b3 at *
  obtain ⟨p30, p31, p32, p33⟩ := L3.b4
  go_wp2_with fail
  go_fit (implWritten_any _ _ d p v _ L3.isD)
  rintro e w2 ⟨kv6, nv6, rfl, i2, -, g2⟩
  obtain ⟨is, his⟩ : ∃ is, Hid (d.wrote p v = is) := ⟨_, rfl⟩
  rw [his.out]
  generalize hx : d.written p v = x at *
  replace hx := Lib.hid hx
  clear p30 p31 p32 p33
  have e2 := galloc g2 (.cells #[.int .i64 x.n, .bool x.dead, kv6, nv6] 26)
  replace G := gtrans G e2
  replace L3 := L3.kept e2
  have L6 := Loc.new i2 26
  obtain ⟨ka6, km6, kc6, rfl⟩ := i2.1.sl
  obtain ⟨na6, nm6, nc6, rfl⟩ := i2.2.sl
  clear e2 g2 i2
  go_upto_region 5 with (fail)
  generalize w2.alloc (.cells #[.int .i64 x.n, .bool x.dead, .slice ka6 km6 kc6, .slice na6 nm6 nc6] 26) = W2 at *
  generalize w2.heap.size = b6 at *
  go_wp2_with fail
  go_fit (drawNewDisk_any _ _ _ _ (hR.kept (gbelow G)))
  rintro e w3 ⟨n, q, bn, bq, rfl, g3⟩
  replace G := gtrans G g3
  replace L3 := L3.kept g3
  replace L6 := L6.kept g3
  clear g3
  go_wp2_with fail
  go_fit (implNewDisk_any n q _)
  rintro e w4 ⟨kv10, nv10, rfl, i4, -, g4⟩
  obtain ⟨made, hmade⟩ : ∃ m, Hid (newOk n q = m) := ⟨_, rfl⟩
  rw [hmade.out]
  generalize hz : newD n q = z at *
  replace hz := Lib.hid hz
  have e4 := galloc g4 (.cells #[.int .i64 z.n, .bool z.dead, kv10, nv10] 26)
  replace G := gtrans G e4
  replace L3 := L3.kept e4
  replace L6 := L6.kept e4
  have L10 := Loc.new i4 26
  obtain ⟨ka10, km10, kc10, rfl⟩ := i4.1.sl
  obtain ⟨na10, nm10, nc10, rfl⟩ := i4.2.sl
  clear e4 g4 i4
  go_upto_region 7 with (fail)
  generalize w4.alloc (.cells #[.int .i64 z.n, .bool z.dead, .slice ka10 km10 kc10, .slice na10 nm10 nc10] 26) = W4 at *
  generalize w4.heap.size = b10 at *
  go_wp2_with fail
  go_fit (drawRead_any _ _ _ _ (hR.kept (gbelow G)))
  rintro e w5 ⟨r, kv12, nv12, at0, rfl, i5, -, rk, rm, ba, g5⟩
  have e5 := galloc g5 (.cells #[.int .i64 r.n, .bool r.dead, kv12, nv12] 26)
  replace G := gtrans G e5
  replace L3 := L3.kept e5
  replace L6 := L6.kept e5
  replace L10 := L10.kept e5
  have L12 := Loc.new i5 26
  obtain ⟨ka12, km12, kc12, rfl⟩ := i5.1.sl
  obtain ⟨na12, nm12, nc12, rfl⟩ := i5.2.sl
  clear e5 g5 i5
  go_upto_region 8 with (fail)
  generalize w5.alloc (.cells #[.int .i64 r.n, .bool r.dead, .slice ka12 km12 kc12, .slice na12 nm12 nc12] 26) = W5 at *
  generalize w5.heap.size = b12 at *
  obtain ⟨p120, p121, p122, p123⟩ := L12.b4
  go_wp2_with fail
  go_fit (implRead_any _ _ r at0 _ L12.isD)
  rintro e w6 ⟨rfl, g6⟩
  obtain ⟨rd, hrd⟩ : ∃ m, Hid (r.canRead at0 = m) := ⟨_, rfl⟩
  obtain ⟨ru, hru⟩ : ∃ m, Hid (r.readV at0 = m) := ⟨_, rfl⟩
  rw [hrd.out, hru.out]
  clear p120 p121 p122 p123
  replace G := gtrans G g6
  replace L3 := L3.kept g6
  replace L6 := L6.kept g6
  replace L10 := L10.kept g6
  replace L12 := L12.kept g6
  clear g6
  go_wp2_with fail
  go_fit (drawDied_any _ _ _ _ (hR.kept (gbelow G)))
  rintro e w7 ⟨t, kv16, nv16, rfl, i7, -, tk, tm, g7⟩
  have e7 := galloc g7 (.cells #[.int .i64 t.n, .bool t.dead, kv16, nv16] 26)
  replace G := gtrans G e7
  replace L3 := L3.kept e7
  replace L6 := L6.kept e7
  replace L10 := L10.kept e7
  replace L12 := L12.kept e7
  have L16 := Loc.new i7 26
  obtain ⟨ka16, km16, kc16, rfl⟩ := i7.1.sl
  obtain ⟨na16, nm16, nc16, rfl⟩ := i7.2.sl
  clear e7 g7 i7
  go_upto_region 10 with (fail)
  generalize w7.alloc (.cells #[.int .i64 t.n, .bool t.dead, .slice ka16 km16 kc16, .slice na16 nm16 nc16] 26) = W7 at *
  generalize w7.heap.size = b16 at *
  obtain ⟨p30, p31, p32, p33⟩ := L3.b4
  go_wp2_with fail
  go_fit (specWritten_any _ _ d p v _ L3.isD)
  rintro e w8 ⟨kv17, nv17, rfl, i8, -, g8⟩
  rw [his.out]
  rw [hx.out] at i8 ⊢
  clear p30 p31 p32 p33
  have e8 := galloc g8 (.cells #[.int .i64 x.n, .bool x.dead, kv17, nv17] 26)
  replace G := gtrans G e8
  replace L3 := L3.kept e8
  replace L6 := L6.kept e8
  replace L10 := L10.kept e8
  replace L12 := L12.kept e8
  replace L16 := L16.kept e8
  have L17 := Loc.new i8 26
  obtain ⟨ka17, km17, kc17, rfl⟩ := i8.1.sl
  obtain ⟨na17, nm17, nc17, rfl⟩ := i8.2.sl
  clear e8 g8 i8
  go_upto_region 11 with (fail)
  generalize w8.alloc (.cells #[.int .i64 x.n, .bool x.dead, .slice ka17 km17 kc17, .slice na17 nm17 nc17] 26) = W8 at *
  generalize w8.heap.size = b17 at *
  go_wp2_with fail
  refine region_calm (fun w' => Box4 w' b6 (.int .i64 x.n) (.bool x.dead) (.slice ka6 km6 kc6) (.slice na6 nm6 nc6) ∧ Box4 w' b17 (.int .i64 x.n) (.bool x.dead) (.slice ka17 km17 kc17) (.slice na17 nm17 nc17) ∧ Box4 w' b3 (.int .i64 d.n) (.bool d.dead) (.slice ka3 km3 kc3) (.slice na3 nm3 nc3) ∧ Box4 w' b16 (.int .i64 t.n) (.bool t.dead) (.slice ka16 km16 kc16) (.slice na16 nm16 nc16) ∧ W8.grownBy w' none) (by kernel_rfl) (by kernel_rfl) (⟨L6.b4, L17.b4, L3.b4, L16.b4, gdrew (grefl _) 1⟩) ?_
  repeat (first
    | (refine calm_skip (by rfl) ?_; simp only [Act.put, List.setIfInBounds_toArray, List.set_cons_zero, List.set_cons_succ])
    | (refine calm_step (by rfl) ?_
       apply Exists.intro
       refine ⟨fun w' hw' => ?_, ?_⟩
       · go_simp
         first | done | exact rfl | (go_at_call 21; go_fit (likeDisk_yes _ _ _ _ x _ (L6.isD.grew hw'.2.2.2.2) (L17.isD.grew hw'.2.2.2.2)); rintro e w9 ⟨rfl, g9⟩; exact ⟨rfl, And.intro (hw'.1.kept g9) (And.intro (hw'.2.1.kept g9) (And.intro (hw'.2.2.1.kept g9) (And.intro (hw'.2.2.2.1.kept g9) (gtrans hw'.2.2.2.2 g9))))⟩) | (go_at_call 22; go_fit (implDiskOk_any _ _ d _ (L3.isD.grew hw'.2.2.2.2)); rintro e w9 ⟨rfl, g9⟩; exact ⟨rfl, And.intro (hw'.1.kept g9) (And.intro (hw'.2.1.kept g9) (And.intro (hw'.2.2.1.kept g9) (And.intro (hw'.2.2.2.1.kept g9) (gtrans hw'.2.2.2.2 g9))))⟩) | (go_at_call 23; go_fit (specDiskOk_any _ _ d _ (L3.isD.grew hw'.2.2.2.2)); rintro e w9 ⟨rfl, g9⟩; exact ⟨rfl, And.intro (hw'.1.kept g9) (And.intro (hw'.2.1.kept g9) (And.intro (hw'.2.2.1.kept g9) (And.intro (hw'.2.2.2.1.kept g9) (gtrans hw'.2.2.2.2 g9))))⟩) | (go_at_call 24; go_fit (implDied_pure _ _ t _ (L16.isD.grew hw'.2.2.2.2)); rintro e w9 ⟨rfl, g9⟩; exact ⟨rfl, And.intro (hw'.1.kept g9) (And.intro (hw'.2.1.kept g9) (And.intro (hw'.2.2.1.kept g9) (And.intro (hw'.2.2.2.1.kept g9) (gtrans hw'.2.2.2.2 g9))))⟩) | (go_at_call 25; go_fit (specDied_pure _ _ t _ (L16.isD.grew hw'.2.2.2.2)); rintro e w9 ⟨rfl, g9⟩; exact ⟨rfl, And.intro (hw'.1.kept g9) (And.intro (hw'.2.1.kept g9) (And.intro (hw'.2.2.1.kept g9) (And.intro (hw'.2.2.2.1.kept g9) (gtrans hw'.2.2.2.2 g9))))⟩) | (go_at_call 21; go_fit (likeDisk_yes _ _ _ _ t.died _ (isD_died _ t) (isD_died _ t)); rintro e w9 ⟨rfl, g9⟩; exact ⟨rfl, And.intro (hw'.1.kept g9) (And.intro (hw'.2.1.kept g9) (And.intro (hw'.2.2.1.kept g9) (And.intro (hw'.2.2.2.1.kept g9) (gtrans hw'.2.2.2.2 g9))))⟩)
       simp only [Act.put, List.setIfInBounds_toArray, List.set_cons_zero, List.set_cons_succ]))
  refine calm_nil ?_
  intro w9 hw9
  clear L17
  obtain ⟨-, -, -, -, g9⟩ := hw9
  replace G := gtrans G g9
  replace L3 := L3.kept g9
  replace L6 := L6.kept g9
  replace L10 := L10.kept g9
  replace L12 := L12.kept g9
  replace L16 := L16.kept g9
  clear g9
  go_wp2_with fail
  go_fit (specNewDisk_any n q _)
  rintro e w9 ⟨kv19, nv19, rfl, i10, -, g10⟩
  rw [hmade.out]
  rw [hz.out] at i10 ⊢
  have e9 := galloc g10 (.cells #[.int .i64 z.n, .bool z.dead, kv19, nv19] 26)
  replace G := gtrans G e9
  replace L3 := L3.kept e9
  replace L6 := L6.kept e9
  replace L10 := L10.kept e9
  replace L12 := L12.kept e9
  replace L16 := L16.kept e9
  have L19 := Loc.new i10 26
  obtain ⟨ka19, km19, kc19, rfl⟩ := i10.1.sl
  obtain ⟨na19, nm19, nc19, rfl⟩ := i10.2.sl
  clear e9 g10 i10
  go_upto_region 14 with (fail)
  generalize w9.alloc (.cells #[.int .i64 z.n, .bool z.dead, .slice ka19 km19 kc19, .slice na19 nm19 nc19] 26) = W9 at *
  generalize w9.heap.size = b19 at *
  obtain ⟨p100, p101, p102, p103⟩ := L10.b4
  obtain ⟨p190, p191, p192, p193⟩ := L19.b4
  go_cut [120] (fun c wc => c = .bool false ∧ W9.grownBy wc none)
  case first =>
    cases made
    · go_wp2_with fail
      go_fit (likeDisk_yes _ _ _ _ z _ L10.isD L19.isD)
      rintro e w11 ⟨rfl, g11⟩
      go_wp2_with fail
      go_meet
      exact ⟨rfl, g11⟩
    · have hzo : z.ok = true := by rw [← hz.out]; exact newD_ok hmade.out
      go_wp2_with fail
      go_fit (likeDisk_yes _ _ _ _ z _ L10.isD L19.isD)
      rintro e w11 ⟨rfl, g11⟩
      obtain ⟨o0, o1, o2, o3⟩ := (L10.kept g11).b4
      go_wp2_with fail
      go_fit (implDiskOk_any _ _ z _ (L10.kept g11).isD)
      rintro e w12 ⟨rfl, g12⟩
      rw [hzo]
      go_wp2_with fail
      go_meet
      exact ⟨rfl, gtrans g11 g12⟩
  case rest =>
    obtain ⟨rfl, g11⟩ := hcut
    clear p100 p101 p102 p103
    clear p190 p191 p192 p193
    clear L10 L19
    replace G := gtrans G g11
    replace L3 := L3.kept g11
    replace L6 := L6.kept g11
    replace L12 := L12.kept g11
    replace L16 := L16.kept g11
    clear g11
    obtain ⟨p120, p121, p122, p123⟩ := L12.b4
    go_wp2_with fail
    go_fit (specRead_any _ _ r at0 _ L12.isD)
    rintro e w12 ⟨rfl, g12⟩
    rw [hrd.out, hru.out]
    clear p120 p121 p122 p123
    replace G := gtrans G g12
    replace L3 := L3.kept g12
    replace L6 := L6.kept g12
    replace L12 := L12.kept g12
    replace L16 := L16.kept g12
    clear g12
    go_upto_region 17 with (fail)
    obtain ⟨p120, p121, p122, p123⟩ := L12.b4
    go_cut [151] (fun c wc => c = .bool false ∧ w12.grownBy wc none)
    case first =>
      cases rd
      · go_wp2_with fail
        go_meet
        exact ⟨rfl, grefl _⟩
      · obtain ⟨hrdd, k, rfl, hk, hv⟩ := DZ.canRead_at hrd.out
        rw [hru.out] at hv
        have hL := L12.isD.2
        have hnm := hL.bound.1
        subst hnm
        obtain ⟨g, rfl, _, _, ⟨c0, _⟩, ⟨c1, _⟩⟩ := hL.at k hk
        have hi1 : (k : Int) < r.m.length := by omega
        rw [hrdd] at p121
        rw [← hv] at c0
        clear c1 hL hv
        go_wp2_with fail
        go_meet
        exact ⟨rfl, grefl _⟩
    case rest =>
      obtain ⟨rfl, g13⟩ := hcut
      clear p120 p121 p122 p123
      clear L12
      replace G := gtrans G g13
      replace L3 := L3.kept g13
      replace L6 := L6.kept g13
      replace L16 := L16.kept g13
      clear g13 hrd hru
      obtain ⟨p160, p161, p162, p163⟩ := L16.b4
      go_wp2_with fail
      go_fit (implDied_pure _ _ t _ L16.isD)
      rintro e w14 ⟨rfl, g14⟩
      clear p160 p161 p162 p163
      replace G := gtrans G g14
      replace L3 := L3.kept g14
      replace L6 := L6.kept g14
      replace L16 := L16.kept g14
      clear g14
      go_wp2_with fail
      go_fit (implRead_any _ _ t.died 0 _ (isD_died _ t))
      rintro e w15 ⟨rfl, g15⟩
      rw [DZ.died_cant]
      replace G := gtrans G g15
      replace L3 := L3.kept g15
      replace L6 := L6.kept g15
      replace L16 := L16.kept g15
      clear g15
      go_upto_region 20 with (fail)
      obtain ⟨p160, p161, p162, p163⟩ := L16.b4
      go_cut [168] (fun c wc => c = .bool false ∧ w15.grownBy wc none)
      case first =>
        go_wp2_with fail
        go_fit (specDiskOk_any _ _ t _ L16.isD)
        rintro e w16 ⟨rfl, g16⟩
        cases hto : t.ok
        · go_wp2_with fail
          go_meet
          exact ⟨rfl, g16⟩
        · obtain ⟨o0, o1, o2, o3⟩ := (L16.kept g16).b4
          go_wp2_with fail
          go_fit (implDied_pure _ _ t _ (L16.kept g16).isD)
          rintro e w17 ⟨rfl, g17⟩
          go_wp2_with fail
          go_fit (implDiskOk_any _ _ t.died _ (isD_died _ t))
          rintro e w18 ⟨rfl, g18⟩
          rw [DZ.died_ok hto]
          go_wp2_with fail
          go_meet
          exact ⟨rfl, gtrans g16 (gtrans g17 g18)⟩
      case rest =>
        obtain ⟨rfl, g16⟩ := hcut
        clear p160 p161 p162 p163
        clear L16
        replace G := gtrans G g16
        replace L3 := L3.kept g16
        replace L6 := L6.kept g16
        clear g16
        cases is
        · cases hok : d.ok
          · obtain rfl : x = .zero := by rw [← hx.out]; simp [DZ.written, hok]
            obtain ⟨o0, o1, o2, o3⟩ := L3.b4
            go_wp2_with fail
            go_fit (specDiskOk_any _ _ d _ L3.isD)
            rintro e w20 ⟨rfl, g20⟩
            rw [hok]
            clear o0 o1 o2 o3
            obtain ⟨o0, o1, o2, o3⟩ := (L6.kept g20).b4
            go_wp2_with fail
            go_fit (likeDisk_yes _ _ _ _ .zero _ (L6.kept g20).isD (isD_zero _))
            rintro e w21 ⟨rfl, g21⟩
            go_wp2_with fail
            go_ret
            exact ⟨rfl, gbelow (gtrans G (gtrans g20 g21))⟩
          · obtain rfl : x = d := by
              have h1 : d.may p v = false := by have := his.out; simpa [DZ.wrote, hok] using this
              rw [← hx.out]; simp [DZ.written, hok, DZ.put, h1]
            obtain ⟨o0, o1, o2, o3⟩ := L3.b4
            go_wp2_with fail
            go_fit (specDiskOk_any _ _ x _ L3.isD)
            rintro e w20 ⟨rfl, g20⟩
            rw [hok]
            clear o0 o1 o2 o3
            obtain ⟨o0, o1, o2, o3⟩ := (L3.kept g20).b4
            obtain ⟨r0, r1, r2, r3⟩ := (L6.kept g20).b4
            go_wp2_with fail
            go_fit (likeDisk_yes _ _ _ _ x _ (L6.kept g20).isD (L3.kept g20).isD)
            rintro e w21 ⟨rfl, g21⟩
            go_wp2_with fail
            go_ret
            exact ⟨rfl, gbelow (gtrans G (gtrans g20 g21))⟩
        · have hwm := his.out
          simp only [DZ.wrote, Bool.and_eq_true] at hwm
          obtain ⟨hok, hmay⟩ := hwm
          obtain rfl : d.put p v = x := by rw [← hx.out]; simp [DZ.written, hok]
          have hpo := Lib.hid (DZ.put_ok hok hmay)
          have hpc := Lib.hid (DZ.put_read hok hmay).1
          have hpr := Lib.hid (DZ.put_read hok hmay).2
          replace hx := Lib.hid (put_k d p v)
          have hpl := Lib.hid (put_l d p v)
          have hpg := Lib.hid (put_get d p v)
          have hnm3 := L3.isD.2.bound.1
          have hnm6 := L6.isD.2.bound.1
          rw [hpl.out] at hnm6
          subst hnm3
          subst hnm6
          generalize d.put p v = x at *
          clear his hok hmay
          obtain ⟨o0, o1, o2, o3⟩ := L6.b4
          go_wp2_with fail
          go_fit (implRead_any _ _ x p _ L6.isD)
          rintro e w20 ⟨rfl, g20⟩
          rw [hpc.out, hpr.out]
          clear o0 o1 o2 o3
          replace G := gtrans G g20
          replace L3 := L3.kept g20
          replace L6 := L6.kept g20
          clear g20
          obtain ⟨c30, c31, c32, c33⟩ := L3.b4
          obtain ⟨c60, c61, c62, c63⟩ := L6.b4
          go_wp2_with fail
          go_loopw [27] (fun i wr => ∃ k : Nat, k ≤ d.m.length ∧ i = .int .i64 k ∧ w20.grownBy wr none) (fun i _ => d.m.length - (intOf i).toNat)
          case atStart => exact ⟨0, Nat.zero_le _, rfl, grefl _⟩
          case round =>
            obtain ⟨k, hk, rfl, g⟩ := hrel
            have e33 := gkc g c33
            have e63 := gkc g c63
            by_cases hlt : k < d.m.length
            · have hi1 : (k : Int) < d.m.length := by omega
              have hlx : k < x.m.length := by rw [hpl.out]; exact hlt
              obtain ⟨g3, rfl, _, _, ⟨q0, _⟩, ⟨q1, _⟩⟩ := (L3.isD.2.grew g).at k hlt
              obtain ⟨g6, rfl, _, _, ⟨s0, _⟩, ⟨s1, _⟩⟩ := (L6.isD.2.grew g).at k hlx
              by_cases hkp : (k : Int) = p
              · have hne : ((k : Int) != p) = false := by simp [hkp]
                clear s0 s1 q0 q1 hkp
                go_wp2_with fail
                refine region_calm (fun w' => w20.grownBy w' none) (by kernel_rfl) (by kernel_rfl) (gdrew g 1) ?_
                repeat (first
                  | (refine calm_skip (by rfl) ?_; simp only [Act.put, List.setIfInBounds_toArray, List.set_cons_zero, List.set_cons_succ])
                  | (refine calm_step (by rfl) ?_
                     apply Exists.intro
                     refine ⟨fun w' hw' => ?_, ?_⟩
                     · go_simp
                       first | done | exact rfl | (fail)
                     simp only [Act.put, List.setIfInBounds_toArray, List.set_cons_zero, List.set_cons_succ]))
                refine calm_nil ?_
                intro w9 hw9
                go_wp2_with fail
                go_roundw
                case rel => exact ⟨k + 1, by omega, by go_num, hw9⟩
                case measure => simp [intOf]; omega
              · have hne : ((k : Int) != p) = true := by simp [hkp]
                rw [hpg.out k hlt hlx hkp] at s0 s1
                clear hkp
                go_wp2_with fail
                refine region_calm (fun w' => w'.cell? ⟨b3, 3, none⟩ = some (.slice (some ⟨g3, 0, none⟩) d.m.length nc3) ∧ w'.cell? ⟨b6, 3, none⟩ = some (.slice (some ⟨g6, 0, none⟩) d.m.length nc6) ∧ TwoO w' g3 (k * 2) (.int .i64 d.m[k].1) (.int .i64 d.m[k].2) ∧ TwoO w' g6 (k * 2) (.int .i64 d.m[k].1) (.int .i64 d.m[k].2) ∧ w20.grownBy w' none) (by kernel_rfl) (by kernel_rfl) (⟨e33, e63, ⟨q0, q1⟩, ⟨s0, s1⟩, gdrew g 1⟩) ?_
                repeat (first
                  | (refine calm_skip (by rfl) ?_; simp only [Act.put, List.setIfInBounds_toArray, List.set_cons_zero, List.set_cons_succ])
                  | (refine calm_step (by rfl) ?_
                     apply Exists.intro
                     refine ⟨fun w' hw' => ?_, ?_⟩
                     · go_simp
                       first | done | exact rfl | (fail)
                     simp only [Act.put, List.setIfInBounds_toArray, List.set_cons_zero, List.set_cons_succ]))
                refine calm_nil ?_
                intro w9 hw9
                go_wp2_with fail
                go_roundw
                case rel => exact ⟨k + 1, by omega, by go_num, hw9.2.2.2.2⟩
                case measure => simp [intOf]; omega
            · obtain ⟨o0, o1, o2, o3⟩ := (L6.kept g).b4
              go_wp2_with fail
              go_fit (implDiskOk_any _ _ x _ (L6.kept g).isD)
              rintro e w21 ⟨rfl, g21⟩
              rw [hpo.out]
              have g := gtrans g g21
              clear o0 o1 o2 o3 e33 e63
              obtain ⟨o0, o1, o2, o3⟩ := (L6.kept g).b4
              obtain ⟨r0, r1, r2, r3⟩ := (L3.kept g).b4
              have hk3 := (L3.kept g).isD.1
              have hk6 := (L6.kept g).isD.1
              rw [hx.out] at hk6
              have hkm3 := hk3.bound.1
              have hkm6 := hk6.bound.1
              subst hkm3
              subst hkm6
              go_wp2_with fail
              go_fit (likeCells_yes _ _ _ _ d.k _ hk6 hk3)
              rintro e w22 ⟨rfl, g22⟩
              go_wp2_with fail
              go_ret
              exact ⟨rfl, gbelow (gtrans G (gtrans g g22))⟩

/-! ### THE ROW's STEP: WRITTEN OUT: LEAVE IT -/
set_option maxRecDepth 100000 in
theorem lifted (os : Os) (started : os.Started) (H : Type) (enc : TypeId × Value → H) :
    ReturnsInHanded {} Try.checked os 3 .any (Rows.fnDisksSpec.pre6 enc Try.prog Try.f3 Rows.fnDisksRow.domain false) (Rows.fnDisksSpec.post enc Try.prog Try.f3 false true false false) := by
  refine returnsInHanded_of_change (C := Try.checked) own started (by kernel_rfl) Try.func3
    (ChangeSpec.witness6 (enc := enc) (C := Try.checked) false ⟨#[], #[.slice none 0 0], []⟩ 8 (by kernel_rfl) (by kernel_rfl) (by kernel_rfl) (by kernel_rfl)) ?_
  intro W base args ds gs before hval0 hW hcnd _
  have hval : ∀ (j : Nat) t v, Try.f3.params[j]? = some t → args[j]? = some v → Value.okWide Try.prog W .any base t v := hval0
  have hW' := hW
  obtain ⟨p, q, hA0, hV, rfl, hfz, hnd⟩ := hW
  have hA : DataW.TrodAll enc Try.prog W 0 (fun _ => true) true Try.f3.params.toList args.toList ds p := hA0
  rw [Try.params3] at hA hval
  obtain ⟨v0, vs0, d0, ds0, p0, q0, hargs, rfl, rfl, h0, r0⟩ := trodAll_cons hA
  obtain ⟨rfl, rfl, rfl⟩ := trodAll_nil r0
  obtain rfl : args = #[v0] := by cases args; simp_all
  obtain ⟨rfl, rfl⟩ := trodVars_none hV
  obtain ⟨a0, len0, cap0, rfl⟩ := okWide_slice Try.underlying22 (hval 0 22 v0 rfl rfl)
  have k0 := h0
  have lt0 : ∀ x ∈ p0, x.block < W.heap.size := by obtain ⟨m, hm⟩ := k0; exact DataW.trod_lt m _ _ _ hm
  obtain ⟨z0, w0⟩ : ∃ zs, IsRow .u8 W a0 len0 cap0 zs := by
    obtain ⟨fuel, hf⟩ := h0
    rcases open_ints Try.underlying22 Try.underlying5 (by kernel_rfl) hf with ⟨hcs, _⟩ | ⟨x, l, c, zs, hcs, _, hl, hm, hz, _, hcell, hwz⟩
    · simp [Value.cells] at hcs
      obtain ⟨rfl, rfl, rfl⟩ := hcs
      exact ⟨[], .inl ⟨rfl, rfl, rfl, rfl⟩⟩
    · simp [Value.cells] at hcs
      obtain ⟨rfl, rfl, rfl⟩ := hcs
      exact ⟨zs, .inr ⟨_, rfl, hl, hm, by simpa using hz, hcell, hwz⟩⟩
  clear hA0 hval0
  refine (walk a0 len0 cap0 z0 W w0).mono fun e W' ⟨he, bel⟩ => ?_
  subst he
  exact ⟨_, rfl, _, _, _, [], _, [], hW', trodAll_mk1 (shut_bool Try.underlying4 _), (trodAll_cons_mk (Below.trod laidOut (by kernel_rfl) (of_decide_eq_true (by kernel_rfl)) k0 bel lt0) trodAll_mk0), rfl, bel.frame _, fun h => by cases h⟩

theorem over : Rows.fnDisksRow.holds Try.pinned (OpenSpec.ofChange Rows.fnDisksSpec) :=
  OpenClaim.holds_of_wide 3 Try.f3 rfl rfl rfl rfl rfl rfl rfl ⟨rfl, rfl, rfl, rfl, rfl⟩ rfl rfl rfl rfl rfl (by kernel_rfl) Try.func3 (by kernel_rfl)
    (of_decide_eq_true (by kernel_rfl)) (by unfold Func.isWrapper; first | (rw [if_pos (by decide +kernel)]; kernel_rfl) | (rw [if_neg (by decide +kernel)]; exact ⟨rfl, rfl⟩))
    (fun os started H enc _ => lifted os started H enc)

/-- ████ THE STATEMENT ████ -/
theorem proved : Rows.FnDisksSaid := over
#print axioms proved
end Go.Proofs.Ytgmkdmcbaeaeiaa.fnDisks
