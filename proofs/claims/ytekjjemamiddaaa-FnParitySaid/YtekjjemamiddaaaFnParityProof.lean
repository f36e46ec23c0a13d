/-
  Proved: for every input the law FnParity returns true and leaves its argument as it was; no condition. (The frame is the kit's skeleton.)
-/
import Derived.Test.YtekjjemamiddaaaRows
import Derived.WalkKit
import Derived.ProofKit
import Derived.OpenShut
import Derived.ShutString
import Derived.ChangeOld
import Derived.Below
import Derived.Test.YtekjjemamiddaaaDrawL04
import Derived.Test.YtekjjemamiddaaaImplL04
import Derived.Test.YtekjjemamiddaaaLawBase
import Derived.Test.YtekjjemamiddaaaLawL04
import Derived.Deep.DeepCutAuto
namespace Go.Proofs.Ytekjjemamiddaaa.fnParity
open Go.ChangeShapes Go.WideShapes Go.ChangeAt Go.RowKit
open Go.ChangeMaps (open_string shut_string)
set_option linter.unusedVariables false

theorem own : ownKnob Try.prog.godebug = none := by kernel_rfl
theorem laidOut : laidOutB Try.prog = true := by kernel_rfl

/-- WHAT THE WALK IS TOLD OF A SLICE OF INTEGERS THAT CAME IN: it is nil; or it leads to a row of 'cap' cells, the numbers 'zs' (the first 'len' are its elements, the rest its spare room), each fitting its kind. -/
def IsRow (k : IntKind) (w : World) (a : Option Addr) (len cap : Nat) (zs : List Int) : Prop :=
  (a = none ∧ len = 0 ∧ cap = 0 ∧ zs = []) ∨
  ∃ x, a = some x ∧ len ≤ cap ∧ cap ≤ maxLen ∧ zs.length = cap ∧ (∀ i, i < zs.length → w.cell? (x.add i) = some (.int k (zs.getD i 0))) ∧ ∀ n ∈ zs, (Lit.int k n).wf = true

theorem implXor_is (v : Value) (l : List Int) (s : Int) (w : World) (h : IR w v l) (hs : xorZ l = s) :
    Calls Try.prog 11 #[v] w fun e w' => e = .returned (.int .i64 s) ∧ w = w' := by subst hs; exact implXor_any v l w h
theorem specValueOk_is (v : Int) (w : World) (h : okv v = true) :
    Calls Try.prog 16 #[.int .i64 v] w fun e w' => e = .returned (.bool true) ∧ w = w' := by
  have := specValueOk_any v w
  rwa [show inB v 0 32767 = true from h] at this
theorem drop_rev {l : List Int} {j : Nat} (h : j < l.length) : (l.drop j).reverse = (l.drop (j + 1)).reverse ++ [l[j]] := by
  rw [List.drop_eq_getElem_cons h, List.reverse_cons]

/-! ### STEP 1: THE WALK: the Go text returns true, AND WRITES NOTHING THAT WAS THERE: 'Below w.heap.size w w'' (Derived/Below.lean: '.refl', '.alloc', '.drew', '.setCell' at a new block, '.trans'). Open each 'IsRow' by 'rcases' AHEAD of 'go_enter'; part every test ahead of the walk. -/
set_option maxRecDepth 100000 in
set_option maxHeartbeats 4000000 in
theorem walk (a0 : Option Addr) (len0 cap0 : Nat) (z0 : List Int) (w : World) (w0 : IsRow .u8 w a0 len0 cap0 z0) :
    Calls Try.prog 3 #[.slice a0 len0 cap0] w fun e w' => e = .returned (.bool true) ∧ Below w.heap.size w w' := by
  by_cases hb : 4096 < len0
  · go_enter Try.func3, Try.ntmps3
    go_wp2_with fail
    go_fit (big_yes _ _ _ _ hb)
    rintro e w' ⟨rfl, rfl⟩
    go_wp2_with fail
    go_ret
    exact ⟨rfl, Below.refl _ _⟩
  have hR := codeAt_of w0 (by omega)
  clear w0
  go_enter Try.func3, Try.ntmps3
  go_wp2_with fail
  go_fit (big_no _ _ _ _ (by omega))
  rintro e w' ⟨rfl, rfl⟩
  go_wp2_with fail
  go_fit (drawMissing_any _ _ _ _ hR)
  rintro e w1 ⟨vl, l, a, s, rfl, L, hll, G⟩
  replace L := L.lower (Nat.zero_le _)
  obtain ⟨la, lc, rfl, -⟩ := L.form
  go_wp2_with fail
  go_fit (implMissing_any _ l _ _ _ L.rd)
  rintro e w2 ⟨rfl, g2⟩
  replace L := L.grew g2
  replace G := gtrans G g2
  clear g2
  go_wp2_with fail
  go_fit (drawXor_any _ _ _ _ (hR.kept (gbelow G)))
  rintro e w3 ⟨vx, x, rfl, X, hlx, g3⟩
  replace X := X.lower (Nat.zero_le _)
  replace L := L.grew g3
  replace G := gtrans G g3
  clear g3
  obtain ⟨xa, xc, rfl, -⟩ := X.form
  go_wp2_with fail
  go_fit (implXor_any _ x _ X.rd)
  rintro e w' ⟨rfl, rfl⟩
  go_wp2_with fail
  go_fit (specMissing_any _ l _ _ _ L.rd)
  rintro e w' ⟨rfl, rfl⟩
  go_wp2_with fail
  go_fit (specXor_any _ x _ X.rd)
  rintro e w' ⟨rfl, rfl⟩
  go_wp2_with fail
  go_fit (implOdd_any _ x _ X.rd)
  rintro e w' ⟨rfl, rfl⟩
  go_wp2_with fail
  go_fit (specOdd_any _ x _ X.rd)
  rintro e w' ⟨rfl, rfl⟩
  go_wp2_with fail
  go_fit (implOdd_any _ x _ X.rd)
  rintro e w' ⟨rfl, rfl⟩
  go_upto_region 9 with (fail)
  have hn := Lib.hid (rfl : xorZ x = xorZ x)
  have hnd : Hid (0 ≤ xorZ x → xorZ (x.reverse ++ x) = 0) := fun h => xorZ_double h
  have hnr : Hid (xorZ x.reverse = xorZ x) := xorZ_reverse x
  clear hn
  generalize xorZ x = n at *
  have hM := Lib.hid (rfl : missZ l a s = missZ l a s)
  have hM2 : Hid (missZ l a s < 0 → a < 0 ∨ (l.length : Int) ≤ a ∨ okv s = false ∨ xorZ l = -1) := fun h => by
    unfold missZ at h
    split at h
    · omega
    · rename_i hc
      by_cases c1 : a < 0
      · exact .inl c1
      by_cases c2 : (l.length : Int) ≤ a
      · exact .inr (.inl c2)
      cases c3 : okv s
      · exact .inr (.inr (.inl rfl))
      cases c4 : l.all okv
      · exact .inr (.inr (.inr (xorZ_no c4)))
      · exact absurd ⟨c4, by omega, by omega, c3⟩ hc
  have hM3 : Hid (¬ missZ l a s < 0 → l.all okv = true ∧ 0 ≤ a ∧ a < l.length ∧ okv s = true ∧ okv (missZ l a s) = true) := fun h => by
    unfold missZ at h ⊢
    split at h
    · rename_i hc
      obtain ⟨c1, c2, c3, c4⟩ := hc
      obtain ⟨k, rfl⟩ := Int.eq_ofNat_of_zero_le c2
      have hk : k < l.length := by omega
      have hlt := miss_lt c1 hk c4
      refine ⟨c1, c2, c3, c4, ?_⟩
      rw [if_pos ⟨c1, c2, c3, c4⟩]
      simp only [Int.toNat_natCast, List.getD_eq_getElem?_getD, List.getElem?_eq_getElem hk, Option.getD_some]
      exact okv_iff.2 ⟨by omega, by omega⟩
    · omega
  have hM4 : Hid (∀ k : Nat, (k : Int) = a → k < l.length → l.all okv = true → okv s = true → ∀ y, okv y = true → (xorZ (l.set k y) = s ↔ y = missZ l a s)) := fun k e hk h1 h2 y hy => by subst e; exact miss_set h1 hk h2 hy
  clear hM
  generalize missZ l a s = m at *
  have B0 : IS (w3.alloc (.cells #[] 2)) w3.heap.size (.slice (some ⟨w3.heap.size, 0, none⟩) 0 0) (x.drop x.length).reverse := by rw [List.drop_length]; exact IS.empty w3 (Nat.le_refl _)
  have G0 : w3.grownBy (w3.alloc (.cells #[] 2)) none := galloc (grefl _) _
  go_upto_region 10 with (fail)
  generalize w3.alloc (.cells #[] 2) = W3 at *
  go_wp2_with fail
  go_loopw [9, 10] (fun back i wr => ∃ k : Nat, k ≤ x.length ∧ i = .int .i64 ((k : Int) - 1) ∧ IS wr w3.heap.size back (x.drop k).reverse ∧ w3.grownBy wr none) (fun _ i _ => (intOf i + 1).toNat)
  case atStart => exact ⟨x.length, Nat.le_refl _, rfl, B0, G0⟩
  case round =>
    clear B0 G0
    obtain ⟨k, hk, rfl, B, g0⟩ := hrel
    obtain ⟨ba, bc, rfl, -⟩ := B.form
    cases k with
    | succ j =>
      have hj : j < x.length := by omega
      rw [show ((j + 1 : Nat) : Int) - 1 = (j : Int) by omega]
      obtain ⟨g, o, rfl, c0⟩ := (X.grew g0).rd.at j hj
      have HD := Lib.hid (drop_rev hj)
      generalize hy : x[j] = y at *
      have hsz := g0.size
      have hlen : (x.drop (j + 1)).reverse.length ≤ 6 := by simp; omega
      clear hy
      go_wp2_with (first | (at_builtin; refine wpList_append_o (E := intE) (base := w3.heap.size) rfl (.tmp 63) (.tmp 68) rfl rfl rfl (B.grew (galloc (grefl _) _)) (IS.single _ y (Nat.zero_le _)) (by simp; omega) (by decide) (by simp; omega) ?_; intro v' w6 o6 g6 b6; have G6 := gnew (galloc g0 _) g6 (fun j e => (B.lt j e).1); rw [← HD.out] at o6; clear g6 b6 B))
      go_roundw
      case rel => exact ⟨j, by omega, rfl, o6, G6⟩
      case measure => simp [intOf]
    | zero =>
      rw [List.drop_zero] at B ⊢
      simp only [Int.natCast_zero, Int.zero_sub, List.length_reverse]
      have hlr : x.reverse.length = x.length := List.length_reverse
      rw [List.length_reverse] at B
      have hsz := g0.size
      go_upto_region 14 with (fail)
      go_cut [84] (fun c wc => c = .bool false ∧ w3.grownBy wc none)
      case first =>
        by_cases hn : 0 ≤ n
        · go_wp2_with fail
          go_fit (implXor_is _ x.reverse n _ B.rd hnr.out)
          rintro e w' ⟨rfl, rfl⟩
          go_wp2_with (first | (at_builtin; refine wpList_append_rg (E := intE) (base := w3.heap.size) rfl (.tmp 78) (.tmp 79) rfl rfl rfl B (X.grew g0).rd (by simp; omega) (by decide) (by omega) ?_; intro v' w6 o6 g6 b6; have G6 := gnew g0 g6 (fun j e => (B.lt j e).1); clear g6 b6; obtain ⟨va, vn, vc, rfl⟩ := o6.sl))
          go_fit (implXor_is _ (x.reverse ++ x) 0 _ o6.rd (hnd.out hn))
          rintro e w' ⟨rfl, rfl⟩
          go_wp2_with fail
          go_meet
          exact ⟨rfl, G6⟩
        · go_wp2_with fail
          go_fit (implXor_is _ x.reverse n _ B.rd hnr.out)
          rintro e w' ⟨rfl, rfl⟩
          go_wp2_with fail
          go_meet
          exact ⟨rfl, g0⟩
      case rest =>
        obtain ⟨rfl, g9⟩ := hcut
        replace L := L.grew g9
        replace G := gtrans G g9
        clear X B g0 g9 hnr hnd hlr hsz hlx hk
        by_cases hm : m < 0
        · by_cases c1 : a < 0
          · go_wp2_with fail
            go_ret
            exact ⟨rfl, gbelow G⟩
          by_cases c2 : (l.length : Int) ≤ a
          · go_wp2_with fail
            go_ret
            exact ⟨rfl, gbelow G⟩
          cases c3 : inB s 0 32767
          · go_wp2_with fail
            go_fit (specValueOk_any _ _)
            rintro e w' ⟨rfl, rfl⟩
            go_wp2_with fail
            go_ret
            exact ⟨rfl, gbelow G⟩
          have c4 : Hid (xorZ l = -1) := by
            rcases hM2.out (by omega) with h | h | h | h
            · exact absurd h c1
            · exact absurd h c2
            · rw [show okv s = true from c3] at h; cases h
            · exact h
          go_wp2_with fail
          go_fit (specValueOk_any _ _)
          rintro e w' ⟨rfl, rfl⟩
          go_wp2_with fail
          go_fit (implXor_is _ l (-1) _ L.rd c4.out)
          rintro e w' ⟨rfl, rfl⟩
          go_wp2_with fail
          go_ret
          exact ⟨rfl, gbelow G⟩
        · obtain ⟨c1, c2, c3, c4, c5⟩ := hM3.out (by omega)
          obtain ⟨k, rfl⟩ := Int.eq_ofNat_of_zero_le c2
          have hk : k < l.length := by omega
          have F4 : Hid (∀ y, okv y = true → (xorZ (l.set k y) = s ↔ y = m)) := hM4.out k rfl hk c1 c4
          have F1 : Hid (okv m = true) := c5
          clear hM2 hM3 hM4 c1 c2 c4 c5
          go_upto_region 19 with (first | (at_builtin; refine wpList_append_o (E := intE) (base := wc.heap.size) rfl (.tmp 105) (.tmp 106) rfl rfl rfl (IS.empty wc (Nat.le_refl _)) (L.grew (galloc (grefl _) _)) (by simp; omega) (by decide) (by simp) ?_; intro v1 w4 o4 g4' b4; have g4 := gnew (galloc (grefl wc) (.cells #[] 2)) g4' (fun j e => by cases e; exact Nat.le_refl _); clear g4' b4))
          rw [List.nil_append] at o4
          obtain ⟨ya, yc, rfl, -⟩ := o4.form
          obtain ⟨gy, rfl, hy1, hy2, ⟨y0, z0'⟩⟩ := IS.at o4 k hk
          have Y := IS.set o4 k m
          have g5 := gset1 g4 hy1 k (.int .i64 m)
          clear o4 g4
          go_upto_region 20 with (fail)
          generalize w4.setCell ⟨gy, k, none⟩ (.int .i64 m) = W5 at *
          clear y0 z0' hy2
          replace L := L.grew g5
          replace G := gtrans G g5
          clear g5
          go_upto_region 21 with (first | (at_builtin; refine wpList_append_o (E := intE) (base := W5.heap.size) rfl (.tmp 112) (.tmp 113) rfl rfl rfl (IS.empty W5 (Nat.le_refl _)) (L.grew (galloc (grefl _) _)) (by simp; omega) (by decide) (by simp) ?_; intro v1 w6 o6 g6' b6; have g6 := gnew (galloc (grefl W5) (.cells #[] 2)) g6' (fun j e => by cases e; exact Nat.le_refl _); clear g6' b6))
          rw [List.nil_append] at o6
          obtain ⟨za, zc, rfl, -⟩ := o6.form
          obtain ⟨gz, rfl, hz1, hz2, ⟨y0, z0'⟩⟩ := IS.at o6 k hk
          go_wp2_with fail
          go_fit (pick_any _ _ _ _ _ _ (hR.kept (gbelow (gtrans G g6))) (by omega) (by omega) (by omega) (by omega))
          rintro e w' ⟨y, hp0, hp1, rfl, rfl⟩
          have Z := IS.set o6 k y
          have g7 := gset1 g6 hz1 k (.int .i64 y)
          have c7 := IS.at Z k (by rw [List.length_set]; exact hk)
          clear o6 g6
          go_upto_region 22 with (fail)
          generalize w6.setCell ⟨gz, k, none⟩ (.int .i64 y) = W7 at *
          obtain ⟨_, e7, -, -, d7, -⟩ := c7
          cases e7
          rw [List.getElem_set_self] at d7
          replace Y := Y.grew g7
          replace G := gtrans G g7
          clear y0 z0' hz2 g7 L hy1 hz1
          have hky : okv y = true := okv_iff.2 ⟨hp0, by omega⟩
          have FY := (F4.out m F1.out).2 rfl
          have FZ := F4.out y hky
          clear F4 hp0 hp1 hky
          have HY := Lib.hid FY
          clear FY
          by_cases hym : y = m
          · have HZ := Lib.hid (FZ.2 hym)
            clear FZ
            subst hym
            refine region_calm (fun w' => w'.cell? ⟨gz, k, none⟩ = some (.int .i64 y) ∧ W7.grownBy w' none) (by kernel_rfl) (by kernel_rfl) (And.intro d7 (gdrew (grefl _) 1)) ?_
            repeat (first
              | (refine calm_skip (by rfl) ?_; simp only [Act.put, List.setIfInBounds_toArray, List.set_cons_zero, List.set_cons_succ])
              | (refine calm_step (by rfl) ?_
                 apply Exists.intro
                 refine ⟨fun w' hw' => ?_, ?_⟩
                 · go_simp
                   first | done | exact rfl | (go_at_call 16; go_fit (specValueOk_is _ _ F1.out); rintro e w8 ⟨rfl, rfl⟩; exact And.intro rfl hw') | (go_at_call 11; go_fit (implXor_is _ (l.set k y) s _ (Y.grew hw'.2).rd HY.out); rintro e w8 ⟨rfl, rfl⟩; exact And.intro rfl hw') | (go_at_call 11; go_fit (implXor_is _ (l.set k y) s _ (Z.grew hw'.2).rd HY.out); rintro e w8 ⟨rfl, rfl⟩; exact And.intro rfl hw')
                 simp only [Act.put, List.setIfInBounds_toArray, List.set_cons_zero, List.set_cons_succ]))
            refine calm_nil ?_
            intro w9 hw9
            go_wp2_with fail
            go_ret
            exact ⟨rfl, gbelow (gtrans G hw9.2)⟩
          · have hne : xorZ (l.set k y) ≠ s := fun e => hym (FZ.1 e)
            have HZ := Lib.hid (rfl : xorZ (l.set k y) = xorZ (l.set k y))
            clear FZ
            have b1 : (xorZ (l.set k y) == s) = false := beq_eq_false_iff_ne.2 hne
            have b2 : (y == m) = false := beq_eq_false_iff_ne.2 hym
            clear hne hym
            refine region_calm (fun w' => w'.cell? ⟨gz, k, none⟩ = some (.int .i64 y) ∧ W7.grownBy w' none) (by kernel_rfl) (by kernel_rfl) (And.intro d7 (gdrew (grefl _) 1)) ?_
            repeat (first
              | (refine calm_skip (by rfl) ?_; simp only [Act.put, List.setIfInBounds_toArray, List.set_cons_zero, List.set_cons_succ])
              | (refine calm_step (by rfl) ?_
                 apply Exists.intro
                 refine ⟨fun w' hw' => ?_, ?_⟩
                 · go_simp
                   first | done | exact rfl | (go_at_call 16; go_fit (specValueOk_is _ _ F1.out); rintro e w8 ⟨rfl, rfl⟩; exact And.intro rfl hw') | (go_at_call 11; go_fit (implXor_is _ (l.set k m) s _ (Y.grew hw'.2).rd HY.out); rintro e w8 ⟨rfl, rfl⟩; exact And.intro rfl hw') | (go_at_call 11; go_fit (implXor_any _ (l.set k y) _ (Z.grew hw'.2).rd); rintro e w8 ⟨rfl, rfl⟩; exact And.intro rfl hw')
                 simp only [Act.put, List.setIfInBounds_toArray, List.set_cons_zero, List.set_cons_succ]))
            refine calm_nil ?_
            intro w9 hw9
            go_wp2_with fail
            go_ret
            exact ⟨rfl, gbelow (gtrans G hw9.2)⟩

/-! ### THE ROW's STEP: WRITTEN OUT: LEAVE IT -/
set_option maxRecDepth 100000 in
theorem lifted (os : Os) (started : os.Started) (H : Type) (enc : TypeId × Value → H) :
    ReturnsInHanded {} Try.checked os 3 .any (Rows.fnParitySpec.pre6 enc Try.prog Try.f3 Rows.fnParityRow.domain false) (Rows.fnParitySpec.post enc Try.prog Try.f3 false true false false) := by
  refine returnsInHanded_of_change (C := Try.checked) own started (by kernel_rfl) Try.func3
    (ChangeSpec.witness6 (enc := enc) (C := Try.checked) false ⟨#[], #[.slice none 0 0], []⟩ 8 (by kernel_rfl) (by kernel_rfl) (by kernel_rfl) (by kernel_rfl)) ?_
  intro W base args ds gs before hval0 hW hcnd _
  have hval : ∀ (j : Nat) t v, Try.f3.params[j]? = some t → args[j]? = some v → Value.okWide Try.prog W .any base t v := hval0
  have hW' := hW
  obtain ⟨p, q, hA0, hV, rfl, hfz, hnd⟩ := hW
  have hA : DataW.TrodAll enc Try.prog W 0 (fun _ => true) true Try.f3.params.toList args.toList ds p := hA0
  rw [Try.params3] at hA hval
  obtain ⟨v0, vs0, d0, ds0, p0, q0, hargs, rfl, rfl, h0, r0⟩ := trodAll_cons hA
  obtain ⟨rfl, rfl, rfl⟩ := trodAll_nil r0
  obtain rfl : args = #[v0] := by cases args; simp_all
  obtain ⟨rfl, rfl⟩ := trodVars_none hV
  obtain ⟨a0, len0, cap0, rfl⟩ := okWide_slice Try.underlying22 (hval 0 22 v0 rfl rfl)
  have k0 := h0
  have lt0 : ∀ x ∈ p0, x.block < W.heap.size := by obtain ⟨m, hm⟩ := k0; exact DataW.trod_lt m _ _ _ hm
  obtain ⟨z0, w0⟩ : ∃ zs, IsRow .u8 W a0 len0 cap0 zs := by
    obtain ⟨fuel, hf⟩ := h0
    rcases open_ints Try.underlying22 Try.underlying5 (by kernel_rfl) hf with ⟨hcs, _⟩ | ⟨x, l, c, zs, hcs, _, hl, hm, hz, _, hcell, hwz⟩
    · simp [Value.cells] at hcs
      obtain ⟨rfl, rfl, rfl⟩ := hcs
      exact ⟨[], .inl ⟨rfl, rfl, rfl, rfl⟩⟩
    · simp [Value.cells] at hcs
      obtain ⟨rfl, rfl, rfl⟩ := hcs
      exact ⟨zs, .inr ⟨_, rfl, hl, hm, by simpa using hz, hcell, hwz⟩⟩
  clear hA0 hval0
  refine (walk a0 len0 cap0 z0 W w0).mono fun e W' ⟨he, bel⟩ => ?_
  subst he
  exact ⟨_, rfl, _, _, _, [], _, [], hW', trodAll_mk1 (shut_bool Try.underlying4 _), (trodAll_cons_mk (Below.trod laidOut (by kernel_rfl) (of_decide_eq_true (by kernel_rfl)) k0 bel lt0) trodAll_mk0), rfl, bel.frame _, fun h => by cases h⟩

theorem over : Rows.fnParityRow.holds Try.pinned (OpenSpec.ofChange Rows.fnParitySpec) :=
  OpenClaim.holds_of_wide 3 Try.f3 rfl rfl rfl rfl rfl rfl rfl ⟨rfl, rfl, rfl, rfl, rfl⟩ rfl rfl rfl rfl rfl (by kernel_rfl) Try.func3 (by kernel_rfl)
    (of_decide_eq_true (by kernel_rfl)) (by unfold Func.isWrapper; first | (rw [if_pos (by decide +kernel)]; kernel_rfl) | (rw [if_neg (by decide +kernel)]; exact ⟨rfl, rfl⟩))
    (fun os started H enc _ => lifted os started H enc)

/-- ████ THE STATEMENT ████ -/
theorem proved : Rows.FnParitySaid := over
#print axioms proved
end Go.Proofs.Ytekjjemamiddaaa.fnParity
