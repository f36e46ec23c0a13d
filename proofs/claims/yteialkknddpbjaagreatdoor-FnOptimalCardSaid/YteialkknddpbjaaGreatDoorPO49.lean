/- The law FnOptimal, walked. -/
import Derived.Test.YteialkknddpbjaaGreatDoorRows
import Derived.Test.YteialkknddpbjaaGreatDoorCards
import Derived.Test.YteialkknddpbjaaGreatDoorTie
import Derived.SevenTiedAt
import Derived.WalkKit
import Derived.ProofKit
import Derived.LaidMore
import Derived.OpenShut
import Derived.Stop.Joined
import Derived.ShutString
import Derived.ChangeOld
import Derived.Below
import Derived.Carry
import Derived.Deep.RegionHeld3
import Derived.Deep.DeepCutAuto
import Derived.Stop.LaidErr
import Derived.Shelf.Vars
import Derived.Test.YteialkknddpbjaaGreatDoorPO02
import Derived.Test.YteialkknddpbjaaGreatDoorPO39
import Derived.Test.YteialkknddpbjaaGreatDoorPO40
import Derived.Test.YteialkknddpbjaaGreatDoorPO46
import Derived.Test.YteialkknddpbjaaGreatDoorPO48
namespace Go.Proofs.YteialkknddpbjaaGreatDoor.fnOptimal
open Go.ChangeShapes Go.WideShapes Go.ChangeAt Go.RowKit
set_option linter.unusedVariables false

def laidL : List (String × DataW Unit) := [("math/bits.deBruijn32tab", Rows.laid_math_bits_deBruijn32tab), ("math/bits.deBruijn64tab", Rows.laid_math_bits_deBruijn64tab), ("internal/strconv.uint64pow10", Rows.laid_internal_strconv_uint64pow10), ("unicode/utf8.acceptRanges", Rows.laid_unicode_utf8_acceptRanges), ("strconv.ErrRange", Rows.laid_strconv_ErrRange), ("strconv.ErrSyntax", Rows.laid_strconv_ErrSyntax), ("unicode/utf8.first", Rows.laid_unicode_utf8_first)]
theorem pow_of {w : World} (h : laidMet Tryz.prog laidL w) : Pow10 w :=
  Lib.tabIs_of_head (g := 1) (t := 266) (e := 253) (n := 20) (by kernel_rfl) (by kernel_rfl) Tryz.underlying266 Tryz.underlying253 (by kernel_rfl) (by kernel_rfl) (laidMet.tail (laidMet.tail h))
theorem star : "*" ++ "errors.errorString" = "*errors.errorString" := by decide
theorem row_err (u : TypeId) (h : Tryz.prog.typeName? 3 u = some "*errors.errorString") : u = 293 :=
  typeName_ptr_named (nm := "errors.errorString") (by rw [star]; kernel_rfl) (by kernel_rfl) (by decide) u (by rw [star]; exact h)
theorem lib_of {w : World} (h : laidMet Tryz.prog laidL w) (hS : w.ShapedOpen Tryz.prog) : LibV w := by
  have h4 := laidMet.tail (laidMet.tail (laidMet.tail (laidMet.tail h)))
  obtain ⟨a1, s1, v1, -, -, -⟩ := laid_sentinel h4 (g := 3) (ti := 234) (tp := 293) (te := 295) (ts := 9) (by kernel_rfl) (by kernel_rfl) Tryz.underlying234 row_err Tryz.underlying293 Tryz.underlying295 rfl rfl Tryz.underlying9 (by kernel_rfl) (by kernel_rfl)
  obtain ⟨a2, s2, v2, -, -, -⟩ := laid_sentinel (laidMet.tail h4) (g := 2) (ti := 234) (tp := 293) (te := 295) (ts := 9) (by kernel_rfl) (by kernel_rfl) Tryz.underlying234 row_err Tryz.underlying293 Tryz.underlying295 rfl rfl Tryz.underlying9 (by kernel_rfl) (by kernel_rfl)
  exact ⟨⟨_, _, v2⟩, ⟨_, _, v1⟩, cell_of_shapedOpen_int (P := Tryz.prog) (g := 0) (t := 3) (zero := #[.int .i64 0]) hS (of_decide_eq_true (by kernel_rfl)) (by kernel_rfl) rfl (by kernel_rfl) (by kernel_rfl) Tryz.underlying3⟩
def OneDead (a : AZ) (i : Nat) : Prop := i < a.ds.length ∧ ∀ j, ∀ h : j < a.ds.length, a.ds[j].dead = decide (j = i)
theorem alive_all {l : List DZ} (h : ∀ i, ∀ hi : i < l.length, l[i].dead = false) : aliveN l = l.length := by
  unfold aliveN
  rw [List.filter_eq_self.2]
  intro d hd
  obtain ⟨i, hi, rfl⟩ := List.getElem_of_mem hd
  rw [h i hi]; rfl
theorem died_one {A : AZ} {F : Int → Nat → Int} {p : List Int} (h : Held A F p ∧ NoBad A.ds) {i : Nat} (hi : i < A.ds.length) : Held (diedZ A i) F p ∧ OneDead (diedZ A i) i ∧ (diedZ A i).ds.length = A.ds.length := by
  have hal : ∀ j, ∀ hj : j < A.ds.length, A.ds[j].dead = false := fun j hj => nobad_alive h.1.holds.rows.ok h.2 hj
  have hn := inB_iff.1 (disks_n h.1.holds.rows.ok)
  have ho : dieOk A i = true := by
    simp only [dieOk, Bool.and_eq_true, decide_eq_true_eq, Int.toNat_natCast, getD_at hi, hal i hi, Bool.not_false, true_and]
    rw [alive_all hal]; omega
  have e1 : diedZ A i = A.dies i := by simp [diedZ, h.1.ok]
  have e : A.dies i = { A with ds := A.ds.set i A.ds[i].died } := by simp only [AZ.dies, ho, if_true, Int.toNat_natCast, getD_at hi]
  have hok : A.ds[i].ok = true := disksOk_at h.1.holds.rows.ok i hi
  rw [e1]
  refine ⟨h.1.dies h.2 i, ?_, dies_len _ _⟩
  rw [e]
  refine ⟨by simpa using hi, fun j hj => ?_⟩
  have hj' : j < A.ds.length := by simpa using hj
  by_cases q : j = i
  · subst q
    simp [DZ.died, hok]
  · simp only [List.getElem_set_ne (Ne.symm q), hal j hj', q, decide_false]
theorem OneDead.alike {a b : AZ} {i : Nat} (h : OneDead a i) (g : AlikeL a.ds b.ds) : OneDead b i :=
  ⟨by rw [g.1]; exact h.1, fun j hj => by
    have hj' : j < a.ds.length := by rw [← g.1]; exact hj
    rw [(g.2 j hj' hj).2.1]; exact h.2 j hj'⟩
theorem write_one {A : AZ} {F : Int → Nat → Int} {p : List Int} {i : Nat} (h : Held A F p) (hd : OneDead A i) {l : Nat} (hl : l < p.length) {x : Int} (hx : okv x = true) :
    ∃ F', Held (A.written l x) F' (p.set l x) ∧ OneDead (A.written l x) i := by
  obtain ⟨F', h1, -⟩ := h.write hl hx
  refine ⟨F', h1, hd.alike ?_⟩
  unfold AZ.written
  split
  · exact (patchZ_alike _ _).trans (flushAll_alike _)
  · exact AlikeL.refl _
theorem shown_held {A : AZ} {F : Int → Nat → Int} {p : List Int} (h : Held A F p) : shownB A = true ∧ shownZ A = p := by
  have hl : p.length = placesN A := h.holds.len
  obtain ⟨h1, h2⟩ := shown_yes (a := A) h.ok (fun k hk => by
    obtain ⟨q, -⟩ := h.holds.tell (i := k) (by omega)
    simp [upOk, h.up, q])
  refine ⟨h1, h2.trans ?_⟩
  apply List.ext_getElem (by rw [toldTo_len]; exact hl.symm)
  intro k hk hk'
  obtain ⟨-, q⟩ := h.holds.tell (i := k) hk'
  simp only [toldTo, List.getElem_map, List.getElem_range, upV, h.up, if_true]
  exact q
theorem opt_end {A : AZ} {F : Int → Nat → Int} {p : List Int} {i : Nat} (h : Held A F p) (hd : OneDead A i) :
    A.optimal = false ∧ replOk A i = true ∧ (healedAllZ (replZ A i)).optimal = true ∧ shownB (healedAllZ (replZ A i)) = true ∧ shownZ (healedAllZ (replZ A i)) = p ∧
    (healedAllZ (replZ A i)).log.length ≤ 1100000 ∧ (healedAllZ (replZ A i)).next.length ≤ 1100000 := by
  have hdi : A.ds[i]'hd.1 = A.ds[i]'hd.1 := rfl
  have hdd : (A.ds[i]'hd.1).dead = true := by rw [hd.2 i hd.1]; simp
  have ho := h.ok
  have hr : repOk A i = true := by
    simp only [repOk, Bool.and_eq_true, decide_eq_true_eq, beq_iff_eq, Int.toNat_natCast, getD_at hd.1]
    have := hd.1
    exact ⟨h.up, h.stage, by omega, hdd⟩
  have e1 : replZ A i = A.replacedZ i := by simp [replZ, ho]
  obtain ⟨j, ej, hj, -, -, -, e2⟩ := replaced_yes hr
  obtain rfl : i = j := by omega
  have h2 : Held (A.replacedZ i) F p := h.replaced i
  have hal : ∀ k, k < (A.replacedZ i).ds.length → ((A.replacedZ i).ds.getD k .zero).dead = false := fun k hk => by
    rw [e2] at hk ⊢
    have hk' : k < A.ds.length := by simpa using hk
    rw [getD_at hk]
    by_cases q : k = i
    · subst q
      simp [repD]
    · simp only [List.getElem_set_ne (Ne.symm q), hd.2 k hk', q, decide_false]
  have e3 : healedAllZ (A.replacedZ i) = (A.replacedZ i).healedAll := by simp [healedAllZ, h2.ok]
  obtain ⟨h3, hb3⟩ := h2.healedAll hal
  have hs := shown_held h3
  rw [e1, e3]
  exact ⟨optimal_alive hd.1 hdd ho, by simp [replOk, ho, hr], h3.optimal hb3, hs.1, hs.2, (held_sizes h3).1, (held_sizes h3).2⟩
def HaR (z : AZ) (base : Nat) (v : Value) (u : World) : Prop := ∃ (xv : Value) (raw : List DV), v = (healedAllZ z).val xv ∧ OD u base xv (healedAllZ z).ds raw
theorem HaR.grew {z : AZ} {base : Nat} {v : Value} {u u' : World} (h : HaR z base v u) (g : u.grownBy u' none) : HaR z base v u' := by
  obtain ⟨xv, raw, h1, h2⟩ := h
  exact ⟨xv, raw, h1, h2.grew g⟩
theorem HaR.of {z : AZ} {base b2 : Nat} {xv : Value} {raw : List DV} {u : World} (h : OD u b2 xv (healedAllZ z).ds raw) (hb : base ≤ b2) : HaR z base ((healedAllZ z).val xv) u := ⟨xv, raw, rfl, h.lower hb⟩

set_option maxRecDepth 100000 in
set_option maxHeartbeats 40000000 in
theorem walk (w : World) (HL : Hid (laidMet Tryz.prog laidL w)) (hS : w.ShapedOpen Tryz.prog) (a0 : Option Addr) (n0 c0 : Nat) (z0 : List Int) (w0 : IsRow w a0 n0 c0 z0) :
    Calls Tryz.prog 4 #[.slice a0 n0 c0] w fun e w' => e = .returned (.bool true) ∧ Below w.heap.size w w' := by
  have HT := Lib.hid (pow_of HL.out)
  have HV := Lib.hid (lib_of HL.out hS)
  clear HL hS
  by_cases hb : 4096 < n0
  · go_enter Tryz.func4, Tryz.ntmps4
    go_wp2_with fail
    go_fit (big_yes _ _ _ _ hb)
    rintro e w' ⟨rfl, rfl⟩
    go_wp2_with fail
    go_ret
    exact ⟨rfl, Below.refl _ _⟩
  have hR := codeAt_of w0 (by omega)
  clear w0
  go_enter Tryz.func4, Tryz.ntmps4
  go_wp2_with fail
  go_fit (big_no _ _ _ _ (by omega))
  rintro e w' ⟨rfl, rfl⟩
  go_wp2_with fail
  go_fit (drawHealedAll_any _ _ _ _ hR)
  rintro e w1 ⟨zB, vB, rfl, OB⟩
  obtain ⟨OBl, hB1, hB2, gB⟩ := OB
  replace OBl := OBl _ (Only.refl _ _)
  have G1 := gB
  clear gB
  have LB := OBl
  obtain ⟨Ba, Bc, rfl, -⟩ := LB.form
  have eB := galloc (grefl w1) (.cells #[.slice Ba zB.ds.length Bc, .string (str zB.log), .string (str zB.next), .int .i64 zB.stage, .bool zB.up] 26)
  have BB := Box5.new w1 (.slice Ba zB.ds.length Bc) (.string (str zB.log)) (.string (str zB.next)) (.int .i64 zB.stage) (.bool zB.up) 26
  replace LB := LB.kept eB
  have G2 := gtrans G1 eB
  clear G1
  clear eB
  go_upto_region 4 with (fail)
  generalize w1.alloc (.cells #[.slice Ba zB.ds.length Bc, .string (str zB.log), .string (str zB.next), .int .i64 zB.stage, .bool zB.up] 26) = WB at *
  generalize w1.heap.size = bB at *
  clear OBl
  go_wp2_with fail
  go_fit (drawOptimal_any _ _ _ _ (hR.kept (gbelow G2)))
  rintro e w2 ⟨zO, vO, rfl, OO⟩
  obtain ⟨OOl, hO1, hO2, gO⟩ := OO
  replace OOl := OOl _ (Only.refl _ _)
  replace LB := LB.kept gO
  replace BB := BB.kept gO
  have G3 := gtrans G2 gO
  clear G2
  clear gO
  have LO := OOl
  obtain ⟨Oa, Oc, rfl, -⟩ := LO.form
  have eO := galloc (grefl w2) (.cells #[.slice Oa zO.ds.length Oc, .string (str zO.log), .string (str zO.next), .int .i64 zO.stage, .bool zO.up] 26)
  have BO := Box5.new w2 (.slice Oa zO.ds.length Oc) (.string (str zO.log)) (.string (str zO.next)) (.int .i64 zO.stage) (.bool zO.up) 26
  replace LB := LB.kept eO
  replace BB := BB.kept eO
  replace LO := LO.kept eO
  have G4 := gtrans G3 eO
  clear G3
  clear eO
  go_upto_region 5 with (fail)
  generalize w2.alloc (.cells #[.slice Oa zO.ds.length Oc, .string (str zO.log), .string (str zO.next), .int .i64 zO.stage, .bool zO.up] 26) = WO at *
  generalize w2.heap.size = bO at *
  clear OOl
  have HBB := Lib.hid BB
  have HBO := Lib.hid BO
  have HLB := Lib.hid LB
  have HLO := Lib.hid LO
  have HTO := Lib.hid (HT.out.kept G4)
  have HVO := Lib.hid (HV.out.kept G4)
  have hzb1 : zB.log.length ≤ 1100000 := by omega
  have hzb2 : zB.next.length ≤ 1100000 := by omega
  have hzo1 : zO.log.length ≤ 1100000 := by omega
  have hzo2 : zO.next.length ≤ 1100000 := by omega
  have COi := fun (W : World) (g : WO.grownBy W none) => implOptimal_any _ zO W (HLO.out.kept g) (HTO.out.kept g) (HVO.out.kept g)
  have COs := fun (W : World) (g : WO.grownBy W none) => specOptimal_any _ zO W (HLO.out.kept g) hzo1 hzo2
  generalize zO.optimal = oB at *
  go_cut [34] (fun c wc => c = .bool false ∧ WO.grownBy wc none)
  case first =>
    refine region_rel 6 [[], [0], [], [2], [1, 3], [4]] (fun k v u => match k with
      | 0 => v = (.agg #[.slice Ba zB.ds.length Bc, .string (str zB.log), .string (str zB.next), .int .i64 zB.stage, .bool zB.up])
      | 1 => HaR zB WO.heap.size v u
      | 2 => v = (.agg #[.slice Ba zB.ds.length Bc, .string (str zB.log), .string (str zB.next), .int .i64 zB.stage, .bool zB.up])
      | 3 => HaR zB WO.heap.size v u
      | 4 => v = .bool true
      | 5 => v = .bool false
      | _ => True) (by kernel_rfl) (by kernel_rfl) ?hst ?hop ?hend
    case hst =>
      refine ⟨⟨⟨⟨⟨⟨trivial, ?_⟩, ?_⟩, ?_⟩, ?_⟩, ?_⟩, ?_⟩
      · exact fun v u u' h g => h
      · exact fun v u u' h g => HaR.grew h g
      · exact fun v u u' h g => h
      · exact fun v u u' h g => HaR.grew h g
      · exact fun v u u' h g => h
      · exact fun v u u' h g => h
    case hop =>
      have HU : Hid (∀ u, WO.drew.grownBy u none → Box5 u bB (.slice Ba zB.ds.length Bc) (.string (str zB.log)) (.string (str zB.next)) (.int .i64 zB.stage) (.bool zB.up) ∧ WO.grownBy u none) := fun u g => ⟨HBB.out.kept (gtrans (gdrew (grefl _) 1) g), gtrans (gdrew (grefl _) 1) g⟩
      refine ⟨⟨⟨⟨⟨⟨trivial, ?_⟩, ?_⟩, ?_⟩, ?_⟩, ?_⟩, ?_⟩
      · intro o ho vs u g hd
        obtain ⟨⟨c0, c1, c2, c3, c4⟩, gu⟩ := HU.out u g
        cases ho
        simp only [actOf, dstOf, List.foldl_nil, List.getElem?_toArray, Act.put, List.getD_cons_zero]
        go_simp
        exact ⟨grefl _, rfl⟩
      · intro o ho vs u g hd
        have h0 : vs 0 = _ := hd 0 (by simp)
        obtain ⟨-, gu⟩ := HU.out u g
        cases ho
        simp only [actOf, dstOf, List.foldl_cons, List.foldl_nil, List.getElem?_toArray, List.getElem?_cons_zero, Option.bind_some, Act.put, List.setIfInBounds_toArray, List.set_cons_zero, List.set_cons_succ, List.getD_cons_zero, List.getD_cons_succ]
        rw [h0]
        go_simp
        simp only [relUpon]
        go_fit (implHealedAll_any _ zB _ (HLB.out.kept gu) (HTO.out.kept gu) (HVO.out.kept gu))
        rintro e w3 ⟨v3, raw3, rfl, o3, g3⟩
        exact ⟨_, rfl, g3, HaR.of o3 gu.size⟩
      · intro o ho vs u g hd
        obtain ⟨⟨c0, c1, c2, c3, c4⟩, gu⟩ := HU.out u g
        cases ho
        simp only [actOf, dstOf, List.foldl_nil, List.getElem?_toArray, Act.put, List.getD_cons_zero, List.getD_cons_succ]
        go_simp
        exact ⟨grefl _, rfl⟩
      · intro o ho vs u g hd
        have h2 : vs 2 = _ := hd 2 (by simp)
        obtain ⟨-, gu⟩ := HU.out u g
        cases ho
        simp only [actOf, dstOf, List.foldl_cons, List.foldl_nil, List.getElem?_toArray, List.getElem?_cons_zero, List.getElem?_cons_succ, Option.bind_some, Act.put, List.setIfInBounds_toArray, List.set_cons_zero, List.set_cons_succ, List.getD_cons_zero, List.getD_cons_succ]
        rw [h2]
        go_simp
        simp only [relUpon]
        go_fit (specHealedAll_any _ zB _ (HLB.out.kept gu) hzb1 hzb2)
        rintro e w3 ⟨v3, raw3, rfl, o3, g3⟩
        exact ⟨_, rfl, g3, HaR.of o3 gu.size⟩
      · intro o ho vs u g hd
        obtain ⟨v1, r1, h1, o1⟩ : HaR zB WO.heap.size (vs 1) u := hd 1 (by simp)
        obtain ⟨v3, r3, h3, o3⟩ : HaR zB WO.heap.size (vs 3) u := hd 3 (by simp)
        obtain ⟨a1, c1, rfl, -⟩ := o1.form
        obtain ⟨a3, c3, rfl, -⟩ := o3.form
        cases ho
        simp only [actOf, dstOf, List.foldl_cons, List.foldl_nil, List.getElem?_toArray, List.getElem?_cons_zero, List.getElem?_cons_succ, Option.bind_some, Act.put, List.setIfInBounds_toArray, List.set_cons_zero, List.set_cons_succ, List.getD_cons_zero, List.getD_cons_succ]
        rw [h1, h3]
        go_simp
        simp only [relUpon]
        go_fit (likeArray_yes (healedAllZ zB) _ _ _ o1.ld o3.ld)
        rintro e w3 ⟨rfl, g3⟩
        exact ⟨_, rfl, g3, rfl⟩
      · intro o ho vs u g hd
        have h4 : vs 4 = _ := hd 4 (by simp)
        cases ho
        simp only [actOf, dstOf, List.foldl_cons, List.foldl_nil, List.getElem?_toArray, List.getElem?_cons_zero, List.getElem?_cons_succ, Option.bind_some, Act.put, List.setIfInBounds_toArray, List.set_cons_zero, List.set_cons_succ, List.getD_cons_zero, List.getD_cons_succ]
        rw [h4]
        go_simp
        exact ⟨grefl _, rfl⟩
    case hend =>
      intro vs u g hR
      obtain ⟨⟨⟨⟨⟨⟨-, h0⟩, h1⟩, h2⟩, h3⟩, h4⟩, h5⟩ := hR
      dsimp only at h5
      have gu : WO.grownBy u none := gtrans (gdrew (grefl _) 1) g
      have HBu := Lib.hid (HBO.out.kept gu)
      obtain ⟨o0, o1, o2, o3, o4⟩ := HBu.out
      change wpAny _ _ _ _ 7 #[true, true, true, true, true, true, false, false, false, false, false, false, false] (actOf _ vs _ [0, 1, 2, 3, 4, 5]) _
      simp only [actOf, dstOf, List.foldl_cons, List.foldl_nil, List.getElem?_toArray, List.getElem?_cons_zero, List.getElem?_cons_succ, Option.bind_some, Act.put, List.setIfInBounds_toArray, List.set_cons_zero, List.set_cons_succ]
      rw [h5]
      clear h0 h1 h2 h3 h4 h5
      generalize vs 0 = s0
      generalize vs 1 = s1
      generalize vs 2 = s2
      generalize vs 3 = s3
      generalize vs 4 = s4
      refine wpAny_ready (rs := [6]) (by kernel_rfl) (by simp) ?_
      refine AllReady.cons rfl (fun K hK => ?_) AllReady.nil
      go_simp
      refine hK _ _ ?_
      clear hK K
      refine wpAny_ready (rs := [7, 9]) (by kernel_rfl) (by simp) ?_
      refine AllReady.cons rfl (fun K hK => ?_) (AllReady.cons rfl (fun K hK => ?_) AllReady.nil)
      · skip
        go_simp
        refine hK _ _ ?_
        clear hK K
        refine wpAny_ready (rs := [8, 9]) (by kernel_rfl) (by simp) ?_
        refine AllReady.cons rfl (fun K hK => ?_) (AllReady.cons rfl (fun K hK => ?_) AllReady.nil)
        · skip
          go_simp
          go_wp2_with (first | (go_at_call 32; go_fit (COi _ gu); rintro e x81 ⟨rfl, y81⟩; obtain ⟨o0, o1, o2, o3, o4⟩ := HBO.out.kept (gtrans gu y81)))
          refine wpAny_ready (rs := [9]) (by kernel_rfl) (by simp) ?_
          refine AllReady.cons rfl (fun K hK => ?_) AllReady.nil
          go_simp
          refine hK _ _ ?_
          clear hK K
          refine wpAny_ready (rs := [10]) (by kernel_rfl) (by simp) ?_
          refine AllReady.cons rfl (fun K hK => ?_) AllReady.nil
          go_simp
          go_wp2_with (first | (go_at_call 33; go_fit (COs _ (gtrans gu y81)); rintro e x103 ⟨rfl, y103⟩; obtain ⟨o0, o1, o2, o3, o4⟩ := HBO.out.kept (gtrans (gtrans gu y81) y103)))
          refine wpAny_ready (rs := [11]) (by kernel_rfl) (by simp) ?_
          refine AllReady.cons rfl (fun K hK => ?_) AllReady.nil
          go_simp
          refine hK _ _ ?_
          clear hK K
          refine wpAny_ready (rs := [12]) (by kernel_rfl) (by simp) ?_
          refine AllReady.cons rfl (fun K hK => ?_) AllReady.nil
          go_simp
          refine hK _ _ ?_
          clear hK K
          refine wpAny_done (by kernel_rfl) ?_ _
          go_wp2_with fail
          go_meet
          exact ⟨rfl, gtrans (gtrans gu y81) y103⟩
        · skip
          go_simp
          refine hK _ _ ?_
          clear hK K
          refine wpAny_ready (rs := [8]) (by kernel_rfl) (by simp) ?_
          refine AllReady.cons rfl (fun K hK => ?_) AllReady.nil
          go_simp
          go_wp2_with (first | (go_at_call 32; go_fit (COi _ gu); rintro e x82 ⟨rfl, y82⟩; obtain ⟨o0, o1, o2, o3, o4⟩ := HBO.out.kept (gtrans gu y82)))
          refine wpAny_ready (rs := [10]) (by kernel_rfl) (by simp) ?_
          refine AllReady.cons rfl (fun K hK => ?_) AllReady.nil
          go_simp
          go_wp2_with (first | (go_at_call 33; go_fit (COs _ (gtrans gu y82)); rintro e x103 ⟨rfl, y103⟩; obtain ⟨o0, o1, o2, o3, o4⟩ := HBO.out.kept (gtrans (gtrans gu y82) y103)))
          refine wpAny_ready (rs := [11]) (by kernel_rfl) (by simp) ?_
          refine AllReady.cons rfl (fun K hK => ?_) AllReady.nil
          go_simp
          refine hK _ _ ?_
          clear hK K
          refine wpAny_ready (rs := [12]) (by kernel_rfl) (by simp) ?_
          refine AllReady.cons rfl (fun K hK => ?_) AllReady.nil
          go_simp
          refine hK _ _ ?_
          clear hK K
          refine wpAny_done (by kernel_rfl) ?_ _
          go_wp2_with fail
          go_meet
          exact ⟨rfl, gtrans (gtrans gu y82) y103⟩
      · skip
        go_simp
        refine hK _ _ ?_
        clear hK K
        refine wpAny_ready (rs := [7]) (by kernel_rfl) (by simp) ?_
        refine AllReady.cons rfl (fun K hK => ?_) AllReady.nil
        go_simp
        refine hK _ _ ?_
        clear hK K
        refine wpAny_ready (rs := [8]) (by kernel_rfl) (by simp) ?_
        refine AllReady.cons rfl (fun K hK => ?_) AllReady.nil
        go_simp
        go_wp2_with (first | (go_at_call 32; go_fit (COi _ gu); rintro e x82 ⟨rfl, y82⟩; obtain ⟨o0, o1, o2, o3, o4⟩ := HBO.out.kept (gtrans gu y82)))
        refine wpAny_ready (rs := [10]) (by kernel_rfl) (by simp) ?_
        refine AllReady.cons rfl (fun K hK => ?_) AllReady.nil
        go_simp
        go_wp2_with (first | (go_at_call 33; go_fit (COs _ (gtrans gu y82)); rintro e x103 ⟨rfl, y103⟩; obtain ⟨o0, o1, o2, o3, o4⟩ := HBO.out.kept (gtrans (gtrans gu y82) y103)))
        refine wpAny_ready (rs := [11]) (by kernel_rfl) (by simp) ?_
        refine AllReady.cons rfl (fun K hK => ?_) AllReady.nil
        go_simp
        refine hK _ _ ?_
        clear hK K
        refine wpAny_ready (rs := [12]) (by kernel_rfl) (by simp) ?_
        refine AllReady.cons rfl (fun K hK => ?_) AllReady.nil
        go_simp
        refine hK _ _ ?_
        clear hK K
        refine wpAny_done (by kernel_rfl) ?_ _
        go_wp2_with fail
        go_meet
        exact ⟨rfl, gtrans (gtrans gu y82) y103⟩
  case rest =>
    obtain ⟨rfl, gC⟩ := hcut
    clear LB BB LO BO HBB HBO HLB HLO COi COs HTO HVO
    have G5 := gtrans G4 gC
    clear G4
    clear gC
    have hR2 := hR.kept (gbelow G5)
    have hwc := (G5).size
    go_wp2_with fail
    go_fit (filled2_any _ _ _ _ hR2)
    rintro e w3 ⟨A0, F0, p0, vA, vp, rfl, HA0, hp1, hp2, LA0, IP, gF⟩
    have G6 := gtrans G5 gF
    clear G5
    obtain ⟨qb, pc, rfl, -⟩ := IP.form
    have HG3 := Lib.hid G6
    have hsz := HA0.out.1.ok
    have hAok := Lib.hid hsz
    have hl3 := inB_iff.1 (disks_n (AZ.ok_ds hsz))
    clear hsz gF
    have HOp : Hid (A0.optimal = true) := HA0.out.1.optimal HA0.out.2
    obtain ⟨g0, rfl, hg0, hg1, -⟩ := IS.at IP 0 (by omega)
    obtain ⟨Aa, Ac, rfl, -⟩ := LA0.form
    have eA := galloc (grefl w3) (.cells #[.slice Aa A0.ds.length Ac, .string (str A0.log), .string (str A0.next), .int .i64 A0.stage, .bool A0.up] 26)
    have BA := Box5.new w3 (.slice Aa A0.ds.length Ac) (.string (str A0.log)) (.string (str A0.next)) (.int .i64 A0.stage) (.bool A0.up) 26
    have LA := LA0.kept eA
    have IP1 := Own.grew IP eA
    have G4 := gtrans HG3.out eA
    clear LA0 IP
    go_upto_region 8 with (fail)
    generalize w3.alloc (.cells #[.slice Aa A0.ds.length Ac, .string (str A0.log), .string (str A0.next), .int .i64 A0.stage, .bool A0.up] 26) = W4 at *
    have hs4 := eA.size
    obtain ⟨q0, q1, q2, q3, q4⟩ := BA
    go_wp2_with fail
    go_fit (implOptimal_any _ A0 _ LA (HT.out.kept G4) (HV.out.kept G4))
    rintro e w5 ⟨rfl, g5⟩
    rw [HOp.out]
    have BA5 := Box5.kept (⟨q0, q1, q2, q3, q4⟩ : Box5 W4 w3.heap.size (.slice Aa A0.ds.length Ac) (.string (str A0.log)) (.string (str A0.next)) (.int .i64 A0.stage) (.bool A0.up)) g5
    have LA5 := LA.kept g5
    have IP5 := Own.grew IP1 g5
    have G5 := gtrans G4 g5
    clear q0 q1 q2 q3 q4 LA IP1 HOp
    have hR5 := hR.kept (gbelow G5)
    obtain ⟨q0, q1, q2, q3, q4⟩ := BA5
    have hln : (0 : Int) < A0.ds.length := by omega
    go_wp2_with fail
    go_fit (pick_any _ _ _ _ _ _ hR5 (by omega) (by omega) (by omega) (by omega))
    rintro e w' ⟨lost, hl0, hl1, rfl, rfl⟩
    obtain ⟨lost, rfl⟩ := Int.eq_ofNat_of_zero_le hl0
    have hll : lost < A0.ds.length := by omega
    clear hl0 hl1
    obtain ⟨hz1, hz2⟩ := held_sizes HA0.out.1
    have HD0 : Hid (Held (diedZ A0 lost) F0 p0 ∧ OneDead (diedZ A0 lost) lost ∧ (diedZ A0 lost).ds.length = A0.ds.length) := died_one HA0.out hll
    go_wp2_with fail
    go_fit (specDies_any _ A0 (lost : Int) _ LA5 hz1 hz2)
    rintro e w6 ⟨v6, raw6, rfl, o6, g6⟩
    have HX0 : Hid (Held (diedZ A0 lost) F0 p0 ∧ OneDead (diedZ A0 lost) lost) := ⟨HD0.out.1, HD0.out.2.1⟩
    generalize diedZ A0 lost = X0 at *
    obtain ⟨xa, xc, rfl, -⟩ := o6.form
    have A6 := ABox.new o6 26
    have e7 := galloc (grefl w6) (.cells #[.slice xa X0.ds.length xc, .string (str X0.log), .string (str X0.next), .int .i64 X0.stage, .bool X0.up] 26)
    have IP7 := Own.grew (Own.grew IP5 g6) e7
    have G7 := gtrans (gtrans G5 g6) e7
    have hs5 := g5.size
    have hs6 := g6.size
    have hs7 : w6.heap.size < (w6.alloc (.cells #[.slice xa X0.ds.length xc, .string (str X0.log), .string (str X0.next), .int .i64 X0.stage, .bool X0.up] 26)).heap.size := by simp
    clear q0 q1 q2 q3 q4 o6 g5 g6 e7 eA LA5 IP5 HA0 HD0
    go_upto_region 12 with (fail)
    generalize w6.alloc (.cells #[.slice xa X0.ds.length xc, .string (str X0.log), .string (str X0.next), .int .i64 X0.stage, .bool X0.up] 26) = W7 at *
    generalize hbx : w6.heap.size = bX at *
    have hgb : g0 < bX := by omega
    have hwg : w.heap.size ≤ g0 := by have := HG3.out.size; omega
    have hw5 : w.heap.size ≤ w5.heap.size := G5.size
    have hg5 : g0 < w5.heap.size := by omega
    have hb5 : w5.heap.size ≤ bX := by omega
    go_wp2_with fail
    go_loopw [10] (fun i wr => ∃ (k : Nat) (A : AZ) (F : Int → Nat → Int) (p : List Int) (v : Value) (raw : List DV), k ≤ 5 ∧ i = .int .i64 (k : Int) ∧ Hid (Held A F p ∧ OneDead A lost) ∧ Hid (p.length = p0.length) ∧ ABox wr bX w5.heap.size A v raw ∧ IS wr g0 (.slice (some ⟨g0, 0, none⟩) p0.length pc) p ∧ w.grownBy wr none) (fun i _ => 5 - (intOf i).toNat)
    case atStart => exact ⟨0, X0, F0, p0, _, _, by omega, rfl, HX0.out, rfl, A6, Own.raise IP7 (fun k e => by cases e; exact Nat.le_refl _), G7⟩
    case round =>
      clear A6 IP7
      obtain ⟨k, A, F, p, v, raw, hk, rfl, HA, HP, S, IS0, GG⟩ := hrel
      have hRr := hR.kept (gbelow GG)
      go_wp2_with fail
      go_fit (pick_any _ _ _ _ _ _ hRr (by omega) (by omega) (by omega) (by omega))
      rintro e w' ⟨t, t0, t1, rfl, rfl⟩
      obtain ⟨ya, yc, rfl, -⟩ := S.od.form
      by_cases hlt : (k : Int) < t
      · have hk5 : k < 5 := by omega
        have hw10 : IntKind.i64.wrap (10 + (k : Int)) = 10 + (k : Int) := IntWalk.i64_in _ (by omega)
        have hw20 : IntKind.i64.wrap (20 + (k : Int)) = 20 + (k : Int) := IntWalk.i64_in _ (by omega)
        have hpl : (1 : Int) ≤ p0.length := by omega
        go_wp2_with fail
        go_fit (pick_any _ _ _ _ _ _ hRr (by omega) (by omega) (by omega) (by omega))
        rintro e w' ⟨l, l0, l1, rfl, rfl⟩
        obtain ⟨l, rfl⟩ := Int.eq_ofNat_of_zero_le l0
        have hlm : l < p0.length := by omega
        go_wp2_with fail
        go_fit (pick_any _ _ _ _ _ _ hRr (by omega) (by omega) (by omega) (by omega))
        rintro e w' ⟨x, x0, x1, rfl, rfl⟩
        obtain ⟨k0, k1, k2, k3, k4⟩ := S.box
        have LS := S.od.ld
        have HWr : Hid (∃ F', Held (A.written l x) F' (p.set l x) ∧ OneDead (A.written l x) lost) := write_one HA.out.1 HA.out.2 (by rw [HP.out]; exact hlm) (by unfold okv; exact inB_yes (by omega) (by omega))
        have HZ : Hid (writtenZ A l x = A.written l x) := by show _ = _; unfold writtenZ; rw [if_pos HA.out.1.ok]
        obtain ⟨hz1, hz2⟩ := held_sizes HA.out.1
        clear t0 t1 hlt l0
        go_wp2_with fail
        go_fit (specWriteArray_any _ A l x _ LS hz1 hz2)
        rintro e w8 ⟨v8, raw8, rfl, o8, g8⟩
        rw [HZ.out] at o8 ⊢
        generalize A.written l x = A8 at *
        obtain ⟨za, zc, rfl, -⟩ := o8.form
        have hbl := S.lt
        have hsr := GG.size
        have S9 := S.put (a' := A8) g8 o8 hbl (by omega)
        have IS8 := Own.grew IS0 g8
        have hne : (Value.slice (some ⟨g0, 0, none⟩) p0.length pc).ownBlock ≠ some bX := by simp [Value.ownBlock]; omega
        have IS9 : IS (set5 w8 bX (.slice za A8.ds.length zc) (.string (str A8.log)) (.string (str A8.next)) (.int .i64 A8.stage) (.bool A8.up)) g0 (.slice (some ⟨g0, 0, none⟩) p0.length pc) p := by unfold set5; exact ((((Own.other IS8 hne _).other hne _).other hne _).other hne _).other hne _
        have G9 := gset5 (gtrans GG g8) (r := bX) (by omega) (.slice za A8.ds.length zc) (.string (str A8.log)) (.string (str A8.next)) (.int .i64 A8.stage) (.bool A8.up)
        obtain ⟨F', hF⟩ := HWr.out
        have HF := Lib.hid hF
        have hs8 := g8.size
        obtain ⟨⟨h0, f0⟩, ⟨h1, f1⟩, ⟨h2, f2⟩, ⟨h3, f3⟩, ⟨h4, f4⟩⟩ : Five w8 bX _ _ _ _ _ := ⟨gk g8 S.c0, gk g8 S.c1, gk g8 S.c2, gk g8 S.c3, gk g8 S.c4⟩
        have hsz : (set5 w8 bX (.slice za A8.ds.length zc) (.string (str A8.log)) (.string (str A8.next)) (.int .i64 A8.stage) (.bool A8.up)).heap.size = w8.heap.size := by simp [set5, World.setCell]
        have hSp : Hid ((p.set l x).length = p0.length) := by show _ = _; rw [List.length_set]; exact HP.out
        clear k0 k1 k2 k3 k4 LS S o8 hF HWr HZ IS8 IS0
        unfold set5 at S9 IS9 G9 hsz
        go_upto_region 18 with (fail)
        generalize World.setCell _ ⟨bX, 4, none⟩ (.bool A8.up) = W9 at *
        clear f0 f1 f2 f3 f4 h0 h1 h2 h3 h4
        obtain ⟨g, eg, -, -, hc, hfz⟩ := IS.at IS9 l (by rw [HP.out]; exact hlm)
        cases eg
        have hli : (l : Int) < p0.length := by omega
        have IS10 := IS.set IS9 l x
        have n1 := S9.od.not_old (r := g0) hg5
        have S10 : ABox (W9.setCell ⟨g0, l, none⟩ (.int .i64 x)) bX w5.heap.size A8 (.slice za A8.ds.length zc) raw8 := ⟨S9.c0.other (by intro e; cases e; omega) _, S9.c1.other (by intro e; cases e; omega) _, S9.c2.other (by intro e; cases e; omega) _, S9.c3.other (by intro e; cases e; omega) _, S9.c4.other (by intro e; cases e; omega) _, S9.od.far n1.1 n1.2 _, S9.vb, S9.rb⟩
        have G10 := gset1 G9 (c := g0) hwg l (.int .i64 x)
        clear S9 IS9 G9 n1
        go_wp2_with fail
        go_roundw
        case rel => exact ⟨k + 1, A8, F', _, _, raw8, by omega, by go_num, HF.out, hSp.out, S10, IS10, G10⟩
        case measure => simp [intOf]; omega
      · obtain ⟨h1, h2, h3, h4, h5, h6, h7⟩ := opt_end HA.out.1 HA.out.2
        have HE1 := Lib.hid h1
        have HE2 := Lib.hid h2
        have HE3 := Lib.hid h3
        have HE4 := Lib.hid h4
        have HE5 := Lib.hid h5
        clear h1 h2 h3 h4 h5
        obtain ⟨k0, k1, k2, k3, k4⟩ := S.box
        have LS := S.od.ld
        clear t0 t1
        go_wp2_with fail
        go_fit (implOptimal_any _ A _ LS (HT.out.kept GG) (HV.out.kept GG))
        rintro e w9 ⟨rfl, g9⟩
        rw [HE1.out]
        have S9 := S.kept g9
        have IS9 := Own.grew IS0 g9
        have G9 := gtrans GG g9
        clear k0 k1 k2 k3 k4 LS S IS0
        obtain ⟨k0, k1, k2, k3, k4⟩ := S9.box
        have L9 := S9.od.ld
        have hb9 := S9.lt
        have hs9 : w5.heap.size ≤ w9.heap.size := by omega
        go_wp2_with fail
        go_fit (implReplaced_any _ A (lost : Int) _ L9 (HT.out.kept G9) (HV.out.kept G9))
        rintro e wa ⟨va, rawa, rfl, oa, ga⟩
        rw [HE2.out]
        have HE3 := HE3
        have CHA := fun (v : Value) (W : World) (h : LD W v (replZ A lost).ds) (t : Pow10 W) (l : LibV W) => implHealedAll_any v (replZ A lost) W h t l
        generalize hY : replZ A lost = Y at *
        obtain ⟨za, zc, rfl, -⟩ := oa.form
        have Sa := S9.put (a' := Y) ga oa hb9 hs9
        have hne : (Value.slice (some ⟨g0, 0, none⟩) p0.length pc).ownBlock ≠ some bX := by simp [Value.ownBlock]; omega
        have ISa0 := Own.grew IS9 ga
        have ISa : IS (set5 wa bX (.slice za Y.ds.length zc) (.string (str Y.log)) (.string (str Y.next)) (.int .i64 Y.stage) (.bool Y.up)) g0 (.slice (some ⟨g0, 0, none⟩) p0.length pc) p := by unfold set5; exact ((((Own.other ISa0 hne _).other hne _).other hne _).other hne _).other hne _
        have Ga := gset5 (gtrans G9 ga) (r := bX) (by omega) (.slice za Y.ds.length zc) (.string (str Y.log)) (.string (str Y.next)) (.int .i64 Y.stage) (.bool Y.up)
        obtain ⟨⟨h0, f0⟩, ⟨h1, f1⟩, ⟨h2, f2⟩, ⟨h3, f3⟩, ⟨h4, f4⟩⟩ : Five wa bX _ _ _ _ _ := ⟨gk ga S9.c0, gk ga S9.c1, gk ga S9.c2, gk ga S9.c3, gk ga S9.c4⟩
        clear k0 k1 k2 k3 k4 L9 S9 IS9 oa ISa0
        unfold set5 at Sa ISa Ga
        go_upto_region 22 with (fail)
        generalize World.setCell _ ⟨bX, 4, none⟩ (.bool Y.up) = Wb at *
        clear f0 f1 f2 f3 f4 h0 h1 h2 h3 h4
        obtain ⟨k0, k1, k2, k3, k4⟩ := Sa.box
        have Lb := Sa.od.ld
        have hbb := Sa.lt
        have hsb : w5.heap.size ≤ Wb.heap.size := by omega
        go_wp2_with fail
        go_fit (CHA _ _ Lb (HT.out.kept Ga) (HV.out.kept Ga))
        rintro e wd ⟨vd, rawd, rfl, od, gd⟩
        generalize hX : healedAllZ Y = X at *
        obtain ⟨ua, uc, rfl, -⟩ := od.form
        have Sd := Sa.put (a' := X) gd od hbb hsb
        have ISd0 := Own.grew ISa gd
        have ISd : IS (set5 wd bX (.slice ua X.ds.length uc) (.string (str X.log)) (.string (str X.next)) (.int .i64 X.stage) (.bool X.up)) g0 (.slice (some ⟨g0, 0, none⟩) p0.length pc) p := by unfold set5; exact ((((Own.other ISd0 hne _).other hne _).other hne _).other hne _).other hne _
        have Gd := gset5 (gtrans Ga gd) (r := bX) (by omega) (.slice ua X.ds.length uc) (.string (str X.log)) (.string (str X.next)) (.int .i64 X.stage) (.bool X.up)
        obtain ⟨⟨h0, f0⟩, ⟨h1, f1⟩, ⟨h2, f2⟩, ⟨h3, f3⟩, ⟨h4, f4⟩⟩ : Five wd bX _ _ _ _ _ := ⟨gk gd Sa.c0, gk gd Sa.c1, gk gd Sa.c2, gk gd Sa.c3, gk gd Sa.c4⟩
        clear k0 k1 k2 k3 k4 Lb Sa ISa od ISd0
        unfold set5 at Sd ISd Gd
        go_upto_region 23 with (fail)
        generalize World.setCell _ ⟨bX, 4, none⟩ (.bool X.up) = We at *
        clear f0 f1 f2 f3 f4 h0 h1 h2 h3 h4
        obtain ⟨k0, k1, k2, k3, k4⟩ := Sd.box
        have Le := Sd.od.ld
        go_wp2_with fail
        go_fit (specShown_any _ X _ Le h6 h7)
        rintro e wf ⟨sv, rfl, Is, gf⟩
        rw [HE4.out]
        rw [HE5.out] at Is
        obtain ⟨sa, sn, rfl⟩ : ∃ a c, sv = .slice a p.length c := by obtain ⟨a, c, e, -⟩ := Is.rd.form; exact ⟨a, c, e⟩
        have Sf := Sd.kept gf
        have ISf := Own.grew ISd gf
        have Gf := gtrans Gd gf
        clear k0 k1 k2 k3 k4 Sd ISd
        obtain ⟨k0, k1, k2, k3, k4⟩ := Sf.box
        have Lf := Sf.od.ld
        go_wp2_with fail
        go_fit (implOptimal_any _ X _ Lf (HT.out.kept Gf) (HV.out.kept Gf))
        rintro e wg ⟨rfl, gg⟩
        rw [HE3.out]
        clear k0 k1 k2 k3 k4 Lf
        go_wp2_with fail
        go_fit (likeInts_yes _ _ p _ (Is.rd.kept gg) (ISf.rd.kept gg))
        rintro e wh ⟨rfl, gh⟩
        go_wp2_with fail
        go_ret
        exact ⟨rfl, gbelow (gtrans (gtrans Gf gg) gh)⟩

end Go.Proofs.YteialkknddpbjaaGreatDoor.fnOptimal
