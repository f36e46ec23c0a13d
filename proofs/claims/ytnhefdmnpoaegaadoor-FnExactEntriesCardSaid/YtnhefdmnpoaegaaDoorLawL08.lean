/- The laws' own helpers over lists of patches: compared, marked, held. -/
import Derived.Test.YtnhefdmnpoaegaaDoorOwnP
import Derived.Test.YtnhefdmnpoaegaaDoorOwnS
import Derived.Test.YtnhefdmnpoaegaaDoorLawL07
namespace Go.Proofs.YtnhefdmnpoaegaaDoor
open Go.ChangeShapes Go.WideShapes Go.ChangeAt Go.RowKit Go.Joins Go.Deep

def PZ.num (p : PZ) (x : Int) : PZ := ⟨x, p.ds, p.vs⟩
def PZ.withD (p : PZ) (x : List Int) : PZ := ⟨p.row, x, p.vs⟩
def PZ.withV (p : PZ) (x : List Int) : PZ := ⟨p.row, p.ds, x⟩
def PV.num (r : PV) (x : Int) : PV := ⟨x, r.da, r.dm, r.dc, r.va, r.vm, r.vc⟩
/-- patch i of a list is changed -/
theorem OP.upd {w w' : World} {base : Nat} {v : Value} {l : List PZ} {raw : List PV} (h : OP w base v l raw) (i : Nat) (_ : i < raw.length) (r : PV) (d : PZ)
    (hown : Own patE w' base v (raw.set i r)) (hd : r.Is w' base d) (hs : Apart r.dv r.vv) (hb : ∀ k, r.has k → v.ownBlock ≠ some k ∧ ∀ j (hj : j < raw.length), j ≠ i → ¬ raw[j].has k)
    (hw : ∀ j (hj : j < raw.length) k, j ≠ i → raw[j].has k → w'.heap[k]? = w.heap[k]?) : OP w' base v (l.set i d) (raw.set i r) := by
  refine ⟨hown, by simp [h.len], fun j hj hj' => ?_, fun j hj => ?_, fun a b ha hb' k hka hkb => ?_, fun j hj k hk => ?_⟩
  · simp only [List.length_set] at hj hj'
    by_cases e : i = j
    · subst e; simp only [List.getElem_set_self]; exact hd
    · simp only [List.getElem_set_ne e]
      have hj0 := h.is j hj hj'
      exact ⟨hj0.row, Own.same hj0.ds (fun k hk => hw j hj k (fun x => e x.symm) (.inl hk)), Own.same hj0.vs (fun k hk => hw j hj k (fun x => e x.symm) (.inr hk))⟩
  · simp only [List.length_set] at hj
    by_cases e : i = j
    · subst e; simp only [List.getElem_set_self]; exact hs
    · simp only [List.getElem_set_ne e]; exact h.self j hj
  · simp only [List.length_set] at ha hb'
    by_cases e1 : i = a
    · by_cases e2 : i = b
      · omega
      · subst e1
        simp only [List.getElem_set_self, List.getElem_set_ne e2] at hka hkb
        exact absurd hkb ((hb k hka).2 b hb' (fun x => e2 x.symm))
    · by_cases e2 : i = b
      · subst e2
        simp only [List.getElem_set_self, List.getElem_set_ne e1] at hka hkb
        exact absurd hka ((hb k hkb).2 a ha (fun x => e1 x.symm))
      · simp only [List.getElem_set_ne e1, List.getElem_set_ne e2] at hka hkb
        exact h.ap a b ha hb' k hka hkb
  · simp only [List.length_set] at hj
    by_cases e : i = j
    · subst e
      simp only [List.getElem_set_self] at hk
      exact (hb _ hk).1
    · simp only [List.getElem_set_ne e] at hk
      exact h.out j hj k hk
section
variable {w w' : World} {base n cap g : Nat} {l : List PZ} {raw : List PV}
/-- its blocks are its own -/
theorem OP.mine {v : Value} (h : OP w base v l raw) (i : Nat) (hi : i < raw.length) (k : Nat) (hk : raw[i].has k) : v.ownBlock ≠ some k ∧ ∀ j (hj : j < raw.length), j ≠ i → ¬ raw[j].has k :=
  ⟨h.out i hi k hk, fun j hj e x => e (h.ap j i hj hi k x hk)⟩
theorem OP.setRow (h : OP w base (.slice (some ⟨g, 0, none⟩) n cap) l raw) (i : Nat) (hi : i < raw.length) (hi' : i < l.length) (x : Int) :
    OP (w.setCell ⟨g, i * 3, none⟩ (.int .i64 x)) base (.slice (some ⟨g, 0, none⟩) n cap) (l.set i (l[i].num x)) (raw.set i (raw[i].num x)) := by
  have hg : ∀ j (hj : j < raw.length) k, raw[j].has k → (w.setCell ⟨g, i * 3, none⟩ (.int .i64 x)).heap[k]? = w.heap[k]? := fun j hj k hk => Below.heap_setCell w _ _ k (fun e => h.out j hj k hk (by rw [e]; rfl))
  have hr := h.is i hi hi'
  exact h.upd i hi (raw[i].num x) _ (Own.setAt h.own i 0 _ (raw[i].num x) hi (by decide) rfl) ⟨rfl, Own.same hr.ds (fun k hk => hg i hi k (.inl hk)), Own.same hr.vs (fun k hk => hg i hi k (.inr hk))⟩ (h.self i hi) (fun k hk => h.mine i hi k hk) (fun j hj k _ hk => hg j hj k hk)
theorem same_ofP {r : Option Nat} (g : w.grownBy w' r) (k : Nat) (hk : k < w.heap.size) (hr : r ≠ some k) : w'.heap[k]? = w.heap[k]? := g.block k hk (fun e => hr e.symm)
theorem OP.setDs {v : Value} {x : List Int} (h : OP w base v l raw) (i : Nat) (hi : i < raw.length) (hi' : i < l.length) (gr : w.grownBy w' raw[i].dv.ownBlock) (hc : IS w' base raw[i].dv x) :
    OP w' base v (l.set i (l[i].withD x)) raw := by
  have hr := h.is i hi hi'
  have hm := h.mine i hi
  have hlt : ∀ k, v.ownBlock = some k → k < w.heap.size := fun k hk => (h.own.lt k hk).2
  have e : raw.set i raw[i] = raw := List.set_getElem_self hi
  have q := h.upd (w' := w') i hi raw[i] (l[i].withD x) (by
    rw [e]
    exact Own.same h.own (fun k hk => same_ofP gr k (hlt k hk) (fun y => (hm k (.inl y)).1 hk))) ⟨hr.row, hc, Own.same hr.vs (fun k hk => same_ofP gr k (hr.vs.lt k hk).2 (fun y => by rcases h.self i hi with z | z; rw [z] at y; cases y; exact z (by rw [y, hk])))⟩ (h.self i hi) (fun k hk => hm k hk) (fun j hj k hji hk => same_ofP gr k (h.in j hj k hk).2 (fun y => (hm k (.inl y)).2 j hj hji hk))
  rw [e] at q
  exact q
theorem OP.setVs {v : Value} {x : List Int} (h : OP w base v l raw) (i : Nat) (hi : i < raw.length) (hi' : i < l.length) (gr : w.grownBy w' raw[i].vv.ownBlock) (hc : IS w' base raw[i].vv x) :
    OP w' base v (l.set i (l[i].withV x)) raw := by
  have hr := h.is i hi hi'
  have hm := h.mine i hi
  have hlt : ∀ k, v.ownBlock = some k → k < w.heap.size := fun k hk => (h.own.lt k hk).2
  have e : raw.set i raw[i] = raw := List.set_getElem_self hi
  have q := h.upd (w' := w') i hi raw[i] (l[i].withV x) (by
    rw [e]
    exact Own.same h.own (fun k hk => same_ofP gr k (hlt k hk) (fun y => (hm k (.inr y)).1 hk))) ⟨hr.row, Own.same hr.ds (fun k hk => same_ofP gr k (hr.ds.lt k hk).2 (fun y => by rcases h.self i hi with z | z; rw [z] at hk; cases hk; exact z (by rw [y, hk]))), hc⟩ (h.self i hi) (fun k hk => hm k hk) (fun j hj k hji hk => same_ofP gr k (h.in j hj k hk).2 (fun y => (hm k (.inr y)).2 j hj hji hk))
  rw [e] at q
  exact q
/-- patch i in its list: the three cells -/
theorem OP.at {a : Option Addr} (h : OP w base (.slice a n cap) l raw) (i : Nat) (hi : i < raw.length) (hi' : i < l.length) :
    ∃ g, a = some ⟨g, 0, none⟩ ∧ base ≤ g ∧ g < w.heap.size ∧ At w g (i * 3) (.int .i64 l[i].row) ∧ At w g (i * 3 + 1) raw[i].dv ∧ At w g (i * 3 + 2) raw[i].vv := by
  obtain ⟨g, h1, h2, h3, h4⟩ := Own.at h.own i hi
  have hr := h.is i hi hi'
  exact ⟨g, h1, h2, h3, by rw [← hr.row]; exact h4 0 _ rfl, h4 1 _ rfl, h4 2 _ rfl⟩
end
/-- other memory was written -/
theorem OP.far {S : Nat → Prop} {w w' : World} {base : Nat} {v : Value} {l : List PZ} {raw : List PV} (h : OP w base v l raw) (O : Only S w w') (hv : ∀ k, v.ownBlock = some k → ¬ S k) (hr : ∀ i (hi : i < raw.length) k, raw[i].has k → ¬ S k) : OP w' base v l raw :=
  ⟨Own.same h.own (fun k hk => O.block k (h.own.lt k hk).2 (hv k hk)), h.len, fun i a b => ⟨(h.is i a b).row, Own.same (h.is i a b).ds (fun k hk => O.block k ((h.is i a b).ds.lt k hk).2 (hr i a k (.inl hk))), Own.same (h.is i a b).vs (fun k hk => O.block k ((h.is i a b).vs.lt k hk).2 (hr i a k (.inr hk)))⟩, h.self, h.ap, h.out⟩
def shapeP (l : List PZ) : List (Nat × Nat) := l.map fun d => (d.ds.length, d.vs.length)
theorem shapeP_set {l : List PZ} {i : Nat} (hi : i < l.length) {d : PZ} (h : (d.ds.length, d.vs.length) = (l[i].ds.length, l[i].vs.length)) : shapeP (l.set i d) = shapeP l := by
  unfold shapeP
  rw [List.map_set, h]
  apply List.ext_getElem?
  intro j
  by_cases e : i = j
  · subst e; simp [hi]
  · simp [List.getElem?_set_ne e]
theorem shapeP_at {l l' : List PZ} (h : shapeP l' = shapeP l) (i : Nat) (hi : i < l.length) (hi' : i < l'.length) : l'[i].ds.length = l[i].ds.length ∧ l'[i].vs.length = l[i].vs.length := by
  have := congrArg (fun x => x[i]?) h
  simp [shapeP, hi, hi'] at this
  exact this
def sizeP : List PZ → Nat
  | [] => 0
  | d :: r => d.ds.length + d.vs.length + sizeP r
theorem sizeP_append (a b : List PZ) : sizeP (a ++ b) = sizeP a + sizeP b := by
  induction a with
  | nil => simp [sizeP]
  | cons x r ih => simp [sizeP, ih]; omega
theorem sizeP_next {l : List PZ} {k : Nat} (h : k < l.length) : sizeP (l.take (k + 1)) = sizeP (l.take k) + (l[k].ds.length + l[k].vs.length) := by
  rw [List.take_succ_eq_append_getElem h, sizeP_append]; simp [sizeP]
theorem sizeP_take (l : List PZ) (k : Nat) : sizeP (l.take k) ≤ sizeP l := by
  have := sizeP_append (l.take k) (l.drop k)
  rw [List.take_append_drop] at this; omega
/-- they are not too many -/
def SmallP (l : List PZ) : Prop := l.length + sizeP l ≤ 10000000 ∧ ∀ i (h : i < l.length), l[i].ds.length ≤ 2 ∧ l[i].vs.length ≤ 2
def mkP (k : Int) (d : PZ) : PZ := ⟨k, markI (k + 1) d.ds.length, markI (k + 1 + d.ds.length) d.vs.length⟩
def mpN (k : Int) (l : List PZ) (j : Nat) : Int := k + j + sizeP (l.take j)
def markPs (k : Int) (l : List PZ) : List PZ := (List.range l.length).map fun i => mkP (mpN k l i) (l.getD i .zero)
theorem markPs_length (k : Int) (l : List PZ) : (markPs k l).length = l.length := by simp [markPs]
theorem markPs_get (k : Int) (l : List PZ) (i : Nat) (h : i < (markPs k l).length) : (markPs k l)[i] = mkP (mpN k l i) (l.getD i .zero) := by simp [markPs]
theorem markPs_of {k : Int} {l l' : List PZ} (hl : l'.length = l.length) (h : ∀ i (h : i < l'.length), i < l.length → l'[i] = mkP (mpN k l i) (l.getD i .zero)) : l' = markPs k l := by
  apply List.ext_getElem
  · rw [hl, markPs_length]
  · intro i h1 h2
    rw [markPs_get]
    exact h i h1 (by omega)
theorem mpN_next {k : Int} {l : List PZ} {j : Nat} (h : j < l.length) : mpN k l (j + 1) = mpN k l j + 1 + l[j].ds.length + l[j].vs.length := by
  unfold mpN
  rw [sizeP_next h]; omega
theorem getP_at {l : List PZ} {k : Nat} (h : k < l.length) : l.getD k .zero = l[k] := by simp [List.getD_eq_getElem?_getD, h]
set_option maxHeartbeats 1000000 in
theorem eqPatchS_yes (v1 v2 : Value) (l : List PZ) (w : World) (h1 : LP w v1 l) (h2 : LP w v2 l) :
    Calls Tryd.prog 10 #[v1, v2] w (Pure (.bool true) w) := by
  obtain ⟨a1, c1, rfl, hm⟩ := h1.form
  obtain ⟨a2, c2, rfl, _⟩ := h2.form
  go_enter Tryd.func10, Tryd.ntmps10
  go_wp2
  go_loopw [5] (fun i wr => ∃ k : Nat, k ≤ l.length ∧ i = .int .i64 k ∧ w.grownBy wr none) (fun i _ => l.length - (intOf i).toNat)
  case atStart => exact ⟨0, Nat.zero_le _, rfl, grefl _⟩
  case round =>
    obtain ⟨k, hk, rfl, G⟩ := hrel
    by_cases hlt : k < l.length
    · obtain ⟨g, o, ka, km, kc, na, nm, nc, rfl, x0, x1, x2, D1, D2⟩ := (h1.kept G).at k hlt
      obtain ⟨g', o', ka', km', kc', na', nm', nc', rfl, y0, y1, y2, D3, D4⟩ := (h2.kept G).at k hlt
      have hki : (k : Int) < l.length := by omega
      go_wp2_with fail
      refine region_calm (fun w' => (w'.cell? ⟨g, o + k * 3, none⟩ = some (.int .i64 l[k].row) ∧ w'.cell? ⟨g, o + k * 3 + 1, none⟩ = some (.slice ka km kc) ∧ w'.cell? ⟨g, o + k * 3 + 2, none⟩ = some (.slice na nm nc)) ∧ (w'.cell? ⟨g', o' + k * 3, none⟩ = some (.int .i64 l[k].row) ∧ w'.cell? ⟨g', o' + k * 3 + 1, none⟩ = some (.slice ka' km' kc') ∧ w'.cell? ⟨g', o' + k * 3 + 2, none⟩ = some (.slice na' nm' nc')) ∧ wr.grownBy w' none) (by kernel_rfl) (by kernel_rfl) (⟨⟨x0, x1, x2⟩, ⟨y0, y1, y2⟩, gdrew (grefl _) 1⟩) ?_
      repeat (first
        | (refine calm_skip (by rfl) ?_; simp only [Act.put, List.setIfInBounds_toArray, List.set_cons_zero, List.set_cons_succ])
        | (refine calm_step (by rfl) ?_
           apply Exists.intro
           refine ⟨fun w' hw' => ?_, ?_⟩
           · go_simp
             first | done | exact rfl | (go_at_call 17; go_fit (eqPatch_yes l[k] _ _ _ _ _ (D1.kept hw'.2.2) (D2.kept hw'.2.2) (D3.kept hw'.2.2) (D4.kept hw'.2.2)); rintro e w8 ⟨rfl, g8⟩; exact And.intro rfl (And.intro (And.intro (gkc g8 hw'.1.1) (And.intro (gkc g8 hw'.1.2.1) (gkc g8 hw'.1.2.2))) (And.intro (And.intro (gkc g8 hw'.2.1.1) (And.intro (gkc g8 hw'.2.1.2.1) (gkc g8 hw'.2.1.2.2))) (gtrans hw'.2.2 g8))))
           simp only [Act.put, List.setIfInBounds_toArray, List.set_cons_zero, List.set_cons_succ]))
      refine calm_nil ?_
      intro w9 hw9
      go_wp2_with fail
      go_roundw
      case rel => exact ⟨k + 1, by omega, by go_num, gtrans G hw9.2.2⟩
      case measure => simp [intOf]; omega
    · go_wp2_with fail
      go_ret
      exact ⟨rfl, G⟩
set_option maxHeartbeats 1000000 in
theorem markPatchS_at (base T : Nat) (v : Value) (l : List PZ) (raw : List PV) (k : Int) (w : World) (h : OP w base v l raw) (hT1 : ∀ i (hi : i < raw.length) b, raw[i].has b → b < T) (hT2 : ∀ b, v.ownBlock = some b → b < T) (hs : SmallP l) (h0 : 0 ≤ k) (h1 : k ≤ 1000) :
    Calls Tryd.prog 11 #[v, .int .i64 k] w fun e w' => ∃ raw', e = .returned (.int .i64 (mpN k l l.length)) ∧ OP w' base v (markPs k l) raw' ∧ Only (fun b => base ≤ b ∧ b < T) w w' := by
  obtain ⟨a, cap, rfl, hm⟩ := h.form
  have HSm := Lib.hid hs.2
  have hsl := hs.1
  have HT : Hid (∀ j, sizeP (l.take j) ≤ sizeP l) := fun j => sizeP_take l j
  clear hs
  go_enter Tryd.func11, Tryd.ntmps11
  go_wp2
  go_loopw [1, 5] (fun m i wr => ∃ (j : Nat) (x : Int) (l' : List PZ) (raw' : List PV), j ≤ l.length ∧ i = .int .i64 j ∧ m = .int .i64 x ∧ 0 ≤ x ∧ Hid (x = mpN k l j) ∧ Hid (∀ i (h : i < l'.length), i < j → l'[i] = mkP (mpN k l i) (l.getD i .zero)) ∧ OP wr base (.slice a l.length cap) l' raw' ∧ Hid (shapeP l' = shapeP l ∧ l'.length = l.length) ∧ Only (fun b => base ≤ b ∧ b < T) w wr ∧ Hid (∀ i (hi : i < raw'.length) b, raw'[i].has b → b < T) ∧ (∀ b, (Value.slice a l.length cap).ownBlock = some b → b < T)) (fun _ i _ => l.length - (intOf i).toNat)
  case atStart => exact ⟨0, k, l, raw, Nat.zero_le _, rfl, rfl, h0, by show _ = _; simp [mpN, sizeP], (fun i _ hi => by omega), h, ⟨rfl, rfl⟩, Only.refl _ _, hT1, hT2⟩
  case round =>
    obtain ⟨j, x, l', raw', hj, rfl, rfl, x0, HX, HM, C, HL, G, HB, hv⟩ := hrel
    by_cases hlt : j < l.length
    · have hji : (j : Int) < l.length := by omega
      have j1 : j < l'.length := by rw [HL.out.2]; exact hlt
      have j2 : j < raw'.length := by rw [C.len]; exact j1
      have hsh := shapeP_at HL.out.1 j hlt j1
      have hbd := HSm.out j hlt
      have hxb : x ≤ 20001000 := by have e := HX.out; unfold mpN at e; have := HT.out j; omega
      have HN := Lib.hid (sizeP_next hlt)
      obtain ⟨g, rfl, g1, g2, ⟨y0, z0⟩, -⟩ := C.at j j2 j1
      have hgw := hv g rfl
      have C1 := C.setRow j j2 j1 x
      have G1 := G.trans (Only.of (gset (World.grownBy.refl wr _) (j * 3) (.int .i64 x)) (fun b e => by cases e; exact ⟨g1, hgw⟩) : Only (fun b => base ≤ b ∧ b < T) wr _)
      have L1 := shapeP_set j1 (d := (l'[j].num x)) rfl
      have B1 : Hid (∀ i (hi : i < (raw'.set j (raw'[j].num x)).length) b, (raw'.set j (raw'[j].num x))[i].has b → b < T) := fun i hi b hb => by
        simp only [List.length_set] at hi
        by_cases e : j = i
        · subst e; simp only [List.getElem_set_self] at hb; exact HB.out j j2 b hb
        · simp only [List.getElem_set_ne e] at hb; exact HB.out i hi b hb
      go_upto_region 5 with (fail)
      generalize wr.setCell ⟨g, j * 3, none⟩ (.int .i64 x) = W1 at *
      clear y0 z0 C G HB
      have S1 : Hid (shapeP (l'.set j (l'[j].num x)) = shapeP l ∧ (l'.set j (l'[j].num x)).length = l.length) := ⟨L1.trans HL.out.1, by rw [List.length_set]; exact HL.out.2⟩
      clear L1 HL
      have j1' : j < (l'.set j (l'[j].num x)).length := by simpa using j1
      have j2' : j < (raw'.set j (raw'[j].num x)).length := by simpa using j2
      clear hsh
      have E1 : Hid (∀ i, (l'.set j (l'[j].num x))[i]? = if i = j then some (l'[j].num x) else l'[i]?) := fun i => by
        rw [List.getElem?_set]; by_cases e : j = i; subst e; simp [j1]; simp [e, Ne.symm e]
      generalize l'.set j (l'[j].num x) = l2 at *
      generalize raw'.set j (raw'[j].num x) = raw2 at *
      clear j2
      have hsh := shapeP_at S1.out.1 j hlt j1'
      obtain ⟨g', e', -, -, -, ⟨y2, z2⟩, -⟩ := C1.at j j2' j1'
      cases e'
      have D2 := C1.is j j2' j1'
      change W1.cell? ⟨g, j * 3 + 1, none⟩ = some (.slice raw2[j].da raw2[j].dm raw2[j].dc) at y2
      go_wp2_with fail
      go_fit (markInt64S_any base (.slice raw2[j].da raw2[j].dm raw2[j].dc) l2[j].ds (x + 1) _ D2.ds (by omega) (by omega) (by omega))
      rintro e w3 ⟨rfl, c3, g3⟩
      have C3 := C1.setDs j j2' j1' g3 c3
      have G3 := G1.trans (Only.of g3 (fun b e => ⟨(C1.in j j2' b (.inl e)).1, B1.out j j2' b (.inl e)⟩))
      have L3 := shapeP_set j1' (d := (l2[j].withD (markI (x + 1) l2[j].ds.length))) (by simp [markI_length, PZ.withD])
      clear y2 z2 G1 g3 c3 D2
      have S3 : Hid (shapeP (l2.set j (l2[j].withD (markI (x + 1) l2[j].ds.length))) = shapeP l ∧ (l2.set j (l2[j].withD (markI (x + 1) l2[j].ds.length))).length = l.length) := ⟨L3.trans S1.out.1, by rw [List.length_set]; exact S1.out.2⟩
      clear L3 S1 C1
      have j1 : j < (l2.set j (l2[j].withD (markI (x + 1) l2[j].ds.length))).length := by simpa using j1'
      have E3 : Hid (∀ i, (l2.set j (l2[j].withD (markI (x + 1) l2[j].ds.length)))[i]? = if i = j then some (l2[j].withD (markI (x + 1) l2[j].ds.length)) else l2[i]?) := fun i => by
        rw [List.getElem?_set]; by_cases e : j = i; subst e; simp [j1']; simp [e, Ne.symm e]
      rw [hsh.1] at *
      generalize l2.set j (l2[j].withD (markI (x + 1) l[j].ds.length)) = l3 at *
      have hsh3 := shapeP_at S3.out.1 j hlt j1
      obtain ⟨g', e', -, -, -, -, ⟨y3, z3⟩⟩ := C3.at j j2' j1
      cases e'
      have D3 := C3.is j j2' j1
      change w3.cell? ⟨g, j * 3 + 2, none⟩ = some (.slice raw2[j].va raw2[j].vm raw2[j].vc) at y3
      go_wp2_with fail
      go_fit (markInt64S_any base (.slice raw2[j].va raw2[j].vm raw2[j].vc) l3[j].vs (x + 1 + l[j].ds.length) _ D3.vs (by omega) (by omega) (by omega))
      rintro e w4 ⟨rfl, c4, g4⟩
      have C4 := C3.setVs j j2' j1 g4 c4
      have G4 := G3.trans (Only.of g4 (fun b e => ⟨(C3.in j j2' b (.inr e)).1, B1.out j j2' b (.inr e)⟩))
      have L4 := shapeP_set j1 (d := (l3[j].withV (markI (x + 1 + l[j].ds.length) l3[j].vs.length))) (by simp [markI_length, PZ.withV])
      have S4 : Hid (shapeP (l3.set j (l3[j].withV (markI (x + 1 + l[j].ds.length) l3[j].vs.length))) = shapeP l ∧ (l3.set j (l3[j].withV (markI (x + 1 + l[j].ds.length) l3[j].vs.length))).length = l.length) := ⟨L4.trans S3.out.1, by rw [List.length_set]; exact S3.out.2⟩
      rw [hsh3.2] at *
      have HX4 : Hid (x + 1 + l[j].ds.length + l[j].vs.length = mpN k l (j + 1)) := by show _ = _; rw [mpN_next hlt, HX.out]
      have HM4 : Hid (∀ i (h : i < (l3.set j (l3[j].withV (markI (x + 1 + l[j].ds.length) l[j].vs.length))).length), i < j + 1 → (l3.set j (l3[j].withV (markI (x + 1 + l[j].ds.length) l[j].vs.length)))[i] = mkP (mpN k l i) (l.getD i .zero)) := fun i h hi => by
        simp only [List.length_set] at h
        by_cases e : j = i
        · subst e
          rw [List.getElem_set_self]
          have a1 := E1.out j
          have a3 := E3.out j
          rw [if_pos rfl] at a1 a3
          obtain ⟨_, b1⟩ := List.getElem?_eq_some_iff.1 a1
          obtain ⟨_, b3⟩ := List.getElem?_eq_some_iff.1 a3
          rw [b3, b1, getP_at hlt, ← HX.out]
          rfl
        · rw [List.getElem_set_ne e]
          have a1 := E1.out i
          have a3 := E3.out i
          rw [if_neg (Ne.symm e)] at a1 a3
          rw [a1] at a3
          obtain ⟨_, b3⟩ := List.getElem?_eq_some_iff.1 (a3.symm.trans (List.getElem?_eq_getElem h))
          rw [← b3]
          exact HM.out i _ (by omega)
      clear y3 z3 G3 g4 c4 D3 L4 S3 C3 E1 E3 HM HX
      go_wp2_with fail
      go_roundw
      case rel => exact ⟨j + 1, _, _, raw2, by omega, by go_num, rfl, by omega, HX4, HM4, C4, S4, G4, B1, hv⟩
      case measure => simp [intOf]; omega
    · obtain rfl : j = l.length := by omega
      have HQ : Hid (l' = markPs k l) := markPs_of HL.out.2 (fun i h hi => HM.out i h hi)
      go_wp2_with fail
      go_ret
      exact ⟨raw', by rw [← HX.out]; rfl, by rw [← HQ.out]; exact C, G⟩
set_option maxHeartbeats 1000000 in
theorem heldPatchS_any (v : Value) (l : List PZ) (k : Int) (w : World) (h : LP w v (markPs k l)) (hs : SmallP l) (h0 : 0 ≤ k) (h1 : k ≤ 1000) :
    Calls Tryd.prog 12 #[v, .int .i64 k] w (Pure (.int .i64 (mpN k l l.length)) w) := by
  obtain ⟨a, cap, rfl, hm⟩ := h.form
  rw [markPs_length] at hm
  have HSm := Lib.hid hs.2
  have hsl := hs.1
  have HT : Hid (∀ j, sizeP (l.take j) ≤ sizeP l) := fun j => sizeP_take l j
  have HL : Hid ((markPs k l).length = l.length) := markPs_length k l
  rw [markPs_length]
  clear hs
  go_enter Tryd.func12, Tryd.ntmps12
  go_wp2
  go_loopw [1, 5] (fun m i wr => ∃ (j : Nat) (x : Int), j ≤ l.length ∧ i = .int .i64 j ∧ m = .int .i64 x ∧ 0 ≤ x ∧ Hid (x = mpN k l j) ∧ w.grownBy wr none) (fun _ i _ => l.length - (intOf i).toNat)
  case atStart => exact ⟨0, k, Nat.zero_le _, rfl, rfl, h0, by show _ = _; simp [mpN, sizeP], grefl _⟩
  case round =>
    obtain ⟨j, x, hj, rfl, rfl, x0, HX, G⟩ := hrel
    have hxb : x ≤ 20001000 := by have e := HX.out; unfold mpN at e; have := HT.out j; omega
    by_cases hlt : j < l.length
    · have hji : (j : Int) < l.length := by omega
      have j1 : j < (markPs k l).length := by rw [markPs_length]; exact hlt
      have hbd := HSm.out j hlt
      obtain ⟨g, o, ka, km, kc, na, nm, nc, e', y0, y1, y2, D1, D2⟩ := (h.kept G).at j j1
      cases e'
      have hD : (markPs k l)[j] = mkP x l[j] := by rw [markPs_get, getP_at hlt, ← HX.out]
      rw [hD] at y0 D1 D2
      change wr.cell? _ = some (.int .i64 x) at y0
      change IR wr _ (markI (x + 1) l[j].ds.length) at D1
      change IR wr _ (markI (x + 1 + l[j].ds.length) l[j].vs.length) at D2
      have p1 : ¬ (x + 1 + (l[j].ds.length : Int)) < 0 := by omega
      have p2 : ¬ (x + 1 + (l[j].ds.length : Int) + (l[j].vs.length : Int)) < 0 := by omega
      have HX4 : Hid (x + 1 + l[j].ds.length + l[j].vs.length = mpN k l (j + 1)) := by show _ = _; rw [mpN_next hlt, HX.out]
      clear hD HX
      go_wp2_with fail
      go_fit (heldInt64S_any _ l[j].ds.length (x + 1) _ D1 (by omega) (by omega) (by omega))
      rintro e w2 ⟨rfl, rfl⟩
      go_wp2_with fail
      go_fit (heldInt64S_any _ l[j].vs.length (x + 1 + l[j].ds.length) _ D2 (by omega) (by omega) (by omega))
      rintro e w2 ⟨rfl, rfl⟩
      go_wp2_with fail
      go_roundw
      case rel => exact ⟨j + 1, _, by omega, by go_num, rfl, by omega, HX4, G⟩
      case measure => simp [intOf]; omega
    · obtain rfl : j = l.length := by omega
      go_wp2_with fail
      go_ret
      exact ⟨by rw [← HX.out]; rfl, G⟩
end Go.Proofs.YtnhefdmnpoaegaaDoor
