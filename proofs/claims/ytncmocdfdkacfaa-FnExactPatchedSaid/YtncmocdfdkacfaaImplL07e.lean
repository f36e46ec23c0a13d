/- What the program's PatchFor returns. -/
import Derived.Test.YtncmocdfdkacfaaImplL07d
namespace Go.Proofs.Ytncmocdfdkacfaa
open Go.ChangeShapes Go.WideShapes Go.ChangeAt Go.RowKit

theorem rowsZ_some {l : List DZ} (h : 0 < rowsZ l) : ∃ i, ∃ hi : i < l.length, l[i].dead = false ∧ l[i].m.length = rowsZ l := by
  induction l with
  | nil => simp [rowsZ] at h
  | cons d r ih =>
    unfold rowsZ at h ⊢
    cases hd : d.dead
    · exact ⟨0, by simp, hd, by simp⟩
    · rw [hd] at h
      obtain ⟨i, hi, h1, h2⟩ := ih (by simpa using h)
      exact ⟨i + 1, by simpa using hi, h1, by simpa using h2⟩
theorem disksOk_parts {l : List DZ} (h : disksOkZ l = true) : inB l.length 3 5 = true ∧ 0 < rowsZ l ∧ rowsZ l ≤ 16 := by
  simp only [disksOkZ, Bool.and_eq_true, decide_eq_true_eq] at h
  obtain ⟨h1, h2, h3⟩ := h
  refine ⟨h1, h3, ?_⟩
  obtain ⟨i, hi, hd, hm⟩ := rowsZ_some h3
  have := List.all_eq_true.1 h2 i (by simpa using hi)
  rw [getD_at hi] at this
  simp only [DZ.fitsIn, Bool.and_eq_true] at this
  have := (DZ.ok_pos this.1 hd).2
  omega
def rightP (l : List DZ) (p : Int) : Bool := decide (0 ≤ rowZ l.length p ∧ rowZ l.length p < rowsZ l)
theorem room_in {l : List DZ} (h : disksOkZ l = true) (p : Int) : inB p 0 (roomZ l.length (rowsOfZ l) - 1) = rightP l p := by
  obtain ⟨h1, h2, h3⟩ := disksOk_parts h
  have e1 : rowsOfZ l = rowsZ l := by simp [rowsOfZ, h]
  rw [e1, roomZ_yes h1 (inB_yes (by omega) (by omega)), Bool.eq_iff_iff]
  unfold rightP
  rw [decide_eq_true_iff]
  cases hi : inB p 0 (16 * ((l.length : Int) - 1) - 1)
  · rw [rowZ_no (.inr hi)]
    have := inB_nf hi
    rw [inB_iff]
    rcases three h1 with e | e | e <;> rw [e] at this ⊢ <;> omega
  · rw [rowZ_yes h1 hi, inB_iff]
    have := inB_iff.1 hi
    rcases three h1 with e | e | e <;> rw [e] at this ⊢ <;> omega
theorem room_out {l : List DZ} (h : disksOkZ l = false) (p : Int) : inB p 0 (roomZ l.length (rowsOfZ l) - 1) = false := by
  have e1 : rowsOfZ l = -1 := by simp [rowsOfZ, h]
  rw [e1, roomZ_no (.inr (by decide))]
  cases hc : inB p 0 (-1 - 1)
  · rfl
  · have := inB_iff.1 hc; omega
/-- what PatchFor returns -/
def pfOk (l : List DZ) (p v : Int) : Bool := disksOkZ l && forOk l p v
def pfZ (l : List DZ) (p v : Int) : PZ := if pfOk l p v then forP l p v else .zero
theorem pf_no {l : List DZ} {p v : Int} (h : pfOk l p v = false) : pfZ l p v = .zero := by simp [pfZ, h]
theorem pf_yes {l : List DZ} {p v : Int} (h : pfOk l p v = true) : pfZ l p v = forP l p v := by simp [pfZ, h]
theorem right_at {l : List DZ} {p : Int} (h : disksOkZ l = true) (hp : rightP l p = true) : ∃ d e : Nat, d < l.length ∧ e < l.length ∧ diskZ l.length p = d ∧ extraZ l.length (rowZ l.length p) = e ∧ d ≠ e ∧ hasZ l (rowZ l.length p) = true := by
  obtain ⟨h1, h2, h3⟩ := disksOk_parts h
  unfold rightP at hp
  rw [decide_eq_true_iff] at hp
  cases hi : inB p 0 (16 * ((l.length : Int) - 1) - 1)
  · rw [rowZ_no (.inr hi)] at hp; omega
  obtain ⟨a1, a2, a3, a4, a5, a6, a7⟩ := layout_at h1 hi
  have a8 := extraZ_in (n := l.length) (r := rowZ l.length p) h1
  rw [← a7] at a8
  exact ⟨(diskZ l.length p).toNat, (extraZ l.length (rowZ l.length p)).toNat, by omega, by omega, by omega, by omega, by omega, by unfold hasZ; rw [h, decide_eq_true hp]; rfl⟩
theorem pf_len {l : List DZ} {n : Nat} (h : l.length ≤ n) (p v : Int) : (pfZ l p v).ds.length ≤ n ∧ (pfZ l p v).vs.length ≤ n := by
  unfold pfZ forP
  split
  · split
    · have h1 := dsF_length l (forD l p) (forE l p) l.length
      have h2 := vsF_length l (forD l p) (forE l p) v (forSum l p v) l.length
      exact ⟨by dsimp only; omega, by dsimp only; omega⟩
    · simp [PZ.zero]
  · simp [PZ.zero]
theorem roomZ_b (n r : Int) : -1 ≤ roomZ n r ∧ roomZ n r ≤ 64 := by
  unfold roomZ
  split
  · next h =>
    have := inB_iff.1 h.2
    rcases three h.1 with rfl | rfl | rfl <;> omega
  · omega
/-- the put of the data cell and the world's growth -/
abbrev PfS (w w' : World) (b : Nat) (d x : Int) : Prop := w'.cell? ⟨b, 0, none⟩ = some (.int .i64 d) ∧ w'.cell? ⟨b, 1, none⟩ = some (.int .i64 x) ∧ w.grownBy w' none
theorem PfS.kept {w w' w2 : World} {b : Nat} {d x : Int} (h : PfS w w' b d x) (g : w'.grownBy w2 none) : PfS w w2 b d x := ⟨gkc g h.1, gkc g h.2.1, gtrans h.2.2 g⟩
theorem forOk_has {l : List DZ} {p v : Int} (h : forHas l p v = false) : forOk l p v = false := by simp [forOk, forAll, h]
set_option maxRecDepth 8000 in
set_option maxHeartbeats 4000000 in
theorem implPatchFor_any (v : Value) (l : List DZ) (p x : Int) (w : World) (h : LD w v l) :
    Calls Try.prog 14 #[v, .int .i64 p, .int .i64 x] w (GotP (pfZ l p x) (pfOk l p x) w) := by
  obtain ⟨a, cap, rfl, hm⟩ := h.form
  have Z0 := Zero3.new w
  have G0 := galloc (grefl w) (.cells #[.int .i64 0, .slice none 0 0, .slice none 0 0] 27)
  have h0 := h.kept G0
  have hl0 : i64B (l.length : Int) := ⟨by omega, by omega⟩
  go_enter Try.func14, Try.ntmps14
  go_upto_region 1 with (fail)
  generalize w.alloc (.cells #[.int .i64 0, .slice none 0 0, .slice none 0 0] 27) = W0 at *
  have hR0 := fun (w' : World) (g : W0.grownBy w' none) => ret_zero3 (r := w.heap.size) (gtrans G0 g) (Nat.le_refl _)
  cases hx : inB x 0 32767
  · have HF : Hid (pfOk l p x = false ∧ pfZ l p x = .zero) := by
      have e : pfOk l p x = false := by simp [pfOk, forOk_has (l := l) (p := p) (v := x) (by simp [forHas, okv, hx])]
      exact ⟨e, pf_no e⟩
    obtain ⟨⟨z0, y0⟩, ⟨z1, y1⟩, ⟨z2, y2⟩⟩ := Z0
    go_wp2_with fail
    go_fit (implValueOk_any _ _)
    rintro e w1 ⟨rfl, rfl⟩
    rw [hx]
    go_wp2_with fail
    exact bodyPost_ret (v := .tuple #[.agg #[.int .i64 0, .slice none 0 0, .slice none 0 0], .bool false]) (by simp [results, Try.results14, go_sem, z0, z1, z2]) rfl (by rw [HF.out.1, HF.out.2]; exact hR0 _ (grefl _))
  have HX : Hid (okv x = true) := hx
  go_wp2_with fail
  go_fit (implValueOk_any _ _)
  rintro e w1 ⟨rfl, rfl⟩
  rw [hx]
  clear hx
  go_wp2_with fail
  go_fit (implRowsOf_any _ l _ h0)
  rintro e w1 ⟨rfl, g1⟩
  go_wp2_with fail
  go_fit (implRoomOf_any _ _ _ hl0)
  rintro e w2 ⟨rfl, g2⟩
  have hrb := roomZ_b l.length (rowsOfZ l)
  have HRm : Hid (∀ q, inB p 0 (q - 1) = inB p 0 (q - 1)) := fun _ => rfl
  have HNo : Hid (disksOkZ l = false → inB p 0 (roomZ l.length (rowsOfZ l) - 1) = false) := fun e => room_out e p
  have HYes : Hid (disksOkZ l = true → inB p 0 (roomZ l.length (rowsOfZ l) - 1) = rightP l p) := fun e => room_in e p
  generalize roomZ l.length (rowsOfZ l) = R at *
  have G2 := gtrans g1 g2
  clear g1 g2 HRm
  go_wp2_with fail
  go_fit (between_any _ _ _ _)
  rintro e w3 ⟨rfl, rfl⟩
  cases hin : inB p 0 (R - 1)
  · have HF : Hid (pfOk l p x = false ∧ pfZ l p x = .zero) := by
      have e : pfOk l p x = false := by
        cases hd : disksOkZ l
        · simp [pfOk, hd]
        · have e1 := HYes.out hd
          rw [hin] at e1
          have e2 : forHas l p x = false := by unfold forHas; rw [show decide (0 ≤ rowZ l.length p ∧ rowZ l.length p < rowsZ l) = rightP l p from rfl, ← e1]; rfl
          simp [pfOk, forOk_has e2]
      exact ⟨e, pf_no e⟩
    obtain ⟨⟨z0, y0⟩, ⟨z1, y1⟩, ⟨z2, y2⟩⟩ := Z0.kept G2 (by simp)
    go_wp2_with fail
    exact bodyPost_ret (v := .tuple #[.agg #[.int .i64 0, .slice none 0 0, .slice none 0 0], .bool false]) (by simp [results, Try.results14, go_sem, z0, z1, z2]) rfl (by rw [HF.out.1, HF.out.2]; exact hR0 _ G2)
  have HDk : Hid (disksOkZ l = true) := by
    show _ = _
    cases hd : disksOkZ l
    · have := HNo.out hd; rw [hin] at this; cases this
    · rfl
  have HRt : Hid (rightP l p = true) := by show _ = _; rw [← HYes.out HDk.out, hin]
  obtain ⟨d, ex, hd, he, hdz, hez, hne, hhas⟩ := right_at HDk.out HRt.out
  have HHas := Lib.hid hhas
  have HFor : Hid (forHas l p x = true) := by show _ = _; unfold forHas; rw [show decide (0 ≤ rowZ l.length p ∧ rowZ l.length p < rowsZ l) = rightP l p from rfl, HRt.out, HX.out]; rfl
  have HAll : Hid (forAll l p x = othersK l d ex (rowZ l.length p) l.length) := by show _ = _; unfold forAll forD forE forRow; rw [HFor.out, hdz, hez]; rfl
  have HSum : Hid (forSum l p x = sumK l d ex (rowZ l.length p) x l.length) := by show _ = _; unfold forSum forD forE forRow; rw [hdz, hez]
  have HP1 : Hid (forAll l p x = true → forP l p x = ⟨rowZ l.length p, dsF l d ex l.length, vsF l d ex x (forSum l p x) l.length⟩ ∧ forOk l p x = decide (0 < (dsF l d ex l.length).length)) := fun e => by
    have := for_yes e
    unfold forD forE forRow at this
    rw [hdz, hez] at this
    exact this
  clear hhas hin HNo HYes hrb
  go_wp2_with fail
  go_fit (implRowOf_any _ _ _ hl0)
  rintro e w3 ⟨rfl, g3⟩
  have G3 := gtrans G2 g3
  go_wp2_with fail
  go_fit (implDiskOf_any _ _ _ hl0)
  rintro e w4 ⟨rfl, g4⟩
  rw [hdz]
  have HEz := Lib.hid hez
  clear hdz hez
  generalize rowZ l.length p = row at *
  have G4 := gtrans G3 g4
  have e4 := galloc G4 (.cells #[.int .i64 d, .int .i64 x] 63)
  have S4 : PfS W0 (w4.alloc (.cells #[.int .i64 d, .int .i64 x] 63)) w4.heap.size d x := ⟨by simp [go_sem], by simp [go_sem], e4⟩
  clear e4 G4 G3 G2 g3 g4
  go_upto_region 5 with (fail)
  generalize w4.alloc (.cells #[.int .i64 d, .int .i64 x] 63) = W4 at *
  generalize w4.heap.size = pb at *
  have HS4 := Lib.hid S4
  obtain ⟨q0, q1, -⟩ := S4
  go_wp2_with fail
  go_fit (parityAfter_any _ l row d x _ (h0.kept HS4.out.2.2) HHas.out HX.out)
  rintro e w5 ⟨rfl, g5⟩
  have S5 := HS4.out.kept g5
  clear q0 q1 HS4 g5
  unfold parV
  rw [HEz.out]
  cases ho : othersK l d ex row l.length
  · have HF : Hid (pfOk l p x = false ∧ pfZ l p x = .zero) := by
      have e0 : forAll l p x = false := by rw [HAll.out, ho]
      have e : pfOk l p x = false := by simp [pfOk, forOk, e0]
      exact ⟨e, pf_no e⟩
    obtain ⟨⟨z0, y0⟩, ⟨z1, y1⟩, ⟨z2, y2⟩⟩ := Z0.kept S5.2.2 (by simp)
    go_wp2_with fail
    exact bodyPost_ret (v := .tuple #[.agg #[.int .i64 0, .slice none 0 0, .slice none 0 0], .bool false]) (by simp [results, Try.results14, go_sem, z0, z1, z2]) rfl (by rw [HF.out.1, HF.out.2]; exact hR0 _ S5.2.2)
  have HAl2 : Hid (forAll l p x = true) := by show _ = _; rw [HAll.out, ho]
  rw [if_pos rfl]
  generalize sumK l d ex row x l.length = sm at *
  go_upto_region 8 with (fail)
  clear ho
  refine region_calm (fun w' => PfS W0 w' pb d x) (by kernel_rfl) (by kernel_rfl) (S5.kept (gdrew (grefl w5) 1)) ?_
  repeat (first
    | (refine calm_skip (by rfl) ?_; simp only [Act.put, List.setIfInBounds_toArray, List.set_cons_zero, List.set_cons_succ])
    | (refine calm_step (by rfl) ?_
       apply Exists.intro
       refine ⟨fun w' hw' => ?_, ?_⟩
       · go_simp
         first | done | exact rfl | (go_at_call 42; go_fit (implExtraOf_any _ row _ hl0); rintro e w8 ⟨rfl, g8⟩; rw [HEz.out]; exact ⟨rfl, PfS.kept hw' g8⟩) | (go_at_call 41; go_fit (onLiving_any _ l d ex x sm _ (h0.kept hw'.2.2) hd he); rintro e w8 ⟨rfl, g8⟩; exact ⟨rfl, PfS.kept hw' g8⟩)
       simp only [Act.put, List.setIfInBounds_toArray, List.set_cons_zero, List.set_cons_succ]))
  refine calm_nil ?_
  intro w9 hw9
  have HP2 := HP1.out HAl2.out
  rw [HSum.out] at HP2
  have HP := Lib.hid HP2
  have HSome := Lib.hid (for_some hd he hne)
  have HPt := Lib.hid (for_puts hd he hne x sm)
  have CP := patchOf_any row (dsF l d ex l.length) (vsF l d ex x sm l.length)
  rw [HPt.out.1, HPt.out.2, for_change hd he hne x sm] at CP
  clear HP1 HP2 S5 HPt
  cases hb : (l[d].dead && l[ex].dead)
  rotate_left
  · have HF : Hid (pfOk l p x = false ∧ pfZ l p x = .zero) := by
      have e : pfOk l p x = false := by simp only [pfOk, HP.out.2, HSome.out, hb]; simp
      exact ⟨e, pf_no e⟩
    have HL : livV l[d].dead l[ex].dead d x ex sm = .nilIface := by unfold livV; rw [hb]; rfl
    rw [HL]
    clear CP HL
    obtain ⟨⟨z0, y0⟩, ⟨z1, y1⟩, ⟨z2, y2⟩⟩ := Z0.kept hw9.2.2 (by simp)
    go_wp2_with fail
    exact bodyPost_ret (v := .tuple #[.agg #[.int .i64 0, .slice none 0 0, .slice none 0 0], .bool false]) (by simp [results, Try.results14, go_sem, z0, z1, z2]) rfl (by rw [HF.out.1, HF.out.2]; exact hR0 _ hw9.2.2)
  have HF : Hid (pfOk l p x = true ∧ pfZ l p x = ⟨row, dsF l d ex l.length, vsF l d ex x sm l.length⟩) := by
    have e : pfOk l p x = true := by simp only [pfOk, HDk.out, HP.out.2, HSome.out, hb]; rfl
    exact ⟨e, by rw [pf_yes e, HP.out.1]⟩
  obtain ⟨t, u, hu⟩ : ∃ t u, livV l[d].dead l[ex].dead d x ex sm = .iface t u := by
    unfold livV
    rw [hb]
    simp only [Bool.false_eq_true, if_false]
    split
    · exact ⟨_, _, rfl⟩
    · split
      · exact ⟨_, _, rfl⟩
      · split <;> exact ⟨_, _, rfl⟩
  rw [hu] at CP ⊢
  clear hu hb HP HSome
  generalize dsF l d ex l.length = D at *
  generalize vsF l d ex x sm l.length = V at *
  go_wp2_with fail
  go_fit (CP _)
  rintro e w10 ⟨dv, vv, rfl, s1, s2, ap, g10⟩
  obtain ⟨da, dn, dc, rfl⟩ := Own.sl s1
  obtain ⟨va, vn, vc, rfl⟩ := Own.sl s2
  have GA := gtrans hw9.2.2 g10
  have hs9 := (gtrans G0 hw9.2.2).size
  have hb0 : w.heap.size < w9.heap.size := by have := cell_lt (Z0.kept hw9.2.2 (by simp)).c0.1; omega
  have hdn : (Value.slice da dn dc).ownBlock ≠ some w.heap.size := i_not_own s1 hb0
  have hvn : (Value.slice va vn vc).ownBlock ≠ some w.heap.size := i_not_own s2 hb0
  have hR : GotP (pfZ l p x) (pfOk l p x) w (.returned (.tuple #[.agg #[.int .i64 row, .slice da dn dc, .slice va vn vc], .bool true])) (set3 w10 w.heap.size (.int .i64 row) (.slice da dn dc) (.slice va vn vc)) := by
    rw [HF.out.1, HF.out.2]
    exact ⟨_, _, rfl, (Own.other (Own.other (Own.other s1 hdn _) hdn _) hdn _).lower hs9, (Own.other (Own.other (Own.other s2 hvn _) hvn _) hvn _).lower hs9, ap, gset3 (gtrans G0 GA) (Nat.le_refl _) _ _ _⟩
  obtain ⟨⟨z0, y0⟩, ⟨z1, y1⟩, ⟨z2, y2⟩⟩ := Z0.kept GA (by simp)
  clear s1 s2 HF CP
  go_wp2_with fail
  exact bodyPost_ret (v := .tuple #[.agg #[.int .i64 row, .slice da dn dc, .slice va vn vc], .bool true]) (by simp [results, Try.results14, go_sem, z0, z1, z2]) rfl hR
set_option maxHeartbeats 2000000 in
theorem specPatchFor_any (v : Value) (l : List DZ) (p x : Int) (w : World) (h : LD w v l) :
    Calls Try.prog 12 #[v, .int .i64 p, .int .i64 x] w (GotP (pfZ l p x) (pfOk l p x) w) := by
  obtain ⟨a, cap, rfl, hm⟩ := h.form
  have Z0 := Zero3.new w
  have G0 := galloc (grefl w) (.cells #[.int .i64 0, .slice none 0 0, .slice none 0 0] 27)
  have h0 := h.kept G0
  go_enter Try.func12, Try.ntmps12
  go_upto_region 1 with (fail)
  generalize w.alloc (.cells #[.int .i64 0, .slice none 0 0, .slice none 0 0] 27) = W0 at *
  have hR0 := fun (w' : World) (g : W0.grownBy w' none) => ret_zero3 (r := w.heap.size) (gtrans G0 g) (Nat.le_refl _)
  cases hd : disksOkZ l
  · have HF : Hid (pfOk l p x = false ∧ pfZ l p x = .zero) := by
      have e : pfOk l p x = false := by simp [pfOk, hd]
      exact ⟨e, pf_no e⟩
    go_wp2_with fail
    go_fit (specDisksOk_any _ l _ h0)
    rintro e w1 ⟨rfl, g1⟩
    rw [hd]
    obtain ⟨⟨z0, y0⟩, ⟨z1, y1⟩, ⟨z2, y2⟩⟩ := Z0.kept g1 (by simp)
    go_wp2_with fail
    exact bodyPost_ret (v := .tuple #[.agg #[.int .i64 0, .slice none 0 0, .slice none 0 0], .bool false]) (by simp [results, Try.results12, go_sem, z0, z1, z2]) rfl (by rw [HF.out.1, HF.out.2]; exact hR0 _ g1)
  have hl5 : l.length ≤ 1000 := by have := inB_iff.1 (disksOk_parts hd).1; omega
  go_wp2_with fail
  go_fit (specDisksOk_any _ l _ h0)
  rintro e w1 ⟨rfl, g1⟩
  rw [hd]
  go_wp2_with fail
  go_fit (l7For_any _ l p x _ (h0.kept g1) hl5)
  rintro e w2 ⟨dv, vv, rfl, s1, s2, ap, g2⟩
  obtain ⟨da, dn, dc, rfl⟩ := Own.sl s1
  obtain ⟨va, vn, vc, rfl⟩ := Own.sl s2
  have GA := gtrans g1 g2
  have e2 := galloc (grefl w2) (.cells #[.int .i64 (forP l p x).row, .slice da dn dc, .slice va vn vc] 27)
  cases hf : forOk l p x
  · have HF : Hid (pfOk l p x = false ∧ pfZ l p x = .zero) := by
      have e : pfOk l p x = false := by simp [pfOk, hf]
      exact ⟨e, pf_no e⟩
    obtain ⟨⟨z0, y0⟩, ⟨z1, y1⟩, ⟨z2, y2⟩⟩ := Z0.kept (gtrans GA e2) (by simp)
    have G9 := gtrans GA e2
    go_upto_region 4 with (fail)
    generalize w2.alloc (.cells #[.int .i64 (forP l p x).row, .slice da dn dc, .slice va vn vc] 27) = W2 at *
    go_wp2_with fail
    exact bodyPost_ret (v := .tuple #[.agg #[.int .i64 0, .slice none 0 0, .slice none 0 0], .bool false]) (by simp [results, Try.results12, go_sem, z0, z1, z2]) rfl (by rw [HF.out.1, HF.out.2]; exact hR0 _ G9)
  have HF : Hid (pfOk l p x = true ∧ pfZ l p x = forP l p x) := by
    have e : pfOk l p x = true := by simp [pfOk, hf, hd]
    exact ⟨e, pf_yes e⟩
  generalize forP l p x = q at *
  obtain ⟨row, D, V⟩ := q
  dsimp only at *
  have X2 := Box3.new w2 (.int .i64 row) (.slice da dn dc) (.slice va vn vc) 27
  have s1' := Own.grew s1 e2
  have s2' := Own.grew s2 e2
  have G9 := gtrans GA e2
  have hs9 := (gtrans G0 g1).size
  have hb0 : w.heap.size < w1.heap.size := by have := cell_lt (Z0.kept g1 (by simp)).c0.1; omega
  have hb2 := g2.size
  go_upto_region 4 with (fail)
  generalize w2.alloc (.cells #[.int .i64 row, .slice da dn dc, .slice va vn vc] 27) = W2 at *
  have hdn : (Value.slice da dn dc).ownBlock ≠ some w.heap.size := i_not_own s1 hb0
  have hvn : (Value.slice va vn vc).ownBlock ≠ some w.heap.size := i_not_own s2 hb0
  have hR : GotP (pfZ l p x) (pfOk l p x) w (.returned (.tuple #[.agg #[.int .i64 row, .slice da dn dc, .slice va vn vc], .bool true])) (set3 W2 w.heap.size (.int .i64 row) (.slice da dn dc) (.slice va vn vc)) := by
    rw [HF.out.1, HF.out.2]
    exact ⟨_, _, rfl, (Own.other (Own.other (Own.other s1' hdn _) hdn _) hdn _).lower hs9, (Own.other (Own.other (Own.other s2' hvn _) hvn _) hvn _).lower hs9, ap, gset3 (gtrans G0 G9) (Nat.le_refl _) _ _ _⟩
  obtain ⟨⟨z0, y0⟩, ⟨z1, y1⟩, ⟨z2, y2⟩⟩ := Z0.kept G9 (by simp)
  obtain ⟨b0, b1, b2⟩ := X2
  have hne : w.heap.size ≠ w2.heap.size := by omega
  clear s1 s2 s1' s2' HF e2
  go_wp2_with fail
  exact bodyPost_ret (v := .tuple #[.agg #[.int .i64 row, .slice da dn dc, .slice va vn vc], .bool true]) (by simp [results, Try.results12, go_sem, z0, z1, z2]) rfl hR
end Go.Proofs.Ytncmocdfdkacfaa
