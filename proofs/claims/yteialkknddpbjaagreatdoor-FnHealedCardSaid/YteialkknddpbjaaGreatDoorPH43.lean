/- The drawn arrays of chapter 9. The drawn lists of disks of chapter 6. -/
import Derived.Test.YteialkknddpbjaaGreatDoorPH01
import Derived.Test.YteialkknddpbjaaGreatDoorPH07
import Derived.Test.YteialkknddpbjaaGreatDoorPH11
import Derived.Test.YteialkknddpbjaaGreatDoorPH34
import Derived.Test.YteialkknddpbjaaGreatDoorPH35
import Derived.Test.YteialkknddpbjaaGreatDoorPH42
namespace Go.Proofs.YteialkknddpbjaaGreatDoor
open Go.ChangeShapes Go.WideShapes Go.ChangeAt Go.RowKit
attribute [local go_sem] str_list str_size str_add lit_list0 add_lit lit_add str_cut

theorem flushAll_len (l : List DZ) : (flushAll l).length = l.length := by simp [flushAll]
theorem patchZ_len (l : List DZ) (p : PZ) : (patchZ l p).length = l.length := patchK_length _ _ _
theorem fallZ_len (l : List DZ) (s : List Int) : (fallZ l s).length = l.length := by unfold fallZ; exact fallK_length _ _ _
theorem patchAll_len (l : List DZ) (ps : List PZ) : (patchAll l ps).length = l.length := by
  unfold patchAll
  induction ps generalizing l with
  | nil => rfl
  | cons p r ih => rw [List.foldl_cons, ih, patchZ_len]
/-- what is kept of a drawn array -/
structure AGood (a : AZ) : Prop where
  ds : DGood a.ds
  next : a.next.length ≤ 1000
  log : a.log.length ≤ 1000
  ents : inB a.stage 1 4 = true → entsT a.next ≠ []
  pos : 1 ≤ a.ds.length
section
variable {a : AZ}
theorem AGood.withDs (h : AGood a) {i : Nat} {d : DZ} (hl : DGood (a.ds.set i d)) : AGood { a with ds := a.ds.set i d } := ⟨hl, h.next, h.log, h.ents, by simpa using h.pos⟩
theorem AGood.fresh {l : List DZ} (h : DGood l) (hp : 1 ≤ l.length) : AGood (AZ.fresh l) := ⟨h, by simp [AZ.fresh], by simp [AZ.fresh], fun e => by simp [AZ.fresh, inB] at e, hp⟩
theorem AGood.begun (h : AGood a) (p x : Int) : AGood (a.begun p x) := by
  unfold AZ.begun
  split
  · rename_i hb
    have hok : (forP a.ds p x).ok = true := by simp only [beginOk, Bool.and_eq_true] at hb; exact for_ok hb.2.2
    have hl := frameT_length (forP a.ds p x).text (by have := text_len hok; omega)
    have := text_len hok
    exact ⟨h.ds, by dsimp only; omega, h.log, fun _ => by dsimp only; rw [ents_one hok]; simp, h.pos⟩
  · exact h
theorem AGood.stepped (h : AGood a) : AGood a.stepped := by
  unfold AZ.stepped
  split
  · rename_i e; exact ⟨h.ds, h.next, h.next, fun _ => h.ents (by rw [e]; rfl), h.pos⟩
  split
  · rename_i e; exact ⟨h.ds.patchZ _, h.next, h.log, fun _ => h.ents (by rw [e]; rfl), by rw [patchZ_len]; exact h.pos⟩
  split
  · rename_i e; exact ⟨h.ds.flush, h.next, h.log, fun _ => h.ents (by rw [e]; rfl), by rw [flushAll_len]; exact h.pos⟩
  split
  · exact ⟨h.ds, by simp, by simp, fun e => by simp [inB] at e, h.pos⟩
  · exact h
theorem AGood.written (h : AGood a) (p x : Int) : AGood (a.written p x) := by
  unfold AZ.written
  split
  · exact ⟨(h.ds.patchZ _).flush, by simp, by simp, fun e => by simp [inB] at e, by rw [flushAll_len, patchZ_len]; exact h.pos⟩
  · exact h
theorem AGood.rotted (h : AGood a) (d p y : Int) : AGood (a.rotted d p y) := by
  unfold AZ.rotted
  split
  · exact h.withDs (h.ds.rot _ _ _)
  · exact h
theorem AGood.dies (h : AGood a) (d : Int) : AGood (a.dies d) := by
  unfold AZ.dies
  split
  · have := died_nil (a.ds.getD d.toNat .zero)
    exact h.withDs (h.ds.set _ (by rw [this.1, this.2]; simp))
  · exact h
theorem torn_len (s : List UInt8) (k : Int) : (tornT s k).length ≤ s.length := by unfold tornT; split <;> simp; omega
theorem AGood.fell (h : AGood a) (sets : List Int) (k : Int) : AGood (a.fell sets k) := by
  unfold AZ.fell
  split
  · refine ⟨h.ds.fallZ _, by simp, ?_, fun e => by simp [inB] at e, by rw [fallZ_len]; exact h.pos⟩
    dsimp only
    have := torn_len a.next k
    have := h.next
    split
    · omega
    · exact h.log
  · exact h
theorem AGood.assembled (h : AGood a) : AGood a.assembled := by
  unfold AZ.assembled
  split
  · exact h
  · exact ⟨(h.ds.patchAll _).flush, h.next, by simp, h.ents, by rw [flushAll_len, patchAll_len]; exact h.pos⟩
theorem AGood.replacedZ (h : AGood a) (d : Int) : AGood (a.replacedZ d) := by
  unfold AZ.replacedZ
  split
  · refine h.withDs (h.ds.set _ ⟨rfl, ?_⟩)
    simp only [repD, bentL, List.length_map, newL_length]
    exact h.ds.rows
  · exact h
theorem AGood.healed (h : AGood a) (r : Int) : AGood (a.healed r) := by
  unfold AZ.healed
  split
  · have q := h.ds.get (badAt a r)
    have t := put_len (a.ds.getD (badAt a r) .zero) r (tellV a.ds (badAt a r) r)
    exact h.withDs (h.ds.set _ (by omega))
  · exact h
end
/-- the drawing of an array, on the way -/
structure DrA (w wr : World) (c b : Nat) (a : AZ) : Prop where
  box : ∃ v raw, ABox wr b (w.heap.size + 1) a v raw
  good : AGood a
  zero : Zero5 wr w.heap.size
  cur : Cur wr c
  grew : w.grownBy wr (some c)
  hc : c < w.heap.size
  hb : w.heap.size < b
section
variable {w wr w2 : World} {c b : Nat} {a a' : AZ}
theorem DrA.size (h : DrA w wr c b a) : w.heap.size + 1 ≤ wr.heap.size := by have := cell_lt h.zero.c0.1; omega
theorem DrA.did (h : DrA w wr c b a) (o : Only (AB b (w.heap.size + 1)) wr w2) (hx : ∃ v raw, ABox w2 b (w.heap.size + 1) a' v raw) (hg : AGood a') : DrA w w2 c b a' := by
  have h1 := h.hc
  have h2 := h.hb
  have hn : ∀ k, k ≤ w.heap.size → ¬ AB b (w.heap.size + 1) k := fun k hk e => by rcases e with e | e <;> omega
  refine ⟨hx, hg, ⟨o.at (hn _ (Nat.le_refl _)) h.zero.c0, o.at (hn _ (Nat.le_refl _)) h.zero.c1, o.at (hn _ (Nat.le_refl _)) h.zero.c2, o.at (hn _ (Nat.le_refl _)) h.zero.c3, o.at (hn _ (Nat.le_refl _)) h.zero.c4⟩, h.cur.above o.size (fun k hk => o.block k (by have := h.cur.lt; omega) (hn k (by omega))), ?_, h1, h2⟩
  exact ⟨o.os.trans h.grew.os, o.tape.trans h.grew.tape, o.output.trans h.grew.output, Nat.le_trans h.grew.size o.size, fun i hi hne => (o.block i (Nat.lt_of_lt_of_le hi h.grew.size) (hn i (by omega))).trans (h.grew.block i hi hne)⟩
/-- a draw -/
theorem ABox.drawn {B : Nat} {v : Value} {raw : List DV} (hB : ABox wr b B a v raw) (g : wr.grownBy w2 (some c)) (h1 : c < B) (h2 : c ≠ b) : ABox w2 b B a v raw := by
  have hno := hB.od.not_old (r := c) h1
  have hb : (some c : Option Nat) ≠ some b := by simpa using h2
  refine ⟨gkr g hb hB.c0, gkr g hb hB.c1, gkr g hb hB.c2, gkr g hb hB.c3, gkr g hb hB.c4, ?_, hB.vb, hB.rb⟩
  have hs : ∀ k, k ≠ c → k < wr.heap.size → w2.heap[k]? = wr.heap[k]? := fun k hk hl => g.block k hl (by intro e; cases e; exact hk rfl)
  exact ⟨Own.same hB.od.own (fun k e => hs k (fun x => hno.1 (by rw [← x]; exact e)) (hB.od.own.lt k e).2), hB.od.len, fun i p q => ⟨(hB.od.is i p q).n, (hB.od.is i p q).dead, Own.same (hB.od.is i p q).isD.1 (fun k e => hs k (fun x => hno.2 i p (by rw [← x]; exact .inl e)) (hB.od.in i p k (.inl e)).2), Own.same (hB.od.is i p q).isD.2 (fun k e => hs k (fun x => hno.2 i p (by rw [← x]; exact .inr e)) (hB.od.in i p k (.inr e)).2)⟩, hB.od.self, hB.od.ap, hB.od.out⟩
theorem DrA.draw (h : DrA w wr c b a) (g : wr.grownBy w2 (some c)) (hc : Cur w2 c) : DrA w w2 c b a := by
  have h1 := h.hc
  have h2 := h.hb
  obtain ⟨v, raw, hB⟩ := h.box
  exact ⟨⟨v, raw, hB.drawn g (by omega) (by omega)⟩, h.good, h.zero.kept g (by simp; omega), hc, gtrans h.grew g, h1, h2⟩
theorem DrA.kept (h : DrA w wr c b a) (g : wr.grownBy w2 none) : DrA w w2 c b a := by
  obtain ⟨v, raw, hB⟩ := h.box
  exact h.did (only_grew g) ⟨v, raw, hB.kept g⟩ h.good
end
/-- a drawn array -/
def DrawnA (c : Nat) (w : World) (e : Ending) (w' : World) : Prop :=
  ∃ (a : AZ) (v : Value) (raw : List DV), e = .returned (a.val v) ∧ AGood a ∧ OD w' w.heap.size v a.ds raw ∧ Cur w' c ∧ w.grownBy w' (some c)
set_option maxRecDepth 8000 in
set_option maxHeartbeats 8000000 in
theorem l9Draw_any (c : Nat) (w : World) (hc : Cur w c) :
    Calls Tryz.prog 132 #[.pointer (some ⟨c, 0, none⟩)] w (DrawnA c w) := by
  have hlt := hc.lt
  have Z0 := Zero5.new w
  have C0 := hc.alloc zero5
  have G0 := galloc (World.grownBy.refl w (some c)) zero5
  have hs0 : (w.alloc zero5).heap.size = w.heap.size + 1 := by simp
  clear hc
  go_enter Tryz.func132, Tryz.ntmps132
  go_upto_region 1 with (fail)
  generalize w.alloc zero5 = W0 at *
  go_wp2_with fail
  go_fit (l1Below_any c _ _ C0 (by omega))
  rintro e w1 ⟨n, ⟨hn0, hn1⟩, rfl, hc1, g1⟩
  go_wp2_with fail
  go_fit (l1Below_any c _ _ hc1 (by omega))
  rintro e w2 ⟨r, ⟨hr0, hr1⟩, rfl, hc2, g2⟩
  obtain ⟨n, rfl⟩ := Int.eq_ofNat_of_zero_le hn0
  obtain ⟨r, rfl⟩ := Int.eq_ofNat_of_zero_le hr0
  have hNA : ∀ w, Calls Tryz.prog 100 #[.int .i64 (3 + (n : Int)), .int .i64 (1 + (r : Int))] w fun e w' => ∃ v raw, e = .returned (.tuple #[(AZ.fresh (newDs (1 + r) (3 + n))).val v, .bool true]) ∧ OD w' w.heap.size v (newDs (1 + r) (3 + n)) raw ∧ w.grownBy w' none := fun w => by
    have := specNewArray_yes (3 + n) (1 + r) w (inB_iff.2 (by omega)) (inB_iff.2 (by omega))
    simpa using this
  have hgood := newDs_good (1 + r) (3 + n) (by omega) (by omega)
  go_wp2_with fail
  go_fit (hNA _)
  rintro e w3 ⟨v3, raw3, rfl, O3, g3⟩
  obtain ⟨va, vn, vc, rfl⟩ := O3.own.sl
  dsimp only [AZ.val, AZ.fresh]
  have e4 := galloc (grefl w3) (.cells #[.slice va vn vc, .string (str []), .string (str []), .int .i64 0, .bool true] 26)
  have hs2 : w.heap.size + 1 ≤ w2.heap.size := by have := g1.size; have := g2.size; omega
  have A4 : ABox (w3.alloc (.cells #[.slice va vn vc, .string (str []), .string (str []), .int .i64 0, .bool true] 26)) w3.heap.size (w.heap.size + 1) (AZ.fresh (newDs (1 + r) (3 + n))) (.slice va vn vc) raw3 :=
    ⟨by simp [At, go_sem], by simp [At, go_sem]; rfl, by simp [At, go_sem]; rfl, by simp [At, go_sem]; rfl, by simp [At, go_sem]; rfl, (O3.grew e4).lower hs2, fun e => by have := (O3.own.lt _ e).2; omega, fun i hi e => by have := (O3.in i hi _ e).2; omega⟩
  have Z4 := (((Z0.kept g1 (by simp; omega)).kept g2 (by simp; omega)).kept g3 (by simp)).kept e4 (by simp)
  have C4 : Cur (w3.alloc (.cells #[.slice va vn vc, .string (str []), .string (str []), .int .i64 0, .bool true] 26)) c := (hc2.kept g3 (by simp)).alloc _
  have G4 : w.grownBy (w3.alloc (.cells #[.slice va vn vc, .string (str []), .string (str []), .int .i64 0, .bool true] 26)) (some c) := galloc (gtrans (gtrans (gtrans G0 g1) g2) (gweak g3 (some c))) _
  have R : DrA w (w3.alloc (.cells #[.slice va vn vc, .string (str []), .string (str []), .int .i64 0, .bool true] 26)) c w3.heap.size (AZ.fresh (newDs (1 + r) (3 + n))) := ⟨⟨_, _, A4⟩, AGood.fresh hgood (by rw [newDs_length]; omega), Z4, C4, G4, hlt, by have := g3.size; omega⟩
  clear A4 Z4 C4 G4 O3 g1 g2 g3 e4 hc1 hc2 C0 G0 Z0 hNA
  go_upto_region 2 with (fail)
  generalize w3.alloc (.cells #[.slice va vn vc, .string (str []), .string (str []), .int .i64 0, .bool true] 26) = W4 at *
  generalize w3.heap.size = b at *
  generalize AZ.fresh (newDs (1 + r) (3 + n)) = a0 at *
  go_wp2_with fail
  go_fit (l1Below_any c _ _ R.cur (by omega))
  rintro e w5 ⟨m, ⟨hm0, hm1⟩, rfl, hc5, g5⟩
  replace R := R.draw g5 hc5
  obtain ⟨m, rfl⟩ := Int.eq_ofNat_of_zero_le hm0
  clear g5 hc5
  go_wp2_with fail
  go_loopw [5] (fun i wr => ∃ (k : Nat) (a : AZ), i = .int .i64 k ∧ k ≤ 11 ∧ DrA w wr c b a) (fun i _ => (intOf i).toNat)
  case atStart => exact ⟨m, a0, rfl, by omega, R⟩
  case round =>
    clear R
    obtain ⟨k, a, rfl, hk, R⟩ := hrel
    by_cases hpos : 0 < k
    · have hpi : (0 : Int) < k := by omega
      go_wp2_with fail
      go_fit (l1Below_any c _ _ R.cur (by omega))
      rintro e w9 ⟨q, ⟨hq0, hq1⟩, rfl, hc9, g9⟩
      replace R := R.draw g9 hc9
      clear g9 hc9
      rcases (show q = 0 ∨ q = 1 ∨ q = 2 ∨ q = 3 ∨ q = 4 ∨ q = 5 ∨ q = 6 ∨ q = 7 ∨ q = 8 ∨ q = 9 by omega) with rfl | rfl | rfl | rfl | rfl | rfl | rfl | rfl | rfl | rfl
      · go_wp2_with fail
        go_fit (l1Below_any c _ _ R.cur (by omega))
        rintro e w10 ⟨x, ⟨hx0, hx1⟩, rfl, hcw10, gw10⟩
        replace R := R.draw gw10 hcw10
        go_wp2_with fail
        go_fit (l1Below_any c _ _ R.cur (by omega))
        rintro e w11 ⟨y, ⟨hy0, hy1⟩, rfl, hcw11, gw11⟩
        replace R := R.draw gw11 hcw11
        go_wp2_with fail
        obtain ⟨v, raw, hB⟩ := R.box
        go_fit (l9Write_any b _ a v raw x y _ hB R.size R.good.ds)
        rintro e w12 ⟨rfl, hx, o⟩
        replace R := R.did o hx (R.good.written x y)
        clear hB v raw
        go_wp2_with fail
        go_roundw
        case rel => exact ⟨k - 1, _, by rw [show ((k - 1 : Nat) : Int) = (k : Int) - 1 by omega], by omega, R⟩
        case measure => simp [intOf]; omega
      · go_wp2_with fail
        go_fit (l1Below_any c _ _ R.cur (by omega))
        rintro e w10 ⟨x, ⟨hx0, hx1⟩, rfl, hcw10, gw10⟩
        replace R := R.draw gw10 hcw10
        go_wp2_with fail
        go_fit (l1Below_any c _ _ R.cur (by omega))
        rintro e w11 ⟨y, ⟨hy0, hy1⟩, rfl, hcw11, gw11⟩
        replace R := R.draw gw11 hcw11
        go_wp2_with fail
        obtain ⟨v, raw, hB⟩ := R.box
        go_fit (l9Write_any b _ a v raw x y _ hB R.size R.good.ds)
        rintro e w12 ⟨rfl, hx, o⟩
        replace R := R.did o hx (R.good.written x y)
        clear hB v raw
        go_wp2_with fail
        go_roundw
        case rel => exact ⟨k - 1, _, by rw [show ((k - 1 : Nat) : Int) = (k : Int) - 1 by omega], by omega, R⟩
        case measure => simp [intOf]; omega
      · go_wp2_with fail
        go_fit (l1Below_any c _ _ R.cur (by omega))
        rintro e w10 ⟨x, ⟨hx0, hx1⟩, rfl, hcw10, gw10⟩
        replace R := R.draw gw10 hcw10
        go_wp2_with fail
        go_fit (l1Below_any c _ _ R.cur (by omega))
        rintro e w11 ⟨y, ⟨hy0, hy1⟩, rfl, hcw11, gw11⟩
        replace R := R.draw gw11 hcw11
        go_wp2_with fail
        obtain ⟨v, raw, hB⟩ := R.box
        go_fit (l9Write_any b _ a v raw x y _ hB R.size R.good.ds)
        rintro e w12 ⟨rfl, hx, o⟩
        replace R := R.did o hx (R.good.written x y)
        clear hB v raw
        go_wp2_with fail
        go_roundw
        case rel => exact ⟨k - 1, _, by rw [show ((k - 1 : Nat) : Int) = (k : Int) - 1 by omega], by omega, R⟩
        case measure => simp [intOf]; omega
      · go_wp2_with fail
        go_fit (l1Below_any c _ _ R.cur (by omega))
        rintro e w10 ⟨x, ⟨hx0, hx1⟩, rfl, hcw10, gw10⟩
        replace R := R.draw gw10 hcw10
        go_wp2_with fail
        go_fit (l1Below_any c _ _ R.cur (by omega))
        rintro e w11 ⟨y, ⟨hy0, hy1⟩, rfl, hcw11, gw11⟩
        replace R := R.draw gw11 hcw11
        go_wp2_with fail
        obtain ⟨v, raw, hB⟩ := R.box
        go_fit (l9Write_any b _ a v raw x y _ hB R.size R.good.ds)
        rintro e w12 ⟨rfl, hx, o⟩
        replace R := R.did o hx (R.good.written x y)
        clear hB v raw
        go_wp2_with fail
        go_roundw
        case rel => exact ⟨k - 1, _, by rw [show ((k - 1 : Nat) : Int) = (k : Int) - 1 by omega], by omega, R⟩
        case measure => simp [intOf]; omega
      · go_wp2_with fail
        go_fit (l1Below_any c _ _ R.cur (by omega))
        rintro e w10 ⟨x, ⟨hx0, hx1⟩, rfl, hcw10, gw10⟩
        replace R := R.draw gw10 hcw10
        go_wp2_with fail
        go_fit (l1Below_any c _ _ R.cur (by omega))
        rintro e w11 ⟨y, ⟨hy0, hy1⟩, rfl, hcw11, gw11⟩
        replace R := R.draw gw11 hcw11
        go_wp2_with fail
        obtain ⟨v, raw, hB⟩ := R.box
        go_fit (l9Begin_any b _ a v raw x y _ hB (by have := R.good.ds.1; omega))
        rintro e w12 ⟨rfl, hx, o⟩
        replace R := R.did o ⟨_, _, hx⟩ (R.good.begun x y)
        clear hx hB v raw
        go_wp2_with fail
        go_roundw
        case rel => exact ⟨k - 1, _, by rw [show ((k - 1 : Nat) : Int) = (k : Int) - 1 by omega], by omega, R⟩
        case measure => simp [intOf]; omega
      · go_wp2_with fail
        obtain ⟨v, raw, hB⟩ := R.box
        go_fit (l9Step_any b _ a v raw _ hB R.size (by have := R.good.ds.1; omega) (fun i h => by have := (R.good.ds.2 _ (List.getElem_mem h)).2; omega) (by have := R.good.next; omega) (fun e => R.good.ents (by rw [e]; rfl)))
        rintro e w12 ⟨rfl, hx, o⟩
        replace R := R.did o hx (R.good.stepped)
        clear hB v raw
        go_wp2_with fail
        go_roundw
        case rel => exact ⟨k - 1, _, by rw [show ((k - 1 : Nat) : Int) = (k : Int) - 1 by omega], by omega, R⟩
        case measure => simp [intOf]; omega
      · go_wp2_with fail
        obtain ⟨v, raw, hB⟩ := R.box
        go_fit (l9Step_any b _ a v raw _ hB R.size (by have := R.good.ds.1; omega) (fun i h => by have := (R.good.ds.2 _ (List.getElem_mem h)).2; omega) (by have := R.good.next; omega) (fun e => R.good.ents (by rw [e]; rfl)))
        rintro e w12 ⟨rfl, hx, o⟩
        replace R := R.did o hx (R.good.stepped)
        clear hB v raw
        go_wp2_with fail
        go_roundw
        case rel => exact ⟨k - 1, _, by rw [show ((k - 1 : Nat) : Int) = (k : Int) - 1 by omega], by omega, R⟩
        case measure => simp [intOf]; omega
      · go_wp2_with fail
        go_fit (l1Below_any c _ _ R.cur (by omega))
        rintro e w10 ⟨x, ⟨hx0, hx1⟩, rfl, hcw10, gw10⟩
        replace R := R.draw gw10 hcw10
        go_wp2_with fail
        go_fit (l1Below_any c _ _ R.cur (by omega))
        rintro e w11 ⟨y, ⟨hy0, hy1⟩, rfl, hcw11, gw11⟩
        replace R := R.draw gw11 hcw11
        go_wp2_with fail
        go_fit (l1Below_any c _ _ R.cur (by omega))
        rintro e w12 ⟨z, ⟨hz0, hz1⟩, rfl, hcw12, gw12⟩
        replace R := R.draw gw12 hcw12
        go_wp2_with fail
        obtain ⟨v, raw, hB⟩ := R.box
        go_fit (l11Rot_any b _ a v raw x y (1 + z) _ hB R.good.ds)
        rintro e w13 ⟨rfl, hx, o⟩
        replace R := R.did o hx (R.good.rotted x y (1 + z))
        clear hB v raw
        go_wp2_with fail
        go_roundw
        case rel => exact ⟨k - 1, _, by rw [show ((k - 1 : Nat) : Int) = (k : Int) - 1 by omega], by omega, R⟩
        case measure => simp [intOf]; omega
      · go_wp2_with fail
        go_fit (l1Once_any c _ _ R.cur (by omega))
        rintro e w10 ⟨b1, rfl, hcw10, gw10⟩
        replace R := R.draw gw10 hcw10
        cases b1
        rotate_left
        · go_wp2_with fail
          go_fit (l1Below_any c _ _ R.cur (by omega))
          rintro e w11 ⟨x, ⟨hx0, hx1⟩, rfl, hcw11, gw11⟩
          replace R := R.draw gw11 hcw11
          go_wp2_with fail
          obtain ⟨v, raw, hB⟩ := R.box
          go_fit (l11Die_any b _ a v raw x _ hB (by have := R.good.ds.1; omega))
          rintro e w12 ⟨rfl, hx, o⟩
          replace R := R.did o hx (R.good.dies x)
          clear hB v raw
          go_wp2_with fail
          go_roundw
          case rel => exact ⟨k - 1, _, by rw [show ((k - 1 : Nat) : Int) = (k : Int) - 1 by omega], by omega, R⟩
          case measure => simp [intOf]; omega
        · obtain ⟨v, raw, hB⟩ := R.box
          obtain ⟨c4, f4⟩ := hB.c4
          cases hup : a.up
          · rw [hup] at c4
            clear hB v raw
            go_wp2_with fail
            go_roundw
            case rel => exact ⟨k - 1, _, by rw [show ((k - 1 : Nat) : Int) = (k : Int) - 1 by omega], by omega, R⟩
            case measure => simp [intOf]; omega
          · rw [hup] at c4
            clear hB v raw
            go_wp2_with fail
            go_fit (l1Once_any c _ _ R.cur (by omega))
            rintro e w11 ⟨b2, rfl, hcw11, gw11⟩
            replace R := R.draw gw11 hcw11
            clear c4 f4
            cases b2
            · go_wp2_with fail
              go_roundw
              case rel => exact ⟨k - 1, _, by rw [show ((k - 1 : Nat) : Int) = (k : Int) - 1 by omega], by omega, R⟩
              case measure => simp [intOf]; omega
            · go_wp2_with fail
              go_fit (l1Below_any c _ _ R.cur (by omega))
              rintro e w12 ⟨x, ⟨hx0, hx1⟩, rfl, hcw12, gw12⟩
              replace R := R.draw gw12 hcw12
              go_wp2_with fail
              go_fit (l1Below_any c _ _ R.cur (by omega))
              rintro e w13 ⟨y, ⟨hy0, hy1⟩, rfl, hcw13, gw13⟩
              replace R := R.draw gw13 hcw13
              go_wp2_with fail
              go_fit (l1Below_any c _ _ R.cur (by omega))
              rintro e w14 ⟨z, ⟨hz0, hz1⟩, rfl, hcw14, gw14⟩
              replace R := R.draw gw14 hcw14
              have I := IS.three (base := w14.heap.size) w14 x y z (Nat.le_refl _)
              obtain ⟨v, raw, hB⟩ := R.box
              have hbl := hB.lt
              have HRB : Hid (∀ k, HasB raw k → k < w14.heap.size) := fun k ⟨i, hi, e⟩ => (hB.od.in i hi k e).2
              have hB1 := hB.kept (galloc (grefl w14) (.cells #[.int .i64 x, .int .i64 y, .int .i64 z] 2))
              replace R := R.kept (galloc (grefl w14) (.cells #[.int .i64 x, .int .i64 y, .int .i64 z] 2))
              have hcl := R.hc
              have hbl2 := R.hb
              have hcw := hB.lt
              clear hB
              go_wp2_with fail
              go_fit (l1Below_any c _ _ R.cur (by omega))
              rintro e w15 ⟨u, ⟨hu0, hu1⟩, rfl, hcw15, gw15⟩
              replace R := R.draw gw15 hcw15
              have hB2 := hB1.drawn gw15 (by omega) (by omega)
              have I2 := Own.kept I gw15 (.inr (by simp [Value.ownBlock]; omega))
              go_wp2_with fail
              go_fit (l11Fall_any b _ a v raw _ [x, y, z] u _ hB2 R.good.ds (Own.rd I2) (fun k e => by cases e; exact ⟨by show w14.heap.size ≠ b; omega, fun hh => by have := HRB.out _ hh; simp at this⟩) (by have := R.good.next; omega))
              rintro e w16 ⟨rfl, hx, o⟩
              replace R := R.did o hx (R.good.fell [x, y, z] u)
              clear hB1 hB2 I I2
              go_wp2_with fail
              go_roundw
              case rel => exact ⟨k - 1, _, by rw [show ((k - 1 : Nat) : Int) = (k : Int) - 1 by omega], by omega, R⟩
              case measure => simp [intOf]; omega
      · go_wp2_with fail
        obtain ⟨v, raw, hB⟩ := R.box
        go_fit (l11Assemble_any b _ a v raw _ hB R.size R.good.ds (by have := R.good.log; omega))
        rintro e w12 ⟨rfl, hx, o⟩
        replace R := R.did o hx (R.good.assembled)
        clear hB v raw
        generalize a.assembled = a1 at *
        go_wp2_with fail
        go_fit (l1Below_any c _ _ R.cur (by omega))
        rintro e w13 ⟨x, ⟨hx0, hx1⟩, rfl, hcw13, gw13⟩
        replace R := R.draw gw13 hcw13
        go_wp2_with fail
        obtain ⟨v, raw, hB⟩ := R.box
        go_fit (l10Replace_any b _ a1 v raw x _ hB R.good.ds.rows)
        rintro e w14 ⟨rfl, hx, o⟩
        replace R := R.did o hx (R.good.replacedZ x)
        clear hB v raw
        generalize a1.replacedZ x = a2 at *
        go_wp2_with fail
        go_fit (l1Below_any c _ _ R.cur (by omega))
        rintro e w15 ⟨y, ⟨hy0, hy1⟩, rfl, hcw15, gw15⟩
        replace R := R.draw gw15 hcw15
        go_wp2_with fail
        obtain ⟨v, raw, hB⟩ := R.box
        go_fit (l10Heal_any b _ a2 v raw y _ hB (by have := R.good.ds.1; omega))
        rintro e w16 ⟨rfl, hx, o⟩
        replace R := R.did o hx (R.good.healed y)
        clear hB v raw
        go_wp2_with fail
        go_roundw
        case rel => exact ⟨k - 1, _, by rw [show ((k - 1 : Nat) : Int) = (k : Int) - 1 by omega], by omega, R⟩
        case measure => simp [intOf]; omega
    · obtain rfl : k = 0 := by omega
      obtain ⟨v, raw, hB⟩ := R.box
      obtain ⟨ca0, f0⟩ := hB.c0
      obtain ⟨ca1, f1⟩ := hB.c1
      obtain ⟨ca2, f2⟩ := hB.c2
      obtain ⟨ca3, f3⟩ := hB.c3
      obtain ⟨ca4, f4⟩ := hB.c4
      obtain ⟨va, vn, vc, rfl⟩ := hB.od.own.sl
      obtain ⟨⟨z0, y0⟩, ⟨z1, y1⟩, ⟨z2, y2⟩, ⟨z3, y3⟩, ⟨z4, y4⟩⟩ := R.zero
      have hno := hB.od.not_old (r := w.heap.size) (by omega)
      have hfin : DrawnA c w (.returned (a.val (.slice va vn vc))) (set5 wr w.heap.size (.slice va vn vc) (.string (str a.log)) (.string (str a.next)) (.int .i64 a.stage) (.bool a.up)) :=
        ⟨a, _, raw, rfl, R.good, (hB.od.set5 hno.1 hno.2 _ _ _ _ _).lower (by omega), ((((R.cur.set R.hc _ _).set R.hc _ _).set R.hc _ _).set R.hc _ _).set R.hc _ _, gset1 (gset1 (gset1 (gset1 (gset1 R.grew (Nat.le_refl _) _ _) (Nat.le_refl _) _ _) (Nat.le_refl _) _ _) (Nat.le_refl _) _ _) (Nat.le_refl _) _ _⟩
      clear hB R
      go_wp2_with fail
      exact bodyPost_ret (v := a.val (.slice va vn vc)) (by simp [results, Tryz.results132, go_sem, z0, z1, z2, z3, z4]) rfl hfin
end Go.Proofs.YteialkknddpbjaaGreatDoor
namespace Go.Proofs.YteialkknddpbjaaGreatDoor
open Go.ChangeShapes Go.WideShapes Go.ChangeAt Go.RowKit

section
variable {w w1 : World} {base n cap g : Nat} {l : List DZ} {raw : List DV}
/-- disk i is replaced by a disk of memory that is no other's -/
theorem OD.put4 (h : OD w base (.slice (some ⟨g, 0, none⟩) n cap) l raw) (i : Nat) (hi : i < raw.length) (r : DV) (d : DZ) (hd : r.Is w base d) (hs : Apart r.kv r.nv) (hnew : ∀ k, r.has k → k ≠ g ∧ ∀ j (hj : j < raw.length), ¬ raw[j].has k) :
    OD (set4At w g (i * 4) (.int .i64 r.n) (.bool r.dead) r.kv r.nv) base (.slice (some ⟨g, 0, none⟩) n cap) (l.set i d) (raw.set i r) :=
  h.upd i hi r d (own_set4 h.own i hi r) ⟨hd.n, hd.dead, Own.same hd.isD.1 (fun k e => set4At_block _ _ _ k _ _ _ _ (hnew k (.inl e)).1), Own.same hd.isD.2 (fun k e => set4At_block _ _ _ k _ _ _ _ (hnew k (.inr e)).1)⟩ hs
    (fun k hk => ⟨fun e => (hnew k hk).1 (by cases e; rfl), fun j hj _ => (hnew k hk).2 j hj⟩)
    (fun j hj k _ x => set4At_block _ _ _ k _ _ _ _ (fun e => h.out j hj k x (by rw [e]; rfl)))
/-- the cursor moves on -/
theorem OD.drawn {v : Value} {c : Nat} (h : OD w base v l raw) (g1 : w.grownBy w1 (some c)) (hc : c < base) : OD w1 base v l raw := by
  have hno := h.not_old (r := c) hc
  have hs : ∀ k, k ≠ c → k < w.heap.size → w1.heap[k]? = w.heap[k]? := fun k hk hl => g1.block k hl (by intro e; cases e; exact hk rfl)
  exact ⟨Own.same h.own (fun k e => hs k (fun x => hno.1 (by rw [← x]; exact e)) (h.own.lt k e).2), h.len, fun i p q => ⟨(h.is i p q).n, (h.is i p q).dead, Own.same (h.is i p q).isD.1 (fun k e => hs k (fun x => hno.2 i p (by rw [← x]; exact .inl e)) (h.in i p k (.inl e)).2), Own.same (h.is i p q).isD.2 (fun k e => hs k (fun x => hno.2 i p (by rw [← x]; exact .inr e)) (h.in i p k (.inr e)).2)⟩, h.self, h.ap, h.out⟩
/-- what lies below changes -/
theorem OD.low {v : Value} {lo : Nat} (h : OD w base v l raw) (o : Only (fun k => k < lo) w w1) (hlo : lo ≤ base) : OD w1 base v l raw := by
  have hs : ∀ k, base ≤ k → k < w.heap.size → w1.heap[k]? = w.heap[k]? := fun k hk hl => o.block k hl (by omega)
  exact ⟨Own.same h.own (fun k e => hs k (h.own.lt k e).1 (h.own.lt k e).2), h.len, fun i p q => ⟨(h.is i p q).n, (h.is i p q).dead, Own.same (h.is i p q).isD.1 (fun k e => hs k (h.in i p k (.inl e)).1 (h.in i p k (.inl e)).2), Own.same (h.is i p q).isD.2 (fun k e => hs k (h.in i p k (.inr e)).1 (h.in i p k (.inr e)).2)⟩, h.self, h.ap, h.out⟩
/-- without its first disk -/
theorem OD.rest (h : OD w base (.slice (some ⟨g, 0, none⟩) n cap) l raw) (hn : 1 ≤ l.length) (a : Option Addr) (ha : 1 < l.length → a = some ⟨g, 4, none⟩) : LD w (.slice a (n - 1) (cap - 1)) (l.drop 1) := by
  have hl := h.len
  obtain ⟨a', cap', e1, hcap, hcm, h4⟩ := h.own.rd
  cases e1
  have hlr : (raw.drop 1).length = raw.length - 1 := by simp
  refine ⟨raw.drop 1, ⟨a, cap - 1, by rw [hlr], by rw [hlr]; omega, by omega, ?_⟩, by simp; omega, fun i hi hi' => ?_⟩
  · by_cases h1 : 1 < l.length
    · rcases h4 with h4 | ⟨g', o, e2, hb, hc⟩
      · rw [h4] at hl; simp at hl; omega
      · cases e2
        refine .inr ⟨g, 4, ha h1, hb, fun j u hj => ?_⟩
        have := hc (j + 4) u (by
          match raw, hl with
          | x :: r, _ =>
            simp only [List.drop_succ_cons, List.drop_zero] at hj
            have e : diskE.all (x :: r) = diskE.enc x ++ diskE.all r := rfl
            rw [e, List.getElem?_append_right (by rw [diskE.len]; show 4 ≤ _; omega), diskE.len]
            rw [show diskE.size = 4 from rfl, Nat.add_sub_cancel]; exact hj)
        rw [show 4 + j = 0 + (j + 4) by omega]; exact this
    · left
      apply List.eq_nil_of_length_eq_zero
      rw [hlr]; omega
  · simp at hi hi'
    have := h.is (1 + i) (by omega) (by omega)
    rw [List.getElem_drop, List.getElem_drop]
    exact ⟨this.n, this.dead, this.isD.1.lower (Nat.zero_le _), this.isD.2.lower (Nat.zero_le _)⟩
end
/-- a drawn list of disks -/
def DrawnLD (c : Nat) (w : World) (e : Ending) (w' : World) : Prop :=
  ∃ (l : List DZ) (v : Value), e = .returned v ∧ (∀ w2, Only (fun k => k < w.heap.size) w' w2 → LD w2 v l) ∧ l.length ≤ 5 ∧ Cur w' c ∧ w.grownBy w' (some c)
set_option maxRecDepth 8000 in
set_option maxHeartbeats 4000000 in
theorem l6DrawAny_any (c : Nat) (w : World) (hc : Cur w c) :
    Calls Tryz.prog 133 #[.pointer (some ⟨c, 0, none⟩)] w (DrawnLD c w) := by
  have hlt := hc.lt
  go_enter Tryz.func133, Tryz.ntmps133
  go_wp2_with fail
  go_fit (l9Draw_any c _ hc)
  rintro e w1 ⟨a, v1, raw1, rfl, A1, O1, C1, g1⟩
  obtain ⟨va, vn, vc, rfl⟩ := O1.own.sl
  dsimp only [AZ.val]
  have hfld : (Instr.field 26 (.agg #[.slice va vn vc, .string (str a.log), .string (str a.next), .int .i64 a.stage, .bool a.up]) 0).run Tryz.prog w1 = .ok (.slice va vn vc) w1 := by first | kernel_rfl | rfl | simp [Instr.field, go_sem]
  go_wp2_with fail
  go_fit (l6Copy_any _ a.ds _ O1.ld (by have := A1.ds.1; omega) (fun i h => by have := A1.ds.2 _ (List.getElem_mem h); omega))
  rintro e w2 ⟨v2, raw2, rfl, O2, g2⟩
  have hl5 := A1.ds.1
  have hl1 : 1 ≤ a.ds.length := A1.pos
  have C2 := C1.kept g2 (by simp)
  have G2 := gtrans g1 (gweak g2 (some c))
  have hb : w.heap.size ≤ w1.heap.size := g1.size
  have HB : Hid (c < w1.heap.size) := by show _ < _; omega
  have HBw : Hid (w.heap.size ≤ w1.heap.size) := hb
  clear A1 O1 C1 g1 g2
  generalize a.ds = L at *
  generalize w1.heap.size = B at *
  obtain ⟨oa, oc, rfl, -⟩ := O2.form
  have hoc : L.length ≤ oc := by
    obtain ⟨a', cap', e1, hcap, -⟩ := O2.own.rd
    injection e1 with _ _ e3
    rw [O2.len] at hcap
    omega
  go_wp2_with fail
  go_fit (l1Once_any c _ _ C2 (by omega))
  rintro e w3 ⟨b1, rfl, C3, g3⟩
  replace O2 := O2.drawn g3 HB.out
  have G3 := gtrans G2 g3
  clear C2 G2 g3
  cases b1
  · go_wp2_with fail
    go_ret
    exact ⟨L, _, rfl, fun w2 g2 => (O2.low g2 HBw.out).ld, hl5, C3, G3⟩
  · have hpos : (0 : Int) < L.length := by omega
    go_wp2_with fail
    go_fit (l1Below_any c _ _ C3 (by omega))
    rintro e w4 ⟨x, ⟨hx0, hx1⟩, rfl, C4, g4⟩
    replace O2 := O2.drawn g4 HB.out
    have G4 := gtrans G3 g4
    clear C3 G3 g4
    obtain ⟨i, rfl⟩ := Int.eq_ofNat_of_zero_le hx0
    have hil : i < L.length := by omega
    have hii : (i : Int) < L.length := by omega
    have hir : i < raw2.length := by rw [O2.len]; exact hil
    obtain ⟨g, e, hgB, hgl, -⟩ := O2.at i hir hil
    cases e
    go_wp2_with fail
    go_fit (l1Below_any c _ _ C4 (by omega))
    rintro e w5 ⟨q, ⟨hq0, hq1⟩, rfl, C5, g5⟩
    replace O2 := O2.drawn g5 HB.out
    have G5 := gtrans G4 g5
    clear C4 G4 g5 hgl
    rcases (show q = 0 ∨ q = 1 ∨ q = 2 by omega) with rfl | rfl | rfl
    · go_wp2_with fail
      go_fit (l3Draw_any c _ C5)
      rintro e w6 ⟨d, kv, nv, rfl, I6, ap6, -, -, C6, g6⟩
      obtain ⟨ka, km, kc, rfl⟩ := I6.1.sl
      obtain ⟨na, nm, nc, rfl⟩ := I6.2.sl
      have hb5 : B ≤ w5.heap.size := by have := (O2.own.lt g rfl); omega
      have O6 := O2.drawn g6 HB.out
      obtain ⟨g', e', -, -, ⟨t0, r0⟩, ⟨t1, r1⟩, ⟨t2, r2⟩, ⟨t3, r3⟩⟩ := O6.at i hir hil
      cases e'
      have hgl : g < w5.heap.size := (O2.own.lt g rfl).2
      have O7 := O6.put4 i hir ⟨d.n, d.dead, ka, km, kc, na, nm, nc⟩ d ⟨rfl, rfl, ⟨Own.lower I6.1 hb5, Own.lower I6.2 hb5⟩⟩ ap6 (fun k hk => by
        have hk5 : w5.heap.size ≤ k := by rcases hk with hk | hk; exact (Own.lt I6.1 k hk).1; exact (Own.lt I6.2 k hk).1
        exact ⟨by omega, fun j hj x => by have := (O2.in j hj k x).2; omega⟩)
      have C7 : Cur (set4At w6 g (i * 4) (.int .i64 d.n) (.bool d.dead) (.slice ka km kc) (.slice na nm nc)) c := (((C6.set (by omega) _ _).set (by omega) _ _).set (by omega) _ _).set (by omega) _ _
      have G7 : w.grownBy (set4At w6 g (i * 4) (.int .i64 d.n) (.bool d.dead) (.slice ka km kc) (.slice na nm nc)) (some c) := gset1 (gset1 (gset1 (gset1 (gtrans G5 g6) (by omega) _ _) (by omega) _ _) (by omega) _ _) (by omega) _ _
      clear O2 O6 I6 C6 g6 C5 G5
      go_wp2_with fail
      go_ret
      exact ⟨_, _, rfl, fun w2 g2 => (O7.low g2 HBw.out).ld, by simpa using hl5, C7, G7⟩
    · go_wp2_with fail
      go_fit (l1DrawDisk_any c _ C5)
      rintro e w6 ⟨u, hu, rfl, C6, g6⟩
      have O6 := O2.drawn g6 HB.out
      obtain ⟨g', e', -, -, ⟨t0, r0⟩, -⟩ := O6.at i hir hil
      cases e'
      have O7 := O6.setNum i hir hil u
      have C7 := C6.set (r := g) (by omega) (i * 4) (.int .i64 u)
      have G7 := gset1 (gtrans G5 g6) (c := g) (by omega) (i * 4) (.int .i64 u)
      clear O2 O6 C6 g6 C5 G5
      go_wp2_with fail
      go_ret
      exact ⟨_, _, rfl, fun w2 g2 => (O7.low g2 HBw.out).ld, by simpa using hl5, C7, G7⟩
    · have h1i : (1 : Int) ≤ L.length := by omega
      have h1n : 1 ≤ L.length := by omega
      by_cases ho1 : oc = 1
      · have hR := fun w2 (g2 : Only (fun k => k < w.heap.size) w5 w2) => (O2.low g2 HBw.out).rest (by omega) (some ⟨g, 0, none⟩) (fun h => by omega)
        have hL1 : L.length - 1 = 0 := by omega
        subst ho1
        rw [hL1] at hR
        go_wp2_with fail
        go_ret
        exact ⟨L.drop 1, _, rfl, hR, by simp; omega, C5, G5⟩
      · have hR := fun w2 (g2 : Only (fun k => k < w.heap.size) w5 w2) => (O2.low g2 HBw.out).rest (by omega) (some ⟨g, 4, none⟩) (fun _ => rfl)
        go_wp2_with fail
        go_ret
        exact ⟨L.drop 1, _, rfl, hR, by simp; omega, C5, G5⟩
end Go.Proofs.YteialkknddpbjaaGreatDoor
