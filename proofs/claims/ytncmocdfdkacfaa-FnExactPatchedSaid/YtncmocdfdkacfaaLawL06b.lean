/- The laws' own helpers over lists of disks: what came in, opened, measured, copied, compared. The laws' own helpers: lists of numbers and of disks are marked, and are held against their marks. -/
import Derived.Test.YtncmocdfdkacfaaOwnD2
import Derived.Test.YtncmocdfdkacfaaOwnD3
import Derived.Test.YtncmocdfdkacfaaLawL03b
import Derived.Test.YtncmocdfdkacfaaOpenL03
import Derived.Test.YtncmocdfdkacfaaLawL04
import Derived.Deep.DeepFit
import Derived.Deep.DeepCutAuto
namespace Go.Proofs.Ytncmocdfdkacfaa
open Go.ChangeShapes Go.WideShapes Go.ChangeAt Go.RowKit Go.Joins Go.Deep

/-- disks that came in -/
def InDisks (w : World) (a : Option Addr) (len : Nat) (l : List DZ) : Prop :=
  len = l.length ∧ l.length ≤ 9223372036854775807 ∧ (l = [] ∨ ∃ b o, a = some ⟨b, o, none⟩ ∧ b < w.heap.size ∧ ∀ i (h : i < l.length), ∃ ka km kc na nm nc, w.cell? ⟨b, o + i * 4, none⟩ = some (.int .i64 l[i].n) ∧ w.cell? ⟨b, o + i * 4 + 1, none⟩ = some (.bool l[i].dead) ∧ w.cell? ⟨b, o + i * 4 + 2, none⟩ = some (.slice ka km kc) ∧ w.cell? ⟨b, o + i * 4 + 3, none⟩ = some (.slice na nm nc) ∧ InDisk w ka km na nm l[i])
theorem InDisks.kept {w w' : World} {a : Option Addr} {len : Nat} {l : List DZ} (h : InDisks w a len l) (g : w.grownBy w' none) : InDisks w' a len l := by
  obtain ⟨h1, h2, h3 | ⟨b, o, ha, hb, hc⟩⟩ := h
  · exact ⟨h1, h2, .inl h3⟩
  · refine ⟨h1, h2, .inr ⟨b, o, ha, by have := g.size; omega, fun i hi => ?_⟩⟩
    obtain ⟨ka, km, kc, na, nm, nc, x0, x1, x2, x3, x4⟩ := hc i hi
    exact ⟨ka, km, kc, na, nm, nc, gkc g x0, gkc g x1, gkc g x2, gkc g x3, x4.kept g⟩
/-- how many cells the disks have -/
def sizeC : List DZ → Nat
  | [] => 0
  | d :: r => d.k.length + d.m.length + sizeC r
theorem sizeC_append (a b : List DZ) : sizeC (a ++ b) = sizeC a + sizeC b := by
  induction a with
  | nil => simp [sizeC]
  | cons x r ih => simp [sizeC, ih]; omega
theorem sizeC_next {l : List DZ} {k : Nat} (h : k < l.length) : sizeC (l.take (k + 1)) = sizeC (l.take k) + (l[k].k.length + l[k].m.length) := by
  rw [List.take_succ_eq_append_getElem h, sizeC_append]; simp [sizeC]
theorem sizeC_take (l : List DZ) (k : Nat) : sizeC (l.take k) ≤ sizeC l := by
  have := sizeC_append (l.take k) (l.drop k)
  rw [List.take_append_drop] at this; omega
/-- they are not too many -/
def Small (l : List DZ) : Prop := l.length + sizeC l ≤ 1048576
theorem Small.at {l : List DZ} (h : Small l) (i : Nat) (hi : i < l.length) : l[i].k.length ≤ 1048576 ∧ l[i].m.length ≤ 1048576 := by
  have h1 := sizeC_next hi
  have h2 := sizeC_take l (i + 1)
  unfold Small at h; omega
theorem Small.len {l : List DZ} (h : Small l) : l.length ≤ 1048576 := by unfold Small at h; omega
theorem szDiskS_any (a : Option Addr) (len cap : Nat) (l : List DZ) (w : World) (h : InDisks w a len l) :
    Calls Try.prog 11 #[.slice a len cap, .int .i64 1048576] w fun e w' => ∃ x : Int, e = .returned (.int .i64 x) ∧ w.grownBy w' none ∧ (x < 0 ∨ (0 ≤ x ∧ Small l)) := by
  obtain rfl := h.1
  have hm := h.2.1
  by_cases h0 : (1048576 - (l.length : Int)) < 0
  · go_enter Try.func11, Try.ntmps11
    go_wp2_with fail
    go_ret
    exact ⟨-1, rfl, grefl _, .inl (by omega)⟩
  go_enter Try.func11, Try.ntmps11
  go_wp2_with fail
  go_loopw [1, 5] (fun x i wr => ∃ (k : Nat) (z : Int), k ≤ l.length ∧ i = .int .i64 k ∧ x = .int .i64 z ∧ 0 ≤ z ∧ z ≤ 1048576 ∧ w.grownBy wr none ∧ Hid (z = 1048576 - l.length - sizeC (l.take k))) (fun _ i _ => l.length - (intOf i).toNat)
  case atStart => exact ⟨0, _, Nat.zero_le _, rfl, rfl, by omega, by omega, grefl _, by show _ = _; simp [sizeC]⟩
  case round =>
    obtain ⟨k, z, hk, rfl, rfl, z0, z1, G, HB⟩ := hrel
    by_cases hlt : k < l.length
    · have hki : (k : Int) < l.length := by omega
      obtain ⟨-, -, h5 | ⟨b, o, rfl, hb, hc⟩⟩ := h.kept G
      · rw [h5] at hlt; simp at hlt
      obtain ⟨ka, km, kc, na, nm, nc, x0, x1, x2, x3, D⟩ := hc k hlt
      clear hc
      have HK := Lib.hid D.1.1
      have HM := Lib.hid D.2.1
      have k1 : km ≤ 9223372036854775807 := by rw [D.1.1]; exact D.1.2.1
      have m1 : nm ≤ 9223372036854775807 := by rw [D.2.1]; exact D.2.2.1
      by_cases hn : (z - km - nm : Int) < 0
      · go_wp2_with fail
        go_fit (szDisk_any _ _ _ _ _ _ _ _ _ _ k1 m1 z0 z1)
        rintro e w2 ⟨rfl, g2⟩
        rw [if_pos (by omega)]
        go_wp2_with fail
        go_ret
        exact ⟨-1, rfl, gtrans G g2, .inl (by omega)⟩
      · have HB' : Hid (z - km - nm = 1048576 - l.length - sizeC (l.take (k + 1))) := by
          show _ = _
          have e1 := HB.out
          have e2 := HK.out
          have e3 := HM.out
          rw [sizeC_next hlt]; omega
        clear HB
        go_wp2_with fail
        go_fit (szDisk_any _ _ _ _ _ _ _ _ _ _ k1 m1 z0 z1)
        rintro e w2 ⟨rfl, g2⟩
        rw [if_neg (by omega)]
        go_wp2_with fail
        go_roundw
        case rel => exact ⟨k + 1, _, by omega, by go_num, rfl, by omega, by omega, gtrans G g2, HB'⟩
        case measure => simp [intOf]; omega
    · go_wp2_with fail
      go_ret
      exact ⟨z, rfl, G, .inr ⟨z0, by have e1 := HB.out; rw [List.take_of_length_le (by omega)] at e1; unfold Small; omega⟩⟩
def zeroV : DV := ⟨0, false, none, 0, 0, none, 0, 0⟩
theorem made_disks (n : Nat) : (madeCells diskE.z.cells (n * 4)).toList = diskE.all (List.replicate n zeroV) := by
  apply List.ext_getElem?
  intro i
  by_cases hi : i < n * 4
  · have h2 := diskE_all (List.replicate n zeroV) (i / 4) (by simp; omega) (i % 4) (by omega)
    rw [show i / 4 * 4 + i % 4 = i by omega] at h2
    rw [h2]
    simp [madeCells, hi]
    rcases (show i % 4 = 0 ∨ i % 4 = 1 ∨ i % 4 = 2 ∨ i % 4 = 3 by omega) with e | e | e | e <;> simp [e, diskE, Value.cells, zeroV, DV.kv, DV.nv]
  · rw [List.getElem?_eq_none (by rw [Array.length_toList, size_madeCells]; omega), List.getElem?_eq_none (by rw [Elt.all_length]; simp [diskE]; omega)]
def zeroD (n : Nat) : Array Value := madeCells diskE.z.cells (n * 4)
theorem make_disks (n : Nat) (hn : n ≤ 1048576) (w : World) : (Instr.makeSlice 35 (.int .i64 n) (.int .i64 n)).run Try.prog w = .ok (.slice (some ⟨w.heap.size, 0, none⟩) n n) (w.alloc (.cells (zeroD n) 58)) := by
  obtain ⟨i, hi, hz, h1, h2⟩ := info_parts diskE.info
  have hr := run_make (P := Try.prog) w diskE.S diskE.T i diskE.z diskE.und hi hz .i64 .i64 n n (by omega) (by omega) (by rw [h2]; show (64 : Int) * n ≤ _; omega) (by omega)
  rw [h1] at hr
  simp only [Int.toNat_natCast] at hr
  exact hr
theorem OD.made (w : World) (n : Nat) (hn : n ≤ 1048576) : OD (w.alloc (.cells (zeroD n) 58)) w.heap.size (.slice (some ⟨w.heap.size, 0, none⟩) n n) (List.replicate n .zero) (List.replicate n zeroV) := by
  have h1 := Own.fresh diskE w (List.replicate n zeroV) _ (made_disks n) (by simp; omega) (Nat.le_refl w.heap.size)
  rw [List.length_replicate] at h1
  have hno : ∀ k, ¬ zeroV.has k := fun k h => by rcases h with h | h <;> simp [zeroV, DV.kv, DV.nv, Value.ownBlock] at h
  refine ⟨h1, by simp, fun i a b => ?_, fun i a => ?_, fun i j a b k x y => ?_, fun i a k x => ?_⟩
  · simp only [List.getElem_replicate]; exact ⟨rfl, rfl, CS.nil _ _, CS.nil _ _⟩
  · simp only [List.getElem_replicate]; exact .inl rfl
  · simp only [List.getElem_replicate] at x; exact absurd x (hno k)
  · simp only [List.getElem_replicate] at x; exact absurd x (hno k)
/-- the disks that are filled so far -/
def fillD (l : List DZ) (k : Nat) : List DZ := l.take k ++ List.replicate (l.length - k) .zero
theorem fillD_length (l : List DZ) (k : Nat) (h : k ≤ l.length) : (fillD l k).length = l.length := by simp [fillD]; omega
theorem fillD_set (l : List DZ) (k : Nat) (h : k < l.length) : (fillD l k).set k l[k] = fillD l (k + 1) := by
  unfold fillD
  rw [List.set_append_right _ _ (by simp; omega), show k - (l.take k).length = 0 by simp; omega, show l.length - k = (l.length - (k + 1)) + 1 by omega, List.replicate_succ, List.set_cons_zero, List.take_succ_eq_append_getElem h, List.append_assoc]
  rfl
/-- disk i is replaced by a new one -/
theorem OD.fresh {w w2 : World} {base n cap g : Nat} {l : List DZ} {raw : List DV} (h : OD w base (.slice (some ⟨g, 0, none⟩) n cap) l raw) (i : Nat) (hi : i < raw.length) (g2 : w.grownBy w2 none) (hb : base ≤ w.heap.size) (d : DZ) (ka : Option Addr) (km kc : Nat) (na : Option Addr) (nm nc : Nat)
    (hd : IsD w2 w.heap.size (.slice ka km kc) (.slice na nm nc) d) (hs : Apart (.slice ka km kc) (.slice na nm nc)) :
    OD (set4o w2 g (i * 4) (.int .i64 d.n) (.bool d.dead) (.slice ka km kc) (.slice na nm nc)) base (.slice (some ⟨g, 0, none⟩) n cap) (l.set i d) (raw.set i ⟨d.n, d.dead, ka, km, kc, na, nm, nc⟩) := by
  have hg := (h.own.lt g rfl)
  refine (h.grew g2).put i hi ⟨d.n, d.dead, ka, km, kc, na, nm, nc⟩ d ⟨rfl, rfl, ⟨hd.1.lower hb, hd.2.lower hb⟩⟩ hs fun k hk => ?_
  have hk' : w.heap.size ≤ k := by
    rcases hk with hk | hk
    · exact (hd.1.lt k hk).1
    · exact (hd.2.lt k hk).1
  exact ⟨by omega, fun j hj _ x => by have := (h.in j hj k x).2; omega⟩
set_option maxHeartbeats 1000000 in
theorem toDiskS_any (a : Option Addr) (len cap : Nat) (l : List DZ) (w : World) (h : InDisks w a len l) (hl : Small l) :
    Calls Try.prog 13 #[.slice a len cap] w (GotL l w) := by
  obtain rfl := h.1
  have hmk := make_disks l.length hl.len
  have C0 := OD.made w l.length hl.len
  have g0 := galloc (grefl w) (.cells (zeroD l.length) 58)
  have hm := hl.len
  have HS := Lib.hid hl.at
  clear hl
  go_enter Try.func13, Try.ntmps13
  go_wp2
  go_loopw [4] (fun i wr => ∃ (k : Nat) (raw : List DV), k ≤ l.length ∧ i = .int .i64 k ∧ OD wr w.heap.size (.slice (some ⟨w.heap.size, 0, none⟩) l.length l.length) (fillD l k) raw ∧ w.grownBy wr none) (fun i _ => l.length - (intOf i).toNat)
  case atStart => exact ⟨0, _, Nat.zero_le _, rfl, by simpa [fillD] using C0, g0⟩
  case round =>
    obtain ⟨k, raw, hk, rfl, C, G⟩ := hrel
    by_cases hlt : k < l.length
    · have hki : (k : Int) < l.length := by omega
      obtain ⟨-, -, h5 | ⟨b, o, rfl, hb, hc⟩⟩ := h.kept G
      · rw [h5] at hlt; simp at hlt
      obtain ⟨ka, km, kc, na, nm, nc, x0, x1, x2, x3, D⟩ := hc k hlt
      clear hc hmk C0 g0
      have hsz := HS.out k hlt
      go_wp2_with fail
      go_fit (toDisk_any _ _ _ _ _ _ l[k] _ D hsz.1 hsz.2)
      rintro e w2 ⟨kv, nv, rfl, d2, ap, g2⟩
      obtain ⟨ka2, km2, kc2, rfl⟩ := d2.1.sl
      obtain ⟨na2, nm2, nc2, rfl⟩ := d2.2.sl
      have hrl : k < raw.length := by rw [C.len, fillD_length l k hk]; exact hlt
      obtain ⟨g, hg, _, _, hat⟩ := Own.at (C.own.grew g2) k hrl
      cases hg
      obtain ⟨y0, z0⟩ := hat 0 _ rfl
      obtain ⟨y1, z1⟩ := hat 1 _ rfl
      obtain ⟨y2, z2⟩ := hat 2 _ rfl
      obtain ⟨y3, z3⟩ := hat 3 _ rfl
      clear hat
      change w2.cell? ⟨w.heap.size, k * 4 + 0, none⟩ = _ at y0
      change w2.frozen? ⟨w.heap.size, k * 4 + 0, none⟩ = _ at z0
      change w2.cell? ⟨w.heap.size, k * 4 + 1, none⟩ = _ at y1
      change w2.frozen? ⟨w.heap.size, k * 4 + 1, none⟩ = _ at z1
      change w2.cell? ⟨w.heap.size, k * 4 + 2, none⟩ = _ at y2
      change w2.frozen? ⟨w.heap.size, k * 4 + 2, none⟩ = _ at z2
      change w2.cell? ⟨w.heap.size, k * 4 + 3, none⟩ = _ at y3
      change w2.frozen? ⟨w.heap.size, k * 4 + 3, none⟩ = _ at z3
      simp only [Nat.add_zero] at y0 z0
      have C3 := C.fresh k hrl g2 (gsize G) l[k] ka2 km2 kc2 na2 nm2 nc2 d2 ap
      rw [fillD_set l k hlt] at C3
      have G3 : w.grownBy (set4o w2 w.heap.size (k * 4) (.int .i64 l[k].n) (.bool l[k].dead) (.slice ka2 km2 kc2) (.slice na2 nm2 nc2)) none := gset1 (gset1 (gset1 (gset1 (gtrans G g2) (Nat.le_refl _) _ _) (Nat.le_refl _) _ _) (Nat.le_refl _) _ _) (Nat.le_refl _) _ _
      go_wp2_with fail
      go_roundw
      case rel => exact ⟨k + 1, _, by omega, by go_num, C3, G3⟩
      case measure => simp [intOf]; omega
    · obtain rfl : k = l.length := by omega
      clear hmk C0 g0
      go_wp2_with fail
      go_ret
      exact ⟨_, raw, rfl, by simpa [fillD] using C, G⟩
theorem eqDiskS_yes (v1 v2 : Value) (l : List DZ) (w : World) (h1 : LD w v1 l) (h2 : LD w v2 l) :
    Calls Try.prog 15 #[v1, v2] w (Pure (.bool true) w) := by
  obtain ⟨a1, c1, rfl, hm⟩ := h1.form
  obtain ⟨a2, c2, rfl, _⟩ := h2.form
  go_enter Try.func15, Try.ntmps15
  go_wp2
  go_loopw [5] (fun i wr => ∃ k : Nat, k ≤ l.length ∧ i = .int .i64 k ∧ w.grownBy wr none) (fun i _ => l.length - (intOf i).toNat)
  case atStart => exact ⟨0, Nat.zero_le _, rfl, grefl _⟩
  case round =>
    obtain ⟨k, hk, rfl, G⟩ := hrel
    by_cases hlt : k < l.length
    · obtain ⟨g, o, ka, km, kc, na, nm, nc, rfl, x0, x1, x2, x3, D⟩ := (h1.kept G).at k hlt
      obtain ⟨g', o', ka', km', kc', na', nm', nc', rfl, y0, y1, y2, y3, D'⟩ := (h2.kept G).at k hlt
      have hki : (k : Int) < l.length := by omega
      go_wp2_with fail
      refine region_calm (fun w' => (w'.cell? ⟨g, o + k * 4, none⟩ = some (.int .i64 l[k].n) ∧ w'.cell? ⟨g, o + k * 4 + 1, none⟩ = some (.bool l[k].dead) ∧ w'.cell? ⟨g, o + k * 4 + 2, none⟩ = some (.slice ka km kc) ∧ w'.cell? ⟨g, o + k * 4 + 3, none⟩ = some (.slice na nm nc)) ∧ (w'.cell? ⟨g', o' + k * 4, none⟩ = some (.int .i64 l[k].n) ∧ w'.cell? ⟨g', o' + k * 4 + 1, none⟩ = some (.bool l[k].dead) ∧ w'.cell? ⟨g', o' + k * 4 + 2, none⟩ = some (.slice ka' km' kc') ∧ w'.cell? ⟨g', o' + k * 4 + 3, none⟩ = some (.slice na' nm' nc')) ∧ wr.grownBy w' none) (by kernel_rfl) (by kernel_rfl) (⟨⟨x0, x1, x2, x3⟩, ⟨y0, y1, y2, y3⟩, gdrew (grefl _) 1⟩) ?_
      repeat (first
        | (refine calm_skip (by rfl) ?_; simp only [Act.put, List.setIfInBounds_toArray, List.set_cons_zero, List.set_cons_succ])
        | (refine calm_step (by rfl) ?_
           apply Exists.intro
           refine ⟨fun w' hw' => ?_, ?_⟩
           · go_simp
             first | done | exact rfl | (go_at_call 44; go_fit (eqDisk_yes _ _ _ _ l[k] _ (D.grew hw'.2.2) (D'.grew hw'.2.2)); rintro e w8 ⟨rfl, g8⟩; exact And.intro rfl (And.intro (And.intro (gkc g8 hw'.1.1) (And.intro (gkc g8 hw'.1.2.1) (And.intro (gkc g8 hw'.1.2.2.1) (gkc g8 hw'.1.2.2.2)))) (And.intro (And.intro (gkc g8 hw'.2.1.1) (And.intro (gkc g8 hw'.2.1.2.1) (And.intro (gkc g8 hw'.2.1.2.2.1) (gkc g8 hw'.2.1.2.2.2)))) (gtrans hw'.2.2 g8))))
           simp only [Act.put, List.setIfInBounds_toArray, List.set_cons_zero, List.set_cons_succ]))
      refine calm_nil ?_
      intro w9 hw9
      go_wp2_with fail
      go_roundw
      case rel => exact ⟨k + 1, by omega, by go_num, gtrans G hw9.2.2⟩
      case measure => simp [intOf]; omega
    · go_wp2_with fail
      go_ret
      exact ⟨rfl, G⟩
end Go.Proofs.Ytncmocdfdkacfaa
namespace Go.Proofs.Ytncmocdfdkacfaa
open Go.ChangeShapes Go.WideShapes Go.ChangeAt Go.RowKit Go.Joins Go.Deep

/-- the marks of a list of numbers -/
def markI (k : Int) (n : Nat) : List Int := (List.range n).map fun i : Nat => k + (i : Int)
theorem markI_length (k : Int) (n : Nat) : (markI k n).length = n := by simp [markI]
theorem markI_get (k : Int) (n i : Nat) (h : i < n) : (markI k n)[i]'(by rw [markI_length]; exact h) = k + (i : Int) := by simp [markI]
def partI (k : Int) (l : List Int) (j : Nat) : List Int := markI k j ++ l.drop j
theorem partI_length (k : Int) (l : List Int) (j : Nat) (h : j ≤ l.length) : (partI k l j).length = l.length := by simp [partI, markI_length]; omega
theorem partI_set (k : Int) (l : List Int) (j : Nat) (h : j < l.length) : (partI k l j).set j (k + (j : Int)) = partI k l (j + 1) := by
  unfold partI
  rw [List.set_append_right _ _ (by simp [markI_length]), show j - (markI k j).length = 0 by simp [markI_length], List.drop_eq_getElem_cons h, List.set_cons_zero]
  simp [markI, List.range_succ]
def MarkI (B : Nat) (v : Value) (k : Int) (n : Nat) (w : World) (e : Ending) (w' : World) : Prop := e = .returned (.int .i64 (k + n)) ∧ IS w' B v (markI k n) ∧ w.grownBy w' v.ownBlock
theorem markInt64S_any (B : Nat) (v : Value) (l : List Int) (k : Int) (w : World) (h : IS w B v l) (hl : l.length ≤ 1048576) (h0 : 0 ≤ k) (h1 : k ≤ 1099511627776) :
    Calls Try.prog 46 #[v, .int .i64 k] w (MarkI B v k l.length w) := by
  obtain ⟨a, c, rfl, _⟩ := h.form
  go_enter Try.func46, Try.ntmps46
  go_wp2
  go_loopw [1, 5] (fun m i wr => ∃ j : Nat, j ≤ l.length ∧ i = .int .i64 j ∧ m = .int .i64 (k + j) ∧ IS wr B (.slice a l.length c) (partI k l j) ∧ w.grownBy wr (Value.slice a l.length c).ownBlock) (fun _ i _ => l.length - (intOf i).toNat)
  case atStart => exact ⟨0, Nat.zero_le _, rfl, by simp, by simpa [partI, markI] using h, World.grownBy.refl _ _⟩
  case round =>
    obtain ⟨j, hj, rfl, rfl, C, G⟩ := hrel
    by_cases hlt : j < l.length
    · obtain ⟨g, rfl, _, _, ⟨x0, y0⟩⟩ := IS.at C j (by rw [partI_length k l j hj]; exact hlt)
      have C3 := IS.set C j (k + j)
      rw [partI_set k l j hlt] at C3
      have hi1 : (j : Int) < l.length := by omega
      go_wp2_with fail
      go_roundw
      case rel => exact ⟨j + 1, by omega, by go_num, by rw [show k + (j : Int) + 1 = k + ((j + 1 : Nat) : Int) by omega], C3, gset G _ _⟩
      case measure => simp [intOf]; omega
    · obtain rfl : j = l.length := by omega
      go_wp2_with fail
      go_ret
      exact ⟨rfl, by simpa [partI] using C, G⟩
theorem heldInt64S_any (v : Value) (n : Nat) (k : Int) (w : World) (h : IR w v (markI k n)) (hl : n ≤ 1048576) (h0 : 0 ≤ k) (h1 : k ≤ 1099511627776) :
    Calls Try.prog 47 #[v, .int .i64 k] w fun e w' => e = .returned (.int .i64 (k + n)) ∧ w = w' := by
  obtain ⟨a, c, rfl, _⟩ := h.form
  rw [markI_length] at *
  go_enter Try.func47, Try.ntmps47
  go_wp2
  go_loop [1, 5] (fun m i => ∃ j : Nat, j ≤ n ∧ i = .int .i64 j ∧ m = .int .i64 (k + j)) (fun _ i => n - (intOf i).toNat)
  case atStart => exact ⟨0, Nat.zero_le _, rfl, by simp⟩
  case round =>
    obtain ⟨j, hj, rfl, rfl⟩ := hrel
    by_cases hlt : j < n
    · obtain ⟨g, o, rfl, x0⟩ := h.at j (by rw [markI_length]; exact hlt)
      rw [markI_get k n j hlt] at x0
      have hi1 : (j : Int) < n := by omega
      go_wp2_with fail
      go_round
      case rel => exact ⟨j + 1, by omega, by go_num, by rw [show k + (j : Int) + 1 = k + ((j + 1 : Nat) : Int) by omega]⟩
      case measure => simp [intOf]; omega
    · obtain rfl : j = n := by omega
      go_wp2_with fail
      go_ret
      exact ⟨rfl, rfl⟩
set_option maxHeartbeats 1000000 in
theorem markDiskS_any (base T : Nat) (v : Value) (l : List DZ) (raw : List DV) (k : Int) (w : World) (h : OD w base v l raw) (hT1 : ∀ i (hi : i < raw.length) b, raw[i].has b → b < T) (hT2 : ∀ b, v.ownBlock = some b → b < T) (hs : Small l) (h0 : 0 ≤ k) (h1 : k ≤ 1000) :
    Calls Try.prog 16 #[v, .int .i64 k] w fun e w' => ∃ x : Int, e = .returned (.int .i64 x) ∧ 0 ≤ x ∧ Only (fun b => base ≤ b ∧ b < T) w w' := by
  obtain ⟨a, cap, rfl, hm⟩ := h.form
  have HSm := Lib.hid hs
  have hsl := hs.len
  have HT : Hid (∀ j, 2 * j + 2 * sizeC (l.take j) ≤ 2 * j + 2097152) := fun j => by
    have := sizeC_take l j; unfold Small at hs; omega
  clear hs
  go_enter Try.func16, Try.ntmps16
  go_wp2
  go_loopw [1, 5] (fun m i wr => ∃ (j : Nat) (x : Int) (l' : List DZ) (raw' : List DV), j ≤ l.length ∧ i = .int .i64 j ∧ m = .int .i64 x ∧ 0 ≤ x ∧ Hid (x ≤ 1000 + 2 * j + 2 * sizeC (l.take j)) ∧ OD wr base (.slice a l.length cap) l' raw' ∧ Hid (shape l' = shape l ∧ l'.length = l.length) ∧ Only (fun b => base ≤ b ∧ b < T) w wr ∧ Hid (∀ i (hi : i < raw'.length) b, raw'[i].has b → b < T) ∧ (∀ b, (Value.slice a l.length cap).ownBlock = some b → b < T)) (fun _ i _ => l.length - (intOf i).toNat)
  case atStart => exact ⟨0, k, l, raw, Nat.zero_le _, rfl, rfl, h0, by show _ ≤ _; omega, h, ⟨rfl, rfl⟩, Only.refl _ _, hT1, hT2⟩
  case round =>
    obtain ⟨j, x, l', raw', hj, rfl, rfl, x0, HX, C, HL, G, HB, hv⟩ := hrel
    by_cases hlt : j < l.length
    · have hji : (j : Int) < l.length := by omega
      have j1 : j < l'.length := by rw [HL.out.2]; exact hlt
      have j2 : j < raw'.length := by rw [C.len]; exact j1
      have hsh := shape_at HL.out.1 j hlt j1
      have hbd := HSm.out.at j hlt
      have hxb : x ≤ 4195304 := by have := HX.out; have := HT.out j; omega
      have HN := Lib.hid (sizeC_next hlt)
      obtain ⟨g, rfl, g1, g2, ⟨y0, z0⟩, -⟩ := C.at j j2 j1
      have hgw := hv g rfl
      have C1 := C.setNum j j2 j1 x
      have G1 := G.trans (Only.of (gset (World.grownBy.refl wr _) (j * 4) (.int .i64 x)) (fun b e => by cases e; exact ⟨g1, hgw⟩) : Only (fun b => base ≤ b ∧ b < T) wr _)
      have L1 := shape_set j1 (d := (l'[j].num x)) rfl
      have B1 : Hid (∀ i (hi : i < (raw'.set j (raw'[j].num x)).length) b, (raw'.set j (raw'[j].num x))[i].has b → b < T) := fun i hi b hb => by
        simp only [List.length_set] at hi
        by_cases e : j = i
        · subst e; simp only [List.getElem_set_self] at hb; exact HB.out j j2 b hb
        · simp only [List.getElem_set_ne e] at hb; exact HB.out i hi b hb
      go_upto_region 5 with (fail)
      generalize wr.setCell ⟨g, j * 4, none⟩ (.int .i64 x) = W1 at *
      clear y0 z0 C G HB
      have S1 : Hid (shape (l'.set j (l'[j].num x)) = shape l ∧ (l'.set j (l'[j].num x)).length = l.length) := ⟨L1.trans HL.out.1, by rw [List.length_set]; exact HL.out.2⟩
      clear L1 HL
      have j1' : j < (l'.set j (l'[j].num x)).length := by simpa using j1
      have j2' : j < (raw'.set j (raw'[j].num x)).length := by simpa using j2
      clear hsh
      generalize l'.set j (l'[j].num x) = l1 at *
      generalize raw'.set j (raw'[j].num x) = raw1 at *
      clear j1 j2
      obtain ⟨g', e', -, -, -, ⟨y1, z1⟩, -⟩ := C1.at j j2' j1'
      cases e'
      have C2 := C1.setDead j j2' j1' ((x + 1) % 3 == 0)
      have G2 := G1.trans (Only.of (gset (World.grownBy.refl W1 _) (j * 4 + 1) (.bool ((x + 1) % 3 == 0))) (fun b e => by cases e; exact ⟨g1, hgw⟩) : Only (fun b => base ≤ b ∧ b < T) W1 _)
      have L2 := shape_set j1' (d := (l1[j].lives ((x + 1) % 3 == 0))) rfl
      have B2 : Hid (∀ i (hi : i < (raw1.set j (raw1[j].lives ((x + 1) % 3 == 0))).length) b, (raw1.set j (raw1[j].lives ((x + 1) % 3 == 0)))[i].has b → b < T) := fun i hi b hb => by
        simp only [List.length_set] at hi
        by_cases e : j = i
        · subst e; simp only [List.getElem_set_self] at hb; exact B1.out j j2' b hb
        · simp only [List.getElem_set_ne e] at hb; exact B1.out i hi b hb
      go_upto_region 7 with (fail)
      generalize W1.setCell ⟨g, j * 4 + 1, none⟩ (.bool ((x + 1) % 3 == 0)) = W2 at *
      clear y1 z1 C1 G1 B1
      have S2 : Hid (shape (l1.set j (l1[j].lives ((x + 1) % 3 == 0))) = shape l ∧ (l1.set j (l1[j].lives ((x + 1) % 3 == 0))).length = l.length) := ⟨L2.trans S1.out.1, by rw [List.length_set]; exact S1.out.2⟩
      clear L2 S1
      have j1 : j < (l1.set j (l1[j].lives ((x + 1) % 3 == 0))).length := by simpa using j1'
      have j2 : j < (raw1.set j (raw1[j].lives ((x + 1) % 3 == 0))).length := by simpa using j2'
      generalize l1.set j (l1[j].lives ((x + 1) % 3 == 0)) = l2 at *
      generalize raw1.set j (raw1[j].lives ((x + 1) % 3 == 0)) = raw2 at *
      clear j1' j2'
      have hsh := shape_at S2.out.1 j hlt j1
      obtain ⟨g', e', -, -, -, -, ⟨y2, z2⟩, -⟩ := C2.at j j2 j1
      cases e'
      have D2 := C2.is j j2 j1
      change W2.cell? ⟨g, j * 4 + 2, none⟩ = some (.slice raw2[j].ka raw2[j].km raw2[j].kc) at y2
      go_wp2_with fail
      go_fit (markCellS_any base (.slice raw2[j].ka raw2[j].km raw2[j].kc) l2[j].k (x + 1 + 1) _ D2.isD.1 (by omega) (by omega) (by omega))
      rintro e w3 ⟨rfl, c3, g3⟩
      have C3 := C2.setKept j j2 j1 g3 c3
      have G3 := G2.trans (Only.of g3 (fun b e => ⟨(C2.in j j2 b (.inl e)).1, B2.out j j2 b (.inl e)⟩))
      have L3 := shape_set j1 (d := (l2[j].withK (markL (x + 1 + 1) l2[j].k.length))) (by simp [markL_length, DZ.withK])
      clear y2 z2 G2 g3 c3 D2
      have S3 : Hid (shape (l2.set j (l2[j].withK (markL (x + 1 + 1) l2[j].k.length))) = shape l ∧ (l2.set j (l2[j].withK (markL (x + 1 + 1) l2[j].k.length))).length = l.length) := ⟨L3.trans S2.out.1, by rw [List.length_set]; exact S2.out.2⟩
      clear L3 S2 C2
      have j1' : j < (l2.set j (l2[j].withK (markL (x + 1 + 1) l2[j].k.length))).length := by simpa using j1
      rw [hsh.1] at *
      generalize l2.set j (l2[j].withK (markL (x + 1 + 1) l[j].k.length)) = l3 at *
      have hsh3 := shape_at S3.out.1 j hlt j1'
      obtain ⟨g', e', -, -, -, -, -, ⟨y3, z3⟩⟩ := C3.at j j2 j1'
      cases e'
      have D3 := C3.is j j2 j1'
      change w3.cell? ⟨g, j * 4 + 3, none⟩ = some (.slice raw2[j].na raw2[j].nm raw2[j].nc) at y3
      go_wp2_with fail
      go_fit (markCellS_any base (.slice raw2[j].na raw2[j].nm raw2[j].nc) l3[j].m (x + 1 + 1 + 2 * l[j].k.length) _ D3.isD.2 (by omega) (by omega) (by omega))
      rintro e w4 ⟨rfl, c4, g4⟩
      have C4 := C3.setNow j j2 j1' g4 c4
      have G4 := G3.trans (Only.of g4 (fun b e => ⟨(C3.in j j2 b (.inr e)).1, B2.out j j2 b (.inr e)⟩))
      have L4 := shape_set j1' (d := (l3[j].withM (markL (x + 1 + 1 + 2 * l[j].k.length) l3[j].m.length))) (by simp [markL_length, DZ.withM])
      have S4 : Hid (shape (l3.set j (l3[j].withM (markL (x + 1 + 1 + 2 * l[j].k.length) l3[j].m.length))) = shape l ∧ (l3.set j (l3[j].withM (markL (x + 1 + 1 + 2 * l[j].k.length) l3[j].m.length))).length = l.length) := ⟨L4.trans S3.out.1, by rw [List.length_set]; exact S3.out.2⟩
      rw [hsh3.2] at *
      clear y3 z3 G3 g4 c4 D3 L4 S3 C3
      go_wp2_with fail
      go_roundw
      case rel => exact ⟨j + 1, _, _, raw2, by omega, by go_num, rfl, by omega, by show _ ≤ _; have := HX.out; have := HN.out; omega, C4, S4, G4, B2, hv⟩
      case measure => simp [intOf]; omega
    · go_wp2_with fail
      go_ret
      exact ⟨x, rfl, x0, G⟩
end Go.Proofs.Ytncmocdfdkacfaa
