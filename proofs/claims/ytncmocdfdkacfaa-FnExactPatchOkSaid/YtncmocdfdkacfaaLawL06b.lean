/- The laws' own helpers: lists of numbers and of disks are marked, and are held against their marks. -/
import Derived.Test.YtncmocdfdkacfaaLawL06
import Derived.Test.YtncmocdfdkacfaaOwnD3
namespace Go.Proofs.Ytncmocdfdkacfaa
open Go.ChangeShapes Go.WideShapes Go.ChangeAt Go.RowKit Go.Joins Go.Deep

/-- the marks of a list of numbers -/
def markI (k : Int) (n : Nat) : List Int := (List.range n).map fun i : Nat => k + (i : Int)
theorem markI_length (k : Int) (n : Nat) : (markI k n).length = n := by simp [markI]
theorem markI_get (k : Int) (n i : Nat) (h : i < n) : (markI k n)[i]'(by rw [markI_length]; exact h) = k + (i : Int) := by simp [markI]
def partI (k : Int) (l : List Int) (j : Nat) : List Int := markI k j ++ l.drop j
theorem partI_length (k : Int) (l : List Int) (j : Nat) (h : j ≤ l.length) : (partI k l j).length = l.length := by simp [partI, markI_length]; omega
theorem partI_set (k : Int) (l : List Int) (j : Nat) (h : j < l.length) : (partI k l j).set j (k + (j : Int)) = partI k l (j + 1) := by
  unfold partI
  rw [List.set_append_right _ _ (by simp [markI_length]), show j - (markI k j).length = 0 by simp [markI_length], List.drop_eq_getElem_cons h, List.set_cons_zero]
  simp [markI, List.range_succ]
def MarkI (B : Nat) (v : Value) (k : Int) (n : Nat) (w : World) (e : Ending) (w' : World) : Prop := e = .returned (.int .i64 (k + n)) ∧ IS w' B v (markI k n) ∧ w.grownBy w' v.ownBlock
theorem markInt64S_any (B : Nat) (v : Value) (l : List Int) (k : Int) (w : World) (h : IS w B v l) (hl : l.length ≤ 1048576) (h0 : 0 ≤ k) (h1 : k ≤ 1099511627776) :
    Calls Try.prog 46 #[v, .int .i64 k] w (MarkI B v k l.length w) := by
  obtain ⟨a, c, rfl, _⟩ := h.form
  go_enter Try.func46, Try.ntmps46
  go_wp2
  go_loopw [1, 5] (fun m i wr => ∃ j : Nat, j ≤ l.length ∧ i = .int .i64 j ∧ m = .int .i64 (k + j) ∧ IS wr B (.slice a l.length c) (partI k l j) ∧ w.grownBy wr (Value.slice a l.length c).ownBlock) (fun _ i _ => l.length - (intOf i).toNat)
  case atStart => exact ⟨0, Nat.zero_le _, rfl, by simp, by simpa [partI, markI] using h, World.grownBy.refl _ _⟩
  case round =>
    obtain ⟨j, hj, rfl, rfl, C, G⟩ := hrel
    by_cases hlt : j < l.length
    · obtain ⟨g, rfl, _, _, ⟨x0, y0⟩⟩ := IS.at C j (by rw [partI_length k l j hj]; exact hlt)
      have C3 := IS.set C j (k + j)
      rw [partI_set k l j hlt] at C3
      have hi1 : (j : Int) < l.length := by omega
      go_wp2_with fail
      go_roundw
      case rel => exact ⟨j + 1, by omega, by go_num, by rw [show k + (j : Int) + 1 = k + ((j + 1 : Nat) : Int) by omega], C3, gset G _ _⟩
      case measure => simp [intOf]; omega
    · obtain rfl : j = l.length := by omega
      go_wp2_with fail
      go_ret
      exact ⟨rfl, by simpa [partI] using C, G⟩
theorem heldInt64S_any (v : Value) (n : Nat) (k : Int) (w : World) (h : IR w v (markI k n)) (hl : n ≤ 1048576) (h0 : 0 ≤ k) (h1 : k ≤ 1099511627776) :
    Calls Try.prog 47 #[v, .int .i64 k] w fun e w' => e = .returned (.int .i64 (k + n)) ∧ w = w' := by
  obtain ⟨a, c, rfl, _⟩ := h.form
  rw [markI_length] at *
  go_enter Try.func47, Try.ntmps47
  go_wp2
  go_loop [1, 5] (fun m i => ∃ j : Nat, j ≤ n ∧ i = .int .i64 j ∧ m = .int .i64 (k + j)) (fun _ i => n - (intOf i).toNat)
  case atStart => exact ⟨0, Nat.zero_le _, rfl, by simp⟩
  case round =>
    obtain ⟨j, hj, rfl, rfl⟩ := hrel
    by_cases hlt : j < n
    · obtain ⟨g, o, rfl, x0⟩ := h.at j (by rw [markI_length]; exact hlt)
      rw [markI_get k n j hlt] at x0
      have hi1 : (j : Int) < n := by omega
      go_wp2_with fail
      go_round
      case rel => exact ⟨j + 1, by omega, by go_num, by rw [show k + (j : Int) + 1 = k + ((j + 1 : Nat) : Int) by omega]⟩
      case measure => simp [intOf]; omega
    · obtain rfl : j = n := by omega
      go_wp2_with fail
      go_ret
      exact ⟨rfl, rfl⟩
set_option maxHeartbeats 1000000 in
theorem markDiskS_any (base T : Nat) (v : Value) (l : List DZ) (raw : List DV) (k : Int) (w : World) (h : OD w base v l raw) (hT1 : ∀ i (hi : i < raw.length) b, raw[i].has b → b < T) (hT2 : ∀ b, v.ownBlock = some b → b < T) (hs : Small l) (h0 : 0 ≤ k) (h1 : k ≤ 1000) :
    Calls Try.prog 16 #[v, .int .i64 k] w fun e w' => ∃ x : Int, e = .returned (.int .i64 x) ∧ 0 ≤ x ∧ Only (fun b => base ≤ b ∧ b < T) w w' := by
  obtain ⟨a, cap, rfl, hm⟩ := h.form
  have HSm := Lib.hid hs
  have hsl := hs.len
  have HT : Hid (∀ j, 2 * j + 2 * sizeC (l.take j) ≤ 2 * j + 2097152) := fun j => by
    have := sizeC_take l j; unfold Small at hs; omega
  clear hs
  go_enter Try.func16, Try.ntmps16
  go_wp2
  go_loopw [1, 5] (fun m i wr => ∃ (j : Nat) (x : Int) (l' : List DZ) (raw' : List DV), j ≤ l.length ∧ i = .int .i64 j ∧ m = .int .i64 x ∧ 0 ≤ x ∧ Hid (x ≤ 1000 + 2 * j + 2 * sizeC (l.take j)) ∧ OD wr base (.slice a l.length cap) l' raw' ∧ Hid (shape l' = shape l ∧ l'.length = l.length) ∧ Only (fun b => base ≤ b ∧ b < T) w wr ∧ Hid (∀ i (hi : i < raw'.length) b, raw'[i].has b → b < T) ∧ (∀ b, (Value.slice a l.length cap).ownBlock = some b → b < T)) (fun _ i _ => l.length - (intOf i).toNat)
  case atStart => exact ⟨0, k, l, raw, Nat.zero_le _, rfl, rfl, h0, by show _ ≤ _; omega, h, ⟨rfl, rfl⟩, Only.refl _ _, hT1, hT2⟩
  case round =>
    obtain ⟨j, x, l', raw', hj, rfl, rfl, x0, HX, C, HL, G, HB, hv⟩ := hrel
    by_cases hlt : j < l.length
    · have hji : (j : Int) < l.length := by omega
      have j1 : j < l'.length := by rw [HL.out.2]; exact hlt
      have j2 : j < raw'.length := by rw [C.len]; exact j1
      have hsh := shape_at HL.out.1 j hlt j1
      have hbd := HSm.out.at j hlt
      have hxb : x ≤ 4195304 := by have := HX.out; have := HT.out j; omega
      have HN := Lib.hid (sizeC_next hlt)
      obtain ⟨g, rfl, g1, g2, ⟨y0, z0⟩, -⟩ := C.at j j2 j1
      have hgw := hv g rfl
      have C1 := C.setNum j j2 j1 x
      have G1 := G.trans (Only.of (gset (World.grownBy.refl wr _) (j * 4) (.int .i64 x)) (fun b e => by cases e; exact ⟨g1, hgw⟩) : Only (fun b => base ≤ b ∧ b < T) wr _)
      have L1 := shape_set j1 (d := (l'[j].num x)) rfl
      have B1 : Hid (∀ i (hi : i < (raw'.set j (raw'[j].num x)).length) b, (raw'.set j (raw'[j].num x))[i].has b → b < T) := fun i hi b hb => by
        simp only [List.length_set] at hi
        by_cases e : j = i
        · subst e; simp only [List.getElem_set_self] at hb; exact HB.out j j2 b hb
        · simp only [List.getElem_set_ne e] at hb; exact HB.out i hi b hb
      go_upto_region 5 with (fail)
      generalize wr.setCell ⟨g, j * 4, none⟩ (.int .i64 x) = W1 at *
      clear y0 z0 C G HB
      have S1 : Hid (shape (l'.set j (l'[j].num x)) = shape l ∧ (l'.set j (l'[j].num x)).length = l.length) := ⟨L1.trans HL.out.1, by rw [List.length_set]; exact HL.out.2⟩
      clear L1 HL
      have j1' : j < (l'.set j (l'[j].num x)).length := by simpa using j1
      have j2' : j < (raw'.set j (raw'[j].num x)).length := by simpa using j2
      clear hsh
      generalize l'.set j (l'[j].num x) = l1 at *
      generalize raw'.set j (raw'[j].num x) = raw1 at *
      clear j1 j2
      obtain ⟨g', e', -, -, -, ⟨y1, z1⟩, -⟩ := C1.at j j2' j1'
      cases e'
      have C2 := C1.setDead j j2' j1' ((x + 1) % 3 == 0)
      have G2 := G1.trans (Only.of (gset (World.grownBy.refl W1 _) (j * 4 + 1) (.bool ((x + 1) % 3 == 0))) (fun b e => by cases e; exact ⟨g1, hgw⟩) : Only (fun b => base ≤ b ∧ b < T) W1 _)
      have L2 := shape_set j1' (d := (l1[j].lives ((x + 1) % 3 == 0))) rfl
      have B2 : Hid (∀ i (hi : i < (raw1.set j (raw1[j].lives ((x + 1) % 3 == 0))).length) b, (raw1.set j (raw1[j].lives ((x + 1) % 3 == 0)))[i].has b → b < T) := fun i hi b hb => by
        simp only [List.length_set] at hi
        by_cases e : j = i
        · subst e; simp only [List.getElem_set_self] at hb; exact B1.out j j2' b hb
        · simp only [List.getElem_set_ne e] at hb; exact B1.out i hi b hb
      go_upto_region 7 with (fail)
      generalize W1.setCell ⟨g, j * 4 + 1, none⟩ (.bool ((x + 1) % 3 == 0)) = W2 at *
      clear y1 z1 C1 G1 B1
      have S2 : Hid (shape (l1.set j (l1[j].lives ((x + 1) % 3 == 0))) = shape l ∧ (l1.set j (l1[j].lives ((x + 1) % 3 == 0))).length = l.length) := ⟨L2.trans S1.out.1, by rw [List.length_set]; exact S1.out.2⟩
      clear L2 S1
      have j1 : j < (l1.set j (l1[j].lives ((x + 1) % 3 == 0))).length := by simpa using j1'
      have j2 : j < (raw1.set j (raw1[j].lives ((x + 1) % 3 == 0))).length := by simpa using j2'
      generalize l1.set j (l1[j].lives ((x + 1) % 3 == 0)) = l2 at *
      generalize raw1.set j (raw1[j].lives ((x + 1) % 3 == 0)) = raw2 at *
      clear j1' j2'
      have hsh := shape_at S2.out.1 j hlt j1
      obtain ⟨g', e', -, -, -, -, ⟨y2, z2⟩, -⟩ := C2.at j j2 j1
      cases e'
      have D2 := C2.is j j2 j1
      change W2.cell? ⟨g, j * 4 + 2, none⟩ = some (.slice raw2[j].ka raw2[j].km raw2[j].kc) at y2
      go_wp2_with fail
      go_fit (markCellS_any base (.slice raw2[j].ka raw2[j].km raw2[j].kc) l2[j].k (x + 1 + 1) _ D2.isD.1 (by omega) (by omega) (by omega))
      rintro e w3 ⟨rfl, c3, g3⟩
      have C3 := C2.setKept j j2 j1 g3 c3
      have G3 := G2.trans (Only.of g3 (fun b e => ⟨(C2.in j j2 b (.inl e)).1, B2.out j j2 b (.inl e)⟩))
      have L3 := shape_set j1 (d := (l2[j].withK (markL (x + 1 + 1) l2[j].k.length))) (by simp [markL_length, DZ.withK])
      clear y2 z2 G2 g3 c3 D2
      have S3 : Hid (shape (l2.set j (l2[j].withK (markL (x + 1 + 1) l2[j].k.length))) = shape l ∧ (l2.set j (l2[j].withK (markL (x + 1 + 1) l2[j].k.length))).length = l.length) := ⟨L3.trans S2.out.1, by rw [List.length_set]; exact S2.out.2⟩
      clear L3 S2 C2
      have j1' : j < (l2.set j (l2[j].withK (markL (x + 1 + 1) l2[j].k.length))).length := by simpa using j1
      rw [hsh.1] at *
      generalize l2.set j (l2[j].withK (markL (x + 1 + 1) l[j].k.length)) = l3 at *
      have hsh3 := shape_at S3.out.1 j hlt j1'
      obtain ⟨g', e', -, -, -, -, -, ⟨y3, z3⟩⟩ := C3.at j j2 j1'
      cases e'
      have D3 := C3.is j j2 j1'
      change w3.cell? ⟨g, j * 4 + 3, none⟩ = some (.slice raw2[j].na raw2[j].nm raw2[j].nc) at y3
      go_wp2_with fail
      go_fit (markCellS_any base (.slice raw2[j].na raw2[j].nm raw2[j].nc) l3[j].m (x + 1 + 1 + 2 * l[j].k.length) _ D3.isD.2 (by omega) (by omega) (by omega))
      rintro e w4 ⟨rfl, c4, g4⟩
      have C4 := C3.setNow j j2 j1' g4 c4
      have G4 := G3.trans (Only.of g4 (fun b e => ⟨(C3.in j j2 b (.inr e)).1, B2.out j j2 b (.inr e)⟩))
      have L4 := shape_set j1' (d := (l3[j].withM (markL (x + 1 + 1 + 2 * l[j].k.length) l3[j].m.length))) (by simp [markL_length, DZ.withM])
      have S4 : Hid (shape (l3.set j (l3[j].withM (markL (x + 1 + 1 + 2 * l[j].k.length) l3[j].m.length))) = shape l ∧ (l3.set j (l3[j].withM (markL (x + 1 + 1 + 2 * l[j].k.length) l3[j].m.length))).length = l.length) := ⟨L4.trans S3.out.1, by rw [List.length_set]; exact S3.out.2⟩
      rw [hsh3.2] at *
      clear y3 z3 G3 g4 c4 D3 L4 S3 C3
      go_wp2_with fail
      go_roundw
      case rel => exact ⟨j + 1, _, _, raw2, by omega, by go_num, rfl, by omega, by show _ ≤ _; have := HX.out; have := HN.out; omega, C4, S4, G4, B2, hv⟩
      case measure => simp [intOf]; omega
    · go_wp2_with fail
      go_ret
      exact ⟨x, rfl, x0, G⟩
end Go.Proofs.Ytncmocdfdkacfaa
