/- The laws' own helpers: a list of disks is marked, told exactly, and is held against its marks. -/
import Derived.Test.YtncmocdfdkacfaaLawL06b
namespace Go.Proofs.Ytncmocdfdkacfaa
open Go.ChangeShapes Go.WideShapes Go.ChangeAt Go.RowKit Go.Joins Go.Deep

def mkD (k : Int) (d : DZ) : DZ := ⟨k, (k + 1) % 3 == 0, markL (k + 1 + 1) d.k.length, markL (k + 1 + 1 + 2 * d.k.length) d.m.length⟩
def mkN (k : Int) (l : List DZ) (j : Nat) : Int := k + 2 * j + 2 * sizeC (l.take j)
def markDs (k : Int) (l : List DZ) : List DZ := (List.range l.length).map fun i => mkD (mkN k l i) (l.getD i .zero)
theorem markDs_length (k : Int) (l : List DZ) : (markDs k l).length = l.length := by simp [markDs]
theorem markDs_get (k : Int) (l : List DZ) (i : Nat) (h : i < (markDs k l).length) : (markDs k l)[i] = mkD (mkN k l i) (l.getD i .zero) := by simp [markDs]
theorem markDs_of {k : Int} {l l' : List DZ} (hl : l'.length = l.length) (h : ∀ i (h : i < l'.length), i < l.length → l'[i] = mkD (mkN k l i) (l.getD i .zero)) : l' = markDs k l := by
  apply List.ext_getElem
  · rw [hl, markDs_length]
  · intro i h1 h2
    rw [markDs_get]
    exact h i h1 (by omega)
theorem mkN_next {k : Int} {l : List DZ} {j : Nat} (h : j < l.length) : mkN k l (j + 1) = mkN k l j + 1 + 1 + 2 * l[j].k.length + 2 * l[j].m.length := by
  unfold mkN
  rw [sizeC_next h]; omega
set_option maxHeartbeats 1000000 in
theorem markDiskS_at (base T : Nat) (v : Value) (l : List DZ) (raw : List DV) (k : Int) (w : World) (h : OD w base v l raw) (hT1 : ∀ i (hi : i < raw.length) b, raw[i].has b → b < T) (hT2 : ∀ b, v.ownBlock = some b → b < T) (hs : Small l) (h0 : 0 ≤ k) (h1 : k ≤ 1000) :
    Calls Try.prog 16 #[v, .int .i64 k] w fun e w' => ∃ raw', e = .returned (.int .i64 (mkN k l l.length)) ∧ OD w' base v (markDs k l) raw' ∧ Only (fun b => base ≤ b ∧ b < T) w w' := by
  obtain ⟨a, cap, rfl, hm⟩ := h.form
  have HSm := Lib.hid hs
  have hsl := hs.len
  have HT : Hid (∀ j, 2 * j + 2 * sizeC (l.take j) ≤ 2 * j + 2097152) := fun j => by
    have := sizeC_take l j; unfold Small at hs; omega
  clear hs
  go_enter Try.func16, Try.ntmps16
  go_wp2
  go_loopw [1, 5] (fun m i wr => ∃ (j : Nat) (x : Int) (l' : List DZ) (raw' : List DV), j ≤ l.length ∧ i = .int .i64 j ∧ m = .int .i64 x ∧ 0 ≤ x ∧ Hid (x = mkN k l j) ∧ Hid (∀ i (h : i < l'.length), i < j → l'[i] = mkD (mkN k l i) (l.getD i .zero)) ∧ OD wr base (.slice a l.length cap) l' raw' ∧ Hid (shape l' = shape l ∧ l'.length = l.length) ∧ Only (fun b => base ≤ b ∧ b < T) w wr ∧ Hid (∀ i (hi : i < raw'.length) b, raw'[i].has b → b < T) ∧ (∀ b, (Value.slice a l.length cap).ownBlock = some b → b < T)) (fun _ i _ => l.length - (intOf i).toNat)
  case atStart => exact ⟨0, k, l, raw, Nat.zero_le _, rfl, rfl, h0, by show _ = _; simp [mkN, sizeC], (fun i _ hi => by omega), h, ⟨rfl, rfl⟩, Only.refl _ _, hT1, hT2⟩
  case round =>
    obtain ⟨j, x, l', raw', hj, rfl, rfl, x0, HX, HM, C, HL, G, HB, hv⟩ := hrel
    by_cases hlt : j < l.length
    · have hji : (j : Int) < l.length := by omega
      have j1 : j < l'.length := by rw [HL.out.2]; exact hlt
      have j2 : j < raw'.length := by rw [C.len]; exact j1
      have hsh := shape_at HL.out.1 j hlt j1
      have hbd := HSm.out.at j hlt
      have hxb : x ≤ 4195304 := by have e := HX.out; unfold mkN at e; have := HT.out j; omega
      have HN := Lib.hid (sizeC_next hlt)
      obtain ⟨g, rfl, g1, g2, ⟨y0, z0⟩, -⟩ := C.at j j2 j1
      have hgw := hv g rfl
      have C1 := C.setNum j j2 j1 x
      have G1 := G.trans (Only.of (gset (World.grownBy.refl wr _) (j * 4) (.int .i64 x)) (fun b e => by cases e; exact ⟨g1, hgw⟩) : Only (fun b => base ≤ b ∧ b < T) wr _)
      have L1 := shape_set j1 (d := (l'[j].num x)) rfl
      have B1 : Hid (∀ i (hi : i < (raw'.set j (raw'[j].num x)).length) b, (raw'.set j (raw'[j].num x))[i].has b → b < T) := fun i hi b hb => by
        simp only [List.length_set] at hi
        by_cases e : j = i
        · subst e; simp only [List.getElem_set_self] at hb; exact HB.out j j2 b hb
        · simp only [List.getElem_set_ne e] at hb; exact HB.out i hi b hb
      go_upto_region 5 with (fail)
      generalize wr.setCell ⟨g, j * 4, none⟩ (.int .i64 x) = W1 at *
      clear y0 z0 C G HB
      have S1 : Hid (shape (l'.set j (l'[j].num x)) = shape l ∧ (l'.set j (l'[j].num x)).length = l.length) := ⟨L1.trans HL.out.1, by rw [List.length_set]; exact HL.out.2⟩
      clear L1 HL
      have j1' : j < (l'.set j (l'[j].num x)).length := by simpa using j1
      have j2' : j < (raw'.set j (raw'[j].num x)).length := by simpa using j2
      clear hsh
      have E1 : Hid (∀ i, (l'.set j (l'[j].num x))[i]? = if i = j then some (l'[j].num x) else l'[i]?) := fun i => by
        rw [List.getElem?_set]; by_cases e : j = i; subst e; simp [j1]; simp [e, Ne.symm e]
      generalize l'.set j (l'[j].num x) = l1 at *
      generalize raw'.set j (raw'[j].num x) = raw1 at *
      clear j2
      obtain ⟨g', e', -, -, -, ⟨y1, z1⟩, -⟩ := C1.at j j2' j1'
      cases e'
      have C2 := C1.setDead j j2' j1' ((x + 1) % 3 == 0)
      have G2 := G1.trans (Only.of (gset (World.grownBy.refl W1 _) (j * 4 + 1) (.bool ((x + 1) % 3 == 0))) (fun b e => by cases e; exact ⟨g1, hgw⟩) : Only (fun b => base ≤ b ∧ b < T) W1 _)
      have L2 := shape_set j1' (d := (l1[j].lives ((x + 1) % 3 == 0))) rfl
      have B2 : Hid (∀ i (hi : i < (raw1.set j (raw1[j].lives ((x + 1) % 3 == 0))).length) b, (raw1.set j (raw1[j].lives ((x + 1) % 3 == 0)))[i].has b → b < T) := fun i hi b hb => by
        simp only [List.length_set] at hi
        by_cases e : j = i
        · subst e; simp only [List.getElem_set_self] at hb; exact B1.out j j2' b hb
        · simp only [List.getElem_set_ne e] at hb; exact B1.out i hi b hb
      go_upto_region 7 with (fail)
      generalize W1.setCell ⟨g, j * 4 + 1, none⟩ (.bool ((x + 1) % 3 == 0)) = W2 at *
      clear y1 z1 C1 G1 B1
      have S2 : Hid (shape (l1.set j (l1[j].lives ((x + 1) % 3 == 0))) = shape l ∧ (l1.set j (l1[j].lives ((x + 1) % 3 == 0))).length = l.length) := ⟨L2.trans S1.out.1, by rw [List.length_set]; exact S1.out.2⟩
      clear L2 S1
      have j1 : j < (l1.set j (l1[j].lives ((x + 1) % 3 == 0))).length := by simpa using j1'
      have j2 : j < (raw1.set j (raw1[j].lives ((x + 1) % 3 == 0))).length := by simpa using j2'
      have E2 : Hid (∀ i, (l1.set j (l1[j].lives ((x + 1) % 3 == 0)))[i]? = if i = j then some (l1[j].lives ((x + 1) % 3 == 0)) else l1[i]?) := fun i => by
        rw [List.getElem?_set]; by_cases e : j = i; subst e; simp [j1']; simp [e, Ne.symm e]
      generalize l1.set j (l1[j].lives ((x + 1) % 3 == 0)) = l2 at *
      generalize raw1.set j (raw1[j].lives ((x + 1) % 3 == 0)) = raw2 at *
      clear j2'
      have hsh := shape_at S2.out.1 j hlt j1
      obtain ⟨g', e', -, -, -, -, ⟨y2, z2⟩, -⟩ := C2.at j j2 j1
      cases e'
      have D2 := C2.is j j2 j1
      change W2.cell? ⟨g, j * 4 + 2, none⟩ = some (.slice raw2[j].ka raw2[j].km raw2[j].kc) at y2
      go_wp2_with fail
      go_fit (markCellS_any base (.slice raw2[j].ka raw2[j].km raw2[j].kc) l2[j].k (x + 1 + 1) _ D2.isD.1 (by omega) (by omega) (by omega))
      rintro e w3 ⟨rfl, c3, g3⟩
      have C3 := C2.setKept j j2 j1 g3 c3
      have G3 := G2.trans (Only.of g3 (fun b e => ⟨(C2.in j j2 b (.inl e)).1, B2.out j j2 b (.inl e)⟩))
      have L3 := shape_set j1 (d := (l2[j].withK (markL (x + 1 + 1) l2[j].k.length))) (by simp [markL_length, DZ.withK])
      clear y2 z2 G2 g3 c3 D2
      have S3 : Hid (shape (l2.set j (l2[j].withK (markL (x + 1 + 1) l2[j].k.length))) = shape l ∧ (l2.set j (l2[j].withK (markL (x + 1 + 1) l2[j].k.length))).length = l.length) := ⟨L3.trans S2.out.1, by rw [List.length_set]; exact S2.out.2⟩
      clear L3 S2 C2
      have j1' : j < (l2.set j (l2[j].withK (markL (x + 1 + 1) l2[j].k.length))).length := by simpa using j1
      have E3 : Hid (∀ i, (l2.set j (l2[j].withK (markL (x + 1 + 1) l2[j].k.length)))[i]? = if i = j then some (l2[j].withK (markL (x + 1 + 1) l2[j].k.length)) else l2[i]?) := fun i => by
        rw [List.getElem?_set]; by_cases e : j = i; subst e; simp [j1]; simp [e, Ne.symm e]
      rw [hsh.1] at *
      generalize l2.set j (l2[j].withK (markL (x + 1 + 1) l[j].k.length)) = l3 at *
      have hsh3 := shape_at S3.out.1 j hlt j1'
      obtain ⟨g', e', -, -, -, -, -, ⟨y3, z3⟩⟩ := C3.at j j2 j1'
      cases e'
      have D3 := C3.is j j2 j1'
      change w3.cell? ⟨g, j * 4 + 3, none⟩ = some (.slice raw2[j].na raw2[j].nm raw2[j].nc) at y3
      go_wp2_with fail
      go_fit (markCellS_any base (.slice raw2[j].na raw2[j].nm raw2[j].nc) l3[j].m (x + 1 + 1 + 2 * l[j].k.length) _ D3.isD.2 (by omega) (by omega) (by omega))
      rintro e w4 ⟨rfl, c4, g4⟩
      have C4 := C3.setNow j j2 j1' g4 c4
      have G4 := G3.trans (Only.of g4 (fun b e => ⟨(C3.in j j2 b (.inr e)).1, B2.out j j2 b (.inr e)⟩))
      have L4 := shape_set j1' (d := (l3[j].withM (markL (x + 1 + 1 + 2 * l[j].k.length) l3[j].m.length))) (by simp [markL_length, DZ.withM])
      have S4 : Hid (shape (l3.set j (l3[j].withM (markL (x + 1 + 1 + 2 * l[j].k.length) l3[j].m.length))) = shape l ∧ (l3.set j (l3[j].withM (markL (x + 1 + 1 + 2 * l[j].k.length) l3[j].m.length))).length = l.length) := ⟨L4.trans S3.out.1, by rw [List.length_set]; exact S3.out.2⟩
      rw [hsh3.2] at *
      have HX4 : Hid (x + 1 + 1 + 2 * l[j].k.length + 2 * l[j].m.length = mkN k l (j + 1)) := by show _ = _; rw [mkN_next hlt, HX.out]
      have HM4 : Hid (∀ i (h : i < (l3.set j (l3[j].withM (markL (x + 1 + 1 + 2 * l[j].k.length) l[j].m.length))).length), i < j + 1 → (l3.set j (l3[j].withM (markL (x + 1 + 1 + 2 * l[j].k.length) l[j].m.length)))[i] = mkD (mkN k l i) (l.getD i .zero)) := fun i h hi => by
        simp only [List.length_set] at h
        by_cases e : j = i
        · subst e
          rw [List.getElem_set_self]
          have a1 := E1.out j
          have a2 := E2.out j
          have a3 := E3.out j
          rw [if_pos rfl] at a1 a2 a3
          obtain ⟨_, b1⟩ := List.getElem?_eq_some_iff.1 a1
          obtain ⟨_, b2⟩ := List.getElem?_eq_some_iff.1 a2
          obtain ⟨_, b3⟩ := List.getElem?_eq_some_iff.1 a3
          rw [b3, b2, b1, getD_at hlt, ← HX.out]
          rfl
        · rw [List.getElem_set_ne e]
          have a1 := E1.out i
          have a2 := E2.out i
          have a3 := E3.out i
          rw [if_neg (Ne.symm e)] at a1 a2 a3
          rw [a2, a1] at a3
          obtain ⟨_, b3⟩ := List.getElem?_eq_some_iff.1 (a3.symm.trans (List.getElem?_eq_getElem h))
          rw [← b3]
          exact HM.out i _ (by omega)
      clear y3 z3 G3 g4 c4 D3 L4 S3 C3 E1 E2 E3 HM HX
      go_wp2_with fail
      go_roundw
      case rel => exact ⟨j + 1, _, _, raw2, by omega, by go_num, rfl, by omega, HX4, HM4, C4, S4, G4, B2, hv⟩
      case measure => simp [intOf]; omega
    · obtain rfl : j = l.length := by omega
      have HQ : Hid (l' = markDs k l) := markDs_of HL.out.2 (fun i h hi => HM.out i h hi)
      go_wp2_with fail
      go_ret
      exact ⟨raw', by rw [← HX.out]; rfl, by rw [← HQ.out]; exact C, G⟩
set_option maxHeartbeats 1000000 in
theorem heldDiskS_any (v : Value) (l : List DZ) (k : Int) (w : World) (h : LD w v (markDs k l)) (hs : Small l) (h0 : 0 ≤ k) (h1 : k ≤ 1000) :
    Calls Try.prog 21 #[v, .int .i64 k] w (Pure (.int .i64 (mkN k l l.length)) w) := by
  obtain ⟨a, cap, rfl, hm⟩ := h.form
  rw [markDs_length] at hm
  have HSm := Lib.hid hs
  have HT : Hid (∀ j, j ≤ l.length → mkN k l j ≤ 1000 + 2 * 1048576 + 2097152) := fun j hj => by
    have := sizeC_take l j; have := hs.len; unfold Small at hs; unfold mkN; omega
  have HL : Hid ((markDs k l).length = l.length) := markDs_length k l
  rw [markDs_length]
  clear hs
  go_enter Try.func21, Try.ntmps21
  go_wp2
  go_loopw [1, 5] (fun m i wr => ∃ (j : Nat) (x : Int), j ≤ l.length ∧ i = .int .i64 j ∧ m = .int .i64 x ∧ 0 ≤ x ∧ Hid (x = mkN k l j) ∧ w.grownBy wr none) (fun _ i _ => l.length - (intOf i).toNat)
  case atStart => exact ⟨0, k, Nat.zero_le _, rfl, rfl, h0, by show _ = _; simp [mkN, sizeC], grefl _⟩
  case round =>
    obtain ⟨j, x, hj, rfl, rfl, x0, HX, G⟩ := hrel
    have hxb : x ≤ 5195304 := by have := HX.out; have := HT.out j hj; omega
    by_cases hlt : j < l.length
    · have hji : (j : Int) < l.length := by omega
      have j1 : j < (markDs k l).length := by rw [markDs_length]; exact hlt
      have hbd := HSm.out.at j hlt
      obtain ⟨g, o, ka, km, kc, na, nm, nc, e', y0, y1, y2, y3, D⟩ := (h.kept G).at j j1
      cases e'
      have hD : (markDs k l)[j] = mkD x l[j] := by rw [markDs_get, getD_at hlt, ← HX.out]
      rw [hD] at y0 y1 D
      have HN := Lib.hid (mkN_next (k := k) hlt)
      obtain ⟨D1, D2⟩ := D
      change wr.cell? _ = some (.int .i64 x) at y0
      change wr.cell? _ = some (.bool ((x + 1) % 3 == 0)) at y1
      change CS wr 0 _ (markL (x + 1 + 1) l[j].k.length) at D1
      change CS wr 0 _ (markL (x + 1 + 1 + 2 * l[j].k.length) l[j].m.length) at D2
      have p1 : ¬ (x + 1 + 1 + 2 * (l[j].k.length : Int)) < 0 := by omega
      have p2 : ¬ (x + 1 + 1 + 2 * (l[j].k.length : Int) + 2 * (l[j].m.length : Int)) < 0 := by omega
      have HX4 : Hid (x + 1 + 1 + 2 * l[j].k.length + 2 * l[j].m.length = mkN k l (j + 1)) := by show _ = _; rw [mkN_next hlt, HX.out]
      clear hD HX
      go_wp2_with fail
      go_fit (heldCellS_any _ l[j].k.length (x + 1 + 1) _ D1 (by omega) (by omega) (by omega))
      rintro e w2 ⟨rfl, rfl⟩
      go_wp2_with fail
      go_fit (heldCellS_any _ l[j].m.length (x + 1 + 1 + 2 * l[j].k.length) _ D2 (by omega) (by omega) (by omega))
      rintro e w2 ⟨rfl, rfl⟩
      go_wp2_with fail
      go_roundw
      case rel => exact ⟨j + 1, _, by omega, by go_num, rfl, by omega, HX4, G⟩
      case measure => simp [intOf]; omega
    · obtain rfl : j = l.length := by omega
      go_wp2_with fail
      go_ret
      exact ⟨by rw [← HX.out]; rfl, G⟩
end Go.Proofs.Ytncmocdfdkacfaa
