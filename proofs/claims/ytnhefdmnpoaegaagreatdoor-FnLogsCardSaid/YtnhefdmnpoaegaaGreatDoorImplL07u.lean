/- What the program's patchFrom and ReadPatch return. -/
import Derived.Test.YtnhefdmnpoaegaaGreatDoorImplL07r
import Derived.Test.YtnhefdmnpoaegaaGreatDoorLawL07
namespace Go.Proofs.YtnhefdmnpoaegaaGreatDoor
open Go.ChangeShapes Go.WideShapes Go.ChangeAt Go.RowKit
attribute [local go_sem] str_list str_size str_add lit_list0 add_lit lit_add str_cut

theorem PBox.row {w : World} {b B : Nat} {p : PZ} {dv vv : Value} (h : PBox w b B p dv vv) (x : Int) : PBox (w.setCell ⟨b, 0, none⟩ (.int .i64 x)) b B ⟨x, p.ds, p.vs⟩ dv vv :=
  ⟨h.c0.same _, h.c1.other (by simp) _, h.c2.other (by simp) _, Own.other h.ds h.db _, Own.other h.vs h.vb _, h.ap, h.db, h.vb⟩
def fromK (n : List Int) (k : Nat) : PZ := ⟨if 0 < k then n.getD 0 0 else 0, dsN n (k / 2), vsN n ((k - 1) / 2)⟩
theorem fromK_all (n : List Int) : fromK n n.length = fromN n := by
  unfold fromK fromN
  cases n with
  | nil => rfl
  | cons a r => simp
theorem fromK_one {n : List Int} (h : 0 < n.length) : fromK n (0 + 1) = ⟨n[0], (fromK n 0).ds, (fromK n 0).vs⟩ := by
  unfold fromK
  simp [List.getD_eq_getElem?_getD, h]
theorem fromK_odd {n : List Int} {k : Nat} (h : k < n.length) (ho : k % 2 = 1) : fromK n (k + 1) = { fromK n k with ds := (fromK n k).ds ++ [n[k]] } := by
  unfold fromK
  simp only [show (k + 1) / 2 = k / 2 + 1 by omega, show (k + 1 - 1) / 2 = (k - 1) / 2 by omega, dsN_next, show 0 < k + 1 by omega, show 0 < k by omega, if_true]
  rw [show 1 + 2 * (k / 2) = k by omega]
  simp [List.getD_eq_getElem?_getD, h]
theorem fromK_even {n : List Int} {k : Nat} (h : k < n.length) (ho : k % 2 = 0) (h0 : 0 < k) : fromK n (k + 1) = { fromK n k with vs := (fromK n k).vs ++ [n[k]] } := by
  unfold fromK
  simp only [show (k + 1) / 2 = k / 2 by omega, show (k + 1 - 1) / 2 = (k - 1) / 2 + 1 by omega, vsN_next, show 0 < k + 1 by omega, h0, if_true]
  rw [show 2 + 2 * ((k - 1) / 2) = k by omega]
  simp [List.getD_eq_getElem?_getD, h]
theorem fromK_len (n : List Int) (k : Nat) : (fromK n k).ds.length ≤ k ∧ (fromK n k).vs.length ≤ k := by
  unfold fromK
  simp only [dsN_len, vsN_len]
  omega
set_option maxRecDepth 8000 in
set_option maxHeartbeats 4000000 in
theorem patchFrom_any (n : List Int) (v : Value) (base : Nat) (w : World) (h : IS w base v n) (hn : n.length ≤ 1100000) :
    Calls Tryz.prog 55 #[v] w (GotPt (fromN n) w) := by
  obtain ⟨a, cap, rfl, hm⟩ := Own.form h
  have HOwn : Hid (∀ k, (Value.slice a n.length cap).ownBlock = some k → k < w.heap.size) := fun k e => (Own.lt h k e).2
  have Z0 := Zero3.new w
  have e1 := galloc (grefl (w.alloc (.cells #[.int .i64 0, .slice none 0 0, .slice none 0 0] 26))) (.cells #[.int .i64 0, .slice none 0 0, .slice none 0 0] 26)
  have G1 := gtrans (galloc (grefl w) (.cells #[.int .i64 0, .slice none 0 0, .slice none 0 0] 26)) e1
  have Z1 := Z0.kept e1 (by simp)
  have C0 : At ((w.alloc (.cells #[.int .i64 0, .slice none 0 0, .slice none 0 0] 26)).alloc (.cells #[.int .i64 0, .slice none 0 0, .slice none 0 0] 26)) (w.heap.size + 1) 0 (.int .i64 0) := by simp [At, go_sem]
  have C1 : At ((w.alloc (.cells #[.int .i64 0, .slice none 0 0, .slice none 0 0] 26)).alloc (.cells #[.int .i64 0, .slice none 0 0, .slice none 0 0] 26)) (w.heap.size + 1) 1 (.slice none 0 0) := by simp [At, go_sem]
  have C2 : At ((w.alloc (.cells #[.int .i64 0, .slice none 0 0, .slice none 0 0] 26)).alloc (.cells #[.int .i64 0, .slice none 0 0, .slice none 0 0] 26)) (w.heap.size + 1) 2 (.slice none 0 0) := by simp [At, go_sem]
  clear Z0 e1
  go_enter Tryz.func55, Tryz.ntmps55
  go_upto_region 2 with (fail)
  generalize (w.alloc (.cells #[.int .i64 0, .slice none 0 0, .slice none 0 0] 26)).alloc (.cells #[.int .i64 0, .slice none 0 0, .slice none 0 0] 26) = W at *
  have hpW : w.heap.size + 1 < W.heap.size := cell_lt C0.1
  generalize hpp : w.heap.size + 1 = pb at *
  have P0 : PBox W pb W.heap.size (fromK n 0) (.slice none 0 0) (.slice none 0 0) := ⟨C0, C1, C2, Own.nil _ _ _, Own.nil _ _ _, .inl rfl, by simp [Value.ownBlock], by simp [Value.ownBlock]⟩
  have hne : w.heap.size ≠ pb := by omega
  have HPb : Hid (w.heap.size ≤ pb) := by show _ ≤ _; omega
  clear C0 C1 C2 hpp
  have R1 := (Own.rd h).kept G1
  generalize hBW : W.heap.size = B at *
  have HB : Hid (W.heap.size = B) := hBW
  clear hBW h
  go_wp2_with fail
  go_loopw [8] (fun i wx => ∃ (k : Nat) (dv vv : Value), k ≤ n.length ∧ i = .int .i64 k ∧ PBox wx pb B (fromK n k) dv vv ∧ W.grownBy wx (some pb)) (fun i _ => n.length - (intOf i).toNat)
  case atStart => exact ⟨0, _, _, Nat.zero_le _, rfl, P0, World.grownBy.refl _ _⟩
  case round =>
    clear P0
    obtain ⟨k, dv, vv, hk, rfl, PB, GX⟩ := hrel
    obtain ⟨da, dn, dc, rfl⟩ := PB.ds.sl
    obtain ⟨va, vn, vc, rfl⟩ := PB.vs.sl
    have hwx : B ≤ wr.heap.size := by have := GX.size; rw [HB.out] at this; exact this
    have hfl := fromK_len n k
    by_cases hlt : k < n.length
    · have hki : (k : Int) < n.length := by omega
      obtain ⟨g, o, rfl, x0⟩ := Rd.at (Rd.only R1 (Only.of GX (S := fun j => j = pb) (fun j e => by cases e; rfl)) (fun j e x => by have := HOwn.out j e; have := HPb.out; omega)) k hlt
      by_cases h0 : k = 0
      · subst h0
        have HN := Lib.hid (fromK_one hlt)
        generalize n[0] = x at *
        have P1 := PB.row x
        have G1' : W.grownBy (wr.setCell ⟨pb, 0, none⟩ (.int .i64 x)) (some pb) := gset GX _ _
        rw [← HN.out] at P1
        obtain ⟨p0, pf0⟩ := PB.c0
        simp only [Nat.add_zero] at x0
        go_wp2_with fail
        go_roundw
        case rel => exact ⟨0 + 1, _, _, by omega, by go_num, P1, G1'⟩
        case measure => simp [intOf]; omega
      have h0b : ((k : Int) == 0) = false := by simp; omega
      obtain ⟨p1, pf1⟩ := PB.c1
      obtain ⟨p2, pf2⟩ := PB.c2
      have hpl := PB.lt
      by_cases ho : k % 2 = 1
      · have HN := Lib.hid (fromK_odd hlt ho)
        have hob : ((k : Int) % 2 == 1) = true := by simp; omega
        have hmod : Int.tmod (k : Int) 2 = 1 := by rw [Int.tmod_eq_emod_of_nonneg (by omega)]; omega
        generalize n[k] = x at *
        go_wp2_with (first | (at_builtin; refine wpList_append_o (E := intE) (base := B) rfl (.tmp 29) (.tmp 31) rfl rfl rfl (PB.ds.grew (galloc (grefl _) _)) (IS.single _ x (Nat.zero_le _)) (by simp only [List.length_cons, List.length_nil]; omega) (by decide) (by simp; omega) ?_; intro v1 wa ho1 hg1 ha1; obtain ⟨q1', r1⟩ := gkr hg1 PB.db (gk (galloc (grefl wr) _) PB.c1); have P1 := PBox.app1 (PB.kept (galloc (grefl wr) _)) hg1 ho1 ha1; have GX1 : W.grownBy (wa.setCell ⟨pb, 1, none⟩ v1) (some pb) := gset (gsubc (galloc GX _) hg1 (fun q e => by have := (PB.ds.lt q e).1; rw [HB.out]; omega)) _ _; obtain ⟨a1, n1, c1', rfl⟩ := ho1.sl))
        rw [← HN.out] at P1
        go_roundw
        case rel => exact ⟨k + 1, _, _, by omega, by go_num, P1, GX1⟩
        case measure => simp [intOf]; omega
      · have HN := Lib.hid (fromK_even hlt (by omega) (by omega))
        have hob : ((k : Int) % 2 == 1) = false := by simp; omega
        have hmod : Int.tmod (k : Int) 2 = 0 := by rw [Int.tmod_eq_emod_of_nonneg (by omega)]; omega
        generalize n[k] = x at *
        go_wp2_with (first | (at_builtin; refine wpList_append_o (E := intE) (base := B) rfl (.tmp 14) (.tmp 16) rfl rfl rfl (PB.vs.grew (galloc (grefl _) _)) (IS.single _ x (Nat.zero_le _)) (by simp only [List.length_cons, List.length_nil]; omega) (by decide) (by simp; omega) ?_; intro v1 wa ho1 hg1 ha1; obtain ⟨q1', r1⟩ := gkr hg1 PB.vb (gk (galloc (grefl wr) _) PB.c2); have P1 := PBox.app2 (PB.kept (galloc (grefl wr) _)) hg1 ho1 ha1; have GX1 : W.grownBy (wa.setCell ⟨pb, 2, none⟩ v1) (some pb) := gset (gsubc (galloc GX _) hg1 (fun q e => by have := (PB.vs.lt q e).1; rw [HB.out]; omega)) _ _; obtain ⟨a1, n1, c1', rfl⟩ := ho1.sl))
        rw [← HN.out] at P1
        go_roundw
        case rel => exact ⟨k + 1, _, _, by omega, by go_num, P1, GX1⟩
        case measure => simp [intOf]; omega
    · obtain rfl : k = n.length := by omega
      have HT := Lib.hid (fromK_all n)
      rw [HT.out] at PB
      generalize fromN n = P at *
      obtain ⟨row, D, V⟩ := P
      have GW : w.grownBy wr none := gsub G1 GX (fun q e => by cases e; exact HPb.out)
      obtain ⟨⟨z0, y0⟩, ⟨z1, y1⟩, ⟨z2, y2⟩⟩ := Z1.kept GX (by simp; omega)
      have lB : w.heap.size < B := by have := HPb.out; omega
      have hR := PB.res GW (r := w.heap.size) (by omega) (by omega) (i_not_own PB.ds lB) (i_not_own PB.vs lB) (.int .i64 row) (.slice da dn dc) (.slice va vn vc)
      obtain ⟨c0, f0⟩ := PB.c0
      obtain ⟨c1, f1⟩ := PB.c1
      obtain ⟨c2, f2⟩ := PB.c2
      dsimp only at c0
      clear PB GX
      go_wp2_with fail
      exact bodyPost_ret (v := .agg #[.int .i64 row, .slice da dn dc, .slice va vn vc]) (by simp [results, Tryz.results55, go_sem, z0, z1, z2]) rfl ⟨_, _, rfl, hR⟩
set_option maxRecDepth 8000 in
set_option maxHeartbeats 2000000 in
theorem implReadPatch_any (s : List UInt8) (w : World) (hs : s.length ≤ 1048576) (ht : Pow10 w) (hV : LibV w) :
    Calls Tryz.prog 30 #[.string (str s)] w (GotP (readPZ s) (readPok s) w) := by
  have HT := readP_test s
  have Hok := Lib.hid HT.1
  have Hp := Lib.hid HT.2
  have HNl : Hid ((numsP s).length ≤ 1100000) := by
    show _ ≤ _
    have := splitG_length 32 [] s
    unfold numsP
    split
    · simp [splitT]; omega
    · simp
  have HF : Hid ((fromN (numsP s)).ok = false → readPok s = false) := fun e => by rw [← HT.1, e]; rfl
  have HG : Hid ((fromN (numsP s)).ok = true → (fromN (numsP s)).text ≠ s → readPok s = false) := fun e e2 => by rw [← HT.1, e]; simp [e2]
  have HH : Hid ((fromN (numsP s)).ok = true → (fromN (numsP s)).text = s → readPok s = true ∧ readPZ s = fromN (numsP s)) := fun e e2 => by
    have h1 : readPok s = true := by rw [← HT.1, e]; simp [e2]
    exact ⟨h1, by rw [readPZ_yes h1, HT.2 h1]⟩
  clear HT Hok Hp
  have Z0 := Zero3.new w
  have G0 := galloc (grefl w) (.cells #[.int .i64 0, .slice none 0 0, .slice none 0 0] 26)
  go_enter Tryz.func30, Tryz.ntmps30
  go_upto_region 1 with (fail)
  generalize w.alloc (.cells #[.int .i64 0, .slice none 0 0, .slice none 0 0] 26) = W0 at *
  have hR0 := fun (w' : World) (g : W0.grownBy w' none) => ret_zero3 (r := w.heap.size) (gtrans G0 g) (Nat.le_refl _)
  have hw0 : w.heap.size < W0.heap.size := cell_lt Z0.c0.1
  go_wp2_with fail
  go_fit (numbersIn_any s _ hs (hV.kept G0))
  rintro e w1 ⟨nv, rfl, N1, g1⟩
  obtain ⟨na, nm, nc, rfl⟩ := Own.sl N1
  generalize numsP s = n at *
  go_wp2_with fail
  go_fit (patchFrom_any n _ _ _ N1 HNl.out)
  rintro e w2 ⟨dv, vv, rfl, s2, t2, ap2, g2⟩
  generalize fromN n = p at *
  have X2 := Box3.new w2 (.int .i64 p.row) dv vv 26
  have e2 := galloc (grefl w2) (.cells #[.int .i64 p.row, dv, vv] 26)
  have G2 := gtrans (gtrans g1 g2) e2
  have s3 := Own.grew s2 e2
  have t3 := Own.grew t2 e2
  obtain ⟨da, dn, dc, rfl⟩ := Own.sl s2
  obtain ⟨va, vn, vc, rfl⟩ := Own.sl t2
  have hw1 := g1.size
  clear s2 t2 g2 e2 N1
  go_upto_region 2 with (fail)
  generalize w2.alloc (.cells #[.int .i64 p.row, .slice da dn dc, .slice va vn vc] 26) = W2 at *
  generalize w2.heap.size = pb at *
  have HX := Lib.hid X2
  obtain ⟨x0, x1, x2⟩ := X2
  cases hok : p.ok
  · have HN := Lib.hid (HF.out hok)
    have HZ := Lib.hid (readPZ_no HN.out)
    go_wp2_with fail
    go_fit (implPatchOk_any p _ _ _ (Own.rd s3) (Own.rd t3))
    rintro e w4 ⟨rfl, g4⟩
    rw [hok]
    have G4 := gtrans G2 g4
    obtain ⟨⟨z0, y0⟩, ⟨z1, y1⟩, ⟨z2, y2⟩⟩ := Z0.kept G4 (by simp)
    go_wp2_with fail
    exact bodyPost_ret (v := .tuple #[.agg #[.int .i64 0, .slice none 0 0, .slice none 0 0], .bool false]) (by simp [results, Tryz.results30, go_sem, z0, z1, z2]) rfl (by rw [HN.out, HZ.out]; exact hR0 _ G4)
  have HSh := Lib.hid (showZ_yes hok)
  go_wp2_with fail
  go_fit (implPatchOk_any p _ _ _ (Own.rd s3) (Own.rd t3))
  rintro e w4 ⟨rfl, g4⟩
  rw [hok]
  have G4 := gtrans G2 g4
  have s4 := Own.grew s3 g4
  have t4 := Own.grew t3 g4
  clear x0 x1 x2 s3 t3 G2
  replace HX := Lib.hid (HX.out.kept g4)
  obtain ⟨x0, x1, x2⟩ := HX.out
  have hTb := ht.kept (gtrans G0 G4)
  by_cases he : p.text = s
  rotate_left
  · have HN := Lib.hid (HG.out hok he)
    have HZ := Lib.hid (readPZ_no HN.out)
    have hne : (showZ p == s) = false := by rw [HSh.out]; simpa using he
    go_wp2_with fail
    go_fit (implShowPatch_any p _ _ _ (Own.rd s4) (Own.rd t4) hTb)
    rintro e w5 ⟨rfl, g5⟩
    have G5 := gtrans G4 g5
    obtain ⟨⟨z0, y0⟩, ⟨z1, y1⟩, ⟨z2, y2⟩⟩ := Z0.kept G5 (by simp)
    clear HSh
    go_wp2_with fail
    exact bodyPost_ret (v := .tuple #[.agg #[.int .i64 0, .slice none 0 0, .slice none 0 0], .bool false]) (by simp [results, Tryz.results30, go_sem, z0, z1, z2]) rfl (by rw [HN.out, HZ.out]; exact hR0 _ G5)
  have HY := Lib.hid (HH.out hok he)
  have hne : (showZ p == s) = true := by rw [HSh.out, he]; simp
  go_wp2_with fail
  go_fit (implShowPatch_any p _ _ _ (Own.rd s4) (Own.rd t4) hTb)
  rintro e w5 ⟨rfl, g5⟩
  have G5 := gtrans G4 g5
  have s5 := Own.grew s4 g5
  have t5 := Own.grew t4 g5
  obtain ⟨row, D, V⟩ := p
  dsimp only at *
  clear x0 x1 x2 HSh he HF HG HH
  obtain ⟨x0, x1, x2⟩ := HX.out.kept g5
  have hs9 := (gtrans G0 g1).size
  have hdn : (Value.slice da dn dc).ownBlock ≠ some w.heap.size := i_not_own s5 (by omega)
  have hvn : (Value.slice va vn vc).ownBlock ≠ some w.heap.size := i_not_own t5 (by omega)
  have hR : GotP (readPZ s) (readPok s) w (.returned (.tuple #[.agg #[.int .i64 row, .slice da dn dc, .slice va vn vc], .bool true])) (set3 w5 w.heap.size (.int .i64 row) (.slice da dn dc) (.slice va vn vc)) := by
    rw [HY.out.1, HY.out.2]
    exact ⟨_, _, rfl, (Own.other (Own.other (Own.other s5 hdn _) hdn _) hdn _).lower hs9, (Own.other (Own.other (Own.other t5 hvn _) hvn _) hvn _).lower hs9, ap2, gset3 (gtrans G0 G5) (Nat.le_refl _) _ _ _⟩
  obtain ⟨⟨z0, y0⟩, ⟨z1, y1⟩, ⟨z2, y2⟩⟩ := Z0.kept G5 (by simp)
  clear s4 t4 s5 t5 HY
  go_wp2_with fail
  exact bodyPost_ret (v := .tuple #[.agg #[.int .i64 row, .slice da dn dc, .slice va vn vc], .bool true]) (by simp [results, Tryz.results30, go_sem, z0, z1, z2]) rfl hR
end Go.Proofs.YtnhefdmnpoaegaaGreatDoor
