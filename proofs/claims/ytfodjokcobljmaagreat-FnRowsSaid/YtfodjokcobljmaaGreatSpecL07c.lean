/- What the specification's ReadPatch returns. -/
import Derived.Test.YtfodjokcobljmaaGreatSpecL07b
import Derived.Test.YtfodjokcobljmaaGreatBaseL07
namespace Go.Proofs.YtfodjokcobljmaaGreat
open Go.ChangeShapes Go.WideShapes Go.ChangeAt Go.RowKit
attribute [local go_sem] str_list str_size str_add lit_list0 add_lit lit_add str_cut

def dsN (n : List Int) (j : Nat) : List Int := (List.range j).map fun t => n.getD (1 + 2 * t) 0
def vsN (n : List Int) (j : Nat) : List Int := (List.range j).map fun t => n.getD (2 + 2 * t) 0
theorem dsN_next (n : List Int) (j : Nat) : dsN n (j + 1) = dsN n j ++ [n.getD (1 + 2 * j) 0] := by simp [dsN, List.range_succ]
theorem vsN_next (n : List Int) (j : Nat) : vsN n (j + 1) = vsN n j ++ [n.getD (2 + 2 * j) 0] := by simp [vsN, List.range_succ]
/-- the numbers of a text -/
def numsT (s : List UInt8) : List Int := (splitT 32 s).map readZ
def PZ.ofN (n : List Int) : PZ := ⟨n.getD 0 0, dsN n (n.length / 2), vsN n (n.length / 2)⟩
def readP (s : List UInt8) : PZ := PZ.ofN (numsT s)
def readPok (s : List UInt8) : Bool := (splitT 32 s).all readOk && ((numsT s).length % 2 == 1 && (readP s).ok)
theorem splitG_pos (b : UInt8) (cur s : List UInt8) : 0 < (splitG b cur s).length := by
  induction s generalizing cur with
  | nil => simp [splitG]
  | cons x r ih => unfold splitG; split; simp; exact ih _
/-- what is read: the patch, or none -/
def readPZ (s : List UInt8) : PZ := if readPok s then readP s else .zero
theorem readPZ_no {s : List UInt8} (h : readPok s = false) : readPZ s = .zero := by simp [readPZ, h]
theorem readPZ_yes {s : List UInt8} (h : readPok s = true) : readPZ s = readP s := by simp [readPZ, h]
theorem splitG_mem (b : UInt8) (cur s : List UInt8) : ∀ x ∈ splitG b cur s, x.length ≤ cur.length + s.length := by
  induction s generalizing cur with
  | nil => intro x hx; simp [splitG] at hx; subst hx; simp
  | cons y r ih =>
    intro x hx
    unfold splitG at hx
    split at hx
    · rcases List.mem_cons.1 hx with rfl | hx
      · simp
      · have := ih [] x hx; simp at this ⊢; omega
    · have := ih (cur ++ [y]) x hx; simp at this ⊢; omega
theorem readP_bad {s : List UInt8} {k : Nat} (hk : k < (splitT 32 s).length) (h : readOk (splitT 32 s)[k] = false) : readPok s = false := by
  have : (splitT 32 s).all readOk = false := by rw [List.all_eq_false]; exact ⟨_, List.getElem_mem hk, by simp [h]⟩
  simp [readPok, this]
theorem l1Split32_any (s : List UInt8) (w : World) (hs : s.length ≤ 1100000) :
    Calls Tryz.prog 108 #[.string (str s), .int .u8 32] w (GotT (splitT 32 s) w) := l1Split_any s 32 w hs
set_option maxRecDepth 8000 in
set_option maxHeartbeats 4000000 in
theorem specReadPatch_big (s : List UInt8) (w : World) (hs : s.length ≤ 1048576) :
    Calls Tryz.prog 103 #[.string (str s)] w (GotP (readPZ s) (readPok s) w) := by
  have Z0 := Zero3.new w
  have G0 := galloc (grefl w) (.cells #[.int .i64 0, .slice none 0 0, .slice none 0 0] 94)
  have HLn : Hid ((splitT 32 s).length ≤ 1048577) := by show _ ≤ _; have := splitG_length 32 [] s; unfold splitT; omega
  have HPos : Hid (0 < (splitT 32 s).length) := splitG_pos 32 [] s
  have HPl : Hid (∀ x ∈ splitT 32 s, x.length ≤ 1048576) := fun x hx => by have := splitG_mem 32 [] s x hx; simp at this; omega
  go_enter Tryz.func103, Tryz.ntmps103
  go_wp2_with fail
  go_fit (l1Split32_any s _ (by omega))
  rintro e w1 ⟨sv, rfl, T1, g1⟩
  obtain ⟨sa, sc, rfl, -⟩ := Own.form T1
  have Z1 := Z0.kept g1 (by simp)
  have G1 := gtrans G0 g1
  have hrb : w.heap.size < w1.heap.size := cell_lt Z1.c0.1
  clear Z0 G0 g1
  generalize hL : splitT 32 s = L at *
  have C0 := IS.empty w1 (Nat.le_refl w1.heap.size)
  have g2 := galloc (grefl w1) (.cells #[] 2)
  have HSp := Lib.hid hL
  clear hL
  go_wp2_with fail
  go_loopw [5, 6] (fun out i wr => ∃ k : Nat, k ≤ L.length ∧ i = .int .i64 k ∧ IS wr w1.heap.size out ((L.take k).map readZ) ∧ w1.grownBy wr none ∧ Hid ((L.take k).all readOk = true)) (fun _ i _ => L.length - (intOf i).toNat)
  case atStart => exact ⟨0, Nat.zero_le _, rfl, C0, g2, rfl⟩
  case round =>
    clear C0 g2
    obtain ⟨k, hk, rfl, C, G, HA⟩ := hrel
    obtain ⟨na, nn, nc, rfl⟩ := C.sl
    have hll := HLn.out
    by_cases hlt : k < L.length
    · have hki : (k : Int) < L.length := by omega
      obtain ⟨g, o, rfl, x0⟩ := TR.at (T1.rd.kept G) k hlt
      have hpl := HPl.out L[k] (List.getElem_mem hlt)
      have hsz := G.size
      cases hok : readOk L[k]
      · have HF : Hid (readPok s = false) := by
          have e := HSp.out
          subst e
          exact readP_bad hlt hok
        have HZ := Lib.hid (readPZ_no HF.out)
        obtain ⟨⟨z0, y0⟩, ⟨z1, y1⟩, ⟨z2, y2⟩⟩ := Z1.kept G (by simp)
        have hR := ret_zero3 (r := w.heap.size) (gtrans G1 G) (Nat.le_refl _)
        go_wp2_with fail
        go_fit (l1Read_any L[k] _ (by omega))
        rintro e w' ⟨rfl, rfl⟩
        rw [hok]
        go_wp2_with fail
        exact bodyPost_ret (v := .tuple #[.agg #[.int .i64 0, .slice none 0 0, .slice none 0 0], .bool false]) (by simp [results, Tryz.results103, go_sem, z0, z1, z2]) rfl (by rw [HZ.out, HF.out]; exact hR)
      · have HN : Hid (((L.take (k + 1)).map readZ = (L.take k).map readZ ++ [readZ L[k]]) ∧ (L.take (k + 1)).all readOk = true) := by
          rw [List.take_succ_eq_append_getElem hlt, List.map_append, List.all_append, HA.out]
          exact ⟨rfl, by simp [hok]⟩
        clear HA
        go_wp2_with fail
        go_fit (l1Read_any L[k] _ (by omega))
        rintro e w' ⟨rfl, rfl⟩
        rw [hok]
        go_wp2_with (first | (at_builtin; refine wpList_append_o (E := intE) (base := w1.heap.size) rfl (.tmp 31) (.tmp 33) rfl rfl rfl (C.grew (galloc (grefl _) _)) (IS.single _ (readZ L[k]) (Nat.zero_le _)) (by simp; omega) (by decide) (by simp; omega) ?_; intro v' w6 o6 g6 b6; have G6 := gnew (galloc G _) g6 (fun j e => (C.lt j e).1); rw [← HN.out.1] at o6; clear g6 b6))
        go_roundw
        case rel => exact ⟨k + 1, by omega, by go_num, o6, G6, HN.out.2⟩
        case measure => simp [intOf]; omega
    · obtain rfl : k = L.length := by omega
      rw [List.take_length] at C HA
      have hpos := HPos.out
      obtain ⟨na', nc', hv, -⟩ := Own.form C
      cases hv
      have HNl : Hid (L.map readZ = numsT s) := by show _ = _; rw [numsT, HSp.out]
      have HNa : Hid ((splitT 32 s).all readOk = true) := by show _ = _; rw [HSp.out]; exact HA.out
      have hn1 : (L.map readZ).length ≤ 1048577 := by simp; exact hll
      have hn0 : 0 < (L.map readZ).length := by simp; exact hpos
      clear HA HPl
      generalize L.map readZ = N at *
      have hn0i : (0 : Int) < N.length := by omega
      obtain ⟨g, hg, hg1, hg2, ⟨x0, f0⟩⟩ := IS.at C 0 hn0
      cases hg
      have Z2 := Z1.kept G (by simp)
      have hsz := G.size
      have e0 := galloc (grefl wr) (.cells #[.int .i64 N[0], .slice none 0 0, .slice none 0 0] 94)
      by_cases hev : N.length % 2 = 0
      · have HF : Hid (readPok s = false) := by
          show _ = _
          rw [readPok, ← HNl.out, hev]; simp
        have HZ := Lib.hid (readPZ_no HF.out)
        have hev' : ((N.length : Int) % 2 == 0) = true := by rw [beq_iff_eq]; omega
        have Z3 := Z2.kept e0 (by simp)
        have hR := ret_zero3 (r := w.heap.size) (gtrans (gtrans G1 G) e0) (Nat.le_refl _)
        clear hev Z1 Z2
        go_upto_region 11 with (fail)
        generalize wr.alloc (.cells #[.int .i64 N[0], .slice none 0 0, .slice none 0 0] 94) = W at *
        obtain ⟨⟨z0, y0⟩, ⟨z1, y1⟩, ⟨z2, y2⟩⟩ := Z3
        go_wp2_with fail
        exact bodyPost_ret (v := .tuple #[.agg #[.int .i64 0, .slice none 0 0, .slice none 0 0], .bool false]) (by simp [results, Tryz.results103, go_sem, z0, z1, z2]) rfl (by rw [HZ.out, HF.out]; exact hR)
      have HOd : Hid (N.length % 2 = 1) := by show _ = _; omega
      have hev' : ((N.length : Int) % 2 == 0) = false := by rw [beq_eq_false_iff_ne]; omega
      have hsW : (wr.alloc (.cells #[.int .i64 N[0], .slice none 0 0, .slice none 0 0] 94)).heap.size = wr.heap.size + 1 := by simp
      have P0 : PBox (wr.alloc (.cells #[.int .i64 N[0], .slice none 0 0, .slice none 0 0] 94)) wr.heap.size (wr.heap.size + 1) ⟨N[0], dsN N 0, vsN N 0⟩ (.slice none 0 0) (.slice none 0 0) :=
        ⟨by simp [At, go_sem], by simp [At, go_sem], by simp [At, go_sem], Own.nil _ _ _, Own.nil _ _ _, .inl rfl, by simp [Value.ownBlock], by simp [Value.ownBlock]⟩
      have Z3 := Z2.kept e0 (by simp)
      have C3 := C.grew e0
      have G3 := gtrans (gtrans G1 G) e0
      have hpb : w.heap.size < wr.heap.size := by omega
      have hgl : g < wr.heap.size := hg2
      clear hev Z1 Z2
      go_upto_region 11 with (fail)
      generalize wr.alloc (.cells #[.int .i64 N[0], .slice none 0 0, .slice none 0 0] 94) = W at *
      generalize hpbe : wr.heap.size = pb at *
      clear x0 f0 e0 C G1
      go_wp2_with fail
      go_loopw [10] (fun i wx => ∃ (k j : Nat) (dv vv : Value), k ≤ N.length ∧ i = .int .i64 k ∧ Hid (k = 2 * j + 1) ∧ PBox wx pb (pb + 1) ⟨N[0], dsN N j, vsN N j⟩ dv vv ∧ W.grownBy wx (some pb)) (fun i _ => N.length + 2 - (intOf i).toNat)
      case atStart => exact ⟨1, 0, _, _, by omega, rfl, rfl, P0, World.grownBy.refl _ _⟩
      case round =>
        clear P0
        obtain ⟨k, j, dv, vv, hk, rfl, HK, PB, GX⟩ := hrel
        obtain ⟨da, dn, dc, rfl⟩ := PB.ds.sl
        obtain ⟨va, vn, vc, rfl⟩ := PB.vs.sl
        have C4 := C3.kept GX (.inr (by simp [Value.ownBlock]; omega))
        have hwx : pb + 1 ≤ wr.heap.size := by have := GX.size; omega
        have hpl := PB.lt
        by_cases hlt : k < N.length
        · have hlt1 : k + 1 < N.length := by have := HK.out; have := HOd.out; omega
          have hki : (k : Int) < N.length := by omega
          have hki1 : (k : Int) + 1 < N.length := by omega
          have hj1 : j ≤ 1048577 := by have := HK.out; omega
          obtain ⟨g', e', -, -, ⟨x1, f1⟩⟩ := IS.at C4 k hlt
          cases e'
          obtain ⟨g', e', -, -, ⟨y1, h1⟩⟩ := IS.at C4 (k + 1) hlt1
          cases e'
          obtain ⟨p1, pf1⟩ := PB.c1
          have HD : Hid (dsN N (j + 1) = dsN N j ++ [N[k]]) := by
            show _ = _
            rw [dsN_next, show 1 + 2 * j = k by have := HK.out; omega]; simp [List.getD_eq_getElem?_getD, hlt]
          have HV : Hid (vsN N (j + 1) = vsN N j ++ [N[k + 1]]) := by
            show _ = _
            rw [vsN_next, show 2 + 2 * j = k + 1 by have := HK.out; omega]; simp [List.getD_eq_getElem?_getD, hlt1]
          go_wp2_with fail
          go_region_law (first | (refine step_append_o (E := intE) (base := pb + 1) rfl (.tmp 51) (.tmp 56) rfl rfl rfl (PB.ds.grew (galloc (gdrew (grefl _) 1) _)) (IS.single _ N[k] (Nat.zero_le _)) (by simp [dsN]; omega) (by decide) (by simp; omega) ?_; intro v1 wa ho1 hg1' ha1; obtain ⟨q1, r1⟩ := gkr hg1' PB.db (gk (galloc (gdrew (grefl wr) 1) _) PB.c1); have P1 := PBox.app1 (PB.kept (galloc (gdrew (grefl wr) 1) _)) hg1' ho1 ha1; obtain ⟨a1, n1, c1', rfl⟩ := ho1.sl))
          all_goals (
            dsimp only at P1
            rw [← HD.out] at P1
            have GX1 : W.grownBy (wa.setCell ⟨pb, 1, none⟩ (.slice a1 n1 c1')) (some pb) := gset (gsubc (galloc (gdrew GX 1) _) hg1' (fun q e => by have := (PB.ds.lt q e).1; omega)) _ _
            generalize wa.setCell ⟨pb, 1, none⟩ (.slice a1 n1 c1') = W1 at *
            have C5 := C3.kept GX1 (.inr (by simp [Value.ownBlock]; omega))
            have hw1 : pb + 1 ≤ W1.heap.size := by have := GX1.size; omega
            obtain ⟨g', e', -, -, ⟨y2, h2⟩⟩ := IS.at C5 (k + 1) hlt1
            cases e'
            obtain ⟨p2, pf2⟩ := P1.c2
            clear PB GX C4 x1 f1 y1 h1 p1 pf1 hg1' ho1 ha1 q1 r1 hpl
            have hpl1 := P1.lt
            have hwr : IntKind.i64.wrap ((k : Int) + 1) = (k : Int) + 1 := IntWalk.i64_in _ (by omega)
            have hnn : (0 : Int) ≤ (k : Int) + 1 := by omega
            have htn : ((k : Int) + 1).toNat = k + 1 := by omega
            go_wp2_with fail
            go_region_law (first | (refine step_append_o (E := intE) (base := pb + 1) rfl (.tmp 60) (.tmp 66) rfl rfl rfl (P1.vs.grew (galloc (gdrew (grefl _) 1) _)) (IS.single _ N[k + 1] (Nat.zero_le _)) (by simp [vsN]; omega) (by decide) (by simp; omega) ?_; intro v2 wb ho2 hg2' ha2; obtain ⟨q2, r2⟩ := gkr hg2' P1.vb (gk (galloc (gdrew (grefl _) 1) _) P1.c2); have P2 := PBox.app2 (P1.kept (galloc (gdrew (grefl _) 1) _)) hg2' ho2 ha2; obtain ⟨a2, n2, c2', rfl⟩ := ho2.sl))
            all_goals (
              dsimp only at P2
              rw [← HV.out] at P2
              have GX2 : W.grownBy (wb.setCell ⟨pb, 2, none⟩ (.slice a2 n2 c2')) (some pb) := gset (gsubc (galloc (gdrew GX1 1) _) hg2' (fun q e => by have := (P1.vs.lt q e).1; omega)) _ _
              generalize wb.setCell ⟨pb, 2, none⟩ (.slice a2 n2 c2') = W2 at *
              clear P1 GX1 C5 y2 h2 p2 pf2 hg2' ho2 ha2 q2 r2
              go_wp2_with fail
              go_roundw
              case rel => exact ⟨k + 2, j + 1, _, _, by omega, by go_num, by show _ = _; have := HK.out; omega, P2, GX2⟩
              case measure => simp [intOf]; omega))
        · obtain rfl : k = N.length := by omega
          have HJ : Hid (N.length / 2 = j) := by show _ = _; have := HK.out; omega
          have HP : Hid (readP s = ⟨N[0], dsN N j, vsN N j⟩) := by
            show _ = _
            rw [readP, ← HNl.out, PZ.ofN, HJ.out]; simp [List.getD_eq_getElem?_getD, hn0]
          have HO : Hid (readPok s = (PZ.mk N[0] (dsN N j) (vsN N j)).ok) := by
            show _ = _
            rw [readPok, HNa.out, ← HNl.out, HOd.out, HP.out]; rfl
          have Z4 := Z3.kept GX (by intro e; cases e; omega)
          have GG : w.grownBy wr none := gsub G3 GX (fun q e => by cases e; omega)
          clear Z3 C3 C4
          obtain ⟨p0, pf0⟩ := PB.c0
          obtain ⟨p1, pf1⟩ := PB.c1
          obtain ⟨p2, pf2⟩ := PB.c2
          cases hok : (PZ.mk N[0] (dsN N j) (vsN N j)).ok
          · have HF : Hid (readPok s = false) := HO.out.trans hok
            have HZ := Lib.hid (readPZ_no HF.out)
            go_wp2_with fail
            go_fit (specPatchOk_any ⟨N[0], dsN N j, vsN N j⟩ _ _ _ PB.ds.rd PB.vs.rd)
            rintro e w5 ⟨rfl, g5⟩
            rw [hok]
            obtain ⟨⟨z0, y0⟩, ⟨z1, y1⟩, ⟨z2, y2⟩⟩ := Z4.kept g5 (by simp)
            have hR := ret_zero3 (r := w.heap.size) (gtrans GG g5) (Nat.le_refl _)
            go_wp2_with fail
            exact bodyPost_ret (v := .tuple #[.agg #[.int .i64 0, .slice none 0 0, .slice none 0 0], .bool false]) (by simp [results, Tryz.results103, go_sem, z0, z1, z2]) rfl (by rw [HZ.out, HF.out]; exact hR)
          · have HF : Hid (readPok s = true) := HO.out.trans hok
            have HZ := Lib.hid ((readPZ_yes HF.out).trans HP.out)
            go_wp2_with fail
            go_fit (specPatchOk_any ⟨N[0], dsN N j, vsN N j⟩ _ _ _ PB.ds.rd PB.vs.rd)
            rintro e w5 ⟨rfl, g5⟩
            rw [hok]
            obtain ⟨⟨z0, y0⟩, ⟨z1, y1⟩, ⟨z2, y2⟩⟩ := Z4.kept g5 (by simp)
            have P5 := PB.kept g5
            have p0' := gkc g5 p0
            have p1' := gkc g5 p1
            have p2' := gkc g5 p2
            have hdn : (Value.slice da dn dc).ownBlock ≠ some w.heap.size := fun e => by have := (P5.ds.lt _ e).1; omega
            have hvn : (Value.slice va vn vc).ownBlock ≠ some w.heap.size := fun e => by have := (P5.vs.lt _ e).1; omega
            go_wp2_with fail
            exact bodyPost_ret (v := .tuple #[.agg #[.int .i64 N[0], .slice da dn dc, .slice va vn vc], .bool true]) (by simp [results, Tryz.results103, go_sem, z0, z1, z2]) rfl (by
              rw [HZ.out, HF.out]
              exact ⟨_, _, rfl, (Own.other (Own.other (Own.other P5.ds hdn _) hdn _) hdn _).lower (by omega), (Own.other (Own.other (Own.other P5.vs hvn _) hvn _) hvn _).lower (by omega), P5.ap, gset3 (gtrans GG g5) (Nat.le_refl _) _ _ _⟩)
theorem specReadPatch_any (s : List UInt8) (w : World) (hs : s.length ≤ 1000) :
    Calls Tryz.prog 103 #[.string (str s)] w (GotP (readPZ s) (readPok s) w) := specReadPatch_big s w (by omega)
end Go.Proofs.YtfodjokcobljmaaGreat
