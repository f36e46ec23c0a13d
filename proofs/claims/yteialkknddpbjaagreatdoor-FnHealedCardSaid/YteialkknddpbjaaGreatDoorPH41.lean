/- What Replaced returns. -/
import Derived.Deep.RegionHeld3
import Derived.Test.YteialkknddpbjaaGreatDoorPH30
import Derived.Test.YteialkknddpbjaaGreatDoorPH31
import Derived.Test.YteialkknddpbjaaGreatDoorPH36
import Derived.Test.YteialkknddpbjaaGreatDoorPH37
import Derived.Test.YteialkknddpbjaaGreatDoorPH39
import Derived.Test.YteialkknddpbjaaGreatDoorPH01
import Derived.Test.YteialkknddpbjaaGreatDoorPH07
namespace Go.Proofs.YteialkknddpbjaaGreatDoor
open Go.ChangeShapes Go.WideShapes Go.ChangeAt Go.RowKit
attribute [local go_sem] str_list str_size str_add lit_list0 add_lit lit_add str_cut

theorem Five.out {w : World} {b c o : Nat} {x0 x1 x2 x3 x4 : Value} (h : Five w b x0 x1 x2 x3 x4) (hc : c ≠ b) (u : Value) : Five (w.setCell ⟨c, o, none⟩ u) b x0 x1 x2 x3 x4 :=
  ⟨h.c0.other (by intro e; cases e; exact hc rfl) u, h.c1.other (by intro e; cases e; exact hc rfl) u, h.c2.other (by intro e; cases e; exact hc rfl) u, h.c3.other (by intro e; cases e; exact hc rfl) u, h.c4.other (by intro e; cases e; exact hc rfl) u⟩
abbrev StkS (w w' : World) (ab : Nat) (x : Value) (f1 : Value) (g o : Nat) (y0 y1 y2 y3 : Value) : Prop := (w'.cell? ⟨ab, 0, none⟩ = some x ∧ w'.cell? ⟨ab + 1, 0, none⟩ = some f1 ∧ w'.cell? ⟨g, o, none⟩ = some y0 ∧ w'.cell? ⟨g, o + 1, none⟩ = some y1 ∧ w'.cell? ⟨g, o + 2, none⟩ = some y2 ∧ w'.cell? ⟨g, o + 3, none⟩ = some y3) ∧ w.grownBy w' none
theorem StkS.kept {w w' w2 : World} {ab g o : Nat} {x f1 y0 y1 y2 y3 : Value} (h : StkS w w' ab x f1 g o y0 y1 y2 y3) (k : w'.grownBy w2 none) : StkS w w2 ab x f1 g o y0 y1 y2 y3 := ⟨⟨gkc k h.1.1, gkc k h.1.2.1, gkc k h.1.2.2.1, gkc k h.1.2.2.2.1, gkc k h.1.2.2.2.2.1, gkc k h.1.2.2.2.2.2⟩, gtrans h.2 k⟩
/-- an array in a variable of its own, and the result that waits -/
structure Put5 (w W : World) (fb r B : Nat) (v : Value) (a : AZ) (raw : List DV) : Prop where
  F : Five W fb v (.string (str a.log)) (.string (str a.next)) (.int .i64 a.stage) (.bool a.up)
  Z : Zero5 W r
  O : OD W B v a.ds raw
  G : w.grownBy W none
  vf : v.ownBlock ≠ some fb
  rB : r < B
  wr : w.heap.size ≤ r
theorem Put5.kept {w W W' : World} {fb r B : Nat} {v : Value} {a : AZ} {raw : List DV} (h : Put5 w W fb r B v a raw) (g : W.grownBy W' none) : Put5 w W' fb r B v a raw :=
  ⟨h.F.kept g, h.Z.kept g (by simp), h.O.grew g, gtrans h.G g, h.vf, h.rB, h.wr⟩
theorem Put5.put {w W W8 : World} {fb r B g n cap : Nat} {a : AZ} {raw : List DV} (h : Put5 w W fb r B (.slice (some ⟨g, 0, none⟩) n cap) a raw) (i : Nat) (hi : i < raw.length) (x : DV) (D : DZ) (g8 : W.grownBy W8 none) (hd : x.Is W8 B D) (hs : Apart x.kv x.nv) (hnew : ∀ k, x.has k → W.heap.size ≤ k) :
    Put5 w (set4At W8 g (i * 4) (.int .i64 x.n) (.bool x.dead) x.kv x.nv) fb r B (.slice (some ⟨g, 0, none⟩) n cap) { a with ds := a.ds.set i D } (raw.set i x) := by
  have hg : g ≠ fb := fun e => h.vf (by rw [e]; rfl)
  have hgr : g ≠ r := fun e => by have := (h.O.own.lt g rfl).1; have := h.rB; omega
  have hgB := (h.O.own.lt g rfl).1
  have F8 := h.F.kept g8
  have Z8 := h.Z.kept g8 (by simp)
  have hgw : w.heap.size ≤ g := by have := h.wr; have := h.rB; omega
  refine ⟨?_, ?_, h.O.replaced i hi x D g8 hd hs hnew, gsub (gtrans h.G g8) (gset4At (World.grownBy.refl W8 (some g)) _ _ _ _) (fun k e => by cases e; exact hgw), h.vf, h.rB, h.wr⟩
  · unfold set4At; exact (((F8.out hg _).out hg _).out hg _).out hg _
  · unfold set4At; exact (((Z8.far hgr _).far hgr _).far hgr _).far hgr _
set_option maxRecDepth 8000 in
set_option maxHeartbeats 4000000 in
theorem blankDisk_any (n rows : Nat) (w : World) (hn : n ≤ 4) (hr : rows ≤ 16) :
    Calls Tryz.prog 74 #[.int .i64 n, .int .i64 rows] w (GotD ⟨n, false, bentL (newL n rows), bentL (newL n rows)⟩ w) := by
  have hlen : (bentL (newL (n : Int) rows)).length = rows := by simp [bentL, newL_length]
  have HAt : Hid (∀ k, k < rows → (bentL (newL (n : Int) rows)).take (k + 1) = (bentL (newL (n : Int) rows)).take k ++ [(0, (sumZ n k 0 + 2) % 65521)]) := fun k hk => by
    rw [List.take_succ_eq_append_getElem (by rw [hlen]; exact hk)]
    congr 2
    have e := bent_at (n := (n : Int)) hk
    rw [List.getElem?_eq_getElem (by rw [hlen]; exact hk)] at e
    have e2 := Option.some.inj e
    have hs0 : ¬ sumZ (n : Int) k 0 < 0 := by rw [sumZ_yes (inB_yes (by omega) (by omega)) (inB_yes (by omega) (by omega)) rfl]; omega
    rw [e2, show cofV (n : Int) k 0 = 0 by unfold cofV; split <;> rfl, show cofS (n : Int) k 0 = sumZ (n : Int) k 0 by unfold cofS; rw [if_neg hs0]]
  have HSb : Hid (∀ k : Nat, k < rows → 0 ≤ sumZ n k 0 ∧ sumZ n k 0 ≤ 65520) := fun k hk => by
    rw [sumZ_yes (inB_yes (by omega) (by omega)) (inB_yes (by omega) (by omega)) rfl]; omega
  have HLen := Lib.hid hlen
  generalize bentL (newL (n : Int) rows) = Bl at *
  clear hlen
  have e0 := galloc (grefl w) (.cells #[.int .i64 0, .bool false, .slice none 0 0, .slice none 0 0] 37)
  have R0 : Zero4 (w.alloc (.cells #[.int .i64 0, .bool false, .slice none 0 0, .slice none 0 0] 37)) w.heap.size := ⟨by simp [At, go_sem], by simp [At, go_sem], by simp [At, go_sem], by simp [At, go_sem]⟩
  go_enter Tryz.func74, Tryz.ntmps74
  go_upto_region 2 with (fail)
  have hs0 : w.heap.size < (w.alloc (.cells #[.int .i64 0, .bool false, .slice none 0 0, .slice none 0 0] 37)).heap.size := by simp
  generalize w.alloc (.cells #[.int .i64 0, .bool false, .slice none 0 0, .slice none 0 0] 37) = W0 at *
  go_wp2_with fail
  go_loopw [5, 9] (fun out i wr => ∃ k : Nat, k ≤ rows ∧ i = .int .i64 k ∧ CS wr W0.heap.size out (Bl.take k) ∧ W0.grownBy wr none) (fun _ i _ => rows - (intOf i).toNat)
  case atStart => exact ⟨0, Nat.zero_le _, rfl, Own.nil _ _ _, grefl _⟩
  case round =>
    obtain ⟨k, hk, rfl, C, G⟩ := hrel
    obtain ⟨oa, om, oc, rfl⟩ := C.sl
    have hgs := G.size
    by_cases hlt : k < rows
    · have hki : (k : Int) < rows := by omega
      have HT := Lib.hid (HAt.out k hlt)
      have hsb := HSb.out k hlt
      go_wp2_with fail
      go_fit (implSumOf_any n k 0 _)
      rintro e w2 ⟨rfl, rfl⟩
      generalize sumZ (n : Int) k 0 = sx at *
      go_wp2_with (first | (at_builtin; refine wpList_append_o (E := cellE) (base := W0.heap.size) rfl (.tmp 16) (.tmp 20) rfl rfl rfl (Own.grew C (galloc (grefl _) _)) (CS.single _ 0 ((sx + 2) % 65521) (Nat.zero_le _)) (by simp; omega) (by decide) (by simp; omega) ?_; intro v' w6 o6 g6 b6; have G6 := gnew (galloc G _) g6 (fun j e => (Own.lt C j e).1); rw [← HT.out] at o6; clear g6 b6))
      go_roundw
      case rel => exact ⟨k + 1, by omega, by go_num, o6, G6⟩
      case measure => simp [intOf]; omega
    · obtain rfl : k = rows := by omega
      have hki : ¬ (k : Int) < k := by omega
      have HTk : Bl.take k = Bl := List.take_of_length_le (by rw [HLen.out]; omega)
      rw [HTk] at C
      obtain ⟨rfl, -⟩ := CS.bound C
      have hbl : Bl.length ≤ 1000 := by rw [HLen.out]; omega
      have C0 := C.lower (Nat.zero_le _)
      have R1 := R0.kept G (by simp)
      clear HTk HLen HAt HSb
      go_wp2_with fail
      go_fit (diskWith_any n false _ _ _ _ _ _ Bl Bl _ C0 C0 hbl hbl)
      rintro e w4 ⟨kv, nv, rfl, I, ap, g4⟩
      obtain ⟨ka, km, kc, rfl⟩ := I.1.sl
      obtain ⟨na, nm, nc, rfl⟩ := I.2.sl
      obtain ⟨⟨z0, y0⟩, ⟨z1, y1⟩, ⟨z2, y2⟩, ⟨z3, y3⟩⟩ := R1.kept g4 (by simp)
      have G4 := gtrans (gtrans e0 G) g4
      have hR : NewD w (set4 w4 w.heap.size (.int .i64 n) (.bool false) (.slice ka km kc) (.slice na nm nc)) (.slice ka km kc) (.slice na nm nc) ⟨n, false, Bl, Bl⟩ :=
        ⟨⟨(I.1.lower (by omega)).set4 (not_own I.1 (by omega)) _ _ _ _, (I.2.lower (by omega)).set4 (not_own I.2 (by omega)) _ _ _ _⟩, ap, gset4 G4 (Nat.le_refl _) _ _ _ _⟩
      go_wp2_with fail
      exact bodyPost_ret (v := .agg #[.int .i64 n, .bool false, .slice ka km kc, .slice na nm nc]) (by simp [results, Tryz.results74, go_sem, z0, z1, z2, z3]) rfl ⟨_, _, rfl, hR⟩
set_option maxRecDepth 8000 in
set_option maxHeartbeats 4000000 in
theorem implReplaced_any (v : Value) (a : AZ) (d : Int) (w : World) (h : LD w v a.ds) (ht : Pow10 w) (hV : LibV w) :
    Calls Tryz.prog 16 #[a.val v, .int .i64 d] w (GotAB (replZ a d) (replOk a d) w) := by
  obtain ⟨xa, cap, rfl, hm⟩ := h.form
  obtain ⟨B0, Z0, G0, s0⟩ := two_new w (.slice xa a.ds.length cap) (.string (str a.log)) (.string (str a.next)) (.int .i64 a.stage) (.bool a.up) 26
  go_enter Tryz.func16, Tryz.ntmps16
  go_upto_region 1 with (fail)
  generalize (w.alloc (.cells #[.slice xa a.ds.length cap, .string (str a.log), .string (str a.next), .int .i64 a.stage, .bool a.up] 26)).alloc zero5 = W0 at *
  have HB0 := Lib.hid B0
  obtain ⟨p0, p1, p2, p3, p4⟩ := B0
  cases hok : a.ok
  · have HE : Hid (replZ a d = .zero ∧ replOk a d = false) := by constructor <;> simp [replZ, replOk, hok]
    go_wp2_with fail
    go_fit (implArrayOk_any _ a _ (h.kept G0) (ht.kept G0) (hV.kept G0))
    rintro e w1 ⟨rfl, g1⟩
    rw [hok]
    obtain ⟨⟨z0, y0⟩, ⟨z1, y1⟩, ⟨z2, y2⟩, ⟨z3, y3⟩, ⟨z4, y4⟩⟩ := Z0.kept g1 (by simp)
    have hs1 := g1.size
    have hR := res5l (OD.nil w1 w1.heap.size) (r := w.heap.size + 1) (by omega) (by omega) (gtrans G0 g1) (.slice none 0 0) (.string ⟨#[]⟩) (.string ⟨#[]⟩) (.int .i64 0) (.bool false)
    go_wp2_with fail
    exact bodyPost_ret (v := .tuple #[.agg #[.slice none 0 0, .string ⟨#[]⟩, .string ⟨#[]⟩, .int .i64 0, .bool false], .bool false]) (by simp [results, Tryz.results16, go_sem, z0, z1, z2, z3, z4]) rfl ⟨_, [], by rw [HE.out.1, HE.out.2]; rfl, by rw [HE.out.1]; exact hR.1, hR.2⟩
  have HE : Hid (replZ a d = a.replacedZ d ∧ replOk a d = repOk a d) := by constructor <;> simp [replZ, replOk, hok]
  have HA : Hid (a.ok = true) := hok
  obtain ⟨hl5, hd16⟩ := ds_small (AZ.ok_ds hok)
  have hll := AZ.ok_len hok
  have HDk : Hid (disksOkZ a.ds = true) := AZ.ok_ds hok
  go_wp2_with fail
  go_fit (implArrayOk_any _ a _ (h.kept G0) (ht.kept G0) (hV.kept G0))
  rintro e w1 ⟨rfl, g1⟩
  rw [hok]
  have G1 := gtrans G0 g1
  have HB1 := Lib.hid (HB0.out.kept g1)
  have hs1 := g1.size
  have Z1 := Z0.kept g1 (by simp)
  clear p0 p1 p2 p3 p4 HB0 g1 Z0
  obtain ⟨p0, p1, p2, p3, p4⟩ := HB1.out
  go_wp2_with fail
  go_fit (copiedArray_any _ a _ (h.kept G1) (by omega) (fun i hi => by have := hd16 i hi; omega) (by omega) (by omega))
  rintro e w2 ⟨v2, raw2, rfl, o2, g2⟩
  obtain ⟨va, vc, rfl, -⟩ := o2.form
  have hs2 := g2.size
  have e3 := galloc (grefl w2) (.cells #[.slice va a.ds.length vc, .string (str a.log), .string (str a.next), .int .i64 a.stage, .bool a.up] 26)
  have P3 : Put5 w (w2.alloc (.cells #[.slice va a.ds.length vc, .string (str a.log), .string (str a.next), .int .i64 a.stage, .bool a.up] 26)) w2.heap.size (w.heap.size + 1) w1.heap.size (.slice va a.ds.length vc) a raw2 :=
    ⟨Five.new w2 _ _ _ _ _ _, (Z1.kept g2 (by simp)).kept e3 (by simp), o2.grew e3, gtrans (gtrans G1 g2) e3, fun e => by have := (o2.own.lt _ e).2; omega, by omega, by omega⟩
  have HB3 := Lib.hid ((HB1.out.kept g2).kept e3)
  clear p0 p1 p2 p3 p4 Z1 o2
  go_upto_region 4 with (fail)
  generalize w2.alloc (.cells #[.slice va a.ds.length vc, .string (str a.log), .string (str a.next), .int .i64 a.stage, .bool a.up] 26) = W3 at *
  generalize w2.heap.size = fb at *
  have G3 := P3.G
  have HP3 := Lib.hid P3
  obtain ⟨p0, p1, p2, p3, p4⟩ := HB3.out
  obtain ⟨⟨f0, -⟩, ⟨f1, -⟩, ⟨f2, -⟩, ⟨f3, -⟩, ⟨f4, -⟩⟩ := P3.F
  obtain ⟨⟨z0, y0⟩, ⟨z1, y1⟩, ⟨z2, y2⟩, ⟨z3, y3⟩, ⟨z4, y4⟩⟩ := P3.Z
  have HNo : Hid (repOk a d = false → replZ a d = a ∧ replOk a d = false) := fun e => by rw [HE.out.1, HE.out.2, rep_no e, e]; exact ⟨rfl, rfl⟩
  have HR3 : Hid (OD (set5 W3 (w.heap.size + 1) (.slice va a.ds.length vc) (.string (str a.log)) (.string (str a.next)) (.int .i64 a.stage) (.bool a.up)) w.heap.size (.slice va a.ds.length vc) a.ds raw2 ∧ w.grownBy (set5 W3 (w.heap.size + 1) (.slice va a.ds.length vc) (.string (str a.log)) (.string (str a.next)) (.int .i64 a.stage) (.bool a.up)) none) := res5l P3.O (r := w.heap.size + 1) (by omega) (by omega) G3 _ _ _ _ _
  cases hu : a.up
  · have hno := HNo.out (by simp [repOk, hu])
    rw [hu] at p4
    clear hu
    go_wp2_with fail
    exact bodyPost_ret (v := .tuple #[a.val (.slice va a.ds.length vc), .bool false]) (by simp [results, Tryz.results16, go_sem, z0, z1, z2, z3, z4]) rfl ⟨_, raw2, by rw [hno.1, hno.2], by rw [hno.1]; exact HR3.out.1, HR3.out.2⟩
  have HU := Lib.hid hu
  rw [hu] at p4
  clear hu
  by_cases hs : a.stage = 0
  rotate_left
  · have hno := HNo.out (by simp [repOk, hs])
    have hs' : (a.stage != 0) = true := by simpa using hs
    clear hs
    go_wp2_with fail
    exact bodyPost_ret (v := .tuple #[a.val (.slice va a.ds.length vc), .bool false]) (by simp [results, Tryz.results16, go_sem, z0, z1, z2, z3, z4]) rfl ⟨_, raw2, by rw [hno.1, hno.2], by rw [hno.1]; exact HR3.out.1, HR3.out.2⟩
  have hHs := Lib.hid hs
  rw [hs] at p3
  clear hs
  cases hdk : inB d 0 (a.ds.length - 1)
  · have hno := HNo.out (by
      have := inB_nf hdk
      have e : decide (0 ≤ d ∧ d < (a.ds.length : Int)) = false := decide_eq_false (by omega)
      simp [repOk, e])
    go_wp2_with fail
    go_fit (hasDisk_any _ _ _ _ _ hm)
    rintro e w4 ⟨rfl, rfl⟩
    rw [hdk]
    go_wp2_with fail
    exact bodyPost_ret (v := .tuple #[a.val (.slice va a.ds.length vc), .bool false]) (by simp [results, Tryz.results16, go_sem, z0, z1, z2, z3, z4]) rfl ⟨_, raw2, by rw [hno.1, hno.2], by rw [hno.1]; exact HR3.out.1, HR3.out.2⟩
  have hd := inB_iff.1 hdk
  obtain ⟨i, rfl⟩ := Int.eq_ofNat_of_zero_le hd.1
  have hi : i < a.ds.length := by omega
  have hii : (i : Int) < a.ds.length := by omega
  obtain ⟨ag, ao, ka, km, kc, na, nm, nc, rfl, x0, x1, x2, x3, DD⟩ := (h.kept G3).at i hi
  cases hdd : a.ds[i].dead
  · have hno := HNo.out (by simp [repOk, List.getD_eq_getElem?_getD, hi, hdd])
    rw [hdd] at x1
    go_wp2_with fail
    go_fit (hasDisk_any _ _ _ _ _ hm)
    rintro e w4 ⟨rfl, rfl⟩
    rw [hdk]
    go_wp2_with fail
    exact bodyPost_ret (v := .tuple #[a.val (.slice va a.ds.length vc), .bool false]) (by simp [results, Tryz.results16, go_sem, z0, z1, z2, z3, z4]) rfl ⟨_, raw2, by rw [hno.1, hno.2], by rw [hno.1]; exact HR3.out.1, HR3.out.2⟩
  rw [hdd] at x1
  have HYes : Hid (replZ a i = { a with ds := a.ds.set i (repD a i) } ∧ replOk a i = true) := by
    have e : repOk a i = true := by simp [repOk, List.getD_eq_getElem?_getD, hi, hdd, HU.out, hHs.out]
    obtain ⟨j, hj, hjl, -, -, -, hr⟩ := replaced_yes e
    rw [HE.out.1, HE.out.2, e]
    have hij : i = j := by omega
    subst hij
    exact ⟨hr, rfl⟩
  have hRw : Hid (rowsOfZ a.ds = (rowsZ a.ds : Int)) := by show _ = _; unfold rowsOfZ; rw [HDk.out]; rfl
  have hr16 := rows_le HDk.out
  have hir : i < raw2.length := by rw [P3.O.len]; exact hi
  obtain ⟨g, e', hgB, hgl, ⟨k0, m0⟩, ⟨k1, m1⟩, ⟨k2, m2⟩, ⟨k3, m3⟩⟩ := P3.O.at i hir hi
  cases e'
  have HRep : Hid (repD a i = ⟨i, false, bentL (newL i (rowsZ a.ds)), bentL (newL i (rowsZ a.ds))⟩) := rfl
  have hgf : g ≠ fb := fun e => P3.vf (by rw [e]; rfl)
  have HFin : Hid (∀ (w8 : World) (kv nv : Value), W3.grownBy w8 none → IsD w8 W3.heap.size kv nv (repD a i) → Apart kv nv → ∃ raw8, Put5 w (set4At w8 g (i * 4) (.int .i64 i) (.bool false) kv nv) fb (w.heap.size + 1) w1.heap.size (.slice (some ⟨g, 0, none⟩) a.ds.length vc) { a with ds := a.ds.set i (repD a i) } raw8) := by
    intro w8 kv nv g8 I8 ap8
    obtain ⟨ka8, km8, kc8, rfl⟩ := I8.1.sl
    obtain ⟨na8, nm8, nc8, rfl⟩ := I8.2.sl
    have hlo : w1.heap.size ≤ W3.heap.size := by have := e3.size; omega
    exact ⟨_, HP3.out.put i hir ⟨i, false, ka8, km8, kc8, na8, nm8, nc8⟩ (repD a i) g8 ⟨rfl, rfl, I8.1.lower hlo, I8.2.lower hlo⟩ ap8 (fun k hk => by
      rcases hk with hk | hk
      · exact (I8.1.lt k hk).1
      · exact (I8.2.lt k hk).1)⟩
  have hL3 := Lib.hid (h.kept G3)
  clear HNo HE HP3 P3 x0 x2 x3 DD z0 z1 z2 z3 z4 y0 y1 y2 y3 y4 HA HR3
  go_wp2_with fail
  go_fit (hasDisk_any _ _ _ _ _ hm)
  rintro e w4 ⟨rfl, rfl⟩
  rw [hdk]
  go_wp2_with fail
  go_region_with (first | (go_at_call 75; go_fit (implRowsOf_any _ a.ds _ (hL3.out.kept (by first | exact gdrew (grefl _) 1 | exact grefl _))); rintro e w5 ⟨rfl, g5⟩; rw [hRw.out]; have gg5 : W3.grownBy w5 none := gtrans (gdrew (grefl _) 1) g5; have f0' := gkc gg5 f0; have p0' := gkc gg5 p0; have k0' := gkc gg5 k0; have k1' := gkc gg5 k1; have k2' := gkc gg5 k2; have k3' := gkc gg5 k3) | (go_at_call 74; go_fit (blankDisk_any i (rowsZ a.ds) _ (by omega) hr16.2); rintro e w6 ⟨kv, nv, rfl, I6, ap6, g6⟩; have gg6 : W3.grownBy w6 none := gtrans gg5 g6; have f0'' := gkc gg6 f0; have q0 := gkc gg6 k0; have q1 := gkc gg6 k1; have q2 := gkc gg6 k2; have q3 := gkc gg6 k3; have n0 := (gk gg6 ⟨k0, m0⟩).2; have n1 := (gk gg6 ⟨k1, m1⟩).2; have n2 := (gk gg6 ⟨k2, m2⟩).2; have n3 := (gk gg6 ⟨k3, m3⟩).2; obtain ⟨ka6, km6, kc6, rfl⟩ := I6.1.sl; obtain ⟨na6, nm6, nc6, rfl⟩ := I6.2.sl; have hF := Lib.hid (HFin.out w6 _ _ gg6 (by rw [HRep.out]; exact ⟨I6.1.lower gg5.size, I6.2.lower gg5.size⟩) ap6)))
  all_goals (
    obtain ⟨raw8, P8⟩ := hF.out
    obtain ⟨⟨u0, -⟩, ⟨u1, -⟩, ⟨u2, -⟩, ⟨u3, -⟩, ⟨u4, -⟩⟩ := P8.F
    obtain ⟨⟨z0, y0⟩, ⟨z1, y1⟩, ⟨z2, y2⟩, ⟨z3, y3⟩, ⟨z4, y4⟩⟩ := P8.Z
    have hR := res5l P8.O (r := w.heap.size + 1) (by omega) (by omega) P8.G (.slice (some ⟨g, 0, none⟩) a.ds.length vc) (.string (str a.log)) (.string (str a.next)) (.int .i64 a.stage) (.bool a.up)
    dsimp only at u0 u1 u2 u3 u4
    unfold set5 set4At at hR
    have HR := Lib.hid hR
    clear hR
    unfold set4At at z0 z1 z2 z3 z4 y0 y1 y2 y3 y4 u0 u1 u2 u3 u4
    go_wp2_with fail
    exact bodyPost_ret (v := .tuple #[.agg #[.slice (some ⟨g, 0, none⟩) a.ds.length vc, .string (str a.log), .string (str a.next), .int .i64 a.stage, .bool a.up], .bool true]) (by simp [results, Tryz.results16, go_sem, z0, z1, z2, z3, z4]) rfl ⟨_, raw8, by rw [HYes.out.1, HYes.out.2], by rw [HYes.out.1]; exact HR.out.1, HR.out.2⟩)
end Go.Proofs.YteialkknddpbjaaGreatDoor

