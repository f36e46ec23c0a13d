/- What the specification's l7Show returns. What the specification's ReadPatch returns. -/
import Derived.Deep.RegionLaw
import Derived.Test.YteialkknddpbjaaGreatDoorPH15
import Derived.Test.YteialkknddpbjaaGreatDoorPH16
namespace Go.Proofs.YteialkknddpbjaaGreatDoor
open Go.ChangeShapes Go.WideShapes Go.ChangeAt Go.RowKit
attribute [local go_sem] str_list str_size str_add lit_list0 add_lit lit_add str_cut

/-- the words of a patch -/
def pairsW : List Int → List Int → List (List UInt8)
  | d :: ds, v :: vs => digT d.toNat :: digT v.toNat :: pairsW ds vs
  | _, _ => []
def PZ.words (p : PZ) : List (List UInt8) := digT p.row.toNat :: pairsW p.ds p.vs
def PZ.text (p : PZ) : List UInt8 := wordsT p.words
/-- numbers that are shown -/
def PZ.fit (p : PZ) : Prop := (0 ≤ p.row ∧ p.row ≤ 1000000) ∧ p.vs.length = p.ds.length ∧ p.ds.length ≤ 2 ∧ (∀ i (h : i < p.ds.length), 0 ≤ p.ds[i] ∧ p.ds[i] ≤ 1000000) ∧ ∀ i (h : i < p.vs.length), 0 ≤ p.vs[i] ∧ p.vs[i] ≤ 1000000
theorem pairsW_next (ds vs : List Int) (k : Nat) (hd : k < ds.length) (hv : k < vs.length) : pairsW (ds.take (k + 1)) (vs.take (k + 1)) = pairsW (ds.take k) (vs.take k) ++ [digT ds[k].toNat, digT vs[k].toNat] := by
  induction k generalizing ds vs with
  | zero =>
    cases ds with
    | nil => simp at hd
    | cons d r => cases vs with
      | nil => simp at hv
      | cons v s => simp [pairsW]
  | succ k ih =>
    cases ds with
    | nil => simp at hd
    | cons d r => cases vs with
      | nil => simp at hv
      | cons v s =>
        simp only [List.take_succ_cons, pairsW, List.cons_append, List.getElem_cons_succ]
        rw [ih r s (by simpa using hd) (by simpa using hv)]
theorem pairsW_length (ds vs : List Int) : (pairsW ds vs).length ≤ 2 * ds.length := by
  induction ds generalizing vs with
  | nil => simp [pairsW]
  | cons d r ih =>
    cases vs with
    | nil => simp [pairsW]
    | cons v s => have := ih s; simp [pairsW]; omega
theorem digT_small7 {n : Nat} (h : n ≤ 1000000) : (digT n).length ≤ 7 := digT_length n 6 (by omega)
theorem pairsW_small (ds vs : List Int) (hd : ∀ x ∈ ds, x.toNat ≤ 1000000) (hv : ∀ x ∈ vs, x.toNat ≤ 1000000) : ∀ t ∈ pairsW ds vs, t.length ≤ 7 := by
  induction ds generalizing vs with
  | nil => simp [pairsW]
  | cons d r ih =>
    cases vs with
    | nil => simp [pairsW]
    | cons v s =>
      intro t ht
      simp only [pairsW, List.mem_cons] at ht
      rcases ht with rfl | rfl | ht
      · exact digT_small7 (hd d (by simp))
      · exact digT_small7 (hv v (by simp))
      · exact ih s (fun x hx => hd x (by simp [hx])) (fun x hx => hv x (by simp [hx])) t ht
theorem words_small {rn : Nat} {ds vs : List Int} (hr : rn ≤ 1000000) (hd : ∀ i (h : i < ds.length), 0 ≤ ds[i] ∧ ds[i] ≤ 1000000) (hv : ∀ i (h : i < vs.length), 0 ≤ vs[i] ∧ vs[i] ≤ 1000000) : ∀ t ∈ digT rn :: pairsW ds vs, t.length ≤ 7 := by
  intro t ht
  rcases List.mem_cons.1 ht with rfl | ht
  · exact digT_small7 hr
  · refine pairsW_small ds vs (fun x hx => ?_) (fun x hx => ?_) t ht
    · obtain ⟨i, hi, rfl⟩ := List.getElem_of_mem hx
      have := hd i hi; omega
    · obtain ⟨i, hi, rfl⟩ := List.getElem_of_mem hx
      have := hv i hi; omega
theorem TS.two {base : Nat} (w : World) (x y : List UInt8) (hb : base ≤ w.heap.size) : TS (w.alloc (.cells #[.string (str x), .string (str y)] 9)) base (.slice (some ⟨w.heap.size, 0, none⟩) 2 2) [x, y] :=
  Own.fresh strE w [x, y] _ rfl (by simp) hb
set_option maxRecDepth 8000 in
set_option maxHeartbeats 4000000 in
theorem l7Show_any (p : PZ) (dv vv : Value) (w : World) (hd : IR w dv p.ds) (hv : IR w vv p.vs) (hf : p.fit) :
    Calls Tryz.prog 90 #[.agg #[.int .i64 p.row, dv, vv]] w (Pure (.string (str p.text)) w) := by
  obtain ⟨row, ds, vs⟩ := p
  obtain ⟨⟨hr0, hr1⟩, hlen, hl2, hds, hvs⟩ := hf
  dsimp only at *
  obtain ⟨rn, rfl⟩ := Int.eq_ofNat_of_zero_le hr0
  obtain ⟨da, dc, rfl, dm⟩ := hd.form
  obtain ⟨va, vc, rfl, vm⟩ := hv.form
  have HT : Hid (PZ.text ⟨(rn : Int), ds, vs⟩ = wordsT (digT rn :: pairsW ds vs)) := by show _ = _; simp [PZ.text, PZ.words]
  have B0 := Box3.new w (.int .i64 (rn : Int)) (.slice da ds.length dc) (.slice va vs.length vc) 97
  have G0 := galloc (grefl w) (.cells #[.int .i64 (rn : Int), .slice da ds.length dc, .slice va vs.length vc] 97)
  have hd0 := hd.kept G0
  have hv0 := hv.kept G0
  have hrn : rn ≤ 1000000 := by omega
  have HLn := Lib.hid hlen
  have HDs : Hid (∀ i (h : i < ds.length), 0 ≤ ds[i] ∧ ds[i] ≤ 1000000) := hds
  have HVs : Hid (∀ i (h : i < vs.length), 0 ≤ vs[i] ∧ vs[i] ≤ 1000000) := hvs
  clear hd hv hr0 hr1 hlen hds hvs
  go_enter Tryz.func90, Tryz.ntmps90
  go_wp2_with fail
  generalize w.alloc (.cells #[.int .i64 (rn : Int), .slice da ds.length dc, .slice va vs.length vc] 97) = W0 at *
  generalize w.heap.size = bb at *
  go_fit (l1Int_any rn _ (by omega))
  rintro e w1 ⟨rfl, g1⟩
  have B1 := Box3.kept B0 g1
  have C0 := TS.single w1 (digT rn) (Nat.le_refl w1.heap.size)
  have g2 := galloc (grefl w1) (.cells #[.string (str (digT rn))] 9)
  go_wp2_with fail
  have R0 := hd0.kept g1
  have R1 := hv0.kept g1
  have GW := gtrans G0 g1
  clear B0 hd0 hv0 G0 g1
  go_loopw [3, 4] (fun out i wr => ∃ k : Nat, k ≤ ds.length ∧ i = .int .i64 k ∧ TS wr w1.heap.size out (digT rn :: pairsW (ds.take k) (vs.take k)) ∧ w1.grownBy wr none) (fun _ i _ => ds.length - (intOf i).toNat)
  case atStart => exact ⟨0, Nat.zero_le _, rfl, C0, g2⟩
  case round =>
    clear C0 g2
    obtain ⟨k, hk, rfl, C, G⟩ := hrel
    obtain ⟨oa, om, oc, rfl⟩ := C.sl
    obtain ⟨b0, b1, b2⟩ := Box3.kept B1 G
    have hsz := G.size
    by_cases hlt : k < ds.length
    · have hki : (k : Int) < ds.length := by omega
      have hlv : k < vs.length := by rw [HLn.out]; exact hlt
      have hkv : (k : Int) < vs.length := by omega
      obtain ⟨g, o, rfl, x0⟩ := (R0.kept G).at k hlt
      obtain ⟨h, q, rfl, y0⟩ := (R1.kept G).at k hlv
      have HP := Lib.hid (pairsW_next ds vs k hlt hlv)
      have hpl := pairsW_length (ds.take k) (vs.take k)
      have hdb := HDs.out k hlt
      have hvb := HVs.out k hlv
      obtain ⟨dn, hdn⟩ := Int.eq_ofNat_of_zero_le hdb.1
      obtain ⟨vn, hvn⟩ := Int.eq_ofNat_of_zero_le hvb.1
      rw [hdn] at x0 hdb HP
      rw [hvn] at y0 hvb HP
      simp only [Int.toNat_natCast] at HP
      have hdn' : dn ≤ 1000000 := by omega
      have hvn' : vn ≤ 1000000 := by omega
      have htl : (ds.take k).length ≤ 2 := by simp; omega
      clear hdn hvn hdb hvb
      go_wp2_with fail
      go_region_law (first | (go_simp; go_at_call 159; go_fit (l1Int_any dn _ (by omega)); rintro e w8 ⟨rfl, g8⟩; have g8' := gtrans (gdrew (grefl wr) 1) g8; obtain ⟨b0', b1', b2'⟩ := Box3.kept (b := bb) ⟨b0, b1, b2⟩ g8'; have x0' := gkc g8' x0; have y0' := gkc g8' y0) | (go_simp; go_at_call 159; go_fit (l1Int_any vn _ (by omega)); rintro e w9 ⟨rfl, g9⟩; have g9' := gtrans g8' g9) | (refine step_append_o (E := strE) (base := w1.heap.size) rfl (.tmp 16) (.tmp 29) rfl rfl rfl (C.grew (galloc g9' _)) (TS.two _ _ _ (Nat.zero_le _)) (by simp; omega) (by decide) (by have := g9'.size; simp; omega) ?_; intro v' wa hown hga hat; have GA := gnew (galloc (gtrans G g9') _) hga (fun j e => (C.lt j e).1)))
      all_goals (
        rw [List.cons_append, ← HP.out] at hown
        go_wp2_with fail
        go_roundw
        case rel => exact ⟨k + 1, by omega, by go_num, hown, GA⟩
        case measure => simp [intOf]; omega)
    · obtain rfl : k = ds.length := by omega
      rw [List.take_length, ← HLn.out, List.take_length] at C
      go_wp2_with fail
      go_fit (l1Words_any _ _ _ C.rd (by have := pairsW_length ds vs; simp; omega) (fun x hx => by have := words_small hrn (fun i h => HDs.out i h) (fun i h => HVs.out i h) x hx; omega))
      rintro e w' ⟨rfl, rfl⟩
      go_wp2_with fail
      go_ret
      exact ⟨ret_str HT.out.symm, gtrans GW G⟩
end Go.Proofs.YteialkknddpbjaaGreatDoor
namespace Go.Proofs.YteialkknddpbjaaGreatDoor
open Go.ChangeShapes Go.WideShapes Go.ChangeAt Go.RowKit
attribute [local go_sem] str_list str_size str_add lit_list0 add_lit lit_add str_cut

def dsN (n : List Int) (j : Nat) : List Int := (List.range j).map fun t => n.getD (1 + 2 * t) 0
def vsN (n : List Int) (j : Nat) : List Int := (List.range j).map fun t => n.getD (2 + 2 * t) 0
theorem dsN_next (n : List Int) (j : Nat) : dsN n (j + 1) = dsN n j ++ [n.getD (1 + 2 * j) 0] := by simp [dsN, List.range_succ]
theorem vsN_next (n : List Int) (j : Nat) : vsN n (j + 1) = vsN n j ++ [n.getD (2 + 2 * j) 0] := by simp [vsN, List.range_succ]
/-- the numbers of a text -/
def numsT (s : List UInt8) : List Int := (splitT 32 s).map readZ
def PZ.ofN (n : List Int) : PZ := ⟨n.getD 0 0, dsN n (n.length / 2), vsN n (n.length / 2)⟩
def readP (s : List UInt8) : PZ := PZ.ofN (numsT s)
def readPok (s : List UInt8) : Bool := (splitT 32 s).all readOk && ((numsT s).length % 2 == 1 && (readP s).ok)
theorem splitG_pos (b : UInt8) (cur s : List UInt8) : 0 < (splitG b cur s).length := by
  induction s generalizing cur with
  | nil => simp [splitG]
  | cons x r ih => unfold splitG; split; simp; exact ih _
/-- what is read: the patch, or none -/
def readPZ (s : List UInt8) : PZ := if readPok s then readP s else .zero
theorem readPZ_no {s : List UInt8} (h : readPok s = false) : readPZ s = .zero := by simp [readPZ, h]
theorem readPZ_yes {s : List UInt8} (h : readPok s = true) : readPZ s = readP s := by simp [readPZ, h]
theorem splitG_mem (b : UInt8) (cur s : List UInt8) : ∀ x ∈ splitG b cur s, x.length ≤ cur.length + s.length := by
  induction s generalizing cur with
  | nil => intro x hx; simp [splitG] at hx; subst hx; simp
  | cons y r ih =>
    intro x hx
    unfold splitG at hx
    split at hx
    · rcases List.mem_cons.1 hx with rfl | hx
      · simp
      · have := ih [] x hx; simp at this ⊢; omega
    · have := ih (cur ++ [y]) x hx; simp at this ⊢; omega
theorem readP_bad {s : List UInt8} {k : Nat} (hk : k < (splitT 32 s).length) (h : readOk (splitT 32 s)[k] = false) : readPok s = false := by
  have : (splitT 32 s).all readOk = false := by rw [List.all_eq_false]; exact ⟨_, List.getElem_mem hk, by simp [h]⟩
  simp [readPok, this]
theorem l1Split32_any (s : List UInt8) (w : World) (hs : s.length ≤ 1100000) :
    Calls Tryz.prog 232 #[.string (str s), .int .u8 32] w (GotT (splitT 32 s) w) := l1Split_any s 32 w hs
set_option maxRecDepth 8000 in
set_option maxHeartbeats 4000000 in
theorem specReadPatch_big (s : List UInt8) (w : World) (hs : s.length ≤ 1048576) :
    Calls Tryz.prog 158 #[.string (str s)] w (GotP (readPZ s) (readPok s) w) := by
  have Z0 := Zero3.new w
  have G0 := galloc (grefl w) (.cells #[.int .i64 0, .slice none 0 0, .slice none 0 0] 97)
  have HLn : Hid ((splitT 32 s).length ≤ 1048577) := by show _ ≤ _; have := splitG_length 32 [] s; unfold splitT; omega
  have HPos : Hid (0 < (splitT 32 s).length) := splitG_pos 32 [] s
  have HPl : Hid (∀ x ∈ splitT 32 s, x.length ≤ 1048576) := fun x hx => by have := splitG_mem 32 [] s x hx; simp at this; omega
  go_enter Tryz.func158, Tryz.ntmps158
  go_wp2_with fail
  go_fit (l1Split32_any s _ (by omega))
  rintro e w1 ⟨sv, rfl, T1, g1⟩
  obtain ⟨sa, sc, rfl, -⟩ := Own.form T1
  have Z1 := Z0.kept g1 (by simp)
  have G1 := gtrans G0 g1
  have hrb : w.heap.size < w1.heap.size := cell_lt Z1.c0.1
  clear Z0 G0 g1
  generalize hL : splitT 32 s = L at *
  have C0 := IS.empty w1 (Nat.le_refl w1.heap.size)
  have g2 := galloc (grefl w1) (.cells #[] 2)
  have HSp := Lib.hid hL
  clear hL
  go_wp2_with fail
  go_loopw [5, 6] (fun out i wr => ∃ k : Nat, k ≤ L.length ∧ i = .int .i64 k ∧ IS wr w1.heap.size out ((L.take k).map readZ) ∧ w1.grownBy wr none ∧ Hid ((L.take k).all readOk = true)) (fun _ i _ => L.length - (intOf i).toNat)
  case atStart => exact ⟨0, Nat.zero_le _, rfl, C0, g2, rfl⟩
  case round =>
    clear C0 g2
    obtain ⟨k, hk, rfl, C, G, HA⟩ := hrel
    obtain ⟨na, nn, nc, rfl⟩ := C.sl
    have hll := HLn.out
    by_cases hlt : k < L.length
    · have hki : (k : Int) < L.length := by omega
      obtain ⟨g, o, rfl, x0⟩ := TR.at (T1.rd.kept G) k hlt
      have hpl := HPl.out L[k] (List.getElem_mem hlt)
      have hsz := G.size
      cases hok : readOk L[k]
      · have HF : Hid (readPok s = false) := by
          have e := HSp.out
          subst e
          exact readP_bad hlt hok
        have HZ := Lib.hid (readPZ_no HF.out)
        obtain ⟨⟨z0, y0⟩, ⟨z1, y1⟩, ⟨z2, y2⟩⟩ := Z1.kept G (by simp)
        have hR := ret_zero3 (r := w.heap.size) (gtrans G1 G) (Nat.le_refl _)
        go_wp2_with fail
        go_fit (l1Read_any L[k] _ (by omega))
        rintro e w' ⟨rfl, rfl⟩
        rw [hok]
        go_wp2_with fail
        exact bodyPost_ret (v := .tuple #[.agg #[.int .i64 0, .slice none 0 0, .slice none 0 0], .bool false]) (by simp [results, Tryz.results158, go_sem, z0, z1, z2]) rfl (by rw [HZ.out, HF.out]; exact hR)
      · have HN : Hid (((L.take (k + 1)).map readZ = (L.take k).map readZ ++ [readZ L[k]]) ∧ (L.take (k + 1)).all readOk = true) := by
          rw [List.take_succ_eq_append_getElem hlt, List.map_append, List.all_append, HA.out]
          exact ⟨rfl, by simp [hok]⟩
        clear HA
        go_wp2_with fail
        go_fit (l1Read_any L[k] _ (by omega))
        rintro e w' ⟨rfl, rfl⟩
        rw [hok]
        go_wp2_with (first | (at_builtin; refine wpList_append_o (E := intE) (base := w1.heap.size) rfl (.tmp 31) (.tmp 33) rfl rfl rfl (C.grew (galloc (grefl _) _)) (IS.single _ (readZ L[k]) (Nat.zero_le _)) (by simp; omega) (by decide) (by simp; omega) ?_; intro v' w6 o6 g6 b6; have G6 := gnew (galloc G _) g6 (fun j e => (C.lt j e).1); rw [← HN.out.1] at o6; clear g6 b6))
        go_roundw
        case rel => exact ⟨k + 1, by omega, by go_num, o6, G6, HN.out.2⟩
        case measure => simp [intOf]; omega
    · obtain rfl : k = L.length := by omega
      rw [List.take_length] at C HA
      have hpos := HPos.out
      obtain ⟨na', nc', hv, -⟩ := Own.form C
      cases hv
      have HNl : Hid (L.map readZ = numsT s) := by show _ = _; rw [numsT, HSp.out]
      have HNa : Hid ((splitT 32 s).all readOk = true) := by show _ = _; rw [HSp.out]; exact HA.out
      have hn1 : (L.map readZ).length ≤ 1048577 := by simp; exact hll
      have hn0 : 0 < (L.map readZ).length := by simp; exact hpos
      clear HA HPl
      generalize L.map readZ = N at *
      have hn0i : (0 : Int) < N.length := by omega
      obtain ⟨g, hg, hg1, hg2, ⟨x0, f0⟩⟩ := IS.at C 0 hn0
      cases hg
      have Z2 := Z1.kept G (by simp)
      have hsz := G.size
      have e0 := galloc (grefl wr) (.cells #[.int .i64 N[0], .slice none 0 0, .slice none 0 0] 97)
      by_cases hev : N.length % 2 = 0
      · have HF : Hid (readPok s = false) := by
          show _ = _
          rw [readPok, ← HNl.out, hev]; simp
        have HZ := Lib.hid (readPZ_no HF.out)
        have hev' : ((N.length : Int) % 2 == 0) = true := by rw [beq_iff_eq]; omega
        have Z3 := Z2.kept e0 (by simp)
        have hR := ret_zero3 (r := w.heap.size) (gtrans (gtrans G1 G) e0) (Nat.le_refl _)
        clear hev Z1 Z2
        go_upto_region 11 with (fail)
        generalize wr.alloc (.cells #[.int .i64 N[0], .slice none 0 0, .slice none 0 0] 97) = W at *
        obtain ⟨⟨z0, y0⟩, ⟨z1, y1⟩, ⟨z2, y2⟩⟩ := Z3
        go_wp2_with fail
        exact bodyPost_ret (v := .tuple #[.agg #[.int .i64 0, .slice none 0 0, .slice none 0 0], .bool false]) (by simp [results, Tryz.results158, go_sem, z0, z1, z2]) rfl (by rw [HZ.out, HF.out]; exact hR)
      have HOd : Hid (N.length % 2 = 1) := by show _ = _; omega
      have hev' : ((N.length : Int) % 2 == 0) = false := by rw [beq_eq_false_iff_ne]; omega
      have hsW : (wr.alloc (.cells #[.int .i64 N[0], .slice none 0 0, .slice none 0 0] 97)).heap.size = wr.heap.size + 1 := by simp
      have P0 : PBox (wr.alloc (.cells #[.int .i64 N[0], .slice none 0 0, .slice none 0 0] 97)) wr.heap.size (wr.heap.size + 1) ⟨N[0], dsN N 0, vsN N 0⟩ (.slice none 0 0) (.slice none 0 0) :=
        ⟨by simp [At, go_sem], by simp [At, go_sem], by simp [At, go_sem], Own.nil _ _ _, Own.nil _ _ _, .inl rfl, by simp [Value.ownBlock], by simp [Value.ownBlock]⟩
      have Z3 := Z2.kept e0 (by simp)
      have C3 := C.grew e0
      have G3 := gtrans (gtrans G1 G) e0
      have hpb : w.heap.size < wr.heap.size := by omega
      have hgl : g < wr.heap.size := hg2
      clear hev Z1 Z2
      go_upto_region 11 with (fail)
      generalize wr.alloc (.cells #[.int .i64 N[0], .slice none 0 0, .slice none 0 0] 97) = W at *
      generalize hpbe : wr.heap.size = pb at *
      clear x0 f0 e0 C G1
      go_wp2_with fail
      go_loopw [10] (fun i wx => ∃ (k j : Nat) (dv vv : Value), k ≤ N.length ∧ i = .int .i64 k ∧ Hid (k = 2 * j + 1) ∧ PBox wx pb (pb + 1) ⟨N[0], dsN N j, vsN N j⟩ dv vv ∧ W.grownBy wx (some pb)) (fun i _ => N.length + 2 - (intOf i).toNat)
      case atStart => exact ⟨1, 0, _, _, by omega, rfl, rfl, P0, World.grownBy.refl _ _⟩
      case round =>
        clear P0
        obtain ⟨k, j, dv, vv, hk, rfl, HK, PB, GX⟩ := hrel
        obtain ⟨da, dn, dc, rfl⟩ := PB.ds.sl
        obtain ⟨va, vn, vc, rfl⟩ := PB.vs.sl
        have C4 := C3.kept GX (.inr (by simp [Value.ownBlock]; omega))
        have hwx : pb + 1 ≤ wr.heap.size := by have := GX.size; omega
        have hpl := PB.lt
        by_cases hlt : k < N.length
        · have hlt1 : k + 1 < N.length := by have := HK.out; have := HOd.out; omega
          have hki : (k : Int) < N.length := by omega
          have hki1 : (k : Int) + 1 < N.length := by omega
          have hj1 : j ≤ 1048577 := by have := HK.out; omega
          obtain ⟨g', e', -, -, ⟨x1, f1⟩⟩ := IS.at C4 k hlt
          cases e'
          obtain ⟨g', e', -, -, ⟨y1, h1⟩⟩ := IS.at C4 (k + 1) hlt1
          cases e'
          obtain ⟨p1, pf1⟩ := PB.c1
          have HD : Hid (dsN N (j + 1) = dsN N j ++ [N[k]]) := by
            show _ = _
            rw [dsN_next, show 1 + 2 * j = k by have := HK.out; omega]; simp [List.getD_eq_getElem?_getD, hlt]
          have HV : Hid (vsN N (j + 1) = vsN N j ++ [N[k + 1]]) := by
            show _ = _
            rw [vsN_next, show 2 + 2 * j = k + 1 by have := HK.out; omega]; simp [List.getD_eq_getElem?_getD, hlt1]
          go_wp2_with fail
          go_region_law (first | (refine step_append_o (E := intE) (base := pb + 1) rfl (.tmp 51) (.tmp 56) rfl rfl rfl (PB.ds.grew (galloc (gdrew (grefl _) 1) _)) (IS.single _ N[k] (Nat.zero_le _)) (by simp [dsN]; omega) (by decide) (by simp; omega) ?_; intro v1 wa ho1 hg1' ha1; obtain ⟨q1, r1⟩ := gkr hg1' PB.db (gk (galloc (gdrew (grefl wr) 1) _) PB.c1); have P1 := PBox.app1 (PB.kept (galloc (gdrew (grefl wr) 1) _)) hg1' ho1 ha1; obtain ⟨a1, n1, c1', rfl⟩ := ho1.sl))
          all_goals (
            dsimp only at P1
            rw [← HD.out] at P1
            have GX1 : W.grownBy (wa.setCell ⟨pb, 1, none⟩ (.slice a1 n1 c1')) (some pb) := gset (gsubc (galloc (gdrew GX 1) _) hg1' (fun q e => by have := (PB.ds.lt q e).1; omega)) _ _
            generalize wa.setCell ⟨pb, 1, none⟩ (.slice a1 n1 c1') = W1 at *
            have C5 := C3.kept GX1 (.inr (by simp [Value.ownBlock]; omega))
            have hw1 : pb + 1 ≤ W1.heap.size := by have := GX1.size; omega
            obtain ⟨g', e', -, -, ⟨y2, h2⟩⟩ := IS.at C5 (k + 1) hlt1
            cases e'
            obtain ⟨p2, pf2⟩ := P1.c2
            clear PB GX C4 x1 f1 y1 h1 p1 pf1 hg1' ho1 ha1 q1 r1 hpl
            have hpl1 := P1.lt
            have hwr : IntKind.i64.wrap ((k : Int) + 1) = (k : Int) + 1 := IntWalk.i64_in _ (by omega)
            have hnn : (0 : Int) ≤ (k : Int) + 1 := by omega
            have htn : ((k : Int) + 1).toNat = k + 1 := by omega
            go_wp2_with fail
            go_region_law (first | (refine step_append_o (E := intE) (base := pb + 1) rfl (.tmp 60) (.tmp 66) rfl rfl rfl (P1.vs.grew (galloc (gdrew (grefl _) 1) _)) (IS.single _ N[k + 1] (Nat.zero_le _)) (by simp [vsN]; omega) (by decide) (by simp; omega) ?_; intro v2 wb ho2 hg2' ha2; obtain ⟨q2, r2⟩ := gkr hg2' P1.vb (gk (galloc (gdrew (grefl _) 1) _) P1.c2); have P2 := PBox.app2 (P1.kept (galloc (gdrew (grefl _) 1) _)) hg2' ho2 ha2; obtain ⟨a2, n2, c2', rfl⟩ := ho2.sl))
            all_goals (
              dsimp only at P2
              rw [← HV.out] at P2
              have GX2 : W.grownBy (wb.setCell ⟨pb, 2, none⟩ (.slice a2 n2 c2')) (some pb) := gset (gsubc (galloc (gdrew GX1 1) _) hg2' (fun q e => by have := (P1.vs.lt q e).1; omega)) _ _
              generalize wb.setCell ⟨pb, 2, none⟩ (.slice a2 n2 c2') = W2 at *
              clear P1 GX1 C5 y2 h2 p2 pf2 hg2' ho2 ha2 q2 r2
              go_wp2_with fail
              go_roundw
              case rel => exact ⟨k + 2, j + 1, _, _, by omega, by go_num, by show _ = _; have := HK.out; omega, P2, GX2⟩
              case measure => simp [intOf]; omega))
        · obtain rfl : k = N.length := by omega
          have HJ : Hid (N.length / 2 = j) := by show _ = _; have := HK.out; omega
          have HP : Hid (readP s = ⟨N[0], dsN N j, vsN N j⟩) := by
            show _ = _
            rw [readP, ← HNl.out, PZ.ofN, HJ.out]; simp [List.getD_eq_getElem?_getD, hn0]
          have HO : Hid (readPok s = (PZ.mk N[0] (dsN N j) (vsN N j)).ok) := by
            show _ = _
            rw [readPok, HNa.out, ← HNl.out, HOd.out, HP.out]; rfl
          have Z4 := Z3.kept GX (by intro e; cases e; omega)
          have GG : w.grownBy wr none := gsub G3 GX (fun q e => by cases e; omega)
          clear Z3 C3 C4
          obtain ⟨p0, pf0⟩ := PB.c0
          obtain ⟨p1, pf1⟩ := PB.c1
          obtain ⟨p2, pf2⟩ := PB.c2
          cases hok : (PZ.mk N[0] (dsN N j) (vsN N j)).ok
          · have HF : Hid (readPok s = false) := HO.out.trans hok
            have HZ := Lib.hid (readPZ_no HF.out)
            go_wp2_with fail
            go_fit (specPatchOk_any ⟨N[0], dsN N j, vsN N j⟩ _ _ _ PB.ds.rd PB.vs.rd)
            rintro e w5 ⟨rfl, g5⟩
            rw [hok]
            obtain ⟨⟨z0, y0⟩, ⟨z1, y1⟩, ⟨z2, y2⟩⟩ := Z4.kept g5 (by simp)
            have hR := ret_zero3 (r := w.heap.size) (gtrans GG g5) (Nat.le_refl _)
            go_wp2_with fail
            exact bodyPost_ret (v := .tuple #[.agg #[.int .i64 0, .slice none 0 0, .slice none 0 0], .bool false]) (by simp [results, Tryz.results158, go_sem, z0, z1, z2]) rfl (by rw [HZ.out, HF.out]; exact hR)
          · have HF : Hid (readPok s = true) := HO.out.trans hok
            have HZ := Lib.hid ((readPZ_yes HF.out).trans HP.out)
            go_wp2_with fail
            go_fit (specPatchOk_any ⟨N[0], dsN N j, vsN N j⟩ _ _ _ PB.ds.rd PB.vs.rd)
            rintro e w5 ⟨rfl, g5⟩
            rw [hok]
            obtain ⟨⟨z0, y0⟩, ⟨z1, y1⟩, ⟨z2, y2⟩⟩ := Z4.kept g5 (by simp)
            have P5 := PB.kept g5
            have p0' := gkc g5 p0
            have p1' := gkc g5 p1
            have p2' := gkc g5 p2
            have hdn : (Value.slice da dn dc).ownBlock ≠ some w.heap.size := fun e => by have := (P5.ds.lt _ e).1; omega
            have hvn : (Value.slice va vn vc).ownBlock ≠ some w.heap.size := fun e => by have := (P5.vs.lt _ e).1; omega
            go_wp2_with fail
            exact bodyPost_ret (v := .tuple #[.agg #[.int .i64 N[0], .slice da dn dc, .slice va vn vc], .bool true]) (by simp [results, Tryz.results158, go_sem, z0, z1, z2]) rfl (by
              rw [HZ.out, HF.out]
              exact ⟨_, _, rfl, (Own.other (Own.other (Own.other P5.ds hdn _) hdn _) hdn _).lower (by omega), (Own.other (Own.other (Own.other P5.vs hvn _) hvn _) hvn _).lower (by omega), P5.ap, gset3 (gtrans GG g5) (Nat.le_refl _) _ _ _⟩)
theorem specReadPatch_any (s : List UInt8) (w : World) (hs : s.length ≤ 1000) :
    Calls Tryz.prog 158 #[.string (str s)] w (GotP (readPZ s) (readPok s) w) := specReadPatch_big s w (by omega)
end Go.Proofs.YteialkknddpbjaaGreatDoor
