/- What ShowPatch returns, the program's and the specification's. What the program's ShowPatch returns. What the program's numbersIn returns: the numbers of a text. What the program's patchFrom and ReadPatch return. -/
import Derived.Lib.SmallJoins
import Derived.Lib.LaidTab
import Derived.Deep.RegionLaw
import Derived.Test.YteialkknddpbjaaGreatDoorPH05
import Derived.Test.YteialkknddpbjaaGreatDoorPH15
import Derived.Test.YteialkknddpbjaaGreatDoorPH20
import Derived.Test.YteialkknddpbjaaGreatDoorPH21
import Derived.Test.YteialkknddpbjaaGreatDoorPH22
import Derived.Test.YteialkknddpbjaaGreatDoorPH23
namespace Go.Proofs.YteialkknddpbjaaGreatDoor
open Go.ChangeShapes Go.WideShapes Go.ChangeAt Go.RowKit
attribute [local go_sem] str_list str_size str_add lit_list0 add_lit lit_add str_cut

/-- the library's table of powers of ten is laid -/
abbrev Pow10 (w : World) : Prop := Lib.TabIs Tryz.prog w "internal/strconv.uint64pow10" .u64 Lib.pow10Tab
theorem pow10_some : (Tryz.prog.globalNamed "internal/strconv.uint64pow10").isSome = true := by kernel_rfl
theorem pow10_named : ∃ g, Tryz.prog.globalNamed "internal/strconv.uint64pow10" = some g := Option.isSome_iff_exists.1 pow10_some
theorem Pow10.kept {w w' : World} (h : Pow10 w) (g : w.grownBy w' none) : Pow10 w' := by
  obtain ⟨k, hk⟩ := pow10_named
  exact Joins.tab_stays hk h (gbelow g) (Nat.le_refl _)
theorem digT_dec (n : Nat) : Lib.decDigits n = digT n := by
  induction n using Nat.strongRecOn with
  | ind n ih =>
    rw [Lib.decDigits, digT]
    split
    · rfl
    · rw [ih (n / 10) (by omega)]; rfl
theorem itoa_dig (n : Nat) : Lib.itoa (n : Int) = digT n := by
  unfold Lib.itoa
  rw [if_neg (by omega), Int.toNat_natCast, digT_dec]
theorem gGrow (w : World) (k : Nat) (os : Array Obj) : w.grownBy (Sort.grow (w.drewN k) os) none :=
  ⟨rfl, rfl, rfl, by simp [Sort.grow], fun i hi _ => by simp [Sort.grow]; rw [Array.getElem?_append_left (by simpa using hi)]⟩
theorem formatInt_any (n : Nat) (w : World) (hn : n ≤ 1000000) (ht : Pow10 w) :
    Calls Tryz.prog 201 #[.int .i64 n, .int .i64 10] w (Pure (.string (str (digT n))) w) := by
  go_fit (Tryz.strconv_FormatInt_10 n (by omega) (by omega) w ht)
  rintro e w' ⟨rfl, k, os, rfl⟩
  exact ⟨by rw [itoa_dig]; rfl, gGrow w k os⟩
theorem join_words (l : List (List UInt8)) : Lib.join l [32] = wordsT l := by
  induction l with
  | nil => rfl
  | cons x r ih =>
    cases r with
    | nil => simp [Lib.join, List.intercalate, wordsT]
    | cons y r =>
      rw [wordsT, ← ih]
      simp [Lib.join, List.intercalate]
theorem below_grown {w w' : World} (h : Below w.heap.size w w') : w.grownBy w' none := ⟨h.os, h.tape, h.output, h.size, fun k hk _ => h.block k hk⟩
theorem join_any (v : Value) (l : List (List UInt8)) (base : Nat) (w : World) (h : TS w base v l) (hne : l ≠ []) (hl : (wordsT l).length ≤ 140737488355328) (hn : l.length ≤ 1000) :
    Calls Tryz.prog 203 #[v, .string ⟨#[32]⟩] w (Pure (.string (str (wordsT l))) w) := by
  obtain ⟨a, cap, rfl, hm⟩ := Own.form h
  have h0 : 0 < l.length := List.length_pos_iff.2 hne
  obtain ⟨g, o, rfl, -⟩ := TR.at h.rd 0 h0
  have hc := h.rd
  obtain ⟨a', cap', e1, hcap, hcm, h4⟩ := hc
  cases e1
  rcases h4 with h4 | ⟨g', o', e2, hb, hcell⟩
  · exact absurd h4 hne
  cases e2
  have hmap : (l.map str).map (fun s => s.data.toList) = l := by
    rw [List.map_map]
    exact (List.map_congr_left (fun x _ => by simp [str])).trans (List.map_id l)
  have C := Tryz.strings_Join g o cap (l.map str) ⟨#[32]⟩ w (fun j x hj => by
    rw [List.getElem?_map] at hj
    obtain ⟨t, ht, rfl⟩ := Option.map_eq_some_iff.1 hj
    exact hcell j _ (by rw [strE_all, List.getElem?_map, ht]; rfl)) hb (by simp; omega) (by simpa using hcap) (by rw [hmap, show (⟨#[32]⟩ : ByteArray).data.toList = [32] from rfl, join_words]; exact hl)
  rw [List.length_map, hmap] at C
  go_fit C
  rintro e w' ⟨rfl, hbel⟩
  exact ⟨by rw [show (⟨#[32]⟩ : ByteArray).data.toList = [32] from rfl, join_words]; rfl, below_grown hbel⟩
/-- what ShowPatch returns -/
def showZ (p : PZ) : List UInt8 := if p.ok then p.text else []
theorem showZ_no {p : PZ} (h : p.ok = false) : showZ p = [] := by simp [showZ, h]
theorem showZ_yes {p : PZ} (h : p.ok = true) : showZ p = p.text := by simp [showZ, h]
end Go.Proofs.YteialkknddpbjaaGreatDoor
namespace Go.Proofs.YteialkknddpbjaaGreatDoor
open Go.ChangeShapes Go.WideShapes Go.ChangeAt Go.RowKit
attribute [local go_sem] str_list str_size str_add lit_list0 add_lit lit_add str_cut

theorem words_text {ds vs : List Int} (rn : Nat) (hr : rn ≤ 1000000) (hd : ∀ i (h : i < ds.length), 0 ≤ ds[i] ∧ ds[i] ≤ 1000000) (hv : ∀ i (h : i < vs.length), 0 ≤ vs[i] ∧ vs[i] ≤ 1000000) (h2 : ds.length ≤ 2) : (wordsT (digT rn :: pairsW ds vs)).length ≤ 1000 := by
  have h1 := words_small hr hd hv
  have h3 := pairsW_length ds vs
  have : ∀ (l : List (List UInt8)), (∀ t ∈ l, t.length ≤ 7) → (wordsT l).length ≤ 8 * l.length := by
    intro l
    induction l with
    | nil => intro _; simp [wordsT]
    | cons x r ih =>
      intro hl
      have hx := hl x (by simp)
      have hr := ih (fun t ht => hl t (by simp [ht]))
      cases r with
      | nil => simp [wordsT]; omega
      | cons y r => simp only [wordsT, List.length_append, List.length_cons] at hr ⊢; omega
  have := this _ h1
  simp only [List.length_cons] at this
  omega
theorem gOne {a b c : World} {q : Nat} {r : Option Nat} (h : a.grownBy b (some q)) (g : b.grownBy c r) (hr : ∀ k, r = some k → k = q ∨ a.heap.size ≤ k) : a.grownBy c (some q) :=
  ⟨g.os.trans h.os, g.tape.trans h.tape, g.output.trans h.output, Nat.le_trans h.size g.size, fun i hi hne => (g.block i (Nat.lt_of_lt_of_le hi h.size) (by intro e; rcases hr i e.symm with x | x; exact hne (by rw [x]); omega)).trans (h.block i hi hne)⟩
set_option maxRecDepth 8000 in
set_option maxHeartbeats 4000000 in
theorem implShowPatch_any (p : PZ) (dv vv : Value) (w : World) (hd : IR w dv p.ds) (hv : IR w vv p.vs) (ht : Pow10 w) :
    Calls Tryz.prog 121 #[.agg #[.int .i64 p.row, dv, vv]] w (Pure (.string (str (showZ p))) w) := by
  obtain ⟨da, dc, rfl, dm⟩ := hd.form
  obtain ⟨va, vc, rfl, vm⟩ := hv.form
  have B0 := Box3.new w (.int .i64 p.row) (.slice da p.ds.length dc) (.slice va p.vs.length vc) 97
  have G0 := galloc (grefl w) (.cells #[.int .i64 p.row, .slice da p.ds.length dc, .slice va p.vs.length vc] 97)
  go_enter Tryz.func121, Tryz.ntmps121
  go_upto_region 1 with (fail)
  generalize w.alloc (.cells #[.int .i64 p.row, .slice da p.ds.length dc, .slice va p.vs.length vc] 97) = W0 at *
  generalize w.heap.size = bb at B0 ⊢
  have HB0 := Lib.hid B0
  obtain ⟨b0, b1, b2⟩ := B0
  cases hok : p.ok
  · have HZ := Lib.hid (showZ_no hok)
    go_wp2_with fail
    go_fit (implPatchOk_any p _ _ _ (hd.kept G0) (hv.kept G0))
    rintro e w1 ⟨rfl, g1⟩
    rw [hok]
    go_wp2_with fail
    go_ret
    exact ⟨ret_str (by rw [HZ.out]), gtrans G0 g1⟩
  have HZ := Lib.hid (showZ_yes hok)
  have HF := Lib.hid (ok_fit hok)
  have HL := Lib.hid (ok_lists hok)
  go_wp2_with fail
  go_fit (implPatchOk_any p _ _ _ (hd.kept G0) (hv.kept G0))
  rintro e w1 ⟨rfl, g1⟩
  rw [hok]
  have G1 := gtrans G0 g1
  replace HB0 := Lib.hid (HB0.out.kept g1)
  have HT := Lib.hid (ht.kept G1)
  have HT0 := Lib.hid ht
  clear b0 b1 b2 hok G0 g1 ht
  obtain ⟨row, ds, vs⟩ := p
  dsimp only at *
  obtain ⟨⟨hr0, hr1⟩, hlen, hl2, hds, hvs⟩ := HF.out
  dsimp only at hr0 hr1 hlen hl2 hds hvs
  obtain ⟨rn, rfl⟩ := Int.eq_ofNat_of_zero_le hr0
  have HLn := Lib.hid hlen
  have HDs : Hid (∀ i (h : i < ds.length), 0 ≤ ds[i] ∧ ds[i] ≤ 1000000) := hds
  have HVs : Hid (∀ i (h : i < vs.length), 0 ≤ vs[i] ∧ vs[i] ≤ 1000000) := hvs
  have HTx : Hid (PZ.text ⟨(rn : Int), ds, vs⟩ = wordsT (digT rn :: pairsW ds vs)) := by show _ = _; simp [PZ.text, PZ.words]
  have hrn : rn ≤ 1000000 := by omega
  clear hr0 hr1 hlen hds hvs HF
  obtain ⟨b0, b1, b2⟩ := HB0.out
  go_wp2_with fail
  go_fit (formatInt_any rn _ hrn HT.out)
  rintro e w2 ⟨rfl, g2⟩
  have G2 := gtrans G1 g2
  replace HB0 := Lib.hid (HB0.out.kept g2)
  have C0 := TS.single w2 (digT rn) (Nat.le_refl w2.heap.size)
  have e2 := galloc (grefl w2) (.cells #[.string (str (digT rn))] 9)
  replace HT := Lib.hid (HT.out.kept (gtrans g2 e2))
  clear b0 b1 b2 G1 g2
  go_upto_region 4 with (fail)
  have G3 := gtrans G2 e2
  replace HB0 := Lib.hid (HB0.out.kept e2)
  have hs3 : w2.heap.size ≤ (w2.alloc (.cells #[.string (str (digT rn))] 9)).heap.size := e2.size
  have hBs : w2.heap.size < (w2.alloc (.cells #[.string (str (digT rn))] 9)).heap.size := by simp
  have hwB : w.heap.size ≤ w2.heap.size := G2.size
  generalize w2.alloc (.cells #[.string (str (digT rn))] 9) = W3 at *
  generalize w2.heap.size = B at *
  obtain ⟨b0, b1, b2⟩ := HB0.out
  clear e2 G2
  go_wp2_with fail
  go_fit (changeIn_any rn ds vs _ _ _ (hd.kept G3) (hv.kept G3))
  rintro e w4 ⟨rfl, g4⟩
  have CP := putsOf_any ds vs
  rw [HL.out.1] at CP
  generalize chV ds vs = cv at *
  go_wp2_with fail
  go_fit (CP _)
  rintro e w5 ⟨pv, rfl, P, g5⟩
  obtain ⟨pa, pc, rfl, -⟩ := Own.form P
  have g45 := gtrans g4 g5
  have G5 := gtrans G3 g45
  have C5 := Own.grew C0 g45
  replace HT := Lib.hid (HT.out.kept g45)
  have hs5 := g45.size
  have HPb : Hid ((Value.slice pa (ds.zip vs).length pc).ownBlock ≠ some B) := fun e => by have := (Own.lt P _ e).1; have := g4.size; omega
  have HZl : Hid ((ds.zip vs).length = ds.length) := by show _ = _; rw [List.length_zip, HLn.out]; simp
  have HZk : Hid (∀ k (h : k < (ds.zip vs).length) (h1 : k < ds.length) (h2 : k < vs.length), (ds.zip vs)[k].1 = ds[k] ∧ (ds.zip vs)[k].2 = vs[k]) := fun k _ _ _ => by simp
  generalize ds.zip vs = L at *
  have hL2 : L.length ≤ 2 := by rw [HZl.out]; exact hl2
  clear g4 g5 g45 C0 G3 HB0 b0 b1 b2 CP
  go_wp2_with fail
  go_loopw [3, 17] (fun out i wr => ∃ k : Nat, k ≤ L.length ∧ i = .int .i64 k ∧ TS wr B out (digT rn :: pairsW (ds.take k) (vs.take k)) ∧ w5.grownBy wr (some B) ∧ ∀ j, out.ownBlock = some j → j = B ∨ w5.heap.size ≤ j) (fun _ i _ => L.length - (intOf i).toNat)
  case atStart => exact ⟨0, Nat.zero_le _, rfl, C5, World.grownBy.refl _ _, fun j e => by cases e; exact .inl rfl⟩
  case round =>
    clear C5
    obtain ⟨k, hk, rfl, C, G, hob⟩ := hrel
    obtain ⟨oa, om, oc, rfl⟩ := Own.sl C
    have hsz := G.size
    by_cases hlt : k < L.length
    · have hki : (k : Int) < L.length := by omega
      have k1 : k < ds.length := by rw [← HZl.out]; exact hlt
      have k2 : k < vs.length := by rw [HLn.out]; exact k1
      have HP := Lib.hid (pairsW_next ds vs k k1 k2)
      have hpl := pairsW_length (ds.take k) (vs.take k)
      have htl : (ds.take k).length ≤ 2 := by simp; omega
      obtain ⟨g, rfl, lg, ⟨x0, -⟩, ⟨x1, -⟩⟩ := Own.put_at (Own.kept P G (.inr HPb.out)) k hlt
      have hz := HZk.out k hlt k1 k2
      rw [hz.1] at x0
      rw [hz.2] at x1
      have hdb := HDs.out k k1
      have hvb := HVs.out k k2
      obtain ⟨dn, hdn⟩ := Int.eq_ofNat_of_zero_le hdb.1
      obtain ⟨vn, hvn⟩ := Int.eq_ofNat_of_zero_le hvb.1
      rw [hdn] at x0 hdb HP
      rw [hvn] at x1 hvb HP
      simp only [Int.toNat_natCast] at HP
      have hdn' : dn ≤ 1000000 := by omega
      have hvn' : vn ≤ 1000000 := by omega
      clear hdn hvn hdb hvb hz
      have q0 : (wr.alloc (.cells #[.int .i64 dn, .int .i64 vn] 174)).cell? ⟨wr.heap.size, 0, none⟩ = some (.int .i64 dn) := by simp [go_sem]
      have q1 : (wr.alloc (.cells #[.int .i64 dn, .int .i64 vn] 174)).cell? ⟨wr.heap.size, 1, none⟩ = some (.int .i64 vn) := by simp [go_sem]
      have e3 := galloc (grefl wr) (.cells #[.int .i64 dn, .int .i64 vn] 174)
      go_upto_region 7 with (fail)
      have C3 := Own.grew C e3
      have G3 := gOne G e3 (fun k e => by cases e)
      have hT3 := HT0.out.kept (gdrew (gsub G5 G3 (fun k e => by cases e; exact hwB)) 1)
      have hs9 : w5.heap.size ≤ (wr.alloc (.cells #[.int .i64 dn, .int .i64 vn] 174)).heap.size := G3.size
      generalize wr.alloc (.cells #[.int .i64 dn, .int .i64 vn] 174) = W at *
      generalize wr.heap.size = qb at *
      have HTW := Lib.hid hT3
      clear x0 x1 e3 C G hT3
      go_region_law (first | (go_simp; go_at_call 201; go_fit (formatInt_any dn _ hdn' HTW.out); rintro e w8 ⟨rfl, g8⟩; have g8' := gtrans (gdrew (grefl W) 1) g8; have q1' := gkc g8' q1; have q0' := gkc g8' q0; have HT8 := Lib.hid (HTW.out.kept g8)) | (go_simp; go_at_call 201; go_fit (formatInt_any vn _ hvn' HT8.out); rintro e w9 ⟨rfl, g9⟩; have g9' := gtrans g8' g9) | (refine step_append_o (E := strE) (base := B) rfl (.tmp 21) (.tmp 28) rfl rfl rfl (Own.grew C3 (galloc g9' _)) (TS.two _ _ _ (Nat.zero_le _)) (by simp; omega) (by decide) (by have := g9'.size; simp; omega) ?_; intro v' wa hown hga hat; have GA := gOne (gOne G3 (galloc g9' _) (fun k e => by cases e)) hga (fun j e => hob j e); have hob2 : ∀ j, v'.ownBlock = some j → j = B ∨ w5.heap.size ≤ j := fun j e => by (rcases hat with x | x; exact hob j (x.symm.trans e); (rw [x] at e; cases e; right; have := G3.size; have := g9'.size; simp; omega))))
      all_goals (
        rw [List.cons_append, ← HP.out] at hown
        obtain ⟨va', vn', vc', rfl⟩ := Own.sl hown
        go_wp2_with fail
        go_roundw
        case rel => exact ⟨k + 1, by omega, by go_num, hown, GA, hob2⟩
        case measure => simp [intOf]; omega)
    · obtain rfl : k = L.length := by omega
      rw [HZl.out, List.take_length, ← HLn.out, List.take_length] at C
      have GF := gsub G5 G (fun k e => by cases e; exact hwB)
      have HWt := Lib.hid (words_text rn hrn HDs.out HVs.out hl2)
      go_wp2_with fail
      go_fit (join_any _ (digT rn :: pairsW ds vs) B _ C (by simp) (by have := HWt.out; omega) (by have := pairsW_length ds vs; simp; omega))
      rintro e w' ⟨rfl, g'⟩
      go_wp2_with fail
      go_ret
      exact ⟨ret_str (by rw [HZ.out, HTx.out]), gtrans GF g'⟩
end Go.Proofs.YteialkknddpbjaaGreatDoor
namespace Go.Proofs.YteialkknddpbjaaGreatDoor
open Go.ChangeShapes Go.WideShapes Go.ChangeAt Go.RowKit
attribute [local go_sem] str_list str_size str_add lit_list0 add_lit lit_add str_cut

/-- what the library reads of its own variables: the two errors are there, MaxLen is a number -/
structure LibV (w : World) : Prop where
  syn : ∃ tp p, w.var? Tryz.prog "strconv.ErrSyntax" = some #[.iface tp p]
  rng : ∃ tp p, w.var? Tryz.prog "strconv.ErrRange" = some #[.iface tp p]
  max : ∃ m, w.cell? ⟨0, 0, none⟩ = some (.int .i64 m)
theorem LibV.kept {w w' : World} (h : LibV w) (g : w.grownBy w' none) : LibV w' := by
  obtain ⟨⟨t1, p1, h1⟩, ⟨t2, p2, h2⟩, ⟨m, h3⟩⟩ := h
  exact ⟨⟨t1, p1, Joins.var_stays (g := 2) (by kernel_rfl) h1 (gbelow g) (Nat.le_refl _)⟩, ⟨t2, p2, Joins.var_stays (g := 3) (by kernel_rfl) h2 (gbelow g) (Nat.le_refl _)⟩, ⟨m, gkc g h3⟩⟩
theorem str_data (x : ByteArray) : str x.data.toList = x := by simp [str]
theorem split_any (s : List UInt8) (w : World) (hs : s.length ≤ 1048576) (hV : LibV w) :
    Calls Tryz.prog 271 #[.string (str s), .string ⟨#[32]⟩] w (GotT (splitT 32 s) w) := by
  obtain ⟨m, hm⟩ := hV.max
  have hsz : (str s).size = s.length := str_size s
  have hl := Lib.splitB_all ⟨#[32]⟩ (by decide) 0 _ (str s) rfl
  have hd := split_lib (str s)
  rw [show (str s).data.toList = s by simp [str]] at hd
  have hp : Lib.splitB ⟨#[32]⟩ 0 (Lib.countB (str s) ⟨#[32]⟩) (str s) = (splitT 32 s).map str := by
    rw [← hd, List.map_map]
    exact ((List.map_congr_left (fun x _ => str_data x)).trans (List.map_id _)).symm
  have hn : Lib.countB (str s) ⟨#[32]⟩ + 1 = (splitT 32 s).length := by rw [← hl, hp, List.length_map]
  go_fit (Tryz.strings_Split (str s) ⟨#[32]⟩ m w (by rw [hsz]; omega) hm (by decide))
  rintro e w' ⟨rfl, rfl⟩
  rw [hp, hn]
  have hl9 := splitG_length 32 [] s
  refine ⟨_, rfl, Own.fresh strE w (splitT 32 s) _ ?_ (by unfold splitT; omega) (Nat.le_refl _), galloc (grefl _) _⟩
  rw [strE_all, List.map_map]
  rfl
/-- a word is read, or not -/
def GotN (t : List UInt8) (w : World) (e : Ending) (w' : World) : Prop := w.grownBy w' none ∧ ((parseB t = true ∧ e = .returned (.tuple #[.int .i64 (parseV t), .nilIface])) ∨ (parseB t = false ∧ ∃ v tt pp, e = .returned (.tuple #[.int .i64 v, .iface tt pp])))
theorem parseInt_any (t : List UInt8) (w : World) (ht : t.length ≤ 1048576) (hV : LibV w) :
    Calls Tryz.prog 272 #[.string (str t), .int .i64 10, .int .i64 64] w (GotN t w) := by
  have hsz : (str t).size = t.length := str_size t
  have hdt : (str t).data.toList = t := by simp [str]
  obtain ⟨⟨t1, p1, h1⟩, ⟨t2, p2, h2⟩, -⟩ := hV
  rcases hp : Lib.parseIntB 64 t with v | _ | _
  · go_fit (Tryz.strconv_ParseInt_10_at64_ok (str t) (by rw [hsz]; omega) v (by rw [hdt]; exact hp) w)
    rintro e w' ⟨rfl, hw⟩
    refine ⟨?_, .inl ⟨by simp [parseB, hp], by simp [parseV, hp]⟩⟩
    rcases hw with rfl | ⟨x, rfl⟩
    · exact grefl _
    · exact below_grown (Lib.bytesWorld_below _ _ _)
  · go_fit (Tryz.strconv_ParseInt_10_at64_syntax_var (str t) (by rw [hsz]; omega) (by rw [hdt]; exact hp.trans rfl) t1 p1 w h1)
    rintro e w' ⟨n, rfl, -, -, hb⟩
    exact ⟨below_grown hb, .inr ⟨by simp [parseB, hp], _, _, _, rfl⟩⟩
  · go_fit (Tryz.strconv_ParseInt_10_at64_range_var (str t) (by rw [hsz]; omega) (by rw [hdt]; exact hp) t2 p2 w h2)
    rintro e w' ⟨n, rfl, -, -, hb⟩
    exact ⟨below_grown hb, .inr ⟨by simp [parseB, hp], _, _, _, rfl⟩⟩
def GotNs (l : List Int) (w : World) (e : Ending) (w' : World) : Prop := ∃ v, e = .returned v ∧ IS w' w.heap.size v l ∧ w.grownBy w' none
theorem numsP_no {s : List UInt8} {k : Nat} (hk : k < (splitT 32 s).length) (h : parseB (splitT 32 s)[k] = false) : numsP s = [] := by
  unfold numsP
  rw [if_neg]
  intro e
  rw [List.all_eq_true.1 e _ (List.getElem_mem hk)] at h
  cases h
set_option maxHeartbeats 2000000 in
theorem numbersIn_any (s : List UInt8) (w : World) (hs : s.length ≤ 1048576) (hV : LibV w) :
    Calls Tryz.prog 244 #[.string (str s)] w (GotNs (numsP s) w) := by
  have HLn : Hid ((splitT 32 s).length ≤ 1048577) := by show _ ≤ _; have := splitG_length 32 [] s; unfold splitT; omega
  have HPl : Hid (∀ x ∈ splitT 32 s, x.length ≤ 1048576) := fun x hx => by have := splitG_mem 32 [] s x hx; simp at this; omega
  have HNo : Hid (∀ k (hk : k < (splitT 32 s).length), parseB (splitT 32 s)[k] = false → numsP s = []) := fun k hk h => numsP_no hk h
  have HYes : Hid ((splitT 32 s).all parseB = true → numsP s = (splitT 32 s).map parseV) := fun h => by unfold numsP; rw [if_pos h]
  have HV := Lib.hid hV
  go_enter Tryz.func244, Tryz.ntmps244
  go_wp2_with fail
  go_fit (split_any s _ hs hV)
  rintro e w1 ⟨sv, rfl, T1, g1⟩
  obtain ⟨sa, sc, rfl, -⟩ := Own.form T1
  have hll := HLn.out
  generalize splitT 32 s = L at *
  clear hV
  go_wp2_with fail
  go_loopw [3, 11] (fun out i wr => ∃ k : Nat, k ≤ L.length ∧ i = .int .i64 k ∧ IS wr w1.heap.size out ((L.take k).map parseV) ∧ w1.grownBy wr none ∧ Hid ((L.take k).all parseB = true)) (fun _ i _ => L.length - (intOf i).toNat)
  case atStart => exact ⟨0, Nat.zero_le _, rfl, Own.nil _ _ _, grefl _, rfl⟩
  case round =>
    obtain ⟨k, hk, rfl, C, G, HA⟩ := hrel
    obtain ⟨na, nn, nc, rfl⟩ := Own.sl C
    have hsz := G.size
    by_cases hlt : k < L.length
    · have hki : (k : Int) < L.length := by omega
      obtain ⟨g, o, rfl, x0⟩ := TR.at (T1.rd.kept G) k hlt
      have hpl := HPl.out L[k] (List.getElem_mem hlt)
      have HNx : Hid (((L.take (k + 1)).map parseV = (L.take k).map parseV ++ [parseV L[k]]) ∧ (L.take (k + 1)).all parseB = parseB L[k]) := by
        rw [List.take_succ_eq_append_getElem hlt, List.map_append, List.all_append, HA.out]
        exact ⟨rfl, by simp⟩
      have HNok := Lib.hid (HNo.out k hlt)
      generalize L[k] = t at *
      go_wp2_with fail
      go_fit (parseInt_any t _ hpl (HV.out.kept (gtrans g1 G)))
      rintro e w2 ⟨g2, ⟨hb, rfl⟩ | ⟨hb, v, tt, pp, rfl⟩⟩
      · have C2 := Own.grew C g2
        have hs2 := g2.size
        have hln : ((L.take k).map parseV).length ≤ 1048577 := by simp; omega
        go_wp2_with (first | (at_builtin; refine wpList_append_o (E := intE) (base := w1.heap.size) rfl (.tmp 22) (.tmp 24) rfl rfl rfl (Own.grew C2 (galloc (grefl _) _)) (IS.single _ (parseV t) (Nat.zero_le _)) (by simp only [List.length_cons, List.length_nil]; omega) (by decide) (by simp; omega) ?_; intro v1 wa ho1 hg1 ha1; have GA := gnew (galloc (gtrans G g2) _) hg1 (fun j e => (Own.lt C2 j e).1); obtain ⟨a1, n1, c1', rfl⟩ := Own.sl ho1))
        go_roundw
        case rel => exact ⟨k + 1, by omega, by go_num, by rw [HNx.out.1]; exact ho1, GA, by show _ = _; rw [HNx.out.2, hb]⟩
        case measure => simp [intOf]; omega
      · have HE : Hid (numsP s = []) := HNok.out hb
        go_wp2_with fail
        go_ret
        exact ⟨_, rfl, by rw [HE.out]; exact Own.nil _ _ _, gtrans (gtrans g1 G) g2⟩
    · obtain rfl : k = L.length := by omega
      have HA2 := HA.out
      rw [List.take_length] at HA2
      rw [List.take_length] at C
      have HE := Lib.hid (HYes.out HA2)
      clear HA2
      go_wp2_with fail
      go_ret
      exact ⟨_, rfl, by rw [HE.out]; exact Own.lower C g1.size, gtrans g1 G⟩
end Go.Proofs.YteialkknddpbjaaGreatDoor
namespace Go.Proofs.YteialkknddpbjaaGreatDoor
open Go.ChangeShapes Go.WideShapes Go.ChangeAt Go.RowKit
attribute [local go_sem] str_list str_size str_add lit_list0 add_lit lit_add str_cut

theorem PBox.row {w : World} {b B : Nat} {p : PZ} {dv vv : Value} (h : PBox w b B p dv vv) (x : Int) : PBox (w.setCell ⟨b, 0, none⟩ (.int .i64 x)) b B ⟨x, p.ds, p.vs⟩ dv vv :=
  ⟨h.c0.same _, h.c1.other (by simp) _, h.c2.other (by simp) _, Own.other h.ds h.db _, Own.other h.vs h.vb _, h.ap, h.db, h.vb⟩
def fromK (n : List Int) (k : Nat) : PZ := ⟨if 0 < k then n.getD 0 0 else 0, dsN n (k / 2), vsN n ((k - 1) / 2)⟩
theorem fromK_all (n : List Int) : fromK n n.length = fromN n := by
  unfold fromK fromN
  cases n with
  | nil => rfl
  | cons a r => simp
theorem fromK_one {n : List Int} (h : 0 < n.length) : fromK n (0 + 1) = ⟨n[0], (fromK n 0).ds, (fromK n 0).vs⟩ := by
  unfold fromK
  simp [List.getD_eq_getElem?_getD, h]
theorem fromK_odd {n : List Int} {k : Nat} (h : k < n.length) (ho : k % 2 = 1) : fromK n (k + 1) = { fromK n k with ds := (fromK n k).ds ++ [n[k]] } := by
  unfold fromK
  simp only [show (k + 1) / 2 = k / 2 + 1 by omega, show (k + 1 - 1) / 2 = (k - 1) / 2 by omega, dsN_next, show 0 < k + 1 by omega, show 0 < k by omega, if_true]
  rw [show 1 + 2 * (k / 2) = k by omega]
  simp [List.getD_eq_getElem?_getD, h]
theorem fromK_even {n : List Int} {k : Nat} (h : k < n.length) (ho : k % 2 = 0) (h0 : 0 < k) : fromK n (k + 1) = { fromK n k with vs := (fromK n k).vs ++ [n[k]] } := by
  unfold fromK
  simp only [show (k + 1) / 2 = k / 2 by omega, show (k + 1 - 1) / 2 = (k - 1) / 2 + 1 by omega, vsN_next, show 0 < k + 1 by omega, h0, if_true]
  rw [show 2 + 2 * ((k - 1) / 2) = k by omega]
  simp [List.getD_eq_getElem?_getD, h]
theorem fromK_len (n : List Int) (k : Nat) : (fromK n k).ds.length ≤ k ∧ (fromK n k).vs.length ≤ k := by
  unfold fromK
  simp only [dsN_len, vsN_len]
  omega
set_option maxRecDepth 8000 in
set_option maxHeartbeats 4000000 in
theorem patchFrom_any (n : List Int) (v : Value) (base : Nat) (w : World) (h : IS w base v n) (hn : n.length ≤ 1100000) :
    Calls Tryz.prog 243 #[v] w (GotPt (fromN n) w) := by
  obtain ⟨a, cap, rfl, hm⟩ := Own.form h
  have HOwn : Hid (∀ k, (Value.slice a n.length cap).ownBlock = some k → k < w.heap.size) := fun k e => (Own.lt h k e).2
  have Z0 := Zero3.new w
  have e1 := galloc (grefl (w.alloc (.cells #[.int .i64 0, .slice none 0 0, .slice none 0 0] 97))) (.cells #[.int .i64 0, .slice none 0 0, .slice none 0 0] 97)
  have G1 := gtrans (galloc (grefl w) (.cells #[.int .i64 0, .slice none 0 0, .slice none 0 0] 97)) e1
  have Z1 := Z0.kept e1 (by simp)
  have C0 : At ((w.alloc (.cells #[.int .i64 0, .slice none 0 0, .slice none 0 0] 97)).alloc (.cells #[.int .i64 0, .slice none 0 0, .slice none 0 0] 97)) (w.heap.size + 1) 0 (.int .i64 0) := by simp [At, go_sem]
  have C1 : At ((w.alloc (.cells #[.int .i64 0, .slice none 0 0, .slice none 0 0] 97)).alloc (.cells #[.int .i64 0, .slice none 0 0, .slice none 0 0] 97)) (w.heap.size + 1) 1 (.slice none 0 0) := by simp [At, go_sem]
  have C2 : At ((w.alloc (.cells #[.int .i64 0, .slice none 0 0, .slice none 0 0] 97)).alloc (.cells #[.int .i64 0, .slice none 0 0, .slice none 0 0] 97)) (w.heap.size + 1) 2 (.slice none 0 0) := by simp [At, go_sem]
  clear Z0 e1
  go_enter Tryz.func243, Tryz.ntmps243
  go_upto_region 2 with (fail)
  generalize (w.alloc (.cells #[.int .i64 0, .slice none 0 0, .slice none 0 0] 97)).alloc (.cells #[.int .i64 0, .slice none 0 0, .slice none 0 0] 97) = W at *
  have hpW : w.heap.size + 1 < W.heap.size := cell_lt C0.1
  generalize hpp : w.heap.size + 1 = pb at *
  have P0 : PBox W pb W.heap.size (fromK n 0) (.slice none 0 0) (.slice none 0 0) := ⟨C0, C1, C2, Own.nil _ _ _, Own.nil _ _ _, .inl rfl, by simp [Value.ownBlock], by simp [Value.ownBlock]⟩
  have hne : w.heap.size ≠ pb := by omega
  have HPb : Hid (w.heap.size ≤ pb) := by show _ ≤ _; omega
  clear C0 C1 C2 hpp
  have R1 := (Own.rd h).kept G1
  generalize hBW : W.heap.size = B at *
  have HB : Hid (W.heap.size = B) := hBW
  clear hBW h
  go_wp2_with fail
  go_loopw [8] (fun i wx => ∃ (k : Nat) (dv vv : Value), k ≤ n.length ∧ i = .int .i64 k ∧ PBox wx pb B (fromK n k) dv vv ∧ W.grownBy wx (some pb)) (fun i _ => n.length - (intOf i).toNat)
  case atStart => exact ⟨0, _, _, Nat.zero_le _, rfl, P0, World.grownBy.refl _ _⟩
  case round =>
    clear P0
    obtain ⟨k, dv, vv, hk, rfl, PB, GX⟩ := hrel
    obtain ⟨da, dn, dc, rfl⟩ := PB.ds.sl
    obtain ⟨va, vn, vc, rfl⟩ := PB.vs.sl
    have hwx : B ≤ wr.heap.size := by have := GX.size; rw [HB.out] at this; exact this
    have hfl := fromK_len n k
    by_cases hlt : k < n.length
    · have hki : (k : Int) < n.length := by omega
      obtain ⟨g, o, rfl, x0⟩ := Rd.at (Rd.only R1 (Only.of GX (S := fun j => j = pb) (fun j e => by cases e; rfl)) (fun j e x => by have := HOwn.out j e; have := HPb.out; omega)) k hlt
      by_cases h0 : k = 0
      · subst h0
        have HN := Lib.hid (fromK_one hlt)
        generalize n[0] = x at *
        have P1 := PB.row x
        have G1' : W.grownBy (wr.setCell ⟨pb, 0, none⟩ (.int .i64 x)) (some pb) := gset GX _ _
        rw [← HN.out] at P1
        obtain ⟨p0, pf0⟩ := PB.c0
        simp only [Nat.add_zero] at x0
        go_wp2_with fail
        go_roundw
        case rel => exact ⟨0 + 1, _, _, by omega, by go_num, P1, G1'⟩
        case measure => simp [intOf]; omega
      have h0b : ((k : Int) == 0) = false := by simp; omega
      obtain ⟨p1, pf1⟩ := PB.c1
      obtain ⟨p2, pf2⟩ := PB.c2
      have hpl := PB.lt
      by_cases ho : k % 2 = 1
      · have HN := Lib.hid (fromK_odd hlt ho)
        have hob : ((k : Int) % 2 == 1) = true := by simp; omega
        have hmod : Int.tmod (k : Int) 2 = 1 := by rw [Int.tmod_eq_emod_of_nonneg (by omega)]; omega
        generalize n[k] = x at *
        go_wp2_with (first | (at_builtin; refine wpList_append_o (E := intE) (base := B) rfl (.tmp 29) (.tmp 31) rfl rfl rfl (PB.ds.grew (galloc (grefl _) _)) (IS.single _ x (Nat.zero_le _)) (by simp only [List.length_cons, List.length_nil]; omega) (by decide) (by simp; omega) ?_; intro v1 wa ho1 hg1 ha1; obtain ⟨q1', r1⟩ := gkr hg1 PB.db (gk (galloc (grefl wr) _) PB.c1); have P1 := PBox.app1 (PB.kept (galloc (grefl wr) _)) hg1 ho1 ha1; have GX1 : W.grownBy (wa.setCell ⟨pb, 1, none⟩ v1) (some pb) := gset (gsubc (galloc GX _) hg1 (fun q e => by have := (PB.ds.lt q e).1; rw [HB.out]; omega)) _ _; obtain ⟨a1, n1, c1', rfl⟩ := ho1.sl))
        rw [← HN.out] at P1
        go_roundw
        case rel => exact ⟨k + 1, _, _, by omega, by go_num, P1, GX1⟩
        case measure => simp [intOf]; omega
      · have HN := Lib.hid (fromK_even hlt (by omega) (by omega))
        have hob : ((k : Int) % 2 == 1) = false := by simp; omega
        have hmod : Int.tmod (k : Int) 2 = 0 := by rw [Int.tmod_eq_emod_of_nonneg (by omega)]; omega
        generalize n[k] = x at *
        go_wp2_with (first | (at_builtin; refine wpList_append_o (E := intE) (base := B) rfl (.tmp 14) (.tmp 16) rfl rfl rfl (PB.vs.grew (galloc (grefl _) _)) (IS.single _ x (Nat.zero_le _)) (by simp only [List.length_cons, List.length_nil]; omega) (by decide) (by simp; omega) ?_; intro v1 wa ho1 hg1 ha1; obtain ⟨q1', r1⟩ := gkr hg1 PB.vb (gk (galloc (grefl wr) _) PB.c2); have P1 := PBox.app2 (PB.kept (galloc (grefl wr) _)) hg1 ho1 ha1; have GX1 : W.grownBy (wa.setCell ⟨pb, 2, none⟩ v1) (some pb) := gset (gsubc (galloc GX _) hg1 (fun q e => by have := (PB.vs.lt q e).1; rw [HB.out]; omega)) _ _; obtain ⟨a1, n1, c1', rfl⟩ := ho1.sl))
        rw [← HN.out] at P1
        go_roundw
        case rel => exact ⟨k + 1, _, _, by omega, by go_num, P1, GX1⟩
        case measure => simp [intOf]; omega
    · obtain rfl : k = n.length := by omega
      have HT := Lib.hid (fromK_all n)
      rw [HT.out] at PB
      generalize fromN n = P at *
      obtain ⟨row, D, V⟩ := P
      have GW : w.grownBy wr none := gsub G1 GX (fun q e => by cases e; exact HPb.out)
      obtain ⟨⟨z0, y0⟩, ⟨z1, y1⟩, ⟨z2, y2⟩⟩ := Z1.kept GX (by simp; omega)
      have lB : w.heap.size < B := by have := HPb.out; omega
      have hR := PB.res GW (r := w.heap.size) (by omega) (by omega) (i_not_own PB.ds lB) (i_not_own PB.vs lB) (.int .i64 row) (.slice da dn dc) (.slice va vn vc)
      obtain ⟨c0, f0⟩ := PB.c0
      obtain ⟨c1, f1⟩ := PB.c1
      obtain ⟨c2, f2⟩ := PB.c2
      dsimp only at c0
      clear PB GX
      go_wp2_with fail
      exact bodyPost_ret (v := .agg #[.int .i64 row, .slice da dn dc, .slice va vn vc]) (by simp [results, Tryz.results243, go_sem, z0, z1, z2]) rfl ⟨_, _, rfl, hR⟩
set_option maxRecDepth 8000 in
set_option maxHeartbeats 2000000 in
theorem implReadPatch_any (s : List UInt8) (w : World) (hs : s.length ≤ 1048576) (ht : Pow10 w) (hV : LibV w) :
    Calls Tryz.prog 187 #[.string (str s)] w (GotP (readPZ s) (readPok s) w) := by
  have HT := readP_test s
  have Hok := Lib.hid HT.1
  have Hp := Lib.hid HT.2
  have HNl : Hid ((numsP s).length ≤ 1100000) := by
    show _ ≤ _
    have := splitG_length 32 [] s
    unfold numsP
    split
    · simp [splitT]; omega
    · simp
  have HF : Hid ((fromN (numsP s)).ok = false → readPok s = false) := fun e => by rw [← HT.1, e]; rfl
  have HG : Hid ((fromN (numsP s)).ok = true → (fromN (numsP s)).text ≠ s → readPok s = false) := fun e e2 => by rw [← HT.1, e]; simp [e2]
  have HH : Hid ((fromN (numsP s)).ok = true → (fromN (numsP s)).text = s → readPok s = true ∧ readPZ s = fromN (numsP s)) := fun e e2 => by
    have h1 : readPok s = true := by rw [← HT.1, e]; simp [e2]
    exact ⟨h1, by rw [readPZ_yes h1, HT.2 h1]⟩
  clear HT Hok Hp
  have Z0 := Zero3.new w
  have G0 := galloc (grefl w) (.cells #[.int .i64 0, .slice none 0 0, .slice none 0 0] 97)
  go_enter Tryz.func187, Tryz.ntmps187
  go_upto_region 1 with (fail)
  generalize w.alloc (.cells #[.int .i64 0, .slice none 0 0, .slice none 0 0] 97) = W0 at *
  have hR0 := fun (w' : World) (g : W0.grownBy w' none) => ret_zero3 (r := w.heap.size) (gtrans G0 g) (Nat.le_refl _)
  have hw0 : w.heap.size < W0.heap.size := cell_lt Z0.c0.1
  go_wp2_with fail
  go_fit (numbersIn_any s _ hs (hV.kept G0))
  rintro e w1 ⟨nv, rfl, N1, g1⟩
  obtain ⟨na, nm, nc, rfl⟩ := Own.sl N1
  generalize numsP s = n at *
  go_wp2_with fail
  go_fit (patchFrom_any n _ _ _ N1 HNl.out)
  rintro e w2 ⟨dv, vv, rfl, s2, t2, ap2, g2⟩
  generalize fromN n = p at *
  have X2 := Box3.new w2 (.int .i64 p.row) dv vv 97
  have e2 := galloc (grefl w2) (.cells #[.int .i64 p.row, dv, vv] 97)
  have G2 := gtrans (gtrans g1 g2) e2
  have s3 := Own.grew s2 e2
  have t3 := Own.grew t2 e2
  obtain ⟨da, dn, dc, rfl⟩ := Own.sl s2
  obtain ⟨va, vn, vc, rfl⟩ := Own.sl t2
  have hw1 := g1.size
  clear s2 t2 g2 e2 N1
  go_upto_region 2 with (fail)
  generalize w2.alloc (.cells #[.int .i64 p.row, .slice da dn dc, .slice va vn vc] 97) = W2 at *
  generalize w2.heap.size = pb at *
  have HX := Lib.hid X2
  obtain ⟨x0, x1, x2⟩ := X2
  cases hok : p.ok
  · have HN := Lib.hid (HF.out hok)
    have HZ := Lib.hid (readPZ_no HN.out)
    go_wp2_with fail
    go_fit (implPatchOk_any p _ _ _ (Own.rd s3) (Own.rd t3))
    rintro e w4 ⟨rfl, g4⟩
    rw [hok]
    have G4 := gtrans G2 g4
    obtain ⟨⟨z0, y0⟩, ⟨z1, y1⟩, ⟨z2, y2⟩⟩ := Z0.kept G4 (by simp)
    go_wp2_with fail
    exact bodyPost_ret (v := .tuple #[.agg #[.int .i64 0, .slice none 0 0, .slice none 0 0], .bool false]) (by simp [results, Tryz.results187, go_sem, z0, z1, z2]) rfl (by rw [HN.out, HZ.out]; exact hR0 _ G4)
  have HSh := Lib.hid (showZ_yes hok)
  go_wp2_with fail
  go_fit (implPatchOk_any p _ _ _ (Own.rd s3) (Own.rd t3))
  rintro e w4 ⟨rfl, g4⟩
  rw [hok]
  have G4 := gtrans G2 g4
  have s4 := Own.grew s3 g4
  have t4 := Own.grew t3 g4
  clear x0 x1 x2 s3 t3 G2
  replace HX := Lib.hid (HX.out.kept g4)
  obtain ⟨x0, x1, x2⟩ := HX.out
  have hTb := ht.kept (gtrans G0 G4)
  by_cases he : p.text = s
  rotate_left
  · have HN := Lib.hid (HG.out hok he)
    have HZ := Lib.hid (readPZ_no HN.out)
    have hne : (showZ p == s) = false := by rw [HSh.out]; simpa using he
    go_wp2_with fail
    go_fit (implShowPatch_any p _ _ _ (Own.rd s4) (Own.rd t4) hTb)
    rintro e w5 ⟨rfl, g5⟩
    have G5 := gtrans G4 g5
    obtain ⟨⟨z0, y0⟩, ⟨z1, y1⟩, ⟨z2, y2⟩⟩ := Z0.kept G5 (by simp)
    clear HSh
    go_wp2_with fail
    exact bodyPost_ret (v := .tuple #[.agg #[.int .i64 0, .slice none 0 0, .slice none 0 0], .bool false]) (by simp [results, Tryz.results187, go_sem, z0, z1, z2]) rfl (by rw [HN.out, HZ.out]; exact hR0 _ G5)
  have HY := Lib.hid (HH.out hok he)
  have hne : (showZ p == s) = true := by rw [HSh.out, he]; simp
  go_wp2_with fail
  go_fit (implShowPatch_any p _ _ _ (Own.rd s4) (Own.rd t4) hTb)
  rintro e w5 ⟨rfl, g5⟩
  have G5 := gtrans G4 g5
  have s5 := Own.grew s4 g5
  have t5 := Own.grew t4 g5
  obtain ⟨row, D, V⟩ := p
  dsimp only at *
  clear x0 x1 x2 HSh he HF HG HH
  obtain ⟨x0, x1, x2⟩ := HX.out.kept g5
  have hs9 := (gtrans G0 g1).size
  have hdn : (Value.slice da dn dc).ownBlock ≠ some w.heap.size := i_not_own s5 (by omega)
  have hvn : (Value.slice va vn vc).ownBlock ≠ some w.heap.size := i_not_own t5 (by omega)
  have hR : GotP (readPZ s) (readPok s) w (.returned (.tuple #[.agg #[.int .i64 row, .slice da dn dc, .slice va vn vc], .bool true])) (set3 w5 w.heap.size (.int .i64 row) (.slice da dn dc) (.slice va vn vc)) := by
    rw [HY.out.1, HY.out.2]
    exact ⟨_, _, rfl, (Own.other (Own.other (Own.other s5 hdn _) hdn _) hdn _).lower hs9, (Own.other (Own.other (Own.other t5 hvn _) hvn _) hvn _).lower hs9, ap2, gset3 (gtrans G0 G5) (Nat.le_refl _) _ _ _⟩
  obtain ⟨⟨z0, y0⟩, ⟨z1, y1⟩, ⟨z2, y2⟩⟩ := Z0.kept G5 (by simp)
  clear s4 t4 s5 t5 HY
  go_wp2_with fail
  exact bodyPost_ret (v := .tuple #[.agg #[.int .i64 row, .slice da dn dc, .slice va vn vc], .bool true]) (by simp [results, Tryz.results187, go_sem, z0, z1, z2]) rfl hR
end Go.Proofs.YteialkknddpbjaaGreatDoor
