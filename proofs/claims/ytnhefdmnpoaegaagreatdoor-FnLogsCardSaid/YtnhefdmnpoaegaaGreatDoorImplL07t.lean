/- What the program's ShowPatch returns. -/
import Derived.Test.YtnhefdmnpoaegaaGreatDoorImplL07s
import Derived.Deep.RegionLaw
import Derived.Test.YtnhefdmnpoaegaaGreatDoorMem2
namespace Go.Proofs.YtnhefdmnpoaegaaGreatDoor
open Go.ChangeShapes Go.WideShapes Go.ChangeAt Go.RowKit
attribute [local go_sem] str_list str_size str_add lit_list0 add_lit lit_add str_cut

theorem words_text {ds vs : List Int} (rn : Nat) (hr : rn ≤ 1000000) (hd : ∀ i (h : i < ds.length), 0 ≤ ds[i] ∧ ds[i] ≤ 1000000) (hv : ∀ i (h : i < vs.length), 0 ≤ vs[i] ∧ vs[i] ≤ 1000000) (h2 : ds.length ≤ 2) : (wordsT (digT rn :: pairsW ds vs)).length ≤ 1000 := by
  have h1 := words_small hr hd hv
  have h3 := pairsW_length ds vs
  have : ∀ (l : List (List UInt8)), (∀ t ∈ l, t.length ≤ 7) → (wordsT l).length ≤ 8 * l.length := by
    intro l
    induction l with
    | nil => intro _; simp [wordsT]
    | cons x r ih =>
      intro hl
      have hx := hl x (by simp)
      have hr := ih (fun t ht => hl t (by simp [ht]))
      cases r with
      | nil => simp [wordsT]; omega
      | cons y r => simp only [wordsT, List.length_append, List.length_cons] at hr ⊢; omega
  have := this _ h1
  simp only [List.length_cons] at this
  omega
theorem gOne {a b c : World} {q : Nat} {r : Option Nat} (h : a.grownBy b (some q)) (g : b.grownBy c r) (hr : ∀ k, r = some k → k = q ∨ a.heap.size ≤ k) : a.grownBy c (some q) :=
  ⟨g.os.trans h.os, g.tape.trans h.tape, g.output.trans h.output, Nat.le_trans h.size g.size, fun i hi hne => (g.block i (Nat.lt_of_lt_of_le hi h.size) (by intro e; rcases hr i e.symm with x | x; exact hne (by rw [x]); omega)).trans (h.block i hi hne)⟩
set_option maxRecDepth 8000 in
set_option maxHeartbeats 4000000 in
theorem implShowPatch_any (p : PZ) (dv vv : Value) (w : World) (hd : IR w dv p.ds) (hv : IR w vv p.vs) (ht : Pow10 w) :
    Calls Tryz.prog 25 #[.agg #[.int .i64 p.row, dv, vv]] w (Pure (.string (str (showZ p))) w) := by
  obtain ⟨da, dc, rfl, dm⟩ := hd.form
  obtain ⟨va, vc, rfl, vm⟩ := hv.form
  have B0 := Box3.new w (.int .i64 p.row) (.slice da p.ds.length dc) (.slice va p.vs.length vc) 26
  have G0 := galloc (grefl w) (.cells #[.int .i64 p.row, .slice da p.ds.length dc, .slice va p.vs.length vc] 26)
  go_enter Tryz.func25, Tryz.ntmps25
  go_upto_region 1 with (fail)
  generalize w.alloc (.cells #[.int .i64 p.row, .slice da p.ds.length dc, .slice va p.vs.length vc] 26) = W0 at *
  generalize w.heap.size = bb at B0 ⊢
  have HB0 := Lib.hid B0
  obtain ⟨b0, b1, b2⟩ := B0
  cases hok : p.ok
  · have HZ := Lib.hid (showZ_no hok)
    go_wp2_with fail
    go_fit (implPatchOk_any p _ _ _ (hd.kept G0) (hv.kept G0))
    rintro e w1 ⟨rfl, g1⟩
    rw [hok]
    go_wp2_with fail
    go_ret
    exact ⟨ret_str (by rw [HZ.out]), gtrans G0 g1⟩
  have HZ := Lib.hid (showZ_yes hok)
  have HF := Lib.hid (ok_fit hok)
  have HL := Lib.hid (ok_lists hok)
  go_wp2_with fail
  go_fit (implPatchOk_any p _ _ _ (hd.kept G0) (hv.kept G0))
  rintro e w1 ⟨rfl, g1⟩
  rw [hok]
  have G1 := gtrans G0 g1
  replace HB0 := Lib.hid (HB0.out.kept g1)
  have HT := Lib.hid (ht.kept G1)
  have HT0 := Lib.hid ht
  clear b0 b1 b2 hok G0 g1 ht
  obtain ⟨row, ds, vs⟩ := p
  dsimp only at *
  obtain ⟨⟨hr0, hr1⟩, hlen, hl2, hds, hvs⟩ := HF.out
  dsimp only at hr0 hr1 hlen hl2 hds hvs
  obtain ⟨rn, rfl⟩ := Int.eq_ofNat_of_zero_le hr0
  have HLn := Lib.hid hlen
  have HDs : Hid (∀ i (h : i < ds.length), 0 ≤ ds[i] ∧ ds[i] ≤ 1000000) := hds
  have HVs : Hid (∀ i (h : i < vs.length), 0 ≤ vs[i] ∧ vs[i] ≤ 1000000) := hvs
  have HTx : Hid (PZ.text ⟨(rn : Int), ds, vs⟩ = wordsT (digT rn :: pairsW ds vs)) := by show _ = _; simp [PZ.text, PZ.words]
  have hrn : rn ≤ 1000000 := by omega
  clear hr0 hr1 hlen hds hvs HF
  obtain ⟨b0, b1, b2⟩ := HB0.out
  go_wp2_with fail
  go_fit (formatInt_any rn _ hrn HT.out)
  rintro e w2 ⟨rfl, g2⟩
  have G2 := gtrans G1 g2
  replace HB0 := Lib.hid (HB0.out.kept g2)
  have C0 := TS.single w2 (digT rn) (Nat.le_refl w2.heap.size)
  have e2 := galloc (grefl w2) (.cells #[.string (str (digT rn))] 9)
  replace HT := Lib.hid (HT.out.kept (gtrans g2 e2))
  clear b0 b1 b2 G1 g2
  go_upto_region 4 with (fail)
  have G3 := gtrans G2 e2
  replace HB0 := Lib.hid (HB0.out.kept e2)
  have hs3 : w2.heap.size ≤ (w2.alloc (.cells #[.string (str (digT rn))] 9)).heap.size := e2.size
  have hBs : w2.heap.size < (w2.alloc (.cells #[.string (str (digT rn))] 9)).heap.size := by simp
  have hwB : w.heap.size ≤ w2.heap.size := G2.size
  generalize w2.alloc (.cells #[.string (str (digT rn))] 9) = W3 at *
  generalize w2.heap.size = B at *
  obtain ⟨b0, b1, b2⟩ := HB0.out
  clear e2 G2
  go_wp2_with fail
  go_fit (changeIn_any rn ds vs _ _ _ (hd.kept G3) (hv.kept G3))
  rintro e w4 ⟨rfl, g4⟩
  have CP := putsOf_any ds vs
  rw [HL.out.1] at CP
  generalize chV ds vs = cv at *
  go_wp2_with fail
  go_fit (CP _)
  rintro e w5 ⟨pv, rfl, P, g5⟩
  obtain ⟨pa, pc, rfl, -⟩ := Own.form P
  have g45 := gtrans g4 g5
  have G5 := gtrans G3 g45
  have C5 := Own.grew C0 g45
  replace HT := Lib.hid (HT.out.kept g45)
  have hs5 := g45.size
  have HPb : Hid ((Value.slice pa (ds.zip vs).length pc).ownBlock ≠ some B) := fun e => by have := (Own.lt P _ e).1; have := g4.size; omega
  have HZl : Hid ((ds.zip vs).length = ds.length) := by show _ = _; rw [List.length_zip, HLn.out]; simp
  have HZk : Hid (∀ k (h : k < (ds.zip vs).length) (h1 : k < ds.length) (h2 : k < vs.length), (ds.zip vs)[k].1 = ds[k] ∧ (ds.zip vs)[k].2 = vs[k]) := fun k _ _ _ => by simp
  generalize ds.zip vs = L at *
  have hL2 : L.length ≤ 2 := by rw [HZl.out]; exact hl2
  clear g4 g5 g45 C0 G3 HB0 b0 b1 b2 CP
  go_wp2_with fail
  go_loopw [3, 17] (fun out i wr => ∃ k : Nat, k ≤ L.length ∧ i = .int .i64 k ∧ TS wr B out (digT rn :: pairsW (ds.take k) (vs.take k)) ∧ w5.grownBy wr (some B) ∧ ∀ j, out.ownBlock = some j → j = B ∨ w5.heap.size ≤ j) (fun _ i _ => L.length - (intOf i).toNat)
  case atStart => exact ⟨0, Nat.zero_le _, rfl, C5, World.grownBy.refl _ _, fun j e => by cases e; exact .inl rfl⟩
  case round =>
    clear C5
    obtain ⟨k, hk, rfl, C, G, hob⟩ := hrel
    obtain ⟨oa, om, oc, rfl⟩ := Own.sl C
    have hsz := G.size
    by_cases hlt : k < L.length
    · have hki : (k : Int) < L.length := by omega
      have k1 : k < ds.length := by rw [← HZl.out]; exact hlt
      have k2 : k < vs.length := by rw [HLn.out]; exact k1
      have HP := Lib.hid (pairsW_next ds vs k k1 k2)
      have hpl := pairsW_length (ds.take k) (vs.take k)
      have htl : (ds.take k).length ≤ 2 := by simp; omega
      obtain ⟨g, rfl, lg, ⟨x0, -⟩, ⟨x1, -⟩⟩ := Own.put_at (Own.kept P G (.inr HPb.out)) k hlt
      have hz := HZk.out k hlt k1 k2
      rw [hz.1] at x0
      rw [hz.2] at x1
      have hdb := HDs.out k k1
      have hvb := HVs.out k k2
      obtain ⟨dn, hdn⟩ := Int.eq_ofNat_of_zero_le hdb.1
      obtain ⟨vn, hvn⟩ := Int.eq_ofNat_of_zero_le hvb.1
      rw [hdn] at x0 hdb HP
      rw [hvn] at x1 hvb HP
      simp only [Int.toNat_natCast] at HP
      have hdn' : dn ≤ 1000000 := by omega
      have hvn' : vn ≤ 1000000 := by omega
      clear hdn hvn hdb hvb hz
      have q0 : (wr.alloc (.cells #[.int .i64 dn, .int .i64 vn] 70)).cell? ⟨wr.heap.size, 0, none⟩ = some (.int .i64 dn) := by simp [go_sem]
      have q1 : (wr.alloc (.cells #[.int .i64 dn, .int .i64 vn] 70)).cell? ⟨wr.heap.size, 1, none⟩ = some (.int .i64 vn) := by simp [go_sem]
      have e3 := galloc (grefl wr) (.cells #[.int .i64 dn, .int .i64 vn] 70)
      go_upto_region 7 with (fail)
      have C3 := Own.grew C e3
      have G3 := gOne G e3 (fun k e => by cases e)
      have hT3 := HT0.out.kept (gdrew (gsub G5 G3 (fun k e => by cases e; exact hwB)) 1)
      have hs9 : w5.heap.size ≤ (wr.alloc (.cells #[.int .i64 dn, .int .i64 vn] 70)).heap.size := G3.size
      generalize wr.alloc (.cells #[.int .i64 dn, .int .i64 vn] 70) = W at *
      generalize wr.heap.size = qb at *
      have HTW := Lib.hid hT3
      clear x0 x1 e3 C G hT3
      go_region_law (first | (go_simp; go_at_call 37; go_fit (formatInt_any dn _ hdn' HTW.out); rintro e w8 ⟨rfl, g8⟩; have g8' := gtrans (gdrew (grefl W) 1) g8; have q1' := gkc g8' q1; have q0' := gkc g8' q0; have HT8 := Lib.hid (HTW.out.kept g8)) | (go_simp; go_at_call 37; go_fit (formatInt_any vn _ hvn' HT8.out); rintro e w9 ⟨rfl, g9⟩; have g9' := gtrans g8' g9) | (refine step_append_o (E := strE) (base := B) rfl (.tmp 21) (.tmp 28) rfl rfl rfl (Own.grew C3 (galloc g9' _)) (TS.two _ _ _ (Nat.zero_le _)) (by simp; omega) (by decide) (by have := g9'.size; simp; omega) ?_; intro v' wa hown hga hat; have GA := gOne (gOne G3 (galloc g9' _) (fun k e => by cases e)) hga (fun j e => hob j e); have hob2 : ∀ j, v'.ownBlock = some j → j = B ∨ w5.heap.size ≤ j := fun j e => by (rcases hat with x | x; exact hob j (x.symm.trans e); (rw [x] at e; cases e; right; have := G3.size; have := g9'.size; simp; omega))))
      all_goals (
        rw [List.cons_append, ← HP.out] at hown
        obtain ⟨va', vn', vc', rfl⟩ := Own.sl hown
        go_wp2_with fail
        go_roundw
        case rel => exact ⟨k + 1, by omega, by go_num, hown, GA, hob2⟩
        case measure => simp [intOf]; omega)
    · obtain rfl : k = L.length := by omega
      rw [HZl.out, List.take_length, ← HLn.out, List.take_length] at C
      have GF := gsub G5 G (fun k e => by cases e; exact hwB)
      have HWt := Lib.hid (words_text rn hrn HDs.out HVs.out hl2)
      go_wp2_with fail
      go_fit (join_any _ (digT rn :: pairsW ds vs) B _ C (by simp) (by have := HWt.out; omega) (by have := pairsW_length ds vs; simp; omega))
      rintro e w' ⟨rfl, g'⟩
      go_wp2_with fail
      go_ret
      exact ⟨ret_str (by rw [HZ.out, HTx.out]), gtrans GF g'⟩
end Go.Proofs.YtnhefdmnpoaegaaGreatDoor
