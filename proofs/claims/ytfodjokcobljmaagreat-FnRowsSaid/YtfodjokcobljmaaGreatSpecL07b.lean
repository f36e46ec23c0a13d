/- What the specification's l7Show returns. -/
import Derived.Test.YtfodjokcobljmaaGreatSpecL07
import Derived.Test.YtfodjokcobljmaaGreatSpecT2
import Derived.Deep.RegionLaw
namespace Go.Proofs.YtfodjokcobljmaaGreat
open Go.ChangeShapes Go.WideShapes Go.ChangeAt Go.RowKit
attribute [local go_sem] str_list str_size str_add lit_list0 add_lit lit_add str_cut

/-- the words of a patch -/
def pairsW : List Int → List Int → List (List UInt8)
  | d :: ds, v :: vs => digT d.toNat :: digT v.toNat :: pairsW ds vs
  | _, _ => []
def PZ.words (p : PZ) : List (List UInt8) := digT p.row.toNat :: pairsW p.ds p.vs
def PZ.text (p : PZ) : List UInt8 := wordsT p.words
/-- numbers that are shown -/
def PZ.fit (p : PZ) : Prop := (0 ≤ p.row ∧ p.row ≤ 1000000) ∧ p.vs.length = p.ds.length ∧ p.ds.length ≤ 2 ∧ (∀ i (h : i < p.ds.length), 0 ≤ p.ds[i] ∧ p.ds[i] ≤ 1000000) ∧ ∀ i (h : i < p.vs.length), 0 ≤ p.vs[i] ∧ p.vs[i] ≤ 1000000
theorem pairsW_next (ds vs : List Int) (k : Nat) (hd : k < ds.length) (hv : k < vs.length) : pairsW (ds.take (k + 1)) (vs.take (k + 1)) = pairsW (ds.take k) (vs.take k) ++ [digT ds[k].toNat, digT vs[k].toNat] := by
  induction k generalizing ds vs with
  | zero =>
    cases ds with
    | nil => simp at hd
    | cons d r => cases vs with
      | nil => simp at hv
      | cons v s => simp [pairsW]
  | succ k ih =>
    cases ds with
    | nil => simp at hd
    | cons d r => cases vs with
      | nil => simp at hv
      | cons v s =>
        simp only [List.take_succ_cons, pairsW, List.cons_append, List.getElem_cons_succ]
        rw [ih r s (by simpa using hd) (by simpa using hv)]
theorem pairsW_length (ds vs : List Int) : (pairsW ds vs).length ≤ 2 * ds.length := by
  induction ds generalizing vs with
  | nil => simp [pairsW]
  | cons d r ih =>
    cases vs with
    | nil => simp [pairsW]
    | cons v s => have := ih s; simp [pairsW]; omega
theorem digT_small7 {n : Nat} (h : n ≤ 1000000) : (digT n).length ≤ 7 := digT_length n 6 (by omega)
theorem pairsW_small (ds vs : List Int) (hd : ∀ x ∈ ds, x.toNat ≤ 1000000) (hv : ∀ x ∈ vs, x.toNat ≤ 1000000) : ∀ t ∈ pairsW ds vs, t.length ≤ 7 := by
  induction ds generalizing vs with
  | nil => simp [pairsW]
  | cons d r ih =>
    cases vs with
    | nil => simp [pairsW]
    | cons v s =>
      intro t ht
      simp only [pairsW, List.mem_cons] at ht
      rcases ht with rfl | rfl | ht
      · exact digT_small7 (hd d (by simp))
      · exact digT_small7 (hv v (by simp))
      · exact ih s (fun x hx => hd x (by simp [hx])) (fun x hx => hv x (by simp [hx])) t ht
theorem words_small {rn : Nat} {ds vs : List Int} (hr : rn ≤ 1000000) (hd : ∀ i (h : i < ds.length), 0 ≤ ds[i] ∧ ds[i] ≤ 1000000) (hv : ∀ i (h : i < vs.length), 0 ≤ vs[i] ∧ vs[i] ≤ 1000000) : ∀ t ∈ digT rn :: pairsW ds vs, t.length ≤ 7 := by
  intro t ht
  rcases List.mem_cons.1 ht with rfl | ht
  · exact digT_small7 hr
  · refine pairsW_small ds vs (fun x hx => ?_) (fun x hx => ?_) t ht
    · obtain ⟨i, hi, rfl⟩ := List.getElem_of_mem hx
      have := hd i hi; omega
    · obtain ⟨i, hi, rfl⟩ := List.getElem_of_mem hx
      have := hv i hi; omega
/-- what l7Show reads -/
abbrev ShS (w w' : World) (b : Nat) (row : Int) (dv vv : Value) (g o : Nat) (d : Int) (h q : Nat) (v : Int) : Prop := P1S w w' b row dv vv g o d h q v
theorem TS.two {base : Nat} (w : World) (x y : List UInt8) (hb : base ≤ w.heap.size) : TS (w.alloc (.cells #[.string (str x), .string (str y)] 9)) base (.slice (some ⟨w.heap.size, 0, none⟩) 2 2) [x, y] :=
  Own.fresh strE w [x, y] _ rfl (by simp) hb
set_option maxRecDepth 8000 in
set_option maxHeartbeats 4000000 in
theorem l7Show_any (p : PZ) (dv vv : Value) (w : World) (hd : IR w dv p.ds) (hv : IR w vv p.vs) (hf : p.fit) :
    Calls Tryz.prog 84 #[.agg #[.int .i64 p.row, dv, vv]] w (Pure (.string (str p.text)) w) := by
  obtain ⟨row, ds, vs⟩ := p
  obtain ⟨⟨hr0, hr1⟩, hlen, hl2, hds, hvs⟩ := hf
  dsimp only at *
  obtain ⟨rn, rfl⟩ := Int.eq_ofNat_of_zero_le hr0
  obtain ⟨da, dc, rfl, dm⟩ := hd.form
  obtain ⟨va, vc, rfl, vm⟩ := hv.form
  have HT : Hid (PZ.text ⟨(rn : Int), ds, vs⟩ = wordsT (digT rn :: pairsW ds vs)) := by show _ = _; simp [PZ.text, PZ.words]
  have B0 := Box3.new w (.int .i64 (rn : Int)) (.slice da ds.length dc) (.slice va vs.length vc) 94
  have G0 := galloc (grefl w) (.cells #[.int .i64 (rn : Int), .slice da ds.length dc, .slice va vs.length vc] 94)
  have hd0 := hd.kept G0
  have hv0 := hv.kept G0
  have hrn : rn ≤ 1000000 := by omega
  have HLn := Lib.hid hlen
  have HDs : Hid (∀ i (h : i < ds.length), 0 ≤ ds[i] ∧ ds[i] ≤ 1000000) := hds
  have HVs : Hid (∀ i (h : i < vs.length), 0 ≤ vs[i] ∧ vs[i] ≤ 1000000) := hvs
  clear hd hv hr0 hr1 hlen hds hvs
  go_enter Tryz.func84, Tryz.ntmps84
  go_wp2_with fail
  generalize w.alloc (.cells #[.int .i64 (rn : Int), .slice da ds.length dc, .slice va vs.length vc] 94) = W0 at *
  generalize w.heap.size = bb at *
  go_fit (l1Int_any rn _ (by omega))
  rintro e w1 ⟨rfl, g1⟩
  have B1 := Box3.kept B0 g1
  have C0 := TS.single w1 (digT rn) (Nat.le_refl w1.heap.size)
  have g2 := galloc (grefl w1) (.cells #[.string (str (digT rn))] 9)
  go_wp2_with fail
  have R0 := hd0.kept g1
  have R1 := hv0.kept g1
  have GW := gtrans G0 g1
  clear B0 hd0 hv0 G0 g1
  go_loopw [3, 4] (fun out i wr => ∃ k : Nat, k ≤ ds.length ∧ i = .int .i64 k ∧ TS wr w1.heap.size out (digT rn :: pairsW (ds.take k) (vs.take k)) ∧ w1.grownBy wr none) (fun _ i _ => ds.length - (intOf i).toNat)
  case atStart => exact ⟨0, Nat.zero_le _, rfl, C0, g2⟩
  case round =>
    clear C0 g2
    obtain ⟨k, hk, rfl, C, G⟩ := hrel
    obtain ⟨oa, om, oc, rfl⟩ := C.sl
    obtain ⟨b0, b1, b2⟩ := Box3.kept B1 G
    have hsz := G.size
    by_cases hlt : k < ds.length
    · have hki : (k : Int) < ds.length := by omega
      have hlv : k < vs.length := by rw [HLn.out]; exact hlt
      have hkv : (k : Int) < vs.length := by omega
      obtain ⟨g, o, rfl, x0⟩ := (R0.kept G).at k hlt
      obtain ⟨h, q, rfl, y0⟩ := (R1.kept G).at k hlv
      have HP := Lib.hid (pairsW_next ds vs k hlt hlv)
      have hpl := pairsW_length (ds.take k) (vs.take k)
      have hdb := HDs.out k hlt
      have hvb := HVs.out k hlv
      obtain ⟨dn, hdn⟩ := Int.eq_ofNat_of_zero_le hdb.1
      obtain ⟨vn, hvn⟩ := Int.eq_ofNat_of_zero_le hvb.1
      rw [hdn] at x0 hdb HP
      rw [hvn] at y0 hvb HP
      simp only [Int.toNat_natCast] at HP
      have hdn' : dn ≤ 1000000 := by omega
      have hvn' : vn ≤ 1000000 := by omega
      have htl : (ds.take k).length ≤ 2 := by simp; omega
      clear hdn hvn hdb hvb
      go_wp2_with fail
      go_region_law (first | (go_simp; go_at_call 99; go_fit (l1Int_any dn _ (by omega)); rintro e w8 ⟨rfl, g8⟩; have g8' := gtrans (gdrew (grefl wr) 1) g8; obtain ⟨b0', b1', b2'⟩ := Box3.kept (b := bb) ⟨b0, b1, b2⟩ g8'; have x0' := gkc g8' x0; have y0' := gkc g8' y0) | (go_simp; go_at_call 99; go_fit (l1Int_any vn _ (by omega)); rintro e w9 ⟨rfl, g9⟩; have g9' := gtrans g8' g9) | (refine step_append_o (E := strE) (base := w1.heap.size) rfl (.tmp 16) (.tmp 29) rfl rfl rfl (C.grew (galloc g9' _)) (TS.two _ _ _ (Nat.zero_le _)) (by simp; omega) (by decide) (by have := g9'.size; simp; omega) ?_; intro v' wa hown hga hat; have GA := gnew (galloc (gtrans G g9') _) hga (fun j e => (C.lt j e).1)))
      all_goals (
        rw [List.cons_append, ← HP.out] at hown
        go_wp2_with fail
        go_roundw
        case rel => exact ⟨k + 1, by omega, by go_num, hown, GA⟩
        case measure => simp [intOf]; omega)
    · obtain rfl : k = ds.length := by omega
      rw [List.take_length, ← HLn.out, List.take_length] at C
      go_wp2_with fail
      go_fit (l1Words_any _ _ _ C.rd (by have := pairsW_length ds vs; simp; omega) (fun x hx => by have := words_small hrn (fun i h => HDs.out i h) (fun i h => HVs.out i h) x hx; omega))
      rintro e w' ⟨rfl, rfl⟩
      go_wp2_with fail
      go_ret
      exact ⟨ret_str HT.out.symm, gtrans GW G⟩
end Go.Proofs.YtfodjokcobljmaaGreat
