/- What the specification's l11Fall does. What the specification's l11Assemble does. What the specification's l11Rot does. -/
import Derived.Test.YteialkknddpbjaaGreatDoorPH07
import Derived.Test.YteialkknddpbjaaGreatDoorPH28
namespace Go.Proofs.YteialkknddpbjaaGreatDoor
open Go.ChangeShapes Go.WideShapes Go.ChangeAt Go.RowKit
attribute [local go_sem] str_list str_size str_add lit_list0 add_lit lit_add str_cut

/-- the blocks of the disks' lists -/
def HasB (raw : List DV) (k : Nat) : Prop := ∃ i, ∃ h : i < raw.length, raw[i].has k
def setAt (sets : List Int) (i : Nat) : Int := if (decide (i < sets.length) && inB (sets.getD i 0) 0 65535) = true then sets.getD i 0 else 0
theorem setAt_b (sets : List Int) (i : Nat) : 0 ≤ setAt sets i ∧ setAt sets i ≤ 65535 := by
  unfold setAt
  split
  · rename_i h
    simp only [Bool.and_eq_true] at h
    exact inB_iff.1 h.2
  · omega
def fallK (l : List DZ) (sets : List Int) : Nat → List DZ
  | 0 => l
  | k + 1 => (fallK l sets k).set k (((fallK l sets k).getD k .zero).fall (setAt sets k))
def fallZ (l : List DZ) (sets : List Int) : List DZ := fallK l sets l.length
theorem fallK_length (l : List DZ) (sets : List Int) (k : Nat) : (fallK l sets k).length = l.length := by
  induction k with
  | zero => rfl
  | succ k ih => simp [fallK, ih]
theorem fall_len (d : DZ) (s : Int) : (d.fall s).k.length = d.m.length ∧ (d.fall s).m.length = d.m.length := by simp [DZ.fall, fallL]
theorem DGood.fallK {l : List DZ} (h : DGood l) (sets : List Int) (k : Nat) : DGood (fallK l sets k) := by
  induction k with
  | zero => exact h
  | succ k ih =>
    unfold Go.Proofs.YteialkknddpbjaaGreatDoor.fallK
    have q := ih.get k
    have r := fall_len ((Go.Proofs.YteialkknddpbjaaGreatDoor.fallK l sets k).getD k .zero) (setAt sets k)
    exact ih.set _ (by omega)
theorem DGood.rows {l : List DZ} (h : DGood l) : rowsZ l ≤ 16 := by
  obtain ⟨-, h2⟩ := h
  induction l with
  | nil => simp [rowsZ]
  | cons d r ih =>
    cases hd : d.dead
    · rw [rowsZ_here (k := 0) (by simp) (by simp) (by simpa using hd)]
      exact (h2 d (by simp)).2
    · simp only [rowsZ, hd, if_true]
      exact ih (fun x hx => h2 x (by simp [hx]))
theorem DGood.fallZ {l : List DZ} (h : DGood l) (sets : List Int) : DGood (fallZ l sets) := h.fallK sets _
def AZ.fell (a : AZ) (sets : List Int) (keep : Int) : AZ := if a.up then ⟨fallZ a.ds sets, if a.stage = 1 then tornT a.next keep else a.log, [], 0, false⟩ else a
section
variable {w w' : World} {b B : Nat} {a : AZ} {v : Value} {raw : List DV}
theorem ABox.disksH (h : ABox w b B a v raw) {l : List DZ} (o : Only (HasB raw) w w') (hd : OD w' B v l raw) : ABox w' b B { a with ds := l } v raw := by
  have hb : ¬ HasB raw b := fun ⟨i, hi, e⟩ => h.rb i hi e
  exact ⟨o.at hb h.c0, o.at hb h.c1, o.at hb h.c2, o.at hb h.c3, o.at hb h.c4, hd, h.vb, h.rb⟩
theorem has_ab (h : ABox w b B a v raw) (k : Nat) (hk : HasB raw k) : AB b B k := by
  obtain ⟨i, hi, e⟩ := hk
  exact .inr (h.od.in i hi k e).1
end
set_option maxRecDepth 8000 in
set_option maxHeartbeats 4000000 in
theorem l11Fall_any (b B : Nat) (a : AZ) (v : Value) (raw : List DV) (sv : Value) (sets : List Int) (keep : Int) (w : World) (h : ABox w b B a v raw) (hg : DGood a.ds) (hs : IR w sv sets) (hsb : ∀ k, sv.ownBlock = some k → k ≠ b ∧ ¬ HasB raw k) (hn : a.next.length ≤ 100000) :
    Calls Tryz.prog 113 #[.pointer (some ⟨b, 0, none⟩), sv, .int .i64 keep] w (ADid b B a.up (a.fell sets keep) w) := by
  obtain ⟨va, vc, rfl, -⟩ := h.od.form
  obtain ⟨sa, sc, rfl, sm⟩ := hs.form
  obtain ⟨c4, f4⟩ := h.c4
  cases hu : a.up
  · have HA : Hid (a.fell sets keep = a) := by show _ = _; simp [AZ.fell, hu]
    rw [hu] at c4
    go_enter Tryz.func113, Tryz.ntmps113
    go_wp2_with fail
    go_ret
    exact ⟨rfl, ⟨_, _, by rw [HA.out]; exact h⟩, Only.refl _ _⟩
  rw [hu] at c4
  have HA : Hid (a.fell sets keep = ⟨fallZ a.ds sets, if a.stage = 1 then tornT a.next keep else a.log, [], 0, false⟩) := by show _ = _; simp [AZ.fell, hu]
  have HG := Lib.hid hg
  have hl5 := hg.1
  have HSb : Hid (∀ k, (Value.slice sa sets.length sc).ownBlock = some k → k ≠ b ∧ ¬ HasB raw k) := hsb
  have HH := Lib.hid h
  clear hu hg hsb h
  go_enter Tryz.func113, Tryz.ntmps113
  go_wp2_with fail
  go_loopw [7] (fun i wr => ∃ k : Nat, k ≤ a.ds.length ∧ i = .int .i64 k ∧ ABox wr b B { a with ds := fallK a.ds sets k } (.slice va a.ds.length vc) raw ∧ Only (HasB raw) w wr) (fun i _ => a.ds.length - (intOf i).toNat)
  case atStart => exact ⟨0, Nat.zero_le _, rfl, HH.out, Only.refl _ _⟩
  case round =>
    clear c4 f4
    obtain ⟨k, hk, rfl, H, O⟩ := hrel
    obtain ⟨c0, f0⟩ := H.c0
    have hfl := fallK_length a.ds sets k
    by_cases hlt : k < a.ds.length
    · have hki : (k : Int) < a.ds.length := by omega
      have hlk : k < (fallK a.ds sets k).length := by omega
      have hrk : k < raw.length := by rw [H.od.len]; exact hlk
      have HN : Hid (fallK a.ds sets (k + 1) = (fallK a.ds sets k).set k (((fallK a.ds sets k)[k]'hlk).fall (setAt sets k))) := by show _ = _; rw [fallK, getD_at hlk]
      have hgk := (HG.out.fallK sets k).2 _ (List.getElem_mem hlk)
      have hsb := setAt_b sets k
      obtain ⟨g, e, -, hgl, -, -, -, -⟩ := H.od.at k hrk hlk
      cases e
      have DA := H.od.dat k hrk hlk
      dsimp only at DA
      have HF := l3FallAt_any g (k * 4) B ((fallK a.ds sets k)[k]'hlk) raw[k].kv raw[k].nv (setAt sets k) wr DA hsb.1 hsb.2 hgk.1 hgk.2
      have HFin : ∀ w8, DAt w8 g (k * 4) B (((fallK a.ds sets k)[k]'hlk).fall (setAt sets k)) raw[k].kv raw[k].nv → Only (Two2 raw[k].kv raw[k].nv) wr w8 → ABox w8 b B { a with ds := fallK a.ds sets (k + 1) } (.slice (some ⟨g, 0, none⟩) a.ds.length vc) raw ∧ Only (HasB raw) w w8 := fun w8 D8 o8 => by
        have C8 := H.od.fell k hrk hlk (fall_n _ _) D8 o8
        dsimp only at C8
        rw [← HN.out] at C8
        have o8' : Only (HasB raw) wr w8 := o8.mono (fun q hq => ⟨k, hrk, hq⟩)
        exact ⟨H.disksH o8' C8, O.trans o8'⟩
      by_cases hin : k < sets.length
      · have hini : (k : Int) < sets.length := by omega
        obtain ⟨sg, so, rfl, x0⟩ := (Rd.only hs O (fun q e => (HSb.out q e).2)).at k hin
        cases hb16 : inB sets[k] 0 65535
        · have HS : Hid (setAt sets k = 0) := by show _ = _; simp [setAt, hin, List.getD_eq_getElem?_getD, hb16]
          rw [HS.out] at HF
          go_wp2_with fail
          go_fit (l1In_any _ _ _ _)
          rintro e w' ⟨rfl, rfl⟩
          rw [hb16]
          go_wp2_with fail
          go_fit HF
          rintro e w8 ⟨rfl, D8, o8⟩
          obtain ⟨H8, O8⟩ := HFin w8 (by rw [HS.out]; exact D8) o8
          go_wp2_with fail
          go_roundw
          case rel => exact ⟨k + 1, by omega, by go_num, H8, O8⟩
          case measure => simp [intOf]; omega
        · have HS : Hid (setAt sets k = sets[k]) := by show _ = _; simp [setAt, hin, List.getD_eq_getElem?_getD, hb16]
          rw [HS.out] at HF
          go_wp2_with fail
          go_fit (l1In_any _ _ _ _)
          rintro e w' ⟨rfl, rfl⟩
          rw [hb16]
          go_wp2_with fail
          go_fit HF
          rintro e w8 ⟨rfl, D8, o8⟩
          obtain ⟨H8, O8⟩ := HFin w8 (by rw [HS.out]; exact D8) o8
          go_wp2_with fail
          go_roundw
          case rel => exact ⟨k + 1, by omega, by go_num, H8, O8⟩
          case measure => simp [intOf]; omega
      · have hini : ¬ (k : Int) < sets.length := by omega
        have HS : Hid (setAt sets k = 0) := by show _ = _; simp [setAt, hin]
        rw [HS.out] at HF
        go_wp2_with fail
        go_fit HF
        rintro e w8 ⟨rfl, D8, o8⟩
        obtain ⟨H8, O8⟩ := HFin w8 (by rw [HS.out]; exact D8) o8
        go_wp2_with fail
        go_roundw
        case rel => exact ⟨k + 1, by omega, by go_num, H8, O8⟩
        case measure => simp [intOf]; omega
    · obtain rfl : k = a.ds.length := by omega
      have O' : Only (AB b B) w wr := O.mono (fun q hq => has_ab HH.out q hq)
      obtain ⟨c1, f1⟩ := H.c1
      obtain ⟨c2, f2⟩ := H.c2
      obtain ⟨c3, f3⟩ := H.c3
      obtain ⟨c4, f4⟩ := H.c4
      dsimp only at c1 c2 c3 c4
      by_cases hst : a.stage = 1
      · have hst' : (a.stage == 1) = true := by simpa using hst
        rw [if_pos hst] at HA
        have H1 := (((H.setLog (tornT a.next keep)).setNext []).setStage 0).setUp false
        clear hst
        go_wp2_with fail
        go_fit (specTorn_any a.next keep _ (Nat.le_trans hn (by omega)))
        rintro e w' ⟨rfl, rfl⟩
        go_wp2_with fail
        go_ret
        exact ⟨rfl, ⟨_, _, by rw [HA.out]; exact H1⟩, O'.trans ((only_set _ _ _ _ _).trans ((only_set _ _ _ _ _).trans ((only_set _ _ _ _ _).trans (only_set _ _ _ _ _))))⟩
      · have hst' : (a.stage == 1) = false := by simpa using hst
        rw [if_neg hst] at HA
        have H1 := ((H.setNext []).setStage 0).setUp false
        clear hst
        go_wp2_with fail
        go_ret
        exact ⟨rfl, ⟨_, _, by rw [HA.out]; exact H1⟩, O'.trans ((only_set _ _ _ _ _).trans ((only_set _ _ _ _ _).trans (only_set _ _ _ _ _)))⟩
end Go.Proofs.YteialkknddpbjaaGreatDoor
namespace Go.Proofs.YteialkknddpbjaaGreatDoor
open Go.ChangeShapes Go.WideShapes Go.ChangeAt Go.RowKit
attribute [local go_sem] str_list str_size str_add lit_list0 add_lit lit_add str_cut

def patchAll (l : List DZ) (ps : List PZ) : List DZ := ps.foldl patchZ l
theorem patchAll_next (l : List DZ) (ps : List PZ) (k : Nat) (h : k < ps.length) : patchAll l (ps.take (k + 1)) = patchZ (patchAll l (ps.take k)) ps[k] := by
  unfold patchAll
  rw [List.take_succ_eq_append_getElem h, List.foldl_append]
  rfl
theorem patchAll_length (l : List DZ) (ps : List PZ) : (patchAll l ps).length = l.length := by
  induction ps generalizing l with
  | nil => rfl
  | cons p r ih => simp only [patchAll, List.foldl_cons] at ih ⊢; rw [ih]; exact patchK_length l p _
theorem DGood.patchAll {l : List DZ} (h : DGood l) (ps : List PZ) : DGood (patchAll l ps) := by
  induction ps generalizing l with
  | nil => exact h
  | cons p r ih => exact ih (h.patchZ p)
def AZ.assembled (a : AZ) : AZ := if a.up then a else { a with ds := flushAll (Go.Proofs.YteialkknddpbjaaGreatDoor.patchAll a.ds (entsT a.log)), log := [], up := true }
theorem OP.only {S : Nat → Prop} {w w' : World} {base : Nat} {v : Value} {l : List PZ} {raw : List PV} (h : OP w base v l raw) (o : Only S w w') (hs : ∀ k, base ≤ k → ¬ S k) : OP w' base v l raw := by
  have q : ∀ k, base ≤ k ∧ k < w.heap.size → w'.heap[k]? = w.heap[k]? := fun k hk => o.block k hk.2 (hs k hk.1)
  exact ⟨Own.same h.own (fun k hk => q k (h.own.lt k hk)), h.len, fun i a b => ⟨(h.is i a b).row, Own.same (h.is i a b).ds (fun k hk => q k ((h.is i a b).ds.lt k hk)), Own.same (h.is i a b).vs (fun k hk => q k ((h.is i a b).vs.lt k hk))⟩, h.self, h.ap, h.out⟩
/-- one disk of an array was flushed -/
theorem ABox.flushed {w w1 : World} {b B g n c : Nat} {a : AZ} {raw : List DV} (H : ABox w b B a (.slice (some ⟨g, 0, none⟩) n c) raw) (k : Nat) (hrk : k < raw.length) (hlk : k < a.ds.length) {ka : Option Addr} {km kc : Nat} (g1 : w.grownBy w1 none) (K1 : CS w1 B (.slice ka km kc) a.ds[k].m) (N1 : ∀ q, (Value.slice ka km kc).ownBlock = some q → w.heap.size ≤ q) :
    ABox (w1.setCell ⟨g, k * 4 + 2, none⟩ (.slice ka km kc)) b B { a with ds := a.ds.set k (a.ds[k].withK a.ds[k].m) } (.slice (some ⟨g, 0, none⟩) n c) (raw.set k (raw[k].kept ka km kc)) ∧ Only (AB b B) w (w1.setCell ⟨g, k * 4 + 2, none⟩ (.slice ka km kc)) := by
  have C2 := H.od.flushed k hrk hlk (a := ka) (m := km) (c := kc) g1 K1 N1
  have hgb : g ≠ b := fun e => H.vb (by rw [e]; rfl)
  have H1 := H.kept g1
  have hgB := (H.od.own.lt g rfl).1
  refine ⟨⟨H1.c0.other (fun e => hgb (congrArg Addr.block e)) _, H1.c1.other (fun e => hgb (congrArg Addr.block e)) _, H1.c2.other (fun e => hgb (congrArg Addr.block e)) _, H1.c3.other (fun e => hgb (congrArg Addr.block e)) _, H1.c4.other (fun e => hgb (congrArg Addr.block e)) _, C2, H.vb, fun i hi x => ?_⟩, (only_grew g1).trans (Only.of (gset (World.grownBy.refl w1 (some g)) _ _) (fun _ e => by cases e; exact .inr hgB))⟩
  simp only [List.length_set] at hi
  by_cases e : k = i
  · subst e
    simp only [List.getElem_set_self] at x
    rcases x with x | x
    · have := N1 b x; have := H.lt; omega
    · exact H.rb k hi (.inr x)
  · simp only [List.getElem_set_ne e] at x
    exact H.rb i hi x
/-- what is read while a log's patches are written -/
abbrev AsS (w' : World) (b : Nat) (x0 : Value) (g o : Nat) (y0 y1 y2 : Value) : Prop := w'.cell? ⟨b, 0, none⟩ = some x0 ∧ w'.cell? ⟨g, o, none⟩ = some y0 ∧ w'.cell? ⟨g, o + 1, none⟩ = some y1 ∧ w'.cell? ⟨g, o + 2, none⟩ = some y2
theorem AsS.drew {w' : World} {b g o : Nat} {x0 y0 y1 y2 : Value} (h : AsS w' b x0 g o y0 y1 y2) : AsS w'.drew b x0 g o y0 y1 y2 := h
theorem AsS.only {S : Nat → Prop} {w' w2 : World} {b g o : Nat} {x0 y0 y1 y2 : Value} (h : AsS w' b x0 g o y0 y1 y2) (k : Only S w' w2) (h1 : ¬ S b) (h2 : ¬ S g) : AsS w2 b x0 g o y0 y1 y2 :=
  ⟨only_cell h.1 k h1, only_cell h.2.1 k h2, only_cell h.2.2.1 k h2, only_cell h.2.2.2 k h2⟩
set_option maxRecDepth 8000 in
set_option maxHeartbeats 4000000 in
theorem l11Assemble_any (b B : Nat) (a : AZ) (v : Value) (raw : List DV) (w : World) (h : ABox w b B a v raw) (hB : B ≤ w.heap.size) (hg : DGood a.ds) (hn : a.log.length ≤ 100000) :
    Calls Tryz.prog 118 #[.pointer (some ⟨b, 0, none⟩)] w (ADid b B (!a.up) a.assembled w) := by
  obtain ⟨va, vc, rfl, -⟩ := h.od.form
  obtain ⟨c4, f4⟩ := h.c4
  obtain ⟨c1, f1⟩ := h.c1
  cases hu : a.up
  rotate_left
  · have HA : Hid (a.assembled = a) := by show _ = _; simp [AZ.assembled, hu]
    rw [hu] at c4
    go_enter Tryz.func118, Tryz.ntmps118
    go_wp2_with fail
    go_ret
    exact ⟨rfl, ⟨_, _, by rw [HA.out]; exact h⟩, Only.refl _ _⟩
  rw [hu] at c4
  have HA : Hid (a.assembled = { a with ds := flushAll (patchAll a.ds (entsT a.log)), log := [], up := true }) := by show _ = _; simp [AZ.assembled, hu]
  have HG := Lib.hid hg
  have hl5 := hg.1
  have HEk := Lib.hid (ents_ok a.log)
  have hel := entsT_len a.log
  clear hu hg
  go_enter Tryz.func118, Tryz.ntmps118
  go_wp2_with fail
  go_fit (specEntries_any a.log _ (Nat.le_trans hn (by omega)))
  rintro e w1 ⟨pv, praw, rfl, P1, g1⟩
  obtain ⟨pa, pc, rfl, -⟩ := P1.form
  have h1 := h.kept g1
  have HN0 : Hid (∀ k, NowB raw k → k < w.heap.size) := fun k ⟨i, hi, e⟩ => (h.od.in i hi k (.inr e)).2
  have hbN : ¬ NowB raw b := fun ⟨i, hi, e⟩ => h.rb i hi (.inr e)
  have HNab : Hid (∀ k, NowB raw k → AB b B k) := fun k hk => now_ab h k hk
  generalize entsT a.log = ps at *
  clear h c4 f4 c1 f1
  go_wp2_with fail
  go_loopw [4] (fun i wr => ∃ k : Nat, k ≤ ps.length ∧ i = .int .i64 k ∧ ABox wr b B { a with ds := patchAll a.ds (ps.take k) } (.slice va a.ds.length vc) raw ∧ Only (NowB raw) w1 wr) (fun i _ => ps.length - (intOf i).toNat)
  case atStart => exact ⟨0, Nat.zero_le _, rfl, h1, Only.refl _ _⟩
  case round =>
    clear h1
    obtain ⟨k, hk, rfl, H, O⟩ := hrel
    obtain ⟨c0, f0⟩ := H.c0
    by_cases hlt : k < ps.length
    · have hki : (k : Int) < ps.length := by omega
      have P2 := P1.only O (fun q hq x => by have := HN0.out q x; omega)
      have hpk : k < praw.length := by rw [P2.len]; exact hlt
      have hI := P2.is k hpk hlt
      obtain ⟨pg, rfl, y0, y1, y2⟩ := P2.at k hpk hlt
      have hpf := ok_fit (HEk.out ps[k] (List.getElem_mem hlt))
      have hgN : ¬ NowB raw pg := fun x => by have := HN0.out pg x; have := (P2.own.lt pg rfl).1; omega
      have HNx := Lib.hid (patchAll_next a.ds ps k hlt)
      have hlen := patchAll_length a.ds (ps.take k)
      have S0 : AsS wr b (.slice va a.ds.length vc) pg (k * 3) (.int .i64 ps[k].row) praw[k].dv praw[k].vv := ⟨c0, y0, y1, y2⟩
      have HOD : OD wr.drew B (.slice va a.ds.length vc) (patchAll a.ds (ps.take k)) raw := H.od.grew (gdrew (grefl wr) 1)
      have HC := l7Patch_any B (.slice va a.ds.length vc) (patchAll a.ds (ps.take k)) raw ps[k] praw[k].dv praw[k].vv wr.drew HOD (hI.ds.rd.kept (gdrew (grefl wr) 1)) (hI.vs.rd.kept (gdrew (grefl wr) 1)) hpf.2.1 (fun i hi => (hpf.2.2.2.1 i hi).1) (fun q e x => by have := (hI.ds.lt q e).1; have := HN0.out q x; omega) (fun q e x => by have := (hI.vs.lt q e).1; have := HN0.out q x; omega)
      clear y0 y1 y2 c0
      go_wp2_with fail
      go_region_held3 (fun w' => AsS w' b (.slice va a.ds.length vc) pg (k * 3) (.int .i64 ps[k].row) praw[k].dv praw[k].vv) (first | assumption | exact S0.drew) (first | (go_at_call 192; go_fit HC; rintro e w8 ⟨rfl, C8, o8⟩; have O8 : Only (NowB raw) wr w8 := (Only.of (gdrew (grefl wr) 1) (fun _ e => by cases e)).trans o8; have S8 := S0.only O8 hbN hgN))
      have H8 := H.disks O8 C8
      dsimp only at H8
      rw [← HNx.out] at H8
      go_wp2_with fail
      go_roundw
      case rel => exact ⟨k + 1, by omega, by go_num, H8, O.trans O8⟩
      case measure => simp [intOf]; omega
    · obtain rfl : k = ps.length := by omega
      rw [List.take_length] at H
      have hgA := HG.out.patchAll ps
      have hlA := patchAll_length a.ds ps
      have OA : Only (AB b B) w wr := (only_grew g1).trans (O.mono HNab.out)
      have HM : Hid (∀ i (h : i < (patchAll a.ds ps).length), ((patchAll a.ds ps)[i]).m.length ≤ 1000) := fun i hi => by have := (hgA.2 _ (List.getElem_mem hi)).2; omega
      generalize patchAll a.ds ps = M at *
      clear P1 O HEk
      go_wp2_with fail
      go_loopw [5] (fun i wr => ∃ (k : Nat) (rw' : List DV), k ≤ M.length ∧ i = .int .i64 k ∧ ABox wr b B { a with ds := flushK M k } (.slice va a.ds.length vc) rw' ∧ Only (AB b B) w wr) (fun i _ => M.length - (intOf i).toNat)
      case atStart => exact ⟨0, raw, Nat.zero_le _, rfl, by simpa [flushK, flushAll] using H, OA⟩
      case round =>
        clear H OA
        obtain ⟨k, raw', hk, rfl, H, O⟩ := hrel
        obtain ⟨c0, f0⟩ := H.c0
        have hfl := flushK_length M k hk
        by_cases hlt : k < M.length
        · have hki : (k : Int) < a.ds.length := by omega
          have hlk : k < (flushK M k).length := by rw [hfl]; exact hlt
          have hrk : k < raw'.length := by rw [H.od.len]; exact hlk
          obtain ⟨g, e, hgB, hgl, -, -, -, -⟩ := H.od.at k hrk hlk
          cases e
          have DA := H.od.dat k hrk hlk
          dsimp only at DA
          have hbd := HM.out k hlt
          rw [flushK_get M k hlt] at DA
          have hBs : B ≤ wr.heap.size := by have := O.size; omega
          have HS := Lib.hid (flushK_set M k hlt)
          have HGt := Lib.hid (flushK_get M k hlt)
          go_wp2_with fail
          go_fit (l3FlushAt_any g (k * 4) B M[k] _ _ _ DA hBs hbd)
          rintro e w2 ⟨kv, w3, rfl, rfl, g3, K3, N3, D3⟩
          obtain ⟨ka, km, kc, rfl⟩ := K3.sl
          obtain ⟨H2, O2⟩ := H.flushed k hrk hlk (ka := ka) (km := km) (kc := kc) g3 (by dsimp only; rw [HGt.out]; exact K3) N3
          dsimp only at H2
          rw [HGt.out, HS.out] at H2
          go_wp2_with fail
          go_roundw
          case rel => exact ⟨k + 1, _, by omega, by go_num, H2, O.trans O2⟩
          case measure => simp [intOf]; omega
        · obtain rfl : k = M.length := by omega
          have hF : flushK M M.length = flushAll M := by simp [flushK]
          rw [hF] at H
          have hki : ¬ (M.length : Int) < a.ds.length := by omega
          obtain ⟨d1, e1⟩ := H.c1
          obtain ⟨d4, e4⟩ := H.c4
          dsimp only at d1 d4
          go_wp2_with fail
          go_ret
          exact ⟨rfl, ⟨_, _, by rw [HA.out]; exact (H.setLog []).setUp true⟩, O.trans ((only_set _ _ _ _ _).trans (only_set _ _ _ _ _))⟩
end Go.Proofs.YteialkknddpbjaaGreatDoor
namespace Go.Proofs.YteialkknddpbjaaGreatDoor
open Go.ChangeShapes Go.WideShapes Go.ChangeAt Go.RowKit

def rotOk (a : AZ) (d p y : Int) : Bool := decide (0 ≤ d ∧ d < a.ds.length) && ((a.ds.getD d.toNat .zero).has p && inB y 1 32767)
def rotC (c : Int × Int) (y : Int) : Int × Int := (rotV c.1 c.2 y, rotS c.1 c.2)
def DZ.rot (d : DZ) (p : Nat) (y : Int) : DZ := ⟨d.n, d.dead, d.k.set p (rotC (d.k.getD p (0, 0)) y), d.m.set p (rotC (d.m.getD p (0, 0)) y)⟩
def AZ.rotted (a : AZ) (d p y : Int) : AZ := if rotOk a d p y then { a with ds := a.ds.set d.toNat ((a.ds.getD d.toNat .zero).rot p.toNat y) } else a
theorem rot_len (d : DZ) (p : Nat) (y : Int) : (d.rot p y).k.length = d.k.length ∧ (d.rot p y).m.length = d.m.length := by simp [DZ.rot]
theorem DGood.rot {l : List DZ} (h : DGood l) (i p : Nat) (y : Int) : DGood (l.set i ((l.getD i .zero).rot p y)) := by
  have q := h.get i
  have r := rot_len (l.getD i .zero) p y
  exact h.set _ (by omega)
theorem rot_no {a : AZ} {d p y : Int} (h : rotOk a d p y = false) : a.rotted d p y = a := by simp [AZ.rotted, h]
theorem ABox.disksR {w w' : World} {b B : Nat} {a : AZ} {v : Value} {raw : List DV} {l : List DZ} {r : Option Nat} (h : ABox w b B a v raw) (g : w.grownBy w' r) (hr : r ≠ some b) (hd : OD w' B v l raw) : ABox w' b B { a with ds := l } v raw :=
  ⟨gkr g hr h.c0, gkr g hr h.c1, gkr g hr h.c2, gkr g hr h.c3, gkr g hr h.c4, hd, h.vb, h.rb⟩
theorem rot_set {l l2 : List DZ} {i k : Nat} {x0 x1 z0 z1 y : Int} (hi : i < l.length) (hk : k < l[i].k.length) (h2 : i < l2.length) (h : l.set i (l[i].withK (l[i].k.set k (rotV x0 x1 y, rotS x0 x1))) = l2)
    (e0 : l[i].k[k].1 = x0) (e1 : l[i].k[k].2 = x1) (hm : k < l2[i].m.length) (f0 : l2[i].m[k].1 = z0) (f1 : l2[i].m[k].2 = z1) :
    l2.set i (l2[i].withM (l2[i].m.set k (rotV z0 z1 y, rotS z0 z1))) = l.set i (l[i].rot k y) := by
  subst h
  have hm' : k < l[i].m.length := by simpa only [List.getElem_set_self, DZ.withK] using hm
  simp only [List.getElem_set_self, DZ.withK] at f0 f1
  subst e0 e1 f0 f1
  simp [DZ.withM, DZ.withK, DZ.rot, rotC, List.getElem?_eq_getElem hk, List.getElem?_eq_getElem hm']
set_option maxRecDepth 8000 in
set_option maxHeartbeats 4000000 in
theorem l11Rot_any (b B : Nat) (a : AZ) (v : Value) (raw : List DV) (d p y : Int) (w : World) (h : ABox w b B a v raw) (hg : DGood a.ds) :
    Calls Tryz.prog 84 #[.pointer (some ⟨b, 0, none⟩), .int .i64 d, .int .i64 p, .int .i64 y] w (ADid b B (rotOk a d p y) (a.rotted d p y) w) := by
  obtain ⟨va, vc, rfl, -⟩ := h.od.form
  obtain ⟨c0, f0⟩ := h.c0
  by_cases hd0 : d < 0
  · have HO : Hid (rotOk a d p y = false) := by show _ = _; rw [rotOk, decide_eq_false (by omega)]; rfl
    have HA := Lib.hid (rot_no HO.out)
    go_enter Tryz.func84, Tryz.ntmps84
    go_wp2_with fail
    go_ret
    exact ⟨ret_bool HO.out.symm, ⟨_, _, by rw [HA.out]; exact h⟩, Only.refl _ _⟩
  by_cases hd1 : (a.ds.length : Int) ≤ d
  · have HO : Hid (rotOk a d p y = false) := by show _ = _; rw [rotOk, decide_eq_false (by omega)]; rfl
    have HA := Lib.hid (rot_no HO.out)
    go_enter Tryz.func84, Tryz.ntmps84
    go_wp2_with fail
    go_ret
    exact ⟨ret_bool HO.out.symm, ⟨_, _, by rw [HA.out]; exact h⟩, Only.refl _ _⟩
  obtain ⟨i, rfl⟩ := Int.eq_ofNat_of_zero_le (show 0 ≤ d by omega)
  have hil : i < a.ds.length := by omega
  have hii : (i : Int) < a.ds.length := by omega
  have hir : i < raw.length := by rw [h.od.len]; exact hil
  have hgi : a.ds.getD i .zero = a.ds[i] := getD_at hil
  obtain ⟨g, e, hgB, hgl, t0, t1, t2, t3⟩ := h.od.at i hir hil
  cases e
  have HI := (h.od.is i hir hil).isD
  have HI0 : IsD w 0 raw[i].kv raw[i].nv a.ds[i] := ⟨HI.1.lower (Nat.zero_le _), HI.2.lower (Nat.zero_le _)⟩
  have hHas := l3Has_any raw[i].kv raw[i].nv a.ds[i] p w HI0
  obtain ⟨q0, -⟩ := t0
  obtain ⟨q1, -⟩ := t1
  obtain ⟨q2, -⟩ := t2
  obtain ⟨q3, -⟩ := t3
  cases hh : a.ds[i].has p
  · have HO : Hid (rotOk a i p y = false) := by show _ = _; rw [rotOk, Int.toNat_natCast, hgi, hh]; simp
    have HA := Lib.hid (rot_no HO.out)
    rw [hh] at hHas
    go_enter Tryz.func84, Tryz.ntmps84
    go_wp2_with fail
    go_fit hHas
    rintro e w1 ⟨rfl, g1⟩
    go_wp2_with fail
    go_ret
    exact ⟨ret_bool HO.out.symm, ⟨_, _, by rw [HA.out]; exact h.kept g1⟩, only_grew g1⟩
  rw [hh] at hHas
  cases hy : inB y 1 32767
  · have HO : Hid (rotOk a i p y = false) := by show _ = _; rw [rotOk, hy]; simp
    have HA := Lib.hid (rot_no HO.out)
    go_enter Tryz.func84, Tryz.ntmps84
    go_wp2_with fail
    go_fit hHas
    rintro e w1 ⟨rfl, g1⟩
    go_wp2_with fail
    go_fit (l1In_any _ _ _ _)
    rintro e w' ⟨rfl, rfl⟩
    rw [hy]
    go_wp2_with fail
    go_ret
    exact ⟨ret_bool HO.out.symm, ⟨_, _, by rw [HA.out]; exact h.kept g1⟩, only_grew g1⟩
  have hgood := hg.2 _ (List.getElem_mem hil)
  obtain ⟨k, rfl, hkm⟩ : ∃ k : Nat, p = k ∧ k < a.ds[i].m.length := ⟨p.toNat, by simp [DZ.has] at hh; omega, by simp [DZ.has] at hh; omega⟩
  have hkk : k < a.ds[i].k.length := by omega
  have HO : Hid (rotOk a i k y = true) := by show _ = _; rw [rotOk, Int.toNat_natCast, hgi, hh, hy, decide_eq_true (by omega)]; rfl
  have HA : Hid (a.rotted i k y = { a with ds := a.ds.set i (a.ds[i].rot k y) }) := by show _ = _; simp only [AZ.rotted, HO.out, if_true, Int.toNat_natCast, hgi]
  have hyd : a.ds[i].k.length = a.ds[i].m.length := hgood.1
  go_enter Tryz.func84, Tryz.ntmps84
  go_wp2_with fail
  go_fit hHas
  rintro e w1 ⟨rfl, g1⟩
  have h1 := h.kept g1
  clear c0 f0 q0 q1 q2 q3 hHas HI HI0 h
  obtain ⟨c0, f0⟩ := h1.c0
  go_wp2_with fail
  go_fit (l1In_any _ _ _ _)
  rintro e w' ⟨rfl, rfl⟩
  rw [hy]
  obtain ⟨g', e', -, -, -, -, ⟨q2, r2⟩, -⟩ := h1.od.at i hir hil
  cases e'
  have hks := (h1.od.is i hir hil).isD.1
  have hkm' : raw[i].km = a.ds[i].k.length := CS.bound hks |>.1
  obtain ⟨kg, hka, -, -, ⟨t0, s0⟩, ⟨t1, s1⟩⟩ := CS.at hks k hkk
  change w1.cell? ⟨g, i * 4 + 2, none⟩ = some (.slice raw[i].ka raw[i].km raw[i].kc) at q2
  rw [hka, hkm'] at q2
  have HKV : Hid (raw[i].kv = .slice (some ⟨kg, 0, none⟩) a.ds[i].k.length raw[i].kc) := by show Value.slice _ _ _ = _; rw [hka, hkm']
  have hki : (k : Int) < a.ds[i].k.length := by omega
  have H1 := Lib.hid h1
  have G1 := Lib.hid g1
  clear hks h1 g1 hka hkm' hgl
  generalize hx0 : a.ds[i].k[k].1 = x0 at *
  generalize hx1 : a.ds[i].k[k].2 = x1 at *
  have HX0 := Lib.hid hx0
  have HX1 := Lib.hid hx1
  clear hx0 hx1
  go_wp2_with fail
  go_region_with (first | (go_at_call 155; refine (specRotten_any _ _ _ _).mono ?_; rintro e w2 ⟨rfl, g2⟩; have g2' : w1.grownBy w2 none := gtrans (gdrew (grefl w1) 1) g2; obtain ⟨q2', r2'⟩ := gk g2' ⟨q2, r2⟩; obtain ⟨t0', s0'⟩ := gk g2' ⟨t0, s0⟩; obtain ⟨t1', s1'⟩ := gk g2' ⟨t1, s1⟩; have c0' := gkc g2' c0))
  all_goals
    have h2 := H1.out.kept g2'
    have gr : w2.grownBy ((w2.setCell ⟨kg, k * 2, none⟩ (.int .i64 (rotV x0 x1 y))).setCell ⟨kg, k * 2 + 1, none⟩ (.int .i64 (rotS x0 x1))) raw[i].kv.ownBlock := by rw [HKV.out]; exact gset2 w2 kg _ _ _ _
    have hc : CS ((w2.setCell ⟨kg, k * 2, none⟩ (.int .i64 (rotV x0 x1 y))).setCell ⟨kg, k * 2 + 1, none⟩ (.int .i64 (rotS x0 x1))) B raw[i].kv (a.ds[i].k.set k (rotV x0 x1 y, rotS x0 x1)) := by
      have q := (h2.od.is i hir hil).isD.1
      rw [HKV.out] at q ⊢
      exact CS.set q k hkk _ _
    have h3 := h2.disksR gr (fun e => h2.rb i hir (.inl e)) (h2.od.setKept i hir hil gr hc)
    have G3 : Only (AB b B) w _ := (only_grew (gtrans G1.out g2')).trans (Only.of gr (fun j e => .inr (h2.od.in i hir j (.inl e)).1))
    go_wp2_with fail
    clear f0 c0 r2 s0 s1 q2 t0 t1 g2 q2' r2' t0' s0' t1' s1' c0' h2 H1 G1 gr hc g2'
    generalize (w2.setCell ⟨kg, k * 2, none⟩ (.int .i64 (rotV x0 x1 y))).setCell ⟨kg, k * 2 + 1, none⟩ (.int .i64 (rotS x0 x1)) = W at *
    have hl2 : i < (a.ds.set i (a.ds[i].withK (a.ds[i].k.set k (rotV x0 x1 y, rotS x0 x1)))).length := by simpa using hil
    have hm2 : (a.ds.set i (a.ds[i].withK (a.ds[i].k.set k (rotV x0 x1 y, rotS x0 x1))))[i].m = a.ds[i].m := by simp [DZ.withK]
    generalize hD : a.ds.set i (a.ds[i].withK (a.ds[i].k.set k (rotV x0 x1 y, rotS x0 x1))) = l2 at *
    have HD := Lib.hid hD
    clear hD
    have hod : OD W B _ l2 raw := h3.od
    obtain ⟨g', e', -, -, -, -, -, ⟨q3, r3⟩⟩ := hod.at i hir hl2
    cases e'
    have hns := (hod.is i hir hl2).isD.2
    have hnm' : raw[i].nm = a.ds[i].m.length := (CS.bound hns).1.trans (by rw [hm2])
    have hkm2 : k < l2[i].m.length := by rw [hm2]; exact hkm
    obtain ⟨ng, hna, -, -, ⟨t0, s0⟩, ⟨t1, s1⟩⟩ := CS.at hns k hkm2
    change W.cell? ⟨g, i * 4 + 3, none⟩ = some (.slice raw[i].na raw[i].nm raw[i].nc) at q3
    rw [hna, hnm'] at q3
    have HNV : Hid (raw[i].nv = .slice (some ⟨ng, 0, none⟩) a.ds[i].m.length raw[i].nc) := by show Value.slice _ _ _ = _; rw [hna, hnm']
    have hki2 : (k : Int) < a.ds[i].m.length := by omega
    have H3 := Lib.hid h3
    have HG3 := Lib.hid G3
    clear hns h3 hod G3 hna hnm' hm2
    generalize hz0 : l2[i].m[k].1 = z0 at *
    generalize hz1 : l2[i].m[k].2 = z1 at *
    have HE := Lib.hid (rot_set hil hkk hl2 HD.out HX0.out HX1.out hkm2 hz0 hz1)
    clear hz0 hz1
    go_region_with (first | (go_at_call 155; refine (specRotten_any _ _ _ _).mono ?_; rintro e w4 ⟨rfl, g4⟩; have g4' : W.grownBy w4 none := gtrans (gdrew (grefl W) 1) g4; obtain ⟨q3', r3'⟩ := gk g4' ⟨q3, r3⟩; obtain ⟨t0', s0'⟩ := gk g4' ⟨t0, s0⟩; obtain ⟨t1', s1'⟩ := gk g4' ⟨t1, s1⟩))
    all_goals
      have h4 := H3.out.kept g4'
      have gr : w4.grownBy ((w4.setCell ⟨ng, k * 2, none⟩ (.int .i64 (rotV z0 z1 y))).setCell ⟨ng, k * 2 + 1, none⟩ (.int .i64 (rotS z0 z1))) raw[i].nv.ownBlock := by rw [HNV.out]; exact gset2 w4 ng _ _ _ _
      have hc : CS ((w4.setCell ⟨ng, k * 2, none⟩ (.int .i64 (rotV z0 z1 y))).setCell ⟨ng, k * 2 + 1, none⟩ (.int .i64 (rotS z0 z1))) B raw[i].nv (l2[i].m.set k (rotV z0 z1 y, rotS z0 z1)) := by
        have q := (OD.is (l := l2) h4.od i hir hl2).isD.2
        rw [HNV.out] at q ⊢
        exact CS.set q k hkm2 _ _
      have h5 := h4.disksR gr (fun e => h4.rb i hir (.inr e)) (OD.setNow (l := l2) h4.od i hir hl2 gr hc)
      have G5 := (HG3.out.trans (only_grew g4')).trans (Only.of gr (fun j e => .inr (h4.od.in i hir j (.inr e)).1))
      rw [HE.out] at h5
      go_wp2_with fail
      go_ret
      exact ⟨ret_bool HO.out.symm, ⟨_, _, by rw [HA.out]; exact h5⟩, G5⟩
end Go.Proofs.YteialkknddpbjaaGreatDoor
