/- What the specification's l11Assemble does. -/
import Derived.Test.YtfodjokcobljmaaGreatSpecL11
namespace Go.Proofs.YtfodjokcobljmaaGreat
open Go.ChangeShapes Go.WideShapes Go.ChangeAt Go.RowKit
attribute [local go_sem] str_list str_size str_add lit_list0 add_lit lit_add str_cut

def patchAll (l : List DZ) (ps : List PZ) : List DZ := ps.foldl patchZ l
theorem patchAll_next (l : List DZ) (ps : List PZ) (k : Nat) (h : k < ps.length) : patchAll l (ps.take (k + 1)) = patchZ (patchAll l (ps.take k)) ps[k] := by
  unfold patchAll
  rw [List.take_succ_eq_append_getElem h, List.foldl_append]
  rfl
theorem patchAll_length (l : List DZ) (ps : List PZ) : (patchAll l ps).length = l.length := by
  induction ps generalizing l with
  | nil => rfl
  | cons p r ih => simp only [patchAll, List.foldl_cons] at ih ⊢; rw [ih]; exact patchK_length l p _
theorem DGood.patchAll {l : List DZ} (h : DGood l) (ps : List PZ) : DGood (patchAll l ps) := by
  induction ps generalizing l with
  | nil => exact h
  | cons p r ih => exact ih (h.patchZ p)
def AZ.assembled (a : AZ) : AZ := if a.up then a else { a with ds := flushAll (Go.Proofs.YtfodjokcobljmaaGreat.patchAll a.ds (entsT a.log)), log := [], up := true }
theorem OP.only {S : Nat → Prop} {w w' : World} {base : Nat} {v : Value} {l : List PZ} {raw : List PV} (h : OP w base v l raw) (o : Only S w w') (hs : ∀ k, base ≤ k → ¬ S k) : OP w' base v l raw := by
  have q : ∀ k, base ≤ k ∧ k < w.heap.size → w'.heap[k]? = w.heap[k]? := fun k hk => o.block k hk.2 (hs k hk.1)
  exact ⟨Own.same h.own (fun k hk => q k (h.own.lt k hk)), h.len, fun i a b => ⟨(h.is i a b).row, Own.same (h.is i a b).ds (fun k hk => q k ((h.is i a b).ds.lt k hk)), Own.same (h.is i a b).vs (fun k hk => q k ((h.is i a b).vs.lt k hk))⟩, h.self, h.ap, h.out⟩
/-- one disk of an array was flushed -/
theorem ABox.flushed {w w1 : World} {b B g n c : Nat} {a : AZ} {raw : List DV} (H : ABox w b B a (.slice (some ⟨g, 0, none⟩) n c) raw) (k : Nat) (hrk : k < raw.length) (hlk : k < a.ds.length) {ka : Option Addr} {km kc : Nat} (g1 : w.grownBy w1 none) (K1 : CS w1 B (.slice ka km kc) a.ds[k].m) (N1 : ∀ q, (Value.slice ka km kc).ownBlock = some q → w.heap.size ≤ q) :
    ABox (w1.setCell ⟨g, k * 4 + 2, none⟩ (.slice ka km kc)) b B { a with ds := a.ds.set k (a.ds[k].withK a.ds[k].m) } (.slice (some ⟨g, 0, none⟩) n c) (raw.set k (raw[k].kept ka km kc)) ∧ Only (AB b B) w (w1.setCell ⟨g, k * 4 + 2, none⟩ (.slice ka km kc)) := by
  have C2 := H.od.flushed k hrk hlk (a := ka) (m := km) (c := kc) g1 K1 N1
  have hgb : g ≠ b := fun e => H.vb (by rw [e]; rfl)
  have H1 := H.kept g1
  have hgB := (H.od.own.lt g rfl).1
  refine ⟨⟨H1.c0.other (fun e => hgb (congrArg Addr.block e)) _, H1.c1.other (fun e => hgb (congrArg Addr.block e)) _, H1.c2.other (fun e => hgb (congrArg Addr.block e)) _, H1.c3.other (fun e => hgb (congrArg Addr.block e)) _, H1.c4.other (fun e => hgb (congrArg Addr.block e)) _, C2, H.vb, fun i hi x => ?_⟩, (only_grew g1).trans (Only.of (gset (World.grownBy.refl w1 (some g)) _ _) (fun _ e => by cases e; exact .inr hgB))⟩
  simp only [List.length_set] at hi
  by_cases e : k = i
  · subst e
    simp only [List.getElem_set_self] at x
    rcases x with x | x
    · have := N1 b x; have := H.lt; omega
    · exact H.rb k hi (.inr x)
  · simp only [List.getElem_set_ne e] at x
    exact H.rb i hi x
/-- what is read while a log's patches are written -/
abbrev AsS (w' : World) (b : Nat) (x0 : Value) (g o : Nat) (y0 y1 y2 : Value) : Prop := w'.cell? ⟨b, 0, none⟩ = some x0 ∧ w'.cell? ⟨g, o, none⟩ = some y0 ∧ w'.cell? ⟨g, o + 1, none⟩ = some y1 ∧ w'.cell? ⟨g, o + 2, none⟩ = some y2
theorem AsS.drew {w' : World} {b g o : Nat} {x0 y0 y1 y2 : Value} (h : AsS w' b x0 g o y0 y1 y2) : AsS w'.drew b x0 g o y0 y1 y2 := h
theorem AsS.only {S : Nat → Prop} {w' w2 : World} {b g o : Nat} {x0 y0 y1 y2 : Value} (h : AsS w' b x0 g o y0 y1 y2) (k : Only S w' w2) (h1 : ¬ S b) (h2 : ¬ S g) : AsS w2 b x0 g o y0 y1 y2 :=
  ⟨only_cell h.1 k h1, only_cell h.2.1 k h2, only_cell h.2.2.1 k h2, only_cell h.2.2.2 k h2⟩
set_option maxRecDepth 8000 in
set_option maxHeartbeats 4000000 in
theorem l11Assemble_any (b B : Nat) (a : AZ) (v : Value) (raw : List DV) (w : World) (h : ABox w b B a v raw) (hB : B ≤ w.heap.size) (hg : DGood a.ds) (hn : a.log.length ≤ 100000) :
    Calls Tryz.prog 66 #[.pointer (some ⟨b, 0, none⟩)] w (ADid b B (!a.up) a.assembled w) := by
  obtain ⟨va, vc, rfl, -⟩ := h.od.form
  obtain ⟨c4, f4⟩ := h.c4
  obtain ⟨c1, f1⟩ := h.c1
  cases hu : a.up
  rotate_left
  · have HA : Hid (a.assembled = a) := by show _ = _; simp [AZ.assembled, hu]
    rw [hu] at c4
    go_enter Tryz.func66, Tryz.ntmps66
    go_wp2_with fail
    go_ret
    exact ⟨rfl, ⟨_, _, by rw [HA.out]; exact h⟩, Only.refl _ _⟩
  rw [hu] at c4
  have HA : Hid (a.assembled = { a with ds := flushAll (patchAll a.ds (entsT a.log)), log := [], up := true }) := by show _ = _; simp [AZ.assembled, hu]
  have HG := Lib.hid hg
  have hl5 := hg.1
  have HEk := Lib.hid (ents_ok a.log)
  have hel := entsT_len a.log
  clear hu hg
  go_enter Tryz.func66, Tryz.ntmps66
  go_wp2_with fail
  go_fit (specEntries_any a.log _ (Nat.le_trans hn (by omega)))
  rintro e w1 ⟨pv, praw, rfl, P1, g1⟩
  obtain ⟨pa, pc, rfl, -⟩ := P1.form
  have h1 := h.kept g1
  have HN0 : Hid (∀ k, NowB raw k → k < w.heap.size) := fun k ⟨i, hi, e⟩ => (h.od.in i hi k (.inr e)).2
  have hbN : ¬ NowB raw b := fun ⟨i, hi, e⟩ => h.rb i hi (.inr e)
  have HNab : Hid (∀ k, NowB raw k → AB b B k) := fun k hk => now_ab h k hk
  generalize entsT a.log = ps at *
  clear h c4 f4 c1 f1
  go_wp2_with fail
  go_loopw [4] (fun i wr => ∃ k : Nat, k ≤ ps.length ∧ i = .int .i64 k ∧ ABox wr b B { a with ds := patchAll a.ds (ps.take k) } (.slice va a.ds.length vc) raw ∧ Only (NowB raw) w1 wr) (fun i _ => ps.length - (intOf i).toNat)
  case atStart => exact ⟨0, Nat.zero_le _, rfl, h1, Only.refl _ _⟩
  case round =>
    clear h1
    obtain ⟨k, hk, rfl, H, O⟩ := hrel
    obtain ⟨c0, f0⟩ := H.c0
    by_cases hlt : k < ps.length
    · have hki : (k : Int) < ps.length := by omega
      have P2 := P1.only O (fun q hq x => by have := HN0.out q x; omega)
      have hpk : k < praw.length := by rw [P2.len]; exact hlt
      have hI := P2.is k hpk hlt
      obtain ⟨pg, rfl, y0, y1, y2⟩ := P2.at k hpk hlt
      have hpf := ok_fit (HEk.out ps[k] (List.getElem_mem hlt))
      have hgN : ¬ NowB raw pg := fun x => by have := HN0.out pg x; have := (P2.own.lt pg rfl).1; omega
      have HNx := Lib.hid (patchAll_next a.ds ps k hlt)
      have hlen := patchAll_length a.ds (ps.take k)
      have S0 : AsS wr b (.slice va a.ds.length vc) pg (k * 3) (.int .i64 ps[k].row) praw[k].dv praw[k].vv := ⟨c0, y0, y1, y2⟩
      have HOD : OD wr.drew B (.slice va a.ds.length vc) (patchAll a.ds (ps.take k)) raw := H.od.grew (gdrew (grefl wr) 1)
      have HC := l7Patch_any B (.slice va a.ds.length vc) (patchAll a.ds (ps.take k)) raw ps[k] praw[k].dv praw[k].vv wr.drew HOD (hI.ds.rd.kept (gdrew (grefl wr) 1)) (hI.vs.rd.kept (gdrew (grefl wr) 1)) hpf.2.1 (fun i hi => (hpf.2.2.2.1 i hi).1) (fun q e x => by have := (hI.ds.lt q e).1; have := HN0.out q x; omega) (fun q e x => by have := (hI.vs.lt q e).1; have := HN0.out q x; omega)
      clear y0 y1 y2 c0
      go_wp2_with fail
      go_region_held3 (fun w' => AsS w' b (.slice va a.ds.length vc) pg (k * 3) (.int .i64 ps[k].row) praw[k].dv praw[k].vv) (first | assumption | exact S0.drew) (first | (go_at_call 85; go_fit HC; rintro e w8 ⟨rfl, C8, o8⟩; have O8 : Only (NowB raw) wr w8 := (Only.of (gdrew (grefl wr) 1) (fun _ e => by cases e)).trans o8; have S8 := S0.only O8 hbN hgN))
      have H8 := H.disks O8 C8
      dsimp only at H8
      rw [← HNx.out] at H8
      go_wp2_with fail
      go_roundw
      case rel => exact ⟨k + 1, by omega, by go_num, H8, O.trans O8⟩
      case measure => simp [intOf]; omega
    · obtain rfl : k = ps.length := by omega
      rw [List.take_length] at H
      have hgA := HG.out.patchAll ps
      have hlA := patchAll_length a.ds ps
      have OA : Only (AB b B) w wr := (only_grew g1).trans (O.mono HNab.out)
      have HM : Hid (∀ i (h : i < (patchAll a.ds ps).length), ((patchAll a.ds ps)[i]).m.length ≤ 1000) := fun i hi => by have := (hgA.2 _ (List.getElem_mem hi)).2; omega
      generalize patchAll a.ds ps = M at *
      clear P1 O HEk
      go_wp2_with fail
      go_loopw [5] (fun i wr => ∃ (k : Nat) (rw' : List DV), k ≤ M.length ∧ i = .int .i64 k ∧ ABox wr b B { a with ds := flushK M k } (.slice va a.ds.length vc) rw' ∧ Only (AB b B) w wr) (fun i _ => M.length - (intOf i).toNat)
      case atStart => exact ⟨0, raw, Nat.zero_le _, rfl, by simpa [flushK, flushAll] using H, OA⟩
      case round =>
        clear H OA
        obtain ⟨k, raw', hk, rfl, H, O⟩ := hrel
        obtain ⟨c0, f0⟩ := H.c0
        have hfl := flushK_length M k hk
        by_cases hlt : k < M.length
        · have hki : (k : Int) < a.ds.length := by omega
          have hlk : k < (flushK M k).length := by rw [hfl]; exact hlt
          have hrk : k < raw'.length := by rw [H.od.len]; exact hlk
          obtain ⟨g, e, hgB, hgl, -, -, -, -⟩ := H.od.at k hrk hlk
          cases e
          have DA := H.od.dat k hrk hlk
          dsimp only at DA
          have hbd := HM.out k hlt
          rw [flushK_get M k hlt] at DA
          have hBs : B ≤ wr.heap.size := by have := O.size; omega
          have HS := Lib.hid (flushK_set M k hlt)
          have HGt := Lib.hid (flushK_get M k hlt)
          go_wp2_with fail
          go_fit (l3FlushAt_any g (k * 4) B M[k] _ _ _ DA hBs hbd)
          rintro e w2 ⟨kv, w3, rfl, rfl, g3, K3, N3, D3⟩
          obtain ⟨ka, km, kc, rfl⟩ := K3.sl
          obtain ⟨H2, O2⟩ := H.flushed k hrk hlk (ka := ka) (km := km) (kc := kc) g3 (by dsimp only; rw [HGt.out]; exact K3) N3
          dsimp only at H2
          rw [HGt.out, HS.out] at H2
          go_wp2_with fail
          go_roundw
          case rel => exact ⟨k + 1, _, by omega, by go_num, H2, O.trans O2⟩
          case measure => simp [intOf]; omega
        · obtain rfl : k = M.length := by omega
          have hF : flushK M M.length = flushAll M := by simp [flushK]
          rw [hF] at H
          have hki : ¬ (M.length : Int) < a.ds.length := by omega
          obtain ⟨d1, e1⟩ := H.c1
          obtain ⟨d4, e4⟩ := H.c4
          dsimp only at d1 d4
          go_wp2_with fail
          go_ret
          exact ⟨rfl, ⟨_, _, by rw [HA.out]; exact (H.setLog []).setUp true⟩, O.trans ((only_set _ _ _ _ _).trans (only_set _ _ _ _ _))⟩
end Go.Proofs.YtfodjokcobljmaaGreat
