/- What the specification's l9Step does. -/
import Derived.Test.YtfodjokcobljmaaGreatSpecL09
namespace Go.Proofs.YtfodjokcobljmaaGreat
open Go.ChangeShapes Go.WideShapes Go.ChangeAt Go.RowKit
attribute [local go_sem] str_list str_size str_add lit_list0 add_lit lit_add str_cut

def flushAll (l : List DZ) : List DZ := l.map fun d => d.withK d.m
def flushK (l : List DZ) (k : Nat) : List DZ := flushAll (l.take k) ++ l.drop k
theorem flushK_length (l : List DZ) (k : Nat) (h : k ≤ l.length) : (flushK l k).length = l.length := by simp [flushK, flushAll]; omega
theorem flushK_get (l : List DZ) (k : Nat) (h : k < l.length) : (flushK l k)[k]'(by rw [flushK_length l k (by omega)]; exact h) = l[k] := by
  simp only [flushK]
  rw [List.getElem_append_right (by simp [flushAll]; omega)]
  simp [flushAll, Nat.min_eq_left (Nat.le_of_lt h)]
theorem flushK_set (l : List DZ) (k : Nat) (h : k < l.length) : (flushK l k).set k (l[k].withK l[k].m) = flushK l (k + 1) := by
  have hl : (flushAll (l.take k)).length = k := by simp [flushAll]; omega
  unfold flushK
  rw [List.set_append_right _ _ (by omega), hl, Nat.sub_self, List.drop_eq_getElem_cons h, List.set_cons_zero, List.take_succ_eq_append_getElem h]
  unfold flushAll
  rw [List.map_append, List.append_assoc]
  rfl
def stepOk (a : AZ) : Bool := inB a.stage 1 4
def AZ.stepped (a : AZ) : AZ :=
  if a.stage = 1 then { a with log := a.next, stage := 2 }
  else if a.stage = 2 then { a with ds := patchZ a.ds ((entsT a.next).getD 0 .zero), stage := 3 }
  else if a.stage = 3 then { a with ds := flushAll a.ds, stage := 4 }
  else if a.stage = 4 then { a with log := [], next := [], stage := 0 }
  else a
theorem ents_ok (s : List UInt8) : ∀ p ∈ entsT s, p.ok = true := by
  by_cases h : firstOk s = true ∧ readPok (firstT s) = true
  · rw [entsT_yes h]
    have q := firstN_le h.1
    have ih := ents_ok (s.drop (firstN s))
    intro p hp
    rcases List.mem_cons.1 hp with rfl | hp
    · have := h.2
      simp only [readPok, Bool.and_eq_true] at this
      exact this.2.2
    · exact ih p hp
  · rw [entsT_no h]; simp
termination_by s.length
decreasing_by have := firstN_le h.1; simp; omega
theorem OP.at {w : World} {base : Nat} {a : Option Addr} {n cap : Nat} {l : List PZ} {raw : List PV} (h : OP w base (.slice a n cap) l raw) (i : Nat) (hi : i < raw.length) (hi' : i < l.length) :
    ∃ g, a = some ⟨g, 0, none⟩ ∧ w.cell? ⟨g, i * 3, none⟩ = some (.int .i64 l[i].row) ∧ w.cell? ⟨g, i * 3 + 1, none⟩ = some raw[i].dv ∧ w.cell? ⟨g, i * 3 + 2, none⟩ = some raw[i].vv := by
  obtain ⟨g, h1, h2, h3, h4⟩ := Own.at h.own i hi
  have hr := h.is i hi hi'
  exact ⟨g, h1, by rw [← hr.row]; exact (h4 0 _ rfl).1, (h4 1 _ rfl).1, (h4 2 _ rfl).1⟩
/-- what the step reads of the array -/
abbrev StS (w' : World) (b : Nat) (x0 x2 : Value) : Prop := w'.cell? ⟨b, 0, none⟩ = some x0 ∧ w'.cell? ⟨b, 2, none⟩ = some x2
theorem StS.drew {w' : World} {b : Nat} {x0 x2 : Value} (h : StS w' b x0 x2) : StS w'.drew b x0 x2 := h
theorem StS.kept {w' w2 : World} {b : Nat} {x0 x2 : Value} (h : StS w' b x0 x2) (g : w'.grownBy w2 none) : StS w2 b x0 x2 := ⟨gkc g h.1, gkc g h.2⟩
set_option maxRecDepth 8000 in
set_option maxHeartbeats 4000000 in
theorem l9Step_any (b B : Nat) (a : AZ) (v : Value) (raw : List DV) (w : World) (h : ABox w b B a v raw) (hB : B ≤ w.heap.size) (hl : a.ds.length ≤ 1000) (hm : ∀ i (h : i < a.ds.length), a.ds[i].m.length ≤ 1000)
    (hn : a.next.length ≤ 100000) (he : a.stage = 2 → entsT a.next ≠ []) :
    Calls Tryz.prog 62 #[.pointer (some ⟨b, 0, none⟩)] w (ADid b B (stepOk a) a.stepped w) := by
  obtain ⟨c0, f0⟩ := h.c0
  obtain ⟨c1, f1⟩ := h.c1
  obtain ⟨c2, f2⟩ := h.c2
  obtain ⟨c3, f3⟩ := h.c3
  obtain ⟨va, vc, rfl, -⟩ := h.od.form
  by_cases s1 : a.stage = 1
  · have HA : Hid (a.stepped = { a with log := a.next, stage := 2 }) := by show _ = _; simp [AZ.stepped, s1]
    have HO : Hid (stepOk a = true) := by show _ = _; simp [stepOk, s1, inB]
    rw [s1] at c3
    clear s1 he
    have h1 := (h.setLog a.next).setStage 2
    go_enter Tryz.func62, Tryz.ntmps62
    go_wp2_with fail
    go_ret
    exact ⟨ret_bool HO.out.symm, ⟨_, _, by rw [HA.out]; exact h1⟩, (only_set _ _ _ _ _).trans (only_set _ _ _ _ _)⟩
  by_cases s4 : a.stage = 4
  · have HA : Hid (a.stepped = { a with log := [], next := [], stage := 0 }) := by show _ = _; simp [AZ.stepped, s4]
    have HO : Hid (stepOk a = true) := by show _ = _; simp [stepOk, s4, inB]
    rw [s4] at c3
    clear s1 s4 he
    have h1 := ((h.setLog []).setNext []).setStage 0
    go_enter Tryz.func62, Tryz.ntmps62
    go_wp2_with fail
    go_ret
    exact ⟨ret_bool HO.out.symm, ⟨_, _, by rw [HA.out]; exact h1⟩, (only_set _ _ _ _ _).trans ((only_set _ _ _ _ _).trans (only_set _ _ _ _ _))⟩
  by_cases s2 : a.stage = 2
  · have HA : Hid (a.stepped = { a with ds := patchZ a.ds ((entsT a.next).getD 0 .zero), stage := 3 }) := by show _ = _; simp [AZ.stepped, s2]
    have HO : Hid (stepOk a = true) := by show _ = _; simp [stepOk, s2, inB]
    have hne := he s2
    have hlp : 0 < (entsT a.next).length := List.length_pos_iff.2 hne
    have hlpi : (0 : Int) < (entsT a.next).length := by omega
    have h0 : (entsT a.next).getD 0 .zero = (entsT a.next)[0] := by simp [List.getD_eq_getElem?_getD, hlp]
    rw [h0] at HA
    have hpok := ents_ok a.next (entsT a.next)[0] (List.getElem_mem hlp)
    have hpf := ok_fit hpok
    have hbN : ¬ NowB raw b := fun ⟨i, hi, e⟩ => h.rb i hi (.inr e)
    have hbl := h.lt
    rw [s2] at c3
    have HD := Lib.hid h
    have HN0 : Hid (∀ k, NowB raw k → k < w.heap.size) := fun k ⟨i, hi, e⟩ => (h.od.in i hi k (.inr e)).2
    have HP0 : Hid (∀ i (h : i < (entsT a.next)[0].ds.length), 0 ≤ (entsT a.next)[0].ds[i]) := fun i hi => (hpf.2.2.2.1 i hi).1
    have HPl := Lib.hid hpf.2.1
    generalize hE : (entsT a.next)[0] = P at *
    clear s1 s2 s4 he hne h0 c1 f0 f1 f2 hpok hpf
    go_enter Tryz.func62, Tryz.ntmps62
    go_wp2_with fail
    go_region_with (first | (go_at_call 86; go_fit (specEntries_any a.next _ (Nat.le_trans hn (by omega))); rintro e w8 ⟨pv, praw, rfl, P8, g8⟩; have g8' : w.grownBy w8 none := gtrans (gdrew (grefl w) 1) g8; obtain ⟨pa, pc, rfl, -⟩ := P8.form; obtain ⟨pg, rfl, y0, y1, y2⟩ := P8.at 0 (by rw [P8.len]; exact hlp) hlp; simp only [Nat.zero_mul, Nat.zero_add] at y0 y1 y2; rw [hE] at y0; have c0' := gkc g8' c0) | (go_at_call 85; have hp0 : 0 < praw.length := (by rw [P8.len]; exact hlp); (have hI := P8.is 0 hp0 hlp); (rw [hE] at hI); (have hq1 : w.heap.size ≤ w.drew.heap.size := Nat.le_refl _); (have hX1 : ∀ k, praw[0].dv.ownBlock = some k → ¬ NowB raw k := fun k e x => by have := (hI.ds.lt k e).1; have := HN0.out k x; have : w.drew.heap.size = w.heap.size := rfl; omega); (have hX2 : ∀ k, praw[0].vv.ownBlock = some k → ¬ NowB raw k := fun k e x => by have := (hI.vs.lt k e).1; have := HN0.out k x; have : w.drew.heap.size = w.heap.size := rfl; omega); (go_fit (l7Patch_any B (.slice va a.ds.length vc) a.ds raw P praw[0].dv praw[0].vv w8 (HD.out.od.grew g8') hI.ds.rd hI.vs.rd HPl.out HP0.out hX1 hX2)); rintro e w9 ⟨rfl, C9, O9⟩; have h9 := (HD.out.kept g8').disks O9 C9; obtain ⟨d3, e3⟩ := h9.c3))
    all_goals (
      go_wp2_with fail
      go_ret
      exact ⟨ret_bool HO.out.symm, ⟨_, _, by rw [HA.out]; exact h9.setStage 3⟩, (only_grew g8').trans ((O9.mono (fun k hk => now_ab HD.out k hk)).trans (only_set _ _ _ _ _))⟩)
  by_cases s3 : a.stage = 3
  rotate_left
  · have HA : Hid (a.stepped = a) := by show _ = _; simp [AZ.stepped, s1, s2, s3, s4]
    have HO : Hid (stepOk a = false) := by show _ = _; simp [stepOk, inB]; omega
    have t1 : (a.stage == 1) = false := by simpa using s1
    have t2 : (a.stage == 2) = false := by simpa using s2
    have t3 : (a.stage == 3) = false := by simpa using s3
    have t4 : (a.stage == 4) = false := by simpa using s4
    clear s1 s2 s3 s4 he
    go_enter Tryz.func62, Tryz.ntmps62
    go_wp2_with fail
    go_ret
    exact ⟨ret_bool HO.out.symm, ⟨_, _, by rw [HA.out]; exact h⟩, Only.refl _ _⟩
  have HA : Hid (a.stepped = { a with ds := flushAll a.ds, stage := 4 }) := by show _ = _; simp [AZ.stepped, s3]
  have HO : Hid (stepOk a = true) := by show _ = _; simp [stepOk, s3, inB]
  rw [s3] at c3
  have HM : Hid (∀ i (h : i < a.ds.length), a.ds[i].m.length ≤ 1000) := hm
  clear s1 s2 s3 s4 he hm c0 c1 c2 f0 f1 f2 f3
  go_enter Tryz.func62, Tryz.ntmps62
  go_wp2_with fail
  go_loopw [3] (fun i wr => ∃ (k : Nat) (rw' : List DV), k ≤ a.ds.length ∧ i = .int .i64 k ∧ ABox wr b B { a with ds := flushK a.ds k } (.slice va a.ds.length vc) rw' ∧ Only (AB b B) w wr) (fun i _ => a.ds.length - (intOf i).toNat)
  case atStart => exact ⟨0, raw, Nat.zero_le _, rfl, by simpa [flushK, flushAll] using h, Only.refl _ _⟩
  case round =>
    clear h c3
    obtain ⟨k, raw', hk, rfl, H, O⟩ := hrel
    obtain ⟨c0, f0⟩ := H.c0
    have hfl := flushK_length a.ds k hk
    by_cases hlt : k < a.ds.length
    · have hki : (k : Int) < a.ds.length := by omega
      have hlk : k < (flushK a.ds k).length := by rw [hfl]; exact hlt
      have hrk : k < raw'.length := by rw [H.od.len]; exact hlk
      obtain ⟨g, e, hgB, hgl, -, -, -, -⟩ := H.od.at k hrk hlk
      cases e
      have DA := H.od.dat k hrk hlk
      dsimp only at DA
      have hbd := HM.out k hlt
      rw [flushK_get a.ds k hlt] at DA
      have hBs : B ≤ wr.heap.size := by have := O.size; omega
      have HS := Lib.hid (flushK_set a.ds k hlt)
      have HG := Lib.hid (flushK_get a.ds k hlt)
      go_wp2_with fail
      go_fit (l3FlushAt_any g (k * 4) B a.ds[k] _ _ _ DA hBs hbd)
      rintro e w2 ⟨kv, w1, rfl, rfl, g1, K1, N1, D2⟩
      obtain ⟨ka, km, kc, rfl⟩ := K1.sl
      have C2 := H.od.flushed k hrk hlk (a := ka) (m := km) (c := kc) g1 (by dsimp only; rw [HG.out]; exact K1) N1
      dsimp only at C2
      rw [HG.out, HS.out] at C2
      have hgb : g ≠ b := fun e => H.vb (by rw [e]; rfl)
      have H2 : ABox (w1.setCell ⟨g, k * 4 + 2, none⟩ (.slice ka km kc)) b B { a with ds := flushK a.ds (k + 1) } (.slice (some ⟨g, 0, none⟩) a.ds.length vc) (raw'.set k (raw'[k].kept ka km kc)) := by
        have H1 := H.kept g1
        refine ⟨H1.c0.other (fun e => hgb (congrArg Addr.block e)) _, H1.c1.other (fun e => hgb (congrArg Addr.block e)) _, H1.c2.other (fun e => hgb (congrArg Addr.block e)) _, H1.c3.other (fun e => hgb (congrArg Addr.block e)) _, H1.c4.other (fun e => hgb (congrArg Addr.block e)) _, C2, H.vb, fun i hi x => ?_⟩
        simp only [List.length_set] at hi
        by_cases e : k = i
        · subst e
          simp only [List.getElem_set_self] at x
          rcases x with x | x
          · have := N1 b x; have := H.lt; omega
          · exact H.rb k hi (.inr x)
        · simp only [List.getElem_set_ne e] at x
          exact H.rb i hi x
      have O2 : Only (AB b B) wr (w1.setCell ⟨g, k * 4 + 2, none⟩ (.slice ka km kc)) := (only_grew g1).trans (Only.of (gset (World.grownBy.refl w1 (some g)) _ _) (fun _ e => by cases e; exact .inr hgB))
      go_wp2_with fail
      go_roundw
      case rel => exact ⟨k + 1, _, by omega, by go_num, H2, O.trans O2⟩
      case measure => simp [intOf]; omega
    · obtain rfl : k = a.ds.length := by omega
      have hF : flushK a.ds a.ds.length = flushAll a.ds := by simp [flushK]
      rw [hF] at H
      obtain ⟨d3, e3⟩ := H.c3
      go_wp2_with fail
      go_ret
      exact ⟨ret_bool HO.out.symm, ⟨_, _, by rw [HA.out]; exact H.setStage 4⟩, O.trans (only_set _ _ _ _ _)⟩
end Go.Proofs.YtfodjokcobljmaaGreat
