/- What the specification's l9Write does. -/
import Derived.Test.YtfodjokcobljmaaGreatSpecL09b
namespace Go.Proofs.YtfodjokcobljmaaGreat
open Go.ChangeShapes Go.WideShapes Go.ChangeAt Go.RowKit
attribute [local go_sem] str_list str_size str_add lit_list0 add_lit lit_add str_cut

/-- lists of disks as arrays have them -/
def DGood (l : List DZ) : Prop := l.length ≤ 5 ∧ ∀ d ∈ l, d.k.length = d.m.length ∧ d.m.length ≤ 16
theorem put_len (d : DZ) (p v : Int) : (d.put p v).k.length = d.k.length ∧ (d.put p v).m.length = d.m.length := by unfold DZ.put; split <;> simp
theorem DGood.set {l : List DZ} (h : DGood l) (i : Nat) {d : DZ} (hd : d.k.length = d.m.length ∧ d.m.length ≤ 16) : DGood (l.set i d) := by
  refine ⟨by simpa using h.1, fun x hx => ?_⟩
  rcases List.mem_or_eq_of_mem_set hx with hx | rfl
  · exact h.2 x hx
  · exact hd
theorem DGood.get {l : List DZ} (h : DGood l) (i : Nat) : (l.getD i .zero).k.length = (l.getD i .zero).m.length ∧ (l.getD i .zero).m.length ≤ 16 := by
  by_cases hi : i < l.length
  · rw [getD_at hi]; exact h.2 _ (List.getElem_mem hi)
  · simp [List.getD_eq_getElem?_getD, List.getElem?_eq_none (Nat.le_of_not_lt hi), DZ.zero]
theorem DGood.patchK {l : List DZ} (h : DGood l) (p : PZ) (k : Nat) : DGood (patchK l p k) := by
  induction k with
  | zero => exact h
  | succ k ih =>
    unfold Go.Proofs.YtfodjokcobljmaaGreat.patchK
    split
    · have q := ih.get (p.ds.getD k 0).toNat
      have r := put_len ((Go.Proofs.YtfodjokcobljmaaGreat.patchK l p k).getD (p.ds.getD k 0).toNat .zero) p.row (p.vs.getD k 0)
      exact ih.set _ (by omega)
    · exact ih
theorem DGood.patchZ {l : List DZ} (h : DGood l) (p : PZ) : DGood (patchZ l p) := h.patchK p _
theorem DGood.flush {l : List DZ} (h : DGood l) : DGood (flushAll l) := by
  refine ⟨by simpa [flushAll] using h.1, fun d hd => ?_⟩
  simp only [flushAll, List.mem_map] at hd
  obtain ⟨x, hx, rfl⟩ := hd
  exact ⟨rfl, (h.2 x hx).2⟩
/-- what a write leaves -/
def AZ.written (a : AZ) (p x : Int) : AZ := if beginOk a p x then { a with ds := flushAll (patchZ a.ds (forP a.ds p x)), log := [], next := [], stage := 0 } else a
def rankS : Value → Nat
  | .int _ x => if x = 0 then 0 else (5 - x).toNat
  | _ => 0
theorem frame_len {p : PZ} (h : p.ok = true) : (frameT p.text).length ≤ 120 := by
  have := frameT_length p.text (by have := text_len h; omega)
  have := text_len h
  omega
set_option maxRecDepth 8000 in
set_option maxHeartbeats 2000000 in
theorem l9Write_any (b B : Nat) (a : AZ) (v : Value) (raw : List DV) (p x : Int) (w : World) (h : ABox w b B a v raw) (hB : B ≤ w.heap.size) (hg : DGood a.ds) :
    Calls Tryz.prog 60 #[.pointer (some ⟨b, 0, none⟩), .int .i64 p, .int .i64 x] w (ADid b B (beginOk a p x) (a.written p x) w) := by
  have hl := hg.1
  cases hok : beginOk a p x
  · have HW : Hid (a.written p x = a ∧ a.begun p x = a) := by constructor <;> simp [AZ.written, AZ.begun, hok]
    go_enter Tryz.func60, Tryz.ntmps60
    go_wp2_with fail
    go_fit (l9Begin_any b B a v raw p x _ h (by omega))
    rintro e w1 ⟨rfl, h1, o1⟩
    rw [hok]
    go_wp2_with fail
    go_ret
    exact ⟨rfl, ⟨_, _, by rw [HW.out.1]; rw [HW.out.2] at h1; exact h1⟩, o1⟩
  have hfo : forOk a.ds p x = true := by simp only [beginOk, Bool.and_eq_true] at hok; exact hok.2.2
  have hpo := for_ok hfo
  have hE := ents_one hpo
  have hfl := frame_len hpo
  generalize hP : forP a.ds p x = P at *
  have HB1 : Hid (a.begun p x = { a with next := frameT P.text, stage := 1 }) := by show _ = _; simp [AZ.begun, hok, hP]
  have HW : Hid (a.written p x = { a with ds := flushAll (patchZ a.ds P), log := [], next := [], stage := 0 }) := by show _ = _; simp [AZ.written, hok, hP]
  have HE := Lib.hid hE
  have HG := Lib.hid hg
  clear hE hfo hP hg
  go_enter Tryz.func60, Tryz.ntmps60
  go_wp2_with fail
  go_fit (l9Begin_any b B a v raw p x _ h (by omega))
  rintro e w1 ⟨rfl, h1, o1⟩
  rw [hok]
  rw [HB1.out] at h1
  go_wp2_with fail
  go_loopw [] (fun wr => (∃ v' raw', ABox wr b B { a with next := frameT P.text, stage := 1 } v' raw' ∨ ABox wr b B { a with log := frameT P.text, next := frameT P.text, stage := 2 } v' raw' ∨ ABox wr b B { a with ds := patchZ a.ds P, log := frameT P.text, next := frameT P.text, stage := 3 } v' raw' ∨ ABox wr b B { a with ds := flushAll (patchZ a.ds P), log := frameT P.text, next := frameT P.text, stage := 4 } v' raw' ∨ ABox wr b B { a with ds := flushAll (patchZ a.ds P), log := [], next := [], stage := 0 } v' raw') ∧ Only (AB b B) w wr) (fun wr => rankS (valAt wr b 3))
  case atStart => exact ⟨⟨_, _, .inl h1⟩, o1⟩
  case round =>
    clear h h1 o1
    obtain ⟨⟨v', raw', hc⟩, O⟩ := hrel
    have hBs : B ≤ wr.heap.size := by have := O.size; omega
    rcases hc with hc | hc | hc | hc | hc
    · have HN : Hid (AZ.stepped { a with next := frameT P.text, stage := 1 } = { a with log := frameT P.text, next := frameT P.text, stage := 2 }) := by show _ = _; simp [AZ.stepped]
      have hv1 : valAt wr b 3 = .int .i64 1 := by simp [valAt, hc.c3.1]
      obtain ⟨c3, f3⟩ := hc.c3
      dsimp only at c3
      have hgd : DGood a.ds := HG.out
      have hgl := hgd.1
      have HM : Hid (∀ i (h : i < a.ds.length), (a.ds[i]).m.length ≤ 1000) := fun i hi => by have := (hgd.2 _ (List.getElem_mem hi)).2; omega
      go_wp2_with fail
      go_fit (l9Step_any b B { a with next := frameT P.text, stage := 1 } v' raw' wr hc hBs (by dsimp only; omega) (fun i hi => HM.out i hi) (by dsimp only; omega) (fun e => by simp at e))
      rintro e w2 ⟨rfl, ⟨v2, raw2, h2⟩, o2⟩
      rw [HN.out] at h2
      go_wp2_with fail
      go_roundw
      case rel => exact ⟨⟨v2, raw2, .inr (.inl h2)⟩, O.trans o2⟩
      case measure =>
        have hv2 := h2.c3.1
        dsimp only at hv2
        rw [hv1, show valAt w2 b 3 = _ from by simp [valAt, hv2]; rfl]
        decide
    · have HN : Hid (AZ.stepped { a with log := frameT P.text, next := frameT P.text, stage := 2 } = { a with ds := patchZ a.ds P, log := frameT P.text, next := frameT P.text, stage := 3 }) := by show _ = _; simp [AZ.stepped, HE.out]
      have hv1 : valAt wr b 3 = .int .i64 2 := by simp [valAt, hc.c3.1]
      obtain ⟨c3, f3⟩ := hc.c3
      dsimp only at c3
      have hgd : DGood a.ds := HG.out
      have hgl := hgd.1
      have HM : Hid (∀ i (h : i < a.ds.length), (a.ds[i]).m.length ≤ 1000) := fun i hi => by have := (hgd.2 _ (List.getElem_mem hi)).2; omega
      go_wp2_with fail
      go_fit (l9Step_any b B { a with log := frameT P.text, next := frameT P.text, stage := 2 } v' raw' wr hc hBs (by dsimp only; omega) (fun i hi => HM.out i hi) (by dsimp only; omega) (fun _ => by dsimp only; rw [HE.out]; simp))
      rintro e w2 ⟨rfl, ⟨v2, raw2, h2⟩, o2⟩
      rw [HN.out] at h2
      go_wp2_with fail
      go_roundw
      case rel => exact ⟨⟨v2, raw2, .inr (.inr (.inl h2))⟩, O.trans o2⟩
      case measure =>
        have hv2 := h2.c3.1
        dsimp only at hv2
        rw [hv1, show valAt w2 b 3 = _ from by simp [valAt, hv2]; rfl]
        decide
    · have HN : Hid (AZ.stepped { a with ds := patchZ a.ds P, log := frameT P.text, next := frameT P.text, stage := 3 } = { a with ds := flushAll (patchZ a.ds P), log := frameT P.text, next := frameT P.text, stage := 4 }) := by show _ = _; simp [AZ.stepped]
      have hv1 : valAt wr b 3 = .int .i64 3 := by simp [valAt, hc.c3.1]
      obtain ⟨c3, f3⟩ := hc.c3
      dsimp only at c3
      have hgd : DGood (patchZ a.ds P) := HG.out.patchZ P
      have hgl := hgd.1
      have HM : Hid (∀ i (h : i < (patchZ a.ds P).length), ((patchZ a.ds P)[i]).m.length ≤ 1000) := fun i hi => by have := (hgd.2 _ (List.getElem_mem hi)).2; omega
      go_wp2_with fail
      go_fit (l9Step_any b B { a with ds := patchZ a.ds P, log := frameT P.text, next := frameT P.text, stage := 3 } v' raw' wr hc hBs (by dsimp only; omega) (fun i hi => HM.out i hi) (by dsimp only; omega) (fun e => by simp at e))
      rintro e w2 ⟨rfl, ⟨v2, raw2, h2⟩, o2⟩
      rw [HN.out] at h2
      go_wp2_with fail
      go_roundw
      case rel => exact ⟨⟨v2, raw2, .inr (.inr (.inr (.inl h2)))⟩, O.trans o2⟩
      case measure =>
        have hv2 := h2.c3.1
        dsimp only at hv2
        rw [hv1, show valAt w2 b 3 = _ from by simp [valAt, hv2]; rfl]
        decide
    · have HN : Hid (AZ.stepped { a with ds := flushAll (patchZ a.ds P), log := frameT P.text, next := frameT P.text, stage := 4 } = { a with ds := flushAll (patchZ a.ds P), log := [], next := [], stage := 0 }) := by show _ = _; simp [AZ.stepped]
      have hv1 : valAt wr b 3 = .int .i64 4 := by simp [valAt, hc.c3.1]
      obtain ⟨c3, f3⟩ := hc.c3
      dsimp only at c3
      have hgd : DGood (flushAll (patchZ a.ds P)) := (HG.out.patchZ P).flush
      have hgl := hgd.1
      have HM : Hid (∀ i (h : i < (flushAll (patchZ a.ds P)).length), ((flushAll (patchZ a.ds P))[i]).m.length ≤ 1000) := fun i hi => by have := (hgd.2 _ (List.getElem_mem hi)).2; omega
      go_wp2_with fail
      go_fit (l9Step_any b B { a with ds := flushAll (patchZ a.ds P), log := frameT P.text, next := frameT P.text, stage := 4 } v' raw' wr hc hBs (by dsimp only; omega) (fun i hi => HM.out i hi) (by dsimp only; omega) (fun e => by simp at e))
      rintro e w2 ⟨rfl, ⟨v2, raw2, h2⟩, o2⟩
      rw [HN.out] at h2
      go_wp2_with fail
      go_roundw
      case rel => exact ⟨⟨v2, raw2, .inr (.inr (.inr (.inr h2)))⟩, O.trans o2⟩
      case measure =>
        have hv2 := h2.c3.1
        dsimp only at hv2
        rw [hv1, show valAt w2 b 3 = _ from by simp [valAt, hv2]; rfl]
        decide
    · obtain ⟨c3, f3⟩ := hc.c3
      dsimp only at c3
      go_wp2_with fail
      go_ret
      exact ⟨rfl, ⟨_, _, by rw [HW.out]; exact hc⟩, O⟩
end Go.Proofs.YtfodjokcobljmaaGreat
