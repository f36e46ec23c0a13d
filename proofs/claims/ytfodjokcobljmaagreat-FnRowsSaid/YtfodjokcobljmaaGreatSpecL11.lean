/- What the specification's l11Fall does. -/
import Derived.Test.YtfodjokcobljmaaGreatSpecL09d
namespace Go.Proofs.YtfodjokcobljmaaGreat
open Go.ChangeShapes Go.WideShapes Go.ChangeAt Go.RowKit
attribute [local go_sem] str_list str_size str_add lit_list0 add_lit lit_add str_cut

/-- the blocks of the disks' lists -/
def HasB (raw : List DV) (k : Nat) : Prop := ∃ i, ∃ h : i < raw.length, raw[i].has k
def setAt (sets : List Int) (i : Nat) : Int := if (decide (i < sets.length) && inB (sets.getD i 0) 0 65535) = true then sets.getD i 0 else 0
theorem setAt_b (sets : List Int) (i : Nat) : 0 ≤ setAt sets i ∧ setAt sets i ≤ 65535 := by
  unfold setAt
  split
  · rename_i h
    simp only [Bool.and_eq_true] at h
    exact inB_iff.1 h.2
  · omega
def fallK (l : List DZ) (sets : List Int) : Nat → List DZ
  | 0 => l
  | k + 1 => (fallK l sets k).set k (((fallK l sets k).getD k .zero).fall (setAt sets k))
def fallZ (l : List DZ) (sets : List Int) : List DZ := fallK l sets l.length
theorem fallK_length (l : List DZ) (sets : List Int) (k : Nat) : (fallK l sets k).length = l.length := by
  induction k with
  | zero => rfl
  | succ k ih => simp [fallK, ih]
theorem fall_len (d : DZ) (s : Int) : (d.fall s).k.length = d.m.length ∧ (d.fall s).m.length = d.m.length := by simp [DZ.fall, fallL]
theorem DGood.fallK {l : List DZ} (h : DGood l) (sets : List Int) (k : Nat) : DGood (fallK l sets k) := by
  induction k with
  | zero => exact h
  | succ k ih =>
    unfold Go.Proofs.YtfodjokcobljmaaGreat.fallK
    have q := ih.get k
    have r := fall_len ((Go.Proofs.YtfodjokcobljmaaGreat.fallK l sets k).getD k .zero) (setAt sets k)
    exact ih.set _ (by omega)
theorem DGood.fallZ {l : List DZ} (h : DGood l) (sets : List Int) : DGood (fallZ l sets) := h.fallK sets _
def AZ.fell (a : AZ) (sets : List Int) (keep : Int) : AZ := if a.up then ⟨fallZ a.ds sets, if a.stage = 1 then tornT a.next keep else a.log, [], 0, false⟩ else a
section
variable {w w' : World} {b B : Nat} {a : AZ} {v : Value} {raw : List DV}
theorem ABox.disksH (h : ABox w b B a v raw) {l : List DZ} (o : Only (HasB raw) w w') (hd : OD w' B v l raw) : ABox w' b B { a with ds := l } v raw := by
  have hb : ¬ HasB raw b := fun ⟨i, hi, e⟩ => h.rb i hi e
  exact ⟨o.at hb h.c0, o.at hb h.c1, o.at hb h.c2, o.at hb h.c3, o.at hb h.c4, hd, h.vb, h.rb⟩
theorem has_ab (h : ABox w b B a v raw) (k : Nat) (hk : HasB raw k) : AB b B k := by
  obtain ⟨i, hi, e⟩ := hk
  exact .inr (h.od.in i hi k e).1
end
set_option maxRecDepth 8000 in
set_option maxHeartbeats 4000000 in
theorem l11Fall_any (b B : Nat) (a : AZ) (v : Value) (raw : List DV) (sv : Value) (sets : List Int) (keep : Int) (w : World) (h : ABox w b B a v raw) (hg : DGood a.ds) (hs : IR w sv sets) (hsb : ∀ k, sv.ownBlock = some k → k ≠ b ∧ ¬ HasB raw k) (hn : a.next.length ≤ 100000) :
    Calls Tryz.prog 65 #[.pointer (some ⟨b, 0, none⟩), sv, .int .i64 keep] w (ADid b B a.up (a.fell sets keep) w) := by
  obtain ⟨va, vc, rfl, -⟩ := h.od.form
  obtain ⟨sa, sc, rfl, sm⟩ := hs.form
  obtain ⟨c4, f4⟩ := h.c4
  cases hu : a.up
  · have HA : Hid (a.fell sets keep = a) := by show _ = _; simp [AZ.fell, hu]
    rw [hu] at c4
    go_enter Tryz.func65, Tryz.ntmps65
    go_wp2_with fail
    go_ret
    exact ⟨rfl, ⟨_, _, by rw [HA.out]; exact h⟩, Only.refl _ _⟩
  rw [hu] at c4
  have HA : Hid (a.fell sets keep = ⟨fallZ a.ds sets, if a.stage = 1 then tornT a.next keep else a.log, [], 0, false⟩) := by show _ = _; simp [AZ.fell, hu]
  have HG := Lib.hid hg
  have hl5 := hg.1
  have HSb : Hid (∀ k, (Value.slice sa sets.length sc).ownBlock = some k → k ≠ b ∧ ¬ HasB raw k) := hsb
  have HH := Lib.hid h
  clear hu hg hsb h
  go_enter Tryz.func65, Tryz.ntmps65
  go_wp2_with fail
  go_loopw [7] (fun i wr => ∃ k : Nat, k ≤ a.ds.length ∧ i = .int .i64 k ∧ ABox wr b B { a with ds := fallK a.ds sets k } (.slice va a.ds.length vc) raw ∧ Only (HasB raw) w wr) (fun i _ => a.ds.length - (intOf i).toNat)
  case atStart => exact ⟨0, Nat.zero_le _, rfl, HH.out, Only.refl _ _⟩
  case round =>
    clear c4 f4
    obtain ⟨k, hk, rfl, H, O⟩ := hrel
    obtain ⟨c0, f0⟩ := H.c0
    have hfl := fallK_length a.ds sets k
    by_cases hlt : k < a.ds.length
    · have hki : (k : Int) < a.ds.length := by omega
      have hlk : k < (fallK a.ds sets k).length := by omega
      have hrk : k < raw.length := by rw [H.od.len]; exact hlk
      have HN : Hid (fallK a.ds sets (k + 1) = (fallK a.ds sets k).set k (((fallK a.ds sets k)[k]'hlk).fall (setAt sets k))) := by show _ = _; rw [fallK, getD_at hlk]
      have hgk := (HG.out.fallK sets k).2 _ (List.getElem_mem hlk)
      have hsb := setAt_b sets k
      obtain ⟨g, e, -, hgl, -, -, -, -⟩ := H.od.at k hrk hlk
      cases e
      have DA := H.od.dat k hrk hlk
      dsimp only at DA
      have HF := l3FallAt_any g (k * 4) B ((fallK a.ds sets k)[k]'hlk) raw[k].kv raw[k].nv (setAt sets k) wr DA hsb.1 hsb.2 hgk.1 hgk.2
      have HFin : ∀ w8, DAt w8 g (k * 4) B (((fallK a.ds sets k)[k]'hlk).fall (setAt sets k)) raw[k].kv raw[k].nv → Only (Two2 raw[k].kv raw[k].nv) wr w8 → ABox w8 b B { a with ds := fallK a.ds sets (k + 1) } (.slice (some ⟨g, 0, none⟩) a.ds.length vc) raw ∧ Only (HasB raw) w w8 := fun w8 D8 o8 => by
        have C8 := H.od.fell k hrk hlk (fall_n _ _) D8 o8
        dsimp only at C8
        rw [← HN.out] at C8
        have o8' : Only (HasB raw) wr w8 := o8.mono (fun q hq => ⟨k, hrk, hq⟩)
        exact ⟨H.disksH o8' C8, O.trans o8'⟩
      by_cases hin : k < sets.length
      · have hini : (k : Int) < sets.length := by omega
        obtain ⟨sg, so, rfl, x0⟩ := (Rd.only hs O (fun q e => (HSb.out q e).2)).at k hin
        cases hb16 : inB sets[k] 0 65535
        · have HS : Hid (setAt sets k = 0) := by show _ = _; simp [setAt, hin, List.getD_eq_getElem?_getD, hb16]
          rw [HS.out] at HF
          go_wp2_with fail
          go_fit (l1In_any _ _ _ _)
          rintro e w' ⟨rfl, rfl⟩
          rw [hb16]
          go_wp2_with fail
          go_fit HF
          rintro e w8 ⟨rfl, D8, o8⟩
          obtain ⟨H8, O8⟩ := HFin w8 (by rw [HS.out]; exact D8) o8
          go_wp2_with fail
          go_roundw
          case rel => exact ⟨k + 1, by omega, by go_num, H8, O8⟩
          case measure => simp [intOf]; omega
        · have HS : Hid (setAt sets k = sets[k]) := by show _ = _; simp [setAt, hin, List.getD_eq_getElem?_getD, hb16]
          rw [HS.out] at HF
          go_wp2_with fail
          go_fit (l1In_any _ _ _ _)
          rintro e w' ⟨rfl, rfl⟩
          rw [hb16]
          go_wp2_with fail
          go_fit HF
          rintro e w8 ⟨rfl, D8, o8⟩
          obtain ⟨H8, O8⟩ := HFin w8 (by rw [HS.out]; exact D8) o8
          go_wp2_with fail
          go_roundw
          case rel => exact ⟨k + 1, by omega, by go_num, H8, O8⟩
          case measure => simp [intOf]; omega
      · have hini : ¬ (k : Int) < sets.length := by omega
        have HS : Hid (setAt sets k = 0) := by show _ = _; simp [setAt, hin]
        rw [HS.out] at HF
        go_wp2_with fail
        go_fit HF
        rintro e w8 ⟨rfl, D8, o8⟩
        obtain ⟨H8, O8⟩ := HFin w8 (by rw [HS.out]; exact D8) o8
        go_wp2_with fail
        go_roundw
        case rel => exact ⟨k + 1, by omega, by go_num, H8, O8⟩
        case measure => simp [intOf]; omega
    · obtain rfl : k = a.ds.length := by omega
      have O' : Only (AB b B) w wr := O.mono (fun q hq => has_ab HH.out q hq)
      obtain ⟨c1, f1⟩ := H.c1
      obtain ⟨c2, f2⟩ := H.c2
      obtain ⟨c3, f3⟩ := H.c3
      obtain ⟨c4, f4⟩ := H.c4
      dsimp only at c1 c2 c3 c4
      by_cases hst : a.stage = 1
      · have hst' : (a.stage == 1) = true := by simpa using hst
        rw [if_pos hst] at HA
        have H1 := (((H.setLog (tornT a.next keep)).setNext []).setStage 0).setUp false
        clear hst
        go_wp2_with fail
        go_fit (specTorn_any a.next keep _ (Nat.le_trans hn (by omega)))
        rintro e w' ⟨rfl, rfl⟩
        go_wp2_with fail
        go_ret
        exact ⟨rfl, ⟨_, _, by rw [HA.out]; exact H1⟩, O'.trans ((only_set _ _ _ _ _).trans ((only_set _ _ _ _ _).trans ((only_set _ _ _ _ _).trans (only_set _ _ _ _ _))))⟩
      · have hst' : (a.stage == 1) = false := by simpa using hst
        rw [if_neg hst] at HA
        have H1 := ((H.setNext []).setStage 0).setUp false
        clear hst
        go_wp2_with fail
        go_ret
        exact ⟨rfl, ⟨_, _, by rw [HA.out]; exact H1⟩, O'.trans ((only_set _ _ _ _ _).trans ((only_set _ _ _ _ _).trans (only_set _ _ _ _ _)))⟩
end Go.Proofs.YtfodjokcobljmaaGreat
