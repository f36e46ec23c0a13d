/- The laws' own helpers. -/
import Derived.Test.YtfodjokcobljmaaGreatDraw
import Derived.Test.YtfodjokcobljmaaGreatBaseL04
import Derived.Deep.Slices
import Derived.Deep.Fields
import Derived.BigQuiet
import Derived.LoopTactic
import Derived.Deep.DeepFit
import Derived.Test.YtfodjokcobljmaaGreatRowsA
namespace Go.Proofs.YtfodjokcobljmaaGreat
open Go.ChangeShapes Go.WideShapes Go.ChangeAt Go.RowKit

theorem codeAt_of {w : World} {a : Option Addr} {len cap : Nat} {z : List Int}
    (h : (a = none ∧ len = 0 ∧ cap = 0 ∧ z = []) ∨ ∃ x, a = some x ∧ len ≤ cap ∧ cap ≤ maxLen ∧ z.length = cap ∧ (∀ i, i < z.length → w.cell? (x.add i) = some (.int .u8 (z.getD i 0))) ∧ ∀ n ∈ z, (Lit.int .u8 n).wf = true)
    (hl : len ≤ 4096) : CodeAt w a len := by
  rcases h with ⟨rfl, rfl, rfl, rfl⟩ | ⟨⟨b, o, sp⟩, rfl, h1, h2, h3, h4, h5⟩
  · exact .inl rfl
  · by_cases h0 : len = 0
    · exact .inl h0
    have hc0 := h4 0 (by omega)
    have hsp : sp = none := by
      cases sp with
      | none => rfl
      | some x => simp [World.cell?, Addr.add] at hc0; split at hc0 <;> simp_all
    subst hsp
    have hlt : b < w.heap.size := by
      apply Classical.byContradiction; intro hn
      simp [World.cell?, Addr.add, Array.getElem?_eq_none (Nat.le_of_not_lt hn)] at hc0
    refine .inr ⟨b, o, rfl, hlt, by omega, fun k hk => ?_⟩
    have hw := h5 (z.getD k 0) (by rw [List.getD_eq_getElem?_getD, List.getElem?_eq_getElem (by omega)]; exact List.getElem_mem _)
    have hw' : 0 ≤ z.getD k 0 ∧ z.getD k 0 ≤ 255 := by
      have h6 := hw
      simp only [Lit.wf, Bool.and_eq_true, decide_eq_true_eq] at h6
      exact h6
    exact ⟨_, hw'.1, hw'.2, by have := h4 k (by omega); rw [← this]; cases k <;> simp [Addr.add]⟩
theorem big_yes (a : Option Addr) (len cap : Nat) (w : World) (h : 4096 < len) :
    Calls Tryz.prog 4 #[.slice a len cap] w fun e w' => e = .returned (.bool true) ∧ w = w' := by
  have h' : (4096 : Int) < (len : Int) := by omega
  go_enter Tryz.func4, Tryz.ntmps4
  go_wp2
  go_ret
  exact ⟨rfl, rfl⟩
theorem big_no (a : Option Addr) (len cap : Nat) (w : World) (h : len ≤ 4096) :
    Calls Tryz.prog 4 #[.slice a len cap] w fun e w' => e = .returned (.bool false) ∧ w = w' := by
  have h' : ¬ (4096 : Int) < (len : Int) := by omega
  go_enter Tryz.func4, Tryz.ntmps4
  go_wp2
  go_ret
  exact ⟨ret_bool (by simp), rfl⟩
def Picked (n : Int) (w : World) (e : Ending) (w' : World) : Prop := ∃ x : Int, 0 ≤ x ∧ x < n ∧ e = .returned (.int .i64 x) ∧ w = w'
end Go.Proofs.YtfodjokcobljmaaGreat
namespace Go.Proofs.YtfodjokcobljmaaGreat
open Go.ChangeShapes Go.WideShapes Go.ChangeAt Go.RowKit Go.Joins Go.Deep
set_option maxRecDepth 8000

theorem made_ints (n : Nat) : (madeCells intE.z.cells (n * 1)).toList = intE.all (List.replicate n (0 : Int)) := by
  rw [intE_all, List.map_replicate, Nat.mul_one]
  apply List.ext_getElem?
  intro i
  by_cases hi : i < n
  · rw [List.getElem?_replicate, if_pos hi]
    simp [madeCells, hi, intE, Value.cells, Nat.mod_one]
  · rw [List.getElem?_eq_none (by rw [Array.length_toList, size_madeCells]; omega), List.getElem?_eq_none (by simp; omega)]
def zeroI (n : Nat) : Array Value := madeCells intE.z.cells (n * 1)
theorem make_ints (n : Nat) (hn : n ≤ 1048576) (w : World) : (Instr.makeSlice 31 (.int .i64 n) (.int .i64 n)).run Tryz.prog w = .ok (.slice (some ⟨w.heap.size, 0, none⟩) n n) (w.alloc (.cells (zeroI n) 2)) := by
  obtain ⟨i, hi, hz, h1, h2⟩ := info_parts intE.info
  have hr := run_make (P := Tryz.prog) w intE.S intE.T i intE.z intE.und hi hz .i64 .i64 n n (by omega) (by omega) (by rw [h2]; show (8 : Int) * n ≤ _; omega) (by omega)
  rw [h1] at hr
  simp only [Int.toNat_natCast] at hr
  exact hr
theorem IS.made (w : World) (n : Nat) (hn : n ≤ 1048576) {base : Nat} (hb : base ≤ w.heap.size) : IS (w.alloc (.cells (zeroI n) 2)) base (.slice (some ⟨w.heap.size, 0, none⟩) n n) (List.replicate n 0) := by
  have := Own.fresh intE w (List.replicate n (0 : Int)) _ (made_ints n) (by simp; omega) hb
  rw [List.length_replicate] at this
  exact this
/-- the numbers that are filled so far -/
def fillI (l : List Int) (k : Nat) : List Int := l.take k ++ List.replicate (l.length - k) 0
theorem fillI_length (l : List Int) (k : Nat) (h : k ≤ l.length) : (fillI l k).length = l.length := by simp [fillI]; omega
theorem fillI_set (l : List Int) (k : Nat) (h : k < l.length) : (fillI l k).set k l[k] = fillI l (k + 1) := by
  unfold fillI
  rw [List.set_append_right _ _ (by simp; omega), show k - (l.take k).length = 0 by simp; omega, show l.length - k = (l.length - (k + 1)) + 1 by omega, List.replicate_succ, List.set_cons_zero, List.take_succ_eq_append_getElem h, List.append_assoc]
  rfl
/-- a list of numbers that came in, opened -/
theorem listI_of {P : Nat → Int → Prop} : ∀ n : Nat, (∀ i, i < n → ∃ x, P i x) → ∃ l : List Int, l.length = n ∧ ∀ i (h : i < l.length), P i l[i]
  | 0, _ => ⟨[], rfl, fun i h => by simp at h⟩
  | n + 1, hP => by
    obtain ⟨l, hl, h⟩ := listI_of n (fun i hi => hP i (by omega))
    obtain ⟨x, hx⟩ := hP n (by omega)
    refine ⟨l ++ [x], by simp [hl], fun i hi => ?_⟩
    simp at hi
    by_cases hn : i < l.length
    · rw [List.getElem_append_left hn]; exact h i hn
    · have : i = l.length := by omega
      subst this
      simp [hl]
      exact hx
section
variable {H : Type} {enc : TypeId × Value → H} {w : World} {base : Nat} {held : Bool}
theorem openIntsOf {fuel : Nat} {v : Value} {x : DataW H × List MemPlace} (h : DataW.trod enc Tryz.prog w base (fun _ => true) held fuel 31 [v] = some x) : ∃ a len cap l, v = .slice a len cap ∧ IR w (.slice a len cap) l := by
  have hc : Tryz.prog.cellsOf 2 = 1 := by kernel_rfl
  rcases open_slice Tryz.underlying31 h with ⟨hcs, _⟩ | ⟨a, len, cap, m, n, D, Pl, hcs, hl0, hl, hm, hmm, _, hi⟩
  · simp at hcs
    exact ⟨none, 0, 0, [], hcs, none, 0, rfl, by simp, by omega, .inl rfl⟩
  · simp at hcs hmm
    subst hmm
    rw [hc] at hi
    obtain ⟨l, hll, hP⟩ := listI_of (P := fun i x => w.cell? (a.add (i * 1)) = some (.int .i64 x)) len (fun i hi' => by
      obtain ⟨cs', h1, h2⟩ := hi i (by omega)
      obtain ⟨_, h3, h4⟩ := World.cells?_some h1
      obtain ⟨u, e0, _⟩ := DataW.trod_int Tryz.underlying2 h2
      subst e0
      exact ⟨u, by have := h4 0 (by omega); rw [add_add] at this; exact this⟩)
    unfold maxLen at hm
    refine ⟨some a, len, m, l, hcs, some a, m, by rw [hll], by omega, by omega, ?_⟩
    by_cases h0 : l = []
    · exact .inl h0
    · have hpos : 0 < l.length := List.length_pos_iff.2 h0
      obtain ⟨b, o, sp⟩ := a
      have hc0 := hP 0 hpos
      have hsp : sp = none := by
        cases sp with
        | none => rfl
        | some x => simp [World.cell?, Addr.add] at hc0; split at hc0 <;> simp_all
      subst hsp
      have hadd : ∀ i, (⟨b, o, none⟩ : Addr).add i = ⟨b, o + i, none⟩ := fun i => by cases i <;> simp [Addr.add]
      refine .inr ⟨b, o, rfl, ?_, fun j u hj => ?_⟩
      · rw [hadd] at hc0; exact cell_lt hc0
      · rw [intE_all] at hj
        obtain ⟨hj', hu⟩ := List.getElem?_eq_some_iff.1 hj
        simp at hj' hu
        have := hP j hj'; rw [hadd, Nat.mul_one, hu] at this; exact this
theorem openInts {r : Reach} {b0 : Nat} {v : Value} {d : DataW H} {p : List MemPlace} (hv : Value.okWide Tryz.prog w r b0 31 v) (h : DataW.Trod enc Tryz.prog w base (fun _ => true) held 31 v d p) :
    ∃ (l : List Int) (a : Option Addr) (len cap : Nat), v = .slice a len cap ∧ IR w (.slice a len cap) l := by
  obtain ⟨a0, n0, c0, rfl⟩ := okWide_slice Tryz.underlying31 hv
  obtain ⟨fuel, h⟩ := h
  obtain ⟨a, len, cap, l, h1, h2⟩ := openIntsOf (by simpa [Value.cells] using h)
  exact ⟨l, a, len, cap, h1, h2⟩
end
end Go.Proofs.YtfodjokcobljmaaGreat
namespace Go.Proofs.YtfodjokcobljmaaGreat
open Go.ChangeShapes Go.WideShapes Go.ChangeAt Go.RowKit Go.Joins Go.Deep

theorem rises_yes (v : Value) (l : List Int) (w : World) (h : IR w v l) (hs : ∀ i (h : i + 1 < l.length), l[i] < l[i + 1]) :
    Calls Tryz.prog 18 #[v] w (Pure (.bool true) w) := by
  obtain ⟨a, c, rfl, hm⟩ := h.form
  have HS := Lib.hid hs
  clear hs
  go_enter Tryz.func18, Tryz.ntmps18
  go_wp2
  go_loopw [3] (fun i wr => ∃ k : Nat, i = .int .i64 ((k : Int) + 1) ∧ (k = 0 ∨ k + 1 ≤ l.length) ∧ w.grownBy wr none) (fun i _ => l.length + 1 - (intOf i).toNat)
  case atStart => exact ⟨0, rfl, .inl rfl, grefl _⟩
  case round =>
    obtain ⟨k, rfl, hk, G⟩ := hrel
    by_cases hlt : k + 1 < l.length
    · obtain ⟨g1, o1, rfl, p0⟩ := (h.kept G).at (k + 1) hlt
      obtain ⟨g2, o2, e2, q0⟩ := (h.kept G).at k (by omega)
      cases e2
      have hki : (k : Int) + 1 < l.length := by omega
      have hki0 : (k : Int) < l.length := by omega
      have hnn : (0 : Int) ≤ (k : Int) + 1 := by omega
      have htn : ((k : Int) + 1).toNat = k + 1 := by omega
      have hs1 := HS.out k hlt
      have hle : ¬ l[k + 1] ≤ l[k] := by omega
      go_wp2_with fail
      go_quiet (fail)
      go_wp2_with fail
      go_roundw
      case rel => exact ⟨k + 1, by go_num, by omega, gdrew G _⟩
      case measure => simp [intOf]; omega
    · have hki : ¬ (k : Int) + 1 < l.length := by omega
      go_wp2_with fail
      go_ret
      exact ⟨rfl, G⟩
def hasB (l : List Int) (x : Int) : Bool := l.any (· == x)
theorem hasB_no {l : List Int} {k : Nat} {x : Int} (h : k < l.length) (hn : (l.take k).any (· == x) = false) (hx : l[k] ≠ x) : (l.take (k + 1)).any (· == x) = false := by
  rw [List.take_succ_eq_append_getElem h, List.any_append, hn]; simpa using hx
theorem has_any (v : Value) (l : List Int) (x : Int) (w : World) (h : IR w v l) :
    Calls Tryz.prog 20 #[v, .int .i64 x] w fun e w' => e = .returned (.bool (hasB l x)) ∧ w = w' := by
  obtain ⟨a, c, rfl, hm⟩ := h.form
  go_enter Tryz.func20, Tryz.ntmps20
  go_wp2
  go_loop [5] (fun i => ∃ k : Nat, k ≤ l.length ∧ i = .int .i64 k ∧ Hid ((l.take k).any (· == x) = false)) (fun i => l.length - (intOf i).toNat)
  case atStart => exact ⟨0, Nat.zero_le _, rfl, rfl⟩
  case round =>
    obtain ⟨k, hk, rfl, HA⟩ := hrel
    by_cases hlt : k < l.length
    · obtain ⟨g1, o1, rfl, p0⟩ := h.at k hlt
      have hki : (k : Int) < l.length := by omega
      by_cases hx : l[k] = x
      · have HY : Hid (hasB l x = true) := by show _ = _; unfold hasB; rw [List.any_eq_true]; exact ⟨l[k], List.getElem_mem hlt, by simpa using hx⟩
        have hx' : (l[k] == x) = true := by simpa using hx
        clear hx HA
        go_wp2_with fail
        go_ret
        exact ⟨ret_bool HY.out.symm, rfl⟩
      · have HN := Lib.hid (hasB_no hlt HA.out hx)
        have hx' : (l[k] == x) = false := by simpa using hx
        clear hx HA
        go_wp2_with fail
        go_round
        case rel => exact ⟨k + 1, by omega, by go_num, HN.out⟩
        case measure => simp [intOf]; omega
    · have HN : Hid (hasB l x = false) := by show _ = _; have := HA.out; rw [List.take_of_length_le (by omega)] at this; exact this
      obtain rfl : k = l.length := by omega
      clear HA
      go_wp2_with fail
      go_ret
      exact ⟨ret_bool HN.out.symm, rfl⟩
end Go.Proofs.YtfodjokcobljmaaGreat
namespace Go.Proofs.YtfodjokcobljmaaGreat
open Go.ChangeShapes Go.WideShapes Go.ChangeAt Go.RowKit Go.Joins Go.Deep
theorem likeInts_yes (v1 v2 : Value) (l : List Int) (w : World) (h1 : IR w v1 l) (h2 : IR w v2 l) :
    Calls Tryz.prog 10 #[v1, v2] w (Pure (.bool true) w) := by
  obtain ⟨a1, c1, rfl, hm⟩ := h1.form
  obtain ⟨a2, c2, rfl, _⟩ := h2.form
  go_enter Tryz.func10, Tryz.ntmps10
  go_wp2
  go_loopw [5] (fun i wr => ∃ k : Nat, k ≤ l.length ∧ i = .int .i64 k ∧ w.grownBy wr none) (fun i _ => l.length - (intOf i).toNat)
  case atStart => exact ⟨0, Nat.zero_le _, rfl, grefl _⟩
  case round =>
    obtain ⟨k, hk, rfl, G⟩ := hrel
    by_cases hlt : k < l.length
    · obtain ⟨g1, o1, rfl, p0⟩ := (h1.kept G).at k hlt
      obtain ⟨g2, o2, rfl, q0⟩ := (h2.kept G).at k hlt
      have hi1 : (k : Int) < l.length := by omega
      go_wp2_with fail
      go_quiet (fail)
      go_wp2_with fail
      go_roundw
      case rel => exact ⟨k + 1, by omega, by go_num, gdrew G _⟩
      case measure => simp [intOf]; omega
    · go_wp2_with fail
      go_ret
      exact ⟨rfl, G⟩
end Go.Proofs.YtfodjokcobljmaaGreat
