/- The laws' own helpers: big (is the code too long?) and pick (a number below n). -/
import Derived.Test.YtekjjemamiddaaaDraw
namespace Go.Proofs.Ytekjjemamiddaaa
open Go.ChangeShapes Go.WideShapes Go.ChangeAt Go.RowKit

theorem codeAt_of {w : World} {a : Option Addr} {len cap : Nat} {z : List Int}
    (h : (a = none ∧ len = 0 ∧ cap = 0 ∧ z = []) ∨ ∃ x, a = some x ∧ len ≤ cap ∧ cap ≤ maxLen ∧ z.length = cap ∧ (∀ i, i < z.length → w.cell? (x.add i) = some (.int .u8 (z.getD i 0))) ∧ ∀ n ∈ z, (Lit.int .u8 n).wf = true)
    (hl : len ≤ 4096) : CodeAt w a len := by
  rcases h with ⟨rfl, rfl, rfl, rfl⟩ | ⟨⟨b, o, sp⟩, rfl, h1, h2, h3, h4, h5⟩
  · exact .inl rfl
  · by_cases h0 : len = 0
    · exact .inl h0
    have hc0 := h4 0 (by omega)
    have hsp : sp = none := by
      cases sp with
      | none => rfl
      | some x => simp [World.cell?, Addr.add] at hc0; split at hc0 <;> simp_all
    subst hsp
    have hlt : b < w.heap.size := by
      apply Classical.byContradiction; intro hn
      simp [World.cell?, Addr.add, Array.getElem?_eq_none (Nat.le_of_not_lt hn)] at hc0
    refine .inr ⟨b, o, rfl, hlt, by omega, fun k hk => ?_⟩
    have hw := h5 (z.getD k 0) (by rw [List.getD_eq_getElem?_getD, List.getElem?_eq_getElem (by omega)]; exact List.getElem_mem _)
    have hw' : 0 ≤ z.getD k 0 ∧ z.getD k 0 ≤ 255 := by
      have h6 := hw
      simp only [Lit.wf, Bool.and_eq_true, decide_eq_true_eq] at h6
      exact h6
    exact ⟨_, hw'.1, hw'.2, by have := h4 k (by omega); rw [← this]; cases k <;> simp [Addr.add]⟩
theorem big_yes (a : Option Addr) (len cap : Nat) (w : World) (h : 4096 < len) :
    Calls Try.prog 7 #[.slice a len cap] w fun e w' => e = .returned (.bool true) ∧ w = w' := by
  have h' : (4096 : Int) < (len : Int) := by omega
  go_enter Try.func7, Try.ntmps7
  go_wp2
  go_ret
  exact ⟨rfl, rfl⟩
theorem big_no (a : Option Addr) (len cap : Nat) (w : World) (h : len ≤ 4096) :
    Calls Try.prog 7 #[.slice a len cap] w fun e w' => e = .returned (.bool false) ∧ w = w' := by
  have h' : ¬ (4096 : Int) < (len : Int) := by omega
  go_enter Try.func7, Try.ntmps7
  go_wp2
  go_ret
  exact ⟨ret_bool (by simp), rfl⟩
def Picked (n : Int) (w : World) (e : Ending) (w' : World) : Prop := ∃ x : Int, 0 ≤ x ∧ x < n ∧ e = .returned (.int .i64 x) ∧ w = w'
theorem pick_any (a : Option Addr) (len cap : Nat) (s n : Int) (w : World) (hR : CodeAt w a len) (hs : 0 ≤ s) (hs1 : s ≤ 1000000) (hn : 0 < n) (hn1 : n ≤ 4611686018427387904) :
    Calls Try.prog 17 #[.slice a len cap, .int .i64 s, .int .i64 n] w (Picked n w) := by
  have hm : len ≤ 140737488351232 := by rcases hR with h | ⟨_, _, _, _, h, _⟩ <;> omega
  have HR := Lib.hid hR
  clear hR
  go_enter Try.func17, Try.ntmps17
  go_wp2
  go_loop [7, 8] (fun h i => ∃ (k : Nat) (z : Int), k ≤ len ∧ i = .int .i64 k ∧ h = .int .i64 z ∧ 0 ≤ z ∧ z ≤ 1000000000000000) (fun _ i => len - (intOf i).toNat)
  case atStart => exact ⟨0, _, Nat.zero_le _, rfl, rfl, by omega, by omega⟩
  case round =>
    obtain ⟨k, z, hk, rfl, rfl, hz0, hz1⟩ := hrel
    by_cases hlt : k < len
    · rcases HR.out with h | ⟨b, o, rfl, hbs, _, hR⟩
      · omega
      obtain ⟨x, n1, n2, n3⟩ := hR k hlt
      clear hR
      go_wp2
      have hx0 := Int.emod_nonneg (z * 241 + x + s) (show (1000003 : Int) ≠ 0 by omega)
      have hx1 := Int.emod_lt_of_pos (z * 241 + x + s) (show (0 : Int) < 1000003 by omega)
      generalize (z * 241 + x + s) % 1000003 = y at *
      go_round
      case rel => exact ⟨k + 1, _, by omega, by go_num, rfl, hx0, by omega⟩
      case measure => simp [intOf]; omega
    · go_wp2
      go_ret
      exact ⟨_, Int.emod_nonneg _ (by omega), Int.emod_lt_of_pos _ hn, rfl, rfl⟩
end Go.Proofs.Ytekjjemamiddaaa
