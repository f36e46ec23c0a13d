/- What the specification's Entries returns. -/
import Derived.Test.YtfodjokcobljmaaGreatSpecL08
import Derived.Test.YtfodjokcobljmaaGreatOwnP
import Derived.Test.YtfodjokcobljmaaGreatDrawL01
import Derived.Test.YtfodjokcobljmaaGreatSpecTn
namespace Go.Proofs.YtfodjokcobljmaaGreat
open Go.ChangeShapes Go.WideShapes Go.ChangeAt Go.RowKit
attribute [local go_sem] str_list str_size str_add lit_list0 add_lit lit_add str_cut

theorem firstN_le {s : List UInt8} (h : firstOk s = true) : 1 ≤ firstN s ∧ firstN s ≤ s.length := by
  rw [(first_yes h).2]
  simp only [firstOk, Bool.and_eq_true, decide_eq_true_eq] at h
  omega
theorem firstT_len (s : List UInt8) : (firstT s).length ≤ 120 := by
  cases h : firstOk s
  · rw [(first_no h).1]; simp
  · rw [(first_yes h).1]
    simp only [firstOk, Bool.and_eq_true, decide_eq_true_eq] at h
    simp [behindT, headT]; omega
theorem firstN_zero (s : List UInt8) : ((firstN s : Int) == 0) = !firstOk s := by
  cases h : firstOk s
  · rw [(first_no h).2]; rfl
  · have := (firstN_le h).1
    simp; omega
set_option linter.unusedVariables false in
/-- the patches of a log -/
def entsT (s : List UInt8) : List PZ :=
  if h : firstOk s = true ∧ readPok (firstT s) = true then readP (firstT s) :: entsT (s.drop (firstN s)) else []
termination_by s.length
decreasing_by have := firstN_le h.1; simp; omega
theorem entsT_no {s : List UInt8} (h : ¬ (firstOk s = true ∧ readPok (firstT s) = true)) : entsT s = [] := by rw [entsT, dif_neg h]
theorem entsT_yes {s : List UInt8} (h : firstOk s = true ∧ readPok (firstT s) = true) : entsT s = readP (firstT s) :: entsT (s.drop (firstN s)) := by rw [entsT, dif_pos h]
theorem entsT_len (s : List UInt8) : (entsT s).length ≤ s.length := by
  by_cases h : firstOk s = true ∧ readPok (firstT s) = true
  · rw [entsT_yes h]
    have q := firstN_le h.1
    have ih := entsT_len (s.drop (firstN s))
    simp at ih ⊢; omega
  · rw [entsT_no h]; simp
termination_by s.length
decreasing_by have := firstN_le h.1; simp; omega
/-- a new list of patches -/
def GotPL (l : List PZ) (w : World) (e : Ending) (w' : World) : Prop := ∃ v raw, e = .returned v ∧ OP w' w.heap.size v l raw ∧ w.grownBy w' none
set_option maxRecDepth 8000 in
set_option maxHeartbeats 4000000 in
theorem specEntries_any (s : List UInt8) (w : World) (hs : s.length ≤ 1100000) :
    Calls Tryz.prog 86 #[.string (str s)] w (GotPL (entsT s) w) := by
  have C0 := OP.empty w
  have g0 := galloc (grefl w) (.cells #[] 94)
  go_enter Tryz.func86, Tryz.ntmps86
  go_wp2
  go_loopw [0, 3] (fun lg out wr => ∃ (t : List UInt8) (done : List PZ) (raw : List PV), lg = .string (str t) ∧ OP wr w.heap.size out done raw ∧ w.grownBy wr none ∧ t.length ≤ 1100000 ∧ done.length + t.length ≤ 1100000 ∧ Hid (entsT s = done ++ entsT t)) (fun lg _ _ => szOf lg)
  case atStart => exact ⟨s, [], [], rfl, C0, g0, hs, by simpa using hs, rfl⟩
  case round =>
    clear C0 g0
    obtain ⟨t, done, raw, rfl, C, G, htl, hdl, HS⟩ := hrel
    obtain ⟨oa, oc, rfl, -⟩ := C.form
    have hz := firstN_zero t
    have hfl := firstT_len t
    go_wp2_with fail
    go_fit (l8First_any t _ htl)
    rintro e w2 ⟨rfl, g2⟩
    go_wp2_with fail
    go_fit (specReadPatch_any (firstT t) _ (by omega))
    rintro e w3 ⟨dv, vv, rfl, id, iv, ap, g3⟩
    obtain ⟨da, dm, dc, rfl⟩ := id.sl
    obtain ⟨va, vm, vc, rfl⟩ := iv.sl
    have g4 := galloc (grefl w3) (.cells #[.int .i64 (readPZ (firstT t)).row, .slice da dm dc, .slice va vm vc] 94)
    have B4 := Box3.new w3 (.int .i64 (readPZ (firstT t)).row) (.slice da dm dc) (.slice va vm vc) 94
    have C4 := C.grew (gtrans (gtrans g2 g3) g4)
    have G4 := gtrans G (gtrans (gtrans g2 g3) g4)
    have I4 : PV.Is (w3.alloc (.cells #[.int .i64 (readPZ (firstT t)).row, .slice da dm dc, .slice va vm vc] 94)) w2.heap.size ⟨(readPZ (firstT t)).row, da, dm, dc, va, vm, vc⟩ (readPZ (firstT t)) := ⟨rfl, Own.grew id g4, Own.grew iv g4⟩
    have hs2 := (gtrans G g2).size
    have hs3 := g2.size
    have HNew : Hid (∀ k, PV.has ⟨(readPZ (firstT t)).row, da, dm, dc, va, vm, vc⟩ k → (∀ i (hi : i < raw.length), ¬ raw[i].has k) ∧ (Value.slice oa done.length oc).ownBlock ≠ some k) := fun k hk => by
      have h1 : w2.heap.size ≤ k := by
        rcases hk with hk | hk
        · exact (id.lt k hk).1
        · exact (iv.lt k hk).1
      exact ⟨fun i hi x => by have := (C.in i hi k x).2; omega, fun x => by have := (C.own.lt k x).2; omega⟩
    go_upto_region 4 with (fail)
    generalize w3.alloc (.cells #[.int .i64 (readPZ (firstT t)).row, .slice da dm dc, .slice va vm vc] 94) = W4 at *
    generalize w3.heap.size = b4 at *
    obtain ⟨b0, b1, b2⟩ := B4
    by_cases hok : firstOk t = true ∧ readPok (firstT t) = true
    rotate_left
    · have HE : Hid (entsT s = done) := by show _ = _; rw [HS.out, entsT_no hok, List.append_nil]
      cases h1 : firstOk t
      · rw [h1] at hz
        go_wp2_with fail
        go_ret
        exact ⟨_, raw, rfl, by rw [HE.out]; exact C4, G4⟩
      · have h2 : readPok (firstT t) = false := by
          cases h2 : readPok (firstT t)
          · rfl
          · exact absurd ⟨h1, h2⟩ hok
        rw [h1] at hz
        go_wp2_with fail
        go_ret
        exact ⟨_, raw, rfl, by rw [HE.out]; exact C4, G4⟩
    · have HE : Hid (entsT s = (done ++ [readPZ (firstT t)]) ++ entsT (t.drop (firstN t))) := by
        show _ = _
        rw [HS.out, entsT_yes hok, readPZ_yes hok.2]; simp
      have hN := firstN_le hok.1
      have hNi : (firstN t : Int) ≤ t.length := by omega
      have hN0 : (0 : Int) ≤ firstN t := by omega
      obtain ⟨h1, h2⟩ := hok
      rw [h1] at hz
      have hsw := G4.size
      go_wp2_with (first | (at_builtin; refine wpList_append_o (E := patE) (base := w.heap.size) rfl (.tmp 26) (.tmp 28) rfl rfl rfl (Own.grew C4.own (galloc (grefl _) _)) (PV.single _ ⟨(readPZ (firstT t)).row, da, dm, dc, va, vm, vc⟩) (by have := C4.len; simp; omega) (by decide) (by simp; omega) ?_; intro v' w6 o6 g6 b6; have C6 := OP.app (C4.grew (galloc (grefl _) _)) _ (readPZ (firstT t)) ((I4.lower hs2).grew (galloc (grefl _) _)) ap HNew.out g6 o6 b6; have G6 := gnew (galloc G4 _) g6 (fun j e => (C4.own.lt j e).1); clear g6 b6 o6))
      have HT : Hid ((t.drop (firstN t)).take (t.length - firstN t) = t.drop (firstN t)) := List.take_of_length_le (by simp)
      go_roundw
      case rel => exact ⟨t.drop (firstN t), _, _, by rw [HT.out], C6, G6, by simp; omega, by simp; omega, HE.out⟩
      case measure => rw [HT.out]; simp [szOf, str_size]; omega
end Go.Proofs.YtfodjokcobljmaaGreat
