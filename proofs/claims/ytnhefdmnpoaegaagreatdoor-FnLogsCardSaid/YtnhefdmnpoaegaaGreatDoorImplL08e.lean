/- What the program's Entries returns. -/
import Derived.Test.YtnhefdmnpoaegaaGreatDoorImplL08s
import Derived.Test.YtnhefdmnpoaegaaGreatDoorImplL07u
import Derived.Test.YtnhefdmnpoaegaaGreatDoorOwnP
namespace Go.Proofs.YtnhefdmnpoaegaaGreatDoor
open Go.ChangeShapes Go.WideShapes Go.ChangeAt Go.RowKit
attribute [local go_sem] str_list str_size str_add lit_list0 add_lit lit_add str_cut

theorem cutPrefix_any (s p : List UInt8) (w : World) :
    Calls Tryz.prog 31 #[.string (str s), .string (str p)] w fun e w' => e = .returned (.tuple #[.string (str (Lib.trimPrefix s p)), .bool (Lib.hasPrefix s p)]) ∧ w = w' := by
  go_fit (Tryz.strings_CutPrefix (str s) (str p) w)
  rintro e w' ⟨rfl, rfl⟩
  exact ⟨by rw [str_bytes, str_bytes]; rfl, rfl⟩
set_option maxRecDepth 8000 in
set_option maxHeartbeats 4000000 in
theorem implEntries_any (s : List UInt8) (w : World) (hs : s.length ≤ 1048576) (ht : Pow10 w) (hV : LibV w) :
    Calls Tryz.prog 9 #[.string (str s)] w (GotPL (entsT s) w) := by
  have C0 := OP.empty w
  have g0 := galloc (grefl w) (.cells #[] 26)
  have HT := Lib.hid ht
  have HV := Lib.hid hV
  clear ht hV
  go_enter Tryz.func9, Tryz.ntmps9
  go_wp2
  go_loopw [0, 3] (fun lg out wr => ∃ (t : List UInt8) (done : List PZ) (raw : List PV), lg = .string (str t) ∧ OP wr w.heap.size out done raw ∧ w.grownBy wr none ∧ t.length ≤ 1048576 ∧ done.length + t.length ≤ 1048576 ∧ Hid (entsT s = done ++ entsT t)) (fun lg _ _ => szOf lg)
  case atStart => exact ⟨s, [], [], rfl, C0, g0, hs, by simpa using hs, rfl⟩
  case round =>
    clear C0 g0
    obtain ⟨t, done, raw, rfl, C, G, htl, hdl, HS⟩ := hrel
    obtain ⟨oa, oc, rfl, -⟩ := C.form
    have hpl := progT_len t
    have HG : Hid (readPok (progT t) = true → Lib.hasPrefix t (framedZ (progT t)) = true → entsT t = readPZ (progT t) :: entsT (Lib.trimPrefix t (framedZ (progT t))) ∧ (Lib.trimPrefix t (framedZ (progT t))).length < t.length) := fun a b => ents_step a b
    have HE : Hid (¬ (readPok (progT t) = true ∧ Lib.hasPrefix t (framedZ (progT t)) = true) → entsT t = []) := fun h => ents_stop h
    go_wp2_with fail
    go_fit (firstText_any t _ (by omega))
    rintro e w' ⟨rfl, rfl⟩
    generalize progT t = P at *
    go_wp2_with fail
    go_fit (implReadPatch_any P _ (by omega) (HT.out.kept G) (HV.out.kept G))
    rintro e w3 ⟨dv, vv, rfl, id, iv, ap, g3⟩
    obtain ⟨da, dm, dc, rfl⟩ := id.sl
    obtain ⟨va, vm, vc, rfl⟩ := iv.sl
    have g4 := galloc (grefl w3) (.cells #[.int .i64 (readPZ P).row, .slice da dm dc, .slice va vm vc] 26)
    have B4 := Box3.new w3 (.int .i64 (readPZ P).row) (.slice da dm dc) (.slice va vm vc) 26
    have C4 := C.grew (gtrans g3 g4)
    have G4 := gtrans G (gtrans g3 g4)
    have I4 : PV.Is (w3.alloc (.cells #[.int .i64 (readPZ P).row, .slice da dm dc, .slice va vm vc] 26)) wr.heap.size ⟨(readPZ P).row, da, dm, dc, va, vm, vc⟩ (readPZ P) := ⟨rfl, Own.grew id g4, Own.grew iv g4⟩
    have hs2 := G.size
    have HNew : Hid (∀ k, PV.has ⟨(readPZ P).row, da, dm, dc, va, vm, vc⟩ k → (∀ i (hi : i < raw.length), ¬ raw[i].has k) ∧ (Value.slice oa done.length oc).ownBlock ≠ some k) := fun k hk => by
      have h1 : wr.heap.size ≤ k := by
        rcases hk with hk | hk
        · exact (id.lt k hk).1
        · exact (iv.lt k hk).1
      exact ⟨fun i hi x => by have := (C.in i hi k x).2; omega, fun x => by have := (C.own.lt k x).2; omega⟩
    go_upto_region 4 with (fail)
    clear g3 g4
    generalize w3.alloc (.cells #[.int .i64 (readPZ P).row, .slice da dm dc, .slice va vm vc] 26) = W4 at *
    generalize w3.heap.size = b4 at *
    go_wp2_with fail
    go_fit (implFramed_any P _ (by omega) (HT.out.kept G4))
    rintro e w5 ⟨rfl, g5⟩
    have C5 := C4.grew g5
    have G5 := gtrans G4 g5
    have I5 := I4.grew g5
    obtain ⟨b0, b1, b2⟩ := B4.kept g5
    clear C4 G4 I4 B4 g5 C
    generalize framedZ P = F at *
    go_wp2_with fail
    go_fit (cutPrefix_any t F _)
    rintro e w' ⟨rfl, rfl⟩
    by_cases hok : readPok P = true ∧ Lib.hasPrefix t F = true
    rotate_left
    · have HE' : Hid (entsT s = done) := by show _ = _; rw [HS.out, HE.out hok, List.append_nil]
      cases h1 : readPok P
      · go_wp2_with fail
        go_ret
        exact ⟨_, raw, rfl, by rw [HE'.out]; exact C5, G5⟩
      · have h2 : Lib.hasPrefix t F = false := by
          cases h2 : Lib.hasPrefix t F
          · rfl
          · exact absurd ⟨h1, h2⟩ hok
        rw [h2]
        go_wp2_with fail
        go_ret
        exact ⟨_, raw, rfl, by rw [HE'.out]; exact C5, G5⟩
    · obtain ⟨h1, h2⟩ := hok
      obtain ⟨e1, e2⟩ := HG.out h1 h2
      have HE' : Hid (entsT s = (done ++ [readPZ P]) ++ entsT (Lib.trimPrefix t F)) := by
        show _ = _
        rw [HS.out, e1]; simp
      rw [h1, h2]
      clear e1 HG HE
      generalize Lib.trimPrefix t F = T at *
      have hsw := G5.size
      go_wp2_with (first | (at_builtin; refine wpList_append_o (E := patE) (base := w.heap.size) rfl (.tmp 31) (.tmp 33) rfl rfl rfl (Own.grew C5.own (galloc (grefl _) _)) (PV.single _ ⟨(readPZ P).row, da, dm, dc, va, vm, vc⟩) (by have := C5.len; simp; omega) (by decide) (by simp; omega) ?_; intro v' w6 o6 g6 b6; have C6 := OP.app (C5.grew (galloc (grefl _) _)) _ (readPZ P) ((I5.lower hs2).grew (galloc (grefl _) _)) ap HNew.out g6 o6 b6; have G6 := gnew (galloc G5 _) g6 (fun j e => (C5.own.lt j e).1); clear g6 b6 o6))
      go_roundw
      case rel => exact ⟨T, _, _, rfl, C6, G6, by omega, by simp; omega, HE'.out⟩
      case measure => simp [szOf, str_size]; omega
end Go.Proofs.YtnhefdmnpoaegaaGreatDoor
