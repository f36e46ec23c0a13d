/- What the program's numbersIn returns: the numbers of a text. -/
import Derived.Test.YtnhefdmnpoaegaaGreatDoorImplL07t
import Derived.Test.YtnhefdmnpoaegaaGreatDoorMathL07t
import Derived.Test.YtnhefdmnpoaegaaGreatDoorBaseL07
namespace Go.Proofs.YtnhefdmnpoaegaaGreatDoor
open Go.ChangeShapes Go.WideShapes Go.ChangeAt Go.RowKit
attribute [local go_sem] str_list str_size str_add lit_list0 add_lit lit_add str_cut

/-- what the library reads of its own variables: the two errors are there, MaxLen is a number -/
structure LibV (w : World) : Prop where
  syn : ∃ tp p, w.var? Tryz.prog "strconv.ErrSyntax" = some #[.iface tp p]
  rng : ∃ tp p, w.var? Tryz.prog "strconv.ErrRange" = some #[.iface tp p]
  max : ∃ m, w.cell? ⟨0, 0, none⟩ = some (.int .i64 m)
theorem LibV.kept {w w' : World} (h : LibV w) (g : w.grownBy w' none) : LibV w' := by
  obtain ⟨⟨t1, p1, h1⟩, ⟨t2, p2, h2⟩, ⟨m, h3⟩⟩ := h
  exact ⟨⟨t1, p1, Joins.var_stays (g := 2) (by kernel_rfl) h1 (gbelow g) (Nat.le_refl _)⟩, ⟨t2, p2, Joins.var_stays (g := 3) (by kernel_rfl) h2 (gbelow g) (Nat.le_refl _)⟩, ⟨m, gkc g h3⟩⟩
theorem str_data (x : ByteArray) : str x.data.toList = x := by simp [str]
theorem split_any (s : List UInt8) (w : World) (hs : s.length ≤ 1048576) (hV : LibV w) :
    Calls Tryz.prog 74 #[.string (str s), .string ⟨#[32]⟩] w (GotT (splitT 32 s) w) := by
  obtain ⟨m, hm⟩ := hV.max
  have hsz : (str s).size = s.length := str_size s
  have hl := Lib.splitB_all ⟨#[32]⟩ (by decide) 0 _ (str s) rfl
  have hd := split_lib (str s)
  rw [show (str s).data.toList = s by simp [str]] at hd
  have hp : Lib.splitB ⟨#[32]⟩ 0 (Lib.countB (str s) ⟨#[32]⟩) (str s) = (splitT 32 s).map str := by
    rw [← hd, List.map_map]
    exact ((List.map_congr_left (fun x _ => str_data x)).trans (List.map_id _)).symm
  have hn : Lib.countB (str s) ⟨#[32]⟩ + 1 = (splitT 32 s).length := by rw [← hl, hp, List.length_map]
  go_fit (Tryz.strings_Split (str s) ⟨#[32]⟩ m w (by rw [hsz]; omega) hm (by decide))
  rintro e w' ⟨rfl, rfl⟩
  rw [hp, hn]
  have hl9 := splitG_length 32 [] s
  refine ⟨_, rfl, Own.fresh strE w (splitT 32 s) _ ?_ (by unfold splitT; omega) (Nat.le_refl _), galloc (grefl _) _⟩
  rw [strE_all, List.map_map]
  rfl
/-- a word is read, or not -/
def GotN (t : List UInt8) (w : World) (e : Ending) (w' : World) : Prop := w.grownBy w' none ∧ ((parseB t = true ∧ e = .returned (.tuple #[.int .i64 (parseV t), .nilIface])) ∨ (parseB t = false ∧ ∃ v tt pp, e = .returned (.tuple #[.int .i64 v, .iface tt pp])))
theorem parseInt_any (t : List UInt8) (w : World) (ht : t.length ≤ 1048576) (hV : LibV w) :
    Calls Tryz.prog 75 #[.string (str t), .int .i64 10, .int .i64 64] w (GotN t w) := by
  have hsz : (str t).size = t.length := str_size t
  have hdt : (str t).data.toList = t := by simp [str]
  obtain ⟨⟨t1, p1, h1⟩, ⟨t2, p2, h2⟩, -⟩ := hV
  rcases hp : Lib.parseIntB 64 t with v | _ | _
  · go_fit (Tryz.strconv_ParseInt_10_at64_ok (str t) (by rw [hsz]; omega) v (by rw [hdt]; exact hp) w)
    rintro e w' ⟨rfl, hw⟩
    refine ⟨?_, .inl ⟨by simp [parseB, hp], by simp [parseV, hp]⟩⟩
    rcases hw with rfl | ⟨x, rfl⟩
    · exact grefl _
    · exact below_grown (Lib.bytesWorld_below _ _ _)
  · go_fit (Tryz.strconv_ParseInt_10_at64_syntax_var (str t) (by rw [hsz]; omega) (by rw [hdt]; exact hp.trans rfl) t1 p1 w h1)
    rintro e w' ⟨n, rfl, -, -, hb⟩
    exact ⟨below_grown hb, .inr ⟨by simp [parseB, hp], _, _, _, rfl⟩⟩
  · go_fit (Tryz.strconv_ParseInt_10_at64_range_var (str t) (by rw [hsz]; omega) (by rw [hdt]; exact hp) t2 p2 w h2)
    rintro e w' ⟨n, rfl, -, -, hb⟩
    exact ⟨below_grown hb, .inr ⟨by simp [parseB, hp], _, _, _, rfl⟩⟩
def GotNs (l : List Int) (w : World) (e : Ending) (w' : World) : Prop := ∃ v, e = .returned v ∧ IS w' w.heap.size v l ∧ w.grownBy w' none
theorem numsP_no {s : List UInt8} {k : Nat} (hk : k < (splitT 32 s).length) (h : parseB (splitT 32 s)[k] = false) : numsP s = [] := by
  unfold numsP
  rw [if_neg]
  intro e
  rw [List.all_eq_true.1 e _ (List.getElem_mem hk)] at h
  cases h
set_option maxHeartbeats 2000000 in
theorem numbersIn_any (s : List UInt8) (w : World) (hs : s.length ≤ 1048576) (hV : LibV w) :
    Calls Tryz.prog 56 #[.string (str s)] w (GotNs (numsP s) w) := by
  have HLn : Hid ((splitT 32 s).length ≤ 1048577) := by show _ ≤ _; have := splitG_length 32 [] s; unfold splitT; omega
  have HPl : Hid (∀ x ∈ splitT 32 s, x.length ≤ 1048576) := fun x hx => by have := splitG_mem 32 [] s x hx; simp at this; omega
  have HNo : Hid (∀ k (hk : k < (splitT 32 s).length), parseB (splitT 32 s)[k] = false → numsP s = []) := fun k hk h => numsP_no hk h
  have HYes : Hid ((splitT 32 s).all parseB = true → numsP s = (splitT 32 s).map parseV) := fun h => by unfold numsP; rw [if_pos h]
  have HV := Lib.hid hV
  go_enter Tryz.func56, Tryz.ntmps56
  go_wp2_with fail
  go_fit (split_any s _ hs hV)
  rintro e w1 ⟨sv, rfl, T1, g1⟩
  obtain ⟨sa, sc, rfl, -⟩ := Own.form T1
  have hll := HLn.out
  generalize splitT 32 s = L at *
  clear hV
  go_wp2_with fail
  go_loopw [3, 11] (fun out i wr => ∃ k : Nat, k ≤ L.length ∧ i = .int .i64 k ∧ IS wr w1.heap.size out ((L.take k).map parseV) ∧ w1.grownBy wr none ∧ Hid ((L.take k).all parseB = true)) (fun _ i _ => L.length - (intOf i).toNat)
  case atStart => exact ⟨0, Nat.zero_le _, rfl, Own.nil _ _ _, grefl _, rfl⟩
  case round =>
    obtain ⟨k, hk, rfl, C, G, HA⟩ := hrel
    obtain ⟨na, nn, nc, rfl⟩ := Own.sl C
    have hsz := G.size
    by_cases hlt : k < L.length
    · have hki : (k : Int) < L.length := by omega
      obtain ⟨g, o, rfl, x0⟩ := TR.at (T1.rd.kept G) k hlt
      have hpl := HPl.out L[k] (List.getElem_mem hlt)
      have HNx : Hid (((L.take (k + 1)).map parseV = (L.take k).map parseV ++ [parseV L[k]]) ∧ (L.take (k + 1)).all parseB = parseB L[k]) := by
        rw [List.take_succ_eq_append_getElem hlt, List.map_append, List.all_append, HA.out]
        exact ⟨rfl, by simp⟩
      have HNok := Lib.hid (HNo.out k hlt)
      generalize L[k] = t at *
      go_wp2_with fail
      go_fit (parseInt_any t _ hpl (HV.out.kept (gtrans g1 G)))
      rintro e w2 ⟨g2, ⟨hb, rfl⟩ | ⟨hb, v, tt, pp, rfl⟩⟩
      · have C2 := Own.grew C g2
        have hs2 := g2.size
        have hln : ((L.take k).map parseV).length ≤ 1048577 := by simp; omega
        go_wp2_with (first | (at_builtin; refine wpList_append_o (E := intE) (base := w1.heap.size) rfl (.tmp 22) (.tmp 24) rfl rfl rfl (Own.grew C2 (galloc (grefl _) _)) (IS.single _ (parseV t) (Nat.zero_le _)) (by simp only [List.length_cons, List.length_nil]; omega) (by decide) (by simp; omega) ?_; intro v1 wa ho1 hg1 ha1; have GA := gnew (galloc (gtrans G g2) _) hg1 (fun j e => (Own.lt C2 j e).1); obtain ⟨a1, n1, c1', rfl⟩ := Own.sl ho1))
        go_roundw
        case rel => exact ⟨k + 1, by omega, by go_num, by rw [HNx.out.1]; exact ho1, GA, by show _ = _; rw [HNx.out.2, hb]⟩
        case measure => simp [intOf]; omega
      · have HE : Hid (numsP s = []) := HNok.out hb
        go_wp2_with fail
        go_ret
        exact ⟨_, rfl, by rw [HE.out]; exact Own.nil _ _ _, gtrans (gtrans g1 G) g2⟩
    · obtain rfl : k = L.length := by omega
      have HA2 := HA.out
      rw [List.take_length] at HA2
      rw [List.take_length] at C
      have HE := Lib.hid (HYes.out HA2)
      clear HA2
      go_wp2_with fail
      go_ret
      exact ⟨_, rfl, by rw [HE.out]; exact Own.lower C g1.size, gtrans g1 G⟩
end Go.Proofs.YtnhefdmnpoaegaaGreatDoor
