/- The laws' own helpers over lists of numbers: they rise; one of them is among them. The laws' own helpers: two patches are alike. -/
import Derived.Test.YtdfhfebcbmolbaaGreatDoorBaseL04
import Derived.Test.YtdfhfebcbmolbaaGreatDoorLawL07
import Derived.Test.YtdfhfebcbmolbaaGreatDoorOwnP
namespace Go.Proofs.YtdfhfebcbmolbaaGreatDoor
open Go.ChangeShapes Go.WideShapes Go.ChangeAt Go.RowKit Go.Joins Go.Deep

def hasB (l : List Int) (x : Int) : Bool := l.any (· == x)
theorem hasB_no {l : List Int} {k : Nat} {x : Int} (h : k < l.length) (hn : (l.take k).any (· == x) = false) (hx : l[k] ≠ x) : (l.take (k + 1)).any (· == x) = false := by
  rw [List.take_succ_eq_append_getElem h, List.any_append, hn]; simpa using hx
end Go.Proofs.YtdfhfebcbmolbaaGreatDoor
namespace Go.Proofs.YtdfhfebcbmolbaaGreatDoor
open Go.ChangeShapes Go.WideShapes Go.ChangeAt Go.RowKit Go.Joins Go.Deep

theorem likeInts_yes (v1 v2 : Value) (l : List Int) (w : World) (h1 : IR w v1 l) (h2 : IR w v2 l) :
    Calls Tryz.prog 75 #[v1, v2] w (Pure (.bool true) w) := by
  obtain ⟨a1, c1, rfl, hm⟩ := h1.form
  obtain ⟨a2, c2, rfl, _⟩ := h2.form
  go_enter Tryz.func75, Tryz.ntmps75
  go_wp2
  go_loopw [5] (fun i wr => ∃ k : Nat, k ≤ l.length ∧ i = .int .i64 k ∧ w.grownBy wr none) (fun i _ => l.length - (intOf i).toNat)
  case atStart => exact ⟨0, Nat.zero_le _, rfl, grefl _⟩
  case round =>
    obtain ⟨k, hk, rfl, G⟩ := hrel
    by_cases hlt : k < l.length
    · obtain ⟨g1, o1, rfl, p0⟩ := (h1.kept G).at k hlt
      obtain ⟨g2, o2, rfl, q0⟩ := (h2.kept G).at k hlt
      have hi1 : (k : Int) < l.length := by omega
      go_wp2_with fail
      go_quiet (fail)
      go_wp2_with fail
      go_roundw
      case rel => exact ⟨k + 1, by omega, by go_num, gdrew G _⟩
      case measure => simp [intOf]; omega
    · go_wp2_with fail
      go_ret
      exact ⟨rfl, G⟩
set_option maxHeartbeats 1000000 in
theorem likePatch_yes (p : PZ) (dv vv du vu : Value) (w : World) (h1 : IR w dv p.ds) (h2 : IR w vv p.vs) (h3 : IR w du p.ds) (h4 : IR w vu p.vs) :
    Calls Tryz.prog 15 #[.agg #[.int .i64 p.row, dv, vv], .agg #[.int .i64 p.row, du, vu]] w (Pure (.bool true) w) := by
  obtain ⟨row, ds, vs⟩ := p
  dsimp only at *
  obtain ⟨da, dc, rfl, -⟩ := h1.form
  obtain ⟨va, vc, rfl, -⟩ := h2.form
  obtain ⟨ea, ec, rfl, -⟩ := h3.form
  obtain ⟨ua, uc, rfl, -⟩ := h4.form
  have g0 : w.grownBy ((w.alloc (.cells #[.int .i64 row, .slice da ds.length dc, .slice va vs.length vc] 29)).alloc (.cells #[.int .i64 row, .slice ea ds.length ec, .slice ua vs.length uc] 29)) none := galloc (galloc (grefl _) _) _
  have B1 : Box3 ((w.alloc (.cells #[.int .i64 row, .slice da ds.length dc, .slice va vs.length vc] 29)).alloc (.cells #[.int .i64 row, .slice ea ds.length ec, .slice ua vs.length uc] 29)) w.heap.size (.int .i64 row) (.slice da ds.length dc) (.slice va vs.length vc) := by simp [Box3, go_sem]
  have B2 : Box3 ((w.alloc (.cells #[.int .i64 row, .slice da ds.length dc, .slice va vs.length vc] 29)).alloc (.cells #[.int .i64 row, .slice ea ds.length ec, .slice ua vs.length uc] 29)) (w.heap.size + 1) (.int .i64 row) (.slice ea ds.length ec) (.slice ua vs.length uc) := by simp [Box3, go_sem]
  go_enter Tryz.func15, Tryz.ntmps15
  go_upto_region 1 with (fail)
  generalize (w.alloc (.cells #[.int .i64 row, .slice da ds.length dc, .slice va vs.length vc] 29)).alloc (.cells #[.int .i64 row, .slice ea ds.length ec, .slice ua vs.length uc] 29) = W0 at *
  have HB1 := Lib.hid B1
  have HB2 := Lib.hid B2
  obtain ⟨a0, a1, a2⟩ := B1
  obtain ⟨b0, b1, b2⟩ := B2
  go_wp2_with fail
  go_fit (likeInts_yes _ _ ds _ (h1.kept g0) (h3.kept g0))
  rintro e w1 ⟨rfl, g1⟩
  clear a0 a1 a2 b0 b1 b2
  obtain ⟨a0, a1, a2⟩ := HB1.out.kept g1
  obtain ⟨b0, b1, b2⟩ := HB2.out.kept g1
  go_wp2_with fail
  go_fit (likeInts_yes _ _ vs _ (h2.kept (gtrans g0 g1)) (h4.kept (gtrans g0 g1)))
  rintro e w2 ⟨rfl, g2⟩
  go_wp2_with fail
  go_ret
  exact ⟨rfl, gtrans (gtrans g0 g1) g2⟩
end Go.Proofs.YtdfhfebcbmolbaaGreatDoor
