/- Bytes in memory; l1Bend: a text that is bent. -/
import Derived.Test.YtdfhfebcbmolbaaGreatDoorSpecT
import Derived.Laws.BytesArg
import Derived.Test.YtdfhfebcbmolbaaGreatDoorOwn
import Derived.Test.YtdfhfebcbmolbaaGreatDoorDrawL01
import Derived.Test.YtdfhfebcbmolbaaGreatDoorMem
import Derived.Deep.DeepCutAuto
import Derived.Deep.RegionLaw
import Derived.Deep.DeepFit
namespace Go.Proofs.YtdfhfebcbmolbaaGreatDoor
open Go.ChangeShapes Go.WideShapes Go.ChangeAt Go.RowKit
attribute [local go_sem] str_list str_size str_add lit_list0 add_lit lit_add str_cut

/-- bytes in memory -/
def byteE : Elt UInt8 where
  T := 5
  S := 22
  size := 1
  bytes := 1
  z := .int .u8 0
  enc := fun x => [.int .u8 x.toNat]
  len := fun _ => rfl
  one := fun x u hu => by simp at hu; rcases hu with rfl; rfl
  pos := by omega
  und := Tryz.underlying22
  info := by kernel_rfl
  zs := rfl
abbrev BS (w : World) (base : Nat) (v : Value) (l : List UInt8) : Prop := Own byteE w base v l
theorem byteE_all (l : List UInt8) : byteE.all l = l.map (fun x => .int .u8 x.toNat) := by
  induction l with
  | nil => rfl
  | cons a r ih => simp only [Elt.all, List.flatMap_cons, List.map_cons] at ih ⊢; rw [ih]; rfl
/-- a slice whose bytes l can be read and written -/
def BW (w : World) (base : Nat) (v : Value) (l : List UInt8) : Prop :=
  ∃ a cap, v = .slice a l.length cap ∧ l.length ≤ cap ∧ cap ≤ 9223372036854775807 ∧ (l = [] ∨ ∃ g, a = some ⟨g, 0, none⟩ ∧ base ≤ g ∧ g < w.heap.size ∧ ∀ i (h : i < l.length), At w g i (.int .u8 l[i].toNat))
section
variable {w w' : World} {base : Nat} {v : Value} {l : List UInt8}
theorem BW.own (h : BS w base v l) : BW w base v l := by
  obtain ⟨a, cap, rfl, hm⟩ := Own.form h
  have hc : l.length ≤ cap ∧ cap ≤ 9223372036854775807 := by
    obtain ⟨_, ⟨h1, h2⟩ | ⟨g', c, cur, hv, hb, hg, h1, h2, h3, h4⟩⟩ := h
    · simp only [Value.slice.injEq] at h1
      omega
    · cases hv; unfold maxLen at h2; omega
  refine ⟨a, cap, rfl, hc.1, hc.2, ?_⟩
  by_cases h0 : l = []
  · exact .inl h0
  · have hp : 0 < l.length := List.length_pos_iff.2 h0
    obtain ⟨g, rfl, hb, hg, -⟩ := Own.at h 0 hp
    refine .inr ⟨g, rfl, hb, hg, fun i hi => ?_⟩
    obtain ⟨g', e, -, -, h4⟩ := Own.at h i hi
    cases e
    have := h4 0 _ rfl
    simpa [byteE] using this
theorem BW.kept {r : Option Nat} (h : BW w base v l) (g : w.grownBy w' r) (hr : ∀ k, r = some k → k < base) : BW w' base v l := by
  obtain ⟨a, cap, h1, h2, h3, h4 | ⟨q, h4, h5, h6, h7⟩⟩ := h
  · exact ⟨a, cap, h1, h2, h3, .inl h4⟩
  · exact ⟨a, cap, h1, h2, h3, .inr ⟨q, h4, h5, by have := g.size; omega, fun i hi => gkr g (fun e => by have := hr _ e; omega) (h7 i hi)⟩⟩
theorem BW.keptN {r : Option Nat} (h : BW w base v l) (g : w.grownBy w' r) (hr : ∀ k, r = some k → v.ownBlock ≠ some k) : BW w' base v l := by
  obtain ⟨a, cap, h1, h2, h3, h4 | ⟨q, h4, h5, h6, h7⟩⟩ := h
  · exact ⟨a, cap, h1, h2, h3, .inl h4⟩
  · exact ⟨a, cap, h1, h2, h3, .inr ⟨q, h4, h5, by have := g.size; omega, fun i hi => gkr g (fun e => hr _ e (by rw [h1, h4]; rfl)) (h7 i hi)⟩⟩
theorem BW.at {a : Option Addr} {n cap : Nat} (h : BW w base (.slice a n cap) l) (i : Nat) (hi : i < l.length) : ∃ g, a = some ⟨g, 0, none⟩ ∧ base ≤ g ∧ g < w.heap.size ∧ At w g i (.int .u8 l[i].toNat) := by
  obtain ⟨a', cap', h1, h2, h3, h4 | ⟨q, h4, h5, h6, h7⟩⟩ := h
  · subst h4; simp at hi
  · cases h1; exact ⟨q, h4, h5, h6, h7 i hi⟩
theorem BW.form (h : BW w base v l) : ∃ a cap, v = .slice a l.length cap ∧ l.length ≤ cap ∧ cap ≤ 9223372036854775807 := by
  obtain ⟨a, cap, h1, h2, h3, -⟩ := h; exact ⟨a, cap, h1, h2, h3⟩
theorem BW.set {n cap g : Nat} (h : BW w base (.slice (some ⟨g, 0, none⟩) n cap) l) (i : Nat) (x : UInt8) (hi : i < l.length) :
    BW (w.setCell ⟨g, i, none⟩ (.int .u8 x.toNat)) base (.slice (some ⟨g, 0, none⟩) n cap) (l.set i x) := by
  obtain ⟨a', cap', h1, h2, h3, h4 | ⟨q, h4, h5, h6, h7⟩⟩ := h
  · subst h4; simp at hi
  · cases h1
    cases h4
    refine ⟨_, cap, by simp, by simpa using h2, h3, .inr ⟨g, rfl, h5, by simpa [World.setCell] using h6, fun j hj => ?_⟩⟩
    simp only [List.length_set] at hj
    by_cases e : i = j
    · subst e
      rw [List.getElem_set_self]
      exact (h7 i hi).same _
    · rw [List.getElem_set_ne e]
      exact (h7 j hj).other (by intro q; cases q; exact e rfl) _
theorem BW.cut {a : Option Addr} {n cap k : Nat} (h : BW w base (.slice a n cap) l) (hk : k ≤ l.length) : BW w base (.slice a k cap) (l.take k) := by
  obtain ⟨a', cap', h1, h2, h3, h4⟩ := h
  cases h1
  refine ⟨a, cap, by simp; omega, by simp; omega, h3, ?_⟩
  rcases h4 with h4 | ⟨q, h4, h5, h6, h7⟩
  · subst h4; exact .inl (by simp)
  · exact .inr ⟨q, h4, h5, h6, fun i hi => by simp at hi; simpa using h7 i (by omega)⟩
/-- what stands from k on, up to m -/
theorem BW.part {g n cap : Nat} (h : BW w base (.slice (some ⟨g, 0, none⟩) n cap) l) (k m cap' : Nat) (a' : Option Addr) (hk : k ≤ m) (hm : m ≤ l.length) (hc : m - k ≤ cap') (hc2 : cap' ≤ 9223372036854775807) (ha : k < m → a' = some ⟨g, k, none⟩) : Rd byteE w (.slice a' (m - k) cap') ((l.drop k).take (m - k)) := by
  have hl : ((l.drop k).take (m - k)).length = m - k := by simp; omega
  refine ⟨a', cap', by rw [hl], by rw [hl]; exact hc, hc2, ?_⟩
  by_cases h0 : k < m
  · right
    refine ⟨g, k, ha h0, ?_, fun j u hj => ?_⟩
    · obtain ⟨g', e, -, hg, -⟩ := h.at 0 (by omega)
      cases e; exact hg
    · rw [byteE_all, List.getElem?_map] at hj
      obtain ⟨x, hx, rfl⟩ := Option.map_eq_some_iff.1 hj
      obtain ⟨hlt, hxe⟩ := List.getElem?_eq_some_iff.1 hx
      rw [hl] at hlt
      obtain ⟨g', e, -, -, h4⟩ := h.at (k + j) (by omega)
      cases e
      rw [← hxe]
      simpa using h4.1
  · left
    rw [show m - k = 0 by omega]; rfl
theorem BW.conv (w : World) (s : List UInt8) (cap : Nat) (n : Nat × Nat) (h1 : s.length ≤ cap) (h2 : cap ≤ 9223372036854775807) (hn : n = ((bytesRow (str s) cap).size, (bytesRow (str s) cap).size + 1)) (hb : base ≤ w.heap.size) : BW (w.alloc (.cells (bytesRow (str s) cap) 5 n)) base (.slice (some ⟨w.heap.size, 0, none⟩) s.length cap) s := by
  refine ⟨_, cap, rfl, h1, h2, .inr ⟨w.heap.size, rfl, hb, by simp, fun i hi => ?_⟩⟩
  have hd : (str s).data.size = s.length := by simp [str]
  have hsz : (bytesRow (str s) cap).size = cap := by unfold bytesRow; rw [Array.size_append, Array.size_map, Array.size_replicate, hd, str_size]; omega
  have hget : (bytesRow (str s) cap)[i]? = some (.int .u8 s[i].toNat) := by
    unfold bytesRow
    rw [Array.getElem?_append_left (by simp [str]; exact hi)]
    simp [str, hi]
  have hh : (w.alloc (.cells (bytesRow (str s) cap) 5 n)).heap[w.heap.size]? = some (.cells (bytesRow (str s) cap) 5 n) := by
    show (w.heap.push _)[_]? = _; simp
  subst hn
  refine ⟨?_, ?_⟩
  · unfold World.cell?
    dsimp only
    rw [hh]
    exact hget
  · unfold World.frozen?
    dsimp only
    rw [hh]
    simp [hsz]
    omega
end
section
variable {α : Type} {E : Elt α} {w : World} {base : Nat}
theorem step_append_r {ops : Array Oper} {o : Oper} {a : Act} {K : Act → World → Prop} {Q : Exit → Act → World → Prop} {F : Prop} (hgd : o.guard = none) (s x : Operand) (ho : o.op = .call { callee := .builtin .append, args := #[s, x], argTypes := #[E.S, E.S] })
    {v sv : Value} {l m : List α} (hs : a.eval s = v) (hx : a.eval x = sv) (hv : Own E w base v l) (hm : Rd E w sv m) (hn : l.length + m.length ≤ 1099511627776) (hby : E.bytes ≤ 128) (hbase : base ≤ w.heap.size)
    (h : ∀ v' w', Own E w' base v' (l ++ m) → w.grownBy w' v.ownBlock → (v'.ownBlock = v.ownBlock ∨ v'.ownBlock = some w.heap.size) → K (a.put o.dst v') w') :
    if Region.wanted o (yielded ops a.tmps) = true then Oper.wp Tryz.prog o a w K Q else F := by
  have hw : Region.wanted o (yielded ops a.tmps) = true := by simp [Region.wanted, hgd]
  rw [if_pos hw]
  exact wp_append_r s x ho hs hx hv hm hn hby hbase h
end
theorem cur_step {w w' : World} {c : Nat} {r : Option Nat} (C : Cur w c) (g : w.grownBy w' r) (hr : ∀ k, r = some k → c < k) : Cur w' c :=
  C.above g.size (fun k hk => g.block k (by have := C.lt; omega) (fun e => by have := hr k e.symm; omega))
theorem BS.single (w : World) (base : Nat) (x : UInt8) (hb : base ≤ w.heap.size) : BS (w.alloc (.cells #[.int .u8 x.toNat] 5)) base (.slice (some ⟨w.heap.size, 0, none⟩) 1 1) [x] :=
  Own.fresh byteE w [x] _ rfl (by simp) hb
theorem BS.empty (w : World) (base : Nat) (hb : base ≤ w.heap.size) : BS (w.alloc (.cells #[] 5)) base (.slice (some ⟨w.heap.size, 0, none⟩) 0 0) [] :=
  Own.fresh byteE w [] _ rfl (by simp) hb
/-- string(b) -/
theorem BW.back {w : World} {base : Nat} {v : Value} {l : List UInt8} (h : BW w base v l) : (convert 22 9 v).run Tryz.prog w = .ok (.string (str l)) w := by
  obtain ⟨a, cap, rfl, h2, h3, h4⟩ := h
  cases a with
  | none =>
    rcases h4 with rfl | ⟨q, h4, -⟩
    · exact run_convert_bytes_nil (P := Tryz.prog) w 22 5 Tryz.underlying22 Tryz.underlying5 _ _ 9 Tryz.underlying9
    · cases h4
  | some ad =>
    refine run_convert_bytes_back (P := Tryz.prog) w 22 9 5 ad cap l Tryz.underlying22 Tryz.underlying5 Tryz.underlying9 (fun j hj => ?_)
    rcases h4 with rfl | ⟨q, h4, -, -, h7⟩
    · simp at hj
    · cases h4
      have := (h7 j hj).1
      rw [add_at]
      simpa using this
set_option maxRecDepth 8000 in
set_option maxHeartbeats 8000000 in
theorem l1Bend_any (c : Nat) (s t : List UInt8) (w : World) (hc : Cur w c) (hs : s.length ≤ 100000) (ht : 0 < t.length) (ht1 : t.length ≤ 100) :
    Calls Tryz.prog 70 #[.pointer (some ⟨c, 0, none⟩), .string (str s), .string (str t)] w fun e w' => ∃ r : List UInt8, e = .returned (.string (str r)) ∧ r.length ≤ s.length + 3 ∧ Cur w' c ∧ w.grownBy w' (some c) := by
  have hlt := hc.lt
  have hconv := run_bytes_of_string (P := Tryz.prog) w 9 22 5 (str s) Tryz.underlying9 Tryz.underlying22 Tryz.underlying5
  have hg1 := grownCap_ge w (str s).size 0 5
  have hg2 := grownCap_le_maxLen w (str s).size 0 5 (by rw [str_size]; unfold maxLen; omega)
  rw [str_size] at hconv hg1 hg2
  generalize grownCap w s.length 0 5 = cap at *
  have B0 : BW ((w.alloc (.cells (bytesRow (str s) cap) 5 ((bytesRow (str s) cap).size, (bytesRow (str s) cap).size + 1))).drew) w.heap.size (.slice (some ⟨w.heap.size, 0, none⟩) s.length cap) s := BW.conv (base := w.heap.size) w s cap _ hg1 (by unfold maxLen at hg2; omega) rfl (Nat.le_refl _)
  have C0 : Cur ((w.alloc (.cells (bytesRow (str s) cap) 5 ((bytesRow (str s) cap).size, (bytesRow (str s) cap).size + 1))).drew) c := Cur.drewN (Cur.alloc hc _) 1
  have G0 : w.grownBy ((w.alloc (.cells (bytesRow (str s) cap) 5 ((bytesRow (str s) cap).size, (bytesRow (str s) cap).size + 1))).drew) (some c) := gdrew (galloc (World.grownBy.refl w _) _) 1
  clear hg1 hg2
  go_enter Tryz.func70, Tryz.ntmps70
  go_upto_region 2 with (fail)
  generalize (w.alloc (.cells (bytesRow (str s) cap) 5 ((bytesRow (str s) cap).size, (bytesRow (str s) cap).size + 1))).drew = W0 at *
  clear hconv hc
  go_wp2_with fail
  go_fit (l1Below_any c _ _ C0 (by omega))
  rintro e w1 ⟨n, ⟨hn0, hn1⟩, rfl, C1, g1⟩
  obtain ⟨n, rfl⟩ := Int.eq_ofNat_of_zero_le hn0
  replace B0 := B0.kept g1 (fun k e => by cases e; exact hlt)
  have G1 := gtrans G0 g1
  clear G0 g1 C0
  go_wp2_with fail
  go_loopw [7, 8] (fun b i wr => ∃ (k : Nat) (L : List UInt8), k ≤ 2 ∧ L.length + k ≤ s.length + 2 ∧ i = .int .i64 k ∧ BW wr w.heap.size b L ∧ Cur wr c ∧ w.grownBy wr (some c)) (fun _ i _ => (intOf i).toNat)
  case atStart => exact ⟨n, s, by omega, by omega, rfl, B0, C1, G1⟩
  case round =>
    clear B0 C1 G1
    obtain ⟨k, L, hk, hL, rfl, B, C, G⟩ := hrel
    have HBk := Lib.hid B.back
    obtain ⟨a, cp, rfl, hcp, hcm⟩ := B.form
    by_cases hgo : 0 < k ∧ 0 < L.length
    rotate_left
    · have hret : ∃ r : List UInt8, Ending.returned (.string (str L)) = .returned (.string (str r)) ∧ r.length ≤ s.length + 3 ∧ Cur wr c ∧ w.grownBy wr (some c) := ⟨L, rfl, by omega, C, G⟩
      have hbk := HBk.out
      by_cases hk0 : 0 < k
      · obtain rfl : L = [] := List.eq_nil_of_length_eq_zero (by omega)
        simp only [List.length_nil] at hbk
        have hki : (0 : Int) < k := by omega
        simp only [List.length_nil]
        go_wp2_with fail
        go_ret
        exact hret
      · have hki : ¬ (0 : Int) < k := by omega
        go_wp2_with fail
        go_ret
        exact hret
    obtain ⟨hk0, hl0⟩ := hgo
    have hki : (0 : Int) < k := by omega
    have hl0i : (0 : Int) < L.length := by omega
    go_wp2_with fail
    go_fit (l1Below_any c _ _ C (by omega))
    rintro e w2 ⟨x, ⟨hx0, hx1⟩, rfl, C2, g2⟩
    replace B := B.kept g2 (fun k e => by cases e; exact hlt)
    replace G := gtrans G g2
    obtain ⟨x, rfl⟩ := Int.eq_ofNat_of_zero_le hx0
    have hx : x < L.length := by omega
    clear g2 C HBk
    go_wp2_with fail
    go_fit (l1Below_any c _ _ C2 (by omega))
    rintro e w3 ⟨q, ⟨hq0, hq1⟩, rfl, C3, g3⟩
    replace B := B.kept g3 (fun k e => by cases e; exact hlt)
    replace G := gtrans G g3
    clear g3 C2
    obtain ⟨g, rfl, hg, hgw, ⟨y0, z0⟩⟩ := B.at x hx
    rcases (show q = 0 ∨ q = 1 ∨ q = 2 ∨ q = 3 by omega) with rfl | rfl | rfl | rfl
    · go_wp2_with fail
      go_fit (l1Below_any c _ _ C3 (by omega))
      rintro e w4 ⟨u, ⟨hu0, hu1⟩, rfl, C4, g4⟩
      replace B := B.kept g4 (fun k e => by cases e; exact hlt)
      replace G := gtrans G g4
      obtain ⟨u, rfl⟩ := Int.eq_ofNat_of_zero_le hu0
      have hu : u < t.length := by omega
      have hgt := str_get t u (by rw [str_size]; exact hu)
      obtain ⟨g', e', -, -, ⟨y1, z1⟩⟩ := B.at x hx
      cases e'
      have B5 := B.set x t[u] hx
      clear y0 z0
      go_wp2_with fail
      go_roundw
      case rel => exact ⟨k - 1, _, by omega, by simp; omega, by rw [show ((k - 1 : Nat) : Int) = (k : Int) - 1 by omega], B5, C4.set (by omega) _ _, gset1 G hg _ _⟩
      case measure => simp [intOf]; omega
    · have B5 := B.cut (k := x) (by omega)
      go_wp2_with fail
      go_roundw
      case rel => exact ⟨k - 1, _, by omega, by simp; omega, by rw [show ((k - 1 : Nat) : Int) = (k : Int) - 1 by omega], B5, C3, G⟩
      case measure => simp [intOf]; omega
    · have hws := G.size
      have hxi : (x : Int) < L.length := by omega
      have hxi' : (x : Int) ≤ L.length := by omega
      have hxi2 : (x : Int) + 1 ≤ L.length := by omega
      have hxc : x ≤ cp := by omega
      have hxc1 : x + 1 ≤ cp := by omega
      have hx1 : x + 1 ≤ L.length := by omega
      have hwr : IntKind.i64.wrap ((x : Int) + 1) = (x : Int) + 1 := IntWalk.i64_in _ (by omega)
      have hnn : (0 : Int) ≤ (x : Int) + 1 := by omega
      have htn : ((x : Int) + 1).toNat = x + 1 := by omega
      go_wp2_with fail
      go_region_law (first | (refine step_append_r (E := byteE) (base := w.heap.size) rfl (.tmp 47) (.tmp 50) rfl rfl rfl (Own.grew (BS.empty w3 w.heap.size hws) (gdrew (grefl _) 1)) ((B.kept (gdrew (galloc (grefl w3) _) 1) (by simp)).part 0 x _ _ (by omega) (by omega) (by omega) hcm (fun _ => rfl)) (by simp; omega) (by decide) (by simp; omega) ?_; intro v1 wa o1 g1 b1; have Ba := (B.kept (gdrew (galloc (grefl w3) (.cells #[] 5)) 1) (by simp)).keptN g1 (fun k e => by cases e; simp [Value.ownBlock]; omega)) | (refine step_append_r (E := byteE) (base := w.heap.size) rfl (.tmp 51) (.tmp 55) rfl rfl rfl o1 (Ba.part (x + 1) L.length _ _ (by omega) (Nat.le_refl _) (by omega) (by omega) (fun h => if_neg (by omega))) (by simp; omega) (by decide) (by have := g1.size; simp at this; omega) ?_; intro v2 wb o2 g2 b2))
      all_goals
        have Ga := gstep (gdrew (galloc G (.cells #[] 5)) 1) g1 (fun j e => by cases e; exact hws)
        have Ca := cur_step (Cur.drewN (Cur.alloc C3 (.cells #[] 5)) 1) g1 (fun k e => by cases e; show c < w3.heap.size; omega)
        have Gb := gstep Ga g2 (fun j e => (Own.lt o1 j e).1)
        have Cb := cur_step Ca g2 (fun k e => by have := (Own.lt o1 k e).1; omega)
        have Bb := BW.own o2
        obtain ⟨a9, m9, c9, rfl⟩ := Own.sl o2
        clear g1 g2 o1 o2 Ga Ca Ba B C3 y0 z0
        go_wp2_with fail
        go_roundw
        case rel => exact ⟨k - 1, _, by omega, by simp; omega, by rw [show ((k - 1 : Nat) : Int) = (k : Int) - 1 by omega], Bb, Cb, Gb⟩
        case measure => simp [intOf]; omega
    · have hws := G.size
      have hxi : (x : Int) < L.length := by omega
      have hxi' : (x : Int) ≤ L.length := by omega
      have hxc : x ≤ cp := by omega
      have hxl : x ≤ L.length := by omega
      have hti : (0 : Int) < t.length := by omega
      go_wp2_with fail
      have hcx : ¬ cp = x := by omega
      have hxn : (0 : Int) ≤ (x : Int) := by omega
      go_region_law (first | (go_simp; go_at_call 51; go_fit (l1Below_any c _ _ Ca (by omega)); rintro e wc ⟨u, ⟨hu0, hu1⟩, rfl, CC, gc⟩; have BC := Ba.kept gc (fun k e => by cases e; exact hlt); have GC := gtrans Ga gc; have OC := Own.kept o1 gc (.inr (fun e => by have := (Own.lt o1 _ e).1; omega)); obtain ⟨u, rfl⟩ := Int.eq_ofNat_of_zero_le hu0; have hu : u < t.length := (by omega); have hgt := str_get t u (by rw [str_size]; exact hu); have hwc := GC.size; have hsc := gc.size; (try simp at hsc)) | (go_simp; go_at_call 51; go_fit (l1Below_any c _ _ (Cur.drewN (Cur.alloc C3 (.cells #[] 5)) 1) (by omega)); rintro e wc ⟨u, ⟨hu0, hu1⟩, rfl, CC, gc⟩; have BC := (B.kept (gdrew (galloc (grefl w3) (.cells #[] 5)) 1) (by simp)).kept gc (fun k e => by cases e; exact hlt); have GC := gtrans (gdrew (galloc G (.cells #[] 5)) 1) gc; have EC := Own.kept (Own.grew (BS.empty w3 w.heap.size hws) (gdrew (grefl _) 1)) gc (.inr (by simp [Value.ownBlock]; omega)); obtain ⟨u, rfl⟩ := Int.eq_ofNat_of_zero_le hu0; have hu : u < t.length := (by omega); have hgt := str_get t u (by rw [str_size]; exact hu); have hwc := GC.size; have hsc := gc.size; (try simp at hsc)) | (go_simp; go_at_call 51; go_fit (l1Below_any c _ _ (Cur.drewN C3 1) (by omega)); rintro e wc ⟨u, ⟨hu0, hu1⟩, rfl, CC, gc⟩; have BC := (B.kept (gdrew (grefl w3) 1) (by simp)).kept gc (fun k e => by cases e; exact hlt); have GC := gtrans (gdrew G 1) gc; obtain ⟨u, rfl⟩ := Int.eq_ofNat_of_zero_le hu0; have hu : u < t.length := (by omega); have hgt := str_get t u (by rw [str_size]; exact hu); have hwc := GC.size; have hsc := gc.size; (try simp at hsc)) | (refine step_append_r (E := byteE) (base := w.heap.size) rfl (.tmp 59) (.tmp 62) rfl rfl rfl (Own.grew (BS.empty w3 w.heap.size hws) (gdrew (grefl _) 1)) (BW.part (B.kept (gdrew (galloc (grefl w3) (.cells #[] 5)) 1) (by simp)) 0 x _ _ (by omega) (by omega) (by omega) hcm (fun _ => rfl)) (by simp; omega) (by decide) (by simp; omega) ?_; intro v1 wa o1 g1 b1; have hv1 : v1.ownBlock ≠ some g := (fun e => by rcases b1 with h | h <;> (have h3 : some g = some _ := e.symm.trans h; injection h3 with h3; first | omega | (simp at h3; omega) | (simp at h3))); have Ba := BW.keptN (B.kept (gdrew (galloc (grefl w3) (.cells #[] 5)) 1) (by simp)) g1 (fun k e => by cases e; simp [Value.ownBlock]; omega); have Ga := gstep (gdrew (galloc G (.cells #[] 5)) 1) g1 (fun j e => by cases e; simp; omega); have Ca := cur_step (Cur.drewN (Cur.alloc C3 (.cells #[] 5)) 1) g1 (fun k e => by cases e; simp; omega)) | (refine step_append_r (E := byteE) (base := w.heap.size) rfl (.tmp 59) (.tmp 62) rfl rfl rfl (EC) (BW.part (BC) 0 x _ _ (by omega) (by omega) (by omega) hcm (fun _ => rfl)) (by simp; omega) (by decide) (by simp; omega) ?_; intro v1 wa o1 g1 b1; have hv1 : v1.ownBlock ≠ some g := (fun e => by rcases b1 with h | h <;> (have h3 : some g = some _ := e.symm.trans h; injection h3 with h3; first | omega | (simp at h3; omega) | (simp at h3))); have Ba := BW.keptN (BC) g1 (fun k e => by cases e; simp [Value.ownBlock]; omega); have Ga := gstep (GC) g1 (fun j e => by cases e; simp; omega); have Ca := cur_step (CC) g1 (fun k e => by cases e; simp; omega)) | (refine step_append_r (E := byteE) (base := w.heap.size) rfl (.tmp 59) (.tmp 62) rfl rfl rfl (Own.grew EC (galloc (grefl wc) (.cells #[.int .u8 t[u].toNat] 5))) (BW.part (BC.kept (galloc (grefl wc) (.cells #[.int .u8 t[u].toNat] 5)) (by simp)) 0 x _ _ (by omega) (by omega) (by omega) hcm (fun _ => rfl)) (by simp; omega) (by decide) (by simp; omega) ?_; intro v1 wa o1 g1 b1; have hv1 : v1.ownBlock ≠ some g := (fun e => by rcases b1 with h | h <;> (have h3 : some g = some _ := e.symm.trans h; injection h3 with h3; first | omega | (simp at h3; omega) | (simp at h3))); have Ba := BW.keptN (BC.kept (galloc (grefl wc) (.cells #[.int .u8 t[u].toNat] 5)) (by simp)) g1 (fun k e => by cases e; simp [Value.ownBlock]; omega); have Ga := gstep (galloc GC (.cells #[.int .u8 t[u].toNat] 5)) g1 (fun j e => by cases e; simp; omega); have Ca := cur_step (CC.alloc (.cells #[.int .u8 t[u].toNat] 5)) g1 (fun k e => by cases e; simp; omega); have S1 := Own.kept (BS.single wc 0 t[u] (Nat.zero_le _)) g1 (.inr (by simp [Value.ownBlock]; omega))) | (refine step_append_r (E := byteE) (base := w.heap.size) rfl (.tmp 59) (.tmp 62) rfl rfl rfl (BS.empty wc w.heap.size hwc) (BW.part (BC.kept (galloc (grefl wc) (.cells #[] 5)) (by simp)) 0 x _ _ (by omega) (by omega) (by omega) hcm (fun _ => rfl)) (by simp; omega) (by decide) (by simp; omega) ?_; intro v1 wa o1 g1 b1; have hv1 : v1.ownBlock ≠ some g := (fun e => by rcases b1 with h | h <;> (have h3 : some g = some _ := e.symm.trans h; injection h3 with h3; first | omega | (simp at h3; omega) | (simp at h3))); have Ba := BW.keptN (BC.kept (galloc (grefl wc) (.cells #[] 5)) (by simp)) g1 (fun k e => by cases e; simp [Value.ownBlock]; omega); have Ga := gstep (galloc GC (.cells #[] 5)) g1 (fun j e => by cases e; simp; omega); have Ca := cur_step (CC.alloc (.cells #[] 5)) g1 (fun k e => by cases e; simp; omega)) | (refine step_append_r (E := byteE) (base := w.heap.size) rfl (.tmp 59) (.tmp 62) rfl rfl rfl (Own.grew (BS.empty wc w.heap.size hwc) (galloc (grefl _) (.cells #[.int .u8 t[u].toNat] 5))) (BW.part ((BC.kept (galloc (grefl wc) (.cells #[] 5)) (by simp)).kept (galloc (grefl _) (.cells #[.int .u8 t[u].toNat] 5)) (by simp)) 0 x _ _ (by omega) (by omega) (by omega) hcm (fun _ => rfl)) (by simp; omega) (by decide) (by simp; omega) ?_; intro v1 wa o1 g1 b1; have hv1 : v1.ownBlock ≠ some g := (fun e => by rcases b1 with h | h <;> (have h3 : some g = some _ := e.symm.trans h; injection h3 with h3; first | omega | (simp at h3; omega) | (simp at h3))); have Ba := BW.keptN ((BC.kept (galloc (grefl wc) (.cells #[] 5)) (by simp)).kept (galloc (grefl _) (.cells #[.int .u8 t[u].toNat] 5)) (by simp)) g1 (fun k e => by cases e; simp [Value.ownBlock]; omega); have Ga := gstep (galloc (galloc GC (.cells #[] 5)) (.cells #[.int .u8 t[u].toNat] 5)) g1 (fun j e => by cases e; simp; omega); have Ca := cur_step ((CC.alloc (.cells #[] 5)).alloc (.cells #[.int .u8 t[u].toNat] 5)) g1 (fun k e => by cases e; simp; omega); have S1 := Own.kept (BS.single (wc.alloc (.cells #[] 5)) 0 t[u] (Nat.zero_le _)) g1 (.inr (by simp [Value.ownBlock]))) | (refine step_append_r (E := byteE) (base := w.heap.size) rfl (.tmp 59) (.tmp 62) rfl rfl rfl (BS.empty (wc.alloc (.cells #[.int .u8 t[u].toNat] 5)) w.heap.size (by simp; omega)) (BW.part ((BC.kept (galloc (grefl wc) (.cells #[.int .u8 t[u].toNat] 5)) (by simp)).kept (galloc (grefl _) (.cells #[] 5)) (by simp)) 0 x _ _ (by omega) (by omega) (by omega) hcm (fun _ => rfl)) (by simp; omega) (by decide) (by simp; omega) ?_; intro v1 wa o1 g1 b1; have hv1 : v1.ownBlock ≠ some g := (fun e => by rcases b1 with h | h <;> (have h3 : some g = some _ := e.symm.trans h; injection h3 with h3; first | omega | (simp at h3; omega) | (simp at h3))); have Ba := BW.keptN ((BC.kept (galloc (grefl wc) (.cells #[.int .u8 t[u].toNat] 5)) (by simp)).kept (galloc (grefl _) (.cells #[] 5)) (by simp)) g1 (fun k e => by cases e; simp [Value.ownBlock]; omega); have Ga := gstep (galloc (galloc GC (.cells #[.int .u8 t[u].toNat] 5)) (.cells #[] 5)) g1 (fun j e => by cases e; simp; omega); have Ca := cur_step ((CC.alloc (.cells #[.int .u8 t[u].toNat] 5)).alloc (.cells #[] 5)) g1 (fun k e => by cases e; simp; omega); have S1 := Own.kept (Own.grew (BS.single wc 0 t[u] (Nat.zero_le _)) (galloc (grefl _) (.cells #[] 5))) g1 (.inr (by simp [Value.ownBlock]))) | (refine step_append_r (E := byteE) (base := w.heap.size) rfl (.tmp 63) (.tmp 70) rfl rfl rfl (o1) (Own.rd (S1)) (by simp; omega) (by decide) (by have := (Ga).size; omega) ?_; intro v2 we o2 g2 b2; have Be := BW.keptN (Ba) g2 (fun k e e2 => by cases e2; exact hv1 e); have Ge := gstep (Ga) g2 (fun j e => (Own.lt (o1) j e).1); have Ce := cur_step (Ca) g2 (fun k e => by have := (Own.lt (o1) k e).1; omega)) | (refine step_append_r (E := byteE) (base := w.heap.size) rfl (.tmp 63) (.tmp 70) rfl rfl rfl (Own.grew o1 (galloc (grefl wa) (.cells #[.int .u8 t[u].toNat] 5))) (Own.rd (BS.single wa 0 t[u] (Nat.zero_le _))) (by simp; omega) (by decide) (by have := (galloc Ga (.cells #[.int .u8 t[u].toNat] 5)).size; omega) ?_; intro v2 we o2 g2 b2; have Be := BW.keptN (Ba.kept (galloc (grefl wa) (.cells #[.int .u8 t[u].toNat] 5)) (by simp)) g2 (fun k e e2 => by cases e2; exact hv1 e); have Ge := gstep (galloc Ga (.cells #[.int .u8 t[u].toNat] 5)) g2 (fun j e => (Own.lt (Own.grew o1 (galloc (grefl wa) (.cells #[.int .u8 t[u].toNat] 5))) j e).1); have Ce := cur_step (Ca.alloc (.cells #[.int .u8 t[u].toNat] 5)) g2 (fun k e => by have := (Own.lt (Own.grew o1 (galloc (grefl wa) (.cells #[.int .u8 t[u].toNat] 5))) k e).1; omega)) | (refine step_append_r (E := byteE) (base := w.heap.size) rfl (.tmp 63) (.tmp 70) rfl rfl rfl (Own.grew OC (galloc (grefl wc) (.cells #[.int .u8 t[u].toNat] 5))) (Own.rd (BS.single wc 0 t[u] (Nat.zero_le _))) (by simp; omega) (by decide) (by have := (galloc GC (.cells #[.int .u8 t[u].toNat] 5)).size; omega) ?_; intro v2 we o2 g2 b2; have Be := BW.keptN (BC.kept (galloc (grefl wc) (.cells #[.int .u8 t[u].toNat] 5)) (by simp)) g2 (fun k e e2 => by cases e2; exact hv1 e); have Ge := gstep (galloc GC (.cells #[.int .u8 t[u].toNat] 5)) g2 (fun j e => (Own.lt (Own.grew OC (galloc (grefl wc) (.cells #[.int .u8 t[u].toNat] 5))) j e).1); have Ce := cur_step (CC.alloc (.cells #[.int .u8 t[u].toNat] 5)) g2 (fun k e => by have := (Own.lt (Own.grew OC (galloc (grefl wc) (.cells #[.int .u8 t[u].toNat] 5))) k e).1; omega)) | (refine step_append_r (E := byteE) (base := w.heap.size) rfl (.tmp 71) (.tmp 74) rfl rfl rfl o2 (Be.part x L.length _ _ (by omega) (Nat.le_refl _) (by omega) (by omega) (fun _ => rfl)) (by simp; omega) (by decide) (by have := Ge.size; omega) ?_; intro v3 wf o3 g3 b3))
      all_goals
        have Gf := gstep Ge g3 (fun j e => (Own.lt o2 j e).1)
        have Cf := cur_step Ce g3 (fun k e => by have := (Own.lt o2 k e).1; omega)
        have Bf := BW.own o3
        obtain ⟨a9, m9, c9, rfl⟩ := Own.sl o3
        clear g1 g2 g3 o1 o2 o3 Ga Ca Ba B C3 y0 z0 Be Ge Ce
        go_wp2_with fail
        go_roundw
        case rel => exact ⟨k - 1, _, by omega, by simp; omega, by rw [show ((k - 1 : Nat) : Int) = (k : Int) - 1 by omega], Bf, Cf, Gf⟩
        case measure => simp [intOf]; omega
end Go.Proofs.YtdfhfebcbmolbaaGreatDoor
