/- The heap of repairs: the program's own methods and the library's Push and Pop over them. What lies in the heap is told as a list up to its order. -/
import Derived.Deep.RegionLaw
import Derived.Deep.DeepFit
import Derived.Deep.DeepCutAuto
import Derived.BigQuiet
import Derived.Handy
import Derived.LoopTactic
import Derived.Test.YteialkknddpbjaaGreatDoorPH05
import Derived.Test.YteialkknddpbjaaGreatDoorPH37
namespace Go.Proofs.YteialkknddpbjaaGreatDoor
open Go.ChangeShapes Go.WideShapes Go.ChangeAt Go.RowKit

def repE : Elt RZ where
  T := 130
  S := 128
  size := 3
  bytes := 24
  z := .agg #[.int .i64 0, .int .i64 0, .int .i64 0]
  enc := fun r => [.int .i64 r.1, .int .i64 (r.2.1 : Int), .int .i64 r.2.2]
  len := fun _ => rfl
  one := fun x u hu => by simp at hu; rcases hu with rfl | rfl | rfl <;> rfl
  pos := by omega
  und := Tryz.underlying128
  info := by kernel_rfl
  zs := rfl
/-- a repair as a value -/
def repV (x : RZ) : Value := .agg #[.int .i64 x.1, .int .i64 (x.2.1 : Int), .int .i64 x.2.2]
theorem Own.rep_at {w : World} {base n cap : Nat} {a : Option Addr} {l : List RZ} (h : Own repE w base (.slice a n cap) l) (i : Nat) (hi : i < l.length) :
    ∃ g, a = some ⟨g, 0, none⟩ ∧ base ≤ g ∧ g < w.heap.size ∧ At w g (i * 3) (.int .i64 l[i].1) ∧ At w g (i * 3 + 1) (.int .i64 (l[i].2.1 : Int)) ∧ At w g (i * 3 + 2) (.int .i64 l[i].2.2) := by
  obtain ⟨g, h1, h2, h3, h4⟩ := Own.at h i hi
  exact ⟨g, h1, h2, h3, h4 0 _ rfl, h4 1 _ rfl, h4 2 _ rfl⟩
def setR3 (w : World) (g o : Nat) (x0 x1 x2 : Value) : World := ((w.setCell ⟨g, o, none⟩ x0).setCell ⟨g, o + 1, none⟩ x1).setCell ⟨g, o + 2, none⟩ x2
theorem Own.setRep {w : World} {base n cap g : Nat} {l : List RZ} (h : Own repE w base (.slice (some ⟨g, 0, none⟩) n cap) l) (i : Nat) (x : RZ) (hi : i < l.length) :
    Own repE (setR3 w g (i * 3) (.int .i64 x.1) (.int .i64 (x.2.1 : Int)) (.int .i64 x.2.2)) base (.slice (some ⟨g, 0, none⟩) n cap) (l.set i x) := by
  have h1 := h.setAt (E := repE) i 0 (.int .i64 x.1) (x.1, l[i].2.1, l[i].2.2) hi (by decide) rfl
  have h2 := h1.setAt (E := repE) i 1 (.int .i64 (x.2.1 : Int)) (x.1, x.2.1, l[i].2.2) (by simpa using hi) (by decide) (by simp [repE])
  have h3 := h2.setAt (E := repE) i 2 (.int .i64 x.2.2) x (by simpa using hi) (by decide) (by simp [repE])
  simp only [List.set_set] at h3
  exact h3
theorem RE.single (w : World) (x : RZ) : Own repE (w.alloc (.cells #[.int .i64 x.1, .int .i64 (x.2.1 : Int), .int .i64 x.2.2] 130)) 0 (.slice (some ⟨w.heap.size, 0, none⟩) 1 1) [x] :=
  Own.fresh repE w [x] _ rfl (by simp) (Nat.zero_le _)
/-- a variable that holds the heap -/
structure HBox (w : World) (hb base : Nat) (v : Value) (l : List RZ) : Prop where
  c : At w hb 0 v
  own : Own repE w base v l
  ne : v.ownBlock ≠ some hb
section
variable {w w' : World} {hb base : Nat} {v : Value} {l : List RZ}
theorem HBox.kept {r : Option Nat} (h : HBox w hb base v l) (g : w.grownBy w' r) (h1 : r ≠ some hb) (h2 : v.ownBlock = none ∨ v.ownBlock ≠ r) : HBox w' hb base v l := ⟨gkr g h1 h.c, h.own.kept g h2, h.ne⟩
theorem HBox.grew (h : HBox w hb base v l) (g : w.grownBy w' none) : HBox w' hb base v l := ⟨gk g h.c, h.own.grew g, h.ne⟩
theorem HBox.lt (h : HBox w hb base v l) : hb < w.heap.size := cell_lt h.c.1
theorem HBox.only {S : Nat → Prop} (h : HBox w hb base v l) (o : Only S w w') (h1 : ¬ S hb) (h2 : ∀ k, v.ownBlock = some k → ¬ S k) : HBox w' hb base v l :=
  ⟨o.at h1 h.c, Own.same h.own (fun k hk => o.block k (h.own.lt k hk).2 (h2 k hk)), h.ne⟩
end
/-- what the heap's functions may change -/
def HS (hb : Nat) (v : Value) (k : Nat) : Prop := k = hb ∨ v.ownBlock = some k
theorem own_hs {hb : Nat} {v : Value} {w w' : World} (g : w.grownBy w' v.ownBlock) : Only (HS hb v) w w' := Only.of g (fun _ e => .inr e)

set_option maxRecDepth 8000 in
set_option maxHeartbeats 1000000 in
theorem repLen_any (v : Value) (l : List RZ) (w : World) {base : Nat} (h : Own repE w base v l) :
    Calls Tryz.prog 69 #[v] w fun e w' => e = .returned (.int .i64 l.length) ∧ w = w' := by
  obtain ⟨a, cap, rfl, hm⟩ := h.form
  go_enter Tryz.func69, Tryz.ntmps69
  go_wp2_with fail
  go_ret
  exact ⟨rfl, rfl⟩
set_option maxRecDepth 8000 in
set_option maxHeartbeats 1000000 in
theorem repLess_any (v : Value) (l : List RZ) (i j : Nat) (w : World) {base : Nat} (h : Own repE w base v l) (hi : i < l.length) (hj : j < l.length) :
    Calls Tryz.prog 335 #[v, .int .i64 i, .int .i64 j] w fun e w' => (∃ b, e = .returned (.bool b)) ∧ w.grownBy w' none := by
  obtain ⟨a, cap, rfl, hm⟩ := h.form
  obtain ⟨g, rfl, hb, hg, ⟨x0, y0⟩, -, -⟩ := h.rep_at i hi
  obtain ⟨g', e, -, -, ⟨z0, t0⟩, -, -⟩ := h.rep_at j hj
  cases e
  have hii : (i : Int) < l.length := by omega
  have hji : (j : Int) < l.length := by omega
  generalize l[i].1 = p at *
  generalize l[j].1 = q at *
  go_enter Tryz.func335, Tryz.ntmps335
  go_wp2_with fail
  go_quiet (fail)
  go_wp2_with fail
  go_ret
  exact ⟨⟨_, rfl⟩, gdrew (grefl w) _⟩
theorem alias_cell {w : World} {g o1 o2 : Nat} {u x : Value} (h1 : w.cell? ⟨g, o1, none⟩ = some x) (h2 : w.cell? ⟨g, o2, none⟩ = some u) : (w.setCell ⟨g, o1, none⟩ u).cell? ⟨g, o2, none⟩ = some u := by
  by_cases e : o1 = o2
  · subst e; exact World.cell?_setCell_same w _ u h1
  · exact (World.cell?_setCell_other w _ _ u (by simp)).trans h2
set_option maxRecDepth 8000 in
set_option maxHeartbeats 4000000 in
theorem repSwap_any (v : Value) (l : List RZ) (i j : Nat) (w : World) {base : Nat} (h : Own repE w base v l) (hi : i < l.length) (hj : j < l.length) :
    Calls Tryz.prog 338 #[v, .int .i64 i, .int .i64 j] w fun e w' => e = .returned (.tuple #[]) ∧ Own repE w' base v ((l.set i l[j]).set j l[i]) ∧ w.grownBy w' v.ownBlock := by
  obtain ⟨a, cap, rfl, hm⟩ := h.form
  obtain ⟨g, rfl, hb, hg, ⟨x0, y0⟩, ⟨x1, y1⟩, ⟨x2, y2⟩⟩ := h.rep_at i hi
  obtain ⟨g', e, -, -, ⟨z0, t0⟩, ⟨z1, t1⟩, ⟨z2, t2⟩⟩ := h.rep_at j hj
  cases e
  have hii : (i : Int) < l.length := by omega
  have hji : (j : Int) < l.length := by omega
  have HFh : Hid (Own repE (setR3 (setR3 w g (i * 3) (.int .i64 l[j].1) (.int .i64 (l[j].2.1 : Int)) (.int .i64 l[j].2.2)) g (j * 3) (.int .i64 l[i].1) (.int .i64 (l[i].2.1 : Int)) (.int .i64 l[i].2.2)).drew base (.slice (some ⟨g, 0, none⟩) l.length cap) ((l.set i l[j]).set j l[i]) ∧ w.grownBy (setR3 (setR3 w g (i * 3) (.int .i64 l[j].1) (.int .i64 (l[j].2.1 : Int)) (.int .i64 l[j].2.2)) g (j * 3) (.int .i64 l[i].1) (.int .i64 (l[i].2.1 : Int)) (.int .i64 l[i].2.2)).drew (some g)) :=
    ⟨Own.grew ((h.setRep i l[j] hi).setRep j l[i] (by simpa using hj)) (gdrew (grefl _) 1), gdrew (gset (gset (gset (gset (gset (gset (World.grownBy.refl w (some g)) _ _) _ _) _ _) _ _) _ _) _ _) 1⟩
  generalize l[i].1 = p0 at *
  generalize l[i].2.1 = p1 at *
  generalize l[i].2.2 = p2 at *
  generalize l[j].1 = q0 at *
  generalize l[j].2.1 = q1 at *
  generalize l[j].2.2 = q2 at *
  have m0 := alias_cell x0 z0
  have ne : ∀ {b o p : Nat} (u : Value) (W : World) {x : Value}, o ≠ p → W.cell? ⟨b, p, none⟩ = some x → (W.setCell ⟨b, o, none⟩ u).cell? ⟨b, p, none⟩ = some x := fun u W _ hne hc => (World.cell?_setCell_other W _ _ u (by simp)).trans hc
  have m1 := alias_cell (ne (o := i * 3) (.int .i64 q0) w (by omega) x1) (ne (o := i * 3) (.int .i64 q0) w (by omega) z1)
  have m2 := alias_cell (ne (o := i * 3 + 1) (.int .i64 q1) _ (by omega) (ne (o := i * 3) (.int .i64 q0) w (by omega) x2)) (ne (o := i * 3 + 1) (.int .i64 q1) _ (by omega) (ne (o := i * 3) (.int .i64 q0) w (by omega) z2))
  clear ne
  go_enter Tryz.func338, Tryz.ntmps338
  go_wp2_with fail
  go_region
  all_goals (
    go_end0
    exact ⟨rfl, HFh.out⟩)
/-- the methods of the heap, called through its interface -/
def heapV (hb : Nat) : Value := .iface 77 (.pointer (some ⟨hb, 0, none⟩))
def repI (x : RZ) : Value := .iface 130 (repV x)
theorem as_rep' (u : Value) (w : World) : (Instr.typeAssert (.iface 130 u) 20 130 false).run Tryz.prog w = .ok u w := by kernel_rfl
theorem as_rep (x : RZ) (w : World) : (Instr.typeAssert (repI x) 20 130 false).run Tryz.prog w = .ok (repV x) w := by kernel_rfl
set_option maxRecDepth 8000 in
set_option maxHeartbeats 4000000 in
theorem repPush_any (hb base : Nat) (v : Value) (l : List RZ) (x : RZ) (w : World) (h : HBox w hb base v l) (hl : l.length ≤ 1000) (hbase : base ≤ w.heap.size) :
    Calls Tryz.prog 337 #[.pointer (some ⟨hb, 0, none⟩), repI x] w fun e w' => e = .returned (.tuple #[]) ∧ ∃ v', HBox w' hb base v' (l ++ [x]) ∧ (∀ k, v'.ownBlock = some k → v.ownBlock = some k ∨ w.heap.size ≤ k) ∧ Only (HS hb v) w w' := by
  obtain ⟨a, cap, rfl, hm⟩ := h.own.form
  obtain ⟨c0, f0⟩ := h.c
  have ha := as_rep x
  have hlt := h.lt
  unfold repI repV at ha ⊢
  have HFin : Hid (∀ (w1 w2 : World) (v' : Value), w.grownBy w1 none → Own repE w2 base v' (l ++ [x]) → w1.grownBy w2 (Value.slice a l.length cap).ownBlock → (v'.ownBlock = (Value.slice a l.length cap).ownBlock ∨ v'.ownBlock = some w1.heap.size) →
      ∃ v'', HBox (w2.setCell ⟨hb, 0, none⟩ v') hb base v'' (l ++ [x]) ∧ (∀ k, v''.ownBlock = some k → (Value.slice a l.length cap).ownBlock = some k ∨ w.heap.size ≤ k) ∧ Only (HS hb (.slice a l.length cap)) w (w2.setCell ⟨hb, 0, none⟩ v')) := by
    intro w1 w2 v' g1 o2 g2 b2
    have hne : v'.ownBlock ≠ some hb := lies_ne b2 h.ne (by have := g1.size; omega)
    refine ⟨v', ⟨(gkr g2 h.ne (gk g1 h.c)).same _, o2.other hne v', hne⟩, fun k hk => ?_, ?_⟩
    · rcases b2 with e | e
      · exact .inl (e.symm.trans hk)
      · right; rw [e] at hk; cases hk; exact g1.size
    · exact ((Only.of g1 (fun _ e => by cases e)).trans (Only.of g2 (fun _ e => .inr e))).trans (Only.of (gset (World.grownBy.refl w2 (some hb)) 0 v') (fun _ e => by cases e; exact .inl rfl))
  go_enter Tryz.func337, Tryz.ntmps337
  go_wp2_with fail
  go_region_law (first | (refine step_append_o (E := repE) (base := base) rfl (.tmp 7) (.tmp 10) rfl rfl rfl (Own.grew h.own (galloc (gdrew (grefl w) 1) _)) (RE.single _ x) (by simp; omega) (by decide) (by simp; omega) ?_; intro v' w2 o2 g2 b2; obtain ⟨c9, f9⟩ := gkr g2 h.ne (gk (galloc (gdrew (grefl w) 1) _) h.c); have hF := Lib.hid (HFin.out _ w2 v' (galloc (gdrew (grefl w) 1) _) o2 g2 b2); obtain ⟨va, vn, vc, rfl⟩ := Own.sl o2; clear o2 g2 b2))
  all_goals (
    go_end0
    exact ⟨rfl, hF.out⟩)
theorem load_rep {w : World} {hb : Nat} {v : Value} (h : w.cell? ⟨hb, 0, none⟩ = some v) : (loadVar 128 ⟨hb, 0, none⟩).run Tryz.prog w = .ok v w := by
  have hi : (isAgg 128).run Tryz.prog w = .ok false w := by kernel_rfl
  simp [loadVar, hi, h, go_sem]
theorem nil_Push (n hb : Nat) (w : World) : (nilAhead (n + 1) 77 (.pointer (some ⟨hb, 0, none⟩)) "Push").run Tryz.prog w = .ok (some false) w := by kernel_rfl
theorem meth_Push (n hb : Nat) (w : World) : (method (n + 1) 77 (.pointer (some ⟨hb, 0, none⟩)) "Push").run Tryz.prog w = .ok (337, .pointer (some ⟨hb, 0, none⟩)) w := by kernel_rfl
theorem nil_Pop (n hb : Nat) (w : World) : (nilAhead (n + 1) 77 (.pointer (some ⟨hb, 0, none⟩)) "Pop").run Tryz.prog w = .ok (some false) w := by kernel_rfl
theorem meth_Pop (n hb : Nat) (w : World) : (method (n + 1) 77 (.pointer (some ⟨hb, 0, none⟩)) "Pop").run Tryz.prog w = .ok (336, .pointer (some ⟨hb, 0, none⟩)) w := by kernel_rfl
theorem nil_Len (n hb : Nat) (w : World) : (nilAhead (n + 1) 77 (.pointer (some ⟨hb, 0, none⟩)) "Len").run Tryz.prog w = .ok (some false) w := by kernel_rfl
theorem at_Len (n hb : Nat) (w : World) : (method (n + 1) 77 (.pointer (some ⟨hb, 0, none⟩)) "Len").run Tryz.prog w = ((loadVar 128 ⟨hb, 0, none⟩) >>= fun v => pure (69, v)).run Tryz.prog w := by kernel_rfl
theorem meth_Len {w : World} {hb : Nat} {v : Value} (h : w.cell? ⟨hb, 0, none⟩ = some v) (n : Nat) : (method (n + 1) 77 (.pointer (some ⟨hb, 0, none⟩)) "Len").run Tryz.prog w = .ok (69, v) w := by
  rw [at_Len, Sem.run_bind, load_rep h]; rfl
theorem nil_Less (n hb : Nat) (w : World) : (nilAhead (n + 1) 77 (.pointer (some ⟨hb, 0, none⟩)) "Less").run Tryz.prog w = .ok (some false) w := by kernel_rfl
theorem at_Less (n hb : Nat) (w : World) : (method (n + 1) 77 (.pointer (some ⟨hb, 0, none⟩)) "Less").run Tryz.prog w = ((loadVar 128 ⟨hb, 0, none⟩) >>= fun v => pure (335, v)).run Tryz.prog w := by kernel_rfl
theorem meth_Less {w : World} {hb : Nat} {v : Value} (h : w.cell? ⟨hb, 0, none⟩ = some v) (n : Nat) : (method (n + 1) 77 (.pointer (some ⟨hb, 0, none⟩)) "Less").run Tryz.prog w = .ok (335, v) w := by
  rw [at_Less, Sem.run_bind, load_rep h]; rfl
theorem nil_Swap (n hb : Nat) (w : World) : (nilAhead (n + 1) 77 (.pointer (some ⟨hb, 0, none⟩)) "Swap").run Tryz.prog w = .ok (some false) w := by kernel_rfl
theorem at_Swap (n hb : Nat) (w : World) : (method (n + 1) 77 (.pointer (some ⟨hb, 0, none⟩)) "Swap").run Tryz.prog w = ((loadVar 128 ⟨hb, 0, none⟩) >>= fun v => pure (338, v)).run Tryz.prog w := by kernel_rfl
theorem meth_Swap {w : World} {hb : Nat} {v : Value} (h : w.cell? ⟨hb, 0, none⟩ = some v) (n : Nat) : (method (n + 1) 77 (.pointer (some ⟨hb, 0, none⟩)) "Swap").run Tryz.prog w = .ok (338, v) w := by
  rw [at_Swap, Sem.run_bind, load_rep h]; rfl
attribute [local go_sem] nil_Push nil_Pop nil_Len nil_Less nil_Swap meth_Push meth_Pop
/-- the heap holds the same repairs, in whatever order -/
def Turned (hb base : Nat) (v : Value) (l : List RZ) (w w' : World) : Prop := ∃ l', l'.Perm l ∧ HBox w' hb base v l' ∧ w.grownBy w' v.ownBlock
theorem HBox.swap {w w' : World} {hb base i j : Nat} {v : Value} {l : List RZ} (h : HBox w hb base v l) (hi : i < l.length) (hj : j < l.length) (o : Own repE w' base v ((l.set i l[j]).set j l[i])) (g : w.grownBy w' v.ownBlock) :
    ∃ l', l'.Perm l ∧ HBox w' hb base v l' := ⟨_, List.set_set_perm hi hj, ⟨gkr g h.ne h.c, o, h.ne⟩⟩
theorem gaddr {a b c : World} {r : Option Nat} (h : a.grownBy b r) (g : b.grownBy c none) : a.grownBy c r := by
  cases r with
  | none => exact gtrans h g
  | some q => exact gsubc h g (fun k e => by cases e)
set_option maxRecDepth 100000 in
set_option maxHeartbeats 4000000 in
theorem heapUp_any (hb base : Nat) (v : Value) (l : List RZ) (j : Nat) (w : World) (h : HBox w hb base v l) (hl : l.length ≤ 1000) (hj : j < l.length) :
    Calls Tryz.prog 216 #[heapV hb, .int .i64 j] w fun e w' => e = .returned (.tuple #[]) ∧ Turned hb base v l w w' := by
  obtain ⟨a, cap, rfl, hm⟩ := h.own.form
  unfold heapV
  go_enter Tryz.func216, Tryz.ntmps216
  go_wp2_with fail
  go_loopw [1] (fun jv wr => ∃ (k : Nat) (l' : List RZ), k < l.length ∧ jv = .int .i64 k ∧ l'.Perm l ∧ HBox wr hb base (.slice a l.length cap) l' ∧ w.grownBy wr (Value.slice a l.length cap).ownBlock) (fun jv _ => (intOf jv).toNat)
  case atStart => exact ⟨j, l, hj, rfl, .refl l, h, World.grownBy.refl w _⟩
  case round =>
    obtain ⟨k, l', hk, rfl, hp, H, G⟩ := hrel
    have hlen := hp.length_eq
    obtain ⟨c0, f0⟩ := H.c
    have hML := fun n => meth_Less c0 n
    have hMS := fun n => meth_Swap c0 n
    obtain ⟨i, hi⟩ : ∃ i : Nat, i = (k - 1) / 2 := ⟨_, rfl⟩
    have hik : i ≤ k := by omega
    have hi2 : i < l'.length := by omega
    have hk2 : k < l'.length := by omega
    by_cases hk0 : k = 0
    · subst hk0
      go_wp2_with fail
      go_end0
      exact ⟨rfl, l', hp, H, G⟩
    have hq : Hid (((k : Int) - 1) / 2 = (i : Int)) := by show _ = _; omega
    have hne : ((i : Int) == k) = false := by simp; omega
    go_upto_region 1 with (fail)
    rw [hq.out]
    have hik3 : i < k := by omega
    clear hi
    go_wp2_with fail
    go_fit (repLess_any _ l' k i _ H.own hk2 hi2)
    rintro e w1 ⟨⟨b, rfl⟩, g1⟩
    have H1 := H.grew g1
    have G1 := gaddr G g1
    obtain ⟨c1, f1⟩ := H1.c
    have hMT := fun n => meth_Swap c1 n
    cases b
    · go_wp2_with fail
      go_end0
      exact ⟨rfl, l', hp, H1, G1⟩
    go_wp2_with fail
    go_fit (repSwap_any _ l' i k _ H1.own hi2 hk2)
    rintro e w2 ⟨rfl, o2, g2⟩
    obtain ⟨l2, hp2, H2⟩ := H1.swap hi2 hk2 o2 g2
    go_wp2_with fail
    go_roundw
    case rel => exact ⟨i, l2, by omega, rfl, hp2.trans hp, H2, gtrans G1 g2⟩
    case measure => simp [intOf]; omega
set_option maxRecDepth 100000 in
set_option maxHeartbeats 4000000 in
theorem heapDown_any (hb base : Nat) (v : Value) (l : List RZ) (n : Nat) (w : World) (h : HBox w hb base v l) (hl : l.length ≤ 1000) (hn : n < l.length) :
    Calls Tryz.prog 217 #[heapV hb, .int .i64 0, .int .i64 n] w fun e w' => (∃ b, e = .returned (.bool b)) ∧ Turned hb base v l w w' := by
  obtain ⟨a, cap, rfl, hm⟩ := h.own.form
  unfold heapV
  go_enter Tryz.func217, Tryz.ntmps217
  go_wp2_with fail
  go_loopw [7] (fun jv wr => ∃ (k : Nat) (l' : List RZ), k < l.length ∧ jv = .int .i64 k ∧ l'.Perm l ∧ HBox wr hb base (.slice a l.length cap) l' ∧ w.grownBy wr (Value.slice a l.length cap).ownBlock) (fun jv _ => l.length - (intOf jv).toNat)
  case atStart => exact ⟨0, l, by omega, rfl, .refl l, h, World.grownBy.refl w _⟩
  case round =>
    obtain ⟨k, l', hk, rfl, hp, H, G⟩ := hrel
    have hlen := hp.length_eq
    obtain ⟨c0, f0⟩ := H.c
    have hML := fun n => meth_Less c0 n
    have hk2 : k < l'.length := by omega
    by_cases hj1 : n ≤ 2 * k + 1
    · have hj1' : (n : Int) ≤ 2 * (k : Int) + 1 := by omega
      go_wp2_with fail
      go_ret
      exact ⟨⟨_, rfl⟩, l', hp, H, G⟩
    have hj1' : ¬ (n : Int) ≤ 2 * (k : Int) + 1 := by omega
    have hj0 : ¬ 2 * (k : Int) + 1 < 0 := by omega
    obtain ⟨j, hj⟩ : ∃ j : Nat, j = 2 * k + 1 := ⟨_, rfl⟩
    have hji : Hid (2 * (k : Int) + 1 = (j : Int)) := by show _ = _; omega
    have hjl : j < l'.length := by omega
    have hjk : k < j := by omega
    go_upto_region 4 with (fail)
    rw [hji.out]
    clear hj
    by_cases hj2 : n ≤ j + 1
    · have hj2' : ¬ (j : Int) + 1 < n := by omega
      go_wp2_with fail
      go_fit (repLess_any _ l' j k _ H.own hjl hk2)
      rintro e w2 ⟨⟨b2, rfl⟩, g2⟩
      have H2 := H.grew g2
      have G2 := gaddr G g2
      obtain ⟨c2, f2⟩ := H2.c
      have hMT := fun n => meth_Swap c2 n
      cases b2
      · go_wp2_with fail
        go_ret
        exact ⟨⟨_, rfl⟩, l', hp, H2, G2⟩
      go_wp2_with fail
      go_fit (repSwap_any _ l' k j _ H2.own hk2 hjl)
      rintro e w3 ⟨rfl, o3, g3⟩
      obtain ⟨l2, hp2, H3⟩ := H2.swap hk2 hjl o3 g3
      go_wp2_with fail
      go_roundw
      case rel => exact ⟨j, l2, by omega, rfl, hp2.trans hp, H3, gtrans G2 g3⟩
      case measure => simp [intOf]; omega
    have hj2' : (j : Int) + 1 < n := by omega
    obtain ⟨q, hq⟩ : ∃ q : Nat, q = j + 1 := ⟨_, rfl⟩
    have hqi : Hid ((j : Int) + 1 = (q : Int)) := by show _ = _; omega
    have hql : q < l'.length := by omega
    have hqn : (q : Int) < n := by omega
    have hj9 : j ≤ 2000 := by omega
    go_upto_region 6 with (fail)
    rw [hqi.out]
    have hkq : k < q := by omega
    clear hj2' hq
    go_wp2_with fail
    go_fit (repLess_any _ l' q j _ H.own hql hjl)
    rintro e w1 ⟨⟨b, rfl⟩, g1⟩
    have H1 := H.grew g1
    have G1 := gaddr G g1
    obtain ⟨c1, f1⟩ := H1.c
    have hML1 := fun n => meth_Less c1 n
    cases b
    · clear c0 f0 hML H G g1
      go_wp2_with fail
      go_fit (repLess_any _ l' j k _ H1.own hjl hk2)
      rintro e w2 ⟨⟨b2, rfl⟩, g2⟩
      have H2 := H1.grew g2
      have G2 := gaddr G1 g2
      obtain ⟨c2, f2⟩ := H2.c
      have hMT := fun n => meth_Swap c2 n
      cases b2
      · go_wp2_with fail
        go_ret
        exact ⟨⟨_, rfl⟩, l', hp, H2, G2⟩
      go_wp2_with fail
      go_fit (repSwap_any _ l' k j _ H2.own hk2 hjl)
      rintro e w3 ⟨rfl, o3, g3⟩
      obtain ⟨l2, hp2, H3⟩ := H2.swap hk2 hjl o3 g3
      go_wp2_with fail
      go_roundw
      case rel => exact ⟨j, l2, by omega, rfl, hp2.trans hp, H3, gtrans G2 g3⟩
      case measure => simp [intOf]; omega
    · clear c0 f0 hML H G g1
      go_wp2_with fail
      go_fit (repLess_any _ l' q k _ H1.own hql hk2)
      rintro e w2 ⟨⟨b2, rfl⟩, g2⟩
      have H2 := H1.grew g2
      have G2 := gaddr G1 g2
      obtain ⟨c2, f2⟩ := H2.c
      have hMT := fun n => meth_Swap c2 n
      cases b2
      · go_wp2_with fail
        go_ret
        exact ⟨⟨_, rfl⟩, l', hp, H2, G2⟩
      go_wp2_with fail
      go_fit (repSwap_any _ l' k q _ H2.own hk2 hql)
      rintro e w3 ⟨rfl, o3, g3⟩
      obtain ⟨l2, hp2, H3⟩ := H2.swap hk2 hql o3 g3
      go_wp2_with fail
      go_roundw
      case rel => exact ⟨q, l2, by omega, rfl, hp2.trans hp, H3, gtrans G2 g3⟩
      case measure => simp [intOf]; omega
/-- the last repair is taken off -/
theorem Own.cutLast {w : World} {base n cap : Nat} {a : Option Addr} {l : List RZ} (h : Own repE w base (.slice a n cap) l) (k : Nat) (hk : k + 1 = l.length) : Own repE w base (.slice a k cap) (l.take k) := by
  have hl : (l.take k).length = k := by simp; omega
  obtain ⟨h0, ⟨e, h1⟩ | ⟨g, c, cur, hv, hb, hg, h1, h2, h3, h4⟩⟩ := h
  · omega
  · cases hv
    refine ⟨Elt.all_length _ _, .inr ⟨g, cap, cur, by rw [hl], hb, hg, by rw [hl]; omega, h2, h3, ?_⟩⟩
    have e : repE.all l = repE.all (l.take k) ++ repE.all (l.drop k) := by rw [← repE.all_append, List.take_append_drop]
    have hlen : (repE.all (l.take k)).length = k * 3 := by rw [repE.all_length, hl]; rfl
    have q : cur.toList.take (k * 3) = (cur.toList.take (l.length * 3)).take (k * 3) := by rw [List.take_take, Nat.min_eq_left (by omega)]
    have h4' : cur.toList.take (l.length * 3) = repE.all l := h4
    show cur.toList.take ((l.take k).length * 3) = _
    rw [hl, q, h4', e, ← hlen, List.take_left']
    rfl
set_option maxRecDepth 8000 in
set_option maxHeartbeats 4000000 in
theorem repPop_any (hb base : Nat) (v : Value) (l : List RZ) (k : Nat) (w : World) (h : HBox w hb base v l) (hk : k + 1 = l.length) (hl : l.length ≤ 1000) :
    Calls Tryz.prog 336 #[.pointer (some ⟨hb, 0, none⟩)] w fun e w' => e = .returned (repI (l[k]'(by omega))) ∧ ∃ v', HBox w' hb base v' (l.take k) ∧ v'.ownBlock = v.ownBlock ∧ Only (HS hb v) w w' := by
  obtain ⟨a, cap, rfl, hm⟩ := h.own.form
  have hkl : k < l.length := by omega
  obtain ⟨g, rfl, hgb, hg, ⟨x0, y0⟩, ⟨x1, y1⟩, ⟨x2, y2⟩⟩ := h.own.rep_at k hkl
  obtain ⟨c0, f0⟩ := h.c
  have hlt := h.lt
  have hne : g ≠ hb := fun e => h.ne (by rw [e]; rfl)
  have e1 := galloc (grefl w) (.cells #[.int .i64 l[k].1, .int .i64 (l[k].2.1 : Int), .int .i64 l[k].2.2] 130)
  have d0 := gkc e1 c0
  have d1 := (gk e1 h.c).2
  have hcap : l.length ≤ cap := by
    obtain ⟨_, ⟨e, h1⟩ | ⟨g', c', cur, hv, _, _, h1, _⟩⟩ := h.own
    · cases e
    · cases hv; exact h1
  have hki : (l.length : Int) - 1 = (k : Int) := by omega
  have hF : Hid (∃ v', HBox ((w.setCell ⟨hb, 0, none⟩ (.slice (some ⟨g, 0, none⟩) k cap)).alloc (.cells #[.int .i64 l[k].1, .int .i64 (l[k].2.1 : Int), .int .i64 l[k].2.2] 130)) hb base v' (l.take k) ∧ v'.ownBlock = (Value.slice (some ⟨g, 0, none⟩) l.length cap).ownBlock ∧ Only (HS hb (.slice (some ⟨g, 0, none⟩) l.length cap)) w ((w.setCell ⟨hb, 0, none⟩ (.slice (some ⟨g, 0, none⟩) k cap)).alloc (.cells #[.int .i64 l[k].1, .int .i64 (l[k].2.1 : Int), .int .i64 l[k].2.2] 130))) := by
    have e2 := galloc (grefl (w.setCell ⟨hb, 0, none⟩ (.slice (some ⟨g, 0, none⟩) k cap))) (.cells #[.int .i64 l[k].1, .int .i64 (l[k].2.1 : Int), .int .i64 l[k].2.2] 130)
    refine ⟨_, ⟨gk e2 (At.same h.c _), Own.grew ((h.own.cutLast k hk).other (fun e => hne (by cases e; rfl)) _) e2, fun e => hne (by cases e; rfl)⟩, rfl, ?_⟩
    exact (Only.of (gset (World.grownBy.refl w (some hb)) 0 _) (fun _ e => by cases e; exact .inl rfl)).trans (Only.of e2 (fun _ e => by cases e))
  unfold repI repV
  generalize l[k].1 = p0 at *
  generalize l[k].2.1 = p1 at *
  generalize l[k].2.2 = p2 at *
  go_enter Tryz.func336, Tryz.ntmps336
  go_wp2_with fail
  go_ret
  exact ⟨rfl, hF.out⟩
set_option maxRecDepth 8000 in
set_option maxHeartbeats 4000000 in
theorem heapPush_any (hb base : Nat) (v : Value) (l : List RZ) (x : RZ) (w : World) (h : HBox w hb base v l) (hl : l.length ≤ 900) (hbase : base ≤ w.heap.size) :
    Calls Tryz.prog 137 #[heapV hb, repI x] w fun e w' => e = .returned (.tuple #[]) ∧ ∃ v' l', l'.Perm (l ++ [x]) ∧ HBox w' hb base v' l' ∧ (∀ k, v'.ownBlock = some k → v.ownBlock = some k ∨ w.heap.size ≤ k) ∧ Only (fun k => HS hb v k ∨ w.heap.size ≤ k) w w' := by
  have hU := fun (v' : Value) (w' : World) (H : HBox w' hb base v' (l ++ [x])) => heapUp_any hb base v' (l ++ [x]) l.length w' H (by simp; omega) (by simp)
  have hP := repPush_any hb base v l x w h (by omega) hbase
  have hle : ((l ++ [x]).length : Int) - 1 = (l.length : Int) := by simp
  generalize l ++ [x] = m at *
  unfold heapV at hU ⊢
  go_enter Tryz.func137, Tryz.ntmps137
  go_wp2_with fail
  go_fit hP
  rintro e w1 ⟨rfl, v1, H1, hv1, O1⟩
  obtain ⟨c1, f1⟩ := H1.c
  have hML := fun n => meth_Len c1 n
  go_wp2_with fail
  go_fit (repLen_any _ m _ H1.own)
  rintro e w2 ⟨rfl, rfl⟩
  go_wp2_with fail
  go_fit (hU _ _ H1)
  rintro e w3 ⟨rfl, l3, hp3, H3, g3⟩
  go_wp2_with fail
  go_end0
  refine ⟨rfl, v1, l3, hp3, H3, hv1, (O1.mono (fun k hk => .inl hk)).trans (Only.of g3 (fun k e => ?_))⟩
  rcases hv1 k e with q | q
  · exact .inl (.inr q)
  · exact .inr q
set_option maxRecDepth 8000 in
set_option maxHeartbeats 4000000 in
theorem heapPop_any (hb base : Nat) (v : Value) (l : List RZ) (w : World) (h : HBox w hb base v l) (hl : l.length ≤ 1000) (hl0 : 0 < l.length) :
    Calls Tryz.prog 138 #[heapV hb] w fun e w' => ∃ x v' l', e = .returned (repI x) ∧ (x :: l').Perm l ∧ HBox w' hb base v' l' ∧ v'.ownBlock = v.ownBlock ∧ Only (HS hb v) w w' := by
  obtain ⟨n, hn⟩ : ∃ n : Nat, n + 1 = l.length := ⟨l.length - 1, by omega⟩
  have hni : (l.length : Int) - 1 = (n : Int) := by omega
  obtain ⟨c0, f0⟩ := h.c
  have hML := fun n => meth_Len c0 n
  have hMS := fun n => meth_Swap c0 n
  unfold heapV
  go_enter Tryz.func138, Tryz.ntmps138
  go_wp2_with fail
  go_fit (repLen_any _ l _ h.own)
  rintro e w1 ⟨rfl, rfl⟩
  go_wp2_with fail
  go_fit (repSwap_any _ l 0 n _ h.own (by omega) (by omega))
  rintro e w2 ⟨rfl, o2, g2⟩
  obtain ⟨l2, hp2, H2⟩ := h.swap (by omega) (by omega) o2 g2
  have hlen2 := hp2.length_eq
  have hD := heapDown_any hb base v l2 n w2 H2 (by omega) (by omega)
  unfold heapV at hD
  go_wp2_with fail
  go_fit hD
  rintro e w3 ⟨⟨b, rfl⟩, l3, hp3, H3, g3⟩
  have hlen3 := hp3.length_eq
  go_wp2_with fail
  go_fit (repPop_any hb base v l3 n w3 H3 (by omega) (by omega))
  rintro e w4 ⟨rfl, v4, H4, hv4, O4⟩
  go_wp2_with fail
  go_ret
  refine ⟨_, v4, _, rfl, ?_, H4, hv4, ((own_hs g2).trans (own_hs g3)).trans O4⟩
  have : l3[n]'(by omega) :: l3.take n = l3[n]'(by omega) :: l3.take n := rfl
  refine List.Perm.trans ?_ (hp3.trans hp2)
  have e : l3 = l3.take n ++ [l3[n]'(by omega)] := by
    have := List.take_append_getElem (l := l3) (i := n) (by omega)
    rw [show n + 1 = l3.length by omega, List.take_length] at this
    exact this.symm
  conv => rhs; rw [e]
  exact (List.perm_append_comm (l₁ := [_]) (l₂ := l3.take n))
end Go.Proofs.YteialkknddpbjaaGreatDoor
