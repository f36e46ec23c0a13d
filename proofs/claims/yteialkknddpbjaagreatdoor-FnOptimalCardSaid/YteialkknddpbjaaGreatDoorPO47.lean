/- What the places of an array hold when a disk dies or a cell rots. A region that draws its order, parted at an operation that waits for all that stands ahead of it: what stands ahead only reads, or calls functions that only make memory: one walk of the text's order serves all its orders; what follows is walked behind it. What the laws fill: an array in which some places were written, and the list of what they hold. -/
import Derived.StillTail
import Derived.Deep.Quiet
import Derived.RegionTactic
import Derived.Deep.Slices
import Derived.Deep.Fields
import Derived.Test.YteialkknddpbjaaGreatDoorPO01
import Derived.Test.YteialkknddpbjaaGreatDoorPO33
import Derived.Test.YteialkknddpbjaaGreatDoorPO34
import Derived.Test.YteialkknddpbjaaGreatDoorPO35
import Derived.Test.YteialkknddpbjaaGreatDoorPO36
namespace Go.Proofs.YteialkknddpbjaaGreatDoor
open Go.ChangeShapes Go.WideShapes Go.ChangeAt Go.RowKit

theorem nobad_can {l : List DZ} (h : NoBad l) {r : Int} (h0 : 0 ≤ r) (h1 : r < rowsZ l) {i : Nat} (hi : i < l.length) : l[i].can r = true := by
  cases hc : l[i].can r
  · have := mem_bad hi (by rw [getD_at hi]; exact hc)
    rw [h r h0 h1] at this; cases this
  · rfl
theorem nobad_alive {l : List DZ} (hok : disksOkZ l = true) (h : NoBad l) {i : Nat} (hi : i < l.length) : l[i].dead = false := by
  have := nobad_can h (r := 0) (by omega) (by have := rows_le hok; omega) hi
  cases hd : l[i].dead
  · rfl
  · rw [can_dead hd] at this; cases this
theorem RowIs.whole {l : List DZ} {r : Int} {f : Nat → Int} (h : RowIs l r f) (hb : badZ l r = []) : wholeRow l r = true := by
  have hcan : ∀ i, i < l.length → (l.getD i .zero).can r = true := fun i hi => by
    cases hc : (l.getD i .zero).can r
    · have := mem_bad hi hc; rw [hb] at this; cases this
    · rfl
  simp only [wholeRow, allCan, Bool.and_eq_true, List.all_eq_true, beq_iff_eq]
  refine ⟨fun d hd => ?_, ?_⟩
  · obtain ⟨i, hi, rfl⟩ := List.getElem_of_mem hd
    have := hcan i hi
    rwa [getD_at hi] at this
  · have e : l.map (fun d => canV d r) = (List.range l.length).map f := by
      rw [map_range]
      apply List.ext_getElem (by simp)
      intro j h1 h2
      simp only [List.getElem_map, List.getElem_range]
      have hj : j < l.length := by simpa using h1
      exact h.val j hj (hcan j hj)
    unfold rowX
    rw [e]; exact h.par
theorem RowsAre.whole {l : List DZ} {F : Int → Nat → Int} (h : RowsAre l F) (hb : NoBad l) {r : Int} (h0 : 0 ≤ r) (h1 : r < rowsZ l) : wholeZ l r = true := by
  simp only [wholeZ, hasZ, h.ok, (h.row r h0 h1).whole (hb r h0 h1), decide_eq_true (show 0 ≤ r ∧ r < rowsZ l from ⟨h0, h1⟩)]; rfl
theorem RowsAre.cell {l : List DZ} {F : Int → Nat → Int} (h : RowsAre l F) {r : Int} (h0 : 0 ≤ r) (h1 : r < rowsZ l) {i : Nat} (hi : i < l.length) : cellAtOk l i r = true ∧ cellAtV l i r = F r i := by
  have q := (h.row r h0 h1).tell hi
  have hc : cellAtOk l i r = true := by
    simp only [cellAtOk, hasZ, h.ok, q.1, Bool.and_eq_true, decide_eq_true_eq, and_true, true_and]
    exact ⟨⟨h0, h1⟩, by omega, by omega⟩
  exact ⟨hc, by rw [cellAtV, if_pos hc, q.2]⟩
theorem Holds.alike {l m : List DZ} {F : Int → Nat → Int} {p : List Int} (h : Holds l F p) (hl : m.length = l.length) (hr : rowsZ m = rowsZ l) (hm : RowsAre m F) : Holds m F p :=
  ⟨hm, by rw [hl, hr]; exact h.len, by rw [hl]; exact h.at'⟩
/-- a disk dies -/
theorem RowsAre.dies {l : List DZ} {F : Int → Nat → Int} (h : RowsAre l F) (hb : NoBad l) {i : Nat} (hi : i < l.length) : RowsAre (l.set i l[i].died) F ∧ rowsZ (l.set i l[i].died) = rowsZ l := by
  have hn := inB_iff.1 (disks_n h.ok)
  have hok := (ok_at h.ok hi).1
  rw [getD_at hi] at hok
  have hz : l[i].died = ⟨l[i].n, true, [], []⟩ := by unfold DZ.died; rw [if_pos hok]
  have hal := fun j (hj : j < l.length) => nobad_alive h.ok hb hj
  have hR : rowsZ (l.set i l[i].died) = rowsZ l := by
    apply rowsZ_of
    · intro d hd hdd
      obtain ⟨j, hj, rfl⟩ := List.getElem_of_mem hd
      have hj' : j < l.length := by simpa using hj
      by_cases e : i = j
      · subst e
        rw [List.getElem_set_self, hz] at hdd; cases hdd
      · rw [List.getElem_set_ne e] at hdd ⊢
        have := (ok_at h.ok hj').2.2
        rw [getD_at hj'] at this
        exact this hdd
    · by_cases e : i = 0
      · refine ⟨(l.set i l[i].died)[1]'(by simp; omega), List.getElem_mem _, ?_⟩
        rw [List.getElem_set_ne (by omega)]; exact hal 1 (by omega)
      · refine ⟨(l.set i l[i].died)[0]'(by simp; omega), List.getElem_mem _, ?_⟩
        rw [List.getElem_set_ne e]; exact hal 0 (by omega)
  refine ⟨⟨?_, fun r h0 h1 => ?_⟩, hR⟩
  · have q := h.ok
    simp only [disksOkZ, Bool.and_eq_true, decide_eq_true_eq, List.all_eq_true, List.mem_range] at q ⊢
    rw [hR, List.length_set]
    refine ⟨q.1, fun j hj => ?_, q.2.2⟩
    have q2 := q.2.1 j hj
    by_cases e : i = j
    · subst e
      rw [getD_at (by simpa using hj), List.getElem_set_self, hz]
      rw [getD_at hj] at q2
      simp only [DZ.fitsIn, Bool.and_eq_true] at q2 ⊢
      refine ⟨?_, q2.2.1, by simp⟩
      have := q2.1
      simp only [DZ.ok, Bool.and_eq_true] at this ⊢
      exact ⟨this.1, by simp⟩
    · rw [getD_at (by simpa using hj), List.getElem_set_ne e, ← getD_at hj]; exact q2
  · rw [hR] at h1
    exact (h.row r h0 h1).lose (hb r h0 h1) i _ (fun _ hc => by rw [can_dead (by rw [hz])] at hc; cases hc)
theorem Held.dies {a : AZ} {F : Int → Nat → Int} {p : List Int} (h : Held a F p) (hb : NoBad a.ds) (d : Int) : Held (a.dies d) F p := by
  cases ho : dieOk a d
  · rw [die_no ho]; exact h
  · have hd : 0 ≤ d ∧ d < a.ds.length := by simp only [dieOk, Bool.and_eq_true, decide_eq_true_eq] at ho; exact ho.1
    obtain ⟨i, rfl⟩ := Int.eq_ofNat_of_zero_le hd.1
    have hi : i < a.ds.length := by omega
    have e : a.dies i = { a with ds := a.ds.set i a.ds[i].died } := by simp only [AZ.dies, ho, if_true, Int.toNat_natCast, getD_at hi]
    rw [e]
    have q := h.holds.rows.dies hb hi
    exact ⟨h.holds.alike (by simp) q.2 q.1, h.up, h.stage, h.log, h.next⟩
theorem dies_len (a : AZ) (d : Int) : (a.dies d).ds.length = a.ds.length := by unfold AZ.dies; split <;> simp
end Go.Proofs.YteialkknddpbjaaGreatDoor
namespace Go.Proofs.YteialkknddpbjaaGreatDoor
open Go.ChangeShapes Go.WideShapes Go.ChangeAt Go.RowKit

section
variable {P : Program} {ops : Array Oper} {md : Region.Mode} {C : World → Prop}
end
/-- the bytes of a draw, by name -/
def CodeIs (w : World) (a : Option Addr) (len : Nat) (f : Nat → Int) : Prop :=
  len ≤ 140737488351232 ∧ ∀ k, k < len → 0 ≤ f k ∧ f k ≤ 255 ∧ ∃ b o, a = some ⟨b, o, none⟩ ∧ w.cell? ⟨b, o + k, none⟩ = some (.int .u8 (f k))
theorem CodeAt.is {w : World} {a : Option Addr} {len : Nat} (h : CodeAt w a len) : ∃ f, CodeIs w a len f := by
  rcases h with h | ⟨b, o, h1, -, h3, h4⟩
  · subst h; exact ⟨fun _ => 0, by omega, fun k hk => by omega⟩
  · refine ⟨fun k => if hk : k < len then (h4 k hk).choose else 0, h3, fun k hk => ?_⟩
    simp only [hk, dite_true]
    have q := (h4 k hk).choose_spec
    exact ⟨q.1, q.2.1, b, o, h1, q.2.2⟩
theorem CodeIs.kept {w w' : World} {a : Option Addr} {len : Nat} {f : Nat → Int} (h : CodeIs w a len f) (g : w.grownBy w' none) : CodeIs w' a len f :=
  ⟨h.1, fun k hk => by obtain ⟨h1, h2, b, o, h3, h4⟩ := h.2 k hk; exact ⟨h1, h2, b, o, h3, gkc g h4⟩⟩
end Go.Proofs.YteialkknddpbjaaGreatDoor
namespace Go.Proofs.YteialkknddpbjaaGreatDoor
open Go.ChangeShapes Go.WideShapes Go.ChangeAt Go.RowKit
attribute [local go_sem] str_list str_size str_add lit_list0 add_lit lit_add str_cut

theorem Five.all {w : World} {b : Nat} {x0 x1 x2 x3 x4 : Value} (h : Five w b x0 x1 x2 x3 x4) (y0 y1 y2 y3 y4 : Value) : Five (set5 w b y0 y1 y2 y3 y4) b y0 y1 y2 y3 y4 :=
  ⟨((((h.c0.same _).other (by simp) _).other (by simp) _).other (by simp) _).other (by simp) _,
    ((((h.c1.other (by simp) _).same _).other (by simp) _).other (by simp) _).other (by simp) _,
    ((((h.c2.other (by simp) _).other (by simp) _).same _).other (by simp) _).other (by simp) _,
    ((((h.c3.other (by simp) _).other (by simp) _).other (by simp) _).same _).other (by simp) _,
    ((((h.c4.other (by simp) _).other (by simp) _).other (by simp) _).other (by simp) _).same _⟩
theorem Five.far {w : World} {b c o : Nat} {x0 x1 x2 x3 x4 : Value} (h : Five w b x0 x1 x2 x3 x4) (hc : c ≠ b) (u : Value) : Five (w.setCell ⟨c, o, none⟩ u) b x0 x1 x2 x3 x4 :=
  ⟨h.c0.other (by intro e; cases e; exact hc rfl) u, h.c1.other (by intro e; cases e; exact hc rfl) u, h.c2.other (by intro e; cases e; exact hc rfl) u, h.c3.other (by intro e; cases e; exact hc rfl) u, h.c4.other (by intro e; cases e; exact hc rfl) u⟩
theorem Five.box {w : World} {b : Nat} {x0 x1 x2 x3 x4 : Value} (h : Five w b x0 x1 x2 x3 x4) : Box5 w b x0 x1 x2 x3 x4 := ⟨h.c0.1, h.c1.1, h.c2.1, h.c3.1, h.c4.1⟩
/-- on the way: the array lies in box b, what its places hold in block q, the result variable is r -/
structure FillS (w wr : World) (b q r m : Nat) (A : AZ) (p : List Int) (v : Value) (raw : List DV) : Prop where
  five : Five wr b v (.string (str A.log)) (.string (str A.next)) (.int .i64 A.stage) (.bool A.up)
  od : OD wr (r + 1) v A.ds raw
  nb : v.ownBlock ≠ some b ∧ ∀ i (h : i < raw.length), ¬ raw[i].has b
  nq : v.ownBlock ≠ some q ∧ ∀ i (h : i < raw.length), ¬ raw[i].has q
  is : IS wr (r + 1) (.slice (some ⟨q, 0, none⟩) m m) p
  zero : Zero5 wr r
  grew : w.grownBy wr none
section
variable {w wr w8 : World} {b q r m : Nat} {A A' : AZ} {p : List Int} {v v8 : Value} {raw raw8 : List DV}
theorem FillS.kept (h : FillS w wr b q r m A p v raw) (g : wr.grownBy w8 none) : FillS w w8 b q r m A p v raw :=
  ⟨h.five.kept g, h.od.grew g, h.nb, h.nq, Own.grew h.is g, h.zero.kept g (by simp), gtrans h.grew g⟩
theorem FillS.call (h : FillS w wr b q r m A p v raw) (g : wr.grownBy w8 none) (o : OD w8 wr.heap.size v8 A'.ds raw8) (hq : q < wr.heap.size) (hbq : b ≠ q) (hbr : r < b) (hw : w.heap.size ≤ b) :
    FillS w (set5 w8 b v8 (.string (str A'.log)) (.string (str A'.next)) (.int .i64 A'.stage) (.bool A'.up)) b q r m A' p v8 raw8 := by
  have h8 := h.kept g
  have hb : b < wr.heap.size := cell_lt h.five.c0.1
  obtain ⟨n1, n2⟩ := o.not_old hb
  obtain ⟨k1, k2⟩ := o.not_old hq
  have hs : (Value.slice (some ⟨q, 0, none⟩) m m).ownBlock ≠ some b := by simp [Value.ownBlock]; omega
  have hbr' : b ≠ r := by omega
  exact ⟨h8.five.all _ _ _ _ _, (o.set5 n1 n2 _ _ _ _ _).lower (by omega), ⟨n1, n2⟩, ⟨k1, k2⟩, Own.other (Own.other (Own.other (Own.other (Own.other h8.is hs _) hs _) hs _) hs _) hs _,
    ((((h8.zero.far hbr' _).far hbr' _).far hbr' _).far hbr' _).far hbr' _, gset5 h8.grew hw _ _ _ _ _⟩
theorem FillS.put (h : FillS w wr b q r m A p v raw) (i : Nat) (x : Int) (hbq : b ≠ q) (hqr : q ≠ r) (hw : w.heap.size ≤ q) : FillS w (wr.setCell ⟨q, i, none⟩ (.int .i64 x)) b q r m A (p.set i x) v raw :=
  ⟨h.five.far (Ne.symm hbq) _, h.od.far h.nq.1 h.nq.2 _, h.nb, h.nq, IS.set h.is i x, h.zero.far hqr _, gset1 h.grew hw _ _⟩
end
theorem specNewArray_z (n rows : Nat) (Z : AZ) (w : World) (hZ : Z = AZ.fresh (newDs rows n)) (hn : inB n 3 5 = true) (hr : inB rows 1 16 = true) :
    Calls Tryz.prog 100 #[.int .i64 n, .int .i64 rows] w fun e w' => ∃ v raw, e = .returned (.tuple #[Z.val v, .bool true]) ∧ OD w' w.heap.size v Z.ds raw ∧ w.grownBy w' none := by
  subst hZ; exact specNewArray_yes n rows w hn hr
theorem new_held_z {n rows : Nat} {Z : AZ} (hZ : Z = AZ.fresh (newDs rows n)) (hn : inB n 3 5 = true) (hr : inB rows 1 16 = true) : Held Z (fun _ _ => 0) (List.replicate ((n - 1) * rows) 0) ∧ NoBad Z.ds := by
  subst hZ; exact new_held hn hr
theorem held_sizes {a : AZ} {F : Int → Nat → Int} {p : List Int} (h : Held a F p) : a.log.length ≤ 1100000 ∧ a.next.length ≤ 1100000 := by
  rw [h.log, h.next]; simp
/-- as GotF, and the list of what the places hold is owned -/
def GotF2 (w : World) (e : Ending) (w' : World) : Prop := ∃ (a : AZ) (F : Int → Nat → Int) (p : List Int) (va vp : Value), e = .returned (.tuple #[a.val va, vp]) ∧ Hid (Held a F p ∧ NoBad a.ds) ∧ 1 ≤ p.length ∧ p.length ≤ 100 ∧ LD w' va a.ds ∧ IS w' w.heap.size vp p ∧ w.grownBy w' none
set_option maxRecDepth 8000 in
set_option maxHeartbeats 8000000 in
theorem filled2_any (a : Option Addr) (len cap : Nat) (w : World) (hR : CodeAt w a len) :
    Calls Tryz.prog 34 #[.slice a len cap] w (GotF2 w) := by
  have Z0 := Zero5.new w
  have e0 := galloc (grefl w) zero5
  have s0 : (w.alloc zero5).heap.size = w.heap.size + 1 := by simp
  have hR0 := hR.kept (gbelow e0)
  go_enter Tryz.func34, Tryz.ntmps34
  go_upto_region 1 with (fail)
  generalize w.alloc zero5 = W0 at *
  go_wp2_with fail
  go_fit (pick_any a len cap _ _ _ hR0 (by omega) (by omega) (by omega) (by omega))
  rintro e w' ⟨x, x0, x1, rfl, rfl⟩
  go_upto_region 2 with (fail)
  have hx3 : 3 ≤ 3 + x ∧ 3 + x ≤ 5 := by omega
  generalize 3 + x = n at *
  clear x0 x1
  obtain ⟨n, rfl⟩ := Int.eq_ofNat_of_zero_le (show 0 ≤ n by omega)
  go_wp2_with fail
  go_fit (pick_any a len cap _ _ _ hR0 (by omega) (by omega) (by omega) (by omega))
  rintro e w' ⟨y, y0, y1, rfl, rfl⟩
  go_upto_region 3 with (fail)
  have hy3 : 1 ≤ 1 + y ∧ 1 + y ≤ 5 := by omega
  generalize 1 + y = rows at *
  clear y0 y1
  obtain ⟨rows, rfl⟩ := Int.eq_ofNat_of_zero_le (show 0 ≤ rows by omega)
  have hnn : inB n 3 5 = true := inB_yes (by omega) (by omega)
  have hrr : inB rows 1 16 = true := inB_yes (by omega) (by omega)
  obtain ⟨Z, hZ⟩ : ∃ Z, Z = AZ.fresh (newDs rows n) := ⟨_, rfl⟩
  have HZ := Lib.hid hZ
  have HN := Lib.hid (new_held_z hZ hnn hrr)
  clear hZ
  obtain ⟨m, hm0, hm1, hmul⟩ : ∃ m : Nat, 1 ≤ m ∧ m ≤ 20 ∧ ((n : Int) - 1) * (rows : Int) = m := by
    have : n = 3 ∨ n = 4 ∨ n = 5 := by omega
    rcases this with rfl | rfl | rfl
    · exact ⟨2 * rows, by omega, by omega, by omega⟩
    · exact ⟨3 * rows, by omega, by omega, by omega⟩
    · exact ⟨4 * rows, by omega, by omega, by omega⟩
  have hmn : (n - 1) * rows = m := by
    have : n = 3 ∨ n = 4 ∨ n = 5 := by omega
    rcases this with rfl | rfl | rfl <;> omega
  rw [hmn] at HN
  go_wp2_with fail
  go_fit (specNewArray_z n rows Z _ HZ.out hnn hrr)
  rintro e w1 ⟨v, raw, rfl, o1, g1⟩
  obtain ⟨va, vn, vc, rfl⟩ := o1.own.sl
  have hs1 := g1.size
  have F2 := Five.new w1 (.slice va vn vc) (.string (str Z.log)) (.string (str Z.next)) (.int .i64 Z.stage) (.bool Z.up) 26
  have e2 := galloc (grefl w1) (.cells #[.slice va vn vc, .string (str Z.log), .string (str Z.next), .int .i64 Z.stage, .bool Z.up] 26)
  have Z2 := (Z0.kept g1 (by simp)).kept e2 (by simp)
  have O2 := o1.grew e2
  have G2 := gtrans (gtrans e0 g1) e2
  have N2 : (∀ i (hi : i < raw.length) k, raw[i].has k → k < w1.heap.size) ∧ ∀ k, (Value.slice va vn vc).ownBlock = some k → k < w1.heap.size := ⟨fun i hi k hk => (o1.in i hi k hk).2, fun k hk => (o1.own.lt k hk).2⟩
  have hs2 : (w1.alloc (.cells #[.slice va vn vc, .string (str Z.log), .string (str Z.next), .int .i64 Z.stage, .bool Z.up] 26)).heap.size = w1.heap.size + 1 := by simp
  clear Z0 e0 g1 e2 o1
  go_upto_region 4 with (fail)
  generalize w1.alloc (.cells #[.slice va vn vc, .string (str Z.log), .string (str Z.next), .int .i64 Z.stage, .bool Z.up] 26) = W2 at *
  have hmk := make_ints m (by omega)
  have I3 := IS.made W2 m (by omega) (base := w.heap.size + 1) (by omega)
  have e3 := galloc (grefl W2) (.cells (zeroI m) 2)
  have hs3 : (W2.alloc (.cells (zeroI m) 2)).heap.size = W2.heap.size + 1 := by simp
  have S3 : FillS w (W2.alloc (.cells (zeroI m) 2)) w1.heap.size W2.heap.size w.heap.size m Z (List.replicate m 0) (.slice va vn vc) raw :=
    ⟨F2.kept e3, (O2.lower (by omega)).grew e3, ⟨fun e => by have := N2.2 _ e; omega, fun i hi e => by have := N2.1 i hi _ e; omega⟩, ⟨fun e => by have := N2.2 _ e; omega, fun i hi e => by have := N2.1 i hi _ e; omega⟩, I3, Z2.kept e3 (by simp), gtrans G2 e3⟩
  clear F2 O2 I3 Z2 N2 e3
  go_upto_region 5 with (fail)
  generalize hq : W2.heap.size = q at *
  generalize W2.alloc (.cells (zeroI m) 2) = W3 at *
  generalize w1.heap.size = b at *
  obtain rfl : q = b + 1 := by omega
  clear hmk
  go_wp2_with fail
  go_loopw [9] (fun i wr => ∃ (k : Nat) (A : AZ) (F : Int → Nat → Int) (p : List Int) (v : Value) (raw : List DV), k ≤ 12 ∧ i = .int .i64 k ∧ Hid (Held A F p ∧ NoBad A.ds) ∧ Hid (p.length = m) ∧ FillS w wr b (b + 1) w.heap.size m A p v raw ∧ b + 1 < wr.heap.size) (fun i _ => 12 - (intOf i).toNat)
  case atStart => exact ⟨0, _, _, _, _, _, by omega, rfl, HN.out, by show _ = _; simp, S3, by omega⟩
  case round =>
    clear S3
    obtain ⟨k, A, F, p, v, raw, hk, rfl, HA, HP, S, hqr⟩ := hrel
    have hRr := hR.kept (gbelow S.grew)
    go_wp2_with fail
    go_fit (pick_any a len cap _ _ _ hRr (by omega) (by omega) (by omega) (by omega))
    rintro e w' ⟨t, t0, t1, rfl, rfl⟩
    by_cases hlt : (k : Int) < t
    · go_wp2_with fail
      go_fit (pick_any a len cap _ _ _ hRr (by omega) (by omega) (by omega) (by omega))
      rintro e w' ⟨l, l0, l1, rfl, rfl⟩
      obtain ⟨l, rfl⟩ := Int.eq_ofNat_of_zero_le l0
      have hlm : l < m := by omega
      go_wp2_with fail
      go_fit (pick_any a len cap _ _ _ hRr (by omega) (by omega) (by omega) (by omega))
      rintro e w' ⟨x, x0, x1, rfl, rfl⟩
      obtain ⟨xa, xc, rfl, -⟩ := S.od.form
      obtain ⟨k0, k1, k2, k3, k4⟩ := S.five.box
      have LA := S.od.ld
      have HWr : Hid (∃ F', Held (A.written l x) F' (p.set l x) ∧ NoBad (A.written l x).ds) := by
        obtain ⟨F', h1, h2⟩ := HA.out.1.write (i := l) (by rw [HP.out]; exact hlm) (v := x) (by unfold okv; exact inB_yes (by omega) (by omega))
        exact ⟨F', h1, h2 HA.out.2⟩
      have HZ : Hid (writtenZ A l x = A.written l x) := by show _ = _; unfold writtenZ; rw [if_pos HA.out.1.ok]
      obtain ⟨hz1, hz2⟩ := held_sizes HA.out.1
      have hk12 : k < 12 := by omega
      clear t0 t1 hlt l0
      go_wp2_with fail
      go_fit (specWriteArray_any _ A l x _ LA hz1 hz2)
      rintro e w8 ⟨v8, raw8, rfl, o8, g8⟩
      rw [HZ.out] at o8 ⊢
      generalize A.written l x = A8 at *
      obtain ⟨ya, yc, rfl, -⟩ := o8.form
      have S8 := S.call g8 o8 hqr (by omega) (by omega) (by omega)
      have S9 := S8.put l x (by omega) (by omega) (by omega)
      obtain ⟨F', hF⟩ := HWr.out
      have HF := Lib.hid hF
      have hs8 := g8.size
      obtain ⟨f0, f1, f2, f3, f4⟩ : w8.frozen? ⟨b, 0, none⟩ = false ∧ w8.frozen? ⟨b, 1, none⟩ = false ∧ w8.frozen? ⟨b, 2, none⟩ = false ∧ w8.frozen? ⟨b, 3, none⟩ = false ∧ w8.frozen? ⟨b, 4, none⟩ = false :=
        ⟨(S.five.kept g8).c0.2, (S.five.kept g8).c1.2, (S.five.kept g8).c2.2, (S.five.kept g8).c3.2, (S.five.kept g8).c4.2⟩
      obtain ⟨h0, h1, h2, h3, h4⟩ := (S.five.kept g8).box
      obtain ⟨g, eg, -, -, hc, hfz⟩ := IS.at (S8.is) l (by rw [HP.out]; exact hlm)
      cases eg
      have hsz : (set5 w8 b (.slice ya A8.ds.length yc) (.string (str A8.log)) (.string (str A8.next)) (.int .i64 A8.stage) (.bool A8.up)).heap.size = w8.heap.size := by simp [set5, World.setCell]
      have hSp : Hid ((p.set l x).length = m) := by show _ = _; rw [List.length_set]; exact HP.out
      clear k0 k1 k2 k3 k4 LA S o8 hF HWr HZ
      unfold set5 at S9 hc hfz hsz
      clear S8
      go_upto_region 11 with (fail)
      generalize ((((w8.setCell ⟨b, 0, none⟩ (.slice ya A8.ds.length yc)).setCell ⟨b, 1, none⟩ (.string (str A8.log))).setCell ⟨b, 2, none⟩ (.string (str A8.next))).setCell ⟨b, 3, none⟩ (.int .i64 A8.stage)).setCell ⟨b, 4, none⟩ (.bool A8.up) = W9 at *
      have hli : (l : Int) < m := by omega
      clear f0 f1 f2 f3 f4 h0 h1 h2 h3 h4
      go_wp2_with fail
      go_roundw
      case rel => exact ⟨k + 1, _, F', _, _, raw8, by omega, by go_num, HF.out, hSp.out, S9, by simp [World.setCell]; omega⟩
      case measure => simp [intOf]; omega
    · obtain ⟨xa, xc, rfl, -⟩ := S.od.form
      obtain ⟨k0, k1, k2, k3, k4⟩ := S.five.box
      obtain ⟨⟨z0, y0⟩, ⟨z1, y1⟩, ⟨z2, y2⟩, ⟨z3, y3⟩, ⟨z4, y4⟩⟩ := S.zero
      obtain ⟨n1, n2⟩ := S.od.not_old (r := w.heap.size) (by omega)
      have hLD := (S.od.set5 n1 n2 (.slice xa A.ds.length xc) (.string (str A.log)) (.string (str A.next)) (.int .i64 A.stage) (.bool A.up)).ld
      have hs : (Value.slice (some ⟨b + 1, 0, none⟩) m m).ownBlock ≠ some w.heap.size := by simp [Value.ownBlock]; omega
      have hIS := Own.lower (base' := w.heap.size) (Own.other (Own.other (Own.other (Own.other (Own.other S.is hs (.slice xa A.ds.length xc) (o := 0)) hs (.string (str A.log)) (o := 1)) hs (.string (str A.next)) (o := 2)) hs (.int .i64 A.stage) (o := 3)) hs (.bool A.up) (o := 4)) (by omega)
      have hG := gset5 S.grew (Nat.le_refl w.heap.size) (.slice xa A.ds.length xc) (.string (str A.log)) (.string (str A.next)) (.int .i64 A.stage) (.bool A.up)
      go_wp2_with fail
      exact bodyPost_ret (v := .tuple #[A.val (.slice xa A.ds.length xc), .slice (some ⟨b + 1, 0, none⟩) m m]) (by simp [results, Tryz.results34, go_sem, z0, z1, z2, z3, z4]) rfl ⟨A, F, p, _, _, rfl, HA, by rw [HP.out]; exact hm0, by rw [HP.out]; omega, hLD, hIS, hG⟩
end Go.Proofs.YteialkknddpbjaaGreatDoor
