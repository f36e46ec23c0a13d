/- Slices of cells. Plain mathematics of chapter 3: disks. Plain mathematics of disks: what is made or written is right. -/
import Derived.OpenShut
import Derived.Lib.SmallJoins
import Derived.Test.YteialkknddpbjaaGreatDoorPH01
import Derived.Test.YteialkknddpbjaaGreatDoorPH05
namespace Go.Proofs.YteialkknddpbjaaGreatDoor
open Go.ChangeShapes Go.WideShapes Go.ChangeAt Go.RowKit

def cellOkZ (v s : Int) : Bool := inB v 0 32767 && inB s 0 65520
/-- the value and the sum of CellOf -/
def cofV (d p v : Int) : Int := if sumZ d p v < 0 then 0 else v
def cofS (d p v : Int) : Int := if sumZ d p v < 0 then 0 else sumZ d p v
def goodZ (v s d p : Int) : Bool := cellOkZ v s && fitsZ d p v s
/-- the value and the sum of Rotten -/
def rotV (v s b : Int) : Int := if cellOkZ v s then (if inB b 1 32767 then (v + b) % 32768 else v) else 0
def rotS (v s : Int) : Int := if cellOkZ v s then s else 0
theorem cellOk_iff {v s : Int} : cellOkZ v s = true ↔ (0 ≤ v ∧ v ≤ 32767) ∧ 0 ≤ s ∧ s ≤ 65520 := by simp [cellOkZ, inB_iff]
theorem rotS_ok {v s : Int} (h : cellOkZ v s = true) : rotS v s = s := by simp [rotS, h]
theorem rot_in {v s n : Int} (h : cellOkZ v s = true) (h1 : 1 ≤ n) (h2 : n ≤ 32767) : rotV v s n = (v + n) % 32768 := by simp [rotV, h, inB_yes h1 h2]
theorem rot_ne {v s n : Int} (h : cellOkZ v s = true) (h1 : 1 ≤ n) (h2 : n ≤ 32767) : rotV v s n ≠ v := by
  rw [rot_in h h1 h2]; have := cellOk_iff.1 h; omega
theorem cof_good {d p v : Int} (hs : ¬ sumZ d p v < 0) : cofV d p v = v ∧ cofS d p v = sumZ d p v ∧ goodZ v (sumZ d p v) d p = true ∧ ∀ n, 1 ≤ n → n ≤ 32767 → goodZ (rotV v (sumZ d p v) n) (rotS v (sumZ d p v)) d p = false := by
  have h9 := sumZ_hi d p v
  have hd4 : inB d 0 4 = true := by
    cases hh : inB d 0 4
    · exact absurd (sumZ_no (d := d) (p := p) (v := v) (.inl hh)) (by omega)
    · rfl
  have hp4 : inB p 0 15 = true := by
    cases hh : inB p 0 15
    · exact absurd (sumZ_no (d := d) (p := p) (v := v) (.inr (.inl hh))) (by omega)
    · rfl
  have hv4 : inB v 0 32767 = true := by
    cases hh : inB v 0 32767
    · exact absurd (sumZ_no (d := d) (p := p) (v := v) (.inr (.inr hh))) (by omega)
    · rfl
  have hv5 := inB_iff.1 hv4
  have hok : cellOkZ v (sumZ d p v) = true := cellOk_iff.2 ⟨hv5, by omega, h9⟩
  refine ⟨by simp [cofV, hs], by simp [cofS, hs], by simp [goodZ, hok, fitsZ]; omega, fun n h1 h2 => ?_⟩
  have hr := rot_in hok h1 h2
  have hne : sumZ d p (rotV v (sumZ d p v) n) ≠ sumZ d p v := fun h => rot_ne hok h1 h2 (sumZ_inj hv5 (by rw [hr]; omega) hd4 hp4 h)
  rw [rotS_ok hok]
  simp [goodZ, fitsZ, hne]
end Go.Proofs.YteialkknddpbjaaGreatDoor
namespace Go.Proofs.YteialkknddpbjaaGreatDoor
open Go.ChangeShapes Go.WideShapes Go.ChangeAt Go.RowKit Go.Joins

end Go.Proofs.YteialkknddpbjaaGreatDoor

namespace Go.Proofs.YteialkknddpbjaaGreatDoor
open Go.ChangeShapes Go.WideShapes Go.ChangeAt Go.RowKit

def cellE : Elt (Int × Int) where
  T := 59
  S := 35
  size := 2
  bytes := 16
  z := .agg #[.int .i64 0, .int .i64 0]
  enc := fun p => [.int .i64 p.1, .int .i64 p.2]
  len := fun _ => rfl
  one := fun x u hu => by simp at hu; rcases hu with rfl | rfl <;> rfl
  pos := by omega
  und := Tryz.underlying35
  info := by kernel_rfl
  zs := rfl
/-- v is a slice that owns the cells l -/
def CS (w : World) (base : Nat) (v : Value) (l : List (Int × Int)) : Prop := Own cellE w base v l
section
variable {w w' : World} {base base' : Nat} {v : Value} {l : List (Int × Int)}
theorem CS.nil (w : World) (base : Nat) : CS w base (.slice none 0 0) [] := Own.nil cellE w base
theorem CS.form (h : CS w base v l) : ∃ a cap, v = .slice a l.length cap ∧ l.length ≤ 9223372036854775807 := Own.form h
theorem CS.sl (h : CS w base v l) : ∃ a n c, v = .slice a n c := Own.sl h
theorem CS.bound {a : Option Addr} {n cap : Nat} (h : CS w base (.slice a n cap) l) : n = l.length ∧ l.length ≤ 9223372036854775807 := Own.bound h
theorem CS.kept {r : Option Nat} (h : CS w base v l) (hg : w.grownBy w' r) (hne : v.ownBlock = none ∨ v.ownBlock ≠ r) : CS w' base v l := Own.kept h hg hne
theorem CS.grew (h : CS w base v l) (hg : w.grownBy w' none) : CS w' base v l := Own.grew h hg
theorem CS.lt (h : CS w base v l) : ∀ k, v.ownBlock = some k → base ≤ k ∧ k < w.heap.size := Own.lt h
theorem CS.lower (h : CS w base v l) (hb : base' ≤ base) : CS w base' v l := Own.lower h hb
theorem CS.other {c o : Nat} (h : CS w base v l) (hne : v.ownBlock ≠ some c) (u : Value) : CS (w.setCell ⟨c, o, none⟩ u) base v l := Own.other h hne u
theorem CS.at {a : Option Addr} {n cap : Nat} (h : CS w base (.slice a n cap) l) (i : Nat) (hi : i < l.length) :
    ∃ g, a = some ⟨g, 0, none⟩ ∧ base ≤ g ∧ g < w.heap.size ∧ At w g (i * 2) (.int .i64 l[i].1) ∧ At w g (i * 2 + 1) (.int .i64 l[i].2) := by
  obtain ⟨g, h1, h2, h3, h4⟩ := Own.at h i hi
  exact ⟨g, h1, h2, h3, h4 0 _ rfl, h4 1 _ rfl⟩
/-- writing one cell -/
theorem CS.set {n cap g : Nat} (h : CS w base (.slice (some ⟨g, 0, none⟩) n cap) l) (i : Nat) (hi : i < l.length) (x y : Int) :
    CS ((w.setCell ⟨g, i * 2, none⟩ (.int .i64 x)).setCell ⟨g, i * 2 + 1, none⟩ (.int .i64 y)) base (.slice (some ⟨g, 0, none⟩) n cap) (l.set i (x, y)) := by
  obtain ⟨h0, ⟨h1, h2⟩ | ⟨g', c, cur, hv, hb, hg, h1, h2, h3, h4⟩⟩ := h
  · cases h1
  · cases hv
    refine ⟨Elt.all_length _ _, .inr ⟨g, cap, (cur.setIfInBounds (i * 2) (.int .i64 x)).setIfInBounds (i * 2 + 1) (.int .i64 y), by simp, hb, ?_, by simpa using h1, h2, by simp [h3], ?_⟩⟩
    · exact heap_set_same (heap_set_same hg _) _
    · have : ∀ (l : List (Int × Int)) (i : Nat), i < l.length → cellE.all (l.set i (x, y)) = ((cellE.all l).set (i * 2) (.int .i64 x)).set (i * 2 + 1) (.int .i64 y) := by
        intro l
        induction l with
        | nil => intro i hi; simp at hi
        | cons q r ih =>
          intro i hi
          cases i with
          | zero => rfl
          | succ i =>
            have e := ih i (by simpa using hi)
            simp only [Elt.all, List.set_cons_succ, List.flatMap_cons] at e ⊢
            rw [e]
            simp [cellE, Nat.add_mul]
      rw [this l i hi, ← h4]
      simp [List.take_set]
/-- the slice of one element that an append of one element is written with -/
theorem CS.single (w : World) (x y : Int) (hb : base ≤ w.heap.size) : CS (w.alloc (.cells #[.int .i64 x, .int .i64 y] 59)) base (.slice (some ⟨w.heap.size, 0, none⟩) 1 1) [(x, y)] :=
  Own.fresh cellE w [(x, y)] _ rfl (by simp) hb
theorem CS.empty (w : World) (hb : base ≤ w.heap.size) : CS (w.alloc (.cells #[] 59)) base (.slice (some ⟨w.heap.size, 0, none⟩) 0 0) [] :=
  Own.fresh cellE w [] _ rfl (by simp) hb
end
end Go.Proofs.YteialkknddpbjaaGreatDoor
namespace Go.Proofs.YteialkknddpbjaaGreatDoor
open Go.ChangeShapes Go.WideShapes Go.ChangeAt Go.RowKit

def okc (p : Int × Int) : Bool := cellOkZ p.1 p.2
def cellsZ (l : List (Int × Int)) : Bool := l.all okc && inB l.length 1 16
theorem take_next {l : List (Int × Int)} {k : Nat} (h : k < l.length) : (l.take (k + 1)).all okc = ((l.take k).all okc && cellOkZ l[k].1 l[k].2) := by
  rw [List.take_succ_eq_append_getElem h, List.all_append]; simp [okc]
theorem all_no {l : List (Int × Int)} {k : Nat} (h : k < l.length) (hk : cellOkZ l[k].1 l[k].2 = false) : l.all okc = false := by
  rw [List.all_eq_false]; exact ⟨l[k], List.getElem_mem h, by simp [okc, hk]⟩
/-- a disk -/
structure DZ where
  n : Int
  dead : Bool
  k : List (Int × Int)
  m : List (Int × Int)
def DZ.zero : DZ := ⟨0, false, [], []⟩
def DZ.ok (d : DZ) : Bool := inB d.n 0 4 && (if d.dead then d.k.length == 0 && d.m.length == 0 else cellsZ d.k && (cellsZ d.m && d.k.length == d.m.length))
/-- the cells of a new disk -/
def newL (n : Int) (p : Nat) : List (Int × Int) := (List.range p).map fun i : Nat => (cofV n (i : Int) 0, cofS n (i : Int) 0)
theorem newL_succ (n : Int) (p : Nat) : newL n (p + 1) = newL n p ++ [(cofV n p 0, cofS n p 0)] := by simp [newL, List.range_succ]
theorem newL_length (n : Int) (p : Nat) : (newL n p).length = p := by simp [newL]
/-- what is at a place -/
def DZ.cell (d : DZ) (p : Int) : Int × Int := d.m.getD p.toNat (0, 0)
def DZ.has (d : DZ) (p : Int) : Bool := decide (0 ≤ p ∧ p < d.m.length)
/-- a right disk's cell can be read -/
def DZ.can (d : DZ) (p : Int) : Bool := !d.dead && (d.has p && goodZ (d.cell p).1 (d.cell p).2 d.n p)
def DZ.canRead (d : DZ) (p : Int) : Bool := d.ok && d.can p
def DZ.readV (d : DZ) (p : Int) : Int := if d.canRead p then (d.cell p).1 else 0
def DZ.may (d : DZ) (p v : Int) : Bool := !d.dead && (d.has p && inB v 0 32767)
def DZ.put (d : DZ) (p v : Int) : DZ := if d.may p v then { d with m := d.m.set p.toNat (cofV d.n p v, cofS d.n p v) } else d
def DZ.written (d : DZ) (p v : Int) : DZ := if d.ok then d.put p v else .zero
def DZ.wrote (d : DZ) (p v : Int) : Bool := d.ok && d.may p v
def DZ.flushed (d : DZ) : DZ := if d.ok then { d with k := d.m } else .zero
def DZ.died (d : DZ) : DZ := if d.ok then ⟨d.n, true, [], []⟩ else .zero
/-- a crash: each place has its kept cell or its current one -/
def bitOf (s : Int) (i : Nat) : Bool := (s / 2 ^ i) % 2 == 1
def fallL (s : Int) (k m : List (Int × Int)) : List (Int × Int) := (List.range m.length).map fun i => if bitOf s i then m.getD i (0, 0) else k.getD i (0, 0)
def DZ.fall (d : DZ) (s : Int) : DZ := { d with k := fallL s d.k d.m, m := fallL s d.k d.m }
theorem DZ.ok_len {d : DZ} (h : d.ok = true) : d.k.length = d.m.length ∧ d.m.length ≤ 16 := by
  unfold DZ.ok at h
  cases hd : d.dead
  · simp [hd, cellsZ, inB] at h; omega
  · simp [hd] at h; simp [h.2.1, h.2.2]
/-- the values of a disk lie in the world -/
def IsD (w : World) (base : Nat) (kv nv : Value) (d : DZ) : Prop := CS w base kv d.k ∧ CS w base nv d.m
theorem IsD.grew {w w' : World} {base : Nat} {kv nv : Value} {d : DZ} (h : IsD w base kv nv d) (g : w.grownBy w' none) : IsD w' base kv nv d := ⟨h.1.grew g, h.2.grew g⟩
/-- what a function answers with a disk: new memory, its two slices apart -/
def NewD (w w' : World) (kv nv : Value) (d : DZ) : Prop := IsD w' w.heap.size kv nv d ∧ Apart kv nv ∧ w.grownBy w' none
def GotD (d : DZ) (w : World) (e : Ending) (w' : World) : Prop := ∃ kv nv, e = .returned (.agg #[.int .i64 d.n, .bool d.dead, kv, nv]) ∧ NewD w w' kv nv d
def GotDB (d : DZ) (b : Bool) (w : World) (e : Ending) (w' : World) : Prop := ∃ kv nv, e = .returned (.tuple #[.agg #[.int .i64 d.n, .bool d.dead, kv, nv], .bool b]) ∧ NewD w w' kv nv d
theorem newD_zero (w : World) {w' : World} (g : w.grownBy w' none) : NewD w w' (.slice none 0 0) (.slice none 0 0) .zero := ⟨⟨CS.nil _ _, CS.nil _ _⟩, .inl rfl, g⟩
/-- block b holds a disk, its slices own their memory in blocks from B on, apart from each other and from b -/
structure DBox (w : World) (b B : Nat) (d : DZ) (kv nv : Value) : Prop where
  c0 : At w b 0 (.int .i64 d.n)
  c1 : At w b 1 (.bool d.dead)
  c2 : At w b 2 kv
  c3 : At w b 3 nv
  ks : CS w B kv d.k
  ns : CS w B nv d.m
  ap : Apart kv nv
  kb : kv.ownBlock ≠ some b
  nb : nv.ownBlock ≠ some b
section
variable {w w' : World} {b B : Nat} {d : DZ} {kv nv : Value}
theorem DBox.kept (h : DBox w b B d kv nv) (g : w.grownBy w' none) : DBox w' b B d kv nv :=
  ⟨gk g h.c0, gk g h.c1, gk g h.c2, gk g h.c3, h.ks.grew g, h.ns.grew g, h.ap, h.kb, h.nb⟩
theorem DBox.lt (h : DBox w b B d kv nv) : b < w.heap.size := cell_lt h.c0.1
/-- the field Kept is replaced (r: the block that may have changed on the way) -/
theorem DBox.put2 {r : Option Nat} (h : DBox w b B d kv nv) (g : w.grownBy w' r) (hr : r ≠ some b) (hn : nv.ownBlock = none ∨ nv.ownBlock ≠ r) {v : Value} {l : List (Int × Int)} (hv : CS w' B v l) (hb : v.ownBlock ≠ some b) (ha : Apart v nv) :
    DBox (w'.setCell ⟨b, 2, none⟩ v) b B { d with k := l } v nv :=
  ⟨(gkr g hr h.c0).other (by simp) _, (gkr g hr h.c1).other (by simp) _, (gkr g hr h.c2).same _, (gkr g hr h.c3).other (by simp) _, hv.other hb _, (h.ns.kept g hn).other h.nb _, ha, hb, h.nb⟩
/-- the field Now is replaced -/
theorem DBox.put3 {r : Option Nat} (h : DBox w b B d kv nv) (g : w.grownBy w' r) (hr : r ≠ some b) (hk : kv.ownBlock = none ∨ kv.ownBlock ≠ r) {v : Value} {l : List (Int × Int)} (hv : CS w' B v l) (hb : v.ownBlock ≠ some b) (ha : Apart kv v) :
    DBox (w'.setCell ⟨b, 3, none⟩ v) b B { d with m := l } kv v :=
  ⟨(gkr g hr h.c0).other (by simp) _, (gkr g hr h.c1).other (by simp) _, (gkr g hr h.c2).other (by simp) _, (gkr g hr h.c3).same _, (h.ks.kept g hk).other h.kb _, hv.other hb _, ha, h.kb, hb⟩
/-- append onto Kept -/
theorem DBox.app2 (h : DBox w b B d kv nv) {v : Value} {m : List (Int × Int)} (g : w.grownBy w' kv.ownBlock) (hv : CS w' B v (d.k ++ m)) (hat : v.ownBlock = kv.ownBlock ∨ v.ownBlock = some w.heap.size) :
    DBox (w'.setCell ⟨b, 2, none⟩ v) b B { d with k := d.k ++ m } v nv :=
  h.put2 g h.kb h.ap.symm hv (lies_ne hat h.kb h.lt) (lies_apart hat h.ap fun k hk => (h.ns.lt k hk).2)
/-- append onto Now -/
theorem DBox.app3 (h : DBox w b B d kv nv) {v : Value} {m : List (Int × Int)} (g : w.grownBy w' nv.ownBlock) (hv : CS w' B v (d.m ++ m)) (hat : v.ownBlock = nv.ownBlock ∨ v.ownBlock = some w.heap.size) :
    DBox (w'.setCell ⟨b, 3, none⟩ v) b B { d with m := d.m ++ m } kv v :=
  h.put3 g h.nb h.ap hv (lies_ne hat h.nb h.lt) (lies_apart hat h.ap.symm fun k hk => (h.ks.lt k hk).2).symm
end
/-- a disk's result variable, as it was made -/
structure Zero4 (w : World) (r : Nat) : Prop where
  c0 : At w r 0 (.int .i64 0)
  c1 : At w r 1 (.bool false)
  c2 : At w r 2 (.slice none 0 0)
  c3 : At w r 3 (.slice none 0 0)
theorem Zero4.kept {w w' : World} {r : Nat} {x : Option Nat} (h : Zero4 w r) (g : w.grownBy w' x) (hx : x ≠ some r) : Zero4 w' r := ⟨gkr g hx h.c0, gkr g hx h.c1, gkr g hx h.c2, gkr g hx h.c3⟩
theorem Zero4.other {w : World} {r c o : Nat} (h : Zero4 w r) (hc : c ≠ r) (u : Value) : Zero4 (w.setCell ⟨c, o, none⟩ u) r :=
  ⟨h.c0.other (by intro e; cases e; exact hc rfl) u, h.c1.other (by intro e; cases e; exact hc rfl) u, h.c2.other (by intro e; cases e; exact hc rfl) u, h.c3.other (by intro e; cases e; exact hc rfl) u⟩
/-- the result variable of four cells, written -/
def set4 (w : World) (r : Nat) (x0 x1 x2 x3 : Value) : World := (((w.setCell ⟨r, 0, none⟩ x0).setCell ⟨r, 1, none⟩ x1).setCell ⟨r, 2, none⟩ x2).setCell ⟨r, 3, none⟩ x3
theorem CS.set4 {w : World} {B r : Nat} {v : Value} {l : List (Int × Int)} (h : CS w B v l) (hr : v.ownBlock ≠ some r) (x0 x1 x2 x3 : Value) : CS (set4 w r x0 x1 x2 x3) B v l := (((h.other hr x0).other hr x1).other hr x2).other hr x3
theorem gset4 {a w : World} {r : Nat} (h : a.grownBy w none) (hr : a.heap.size ≤ r) (x0 x1 x2 x3 : Value) : a.grownBy (set4 w r x0 x1 x2 x3) none := gset1 (gset1 (gset1 (gset1 h hr _ _) hr _ _) hr _ _) hr _ _
/-- a disk in a box is handed on through a result variable r that is new -/
theorem DBox.res {w wr : World} {b B r : Nat} {d : DZ} {kv nv : Value} (h : DBox wr b B d kv nv) (g : w.grownBy wr none) (hr : w.heap.size ≤ r) (hB : w.heap.size ≤ B) (hk : kv.ownBlock ≠ some r) (hn : nv.ownBlock ≠ some r) (x0 x1 x2 x3 : Value) :
    NewD w (set4 wr r x0 x1 x2 x3) kv nv d := ⟨⟨(h.ks.lower hB).set4 hk _ _ _ _, (h.ns.lower hB).set4 hn _ _ _ _⟩, h.ap, gset4 g hr _ _ _ _⟩
theorem not_own {w : World} {B r : Nat} {v : Value} {l : List (Int × Int)} (h : CS w B v l) (hr : r < B) : v.ownBlock ≠ some r := fun e => by have := (h.lt r e).1; omega
/-- a variable of four cells, and what may be written there -/
structure Box4W (w : World) (b : Nat) (x0 x1 x2 x3 : Value) : Prop where
  c0 : At w b 0 x0
  c1 : At w b 1 x1
  c2 : At w b 2 x2
  c3 : At w b 3 x3
section
variable {w w' : World} {b : Nat} {x0 x1 x2 x3 : Value}
theorem Box4W.kept {r : Option Nat} (h : Box4W w b x0 x1 x2 x3) (g : w.grownBy w' r) (hr : r ≠ some b) : Box4W w' b x0 x1 x2 x3 := ⟨gkr g hr h.c0, gkr g hr h.c1, gkr g hr h.c2, gkr g hr h.c3⟩
theorem Box4W.far {c o : Nat} (h : Box4W w b x0 x1 x2 x3) (hc : c ≠ b) (u : Value) : Box4W (w.setCell ⟨c, o, none⟩ u) b x0 x1 x2 x3 :=
  ⟨h.c0.other (by intro e; cases e; exact hc rfl) u, h.c1.other (by intro e; cases e; exact hc rfl) u, h.c2.other (by intro e; cases e; exact hc rfl) u, h.c3.other (by intro e; cases e; exact hc rfl) u⟩
theorem fresh_apart {w w1 : World} {B : Nat} {v u : Value} {l m : List (Int × Int)} (hv : CS w B v l) (hu : CS w1 w.heap.size u m) : Apart v u := by
  cases h : v.ownBlock with
  | none => exact .inl h
  | some k => exact .inr fun e => by rw [h] at e; have := (hv.lt k h).2; have := (hu.lt k e.symm).1; omega
theorem Box4W.put2 (h : Box4W w b x0 x1 x2 x3) (v : Value) : Box4W (w.setCell ⟨b, 2, none⟩ v) b x0 x1 v x3 := ⟨h.c0.other (by simp) _, h.c1.other (by simp) _, h.c2.same _, h.c3.other (by simp) _⟩
theorem Box4W.put3 (h : Box4W w b x0 x1 x2 x3) (v : Value) : Box4W (w.setCell ⟨b, 3, none⟩ v) b x0 x1 x2 v := ⟨h.c0.other (by simp) _, h.c1.other (by simp) _, h.c2.other (by simp) _, h.c3.same _⟩
end
theorem boxed2 (w : World) (x0 x1 x2 x3 : Value) (T : Nat) :
    Box4W ((w.alloc (.cells #[x0, x1, x2, x3] T)).alloc (.cells #[.int .i64 0, .bool false, .slice none 0 0, .slice none 0 0] T)) w.heap.size x0 x1 x2 x3 ∧
    Zero4 ((w.alloc (.cells #[x0, x1, x2, x3] T)).alloc (.cells #[.int .i64 0, .bool false, .slice none 0 0, .slice none 0 0] T)) (w.heap.size + 1) ∧
    w.grownBy ((w.alloc (.cells #[x0, x1, x2, x3] T)).alloc (.cells #[.int .i64 0, .bool false, .slice none 0 0, .slice none 0 0] T)) none ∧
    w.heap.size + 2 ≤ ((w.alloc (.cells #[x0, x1, x2, x3] T)).alloc (.cells #[.int .i64 0, .bool false, .slice none 0 0, .slice none 0 0] T)).heap.size := by
  refine ⟨⟨?_, ?_, ?_, ?_⟩, ⟨?_, ?_, ?_, ?_⟩, galloc (galloc (grefl _) _) _, by simp⟩ <;> simp [At, go_sem]
theorem old_ne {w : World} {B c : Nat} {v : Value} {l : List (Int × Int)} (h : CS w B v l) (hc : w.heap.size ≤ c) : v.ownBlock ≠ some c := fun e => by have := (h.lt c e).2; omega
end Go.Proofs.YteialkknddpbjaaGreatDoor
namespace Go.Proofs.YteialkknddpbjaaGreatDoor
open Go.ChangeShapes Go.WideShapes Go.ChangeAt Go.RowKit

theorem cof_ok (n p v : Int) : cellOkZ (cofV n p v) (cofS n p v) = true := by
  by_cases hs : sumZ n p v < 0
  · simp [cofV, cofS, hs, cellOkZ, inB]
  · obtain ⟨h1, h2, h3, _⟩ := cof_good hs
    rw [h1, h2]; simp [goodZ] at h3; exact h3.1
theorem DZ.ok_n {d : DZ} (h : d.ok = true) : inB d.n 0 4 = true := by unfold DZ.ok at h; simp at h; exact h.1
theorem DZ.put_ok {d : DZ} {p v : Int} (h : d.ok = true) (hm : d.may p v = true) : (d.put p v).ok = true := by
  have hd : d.dead = false := by simp [DZ.may] at hm; exact hm.1
  have h' := h
  simp only [DZ.ok, hd, Bool.and_eq_true, Bool.false_eq_true, if_false, cellsZ] at h'
  obtain ⟨h1, ⟨h2, h3⟩, ⟨h4, h5⟩, h6⟩ := h'
  have h7 : (d.m.set p.toNat (cofV d.n p v, cofS d.n p v)).all okc = true := by
    rw [List.all_eq_true]; intro x hx
    rcases List.mem_or_eq_of_mem_set hx with hx | rfl
    · exact List.all_eq_true.1 h4 x hx
    · exact cof_ok _ _ _
  simp only [DZ.put, hm, if_true, DZ.ok, hd, cellsZ, h1, h2, h3, h7, List.length_set, h5, h6, Bool.false_eq_true, if_false, Bool.and_self]
end Go.Proofs.YteialkknddpbjaaGreatDoor
