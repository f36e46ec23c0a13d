/- Rows of chapter 6, as plain mathematics; lists of disks in memory. Lists of disks in memory: read. Lists of disks that own all their memory. Lists of disks that own all their memory: one of them is changed, one is appended. Lists of disks that own all their memory: one of them is replaced by a new one. What the specification's l6Copy returns. -/
import Derived.Deep.DeepFit
import Derived.Test.YteialkknddpbjaaGreatDoorPH01
import Derived.Test.YteialkknddpbjaaGreatDoorPH05
import Derived.Test.YteialkknddpbjaaGreatDoorPH08
import Derived.Test.YteialkknddpbjaaGreatDoorPH09
import Derived.Test.YteialkknddpbjaaGreatDoorPH10
namespace Go.Proofs.YteialkknddpbjaaGreatDoor
open Go.ChangeShapes Go.WideShapes Go.ChangeAt Go.RowKit

/-- the number of rows: of the first disk that is not dead -/
def rowsZ : List DZ → Nat
  | [] => 0
  | d :: r => if d.dead then rowsZ r else d.m.length
/-- disk i of a list is as it has to be -/
def DZ.fitsIn (d : DZ) (i : Nat) (rows : Nat) : Bool := d.ok && (d.n == (i : Int) && (d.dead || d.m.length == rows))
def disksOkZ (l : List DZ) : Bool := inB l.length 3 5 && ((List.range l.length).all (fun i => (l.getD i .zero).fitsIn i (rowsZ l)) && decide (0 < rowsZ l))
def rowsOfZ (l : List DZ) : Int := if disksOkZ l then rowsZ l else -1
def hasZ (l : List DZ) (r : Int) : Bool := disksOkZ l && decide (0 ≤ r ∧ r < rowsZ l)
/-- the disks whose cell is lost -/
def badL (l : List DZ) (r : Int) (k : Nat) : List Int := ((List.range k).filter fun i => !((l.getD i .zero).can r)).map fun i : Nat => (i : Int)
def badZ (l : List DZ) (r : Int) : List Int := badL l r l.length
def badInZ (l : List DZ) (r : Int) : List Int := if hasZ l r then badZ l r else []
/-- the parity of a row -/
def rowX (l : List DZ) (r : Int) : Nat := foldX (l.map fun d => canV d r)
def tellOk (l : List DZ) (d r : Int) : Bool := (l.getD d.toNat .zero).can r || (badZ l r).length == 1
def tellV (l : List DZ) (d r : Int) : Int := if (l.getD d.toNat .zero).can r then canV (l.getD d.toNat .zero) r else if (badZ l r).length == 1 then (rowX l r : Int) else 0
def cellAtOk (l : List DZ) (d r : Int) : Bool := hasZ l r && (decide (0 ≤ d ∧ d < l.length) && tellOk l d r)
def cellAtV (l : List DZ) (d r : Int) : Int := if cellAtOk l d r then tellV l d r else 0
def allCan (l : List DZ) (r : Int) : Bool := l.all fun d => d.can r
def wholeRow (l : List DZ) (r : Int) : Bool := allCan l r && rowX l r == 0
def wholeZ (l : List DZ) (r : Int) : Bool := hasZ l r && wholeRow l r
theorem canV_in (d : DZ) (p : Int) : okv (canV d p) = true := by
  unfold canV
  split
  · rename_i h
    simp only [DZ.can, Bool.and_eq_true] at h
    have := h.2.2
    simp only [goodZ, cellOkZ, Bool.and_eq_true] at this
    exact this.1.1
  · rfl
theorem canV_no {d : DZ} {p : Int} (h : d.can p = false) : canV d p = 0 := by simp [canV, h]
theorem canV_b (d : DZ) (p : Int) : 0 ≤ canV d p ∧ canV d p ≤ 32767 := okv_iff.1 (canV_in d p)
theorem rowX_lt (l : List DZ) (r : Int) : rowX l r < 32768 := foldX_lt (by
  rw [List.all_map, List.all_eq_true]; intro d _; exact canV_in d r)
theorem getD_at {l : List DZ} {k : Nat} (h : k < l.length) : l.getD k .zero = l[k] := by simp [List.getD_eq_getElem?_getD, h]
theorem rowsZ_append (a : List DZ) (d : DZ) : rowsZ (a ++ [d]) = if a.all (·.dead) then (if d.dead then 0 else d.m.length) else rowsZ a := by
  induction a with
  | nil => simp [rowsZ]
  | cons x r ih =>
    simp only [List.cons_append, rowsZ, List.all_cons]
    by_cases hx : x.dead = true
    · simp [hx, ih]
    · simp [hx]
theorem rowsZ_dead {l : List DZ} (h : l.all (·.dead) = true) : rowsZ l = 0 := by
  induction l with
  | nil => rfl
  | cons x r ih => simp only [List.all_cons, Bool.and_eq_true] at h; simp [rowsZ, h.1, ih h.2]
theorem rowsZ_more {a b : List DZ} (h : a.all (·.dead) = false) : rowsZ (a ++ b) = rowsZ a := by
  induction a with
  | nil => simp at h
  | cons x r ih =>
    simp only [List.cons_append, rowsZ]
    by_cases hx : x.dead = true
    · simp only [List.all_cons, hx, Bool.true_and] at h; simp [hx, ih h]
    · simp [hx]
theorem DZ.ok_pos {d : DZ} (h : d.ok = true) (hd : d.dead = false) : 0 < d.m.length ∧ d.m.length ≤ 16 := by
  simp [DZ.ok, hd, cellsZ, inB] at h
  omega
/-- the state of DisksOk's loop: the first k disks are right, p is the number of places so far -/
def DokS (l : List DZ) (k p : Nat) : Prop := p = rowsZ (l.take k) ∧ (p = 0 ↔ (l.take k).all (·.dead) = true) ∧ ∀ i, i < k → (l.getD i .zero).ok = true ∧ (l.getD i .zero).n = (i : Int) ∧ ((l.getD i .zero).dead = false → (l.getD i .zero).m.length = p)
theorem DokS.start (l : List DZ) : DokS l 0 0 := ⟨rfl, by simp, fun i h => by omega⟩
theorem DokS.live {l : List DZ} {k p : Nat} (h : DokS l k p) (hk : k < l.length) (h1 : l[k].ok = true) (h2 : l[k].n = (k : Int)) (hd : l[k].dead = false) (hp : p = 0 ∨ l[k].m.length = p) : DokS l (k + 1) l[k].m.length := by
  obtain ⟨a, b, c⟩ := h
  have hpos := (DZ.ok_pos h1 hd).1
  refine ⟨?_, ?_, fun i hi => ?_⟩
  · rw [List.take_succ_eq_append_getElem hk, rowsZ_append, hd]
    cases hall : (l.take k).all (·.dead)
    · have : p ≠ 0 := fun e => by rw [b.1 e] at hall; cases hall
      simp; rw [← a]; rcases hp with hp | hp
      · exact absurd hp this
      · exact hp
    · simp
  · constructor
    · intro e; omega
    · intro e
      rw [List.take_succ_eq_append_getElem hk, List.all_append] at e
      simp [hd] at e
  · by_cases e : i = k
    · subst e; rw [getD_at hk]; exact ⟨h1, h2, fun _ => rfl⟩
    · obtain ⟨c1, c2, c3⟩ := c i (by omega)
      refine ⟨c1, c2, fun hdi => ?_⟩
      have := c3 hdi
      rcases hp with hp | hp
      · have hall := b.1 hp
        have hik : i < l.length := by omega
        rw [getD_at hik] at hdi
        have := List.all_eq_true.1 hall l[i] (by rw [List.mem_take_iff_getElem]; exact ⟨i, by omega, rfl⟩)
        rw [hdi] at this; cases this
      · omega
theorem DokS.gone {l : List DZ} {k p : Nat} (h : DokS l k p) (hk : k < l.length) (h1 : l[k].ok = true) (h2 : l[k].n = (k : Int)) (hd : l[k].dead = true) : DokS l (k + 1) p := by
  obtain ⟨a, b, c⟩ := h
  refine ⟨?_, ?_, fun i hi => ?_⟩
  · rw [List.take_succ_eq_append_getElem hk, rowsZ_append, hd]
    cases hall : (l.take k).all (·.dead)
    · simp; exact a
    · simp; exact b.2 hall
  · rw [List.take_succ_eq_append_getElem hk, List.all_append]
    simp only [List.all_cons, hd, List.all_nil, Bool.and_true]
    exact b
  · by_cases e : i = k
    · subst e; rw [getD_at hk]; exact ⟨h1, h2, fun x => by rw [hd] at x; cases x⟩
    · exact c i (by omega)
theorem DokS.ends {l : List DZ} {p : Nat} (h : DokS l l.length p) (hl : inB l.length 3 5 = true) : disksOkZ l = decide (0 < p) := by
  obtain ⟨a, b, c⟩ := h
  rw [List.take_length] at a
  have hall : (List.range l.length).all (fun i => (l.getD i .zero).fitsIn i (rowsZ l)) = true := by
    rw [List.all_eq_true]
    intro i hi
    obtain ⟨c1, c2, c3⟩ := c i (by simpa using hi)
    generalize l.getD i .zero = d at *
    cases hd : d.dead
    · simp [DZ.fitsIn, c1, c2, ← a, c3 hd]
    · simp [DZ.fitsIn, c1, c2, hd]
  unfold disksOkZ
  rw [hall, hl, ← a]
  simp
theorem disksOk_bad {l : List DZ} {k : Nat} (hk : k < l.length) (h : l[k].ok = false ∨ l[k].n ≠ (k : Int)) : disksOkZ l = false := by
  have : (List.range l.length).all (fun i => (l.getD i .zero).fitsIn i (rowsZ l)) = false := by
    rw [List.all_eq_false]
    refine ⟨k, by simpa using hk, ?_⟩
    rw [getD_at hk]
    rcases h with h | h <;> simp [DZ.fitsIn, h]
  unfold disksOkZ
  rw [this]
  simp
theorem DokS.bad {l : List DZ} {k p : Nat} (h : DokS l k p) (hk : k < l.length) (hd : l[k].dead = false) (hp : 0 < p) (hne : l[k].m.length ≠ p) : disksOkZ l = false := by
  obtain ⟨a, b, c⟩ := h
  have hr : rowsZ l = p := by
    have e : (l.take k).all (·.dead) = false := by
      cases e : (l.take k).all (·.dead)
      · rfl
      · have := b.2 e; omega
    have q := rowsZ_more (b := l.drop k) e
    rw [List.take_append_drop] at q
    rw [q, a]
  have : (List.range l.length).all (fun i => (l.getD i .zero).fitsIn i (rowsZ l)) = false := by
    rw [List.all_eq_false]
    refine ⟨k, by simpa using hk, ?_⟩
    rw [getD_at hk]
    simp [DZ.fitsIn, hd, hr, hne]
  unfold disksOkZ
  rw [this]
  simp
theorem disksOk_len {l : List DZ} (h : inB l.length 3 5 = false) : disksOkZ l = false := by simp [disksOkZ, h]
theorem badL_next (l : List DZ) (r : Int) (k : Nat) (h : k < l.length) : badL l r (k + 1) = if l[k].can r then badL l r k else badL l r k ++ [(k : Int)] := by
  unfold badL
  rw [List.range_succ, List.filter_append, List.map_append]
  cases hc : l[k].can r <;> simp [List.getD_eq_getElem?_getD, h, hc]
theorem badL_length (l : List DZ) (r : Int) (k : Nat) : (badL l r k).length ≤ k := by
  unfold badL
  rw [List.length_map]
  exact Nat.le_trans (List.length_filter_le _ _) (by simp)
/-- the parity of the first k disks -/
def rowXk (l : List DZ) (r : Int) (k : Nat) : Nat := foldX ((l.take k).map fun d => canV d r)
theorem rowXk_lt (l : List DZ) (r : Int) (k : Nat) : rowXk l r k < 32768 := rowX_lt (l.take k) r
theorem rowXk_next (l : List DZ) (r : Int) (k : Nat) (h : k < l.length) : (rowXk l r (k + 1) : Int) = bits .xor .i64 (rowXk l r k : Int) (canV l[k] r) := by
  have h1 := canV_b l[k] r
  have h2 := rowXk_lt l r k
  rw [xor64 (by omega) (by omega) h1.1 h1.2]
  unfold rowXk
  rw [List.take_succ_eq_append_getElem h, List.map_append, foldX_append]
  simp [foldX]
theorem rowXk_all (l : List DZ) (r : Int) : rowXk l r l.length = rowX l r := by unfold rowXk; rw [List.take_length]; rfl
theorem rowXk_skip (l : List DZ) (r : Int) (k : Nat) (h : k < l.length) (hc : l[k].can r = false) : rowXk l r (k + 1) = rowXk l r k := by
  unfold rowXk
  rw [List.take_succ_eq_append_getElem h, List.map_append, foldX_append]
  simp [foldX, canV_no hc]
end Go.Proofs.YteialkknddpbjaaGreatDoor
namespace Go.Proofs.YteialkknddpbjaaGreatDoor
open Go.ChangeShapes Go.WideShapes Go.ChangeAt Go.RowKit

/-- a disk as it lies in memory -/
structure DV where
  n : Int
  dead : Bool
  ka : Option Addr
  km : Nat
  kc : Nat
  na : Option Addr
  nm : Nat
  nc : Nat
def DV.kv (r : DV) : Value := .slice r.ka r.km r.kc
def DV.nv (r : DV) : Value := .slice r.na r.nm r.nc
def diskE : Elt DV where
  T := 37
  S := 24
  size := 4
  bytes := 64
  z := .agg #[.int .i64 0, .bool false, .slice none 0 0, .slice none 0 0]
  enc := fun r => [.int .i64 r.n, .bool r.dead, r.kv, r.nv]
  len := fun _ => rfl
  one := fun x u hu => by simp at hu; rcases hu with rfl | rfl | rfl | rfl <;> rfl
  pos := by omega
  und := Tryz.underlying24
  info := by kernel_rfl
  zs := rfl
/-- what lies there is the disk d -/
structure DV.Is (w : World) (base : Nat) (r : DV) (d : DZ) : Prop where
  n : r.n = d.n
  dead : r.dead = d.dead
  isD : IsD w base r.kv r.nv d
/-- v is a slice whose disks l can be read -/
def LD (w : World) (v : Value) (l : List DZ) : Prop := ∃ raw : List DV, Rd diskE w v raw ∧ raw.length = l.length ∧ ∀ i (h : i < l.length) (h' : i < raw.length), (raw[i]).Is w 0 l[i]
section
variable {w w' : World} {v : Value} {l : List DZ}
theorem DV.Is.grew {base : Nat} {r : DV} {d : DZ} (h : r.Is w base d) (g : w.grownBy w' none) : r.Is w' base d := ⟨h.n, h.dead, h.isD.grew g⟩
theorem LD.kept (h : LD w v l) (g : w.grownBy w' none) : LD w' v l := by
  obtain ⟨raw, h1, h2, h3⟩ := h
  exact ⟨raw, h1.kept g, h2, fun i a b => (h3 i a b).grew g⟩
theorem LD.form (h : LD w v l) : ∃ a cap, v = .slice a l.length cap ∧ l.length ≤ 9223372036854775807 := by
  obtain ⟨raw, ⟨a, cap, h1, h2, h3, _⟩, h5, _⟩ := h
  exact ⟨a, cap, by rw [h1, h5], by omega⟩
theorem diskE_all (r : List DV) (i : Nat) (hi : i < r.length) (j : Nat) (hj : j < 4) : (diskE.all r)[i * 4 + j]? = (diskE.enc r[i])[j]? := diskE.all_get r i j hi hj
/-- disk i, its four cells -/
theorem LD.at {a : Option Addr} {n cap : Nat} (h : LD w (.slice a n cap) l) (i : Nat) (hi : i < l.length) :
    ∃ g o ka km kc na nm nc, a = some ⟨g, o, none⟩ ∧ w.cell? ⟨g, o + i * 4, none⟩ = some (.int .i64 l[i].n) ∧ w.cell? ⟨g, o + i * 4 + 1, none⟩ = some (.bool l[i].dead) ∧ w.cell? ⟨g, o + i * 4 + 2, none⟩ = some (.slice ka km kc) ∧ w.cell? ⟨g, o + i * 4 + 3, none⟩ = some (.slice na nm nc) ∧ IsD w 0 (.slice ka km kc) (.slice na nm nc) l[i] := by
  obtain ⟨raw, ⟨a', cap', h1, _, _, h4⟩, h5, h6⟩ := h
  have hi' : i < raw.length := by omega
  have hr := h6 i hi hi'
  rcases h4 with h4 | ⟨g, o, h4, _, h7⟩
  · rw [h4] at hi'; simp at hi'
  · cases h1
    have q : ∀ j u, j < 4 → (diskE.enc raw[i])[j]? = some u → w.cell? ⟨g, o + i * 4 + j, none⟩ = some u := fun j u hj hu => by
      rw [Nat.add_assoc]; exact h7 _ u (by rw [diskE_all raw i hi' j hj]; exact hu)
    refine ⟨g, o, raw[i].ka, raw[i].km, raw[i].kc, raw[i].na, raw[i].nm, raw[i].nc, h4, ?_, ?_, q 2 _ (by omega) rfl, q 3 _ (by omega) rfl, hr.isD⟩
    · rw [← hr.n]; exact q 0 _ (by omega) rfl
    · rw [← hr.dead]; exact q 1 _ (by omega) rfl
end
end Go.Proofs.YteialkknddpbjaaGreatDoor
namespace Go.Proofs.YteialkknddpbjaaGreatDoor
open Go.ChangeShapes Go.WideShapes Go.ChangeAt Go.RowKit

/-- four cells side by side are written -/
def set4o (w : World) (g o : Nat) (x0 x1 x2 x3 : Value) : World := (((w.setCell ⟨g, o, none⟩ x0).setCell ⟨g, o + 1, none⟩ x1).setCell ⟨g, o + 2, none⟩ x2).setCell ⟨g, o + 3, none⟩ x3
theorem gset4w (w : World) (g o : Nat) (x0 x1 x2 x3 : Value) : w.grownBy (set4o w g o x0 x1 x2 x3) (some g) := gset (gset (gset (gset (World.grownBy.refl w _) _ _) _ _) _ _) _ _
theorem Own.put {w : World} {base n cap g : Nat} {l : List DV} (h : Own diskE w base (.slice (some ⟨g, 0, none⟩) n cap) l) (i : Nat) (hi : i < l.length) (r : DV) :
    Own diskE (set4o w g (i * 4) (.int .i64 r.n) (.bool r.dead) r.kv r.nv) base (.slice (some ⟨g, 0, none⟩) n cap) (l.set i r) := by
  have h1 := Own.setAt h i 0 (.int .i64 r.n) { l[i] with n := r.n } hi (by decide) rfl
  have h2 := Own.setAt h1 i 1 (.bool r.dead) { l[i] with n := r.n, dead := r.dead } (by simpa using hi) (by decide) (by simp [diskE, DV.kv, DV.nv])
  have h3 := Own.setAt h2 i 2 r.kv { r with na := l[i].na, nm := l[i].nm, nc := l[i].nc } (by simpa using hi) (by decide) (by simp [diskE, DV.kv, DV.nv])
  have h4 := Own.setAt h3 i 3 r.nv r (by simpa using hi) (by decide) (by simp [diskE, DV.kv, DV.nv])
  simp only [List.set_set] at h4
  exact h4
/-- block k is one of the disk's -/
def DV.has (r : DV) (k : Nat) : Prop := r.kv.ownBlock = some k ∨ r.nv.ownBlock = some k
/-- v is a slice that owns the disks l and all their memory; raw: as they lie there -/
structure OD (w : World) (base : Nat) (v : Value) (l : List DZ) (raw : List DV) : Prop where
  own : Own diskE w base v raw
  len : raw.length = l.length
  is : ∀ i (h : i < raw.length) (h' : i < l.length), raw[i].Is w base l[i]
  self : ∀ i (h : i < raw.length), Apart raw[i].kv raw[i].nv
  ap : ∀ i j (hi : i < raw.length) (hj : j < raw.length) k, raw[i].has k → raw[j].has k → i = j
  out : ∀ i (h : i < raw.length) k, raw[i].has k → v.ownBlock ≠ some k
section
variable {w w' : World} {base : Nat} {v : Value} {l : List DZ} {raw : List DV}
theorem OD.ld (h : OD w base v l raw) : LD w v l := ⟨raw, h.own.rd, h.len, fun i a b => ⟨(h.is i b a).n, (h.is i b a).dead, ⟨(h.is i b a).isD.1.lower (Nat.zero_le _), (h.is i b a).isD.2.lower (Nat.zero_le _)⟩⟩⟩
theorem OD.grew (h : OD w base v l raw) (g : w.grownBy w' none) : OD w' base v l raw := ⟨h.own.grew g, h.len, fun i a b => (h.is i a b).grew g, h.self, h.ap, h.out⟩
theorem OD.lower {base' : Nat} (h : OD w base v l raw) (hb : base' ≤ base) : OD w base' v l raw := ⟨h.own.lower hb, h.len, fun i a b => ⟨(h.is i a b).n, (h.is i a b).dead, ⟨(h.is i a b).isD.1.lower hb, (h.is i a b).isD.2.lower hb⟩⟩, h.self, h.ap, h.out⟩
theorem OD.in (h : OD w base v l raw) (i : Nat) (hi : i < raw.length) (k : Nat) (hk : raw[i].has k) : base ≤ k ∧ k < w.heap.size := by
  have hl := h.len
  have := h.is i hi (by omega)
  rcases hk with hk | hk
  · exact this.isD.1.lt k hk
  · exact this.isD.2.lt k hk
theorem OD.form (h : OD w base v l raw) : ∃ a cap, v = .slice a l.length cap ∧ l.length ≤ 9223372036854775807 := h.ld.form
/-- a world in which only blocks that are not the list's have changed -/
theorem OD.kept {r : Option Nat} (h : OD w base v l raw) (g : w.grownBy w' r) (hv : v.ownBlock = none ∨ v.ownBlock ≠ r) (hr : ∀ i (hi : i < raw.length) k, raw[i].has k → r ≠ some k) : OD w' base v l raw := by
  refine ⟨h.own.kept g hv, h.len, fun i a b => ⟨(h.is i a b).n, (h.is i a b).dead, ⟨(h.is i a b).isD.1.kept g ?_, (h.is i a b).isD.2.kept g ?_⟩⟩, h.self, h.ap, h.out⟩
  · cases e : raw[i].kv.ownBlock with
    | none => exact .inl rfl
    | some k => exact .inr fun x => hr i a k (.inl e) x.symm
  · cases e : raw[i].nv.ownBlock with
    | none => exact .inl rfl
    | some k => exact .inr fun x => hr i a k (.inr e) x.symm
/-- disk i is replaced, its memory is new or was its own -/
theorem OD.put {n cap g : Nat} (h : OD w base (.slice (some ⟨g, 0, none⟩) n cap) l raw) (i : Nat) (hi : i < raw.length) (r : DV) (d : DZ)
    (hd : r.Is w base d) (hs : Apart r.kv r.nv) (hb : ∀ k, r.has k → k ≠ g ∧ ∀ j (hj : j < raw.length), j ≠ i → ¬ raw[j].has k) :
    OD (set4o w g (i * 4) (.int .i64 r.n) (.bool r.dead) r.kv r.nv) base (.slice (some ⟨g, 0, none⟩) n cap) (l.set i d) (raw.set i r) := by
  have hg := gset4w w g (i * 4) (.int .i64 r.n) (.bool r.dead) r.kv r.nv
  have hkeep : ∀ (q : DV) (x : DZ), (∀ k, q.has k → k ≠ g) → q.Is w base x → q.Is (set4o w g (i * 4) (.int .i64 r.n) (.bool r.dead) r.kv r.nv) base x := fun q x hq hx =>
    ⟨hx.n, hx.dead, ⟨hx.isD.1.kept hg (by
      cases e : q.kv.ownBlock with
      | none => exact .inl rfl
      | some k => exact .inr fun y => hq k (.inl e) (by cases y; rfl)), hx.isD.2.kept hg (by
      cases e : q.nv.ownBlock with
      | none => exact .inl rfl
      | some k => exact .inr fun y => hq k (.inr e) (by cases y; rfl))⟩⟩
  refine ⟨h.own.put i hi r, by simp [h.len], fun j hj hj' => ?_, fun j hj => ?_, fun a b ha hb' k hka hkb => ?_, fun j hj k hk => ?_⟩
  · simp only [List.length_set] at hj hj'
    by_cases e : i = j
    · subst e; simp only [List.getElem_set_self]; exact hkeep r d (fun k hk => (hb k hk).1) hd
    · simp only [List.getElem_set_ne e]
      exact hkeep _ _ (fun k hk x => h.out j hj k hk (by rw [x]; rfl)) (h.is j hj hj')
  · simp only [List.length_set] at hj
    by_cases e : i = j
    · subst e; simp only [List.getElem_set_self]; exact hs
    · simp only [List.getElem_set_ne e]; exact h.self j hj
  · simp only [List.length_set] at ha hb'
    by_cases e1 : i = a
    · by_cases e2 : i = b
      · omega
      · subst e1
        simp only [List.getElem_set_self, List.getElem_set_ne e2] at hka hkb
        exact absurd hkb ((hb k hka).2 b hb' (fun x => e2 x.symm))
    · by_cases e2 : i = b
      · subst e2
        simp only [List.getElem_set_self, List.getElem_set_ne e1] at hka hkb
        exact absurd hka ((hb k hkb).2 a ha (fun x => e1 x.symm))
      · simp only [List.getElem_set_ne e1, List.getElem_set_ne e2] at hka hkb
        exact h.ap a b ha hb' k hka hkb
  · simp only [List.length_set] at hj
    by_cases e : i = j
    · subst e
      simp only [List.getElem_set_self] at hk
      intro x; cases x; exact (hb _ hk).1 rfl
    · simp only [List.getElem_set_ne e] at hk
      exact h.out j hj k hk
end
end Go.Proofs.YteialkknddpbjaaGreatDoor
namespace Go.Proofs.YteialkknddpbjaaGreatDoor
open Go.ChangeShapes Go.WideShapes Go.ChangeAt Go.RowKit

def DZ.num (d : DZ) (x : Int) : DZ := ⟨x, d.dead, d.k, d.m⟩
def DZ.lives (d : DZ) (x : Bool) : DZ := ⟨d.n, x, d.k, d.m⟩
def DZ.withK (d : DZ) (x : List (Int × Int)) : DZ := ⟨d.n, d.dead, x, d.m⟩
def DZ.withM (d : DZ) (x : List (Int × Int)) : DZ := ⟨d.n, d.dead, d.k, x⟩
def DV.num (r : DV) (x : Int) : DV := ⟨x, r.dead, r.ka, r.km, r.kc, r.na, r.nm, r.nc⟩
def DV.lives (r : DV) (x : Bool) : DV := ⟨r.n, x, r.ka, r.km, r.kc, r.na, r.nm, r.nc⟩
/-- disk i of a list is changed -/
theorem OD.upd {w w' : World} {base : Nat} {v : Value} {l : List DZ} {raw : List DV} (h : OD w base v l raw) (i : Nat) (_ : i < raw.length) (r : DV) (d : DZ)
    (hown : Own diskE w' base v (raw.set i r)) (hd : r.Is w' base d) (hs : Apart r.kv r.nv) (hb : ∀ k, r.has k → v.ownBlock ≠ some k ∧ ∀ j (hj : j < raw.length), j ≠ i → ¬ raw[j].has k)
    (hw : ∀ j (hj : j < raw.length) k, j ≠ i → raw[j].has k → w'.heap[k]? = w.heap[k]?) : OD w' base v (l.set i d) (raw.set i r) := by
  refine ⟨hown, by simp [h.len], fun j hj hj' => ?_, fun j hj => ?_, fun a b ha hb' k hka hkb => ?_, fun j hj k hk => ?_⟩
  · simp only [List.length_set] at hj hj'
    by_cases e : i = j
    · subst e; simp only [List.getElem_set_self]; exact hd
    · simp only [List.getElem_set_ne e]
      have hj0 := h.is j hj hj'
      exact ⟨hj0.n, hj0.dead, Own.same hj0.isD.1 (fun k hk => hw j hj k (fun x => e x.symm) (.inl hk)), Own.same hj0.isD.2 (fun k hk => hw j hj k (fun x => e x.symm) (.inr hk))⟩
  · simp only [List.length_set] at hj
    by_cases e : i = j
    · subst e; simp only [List.getElem_set_self]; exact hs
    · simp only [List.getElem_set_ne e]; exact h.self j hj
  · simp only [List.length_set] at ha hb'
    by_cases e1 : i = a
    · by_cases e2 : i = b
      · omega
      · subst e1
        simp only [List.getElem_set_self, List.getElem_set_ne e2] at hka hkb
        exact absurd hkb ((hb k hka).2 b hb' (fun x => e2 x.symm))
    · by_cases e2 : i = b
      · subst e2
        simp only [List.getElem_set_self, List.getElem_set_ne e1] at hka hkb
        exact absurd hka ((hb k hkb).2 a ha (fun x => e1 x.symm))
      · simp only [List.getElem_set_ne e1, List.getElem_set_ne e2] at hka hkb
        exact h.ap a b ha hb' k hka hkb
  · simp only [List.length_set] at hj
    by_cases e : i = j
    · subst e
      simp only [List.getElem_set_self] at hk
      exact (hb _ hk).1
    · simp only [List.getElem_set_ne e] at hk
      exact h.out j hj k hk
section
variable {w w' : World} {base n cap g : Nat} {l : List DZ} {raw : List DV}
/-- its blocks are its own -/
theorem OD.mine {v : Value} (h : OD w base v l raw) (i : Nat) (hi : i < raw.length) (k : Nat) (hk : raw[i].has k) : v.ownBlock ≠ some k ∧ ∀ j (hj : j < raw.length), j ≠ i → ¬ raw[j].has k :=
  ⟨h.out i hi k hk, fun j hj e x => e (h.ap j i hj hi k x hk)⟩
/-- the Number of disk i is written -/
theorem OD.setNum (h : OD w base (.slice (some ⟨g, 0, none⟩) n cap) l raw) (i : Nat) (hi : i < raw.length) (hi' : i < l.length) (x : Int) :
    OD (w.setCell ⟨g, i * 4, none⟩ (.int .i64 x)) base (.slice (some ⟨g, 0, none⟩) n cap) (l.set i (l[i].num x)) (raw.set i (raw[i].num x)) := by
  have hg : ∀ j (hj : j < raw.length) k, raw[j].has k → (w.setCell ⟨g, i * 4, none⟩ (.int .i64 x)).heap[k]? = w.heap[k]? := fun j hj k hk => Below.heap_setCell w _ _ k (fun e => h.out j hj k hk (by rw [e]; rfl))
  have hr := h.is i hi hi'
  exact h.upd i hi (raw[i].num x) _ (Own.setAt h.own i 0 _ (raw[i].num x) hi (by decide) rfl) ⟨rfl, hr.dead, Own.same hr.isD.1 (fun k hk => hg i hi k (.inl hk)), Own.same hr.isD.2 (fun k hk => hg i hi k (.inr hk))⟩ (h.self i hi) (fun k hk => h.mine i hi k hk) (fun j hj k _ hk => hg j hj k hk)
theorem same_of {r : Option Nat} (g : w.grownBy w' r) (k : Nat) (hk : k < w.heap.size) (hr : r ≠ some k) : w'.heap[k]? = w.heap[k]? := g.block k hk (fun e => hr e.symm)
/-- the cells of Kept of disk i are written -/
theorem OD.setKept {v : Value} {x : List (Int × Int)} (h : OD w base v l raw) (i : Nat) (hi : i < raw.length) (hi' : i < l.length) (gr : w.grownBy w' raw[i].kv.ownBlock) (hc : CS w' base raw[i].kv x) :
    OD w' base v (l.set i (l[i].withK x)) raw := by
  have hr := h.is i hi hi'
  have hm := h.mine i hi
  have hlt : ∀ k, v.ownBlock = some k → k < w.heap.size := fun k hk => (h.own.lt k hk).2
  have e : raw.set i raw[i] = raw := List.set_getElem_self hi
  have q := h.upd (w' := w') i hi raw[i] (l[i].withK x) (by
    rw [e]
    exact Own.same h.own (fun k hk => same_of gr k (hlt k hk) (fun y => (hm k (.inl y)).1 hk))) ⟨hr.n, hr.dead, hc, Own.same hr.isD.2 (fun k hk => same_of gr k (hr.isD.2.lt k hk).2 (fun y => by rcases h.self i hi with z | z; rw [z] at y; cases y; exact z (by rw [y, hk])))⟩ (h.self i hi) (fun k hk => hm k hk) (fun j hj k hji hk => same_of gr k (h.in j hj k hk).2 (fun y => (hm k (.inl y)).2 j hj hji hk))
  rw [e] at q
  exact q
/-- the cells of Now of disk i are written -/
theorem OD.setNow {v : Value} {x : List (Int × Int)} (h : OD w base v l raw) (i : Nat) (hi : i < raw.length) (hi' : i < l.length) (gr : w.grownBy w' raw[i].nv.ownBlock) (hc : CS w' base raw[i].nv x) :
    OD w' base v (l.set i (l[i].withM x)) raw := by
  have hr := h.is i hi hi'
  have hm := h.mine i hi
  have hlt : ∀ k, v.ownBlock = some k → k < w.heap.size := fun k hk => (h.own.lt k hk).2
  have e : raw.set i raw[i] = raw := List.set_getElem_self hi
  have q := h.upd (w' := w') i hi raw[i] (l[i].withM x) (by
    rw [e]
    exact Own.same h.own (fun k hk => same_of gr k (hlt k hk) (fun y => (hm k (.inr y)).1 hk))) ⟨hr.n, hr.dead, Own.same hr.isD.1 (fun k hk => same_of gr k (hr.isD.1.lt k hk).2 (fun y => by rcases h.self i hi with z | z; rw [z] at hk; cases hk; exact z (by rw [y, hk]))), hc⟩ (h.self i hi) (fun k hk => hm k hk) (fun j hj k hji hk => same_of gr k (h.in j hj k hk).2 (fun y => (hm k (.inr y)).2 j hj hji hk))
  rw [e] at q
  exact q
end
/-- disk i in its list: the four cells -/
theorem OD.at {w : World} {base : Nat} {a : Option Addr} {n cap : Nat} {l : List DZ} {raw : List DV} (h : OD w base (.slice a n cap) l raw) (i : Nat) (hi : i < raw.length) (hi' : i < l.length) :
    ∃ g, a = some ⟨g, 0, none⟩ ∧ base ≤ g ∧ g < w.heap.size ∧ At w g (i * 4) (.int .i64 l[i].n) ∧ At w g (i * 4 + 1) (.bool l[i].dead) ∧ At w g (i * 4 + 2) raw[i].kv ∧ At w g (i * 4 + 3) raw[i].nv := by
  obtain ⟨g, h1, h2, h3, h4⟩ := Own.at h.own i hi
  have hr := h.is i hi hi'
  exact ⟨g, h1, h2, h3, by rw [← hr.n]; exact h4 0 _ rfl, by rw [← hr.dead]; exact h4 1 _ rfl, h4 2 _ rfl, h4 3 _ rfl⟩
section
variable {w w' : World} {base n cap g : Nat} {l : List DZ} {raw : List DV}
/-- disk i, as a pointer to it finds it -/
theorem OD.dat (h : OD w base (.slice (some ⟨g, 0, none⟩) n cap) l raw) (i : Nat) (hi : i < raw.length) (hi' : i < l.length) : DAt w g (i * 4) base l[i] raw[i].kv raw[i].nv := by
  obtain ⟨g', e, _, _, c0, c1, c2, c3⟩ := h.at i hi hi'
  cases e
  have hr := h.is i hi hi'
  exact ⟨c0, c1, c2, c3, hr.isD.1, hr.isD.2, h.self i hi, fun e => h.out i hi g (.inl e) rfl, fun e => h.out i hi g (.inr e) rfl⟩
theorem put_withM (d : DZ) (p v : Int) : d.put p v = d.withM (d.put p v).m := by unfold DZ.put; split <;> rfl
/-- a cell of disk i was written through a pointer -/
theorem OD.wrote {v : Value} (h : OD w base v l raw) (i : Nat) (hi : i < raw.length) (hi' : i < l.length) {p x : Int} {q b : Nat} (hd : DAt w' b q base (l[i].put p x) raw[i].kv raw[i].nv) (gr : w.grownBy w' raw[i].nv.ownBlock) :
    OD w' base v (l.set i (l[i].put p x)) raw := by
  have := h.setNow i hi hi' gr hd.ns
  rw [← put_withM] at this
  exact this
def DV.kept (r : DV) (a : Option Addr) (m c : Nat) : DV := ⟨r.n, r.dead, a, m, c, r.na, r.nm, r.nc⟩
/-- Kept of disk i is replaced by a new list -/
theorem OD.setKeptV (h : OD w base (.slice (some ⟨g, 0, none⟩) n cap) l raw) (i : Nat) (hi : i < raw.length) (hi' : i < l.length) {a : Option Addr} {m c : Nat} {x : List (Int × Int)} (hk : CS w base (.slice a m c) x)
    (hnew : ∀ k, (Value.slice a m c).ownBlock = some k → k ≠ g ∧ ∀ j (hj : j < raw.length), ¬ raw[j].has k) :
    OD (w.setCell ⟨g, i * 4 + 2, none⟩ (.slice a m c)) base (.slice (some ⟨g, 0, none⟩) n cap) (l.set i (l[i].withK x)) (raw.set i (raw[i].kept a m c)) := by
  have hg : ∀ k, k ≠ g → (w.setCell ⟨g, i * 4 + 2, none⟩ (.slice a m c)).heap[k]? = w.heap[k]? := fun k hk => Below.heap_setCell w _ _ k hk
  have hr := h.is i hi hi'
  have hne : ∀ j (hj : j < raw.length) k, raw[j].has k → k ≠ g := fun j hj k hk e => h.out j hj k hk (by rw [e]; rfl)
  refine h.upd i hi (raw[i].kept a m c) _ (Own.setAt h.own i 2 _ (raw[i].kept a m c) hi (by decide) (by simp [diskE, DV.kv, DV.nv, DV.kept]))
    ⟨hr.n, hr.dead, Own.same hk (fun k e => hg k (hnew k e).1), Own.same hr.isD.2 (fun k e => hg k (hne i hi k (.inr e)))⟩ ?_ ?_ (fun j hj k _ e => hg k (hne j hj k e))
  · show Apart (.slice a m c) raw[i].nv
    cases e : (Value.slice a m c).ownBlock with
    | none => exact .inl e
    | some k => exact .inr fun y => (hnew k e).2 i hi (.inr (by rw [← y, e]))
  · intro k hk
    rcases hk with hk | hk
    · exact ⟨fun e => (hnew k hk).1 (by cases e; rfl), fun j hj _ => (hnew k hk).2 j hj⟩
    · exact h.mine i hi k (.inr hk)
/-- disk i was flushed through a pointer -/
theorem OD.flushed {w1 : World} (h : OD w base (.slice (some ⟨g, 0, none⟩) n cap) l raw) (i : Nat) (hi : i < raw.length) (hi' : i < l.length) {a : Option Addr} {m c : Nat} (g1 : w.grownBy w1 none) (hk : CS w1 base (.slice a m c) l[i].m) (hnew : ∀ k, (Value.slice a m c).ownBlock = some k → w.heap.size ≤ k) :
    OD (w1.setCell ⟨g, i * 4 + 2, none⟩ (.slice a m c)) base (.slice (some ⟨g, 0, none⟩) n cap) (l.set i (l[i].withK l[i].m)) (raw.set i (raw[i].kept a m c)) := by
  have hgl := (h.own.lt g rfl).2
  refine (h.grew g1).setKeptV i hi hi' hk fun k e => ?_
  have := hnew k e
  exact ⟨by omega, fun j hj x => by have := (h.in j hj k x).2; omega⟩
theorem fall_n (d : DZ) (s : Int) : (d.fall s).n = d.n ∧ (d.fall s).dead = d.dead := ⟨rfl, rfl⟩
/-- disk i fell, through a pointer -/
theorem OD.fell {v : Value} (h : OD w base v l raw) (i : Nat) (hi : i < raw.length) (hi' : i < l.length) {d : DZ} {b q : Nat} (hn : d.n = l[i].n ∧ d.dead = l[i].dead) (hd : DAt w' b q base d raw[i].kv raw[i].nv) (o : Only (Two2 raw[i].kv raw[i].nv) w w') :
    OD w' base v (l.set i d) raw := by
  have hr := h.is i hi hi'
  have hm := h.mine i hi
  have e : raw.set i raw[i] = raw := List.set_getElem_self hi
  have q := h.upd (w' := w') i hi raw[i] d (by
    rw [e]
    exact Own.same h.own (fun k hk => o.block k (h.own.lt k hk).2 (fun y => (hm k y).1 hk))) ⟨hr.n.trans hn.1.symm, hr.dead.trans hn.2.symm, hd.ks, hd.ns⟩ (h.self i hi) (fun k hk => hm k hk) (fun j hj k hji hk => o.block k (h.in j hj k hk).2 (fun y => (hm k y).2 j hj hji hk))
  rw [e] at q
  exact q
end
section
variable {w w' : World} {base : Nat} {v v' : Value} {l : List DZ} {raw : List DV}
/-- a disk whose memory is new is appended -/
theorem OD.app (h : OD w base v l raw) (r : DV) (p : DZ) (hr : r.Is w base p) (hs : Apart r.kv r.nv) (hnew : ∀ k, r.has k → (∀ i (hi : i < raw.length), ¬ raw[i].has k) ∧ v.ownBlock ≠ some k)
    (g : w.grownBy w' v.ownBlock) (ho : Own diskE w' base v' (raw ++ [r])) (hat : v'.ownBlock = v.ownBlock ∨ v'.ownBlock = some w.heap.size) : OD w' base v' (l ++ [p]) (raw ++ [r]) := by
  have hall : ∀ i (hi : i < (raw ++ [r]).length) k, (raw ++ [r])[i].has k → v.ownBlock ≠ some k ∧ k < w.heap.size := fun i hi k hk => by
    by_cases hi' : i < raw.length
    · rw [List.getElem_append_left hi'] at hk
      exact ⟨h.out i hi' k hk, (h.in i hi' k hk).2⟩
    · have e : i = raw.length := by simp at hi; omega
      subst e
      simp at hk
      refine ⟨(hnew k hk).2, ?_⟩
      rcases hk with hk | hk
      · exact (hr.isD.1.lt k hk).2
      · exact (hr.isD.2.lt k hk).2
  have keep : ∀ (q : DV) (z : DZ), (∀ k, q.has k → v.ownBlock ≠ some k) → q.Is w base z → q.Is w' base z := fun q z hq hz =>
    ⟨hz.n, hz.dead, Own.kept hz.isD.1 g (by
      cases e : q.kv.ownBlock with
      | none => exact .inl rfl
      | some k => exact .inr fun x => hq k (.inl e) x.symm), Own.kept hz.isD.2 g (by
      cases e : q.nv.ownBlock with
      | none => exact .inl rfl
      | some k => exact .inr fun x => hq k (.inr e) x.symm)⟩
  refine ⟨ho, by simp [h.len], fun i hi hi' => ?_, fun i hi => ?_, fun i j hi hj k hki hkj => ?_, fun i hi k hk => ?_⟩
  · by_cases hlt : i < raw.length
    · have hl : i < l.length := by rw [← h.len]; exact hlt
      rw [List.getElem_append_left hlt, List.getElem_append_left hl]
      exact keep _ _ (fun k hk => h.out i hlt k hk) (h.is i hlt hl)
    · have e : i = raw.length := by simp at hi; omega
      subst e
      have : raw.length = l.length := h.len
      simp only [List.getElem_concat_length]
      have e2 : (l ++ [p])[raw.length] = p := by simp [this]
      rw [e2]
      exact keep _ _ (fun k hk => (hnew k hk).2) hr
  · by_cases hlt : i < raw.length
    · rw [List.getElem_append_left hlt]; exact h.self i hlt
    · have e : i = raw.length := by simp at hi; omega
      subst e
      simpa using hs
  · by_cases h1 : i < raw.length <;> by_cases h2 : j < raw.length
    · rw [List.getElem_append_left h1] at hki
      rw [List.getElem_append_left h2] at hkj
      exact h.ap i j h1 h2 k hki hkj
    · have e : j = raw.length := by simp at hj; omega
      subst e
      rw [List.getElem_append_left h1] at hki
      simp at hkj
      exact absurd hki ((hnew k hkj).1 i h1)
    · have e : i = raw.length := by simp at hi; omega
      subst e
      rw [List.getElem_append_left h2] at hkj
      simp at hki
      exact absurd hkj ((hnew k hki).1 j h2)
    · simp at hi hj; omega
  · obtain ⟨q1, q2⟩ := hall i hi k hk
    rcases hat with e | e
    · rw [e]; exact q1
    · rw [e]; intro x; cases x; omega
/-- a new list of disks -/
def GotL (l : List DZ) (w : World) (e : Ending) (w' : World) : Prop := ∃ v raw, e = .returned v ∧ OD w' w.heap.size v l raw ∧ w.grownBy w' none
theorem OD.empty (w : World) : OD (w.alloc (.cells #[] 37)) w.heap.size (.slice (some ⟨w.heap.size, 0, none⟩) 0 0) [] [] :=
  ⟨Own.fresh diskE w [] _ rfl (by simp) (Nat.le_refl _), rfl, fun i h => by simp at h, fun i h => by simp at h, fun i j h => by simp at h, fun i h => by simp at h⟩
theorem OD.nil (w : World) (base : Nat) : OD w base (.slice none 0 0) [] [] :=
  ⟨Own.nil _ _ _, rfl, fun i h => by simp at h, fun i h => by simp at h, fun i j h => by simp at h, fun i h => by simp at h⟩
theorem DV.single (w : World) (r : DV) : Own diskE (w.alloc (.cells #[.int .i64 r.n, .bool r.dead, r.kv, r.nv] 37)) 0 (.slice (some ⟨w.heap.size, 0, none⟩) 1 1) [r] :=
  Own.fresh diskE w [r] _ rfl (by simp) (Nat.zero_le _)
end
end Go.Proofs.YteialkknddpbjaaGreatDoor
namespace Go.Proofs.YteialkknddpbjaaGreatDoor
open Go.ChangeShapes Go.WideShapes Go.ChangeAt Go.RowKit

def set4At (w : World) (g o : Nat) (x0 x1 x2 x3 : Value) : World := (((w.setCell ⟨g, o, none⟩ x0).setCell ⟨g, o + 1, none⟩ x1).setCell ⟨g, o + 2, none⟩ x2).setCell ⟨g, o + 3, none⟩ x3
theorem gset4At {a w : World} {g o : Nat} (h : a.grownBy w (some g)) (x0 x1 x2 x3 : Value) : a.grownBy (set4At w g o x0 x1 x2 x3) (some g) := gset (gset (gset (gset h _ _) _ _) _ _) _ _
theorem set4At_block (w : World) (g o k : Nat) (x0 x1 x2 x3 : Value) (h : k ≠ g) : (set4At w g o x0 x1 x2 x3).heap[k]? = w.heap[k]? := by
  unfold set4At
  rw [Below.heap_setCell _ _ _ k h, Below.heap_setCell _ _ _ k h, Below.heap_setCell _ _ _ k h, Below.heap_setCell _ _ _ k h]
section
variable {w w1 : World} {base n cap g : Nat} {l : List DZ} {raw : List DV}
theorem own_set4 (h : Own diskE w base (.slice (some ⟨g, 0, none⟩) n cap) raw) (i : Nat) (hi : i < raw.length) (r : DV) :
    Own diskE (set4At w g (i * 4) (.int .i64 r.n) (.bool r.dead) r.kv r.nv) base (.slice (some ⟨g, 0, none⟩) n cap) (raw.set i r) := by
  have h1 := Own.setAt h i 0 (.int .i64 r.n) (raw[i].num r.n) hi (by decide) rfl
  have hi1 : i < (raw.set i (raw[i].num r.n)).length := by simpa using hi
  have h2 := Own.setAt h1 i 1 (.bool r.dead) ((raw[i].num r.n).lives r.dead) hi1 (by decide) (by simp [diskE, DV.kv, DV.nv, DV.lives, DV.num])
  rw [List.set_set] at h2
  have hi2 : i < (raw.set i ((raw[i].num r.n).lives r.dead)).length := by simpa using hi
  have h3 := Own.setAt h2 i 2 r.kv (((raw[i].num r.n).lives r.dead).kept r.ka r.km r.kc) hi2 (by decide) (by simp [diskE, DV.kv, DV.nv, DV.lives, DV.num, DV.kept])
  rw [List.set_set] at h3
  have hi3 : i < (raw.set i (((raw[i].num r.n).lives r.dead).kept r.ka r.km r.kc)).length := by simpa using hi
  have h4 := Own.setAt h3 i 3 r.nv r hi3 (by decide) (by simp [diskE, DV.kv, DV.nv, DV.lives, DV.num, DV.kept])
  rw [List.set_set] at h4
  exact h4
/-- disk i is replaced by a disk of new memory -/
theorem OD.replaced (h : OD w base (.slice (some ⟨g, 0, none⟩) n cap) l raw) (i : Nat) (hi : i < raw.length) (r : DV) (d : DZ) (g1 : w.grownBy w1 none) (hd : r.Is w1 base d) (hs : Apart r.kv r.nv) (hnew : ∀ k, r.has k → w.heap.size ≤ k) :
    OD (set4At w1 g (i * 4) (.int .i64 r.n) (.bool r.dead) r.kv r.nv) base (.slice (some ⟨g, 0, none⟩) n cap) (l.set i d) (raw.set i r) := by
  have hgl := (h.own.lt g rfl).2
  have hr0 : ∀ k, r.has k → k ≠ g := fun k hk e => by have := hnew k hk; omega
  refine (h.grew g1).upd i hi r d (own_set4 (h.grew g1).own i hi r) ⟨hd.n, hd.dead, Own.same hd.isD.1 (fun k e => set4At_block _ _ _ k _ _ _ _ (hr0 k (.inl e))), Own.same hd.isD.2 (fun k e => set4At_block _ _ _ k _ _ _ _ (hr0 k (.inr e)))⟩ hs
    (fun k hk => ⟨fun e => hr0 k hk (by cases e; rfl), fun j hj _ x => by have := (h.in j hj k x).2; have := hnew k hk; omega⟩)
    (fun j hj k _ x => set4At_block _ _ _ k _ _ _ _ (fun e => h.out j hj k x (by rw [e]; rfl)))
end
end Go.Proofs.YteialkknddpbjaaGreatDoor
namespace Go.Proofs.YteialkknddpbjaaGreatDoor
open Go.ChangeShapes Go.WideShapes Go.ChangeAt Go.RowKit

set_option maxHeartbeats 1000000 in
theorem l6Copy_any (v : Value) (l : List DZ) (w : World) (h : LD w v l) (hl : l.length ≤ 1000) (hd : ∀ i (h : i < l.length), l[i].k.length ≤ 1000 ∧ l[i].m.length ≤ 1000) :
    Calls Tryz.prog 145 #[v] w (GotL l w) := by
  obtain ⟨a, cap, rfl, hm⟩ := h.form
  have C0 := OD.empty w
  have g0 := galloc (grefl w) (.cells #[] 37)
  have HDs : Hid (∀ i (h : i < l.length), l[i].k.length ≤ 1000 ∧ l[i].m.length ≤ 1000) := hd
  clear hd
  go_enter Tryz.func145, Tryz.ntmps145
  go_wp2
  go_loopw [3, 4] (fun out i wr => ∃ (k : Nat) (raw : List DV), k ≤ l.length ∧ i = .int .i64 k ∧ OD wr w.heap.size out (l.take k) raw ∧ w.grownBy wr none) (fun _ i _ => l.length - (intOf i).toNat)
  case atStart => exact ⟨0, [], Nat.zero_le _, rfl, C0, g0⟩
  case round =>
    clear C0 g0
    obtain ⟨k, raw, hk, rfl, C, G⟩ := hrel
    obtain ⟨oa, om, oc, rfl⟩ := C.own.sl
    by_cases hlt : k < l.length
    · have hki : (k : Int) < l.length := by omega
      obtain ⟨g, o, ka, km, kc, na, nm, nc, rfl, x0, x1, x2, x3, D⟩ := (h.kept G).at k hlt
      have hb := HDs.out k hlt
      have HT : Hid (l.take (k + 1) = l.take k ++ [l[k]]) := List.take_succ_eq_append_getElem hlt
      go_wp2_with fail
      go_fit (l3Copy_any _ _ l[k] _ D hb.1 hb.2)
      rintro e w2 ⟨kv, nv, rfl, I2, ap, g2⟩
      obtain ⟨ka', km', kc', rfl⟩ := I2.1.sl
      obtain ⟨na', nm', nc', rfl⟩ := I2.2.sl
      have C2 := C.grew g2
      have G2 := gtrans G g2
      have hs2 := G2.size
      have hsw := G.size
      have HNew : Hid (∀ q, DV.has ⟨l[k].n, l[k].dead, ka', km', kc', na', nm', nc'⟩ q → (∀ i (hi : i < raw.length), ¬ raw[i].has q) ∧ (Value.slice oa om oc).ownBlock ≠ some q) := fun q hq => by
        have h1 : wr.heap.size ≤ q := by
          rcases hq with hq | hq
          · exact (I2.1.lt q hq).1
          · exact (I2.2.lt q hq).1
        exact ⟨fun i hi x => by have := (C.in i hi q x).2; omega, fun x => by have := (C.own.lt q x).2; omega⟩
      have hI : DV.Is w2 w.heap.size ⟨l[k].n, l[k].dead, ka', km', kc', na', nm', nc'⟩ l[k] := ⟨rfl, rfl, I2.1.lower hsw, I2.2.lower hsw⟩
      have hrl : raw.length ≤ 1000 := by have := C.len; simp at this; omega
      go_wp2_with (first | (at_builtin; refine wpList_append_o (E := diskE) (base := w.heap.size) rfl (.tmp 12) (.tmp 18) rfl rfl rfl (Own.grew C2.own (galloc (grefl _) _)) (DV.single _ ⟨l[k].n, l[k].dead, ka', km', kc', na', nm', nc'⟩) (by simp; omega) (by decide) (by simp; omega) ?_; intro v' w6 o6 g6 b6; have C6 := OD.app (C2.grew (galloc (grefl _) _)) _ l[k] (hI.grew (galloc (grefl _) _)) ap HNew.out g6 o6 b6; have G6 := gnew (galloc G2 _) g6 (fun j e => (C2.own.lt j e).1); rw [← HT.out] at C6; clear g6 b6 o6))
      go_roundw
      case rel => exact ⟨k + 1, _, by omega, by go_num, C6, G6⟩
      case measure => simp [intOf]; omega
    · obtain rfl : k = l.length := by omega
      rw [List.take_length] at C
      go_wp2_with fail
      go_ret
      exact ⟨_, raw, rfl, C, G⟩
end Go.Proofs.YteialkknddpbjaaGreatDoor
