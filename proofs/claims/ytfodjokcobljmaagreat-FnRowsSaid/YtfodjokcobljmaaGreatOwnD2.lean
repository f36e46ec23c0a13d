/- Lists of disks in memory: read. Lists of disks that own all their memory. -/
import Derived.Test.YtfodjokcobljmaaGreatBaseL06
import Derived.Test.YtfodjokcobljmaaGreatMemB
import Derived.Test.YtfodjokcobljmaaGreatOwnS
namespace Go.Proofs.YtfodjokcobljmaaGreat
open Go.ChangeShapes Go.WideShapes Go.ChangeAt Go.RowKit

/-- a disk as it lies in memory -/
structure DV where
  n : Int
  dead : Bool
  ka : Option Addr
  km : Nat
  kc : Nat
  na : Option Addr
  nm : Nat
  nc : Nat
def DV.kv (r : DV) : Value := .slice r.ka r.km r.kc
def DV.nv (r : DV) : Value := .slice r.na r.nm r.nc
def diskE : Elt DV where
  T := 41
  S := 24
  size := 4
  bytes := 64
  z := .agg #[.int .i64 0, .bool false, .slice none 0 0, .slice none 0 0]
  enc := fun r => [.int .i64 r.n, .bool r.dead, r.kv, r.nv]
  len := fun _ => rfl
  one := fun x u hu => by simp at hu; rcases hu with rfl | rfl | rfl | rfl <;> rfl
  pos := by omega
  und := Tryz.underlying24
  info := by kernel_rfl
  zs := rfl
/-- what lies there is the disk d -/
structure DV.Is (w : World) (base : Nat) (r : DV) (d : DZ) : Prop where
  n : r.n = d.n
  dead : r.dead = d.dead
  isD : IsD w base r.kv r.nv d
/-- v is a slice whose disks l can be read -/
def LD (w : World) (v : Value) (l : List DZ) : Prop := ∃ raw : List DV, Rd diskE w v raw ∧ raw.length = l.length ∧ ∀ i (h : i < l.length) (h' : i < raw.length), (raw[i]).Is w 0 l[i]
section
variable {w w' : World} {v : Value} {l : List DZ}
theorem DV.Is.grew {base : Nat} {r : DV} {d : DZ} (h : r.Is w base d) (g : w.grownBy w' none) : r.Is w' base d := ⟨h.n, h.dead, h.isD.grew g⟩
theorem LD.kept (h : LD w v l) (g : w.grownBy w' none) : LD w' v l := by
  obtain ⟨raw, h1, h2, h3⟩ := h
  exact ⟨raw, h1.kept g, h2, fun i a b => (h3 i a b).grew g⟩
theorem LD.form (h : LD w v l) : ∃ a cap, v = .slice a l.length cap ∧ l.length ≤ 9223372036854775807 := by
  obtain ⟨raw, ⟨a, cap, h1, h2, h3, _⟩, h5, _⟩ := h
  exact ⟨a, cap, by rw [h1, h5], by omega⟩
theorem diskE_all (r : List DV) (i : Nat) (hi : i < r.length) (j : Nat) (hj : j < 4) : (diskE.all r)[i * 4 + j]? = (diskE.enc r[i])[j]? := diskE.all_get r i j hi hj
/-- disk i, its four cells -/
theorem LD.at {a : Option Addr} {n cap : Nat} (h : LD w (.slice a n cap) l) (i : Nat) (hi : i < l.length) :
    ∃ g o ka km kc na nm nc, a = some ⟨g, o, none⟩ ∧ w.cell? ⟨g, o + i * 4, none⟩ = some (.int .i64 l[i].n) ∧ w.cell? ⟨g, o + i * 4 + 1, none⟩ = some (.bool l[i].dead) ∧ w.cell? ⟨g, o + i * 4 + 2, none⟩ = some (.slice ka km kc) ∧ w.cell? ⟨g, o + i * 4 + 3, none⟩ = some (.slice na nm nc) ∧ IsD w 0 (.slice ka km kc) (.slice na nm nc) l[i] := by
  obtain ⟨raw, ⟨a', cap', h1, _, _, h4⟩, h5, h6⟩ := h
  have hi' : i < raw.length := by omega
  have hr := h6 i hi hi'
  rcases h4 with h4 | ⟨g, o, h4, _, h7⟩
  · rw [h4] at hi'; simp at hi'
  · cases h1
    have q : ∀ j u, j < 4 → (diskE.enc raw[i])[j]? = some u → w.cell? ⟨g, o + i * 4 + j, none⟩ = some u := fun j u hj hu => by
      rw [Nat.add_assoc]; exact h7 _ u (by rw [diskE_all raw i hi' j hj]; exact hu)
    refine ⟨g, o, raw[i].ka, raw[i].km, raw[i].kc, raw[i].na, raw[i].nm, raw[i].nc, h4, ?_, ?_, q 2 _ (by omega) rfl, q 3 _ (by omega) rfl, hr.isD⟩
    · rw [← hr.n]; exact q 0 _ (by omega) rfl
    · rw [← hr.dead]; exact q 1 _ (by omega) rfl
end
end Go.Proofs.YtfodjokcobljmaaGreat
namespace Go.Proofs.YtfodjokcobljmaaGreat
open Go.ChangeShapes Go.WideShapes Go.ChangeAt Go.RowKit

/-- four cells side by side are written -/
def set4o (w : World) (g o : Nat) (x0 x1 x2 x3 : Value) : World := (((w.setCell ⟨g, o, none⟩ x0).setCell ⟨g, o + 1, none⟩ x1).setCell ⟨g, o + 2, none⟩ x2).setCell ⟨g, o + 3, none⟩ x3
theorem gset4w (w : World) (g o : Nat) (x0 x1 x2 x3 : Value) : w.grownBy (set4o w g o x0 x1 x2 x3) (some g) := gset (gset (gset (gset (World.grownBy.refl w _) _ _) _ _) _ _) _ _
theorem Own.put {w : World} {base n cap g : Nat} {l : List DV} (h : Own diskE w base (.slice (some ⟨g, 0, none⟩) n cap) l) (i : Nat) (hi : i < l.length) (r : DV) :
    Own diskE (set4o w g (i * 4) (.int .i64 r.n) (.bool r.dead) r.kv r.nv) base (.slice (some ⟨g, 0, none⟩) n cap) (l.set i r) := by
  have h1 := Own.setAt h i 0 (.int .i64 r.n) { l[i] with n := r.n } hi (by decide) rfl
  have h2 := Own.setAt h1 i 1 (.bool r.dead) { l[i] with n := r.n, dead := r.dead } (by simpa using hi) (by decide) (by simp [diskE, DV.kv, DV.nv])
  have h3 := Own.setAt h2 i 2 r.kv { r with na := l[i].na, nm := l[i].nm, nc := l[i].nc } (by simpa using hi) (by decide) (by simp [diskE, DV.kv, DV.nv])
  have h4 := Own.setAt h3 i 3 r.nv r (by simpa using hi) (by decide) (by simp [diskE, DV.kv, DV.nv])
  simp only [List.set_set] at h4
  exact h4
/-- block k is one of the disk's -/
def DV.has (r : DV) (k : Nat) : Prop := r.kv.ownBlock = some k ∨ r.nv.ownBlock = some k
/-- v is a slice that owns the disks l and all their memory; raw: as they lie there -/
structure OD (w : World) (base : Nat) (v : Value) (l : List DZ) (raw : List DV) : Prop where
  own : Own diskE w base v raw
  len : raw.length = l.length
  is : ∀ i (h : i < raw.length) (h' : i < l.length), raw[i].Is w base l[i]
  self : ∀ i (h : i < raw.length), Apart raw[i].kv raw[i].nv
  ap : ∀ i j (hi : i < raw.length) (hj : j < raw.length) k, raw[i].has k → raw[j].has k → i = j
  out : ∀ i (h : i < raw.length) k, raw[i].has k → v.ownBlock ≠ some k
section
variable {w w' : World} {base : Nat} {v : Value} {l : List DZ} {raw : List DV}
theorem OD.ld (h : OD w base v l raw) : LD w v l := ⟨raw, h.own.rd, h.len, fun i a b => ⟨(h.is i b a).n, (h.is i b a).dead, ⟨(h.is i b a).isD.1.lower (Nat.zero_le _), (h.is i b a).isD.2.lower (Nat.zero_le _)⟩⟩⟩
theorem OD.grew (h : OD w base v l raw) (g : w.grownBy w' none) : OD w' base v l raw := ⟨h.own.grew g, h.len, fun i a b => (h.is i a b).grew g, h.self, h.ap, h.out⟩
theorem OD.lower {base' : Nat} (h : OD w base v l raw) (hb : base' ≤ base) : OD w base' v l raw := ⟨h.own.lower hb, h.len, fun i a b => ⟨(h.is i a b).n, (h.is i a b).dead, ⟨(h.is i a b).isD.1.lower hb, (h.is i a b).isD.2.lower hb⟩⟩, h.self, h.ap, h.out⟩
theorem OD.in (h : OD w base v l raw) (i : Nat) (hi : i < raw.length) (k : Nat) (hk : raw[i].has k) : base ≤ k ∧ k < w.heap.size := by
  have hl := h.len
  have := h.is i hi (by omega)
  rcases hk with hk | hk
  · exact this.isD.1.lt k hk
  · exact this.isD.2.lt k hk
theorem OD.form (h : OD w base v l raw) : ∃ a cap, v = .slice a l.length cap ∧ l.length ≤ 9223372036854775807 := h.ld.form
/-- a world in which only blocks that are not the list's have changed -/
theorem OD.kept {r : Option Nat} (h : OD w base v l raw) (g : w.grownBy w' r) (hv : v.ownBlock = none ∨ v.ownBlock ≠ r) (hr : ∀ i (hi : i < raw.length) k, raw[i].has k → r ≠ some k) : OD w' base v l raw := by
  refine ⟨h.own.kept g hv, h.len, fun i a b => ⟨(h.is i a b).n, (h.is i a b).dead, ⟨(h.is i a b).isD.1.kept g ?_, (h.is i a b).isD.2.kept g ?_⟩⟩, h.self, h.ap, h.out⟩
  · cases e : raw[i].kv.ownBlock with
    | none => exact .inl rfl
    | some k => exact .inr fun x => hr i a k (.inl e) x.symm
  · cases e : raw[i].nv.ownBlock with
    | none => exact .inl rfl
    | some k => exact .inr fun x => hr i a k (.inr e) x.symm
/-- disk i is replaced, its memory is new or was its own -/
theorem OD.put {n cap g : Nat} (h : OD w base (.slice (some ⟨g, 0, none⟩) n cap) l raw) (i : Nat) (hi : i < raw.length) (r : DV) (d : DZ)
    (hd : r.Is w base d) (hs : Apart r.kv r.nv) (hb : ∀ k, r.has k → k ≠ g ∧ ∀ j (hj : j < raw.length), j ≠ i → ¬ raw[j].has k) :
    OD (set4o w g (i * 4) (.int .i64 r.n) (.bool r.dead) r.kv r.nv) base (.slice (some ⟨g, 0, none⟩) n cap) (l.set i d) (raw.set i r) := by
  have hg := gset4w w g (i * 4) (.int .i64 r.n) (.bool r.dead) r.kv r.nv
  have hkeep : ∀ (q : DV) (x : DZ), (∀ k, q.has k → k ≠ g) → q.Is w base x → q.Is (set4o w g (i * 4) (.int .i64 r.n) (.bool r.dead) r.kv r.nv) base x := fun q x hq hx =>
    ⟨hx.n, hx.dead, ⟨hx.isD.1.kept hg (by
      cases e : q.kv.ownBlock with
      | none => exact .inl rfl
      | some k => exact .inr fun y => hq k (.inl e) (by cases y; rfl)), hx.isD.2.kept hg (by
      cases e : q.nv.ownBlock with
      | none => exact .inl rfl
      | some k => exact .inr fun y => hq k (.inr e) (by cases y; rfl))⟩⟩
  refine ⟨h.own.put i hi r, by simp [h.len], fun j hj hj' => ?_, fun j hj => ?_, fun a b ha hb' k hka hkb => ?_, fun j hj k hk => ?_⟩
  · simp only [List.length_set] at hj hj'
    by_cases e : i = j
    · subst e; simp only [List.getElem_set_self]; exact hkeep r d (fun k hk => (hb k hk).1) hd
    · simp only [List.getElem_set_ne e]
      exact hkeep _ _ (fun k hk x => h.out j hj k hk (by rw [x]; rfl)) (h.is j hj hj')
  · simp only [List.length_set] at hj
    by_cases e : i = j
    · subst e; simp only [List.getElem_set_self]; exact hs
    · simp only [List.getElem_set_ne e]; exact h.self j hj
  · simp only [List.length_set] at ha hb'
    by_cases e1 : i = a
    · by_cases e2 : i = b
      · omega
      · subst e1
        simp only [List.getElem_set_self, List.getElem_set_ne e2] at hka hkb
        exact absurd hkb ((hb k hka).2 b hb' (fun x => e2 x.symm))
    · by_cases e2 : i = b
      · subst e2
        simp only [List.getElem_set_self, List.getElem_set_ne e1] at hka hkb
        exact absurd hka ((hb k hkb).2 a ha (fun x => e1 x.symm))
      · simp only [List.getElem_set_ne e1, List.getElem_set_ne e2] at hka hkb
        exact h.ap a b ha hb' k hka hkb
  · simp only [List.length_set] at hj
    by_cases e : i = j
    · subst e
      simp only [List.getElem_set_self] at hk
      intro x; cases x; exact (hb _ hk).1 rfl
    · simp only [List.getElem_set_ne e] at hk
      exact h.out j hj k hk
end
end Go.Proofs.YtfodjokcobljmaaGreat
