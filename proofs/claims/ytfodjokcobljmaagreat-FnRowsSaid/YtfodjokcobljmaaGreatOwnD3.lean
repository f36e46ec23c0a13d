/- Lists of disks that own all their memory: one of them is changed, one is appended. -/
import Derived.Test.YtfodjokcobljmaaGreatOwnD2
import Derived.Test.YtfodjokcobljmaaGreatSpecL03h
namespace Go.Proofs.YtfodjokcobljmaaGreat
open Go.ChangeShapes Go.WideShapes Go.ChangeAt Go.RowKit

def DZ.num (d : DZ) (x : Int) : DZ := ⟨x, d.dead, d.k, d.m⟩
def DZ.lives (d : DZ) (x : Bool) : DZ := ⟨d.n, x, d.k, d.m⟩
def DZ.withK (d : DZ) (x : List (Int × Int)) : DZ := ⟨d.n, d.dead, x, d.m⟩
def DZ.withM (d : DZ) (x : List (Int × Int)) : DZ := ⟨d.n, d.dead, d.k, x⟩
def DV.num (r : DV) (x : Int) : DV := ⟨x, r.dead, r.ka, r.km, r.kc, r.na, r.nm, r.nc⟩
def DV.lives (r : DV) (x : Bool) : DV := ⟨r.n, x, r.ka, r.km, r.kc, r.na, r.nm, r.nc⟩
/-- disk i of a list is changed -/
theorem OD.upd {w w' : World} {base : Nat} {v : Value} {l : List DZ} {raw : List DV} (h : OD w base v l raw) (i : Nat) (_ : i < raw.length) (r : DV) (d : DZ)
    (hown : Own diskE w' base v (raw.set i r)) (hd : r.Is w' base d) (hs : Apart r.kv r.nv) (hb : ∀ k, r.has k → v.ownBlock ≠ some k ∧ ∀ j (hj : j < raw.length), j ≠ i → ¬ raw[j].has k)
    (hw : ∀ j (hj : j < raw.length) k, j ≠ i → raw[j].has k → w'.heap[k]? = w.heap[k]?) : OD w' base v (l.set i d) (raw.set i r) := by
  refine ⟨hown, by simp [h.len], fun j hj hj' => ?_, fun j hj => ?_, fun a b ha hb' k hka hkb => ?_, fun j hj k hk => ?_⟩
  · simp only [List.length_set] at hj hj'
    by_cases e : i = j
    · subst e; simp only [List.getElem_set_self]; exact hd
    · simp only [List.getElem_set_ne e]
      have hj0 := h.is j hj hj'
      exact ⟨hj0.n, hj0.dead, Own.same hj0.isD.1 (fun k hk => hw j hj k (fun x => e x.symm) (.inl hk)), Own.same hj0.isD.2 (fun k hk => hw j hj k (fun x => e x.symm) (.inr hk))⟩
  · simp only [List.length_set] at hj
    by_cases e : i = j
    · subst e; simp only [List.getElem_set_self]; exact hs
    · simp only [List.getElem_set_ne e]; exact h.self j hj
  · simp only [List.length_set] at ha hb'
    by_cases e1 : i = a
    · by_cases e2 : i = b
      · omega
      · subst e1
        simp only [List.getElem_set_self, List.getElem_set_ne e2] at hka hkb
        exact absurd hkb ((hb k hka).2 b hb' (fun x => e2 x.symm))
    · by_cases e2 : i = b
      · subst e2
        simp only [List.getElem_set_self, List.getElem_set_ne e1] at hka hkb
        exact absurd hka ((hb k hkb).2 a ha (fun x => e1 x.symm))
      · simp only [List.getElem_set_ne e1, List.getElem_set_ne e2] at hka hkb
        exact h.ap a b ha hb' k hka hkb
  · simp only [List.length_set] at hj
    by_cases e : i = j
    · subst e
      simp only [List.getElem_set_self] at hk
      exact (hb _ hk).1
    · simp only [List.getElem_set_ne e] at hk
      exact h.out j hj k hk
section
variable {w w' : World} {base n cap g : Nat} {l : List DZ} {raw : List DV}
/-- its blocks are its own -/
theorem OD.mine {v : Value} (h : OD w base v l raw) (i : Nat) (hi : i < raw.length) (k : Nat) (hk : raw[i].has k) : v.ownBlock ≠ some k ∧ ∀ j (hj : j < raw.length), j ≠ i → ¬ raw[j].has k :=
  ⟨h.out i hi k hk, fun j hj e x => e (h.ap j i hj hi k x hk)⟩
/-- the Number of disk i is written -/
theorem OD.setNum (h : OD w base (.slice (some ⟨g, 0, none⟩) n cap) l raw) (i : Nat) (hi : i < raw.length) (hi' : i < l.length) (x : Int) :
    OD (w.setCell ⟨g, i * 4, none⟩ (.int .i64 x)) base (.slice (some ⟨g, 0, none⟩) n cap) (l.set i (l[i].num x)) (raw.set i (raw[i].num x)) := by
  have hg : ∀ j (hj : j < raw.length) k, raw[j].has k → (w.setCell ⟨g, i * 4, none⟩ (.int .i64 x)).heap[k]? = w.heap[k]? := fun j hj k hk => Below.heap_setCell w _ _ k (fun e => h.out j hj k hk (by rw [e]; rfl))
  have hr := h.is i hi hi'
  exact h.upd i hi (raw[i].num x) _ (Own.setAt h.own i 0 _ (raw[i].num x) hi (by decide) rfl) ⟨rfl, hr.dead, Own.same hr.isD.1 (fun k hk => hg i hi k (.inl hk)), Own.same hr.isD.2 (fun k hk => hg i hi k (.inr hk))⟩ (h.self i hi) (fun k hk => h.mine i hi k hk) (fun j hj k _ hk => hg j hj k hk)
/-- Dead of disk i is written -/
theorem OD.setDead (h : OD w base (.slice (some ⟨g, 0, none⟩) n cap) l raw) (i : Nat) (hi : i < raw.length) (hi' : i < l.length) (x : Bool) :
    OD (w.setCell ⟨g, i * 4 + 1, none⟩ (.bool x)) base (.slice (some ⟨g, 0, none⟩) n cap) (l.set i (l[i].lives x)) (raw.set i (raw[i].lives x)) := by
  have hg : ∀ j (hj : j < raw.length) k, raw[j].has k → (w.setCell ⟨g, i * 4 + 1, none⟩ (.bool x)).heap[k]? = w.heap[k]? := fun j hj k hk => Below.heap_setCell w _ _ k (fun e => h.out j hj k hk (by rw [e]; rfl))
  have hr := h.is i hi hi'
  exact h.upd i hi (raw[i].lives x) _ (Own.setAt h.own i 1 _ (raw[i].lives x) hi (by decide) (by simp [diskE, DV.kv, DV.nv, DV.lives])) ⟨hr.n, rfl, Own.same hr.isD.1 (fun k hk => hg i hi k (.inl hk)), Own.same hr.isD.2 (fun k hk => hg i hi k (.inr hk))⟩ (h.self i hi) (fun k hk => h.mine i hi k hk) (fun j hj k _ hk => hg j hj k hk)
theorem same_of {r : Option Nat} (g : w.grownBy w' r) (k : Nat) (hk : k < w.heap.size) (hr : r ≠ some k) : w'.heap[k]? = w.heap[k]? := g.block k hk (fun e => hr e.symm)
/-- the cells of Kept of disk i are written -/
theorem OD.setKept {v : Value} {x : List (Int × Int)} (h : OD w base v l raw) (i : Nat) (hi : i < raw.length) (hi' : i < l.length) (gr : w.grownBy w' raw[i].kv.ownBlock) (hc : CS w' base raw[i].kv x) :
    OD w' base v (l.set i (l[i].withK x)) raw := by
  have hr := h.is i hi hi'
  have hm := h.mine i hi
  have hlt : ∀ k, v.ownBlock = some k → k < w.heap.size := fun k hk => (h.own.lt k hk).2
  have e : raw.set i raw[i] = raw := List.set_getElem_self hi
  have q := h.upd (w' := w') i hi raw[i] (l[i].withK x) (by
    rw [e]
    exact Own.same h.own (fun k hk => same_of gr k (hlt k hk) (fun y => (hm k (.inl y)).1 hk))) ⟨hr.n, hr.dead, hc, Own.same hr.isD.2 (fun k hk => same_of gr k (hr.isD.2.lt k hk).2 (fun y => by rcases h.self i hi with z | z; rw [z] at y; cases y; exact z (by rw [y, hk])))⟩ (h.self i hi) (fun k hk => hm k hk) (fun j hj k hji hk => same_of gr k (h.in j hj k hk).2 (fun y => (hm k (.inl y)).2 j hj hji hk))
  rw [e] at q
  exact q
/-- the cells of Now of disk i are written -/
theorem OD.setNow {v : Value} {x : List (Int × Int)} (h : OD w base v l raw) (i : Nat) (hi : i < raw.length) (hi' : i < l.length) (gr : w.grownBy w' raw[i].nv.ownBlock) (hc : CS w' base raw[i].nv x) :
    OD w' base v (l.set i (l[i].withM x)) raw := by
  have hr := h.is i hi hi'
  have hm := h.mine i hi
  have hlt : ∀ k, v.ownBlock = some k → k < w.heap.size := fun k hk => (h.own.lt k hk).2
  have e : raw.set i raw[i] = raw := List.set_getElem_self hi
  have q := h.upd (w' := w') i hi raw[i] (l[i].withM x) (by
    rw [e]
    exact Own.same h.own (fun k hk => same_of gr k (hlt k hk) (fun y => (hm k (.inr y)).1 hk))) ⟨hr.n, hr.dead, Own.same hr.isD.1 (fun k hk => same_of gr k (hr.isD.1.lt k hk).2 (fun y => by rcases h.self i hi with z | z; rw [z] at hk; cases hk; exact z (by rw [y, hk]))), hc⟩ (h.self i hi) (fun k hk => hm k hk) (fun j hj k hji hk => same_of gr k (h.in j hj k hk).2 (fun y => (hm k (.inr y)).2 j hj hji hk))
  rw [e] at q
  exact q
end
/-- how long the lists of the disks are -/
def shape (l : List DZ) : List (Nat × Nat) := l.map fun d => (d.k.length, d.m.length)
theorem shape_set {l : List DZ} {i : Nat} (hi : i < l.length) {d : DZ} (h : (d.k.length, d.m.length) = (l[i].k.length, l[i].m.length)) : shape (l.set i d) = shape l := by
  unfold shape
  rw [List.map_set, h]
  apply List.ext_getElem?
  intro j
  by_cases e : i = j
  · subst e; simp [hi]
  · simp [e]
theorem shape_at {l l' : List DZ} (h : shape l' = shape l) (i : Nat) (hi : i < l.length) (hi' : i < l'.length) : l'[i].k.length = l[i].k.length ∧ l'[i].m.length = l[i].m.length := by
  have := congrArg (fun x => x[i]?) h
  simp [shape, hi, hi'] at this
  exact this
/-- disk i in its list: the four cells -/
theorem OD.at {w : World} {base : Nat} {a : Option Addr} {n cap : Nat} {l : List DZ} {raw : List DV} (h : OD w base (.slice a n cap) l raw) (i : Nat) (hi : i < raw.length) (hi' : i < l.length) :
    ∃ g, a = some ⟨g, 0, none⟩ ∧ base ≤ g ∧ g < w.heap.size ∧ At w g (i * 4) (.int .i64 l[i].n) ∧ At w g (i * 4 + 1) (.bool l[i].dead) ∧ At w g (i * 4 + 2) raw[i].kv ∧ At w g (i * 4 + 3) raw[i].nv := by
  obtain ⟨g, h1, h2, h3, h4⟩ := Own.at h.own i hi
  have hr := h.is i hi hi'
  exact ⟨g, h1, h2, h3, by rw [← hr.n]; exact h4 0 _ rfl, by rw [← hr.dead]; exact h4 1 _ rfl, h4 2 _ rfl, h4 3 _ rfl⟩
section
variable {w w' : World} {base n cap g : Nat} {l : List DZ} {raw : List DV}
/-- disk i, as a pointer to it finds it -/
theorem OD.dat (h : OD w base (.slice (some ⟨g, 0, none⟩) n cap) l raw) (i : Nat) (hi : i < raw.length) (hi' : i < l.length) : DAt w g (i * 4) base l[i] raw[i].kv raw[i].nv := by
  obtain ⟨g', e, _, _, c0, c1, c2, c3⟩ := h.at i hi hi'
  cases e
  have hr := h.is i hi hi'
  exact ⟨c0, c1, c2, c3, hr.isD.1, hr.isD.2, h.self i hi, fun e => h.out i hi g (.inl e) rfl, fun e => h.out i hi g (.inr e) rfl⟩
theorem put_withM (d : DZ) (p v : Int) : d.put p v = d.withM (d.put p v).m := by unfold DZ.put; split <;> rfl
/-- a cell of disk i was written through a pointer -/
theorem OD.wrote {v : Value} (h : OD w base v l raw) (i : Nat) (hi : i < raw.length) (hi' : i < l.length) {p x : Int} {q b : Nat} (hd : DAt w' b q base (l[i].put p x) raw[i].kv raw[i].nv) (gr : w.grownBy w' raw[i].nv.ownBlock) :
    OD w' base v (l.set i (l[i].put p x)) raw := by
  have := h.setNow i hi hi' gr hd.ns
  rw [← put_withM] at this
  exact this
def DV.kept (r : DV) (a : Option Addr) (m c : Nat) : DV := ⟨r.n, r.dead, a, m, c, r.na, r.nm, r.nc⟩
/-- Kept of disk i is replaced by a new list -/
theorem OD.setKeptV (h : OD w base (.slice (some ⟨g, 0, none⟩) n cap) l raw) (i : Nat) (hi : i < raw.length) (hi' : i < l.length) {a : Option Addr} {m c : Nat} {x : List (Int × Int)} (hk : CS w base (.slice a m c) x)
    (hnew : ∀ k, (Value.slice a m c).ownBlock = some k → k ≠ g ∧ ∀ j (hj : j < raw.length), ¬ raw[j].has k) :
    OD (w.setCell ⟨g, i * 4 + 2, none⟩ (.slice a m c)) base (.slice (some ⟨g, 0, none⟩) n cap) (l.set i (l[i].withK x)) (raw.set i (raw[i].kept a m c)) := by
  have hg : ∀ k, k ≠ g → (w.setCell ⟨g, i * 4 + 2, none⟩ (.slice a m c)).heap[k]? = w.heap[k]? := fun k hk => Below.heap_setCell w _ _ k hk
  have hr := h.is i hi hi'
  have hne : ∀ j (hj : j < raw.length) k, raw[j].has k → k ≠ g := fun j hj k hk e => h.out j hj k hk (by rw [e]; rfl)
  refine h.upd i hi (raw[i].kept a m c) _ (Own.setAt h.own i 2 _ (raw[i].kept a m c) hi (by decide) (by simp [diskE, DV.kv, DV.nv, DV.kept]))
    ⟨hr.n, hr.dead, Own.same hk (fun k e => hg k (hnew k e).1), Own.same hr.isD.2 (fun k e => hg k (hne i hi k (.inr e)))⟩ ?_ ?_ (fun j hj k _ e => hg k (hne j hj k e))
  · show Apart (.slice a m c) raw[i].nv
    cases e : (Value.slice a m c).ownBlock with
    | none => exact .inl e
    | some k => exact .inr fun y => (hnew k e).2 i hi (.inr (by rw [← y, e]))
  · intro k hk
    rcases hk with hk | hk
    · exact ⟨fun e => (hnew k hk).1 (by cases e; rfl), fun j hj _ => (hnew k hk).2 j hj⟩
    · exact h.mine i hi k (.inr hk)
/-- disk i was flushed through a pointer -/
theorem OD.flushed {w1 : World} (h : OD w base (.slice (some ⟨g, 0, none⟩) n cap) l raw) (i : Nat) (hi : i < raw.length) (hi' : i < l.length) {a : Option Addr} {m c : Nat} (g1 : w.grownBy w1 none) (hk : CS w1 base (.slice a m c) l[i].m) (hnew : ∀ k, (Value.slice a m c).ownBlock = some k → w.heap.size ≤ k) :
    OD (w1.setCell ⟨g, i * 4 + 2, none⟩ (.slice a m c)) base (.slice (some ⟨g, 0, none⟩) n cap) (l.set i (l[i].withK l[i].m)) (raw.set i (raw[i].kept a m c)) := by
  have hgl := (h.own.lt g rfl).2
  refine (h.grew g1).setKeptV i hi hi' hk fun k e => ?_
  have := hnew k e
  exact ⟨by omega, fun j hj x => by have := (h.in j hj k x).2; omega⟩
theorem fall_n (d : DZ) (s : Int) : (d.fall s).n = d.n ∧ (d.fall s).dead = d.dead := ⟨rfl, rfl⟩
/-- disk i fell, through a pointer -/
theorem OD.fell {v : Value} (h : OD w base v l raw) (i : Nat) (hi : i < raw.length) (hi' : i < l.length) {d : DZ} {b q : Nat} (hn : d.n = l[i].n ∧ d.dead = l[i].dead) (hd : DAt w' b q base d raw[i].kv raw[i].nv) (o : Only (Two2 raw[i].kv raw[i].nv) w w') :
    OD w' base v (l.set i d) raw := by
  have hr := h.is i hi hi'
  have hm := h.mine i hi
  have e : raw.set i raw[i] = raw := List.set_getElem_self hi
  have q := h.upd (w' := w') i hi raw[i] d (by
    rw [e]
    exact Own.same h.own (fun k hk => o.block k (h.own.lt k hk).2 (fun y => (hm k y).1 hk))) ⟨hr.n.trans hn.1.symm, hr.dead.trans hn.2.symm, hd.ks, hd.ns⟩ (h.self i hi) (fun k hk => hm k hk) (fun j hj k hji hk => o.block k (h.in j hj k hk).2 (fun y => (hm k y).2 j hj hji hk))
  rw [e] at q
  exact q
end
section
variable {w w' : World} {base : Nat} {v v' : Value} {l : List DZ} {raw : List DV}
/-- a disk whose memory is new is appended -/
theorem OD.app (h : OD w base v l raw) (r : DV) (p : DZ) (hr : r.Is w base p) (hs : Apart r.kv r.nv) (hnew : ∀ k, r.has k → (∀ i (hi : i < raw.length), ¬ raw[i].has k) ∧ v.ownBlock ≠ some k)
    (g : w.grownBy w' v.ownBlock) (ho : Own diskE w' base v' (raw ++ [r])) (hat : v'.ownBlock = v.ownBlock ∨ v'.ownBlock = some w.heap.size) : OD w' base v' (l ++ [p]) (raw ++ [r]) := by
  have hall : ∀ i (hi : i < (raw ++ [r]).length) k, (raw ++ [r])[i].has k → v.ownBlock ≠ some k ∧ k < w.heap.size := fun i hi k hk => by
    by_cases hi' : i < raw.length
    · rw [List.getElem_append_left hi'] at hk
      exact ⟨h.out i hi' k hk, (h.in i hi' k hk).2⟩
    · have e : i = raw.length := by simp at hi; omega
      subst e
      simp at hk
      refine ⟨(hnew k hk).2, ?_⟩
      rcases hk with hk | hk
      · exact (hr.isD.1.lt k hk).2
      · exact (hr.isD.2.lt k hk).2
  have keep : ∀ (q : DV) (z : DZ), (∀ k, q.has k → v.ownBlock ≠ some k) → q.Is w base z → q.Is w' base z := fun q z hq hz =>
    ⟨hz.n, hz.dead, Own.kept hz.isD.1 g (by
      cases e : q.kv.ownBlock with
      | none => exact .inl rfl
      | some k => exact .inr fun x => hq k (.inl e) x.symm), Own.kept hz.isD.2 g (by
      cases e : q.nv.ownBlock with
      | none => exact .inl rfl
      | some k => exact .inr fun x => hq k (.inr e) x.symm)⟩
  refine ⟨ho, by simp [h.len], fun i hi hi' => ?_, fun i hi => ?_, fun i j hi hj k hki hkj => ?_, fun i hi k hk => ?_⟩
  · by_cases hlt : i < raw.length
    · have hl : i < l.length := by rw [← h.len]; exact hlt
      rw [List.getElem_append_left hlt, List.getElem_append_left hl]
      exact keep _ _ (fun k hk => h.out i hlt k hk) (h.is i hlt hl)
    · have e : i = raw.length := by simp at hi; omega
      subst e
      have : raw.length = l.length := h.len
      simp only [List.getElem_concat_length]
      have e2 : (l ++ [p])[raw.length] = p := by simp [this]
      rw [e2]
      exact keep _ _ (fun k hk => (hnew k hk).2) hr
  · by_cases hlt : i < raw.length
    · rw [List.getElem_append_left hlt]; exact h.self i hlt
    · have e : i = raw.length := by simp at hi; omega
      subst e
      simpa using hs
  · by_cases h1 : i < raw.length <;> by_cases h2 : j < raw.length
    · rw [List.getElem_append_left h1] at hki
      rw [List.getElem_append_left h2] at hkj
      exact h.ap i j h1 h2 k hki hkj
    · have e : j = raw.length := by simp at hj; omega
      subst e
      rw [List.getElem_append_left h1] at hki
      simp at hkj
      exact absurd hki ((hnew k hkj).1 i h1)
    · have e : i = raw.length := by simp at hi; omega
      subst e
      rw [List.getElem_append_left h2] at hkj
      simp at hki
      exact absurd hkj ((hnew k hki).1 j h2)
    · simp at hi hj; omega
  · obtain ⟨q1, q2⟩ := hall i hi k hk
    rcases hat with e | e
    · rw [e]; exact q1
    · rw [e]; intro x; cases x; omega
/-- a new list of disks -/
def GotL (l : List DZ) (w : World) (e : Ending) (w' : World) : Prop := ∃ v raw, e = .returned v ∧ OD w' w.heap.size v l raw ∧ w.grownBy w' none
theorem OD.empty (w : World) : OD (w.alloc (.cells #[] 41)) w.heap.size (.slice (some ⟨w.heap.size, 0, none⟩) 0 0) [] [] :=
  ⟨Own.fresh diskE w [] _ rfl (by simp) (Nat.le_refl _), rfl, fun i h => by simp at h, fun i h => by simp at h, fun i j h => by simp at h, fun i h => by simp at h⟩
theorem OD.nil (w : World) (base : Nat) : OD w base (.slice none 0 0) [] [] :=
  ⟨Own.nil _ _ _, rfl, fun i h => by simp at h, fun i h => by simp at h, fun i j h => by simp at h, fun i h => by simp at h⟩
theorem DV.single (w : World) (r : DV) : Own diskE (w.alloc (.cells #[.int .i64 r.n, .bool r.dead, r.kv, r.nv] 41)) 0 (.slice (some ⟨w.heap.size, 0, none⟩) 1 1) [r] :=
  Own.fresh diskE w [r] _ rfl (by simp) (Nat.zero_le _)
end
end Go.Proofs.YtfodjokcobljmaaGreat
