/- Lists of patches in memory: read; owned with all their memory. -/
import Derived.Test.YteialkknddpbjaaGreatDoorPH01
import Derived.Test.YteialkknddpbjaaGreatDoorPH17
namespace Go.Proofs.YteialkknddpbjaaGreatDoor
open Go.ChangeShapes Go.WideShapes Go.ChangeAt Go.RowKit

/-- a patch as it lies in memory -/
structure PV where
  row : Int
  da : Option Addr
  dm : Nat
  dc : Nat
  va : Option Addr
  vm : Nat
  vc : Nat
def PV.dv (r : PV) : Value := .slice r.da r.dm r.dc
def PV.vv (r : PV) : Value := .slice r.va r.vm r.vc
def patE : Elt PV where
  T := 97
  S := 92
  size := 3
  bytes := 56
  z := .agg #[.int .i64 0, .slice none 0 0, .slice none 0 0]
  enc := fun r => [.int .i64 r.row, r.dv, r.vv]
  len := fun _ => rfl
  one := fun x u hu => by simp at hu; rcases hu with rfl | rfl | rfl <;> rfl
  pos := by omega
  und := Tryz.underlying92
  info := by kernel_rfl
  zs := rfl
/-- block k is one of the patch's -/
def PV.has (r : PV) (k : Nat) : Prop := r.dv.ownBlock = some k ∨ r.vv.ownBlock = some k
/-- what lies there is the patch p, with memory of its own -/
structure PV.Is (w : World) (base : Nat) (r : PV) (p : PZ) : Prop where
  row : r.row = p.row
  ds : IS w base r.dv p.ds
  vs : IS w base r.vv p.vs
/-- v is a slice whose patches l can be read -/
def LP (w : World) (v : Value) (l : List PZ) : Prop := ∃ raw : List PV, Rd patE w v raw ∧ raw.length = l.length ∧ ∀ i (h : i < l.length) (h' : i < raw.length), raw[i].row = l[i].row ∧ IR w raw[i].dv l[i].ds ∧ IR w raw[i].vv l[i].vs
/-- v is a slice that owns the patches l and all their memory -/
structure OP (w : World) (base : Nat) (v : Value) (l : List PZ) (raw : List PV) : Prop where
  own : Own patE w base v raw
  len : raw.length = l.length
  is : ∀ i (h : i < raw.length) (h' : i < l.length), raw[i].Is w base l[i]
  self : ∀ i (h : i < raw.length), Apart raw[i].dv raw[i].vv
  ap : ∀ i j (hi : i < raw.length) (hj : j < raw.length) k, raw[i].has k → raw[j].has k → i = j
  out : ∀ i (h : i < raw.length) k, raw[i].has k → v.ownBlock ≠ some k
section
variable {w w' : World} {base : Nat} {v : Value} {l : List PZ} {raw : List PV}
theorem PV.Is.grew {r : PV} {p : PZ} (h : r.Is w base p) (g : w.grownBy w' none) : r.Is w' base p := ⟨h.row, Own.grew h.ds g, Own.grew h.vs g⟩
theorem PV.Is.lower {b' : Nat} {r : PV} {p : PZ} (h : r.Is w base p) (hb : b' ≤ base) : r.Is w b' p := ⟨h.row, Own.lower h.ds hb, Own.lower h.vs hb⟩
theorem LP.kept (h : LP w v l) (g : w.grownBy w' none) : LP w' v l := by
  obtain ⟨raw, h1, h2, h3⟩ := h
  exact ⟨raw, h1.kept g, h2, fun i a b => ⟨(h3 i a b).1, (h3 i a b).2.1.kept g, (h3 i a b).2.2.kept g⟩⟩
theorem OP.lp (h : OP w base v l raw) : LP w v l := ⟨raw, h.own.rd, h.len, fun i a b => ⟨(h.is i b a).row, (h.is i b a).ds.rd, (h.is i b a).vs.rd⟩⟩
theorem OP.grew (h : OP w base v l raw) (g : w.grownBy w' none) : OP w' base v l raw := ⟨Own.grew h.own g, h.len, fun i a b => (h.is i a b).grew g, h.self, h.ap, h.out⟩
theorem OP.lower {b' : Nat} (h : OP w base v l raw) (hb : b' ≤ base) : OP w b' v l raw := ⟨Own.lower h.own hb, h.len, fun i a b => (h.is i a b).lower hb, h.self, h.ap, h.out⟩
theorem OP.in (h : OP w base v l raw) (i : Nat) (hi : i < raw.length) (k : Nat) (hk : raw[i].has k) : base ≤ k ∧ k < w.heap.size := by
  have hl := h.len
  have := h.is i hi (by omega)
  rcases hk with hk | hk
  · exact this.ds.lt k hk
  · exact this.vs.lt k hk
theorem LP.form (h : LP w v l) : ∃ a cap, v = .slice a l.length cap ∧ l.length ≤ 9223372036854775807 := by
  obtain ⟨raw, ⟨a, cap, h1, h2, h3, _⟩, h5, _⟩ := h
  exact ⟨a, cap, by rw [h1, h5], by omega⟩
theorem OP.form (h : OP w base v l raw) : ∃ a cap, v = .slice a l.length cap ∧ l.length ≤ 9223372036854775807 := h.lp.form
theorem patE_all (r : List PV) (i : Nat) (hi : i < r.length) (j : Nat) (hj : j < 3) : (patE.all r)[i * 3 + j]? = (patE.enc r[i])[j]? := patE.all_get r i j hi hj
/-- patch i, its three cells -/
theorem LP.at {a : Option Addr} {n cap : Nat} (h : LP w (.slice a n cap) l) (i : Nat) (hi : i < l.length) :
    ∃ g o da dm dc va vm vc, a = some ⟨g, o, none⟩ ∧ w.cell? ⟨g, o + i * 3, none⟩ = some (.int .i64 l[i].row) ∧ w.cell? ⟨g, o + i * 3 + 1, none⟩ = some (.slice da dm dc) ∧ w.cell? ⟨g, o + i * 3 + 2, none⟩ = some (.slice va vm vc) ∧ IR w (.slice da dm dc) l[i].ds ∧ IR w (.slice va vm vc) l[i].vs := by
  obtain ⟨raw, ⟨a', cap', h1, _, _, h4⟩, h5, h6⟩ := h
  have hi' : i < raw.length := by omega
  obtain ⟨q1, q2, q3⟩ := h6 i hi hi'
  rcases h4 with h4 | ⟨g, o, h4, _, h7⟩
  · rw [h4] at hi'; simp at hi'
  · cases h1
    have q : ∀ j u, j < 3 → (patE.enc raw[i])[j]? = some u → w.cell? ⟨g, o + i * 3 + j, none⟩ = some u := fun j u hj hu => by
      rw [Nat.add_assoc]; exact h7 _ u (by rw [patE_all raw i hi' j hj]; exact hu)
    refine ⟨g, o, raw[i].da, raw[i].dm, raw[i].dc, raw[i].va, raw[i].vm, raw[i].vc, h4, ?_, q 1 _ (by omega) rfl, q 2 _ (by omega) rfl, q2, q3⟩
    rw [← q1]; exact q 0 _ (by omega) rfl
theorem OP.empty (w : World) : OP (w.alloc (.cells #[] 97)) w.heap.size (.slice (some ⟨w.heap.size, 0, none⟩) 0 0) [] [] :=
  ⟨Own.fresh patE w [] _ rfl (by simp) (Nat.le_refl _), rfl, fun i h => by simp at h, fun i h => by simp at h, fun i j h => by simp at h, fun i h => by simp at h⟩
theorem PV.single (w : World) (r : PV) : Own patE (w.alloc (.cells #[.int .i64 r.row, r.dv, r.vv] 97)) 0 (.slice (some ⟨w.heap.size, 0, none⟩) 1 1) [r] :=
  Own.fresh patE w [r] _ rfl (by simp) (Nat.zero_le _)
/-- a patch whose memory is new is appended -/
theorem OP.app {v' : Value} (h : OP w base v l raw) (r : PV) (p : PZ) (hr : r.Is w base p) (hs : Apart r.dv r.vv) (hnew : ∀ k, r.has k → (∀ i (hi : i < raw.length), ¬ raw[i].has k) ∧ v.ownBlock ≠ some k)
    (g : w.grownBy w' v.ownBlock) (ho : Own patE w' base v' (raw ++ [r])) (hat : v'.ownBlock = v.ownBlock ∨ v'.ownBlock = some w.heap.size) : OP w' base v' (l ++ [p]) (raw ++ [r]) := by
  have hall : ∀ i (hi : i < (raw ++ [r]).length) k, (raw ++ [r])[i].has k → v.ownBlock ≠ some k ∧ k < w.heap.size := fun i hi k hk => by
    by_cases hi' : i < raw.length
    · rw [List.getElem_append_left hi'] at hk
      exact ⟨h.out i hi' k hk, (h.in i hi' k hk).2⟩
    · have e : i = raw.length := by simp at hi; omega
      subst e
      simp at hk
      refine ⟨(hnew k hk).2, ?_⟩
      rcases hk with hk | hk
      · exact (hr.ds.lt k hk).2
      · exact (hr.vs.lt k hk).2
  have keep : ∀ (q : PV) (z : PZ), (∀ k, q.has k → v.ownBlock ≠ some k) → q.Is w base z → q.Is w' base z := fun q z hq hz =>
    ⟨hz.row, Own.kept hz.ds g (by
      cases e : q.dv.ownBlock with
      | none => exact .inl rfl
      | some k => exact .inr fun x => hq k (.inl e) x.symm), Own.kept hz.vs g (by
      cases e : q.vv.ownBlock with
      | none => exact .inl rfl
      | some k => exact .inr fun x => hq k (.inr e) x.symm)⟩
  refine ⟨ho, by simp [h.len], fun i hi hi' => ?_, fun i hi => ?_, fun i j hi hj k hki hkj => ?_, fun i hi k hk => ?_⟩
  · by_cases hlt : i < raw.length
    · have hl : i < l.length := by rw [← h.len]; exact hlt
      rw [List.getElem_append_left hlt, List.getElem_append_left hl]
      exact keep _ _ (fun k hk => h.out i hlt k hk) (h.is i hlt hl)
    · have e : i = raw.length := by simp at hi; omega
      subst e
      have : raw.length = l.length := h.len
      simp only [List.getElem_concat_length]
      have e2 : (l ++ [p])[raw.length] = p := by simp [this]
      rw [e2]
      exact keep _ _ (fun k hk => (hnew k hk).2) hr
  · by_cases hlt : i < raw.length
    · rw [List.getElem_append_left hlt]; exact h.self i hlt
    · have e : i = raw.length := by simp at hi; omega
      subst e
      simpa using hs
  · by_cases h1 : i < raw.length <;> by_cases h2 : j < raw.length
    · rw [List.getElem_append_left h1] at hki
      rw [List.getElem_append_left h2] at hkj
      exact h.ap i j h1 h2 k hki hkj
    · have e : j = raw.length := by simp at hj; omega
      subst e
      rw [List.getElem_append_left h1] at hki
      simp at hkj
      exact absurd hki ((hnew k hkj).1 i h1)
    · have e : i = raw.length := by simp at hi; omega
      subst e
      rw [List.getElem_append_left h2] at hkj
      simp at hki
      exact absurd hkj ((hnew k hki).1 j h2)
    · simp at hi hj; omega
  · obtain ⟨q1, q2⟩ := hall i hi k hk
    rcases hat with e | e
    · rw [e]; exact q1
    · rw [e]; intro x; cases x; omega
end
end Go.Proofs.YteialkknddpbjaaGreatDoor
