/- Lists of disks in memory: read. -/
import Derived.Test.YtncmocdfdkacfaaBaseL06
namespace Go.Proofs.Ytncmocdfdkacfaa
open Go.ChangeShapes Go.WideShapes Go.ChangeAt Go.RowKit

/-- a disk as it lies in memory -/
structure DV where
  n : Int
  dead : Bool
  ka : Option Addr
  km : Nat
  kc : Nat
  na : Option Addr
  nm : Nat
  nc : Nat
def DV.kv (r : DV) : Value := .slice r.ka r.km r.kc
def DV.nv (r : DV) : Value := .slice r.na r.nm r.nc
def diskE : Elt DV where
  T := 58
  S := 35
  size := 4
  bytes := 64
  z := .agg #[.int .i64 0, .bool false, .slice none 0 0, .slice none 0 0]
  enc := fun r => [.int .i64 r.n, .bool r.dead, r.kv, r.nv]
  len := fun _ => rfl
  one := fun x u hu => by simp at hu; rcases hu with rfl | rfl | rfl | rfl <;> rfl
  pos := by omega
  und := Try.underlying35
  info := by kernel_rfl
  zs := rfl
/-- what lies there is the disk d -/
structure DV.Is (w : World) (base : Nat) (r : DV) (d : DZ) : Prop where
  n : r.n = d.n
  dead : r.dead = d.dead
  isD : IsD w base r.kv r.nv d
/-- v is a slice whose disks l can be read -/
def LD (w : World) (v : Value) (l : List DZ) : Prop := ∃ raw : List DV, Rd diskE w v raw ∧ raw.length = l.length ∧ ∀ i (h : i < l.length) (h' : i < raw.length), (raw[i]).Is w 0 l[i]
section
variable {w w' : World} {v : Value} {l : List DZ}
theorem DV.Is.grew {base : Nat} {r : DV} {d : DZ} (h : r.Is w base d) (g : w.grownBy w' none) : r.Is w' base d := ⟨h.n, h.dead, h.isD.grew g⟩
theorem LD.kept (h : LD w v l) (g : w.grownBy w' none) : LD w' v l := by
  obtain ⟨raw, h1, h2, h3⟩ := h
  exact ⟨raw, h1.kept g, h2, fun i a b => (h3 i a b).grew g⟩
theorem LD.form (h : LD w v l) : ∃ a cap, v = .slice a l.length cap ∧ l.length ≤ 9223372036854775807 := by
  obtain ⟨raw, ⟨a, cap, h1, h2, h3, _⟩, h5, _⟩ := h
  exact ⟨a, cap, by rw [h1, h5], by omega⟩
theorem diskE_all (r : List DV) (i : Nat) (hi : i < r.length) (j : Nat) (hj : j < 4) : (diskE.all r)[i * 4 + j]? = (diskE.enc r[i])[j]? := diskE.all_get r i j hi hj
/-- disk i, its four cells -/
theorem LD.at {a : Option Addr} {n cap : Nat} (h : LD w (.slice a n cap) l) (i : Nat) (hi : i < l.length) :
    ∃ g o ka km kc na nm nc, a = some ⟨g, o, none⟩ ∧ w.cell? ⟨g, o + i * 4, none⟩ = some (.int .i64 l[i].n) ∧ w.cell? ⟨g, o + i * 4 + 1, none⟩ = some (.bool l[i].dead) ∧ w.cell? ⟨g, o + i * 4 + 2, none⟩ = some (.slice ka km kc) ∧ w.cell? ⟨g, o + i * 4 + 3, none⟩ = some (.slice na nm nc) ∧ IsD w 0 (.slice ka km kc) (.slice na nm nc) l[i] := by
  obtain ⟨raw, ⟨a', cap', h1, _, _, h4⟩, h5, h6⟩ := h
  have hi' : i < raw.length := by omega
  have hr := h6 i hi hi'
  rcases h4 with h4 | ⟨g, o, h4, _, h7⟩
  · rw [h4] at hi'; simp at hi'
  · cases h1
    have q : ∀ j u, j < 4 → (diskE.enc raw[i])[j]? = some u → w.cell? ⟨g, o + i * 4 + j, none⟩ = some u := fun j u hj hu => by
      rw [Nat.add_assoc]; exact h7 _ u (by rw [diskE_all raw i hi' j hj]; exact hu)
    refine ⟨g, o, raw[i].ka, raw[i].km, raw[i].kc, raw[i].na, raw[i].nm, raw[i].nc, h4, ?_, ?_, q 2 _ (by omega) rfl, q 3 _ (by omega) rfl, hr.isD⟩
    · rw [← hr.n]; exact q 0 _ (by omega) rfl
    · rw [← hr.dead]; exact q 1 _ (by omega) rfl
end
end Go.Proofs.Ytncmocdfdkacfaa
