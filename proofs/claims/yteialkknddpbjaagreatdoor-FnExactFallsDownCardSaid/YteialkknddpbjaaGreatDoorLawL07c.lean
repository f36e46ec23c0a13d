/- What a law that marks lists of disks wants: lists that lie elsewhere stay; the lists of Patched are small. -/
import Derived.Test.YteialkknddpbjaaGreatDoorLawL06b
import Derived.Test.YteialkknddpbjaaGreatDoorSpecL07d
import Derived.Test.YteialkknddpbjaaGreatDoorBaseL03
namespace Go.Proofs.YteialkknddpbjaaGreatDoor
open Go.ChangeShapes Go.WideShapes Go.ChangeAt Go.RowKit Go.Joins Go.Deep

theorem szDiskS_b (a : Option Addr) (len cap : Nat) (l : List DZ) (w : World) (h : InDisks w a len l) :
    Calls Tryz.prog 127 #[.slice a len cap, .int .i64 1048576] w fun e w' => ∃ x : Int, e = .returned (.int .i64 x) ∧ w.grownBy w' none ∧ (x < 0 ∨ (0 ≤ x ∧ Small l)) ∧ x ≤ 1048576 := by
  obtain rfl := h.1
  have hm := h.2.1
  by_cases h0 : (1048576 - (l.length : Int)) < 0
  · go_enter Tryz.func127, Tryz.ntmps127
    go_wp2_with fail
    go_ret
    exact ⟨-1, rfl, grefl _, .inl (by omega), by omega⟩
  go_enter Tryz.func127, Tryz.ntmps127
  go_wp2_with fail
  go_loopw [1, 5] (fun x i wr => ∃ (k : Nat) (z : Int), k ≤ l.length ∧ i = .int .i64 k ∧ x = .int .i64 z ∧ 0 ≤ z ∧ z ≤ 1048576 ∧ w.grownBy wr none ∧ Hid (z = 1048576 - l.length - sizeC (l.take k))) (fun _ i _ => l.length - (intOf i).toNat)
  case atStart => exact ⟨0, _, Nat.zero_le _, rfl, rfl, by omega, by omega, grefl _, by show _ = _; simp [sizeC]⟩
  case round =>
    obtain ⟨k, z, hk, rfl, rfl, z0, z1, G, HB⟩ := hrel
    by_cases hlt : k < l.length
    · have hki : (k : Int) < l.length := by omega
      obtain ⟨-, -, h5 | ⟨b, o, rfl, hb, hc⟩⟩ := h.kept G
      · rw [h5] at hlt; simp at hlt
      obtain ⟨ka, km, kc, na, nm, nc, x0, x1, x2, x3, D⟩ := hc k hlt
      clear hc
      have HK := Lib.hid D.1.1
      have HM := Lib.hid D.2.1
      have k1 : km ≤ 9223372036854775807 := by rw [D.1.1]; exact D.1.2.1
      have m1 : nm ≤ 9223372036854775807 := by rw [D.2.1]; exact D.2.2.1
      by_cases hn : (z - km - nm : Int) < 0
      · go_wp2_with fail
        go_fit (szDisk_any _ _ _ _ _ _ _ _ _ _ k1 m1 z0 z1)
        rintro e w2 ⟨rfl, g2⟩
        rw [if_pos (by omega)]
        go_wp2_with fail
        go_ret
        exact ⟨-1, rfl, gtrans G g2, .inl (by omega), by omega⟩
      · have HB' : Hid (z - km - nm = 1048576 - l.length - sizeC (l.take (k + 1))) := by
          show _ = _
          have e1 := HB.out
          have e2 := HK.out
          have e3 := HM.out
          rw [sizeC_next hlt]; omega
        clear HB
        go_wp2_with fail
        go_fit (szDisk_any _ _ _ _ _ _ _ _ _ _ k1 m1 z0 z1)
        rintro e w2 ⟨rfl, g2⟩
        rw [if_neg (by omega)]
        go_wp2_with fail
        go_roundw
        case rel => exact ⟨k + 1, _, by omega, by go_num, rfl, by omega, by omega, gtrans G g2, HB'⟩
        case measure => simp [intOf]; omega
    · go_wp2_with fail
      go_ret
      exact ⟨z, rfl, G, .inr ⟨z0, by have e1 := HB.out; rw [List.take_of_length_le (by omega)] at e1; unfold Small; omega⟩, z1⟩
theorem OD.away {S : Nat → Prop} {w w' : World} {base T : Nat} {v : Value} {l : List DZ} {raw : List DV} (h : OD w base v l raw) (O : Only S w w') (hT1 : ∀ i (hi : i < raw.length) b, raw[i].has b → b < T) (hT2 : ∀ b, v.ownBlock = some b → b < T) (hS : ∀ k, S k → k < base ∨ T ≤ k) : OD w' base v l raw := by
  have hb : ∀ i (hi : i < raw.length) k, raw[i].has k → w'.heap[k]? = w.heap[k]? := fun i hi k hk => O.block k (h.in i hi k hk).2 (fun s => by have := hS k s; have := (h.in i hi k hk).1; have := hT1 i hi k hk; omega)
  exact ⟨Own.same h.own (fun k e => O.block k (h.own.lt k e).2 (fun s => by have := hS k s; have := (h.own.lt k e).1; have := hT2 k e; omega)), h.len, fun i a b => ⟨(h.is i a b).n, (h.is i a b).dead, Own.same (h.is i a b).isD.1 (fun k e => hb i a k (.inl e)), Own.same (h.is i a b).isD.2 (fun k e => hb i a k (.inr e))⟩, h.self, h.ap, h.out⟩
/-- its blocks lie below T -/
def Tops (v : Value) (raw : List DV) (T : Nat) : Prop := (∀ i (hi : i < raw.length) b, raw[i].has b → b < T) ∧ ∀ b, v.ownBlock = some b → b < T
theorem OD.tops {w : World} {base : Nat} {v : Value} {l : List DZ} {raw : List DV} (h : OD w base v l raw) : Tops v raw w.heap.size := ⟨fun i hi b hb => (h.in i hi b hb).2, fun b hb => (h.own.lt b hb).2⟩
theorem small_ok {l : List DZ} (h5 : l.length ≤ 5) (h : allOk l) : Small l := by
  have : ∀ (m : List DZ), (∀ d ∈ m, d.ok = true) → sizeC m ≤ 32 * m.length := by
    intro m
    induction m with
    | nil => intro _; simp [sizeC]
    | cons d r ih =>
      intro hm
      have h1 := d.ok_len (hm d (by simp))
      have h2 := ih (fun x hx => hm x (by simp [hx]))
      simp [sizeC]; omega
  have := this l (fun d hd => by obtain ⟨i, hi, rfl⟩ := List.getElem_of_mem hd; exact h i hi)
  unfold Small; omega
theorem patched_small (l : List DZ) (p : PZ) : Small (patchedZ l p) := by
  unfold patchedZ
  split
  · next h =>
    simp only [Bool.and_eq_true] at h
    have h5 : l.length ≤ 5 := by have := h.1; simp only [disksOkZ, Bool.and_eq_true, inB_iff] at this; omega
    exact small_ok (by rw [patchZ, patchK_length]; exact h5) (patchK_ok (fun i hi => disksOk_at h.1 i hi) p _)
  · simp [Small, sizeC]
theorem mkN_b {l : List DZ} (h : Small l) : 0 ≤ mkN 1 l l.length ∧ mkN 1 l l.length ≤ 10000000 := by
  have := h.len
  unfold Small at h; unfold mkN
  rw [List.take_length]; omega
end Go.Proofs.YteialkknddpbjaaGreatDoor
