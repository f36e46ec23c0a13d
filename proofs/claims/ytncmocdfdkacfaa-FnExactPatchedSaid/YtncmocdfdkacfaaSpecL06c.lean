/- What the specification's l6Copy returns. -/
import Derived.Test.YtncmocdfdkacfaaOwnD3
import Derived.Deep.DeepFit
namespace Go.Proofs.Ytncmocdfdkacfaa
open Go.ChangeShapes Go.WideShapes Go.ChangeAt Go.RowKit

set_option maxHeartbeats 1000000 in
theorem l6Copy_any (v : Value) (l : List DZ) (w : World) (h : LD w v l) (hl : l.length ≤ 1000) (hd : ∀ i (h : i < l.length), l[i].k.length ≤ 1000 ∧ l[i].m.length ≤ 1000) :
    Calls Try.prog 48 #[v] w (GotL l w) := by
  obtain ⟨a, cap, rfl, hm⟩ := h.form
  have C0 := OD.empty w
  have g0 := galloc (grefl w) (.cells #[] 58)
  have HDs : Hid (∀ i (h : i < l.length), l[i].k.length ≤ 1000 ∧ l[i].m.length ≤ 1000) := hd
  clear hd
  go_enter Try.func48, Try.ntmps48
  go_wp2
  go_loopw [3, 4] (fun out i wr => ∃ (k : Nat) (raw : List DV), k ≤ l.length ∧ i = .int .i64 k ∧ OD wr w.heap.size out (l.take k) raw ∧ w.grownBy wr none) (fun _ i _ => l.length - (intOf i).toNat)
  case atStart => exact ⟨0, [], Nat.zero_le _, rfl, C0, g0⟩
  case round =>
    clear C0 g0
    obtain ⟨k, raw, hk, rfl, C, G⟩ := hrel
    obtain ⟨oa, om, oc, rfl⟩ := C.own.sl
    by_cases hlt : k < l.length
    · have hki : (k : Int) < l.length := by omega
      obtain ⟨g, o, ka, km, kc, na, nm, nc, rfl, x0, x1, x2, x3, D⟩ := (h.kept G).at k hlt
      have hb := HDs.out k hlt
      have HT : Hid (l.take (k + 1) = l.take k ++ [l[k]]) := List.take_succ_eq_append_getElem hlt
      go_wp2_with fail
      go_fit (l3Copy_any _ _ l[k] _ D hb.1 hb.2)
      rintro e w2 ⟨kv, nv, rfl, I2, ap, g2⟩
      obtain ⟨ka', km', kc', rfl⟩ := I2.1.sl
      obtain ⟨na', nm', nc', rfl⟩ := I2.2.sl
      have C2 := C.grew g2
      have G2 := gtrans G g2
      have hs2 := G2.size
      have hsw := G.size
      have HNew : Hid (∀ q, DV.has ⟨l[k].n, l[k].dead, ka', km', kc', na', nm', nc'⟩ q → (∀ i (hi : i < raw.length), ¬ raw[i].has q) ∧ (Value.slice oa om oc).ownBlock ≠ some q) := fun q hq => by
        have h1 : wr.heap.size ≤ q := by
          rcases hq with hq | hq
          · exact (I2.1.lt q hq).1
          · exact (I2.2.lt q hq).1
        exact ⟨fun i hi x => by have := (C.in i hi q x).2; omega, fun x => by have := (C.own.lt q x).2; omega⟩
      have hI : DV.Is w2 w.heap.size ⟨l[k].n, l[k].dead, ka', km', kc', na', nm', nc'⟩ l[k] := ⟨rfl, rfl, I2.1.lower hsw, I2.2.lower hsw⟩
      have hrl : raw.length ≤ 1000 := by have := C.len; simp at this; omega
      go_wp2_with (first | (at_builtin; refine wpList_append_o (E := diskE) (base := w.heap.size) rfl (.tmp 12) (.tmp 18) rfl rfl rfl (Own.grew C2.own (galloc (grefl _) _)) (DV.single _ ⟨l[k].n, l[k].dead, ka', km', kc', na', nm', nc'⟩) (by simp; omega) (by decide) (by simp; omega) ?_; intro v' w6 o6 g6 b6; have C6 := OD.app (C2.grew (galloc (grefl _) _)) _ l[k] (hI.grew (galloc (grefl _) _)) ap HNew.out g6 o6 b6; have G6 := gnew (galloc G2 _) g6 (fun j e => (C2.own.lt j e).1); rw [← HT.out] at C6; clear g6 b6 o6))
      go_roundw
      case rel => exact ⟨k + 1, _, by omega, by go_num, C6, G6⟩
      case measure => simp [intOf]; omega
    · obtain rfl : k = l.length := by omega
      rw [List.take_length] at C
      go_wp2_with fail
      go_ret
      exact ⟨_, raw, rfl, C, G⟩
end Go.Proofs.Ytncmocdfdkacfaa
