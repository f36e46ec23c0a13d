/- A disk that came in, opened. The laws' own helpers over lists of disks: what came in, opened, measured, copied, compared. The laws' own helpers: lists of numbers and of disks are marked, and are held against their marks. The laws' own helpers: a list of disks is marked, told exactly, and is held against its marks. A list of disks that came in, opened. -/
import Derived.Test.YtnkfmjgbeoddbaaLawL03b
import Derived.Deep.Slices
import Derived.Deep.Fields
import Derived.Test.YtnkfmjgbeoddbaaOwnD2
import Derived.Test.YtnkfmjgbeoddbaaBaseL04
import Derived.Deep.DeepFit
import Derived.Deep.DeepCutAuto
namespace Go.Proofs.Ytnkfmjgbeoddbaa
open Go.ChangeShapes Go.WideShapes Go.ChangeAt Go.RowKit Go.Joins Go.Deep
set_option maxRecDepth 8000

theorem list_of {P : Nat → Int → Int → Prop} : ∀ n : Nat, (∀ i, i < n → ∃ x y, P i x y) → ∃ l : List (Int × Int), l.length = n ∧ ∀ i (h : i < l.length), P i l[i].1 l[i].2
  | 0, _ => ⟨[], rfl, fun i h => by simp at h⟩
  | n + 1, hP => by
    obtain ⟨l, hl, h⟩ := list_of n (fun i hi => hP i (by omega))
    obtain ⟨x, y, hxy⟩ := hP n (by omega)
    refine ⟨l ++ [(x, y)], by simp [hl], fun i hi => ?_⟩
    simp at hi
    by_cases hn : i < l.length
    · rw [List.getElem_append_left hn]; exact h i hn
    · have : i = l.length := by omega
      subst this
      simp [hl]
      exact hxy
section
variable {H : Type} {enc : TypeId × Value → H} {w : World} {base : Nat} {held : Bool}
theorem cell_of {fuel : Nat} {cs : List Value} {x : DataW H × List MemPlace} (h : DataW.trod enc Try.prog w base (fun _ => true) held fuel 38 cs = some x) : ∃ u v : Int, cs = [.int .i64 u, .int .i64 v] := by
  obtain ⟨xs, n, rfl, _, hlen, hxs, hf⟩ := DataW.trod_struct Try.underlying38 h
  have hc : Try.prog.cellsOf 38 = 2 := by kernel_rfl
  have hi : Try.prog.cellsOf 2 = 1 := by kernel_rfl
  rw [hc] at hlen
  match cs, hlen with
  | [c0, c1], _ =>
    match xs, hxs with
    | [y0, y1], _ =>
      have h0 := hf 0 _ rfl
      have h1 := hf 1 _ rfl
      simp [hi] at h0 h1
      obtain ⟨u, e0, _⟩ := DataW.trod_int Try.underlying2 h0
      obtain ⟨v, e1, _⟩ := DataW.trod_int Try.underlying2 h1
      simp at e0 e1
      exact ⟨u, v, by rw [e0, e1]⟩
theorem openCells {fuel : Nat} {v : Value} {x : DataW H × List MemPlace} (h : DataW.trod enc Try.prog w base (fun _ => true) held fuel 68 [v] = some x) : ∃ a len cap l, v = .slice a len cap ∧ InCells w a len l := by
  have hc : Try.prog.cellsOf 38 = 2 := by kernel_rfl
  rcases open_slice Try.underlying68 h with ⟨hcs, _⟩ | ⟨a, len, cap, m, n, D, Pl, hcs, _, hl, hm, hmm, _, hi⟩
  · simp at hcs
    exact ⟨none, 0, 0, [], hcs, rfl, by simp, .inl rfl⟩
  · simp at hcs hmm
    subst hmm
    rw [hc] at hi
    obtain ⟨l, hll, hP⟩ := list_of (P := fun i x y => w.cell? (a.add (i * 2)) = some (.int .i64 x) ∧ w.cell? (a.add (i * 2 + 1)) = some (.int .i64 y)) len (fun i hi' => by
      obtain ⟨cs', h1, h2⟩ := hi i (by omega)
      obtain ⟨_, h3, h4⟩ := World.cells?_some h1
      obtain ⟨u, v, rfl⟩ := cell_of h2
      refine ⟨u, v, ?_, ?_⟩
      · have := h4 0 (by omega); rw [add_add] at this; exact this
      · have := h4 1 (by omega); rw [add_add] at this; exact this)
    unfold maxLen at hm
    refine ⟨some a, len, m, l, hcs, hll.symm, by omega, ?_⟩
    by_cases h0 : l = []
    · exact .inl h0
    · have hpos : 0 < l.length := List.length_pos_iff.2 h0
      obtain ⟨b, o, sp⟩ := a
      have hc0 := (hP 0 hpos).1
      have hsp : sp = none := by
        cases sp with
        | none => rfl
        | some x => simp [World.cell?, Addr.add] at hc0; split at hc0 <;> simp_all
      subst hsp
      have hadd : ∀ i, (⟨b, o, none⟩ : Addr).add i = ⟨b, o + i, none⟩ := fun i => by cases i <;> simp [Addr.add]
      refine .inr ⟨b, o, rfl, ?_, fun i hi' => ?_⟩
      · rw [hadd] at hc0; exact cell_lt hc0
      · have := hP i hi'; rw [hadd, hadd] at this; exact this
theorem openDisk {r : Reach} {b0 : Nat} {v : Value} {d : DataW H} {p : List MemPlace} (hv : Value.okWide Try.prog w r b0 70 v) (h : DataW.Trod enc Try.prog w base (fun _ => true) held 70 v d p) :
    ∃ (z : DZ) (ka : Option Addr) (km kc : Nat) (na : Option Addr) (nm nc : Nat), v = .agg #[.int .i64 z.n, .bool z.dead, .slice ka km kc, .slice na nm nc] ∧ i64B z.n ∧ InDisk w ka km na nm z := by
  obtain ⟨c0, c1, c2, c3, y0, y1, y2, y3, m, rfl, rfl, rfl, h0, h1, h2, h3⟩ := open_agg4 Try.underlying70 (by kernel_rfl) (by kernel_rfl) hv h
  obtain ⟨n, e0, _, wn⟩ := DataW.trod_int Try.underlying2 h0
  obtain ⟨dead, e1, _⟩ := DataW.trod_bool Try.underlying4 h1
  obtain ⟨ka, km, kc, kl, rfl, hk⟩ := openCells h2
  obtain ⟨na, nm, nc, nl, rfl, hn⟩ := openCells h3
  simp at e0 e1
  subst e0 e1
  simp only [Lit.wf, Bool.and_eq_true, decide_eq_true_eq] at wn
  exact ⟨⟨n, dead, kl, nl⟩, ka, km, kc, na, nm, nc, rfl, wn, hk, hn⟩
end
end Go.Proofs.Ytnkfmjgbeoddbaa
namespace Go.Proofs.Ytnkfmjgbeoddbaa
open Go.ChangeShapes Go.WideShapes Go.ChangeAt Go.RowKit Go.Joins Go.Deep

/-- disks that came in -/
def InDisks (w : World) (a : Option Addr) (len : Nat) (l : List DZ) : Prop :=
  len = l.length ∧ l.length ≤ 9223372036854775807 ∧ (l = [] ∨ ∃ b o, a = some ⟨b, o, none⟩ ∧ b < w.heap.size ∧ ∀ i (h : i < l.length), ∃ ka km kc na nm nc, w.cell? ⟨b, o + i * 4, none⟩ = some (.int .i64 l[i].n) ∧ w.cell? ⟨b, o + i * 4 + 1, none⟩ = some (.bool l[i].dead) ∧ w.cell? ⟨b, o + i * 4 + 2, none⟩ = some (.slice ka km kc) ∧ w.cell? ⟨b, o + i * 4 + 3, none⟩ = some (.slice na nm nc) ∧ InDisk w ka km na nm l[i])
theorem InDisks.kept {w w' : World} {a : Option Addr} {len : Nat} {l : List DZ} (h : InDisks w a len l) (g : w.grownBy w' none) : InDisks w' a len l := by
  obtain ⟨h1, h2, h3 | ⟨b, o, ha, hb, hc⟩⟩ := h
  · exact ⟨h1, h2, .inl h3⟩
  · refine ⟨h1, h2, .inr ⟨b, o, ha, by have := g.size; omega, fun i hi => ?_⟩⟩
    obtain ⟨ka, km, kc, na, nm, nc, x0, x1, x2, x3, x4⟩ := hc i hi
    exact ⟨ka, km, kc, na, nm, nc, gkc g x0, gkc g x1, gkc g x2, gkc g x3, x4.kept g⟩
/-- how many cells the disks have -/
def sizeC : List DZ → Nat
  | [] => 0
  | d :: r => d.k.length + d.m.length + sizeC r
theorem sizeC_append (a b : List DZ) : sizeC (a ++ b) = sizeC a + sizeC b := by
  induction a with
  | nil => simp [sizeC]
  | cons x r ih => simp [sizeC, ih]; omega
theorem sizeC_next {l : List DZ} {k : Nat} (h : k < l.length) : sizeC (l.take (k + 1)) = sizeC (l.take k) + (l[k].k.length + l[k].m.length) := by
  rw [List.take_succ_eq_append_getElem h, sizeC_append]; simp [sizeC]
theorem sizeC_take (l : List DZ) (k : Nat) : sizeC (l.take k) ≤ sizeC l := by
  have := sizeC_append (l.take k) (l.drop k)
  rw [List.take_append_drop] at this; omega
/-- they are not too many -/
def Small (l : List DZ) : Prop := l.length + sizeC l ≤ 1048576
theorem Small.at {l : List DZ} (h : Small l) (i : Nat) (hi : i < l.length) : l[i].k.length ≤ 1048576 ∧ l[i].m.length ≤ 1048576 := by
  have h1 := sizeC_next hi
  have h2 := sizeC_take l (i + 1)
  unfold Small at h; omega
theorem Small.len {l : List DZ} (h : Small l) : l.length ≤ 1048576 := by unfold Small at h; omega
theorem szDiskS_any (a : Option Addr) (len cap : Nat) (l : List DZ) (w : World) (h : InDisks w a len l) :
    Calls Try.prog 22 #[.slice a len cap, .int .i64 1048576] w fun e w' => ∃ x : Int, e = .returned (.int .i64 x) ∧ w.grownBy w' none ∧ (x < 0 ∨ (0 ≤ x ∧ Small l)) := by
  obtain rfl := h.1
  have hm := h.2.1
  by_cases h0 : (1048576 - (l.length : Int)) < 0
  · go_enter Try.func22, Try.ntmps22
    go_wp2_with fail
    go_ret
    exact ⟨-1, rfl, grefl _, .inl (by omega)⟩
  go_enter Try.func22, Try.ntmps22
  go_wp2_with fail
  go_loopw [1, 5] (fun x i wr => ∃ (k : Nat) (z : Int), k ≤ l.length ∧ i = .int .i64 k ∧ x = .int .i64 z ∧ 0 ≤ z ∧ z ≤ 1048576 ∧ w.grownBy wr none ∧ Hid (z = 1048576 - l.length - sizeC (l.take k))) (fun _ i _ => l.length - (intOf i).toNat)
  case atStart => exact ⟨0, _, Nat.zero_le _, rfl, rfl, by omega, by omega, grefl _, by show _ = _; simp [sizeC]⟩
  case round =>
    obtain ⟨k, z, hk, rfl, rfl, z0, z1, G, HB⟩ := hrel
    by_cases hlt : k < l.length
    · have hki : (k : Int) < l.length := by omega
      obtain ⟨-, -, h5 | ⟨b, o, rfl, hb, hc⟩⟩ := h.kept G
      · rw [h5] at hlt; simp at hlt
      obtain ⟨ka, km, kc, na, nm, nc, x0, x1, x2, x3, D⟩ := hc k hlt
      clear hc
      have HK := Lib.hid D.1.1
      have HM := Lib.hid D.2.1
      have k1 : km ≤ 9223372036854775807 := by rw [D.1.1]; exact D.1.2.1
      have m1 : nm ≤ 9223372036854775807 := by rw [D.2.1]; exact D.2.2.1
      by_cases hn : (z - km - nm : Int) < 0
      · go_wp2_with fail
        go_fit (szDisk_any _ _ _ _ _ _ _ _ _ _ k1 m1 z0 z1)
        rintro e w2 ⟨rfl, g2⟩
        rw [if_pos (by omega)]
        go_wp2_with fail
        go_ret
        exact ⟨-1, rfl, gtrans G g2, .inl (by omega)⟩
      · have HB' : Hid (z - km - nm = 1048576 - l.length - sizeC (l.take (k + 1))) := by
          show _ = _
          have e1 := HB.out
          have e2 := HK.out
          have e3 := HM.out
          rw [sizeC_next hlt]; omega
        clear HB
        go_wp2_with fail
        go_fit (szDisk_any _ _ _ _ _ _ _ _ _ _ k1 m1 z0 z1)
        rintro e w2 ⟨rfl, g2⟩
        rw [if_neg (by omega)]
        go_wp2_with fail
        go_roundw
        case rel => exact ⟨k + 1, _, by omega, by go_num, rfl, by omega, by omega, gtrans G g2, HB'⟩
        case measure => simp [intOf]; omega
    · go_wp2_with fail
      go_ret
      exact ⟨z, rfl, G, .inr ⟨z0, by have e1 := HB.out; rw [List.take_of_length_le (by omega)] at e1; unfold Small; omega⟩⟩
def zeroV : DV := ⟨0, false, none, 0, 0, none, 0, 0⟩
theorem made_disks (n : Nat) : (madeCells diskE.z.cells (n * 4)).toList = diskE.all (List.replicate n zeroV) := by
  apply List.ext_getElem?
  intro i
  by_cases hi : i < n * 4
  · have h2 := diskE_all (List.replicate n zeroV) (i / 4) (by simp; omega) (i % 4) (by omega)
    rw [show i / 4 * 4 + i % 4 = i by omega] at h2
    rw [h2]
    simp [madeCells, hi]
    rcases (show i % 4 = 0 ∨ i % 4 = 1 ∨ i % 4 = 2 ∨ i % 4 = 3 by omega) with e | e | e | e <;> simp [e, diskE, Value.cells, zeroV, DV.kv, DV.nv]
  · rw [List.getElem?_eq_none (by rw [Array.length_toList, size_madeCells]; omega), List.getElem?_eq_none (by rw [Elt.all_length]; simp [diskE]; omega)]
def zeroD (n : Nat) : Array Value := madeCells diskE.z.cells (n * 4)
theorem make_disks (n : Nat) (hn : n ≤ 1048576) (w : World) : (Instr.makeSlice 46 (.int .i64 n) (.int .i64 n)).run Try.prog w = .ok (.slice (some ⟨w.heap.size, 0, none⟩) n n) (w.alloc (.cells (zeroD n) 74)) := by
  obtain ⟨i, hi, hz, h1, h2⟩ := info_parts diskE.info
  have hr := run_make (P := Try.prog) w diskE.S diskE.T i diskE.z diskE.und hi hz .i64 .i64 n n (by omega) (by omega) (by rw [h2]; show (64 : Int) * n ≤ _; omega) (by omega)
  rw [h1] at hr
  simp only [Int.toNat_natCast] at hr
  exact hr
theorem OD.made (w : World) (n : Nat) (hn : n ≤ 1048576) : OD (w.alloc (.cells (zeroD n) 74)) w.heap.size (.slice (some ⟨w.heap.size, 0, none⟩) n n) (List.replicate n .zero) (List.replicate n zeroV) := by
  have h1 := Own.fresh diskE w (List.replicate n zeroV) _ (made_disks n) (by simp; omega) (Nat.le_refl w.heap.size)
  rw [List.length_replicate] at h1
  have hno : ∀ k, ¬ zeroV.has k := fun k h => by rcases h with h | h <;> simp [zeroV, DV.kv, DV.nv, Value.ownBlock] at h
  refine ⟨h1, by simp, fun i a b => ?_, fun i a => ?_, fun i j a b k x y => ?_, fun i a k x => ?_⟩
  · simp only [List.getElem_replicate]; exact ⟨rfl, rfl, CS.nil _ _, CS.nil _ _⟩
  · simp only [List.getElem_replicate]; exact .inl rfl
  · simp only [List.getElem_replicate] at x; exact absurd x (hno k)
  · simp only [List.getElem_replicate] at x; exact absurd x (hno k)
/-- the disks that are filled so far -/
def fillD (l : List DZ) (k : Nat) : List DZ := l.take k ++ List.replicate (l.length - k) .zero
theorem fillD_length (l : List DZ) (k : Nat) (h : k ≤ l.length) : (fillD l k).length = l.length := by simp [fillD]; omega
theorem fillD_set (l : List DZ) (k : Nat) (h : k < l.length) : (fillD l k).set k l[k] = fillD l (k + 1) := by
  unfold fillD
  rw [List.set_append_right _ _ (by simp; omega), show k - (l.take k).length = 0 by simp; omega, show l.length - k = (l.length - (k + 1)) + 1 by omega, List.replicate_succ, List.set_cons_zero, List.take_succ_eq_append_getElem h, List.append_assoc]
  rfl
/-- disk i is replaced by a new one -/
theorem OD.fresh {w w2 : World} {base n cap g : Nat} {l : List DZ} {raw : List DV} (h : OD w base (.slice (some ⟨g, 0, none⟩) n cap) l raw) (i : Nat) (hi : i < raw.length) (g2 : w.grownBy w2 none) (hb : base ≤ w.heap.size) (d : DZ) (ka : Option Addr) (km kc : Nat) (na : Option Addr) (nm nc : Nat)
    (hd : IsD w2 w.heap.size (.slice ka km kc) (.slice na nm nc) d) (hs : Apart (.slice ka km kc) (.slice na nm nc)) :
    OD (set4o w2 g (i * 4) (.int .i64 d.n) (.bool d.dead) (.slice ka km kc) (.slice na nm nc)) base (.slice (some ⟨g, 0, none⟩) n cap) (l.set i d) (raw.set i ⟨d.n, d.dead, ka, km, kc, na, nm, nc⟩) := by
  have hg := (h.own.lt g rfl)
  refine (h.grew g2).put i hi ⟨d.n, d.dead, ka, km, kc, na, nm, nc⟩ d ⟨rfl, rfl, ⟨hd.1.lower hb, hd.2.lower hb⟩⟩ hs fun k hk => ?_
  have hk' : w.heap.size ≤ k := by
    rcases hk with hk | hk
    · exact (hd.1.lt k hk).1
    · exact (hd.2.lt k hk).1
  exact ⟨by omega, fun j hj _ x => by have := (h.in j hj k x).2; omega⟩
set_option maxHeartbeats 1000000 in
theorem toDiskS_any (a : Option Addr) (len cap : Nat) (l : List DZ) (w : World) (h : InDisks w a len l) (hl : Small l) :
    Calls Try.prog 24 #[.slice a len cap] w (GotL l w) := by
  obtain rfl := h.1
  have hmk := make_disks l.length hl.len
  have C0 := OD.made w l.length hl.len
  have g0 := galloc (grefl w) (.cells (zeroD l.length) 74)
  have hm := hl.len
  have HS := Lib.hid hl.at
  clear hl
  go_enter Try.func24, Try.ntmps24
  go_wp2
  go_loopw [4] (fun i wr => ∃ (k : Nat) (raw : List DV), k ≤ l.length ∧ i = .int .i64 k ∧ OD wr w.heap.size (.slice (some ⟨w.heap.size, 0, none⟩) l.length l.length) (fillD l k) raw ∧ w.grownBy wr none) (fun i _ => l.length - (intOf i).toNat)
  case atStart => exact ⟨0, _, Nat.zero_le _, rfl, by simpa [fillD] using C0, g0⟩
  case round =>
    obtain ⟨k, raw, hk, rfl, C, G⟩ := hrel
    by_cases hlt : k < l.length
    · have hki : (k : Int) < l.length := by omega
      obtain ⟨-, -, h5 | ⟨b, o, rfl, hb, hc⟩⟩ := h.kept G
      · rw [h5] at hlt; simp at hlt
      obtain ⟨ka, km, kc, na, nm, nc, x0, x1, x2, x3, D⟩ := hc k hlt
      clear hc hmk C0 g0
      have hsz := HS.out k hlt
      go_wp2_with fail
      go_fit (toDisk_any _ _ _ _ _ _ l[k] _ D hsz.1 hsz.2)
      rintro e w2 ⟨kv, nv, rfl, d2, ap, g2⟩
      obtain ⟨ka2, km2, kc2, rfl⟩ := d2.1.sl
      obtain ⟨na2, nm2, nc2, rfl⟩ := d2.2.sl
      have hrl : k < raw.length := by rw [C.len, fillD_length l k hk]; exact hlt
      obtain ⟨g, hg, _, _, hat⟩ := Own.at (C.own.grew g2) k hrl
      cases hg
      obtain ⟨y0, z0⟩ := hat 0 _ rfl
      obtain ⟨y1, z1⟩ := hat 1 _ rfl
      obtain ⟨y2, z2⟩ := hat 2 _ rfl
      obtain ⟨y3, z3⟩ := hat 3 _ rfl
      clear hat
      change w2.cell? ⟨w.heap.size, k * 4 + 0, none⟩ = _ at y0
      change w2.frozen? ⟨w.heap.size, k * 4 + 0, none⟩ = _ at z0
      change w2.cell? ⟨w.heap.size, k * 4 + 1, none⟩ = _ at y1
      change w2.frozen? ⟨w.heap.size, k * 4 + 1, none⟩ = _ at z1
      change w2.cell? ⟨w.heap.size, k * 4 + 2, none⟩ = _ at y2
      change w2.frozen? ⟨w.heap.size, k * 4 + 2, none⟩ = _ at z2
      change w2.cell? ⟨w.heap.size, k * 4 + 3, none⟩ = _ at y3
      change w2.frozen? ⟨w.heap.size, k * 4 + 3, none⟩ = _ at z3
      simp only [Nat.add_zero] at y0 z0
      have C3 := C.fresh k hrl g2 (gsize G) l[k] ka2 km2 kc2 na2 nm2 nc2 d2 ap
      rw [fillD_set l k hlt] at C3
      have G3 : w.grownBy (set4o w2 w.heap.size (k * 4) (.int .i64 l[k].n) (.bool l[k].dead) (.slice ka2 km2 kc2) (.slice na2 nm2 nc2)) none := gset1 (gset1 (gset1 (gset1 (gtrans G g2) (Nat.le_refl _) _ _) (Nat.le_refl _) _ _) (Nat.le_refl _) _ _) (Nat.le_refl _) _ _
      go_wp2_with fail
      go_roundw
      case rel => exact ⟨k + 1, _, by omega, by go_num, C3, G3⟩
      case measure => simp [intOf]; omega
    · obtain rfl : k = l.length := by omega
      clear hmk C0 g0
      go_wp2_with fail
      go_ret
      exact ⟨_, raw, rfl, by simpa [fillD] using C, G⟩
theorem eqDiskS_yes (v1 v2 : Value) (l : List DZ) (w : World) (h1 : LD w v1 l) (h2 : LD w v2 l) :
    Calls Try.prog 26 #[v1, v2] w (Pure (.bool true) w) := by
  obtain ⟨a1, c1, rfl, hm⟩ := h1.form
  obtain ⟨a2, c2, rfl, _⟩ := h2.form
  go_enter Try.func26, Try.ntmps26
  go_wp2
  go_loopw [5] (fun i wr => ∃ k : Nat, k ≤ l.length ∧ i = .int .i64 k ∧ w.grownBy wr none) (fun i _ => l.length - (intOf i).toNat)
  case atStart => exact ⟨0, Nat.zero_le _, rfl, grefl _⟩
  case round =>
    obtain ⟨k, hk, rfl, G⟩ := hrel
    by_cases hlt : k < l.length
    · obtain ⟨g, o, ka, km, kc, na, nm, nc, rfl, x0, x1, x2, x3, D⟩ := (h1.kept G).at k hlt
      obtain ⟨g', o', ka', km', kc', na', nm', nc', rfl, y0, y1, y2, y3, D'⟩ := (h2.kept G).at k hlt
      have hki : (k : Int) < l.length := by omega
      go_wp2_with fail
      refine region_calm (fun w' => (w'.cell? ⟨g, o + k * 4, none⟩ = some (.int .i64 l[k].n) ∧ w'.cell? ⟨g, o + k * 4 + 1, none⟩ = some (.bool l[k].dead) ∧ w'.cell? ⟨g, o + k * 4 + 2, none⟩ = some (.slice ka km kc) ∧ w'.cell? ⟨g, o + k * 4 + 3, none⟩ = some (.slice na nm nc)) ∧ (w'.cell? ⟨g', o' + k * 4, none⟩ = some (.int .i64 l[k].n) ∧ w'.cell? ⟨g', o' + k * 4 + 1, none⟩ = some (.bool l[k].dead) ∧ w'.cell? ⟨g', o' + k * 4 + 2, none⟩ = some (.slice ka' km' kc') ∧ w'.cell? ⟨g', o' + k * 4 + 3, none⟩ = some (.slice na' nm' nc')) ∧ wr.grownBy w' none) (by kernel_rfl) (by kernel_rfl) (⟨⟨x0, x1, x2, x3⟩, ⟨y0, y1, y2, y3⟩, gdrew (grefl _) 1⟩) ?_
      repeat (first
        | (refine calm_skip (by rfl) ?_; simp only [Act.put, List.setIfInBounds_toArray, List.set_cons_zero, List.set_cons_succ])
        | (refine calm_step (by rfl) ?_
           apply Exists.intro
           refine ⟨fun w' hw' => ?_, ?_⟩
           · go_simp
             first | done | exact rfl | (go_at_call 57; go_fit (eqDisk_yes _ _ _ _ l[k] _ (D.grew hw'.2.2) (D'.grew hw'.2.2)); rintro e w8 ⟨rfl, g8⟩; exact And.intro rfl (And.intro (And.intro (gkc g8 hw'.1.1) (And.intro (gkc g8 hw'.1.2.1) (And.intro (gkc g8 hw'.1.2.2.1) (gkc g8 hw'.1.2.2.2)))) (And.intro (And.intro (gkc g8 hw'.2.1.1) (And.intro (gkc g8 hw'.2.1.2.1) (And.intro (gkc g8 hw'.2.1.2.2.1) (gkc g8 hw'.2.1.2.2.2)))) (gtrans hw'.2.2 g8))))
           simp only [Act.put, List.setIfInBounds_toArray, List.set_cons_zero, List.set_cons_succ]))
      refine calm_nil ?_
      intro w9 hw9
      go_wp2_with fail
      go_roundw
      case rel => exact ⟨k + 1, by omega, by go_num, gtrans G hw9.2.2⟩
      case measure => simp [intOf]; omega
    · go_wp2_with fail
      go_ret
      exact ⟨rfl, G⟩
end Go.Proofs.Ytnkfmjgbeoddbaa
namespace Go.Proofs.Ytnkfmjgbeoddbaa
open Go.ChangeShapes Go.WideShapes Go.ChangeAt Go.RowKit Go.Joins Go.Deep

end Go.Proofs.Ytnkfmjgbeoddbaa
namespace Go.Proofs.Ytnkfmjgbeoddbaa
open Go.ChangeShapes Go.WideShapes Go.ChangeAt Go.RowKit Go.Joins Go.Deep

def mkD (k : Int) (d : DZ) : DZ := ⟨k, (k + 1) % 3 == 0, markL (k + 1 + 1) d.k.length, markL (k + 1 + 1 + 2 * d.k.length) d.m.length⟩
def mkN (k : Int) (l : List DZ) (j : Nat) : Int := k + 2 * j + 2 * sizeC (l.take j)
def markDs (k : Int) (l : List DZ) : List DZ := (List.range l.length).map fun i => mkD (mkN k l i) (l.getD i .zero)
theorem markDs_length (k : Int) (l : List DZ) : (markDs k l).length = l.length := by simp [markDs]
theorem markDs_get (k : Int) (l : List DZ) (i : Nat) (h : i < (markDs k l).length) : (markDs k l)[i] = mkD (mkN k l i) (l.getD i .zero) := by simp [markDs]
theorem markDs_of {k : Int} {l l' : List DZ} (hl : l'.length = l.length) (h : ∀ i (h : i < l'.length), i < l.length → l'[i] = mkD (mkN k l i) (l.getD i .zero)) : l' = markDs k l := by
  apply List.ext_getElem
  · rw [hl, markDs_length]
  · intro i h1 h2
    rw [markDs_get]
    exact h i h1 (by omega)
theorem mkN_next {k : Int} {l : List DZ} {j : Nat} (h : j < l.length) : mkN k l (j + 1) = mkN k l j + 1 + 1 + 2 * l[j].k.length + 2 * l[j].m.length := by
  unfold mkN
  rw [sizeC_next h]; omega
end Go.Proofs.Ytnkfmjgbeoddbaa
namespace Go.Proofs.Ytnkfmjgbeoddbaa
open Go.ChangeShapes Go.WideShapes Go.ChangeAt Go.RowKit Go.Joins Go.Deep
set_option maxRecDepth 8000

theorem listD_of {P : Nat → DZ → Prop} : ∀ n : Nat, (∀ i, i < n → ∃ x, P i x) → ∃ l : List DZ, l.length = n ∧ ∀ i (h : i < l.length), P i l[i]
  | 0, _ => ⟨[], rfl, fun i h => by simp at h⟩
  | n + 1, hP => by
    obtain ⟨l, hl, h⟩ := listD_of n (fun i hi => hP i (by omega))
    obtain ⟨x, hx⟩ := hP n (by omega)
    refine ⟨l ++ [x], by simp [hl], fun i hi => ?_⟩
    simp at hi
    by_cases hn : i < l.length
    · rw [List.getElem_append_left hn]; exact h i hn
    · have : i = l.length := by omega
      subst this
      simp [hl]
      exact hx
section
variable {H : Type} {enc : TypeId × Value → H} {w : World} {base : Nat} {held : Bool}
theorem disk_of {fuel : Nat} {cs : List Value} {x : DataW H × List MemPlace} (h : DataW.trod enc Try.prog w base (fun _ => true) held fuel 70 cs = some x) :
    ∃ (z : DZ) (ka : Option Addr) (km kc : Nat) (na : Option Addr) (nm nc : Nat), cs = [.int .i64 z.n, .bool z.dead, .slice ka km kc, .slice na nm nc] ∧ InDisk w ka km na nm z := by
  obtain ⟨xs, n, rfl, _, hlen, hxs, hf⟩ := DataW.trod_struct Try.underlying70 h
  have hc : Try.prog.cellsOf 70 = 4 := by kernel_rfl
  have hi : Try.prog.cellsOf 2 = 1 := by kernel_rfl
  have hb : Try.prog.cellsOf 4 = 1 := by kernel_rfl
  have hs : Try.prog.cellsOf 68 = 1 := by kernel_rfl
  rw [hc] at hlen
  match cs, hlen with
  | [c0, c1, c2, c3], _ =>
    match xs, hxs with
    | [y0, y1, y2, y3], _ =>
      have h0 := hf 0 _ rfl
      have h1 := hf 1 _ rfl
      have h2 := hf 2 _ rfl
      have h3 := hf 3 _ rfl
      simp [hi, hb, hs] at h0 h1 h2 h3
      obtain ⟨u, e0, _⟩ := DataW.trod_int Try.underlying2 h0
      obtain ⟨b, e1, _⟩ := DataW.trod_bool Try.underlying4 h1
      obtain ⟨ka, km, kc, kl, rfl, hk⟩ := openCells h2
      obtain ⟨na, nm, nc, nl, rfl, hn⟩ := openCells h3
      simp at e0 e1
      exact ⟨⟨u, b, kl, nl⟩, ka, km, kc, na, nm, nc, by rw [e0, e1], hk, hn⟩
theorem openDisksOf {fuel : Nat} {v : Value} {x : DataW H × List MemPlace} (h : DataW.trod enc Try.prog w base (fun _ => true) held fuel 42 [v] = some x) : ∃ a len cap l, v = .slice a len cap ∧ InDisks w a len l := by
  have hc : Try.prog.cellsOf 70 = 4 := by kernel_rfl
  rcases open_slice Try.underlying42 h with ⟨hcs, _⟩ | ⟨a, len, cap, m, n, D, Pl, hcs, _, hl, hm, hmm, _, hi⟩
  · simp at hcs
    exact ⟨none, 0, 0, [], hcs, rfl, by simp, .inl rfl⟩
  · simp at hcs hmm
    subst hmm
    rw [hc] at hi
    obtain ⟨l, hll, hP⟩ := listD_of (P := fun i z => ∃ ka km kc na nm nc, w.cell? (a.add (i * 4)) = some (.int .i64 z.n) ∧ w.cell? (a.add (i * 4 + 1)) = some (.bool z.dead) ∧ w.cell? (a.add (i * 4 + 2)) = some (.slice ka km kc) ∧ w.cell? (a.add (i * 4 + 3)) = some (.slice na nm nc) ∧ InDisk w ka km na nm z) len (fun i hi' => by
      obtain ⟨cs', h1, h2⟩ := hi i (by omega)
      obtain ⟨_, h3, h4⟩ := World.cells?_some h1
      obtain ⟨z, ka, km, kc, na, nm, nc, rfl, hz⟩ := disk_of h2
      refine ⟨z, ka, km, kc, na, nm, nc, ?_, ?_, ?_, ?_, hz⟩
      · have := h4 0 (by omega); rw [add_add] at this; exact this
      · have := h4 1 (by omega); rw [add_add] at this; exact this
      · have := h4 2 (by omega); rw [add_add] at this; exact this
      · have := h4 3 (by omega); rw [add_add] at this; exact this)
    unfold maxLen at hm
    refine ⟨some a, len, m, l, hcs, hll.symm, by omega, ?_⟩
    by_cases h0 : l = []
    · exact .inl h0
    · have hpos : 0 < l.length := List.length_pos_iff.2 h0
      obtain ⟨b, o, sp⟩ := a
      obtain ⟨_, _, _, _, _, _, hc0, _⟩ := hP 0 hpos
      have hsp : sp = none := by
        cases sp with
        | none => rfl
        | some x => simp [World.cell?, Addr.add] at hc0; split at hc0 <;> simp_all
      subst hsp
      have hadd : ∀ i, (⟨b, o, none⟩ : Addr).add i = ⟨b, o + i, none⟩ := fun i => by cases i <;> simp [Addr.add]
      refine .inr ⟨b, o, rfl, ?_, fun i hi' => ?_⟩
      · rw [hadd] at hc0; exact cell_lt hc0
      · obtain ⟨ka, km, kc, na, nm, nc, x0, x1, x2, x3, x4⟩ := hP i hi'
        rw [hadd] at x0 x1 x2 x3
        exact ⟨ka, km, kc, na, nm, nc, x0, x1, x2, x3, x4⟩
theorem openDisks {r : Reach} {b0 : Nat} {v : Value} {d : DataW H} {p : List MemPlace} (hv : Value.okWide Try.prog w r b0 42 v) (h : DataW.Trod enc Try.prog w base (fun _ => true) held 42 v d p) :
    ∃ (l : List DZ) (a : Option Addr) (len cap : Nat), v = .slice a len cap ∧ InDisks w a len l := by
  obtain ⟨a0, n0, c0, rfl⟩ := okWide_slice Try.underlying42 hv
  obtain ⟨fuel, h⟩ := h
  obtain ⟨a, len, cap, l, h1, h2⟩ := openDisksOf (by simpa [Value.cells] using h)
  exact ⟨l, a, len, cap, h1, h2⟩
end
end Go.Proofs.Ytnkfmjgbeoddbaa
