/- A disk that came in, opened. The laws' own helpers over lists of disks: what came in, opened, measured, copied, compared. The laws' own helpers: lists of numbers and of disks are marked, and are held against their marks. The laws' own helpers: a list of disks is marked, told exactly, and is held against its marks. A list of disks that came in, opened. -/
import Derived.Test.YteialkknddpbjaaGreatDoorLawL03b
import Derived.Deep.Slices
import Derived.Deep.Fields
import Derived.Test.YteialkknddpbjaaGreatDoorOwnD2
import Derived.Test.YteialkknddpbjaaGreatDoorBaseL04
import Derived.Deep.DeepFit
import Derived.Deep.DeepCutAuto
namespace Go.Proofs.YteialkknddpbjaaGreatDoor
open Go.ChangeShapes Go.WideShapes Go.ChangeAt Go.RowKit Go.Joins Go.Deep
set_option maxRecDepth 8000

theorem list_of {P : Nat → Int → Int → Prop} : ∀ n : Nat, (∀ i, i < n → ∃ x y, P i x y) → ∃ l : List (Int × Int), l.length = n ∧ ∀ i (h : i < l.length), P i l[i].1 l[i].2
  | 0, _ => ⟨[], rfl, fun i h => by simp at h⟩
  | n + 1, hP => by
    obtain ⟨l, hl, h⟩ := list_of n (fun i hi => hP i (by omega))
    obtain ⟨x, y, hxy⟩ := hP n (by omega)
    refine ⟨l ++ [(x, y)], by simp [hl], fun i hi => ?_⟩
    simp at hi
    by_cases hn : i < l.length
    · rw [List.getElem_append_left hn]; exact h i hn
    · have : i = l.length := by omega
      subst this
      simp [hl]
      exact hxy
section
variable {H : Type} {enc : TypeId × Value → H} {w : World} {base : Nat} {held : Bool}
theorem cell_of {fuel : Nat} {cs : List Value} {x : DataW H × List MemPlace} (h : DataW.trod enc Tryz.prog w base (fun _ => true) held fuel 259 cs = some x) : ∃ u v : Int, cs = [.int .i64 u, .int .i64 v] := by
  obtain ⟨xs, n, rfl, _, hlen, hxs, hf⟩ := DataW.trod_struct Tryz.underlying259 h
  have hc : Tryz.prog.cellsOf 259 = 2 := by kernel_rfl
  have hi : Tryz.prog.cellsOf 2 = 1 := by kernel_rfl
  rw [hc] at hlen
  match cs, hlen with
  | [c0, c1], _ =>
    match xs, hxs with
    | [y0, y1], _ =>
      have h0 := hf 0 _ rfl
      have h1 := hf 1 _ rfl
      simp [hi] at h0 h1
      obtain ⟨u, e0, _⟩ := DataW.trod_int Tryz.underlying2 h0
      obtain ⟨v, e1, _⟩ := DataW.trod_int Tryz.underlying2 h1
      simp at e0 e1
      exact ⟨u, v, by rw [e0, e1]⟩
theorem openCells {fuel : Nat} {v : Value} {x : DataW H × List MemPlace} (h : DataW.trod enc Tryz.prog w base (fun _ => true) held fuel 186 [v] = some x) : ∃ a len cap l, v = .slice a len cap ∧ InCells w a len l := by
  have hc : Tryz.prog.cellsOf 259 = 2 := by kernel_rfl
  rcases open_slice Tryz.underlying186 h with ⟨hcs, _⟩ | ⟨a, len, cap, m, n, D, Pl, hcs, _, hl, hm, hmm, _, hi⟩
  · simp at hcs
    exact ⟨none, 0, 0, [], hcs, rfl, by simp, .inl rfl⟩
  · simp at hcs hmm
    subst hmm
    rw [hc] at hi
    obtain ⟨l, hll, hP⟩ := list_of (P := fun i x y => w.cell? (a.add (i * 2)) = some (.int .i64 x) ∧ w.cell? (a.add (i * 2 + 1)) = some (.int .i64 y)) len (fun i hi' => by
      obtain ⟨cs', h1, h2⟩ := hi i (by omega)
      obtain ⟨_, h3, h4⟩ := World.cells?_some h1
      obtain ⟨u, v, rfl⟩ := cell_of h2
      refine ⟨u, v, ?_, ?_⟩
      · have := h4 0 (by omega); rw [add_add] at this; exact this
      · have := h4 1 (by omega); rw [add_add] at this; exact this)
    unfold maxLen at hm
    refine ⟨some a, len, m, l, hcs, hll.symm, by omega, ?_⟩
    by_cases h0 : l = []
    · exact .inl h0
    · have hpos : 0 < l.length := List.length_pos_iff.2 h0
      obtain ⟨b, o, sp⟩ := a
      have hc0 := (hP 0 hpos).1
      have hsp : sp = none := by
        cases sp with
        | none => rfl
        | some x => simp [World.cell?, Addr.add] at hc0; split at hc0 <;> simp_all
      subst hsp
      have hadd : ∀ i, (⟨b, o, none⟩ : Addr).add i = ⟨b, o + i, none⟩ := fun i => by cases i <;> simp [Addr.add]
      refine .inr ⟨b, o, rfl, ?_, fun i hi' => ?_⟩
      · rw [hadd] at hc0; exact cell_lt hc0
      · have := hP i hi'; rw [hadd, hadd] at this; exact this
theorem openDisk {r : Reach} {b0 : Nat} {v : Value} {d : DataW H} {p : List MemPlace} (hv : Value.okWide Tryz.prog w r b0 188 v) (h : DataW.Trod enc Tryz.prog w base (fun _ => true) held 188 v d p) :
    ∃ (z : DZ) (ka : Option Addr) (km kc : Nat) (na : Option Addr) (nm nc : Nat), v = .agg #[.int .i64 z.n, .bool z.dead, .slice ka km kc, .slice na nm nc] ∧ i64B z.n ∧ InDisk w ka km na nm z := by
  obtain ⟨c0, c1, c2, c3, y0, y1, y2, y3, m, rfl, rfl, rfl, h0, h1, h2, h3⟩ := open_agg4 Tryz.underlying188 (by kernel_rfl) (by kernel_rfl) hv h
  obtain ⟨n, e0, _, wn⟩ := DataW.trod_int Tryz.underlying2 h0
  obtain ⟨dead, e1, _⟩ := DataW.trod_bool Tryz.underlying4 h1
  obtain ⟨ka, km, kc, kl, rfl, hk⟩ := openCells h2
  obtain ⟨na, nm, nc, nl, rfl, hn⟩ := openCells h3
  simp at e0 e1
  subst e0 e1
  simp only [Lit.wf, Bool.and_eq_true, decide_eq_true_eq] at wn
  exact ⟨⟨n, dead, kl, nl⟩, ka, km, kc, na, nm, nc, rfl, wn, hk, hn⟩
end
end Go.Proofs.YteialkknddpbjaaGreatDoor
namespace Go.Proofs.YteialkknddpbjaaGreatDoor
open Go.ChangeShapes Go.WideShapes Go.ChangeAt Go.RowKit Go.Joins Go.Deep

/-- disks that came in -/
def InDisks (w : World) (a : Option Addr) (len : Nat) (l : List DZ) : Prop :=
  len = l.length ∧ l.length ≤ 9223372036854775807 ∧ (l = [] ∨ ∃ b o, a = some ⟨b, o, none⟩ ∧ b < w.heap.size ∧ ∀ i (h : i < l.length), ∃ ka km kc na nm nc, w.cell? ⟨b, o + i * 4, none⟩ = some (.int .i64 l[i].n) ∧ w.cell? ⟨b, o + i * 4 + 1, none⟩ = some (.bool l[i].dead) ∧ w.cell? ⟨b, o + i * 4 + 2, none⟩ = some (.slice ka km kc) ∧ w.cell? ⟨b, o + i * 4 + 3, none⟩ = some (.slice na nm nc) ∧ InDisk w ka km na nm l[i])
theorem InDisks.kept {w w' : World} {a : Option Addr} {len : Nat} {l : List DZ} (h : InDisks w a len l) (g : w.grownBy w' none) : InDisks w' a len l := by
  obtain ⟨h1, h2, h3 | ⟨b, o, ha, hb, hc⟩⟩ := h
  · exact ⟨h1, h2, .inl h3⟩
  · refine ⟨h1, h2, .inr ⟨b, o, ha, by have := g.size; omega, fun i hi => ?_⟩⟩
    obtain ⟨ka, km, kc, na, nm, nc, x0, x1, x2, x3, x4⟩ := hc i hi
    exact ⟨ka, km, kc, na, nm, nc, gkc g x0, gkc g x1, gkc g x2, gkc g x3, x4.kept g⟩
/-- how many cells the disks have -/
def sizeC : List DZ → Nat
  | [] => 0
  | d :: r => d.k.length + d.m.length + sizeC r
theorem sizeC_append (a b : List DZ) : sizeC (a ++ b) = sizeC a + sizeC b := by
  induction a with
  | nil => simp [sizeC]
  | cons x r ih => simp [sizeC, ih]; omega
theorem sizeC_next {l : List DZ} {k : Nat} (h : k < l.length) : sizeC (l.take (k + 1)) = sizeC (l.take k) + (l[k].k.length + l[k].m.length) := by
  rw [List.take_succ_eq_append_getElem h, sizeC_append]; simp [sizeC]
theorem sizeC_take (l : List DZ) (k : Nat) : sizeC (l.take k) ≤ sizeC l := by
  have := sizeC_append (l.take k) (l.drop k)
  rw [List.take_append_drop] at this; omega
/-- they are not too many -/
def Small (l : List DZ) : Prop := l.length + sizeC l ≤ 1048576
theorem Small.at {l : List DZ} (h : Small l) (i : Nat) (hi : i < l.length) : l[i].k.length ≤ 1048576 ∧ l[i].m.length ≤ 1048576 := by
  have h1 := sizeC_next hi
  have h2 := sizeC_take l (i + 1)
  unfold Small at h; omega
theorem Small.len {l : List DZ} (h : Small l) : l.length ≤ 1048576 := by unfold Small at h; omega
theorem szDiskS_any (a : Option Addr) (len cap : Nat) (l : List DZ) (w : World) (h : InDisks w a len l) :
    Calls Tryz.prog 127 #[.slice a len cap, .int .i64 1048576] w fun e w' => ∃ x : Int, e = .returned (.int .i64 x) ∧ w.grownBy w' none ∧ (x < 0 ∨ (0 ≤ x ∧ Small l)) := by
  obtain rfl := h.1
  have hm := h.2.1
  by_cases h0 : (1048576 - (l.length : Int)) < 0
  · go_enter Tryz.func127, Tryz.ntmps127
    go_wp2_with fail
    go_ret
    exact ⟨-1, rfl, grefl _, .inl (by omega)⟩
  go_enter Tryz.func127, Tryz.ntmps127
  go_wp2_with fail
  go_loopw [1, 5] (fun x i wr => ∃ (k : Nat) (z : Int), k ≤ l.length ∧ i = .int .i64 k ∧ x = .int .i64 z ∧ 0 ≤ z ∧ z ≤ 1048576 ∧ w.grownBy wr none ∧ Hid (z = 1048576 - l.length - sizeC (l.take k))) (fun _ i _ => l.length - (intOf i).toNat)
  case atStart => exact ⟨0, _, Nat.zero_le _, rfl, rfl, by omega, by omega, grefl _, by show _ = _; simp [sizeC]⟩
  case round =>
    obtain ⟨k, z, hk, rfl, rfl, z0, z1, G, HB⟩ := hrel
    by_cases hlt : k < l.length
    · have hki : (k : Int) < l.length := by omega
      obtain ⟨-, -, h5 | ⟨b, o, rfl, hb, hc⟩⟩ := h.kept G
      · rw [h5] at hlt; simp at hlt
      obtain ⟨ka, km, kc, na, nm, nc, x0, x1, x2, x3, D⟩ := hc k hlt
      clear hc
      have HK := Lib.hid D.1.1
      have HM := Lib.hid D.2.1
      have k1 : km ≤ 9223372036854775807 := by rw [D.1.1]; exact D.1.2.1
      have m1 : nm ≤ 9223372036854775807 := by rw [D.2.1]; exact D.2.2.1
      by_cases hn : (z - km - nm : Int) < 0
      · go_wp2_with fail
        go_fit (szDisk_any _ _ _ _ _ _ _ _ _ _ k1 m1 z0 z1)
        rintro e w2 ⟨rfl, g2⟩
        rw [if_pos (by omega)]
        go_wp2_with fail
        go_ret
        exact ⟨-1, rfl, gtrans G g2, .inl (by omega)⟩
      · have HB' : Hid (z - km - nm = 1048576 - l.length - sizeC (l.take (k + 1))) := by
          show _ = _
          have e1 := HB.out
          have e2 := HK.out
          have e3 := HM.out
          rw [sizeC_next hlt]; omega
        clear HB
        go_wp2_with fail
        go_fit (szDisk_any _ _ _ _ _ _ _ _ _ _ k1 m1 z0 z1)
        rintro e w2 ⟨rfl, g2⟩
        rw [if_neg (by omega)]
        go_wp2_with fail
        go_roundw
        case rel => exact ⟨k + 1, _, by omega, by go_num, rfl, by omega, by omega, gtrans G g2, HB'⟩
        case measure => simp [intOf]; omega
    · go_wp2_with fail
      go_ret
      exact ⟨z, rfl, G, .inr ⟨z0, by have e1 := HB.out; rw [List.take_of_length_le (by omega)] at e1; unfold Small; omega⟩⟩
def zeroV : DV := ⟨0, false, none, 0, 0, none, 0, 0⟩
theorem made_disks (n : Nat) : (madeCells diskE.z.cells (n * 4)).toList = diskE.all (List.replicate n zeroV) := by
  apply List.ext_getElem?
  intro i
  by_cases hi : i < n * 4
  · have h2 := diskE_all (List.replicate n zeroV) (i / 4) (by simp; omega) (i % 4) (by omega)
    rw [show i / 4 * 4 + i % 4 = i by omega] at h2
    rw [h2]
    simp [madeCells, hi]
    rcases (show i % 4 = 0 ∨ i % 4 = 1 ∨ i % 4 = 2 ∨ i % 4 = 3 by omega) with e | e | e | e <;> simp [e, diskE, Value.cells, zeroV, DV.kv, DV.nv]
  · rw [List.getElem?_eq_none (by rw [Array.length_toList, size_madeCells]; omega), List.getElem?_eq_none (by rw [Elt.all_length]; simp [diskE]; omega)]
def zeroD (n : Nat) : Array Value := madeCells diskE.z.cells (n * 4)
theorem make_disks (n : Nat) (hn : n ≤ 1048576) (w : World) : (Instr.makeSlice 24 (.int .i64 n) (.int .i64 n)).run Tryz.prog w = .ok (.slice (some ⟨w.heap.size, 0, none⟩) n n) (w.alloc (.cells (zeroD n) 37)) := by
  obtain ⟨i, hi, hz, h1, h2⟩ := info_parts diskE.info
  have hr := run_make (P := Tryz.prog) w diskE.S diskE.T i diskE.z diskE.und hi hz .i64 .i64 n n (by omega) (by omega) (by rw [h2]; show (64 : Int) * n ≤ _; omega) (by omega)
  rw [h1] at hr
  simp only [Int.toNat_natCast] at hr
  exact hr
theorem OD.made (w : World) (n : Nat) (hn : n ≤ 1048576) : OD (w.alloc (.cells (zeroD n) 37)) w.heap.size (.slice (some ⟨w.heap.size, 0, none⟩) n n) (List.replicate n .zero) (List.replicate n zeroV) := by
  have h1 := Own.fresh diskE w (List.replicate n zeroV) _ (made_disks n) (by simp; omega) (Nat.le_refl w.heap.size)
  rw [List.length_replicate] at h1
  have hno : ∀ k, ¬ zeroV.has k := fun k h => by rcases h with h | h <;> simp [zeroV, DV.kv, DV.nv, Value.ownBlock] at h
  refine ⟨h1, by simp, fun i a b => ?_, fun i a => ?_, fun i j a b k x y => ?_, fun i a k x => ?_⟩
  · simp only [List.getElem_replicate]; exact ⟨rfl, rfl, CS.nil _ _, CS.nil _ _⟩
  · simp only [List.getElem_replicate]; exact .inl rfl
  · simp only [List.getElem_replicate] at x; exact absurd x (hno k)
  · simp only [List.getElem_replicate] at x; exact absurd x (hno k)
/-- the disks that are filled so far -/
def fillD (l : List DZ) (k : Nat) : List DZ := l.take k ++ List.replicate (l.length - k) .zero
theorem fillD_length (l : List DZ) (k : Nat) (h : k ≤ l.length) : (fillD l k).length = l.length := by simp [fillD]; omega
theorem fillD_set (l : List DZ) (k : Nat) (h : k < l.length) : (fillD l k).set k l[k] = fillD l (k + 1) := by
  unfold fillD
  rw [List.set_append_right _ _ (by simp; omega), show k - (l.take k).length = 0 by simp; omega, show l.length - k = (l.length - (k + 1)) + 1 by omega, List.replicate_succ, List.set_cons_zero, List.take_succ_eq_append_getElem h, List.append_assoc]
  rfl
/-- disk i is replaced by a new one -/
theorem OD.fresh {w w2 : World} {base n cap g : Nat} {l : List DZ} {raw : List DV} (h : OD w base (.slice (some ⟨g, 0, none⟩) n cap) l raw) (i : Nat) (hi : i < raw.length) (g2 : w.grownBy w2 none) (hb : base ≤ w.heap.size) (d : DZ) (ka : Option Addr) (km kc : Nat) (na : Option Addr) (nm nc : Nat)
    (hd : IsD w2 w.heap.size (.slice ka km kc) (.slice na nm nc) d) (hs : Apart (.slice ka km kc) (.slice na nm nc)) :
    OD (set4o w2 g (i * 4) (.int .i64 d.n) (.bool d.dead) (.slice ka km kc) (.slice na nm nc)) base (.slice (some ⟨g, 0, none⟩) n cap) (l.set i d) (raw.set i ⟨d.n, d.dead, ka, km, kc, na, nm, nc⟩) := by
  have hg := (h.own.lt g rfl)
  refine (h.grew g2).put i hi ⟨d.n, d.dead, ka, km, kc, na, nm, nc⟩ d ⟨rfl, rfl, ⟨hd.1.lower hb, hd.2.lower hb⟩⟩ hs fun k hk => ?_
  have hk' : w.heap.size ≤ k := by
    rcases hk with hk | hk
    · exact (hd.1.lt k hk).1
    · exact (hd.2.lt k hk).1
  exact ⟨by omega, fun j hj _ x => by have := (h.in j hj k x).2; omega⟩
set_option maxHeartbeats 1000000 in
theorem toDiskS_any (a : Option Addr) (len cap : Nat) (l : List DZ) (w : World) (h : InDisks w a len l) (hl : Small l) :
    Calls Tryz.prog 128 #[.slice a len cap] w (GotL l w) := by
  obtain rfl := h.1
  have hmk := make_disks l.length hl.len
  have C0 := OD.made w l.length hl.len
  have g0 := galloc (grefl w) (.cells (zeroD l.length) 37)
  have hm := hl.len
  have HS := Lib.hid hl.at
  clear hl
  go_enter Tryz.func128, Tryz.ntmps128
  go_wp2
  go_loopw [4] (fun i wr => ∃ (k : Nat) (raw : List DV), k ≤ l.length ∧ i = .int .i64 k ∧ OD wr w.heap.size (.slice (some ⟨w.heap.size, 0, none⟩) l.length l.length) (fillD l k) raw ∧ w.grownBy wr none) (fun i _ => l.length - (intOf i).toNat)
  case atStart => exact ⟨0, _, Nat.zero_le _, rfl, by simpa [fillD] using C0, g0⟩
  case round =>
    obtain ⟨k, raw, hk, rfl, C, G⟩ := hrel
    by_cases hlt : k < l.length
    · have hki : (k : Int) < l.length := by omega
      obtain ⟨-, -, h5 | ⟨b, o, rfl, hb, hc⟩⟩ := h.kept G
      · rw [h5] at hlt; simp at hlt
      obtain ⟨ka, km, kc, na, nm, nc, x0, x1, x2, x3, D⟩ := hc k hlt
      clear hc hmk C0 g0
      have hsz := HS.out k hlt
      go_wp2_with fail
      go_fit (toDisk_any _ _ _ _ _ _ l[k] _ D hsz.1 hsz.2)
      rintro e w2 ⟨kv, nv, rfl, d2, ap, g2⟩
      obtain ⟨ka2, km2, kc2, rfl⟩ := d2.1.sl
      obtain ⟨na2, nm2, nc2, rfl⟩ := d2.2.sl
      have hrl : k < raw.length := by rw [C.len, fillD_length l k hk]; exact hlt
      obtain ⟨g, hg, _, _, hat⟩ := Own.at (C.own.grew g2) k hrl
      cases hg
      obtain ⟨y0, z0⟩ := hat 0 _ rfl
      obtain ⟨y1, z1⟩ := hat 1 _ rfl
      obtain ⟨y2, z2⟩ := hat 2 _ rfl
      obtain ⟨y3, z3⟩ := hat 3 _ rfl
      clear hat
      change w2.cell? ⟨w.heap.size, k * 4 + 0, none⟩ = _ at y0
      change w2.frozen? ⟨w.heap.size, k * 4 + 0, none⟩ = _ at z0
      change w2.cell? ⟨w.heap.size, k * 4 + 1, none⟩ = _ at y1
      change w2.frozen? ⟨w.heap.size, k * 4 + 1, none⟩ = _ at z1
      change w2.cell? ⟨w.heap.size, k * 4 + 2, none⟩ = _ at y2
      change w2.frozen? ⟨w.heap.size, k * 4 + 2, none⟩ = _ at z2
      change w2.cell? ⟨w.heap.size, k * 4 + 3, none⟩ = _ at y3
      change w2.frozen? ⟨w.heap.size, k * 4 + 3, none⟩ = _ at z3
      simp only [Nat.add_zero] at y0 z0
      have C3 := C.fresh k hrl g2 (gsize G) l[k] ka2 km2 kc2 na2 nm2 nc2 d2 ap
      rw [fillD_set l k hlt] at C3
      have G3 : w.grownBy (set4o w2 w.heap.size (k * 4) (.int .i64 l[k].n) (.bool l[k].dead) (.slice ka2 km2 kc2) (.slice na2 nm2 nc2)) none := gset1 (gset1 (gset1 (gset1 (gtrans G g2) (Nat.le_refl _) _ _) (Nat.le_refl _) _ _) (Nat.le_refl _) _ _) (Nat.le_refl _) _ _
      go_wp2_with fail
      go_roundw
      case rel => exact ⟨k + 1, _, by omega, by go_num, C3, G3⟩
      case measure => simp [intOf]; omega
    · obtain rfl : k = l.length := by omega
      clear hmk C0 g0
      go_wp2_with fail
      go_ret
      exact ⟨_, raw, rfl, by simpa [fillD] using C, G⟩
theorem eqDiskS_yes (v1 v2 : Value) (l : List DZ) (w : World) (h1 : LD w v1 l) (h2 : LD w v2 l) :
    Calls Tryz.prog 129 #[v1, v2] w (Pure (.bool true) w) := by
  obtain ⟨a1, c1, rfl, hm⟩ := h1.form
  obtain ⟨a2, c2, rfl, _⟩ := h2.form
  go_enter Tryz.func129, Tryz.ntmps129
  go_wp2
  go_loopw [5] (fun i wr => ∃ k : Nat, k ≤ l.length ∧ i = .int .i64 k ∧ w.grownBy wr none) (fun i _ => l.length - (intOf i).toNat)
  case atStart => exact ⟨0, Nat.zero_le _, rfl, grefl _⟩
  case round =>
    obtain ⟨k, hk, rfl, G⟩ := hrel
    by_cases hlt : k < l.length
    · obtain ⟨g, o, ka, km, kc, na, nm, nc, rfl, x0, x1, x2, x3, D⟩ := (h1.kept G).at k hlt
      obtain ⟨g', o', ka', km', kc', na', nm', nc', rfl, y0, y1, y2, y3, D'⟩ := (h2.kept G).at k hlt
      have hki : (k : Int) < l.length := by omega
      go_wp2_with fail
      refine region_calm (fun w' => (w'.cell? ⟨g, o + k * 4, none⟩ = some (.int .i64 l[k].n) ∧ w'.cell? ⟨g, o + k * 4 + 1, none⟩ = some (.bool l[k].dead) ∧ w'.cell? ⟨g, o + k * 4 + 2, none⟩ = some (.slice ka km kc) ∧ w'.cell? ⟨g, o + k * 4 + 3, none⟩ = some (.slice na nm nc)) ∧ (w'.cell? ⟨g', o' + k * 4, none⟩ = some (.int .i64 l[k].n) ∧ w'.cell? ⟨g', o' + k * 4 + 1, none⟩ = some (.bool l[k].dead) ∧ w'.cell? ⟨g', o' + k * 4 + 2, none⟩ = some (.slice ka' km' kc') ∧ w'.cell? ⟨g', o' + k * 4 + 3, none⟩ = some (.slice na' nm' nc')) ∧ wr.grownBy w' none) (by kernel_rfl) (by kernel_rfl) (⟨⟨x0, x1, x2, x3⟩, ⟨y0, y1, y2, y3⟩, gdrew (grefl _) 1⟩) ?_
      repeat (first
        | (refine calm_skip (by rfl) ?_; simp only [Act.put, List.setIfInBounds_toArray, List.set_cons_zero, List.set_cons_succ])
        | (refine calm_step (by rfl) ?_
           apply Exists.intro
           refine ⟨fun w' hw' => ?_, ?_⟩
           · go_simp
             first | done | exact rfl | (go_at_call 210; go_fit (eqDisk_yes _ _ _ _ l[k] _ (D.grew hw'.2.2) (D'.grew hw'.2.2)); rintro e w8 ⟨rfl, g8⟩; exact And.intro rfl (And.intro (And.intro (gkc g8 hw'.1.1) (And.intro (gkc g8 hw'.1.2.1) (And.intro (gkc g8 hw'.1.2.2.1) (gkc g8 hw'.1.2.2.2)))) (And.intro (And.intro (gkc g8 hw'.2.1.1) (And.intro (gkc g8 hw'.2.1.2.1) (And.intro (gkc g8 hw'.2.1.2.2.1) (gkc g8 hw'.2.1.2.2.2)))) (gtrans hw'.2.2 g8))))
           simp only [Act.put, List.setIfInBounds_toArray, List.set_cons_zero, List.set_cons_succ]))
      refine calm_nil ?_
      intro w9 hw9
      go_wp2_with fail
      go_roundw
      case rel => exact ⟨k + 1, by omega, by go_num, gtrans G hw9.2.2⟩
      case measure => simp [intOf]; omega
    · go_wp2_with fail
      go_ret
      exact ⟨rfl, G⟩
end Go.Proofs.YteialkknddpbjaaGreatDoor
namespace Go.Proofs.YteialkknddpbjaaGreatDoor
open Go.ChangeShapes Go.WideShapes Go.ChangeAt Go.RowKit Go.Joins Go.Deep

set_option maxHeartbeats 1000000 in
theorem markDiskS_any (base T : Nat) (v : Value) (l : List DZ) (raw : List DV) (k : Int) (w : World) (h : OD w base v l raw) (hT1 : ∀ i (hi : i < raw.length) b, raw[i].has b → b < T) (hT2 : ∀ b, v.ownBlock = some b → b < T) (hs : Small l) (h0 : 0 ≤ k) (h1 : k ≤ 1000) :
    Calls Tryz.prog 130 #[v, .int .i64 k] w fun e w' => ∃ x : Int, e = .returned (.int .i64 x) ∧ 0 ≤ x ∧ Only (fun b => base ≤ b ∧ b < T) w w' := by
  obtain ⟨a, cap, rfl, hm⟩ := h.form
  have HSm := Lib.hid hs
  have hsl := hs.len
  have HT : Hid (∀ j, 2 * j + 2 * sizeC (l.take j) ≤ 2 * j + 2097152) := fun j => by
    have := sizeC_take l j; unfold Small at hs; omega
  clear hs
  go_enter Tryz.func130, Tryz.ntmps130
  go_wp2
  go_loopw [1, 5] (fun m i wr => ∃ (j : Nat) (x : Int) (l' : List DZ) (raw' : List DV), j ≤ l.length ∧ i = .int .i64 j ∧ m = .int .i64 x ∧ 0 ≤ x ∧ Hid (x ≤ 1000 + 2 * j + 2 * sizeC (l.take j)) ∧ OD wr base (.slice a l.length cap) l' raw' ∧ Hid (shape l' = shape l ∧ l'.length = l.length) ∧ Only (fun b => base ≤ b ∧ b < T) w wr ∧ Hid (∀ i (hi : i < raw'.length) b, raw'[i].has b → b < T) ∧ (∀ b, (Value.slice a l.length cap).ownBlock = some b → b < T)) (fun _ i _ => l.length - (intOf i).toNat)
  case atStart => exact ⟨0, k, l, raw, Nat.zero_le _, rfl, rfl, h0, by show _ ≤ _; omega, h, ⟨rfl, rfl⟩, Only.refl _ _, hT1, hT2⟩
  case round =>
    obtain ⟨j, x, l', raw', hj, rfl, rfl, x0, HX, C, HL, G, HB, hv⟩ := hrel
    by_cases hlt : j < l.length
    · have hji : (j : Int) < l.length := by omega
      have j1 : j < l'.length := by rw [HL.out.2]; exact hlt
      have j2 : j < raw'.length := by rw [C.len]; exact j1
      have hsh := shape_at HL.out.1 j hlt j1
      have hbd := HSm.out.at j hlt
      have hxb : x ≤ 4195304 := by have := HX.out; have := HT.out j; omega
      have HN := Lib.hid (sizeC_next hlt)
      obtain ⟨g, rfl, g1, g2, ⟨y0, z0⟩, -⟩ := C.at j j2 j1
      have hgw := hv g rfl
      have C1 := C.setNum j j2 j1 x
      have G1 := G.trans (Only.of (gset (World.grownBy.refl wr _) (j * 4) (.int .i64 x)) (fun b e => by cases e; exact ⟨g1, hgw⟩) : Only (fun b => base ≤ b ∧ b < T) wr _)
      have L1 := shape_set j1 (d := (l'[j].num x)) rfl
      have B1 : Hid (∀ i (hi : i < (raw'.set j (raw'[j].num x)).length) b, (raw'.set j (raw'[j].num x))[i].has b → b < T) := fun i hi b hb => by
        simp only [List.length_set] at hi
        by_cases e : j = i
        · subst e; simp only [List.getElem_set_self] at hb; exact HB.out j j2 b hb
        · simp only [List.getElem_set_ne e] at hb; exact HB.out i hi b hb
      go_upto_region 5 with (fail)
      generalize wr.setCell ⟨g, j * 4, none⟩ (.int .i64 x) = W1 at *
      clear y0 z0 C G HB
      have S1 : Hid (shape (l'.set j (l'[j].num x)) = shape l ∧ (l'.set j (l'[j].num x)).length = l.length) := ⟨L1.trans HL.out.1, by rw [List.length_set]; exact HL.out.2⟩
      clear L1 HL
      have j1' : j < (l'.set j (l'[j].num x)).length := by simpa using j1
      have j2' : j < (raw'.set j (raw'[j].num x)).length := by simpa using j2
      clear hsh
      generalize l'.set j (l'[j].num x) = l1 at *
      generalize raw'.set j (raw'[j].num x) = raw1 at *
      clear j1 j2
      obtain ⟨g', e', -, -, -, ⟨y1, z1⟩, -⟩ := C1.at j j2' j1'
      cases e'
      have C2 := C1.setDead j j2' j1' ((x + 1) % 3 == 0)
      have G2 := G1.trans (Only.of (gset (World.grownBy.refl W1 _) (j * 4 + 1) (.bool ((x + 1) % 3 == 0))) (fun b e => by cases e; exact ⟨g1, hgw⟩) : Only (fun b => base ≤ b ∧ b < T) W1 _)
      have L2 := shape_set j1' (d := (l1[j].lives ((x + 1) % 3 == 0))) rfl
      have B2 : Hid (∀ i (hi : i < (raw1.set j (raw1[j].lives ((x + 1) % 3 == 0))).length) b, (raw1.set j (raw1[j].lives ((x + 1) % 3 == 0)))[i].has b → b < T) := fun i hi b hb => by
        simp only [List.length_set] at hi
        by_cases e : j = i
        · subst e; simp only [List.getElem_set_self] at hb; exact B1.out j j2' b hb
        · simp only [List.getElem_set_ne e] at hb; exact B1.out i hi b hb
      go_upto_region 7 with (fail)
      generalize W1.setCell ⟨g, j * 4 + 1, none⟩ (.bool ((x + 1) % 3 == 0)) = W2 at *
      clear y1 z1 C1 G1 B1
      have S2 : Hid (shape (l1.set j (l1[j].lives ((x + 1) % 3 == 0))) = shape l ∧ (l1.set j (l1[j].lives ((x + 1) % 3 == 0))).length = l.length) := ⟨L2.trans S1.out.1, by rw [List.length_set]; exact S1.out.2⟩
      clear L2 S1
      have j1 : j < (l1.set j (l1[j].lives ((x + 1) % 3 == 0))).length := by simpa using j1'
      have j2 : j < (raw1.set j (raw1[j].lives ((x + 1) % 3 == 0))).length := by simpa using j2'
      generalize l1.set j (l1[j].lives ((x + 1) % 3 == 0)) = l2 at *
      generalize raw1.set j (raw1[j].lives ((x + 1) % 3 == 0)) = raw2 at *
      clear j1' j2'
      have hsh := shape_at S2.out.1 j hlt j1
      obtain ⟨g', e', -, -, -, -, ⟨y2, z2⟩, -⟩ := C2.at j j2 j1
      cases e'
      have D2 := C2.is j j2 j1
      change W2.cell? ⟨g, j * 4 + 2, none⟩ = some (.slice raw2[j].ka raw2[j].km raw2[j].kc) at y2
      go_wp2_with fail
      go_fit (markCellS_any base (.slice raw2[j].ka raw2[j].km raw2[j].kc) l2[j].k (x + 1 + 1) _ D2.isD.1 (by omega) (by omega) (by omega))
      rintro e w3 ⟨rfl, c3, g3⟩
      have C3 := C2.setKept j j2 j1 g3 c3
      have G3 := G2.trans (Only.of g3 (fun b e => ⟨(C2.in j j2 b (.inl e)).1, B2.out j j2 b (.inl e)⟩))
      have L3 := shape_set j1 (d := (l2[j].withK (markL (x + 1 + 1) l2[j].k.length))) (by simp [markL_length, DZ.withK])
      clear y2 z2 G2 g3 c3 D2
      have S3 : Hid (shape (l2.set j (l2[j].withK (markL (x + 1 + 1) l2[j].k.length))) = shape l ∧ (l2.set j (l2[j].withK (markL (x + 1 + 1) l2[j].k.length))).length = l.length) := ⟨L3.trans S2.out.1, by rw [List.length_set]; exact S2.out.2⟩
      clear L3 S2 C2
      have j1' : j < (l2.set j (l2[j].withK (markL (x + 1 + 1) l2[j].k.length))).length := by simpa using j1
      rw [hsh.1] at *
      generalize l2.set j (l2[j].withK (markL (x + 1 + 1) l[j].k.length)) = l3 at *
      have hsh3 := shape_at S3.out.1 j hlt j1'
      obtain ⟨g', e', -, -, -, -, -, ⟨y3, z3⟩⟩ := C3.at j j2 j1'
      cases e'
      have D3 := C3.is j j2 j1'
      change w3.cell? ⟨g, j * 4 + 3, none⟩ = some (.slice raw2[j].na raw2[j].nm raw2[j].nc) at y3
      go_wp2_with fail
      go_fit (markCellS_any base (.slice raw2[j].na raw2[j].nm raw2[j].nc) l3[j].m (x + 1 + 1 + 2 * l[j].k.length) _ D3.isD.2 (by omega) (by omega) (by omega))
      rintro e w4 ⟨rfl, c4, g4⟩
      have C4 := C3.setNow j j2 j1' g4 c4
      have G4 := G3.trans (Only.of g4 (fun b e => ⟨(C3.in j j2 b (.inr e)).1, B2.out j j2 b (.inr e)⟩))
      have L4 := shape_set j1' (d := (l3[j].withM (markL (x + 1 + 1 + 2 * l[j].k.length) l3[j].m.length))) (by simp [markL_length, DZ.withM])
      have S4 : Hid (shape (l3.set j (l3[j].withM (markL (x + 1 + 1 + 2 * l[j].k.length) l3[j].m.length))) = shape l ∧ (l3.set j (l3[j].withM (markL (x + 1 + 1 + 2 * l[j].k.length) l3[j].m.length))).length = l.length) := ⟨L4.trans S3.out.1, by rw [List.length_set]; exact S3.out.2⟩
      rw [hsh3.2] at *
      clear y3 z3 G3 g4 c4 D3 L4 S3 C3
      go_wp2_with fail
      go_roundw
      case rel => exact ⟨j + 1, _, _, raw2, by omega, by go_num, rfl, by omega, by show _ ≤ _; have := HX.out; have := HN.out; omega, C4, S4, G4, B2, hv⟩
      case measure => simp [intOf]; omega
    · go_wp2_with fail
      go_ret
      exact ⟨x, rfl, x0, G⟩
end Go.Proofs.YteialkknddpbjaaGreatDoor
namespace Go.Proofs.YteialkknddpbjaaGreatDoor
open Go.ChangeShapes Go.WideShapes Go.ChangeAt Go.RowKit Go.Joins Go.Deep

def mkD (k : Int) (d : DZ) : DZ := ⟨k, (k + 1) % 3 == 0, markL (k + 1 + 1) d.k.length, markL (k + 1 + 1 + 2 * d.k.length) d.m.length⟩
def mkN (k : Int) (l : List DZ) (j : Nat) : Int := k + 2 * j + 2 * sizeC (l.take j)
def markDs (k : Int) (l : List DZ) : List DZ := (List.range l.length).map fun i => mkD (mkN k l i) (l.getD i .zero)
theorem markDs_length (k : Int) (l : List DZ) : (markDs k l).length = l.length := by simp [markDs]
theorem markDs_get (k : Int) (l : List DZ) (i : Nat) (h : i < (markDs k l).length) : (markDs k l)[i] = mkD (mkN k l i) (l.getD i .zero) := by simp [markDs]
theorem markDs_of {k : Int} {l l' : List DZ} (hl : l'.length = l.length) (h : ∀ i (h : i < l'.length), i < l.length → l'[i] = mkD (mkN k l i) (l.getD i .zero)) : l' = markDs k l := by
  apply List.ext_getElem
  · rw [hl, markDs_length]
  · intro i h1 h2
    rw [markDs_get]
    exact h i h1 (by omega)
theorem mkN_next {k : Int} {l : List DZ} {j : Nat} (h : j < l.length) : mkN k l (j + 1) = mkN k l j + 1 + 1 + 2 * l[j].k.length + 2 * l[j].m.length := by
  unfold mkN
  rw [sizeC_next h]; omega
set_option maxHeartbeats 1000000 in
theorem markDiskS_at (base T : Nat) (v : Value) (l : List DZ) (raw : List DV) (k : Int) (w : World) (h : OD w base v l raw) (hT1 : ∀ i (hi : i < raw.length) b, raw[i].has b → b < T) (hT2 : ∀ b, v.ownBlock = some b → b < T) (hs : Small l) (h0 : 0 ≤ k) (h1 : k ≤ 1000) :
    Calls Tryz.prog 130 #[v, .int .i64 k] w fun e w' => ∃ raw', e = .returned (.int .i64 (mkN k l l.length)) ∧ OD w' base v (markDs k l) raw' ∧ Only (fun b => base ≤ b ∧ b < T) w w' := by
  obtain ⟨a, cap, rfl, hm⟩ := h.form
  have HSm := Lib.hid hs
  have hsl := hs.len
  have HT : Hid (∀ j, 2 * j + 2 * sizeC (l.take j) ≤ 2 * j + 2097152) := fun j => by
    have := sizeC_take l j; unfold Small at hs; omega
  clear hs
  go_enter Tryz.func130, Tryz.ntmps130
  go_wp2
  go_loopw [1, 5] (fun m i wr => ∃ (j : Nat) (x : Int) (l' : List DZ) (raw' : List DV), j ≤ l.length ∧ i = .int .i64 j ∧ m = .int .i64 x ∧ 0 ≤ x ∧ Hid (x = mkN k l j) ∧ Hid (∀ i (h : i < l'.length), i < j → l'[i] = mkD (mkN k l i) (l.getD i .zero)) ∧ OD wr base (.slice a l.length cap) l' raw' ∧ Hid (shape l' = shape l ∧ l'.length = l.length) ∧ Only (fun b => base ≤ b ∧ b < T) w wr ∧ Hid (∀ i (hi : i < raw'.length) b, raw'[i].has b → b < T) ∧ (∀ b, (Value.slice a l.length cap).ownBlock = some b → b < T)) (fun _ i _ => l.length - (intOf i).toNat)
  case atStart => exact ⟨0, k, l, raw, Nat.zero_le _, rfl, rfl, h0, by show _ = _; simp [mkN, sizeC], (fun i _ hi => by omega), h, ⟨rfl, rfl⟩, Only.refl _ _, hT1, hT2⟩
  case round =>
    obtain ⟨j, x, l', raw', hj, rfl, rfl, x0, HX, HM, C, HL, G, HB, hv⟩ := hrel
    by_cases hlt : j < l.length
    · have hji : (j : Int) < l.length := by omega
      have j1 : j < l'.length := by rw [HL.out.2]; exact hlt
      have j2 : j < raw'.length := by rw [C.len]; exact j1
      have hsh := shape_at HL.out.1 j hlt j1
      have hbd := HSm.out.at j hlt
      have hxb : x ≤ 4195304 := by have e := HX.out; unfold mkN at e; have := HT.out j; omega
      have HN := Lib.hid (sizeC_next hlt)
      obtain ⟨g, rfl, g1, g2, ⟨y0, z0⟩, -⟩ := C.at j j2 j1
      have hgw := hv g rfl
      have C1 := C.setNum j j2 j1 x
      have G1 := G.trans (Only.of (gset (World.grownBy.refl wr _) (j * 4) (.int .i64 x)) (fun b e => by cases e; exact ⟨g1, hgw⟩) : Only (fun b => base ≤ b ∧ b < T) wr _)
      have L1 := shape_set j1 (d := (l'[j].num x)) rfl
      have B1 : Hid (∀ i (hi : i < (raw'.set j (raw'[j].num x)).length) b, (raw'.set j (raw'[j].num x))[i].has b → b < T) := fun i hi b hb => by
        simp only [List.length_set] at hi
        by_cases e : j = i
        · subst e; simp only [List.getElem_set_self] at hb; exact HB.out j j2 b hb
        · simp only [List.getElem_set_ne e] at hb; exact HB.out i hi b hb
      go_upto_region 5 with (fail)
      generalize wr.setCell ⟨g, j * 4, none⟩ (.int .i64 x) = W1 at *
      clear y0 z0 C G HB
      have S1 : Hid (shape (l'.set j (l'[j].num x)) = shape l ∧ (l'.set j (l'[j].num x)).length = l.length) := ⟨L1.trans HL.out.1, by rw [List.length_set]; exact HL.out.2⟩
      clear L1 HL
      have j1' : j < (l'.set j (l'[j].num x)).length := by simpa using j1
      have j2' : j < (raw'.set j (raw'[j].num x)).length := by simpa using j2
      clear hsh
      have E1 : Hid (∀ i, (l'.set j (l'[j].num x))[i]? = if i = j then some (l'[j].num x) else l'[i]?) := fun i => by
        rw [List.getElem?_set]; by_cases e : j = i; subst e; simp [j1]; simp [e, Ne.symm e]
      generalize l'.set j (l'[j].num x) = l1 at *
      generalize raw'.set j (raw'[j].num x) = raw1 at *
      clear j2
      obtain ⟨g', e', -, -, -, ⟨y1, z1⟩, -⟩ := C1.at j j2' j1'
      cases e'
      have C2 := C1.setDead j j2' j1' ((x + 1) % 3 == 0)
      have G2 := G1.trans (Only.of (gset (World.grownBy.refl W1 _) (j * 4 + 1) (.bool ((x + 1) % 3 == 0))) (fun b e => by cases e; exact ⟨g1, hgw⟩) : Only (fun b => base ≤ b ∧ b < T) W1 _)
      have L2 := shape_set j1' (d := (l1[j].lives ((x + 1) % 3 == 0))) rfl
      have B2 : Hid (∀ i (hi : i < (raw1.set j (raw1[j].lives ((x + 1) % 3 == 0))).length) b, (raw1.set j (raw1[j].lives ((x + 1) % 3 == 0)))[i].has b → b < T) := fun i hi b hb => by
        simp only [List.length_set] at hi
        by_cases e : j = i
        · subst e; simp only [List.getElem_set_self] at hb; exact B1.out j j2' b hb
        · simp only [List.getElem_set_ne e] at hb; exact B1.out i hi b hb
      go_upto_region 7 with (fail)
      generalize W1.setCell ⟨g, j * 4 + 1, none⟩ (.bool ((x + 1) % 3 == 0)) = W2 at *
      clear y1 z1 C1 G1 B1
      have S2 : Hid (shape (l1.set j (l1[j].lives ((x + 1) % 3 == 0))) = shape l ∧ (l1.set j (l1[j].lives ((x + 1) % 3 == 0))).length = l.length) := ⟨L2.trans S1.out.1, by rw [List.length_set]; exact S1.out.2⟩
      clear L2 S1
      have j1 : j < (l1.set j (l1[j].lives ((x + 1) % 3 == 0))).length := by simpa using j1'
      have j2 : j < (raw1.set j (raw1[j].lives ((x + 1) % 3 == 0))).length := by simpa using j2'
      have E2 : Hid (∀ i, (l1.set j (l1[j].lives ((x + 1) % 3 == 0)))[i]? = if i = j then some (l1[j].lives ((x + 1) % 3 == 0)) else l1[i]?) := fun i => by
        rw [List.getElem?_set]; by_cases e : j = i; subst e; simp [j1']; simp [e, Ne.symm e]
      generalize l1.set j (l1[j].lives ((x + 1) % 3 == 0)) = l2 at *
      generalize raw1.set j (raw1[j].lives ((x + 1) % 3 == 0)) = raw2 at *
      clear j2'
      have hsh := shape_at S2.out.1 j hlt j1
      obtain ⟨g', e', -, -, -, -, ⟨y2, z2⟩, -⟩ := C2.at j j2 j1
      cases e'
      have D2 := C2.is j j2 j1
      change W2.cell? ⟨g, j * 4 + 2, none⟩ = some (.slice raw2[j].ka raw2[j].km raw2[j].kc) at y2
      go_wp2_with fail
      go_fit (markCellS_any base (.slice raw2[j].ka raw2[j].km raw2[j].kc) l2[j].k (x + 1 + 1) _ D2.isD.1 (by omega) (by omega) (by omega))
      rintro e w3 ⟨rfl, c3, g3⟩
      have C3 := C2.setKept j j2 j1 g3 c3
      have G3 := G2.trans (Only.of g3 (fun b e => ⟨(C2.in j j2 b (.inl e)).1, B2.out j j2 b (.inl e)⟩))
      have L3 := shape_set j1 (d := (l2[j].withK (markL (x + 1 + 1) l2[j].k.length))) (by simp [markL_length, DZ.withK])
      clear y2 z2 G2 g3 c3 D2
      have S3 : Hid (shape (l2.set j (l2[j].withK (markL (x + 1 + 1) l2[j].k.length))) = shape l ∧ (l2.set j (l2[j].withK (markL (x + 1 + 1) l2[j].k.length))).length = l.length) := ⟨L3.trans S2.out.1, by rw [List.length_set]; exact S2.out.2⟩
      clear L3 S2 C2
      have j1' : j < (l2.set j (l2[j].withK (markL (x + 1 + 1) l2[j].k.length))).length := by simpa using j1
      have E3 : Hid (∀ i, (l2.set j (l2[j].withK (markL (x + 1 + 1) l2[j].k.length)))[i]? = if i = j then some (l2[j].withK (markL (x + 1 + 1) l2[j].k.length)) else l2[i]?) := fun i => by
        rw [List.getElem?_set]; by_cases e : j = i; subst e; simp [j1]; simp [e, Ne.symm e]
      rw [hsh.1] at *
      generalize l2.set j (l2[j].withK (markL (x + 1 + 1) l[j].k.length)) = l3 at *
      have hsh3 := shape_at S3.out.1 j hlt j1'
      obtain ⟨g', e', -, -, -, -, -, ⟨y3, z3⟩⟩ := C3.at j j2 j1'
      cases e'
      have D3 := C3.is j j2 j1'
      change w3.cell? ⟨g, j * 4 + 3, none⟩ = some (.slice raw2[j].na raw2[j].nm raw2[j].nc) at y3
      go_wp2_with fail
      go_fit (markCellS_any base (.slice raw2[j].na raw2[j].nm raw2[j].nc) l3[j].m (x + 1 + 1 + 2 * l[j].k.length) _ D3.isD.2 (by omega) (by omega) (by omega))
      rintro e w4 ⟨rfl, c4, g4⟩
      have C4 := C3.setNow j j2 j1' g4 c4
      have G4 := G3.trans (Only.of g4 (fun b e => ⟨(C3.in j j2 b (.inr e)).1, B2.out j j2 b (.inr e)⟩))
      have L4 := shape_set j1' (d := (l3[j].withM (markL (x + 1 + 1 + 2 * l[j].k.length) l3[j].m.length))) (by simp [markL_length, DZ.withM])
      have S4 : Hid (shape (l3.set j (l3[j].withM (markL (x + 1 + 1 + 2 * l[j].k.length) l3[j].m.length))) = shape l ∧ (l3.set j (l3[j].withM (markL (x + 1 + 1 + 2 * l[j].k.length) l3[j].m.length))).length = l.length) := ⟨L4.trans S3.out.1, by rw [List.length_set]; exact S3.out.2⟩
      rw [hsh3.2] at *
      have HX4 : Hid (x + 1 + 1 + 2 * l[j].k.length + 2 * l[j].m.length = mkN k l (j + 1)) := by show _ = _; rw [mkN_next hlt, HX.out]
      have HM4 : Hid (∀ i (h : i < (l3.set j (l3[j].withM (markL (x + 1 + 1 + 2 * l[j].k.length) l[j].m.length))).length), i < j + 1 → (l3.set j (l3[j].withM (markL (x + 1 + 1 + 2 * l[j].k.length) l[j].m.length)))[i] = mkD (mkN k l i) (l.getD i .zero)) := fun i h hi => by
        simp only [List.length_set] at h
        by_cases e : j = i
        · subst e
          rw [List.getElem_set_self]
          have a1 := E1.out j
          have a2 := E2.out j
          have a3 := E3.out j
          rw [if_pos rfl] at a1 a2 a3
          obtain ⟨_, b1⟩ := List.getElem?_eq_some_iff.1 a1
          obtain ⟨_, b2⟩ := List.getElem?_eq_some_iff.1 a2
          obtain ⟨_, b3⟩ := List.getElem?_eq_some_iff.1 a3
          rw [b3, b2, b1, getD_at hlt, ← HX.out]
          rfl
        · rw [List.getElem_set_ne e]
          have a1 := E1.out i
          have a2 := E2.out i
          have a3 := E3.out i
          rw [if_neg (Ne.symm e)] at a1 a2 a3
          rw [a2, a1] at a3
          obtain ⟨_, b3⟩ := List.getElem?_eq_some_iff.1 (a3.symm.trans (List.getElem?_eq_getElem h))
          rw [← b3]
          exact HM.out i _ (by omega)
      clear y3 z3 G3 g4 c4 D3 L4 S3 C3 E1 E2 E3 HM HX
      go_wp2_with fail
      go_roundw
      case rel => exact ⟨j + 1, _, _, raw2, by omega, by go_num, rfl, by omega, HX4, HM4, C4, S4, G4, B2, hv⟩
      case measure => simp [intOf]; omega
    · obtain rfl : j = l.length := by omega
      have HQ : Hid (l' = markDs k l) := markDs_of HL.out.2 (fun i h hi => HM.out i h hi)
      go_wp2_with fail
      go_ret
      exact ⟨raw', by rw [← HX.out]; rfl, by rw [← HQ.out]; exact C, G⟩
set_option maxHeartbeats 1000000 in
theorem heldDiskS_any (v : Value) (l : List DZ) (k : Int) (w : World) (h : LD w v (markDs k l)) (hs : Small l) (h0 : 0 ≤ k) (h1 : k ≤ 1000) :
    Calls Tryz.prog 131 #[v, .int .i64 k] w (Pure (.int .i64 (mkN k l l.length)) w) := by
  obtain ⟨a, cap, rfl, hm⟩ := h.form
  rw [markDs_length] at hm
  have HSm := Lib.hid hs
  have HT : Hid (∀ j, j ≤ l.length → mkN k l j ≤ 1000 + 2 * 1048576 + 2097152) := fun j hj => by
    have := sizeC_take l j; have := hs.len; unfold Small at hs; unfold mkN; omega
  have HL : Hid ((markDs k l).length = l.length) := markDs_length k l
  rw [markDs_length]
  clear hs
  go_enter Tryz.func131, Tryz.ntmps131
  go_wp2
  go_loopw [1, 5] (fun m i wr => ∃ (j : Nat) (x : Int), j ≤ l.length ∧ i = .int .i64 j ∧ m = .int .i64 x ∧ 0 ≤ x ∧ Hid (x = mkN k l j) ∧ w.grownBy wr none) (fun _ i _ => l.length - (intOf i).toNat)
  case atStart => exact ⟨0, k, Nat.zero_le _, rfl, rfl, h0, by show _ = _; simp [mkN, sizeC], grefl _⟩
  case round =>
    obtain ⟨j, x, hj, rfl, rfl, x0, HX, G⟩ := hrel
    have hxb : x ≤ 5195304 := by have := HX.out; have := HT.out j hj; omega
    by_cases hlt : j < l.length
    · have hji : (j : Int) < l.length := by omega
      have j1 : j < (markDs k l).length := by rw [markDs_length]; exact hlt
      have hbd := HSm.out.at j hlt
      obtain ⟨g, o, ka, km, kc, na, nm, nc, e', y0, y1, y2, y3, D⟩ := (h.kept G).at j j1
      cases e'
      have hD : (markDs k l)[j] = mkD x l[j] := by rw [markDs_get, getD_at hlt, ← HX.out]
      rw [hD] at y0 y1 D
      have HN := Lib.hid (mkN_next (k := k) hlt)
      obtain ⟨D1, D2⟩ := D
      change wr.cell? _ = some (.int .i64 x) at y0
      change wr.cell? _ = some (.bool ((x + 1) % 3 == 0)) at y1
      change CS wr 0 _ (markL (x + 1 + 1) l[j].k.length) at D1
      change CS wr 0 _ (markL (x + 1 + 1 + 2 * l[j].k.length) l[j].m.length) at D2
      have p1 : ¬ (x + 1 + 1 + 2 * (l[j].k.length : Int)) < 0 := by omega
      have p2 : ¬ (x + 1 + 1 + 2 * (l[j].k.length : Int) + 2 * (l[j].m.length : Int)) < 0 := by omega
      have HX4 : Hid (x + 1 + 1 + 2 * l[j].k.length + 2 * l[j].m.length = mkN k l (j + 1)) := by show _ = _; rw [mkN_next hlt, HX.out]
      clear hD HX
      go_wp2_with fail
      go_fit (heldCellS_any _ l[j].k.length (x + 1 + 1) _ D1 (by omega) (by omega) (by omega))
      rintro e w2 ⟨rfl, rfl⟩
      go_wp2_with fail
      go_fit (heldCellS_any _ l[j].m.length (x + 1 + 1 + 2 * l[j].k.length) _ D2 (by omega) (by omega) (by omega))
      rintro e w2 ⟨rfl, rfl⟩
      go_wp2_with fail
      go_roundw
      case rel => exact ⟨j + 1, _, by omega, by go_num, rfl, by omega, HX4, G⟩
      case measure => simp [intOf]; omega
    · obtain rfl : j = l.length := by omega
      go_wp2_with fail
      go_ret
      exact ⟨by rw [← HX.out]; rfl, G⟩
end Go.Proofs.YteialkknddpbjaaGreatDoor
namespace Go.Proofs.YteialkknddpbjaaGreatDoor
open Go.ChangeShapes Go.WideShapes Go.ChangeAt Go.RowKit Go.Joins Go.Deep
set_option maxRecDepth 8000

theorem listD_of {P : Nat → DZ → Prop} : ∀ n : Nat, (∀ i, i < n → ∃ x, P i x) → ∃ l : List DZ, l.length = n ∧ ∀ i (h : i < l.length), P i l[i]
  | 0, _ => ⟨[], rfl, fun i h => by simp at h⟩
  | n + 1, hP => by
    obtain ⟨l, hl, h⟩ := listD_of n (fun i hi => hP i (by omega))
    obtain ⟨x, hx⟩ := hP n (by omega)
    refine ⟨l ++ [x], by simp [hl], fun i hi => ?_⟩
    simp at hi
    by_cases hn : i < l.length
    · rw [List.getElem_append_left hn]; exact h i hn
    · have : i = l.length := by omega
      subst this
      simp [hl]
      exact hx
section
variable {H : Type} {enc : TypeId × Value → H} {w : World} {base : Nat} {held : Bool}
theorem disk_of {fuel : Nat} {cs : List Value} {x : DataW H × List MemPlace} (h : DataW.trod enc Tryz.prog w base (fun _ => true) held fuel 188 cs = some x) :
    ∃ (z : DZ) (ka : Option Addr) (km kc : Nat) (na : Option Addr) (nm nc : Nat), cs = [.int .i64 z.n, .bool z.dead, .slice ka km kc, .slice na nm nc] ∧ InDisk w ka km na nm z := by
  obtain ⟨xs, n, rfl, _, hlen, hxs, hf⟩ := DataW.trod_struct Tryz.underlying188 h
  have hc : Tryz.prog.cellsOf 188 = 4 := by kernel_rfl
  have hi : Tryz.prog.cellsOf 2 = 1 := by kernel_rfl
  have hb : Tryz.prog.cellsOf 4 = 1 := by kernel_rfl
  have hs : Tryz.prog.cellsOf 186 = 1 := by kernel_rfl
  rw [hc] at hlen
  match cs, hlen with
  | [c0, c1, c2, c3], _ =>
    match xs, hxs with
    | [y0, y1, y2, y3], _ =>
      have h0 := hf 0 _ rfl
      have h1 := hf 1 _ rfl
      have h2 := hf 2 _ rfl
      have h3 := hf 3 _ rfl
      simp [hi, hb, hs] at h0 h1 h2 h3
      obtain ⟨u, e0, _⟩ := DataW.trod_int Tryz.underlying2 h0
      obtain ⟨b, e1, _⟩ := DataW.trod_bool Tryz.underlying4 h1
      obtain ⟨ka, km, kc, kl, rfl, hk⟩ := openCells h2
      obtain ⟨na, nm, nc, nl, rfl, hn⟩ := openCells h3
      simp at e0 e1
      exact ⟨⟨u, b, kl, nl⟩, ka, km, kc, na, nm, nc, by rw [e0, e1], hk, hn⟩
theorem openDisksOf {fuel : Nat} {v : Value} {x : DataW H × List MemPlace} (h : DataW.trod enc Tryz.prog w base (fun _ => true) held fuel 62 [v] = some x) : ∃ a len cap l, v = .slice a len cap ∧ InDisks w a len l := by
  have hc : Tryz.prog.cellsOf 188 = 4 := by kernel_rfl
  rcases open_slice Tryz.underlying62 h with ⟨hcs, _⟩ | ⟨a, len, cap, m, n, D, Pl, hcs, _, hl, hm, hmm, _, hi⟩
  · simp at hcs
    exact ⟨none, 0, 0, [], hcs, rfl, by simp, .inl rfl⟩
  · simp at hcs hmm
    subst hmm
    rw [hc] at hi
    obtain ⟨l, hll, hP⟩ := listD_of (P := fun i z => ∃ ka km kc na nm nc, w.cell? (a.add (i * 4)) = some (.int .i64 z.n) ∧ w.cell? (a.add (i * 4 + 1)) = some (.bool z.dead) ∧ w.cell? (a.add (i * 4 + 2)) = some (.slice ka km kc) ∧ w.cell? (a.add (i * 4 + 3)) = some (.slice na nm nc) ∧ InDisk w ka km na nm z) len (fun i hi' => by
      obtain ⟨cs', h1, h2⟩ := hi i (by omega)
      obtain ⟨_, h3, h4⟩ := World.cells?_some h1
      obtain ⟨z, ka, km, kc, na, nm, nc, rfl, hz⟩ := disk_of h2
      refine ⟨z, ka, km, kc, na, nm, nc, ?_, ?_, ?_, ?_, hz⟩
      · have := h4 0 (by omega); rw [add_add] at this; exact this
      · have := h4 1 (by omega); rw [add_add] at this; exact this
      · have := h4 2 (by omega); rw [add_add] at this; exact this
      · have := h4 3 (by omega); rw [add_add] at this; exact this)
    unfold maxLen at hm
    refine ⟨some a, len, m, l, hcs, hll.symm, by omega, ?_⟩
    by_cases h0 : l = []
    · exact .inl h0
    · have hpos : 0 < l.length := List.length_pos_iff.2 h0
      obtain ⟨b, o, sp⟩ := a
      obtain ⟨_, _, _, _, _, _, hc0, _⟩ := hP 0 hpos
      have hsp : sp = none := by
        cases sp with
        | none => rfl
        | some x => simp [World.cell?, Addr.add] at hc0; split at hc0 <;> simp_all
      subst hsp
      have hadd : ∀ i, (⟨b, o, none⟩ : Addr).add i = ⟨b, o + i, none⟩ := fun i => by cases i <;> simp [Addr.add]
      refine .inr ⟨b, o, rfl, ?_, fun i hi' => ?_⟩
      · rw [hadd] at hc0; exact cell_lt hc0
      · obtain ⟨ka, km, kc, na, nm, nc, x0, x1, x2, x3, x4⟩ := hP i hi'
        rw [hadd] at x0 x1 x2 x3
        exact ⟨ka, km, kc, na, nm, nc, x0, x1, x2, x3, x4⟩
theorem openDisks {r : Reach} {b0 : Nat} {v : Value} {d : DataW H} {p : List MemPlace} (hv : Value.okWide Tryz.prog w r b0 62 v) (h : DataW.Trod enc Tryz.prog w base (fun _ => true) held 62 v d p) :
    ∃ (l : List DZ) (a : Option Addr) (len cap : Nat), v = .slice a len cap ∧ InDisks w a len l := by
  obtain ⟨a0, n0, c0, rfl⟩ := okWide_slice Tryz.underlying62 hv
  obtain ⟨fuel, h⟩ := h
  obtain ⟨a, len, cap, l, h1, h2⟩ := openDisksOf (by simpa [Value.cells] using h)
  exact ⟨l, a, len, cap, h1, h2⟩
end
end Go.Proofs.YteialkknddpbjaaGreatDoor
