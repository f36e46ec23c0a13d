/- What the specification's l7Patch does to a list of disks. -/
import Derived.Test.YtfodjokcobljmaaGreatOwnD3
import Derived.Test.YtfodjokcobljmaaGreatBaseL07
import Derived.Test.YtfodjokcobljmaaGreatMemB
import Derived.BigQuiet
namespace Go.Proofs.YtfodjokcobljmaaGreat
open Go.ChangeShapes Go.WideShapes Go.ChangeAt Go.RowKit

/-- the disks behind a patch's first k writes -/
def patchK (l : List DZ) (p : PZ) : Nat → List DZ
  | 0 => l
  | k + 1 => if p.ds.getD k 0 < l.length then (patchK l p k).set (p.ds.getD k 0).toNat (((patchK l p k).getD (p.ds.getD k 0).toNat .zero).put p.row (p.vs.getD k 0)) else patchK l p k
def patchZ (l : List DZ) (p : PZ) : List DZ := patchK l p p.ds.length
theorem patchK_length (l : List DZ) (p : PZ) (k : Nat) : (patchK l p k).length = l.length := by
  induction k with
  | zero => rfl
  | succ k ih => unfold patchK; split <;> simp [ih]
/-- the blocks of the lists Now -/
def NowB (raw : List DV) (k : Nat) : Prop := ∃ i, ∃ h : i < raw.length, raw[i].nv.ownBlock = some k
/-- what l7Patch reads: the patch -/
abbrev PrS (w' : World) (b : Nat) (row : Int) (dv vv : Value) (g o : Nat) (d : Int) (h q : Nat) (v : Int) : Prop := Box3 w' b (.int .i64 row) dv vv ∧ w'.cell? ⟨g, o, none⟩ = some (.int .i64 d) ∧ w'.cell? ⟨h, q, none⟩ = some (.int .i64 v)
theorem PrS.drew {w' : World} {b : Nat} {row : Int} {dv vv : Value} {g o : Nat} {d : Int} {h q : Nat} {v : Int} (s : PrS w' b row dv vv g o d h q v) : PrS w'.drew b row dv vv g o d h q v := s
theorem PrS.only {S : Nat → Prop} {w' w2 : World} {b : Nat} {row : Int} {dv vv : Value} {g o : Nat} {d : Int} {h q : Nat} {v : Int} (s : PrS w' b row dv vv g o d h q v) (k : Only S w' w2) (h1 : ¬ S b) (h2 : ¬ S g) (h3 : ¬ S h) : PrS w2 b row dv vv g o d h q v :=
  ⟨s.1.only k h1, only_cell s.2.1 k h2, only_cell s.2.2 k h3⟩
set_option maxRecDepth 8000 in
set_option maxHeartbeats 4000000 in
theorem l7Patch_any (base : Nat) (v : Value) (l : List DZ) (raw : List DV) (p : PZ) (dv vv : Value) (w : World) (h : OD w base v l raw) (hd : IR w dv p.ds) (hv : IR w vv p.vs)
    (hlen : p.vs.length = p.ds.length) (hpos : ∀ i (h : i < p.ds.length), 0 ≤ p.ds[i])
    (hdb : ∀ k, dv.ownBlock = some k → ¬ NowB raw k) (hvb : ∀ k, vv.ownBlock = some k → ¬ NowB raw k) :
    Calls Tryz.prog 85 #[v, .agg #[.int .i64 p.row, dv, vv]] w fun e w' => e = .returned (.tuple #[]) ∧ OD w' base v (patchZ l p) raw ∧ Only (NowB raw) w w' := by
  obtain ⟨row, ds, vs⟩ := p
  dsimp only at *
  obtain ⟨da, dc, rfl, dm⟩ := hd.form
  obtain ⟨va, vc, rfl, vm⟩ := hv.form
  obtain ⟨a, cap, rfl, lm⟩ := h.form
  have B0 := Box3.new w (.int .i64 row) (.slice da ds.length dc) (.slice va vs.length vc) 94
  have G0 := galloc (grefl w) (.cells #[.int .i64 row, .slice da ds.length dc, .slice va vs.length vc] 94)
  have h0 := h.grew G0
  have hd0 := hd.kept G0
  have hv0 := hv.kept G0
  have hbb : ¬ NowB raw w.heap.size := fun ⟨i, hi, e⟩ => by have := (h.in i hi _ (.inr e)).2; omega
  have HLn := Lib.hid hlen
  have HPos : Hid (∀ i (h : i < ds.length), 0 ≤ ds[i]) := hpos
  have HDb : Hid (∀ k, (Value.slice da ds.length dc).ownBlock = some k → ¬ NowB raw k) := hdb
  have HVb : Hid (∀ k, (Value.slice va vs.length vc).ownBlock = some k → ¬ NowB raw k) := hvb
  clear hd hv hlen hpos hdb hvb h
  go_enter Tryz.func85, Tryz.ntmps85
  go_wp2_with fail
  generalize w.alloc (.cells #[.int .i64 row, .slice da ds.length dc, .slice va vs.length vc] 94) = W0 at *
  generalize w.heap.size = bb at *
  go_loopw [4] (fun i wr => ∃ k : Nat, k ≤ ds.length ∧ i = .int .i64 k ∧ OD wr base (.slice a l.length cap) (patchK l ⟨row, ds, vs⟩ k) raw ∧ Only (NowB raw) W0 wr) (fun i _ => ds.length - (intOf i).toNat)
  case atStart => exact ⟨0, Nat.zero_le _, rfl, h0, Only.refl _ _⟩
  case round =>
    clear h0
    obtain ⟨k, hk, rfl, C, O⟩ := hrel
    obtain ⟨b0, b1, b2⟩ := B0.only O hbb
    by_cases hlt : k < ds.length
    · have hki : (k : Int) < ds.length := by omega
      have hlv : k < vs.length := by rw [HLn.out]; exact hlt
      have hkv : (k : Int) < vs.length := by omega
      obtain ⟨g, o, rfl, x0⟩ := (Rd.only hd0 O HDb.out).at k hlt
      obtain ⟨hb, q, rfl, y0⟩ := (Rd.only hv0 O HVb.out).at k hlv
      have h1 := HPos.out k hlt
      have HK : Hid (patchK l ⟨row, ds, vs⟩ (k + 1) = if ds[k] < l.length then (patchK l ⟨row, ds, vs⟩ k).set ds[k].toNat (((patchK l ⟨row, ds, vs⟩ k).getD ds[k].toNat .zero).put row vs[k]) else patchK l ⟨row, ds, vs⟩ k) := by
        show _ = _
        rw [patchK]
        simp only [List.getD_eq_getElem?_getD, List.getElem?_eq_getElem hlt, List.getElem?_eq_getElem hlv, Option.getD_some]
      have hpl := patchK_length l ⟨row, ds, vs⟩ k
      generalize patchK l ⟨row, ds, vs⟩ k = M at *
      obtain ⟨d, hd⟩ := Int.eq_ofNat_of_zero_le h1
      rw [hd] at x0 HK
      simp only [Int.toNat_natCast] at HK
      generalize vs[k] = x at *
      clear hd h1
      by_cases hin : (d : Int) < l.length
      · rw [if_pos hin] at HK
        have hdl : d < M.length := by omega
        have hdr : d < raw.length := by rw [C.len]; exact hdl
        have hgd : M.getD d .zero = M[d] := getD_at hdl
        rw [hgd] at HK
        obtain ⟨lg, e, -, hlg, -, -, -, -⟩ := C.at d hdr hdl
        cases e
        have DA := (C.dat d hdr hdl).kept (gdrew (grefl wr) 1)
        have S0 : PrS wr bb row _ _ g (o + k) d hb (q + k) x := ⟨⟨b0, b1, b2⟩, x0, y0⟩
        have n1 : ¬ NowB raw g := HDb.out g rfl
        have n2 : ¬ NowB raw hb := HVb.out hb rfl
        have hlh : ¬ NowB raw lg := fun ⟨i, hi, e⟩ => C.out i hi lg (.inr e) rfl
        have hsub : ∀ j, raw[d].nv.ownBlock = some j → NowB raw j := fun j e => ⟨d, hdr, e⟩
        clear b0 b1 b2 x0 y0
        go_wp2_with fail
        go_region_held3 (fun w' => PrS w' bb row (.slice (some ⟨g, o, none⟩) ds.length dc) (.slice (some ⟨hb, q, none⟩) vs.length vc) g (o + k) d hb (q + k) x) (first | assumption | exact S0.drew) (first | (go_at_call 71; go_fit (l3WriteAt_any lg (d * 4) base M[d] raw[d].kv raw[d].nv row x _ DA); rintro e w8 ⟨rfl, D8, g8⟩; have O8 : Only (NowB raw) wr w8 := (Only.of (gdrew (grefl wr) 1) (fun _ e => by cases e)).trans (Only.of g8 hsub); have S8 := S0.only O8 hbb n1 n2))
        have C8 := (C.grew (gdrew (grefl wr) 1)).wrote d hdr hdl D8 g8
        rw [← HK.out] at C8
        go_wp2_with fail
        go_roundw
        case rel => exact ⟨k + 1, by omega, by go_num, C8, O.trans O8⟩
        case measure => simp [intOf]; omega
      · rw [if_neg hin] at HK
        rw [← HK.out] at C
        go_wp2_with fail
        go_roundw
        case rel => exact ⟨k + 1, by omega, by go_num, C, O⟩
        case measure => simp [intOf]; omega
    · obtain rfl : k = ds.length := by omega
      go_wp2_with fail
      go_end0
      exact ⟨rfl, C, (Only.of (gweak G0 none) (fun _ e => by cases e)).trans O⟩
end Go.Proofs.YtfodjokcobljmaaGreat
