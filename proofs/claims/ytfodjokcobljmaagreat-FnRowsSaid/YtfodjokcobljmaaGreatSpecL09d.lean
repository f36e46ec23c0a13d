/- What the specification's NewArray returns. -/
import Derived.Test.YtfodjokcobljmaaGreatSpecL09c
namespace Go.Proofs.YtfodjokcobljmaaGreat
open Go.ChangeShapes Go.WideShapes Go.ChangeAt Go.RowKit
attribute [local go_sem] str_list str_size str_add lit_list0 add_lit lit_add str_cut

def newDs (rows k : Nat) : List DZ := (List.range k).map fun i : Nat => (⟨(i : Int), false, newL i rows, newL i rows⟩ : DZ)
theorem newDs_next (rows k : Nat) : newDs rows (k + 1) = newDs rows k ++ [⟨(k : Int), false, newL k rows, newL k rows⟩] := by simp [newDs, List.range_succ]
theorem newDs_length (rows k : Nat) : (newDs rows k).length = k := by simp [newDs]
theorem newDs_good (rows k : Nat) (hr : rows ≤ 16) (hk : k ≤ 5) : DGood (newDs rows k) := by
  refine ⟨by rw [newDs_length]; exact hk, fun d hd => ?_⟩
  simp only [newDs, List.mem_map] at hd
  obtain ⟨i, _, rfl⟩ := hd
  exact ⟨rfl, by rw [newL_length]; exact hr⟩
def AZ.fresh (ds : List DZ) : AZ := ⟨ds, [], [], 0, true⟩
/-- the value of an array -/
abbrev AZ.val (a : AZ) (v : Value) : Value := .agg #[v, .string (str a.log), .string (str a.next), .int .i64 a.stage, .bool a.up]
section
variable {w w' : World} {b B : Nat} {a : AZ} {v v' : Value} {raw raw' : List DV}
/-- the list of disks is replaced -/
theorem ABox.putDisks {r : Option Nat} {l : List DZ} (h : ABox w b B a v raw) (g : w.grownBy w' r) (hr : r ≠ some b) (hd : OD w' B v' l raw') (hv : v'.ownBlock ≠ some b) (hb : ∀ i (h : i < raw'.length), ¬ raw'[i].has b) :
    ABox (w'.setCell ⟨b, 0, none⟩ v') b B { a with ds := l } v' raw' :=
  ⟨(gkr g hr h.c0).same _, (gkr g hr h.c1).other (by simp) _, (gkr g hr h.c2).other (by simp) _, (gkr g hr h.c3).other (by simp) _, (gkr g hr h.c4).other (by simp) _, hd.far hv hb _, hv, hb⟩
end
/-- a new array's disks, made by appends -/
theorem gnewb {a b c : World} {q : Nat} {r : Option Nat} (h : a.grownBy b (some q)) (g : b.grownBy c r) (hr : ∀ k, r = some k → a.heap.size ≤ k) : a.grownBy c (some q) := gsubc h g hr
/-- a result variable of five cells -/
structure Zero5 (w : World) (r : Nat) : Prop where
  c0 : At w r 0 (.slice none 0 0)
  c1 : At w r 1 (.string (str []))
  c2 : At w r 2 (.string (str []))
  c3 : At w r 3 (.int .i64 0)
  c4 : At w r 4 (.bool false)
abbrev zero5 : Obj := .cells #[.slice none 0 0, .string ⟨#[]⟩, .string ⟨#[]⟩, .int .i64 0, .bool false] 63
theorem Zero5.new (w : World) : Zero5 (w.alloc zero5) w.heap.size := ⟨by simp [At, go_sem], by simp [At, go_sem]; rfl, by simp [At, go_sem]; rfl, by simp [At, go_sem], by simp [At, go_sem]⟩
theorem Zero5.kept {w w' : World} {r : Nat} {x : Option Nat} (h : Zero5 w r) (g : w.grownBy w' x) (hx : x ≠ some r) : Zero5 w' r := ⟨gkr g hx h.c0, gkr g hx h.c1, gkr g hx h.c2, gkr g hx h.c3, gkr g hx h.c4⟩
def set5 (w : World) (r : Nat) (x0 x1 x2 x3 x4 : Value) : World := ((((w.setCell ⟨r, 0, none⟩ x0).setCell ⟨r, 1, none⟩ x1).setCell ⟨r, 2, none⟩ x2).setCell ⟨r, 3, none⟩ x3).setCell ⟨r, 4, none⟩ x4
theorem gset5 {a w : World} {r : Nat} (h : a.grownBy w none) (hr : a.heap.size ≤ r) (x0 x1 x2 x3 x4 : Value) : a.grownBy (set5 w r x0 x1 x2 x3 x4) none := gset1 (gset1 (gset1 (gset1 (gset1 h hr _ _) hr _ _) hr _ _) hr _ _) hr _ _
theorem OD.set5 {w : World} {B r : Nat} {v : Value} {l : List DZ} {raw : List DV} (h : OD w B v l raw) (hv : v.ownBlock ≠ some r) (hr : ∀ i (h : i < raw.length), ¬ raw[i].has r) (x0 x1 x2 x3 x4 : Value) : OD (set5 w r x0 x1 x2 x3 x4) B v l raw :=
  ((((h.far hv hr _).far hv hr _).far hv hr _).far hv hr _).far hv hr _
theorem OD.not_old {w : World} {B r : Nat} {v : Value} {l : List DZ} {raw : List DV} (h : OD w B v l raw) (hr : r < B) : v.ownBlock ≠ some r ∧ ∀ i (h : i < raw.length), ¬ raw[i].has r :=
  ⟨fun e => by have := (h.own.lt r e).1; omega, fun i hi x => by have := (h.in i hi r x).1; omega⟩
set_option maxRecDepth 8000 in
set_option maxHeartbeats 4000000 in
theorem specNewArray_yes (n rows : Nat) (w : World) (hn : inB n 3 5 = true) (hr : inB rows 1 16 = true) :
    Calls Tryz.prog 59 #[.int .i64 n, .int .i64 rows] w fun e w' => ∃ v raw, e = .returned (.tuple #[(AZ.fresh (newDs rows n)).val v, .bool true]) ∧ OD w' w.heap.size v (newDs rows n) raw ∧ w.grownBy w' none := by
  have hn' := inB_iff.1 hn
  have hr' := inB_iff.1 hr
  have hr16 : rows ≤ 16 := by omega
  have hn5 : n ≤ 5 := by omega
  have Z0 := Zero5.new w
  have G0 := galloc (grefl w) zero5
  have e1 := galloc (grefl (w.alloc zero5)) (.cells #[.slice none 0 0, .string ⟨#[]⟩, .string ⟨#[]⟩, .int .i64 0, .bool true] 63)
  have Z1 := Z0.kept e1 (by simp)
  have G1 := gtrans G0 e1
  have hs1 : (w.alloc zero5).heap.size = w.heap.size + 1 := by simp
  have A1 : ABox ((w.alloc zero5).alloc (.cells #[.slice none 0 0, .string ⟨#[]⟩, .string ⟨#[]⟩, .int .i64 0, .bool true] 63)) (w.alloc zero5).heap.size ((w.alloc zero5).heap.size + 1) (AZ.fresh (newDs rows 0)) (.slice none 0 0) [] :=
    ⟨by simp [At, go_sem], by simp [At, go_sem]; rfl, by simp [At, go_sem]; rfl, by simp [At, go_sem]; rfl, by simp [At, go_sem]; rfl, OD.nil _ _, by simp [Value.ownBlock], fun i h => by simp at h⟩
  have hs2 : ((w.alloc zero5).alloc (.cells #[.slice none 0 0, .string ⟨#[]⟩, .string ⟨#[]⟩, .int .i64 0, .bool true] 63)).heap.size = w.heap.size + 2 := by simp
  rw [hs1] at A1
  clear Z0 G0 e1 hs1
  go_enter Tryz.func59, Tryz.ntmps59
  go_wp2_with fail
  go_fit (l5N_any _ _)
  rintro e w' ⟨rfl, rfl⟩
  rw [hn]
  go_wp2_with fail
  go_fit (l1In_any _ _ _ _)
  rintro e w' ⟨rfl, rfl⟩
  rw [hr]
  clear hn' hr' hn hr
  go_upto_region 4 with (fail)
  generalize (w.alloc zero5).alloc (.cells #[.slice none 0 0, .string ⟨#[]⟩, .string ⟨#[]⟩, .int .i64 0, .bool true] 63) = W0 at *
  go_wp2_with fail
  go_loopw [7] (fun i wr => ∃ (k : Nat) (v : Value) (raw : List DV), k ≤ n ∧ i = .int .i64 k ∧ ABox wr (w.heap.size + 1) (w.heap.size + 2) (AZ.fresh (newDs rows k)) v raw ∧ W0.grownBy wr (some (w.heap.size + 1))) (fun i _ => n - (intOf i).toNat)
  case atStart => exact ⟨0, _, _, Nat.zero_le _, rfl, A1, World.grownBy.refl _ _⟩
  case round =>
    clear A1
    obtain ⟨k, v, raw, hk, rfl, H, GX⟩ := hrel
    obtain ⟨va, vn, vc, rfl⟩ := H.od.own.sl
    have hwB : w.heap.size + 2 ≤ wr.heap.size := by have := GX.size; omega
    by_cases hlt : k < n
    · have hki : (k : Int) < n := by omega
      obtain ⟨c0, f0⟩ := H.c0
      have hrl : raw.length ≤ 5 := by have := H.od.len; simp [AZ.fresh, newDs_length] at this; omega
      have hlH := H.lt
      have HN := Lib.hid (newDs_next rows k)
      go_wp2_with fail
      go_region_law (first | (go_simp; go_at_call 70; go_fit (l3New_any (k : Int) rows _ hr16); rintro e w8 ⟨kv, nv, rfl, I8, ap8, g8⟩; have g8' : wr.grownBy w8 none := gtrans (gdrew (grefl wr) 1) g8; obtain ⟨ka, km, kc, rfl⟩ := I8.1.sl; obtain ⟨na, nm, nc, rfl⟩ := I8.2.sl; have H8 := H.kept g8'; obtain ⟨t0, u0⟩ := H8.c0; have hl8 := H8.lt) | (refine step_append_o (E := diskE) (base := w.heap.size + 2) rfl (.tmp 24) (.tmp 28) rfl rfl rfl (Own.grew H8.od.own (galloc (grefl _) _)) (DV.single _ ⟨(k : Int), false, ka, km, kc, na, nm, nc⟩) (by simp; omega) (by decide) (by have := g8'.size; simp; omega) ?_; intro v' w6 o6 g6 b6; have C6 := OD.app (H8.od.grew (galloc (grefl w8) _)) ⟨(k : Int), false, ka, km, kc, na, nm, nc⟩ ⟨(k : Int), false, newL k rows, newL k rows⟩ ⟨rfl, rfl, Own.grew (I8.1.lower hwB) (galloc (grefl w8) _), Own.grew (I8.2.lower hwB) (galloc (grefl w8) _)⟩ ap8 (fun q hq => by have h1 : wr.heap.size ≤ q := (by rcases hq with hq | hq; exact (I8.1.lt q hq).1; exact (I8.2.lt q hq).1); exact ⟨fun i hi x => (by have := (H.od.in i hi q x).2; omega), fun x => (by have := (H.od.own.lt q x).2; omega)⟩) g6 o6 b6; obtain ⟨t6, u6⟩ := gkr g6 H8.vb (gk (galloc (grefl w8) _) H8.c0); obtain ⟨a6, n6, c6, rfl⟩ := o6.sl))
      all_goals (
        have hb6 : (Value.slice a6 n6 c6).ownBlock ≠ some (w.heap.size + 1) := (C6.not_old (by omega)).1
        have H6 := (H8.kept (galloc (grefl w8) (.cells #[.int .i64 (k : Int), .bool false, .slice ka km kc, .slice na nm nc] 41))).putDisks g6 H8.vb C6 hb6 (C6.not_old (by omega)).2
        have G6 : W0.grownBy (w6.setCell ⟨w.heap.size + 1, 0, none⟩ (.slice a6 n6 c6)) (some (w.heap.size + 1)) := gset (gsubc (galloc (gtrans GX (gweak g8' _)) _) g6 (fun q e => by have := (H8.od.own.lt q e).1; omega)) _ _
        dsimp only [AZ.fresh] at H6
        rw [← HN.out] at H6
        generalize w6.setCell ⟨w.heap.size + 1, 0, none⟩ (.slice a6 n6 c6) = W6 at *
        clear C6 g6 o6 b6 t6 u6 t0 u0 H8
        go_wp2_with fail
        go_roundw
        case rel => exact ⟨k + 1, _, _, by omega, by go_num, H6, G6⟩
        case measure => simp [intOf]; omega)
    · obtain rfl : k = n := by omega
      have GG : w.grownBy wr none := gsub G1 GX (fun q e => by cases e; omega)
      obtain ⟨c0, f0⟩ := H.c0
      obtain ⟨c1, f1⟩ := H.c1
      obtain ⟨c2, f2⟩ := H.c2
      obtain ⟨c3, f3⟩ := H.c3
      obtain ⟨c4, f4⟩ := H.c4
      dsimp only [AZ.fresh] at c1 c2 c3 c4
      obtain ⟨⟨z0, y0⟩, ⟨z1, y1⟩, ⟨z2, y2⟩, ⟨z3, y3⟩, ⟨z4, y4⟩⟩ := Z1.kept GX (by simp)
      have hno := H.od.not_old (r := w.heap.size) (by omega)
      have hR : ∃ v raw, Ending.returned (.tuple #[(AZ.fresh (newDs rows k)).val (.slice va vn vc), .bool true]) = Ending.returned (.tuple #[(AZ.fresh (newDs rows k)).val v, .bool true]) ∧ OD (set5 wr w.heap.size (.slice va vn vc) (.string (str [])) (.string (str [])) (.int .i64 0) (.bool true)) w.heap.size v (newDs rows k) raw ∧ w.grownBy (set5 wr w.heap.size (.slice va vn vc) (.string (str [])) (.string (str [])) (.int .i64 0) (.bool true)) none :=
        ⟨_, raw, rfl, (H.od.set5 hno.1 hno.2 _ _ _ _ _).lower (by omega), gset5 GG (Nat.le_refl _) _ _ _ _ _⟩
      go_wp2_with fail
      exact bodyPost_ret (v := .tuple #[(AZ.fresh (newDs rows k)).val (.slice va vn vc), .bool true]) (by simp [results, Tryz.results59, go_sem, z0, z1, z2, z3, z4, AZ.fresh]) rfl hR
end Go.Proofs.YtfodjokcobljmaaGreat
