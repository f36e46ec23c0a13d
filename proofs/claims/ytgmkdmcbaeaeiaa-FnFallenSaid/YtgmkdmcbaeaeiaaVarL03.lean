/- A law's local disks: each in a box, its slices in blocks between the world's size at its making and the box. -/
import Derived.Test.YtgmkdmcbaeaeiaaLawL03b
namespace Go.Proofs.Ytgmkdmcbaeaeiaa
open Go.ChangeShapes Go.WideShapes Go.ChangeAt Go.RowKit

structure Var (W : World) (lo b : Nat) (d : DZ) (kv nv : Value) : Prop where
  box : DBox W b lo d kv nv
  kh : ∀ k, kv.ownBlock = some k → k < b
  nh : ∀ k, nv.ownBlock = some k → k < b
section
variable {w W W' : World} {lo b : Nat} {d : DZ} {kv nv : Value}
theorem Var.kept (h : Var W lo b d kv nv) (g : W.grownBy W' none) : Var W' lo b d kv nv := ⟨h.box.kept g, h.kh, h.nh⟩
theorem Var.b4 (h : Var W lo b d kv nv) : Box4 W b (.int .i64 d.n) (.bool d.dead) kv nv := ⟨h.box.c0.1, h.box.c1.1, h.box.c2.1, h.box.c3.1⟩
theorem Var.isD (h : Var W lo b d kv nv) : IsD W 0 kv nv d := h.box.isD
theorem Var.new {w1 : World} (h : IsD w1 lo kv nv d) (ap : Apart kv nv) (T : Nat) : Var (w1.alloc (.cells #[.int .i64 d.n, .bool d.dead, kv, nv] T)) lo w1.heap.size d kv nv :=
  ⟨DBox.boxed h ap T, fun k e => (h.1.lt k e).2, fun k e => (h.2.lt k e).2⟩
theorem Var.klo (h : Var W lo b d kv nv) (k : Nat) (e : Two2 kv nv k) : lo ≤ k ∧ k < b := by
  rcases e with e | e
  · exact ⟨(h.box.ks.lt k e).1, h.kh k e⟩
  · exact ⟨(h.box.ns.lt k e).1, h.nh k e⟩
/-- another disk's memory was written -/
theorem Var.only {S : Nat → Prop} (h : Var W lo b d kv nv) (O : Only S W W') (hS : ∀ k, S k → b < k ∨ k < lo) (hb : lo ≤ b) : Var W' lo b d kv nv := by
  have nb : ¬ S b := fun e => by have := hS b e; omega
  have nk : ∀ k, Two2 kv nv k → ¬ S k := fun k e s => by have := h.klo k e; have := hS k s; omega
  have ko : ∀ {v : Value} {l : List (Int × Int)}, CS W lo v l → (∀ k, v.ownBlock = some k → ¬ S k) → CS W' lo v l := by
    intro v l hv hn
    obtain ⟨h0, h1 | ⟨g, c, cur, he, hg, hh, rest⟩⟩ := hv
    · exact ⟨h0, .inl h1⟩
    · exact ⟨h0, .inr ⟨g, c, cur, he, hg, by rw [O.block g (Array.getElem?_eq_some_iff.1 hh).1 (hn g (by rw [he]; rfl))]; exact hh, rest⟩⟩
  exact ⟨⟨O.at nb h.box.c0, O.at nb h.box.c1, O.at nb h.box.c2, O.at nb h.box.c3, ko h.box.ks (fun k e => nk k (.inl e)), ko h.box.ns (fun k e => nk k (.inr e)), h.box.ap, h.box.kb, h.box.nb⟩, h.kh, h.nh⟩
/-- it was marked itself -/
theorem Var.marked {d' : DZ} (h : Var W lo b d kv nv) (hm : IsD W' lo kv nv d') (O : Only (Two2 kv nv) W W') (hn : d'.n = d.n) (hd : d'.dead = d.dead) : Var W' lo b d' kv nv := by
  have nb : ¬ Two2 kv nv b := fun e => by rcases e with e | e; exact h.box.kb e; exact h.box.nb e
  exact ⟨⟨by rw [hn]; exact O.at nb h.box.c0, by rw [hd]; exact O.at nb h.box.c1, O.at nb h.box.c2, O.at nb h.box.c3, hm.1, hm.2, h.box.ap, h.box.kb, h.box.nb⟩, h.kh, h.nh⟩
end
theorem Box4.only {W W' : World} {S : Nat → Prop} {b : Nat} {x0 x1 x2 x3 : Value} (h : Box4 W b x0 x1 x2 x3) (O : Only S W W') (hb : ¬ S b) : Box4 W' b x0 x1 x2 x3 := by
  have hl := O.block b (cell_lt h.1) hb
  exact ⟨(World.cell?_of_block (w := W) hl).trans h.1, (World.cell?_of_block (w := W) hl).trans h.2.1, (World.cell?_of_block (w := W) hl).trans h.2.2.1, (World.cell?_of_block (w := W) hl).trans h.2.2.2⟩
theorem markE_pos {k : Int} (d : DZ) (h : 0 ≤ k) : 0 ≤ markE k d := by unfold markE; omega
/-- what a law's drawn test holds on to -/
abbrev LS (w' : World) (b1 : Nat) (x0 x1 x2 x3 : Value) (b2 : Nat) (y0 y1 y2 y3 : Value) : Prop := Box4 w' b1 x0 x1 x2 x3 ∧ Box4 w' b2 y0 y1 y2 y3
theorem LS.kept {w' w2 : World} {b1 b2 : Nat} {x0 x1 x2 x3 y0 y1 y2 y3 : Value} (h : LS w' b1 x0 x1 x2 x3 b2 y0 y1 y2 y3) (g : w'.grownBy w2 none) : LS w2 b1 x0 x1 x2 x3 b2 y0 y1 y2 y3 := ⟨h.1.kept g, h.2.kept g⟩
theorem LS.drew {w' : World} {b1 b2 : Nat} {x0 x1 x2 x3 y0 y1 y2 y3 : Value} (h : LS w' b1 x0 x1 x2 x3 b2 y0 y1 y2 y3) : LS w'.drew b1 x0 x1 x2 x3 b2 y0 y1 y2 y3 := h
theorem DZ.small_zero : (DZ.zero).k.length ≤ 16 ∧ (DZ.zero).m.length ≤ 16 := by simp [DZ.zero]
theorem DZ.written_small (d : DZ) (p v : Int) : (d.written p v).k.length ≤ 16 ∧ (d.written p v).m.length ≤ 16 := by
  unfold DZ.written; split
  · rename_i h; have := d.ok_len h; unfold DZ.put; split
    · simp; omega
    · omega
  · exact DZ.small_zero
theorem DZ.flushed_small (d : DZ) : d.flushed.k.length ≤ 16 ∧ d.flushed.m.length ≤ 16 := by
  unfold DZ.flushed; split
  · rename_i h; have := d.ok_len h; simp; omega
  · exact DZ.small_zero
theorem DZ.fallen_small (d : DZ) (s : Int) : (d.fallen s).k.length ≤ 16 ∧ (d.fallen s).m.length ≤ 16 := by
  unfold DZ.fallen; split
  · rename_i h; have := d.ok_len h; split
    · simp [DZ.fall, fallL_length]; omega
    · omega
  · exact DZ.small_zero
theorem DZ.died_small (d : DZ) : d.died.k.length ≤ 16 ∧ d.died.m.length ≤ 16 := by
  unfold DZ.died; split
  · simp
  · exact DZ.small_zero
theorem newD_small (n p : Int) : (newD n p).k.length ≤ 16 ∧ (newD n p).m.length ≤ 16 := by
  unfold newD newOk; split
  · rename_i h; simp [inB] at h; simp [newL_length]; omega
  · exact DZ.small_zero
end Go.Proofs.Ytgmkdmcbaeaeiaa
