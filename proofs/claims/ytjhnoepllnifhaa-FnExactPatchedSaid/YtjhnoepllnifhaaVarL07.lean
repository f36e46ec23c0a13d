/- A law's local patches: each in a box, its slices in blocks between the world's size at its making and the box. -/
import Derived.Test.YtjhnoepllnifhaaLawL07
namespace Go.Proofs.Ytjhnoepllnifhaa
open Go.ChangeShapes Go.WideShapes Go.ChangeAt Go.RowKit

structure VarP (W : World) (lo b : Nat) (p : PZ) (dv vv : Value) : Prop where
  box : PBox W b lo p dv vv
  dh : ∀ k, dv.ownBlock = some k → k < b
  vh : ∀ k, vv.ownBlock = some k → k < b
section
variable {w W W' : World} {lo b : Nat} {p : PZ} {dv vv : Value}
theorem VarP.kept (h : VarP W lo b p dv vv) (g : W.grownBy W' none) : VarP W' lo b p dv vv := ⟨h.box.kept g, h.dh, h.vh⟩
theorem VarP.b3 (h : VarP W lo b p dv vv) : Box3 W b (.int .i64 p.row) dv vv := ⟨h.box.c0.1, h.box.c1.1, h.box.c2.1⟩
theorem VarP.rd (h : VarP W lo b p dv vv) : IR W dv p.ds := Own.rd h.box.ds
theorem VarP.rv (h : VarP W lo b p dv vv) : IR W vv p.vs := Own.rd h.box.vs
theorem VarP.new {w1 : World} (h1 : IS w1 lo dv p.ds) (h2 : IS w1 lo vv p.vs) (ap : Apart dv vv) (T : Nat) : VarP (w1.alloc (.cells #[.int .i64 p.row, dv, vv] T)) lo w1.heap.size p dv vv := by
  have g := galloc (grefl w1) (.cells #[.int .i64 p.row, dv, vv] T)
  exact ⟨⟨by simp [At, go_sem], by simp [At, go_sem], by simp [At, go_sem], Own.grew h1 g, Own.grew h2 g, ap, fun e => by have := (Own.lt h1 _ e).2; omega, fun e => by have := (Own.lt h2 _ e).2; omega⟩, fun k e => (Own.lt h1 k e).2, fun k e => (Own.lt h2 k e).2⟩
theorem VarP.lo1 (h : VarP W lo b p dv vv) (k : Nat) (e : dv.ownBlock = some k ∨ vv.ownBlock = some k) : lo ≤ k ∧ k < b := by
  rcases e with e | e
  · exact ⟨(Own.lt h.box.ds k e).1, h.dh k e⟩
  · exact ⟨(Own.lt h.box.vs k e).1, h.vh k e⟩
theorem own_only {S : Nat → Prop} {v : Value} {l : List Int} (hv : IS W lo v l) (O : Only S W W') (hn : ∀ k, v.ownBlock = some k → ¬ S k) : IS W' lo v l := by
  obtain ⟨h0, h1 | ⟨g, c, cur, he, hg, hh, rest⟩⟩ := hv
  · exact ⟨h0, .inl h1⟩
  · exact ⟨h0, .inr ⟨g, c, cur, he, hg, by rw [O.block g (Array.getElem?_eq_some_iff.1 hh).1 (hn g (by rw [he]; rfl))]; exact hh, rest⟩⟩
/-- other memory was written -/
theorem VarP.only {S : Nat → Prop} (h : VarP W lo b p dv vv) (O : Only S W W') (hS : ∀ k, S k → b < k ∨ k < lo) (hb : lo ≤ b) : VarP W' lo b p dv vv := by
  have nb : ¬ S b := fun e => by have := hS b e; omega
  exact ⟨⟨O.at nb h.box.c0, O.at nb h.box.c1, O.at nb h.box.c2, own_only h.box.ds O (fun k e s => by have := h.lo1 k (.inl e); have := hS k s; omega), own_only h.box.vs O (fun k e s => by have := h.lo1 k (.inr e); have := hS k s; omega), h.box.ap, h.box.db, h.box.vb⟩, h.dh, h.vh⟩
/-- it was marked itself -/
theorem VarP.marked {ds vs : List Int} (h : VarP W lo b p dv vv) (h1 : IS W' lo dv ds) (h2 : IS W' lo vv vs) (O : Only (fun k => dv.ownBlock = some k ∨ vv.ownBlock = some k) W W') : VarP W' lo b ⟨p.row, ds, vs⟩ dv vv := by
  have nb : ¬ (dv.ownBlock = some b ∨ vv.ownBlock = some b) := fun e => by rcases e with e | e; exact h.box.db e; exact h.box.vb e
  exact ⟨⟨O.at nb h.box.c0, O.at nb h.box.c1, O.at nb h.box.c2, h1, h2, h.box.ap, h.box.db, h.box.vb⟩, h.dh, h.vh⟩
end
end Go.Proofs.Ytjhnoepllnifhaa
