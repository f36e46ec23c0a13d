/- A scope in which the run jumps back to one of three labels. -/
import Derived.Test.YtnhefdmnpoaegaaGreatDoorBase
import Derived.ScopeJumps
import Derived.WalkMore
namespace Go.Proofs.YtnhefdmnpoaegaaGreatDoor
/-- As Q; by a goto to label l: J l. -/
def jumpF (J : Nat → Act → World → Prop) (Q : Exit → Act → World → Prop) : Exit → Act → World → Prop
  | .goto l, a, w => J l a w
  | e, a, w => Q e a w
section
variable {P : Program} {a : Act} {w : World} {Q : Exit → Act → World → Prop}
theorem wp_scope_jumps3 {c x0 x1 x2 : Code} (J : Nat → Act → World → Prop) (μ : Act → World → Nat) (M : Nat) (h0 : findLabel c 0 = some (Code.skip.seq x0)) (h1 : findLabel c 1 = some (Code.skip.seq x1)) (h2 : findLabel c 2 = some (Code.skip.seq x2)) (hJ : ∀ l a w, J l a w → l = 0 ∨ l = 1 ∨ l = 2)
    (p2 : ∀ M a w, J 2 a w → μ a w ≤ M → x2.wp P (jumpF (fun l' a' w' => J l' a' w' ∧ μ a' w' < M) Q) a w)
    (p1 : (∀ M a w, J 2 a w → μ a w ≤ M → x2.wp P (jumpF (fun l' a' w' => J l' a' w' ∧ μ a' w' < M) Q) a w) → ∀ M a w, J 1 a w → μ a w ≤ M → x1.wp P (jumpF (fun l' a' w' => J l' a' w' ∧ μ a' w' < M) Q) a w)
    (p0 : (∀ M a w, J 1 a w → μ a w ≤ M → x1.wp P (jumpF (fun l' a' w' => J l' a' w' ∧ μ a' w' < M) Q) a w) → ∀ M a w, J 0 a w → μ a w ≤ M → x0.wp P (jumpF (fun l' a' w' => J l' a' w' ∧ μ a' w' < M) Q) a w)
    (first : (∀ M a w, J 0 a w → μ a w ≤ M → x0.wp P (jumpF (fun l' a' w' => J l' a' w' ∧ μ a' w' < M) Q) a w) → c.wp P (jumpF (fun l' a' w' => J l' a' w' ∧ μ a' w' < M) Q) a w) : (Code.scope c).wp P Q a w := by
  have q1 := p1 p2
  have q0 := p0 q1
  have F := first q0
  intro b k cs
  have rs : ∀ l a w, J l a w → ∃ r, findLabel c l = some r ∧ ∀ M, μ a w ≤ M → r.wp P (jumpF (fun l' a' w' => J l' a' w' ∧ μ a' w' < M) Q) a w := fun l a w hl => by
    rcases hJ l a w hl with rfl | rfl | rfl
    · exact ⟨_, h0, fun M hM => wp_seq (wp_skip (q0 M a w hl hM))⟩
    · exact ⟨_, h1, fun M hM => wp_seq (wp_skip (q1 M a w hl hM))⟩
    · exact ⟨_, h2, fun M hM => wp_seq (wp_skip (p2 M a w hl hM))⟩
  have key : ∀ n a w l r, μ a w = n → J l a w → findLabel c l = some r → ∃ e a' w', Q e a' w' ∧ Arrives P (lone (b.at a (.code r :: .inScope c :: k)) cs w) b k cs e a' w' := by
    intro n
    induction n using Nat.strongRecOn with
    | _ n ih =>
      intro a w l r hn hl hr
      obtain ⟨r', hr', hp⟩ := rs l a w hl
      obtain rfl : r' = r := Option.some.inj (hr'.symm.trans hr)
      obtain ⟨e, a₁, w₁, hq, harr⟩ := hp n (by omega) b (.inScope c :: k) cs
      cases e with
      | normal => exact ⟨.normal, a₁, w₁, hq, Steps.trans harr (.one step_inScope)⟩
      | exit id => exact ⟨.exit id, a₁, w₁, hq, fun k' hk => harr k' (by simp [exitTo, hk])⟩
      | goto l' =>
        obtain ⟨hJ', hlt⟩ := hq
        obtain ⟨r₂, hr₂, -⟩ := rs l' a₁ w₁ hJ'
        obtain ⟨e₂, a₂, w₂, hq₂, harr₂⟩ := ih _ hlt a₁ w₁ l' r₂ rfl hJ' hr₂
        have hg : gotoIn l' (.inScope c :: k) = some (.code r₂ :: .inScope c :: k) := by simp [gotoIn, hr₂]
        exact ⟨e₂, a₂, w₂, hq₂, .of_steps (harr _ hg) harr₂⟩
      | ret => exact ⟨_, a₁, w₁, hq, harr⟩
      | panic ch => exact ⟨_, a₁, w₁, hq, harr⟩
      | outgrown => exact ⟨_, a₁, w₁, hq, harr⟩
  obtain ⟨e, a₁, w₁, hq, harr⟩ := F b (.inScope c :: k) cs
  cases e with
  | normal => exact ⟨.normal, a₁, w₁, hq, .head step_scope (Steps.trans harr (.one step_inScope))⟩
  | exit id => exact ⟨.exit id, a₁, w₁, hq, fun k' hk => .head step_scope (harr k' (by simp [exitTo, hk]))⟩
  | goto l' =>
    obtain ⟨hJ', -⟩ := hq
    obtain ⟨r₂, hr₂, -⟩ := rs l' a₁ w₁ hJ'
    obtain ⟨e₂, a₂, w₂, hq₂, harr₂⟩ := key _ a₁ w₁ l' r₂ rfl hJ' hr₂
    have hg : gotoIn l' (.inScope c :: k) = some (.code r₂ :: .inScope c :: k) := by simp [gotoIn, hr₂]
    exact ⟨e₂, a₂, w₂, hq₂, .of_steps (.head step_scope (harr _ hg)) harr₂⟩
  | ret => exact ⟨_, a₁, w₁, hq, .of_steps (.one step_scope) harr⟩
  | panic ch => exact ⟨_, a₁, w₁, hq, .of_steps (.one step_scope) harr⟩
  | outgrown => exact ⟨_, a₁, w₁, hq, .of_steps (.one step_scope) harr⟩
end
end Go.Proofs.YtnhefdmnpoaegaaGreatDoor
