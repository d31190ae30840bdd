/-
  A scope whose run jumps to two labels; what is known at every jump, and a number that falls. No program named.
-/
import Derived.Test.YtjoaiaeohlhbkaaDoorChecked
import Derived.ScopeJumps
import Derived.WalkMore
namespace Go.Proofs.YtjoaiaeohlhbkaaDoor.rose
open Go
set_option linter.unusedVariables false

/-- As Q; by a goto to a label l: J l. -/
def jumps (J : Nat → Act → World → Prop) (Q : Exit → Act → World → Prop) : Exit → Act → World → Prop
  | .goto l, a, w => J l a w
  | e, a, w => Q e a w

section
variable {P : Program} {a : Act} {w : World} {Q : Exit → Act → World → Prop}

theorem wp_turn {c : Code} {Q Q' : Exit → Act → World → Prop} (h : c.wp P Q a w) (hq : ∀ e a w, Q e a w → Q' e a w) : c.wp P Q' a w := fun b k cs => by
  obtain ⟨e, a₁, w₁, h1, h2⟩ := h b k cs
  exact ⟨e, a₁, w₁, hq _ _ _ h1, h2⟩

theorem wp_scope_ghost {c : Code} (J : Nat → Nat → Act → World → Prop)
    (first : c.wp P (jumps (fun l a' w' => ∃ n, J n l a' w') Q) a w)
    (pass : ∀ n l a w, J n l a w → ∃ rest, findLabel c l = some rest ∧ rest.wp P (jumps (fun l' a' w' => ∃ n', n' < n ∧ J n' l' a' w') Q) a w) : (Code.scope c).wp P Q a w := by
  intro b k cs
  have key : ∀ n l a w, J n l a w → ∃ rest, findLabel c l = some rest ∧ ∃ e a' w', Q e a' w' ∧ Arrives P (lone (b.at a (.code rest :: .inScope c :: k)) cs w) b k cs e a' w' := by
    intro n
    induction n using Nat.strongRecOn with
    | _ n ih =>
      intro l a w hJ
      obtain ⟨rest, hf, hp⟩ := pass n l a w hJ
      refine ⟨rest, hf, ?_⟩
      obtain ⟨e, a₁, w₁, hq, harr⟩ := hp b (.inScope c :: k) cs
      cases e with
      | normal => exact ⟨.normal, a₁, w₁, hq, Steps.trans harr (.one step_inScope)⟩
      | exit id => exact ⟨.exit id, a₁, w₁, hq, fun k' hk => harr k' (by simp [exitTo, hk])⟩
      | goto l' =>
        obtain ⟨n', hlt, hJ'⟩ := hq
        obtain ⟨rest', hf', e₂, a₂, w₂, hq₂, harr₂⟩ := ih n' hlt l' a₁ w₁ hJ'
        have hg : gotoIn l' (.inScope c :: k) = some (.code rest' :: .inScope c :: k) := by simp [gotoIn, hf']
        exact ⟨e₂, a₂, w₂, hq₂, .of_steps (harr _ hg) harr₂⟩
      | ret => exact ⟨_, a₁, w₁, hq, harr⟩
      | panic ch => exact ⟨_, a₁, w₁, hq, harr⟩
      | outgrown => exact ⟨_, a₁, w₁, hq, harr⟩
  obtain ⟨e, a₁, w₁, hq, harr⟩ := first b (.inScope c :: k) cs
  cases e with
  | normal => exact ⟨.normal, a₁, w₁, hq, .head step_scope (Steps.trans harr (.one step_inScope))⟩
  | exit id => exact ⟨.exit id, a₁, w₁, hq, fun k' hk => .head step_scope (harr k' (by simp [exitTo, hk]))⟩
  | goto l' =>
    obtain ⟨n, hJ'⟩ := hq
    obtain ⟨rest', hf', e₂, a₂, w₂, hq₂, harr₂⟩ := key n l' a₁ w₁ hJ'
    have hg : gotoIn l' (.inScope c :: k) = some (.code rest' :: .inScope c :: k) := by simp [gotoIn, hf']
    exact ⟨e₂, a₂, w₂, hq₂, .of_steps (.head step_scope (harr _ hg)) harr₂⟩
  | ret => exact ⟨_, a₁, w₁, hq, .of_steps (.one step_scope) harr⟩
  | panic ch => exact ⟨_, a₁, w₁, hq, .of_steps (.one step_scope) harr⟩
  | outgrown => exact ⟨_, a₁, w₁, hq, .of_steps (.one step_scope) harr⟩

/-- Two labels, 1 and 0; the first run comes to label 1 by itself. -/
theorem wp_scope_two {c X1 X0 : Code} (J1 J0 : Nat → Act → World → Prop) (h1 : findLabel c 1 = some (.seq .skip X1)) (h0 : findLabel c 0 = some (.seq .skip X0))
    (meet : ∀ n a w, J1 n a w → X1.wp P (jumps (fun l' a' w' => ∃ n', n' < n ∧ ((l' = 1 ∧ J1 n' a' w') ∨ (l' = 0 ∧ J0 n' a' w'))) Q) a w)
    (turn : ∀ n a w, J0 n a w → X0.wp P (jumps (fun l' a' w' => ∃ n', n' < n ∧ ((l' = 1 ∧ J1 n' a' w') ∨ (l' = 0 ∧ J0 n' a' w'))) Q) a w)
    (first : (∀ n a w, J1 n a w → X1.wp P (jumps (fun l' a' w' => ∃ n, (l' = 1 ∧ J1 n a' w') ∨ (l' = 0 ∧ J0 n a' w')) Q) a w) → c.wp P (jumps (fun l' a' w' => ∃ n, (l' = 1 ∧ J1 n a' w') ∨ (l' = 0 ∧ J0 n a' w')) Q) a w) : (Code.scope c).wp P Q a w := by
  refine wp_scope_ghost (fun n l a w => (l = 1 ∧ J1 n a w) ∨ (l = 0 ∧ J0 n a w)) (first fun n a w hJ => wp_turn (meet n a w hJ) fun e a w hq => ?_) fun n l a w hJ => ?_
  · cases e with
    | goto l => obtain ⟨n', -, hn⟩ := hq; exact ⟨n', hn⟩
    | _ => exact hq
  · rcases hJ with ⟨rfl, hJ⟩ | ⟨rfl, hJ⟩
    · exact ⟨_, h1, wp_seq (wp_skip (meet n a w hJ))⟩
    · exact ⟨_, h0, wp_seq (wp_skip (turn n a w hJ))⟩
end
end Go.Proofs.YtjoaiaeohlhbkaaDoor.rose
