/-
  An append of all elements of a slice to nothing: a row of its own that holds the same cells. No program is named.
-/
import Derived.Test.YtdfpihnddclccaaCopyRun
import Derived.Maps.AppendAt
import Derived.Laws.OwnMore
namespace Go.Proofs.Ytdfpihnddclccaa.rose
open Go Go.RowKit Go.Deep Go.ChangeShapes Go.WideShapes
set_option linter.unusedVariables false

theorem flat_one {css : Nat → List Value} {n : Nat} (h : ∀ i, i < n → ∀ u ∈ css i, u.oneCell' = true) : ∀ u ∈ flat css n, u.oneCell' = true := by
  intro u hu
  simp only [flat, List.mem_flatMap, List.mem_range] at hu
  obtain ⟨i, hi, hu⟩ := hu
  exact h i hi u hu

theorem run_append_all {α : Type} {A : Sh α} {P : Program} {t tS ty : TypeId} {ti : TypeInfo} {z : Value} {bytes : Nat} (ht : P.underlying tS = some (.slice t)) (hi : P.info? t = some ti) (hz : ti.zero = some z) (hsize : ti.size = A.k + 1) (hby : ti.bytes = bytes) (hzs : z.cells.size = A.k + 1)
    {w1 w : World} {lo : Nat} {xs : List (Rose α)} {a : Option Addr} {c : Nat} (hr : A.rose.slice.rep w1 (· < lo) [.slice a xs.length c] xs) (hb : Below lo w1 w) (hlo : lo ≤ w.heap.size) (hl : xs.length * bytes ≤ 140737488355328) :
    ∃ v' w', (Builtin.append_ #[tS, tS] ty #[.slice none 0 0, .slice a xs.length c]).run P w = .ok v' w' ∧ Below w.heap.size w w' ∧ (∀ D : Nat → Prop, (∀ b, D b → b < w.heap.size) → CTok A t w1 w' lo D ⟨xs, v'⟩) ∧ (∀ q, v'.ownBlock = some q → w.heap.size ≤ q) ∧ ∃ a' l' c', v' = .slice a' l' c' := by
  obtain ⟨a0, c0, css, e, h1, h2, h5, hrow, hk⟩ := hr
  simp only [List.cons.injEq, Value.slice.injEq, and_true, true_and] at e
  obtain ⟨rfl, rfl⟩ := e
  have hnil := World.ownsRow_nil w w.heap.size t (A.k + 1)
  have h63 : 0 + xs.length ≤ maxLen := by omega
  cases xs with
  | nil =>
    cases a with
    | none =>
      have hc := h5 rfl
      subst hc
      refine ⟨.slice none 0 0, w, ?_, Below.refl _ _, fun D _ => Or.inl ⟨rfl, rfl⟩, fun q e => (by cases e), _, _, _, rfl⟩
      exact run_append_owned_none w w.heap.size tS ty t ti (A.k + 1) ht hi _ 0 [] hnil
    | some ad =>
      obtain ⟨v', w', hrun, ho, hg, hiff, hat⟩ := run_append_own_at (P := P) w w.heap.size tS ty t ti z (A.k + 1) bytes ht hi hz hsize hby hzs (Nat.succ_pos _) (.slice none 0 0) 0 [] hnil ad 0 c [] (by simp) (fun j u hj => by simp at hj) (fun u hu => by cases hu) (by unfold maxLen; omega) (by omega) (Nat.le_refl _)
      have hv : v' = .slice none 0 0 := hiff.2 ⟨rfl, rfl⟩
      subst hv
      exact ⟨_, w', hrun, (Below.refl _ w).grown hg (Nat.le_refl _) (fun g e => by cases e), fun D _ => Or.inl ⟨rfl, rfl⟩, fun q e => (by cases e), _, _, _, rfl⟩
  | cons x xs =>
    obtain ⟨b, o, rfl, hS, -⟩ := hrow 0 (by simp)
    have hlen : ∀ i, i < (x :: xs).length → (css i).length = A.k + 1 := fun i hi => A.rose.len (hk i hi)
    have hcells := flat_row (k := A.k + 1) hlen (hrow.on (fun q hq => hb.block q hq) : RowAt w _ (A.k + 1) _ _ _)
    obtain ⟨v', w', hrun, ho, hg, hiff, hat⟩ := run_append_own_at (P := P) w w.heap.size tS ty t ti z (A.k + 1) bytes ht hi hz hsize hby hzs (Nat.succ_pos _) (.slice none 0 0) 0 [] hnil ⟨b, o, none⟩ (x :: xs).length c (flat css (x :: xs).length) (by rw [flat_length hlen]) (fun j u hj => by rw [add_plain]; exact hcells j u hj) (flat_one fun i hi => A.rose.one (hk i hi)) h63 (by simpa using hl) (Nat.le_refl _)
    refine ⟨v', w', hrun, (Below.refl _ w).grown hg (Nat.le_refl _) (fun g e => by cases e), fun D hD => ?_, fun q e => (ho.lt q e).1, ?_⟩
    · have ho' := ho
      rw [Nat.zero_add, List.nil_append] at ho'
      rcases ho'.2 with ⟨_, h0⟩ | ⟨g, cap, cur, hv, hg2, hg3, hg4, hg5, hg6, hg7⟩
      · simp at h0
      · subst hv
        refine Or.inr ⟨g, cap, cur, css, rfl, by simp, hg4, hg5, hg3, ?_, by omega, fun hd => by have := hD g hd; omega, fun i hi => ⟨fun j u hj => ?_, hk i hi⟩⟩
        · rw [hg6]; exact Nat.mul_le_mul_right _ hg4
        · exact own_cell ho' hlen hi hj
    · rcases ho.2 with ⟨rfl, _⟩ | ⟨_, _, _, rfl, _⟩
      · exact ⟨_, _, _, rfl⟩
      · exact ⟨_, _, _, rfl⟩

/-- .. as a step of a region. -/
theorem wpList_append_all {α : Type} {A : Sh α} {P : Program} {t tS : TypeId} {ti : TypeInfo} {z : Value} {bytes : Nat} {ops : Array Oper} {rest : List Oper} {o : Oper} {ac : Act} {Q : Exit → Act → World → Prop} (w : World) (hgd : o.guard = none) (s x : Operand)
    (ho : o.op = .call { callee := .builtin .append, args := #[s, x], argTypes := #[tS, tS] }) (ht : P.underlying tS = some (.slice t)) (hi : P.info? t = some ti) (hz : ti.zero = some z) (hsize : ti.size = A.k + 1) (hby : ti.bytes = bytes) (hzs : z.cells.size = A.k + 1)
    {w1 : World} {lo : Nat} {xs : List (Rose α)} {a : Option Addr} {c : Nat} (hs : ac.eval s = .slice none 0 0) (hx : ac.eval x = .slice a xs.length c) (hr : A.rose.slice.rep w1 (· < lo) [.slice a xs.length c] xs) (hb : Below lo w1 w) (hlo : lo ≤ w.heap.size) (hl : xs.length * bytes ≤ 140737488355328)
    (h : ∀ a' l' c' w', Below w.heap.size w w' → (∀ D : Nat → Prop, (∀ b, D b → b < w.heap.size) → CTok A t w1 w' lo D ⟨xs, .slice a' l' c'⟩) → (∀ q, (Value.slice a' l' c').ownBlock = some q → w.heap.size ≤ q) → wpList P ops Q rest (ac.put o.dst (.slice a' l' c')) w') :
    wpList P ops Q (o :: rest) ac w := by
  refine wpList_plain hgd fun K hK => ?_
  obtain ⟨v', w', hrun, h2, h3, h4, a', l', c', rfl⟩ := run_append_all (A := A) (P := P) (ty := o.type) ht hi hz hsize hby hzs hr hb hlo hl
  unfold Oper.wp execOp
  simp only [ho, resolve, invoke, builtin, Sem.run_bind, Sem.run_pure, Result.andThen_ok, List.map_toArray, List.map_cons, List.map_nil, hs, hx, hrun]
  exact hK _ _ (h _ _ _ w' h2 h3 h4)

end Go.Proofs.Ytdfpihnddclccaa.rose
