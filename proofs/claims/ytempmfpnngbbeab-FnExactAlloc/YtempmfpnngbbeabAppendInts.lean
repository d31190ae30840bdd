/-
  append([]int(nil), xs...) of any slice of ints: a row of the call's own that holds them.
-/
import Derived.Test.YtempmfpnngbbeabIntRows
import Derived.Maps.AppendAt
import Derived.Laws.OwnMore
import Derived.OwnWalk
namespace Go.Proofs.Ytempmfpnngbbeab.ints
open Go Go.RowKit Go.Proofs.Ytempmfpnngbbeab.rose Go.Proofs.Ytempmfpnngbbeab
set_option linter.unusedVariables false

theorem run_append_ints {ty : TypeId} {w1 w : World} {lo : Nat} {xs : List Int} {a : Option Addr} {c : Nat} (hr : intsSh.rep w1 (· < lo) [.slice a xs.length c] xs) (hb : Below lo w1 w) (hlo : lo ≤ w.heap.size) (hl : xs.length ≤ 1048576) :
    ∃ a' c' w', (Builtin.append_ #[22, 22] ty #[.slice none 0 0, .slice a xs.length c]).run Try.prog w = .ok (.slice a' xs.length c') w' ∧ Below w.heap.size w w' ∧ IRow w' w.heap.size (.slice a' xs.length c') xs := by
  have hnil : a = none → c = 0 := by
    obtain ⟨a', c', css, e', -, -, h5, -⟩ := hr
    simp only [List.cons.injEq, Value.slice.injEq, and_true, true_and] at e'
    obtain ⟨rfl, rfl⟩ := e'
    exact h5
  obtain ⟨a0, c0, e, h1, h2, hat⟩ := ints_open hr
  cases e
  obtain ⟨ti, hti, hz0, hz1, hz2⟩ := int_info
  have hown := World.ownsRow_nil w w.heap.size 3 1
  cases xs with
  | nil =>
    cases a with
    | none =>
      have hc := hnil rfl
      subst hc
      exact ⟨none, 0, w, run_append_owned_none w w.heap.size 22 ty 3 ti 1 Try.underlying22 hti _ 0 [] hown, Below.refl _ _, IRow.nil _ _⟩
    | some ad =>
      obtain ⟨v', w', hrun, ho, hg, hiff, hat⟩ := run_append_own_at (P := Try.prog) w w.heap.size 22 ty 3 ti _ 1 8 Try.underlying22 hti hz0 hz1 hz2 rfl (by decide) (.slice none 0 0) 0 [] hown ad 0 c [] (by simp) (fun j u hj => by simp at hj) (fun u hu => by cases hu) (by unfold maxLen; omega) (by omega) (Nat.le_refl _)
      have hv : v' = .slice none 0 0 := hiff.2 ⟨rfl, rfl⟩
      subst hv
      exact ⟨none, 0, w', hrun, (Below.refl _ w).grown hg (Nat.le_refl _) (fun g e => by cases e), IRow.nil _ _⟩
  | cons x xs =>
    obtain ⟨b, o, rfl, hS, -⟩ := hat 0 (by simp)
    obtain ⟨v', w', hrun, ho, hg, hiff, hat2⟩ := run_append_own_at (P := Try.prog) w w.heap.size 22 ty 3 ti _ 1 8 Try.underlying22 hti hz0 hz1 hz2 rfl (by decide) (.slice none 0 0) 0 [] hown ⟨b, o, none⟩ (x :: xs).length c ((x :: xs).map (Value.int .i64)) (by simp) (fun j u hj => by
      rw [List.getElem?_map] at hj
      obtain ⟨y, hy, rfl⟩ := Option.map_eq_some_iff.1 hj
      obtain ⟨hq, rfl⟩ := List.getElem?_eq_some_iff.1 hy
      obtain ⟨b', o', e, hS', hc, -, -⟩ := hat j hq
      cases e
      rw [add_plain]
      exact (hb.cell (p := ⟨b, o + j, none⟩) hS').trans hc) (fun u hu => by obtain ⟨y, _, rfl⟩ := List.mem_map.1 hu; rfl) (by unfold maxLen; omega) (by omega) (Nat.le_refl _)
    have ho' := ho
    rw [Nat.zero_add, List.nil_append] at ho'
    have hI : IRow w' w.heap.size v' (x :: xs) := ⟨ho', fun y hy => by
      obtain ⟨j, hj, rfl⟩ := List.getElem_of_mem hy
      obtain ⟨b', o', -, -, -, q1, q2⟩ := hat j hj
      exact ⟨q1, q2⟩⟩
    have hBl : Below w.heap.size w w' := (Below.refl _ w).grown hg (Nat.le_refl _) (fun g e => by cases e)
    rcases hI.open with ⟨-, h0⟩ | ⟨g, cp, rfl, -⟩
    · cases h0
    · exact ⟨_, _, w', hrun, hBl, hI⟩

/-- .. as a step of a region. -/
theorem wpList_append_ints {ops : Array Oper} {rest : List Oper} {o : Oper} {ac : Act} {Q : Exit → Act → World → Prop} (w : World) (hgd : o.guard = none) (s x : Operand)
    (ho : o.op = .call { callee := .builtin .append, args := #[s, x], argTypes := #[22, 22] })
    {w1 : World} {lo : Nat} {xs : List Int} {a : Option Addr} {c : Nat} (hs : ac.eval s = .slice none 0 0) (hx : ac.eval x = .slice a xs.length c) (hr : intsSh.rep w1 (· < lo) [.slice a xs.length c] xs) (hb : Below lo w1 w) (hlo : lo ≤ w.heap.size) (hl : xs.length ≤ 1048576)
    (h : ∀ a' c' w', Below w.heap.size w w' → Hid (IRow w' w.heap.size (.slice a' xs.length c') xs) → wpList Try.prog ops Q rest (ac.put o.dst (.slice a' xs.length c')) w') :
    wpList Try.prog ops Q (o :: rest) ac w := by
  refine wpList_plain hgd fun K hK => ?_
  obtain ⟨a', c', w', hrun, h2, h3⟩ := run_append_ints (ty := o.type) hr hb hlo hl
  unfold Oper.wp execOp
  simp only [ho, resolve, invoke, builtin, Sem.run_bind, Sem.run_pure, Result.andThen_ok, List.map_toArray, List.map_cons, List.map_nil, hs, hx, hrun]
  exact hK _ _ (h _ _ w' h2 h3)

end Go.Proofs.Ytempmfpnngbbeab.ints
