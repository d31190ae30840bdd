/-
  A heap at work as the heap that it is (heap), under its lock.
  append([]int(nil), xs...) of any slice of ints: a row of the call's own that holds them.
-/
import Derived.Deep.RegionHeld3
import Derived.Maps.AppendAt
import Derived.Laws.OwnMore
import Derived.OwnWalk
import Derived.Test.YtempmfpnngbbeabB1
import Derived.Test.YtempmfpnngbbeabB2
import Derived.Test.YtempmfpnngbbeabB3
import Derived.Test.YtempmfpnngbbeabB4
import Derived.Test.YtempmfpnngbbeabB5
import Derived.Test.YtempmfpnngbbeabB6
import Derived.Test.YtempmfpnngbbeabB7
import Derived.Test.YtempmfpnngbbeabB8
import Derived.Test.YtempmfpnngbbeabB9
import Derived.Test.YtempmfpnngbbeabB10
import Derived.Test.YtempmfpnngbbeabB11
import Derived.Test.YtempmfpnngbbeabB12
import Derived.Test.YtempmfpnngbbeabB13
import Derived.Test.YtempmfpnngbbeabB14
import Derived.Test.YtempmfpnngbbeabB15
import Derived.Test.YtempmfpnngbbeabB16
import Derived.Test.YtempmfpnngbbeabB17
import Derived.Test.YtempmfpnngbbeabB18
import Derived.Test.YtempmfpnngbbeabB19
import Derived.Test.YtempmfpnngbbeabB20
import Derived.Test.YtempmfpnngbbeabB21
import Derived.Test.YtempmfpnngbbeabB22
import Derived.Test.YtempmfpnngbbeabB23
import Derived.Test.YtempmfpnngbbeabB24
namespace Go.Proofs.Ytempmfpnngbbeab.heap
open Go Go.RowKit Go.Deep Go.Proofs.Ytempmfpnngbbeab.rose Go.Proofs.Ytempmfpnngbbeab Go.Proofs.Ytempmfpnngbbeab.fun Go.Proofs.Ytempmfpnngbbeab.words Go.Proofs.Ytempmfpnngbbeab.ints
set_option linter.unusedVariables false
set_option linter.unusedSimpArgs false

theorem cell_setB {w : World} {g r i j : Nat} {u : Value} (v : Value) (h : w.cell? ⟨g, j, none⟩ = some u) (hne : ¬ r = g) : (w.setCell ⟨r, i, none⟩ v).cell? ⟨g, j, none⟩ = some u := by
  have e : (w.setCell ⟨r, i, none⟩ v).heap[g]? = w.heap[g]? := Below.heap_setCell _ _ _ _ (by show g ≠ r; omega)
  rw [← h]
  simp only [World.cell?, e]
/-- A block of four cells. -/
theorem fours {w : World} {r : Nat} {t : TypeId} {u0 u1 u2 u3 : Value} (h : w.heap[r]? = some (.cells #[u0, u1, u2, u3] t)) :
    (∀ v, (w.setCell ⟨r, 0, none⟩ v).heap[r]? = some (.cells #[v, u1, u2, u3] t)) ∧ (∀ v, (w.setCell ⟨r, 1, none⟩ v).heap[r]? = some (.cells #[u0, v, u2, u3] t)) ∧ (∀ v, (w.setCell ⟨r, 2, none⟩ v).heap[r]? = some (.cells #[u0, u1, v, u3] t)) ∧ (∀ v, (w.setCell ⟨r, 3, none⟩ v).heap[r]? = some (.cells #[u0, u1, u2, v] t)) := by
  refine ⟨fun v => ?_, fun v => ?_, fun v => ?_, fun v => ?_⟩ <;> simp [World.setCell, Array.getElem?_modify, h]

set_option maxRecDepth 100000 in
set_option maxHeartbeats 8000000 in
theorem heap_is {B hb hm : Nat} {wv : Value} {W : List Int} {half base next : Nat} {M : List Bool} {w : World} (h : HH B hb hm wv W half base next 0 M w) :
    Calls Try.prog 35 #[.pointer (some ⟨hb, 0, none⟩)] w fun e w' => e = .returned (.agg #[wv, .int .i64 half, .int .i64 base, .int .i64 next]) ∧ Below B w w' := by
  have hw0 : HH B hb hm wv W half base next 0 M (w.alloc (.cells #[.slice none 0 0, .int .i64 0, .int .i64 0, .int .i64 0] 27)) := h.on ((Below.refl _ _).alloc (Nat.le_refl _) _)
  have hB0 : Below B w (w.alloc (.cells #[.slice none 0 0, .int .i64 0, .int .i64 0, .int .i64 0] 27)) := ((Below.refl _ _).alloc (Nat.le_refl _) _).mono (by have := h.lo; have := h.lt; omega)
  have hne : ¬ w.heap.size = hb ∧ ¬ w.heap.size = hm ∧ B ≤ w.heap.size := by have := h.lt; have := h.lo; omega
  have HNE : Hid _ := hne
  have T0 := alloc_top w (.cells #[.slice none 0 0, .int .i64 0, .int .i64 0, .int .i64 0] 27)
  have LO : Hid (B ≤ hb) := h.lo.1
  obtain ⟨a0, c0v, hwv⟩ : ∃ a c, wv = .slice a W.length c := by obtain ⟨a, c, e⟩ := slice_cells h.wds; simp only [List.cons.injEq, and_true] at e; exact ⟨a, c, e⟩
  subst hwv
  generalize hwa : w.alloc (.cells #[.slice none 0 0, .int .i64 0, .int .i64 0, .int .i64 0] 27) = wa at *
  have c0 := hw0.c0
  have z0 := hw0.frz 0
  have H1 : Hid (HH B hb hm (.slice a0 W.length c0v) W half base next 1 M (wa.setCell ⟨hb, 0, none⟩ (.int .i32 1))) := hw0.lockw 1
  have B1 : Hid (Below B w (wa.setCell ⟨hb, 0, none⟩ (.int .i32 1))) := hB0.setCell h.lo.1 _
  have T1 : Hid ((wa.setCell ⟨hb, 0, none⟩ (.int .i32 1)).heap[w.heap.size]? = some (.cells #[.slice none 0 0, .int .i64 0, .int .i64 0, .int .i64 0] 27)) := (Below.heap_setCell _ _ _ _ (by show w.heap.size ≠ hb; omega)).trans T0
  clear h hw0 hB0 T0
  go_enter_defers Try.func35, Try.ntmps35
  go_wp2_with (go_at_call 45; refine (Go.MuLone.lock_free lock.muLib ⟨hb, 0, none⟩ _ c0 z0).mono ?_; rintro e w' ⟨rfl, rfl⟩)
  clear hwa c0 z0
  generalize wa.setCell ⟨hb, 0, none⟩ (.int .i32 1) = w1 at *
  have hr : ¬ w.heap.size = hb := HNE.out.1
  have c3 := H1.out.c3
  have c4 := H1.out.c4
  have c5 := H1.out.c5
  have x0 : w1.cell? ⟨w.heap.size, 0, none⟩ = some (.slice none 0 0) := by simp [World.cell?, T1.out]
  have x1 : w1.cell? ⟨w.heap.size, 1, none⟩ = some (.int .i64 0) := by simp [World.cell?, T1.out]
  have x2 : w1.cell? ⟨w.heap.size, 2, none⟩ = some (.int .i64 0) := by simp [World.cell?, T1.out]
  have x3 : w1.cell? ⟨w.heap.size, 3, none⟩ = some (.int .i64 0) := by simp [World.cell?, T1.out]
  have xf : ∀ j, w1.frozen? ⟨w.heap.size, j, none⟩ = false := fun j => by simp [World.frozen?, T1.out]
  go_wp2
  go_region_held3 (fun X => X.cell? ⟨hb, 3, none⟩ = some (.slice a0 W.length c0v) ∧ X.cell? ⟨hb, 4, none⟩ = some (.int .i64 half) ∧ X.cell? ⟨hb, 5, none⟩ = some (.int .i64 next))
    (exact ⟨(by (repeat refine cell_setB _ ?_ hr); exact H1.out.c3), (by (repeat refine cell_setB _ ?_ hr); exact H1.out.c4), (by (repeat refine cell_setB _ ?_ hr); exact H1.out.c5)⟩)
    (first
      | (go_at_call 56; refine (base_is (H1.out.same (w' := w1.drew) rfl)).mono ?_; rintro e w2 ⟨rfl, n, rfl⟩)
      | (go_at_call 56; refine (base_is (((((H1.out.same (w' := w1.drew) rfl).other 0 _ HNE.out.1 HNE.out.2.1 HNE.out.2.2).other 1 _ HNE.out.1 HNE.out.2.1 HNE.out.2.2).other 2 _ HNE.out.1 HNE.out.2.1 HNE.out.2.2).other 3 _ HNE.out.1 HNE.out.2.1 HNE.out.2.2)).mono ?_; rintro e w2 ⟨rfl, n, rfl⟩))
  have t0 : (w1.drewN (1 + n)).heap[w.heap.size]? = some (.cells #[.slice none 0 0, .int .i64 0, .int .i64 0, .int .i64 0] 27) := T1.out
  have t1 := (fours t0).1 (.slice none 0 0)
  have t2 := (fours t1).2.1 (.int .i64 0)
  have t3 := (fours t2).2.2.1 (.int .i64 0)
  have t4 := (fours t3).2.2.2 (.int .i64 0)
  have t5 := (fours t4).1 (.slice a0 W.length c0v)
  have t6 := (fours t5).2.1 (.int .i64 half)
  have t7 := (fours t6).2.2.1 (.int .i64 base)
  have t8 := (fours t7).2.2.2 (.int .i64 next)
  have HK : HH B hb hm (.slice a0 W.length c0v) W half base next 1 M (((((((((w1.drewN (1 + n)).setCell ⟨w.heap.size, 0, none⟩ (.slice none 0 0)).setCell ⟨w.heap.size, 1, none⟩ (.int .i64 0)).setCell ⟨w.heap.size, 2, none⟩ (.int .i64 0)).setCell ⟨w.heap.size, 3, none⟩ (.int .i64 0)).setCell ⟨w.heap.size, 0, none⟩ (.slice a0 W.length c0v)).setCell ⟨w.heap.size, 1, none⟩ (.int .i64 half)).setCell ⟨w.heap.size, 2, none⟩ (.int .i64 base)).setCell ⟨w.heap.size, 3, none⟩ (.int .i64 next)) := (((((((((H1.out.drewN (1 + n)).other 0 (.slice none 0 0) HNE.out.1 HNE.out.2.1 HNE.out.2.2).other 1 (.int .i64 0) HNE.out.1 HNE.out.2.1 HNE.out.2.2).other 2 (.int .i64 0) HNE.out.1 HNE.out.2.1 HNE.out.2.2).other 3 (.int .i64 0) HNE.out.1 HNE.out.2.1 HNE.out.2.2).other 0 (.slice a0 W.length c0v) HNE.out.1 HNE.out.2.1 HNE.out.2.2).other 1 (.int .i64 half) HNE.out.1 HNE.out.2.1 HNE.out.2.2).other 2 (.int .i64 base) HNE.out.1 HNE.out.2.1 HNE.out.2.2).other 3 (.int .i64 next) HNE.out.1 HNE.out.2.1 HNE.out.2.2)
  have HBl : Below B w (((((((((w1.drewN (1 + n)).setCell ⟨w.heap.size, 0, none⟩ (.slice none 0 0)).setCell ⟨w.heap.size, 1, none⟩ (.int .i64 0)).setCell ⟨w.heap.size, 2, none⟩ (.int .i64 0)).setCell ⟨w.heap.size, 3, none⟩ (.int .i64 0)).setCell ⟨w.heap.size, 0, none⟩ (.slice a0 W.length c0v)).setCell ⟨w.heap.size, 1, none⟩ (.int .i64 half)).setCell ⟨w.heap.size, 2, none⟩ (.int .i64 base)).setCell ⟨w.heap.size, 3, none⟩ (.int .i64 next)) := (((((((((drewN_bel B1.out (1 + n)).setCell (p := ⟨w.heap.size, 0, none⟩) HNE.out.2.2 (.slice none 0 0)).setCell (p := ⟨w.heap.size, 1, none⟩) HNE.out.2.2 (.int .i64 0)).setCell (p := ⟨w.heap.size, 2, none⟩) HNE.out.2.2 (.int .i64 0)).setCell (p := ⟨w.heap.size, 3, none⟩) HNE.out.2.2 (.int .i64 0)).setCell (p := ⟨w.heap.size, 0, none⟩) HNE.out.2.2 (.slice a0 W.length c0v)).setCell (p := ⟨w.heap.size, 1, none⟩) HNE.out.2.2 (.int .i64 half)).setCell (p := ⟨w.heap.size, 2, none⟩) HNE.out.2.2 (.int .i64 base)).setCell (p := ⟨w.heap.size, 3, none⟩) HNE.out.2.2 (.int .i64 next))
  clear t0 t1 t2 t3 t4 t5 t6 t7 c3 c4 c5 x0 x1 x2 x3 xf
  generalize (((((((((w1.drewN (1 + n)).setCell ⟨w.heap.size, 0, none⟩ (.slice none 0 0)).setCell ⟨w.heap.size, 1, none⟩ (.int .i64 0)).setCell ⟨w.heap.size, 2, none⟩ (.int .i64 0)).setCell ⟨w.heap.size, 3, none⟩ (.int .i64 0)).setCell ⟨w.heap.size, 0, none⟩ (.slice a0 W.length c0v)).setCell ⟨w.heap.size, 1, none⟩ (.int .i64 half)).setCell ⟨w.heap.size, 2, none⟩ (.int .i64 base)).setCell ⟨w.heap.size, 3, none⟩ (.int .i64 next)) = w5 at *
  have HT : Hid _ := t8
  have HE : Hid _ := HK
  have BE : Hid _ := HBl
  clear t8 HK HBl
  go_wp2
  refine leaves_cons (f := 46) (args := #[.pointer (some ⟨hb, 0, none⟩)]) (by simp) (by simp [go_sem]) ?_
  refine (Go.MuLone.unlock_deferred lock.muLib ⟨hb, 0, none⟩ .returning _ HE.out.c0 (HE.out.frz 0)).mono ?_
  rintro e u' w'' ⟨rfl, rfl, rfl⟩
  have T6 : (w5.setCell ⟨hb, 0, none⟩ (.int .i32 0)).heap[w.heap.size]? = some (.cells #[.slice a0 W.length c0v, .int .i64 half, .int .i64 base, .int .i64 next] 27) := (Below.heap_setCell _ _ _ _ (by show w.heap.size ≠ hb; exact HNE.out.1)).trans HT.out
  have x0 : (w5.setCell ⟨hb, 0, none⟩ (.int .i32 0)).cell? ⟨w.heap.size, 0, none⟩ = some (.slice a0 W.length c0v) := by simp [World.cell?, T6]
  have x1 : (w5.setCell ⟨hb, 0, none⟩ (.int .i32 0)).cell? ⟨w.heap.size, 1, none⟩ = some (.int .i64 half) := by simp [World.cell?, T6]
  have x2 : (w5.setCell ⟨hb, 0, none⟩ (.int .i32 0)).cell? ⟨w.heap.size, 2, none⟩ = some (.int .i64 base) := by simp [World.cell?, T6]
  have x3 : (w5.setCell ⟨hb, 0, none⟩ (.int .i32 0)).cell? ⟨w.heap.size, 3, none⟩ = some (.int .i64 next) := by simp [World.cell?, T6]
  have B6 := BE.out.setCell LO.out (p := ⟨hb, 0, none⟩) (.int .i32 0)
  clear T6 HT HE BE
  generalize w5.setCell ⟨hb, 0, none⟩ (.int .i32 0) = w6 at *
  exact ⟨.agg #[.slice a0 W.length c0v, .int .i64 half, .int .i64 base, .int .i64 next], by simp [results, Try.f35, go_sem, x0, x1, x2, x3], rfl, B6⟩

end Go.Proofs.Ytempmfpnngbbeab.heap

namespace Go.Proofs.Ytempmfpnngbbeab.ints
open Go Go.RowKit Go.Proofs.Ytempmfpnngbbeab.rose Go.Proofs.Ytempmfpnngbbeab
set_option linter.unusedVariables false

theorem run_append_ints {ty : TypeId} {w1 w : World} {lo : Nat} {xs : List Int} {a : Option Addr} {c : Nat} (hr : intsSh.rep w1 (· < lo) [.slice a xs.length c] xs) (hb : Below lo w1 w) (hlo : lo ≤ w.heap.size) (hl : xs.length ≤ 1048576) :
    ∃ a' c' w', (Builtin.append_ #[22, 22] ty #[.slice none 0 0, .slice a xs.length c]).run Try.prog w = .ok (.slice a' xs.length c') w' ∧ Below w.heap.size w w' ∧ IRow w' w.heap.size (.slice a' xs.length c') xs := by
  have hnil : a = none → c = 0 := by
    obtain ⟨a', c', css, e', -, -, h5, -⟩ := hr
    simp only [List.cons.injEq, Value.slice.injEq, and_true, true_and] at e'
    obtain ⟨rfl, rfl⟩ := e'
    exact h5
  obtain ⟨a0, c0, e, h1, h2, hat⟩ := ints_open hr
  cases e
  obtain ⟨ti, hti, hz0, hz1, hz2⟩ := int_info
  have hown := World.ownsRow_nil w w.heap.size 3 1
  cases xs with
  | nil =>
    cases a with
    | none =>
      have hc := hnil rfl
      subst hc
      exact ⟨none, 0, w, run_append_owned_none w w.heap.size 22 ty 3 ti 1 Try.underlying22 hti _ 0 [] hown, Below.refl _ _, IRow.nil _ _⟩
    | some ad =>
      obtain ⟨v', w', hrun, ho, hg, hiff, hat⟩ := run_append_own_at (P := Try.prog) w w.heap.size 22 ty 3 ti _ 1 8 Try.underlying22 hti hz0 hz1 hz2 rfl (by decide) (.slice none 0 0) 0 [] hown ad 0 c [] (by simp) (fun j u hj => by simp at hj) (fun u hu => by cases hu) (by unfold maxLen; omega) (by omega) (Nat.le_refl _)
      have hv : v' = .slice none 0 0 := hiff.2 ⟨rfl, rfl⟩
      subst hv
      exact ⟨none, 0, w', hrun, (Below.refl _ w).grown hg (Nat.le_refl _) (fun g e => by cases e), IRow.nil _ _⟩
  | cons x xs =>
    obtain ⟨b, o, rfl, hS, -⟩ := hat 0 (by simp)
    obtain ⟨v', w', hrun, ho, hg, hiff, hat2⟩ := run_append_own_at (P := Try.prog) w w.heap.size 22 ty 3 ti _ 1 8 Try.underlying22 hti hz0 hz1 hz2 rfl (by decide) (.slice none 0 0) 0 [] hown ⟨b, o, none⟩ (x :: xs).length c ((x :: xs).map (Value.int .i64)) (by simp) (fun j u hj => by
      rw [List.getElem?_map] at hj
      obtain ⟨y, hy, rfl⟩ := Option.map_eq_some_iff.1 hj
      obtain ⟨hq, rfl⟩ := List.getElem?_eq_some_iff.1 hy
      obtain ⟨b', o', e, hS', hc, -, -⟩ := hat j hq
      cases e
      rw [add_plain]
      exact (hb.cell (p := ⟨b, o + j, none⟩) hS').trans hc) (fun u hu => by obtain ⟨y, _, rfl⟩ := List.mem_map.1 hu; rfl) (by unfold maxLen; omega) (by omega) (Nat.le_refl _)
    have ho' := ho
    rw [Nat.zero_add, List.nil_append] at ho'
    have hI : IRow w' w.heap.size v' (x :: xs) := ⟨ho', fun y hy => by
      obtain ⟨j, hj, rfl⟩ := List.getElem_of_mem hy
      obtain ⟨b', o', -, -, -, q1, q2⟩ := hat j hj
      exact ⟨q1, q2⟩⟩
    have hBl : Below w.heap.size w w' := (Below.refl _ w).grown hg (Nat.le_refl _) (fun g e => by cases e)
    rcases hI.open with ⟨-, h0⟩ | ⟨g, cp, rfl, -⟩
    · cases h0
    · exact ⟨_, _, w', hrun, hBl, hI⟩

/-- .. as a step of a region. -/
theorem wpList_append_ints {ops : Array Oper} {rest : List Oper} {o : Oper} {ac : Act} {Q : Exit → Act → World → Prop} (w : World) (hgd : o.guard = none) (s x : Operand)
    (ho : o.op = .call { callee := .builtin .append, args := #[s, x], argTypes := #[22, 22] })
    {w1 : World} {lo : Nat} {xs : List Int} {a : Option Addr} {c : Nat} (hs : ac.eval s = .slice none 0 0) (hx : ac.eval x = .slice a xs.length c) (hr : intsSh.rep w1 (· < lo) [.slice a xs.length c] xs) (hb : Below lo w1 w) (hlo : lo ≤ w.heap.size) (hl : xs.length ≤ 1048576)
    (h : ∀ a' c' w', Below w.heap.size w w' → Hid (IRow w' w.heap.size (.slice a' xs.length c') xs) → wpList Try.prog ops Q rest (ac.put o.dst (.slice a' xs.length c')) w') :
    wpList Try.prog ops Q (o :: rest) ac w := by
  refine wpList_plain hgd fun K hK => ?_
  obtain ⟨a', c', w', hrun, h2, h3⟩ := run_append_ints (ty := o.type) hr hb hlo hl
  unfold Oper.wp execOp
  simp only [ho, resolve, invoke, builtin, Sem.run_bind, Sem.run_pure, Result.andThen_ok, List.map_toArray, List.map_cons, List.map_nil, hs, hx, hrun]
  exact hK _ _ (h _ _ w' h2 h3)

end Go.Proofs.Ytempmfpnngbbeab.ints
