/-
  A slice of ints that a call has built itself, from a block number on.
  A cell of a row of the call's own is turned; a row that is kept elsewhere.
  The model's Effect and l15Go, at every argument that Depths hands them.
-/
import Derived.OwnWalk
import Derived.Laws.AppendOwn
import Derived.Maps.AppendAt
import Derived.WalkSmall
import Derived.Test.YtjibmpebebephaaGreatDoorC1
import Derived.Test.YtjibmpebebephaaGreatDoorC2
import Derived.Test.YtjibmpebebephaaGreatDoorC3
import Derived.Test.YtjibmpebebephaaGreatDoorC4
import Derived.Test.YtjibmpebebephaaGreatDoorC5
import Derived.Test.YtjibmpebebephaaGreatDoorC6
import Derived.Test.YtjibmpebebephaaGreatDoorC7
import Derived.Test.YtjibmpebebephaaGreatDoorC8
import Derived.Test.YtjibmpebebephaaGreatDoorC9
import Derived.Test.YtjibmpebebephaaGreatDoorC10
namespace Go.Proofs.YtjibmpebebephaaGreatDoor.ints
open Go.RowKit Go.Proofs.YtjibmpebebephaaGreatDoor.rose Go.Proofs.YtjibmpebebephaaGreatDoor
set_option linter.unusedVariables false

def InR (x : Int) : Prop := -9223372036854775808 ≤ x ∧ x ≤ 9223372036854775807

def IRow (w : World) (base : Nat) (v : Value) (l : List Int) : Prop := w.ownsRow base 3 1 v l.length (l.map (Value.int .i64)) ∧ ∀ x ∈ l, InR x

theorem IRow.nil (w : World) (base : Nat) : IRow w base (.slice none 0 0) [] := ⟨World.ownsRow_nil w base 3 1, fun x hx => by cases hx⟩
theorem IRow.lt {w : World} {base : Nat} {v : Value} {l : List Int} (h : IRow w base v l) : ∀ k, v.ownBlock = some k → base ≤ k ∧ k < w.heap.size := h.1.lt
theorem IRow.keep {w w' : World} {base : Nat} {v : Value} {l : List Int} (h : IRow w base v l) (hb : Below w.heap.size w w') : IRow w' base v l := by
  refine ⟨⟨h.1.1, ?_⟩, h.2⟩
  rcases h.1.2 with h0 | ⟨g, cap, cur, h1, h2, h3, h4⟩
  · exact Or.inl h0
  · have hg : g < w.heap.size := (Array.getElem?_eq_some_iff.1 h3).1
    exact Or.inr ⟨g, cap, cur, h1, h2, (hb.block g hg).trans h3, h4⟩
theorem IRow.open {w : World} {base : Nat} {v : Value} {l : List Int} (h : IRow w base v l) : (v = .slice none 0 0 ∧ l = []) ∨ ∃ g cap, v = .slice (some ⟨g, 0, none⟩) l.length cap ∧ base ≤ g ∧ g < w.heap.size ∧ l.length ≤ cap ∧ cap ≤ maxLen ∧ (∀ i (hi : i < l.length), w.cell? ⟨g, i, none⟩ = some (.int .i64 l[i])) ∧ ∃ cur t, w.heap[g]? = some (.cells cur t) := by
  rcases h.1.2 with ⟨h0, h1⟩ | ⟨g, cap, cur, h1, h2, h3, h4, h5, h6⟩
  · exact Or.inl ⟨h0, List.eq_nil_of_length_eq_zero h1⟩
  · refine Or.inr ⟨g, cap, h1, h2, (Array.getElem?_eq_some_iff.1 h3).1, h4, h5, fun i hi => ?_, cur, _, h3⟩
    have ho := h.1
    rw [h1] at ho
    have := ho.cellAt i (by omega)
    rw [this]
    simp [hi]
theorem IRow.sp {w : World} {base : Nat} {v : Value} {l : List Int} (h : IRow w base v l) : intsSp.rep w (fun b => base ≤ b ∧ b < w.heap.size) [v] l := by
  rcases h.open with ⟨rfl, rfl⟩ | ⟨g, cap, rfl, h2, h3, h4, h5, h6, cur, t, h7⟩
  · exact ⟨none, 0, fun _ => [], fun _ _ => False, rfl, Nat.le_refl _, Nat.zero_le _, fun _ => rfl, fun h0 => absurd h0 (Nat.not_lt_zero _), fun i hi => absurd hi (Nat.not_lt_zero _), fun i j hi => absurd hi (Nat.not_lt_zero _), fun i hi => absurd hi (Nat.not_lt_zero _)⟩
  · refine ⟨some ⟨g, 0, none⟩, cap, fun i => [.int .i64 (l.getD i 0)], fun _ _ => False, rfl, h4, h5, (fun h => by cases h), fun h0 => ⟨g, 0, cur, t, rfl, ⟨h2, h3⟩, h7, fun _ _ h => h, fun i hi q u hq => ?_⟩, fun i hi b h => h.elim, fun i j hi hj hne b h => h.elim, fun i hi => ⟨by simp [List.getD, hi], h.2 _ (List.getElem_mem hi)⟩⟩
    match q, hq with
    | 0, hq =>
      simp at hq; subst hq
      have := h6 i hi
      simpa [Sh.int, List.getD, hi] using this
    | _ + 1, hq => simp at hq

theorem info_int : (Tryz.prog.info? 3).map (fun i => (i.zero, i.size, i.bytes)) = some (some (.int .i64 0), 1, 8) := by kernel_rfl
theorem int_info : ∃ ti, Tryz.prog.info? 3 = some ti ∧ ti.zero = some (.int .i64 0) ∧ ti.size = 1 ∧ ti.bytes = 8 := by
  obtain ⟨i, hi, hzz⟩ := Option.map_eq_some_iff.1 info_int
  simp only [Prod.mk.injEq] at hzz
  exact ⟨i, hi, hzz⟩

theorem IRow.more {w : World} {base : Nat} {v : Value} {xs ys : List Int} (h : w.ownsRow base 3 1 v (xs.length + ys.length) (xs.map (Value.int .i64) ++ ys.map (Value.int .i64))) (hx : ∀ x ∈ xs, InR x) (hy : ∀ x ∈ ys, InR x) : IRow w base v (xs ++ ys) := by
  refine ⟨by rw [List.length_append, List.map_append]; exact h, fun x hm => ?_⟩
  rcases List.mem_append.1 hm with q | q
  · exact hx x q
  · exact hy x q

end Go.Proofs.YtjibmpebebephaaGreatDoor.ints

namespace Go.Proofs.YtjibmpebebephaaGreatDoor.rose
open Go Go.RowKit
set_option linter.unusedVariables false

theorem own_set {w : World} {base : Nat} {t : TypeId} {k g n c j : Nat} {xs : List Value} {u : Value} (h : w.ownsRow base t k (.slice (some ⟨g, 0, none⟩) n c) n xs) (hj : j < n * k) : (w.setCell ⟨g, j, none⟩ u).ownsRow base t k (.slice (some ⟨g, 0, none⟩) n c) n (xs.set j u) := by
  obtain ⟨hl, hv⟩ := h
  refine ⟨by simpa using hl, Or.inr ?_⟩
  rcases hv with ⟨h, _⟩ | ⟨g', c', cur, h1, h2, h3, h4, h5, h6, h7⟩
  · cases h
  · cases h1
    refine ⟨g, c, cur.setIfInBounds j u, rfl, h2, by simp [World.setCell, Array.getElem?_modify, h3], h4, h5, by simpa using h6, ?_⟩
    rw [← h7]
    simp [List.take_set]
theorem own_same {w w' : World} {base : Nat} {t : TypeId} {k n : Nat} {v : Value} {xs : List Value} (h : w.ownsRow base t k v n xs) (hb : ∀ q, v.ownBlock = some q → w'.heap[q]? = w.heap[q]?) : w'.ownsRow base t k v n xs := by
  refine ⟨h.1, ?_⟩
  rcases h.2 with h0 | ⟨g, cap, cur, h1, h2, h3, h4⟩
  · exact Or.inl h0
  · exact Or.inr ⟨g, cap, cur, h1, h2, (hb g (by rw [h1]; rfl)).trans h3, h4⟩
theorem own_form {w : World} {base : Nat} {t : TypeId} {k n : Nat} {v : Value} {xs : List Value} (h : w.ownsRow base t k v n xs) : ∃ a c, v = .slice a n c := by
  rcases h.2 with ⟨rfl, h0⟩ | ⟨_, _, _, rfl, _⟩
  · exact ⟨_, _, by rw [h0]⟩
  · exact ⟨_, _, rfl⟩
theorem new_cell (w : World) (t : TypeId) (u : Value) : ∀ j x, [u][j]? = some x → (w.alloc (.cells #[u] t)).cell? ((⟨w.heap.size, 0, none⟩ : Addr).add j) = some x := by
  intro j x hj
  match j, hj with
  | 0, hj =>
    simp at hj; subst hj
    rw [add_plain]
    simp
  | _ + 1, hj => simp at hj
theorem own_base {w : World} {base base' : Nat} {t : TypeId} {k n : Nat} {v : Value} {xs : List Value} (h : w.ownsRow base t k v n xs) (hb : base' ≤ base) : w.ownsRow base' t k v n xs := by
  refine ⟨h.1, ?_⟩
  rcases h.2 with h0 | ⟨g, cap, cur, h1, h2, h3, h4⟩
  · exact Or.inl h0
  · exact Or.inr ⟨g, cap, cur, h1, by omega, h3, h4⟩
theorem below_block {B : Nat} {w w' : World} (h : Below B w w') {b : Nat} (hb : b < B) : w'.heap[b]? = w.heap[b]? := h.block b hb

end Go.Proofs.YtjibmpebebephaaGreatDoor.rose

namespace Go.Proofs.YtjibmpebebephaaGreatDoor.fun
open Go Go.RowKit Go.Proofs.YtjibmpebebephaaGreatDoor.rose Go.Proofs.YtjibmpebebephaaGreatDoor Go.Proofs.YtjibmpebebephaaGreatDoor.ints
set_option linter.unusedVariables false
set_option linter.unusedSimpArgs false


/-- The finder's block: what was found, what is to do, and whether all is well. -/
structure WK (w : World) (g : Nat) (vd vt : Value) (D T : List Int) (ok : Bool) : Prop where
  blk : w.heap[g]? = some (.cells #[vd, vt, .bool ok] 136)
  rd : IRow w (g + 1) vd D
  rt : IRow w (g + 1) vt T
  ap : ∀ q, vd.ownBlock = some q → vt.ownBlock ≠ some q

theorem blk_cellW {w : World} {b i : Nat} {cur : Array Value} {t : TypeId} {v : Value} (h : w.heap[b]? = some (.cells cur t)) (hi : cur[i]? = some v) : w.cell? ⟨b, i, none⟩ = some v := by simp [World.cell?, h, hi]
theorem blk_freeW {w : World} {b i : Nat} {cur : Array Value} {t : TypeId} (h : w.heap[b]? = some (.cells cur t)) : w.frozen? ⟨b, i, none⟩ = false := by simp [World.frozen?, h]
theorem WK.lt {w : World} {g : Nat} {vd vt : Value} {D T : List Int} {ok : Bool} (h : WK w g vd vt D T ok) : g < w.heap.size := (Array.getElem?_eq_some_iff.1 h.blk).1
/-- A row of ints stays where its block does. -/
theorem irow_same {w w' : World} {base : Nat} {v : Value} {l : List Int} (h : IRow w base v l) (hb : ∀ q, v.ownBlock = some q → w'.heap[q]? = w.heap[q]?) : IRow w' base v l := by
  refine ⟨⟨h.1.1, ?_⟩, h.2⟩
  rcases h.1.2 with h0 | ⟨g, cap, cur, h1, h2, h3, h4⟩
  · exact Or.inl h0
  · exact Or.inr ⟨g, cap, cur, h1, h2, (hb g (by rw [h1]; rfl)).trans h3, h4⟩
theorem WK.on {w w' : World} {g : Nat} {vd vt : Value} {D T : List Int} {ok : Bool} (h : WK w g vd vt D T ok) (hb : Below w.heap.size w w') : WK w' g vd vt D T ok :=
  ⟨(hb.block _ h.lt).trans h.blk, h.rd.keep hb, h.rt.keep hb, h.ap⟩
/-- All is no more well. -/
theorem WK.no {w : World} {g : Nat} {vd vt : Value} {D T : List Int} {ok : Bool} (h : WK w g vd vt D T ok) : WK (w.setCell ⟨g, 2, none⟩ (.bool false)) g vd vt D T false ∧ Below g w (w.setCell ⟨g, 2, none⟩ (.bool false)) := by
  refine ⟨⟨by simp [World.setCell, Array.getElem?_modify, h.blk], irow_same h.rd fun q hq => ?_, irow_same h.rt fun q hq => ?_, h.ap⟩, (Below.refl _ _).setCell (by simp) _⟩
  · have := (h.rd.lt q hq).1
    exact Below.heap_setCell _ _ _ _ (by show q ≠ g; omega)
  · have := (h.rt.lt q hq).1
    exact Below.heap_setCell _ _ _ _ (by show q ≠ g; omega)

set_option maxRecDepth 100000 in
set_option maxHeartbeats 4000000 in
theorem l15Go_any (w : World) (g : Nat) (vd vt : Value) (D T : List Int) (ok : Bool) (b : Nat) (d : Int) (h : WK w g vd vt D T ok) (hD : D.length ≤ 3000) (hT : T.length ≤ 10000) (hb : b ≤ 9223372036854775807) (hd : 1 ≤ d ∧ d ≤ 100) :
    Calls Tryz.prog 98 #[.pointer (some ⟨g, 0, none⟩), .int .i64 b, .int .i64 d] w fun e w' => e = .returned (.tuple #[]) ∧ (∃ vd' vt', WK w' g vd' vt' (goF D T ok b d).1 (goF D T ok b d).2.1 (goF D T ok b d).2.2) ∧ Below g w w' := by
  have HW : Hid (WK w g vd vt D T ok) := h
  have c0 : w.cell? ⟨g, 0, none⟩ = some vd := blk_cellW (i := 0) h.blk rfl
  have c1 : w.cell? ⟨g, 1, none⟩ = some vt := blk_cellW (i := 1) h.blk rfl
  have c2 : w.cell? ⟨g, 2, none⟩ = some (.bool ok) := blk_cellW (i := 2) h.blk rfl
  have f2 : w.frozen? ⟨g, 2, none⟩ = false := blk_freeW (i := 2) h.blk
  obtain ⟨av, cv, hv⟩ : ∃ a c, vd = .slice a D.length c := by
    rcases h.rd.open with ⟨rfl, rfl⟩ | ⟨q, cap, rfl, -⟩
    · exact ⟨_, _, rfl⟩
    · exact ⟨_, _, rfl⟩
  by_cases hl : D.length ≤ b
  · have HG : Hid (goF D T ok b d = (D, T, false)) := by show _ = _; unfold goF; rw [if_pos (.inl hl)]
    subst hv
    have t1 : decide ((D.length : Int) ≤ (b : Int)) = true := by simp; omega
    clear h
    go_enter Tryz.func98, Tryz.ntmps98
    go_wp2
    ((try simp only [Exit.inBlock, Exit.then]); (first | refine bodyPost_ret (results_none rfl _ _ _) rfl ?_ | refine bodyPost_end (results_none rfl _ _ _) rfl ?_))
    rw [HG.out]
    exact ⟨rfl, ⟨_, _, HW.out.no.1⟩, HW.out.no.2⟩
  · have t1 : decide ((D.length : Int) ≤ (b : Int)) = false := by simp; omega
    by_cases h60 : 60 < d
    · have HG : Hid (goF D T ok b d = (D, T, false)) := by show _ = _; unfold goF; rw [if_pos (.inr h60)]
      subst hv
      clear h
      go_enter Tryz.func98, Tryz.ntmps98
      go_wp2
      ((try simp only [Exit.inBlock, Exit.then]); (first | refine bodyPost_ret (results_none rfl _ _ _) rfl ?_ | refine bodyPost_end (results_none rfl _ _ _) rfl ?_))
      rw [HG.out]
      exact ⟨rfl, ⟨_, _, HW.out.no.1⟩, HW.out.no.2⟩
    · have hbl : b < D.length := by omega
      have n60 : decide ((60 : Int) < d) = false := by simp; omega
      rcases h.rd.open with ⟨h1, h2⟩ | ⟨q, cap, hvq, hq1, hq2, hq3, hq4, hqc, cur, tq, hqb⟩
      · subst h2; simp at hbl
      · have e0 : w.cell? ⟨q, b, none⟩ = some (.int .i64 D[b]) := hqc b hbl
        clear hqc
        have fq : w.frozen? ⟨q, b, none⟩ = false := blk_freeW hqb
        have bI : (b : Int) < (D.length : Int) := by omega
        have HQ : Hid (g < q ∧ q < w.heap.size) := ⟨by omega, hq2⟩
        subst hvq
        clear hv
        by_cases hneg : D[b] < 0
        · have HG : Hid (goF D T ok b d = (D.set b d, T ++ [(b : Int)], ok)) := by
            show _ = _; unfold goF; rw [if_neg (by omega), if_pos (by rw [getD_get hbl]; exact hneg)]
          generalize D[b] = y at e0 hneg
          obtain ⟨ti, hti, hz0, hz1, hz2⟩ := int_info
          have TI : Hid (Tryz.prog.info? 3 = some ti ∧ ti.zero = some (.int .i64 0) ∧ ti.size = 1 ∧ ti.bytes = 8) := ⟨hti, hz0, hz1, hz2⟩
          have S1 : Hid (∀ k, k ≠ q → (w.setCell ⟨q, b, none⟩ (.int .i64 d)).heap[k]? = w.heap[k]?) := fun k hk => Below.heap_setCell _ _ _ _ hk
          have Z1 : Hid ((w.setCell ⟨q, b, none⟩ (.int .i64 d)).heap.size = w.heap.size) := by show _ = _; simp [World.setCell]
          have R1 : Hid (IRow (w.setCell ⟨q, b, none⟩ (.int .i64 d)) (g + 1) (.slice (some ⟨q, 0, none⟩) D.length cap) (D.set b d)) := by
            refine ⟨?_, fun y hy => ?_⟩
            · have := own_set (j := b) (u := .int .i64 d) h.rd.1 (by omega)
              rw [List.length_set, List.map_set]
              exact this
            · rcases List.mem_or_eq_of_mem_set hy with hy | rfl
              · exact h.rd.2 y hy
              · unfold InR; omega
          have T1 : Hid (IRow (w.setCell ⟨q, b, none⟩ (.int .i64 d)) (g + 1) vt T) := irow_same h.rt fun k hk => S1.out k fun e => h.ap q rfl (by rw [hk, e])
          have B1 : Hid ((w.setCell ⟨q, b, none⟩ (.int .i64 d)).heap[g]? = some (.cells #[.slice (some ⟨q, 0, none⟩) D.length cap, vt, .bool ok] 136)) := (S1.out g (by omega)).trans h.blk
          have NC : Hid (∀ j x, [Value.int .i64 (b : Int)][j]? = some x → ((w.setCell ⟨q, b, none⟩ (.int .i64 d)).alloc (.cells #[.int .i64 b] 3)).cell? ((⟨w.heap.size, 0, none⟩ : Addr).add j) = some x) := by
            have := new_cell (w.setCell ⟨q, b, none⟩ (.int .i64 d)) 3 (.int .i64 (b : Int))
            rw [Z1.out] at this
            exact this
          have k1 : (w.setCell ⟨q, b, none⟩ (.int .i64 d)).cell? ⟨g, 1, none⟩ = some vt := blk_cellW (i := 1) B1.out rfl
          obtain ⟨at_, ct, hvt⟩ := own_form h.rt.1
          have HVT : Hid (vt = .slice at_ T.length ct) := hvt
          have BW : Hid (Below g w (w.setCell ⟨q, b, none⟩ (.int .i64 d))) := (Below.refl _ _).setCell (by show g ≤ q; omega) _
          have HA : Hid (∀ k, vt.ownBlock = some k → g < k ∧ k < w.heap.size ∧ k ≠ q) := fun k hk => ⟨by have := (h.rt.lt k hk).1; omega, (h.rt.lt k hk).2, fun e => h.ap q rfl (by rw [hk, e])⟩
          have HP : Hid (g < w.heap.size ∧ (1 ≤ d ∧ d ≤ 100) ∧ (∀ x ∈ T, InR x) ∧ InR b) := ⟨h.lt, hd, h.rt.2, by unfold InR; omega⟩
          clear hti hz0 hz1 hz2 h c2 f2 hq1 hq2 hqb hd hvt
          go_enter Tryz.func98, Tryz.ntmps98
          go_wp2_with (first
            | (at_builtin; refine wpList_append_own_at _ rfl (.tmp 39) (.tmp 41) 23 rfl (g + 1) 3 ti _ 1 8 Tryz.underlying23 TI.out.1 TI.out.2.1 TI.out.2.2.1 TI.out.2.2.2 rfl (by decide) vt T.length (T.map (Value.int .i64)) rfl ((T1.out.keep ((Below.refl _ _).alloc (Nat.le_refl _) _)).1) ⟨w.heap.size, 0, none⟩ 1 1 [.int .i64 b] rfl rfl NC.out (by simp; rfl) (by unfold maxLen; omega) (by omega) (by have := Z1.out; have := HQ.out; simp; omega) ?_; intro v3 w3 o3 g3 n3 a3
               obtain ⟨a3', c3', rfl⟩ := own_form o3
               have hG3 : w3.heap[g]? = some (.cells #[.slice (some ⟨q, 0, none⟩) D.length cap, vt, .bool ok] 136) := (g3.block g (by have := Z1.out; have := HP.out.1; simp; omega) (fun e => by have := (HA.out g e.symm).1; omega)).trans ((Below.heap_alloc _ _ _ (by have := Z1.out; have := HP.out.1; omega)).trans B1.out)
               have y0 : w3.cell? ⟨g, 1, none⟩ = some vt := blk_cellW (i := 1) hG3 rfl
               have y1 : w3.frozen? ⟨g, 1, none⟩ = false := blk_freeW (i := 1) hG3)
            | go_in)
          ((try simp only [Exit.inBlock, Exit.then]); (first | refine bodyPost_ret (results_none rfl _ _ _) rfl ?_ | refine bodyPost_end (results_none rfl _ _ _) rfl ?_))
          have z3 : w.heap.size + 1 ≤ w3.heap.size := by have := g3.size; have := Z1.out; simp at *; omega
          rw [HG.out]
          refine ⟨rfl, ⟨.slice (some ⟨q, 0, none⟩) D.length cap, .slice a3' (T.length + 1) c3', ⟨by simp [World.setCell, Array.getElem?_modify, hG3], ?_, ?_, ?_⟩⟩, ?_⟩
          · refine irow_same R1.out fun k hk => ?_
            simp only [Value.ownBlock, Option.some.injEq] at hk
            subst hk
            rw [Below.heap_setCell _ _ _ _ (by have := HQ.out.1; show q ≠ g; omega)]
            refine (g3.block q (by have := Z1.out; have := HQ.out; simp; omega) (fun e => (HA.out q e.symm).2.2 rfl)).trans (Below.heap_alloc _ _ _ (by have := Z1.out; have := HQ.out; omega))
          · refine irow_same (w := w3) ⟨?_, fun x hx => ?_⟩ fun k hk => Below.heap_setCell _ _ _ _ ?_
            · have := o3
              simpa using this
            · rcases List.mem_append.1 hx with hx | hx
              · exact HP.out.2.2.1 x hx
              · simp only [List.mem_singleton] at hx; subst hx; exact HP.out.2.2.2
            · rcases a3 with e | e
              · rw [e] at hk; have := (HA.out k hk).1; show k ≠ g; omega
              · rw [e] at hk; simp only [Option.some.injEq] at hk; have := Z1.out; have := HP.out.1; simp at hk; show k ≠ g; omega
          · intro k hk hk2
            simp only [Value.ownBlock, Option.some.injEq] at hk
            subst hk
            rcases a3 with e | e
            · rw [e] at hk2; exact (HA.out q hk2).2.2 rfl
            · rw [e] at hk2; simp only [Option.some.injEq] at hk2; have := Z1.out; have := HQ.out; simp at hk2; omega
          · refine Below.setCell ?_ (by simp) _
            exact (BW.out.alloc (by have := Z1.out; have := HP.out.1; omega) _).grown g3 (by have := Z1.out; have := HP.out.1; simp; omega) (fun k hk => by have := (HA.out k hk).1; omega)
        · have nneg : decide (D[b] < 0) = false := by simpa using hneg
          by_cases heq : D[b] = d
          · have HG : Hid (goF D T ok b d = (D, T, ok)) := by
              show _ = _; unfold goF; rw [if_neg (by omega), if_neg (by rw [getD_get hbl]; exact hneg), if_pos (by rw [getD_get hbl]; exact heq)]
            rw [heq] at e0 nneg
            clear h heq hneg
            go_enter Tryz.func98, Tryz.ntmps98
            go_wp2
            ((try simp only [Exit.inBlock, Exit.then]); (first | refine bodyPost_ret (results_none rfl _ _ _) rfl ?_ | refine bodyPost_end (results_none rfl _ _ _) rfl ?_))
            rw [HG.out]
            exact ⟨rfl, ⟨_, _, HW.out⟩, Below.refl _ _⟩
          · have HG : Hid (goF D T ok b d = (D, T, false)) := by
              show _ = _; unfold goF; rw [if_neg (by omega), if_neg (by rw [getD_get hbl]; exact hneg), if_neg (by rw [getD_get hbl]; exact heq)]
            have neq : (D[b] != d) = true := by simpa using heq
            generalize D[b] = y at e0 nneg neq
            clear h heq hneg
            go_enter Tryz.func98, Tryz.ntmps98
            go_wp2
            ((try simp only [Exit.inBlock, Exit.then]); (first | refine bodyPost_ret (results_none rfl _ _ _) rfl ?_ | refine bodyPost_end (results_none rfl _ _ _) rfl ?_))
            rw [HG.out]
            exact ⟨rfl, ⟨_, _, HW.out.no.1⟩, HW.out.no.2⟩

end Go.Proofs.YtjibmpebebephaaGreatDoor.fun
