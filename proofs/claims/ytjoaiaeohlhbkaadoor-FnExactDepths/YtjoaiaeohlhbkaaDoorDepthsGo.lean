/-
  The model's Effect and l15Go, at every argument that Depths hands them.
-/
import Derived.Test.YtjoaiaeohlhbkaaDoorDepthsPure
import Derived.Test.YtjoaiaeohlhbkaaDoorEffectSpec
import Derived.Test.YtjoaiaeohlhbkaaDoorIntRows
import Derived.Test.YtjoaiaeohlhbkaaDoorRowSet
import Derived.Maps.AppendAt
import Derived.WalkSmall
namespace Go.Proofs.YtjoaiaeohlhbkaaDoor.fun
open Go Go.RowKit Go.Proofs.YtjoaiaeohlhbkaaDoor.rose Go.Proofs.YtjoaiaeohlhbkaaDoor Go.Proofs.YtjoaiaeohlhbkaaDoor.ints
set_option linter.unusedVariables false
set_option linter.unusedSimpArgs false


/-- The finder's block: what was found, what is to do, and whether all is well. -/
structure WK (w : World) (g : Nat) (vd vt : Value) (D T : List Int) (ok : Bool) : Prop where
  blk : w.heap[g]? = some (.cells #[vd, vt, .bool ok] 42)
  rd : IRow w (g + 1) vd D
  rt : IRow w (g + 1) vt T
  ap : ∀ q, vd.ownBlock = some q → vt.ownBlock ≠ some q

theorem blk_cellW {w : World} {b i : Nat} {cur : Array Value} {t : TypeId} {v : Value} (h : w.heap[b]? = some (.cells cur t)) (hi : cur[i]? = some v) : w.cell? ⟨b, i, none⟩ = some v := by simp [World.cell?, h, hi]
theorem blk_freeW {w : World} {b i : Nat} {cur : Array Value} {t : TypeId} (h : w.heap[b]? = some (.cells cur t)) : w.frozen? ⟨b, i, none⟩ = false := by simp [World.frozen?, h]
theorem WK.lt {w : World} {g : Nat} {vd vt : Value} {D T : List Int} {ok : Bool} (h : WK w g vd vt D T ok) : g < w.heap.size := (Array.getElem?_eq_some_iff.1 h.blk).1
/-- A row of ints stays where its block does. -/
theorem irow_same {w w' : World} {base : Nat} {v : Value} {l : List Int} (h : IRow w base v l) (hb : ∀ q, v.ownBlock = some q → w'.heap[q]? = w.heap[q]?) : IRow w' base v l := by
  refine ⟨⟨h.1.1, ?_⟩, h.2⟩
  rcases h.1.2 with h0 | ⟨g, cap, cur, h1, h2, h3, h4⟩
  · exact Or.inl h0
  · exact Or.inr ⟨g, cap, cur, h1, h2, (hb g (by rw [h1]; rfl)).trans h3, h4⟩
theorem WK.on {w w' : World} {g : Nat} {vd vt : Value} {D T : List Int} {ok : Bool} (h : WK w g vd vt D T ok) (hb : Below w.heap.size w w') : WK w' g vd vt D T ok :=
  ⟨(hb.block _ h.lt).trans h.blk, h.rd.keep hb, h.rt.keep hb, h.ap⟩
/-- All is no more well. -/
theorem WK.no {w : World} {g : Nat} {vd vt : Value} {D T : List Int} {ok : Bool} (h : WK w g vd vt D T ok) : WK (w.setCell ⟨g, 2, none⟩ (.bool false)) g vd vt D T false ∧ Below g w (w.setCell ⟨g, 2, none⟩ (.bool false)) := by
  refine ⟨⟨by simp [World.setCell, Array.getElem?_modify, h.blk], irow_same h.rd fun q hq => ?_, irow_same h.rt fun q hq => ?_, h.ap⟩, (Below.refl _ _).setCell (by simp) _⟩
  · have := (h.rd.lt q hq).1
    exact Below.heap_setCell _ _ _ _ (by show q ≠ g; omega)
  · have := (h.rt.lt q hq).1
    exact Below.heap_setCell _ _ _ _ (by show q ≠ g; omega)

set_option maxRecDepth 100000 in
set_option maxHeartbeats 4000000 in
theorem l15Go_any (w : World) (g : Nat) (vd vt : Value) (D T : List Int) (ok : Bool) (b : Nat) (d : Int) (h : WK w g vd vt D T ok) (hD : D.length ≤ 3000) (hT : T.length ≤ 10000) (hb : b ≤ 9223372036854775807) (hd : 1 ≤ d ∧ d ≤ 100) :
    Calls Tryd.prog 16 #[.pointer (some ⟨g, 0, none⟩), .int .i64 b, .int .i64 d] w fun e w' => e = .returned (.tuple #[]) ∧ (∃ vd' vt', WK w' g vd' vt' (goF D T ok b d).1 (goF D T ok b d).2.1 (goF D T ok b d).2.2) ∧ Below g w w' := by
  have HW : Hid (WK w g vd vt D T ok) := h
  have c0 : w.cell? ⟨g, 0, none⟩ = some vd := blk_cellW (i := 0) h.blk rfl
  have c1 : w.cell? ⟨g, 1, none⟩ = some vt := blk_cellW (i := 1) h.blk rfl
  have c2 : w.cell? ⟨g, 2, none⟩ = some (.bool ok) := blk_cellW (i := 2) h.blk rfl
  have f2 : w.frozen? ⟨g, 2, none⟩ = false := blk_freeW (i := 2) h.blk
  obtain ⟨av, cv, hv⟩ : ∃ a c, vd = .slice a D.length c := by
    rcases h.rd.open with ⟨rfl, rfl⟩ | ⟨q, cap, rfl, -⟩
    · exact ⟨_, _, rfl⟩
    · exact ⟨_, _, rfl⟩
  by_cases hl : D.length ≤ b
  · have HG : Hid (goF D T ok b d = (D, T, false)) := by show _ = _; unfold goF; rw [if_pos (.inl hl)]
    subst hv
    have t1 : decide ((D.length : Int) ≤ (b : Int)) = true := by simp; omega
    clear h
    go_enter Tryd.func16, Tryd.ntmps16
    go_wp2
    ((try simp only [Exit.inBlock, Exit.then]); (first | refine bodyPost_ret (results_none rfl _ _ _) rfl ?_ | refine bodyPost_end (results_none rfl _ _ _) rfl ?_))
    rw [HG.out]
    exact ⟨rfl, ⟨_, _, HW.out.no.1⟩, HW.out.no.2⟩
  · have t1 : decide ((D.length : Int) ≤ (b : Int)) = false := by simp; omega
    by_cases h60 : 60 < d
    · have HG : Hid (goF D T ok b d = (D, T, false)) := by show _ = _; unfold goF; rw [if_pos (.inr h60)]
      subst hv
      clear h
      go_enter Tryd.func16, Tryd.ntmps16
      go_wp2
      ((try simp only [Exit.inBlock, Exit.then]); (first | refine bodyPost_ret (results_none rfl _ _ _) rfl ?_ | refine bodyPost_end (results_none rfl _ _ _) rfl ?_))
      rw [HG.out]
      exact ⟨rfl, ⟨_, _, HW.out.no.1⟩, HW.out.no.2⟩
    · have hbl : b < D.length := by omega
      have n60 : decide ((60 : Int) < d) = false := by simp; omega
      rcases h.rd.open with ⟨h1, h2⟩ | ⟨q, cap, hvq, hq1, hq2, hq3, hq4, hqc, cur, tq, hqb⟩
      · subst h2; simp at hbl
      · have e0 : w.cell? ⟨q, b, none⟩ = some (.int .i64 D[b]) := hqc b hbl
        clear hqc
        have fq : w.frozen? ⟨q, b, none⟩ = false := blk_freeW hqb
        have bI : (b : Int) < (D.length : Int) := by omega
        have HQ : Hid (g < q ∧ q < w.heap.size) := ⟨by omega, hq2⟩
        subst hvq
        clear hv
        by_cases hneg : D[b] < 0
        · have HG : Hid (goF D T ok b d = (D.set b d, T ++ [(b : Int)], ok)) := by
            show _ = _; unfold goF; rw [if_neg (by omega), if_pos (by rw [getD_get hbl]; exact hneg)]
          generalize D[b] = y at e0 hneg
          obtain ⟨ti, hti, hz0, hz1, hz2⟩ := int_info
          have TI : Hid (Tryd.prog.info? 3 = some ti ∧ ti.zero = some (.int .i64 0) ∧ ti.size = 1 ∧ ti.bytes = 8) := ⟨hti, hz0, hz1, hz2⟩
          have S1 : Hid (∀ k, k ≠ q → (w.setCell ⟨q, b, none⟩ (.int .i64 d)).heap[k]? = w.heap[k]?) := fun k hk => Below.heap_setCell _ _ _ _ hk
          have Z1 : Hid ((w.setCell ⟨q, b, none⟩ (.int .i64 d)).heap.size = w.heap.size) := by show _ = _; simp [World.setCell]
          have R1 : Hid (IRow (w.setCell ⟨q, b, none⟩ (.int .i64 d)) (g + 1) (.slice (some ⟨q, 0, none⟩) D.length cap) (D.set b d)) := by
            refine ⟨?_, fun y hy => ?_⟩
            · have := own_set (j := b) (u := .int .i64 d) h.rd.1 (by omega)
              rw [List.length_set, List.map_set]
              exact this
            · rcases List.mem_or_eq_of_mem_set hy with hy | rfl
              · exact h.rd.2 y hy
              · unfold InR; omega
          have T1 : Hid (IRow (w.setCell ⟨q, b, none⟩ (.int .i64 d)) (g + 1) vt T) := irow_same h.rt fun k hk => S1.out k fun e => h.ap q rfl (by rw [hk, e])
          have B1 : Hid ((w.setCell ⟨q, b, none⟩ (.int .i64 d)).heap[g]? = some (.cells #[.slice (some ⟨q, 0, none⟩) D.length cap, vt, .bool ok] 42)) := (S1.out g (by omega)).trans h.blk
          have NC : Hid (∀ j x, [Value.int .i64 (b : Int)][j]? = some x → ((w.setCell ⟨q, b, none⟩ (.int .i64 d)).alloc (.cells #[.int .i64 b] 3)).cell? ((⟨w.heap.size, 0, none⟩ : Addr).add j) = some x) := by
            have := new_cell (w.setCell ⟨q, b, none⟩ (.int .i64 d)) 3 (.int .i64 (b : Int))
            rw [Z1.out] at this
            exact this
          have k1 : (w.setCell ⟨q, b, none⟩ (.int .i64 d)).cell? ⟨g, 1, none⟩ = some vt := blk_cellW (i := 1) B1.out rfl
          obtain ⟨at_, ct, hvt⟩ := own_form h.rt.1
          have HVT : Hid (vt = .slice at_ T.length ct) := hvt
          have BW : Hid (Below g w (w.setCell ⟨q, b, none⟩ (.int .i64 d))) := (Below.refl _ _).setCell (by show g ≤ q; omega) _
          have HA : Hid (∀ k, vt.ownBlock = some k → g < k ∧ k < w.heap.size ∧ k ≠ q) := fun k hk => ⟨by have := (h.rt.lt k hk).1; omega, (h.rt.lt k hk).2, fun e => h.ap q rfl (by rw [hk, e])⟩
          have HP : Hid (g < w.heap.size ∧ (1 ≤ d ∧ d ≤ 100) ∧ (∀ x ∈ T, InR x) ∧ InR b) := ⟨h.lt, hd, h.rt.2, by unfold InR; omega⟩
          clear hti hz0 hz1 hz2 h c2 f2 hq1 hq2 hqb hd hvt
          go_enter Tryd.func16, Tryd.ntmps16
          go_wp2_with (first
            | (at_builtin; refine wpList_append_own_at _ rfl (.tmp 39) (.tmp 41) 24 rfl (g + 1) 3 ti _ 1 8 Tryd.underlying24 TI.out.1 TI.out.2.1 TI.out.2.2.1 TI.out.2.2.2 rfl (by decide) vt T.length (T.map (Value.int .i64)) rfl ((T1.out.keep ((Below.refl _ _).alloc (Nat.le_refl _) _)).1) ⟨w.heap.size, 0, none⟩ 1 1 [.int .i64 b] rfl rfl NC.out (by simp; rfl) (by unfold maxLen; omega) (by omega) (by have := Z1.out; have := HQ.out; simp; omega) ?_; intro v3 w3 o3 g3 n3 a3
               obtain ⟨a3', c3', rfl⟩ := own_form o3
               have hG3 : w3.heap[g]? = some (.cells #[.slice (some ⟨q, 0, none⟩) D.length cap, vt, .bool ok] 42) := (g3.block g (by have := Z1.out; have := HP.out.1; simp; omega) (fun e => by have := (HA.out g e.symm).1; omega)).trans ((Below.heap_alloc _ _ _ (by have := Z1.out; have := HP.out.1; omega)).trans B1.out)
               have y0 : w3.cell? ⟨g, 1, none⟩ = some vt := blk_cellW (i := 1) hG3 rfl
               have y1 : w3.frozen? ⟨g, 1, none⟩ = false := blk_freeW (i := 1) hG3)
            | go_in)
          ((try simp only [Exit.inBlock, Exit.then]); (first | refine bodyPost_ret (results_none rfl _ _ _) rfl ?_ | refine bodyPost_end (results_none rfl _ _ _) rfl ?_))
          have z3 : w.heap.size + 1 ≤ w3.heap.size := by have := g3.size; have := Z1.out; simp at *; omega
          rw [HG.out]
          refine ⟨rfl, ⟨.slice (some ⟨q, 0, none⟩) D.length cap, .slice a3' (T.length + 1) c3', ⟨by simp [World.setCell, Array.getElem?_modify, hG3], ?_, ?_, ?_⟩⟩, ?_⟩
          · refine irow_same R1.out fun k hk => ?_
            simp only [Value.ownBlock, Option.some.injEq] at hk
            subst hk
            rw [Below.heap_setCell _ _ _ _ (by have := HQ.out.1; show q ≠ g; omega)]
            refine (g3.block q (by have := Z1.out; have := HQ.out; simp; omega) (fun e => (HA.out q e.symm).2.2 rfl)).trans (Below.heap_alloc _ _ _ (by have := Z1.out; have := HQ.out; omega))
          · refine irow_same (w := w3) ⟨?_, fun x hx => ?_⟩ fun k hk => Below.heap_setCell _ _ _ _ ?_
            · have := o3
              simpa using this
            · rcases List.mem_append.1 hx with hx | hx
              · exact HP.out.2.2.1 x hx
              · simp only [List.mem_singleton] at hx; subst hx; exact HP.out.2.2.2
            · rcases a3 with e | e
              · rw [e] at hk; have := (HA.out k hk).1; show k ≠ g; omega
              · rw [e] at hk; simp only [Option.some.injEq] at hk; have := Z1.out; have := HP.out.1; simp at hk; show k ≠ g; omega
          · intro k hk hk2
            simp only [Value.ownBlock, Option.some.injEq] at hk
            subst hk
            rcases a3 with e | e
            · rw [e] at hk2; exact (HA.out q hk2).2.2 rfl
            · rw [e] at hk2; simp only [Option.some.injEq] at hk2; have := Z1.out; have := HQ.out; simp at hk2; omega
          · refine Below.setCell ?_ (by simp) _
            exact (BW.out.alloc (by have := Z1.out; have := HP.out.1; omega) _).grown g3 (by have := Z1.out; have := HP.out.1; simp; omega) (fun k hk => by have := (HA.out k hk).1; omega)
        · have nneg : decide (D[b] < 0) = false := by simpa using hneg
          by_cases heq : D[b] = d
          · have HG : Hid (goF D T ok b d = (D, T, ok)) := by
              show _ = _; unfold goF; rw [if_neg (by omega), if_neg (by rw [getD_get hbl]; exact hneg), if_pos (by rw [getD_get hbl]; exact heq)]
            rw [heq] at e0 nneg
            clear h heq hneg
            go_enter Tryd.func16, Tryd.ntmps16
            go_wp2
            ((try simp only [Exit.inBlock, Exit.then]); (first | refine bodyPost_ret (results_none rfl _ _ _) rfl ?_ | refine bodyPost_end (results_none rfl _ _ _) rfl ?_))
            rw [HG.out]
            exact ⟨rfl, ⟨_, _, HW.out⟩, Below.refl _ _⟩
          · have HG : Hid (goF D T ok b d = (D, T, false)) := by
              show _ = _; unfold goF; rw [if_neg (by omega), if_neg (by rw [getD_get hbl]; exact hneg), if_neg (by rw [getD_get hbl]; exact heq)]
            have neq : (D[b] != d) = true := by simpa using heq
            generalize D[b] = y at e0 nneg neq
            clear h heq hneg
            go_enter Tryd.func16, Tryd.ntmps16
            go_wp2
            ((try simp only [Exit.inBlock, Exit.then]); (first | refine bodyPost_ret (results_none rfl _ _ _) rfl ?_ | refine bodyPost_end (results_none rfl _ _ _) rfl ?_))
            rw [HG.out]
            exact ⟨rfl, ⟨_, _, HW.out.no.1⟩, HW.out.no.2⟩

end Go.Proofs.YtjoaiaeohlhbkaaDoor.fun
