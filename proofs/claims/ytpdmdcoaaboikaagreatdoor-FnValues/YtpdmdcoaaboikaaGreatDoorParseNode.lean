/-
  What the model's parsing of expressions says (Nodes); l3Node.
-/
import Derived.Test.YtpdmdcoaaboikaaGreatDoorParseLeaf2
import Derived.Test.YtpdmdcoaaboikaaGreatDoorNodeSh
import Derived.Laws.AppendOwn
import Derived.Maps.AppendAt
namespace Go.Proofs.YtpdmdcoaaboikaaGreatDoor.tok
open Go Go.RowKit Go.Deep Go.Proofs.YtpdmdcoaaboikaaGreatDoor.rose Go.Proofs.YtpdmdcoaaboikaaGreatDoor
set_option linter.unusedVariables false
set_option linter.unusedSimpArgs false

/-- What a parsing function says: a tree in new memory; where nothing was wrong, it went on, and the tree weighs no more than ten for each token that it took. -/
def Nodes (E : Env) (w : World) (at_ : Nat) (bad : Int) (e : Ending) (w' : World) : Prop :=
  ∃ (at' : Nat) (bad' : Int) (cs : List Value) (T : node.Nd), e = .returned (.agg cs.toArray) ∧ node.ndSh.rep w' (fun b => w.heap.size ≤ b ∧ b < w'.heap.size) cs T ∧ St E w' at' bad' ∧ w.grownBy w' (some E.cb) ∧ at_ ≤ at' ∧
    (0 ≤ bad' ∨ (bad' = bad ∧ at_ < at' ∧ node.wt T + 2 ≤ 10 * (at' - at_)))

theorem infoNd : (Tryz.prog.info? 36).map (fun i => (i.zero, i.size, i.bytes)) = some (some (.agg #[.int .i64 0, .int .i64 0, .string ⟨#[]⟩, .string ⟨#[]⟩, .slice none 0 0]), 5, 72) := by kernel_rfl

theorem flat_mem {css : Nat → List Value} {n : Nat} {u : Value} (h : u ∈ flat css n) : ∃ i, i < n ∧ u ∈ css i := by
  induction n with
  | zero => simp [flat] at h
  | succ n ih =>
    rw [flat_succ, List.mem_append] at h
    rcases h with h | h
    · obtain ⟨i, hi, hm⟩ := ih h; exact ⟨i, by omega, hm⟩
    · exact ⟨n, by omega, h⟩

theorem blk_cellP {w : World} {b i : Nat} {cur : Array Value} {t : TypeId} {v : Value} (h : w.heap[b]? = some (.cells cur t)) (hi : cur[i]? = some v) : w.cell? ⟨b, i, none⟩ = some v := by simp [World.cell?, h, hi]
theorem blk_freeP {w : World} {b i : Nat} {cur : Array Value} {t : TypeId} (h : w.heap[b]? = some (.cells cur t)) : w.frozen? ⟨b, i, none⟩ = false := by simp [World.frozen?, h]

theorem own_kids {w w0 w2 : World} {css : Nat → List Value} {ks : List node.Nd} {S : Nat → Prop} (hSS : ∀ b, S b → b < w.heap.size) {v' : Value} {Z : Obj} (hz0 : w0.heap.size = w.heap.size + 1) (hp0 : w0.heap[w.heap.size]? = some Z) (HK : ∀ i (h : i < ks.length), node.ndSh.rep w S (css i) ks[i])
    (B1 : Below w.heap.size w (w0.alloc (.cells #[] 36))) (L0 : (w0.alloc (.cells #[] 36)).ownsRow w0.heap.size 36 5 (.slice (some ⟨w0.heap.size, 0, none⟩) 0 0) 0 [])
    (hown : w2.ownsRow w0.heap.size 36 5 v' (0 + ks.length) ([] ++ flat css ks.length)) (hgrow : (w0.alloc (.cells #[] 36)).grownBy w2 (Value.slice (some ⟨w0.heap.size, 0, none⟩) 0 0).ownBlock) :
    rose.Own node.ndSh 36 w2 w0.heap.size S v' ks ∧ Below w.heap.size w w2 ∧ w2.heap[w.heap.size]? = some Z := by
  refine ⟨?_, ?_, ?_⟩
  · have := Own.more (A := node.ndSh) (t := 36) (xs := []) (ys := ks) (css := fun _ => []) (css2 := css) (S := S) (base := w0.heap.size) (v := .slice (some ⟨w0.heap.size, 0, none⟩) 0 0) (w := w0.alloc (.cells #[] 36)) (v' := v') (w' := w2) L0 (fun i hi => absurd hi (Nat.not_lt_zero _)) (fun i hi => node.ndSh.on (HK i hi) fun b hS => B1.block b (hSS b hS)) (fun b hS => by have := hSS b hS; omega) (by simp) hown hgrow
    simpa using this
  · exact B1.grown hgrow (by simp; omega) (fun k hk => by have := (World.ownsRow.lt L0 k hk).1; omega)
  · refine (hgrow.block _ (by simp; omega) fun e => ?_).trans ((Below.heap_alloc _ _ _ (by omega)).trans hp0)
    have := (World.ownsRow.lt L0 _ e.symm).1
    omega

set_option maxRecDepth 100000 in
set_option maxHeartbeats 4000000 in
theorem node3_any (op : Int) (hop : -9223372036854775808 ≤ op ∧ op ≤ 9223372036854775807) (ks : List node.Nd) (q o c : Nat) (w : World) (S : Nat → Prop) (hSS : ∀ b, S b → b < w.heap.size) (hl : 0 < ks.length ∧ ks.length ≤ 3)
    (h : node.ndSh.slice.rep w S [.slice (some ⟨q, o, none⟩) ks.length c] ks) :
    Calls Tryz.prog 66 #[.int .i64 op, .slice (some ⟨q, o, none⟩) ks.length c] w fun e w' => (∃ cs, e = .returned (.agg cs.toArray) ∧ node.ndSh.rep w' (fun b => S b ∨ (w.heap.size ≤ b ∧ b < w'.heap.size)) cs (.mk (op, 0, ⟨#[]⟩, ⟨#[]⟩) ks)) ∧ Below w.heap.size w w' := by
  obtain ⟨a, cap, css, e, hcap, hmax, hrow, hk⟩ := node.nds_open h
  cases e
  have hq : q < w.heap.size := by
    obtain ⟨b, o', e, hS, -⟩ := hrow 0 hl.1
    cases e
    exact hSS _ hS
  have hcells : CellsAt w q o (flat css ks.length) := flat_row (fun i hi => node.ndSh.len (hk i hi)) hrow
  have HK : Hid (∀ i (h : i < ks.length), node.ndSh.rep w S (css i) ks[i]) := hk
  obtain ⟨w0, hw0⟩ : ∃ w0, w0 = w.alloc (.cells #[.int .i64 0, .int .i64 0, .string ⟨#[]⟩, .string ⟨#[]⟩, .slice none 0 0] 36) := ⟨_, rfl⟩
  have HW0 : Hid (w0 = w.alloc (.cells #[.int .i64 0, .int .i64 0, .string ⟨#[]⟩, .string ⟨#[]⟩, .slice none 0 0] 36)) := hw0
  have hz0 : w0.heap.size = w.heap.size + 1 := by rw [hw0]; simp
  have hp0 : w0.heap[w.heap.size]? = some (.cells #[.int .i64 0, .int .i64 0, .string ⟨#[]⟩, .string ⟨#[]⟩, .slice none 0 0] 36) := by rw [hw0]; exact alloc_top _ _
  have b0 : Below w.heap.size w w0 := by rw [hw0]; exact (Below.refl _ _).alloc (Nat.le_refl _) _
  have b1 : Below w0.heap.size w0 (w0.alloc (.cells #[] 36)) := (Below.refl _ _).alloc (Nat.le_refl _) _
  have B1 : Hid (Below w.heap.size w (w0.alloc (.cells #[] 36))) := b0.trans (b1.mono (by omega))
  have NEW : Hid (∀ j u, (flat css ks.length)[j]? = some u → (w0.alloc (.cells #[] 36)).cell? ((⟨q, o, none⟩ : Addr).add j) = some u) := fun j u hu => by
    rw [add_plain, B1.out.cell (p := ⟨q, o + j, none⟩) hq]
    exact hcells j u hu
  have ONE : Hid (∀ u ∈ flat css ks.length, u.oneCell' = true) := fun u hu => by
    obtain ⟨i, hi, hm⟩ := flat_mem hu
    exact node.ndSh.one (HK.out i hi) u hm
  have LEN : Hid ((flat css ks.length).length = ks.length * 5) := flat_length fun i hi => node.ndSh.len (HK.out i hi)
  have L0 : Hid ((w0.alloc (.cells #[] 36)).ownsRow w0.heap.size 36 5 (.slice (some ⟨w0.heap.size, 0, none⟩) 0 0) 0 []) := World.ownsRow_lit w0 #[] 0 (Nat.le_refl _) (Nat.zero_le _) rfl
  obtain ⟨ti, hti, hzz⟩ := Option.map_eq_some_iff.1 infoNd
  simp only [Prod.mk.injEq] at hzz
  obtain ⟨hi0, hi1, hi2⟩ := hzz
  have TI : Hid (Tryz.prog.info? 36 = some ti ∧ ti.zero = some (.agg #[.int .i64 0, .int .i64 0, .string ⟨#[]⟩, .string ⟨#[]⟩, .slice none 0 0]) ∧ ti.size = 5 ∧ ti.bytes = 72) := ⟨hti, hi0, hi1, hi2⟩
  clear h hk hrow hcells hw0 b0 b1 hti hi0 hi1 hi2
  go_enter Tryz.func66, Tryz.ntmps66
  go_wp2_with (first
    | (at_builtin
       rw [← HW0.out]
       refine wpList_append_own_at _ rfl _ _ 34 rfl w0.heap.size 36 ti _ 5 72 Tryz.underlying34 TI.out.1 TI.out.2.1 TI.out.2.2.1 TI.out.2.2.2 rfl (by decide) (.slice (some ⟨w0.heap.size, 0, none⟩) 0 0) 0 [] (by simp [Act.eval, hz0]) L0.out ⟨q, o, none⟩ ks.length c (flat css ks.length) (by simp [Act.eval]) LEN.out NEW.out ONE.out (by unfold maxLen; omega) (by omega) (by simp) ?_
       intro v' w2 hown hgrow _ hat
       have OW : Hid (rose.Own node.ndSh 36 w2 w0.heap.size S v' ks ∧ Below w.heap.size w w2 ∧ w2.heap[w.heap.size]? = some (.cells #[.int .i64 0, .int .i64 0, .string ⟨#[]⟩, .string ⟨#[]⟩, .slice none 0 0] 36)) := own_kids hSS hz0 hp0 HK.out B1.out L0.out hown hgrow
       obtain ⟨av, cv, rfl⟩ : ∃ av cv, v' = .slice av ks.length cv := by
         obtain ⟨av, cv, e⟩ := slice_cells (OW.out.1.slice (by decide))
         exact ⟨av, cv, by simpa using e⟩
       have r0 : w2.cell? ⟨w.heap.size, 0, none⟩ = some (.int .i64 0) := blk_cellP (i := 0) OW.out.2.2 rfl
       have r1 : w2.cell? ⟨w.heap.size, 1, none⟩ = some (.int .i64 0) := blk_cellP (i := 1) OW.out.2.2 rfl
       have r2 : w2.cell? ⟨w.heap.size, 2, none⟩ = some (.string ⟨#[]⟩) := blk_cellP (i := 2) OW.out.2.2 rfl
       have r3 : w2.cell? ⟨w.heap.size, 3, none⟩ = some (.string ⟨#[]⟩) := blk_cellP (i := 3) OW.out.2.2 rfl
       have r4 : w2.cell? ⟨w.heap.size, 4, none⟩ = some (.slice none 0 0) := blk_cellP (i := 4) OW.out.2.2 rfl
       have fr : ∀ o, w2.frozen? ⟨w.heap.size, o, none⟩ = false := fun o => blk_freeP OW.out.2.2
       clear hown hgrow hat)
    | go_in)
  refine bodyPost_ret (v := .agg #[.int .i64 op, .int .i64 0, .string ⟨#[]⟩, .string ⟨#[]⟩, .slice av ks.length cv]) (by simp [results, Tryz.f66, go_sem, r0, r1, r2, r3, r4]) rfl ?_
  obtain ⟨hO, hB, -⟩ := OW.out
  have hsz := hB.size
  have HS := hO.slice (by decide)
  have hz2 : w.heap.size < w2.heap.size := cell_lt r0
  refine ⟨⟨[.int .i64 op, .int .i64 0, .string ⟨#[]⟩, .string ⟨#[]⟩, .slice av ks.length cv], by rfl, ?_⟩, ?_⟩
  · refine node.nd_shut hop (by omega) (by decide) (by decide) (node.ndSh.slice.mono (node.ndSh.slice.on HS fun b hS => ?_) fun b hS => ?_)
    · repeat rw [Below.heap_setCell _ _ _ _ (by rcases hS with h | h <;> (first | have := hSS _ h | skip) <;> (simp; omega))]
    · rcases hS with h | h
      · exact .inl h
      · refine .inr ⟨by omega, ?_⟩
        simp only [World.setCell, Array.size_modify]
        omega
  · repeat first | with_reducible exact hB | (refine Below.setCell ?_ (by first | (simp; done) | (simp; omega)) _)

end Go.Proofs.YtpdmdcoaaboikaaGreatDoor.tok
