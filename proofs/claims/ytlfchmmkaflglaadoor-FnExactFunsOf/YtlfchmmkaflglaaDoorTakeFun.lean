/-
  The program's takeFun: a function is taken off the bytes into its place.
-/
import Derived.Test.YtlfchmmkaflglaaDoorTakeNums
import Derived.Test.YtlfchmmkaflglaaDoorFunSp
import Derived.Deep.RegionWith
namespace Go.Proofs.YtlfchmmkaflglaaDoor.fun
open Go Go.RowKit Go.Proofs.YtlfchmmkaflglaaDoor.rose Go.Proofs.YtlfchmmkaflglaaDoor Go.Proofs.YtlfchmmkaflglaaDoor.byts
set_option linter.unusedVariables false
set_option linter.unusedSimpArgs false

theorem infoOpZ : (Tryd.prog.info? 47).map (fun i => (i.zero, i.size, i.bytes)) = some (some (.agg #[.int .i64 0, .int .i64 0, .int .i64 0]), 3, 24) := by kernel_rfl
theorem make_opz (n : Nat) (h : n ≤ 3000) (w : World) : (Instr.makeSlice 43 (.int .i64 (n : Int)) (.int .i64 (n : Int))).run Tryd.prog w = .ok (.slice (some ⟨w.heap.size, 0, none⟩) n n)
    (w.alloc (.cells (madeCells #[.int .i64 0, .int .i64 0, .int .i64 0] (n * 3)) 47)) := by
  obtain ⟨i, hi, hzz⟩ := Option.map_eq_some_iff.1 infoOpZ
  simp only [Prod.mk.injEq] at hzz
  obtain ⟨hz, hs, hb⟩ := hzz
  have := run_make (P := Tryd.prog) w 43 47 i _ Tryd.underlying43 hi hz .i64 .i64 n n (by omega) (by omega) (by rw [hb]; omega) (by omega)
  simpa [hs, Value.cells] using this

/-- One function: how many it keeps, its places, where one stands behind it, whether there was one. -/
def funZ (b : List Int) (p : Nat) : Nat × List op.OpD × Nat × Bool :=
  ((numS b p true).1, (opsS b (numS b (numS b p true).2.1 (numS b p true).2.2).1 (numS b (numS b p true).2.1 (numS b p true).2.2).2.1 (numS b (numS b p true).2.1 (numS b p true).2.2).2.2))
theorem funsS_step (b : List Int) (n p : Nat) : funsS b (n + 1) p true = (((((funZ b p).1 : Nat) : Int), (funZ b p).2.1) :: (funsS b n (funZ b p).2.2.1 (funZ b p).2.2.2).1, (funsS b n (funZ b p).2.2.1 (funZ b p).2.2.2).2) := rfl
theorem opsS_len (b : List Int) : ∀ (n p : Nat) (ok : Bool), (opsS b n p ok).2.2 = true → (opsS b n p ok).1.length = n
  | 0, _, _, _ => rfl
  | n + 1, p, true, h => by
    rw [opsS_step] at h ⊢
    dsimp only at h ⊢
    rw [List.length_cons, opsS_len b n _ _ h]
  | n + 1, p, false, h => by rw [opsS_off] at h; cases h
theorem opsS_one (b : List Int) (n p c nn m q : Nat) (r : Bool) (h : numsS b 3 p true = ([c, nn, m], q, r)) : opsS b (n + 1) p true = (((c : Int), (nn : Int) - 1073741824, (m : Int)) :: (opsS b n q r).1, (opsS b n q r).2) := by
  rw [opsS_step]
  simp only [numsS, Prod.mk.injEq, List.cons.injEq, and_true] at h
  obtain ⟨⟨h1, h2, h3⟩, h4, h5⟩ := h
  rw [h1, h2, h3, h4, h5]

/-- The cells that are written of what was there. -/
def Three (ga oa gf of_ k o : Nat) : Prop := (k = ga ∧ o = oa) ∨ (k = gf ∧ (o = of_ ∨ o = of_ + 1))
/-- What is held while places are taken. -/
structure FI (b : List Int) (w wr : World) (ga oa gf of_ ob x1 y1 p2 k q : Nat) (os : List op.OpD) : Prop where
  old : Wg (Three ga oa gf of_) w wr
  at_ : Cell wr ga oa (.int .i64 (q : Nat))
  fre : Cell wr gf of_ (.int .i64 (x1 : Nat))
  lst : Cell wr gf (of_ + 1) (.slice (some ⟨ob, 0, none⟩) y1 y1)
  row : Grown op.opSp 47 wr w.heap.size (.slice (some ⟨ob, 0, none⟩) os.length y1) os
  len : os.length = k
  pl : q ≤ b.length
  all : opsS b y1 p2 true = (os ++ (opsS b (y1 - k) q true).1, (opsS b (y1 - k) q true).2)

/-- The cells of a place. -/
def placeOf (ob k : Nat) : List (Nat × Nat) := [(ob, k * 3), (ob, k * 3 + 1), (ob, k * 3 + 2)]
theorem FI.step {b : List Int} {w wr W w1 : World} {ga oa gf of_ ob x1 y1 p2 k q q2 c nn m : Nat} {os : List op.OpD} (h : FI b w wr ga oa gf of_ ob x1 y1 p2 k q os) (hga : ga < w.heap.size) (hgf : gf < w.heap.size) (hne : ga ≠ gf) (hk : k < y1) (hW : Below wr.heap.size wr W)
    (hT : Wr (Those ga oa (placeOf ob k)) W w1) (ha : Cell w1 ga oa (.int .i64 (q2 : Nat))) (h0 : Cell w1 ob (k * 3) (.int .i64 (c : Nat))) (h1 : Cell w1 ob (k * 3 + 1) (.int .i64 (nn : Nat))) (h2 : Cell w1 ob (k * 3 + 2) (.int .i64 (m : Nat))) (hS : numsS b 3 q true = ([c, nn, m], q2, true)) (hp : q2 ≤ b.length)
    (hb : c ≤ 2147483647 ∧ nn ≤ 2147483647 ∧ m ≤ 2147483647) : FI b w (w1.setCell ⟨ob, k * 3 + 1, none⟩ (.int .i64 ((nn : Int) - 1073741824))) ga oa gf of_ ob x1 y1 p2 (k + 1) q2 (os ++ [((c : Int), (nn : Int) - 1073741824, (m : Int))]) := by
  have hob := (h.row.own (g := ob) rfl).1
  have hlen := h.len
  have hst : ∀ k' o, Those ga oa (placeOf ob k) k' o → (k' = ga ∧ o = oa) ∨ (k' = ob ∧ k * 3 ≤ o) := fun k' o e => by
    rcases e with e | e
    · exact .inl e
    · simp only [placeOf, List.mem_cons, Prod.mk.injEq, List.not_mem_nil, or_false] at e
      rcases e with e | e | e <;> exact .inr ⟨e.1, by omega⟩
  have hG : Wg (fun k' o => (k' = ga ∧ o = oa) ∨ (k' = ob ∧ k * 3 ≤ o)) wr (w1.setCell ⟨ob, k * 3 + 1, none⟩ (.int .i64 ((nn : Int) - 1073741824))) :=
    ((Wg.ofBelow hW).trans hT.wg fun k' o _ e => hst k' o e).set _ _ _ fun _ => .inr ⟨rfl, by omega⟩
  refine ⟨h.old.trans hG fun k' o hk' e => ?_, ha.other _ fun e => by omega, h.fre.wg hG fun e => by omega, h.lst.wg hG fun e => by omega, ?_, by rw [List.length_append, hlen]; rfl, hp, ?_⟩
  · rcases e with e | e
    · exact .inl e
    · omega
  · refine h.row.put (lo := wr.heap.size) (hi := wr.heap.size) (by omega) hG (fun o e => ?_) (fun b' hb1 hb2 hb3 o e => by omega) (op.opp_shut (by omega) (by omega) (by omega)) (fun j u hj => ?_) (Nat.le_refl _) hG.size
    · show os.length * 3 ≤ o
      rcases e with e | e
      · omega
      · rw [hlen]; exact e.2
    · show Cell _ ob (os.length * 3 + j) u
      rw [hlen]
      match j, hj with
      | 0, hj => simp only [List.getElem?_cons_zero, Option.some.injEq] at hj; subst hj; exact h0.other _ fun e => by omega
      | 1, hj => simp only [List.getElem?_cons_succ, List.getElem?_cons_zero, Option.some.injEq] at hj; subst hj; exact h1.set _
      | 2, hj => simp only [List.getElem?_cons_succ, List.getElem?_cons_zero, Option.some.injEq] at hj; subst hj; exact h2.other _ fun e => by omega
      | _ + 3, hj => simp at hj
  · rw [h.all, show y1 - k = (y1 - (k + 1)) + 1 by omega, opsS_one b _ q c nn m q2 true hS]; simp

end Go.Proofs.YtlfchmmkaflglaaDoor.fun
