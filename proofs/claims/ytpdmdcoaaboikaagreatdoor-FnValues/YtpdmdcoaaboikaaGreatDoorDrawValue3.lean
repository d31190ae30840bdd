/-
  The values that the model's laws draw (DrawValueText, DrawValueOk): some, in new memory that nothing froze, of a bounded weight.
-/
import Derived.Test.YtpdmdcoaaboikaaGreatDoorDrawValue2
import Derived.Test.YtpdmdcoaaboikaaGreatDoorDrawDatas
namespace Go.Proofs.YtpdmdcoaaboikaaGreatDoor.value
open Go Go.RowKit Go.Deep Go.Proofs.YtpdmdcoaaboikaaGreatDoor.rose Go.Proofs.YtpdmdcoaaboikaaGreatDoor Go.Proofs.YtpdmdcoaaboikaaGreatDoor.cur
set_option linter.unusedVariables false
set_option linter.unusedSimpArgs false

set_option maxRecDepth 100000 in
set_option maxHeartbeats 8000000 in
theorem drawText_any (a : Option Addr) (len cap : Nat) (w : World) (hC : cur.Code w.heap.size w a len) : Calls Tryz.prog 5 #[.slice a len cap] w fun e w' => (∃ (cs : List Value) (T : ValueD), e = .returned (.agg cs.toArray) ∧ valueP.rep w' (fun b => w.heap.size ≤ b ∧ b < w'.heap.size) cs T ∧ wt T ≤ 80) ∧ Below w.heap.size w w' := by
  obtain ⟨w0, hw0⟩ : ∃ w0, w0 = w.alloc (.cells #[.int .i64 0, .int .i64 0, .string ⟨#[]⟩, .slice none 0 0] 26) := ⟨_, rfl⟩
  have HW0 : Hid (w0 = w.alloc (.cells #[.int .i64 0, .int .i64 0, .string ⟨#[]⟩, .slice none 0 0] 26)) := hw0
  have b0 : Below w.heap.size w w0 := by rw [hw0]; exact (Below.refl _ _).alloc (Nat.le_refl _) _
  have z0 : w.heap.size + 1 ≤ w0.heap.size ∧ w0.heap.size ≤ w.heap.size + 1 := by rw [hw0]; simp
  have P0 : Hid (w0.heap[w.heap.size]? = some (.cells #[.int .i64 0, .int .i64 0, .string ⟨#[]⟩, .slice none 0 0] 26)) := by show _ = _; rw [hw0]; exact alloc_top _ _
  have HX := new_any a len cap w.heap.size w0 (hC.of_cells fun ad had => World.cell?_of_block (b0.block ad.block had)) (by omega)
  have B0 : Hid (Below w.heap.size w w0) := b0
  clear hw0 hC b0
  go_enter Tryz.func5, Tryz.ntmps5
  go_wp2_with fail
  rw [← HW0.out]
  refine HX.mono ?_
  rintro e w1 ⟨rfl, hc1, hg1, hs1⟩
  replace hs1 := Nat.le_of_eq hs1.symm
  have P1 : Hid (w1.heap[w.heap.size]? = some (.cells #[.int .i64 0, .int .i64 0, .string ⟨#[]⟩, .slice none 0 0] 26)) := (hg1.block _ (by omega) (by simp)).trans P0.out
  have B1 : Hid (Below w.heap.size w w1) := B0.out.grown hg1 B0.out.size (fun k hk => by cases hk)
  have HX2 := v10_any w.heap.size w0.heap.size w1 hc1
  clear HX hc1 hg1
  go_wp2_with fail
  refine HX2.mono ?_
  rintro e w2 ⟨cs, T, rfl, hr, hw, hc2, hg2⟩
  obtain ⟨x0, x1, x2, xk, xa, xc, hTT, rfl, -, -, -, -⟩ := value_open (Sh.bare hr)
  clear hTT
  obtain ⟨xl, hxl⟩ : ∃ n, n = xk.length := ⟨_, rfl⟩
  rw [← hxl] at hr ⊢
  clear hxl
  have P2 : Hid (w2.heap[w.heap.size]? = some (.cells #[.int .i64 0, .int .i64 0, .string ⟨#[]⟩, .slice none 0 0] 26)) := (hg2.block _ (by omega) (fun e => by simp only [Option.some.injEq] at e; omega)).trans P1.out
  have HH : Hid (valueP.rep w2 (fun b => w1.heap.size ≤ b ∧ b < w2.heap.size) [.int .i64 x0, .int .i64 x1, .string x2, .slice xa xl xc] T ∧ wt T ≤ 80 ∧ Below w.heap.size w w2 ∧ w.heap.size < w1.heap.size) := ⟨hr, hw, B1.out.grown hg2 B1.out.size (fun k hk => by simp only [Option.some.injEq] at hk; omega), by omega⟩
  have r0 : w2.cell? ⟨w.heap.size, 0, none⟩ = some (.int .i64 0) := dblk (i := 0) P2.out rfl
  have r1 : w2.cell? ⟨w.heap.size, 1, none⟩ = some (.int .i64 0) := dblk (i := 1) P2.out rfl
  have r2 : w2.cell? ⟨w.heap.size, 2, none⟩ = some (.string ⟨#[]⟩) := dblk (i := 2) P2.out rfl
  have r3 : w2.cell? ⟨w.heap.size, 3, none⟩ = some (.slice none 0 0) := dblk (i := 3) P2.out rfl
  have fr : ∀ o, w2.frozen? ⟨w.heap.size, o, none⟩ = false := fun o => dfree P2.out
  clear HX2 hr hw hc2 hg2
  go_wp2
  refine bodyPost_ret (v := .agg #[.int .i64 x0, .int .i64 x1, .string x2, .slice xa xl xc]) (by simp [results, Tryz.f5, go_sem, r0, r1, r2, r3]) rfl ?_
  refine ⟨⟨[.int .i64 x0, .int .i64 x1, .string x2, .slice xa xl xc], T, rfl, ?_, HH.out.2.1⟩, ?_⟩
  · have h1 := HH.out.2.2.2
    exact valueP.mono (valueP.on HH.out.1 fun b hS => by repeat rw [Below.heap_setCell _ _ _ _ (by simp; omega)]) fun b hS => ⟨by omega, by simp [World.setCell]; exact hS.2⟩
  · repeat first | with_reducible exact HH.out.2.2.1 | (refine Below.setCell ?_ (by first | (simp; done) | (simp; omega)) _)

set_option maxRecDepth 100000 in
set_option maxHeartbeats 8000000 in
theorem drawOk_any (a : Option Addr) (len cap : Nat) (w : World) (hC : cur.Code w.heap.size w a len) : Calls Tryz.prog 6 #[.slice a len cap] w fun e w' => (∃ (v : Value) (ks : List data.DataD) (cs : List Value) (T : ValueD), e = .returned (.tuple #[v, .agg cs.toArray]) ∧ tok.dataPs.rep w' (fun b => w.heap.size ≤ b ∧ b < w'.heap.size) [v] ks ∧ ks.length + data.wts ks ≤ 40000 ∧ valueP.rep w' (fun b => w.heap.size ≤ b ∧ b < w'.heap.size) cs T ∧ wt T ≤ 80) ∧ Below w.heap.size w w' := by
  obtain ⟨w0, hw0⟩ : ∃ w0, w0 = w.alloc (.cells #[.int .i64 0, .int .i64 0, .string ⟨#[]⟩, .slice none 0 0] 26) := ⟨_, rfl⟩
  have HW0 : Hid (w0 = w.alloc (.cells #[.int .i64 0, .int .i64 0, .string ⟨#[]⟩, .slice none 0 0] 26)) := hw0
  have b0 : Below w.heap.size w w0 := by rw [hw0]; exact (Below.refl _ _).alloc (Nat.le_refl _) _
  have z0 : w.heap.size + 1 ≤ w0.heap.size ∧ w0.heap.size ≤ w.heap.size + 1 := by rw [hw0]; simp
  have P0 : Hid (w0.heap[w.heap.size]? = some (.cells #[.int .i64 0, .int .i64 0, .string ⟨#[]⟩, .slice none 0 0] 26)) := by show _ = _; rw [hw0]; exact alloc_top _ _
  have HX := tok.datas_any w0
  have HC : Hid (cur.Code w.heap.size w a len) := hC
  have B0 : Hid (Below w.heap.size w w0) := b0
  clear hw0 hC b0
  go_enter Tryz.func6, Tryz.ntmps6
  go_wp2_with fail
  rw [← HW0.out]
  refine HX.mono ?_
  rintro e wd ⟨⟨v, ks, rfl, hd, hdw⟩, hbd⟩
  obtain ⟨va, vc, hv⟩ := slice_cells hd
  simp only [List.cons.injEq, and_true] at hv
  subst hv
  have zd := hbd.size
  have BD : Hid (Below w.heap.size w wd) := B0.out.trans (hbd.mono B0.out.size)
  have PD : Hid (wd.heap[w.heap.size]? = some (.cells #[.int .i64 0, .int .i64 0, .string ⟨#[]⟩, .slice none 0 0] 26)) := (hbd.block _ (by omega)).trans P0.out
  have RD : Hid (tok.dataPs.rep wd (fun b => w.heap.size < b ∧ b < wd.heap.size) [.slice va ks.length vc] ks ∧ ks.length + data.wts ks ≤ 40000) := ⟨tok.dataPs.mono hd fun b hS => ⟨by omega, hS.2⟩, hdw⟩
  have HX2 := new_any a len cap w.heap.size wd (HC.out.of_cells fun ad had => World.cell?_of_block (BD.out.block ad.block had)) (by omega)
  clear HX hd hdw hbd
  go_wp2_with fail
  refine HX2.mono ?_
  rintro e w1 ⟨rfl, hc1, hg1, hs1⟩
  replace hs1 := Nat.le_of_eq hs1.symm
  have P1 : Hid (w1.heap[w.heap.size]? = some (.cells #[.int .i64 0, .int .i64 0, .string ⟨#[]⟩, .slice none 0 0] 26)) := (hg1.block _ (by omega) (by simp)).trans PD.out
  have B1 : Hid (Below w.heap.size w w1) := BD.out.grown hg1 BD.out.size (fun k hk => by cases hk)
  have R1 : Hid (tok.dataPs.rep w1 (fun b => w.heap.size < b ∧ b < wd.heap.size) [.slice va ks.length vc] ks) := tok.dataPs.on RD.out.1 fun b hS => hg1.block b hS.2 (by simp)
  have HX := v10_any w.heap.size wd.heap.size w1 hc1
  clear HX2 hc1 hg1
  go_wp2_with fail
  refine HX.mono ?_
  rintro e w2 ⟨cs, T, rfl, hr, hw, hc2, hg2⟩
  obtain ⟨x0, x1, x2, xk, xa, xc, hTT, rfl, -, -, -, -⟩ := value_open (Sh.bare hr)
  clear hTT
  obtain ⟨xl, hxl⟩ : ∃ n, n = xk.length := ⟨_, rfl⟩
  rw [← hxl] at hr ⊢
  clear hxl
  have P2 : Hid (w2.heap[w.heap.size]? = some (.cells #[.int .i64 0, .int .i64 0, .string ⟨#[]⟩, .slice none 0 0] 26)) := (hg2.block _ (by omega) (fun e => by simp only [Option.some.injEq] at e; omega)).trans P1.out
  have z2 := hg2.size
  have HH : Hid (valueP.rep w2 (fun b => w1.heap.size ≤ b ∧ b < w2.heap.size) [.int .i64 x0, .int .i64 x1, .string x2, .slice xa xl xc] T ∧ wt T ≤ 80 ∧ Below w.heap.size w w2 ∧ w.heap.size < w1.heap.size ∧ tok.dataPs.rep w2 (fun b => w.heap.size < b ∧ b < w2.heap.size) [.slice va ks.length vc] ks ∧ ks.length + data.wts ks ≤ 40000) := ⟨hr, hw, B1.out.grown hg2 B1.out.size (fun k hk => by simp only [Option.some.injEq] at hk; omega), by omega, tok.dataPs.mono (tok.dataPs.on R1.out fun b hS => hg2.block b (by omega) (fun e => by simp only [Option.some.injEq] at e; omega)) fun b hS => ⟨hS.1, by omega⟩, RD.out.2⟩
  have r0 : w2.cell? ⟨w.heap.size, 0, none⟩ = some (.int .i64 0) := dblk (i := 0) P2.out rfl
  have r1 : w2.cell? ⟨w.heap.size, 1, none⟩ = some (.int .i64 0) := dblk (i := 1) P2.out rfl
  have r2 : w2.cell? ⟨w.heap.size, 2, none⟩ = some (.string ⟨#[]⟩) := dblk (i := 2) P2.out rfl
  have r3 : w2.cell? ⟨w.heap.size, 3, none⟩ = some (.slice none 0 0) := dblk (i := 3) P2.out rfl
  have fr : ∀ o, w2.frozen? ⟨w.heap.size, o, none⟩ = false := fun o => dfree P2.out
  clear HX hr hw hc2 hg2 z2 zd R1 RD
  go_wp2
  refine bodyPost_ret (v := .tuple #[.slice va ks.length vc, .agg #[.int .i64 x0, .int .i64 x1, .string x2, .slice xa xl xc]]) (by simp [results, Tryz.f6, go_sem, r0, r1, r2, r3]) rfl ?_
  have h1 := HH.out.2.2.2.1
  refine ⟨⟨_, ks, [.int .i64 x0, .int .i64 x1, .string x2, .slice xa xl xc], T, rfl, ?_, HH.out.2.2.2.2.2, ?_, HH.out.2.1⟩, ?_⟩
  · exact tok.dataPs.mono (tok.dataPs.on HH.out.2.2.2.2.1 fun b hS => by repeat rw [Below.heap_setCell _ _ _ _ (by simp; omega)]) fun b hS => ⟨by omega, by simp [World.setCell]; exact hS.2⟩
  · exact valueP.mono (valueP.on HH.out.1 fun b hS => by repeat rw [Below.heap_setCell _ _ _ _ (by simp; omega)]) fun b hS => ⟨by omega, by simp [World.setCell]; exact hS.2⟩
  · repeat first | with_reducible exact HH.out.2.2.1 | (refine Below.setCell ?_ (by first | (simp; done) | (simp; omega)) _)

end Go.Proofs.YtpdmdcoaaboikaaGreatDoor.value
