/-
  The program's GetNum, at every bytes and every place; nothing that was there is turned.
-/
import Derived.Test.YtlfchmmkaflglaaTakeNum
import Derived.BigQuiet
namespace Go.Proofs.Ytlfchmmkaflglaa.byts
open Go Go.RowKit Go.Proofs.Ytlfchmmkaflglaa.rose Go.Proofs.Ytlfchmmkaflglaa Go.Proofs.Ytlfchmmkaflglaa.fun
set_option linter.unusedVariables false
set_option linter.unusedSimpArgs false

set_option maxRecDepth 100000 in
set_option maxHeartbeats 4000000 in
theorem implGetNum (b : List Int) (at_ : Int) (v : Value) (w : World) (hl : b.length ≤ 1048576) (h1 : -9223372036854775808 ≤ at_) (h2 : at_ ≤ 9223372036854775807) (h : bytesSh.rep w (· < w.heap.size) [v] b) :
    Calls Try.prog 12 #[v, .int .i64 at_] w fun e w' => e = .returned (.tuple #[.int .i64 (getB b at_).1, .int .i64 (getB b at_).2.1, .bool (getB b at_).2.2]) ∧ Below w.heap.size w w' := by
  obtain ⟨W, hW⟩ : ∃ W, W = ((w.alloc (.cells #[.int .i64 at_] 3)).alloc (.cells #[.int .i64 0] 3)) := ⟨_, rfl⟩
  have hB1 : Below w.heap.size w (w.alloc (.cells #[.int .i64 at_] 3)) := (Below.refl _ _).alloc (Nat.le_refl _) _
  have hB : Below w.heap.size w W := by rw [hW]; exact hB1.alloc (by simp) _
  have hr : bytesSh.rep W (fun k => k < W.heap.size ∧ k ≠ w.heap.size ∧ k ≠ w.heap.size + 1) [v] b := bytesSh.mono (bytesSh.below h hB) fun k hk => ⟨Nat.lt_of_lt_of_le hk hB.size, by omega, by omega⟩
  have hA : Cell W w.heap.size 0 (.int .i64 at_) := by
    rw [hW]; exact (Cell.new w _ #[.int .i64 at_] 0 _ rfl).on ((Below.refl _ _).alloc (Nat.le_refl _) _)
  have hN : Cell W (w.heap.size + 1) 0 (.int .i64 0) := by
    rw [hW]
    have := Cell.new (w.alloc (.cells #[.int .i64 at_] 3)) 3 #[.int .i64 0] 0 (.int .i64 0) rfl
    simpa using this
  have hcall := takeNum_any b at_ v (.int .i64 0) w.heap.size 0 (w.heap.size + 1) 0 W hl h1 h2 hr hA hN (fun e => by omega)
  have HB : Hid (Below w.heap.size w W) := hB
  have HW : Hid (W = ((w.alloc (.cells #[.int .i64 at_] 3)).alloc (.cells #[.int .i64 0] 3))) := hW
  obtain ⟨a, c, hv⟩ : ∃ a c, v = .slice a b.length c := by obtain ⟨a, c, e⟩ := slice_cells h; simp only [List.cons.injEq, and_true] at e; exact ⟨a, c, e⟩
  subst hv
  have hsz : w.heap.size ≤ W.heap.size := hB.size
  clear hA hN hr hB hB1 h hW
  obtain ⟨x, hx⟩ : ∃ x, x = getB b at_ := ⟨_, rfl⟩
  have HX : Hid (x = getB b at_) := hx
  rw [← hx] at hcall ⊢
  clear hx
  obtain ⟨x1, x2, x3⟩ := x
  cases x3 with
  | false =>
    have HZ : Hid (x1 = 0 ∧ x2 = 0) := by
      have e := HX.out
      unfold getB at e
      split at e
      · simp only [Prod.mk.injEq] at e; exact ⟨e.1, e.2.1⟩
      · split at e
        · simp only [Prod.mk.injEq] at e; exact ⟨e.1, e.2.1⟩
        · simp only [Prod.mk.injEq] at e; exact absurd e.2.2 (by simp)
    go_enter Try.func12, Try.ntmps12
    go_wp2_with fail
    rw [← HW.out]
    refine hcall.mono ?_
    rintro e w1 ⟨rfl, q, n, hT, -⟩
    have B1 : Hid (Below w.heap.size w w1) := HB.out.trans (hT.old.below (fun k o ho => by rcases ho with ho | ho <;> omega) hsz)
    clear hT hcall
    go_wp2
    refine bodyPost_ret (v := .tuple #[.int .i64 0, .int .i64 0, .bool false]) (by simp [results, Try.f12, go_sem]) rfl ?_
    rw [HZ.out.1, HZ.out.2]
    exact ⟨rfl, B1.out⟩
  | true =>
    go_enter Try.func12, Try.ntmps12
    go_wp2_with fail
    rw [← HW.out]
    refine hcall.mono ?_
    rintro e w1 ⟨rfl, q, n, hT, hK⟩
    have B1 : Hid (Below w.heap.size w w1) := HB.out.trans (hT.old.below (fun k o ho => by rcases ho with ho | ho <;> omega) hsz)
    have hK2 := hK (by rw [← HX.out])
    rw [← HX.out] at hK2
    dsimp only at hK2
    obtain ⟨rfl, rfl⟩ := hK2
    have ca : w1.cell? ⟨w.heap.size, 0, none⟩ = some (.int .i64 q) := hT.at_.cell
    have cn : w1.cell? ⟨w.heap.size + 1, 0, none⟩ = some (.int .i64 n) := hT.num.cell
    clear hT hK hcall
    go_wp2
    (try go_region)
    go_wp2
    refine bodyPost_ret (v := .tuple #[.int .i64 n, .int .i64 q, .bool true]) (by simp [results, Try.f12, go_sem]) rfl ?_
    exact ⟨rfl, B1.out.drew⟩

end Go.Proofs.Ytlfchmmkaflglaa.byts
