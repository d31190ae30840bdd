/-
  The program's PutNum, at every number; nothing that was there is turned.
-/
import Derived.Test.YtlfchmmkaflglaaPutNums
namespace Go.Proofs.Ytlfchmmkaflglaa.byts
open Go Go.RowKit Go.Proofs.Ytlfchmmkaflglaa.rose Go.Proofs.Ytlfchmmkaflglaa Go.Proofs.Ytlfchmmkaflglaa.fun
set_option linter.unusedVariables false
set_option linter.unusedSimpArgs false

set_option maxRecDepth 100000 in
set_option maxHeartbeats 4000000 in
theorem implPutNum (n : Int) (w : World) (h1 : -9223372036854775808 ≤ n) (h2 : n ≤ 9223372036854775807) :
    Calls Try.prog 6 #[.int .i64 n] w fun e w' => (∃ v', e = .returned v' ∧ BRow w' w.heap.size v' (putB n)) ∧ Below w.heap.size w w' := by
  rcases q0 : inB n 0 2147483647 with _ | _
  · have HQ : Hid (putB n = []) := by show _ = _; unfold putB; rw [q0]; rfl
    by_cases hn : n < 0
    · have t1 : decide (n < 0) = true := decide_eq_true hn
      go_enter Try.func6, Try.ntmps6
      go_wp2
      go_ret
      rw [HQ.out]
      exact ⟨⟨_, rfl, BRow.nil _ _⟩, Below.refl _ _⟩
    · have t1 : decide (n < 0) = false := decide_eq_false hn
      have t2 : decide (2147483647 < n) = true := by have := inB_no q0; simp; omega
      go_enter Try.func6, Try.ntmps6
      go_wp2
      go_ret
      rw [HQ.out]
      exact ⟨⟨_, rfl, BRow.nil _ _⟩, Below.refl _ _⟩
  · have q1 := inB_yes q0
    obtain ⟨m, rfl⟩ : ∃ m : Nat, n = m := ⟨n.toNat, by omega⟩
    have HQ : Hid (putB m = vint m) := by show _ = _; unfold putB; rw [q0]; simp
    have hm : m ≤ 2147483647 := by omega
    have t1 : decide ((m : Int) < 0) = false := by simp
    have t2 : decide ((2147483647 : Int) < (m : Int)) = false := by simp; omega
    have hcall := putNums_any w.heap.size w.heap.size [] [m] none 0 (w.alloc (.cells #[.int .i64 m] 3)) (by simp) (BRow.nil _ _) (by simp) (by simp [Value.ownBlock]) (fun i hi => match i, hi with | 0, _ => by simp) (fun i hi => match i, hi with | 0, _ => hm) (by simp) (by simp)
    have he : ([] : List Int) ++ [m].flatMap vint = vint m := by simp
    rw [he] at hcall
    clear q0 q1 he
    go_enter Try.func6, Try.ntmps6
    go_wp2_with fail
    refine hcall.mono ?_
    rintro e w1 ⟨a', c', rfl, hN⟩
    go_wp2
    go_ret
    rw [HQ.out]
    refine ⟨⟨_, rfl, hN.row⟩, ?_⟩
    have hb : Below w.heap.size w (w.alloc (.cells #[.int .i64 m] 3)) := (Below.refl _ _).alloc (Nat.le_refl _) _
    exact hb.grown hN.grw (by simp) fun k hk => by simp [Value.ownBlock] at hk

end Go.Proofs.Ytlfchmmkaflglaa.byts
