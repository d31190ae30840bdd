/-
  What the program's IrSize calls: where a list begins and how many there are (irsOf); one more that is counted (count).
-/
import Derived.Test.YtndlhmpglpehcaaIrPure
import Derived.Deep.LoopGhost
import Derived.OwnWalk
import Derived.Maps.AppendAt
import Derived.Laws.AppendOwn
namespace Go.Proofs.Ytndlhmpglpehcaa.ir
open Go Go.RowKit Go.Deep Go.Proofs.Ytndlhmpglpehcaa.rose Go.Proofs.Ytndlhmpglpehcaa
set_option linter.unusedVariables false
set_option linter.unusedSimpArgs false

set_option maxHeartbeats 1000000 in
theorem irsOf_none (a : Option Addr) (c : Nat) (w : World) :
    Calls Try.prog 11 #[.slice a 0 c] w fun e w' => e = .returned (.agg #[.pointer none, .int .i64 0]) ∧ Below w.heap.size w w' := by
  go_enter Try.func11, Try.ntmps11
  go_wp2
  refine bodyPost_ret (v := .agg #[.pointer none, .int .i64 0]) (by simp [results, Try.f11, go_sem]) rfl ?_
  refine ⟨rfl, ?_⟩
  repeat first | with_reducible exact Below.refl _ _ | (refine Below.setCell ?_ (by first | (simp; done) | (simp; omega)) _) | (refine Below.alloc ?_ (by first | (simp; done) | (simp; omega)) _)

set_option maxHeartbeats 1000000 in
theorem irsOf_some (b o n c : Nat) (w : World) (hn : 0 < n) (hm : (n : Int) ≤ 9223372036854775807) :
    Calls Try.prog 11 #[.slice (some ⟨b, o, none⟩) n c] w fun e w' => e = .returned (.agg #[.pointer (some ⟨b, o, none⟩), .int .i64 n]) ∧ Below w.heap.size w w' := by
  have hn' : ¬ (n : Int) = 0 := by omega
  go_enter Try.func11, Try.ntmps11
  go_wp2
  refine bodyPost_ret (v := .agg #[.pointer (some ⟨b, o, none⟩), .int .i64 n]) (by simp [results, Try.f11, go_sem]) rfl ?_
  refine ⟨rfl, ?_⟩
  repeat first | with_reducible exact Below.refl _ _ | (refine Below.setCell ?_ (by first | (simp; done) | (simp; omega)) _) | (refine Below.alloc ?_ (by first | (simp; done) | (simp; omega)) _)

theorem irsOf_any {w0 : World} {S : Nat → Prop} {x : AtD} (h : irSh.slice.rep w0 S [x.v] x.2.2) (w : World) :
    Calls Try.prog 11 #[x.v] w fun e w' => e = .returned (spotEnc x.key) ∧ Below w.heap.size w w' := by
  obtain ⟨a, cap, css, e, h1, h2, hrow, hk⟩ := irs_open h
  obtain ⟨xa, xc, ks⟩ := x
  simp only [AtD.v, Value.slice.injEq] at e
  obtain ⟨rfl, -, rfl⟩ := e
  unfold AtD.v AtD.key spotEnc
  dsimp only at h1 hrow hk ⊢
  by_cases h0 : ks.length = 0
  · rw [if_pos h0, h0]
    exact irsOf_none _ _ w
  · rw [if_neg h0]
    obtain ⟨b, o, rfl, -, -⟩ := hrow 0 (by omega)
    exact irsOf_some b o ks.length xc w (by omega) (by unfold maxLen at h2; omega)

set_option maxHeartbeats 1000000 in
theorem count_any (g o n s k : Nat) (w : World) (cur : Array Value) (t : TypeId) (hg : w.heap[g]? = some (.cells cur t)) (h1 : w.cell? ⟨g, o + 1, none⟩ = some (.int .i64 n)) (h2 : w.cell? ⟨g, o + 2, none⟩ = some (.int .i64 s)) (hn : n ≤ 1048577) (hs : s + k + 1 ≤ 1048577) :
    Calls Try.prog 12 #[.pointer (some ⟨g, o, none⟩), .int .i64 k] w fun e w' => e = .returned (.tuple #[]) ∧ w' = (w.setCell ⟨g, o + 1, none⟩ (.int .i64 ((n + 1 : Nat) : Int))).setCell ⟨g, o + 2, none⟩ (.int .i64 ((s + k + 1 : Nat) : Int)) := by
  have fr : ∀ q, w.frozen? ⟨g, q, none⟩ = false := fun q => by simp [World.frozen?, hg]
  have h3 : ¬ (9223372036854775807 : Int) - s ≤ k := by omega
  go_enter Try.func12, Try.ntmps12
  go_wp2
  go_end0
  exact ⟨rfl, by rfl⟩

end Go.Proofs.Ytndlhmpglpehcaa.ir
