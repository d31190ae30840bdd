/-
  A Node that lies in memory apart: its slices are all different blocks.
-/
import Derived.Test.YtklcjjckelahcaaNodeSh
import Derived.Test.YtklcjjckelahcaaSep
namespace Go.Proofs.Ytklcjjckelahcaa.node
open Go.RowKit Go.Proofs.Ytklcjjckelahcaa.rose Go.Proofs.Ytklcjjckelahcaa
set_option linter.unusedVariables false

abbrev ndSp : Sh Nd := paySh.srose

theorem ndp_rep {w : World} {S : Nat → Prop} {cs : List Value} {T : Nd} (h : ndSp.rep w S cs T) : ndSh.rep w S cs T := srose_rep (fun h => h) rfl h
theorem ndps_rep {w : World} {S : Nat → Prop} {cs : List Value} {ks : List Nd} (h : ndSp.sslice.rep w S cs ks) : ndSh.slice.rep w S cs ks := sslice_rep (A := ndSp) (B := ndSh) rfl (fun h => ndp_rep h) h

theorem ndp_shut {w : World} {S : Nat → Prop} {x0 : Int} {x1 : Int} {x2 : ByteArray} {x3 : ByteArray} {x4 : List Nd} {a4 : Option Addr} {c4 : Nat} (h0 : -9223372036854775808 ≤ x0 ∧ x0 ≤ 9223372036854775807) (h1 : -9223372036854775808 ≤ x1 ∧ x1 ≤ 9223372036854775807) (h2 : x2.size ≤ maxLen) (h3 : x3.size ≤ maxLen) (h4 : ndSp.sslice.rep w S [.slice a4 x4.length c4] x4) : ndSp.rep w S [.int .i64 x0, .int .i64 x1, .string x2, .string x3, .slice a4 x4.length c4] (.mk (x0, x1, x2, x3) x4) :=
  srose_iff.2 ⟨[.int .i64 x0, .int .i64 x1, .string x2, .string x3], [_], fun _ => False, S, rfl, fun _ h => h.elim, fun _ h => h, fun _ h => h.elim, ⟨[_], _, rfl, ⟨rfl, h0⟩, [_], _, rfl, ⟨rfl, h1⟩, [_], _, rfl, ⟨rfl, h2⟩, ⟨rfl, h3⟩⟩, h4⟩
theorem ndp_shutv {w : World} {S : Nat → Prop} {x0 : Int} {x1 : Int} {x2 : ByteArray} {x3 : ByteArray} {x4 : List Nd} {v4 : Value} (h0 : -9223372036854775808 ≤ x0 ∧ x0 ≤ 9223372036854775807) (h1 : -9223372036854775808 ≤ x1 ∧ x1 ≤ 9223372036854775807) (h2 : x2.size ≤ maxLen) (h3 : x3.size ≤ maxLen) (h4 : ndSp.sslice.rep w S [v4] x4) : ndSp.rep w S [.int .i64 x0, .int .i64 x1, .string x2, .string x3, v4] (.mk (x0, x1, x2, x3) x4) :=
  srose_iff.2 ⟨[.int .i64 x0, .int .i64 x1, .string x2, .string x3], [_], fun _ => False, S, rfl, fun _ h => h.elim, fun _ h => h, fun _ h => h.elim, ⟨[_], _, rfl, ⟨rfl, h0⟩, [_], _, rfl, ⟨rfl, h1⟩, [_], _, rfl, ⟨rfl, h2⟩, ⟨rfl, h3⟩⟩, h4⟩
theorem ndp_open {w : World} {S : Nat → Prop} {cs : List Value} {T : Nd} (h : ndSp.rep w S cs T) : ∃ x0 x1 x2 x3 x4 a4 c4, T = .mk (x0, x1, x2, x3) x4 ∧ cs = [.int .i64 x0, .int .i64 x1, .string x2, .string x3, .slice a4 x4.length c4] ∧ (-9223372036854775808 ≤ x0 ∧ x0 ≤ 9223372036854775807) ∧ (-9223372036854775808 ≤ x1 ∧ x1 ≤ 9223372036854775807) ∧ x2.size ≤ maxLen ∧ x3.size ≤ maxLen ∧ ndSp.sslice.rep w S [.slice a4 x4.length c4] x4 := by
  obtain ⟨⟨x0, x1, x2, x3⟩, x4⟩ := T
  obtain ⟨ps, kc, S1, S2, rfl, s1, s2, s3, ⟨_, _, rfl, ⟨rfl, h0⟩, _, _, rfl, ⟨rfl, h1⟩, _, _, rfl, ⟨rfl, h2⟩, ⟨rfl, h3⟩⟩, h4⟩ := srose_iff.1 h
  obtain ⟨a4, c4, rfl⟩ := sslice_cells h4
  exact ⟨_, _, _, _, _, _, _, rfl, rfl, h0, h1, h2, h3, ndSp.sslice.mono h4 s2⟩
theorem ndps_open {w : World} {S : Nat → Prop} {v : Value} {ks : List Nd} (h : ndSp.sslice.rep w S [v] ks) : ∃ a cap css F, v = .slice a ks.length cap ∧ ks.length ≤ cap ∧ cap ≤ maxLen ∧ (a = none → cap = 0) ∧ SRow ndSp w S a css F ks := by
  obtain ⟨a, cap, css, F, e, h1, h2, h3, h4⟩ := h
  exact ⟨a, cap, css, F, by simpa using e, h1, h2, h3, h4⟩

end Go.Proofs.Ytklcjjckelahcaa.node
