/-
  A Value that lies in memory apart: its slices are all different blocks.
-/
import Derived.Test.YtdfpihnddclccaaValueSz
import Derived.Test.YtdfpihnddclccaaSep
namespace Go.Proofs.Ytdfpihnddclccaa.value
open Go.RowKit Go.Proofs.Ytdfpihnddclccaa.rose Go.Proofs.Ytdfpihnddclccaa
set_option linter.unusedVariables false

abbrev valueSp : Sh ValueD := paySh.srose

theorem valuep_rep {w : World} {S : Nat → Prop} {cs : List Value} {T : ValueD} (h : valueSp.rep w S cs T) : valueSh.rep w S cs T := srose_rep (fun h => h) rfl h
theorem valueps_rep {w : World} {S : Nat → Prop} {cs : List Value} {ks : List ValueD} (h : valueSp.sslice.rep w S cs ks) : valueSh.slice.rep w S cs ks := sslice_rep (A := valueSp) (B := valueSh) rfl (fun h => valuep_rep h) h

theorem valuep_shut {w : World} {S : Nat → Prop} {x0 : Int} {x1 : Int} {x2 : ByteArray} {x3 : List ValueD} {a3 : Option Addr} {c3 : Nat} (h0 : -9223372036854775808 ≤ x0 ∧ x0 ≤ 9223372036854775807) (h1 : -9223372036854775808 ≤ x1 ∧ x1 ≤ 9223372036854775807) (h2 : x2.size ≤ maxLen) (h3 : valueSp.sslice.rep w S [.slice a3 x3.length c3] x3) : valueSp.rep w S [.int .i64 x0, .int .i64 x1, .string x2, .slice a3 x3.length c3] (.mk (x0, x1, x2) x3) :=
  srose_iff.2 ⟨[.int .i64 x0, .int .i64 x1, .string x2], [_], fun _ => False, S, rfl, fun _ h => h.elim, fun _ h => h, fun _ h => h.elim, ⟨[_], _, rfl, ⟨rfl, h0⟩, [_], _, rfl, ⟨rfl, h1⟩, ⟨rfl, h2⟩⟩, h3⟩
theorem valuep_shutv {w : World} {S : Nat → Prop} {x0 : Int} {x1 : Int} {x2 : ByteArray} {x3 : List ValueD} {v3 : Value} (h0 : -9223372036854775808 ≤ x0 ∧ x0 ≤ 9223372036854775807) (h1 : -9223372036854775808 ≤ x1 ∧ x1 ≤ 9223372036854775807) (h2 : x2.size ≤ maxLen) (h3 : valueSp.sslice.rep w S [v3] x3) : valueSp.rep w S [.int .i64 x0, .int .i64 x1, .string x2, v3] (.mk (x0, x1, x2) x3) :=
  srose_iff.2 ⟨[.int .i64 x0, .int .i64 x1, .string x2], [_], fun _ => False, S, rfl, fun _ h => h.elim, fun _ h => h, fun _ h => h.elim, ⟨[_], _, rfl, ⟨rfl, h0⟩, [_], _, rfl, ⟨rfl, h1⟩, ⟨rfl, h2⟩⟩, h3⟩
theorem valuep_open {w : World} {S : Nat → Prop} {cs : List Value} {T : ValueD} (h : valueSp.rep w S cs T) : ∃ x0 x1 x2 x3 a3 c3, T = .mk (x0, x1, x2) x3 ∧ cs = [.int .i64 x0, .int .i64 x1, .string x2, .slice a3 x3.length c3] ∧ (-9223372036854775808 ≤ x0 ∧ x0 ≤ 9223372036854775807) ∧ (-9223372036854775808 ≤ x1 ∧ x1 ≤ 9223372036854775807) ∧ x2.size ≤ maxLen ∧ valueSp.sslice.rep w S [.slice a3 x3.length c3] x3 := by
  obtain ⟨⟨x0, x1, x2⟩, x3⟩ := T
  obtain ⟨ps, kc, S1, S2, rfl, s1, s2, s3, ⟨_, _, rfl, ⟨rfl, h0⟩, _, _, rfl, ⟨rfl, h1⟩, ⟨rfl, h2⟩⟩, h3⟩ := srose_iff.1 h
  obtain ⟨a3, c3, rfl⟩ := sslice_cells h3
  exact ⟨_, _, _, _, _, _, rfl, rfl, h0, h1, h2, valueSp.sslice.mono h3 s2⟩
theorem valueps_open {w : World} {S : Nat → Prop} {v : Value} {ks : List ValueD} (h : valueSp.sslice.rep w S [v] ks) : ∃ a cap css F, v = .slice a ks.length cap ∧ ks.length ≤ cap ∧ cap ≤ maxLen ∧ (a = none → cap = 0) ∧ SRow valueSp w S a css F ks := by
  obtain ⟨a, cap, css, F, e, h1, h2, h3, h4⟩ := h
  exact ⟨a, cap, css, F, by simpa using e, h1, h2, h3, h4⟩

end Go.Proofs.Ytdfpihnddclccaa.value
