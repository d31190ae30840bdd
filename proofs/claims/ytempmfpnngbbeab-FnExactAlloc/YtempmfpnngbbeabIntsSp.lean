/-
  Slices of ints as they lie in memory.
-/
import Derived.Test.YtempmfpnngbbeabChecked
import Derived.Test.YtempmfpnngbbeabSep
import Derived.WalkKit
namespace Go.Proofs.Ytempmfpnngbbeab.ints
open Go.RowKit Go.Proofs.Ytempmfpnngbbeab.rose Go.Proofs.Ytempmfpnngbbeab
set_option linter.unusedVariables false

abbrev intsSh : Sh (List Int) := Sh.int.slice
abbrev intsSp : Sh (List Int) := Sh.int.sslice

theorem intsp_rep {w : World} {S : Nat → Prop} {cs : List Value} {ks : List Int} (h : intsSp.rep w S cs ks) : intsSh.rep w S cs ks := sslice_rep (A := Sh.int) (B := Sh.int) rfl (fun h => h) h

theorem ints_open {w : World} {S : Nat → Prop} {v : Value} {ks : List Int} (h : intsSh.rep w S [v] ks) : ∃ a cap, v = .slice a ks.length cap ∧ ks.length ≤ cap ∧ cap ≤ maxLen ∧ ∀ i (h : i < ks.length), ∃ b o, a = some ⟨b, o, none⟩ ∧ S b ∧ w.cell? ⟨b, o + i, none⟩ = some (.int .i64 ks[i]) ∧ -9223372036854775808 ≤ ks[i] ∧ ks[i] ≤ 9223372036854775807 := by
  obtain ⟨a, cap, css, e, h1, h2, -, h3, h4⟩ := h
  refine ⟨a, cap, by simpa using e, h1, h2, fun i hi => ?_⟩
  obtain ⟨b, o, rfl, hS, hc⟩ := h3 i hi
  obtain ⟨hcs, hn⟩ := h4 i hi
  rw [hcs] at hc
  have := hc 0 _ rfl
  exact ⟨b, o, rfl, hS, by simpa [Sh.int] using this, hn⟩

end Go.Proofs.Ytempmfpnngbbeab.ints
