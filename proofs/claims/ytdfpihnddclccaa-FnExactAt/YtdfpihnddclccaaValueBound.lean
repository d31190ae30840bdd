/-
  How many marks a value of the law's size takes.
-/
import Derived.Test.YtdfpihnddclccaaValueMarkT
namespace Go.Proofs.Ytdfpihnddclccaa.value
open Go.RowKit Go.Proofs.Ytdfpihnddclccaa.rose Go.Proofs.Ytdfpihnddclccaa
set_option linter.unusedVariables false

theorem cntT_le (T : ValueD) (hw : wt T ≤ 1048576) : cntT T ≤ 1073741824 := by
  obtain ⟨⟨x0, x1, x2⟩, ks⟩ := T
  have := cnts_le ks
  simp only [wt] at hw
  simp only [cntT]
  omega

end Go.Proofs.Ytdfpihnddclccaa.value
