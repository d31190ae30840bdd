/-
  From the row's list of variables to what the program's table of names holds.
-/
import Derived.Test.YtjoaiaeohlhbkaaDoorFunNames
import Derived.Lib.LaidTab
import Derived.OpenShut
namespace Go.Proofs.YtjoaiaeohlhbkaaDoor.fun
open Go.RowKit Go.Proofs.YtjoaiaeohlhbkaaDoor
set_option linter.unusedVariables false

theorem gNamesType : (Tryd.prog.globals[0]?).map (·.type) = some 79 := by kernel_rfl
theorem cellsNames : Tryd.prog.cellsOf 79 = 110 := by kernel_rfl
theorem cellsName : Tryd.prog.cellsOf 72 = 5 := by kernel_rfl
theorem cellsByte : Tryd.prog.cellsOf 5 = 1 := by kernel_rfl
theorem nmT_len : nmT.length = 22 := rfl

/-- The table as a row lists it. -/
def nmData {H : Type} : DataW H := .agg (nmT.map (Lib.tabData .u8))

theorem cells_of_names {H : Type} {enc : TypeId × Value → H} {w : World} {base : Nat} {sp : Nat → Bool} {held : Bool} {fuel : Nat} {cs : List Value} {p : List MemPlace}
    (h : DataW.trod enc Tryd.prog w base sp held fuel 79 cs = some (nmData, p)) (i r : Nat) (hi : i < 22) (hr : r < 5) : cs[i * 5 + r]? = some (.int .u8 (nm i r)) := by
  cases fuel with
  | zero => simp [DataW.trod] at h
  | succ fuel =>
    simp only [DataW.trod, Tryd.underlying79, cellsName, cellsNames] at h
    split at h
    · rename_i hl
      obtain ⟨xs, hm, hx⟩ := Option.map_eq_some_iff.1 h
      have hxs : xs.map (·.1) = nmT.map fun z => (Lib.tabData .u8 z : DataW H) := by
        have := congrArg Prod.fst hx
        simpa [nmData] using this
      obtain ⟨b, hb, hf⟩ := Lib.mapM_at hm i i (by simp [hi])
      have h2 : (xs.map (·.1))[i]? = some b.1 := by simp [hb]
      rw [hxs] at h2
      have hlt : i < nmT.length := by rw [nmT_len]; exact hi
      simp only [List.getElem?_map, List.getElem?_eq_getElem hlt, Option.map_some, Option.some.injEq] at h2
      have hf' : DataW.trod enc Tryd.prog w base sp held fuel 72 ((cs.drop (i * 5)).take 5) = some (Lib.tabData .u8 nmT[i], b.2) := by
        rw [h2]; exact hf
      have h3 := Lib.cells_of_tab Tryd.underlying72 Tryd.underlying5 cellsByte cellsName hf'
      have h4 : ((cs.drop (i * 5)).take 5)[r]? = cs[i * 5 + r]? := by simp [List.getElem?_drop, hr]
      rw [← h4, h3]
      have h5 : nmT[i][r]? = some (nm i r) := by
        have H : ∀ (i : Fin 22) (r : Fin 5), (nmT[i.val]'(by rw [nmT_len]; exact i.isLt))[r.val]? = some (nm i.val r.val) := by decide
        exact H ⟨i, hi⟩ ⟨r, hr⟩
      simp [h5]
    · cases h

theorem names_of_laid {W : World} {rest : List (String × DataW Unit)} (h : laidMet Tryd.prog (("loop.example/g00323/impl.opNames", nmData) :: rest) W) : Names W := by
  obtain ⟨ps, ⟨g', t', cs, fuel, p, q, hg', ht', hvar, hd, _, _⟩, _⟩ := h
  obtain rfl := Option.some.inj (gNames.symm.trans hg')
  obtain rfl := Option.some.inj (gNamesType.symm.trans ht')
  intro i r hi hr
  have h1 := cells_of_names hd i r hi hr
  rw [World.var?_cell gNames hvar]
  simpa using h1

end Go.Proofs.YtjoaiaeohlhbkaaDoor.fun
