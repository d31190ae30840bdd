/-
  What is right of functions (chapter 13): told in plain data; no program named.
-/
import Derived.Test.YtjoaiaeohlhbkaaDoorFunSh
import Derived.Test.YtjoaiaeohlhbkaaDoorInB
namespace Go.Proofs.YtjoaiaeohlhbkaaDoor.fun
open Go.RowKit Go.Proofs.YtjoaiaeohlhbkaaDoor.rose Go.Proofs.YtjoaiaeohlhbkaaDoor
set_option linter.unusedVariables false
set_option linter.unusedSimpArgs false

/-- How many function n keeps. -/
def freeAt (ks : List FunD) (n : Int) : Int := ((ks[n.toNat]?).map (·.1)).getD 0
/-- Whether a place of function i is right. -/
def opB (ks : List FunD) (i : Nat) (k : FunD) (c n m : Int) : Bool :=
  if c = 1 then inB n (-1073741824) 1073741823 && decide (m = 0)
  else if c = 2 then inB n 0 2999 && decide (m = 0)
  else if c = 3 then inB n 0 (k.1 - 1) && decide (m = 0)
  else if c = 4 then decide (0 < (i : Int)) && decide (n = 0) && decide (m = 0)
  else if c = 5 then inB n 1 ((ks.length : Int) - 1) && decide (m = freeAt ks n)
  else if c = 8 then inB n 0 59 && inB m 0 20
  else if c = 9 then inB n 0 59 && decide (m = 0)
  else if c = 10 then inB n 0 59 && inB m 0 ((k.2.length : Int) - 1)
  else if c = 11 then inB n (-1073741824) 1073741823 && inB m 0 ((k.2.length : Int) - 1)
  else if c = 18 ∨ c = 19 then inB n 0 ((k.2.length : Int) - 1) && decide (m = 0)
  else inB c 1 21 && decide (n = 0) && decide (m = 0)
/-- Whether a function may end with that code. -/
def endB (c : Int) : Bool := decide (c = 7) || decide (c = 19) || decide (c = 21)
def opsB (ks : List FunD) (i : Nat) (k : FunD) (os : List op.OpD) : Bool := os.all fun o => opB ks i k o.1 o.2.1 o.2.2
def lastB (os : List op.OpD) : Bool := endB ((os.getLast?.map (·.1)).getD 0)
/-- Whether function i is right. -/
def funB (ks : List FunD) (i : Nat) (k : FunD) : Bool := inB k.1 0 20 && inB k.2.length 1 3000 && opsB ks i k k.2 && lastB k.2
/-- Whether those from i on are right. -/
def fromB (ks : List FunD) (i : Nat) : Bool := (List.range (ks.length - i)).all fun j => ((ks[i + j]?).map (funB ks (i + j))).getD true
/-- Whether all are right. -/
def funsB (ks : List FunD) : Bool := inB ks.length 1 60 && decide (freeAt ks 0 = 0) && (List.range ks.length).all fun j => ((ks[j]?).map (funB ks j)).getD true

theorem freeAt_get {ks : List FunD} {i : Nat} (h : i < ks.length) : freeAt ks i = ks[i].1 := by simp [freeAt, h]
theorem opsB_no {ks : List FunD} {i : Nat} {k : FunD} {os : List op.OpD} {j : Nat} (h : j < os.length) (hn : opB ks i k os[j].1 os[j].2.1 os[j].2.2 = false) : opsB ks i k os = false := by
  unfold opsB
  rw [List.all_eq_false]
  exact ⟨os[j], List.getElem_mem h, by simp [hn]⟩
theorem opsB_yes {ks : List FunD} {i : Nat} {k : FunD} {os : List op.OpD} (h : ∀ j (hj : j < os.length), opB ks i k os[j].1 os[j].2.1 os[j].2.2 = true) : opsB ks i k os = true := by
  unfold opsB
  rw [List.all_eq_true]
  intro o ho
  obtain ⟨j, hj, rfl⟩ := List.getElem_of_mem ho
  exact h j hj
theorem lastB_get {os : List op.OpD} (h : 0 < os.length) : lastB os = endB (os[os.length - 1]'(by omega)).1 := by
  unfold lastB
  rw [List.getLast?_eq_getElem?, List.getElem?_eq_getElem (by omega)]
  rfl
theorem funsB_no {ks : List FunD} {i : Nat} (h : i < ks.length) (hn : funB ks i ks[i] = false) : funsB ks = false := by
  unfold funsB
  have : ((List.range ks.length).all fun j => ((ks[j]?).map (funB ks j)).getD true) = false := by
    rw [List.all_eq_false]
    exact ⟨i, List.mem_range.2 h, by simp [h, hn]⟩
  rw [this]; simp
theorem funsB_yes {ks : List FunD} (h1 : inB ks.length 1 60 = true) (h2 : freeAt ks 0 = 0) (h : ∀ j (hj : j < ks.length), funB ks j ks[j] = true) : funsB ks = true := by
  unfold funsB
  have : ((List.range ks.length).all fun j => ((ks[j]?).map (funB ks j)).getD true) = true := by
    rw [List.all_eq_true]
    intro j hj
    have hj := List.mem_range.1 hj
    simp [hj, h j hj]
  rw [this, h1, h2]; rfl
theorem funsB_len {ks : List FunD} (h1 : inB ks.length 1 60 = false) : funsB ks = false := by unfold funsB; rw [h1]; rfl
theorem funsB_free {ks : List FunD} (h2 : decide (freeAt ks 0 = 0) = false) : funsB ks = false := by unfold funsB; rw [h2]; simp

/-- What is asked of a place's first number, and of its second one. -/
def firstB (ks : List FunD) (i : Nat) (k : FunD) (c n : Int) : Bool :=
  if c = 1 ∨ c = 11 then inB n (-1073741824) 1073741823
  else if c = 2 then inB n 0 2999
  else if c = 3 then inB n 0 (k.1 - 1)
  else if c = 4 then decide (n = 0) && decide (0 < i)
  else if c = 5 then inB n 1 ((ks.length : Int) - 1)
  else if c = 8 ∨ c = 9 ∨ c = 10 then inB n 0 59
  else if c = 18 ∨ c = 19 then inB n 0 ((k.2.length : Int) - 1)
  else decide (n = 0)
def secondB (ks : List FunD) (k : FunD) (c n m : Int) : Bool :=
  if c = 5 then decide (m = freeAt ks n)
  else if c = 8 then inB m 0 20
  else if c = 10 ∨ c = 11 then inB m 0 ((k.2.length : Int) - 1)
  else decide (m = 0)
theorem opB_both (ks : List FunD) (i : Nat) (k : FunD) (c n m : Int) : opB ks i k c n m = (inB c 1 21 && firstB ks i k c n && secondB ks k c n m) := by
  by_cases h : inB c 1 21 = true
  · obtain ⟨h1, h2⟩ := inB_yes h
    rw [h]
    obtain ⟨j, rfl⟩ : ∃ j : Nat, c = j := ⟨c.toNat, by omega⟩
    have hj : j ≤ 21 := by omega
    have hj1 : 1 ≤ j := by omega
    clear h1 h2
    rcases (by omega : j = 1 ∨ j = 2 ∨ j = 3 ∨ j = 4 ∨ j = 5 ∨ j = 6 ∨ j = 7 ∨ j = 8 ∨ j = 9 ∨ j = 10 ∨ j = 11 ∨ j = 12 ∨ j = 13 ∨ j = 14 ∨ j = 15 ∨ j = 16 ∨ j = 17 ∨ j = 18 ∨ j = 19 ∨ j = 20 ∨ j = 21) with rfl | rfl | rfl | rfl | rfl | rfl | rfl | rfl | rfl | rfl | rfl | rfl | rfl | rfl | rfl | rfl | rfl | rfl | rfl | rfl | rfl
    all_goals first | (simp [opB, firstB, secondB]; done) | (simp [opB, firstB, secondB, inB]; done) | (simp [opB, firstB, secondB, Bool.and_comm]; done)
  · have h' : inB c 1 21 = false := by simpa using h
    have := inB_no h'
    rw [h']
    have e1 : ¬ c = 1 := by omega
    have e2 : ¬ c = 2 := by omega
    have e3 : ¬ c = 3 := by omega
    have e4 : ¬ c = 4 := by omega
    have e5 : ¬ c = 5 := by omega
    have e8 : ¬ c = 8 := by omega
    have e9 : ¬ c = 9 := by omega
    have e10 : ¬ c = 10 := by omega
    have e11 : ¬ c = 11 := by omega
    have e18 : ¬ c = 18 := by omega
    have e19 : ¬ c = 19 := by omega
    simp [opB, e1, e2, e3, e4, e5, e8, e9, e10, e11, e18, e19, h']

end Go.Proofs.YtjoaiaeohlhbkaaDoor.fun
