/-
  What is right of functions (chapter 13): told in plain data; no program named.
  What is right of a machine (chapter 19): told in plain data; no program named.
  Where the parts of a machine lie: its functions' lists, its calls (chapter 19).
  The model's l1In; nothing is turned.
-/
import Derived.Test.YtjibmpebebephaaGreatDoorChecked
import Derived.WalkKit
import Derived.WalkLawsBesides
import Derived.Test.YtjibmpebebephaaGreatDoorB1
import Derived.Test.YtjibmpebebephaaGreatDoorB2
import Derived.Test.YtjibmpebebephaaGreatDoorB3
import Derived.Test.YtjibmpebebephaaGreatDoorB4
import Derived.Test.YtjibmpebebephaaGreatDoorB5
import Derived.Test.YtjibmpebebephaaGreatDoorB6
import Derived.Test.YtjibmpebebephaaGreatDoorB7
import Derived.Test.YtjibmpebebephaaGreatDoorB8
import Derived.Test.YtjibmpebebephaaGreatDoorB9
import Derived.Test.YtjibmpebebephaaGreatDoorB10
import Derived.Test.YtjibmpebebephaaGreatDoorB11
namespace Go.Proofs.YtjibmpebebephaaGreatDoor.fun
open Go.RowKit Go.Proofs.YtjibmpebebephaaGreatDoor.rose Go.Proofs.YtjibmpebebephaaGreatDoor
set_option linter.unusedVariables false
set_option linter.unusedSimpArgs false

/-- How many function n keeps. -/
def freeAt (ks : List FunD) (n : Int) : Int := ((ks[n.toNat]?).map (·.1)).getD 0
/-- Whether a place of function i is right. -/
def opB (ks : List FunD) (i : Nat) (k : FunD) (c n m : Int) : Bool :=
  if c = 1 then inB n (-1073741824) 1073741823 && decide (m = 0)
  else if c = 2 then inB n 0 2999 && decide (m = 0)
  else if c = 3 then inB n 0 (k.1 - 1) && decide (m = 0)
  else if c = 4 then decide (0 < (i : Int)) && decide (n = 0) && decide (m = 0)
  else if c = 5 then inB n 1 ((ks.length : Int) - 1) && decide (m = freeAt ks n)
  else if c = 8 then inB n 0 59 && inB m 0 20
  else if c = 9 then inB n 0 59 && decide (m = 0)
  else if c = 10 then inB n 0 59 && inB m 0 ((k.2.length : Int) - 1)
  else if c = 11 then inB n (-1073741824) 1073741823 && inB m 0 ((k.2.length : Int) - 1)
  else if c = 18 ∨ c = 19 then inB n 0 ((k.2.length : Int) - 1) && decide (m = 0)
  else inB c 1 21 && decide (n = 0) && decide (m = 0)
/-- Whether a function may end with that code. -/
def endB (c : Int) : Bool := decide (c = 7) || decide (c = 19) || decide (c = 21)
def opsB (ks : List FunD) (i : Nat) (k : FunD) (os : List op.OpD) : Bool := os.all fun o => opB ks i k o.1 o.2.1 o.2.2
def lastB (os : List op.OpD) : Bool := endB ((os.getLast?.map (·.1)).getD 0)
/-- Whether function i is right. -/
def funB (ks : List FunD) (i : Nat) (k : FunD) : Bool := inB k.1 0 20 && inB k.2.length 1 3000 && opsB ks i k k.2 && lastB k.2
/-- Whether those from i on are right. -/
def fromB (ks : List FunD) (i : Nat) : Bool := (List.range (ks.length - i)).all fun j => ((ks[i + j]?).map (funB ks (i + j))).getD true
/-- Whether all are right. -/
def funsB (ks : List FunD) : Bool := inB ks.length 1 60 && decide (freeAt ks 0 = 0) && (List.range ks.length).all fun j => ((ks[j]?).map (funB ks j)).getD true

theorem freeAt_get {ks : List FunD} {i : Nat} (h : i < ks.length) : freeAt ks i = ks[i].1 := by simp [freeAt, h]
theorem opsB_no {ks : List FunD} {i : Nat} {k : FunD} {os : List op.OpD} {j : Nat} (h : j < os.length) (hn : opB ks i k os[j].1 os[j].2.1 os[j].2.2 = false) : opsB ks i k os = false := by
  unfold opsB
  rw [List.all_eq_false]
  exact ⟨os[j], List.getElem_mem h, by simp [hn]⟩
theorem opsB_yes {ks : List FunD} {i : Nat} {k : FunD} {os : List op.OpD} (h : ∀ j (hj : j < os.length), opB ks i k os[j].1 os[j].2.1 os[j].2.2 = true) : opsB ks i k os = true := by
  unfold opsB
  rw [List.all_eq_true]
  intro o ho
  obtain ⟨j, hj, rfl⟩ := List.getElem_of_mem ho
  exact h j hj
theorem lastB_get {os : List op.OpD} (h : 0 < os.length) : lastB os = endB (os[os.length - 1]'(by omega)).1 := by
  unfold lastB
  rw [List.getLast?_eq_getElem?, List.getElem?_eq_getElem (by omega)]
  rfl
theorem funsB_no {ks : List FunD} {i : Nat} (h : i < ks.length) (hn : funB ks i ks[i] = false) : funsB ks = false := by
  unfold funsB
  have : ((List.range ks.length).all fun j => ((ks[j]?).map (funB ks j)).getD true) = false := by
    rw [List.all_eq_false]
    exact ⟨i, List.mem_range.2 h, by simp [h, hn]⟩
  rw [this]; simp
theorem funsB_yes {ks : List FunD} (h1 : inB ks.length 1 60 = true) (h2 : freeAt ks 0 = 0) (h : ∀ j (hj : j < ks.length), funB ks j ks[j] = true) : funsB ks = true := by
  unfold funsB
  have : ((List.range ks.length).all fun j => ((ks[j]?).map (funB ks j)).getD true) = true := by
    rw [List.all_eq_true]
    intro j hj
    have hj := List.mem_range.1 hj
    simp [hj, h j hj]
  rw [this, h1, h2]; rfl
theorem funsB_len {ks : List FunD} (h1 : inB ks.length 1 60 = false) : funsB ks = false := by unfold funsB; rw [h1]; rfl
theorem funsB_free {ks : List FunD} (h2 : decide (freeAt ks 0 = 0) = false) : funsB ks = false := by unfold funsB; rw [h2]; simp

/-- What is asked of a place's first number, and of its second one. -/
def firstB (ks : List FunD) (i : Nat) (k : FunD) (c n : Int) : Bool :=
  if c = 1 ∨ c = 11 then inB n (-1073741824) 1073741823
  else if c = 2 then inB n 0 2999
  else if c = 3 then inB n 0 (k.1 - 1)
  else if c = 4 then decide (n = 0) && decide (0 < i)
  else if c = 5 then inB n 1 ((ks.length : Int) - 1)
  else if c = 8 ∨ c = 9 ∨ c = 10 then inB n 0 59
  else if c = 18 ∨ c = 19 then inB n 0 ((k.2.length : Int) - 1)
  else decide (n = 0)
def secondB (ks : List FunD) (k : FunD) (c n m : Int) : Bool :=
  if c = 5 then decide (m = freeAt ks n)
  else if c = 8 then inB m 0 20
  else if c = 10 ∨ c = 11 then inB m 0 ((k.2.length : Int) - 1)
  else decide (m = 0)
theorem opB_both (ks : List FunD) (i : Nat) (k : FunD) (c n m : Int) : opB ks i k c n m = (inB c 1 21 && firstB ks i k c n && secondB ks k c n m) := by
  by_cases h : inB c 1 21 = true
  · obtain ⟨h1, h2⟩ := inB_yes h
    rw [h]
    obtain ⟨j, rfl⟩ : ∃ j : Nat, c = j := ⟨c.toNat, by omega⟩
    have hj : j ≤ 21 := by omega
    have hj1 : 1 ≤ j := by omega
    clear h1 h2
    rcases (by omega : j = 1 ∨ j = 2 ∨ j = 3 ∨ j = 4 ∨ j = 5 ∨ j = 6 ∨ j = 7 ∨ j = 8 ∨ j = 9 ∨ j = 10 ∨ j = 11 ∨ j = 12 ∨ j = 13 ∨ j = 14 ∨ j = 15 ∨ j = 16 ∨ j = 17 ∨ j = 18 ∨ j = 19 ∨ j = 20 ∨ j = 21) with rfl | rfl | rfl | rfl | rfl | rfl | rfl | rfl | rfl | rfl | rfl | rfl | rfl | rfl | rfl | rfl | rfl | rfl | rfl | rfl | rfl
    all_goals first | (simp [opB, firstB, secondB]; done) | (simp [opB, firstB, secondB, inB]; done) | (simp [opB, firstB, secondB, Bool.and_comm]; done)
  · have h' : inB c 1 21 = false := by simpa using h
    have := inB_no h'
    rw [h']
    have e1 : ¬ c = 1 := by omega
    have e2 : ¬ c = 2 := by omega
    have e3 : ¬ c = 3 := by omega
    have e4 : ¬ c = 4 := by omega
    have e5 : ¬ c = 5 := by omega
    have e8 : ¬ c = 8 := by omega
    have e9 : ¬ c = 9 := by omega
    have e10 : ¬ c = 10 := by omega
    have e11 : ¬ c = 11 := by omega
    have e18 : ¬ c = 18 := by omega
    have e19 : ¬ c = 19 := by omega
    simp [opB, e1, e2, e3, e4, e5, e8, e9, e10, e11, e18, e19, h']

end Go.Proofs.YtjibmpebebephaaGreatDoor.fun

namespace Go.Proofs.YtjibmpebebephaaGreatDoor.vm
open Go Go.RowKit Go.Proofs.YtjibmpebebephaaGreatDoor.rose Go.Proofs.YtjibmpebebephaaGreatDoor Go.Proofs.YtjibmpebebephaaGreatDoor.fun Go.Proofs.YtjibmpebebephaaGreatDoor.heap
set_option linter.unusedVariables false
set_option linter.unusedSimpArgs false

/-- How many places function n has. -/
def lenAt (ks : List FunD) (n : Int) : Nat := ((ks[n.toNat]?).map (·.2.length)).getD 0
theorem lenAt_get {ks : List FunD} {n : Int} {i : Nat} (h : i < ks.length) (e : n = i) : lenAt ks n = ks[i].2.length := by subst e; simp [lenAt, h]
/-- Where the call ahead of the i-th one has its argument; 0 ahead of the first one. -/
def aheadOf (cs : List call.CallD) (i : Nat) : Int := if i = 0 then 0 else ((cs[i - 1]?).map (·.2.2)).getD 0
theorem ahead_zero (cs : List call.CallD) : aheadOf cs 0 = 0 := rfl
theorem ahead_succ {cs : List call.CallD} {i : Nat} (h : i < cs.length) : aheadOf cs (i + 1) = cs[i].2.2 := by simp [aheadOf, h]
/-- Whether a call is right. -/
def callB (ks : List FunD) (n : Nat) (a : Int) (c : call.CallD) : Bool := inB c.1 0 ((ks.length : Int) - 1) && inB c.2.1 0 ((lenAt ks c.1 : Int) - 1) && decide (a < c.2.2) && decide (c.2.2 < (n : Int))
def callsB (ks : List FunD) (n : Nat) (cs : List call.CallD) : Bool := (List.range cs.length).all fun i => ((cs[i]?).map (callB ks n (aheadOf cs i))).getD true
theorem calls_no {ks : List FunD} {n : Nat} {cs : List call.CallD} {i : Nat} (h : i < cs.length) (hn : callB ks n (aheadOf cs i) cs[i] = false) : callsB ks n cs = false := by
  unfold callsB
  rw [List.all_eq_false]
  exact ⟨i, List.mem_range.2 h, by simp [h, hn]⟩
theorem calls_yes {ks : List FunD} {n : Nat} {cs : List call.CallD} (h : ∀ i (hi : i < cs.length), callB ks n (aheadOf cs i) cs[i] = true) : callsB ks n cs = true := by
  unfold callsB
  rw [List.all_eq_true]
  intro i hi
  have hi' := List.mem_range.1 hi
  simp [hi', h i hi']
/-- Whether all are words. -/
def wordsB (l : List Int) : Bool := l.all fun n => inB n (-1073741824) 1073741823
theorem words_no {l : List Int} {i : Nat} (h : i < l.length) (hn : inB l[i] (-1073741824) 1073741823 = false) : wordsB l = false := by
  unfold wordsB
  rw [List.all_eq_false]
  exact ⟨_, List.getElem_mem h, by simp [hn]⟩
theorem words_yes {l : List Int} (h : ∀ i (hi : i < l.length), inB l[i] (-1073741824) 1073741823 = true) : wordsB l = true := by
  unfold wordsB
  rw [List.all_eq_true]
  intro x hx
  obtain ⟨i, hi, rfl⟩ := List.getElem_of_mem hx
  exact h i hi
/-- Whether a machine's calls are right, of functions that are. -/
def okCallsB (ks : List FunD) (n : Nat) (cs : List call.CallD) (code : Int) : Bool := decide (cs.length ≤ 120) && !(decide (code = 0) && decide (cs.length = 0)) && callsB ks n cs
/-- Whether a machine is right. -/
def vmB (T : VmD) : Bool :=
  funsB T.1 && decide (T.2.2.1.length ≤ 600) && okCallsB T.1 T.2.2.1.length T.2.2.2.1 T.2.2.2.2.2.1 && wordsB T.2.2.2.2.1 && inB T.2.2.2.2.2.1 0 5 && rightB T.2.1 T.2.2.1

end Go.Proofs.YtjibmpebebephaaGreatDoor.vm

namespace Go.Proofs.YtjibmpebebephaaGreatDoor.vm
open Go Go.RowKit Go.Proofs.YtjibmpebebephaaGreatDoor.rose Go.Proofs.YtjibmpebebephaaGreatDoor Go.Proofs.YtjibmpebebephaaGreatDoor.fun Go.Proofs.YtjibmpebebephaaGreatDoor.heap
set_option linter.unusedVariables false
set_option linter.unusedSimpArgs false

theorem hidv {P : Prop} (h : P) : Hid P := h
theorem drewN_bv {B : Nat} {w w' : World} (h : Below B w w') (n : Nat) : Below B w (w'.drewN n) := ⟨h.os, h.tape, h.output, h.size, h.block⟩
theorem drewN_av {w wk : World} {cs : List Value} {t : TypeId} (h : ArgK w wk cs t) (n : Nat) : ArgK w (wk.drewN n) cs t := ⟨drewN_bv h.bel n, h.blk⟩
theorem ret_bV {a b : Bool} (h : a = b) : Ending.returned (.bool a) = Ending.returned (.bool b) := by rw [h]
theorem fun_at {w : World} {S : Nat → Prop} {a : Option Addr} {n c : Nat} {ks : List FunD} (h : funSh.slice.rep w S [.slice a n c] ks) {i : Nat} (hi : i < ks.length) :
    ∃ b o a1 c1, a = some ⟨b, o, none⟩ ∧ S b ∧ w.cell? ⟨b, o + i * 2 + 1, none⟩ = some (.slice a1 ks[i].2.length c1) := by
  obtain ⟨a', cap, css, e, -, -, hrow, hk⟩ := funs_open h
  simp only [Value.slice.injEq] at e
  obtain ⟨rfl, -, rfl⟩ := e
  obtain ⟨b, o, rfl, hS, hc⟩ := hrow i hi
  have hrep := hk i hi
  obtain ⟨v0, v1, hcs, e0, e1⟩ := fun_cells hrep hc
  obtain ⟨x0, x1, a1, c1, hx, hcs2, -, -⟩ := fun_open hrep
  rw [hcs] at hcs2
  simp only [List.cons.injEq, and_true] at hcs2
  rw [hcs2.2] at e1
  refine ⟨b, o, a1, c1, rfl, hS, ?_⟩
  rw [e1, hx]
theorem call_at {w : World} {S : Nat → Prop} {a : Option Addr} {n c : Nat} {ks : List call.CallD} (h : call.callSh.slice.rep w S [.slice a n c] ks) {i : Nat} (hi : i < ks.length) :
    ∃ b o, a = some ⟨b, o, none⟩ ∧ S b ∧ w.cell? ⟨b, o + i * 3, none⟩ = some (.int .i64 ks[i].1) ∧ w.cell? ⟨b, o + i * 3 + 1, none⟩ = some (.int .i64 ks[i].2.1) ∧ w.cell? ⟨b, o + i * 3 + 2, none⟩ = some (.int .i64 ks[i].2.2) ∧
      (-9223372036854775808 ≤ ks[i].1 ∧ ks[i].1 ≤ 9223372036854775807) ∧ (-9223372036854775808 ≤ ks[i].2.1 ∧ ks[i].2.1 ≤ 9223372036854775807) ∧ (-9223372036854775808 ≤ ks[i].2.2 ∧ ks[i].2.2 ≤ 9223372036854775807) := by
  obtain ⟨a', cap, css, e, -, -, hrow, hk⟩ := call.calls_open h
  simp only [Value.slice.injEq] at e
  obtain ⟨rfl, -, rfl⟩ := e
  obtain ⟨b, o, rfl, hS, hc⟩ := hrow i hi
  have hrep := hk i hi
  obtain ⟨v0, v1, v2, hcs, e0, e1, e2⟩ := call.call_cells hrep hc
  obtain ⟨x0, x1, x2, hx, hcs2, f0, f1, f2⟩ := call.call_open hrep
  rw [hcs] at hcs2
  simp only [List.cons.injEq, and_true] at hcs2
  rw [hcs2.1] at e0
  rw [hcs2.2.1] at e1
  rw [hcs2.2.2] at e2
  rw [hx]
  exact ⟨b, o, rfl, hS, e0, e1, e2, f0, f1, f2⟩
theorem fun_cap {w : World} {S : Nat → Prop} {a : Option Addr} {n c : Nat} {ks : List FunD} (h : funSh.slice.rep w S [.slice a n c] ks) : (ks.length : Int) ≤ 9223372036854775807 := by
  obtain ⟨a', cap, css, e, h1, h2, -⟩ := funs_open h
  unfold maxLen at h2; omega
theorem call_cap {w : World} {S : Nat → Prop} {a : Option Addr} {n c : Nat} {ks : List call.CallD} (h : call.callSh.slice.rep w S [.slice a n c] ks) : (ks.length : Int) ≤ 9223372036854775807 := by
  obtain ⟨a', cap, css, e, h1, h2, -⟩ := call.calls_open h
  unfold maxLen at h2; omega
theorem len_funs {ks : List FunD} (h : funsB ks = true) : 1 ≤ ks.length ∧ ks.length ≤ 60 := by
  unfold funsB at h
  simp only [Bool.and_eq_true] at h
  have := inB_yes h.1.1
  omega
theorem len_list {ks : List FunD} (h : funsB ks = true) {i : Nat} (hi : i < ks.length) : 1 ≤ ks[i].2.length ∧ ks[i].2.length ≤ 3000 := by
  unfold funsB at h
  simp only [Bool.and_eq_true] at h
  have h2 := List.all_eq_true.1 h.2 i (List.mem_range.2 hi)
  rw [List.getElem?_eq_getElem hi] at h2
  simp only [Option.map_some, Option.getD_some] at h2
  unfold funB at h2
  simp only [Bool.and_eq_true] at h2
  have := inB_yes h2.1.1.2
  omega

end Go.Proofs.YtjibmpebebephaaGreatDoor.vm

namespace Go.Proofs.YtjibmpebebephaaGreatDoor.fun
open Go.RowKit Go.Proofs.YtjibmpebebephaaGreatDoor
set_option linter.unusedVariables false
set_option linter.unusedSimpArgs false

theorem ret_boolF {a b : Bool} (h : a = b) : Ending.returned (.bool a) = Ending.returned (.bool b) := by rw [h]

set_option maxHeartbeats 1000000 in
theorem in_is {n lo hi : Int} {b : Bool} {w : World} (h : inB n lo hi = b) :
    Calls Tryz.prog 23 #[.int .i64 n, .int .i64 lo, .int .i64 hi] w fun e w' => e = .returned (.bool b) ∧ w' = w := by
  by_cases h1 : lo ≤ n
  · go_enter Tryz.func23, Tryz.ntmps23
    go_wp2
    go_ret
    exact ⟨ret_boolF (by rw [← h]; simp [inB, h1]), rfl⟩
  · have h2 : decide (lo ≤ n) = false := decide_eq_false h1
    go_enter Tryz.func23, Tryz.ntmps23
    go_wp2
    go_ret
    exact ⟨ret_boolF (by rw [← h]; simp only [inB, h2, Bool.false_and]), rfl⟩

end Go.Proofs.YtjibmpebebephaaGreatDoor.fun
