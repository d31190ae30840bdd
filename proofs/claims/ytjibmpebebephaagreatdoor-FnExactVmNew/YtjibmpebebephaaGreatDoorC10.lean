/-
  What is right of functions (chapter 13): told in plain data; no program named.
  What is right of a machine (chapter 19): told in plain data; no program named.
  How many values a place takes, and how many it puts (chapter 15): told in plain data; no program named.
  How many values there are ahead of each place (chapter 15): told in plain data; no program named.
  The state of the model's finder of depths: what it does, and what stays known; no program named.
  The model's Effect, at every place.
-/
import Derived.Test.YtjibmpebebephaaGreatDoorChecked
import Derived.WalkKit
import Derived.WalkLawsBesides
import Derived.WalkSmall
import Derived.Test.YtjibmpebebephaaGreatDoorC1
import Derived.Test.YtjibmpebebephaaGreatDoorC2
import Derived.Test.YtjibmpebebephaaGreatDoorC3
import Derived.Test.YtjibmpebebephaaGreatDoorC4
import Derived.Test.YtjibmpebebephaaGreatDoorC5
import Derived.Test.YtjibmpebebephaaGreatDoorC6
import Derived.Test.YtjibmpebebephaaGreatDoorC7
import Derived.Test.YtjibmpebebephaaGreatDoorC8
import Derived.Test.YtjibmpebebephaaGreatDoorC9
namespace Go.Proofs.YtjibmpebebephaaGreatDoor.fun
open Go.RowKit Go.Proofs.YtjibmpebebephaaGreatDoor.rose Go.Proofs.YtjibmpebebephaaGreatDoor
set_option linter.unusedVariables false
set_option linter.unusedSimpArgs false

/-- How many function n keeps. -/
def freeAt (ks : List FunD) (n : Int) : Int := ((ks[n.toNat]?).map (·.1)).getD 0
/-- Whether a place of function i is right. -/
def opB (ks : List FunD) (i : Nat) (k : FunD) (c n m : Int) : Bool :=
  if c = 1 then inB n (-1073741824) 1073741823 && decide (m = 0)
  else if c = 2 then inB n 0 2999 && decide (m = 0)
  else if c = 3 then inB n 0 (k.1 - 1) && decide (m = 0)
  else if c = 4 then decide (0 < (i : Int)) && decide (n = 0) && decide (m = 0)
  else if c = 5 then inB n 1 ((ks.length : Int) - 1) && decide (m = freeAt ks n)
  else if c = 8 then inB n 0 59 && inB m 0 20
  else if c = 9 then inB n 0 59 && decide (m = 0)
  else if c = 10 then inB n 0 59 && inB m 0 ((k.2.length : Int) - 1)
  else if c = 11 then inB n (-1073741824) 1073741823 && inB m 0 ((k.2.length : Int) - 1)
  else if c = 18 ∨ c = 19 then inB n 0 ((k.2.length : Int) - 1) && decide (m = 0)
  else inB c 1 21 && decide (n = 0) && decide (m = 0)
/-- Whether a function may end with that code. -/
def endB (c : Int) : Bool := decide (c = 7) || decide (c = 19) || decide (c = 21)
def opsB (ks : List FunD) (i : Nat) (k : FunD) (os : List op.OpD) : Bool := os.all fun o => opB ks i k o.1 o.2.1 o.2.2
def lastB (os : List op.OpD) : Bool := endB ((os.getLast?.map (·.1)).getD 0)
/-- Whether function i is right. -/
def funB (ks : List FunD) (i : Nat) (k : FunD) : Bool := inB k.1 0 20 && inB k.2.length 1 3000 && opsB ks i k k.2 && lastB k.2
/-- Whether those from i on are right. -/
def fromB (ks : List FunD) (i : Nat) : Bool := (List.range (ks.length - i)).all fun j => ((ks[i + j]?).map (funB ks (i + j))).getD true
/-- Whether all are right. -/
def funsB (ks : List FunD) : Bool := inB ks.length 1 60 && decide (freeAt ks 0 = 0) && (List.range ks.length).all fun j => ((ks[j]?).map (funB ks j)).getD true

theorem freeAt_get {ks : List FunD} {i : Nat} (h : i < ks.length) : freeAt ks i = ks[i].1 := by simp [freeAt, h]
theorem opsB_no {ks : List FunD} {i : Nat} {k : FunD} {os : List op.OpD} {j : Nat} (h : j < os.length) (hn : opB ks i k os[j].1 os[j].2.1 os[j].2.2 = false) : opsB ks i k os = false := by
  unfold opsB
  rw [List.all_eq_false]
  exact ⟨os[j], List.getElem_mem h, by simp [hn]⟩
theorem opsB_yes {ks : List FunD} {i : Nat} {k : FunD} {os : List op.OpD} (h : ∀ j (hj : j < os.length), opB ks i k os[j].1 os[j].2.1 os[j].2.2 = true) : opsB ks i k os = true := by
  unfold opsB
  rw [List.all_eq_true]
  intro o ho
  obtain ⟨j, hj, rfl⟩ := List.getElem_of_mem ho
  exact h j hj
theorem lastB_get {os : List op.OpD} (h : 0 < os.length) : lastB os = endB (os[os.length - 1]'(by omega)).1 := by
  unfold lastB
  rw [List.getLast?_eq_getElem?, List.getElem?_eq_getElem (by omega)]
  rfl
theorem funsB_no {ks : List FunD} {i : Nat} (h : i < ks.length) (hn : funB ks i ks[i] = false) : funsB ks = false := by
  unfold funsB
  have : ((List.range ks.length).all fun j => ((ks[j]?).map (funB ks j)).getD true) = false := by
    rw [List.all_eq_false]
    exact ⟨i, List.mem_range.2 h, by simp [h, hn]⟩
  rw [this]; simp
theorem funsB_yes {ks : List FunD} (h1 : inB ks.length 1 60 = true) (h2 : freeAt ks 0 = 0) (h : ∀ j (hj : j < ks.length), funB ks j ks[j] = true) : funsB ks = true := by
  unfold funsB
  have : ((List.range ks.length).all fun j => ((ks[j]?).map (funB ks j)).getD true) = true := by
    rw [List.all_eq_true]
    intro j hj
    have hj := List.mem_range.1 hj
    simp [hj, h j hj]
  rw [this, h1, h2]; rfl
theorem funsB_len {ks : List FunD} (h1 : inB ks.length 1 60 = false) : funsB ks = false := by unfold funsB; rw [h1]; rfl
theorem funsB_free {ks : List FunD} (h2 : decide (freeAt ks 0 = 0) = false) : funsB ks = false := by unfold funsB; rw [h2]; simp

/-- What is asked of a place's first number, and of its second one. -/
def firstB (ks : List FunD) (i : Nat) (k : FunD) (c n : Int) : Bool :=
  if c = 1 ∨ c = 11 then inB n (-1073741824) 1073741823
  else if c = 2 then inB n 0 2999
  else if c = 3 then inB n 0 (k.1 - 1)
  else if c = 4 then decide (n = 0) && decide (0 < i)
  else if c = 5 then inB n 1 ((ks.length : Int) - 1)
  else if c = 8 ∨ c = 9 ∨ c = 10 then inB n 0 59
  else if c = 18 ∨ c = 19 then inB n 0 ((k.2.length : Int) - 1)
  else decide (n = 0)
def secondB (ks : List FunD) (k : FunD) (c n m : Int) : Bool :=
  if c = 5 then decide (m = freeAt ks n)
  else if c = 8 then inB m 0 20
  else if c = 10 ∨ c = 11 then inB m 0 ((k.2.length : Int) - 1)
  else decide (m = 0)
theorem opB_both (ks : List FunD) (i : Nat) (k : FunD) (c n m : Int) : opB ks i k c n m = (inB c 1 21 && firstB ks i k c n && secondB ks k c n m) := by
  by_cases h : inB c 1 21 = true
  · obtain ⟨h1, h2⟩ := inB_yes h
    rw [h]
    obtain ⟨j, rfl⟩ : ∃ j : Nat, c = j := ⟨c.toNat, by omega⟩
    have hj : j ≤ 21 := by omega
    have hj1 : 1 ≤ j := by omega
    clear h1 h2
    rcases (by omega : j = 1 ∨ j = 2 ∨ j = 3 ∨ j = 4 ∨ j = 5 ∨ j = 6 ∨ j = 7 ∨ j = 8 ∨ j = 9 ∨ j = 10 ∨ j = 11 ∨ j = 12 ∨ j = 13 ∨ j = 14 ∨ j = 15 ∨ j = 16 ∨ j = 17 ∨ j = 18 ∨ j = 19 ∨ j = 20 ∨ j = 21) with rfl | rfl | rfl | rfl | rfl | rfl | rfl | rfl | rfl | rfl | rfl | rfl | rfl | rfl | rfl | rfl | rfl | rfl | rfl | rfl | rfl
    all_goals first | (simp [opB, firstB, secondB]; done) | (simp [opB, firstB, secondB, inB]; done) | (simp [opB, firstB, secondB, Bool.and_comm]; done)
  · have h' : inB c 1 21 = false := by simpa using h
    have := inB_no h'
    rw [h']
    have e1 : ¬ c = 1 := by omega
    have e2 : ¬ c = 2 := by omega
    have e3 : ¬ c = 3 := by omega
    have e4 : ¬ c = 4 := by omega
    have e5 : ¬ c = 5 := by omega
    have e8 : ¬ c = 8 := by omega
    have e9 : ¬ c = 9 := by omega
    have e10 : ¬ c = 10 := by omega
    have e11 : ¬ c = 11 := by omega
    have e18 : ¬ c = 18 := by omega
    have e19 : ¬ c = 19 := by omega
    simp [opB, e1, e2, e3, e4, e5, e8, e9, e10, e11, e18, e19, h']

end Go.Proofs.YtjibmpebebephaaGreatDoor.fun

namespace Go.Proofs.YtjibmpebebephaaGreatDoor.vm
open Go Go.RowKit Go.Proofs.YtjibmpebebephaaGreatDoor.rose Go.Proofs.YtjibmpebebephaaGreatDoor Go.Proofs.YtjibmpebebephaaGreatDoor.fun Go.Proofs.YtjibmpebebephaaGreatDoor.heap
set_option linter.unusedVariables false
set_option linter.unusedSimpArgs false

/-- How many places function n has. -/
def lenAt (ks : List FunD) (n : Int) : Nat := ((ks[n.toNat]?).map (·.2.length)).getD 0
theorem lenAt_get {ks : List FunD} {n : Int} {i : Nat} (h : i < ks.length) (e : n = i) : lenAt ks n = ks[i].2.length := by subst e; simp [lenAt, h]
/-- Where the call ahead of the i-th one has its argument; 0 ahead of the first one. -/
def aheadOf (cs : List call.CallD) (i : Nat) : Int := if i = 0 then 0 else ((cs[i - 1]?).map (·.2.2)).getD 0
theorem ahead_zero (cs : List call.CallD) : aheadOf cs 0 = 0 := rfl
theorem ahead_succ {cs : List call.CallD} {i : Nat} (h : i < cs.length) : aheadOf cs (i + 1) = cs[i].2.2 := by simp [aheadOf, h]
/-- Whether a call is right. -/
def callB (ks : List FunD) (n : Nat) (a : Int) (c : call.CallD) : Bool := inB c.1 0 ((ks.length : Int) - 1) && inB c.2.1 0 ((lenAt ks c.1 : Int) - 1) && decide (a < c.2.2) && decide (c.2.2 < (n : Int))
def callsB (ks : List FunD) (n : Nat) (cs : List call.CallD) : Bool := (List.range cs.length).all fun i => ((cs[i]?).map (callB ks n (aheadOf cs i))).getD true
theorem calls_no {ks : List FunD} {n : Nat} {cs : List call.CallD} {i : Nat} (h : i < cs.length) (hn : callB ks n (aheadOf cs i) cs[i] = false) : callsB ks n cs = false := by
  unfold callsB
  rw [List.all_eq_false]
  exact ⟨i, List.mem_range.2 h, by simp [h, hn]⟩
theorem calls_yes {ks : List FunD} {n : Nat} {cs : List call.CallD} (h : ∀ i (hi : i < cs.length), callB ks n (aheadOf cs i) cs[i] = true) : callsB ks n cs = true := by
  unfold callsB
  rw [List.all_eq_true]
  intro i hi
  have hi' := List.mem_range.1 hi
  simp [hi', h i hi']
/-- Whether all are words. -/
def wordsB (l : List Int) : Bool := l.all fun n => inB n (-1073741824) 1073741823
theorem words_no {l : List Int} {i : Nat} (h : i < l.length) (hn : inB l[i] (-1073741824) 1073741823 = false) : wordsB l = false := by
  unfold wordsB
  rw [List.all_eq_false]
  exact ⟨_, List.getElem_mem h, by simp [hn]⟩
theorem words_yes {l : List Int} (h : ∀ i (hi : i < l.length), inB l[i] (-1073741824) 1073741823 = true) : wordsB l = true := by
  unfold wordsB
  rw [List.all_eq_true]
  intro x hx
  obtain ⟨i, hi, rfl⟩ := List.getElem_of_mem hx
  exact h i hi
/-- Whether a machine's calls are right, of functions that are. -/
def okCallsB (ks : List FunD) (n : Nat) (cs : List call.CallD) (code : Int) : Bool := decide (cs.length ≤ 120) && !(decide (code = 0) && decide (cs.length = 0)) && callsB ks n cs
/-- Whether a machine is right. -/
def vmB (T : VmD) : Bool :=
  funsB T.1 && decide (T.2.2.1.length ≤ 600) && okCallsB T.1 T.2.2.1.length T.2.2.2.1 T.2.2.2.2.2.1 && wordsB T.2.2.2.2.1 && inB T.2.2.2.2.2.1 0 5 && rightB T.2.1 T.2.2.1

end Go.Proofs.YtjibmpebebephaaGreatDoor.vm

namespace Go.Proofs.YtjibmpebebephaaGreatDoor.fun
open Go
set_option linter.unusedVariables false

/-- How many values a place takes. -/
def takesB (c m : Int) : Int :=
  if c = 5 ∨ c = 8 then m
  else if c = 7 ∨ c = 9 ∨ c = 10 ∨ c = 11 ∨ c = 17 ∨ c = 18 then 1
  else if c = 6 ∨ (12 ≤ c ∧ c ≤ 16) ∨ c = 20 then 2
  else 0
/-- How many values a place puts. -/
def putsB (c : Int) : Int := if (1 ≤ c ∧ c ≤ 6) ∨ c = 8 ∨ c = 9 ∨ (12 ≤ c ∧ c ≤ 17) ∨ c = 20 then 1 else 0
theorem puts_pos (c : Int) : 0 ≤ putsB c ∧ putsB c ≤ 1 := by unfold putsB; split <;> omega

end Go.Proofs.YtjibmpebebephaaGreatDoor.fun

namespace Go.Proofs.YtjibmpebebephaaGreatDoor.fun
open Go.RowKit Go.Proofs.YtjibmpebebephaaGreatDoor.rose Go.Proofs.YtjibmpebebephaaGreatDoor
set_option linter.unusedVariables false
set_option linter.unusedSimpArgs false

/-- Whether a place has what it asks for, when there are so many. -/
def fineB (o : op.OpD) (d : Int) : Bool := decide (takesB o.1 o.2.2 < d) && !(decide (o.1 = 2) && decide (d ≤ o.2.1)) && !(decide (o.1 = 7) && !decide (d = 2))
/-- How many there are behind it. -/
def nextD (o : op.OpD) (d : Int) : Int := d - takesB o.1 o.2.2 + putsB o.1
/-- Where it leads. -/
def leads (a : Int) (o : op.OpD) : List Int :=
  if o.1 = 7 ∨ o.1 = 21 then []
  else if o.1 = 19 then [o.2.1]
  else if o.1 = 18 then [o.2.1, a + 1]
  else if o.1 = 10 ∨ o.1 = 11 then [o.2.2, a + 1]
  else [a + 1]

/-- That a place is met with so many values. -/
inductive Met (os : List op.OpD) : Int → Int → Prop where
  | start : Met os 0 1
  | go {a d : Int} {o : op.OpD} {s : Int} : Met os a d → 0 ≤ a → os[a.toNat]? = some o → fineB o d = true → s ∈ leads a o → Met os s (nextD o d)

theorem fine_takes {o : op.OpD} {d : Int} (h : fineB o d = true) : takesB o.1 o.2.2 < d := by
  unfold fineB at h
  simp only [Bool.and_eq_true, decide_eq_true_eq] at h
  exact h.1.1
theorem next_pos {o : op.OpD} {d : Int} (h : fineB o d = true) : 1 ≤ nextD o d := by
  have h1 := fine_takes h
  have h2 := (puts_pos o.1).1
  unfold nextD
  omega
theorem Met.pos {os : List op.OpD} {a d : Int} (h : Met os a d) : 1 ≤ d := by
  cases h with
  | start => decide
  | go _ _ _ hf _ => exact next_pos hf

/-- Whether all goes well. -/
def Good (os : List op.OpD) : Prop := ∀ a d, Met os a d → d ≤ 60 ∧ (∃ (b : Nat) (h : b < os.length), a = b ∧ fineB os[b] d = true) ∧ ∀ d', Met os a d' → d' = d

open Classical in
/-- What is found at a place. -/
noncomputable def dAt (os : List op.OpD) (a : Nat) : Int := if h : ∃ d, Met os (a : Int) d then h.choose else -1
/-- What is found at each place. -/
noncomputable def dOf (os : List op.OpD) : List Int := (List.range os.length).map (dAt os)
open Classical in
/-- What is found of function i. -/
noncomputable def depthsF (ks : List FunD) (i : Int) : List Int × Bool :=
  if h : funsB ks = true ∧ 0 ≤ i ∧ i.toNat < ks.length then (if Good (ks[i.toNat]'h.2.2).2 then (dOf (ks[i.toNat]'h.2.2).2, true) else ([], false)) else ([], false)

theorem depthsF_off {ks : List FunD} {i : Int} (h : funsB ks = false ∨ i < 0 ∨ (ks.length : Int) ≤ i) : depthsF ks i = ([], false) := by
  unfold depthsF
  rw [dif_neg]
  rintro ⟨h1, h2, h3⟩
  rcases h with h | h | h
  · rw [h1] at h; cases h
  · omega
  · omega
theorem depthsF_bad {ks : List FunD} {i : Nat} (hi : i < ks.length) (h : ¬ Good ks[i].2) : depthsF ks i = ([], false) := by
  unfold depthsF
  split
  · simp only [Int.toNat_natCast]; rw [if_neg h]
  · rfl
theorem depthsF_good {ks : List FunD} {i : Nat} (hi : i < ks.length) (hf : funsB ks = true) (h : Good ks[i].2) : depthsF ks i = (dOf ks[i].2, true) := by
  unfold depthsF
  rw [dif_pos ⟨hf, by omega, by simpa using hi⟩]
  simp only [Int.toNat_natCast]
  rw [if_pos h]

/-- What is known on the way: D is what was found so far, P the places that are still to be gone on from. -/
structure DInv (os : List op.OpD) (D : List Int) (P : Nat → Prop) : Prop where
  len : D.length = os.length
  low : ∀ a (h : a < D.length), D[a] < 0 → D[a] = -1
  met : ∀ a (h : a < D.length), 0 ≤ D[a] → Met os (a : Int) D[a] ∧ D[a] ≤ 60
  closed : ∀ a (h : a < D.length) (h' : a < os.length), 0 ≤ D[a] → ¬ P a → fineB os[a] D[a] = true ∧ ∀ s ∈ leads a os[a], ∃ b : Nat, s = b ∧ D[b]? = some (nextD os[a] D[a])
  first : D[0]? = some 1

section
variable {os : List op.OpD} {D : List Int} {P : Nat → Prop}

theorem DInv.start (h0 : 0 < os.length) : DInv os ((List.replicate os.length (-1)).set 0 1) (fun a => a = 0) := by
  refine ⟨by simp, fun a h hl => ?_, fun a h hl => ?_, fun a h h' hl hP => ?_, by simp [h0]⟩
  · rw [List.getElem_set] at hl ⊢
    split at hl
    · omega
    · rename_i hne; rw [if_neg hne]; simp
  · by_cases ha : a = 0
    · subst ha
      simp only [List.getElem_set_self]
      exact ⟨Met.start, by decide⟩
    · rw [List.getElem_set_ne (by omega)] at hl
      simp at hl
  · rw [List.getElem_set_ne (by omega)] at hl
    simp at hl

/-- A place that was not met yet. -/
theorem DInv.visit (h : DInv os D P) {b : Nat} {d : Int} (hm : Met os (b : Int) d) (hb : b < D.length) (hl : D[b] < 0) (hd : d ≤ 60) : DInv os (D.set b d) (fun a => P a ∨ a = b) := by
  have hpos := hm.pos
  refine ⟨by simpa using h.len, fun a ha hx => ?_, fun a ha hx => ?_, fun a ha h' hx hP => ?_, ?_⟩
  · rw [List.getElem_set] at hx ⊢
    split at hx
    · omega
    · rename_i hne; rw [if_neg hne]; exact h.low a (by simpa using ha) hx
  · rw [List.getElem_set] at hx ⊢
    split at hx
    · rename_i e; subst e; simp only [if_true]; exact ⟨hm, hd⟩
    · rename_i hne; rw [if_neg hne]; exact h.met a (by simpa using ha) hx
  · have hne : a ≠ b := fun e => hP (.inr e)
    have hP' : ¬ P a := fun e => hP (.inl e)
    rw [List.getElem_set_ne (Ne.symm hne)] at hx ⊢
    obtain ⟨f1, f2⟩ := h.closed a (by simpa using ha) h' hx hP'
    refine ⟨f1, fun s hs => ?_⟩
    obtain ⟨q, rfl, hq⟩ := f2 s hs
    refine ⟨q, rfl, ?_⟩
    by_cases e : q = b
    · subst e
      rw [List.getElem?_eq_getElem hb] at hq
      have := next_pos f1
      simp only [Option.some.injEq] at hq
      omega
    · rw [List.getElem?_set_ne (Ne.symm e)]; exact hq
  · have hf := h.first
    by_cases e : b = 0
    · subst e
      rw [List.getElem?_eq_getElem hb] at hf
      simp only [Option.some.injEq] at hf
      omega
    · rw [List.getElem?_set_ne e]; exact hf

/-- A place from which all was gone on. -/
theorem DInv.done (h : DInv os D P) {a : Nat} (ha : a < D.length) (h' : a < os.length) (hf : fineB os[a] D[a] = true) (hs : ∀ s ∈ leads a os[a], ∃ b : Nat, s = b ∧ D[b]? = some (nextD os[a] D[a])) {P' : Nat → Prop} (hP : ∀ x, P x → x ≠ a → P' x) : DInv os D P' := by
  refine ⟨h.len, h.low, h.met, fun x hx hx' hl hn => ?_, h.first⟩
  by_cases e : x = a
  · subst e; exact ⟨hf, hs⟩
  · exact h.closed x hx hx' hl fun q => hn (hP x q e)
theorem DInv.pend (h : DInv os D P) {P' : Nat → Prop} (hP : ∀ x, P x → P' x) : DInv os D P' := ⟨h.len, h.low, h.met, fun x hx hx' hl hn => h.closed x hx hx' hl fun q => hn (hP x q), h.first⟩

/-- What is met was found, once nothing is left. -/
theorem DInv.all (h : DInv os D P) (hP : ∀ a, ¬ P a) {a d : Int} (hm : Met os a d) : ∃ b : Nat, a = b ∧ D[b]? = some d := by
  induction hm with
  | start => exact ⟨0, rfl, h.first⟩
  | @go a d o s hm ha ho hf hs ih =>
    obtain ⟨b, rfl, hb⟩ := ih
    have hbl : b < D.length := by
      rcases Nat.lt_or_ge b D.length with q | q
      · exact q
      · rw [List.getElem?_eq_none q] at hb; cases hb
    have hbo : b < os.length := by have := h.len; omega
    simp only [Int.toNat_natCast] at ho
    rw [List.getElem?_eq_getElem hbo] at ho
    rw [List.getElem?_eq_getElem hbl] at hb
    simp only [Option.some.injEq] at ho hb
    subst ho hb
    exact (h.closed b hbl hbo (by have := hm.pos; omega) (hP b)).2 s hs
theorem DInv.good (h : DInv os D P) (hP : ∀ a, ¬ P a) : Good os := by
  intro a d hm
  obtain ⟨b, rfl, hb⟩ := h.all hP hm
  have hbl : b < D.length := by
    rcases Nat.lt_or_ge b D.length with q | q
    · exact q
    · rw [List.getElem?_eq_none q] at hb; cases hb
  have hbo : b < os.length := by have := h.len; omega
  have hb' := hb
  rw [List.getElem?_eq_getElem hbl] at hb'
  simp only [Option.some.injEq] at hb'
  have hp := hm.pos
  refine ⟨?_, ⟨b, hbo, rfl, ?_⟩, fun d' hm' => ?_⟩
  · rw [← hb']; exact (h.met b hbl (by omega)).2
  · rw [← hb']; exact (h.closed b hbl hbo (by omega) (hP b)).1
  · obtain ⟨b2, e, hb2⟩ := h.all hP hm'
    have : b2 = b := by omega
    subst this
    rw [hb] at hb2
    simpa using hb2.symm
theorem DInv.list (h : DInv os D P) (hP : ∀ a, ¬ P a) : D = dOf os := by
  have hg := h.good hP
  refine List.ext_getElem (by simp [dOf, h.len]) fun a h1 h2 => ?_
  have ha : a < os.length := by rw [← h.len]; exact h1
  simp only [dOf, List.getElem_map, List.getElem_range]
  unfold dAt
  split
  · rename_i hex
    have hc := hex.choose_spec
    obtain ⟨b, e, hb⟩ := h.all hP hc
    have : b = a := by omega
    subst this
    rw [List.getElem?_eq_getElem h1] at hb
    simpa using hb
  · rename_i hex
    rcases Int.lt_or_le D[a] 0 with q | q
    · exact h.low a h1 q
    · exact absurd ⟨_, (h.met a h1 q).1⟩ hex

/-- What goes wrong. -/
theorem bad_place {a d : Int} (hm : Met os a d) (h : (os.length : Int) ≤ a ∨ 60 < d) : ¬ Good os := fun hg => by
  obtain ⟨h1, ⟨b, hb, rfl, -⟩, -⟩ := hg a d hm
  omega
theorem bad_two {a d d' : Int} (hm : Met os a d) (hm' : Met os a d') (h : d ≠ d') : ¬ Good os := fun hg => h ((hg a d' hm').2.2 d hm)
theorem bad_fine {a : Nat} (ha : a < os.length) {d : Int} (hm : Met os (a : Int) d) (h : fineB os[a] d = false) : ¬ Good os := fun hg => by
  obtain ⟨-, ⟨b, hb, e, hf⟩, -⟩ := hg a d hm
  have : b = a := by omega
  subst this
  rw [h] at hf; cases hf
theorem met_on {a : Nat} (ha : a < os.length) {d : Int} (hm : Met os (a : Int) d) (hf : fineB os[a] d = true) {s : Int} (hs : s ∈ leads a os[a]) : Met os s (nextD os[a] d) :=
  Met.go hm (by omega) (by simp [ha]) hf hs
end

end Go.Proofs.YtjibmpebebephaaGreatDoor.fun

namespace Go.Proofs.YtjibmpebebephaaGreatDoor.fun
open Go.RowKit Go.Proofs.YtjibmpebebephaaGreatDoor.rose Go.Proofs.YtjibmpebebephaaGreatDoor
set_option linter.unusedVariables false
set_option linter.unusedSimpArgs false

/-- It comes to a place with so many values. -/
def goF (D T : List Int) (ok : Bool) (b : Nat) (d : Int) : List Int × List Int × Bool :=
  if D.length ≤ b ∨ 60 < d then (D, T, false)
  else if D.getD b 0 < 0 then (D.set b d, T ++ [(b : Int)], ok)
  else if D.getD b 0 = d then (D, T, ok) else (D, T, false)
/-- It comes to several. -/
def goL (D T : List Int) (ok : Bool) (ss : List Int) (d : Int) : List Int × List Int × Bool :=
  match ss with
  | [] => (D, T, ok)
  | s :: ss => goL (goF D T ok s.toNat d).1 (goF D T ok s.toNat d).2.1 (goF D T ok s.toNat d).2.2 ss d
/-- It goes on from a place. -/
def oneF (D T : List Int) (ok : Bool) (a : Nat) (o : op.OpD) : List Int × List Int × Bool :=
  if fineB o (D.getD a 0) = true then goL D T ok (leads a o) (nextD o (D.getD a 0)) else (D, T, false)

def unmet (D : List Int) : Nat := D.countP fun y => decide (y < 0)
def dmu (D T : List Int) : Nat := 2 * unmet D + T.length

theorem unmet_set {D : List Int} {b : Nat} {d : Int} (hb : b < D.length) (hl : D[b] < 0) (hd : 0 ≤ d) : unmet (D.set b d) + 1 = unmet D := by
  unfold unmet
  have hp : 0 < D.countP fun y => decide (y < 0) := List.countP_pos_iff.2 ⟨D[b], List.getElem_mem hb, by simpa using hl⟩
  rw [List.countP_set hb]
  simp [hl, hd, show ¬ d < 0 by omega]
  omega

/-- What stays known. -/
structure GInv (os : List op.OpD) (D T : List Int) (ok : Bool) (x : Nat → Prop) : Prop where
  len : D.length = os.length
  todo : ∀ t ∈ T, ∃ b : Nat, t = b ∧ b < D.length ∧ 0 ≤ D.getD b 0
  rng : ∀ y ∈ D, -1 ≤ y ∧ y ≤ 60
  met : ∀ b : Nat, b < D.length → 0 ≤ D.getD b 0 → Met os (b : Int) (D.getD b 0)
  inv : ok = true → DInv os D (fun a => (a : Int) ∈ T ∨ x a)
  bad : ok = false → ¬ Good os

theorem getD_set_ne {D : List Int} {a b : Nat} {d : Int} (h : b ≠ a) : (D.set b d).getD a 0 = D.getD a 0 := by
  rw [List.getD_eq_getElem?_getD, List.getD_eq_getElem?_getD, List.getElem?_set_ne h]
theorem getD_set_eq {D : List Int} {b : Nat} {d : Int} (h : b < D.length) : (D.set b d).getD b 0 = d := by
  rw [List.getD_eq_getElem?_getD, List.getElem?_set_self h]; rfl
theorem getD_get {D : List Int} {b : Nat} (h : b < D.length) : D.getD b 0 = D[b] := by
  rw [List.getD_eq_getElem?_getD, List.getElem?_eq_getElem h]; rfl
theorem getD_some {D : List Int} {b : Nat} (h : b < D.length) : D[b]? = some (D.getD b 0) := by
  rw [getD_get h, List.getElem?_eq_getElem h]

/-- What a step leaves: D2, T2, ok2 of D, T, ok. -/
structure Stp (os : List op.OpD) (D T : List Int) (ok : Bool) (D2 T2 : List Int) (ok2 : Bool) (x : Nat → Prop) (ss : List Int) (d : Int) : Prop where
  inv : GInv os D2 T2 ok2 x
  mu : dmu D2 T2 ≤ dmu D T
  was : ok2 = true → ok = true
  found : ok2 = true → ∀ s ∈ ss, ∃ b : Nat, s = b ∧ D2[b]? = some d
  keep : ∀ (a : Nat) (e : Int), D[a]? = some e → 0 ≤ e → D2[a]? = some e

theorem GInv.go {os : List op.OpD} {D T : List Int} {ok : Bool} {x : Nat → Prop} (h : GInv os D T ok x) {b : Nat} {d : Int} (hm : Met os (b : Int) d) :
    Stp os D T ok (goF D T ok b d).1 (goF D T ok b d).2.1 (goF D T ok b d).2.2 x [(b : Int)] d := by
  have hpos := hm.pos
  unfold goF
  split
  · rename_i hc
    refine ⟨⟨h.len, h.todo, h.rng, h.met, (fun e => by cases e), fun _ => bad_place hm (by have := h.len; omega)⟩, Nat.le_refl _, (fun e => by cases e), (fun e => by cases e), fun a e h1 _ => h1⟩
  · rename_i hc
    have hb : b < D.length := by omega
    have hd : d ≤ 60 := by omega
    split
    · rename_i hl
      have hl' : D[b] < 0 := by rw [← getD_get hb]; exact hl
      refine ⟨⟨by simpa using h.len, fun t ht => ?_, fun y hy => ?_, fun c hc1 hc2 => ?_, fun e => ?_, h.bad⟩, ?_, fun e => e, fun e s hs => ?_, fun a e h1 h2 => ?_⟩
      · rcases List.mem_append.1 ht with q | q
        · obtain ⟨c, rfl, h1, h2⟩ := h.todo t q
          refine ⟨c, rfl, by simpa using h1, ?_⟩
          by_cases e : b = c
          · subst e; rw [getD_set_eq hb]; omega
          · rw [getD_set_ne e]; exact h2
        · simp only [List.mem_singleton] at q
          subst q
          exact ⟨b, rfl, by simpa using hb, by show 0 ≤ (D.set b d).getD b 0; rw [getD_set_eq hb]; omega⟩
      · rcases List.mem_or_eq_of_mem_set hy with q | rfl
        · exact h.rng y q
        · omega
      · by_cases e : b = c
        · subst e
          show Met os (b : Int) ((D.set b d).getD b 0)
          rw [getD_set_eq hb]; exact hm
        · have hc2' : 0 ≤ (D.set b d).getD c 0 := hc2
          show Met os (c : Int) ((D.set b d).getD c 0)
          rw [getD_set_ne e] at hc2' ⊢
          exact h.met c (by simpa using hc1) hc2'
      · refine ((h.inv e).visit hm hb hl' hd).pend fun a hP => ?_
        rcases hP with (q | q) | q
        · exact .inl (List.mem_append_left _ q)
        · exact .inr q
        · exact .inl (by rw [q]; exact List.mem_append_right _ (List.mem_singleton.2 rfl))
      · have := unmet_set hb hl' (by omega : 0 ≤ d)
        show dmu (D.set b d) (T ++ [(b : Int)]) ≤ _
        unfold dmu
        simp only [List.length_append, List.length_singleton]
        omega
      · simp only [List.mem_singleton] at hs
        exact ⟨b, hs, List.getElem?_set_self hb⟩
      · by_cases e2 : b = a
        · subst e2
          rw [List.getElem?_eq_getElem hb] at h1
          simp only [Option.some.injEq] at h1
          omega
        · show (D.set b d)[a]? = some e
          rw [List.getElem?_set_ne e2]; exact h1
    · rename_i hl
      split
      · rename_i he
        refine ⟨h, Nat.le_refl _, fun e => e, fun e s hs => ?_, fun a e h1 _ => h1⟩
        simp only [List.mem_singleton] at hs
        exact ⟨b, hs, by show D[b]? = some d; rw [getD_some hb, he]⟩
      · rename_i he
        refine ⟨⟨h.len, h.todo, h.rng, h.met, (fun e => by cases e), fun _ => bad_two (h.met b hb (by omega)) hm he⟩, Nat.le_refl _, (fun e => by cases e), (fun e => by cases e), fun a e h1 _ => h1⟩

theorem GInv.gos {os : List op.OpD} {x : Nat → Prop} {d : Int} (ss : List Int) : ∀ {D T : List Int} {ok : Bool} (h : GInv os D T ok x) (hm : ∀ s ∈ ss, 0 ≤ s ∧ Met os s d),
    Stp os D T ok (goL D T ok ss d).1 (goL D T ok ss d).2.1 (goL D T ok ss d).2.2 x ss d := by
  induction ss with
  | nil => intro D T ok h hm; exact ⟨h, Nat.le_refl _, fun e => e, (fun e s hs => by cases hs), fun a e h1 _ => h1⟩
  | cons s ss ih =>
    intro D T ok h hm
    obtain ⟨hs0, hs1⟩ := hm s (List.mem_cons_self ..)
    have e : ((s.toNat : Nat) : Int) = s := by omega
    have h1 := h.go (b := s.toNat) (d := d) (by rw [e]; exact hs1)
    have h2 := ih h1.inv fun q hq => hm q (List.mem_cons_of_mem _ hq)
    unfold goL
    refine ⟨h2.inv, Nat.le_trans h2.mu h1.mu, fun e => h1.was (h2.was e), fun e2 q hq => ?_, fun a e2 q1 q2 => h2.keep a e2 (h1.keep a e2 q1 q2) q2⟩
    rcases List.mem_cons.1 hq with rfl | hq
    · obtain ⟨b, hb, hb2⟩ := h1.found (h2.was e2) ((q.toNat : Nat) : Int) (List.mem_singleton.2 rfl)
      exact ⟨b, by omega, h2.keep b d hb2 (by have := hs1.pos; omega)⟩
    · exact h2.found e2 q hq

/-- A place is gone on from: it was taken off what is to do. -/
theorem GInv.one {os : List op.OpD} {D T : List Int} {a : Nat} (h : GInv os D T true (fun y => y = a)) (ha : a < D.length) (h' : a < os.length) (h0 : 0 ≤ D.getD a 0) (hp : ∀ s ∈ leads a os[a], 0 ≤ s) :
    GInv os (oneF D T true a os[a]).1 (oneF D T true a os[a]).2.1 (oneF D T true a os[a]).2.2 (fun _ => False) ∧ dmu (oneF D T true a os[a]).1 (oneF D T true a os[a]).2.1 ≤ dmu D T := by
  have hm := h.met a ha h0
  unfold oneF
  split
  · rename_i hf
    have hs := GInv.gos (leads a os[a]) h (d := nextD os[a] (D.getD a 0)) fun s hs => ⟨hp s hs, met_on h' hm hf hs⟩
    refine ⟨⟨hs.inv.len, hs.inv.todo, hs.inv.rng, hs.inv.met, fun e => ?_, hs.inv.bad⟩, hs.mu⟩
    have hk := hs.keep a _ (getD_some ha) h0
    generalize goL D T true (leads a os[a]) (nextD os[a] (D.getD a 0)) = st at *
    have hal : a < st.1.length := by have := hs.inv.len; omega
    have he : st.1[a] = D.getD a 0 := by rw [List.getElem?_eq_getElem hal] at hk; simpa using hk
    refine (hs.inv.inv e).done hal h' (by rw [he]; exact hf) (fun s q => by rw [he]; exact hs.found e s q) fun y hP hne => ?_
    rcases hP with q | q
    · exact .inl q
    · exact absurd q hne
  · rename_i hf
    exact ⟨⟨h.len, h.todo, h.rng, h.met, (fun e => by cases e), fun _ => bad_fine h' hm (by simpa using hf)⟩, Nat.le_refl _⟩

/-- The last one is taken off. -/
theorem GInv.pop {os : List op.OpD} {D T : List Int} {a : Nat} (h : GInv os D (T ++ [(a : Int)]) true (fun _ => False)) : GInv os D T true (fun y => y = a) ∧ a < D.length ∧ 0 ≤ D.getD a 0 ∧ dmu D T + 1 = dmu D (T ++ [(a : Int)]) := by
  obtain ⟨b, e, h1, h2⟩ := h.todo a (List.mem_append_right _ (List.mem_singleton.2 rfl))
  have : b = a := by omega
  subst this
  refine ⟨⟨h.len, fun t ht => h.todo t (List.mem_append_left _ ht), h.rng, h.met, fun e => (h.inv e).pend fun y hP => ?_, h.bad⟩, h1, h2, by simp [dmu]; omega⟩
  rcases hP with q | q
  · rcases List.mem_append.1 q with q | q
    · exact .inl q
    · simp only [List.mem_singleton] at q
      exact .inr (by omega)
  · exact q.elim

theorem GInv.start {os : List op.OpD} (h0 : 0 < os.length) : GInv os ((List.replicate os.length (-1)).set 0 1) [0] true (fun _ => False) := by
  have hi := DInv.start h0
  refine ⟨by simp, fun t ht => ?_, fun y hy => ?_, fun b hb hl => ?_, fun _ => hi.pend fun a e => .inl (by rw [e]; simp), (fun e => by cases e)⟩
  · simp only [List.mem_singleton] at ht
    exact ⟨0, ht, by simpa using h0, by rw [getD_set_eq (by simpa using h0)]; decide⟩
  · rcases List.mem_or_eq_of_mem_set hy with q | rfl
    · rw [List.mem_replicate] at q; omega
    · omega
  · rw [getD_get hb] at hl ⊢
    exact (hi.met b hb hl).1
theorem go_first {n : Nat} (h0 : 0 < n) : goF (List.replicate n (-1)) [] true 0 1 = ((List.replicate n (-1)).set 0 1, [0], true) := by
  unfold goF
  rw [if_neg (by simp; omega), if_pos (by rw [getD_get (by simpa using h0)]; simp)]
  rfl
theorem dmu_start (n : Nat) : dmu ((List.replicate n (-1)).set 0 1) [0] ≤ 2 * n + 1 := by
  unfold dmu unmet
  have := List.countP_le_length (p := fun y : Int => decide (y < 0)) (l := (List.replicate n (-1)).set 0 1)
  simp only [List.length_set, List.length_replicate] at this
  simp only [List.length_singleton]
  omega
theorem GInv.fin {os : List op.OpD} {D : List Int} (h : GInv os D [] true (fun _ => False)) : Good os ∧ D = dOf os := by
  have hP : ∀ a : Nat, ¬ ((a : Int) ∈ ([] : List Int) ∨ False) := fun a q => by rcases q with q | q <;> cases q
  exact ⟨(h.inv rfl).good hP, (h.inv rfl).list hP⟩

theorem leads_pos {ks : List FunD} {i : Nat} {k : FunD} {o : op.OpD} {a : Nat} (h : opB ks i k o.1 o.2.1 o.2.2 = true) : ∀ s ∈ leads a o, 0 ≤ s := by
  obtain ⟨c, n, m⟩ := o
  rw [opB_both] at h
  simp only [Bool.and_eq_true] at h
  intro s hs
  unfold leads at hs
  dsimp only at h hs
  split at hs
  · cases hs
  · split at hs
    · rename_i e
      subst e
      have := inB_yes (show inB n 0 ((k.2.length : Int) - 1) = true from h.1.2)
      simp only [List.mem_singleton] at hs
      omega
    · split at hs
      · rename_i e
        subst e
        have := inB_yes (show inB n 0 ((k.2.length : Int) - 1) = true from h.1.2)
        simp only [List.mem_cons, List.mem_nil_iff, or_false] at hs
        omega
      · split at hs
        · rename_i e
          have h2 := h.2
          unfold secondB at h2
          rw [if_neg (by omega), if_neg (by omega), if_pos e] at h2
          have := inB_yes h2
          simp only [List.mem_cons, List.mem_nil_iff, or_false] at hs
          omega
        · simp only [List.mem_singleton] at hs
          omega
theorem takes_pos {ks : List FunD} {i : Nat} {k : FunD} {o : op.OpD} (hk : ∀ n : Int, 0 ≤ freeAt ks n ∧ freeAt ks n ≤ 20) (h : opB ks i k o.1 o.2.1 o.2.2 = true) : 0 ≤ takesB o.1 o.2.2 ∧ takesB o.1 o.2.2 ≤ 20 := by
  obtain ⟨c, n, m⟩ := o
  rw [opB_both] at h
  simp only [Bool.and_eq_true] at h
  dsimp only at h ⊢
  unfold takesB
  split
  · rename_i e
    rcases e with rfl | rfl
    · have : m = freeAt ks n := of_decide_eq_true h.2
      have := hk n
      omega
    · exact inB_yes (show inB m 0 20 = true from h.2)
  · split
    · omega
    · split <;> omega

end Go.Proofs.YtjibmpebebephaaGreatDoor.fun

namespace Go.Proofs.YtjibmpebebephaaGreatDoor.fun
open Go Go.RowKit Go.Proofs.YtjibmpebebephaaGreatDoor
set_option linter.unusedVariables false
set_option linter.unusedSimpArgs false

set_option maxRecDepth 100000 in
set_option maxHeartbeats 4000000 in
theorem effect_any (c n m : Int) (w : World) :
    Calls Tryz.prog 116 #[.agg #[.int .i64 c, .int .i64 n, .int .i64 m]] w fun e w' => e = .returned (.tuple #[.int .i64 (takesB c m), .int .i64 (putsB c)]) ∧ Below w.heap.size w w' := by
  by_cases h : 1 ≤ c ∧ c ≤ 20 ∧ c ≠ 19
  · rcases (by omega : c = 1 ∨ c = 2 ∨ c = 3 ∨ c = 4 ∨ c = 5 ∨ c = 6 ∨ c = 7 ∨ c = 8 ∨ c = 9 ∨ c = 10 ∨ c = 11 ∨ c = 12 ∨ c = 13 ∨ c = 14 ∨ c = 15 ∨ c = 16 ∨ c = 17 ∨ c = 18 ∨ c = 20) with rfl | rfl | rfl | rfl | rfl | rfl | rfl | rfl | rfl | rfl | rfl | rfl | rfl | rfl | rfl | rfl | rfl | rfl | rfl
    all_goals
      go_enter Tryz.func116, Tryz.ntmps116
      go_wp2
      go_ret2
      exact ⟨by simp [takesB, putsB], (Below.refl _ _).alloc (Nat.le_refl _) _⟩
  · have e1 : (c == 1) = false := by simp; omega
    have e2 : (c == 2) = false := by simp; omega
    have e3 : (c == 3) = false := by simp; omega
    have e4 : (c == 4) = false := by simp; omega
    have e5 : (c == 5) = false := by simp; omega
    have e6 : (c == 6) = false := by simp; omega
    have e7 : (c == 7) = false := by simp; omega
    have e8 : (c == 8) = false := by simp; omega
    have e9 : (c == 9) = false := by simp; omega
    have e10 : (c == 10) = false := by simp; omega
    have e11 : (c == 11) = false := by simp; omega
    have e12 : (c == 12) = false := by simp; omega
    have e13 : (c == 13) = false := by simp; omega
    have e14 : (c == 14) = false := by simp; omega
    have e15 : (c == 15) = false := by simp; omega
    have e16 : (c == 16) = false := by simp; omega
    have e17 : (c == 17) = false := by simp; omega
    have e18 : (c == 18) = false := by simp; omega
    have e20 : (c == 20) = false := by simp; omega
    have ht : takesB c m = 0 := by unfold takesB; rw [if_neg (by omega), if_neg (by omega), if_neg (by omega)]
    have hp : putsB c = 0 := by unfold putsB; rw [if_neg (by omega)]
    rw [ht, hp]
    clear h ht hp
    go_enter Tryz.func116, Tryz.ntmps116
    go_wp2
    go_ret2
    exact ⟨rfl, (Below.refl _ _).alloc (Nat.le_refl _) _⟩

end Go.Proofs.YtjibmpebebephaaGreatDoor.fun
