/-
  The model's tests of a name and of a con (l4Name, l4Con), at every text: letters alone, one to eight of them, the first one small, or large; no keyword, not Int. Nothing that was there is turned.
  The model's tests of the token at hand (l3Sign, l3Is, l3Con, l3Name), and its steps (l3Bad, l3Next).
-/
import Derived.Test.YtlnpfnglphdaiaaGreatDoorChecked
import Derived.WalkKit
import Derived.WalkLawsBesides
import Derived.Below
import Derived.Deep.QuietTactic
import Derived.Deep.RegionWith
import Derived.BigQuiet
import Derived.Test.YtlnpfnglphdaiaaGreatDoorB1
import Derived.Test.YtlnpfnglphdaiaaGreatDoorB2
import Derived.Test.YtlnpfnglphdaiaaGreatDoorB3
import Derived.Test.YtlnpfnglphdaiaaGreatDoorB4
import Derived.Test.YtlnpfnglphdaiaaGreatDoorB5
import Derived.Test.YtlnpfnglphdaiaaGreatDoorB6
import Derived.Test.YtlnpfnglphdaiaaGreatDoorB7
namespace Go.Proofs.YtlnpfnglphdaiaaGreatDoor.words4
open Go.RowKit
set_option linter.unusedVariables false

def smallU (b : UInt8) : Bool := decide (97 ≤ b.toNat ∧ b.toNat ≤ 122)
def largeU (b : UInt8) : Bool := decide (65 ≤ b.toNat ∧ b.toNat ≤ 90)
def letU (b : UInt8) : Bool := smallU b || largeU b
def allLet (s : ByteArray) : Bool := s.data.toList.all letU

theorem letU_no {b : UInt8} (h1 : ¬ ((97 : Int) ≤ b.toNat ∧ (b.toNat : Int) ≤ 122)) (h2 : ¬ ((65 : Int) ≤ b.toNat ∧ (b.toNat : Int) ≤ 90)) : letU b = false := by
  simp [letU, smallU, largeU]; omega
theorem letU_small {b : UInt8} (h1 : (97 : Int) ≤ b.toNat) (h2 : (b.toNat : Int) ≤ 122) : letU b = true := by
  simp [letU, smallU, largeU]; omega
theorem letU_large {b : UInt8} (h1 : (65 : Int) ≤ b.toNat) (h2 : (b.toNat : Int) ≤ 90) : letU b = true := by
  simp [letU, smallU, largeU]; omega
theorem allLet_no {s : ByteArray} {k : Nat} (h : k < s.size) (hb : letU s[k] = false) : allLet s = false := by
  unfold allLet
  rw [List.all_eq_false]
  exact ⟨s[k], List.getElem_mem (l := s.data.toList) (n := k) (by simpa using h), by simp [hb]⟩
theorem allLet_yes {s : ByteArray} (h : ∀ j (hj : j < s.size), letU s[j] = true) : allLet s = true := by
  unfold allLet
  rw [List.all_eq_true]
  intro b hb
  obtain ⟨j, hj, rfl⟩ := List.getElem_of_mem hb
  exact h j (by simpa using hj)

def conB (s : ByteArray) : Bool := allLet s && (if h : 1 ≤ s.size ∧ s.size ≤ 8 then largeU (s[0]'(by omega)) else false) && !(s.toList == [73, 110, 116])

theorem ret_bool {a b : Bool} (h : a = b) : Ending.returned (.bool a) = .returned (.bool b) := by rw [h]

set_option maxHeartbeats 1000000 in
theorem specCon (s : ByteArray) (w : World) (hs : s.size ≤ maxLen) : Calls Tryz.prog 68 #[.string s] w fun e w' => e = .returned (.bool (conB s)) ∧ Below w.heap.size w w' := by
  unfold maxLen at hs
  go_enter Tryz.func68, Tryz.ntmps68
  go_wp2
  go_loopw [3] (fun v3 wr => ∃ k : Nat, k ≤ s.size ∧ v3 = .int .i64 k ∧ Hid (∀ j (hj : j < s.size), j < k → letU s[j] = true) ∧ Hid (Below w.heap.size w wr)) (fun v3 _ => s.size - (intOf v3).toNat)
  case atStart => exact ⟨0, Nat.zero_le _, rfl, fun j _ h => absurd h (Nat.not_lt_zero _), Below.refl _ _⟩
  case round =>
    obtain ⟨k, hk, rfl, HL, HB⟩ := hrel
    by_cases hlt : k < s.size
    · by_cases h1 : (97 : Int) ≤ s[k].toNat ∧ (s[k].toNat : Int) ≤ 122
      · obtain ⟨h1, h2⟩ := h1
        go_wp2
        refine ⟨⟨k + 1, by omega, by go_num, fun j hj hjk => ?_, HB⟩, by simp [intOf]; omega⟩
        by_cases e : j = k
        · subst e; exact letU_small h1 h2
        · exact HL.out j hj (by omega)
      · by_cases h3 : (65 : Int) ≤ s[k].toNat ∧ (s[k].toNat : Int) ≤ 90
        · obtain ⟨h3, h4⟩ := h3
          go_wp2
          refine ⟨⟨k + 1, by omega, by go_num, fun j hj hjk => ?_, HB⟩, by simp [intOf]; omega⟩
          by_cases e : j = k
          · subst e; exact letU_large h3 h4
          · exact HL.out j hj (by omega)
        · have hno : Hid (allLet s = false) := allLet_no hlt (letU_no h1 h3)
          by_cases h5 : (97 : Int) ≤ s[k].toNat
          · have h6 : ¬ (s[k].toNat : Int) ≤ 122 := by omega
            have h65 : (65 : Int) ≤ s[k].toNat := by omega
            have h90 : ¬ (s[k].toNat : Int) ≤ 90 := by omega
            go_wp2
            go_ret
            exact ⟨ret_bool (by simp [conB, hno.out]), HB.out⟩
          · by_cases h7 : (65 : Int) ≤ s[k].toNat
            · have h6 : ¬ (s[k].toNat : Int) ≤ 90 := by omega
              go_wp2
              go_ret
              exact ⟨ret_bool (by simp [conB, hno.out]), HB.out⟩
            · go_wp2
              go_ret
              exact ⟨ret_bool (by simp [conB, hno.out]), HB.out⟩
    · obtain rfl : k = s.size := by omega
      have hal : Hid (allLet s = true) := allLet_yes fun j hj => HL.out j hj hj
      clear HL
      by_cases h1 : s.size < 1
      · have hr : Hid (conB s = false) := by show conB s = false; unfold conB; rw [dif_neg (by omega)]; simp
        go_wp2
        go_ret
        exact ⟨ret_bool hr.out.symm, HB.out⟩
      · by_cases h8 : 8 < s.size
        · have hr : Hid (conB s = false) := by show conB s = false; unfold conB; rw [dif_neg (by omega)]; simp
          go_wp2
          go_ret
          exact ⟨ret_bool hr.out.symm, HB.out⟩
        · have hr : Hid (conB s = (largeU (s[0]'(by omega)) && !(s.toList == [73, 110, 116]))) := by show conB s = _; unfold conB; rw [dif_pos (by omega), hal.out]; simp
          by_cases h3 : (65 : Int) ≤ (s[0]'(by omega)).toNat ∧ ((s[0]'(by omega)).toNat : Int) ≤ 90
          · obtain ⟨h3, h4⟩ := h3
            have hl : Hid (largeU (s[0]'(by omega)) = true) := by show _ = _; simp [largeU]; omega
            go_wp2
            go_ret
            exact ⟨ret_bool (by rw [hr.out, hl.out]; rfl), HB.out⟩
          · have hl : Hid (largeU (s[0]'(by omega)) = false) := by show _ = _; simp [largeU]; omega
            by_cases h5 : (65 : Int) ≤ (s[0]'(by omega)).toNat
            · have h6 : ¬ ((s[0]'(by omega)).toNat : Int) ≤ 90 := by omega
              go_wp2
              go_ret
              exact ⟨ret_bool (by rw [hr.out, hl.out]; rfl), HB.out⟩
            · go_wp2
              go_ret
              exact ⟨ret_bool (by rw [hr.out, hl.out]; rfl), HB.out⟩


def kws : List (List UInt8) := [[100, 97, 116, 97], [108, 101, 116], [114, 101, 99], [105, 110], [102, 117, 110], [99, 97, 115, 101], [111, 102], [105, 102], [116, 104, 101, 110], [101, 108, 115, 101], [112, 117, 116]]
def kwB (s : ByteArray) : Bool := kws.contains s.toList
def nameB (s : ByteArray) : Bool := allLet s && (if h : 1 ≤ s.size ∧ s.size ≤ 8 then smallU (s[0]'(by omega)) else false) && !kwB s

def withinB (l : List ByteArray) (s : ByteArray) : Bool := (l.map ByteArray.toList).contains s.toList

set_option maxHeartbeats 1000000 in
/-- l2Within, at a list of texts that lies in memory. -/
theorem within (l : List ByteArray) (b o cap : Nat) (s : ByteArray) (w : World) (hl : l.length ≤ 100) (hc : ∀ i (h : i < l.length), w.cell? ⟨b, o + i, none⟩ = some (.string l[i])) :
    Calls Tryz.prog 94 #[.slice (some ⟨b, o, none⟩) l.length cap, .string s] w fun e w' => e = .returned (.bool (withinB l s)) ∧ Below w.heap.size w w' := by
  have HC : Hid (∀ i (h : i < l.length), w.cell? ⟨b, o + i, none⟩ = some (.string l[i])) := hc
  clear hc
  go_enter Tryz.func94, Tryz.ntmps94
  go_wp2
  go_loopw [5] (fun v5 wr => ∃ k : Nat, k ≤ l.length ∧ v5 = .int .i64 k ∧ Hid (((l.map ByteArray.toList).take k).contains s.toList = false) ∧ Hid (wr = w)) (fun v5 _ => l.length - (intOf v5).toNat)
  case atStart => exact ⟨0, Nat.zero_le _, rfl, by show _ = _; simp, rfl⟩
  case round =>
    obtain ⟨k, hk, rfl, HL, HB⟩ := hrel
    obtain rfl := HB.out
    by_cases hlt : k < l.length
    · have c1 := HC.out k hlt
      by_cases he : l[k].toList = s.toList
      · have hr : Hid (withinB l s = true) := by
          show (l.map ByteArray.toList).contains s.toList = true
          rw [List.contains_iff_mem, ← he]
          exact List.mem_map_of_mem (List.getElem_mem hlt)
        have t1 : (l[k].toList == s.toList) = true := by rw [he]; simp
        go_wp2
        go_ret
        exact ⟨ret_bool hr.out.symm, Below.refl _ _⟩
      · have hr : Hid (((l.map ByteArray.toList).take (k + 1)).contains s.toList = false) := by
          have h0 := HL.out
          show _ = _
          rw [List.take_add_one, List.getElem?_eq_getElem (by simpa using hlt)]
          simp only [List.contains_eq_mem, decide_eq_false_iff_not] at h0 ⊢
          simp only [Option.toList_some, List.mem_append, List.mem_singleton, not_or]
          exact ⟨h0, fun e => he (by simpa using e.symm)⟩
        have t1 : (l[k].toList == s.toList) = false := by simpa using he
        clear HL
        go_wp2
        exact ⟨⟨k + 1, by omega, by go_num, hr, by first | exact HB | (show True; trivial)⟩, by simp [intOf]; omega⟩
    · obtain rfl : k = l.length := by omega
      have hr : Hid (withinB l s = false) := by have := HL.out; rwa [List.take_of_length_le (by simp)] at this
      go_wp2
      go_ret
      exact ⟨ret_bool hr.out.symm, Below.refl _ _⟩

def kwl : List ByteArray := kws.map fun l => ⟨l.toArray⟩
theorem kw_within (s : ByteArray) : withinB kwl s = kwB s := by
  have : kwl.map ByteArray.toList = kws := by simp [kwl, kws, ByteArray.toList_eq]
  unfold withinB kwB; rw [this]

set_option maxHeartbeats 1000000 in
theorem specKeyword (s : ByteArray) (w : World) : Calls Tryz.prog 84 #[.string s] w fun e w' => e = .returned (.bool (kwB s)) ∧ Below w.heap.size w w' := by
  go_enter Tryz.func84, Tryz.ntmps84
  go_wp2_with fail
  refine (within kwl w.heap.size 0 11 s _ (by decide) ?_).mono ?_
  · intro i hi
    have h11 : i < 11 := hi
    match i, h11 with
    | 0, _ | 1, _ | 2, _ | 3, _ | 4, _ | 5, _ | 6, _ | 7, _ | 8, _ | 9, _ | 10, _ => simp [kwl, kws]
  · rintro e w1 ⟨rfl, hb⟩
    rw [kw_within]
    have B1 : Hid (Below w.heap.size w w1) := ((Below.refl _ _).alloc (Nat.le_refl _) _).trans (hb.mono (by simp))
    clear hb
    go_wp2
    go_ret
    exact ⟨rfl, B1.out⟩

set_option maxHeartbeats 1000000 in
theorem specName (s : ByteArray) (w : World) (hs : s.size ≤ maxLen) : Calls Tryz.prog 89 #[.string s] w fun e w' => e = .returned (.bool (nameB s)) ∧ Below w.heap.size w w' := by
  unfold maxLen at hs
  go_enter Tryz.func89, Tryz.ntmps89
  go_wp2
  go_loopw [3] (fun v3 wr => ∃ k : Nat, k ≤ s.size ∧ v3 = .int .i64 k ∧ Hid (∀ j (hj : j < s.size), j < k → letU s[j] = true) ∧ Hid (Below w.heap.size w wr)) (fun v3 _ => s.size - (intOf v3).toNat)
  case atStart => exact ⟨0, Nat.zero_le _, rfl, fun j _ h => absurd h (Nat.not_lt_zero _), Below.refl _ _⟩
  case round =>
    obtain ⟨k, hk, rfl, HL, HB⟩ := hrel
    by_cases hlt : k < s.size
    · by_cases h1 : (97 : Int) ≤ s[k].toNat ∧ (s[k].toNat : Int) ≤ 122
      · obtain ⟨h1, h2⟩ := h1
        go_wp2
        refine ⟨⟨k + 1, by omega, by go_num, fun j hj hjk => ?_, HB⟩, by simp [intOf]; omega⟩
        by_cases e : j = k
        · subst e; exact letU_small h1 h2
        · exact HL.out j hj (by omega)
      · by_cases h3 : (65 : Int) ≤ s[k].toNat ∧ (s[k].toNat : Int) ≤ 90
        · obtain ⟨h3, h4⟩ := h3
          go_wp2
          refine ⟨⟨k + 1, by omega, by go_num, fun j hj hjk => ?_, HB⟩, by simp [intOf]; omega⟩
          by_cases e : j = k
          · subst e; exact letU_large h3 h4
          · exact HL.out j hj (by omega)
        · have hno : Hid (allLet s = false) := allLet_no hlt (letU_no h1 h3)
          by_cases h5 : (97 : Int) ≤ s[k].toNat
          · have h6 : ¬ (s[k].toNat : Int) ≤ 122 := by omega
            have h65 : (65 : Int) ≤ s[k].toNat := by omega
            have h90 : ¬ (s[k].toNat : Int) ≤ 90 := by omega
            go_wp2
            go_ret
            exact ⟨ret_bool (by simp [nameB, hno.out]), HB.out⟩
          · by_cases h7 : (65 : Int) ≤ s[k].toNat
            · have h6 : ¬ (s[k].toNat : Int) ≤ 90 := by omega
              go_wp2
              go_ret
              exact ⟨ret_bool (by simp [nameB, hno.out]), HB.out⟩
            · go_wp2
              go_ret
              exact ⟨ret_bool (by simp [nameB, hno.out]), HB.out⟩
    · obtain rfl : k = s.size := by omega
      have hal : Hid (allLet s = true) := allLet_yes fun j hj => HL.out j hj hj
      clear HL
      by_cases h1 : s.size < 1
      · have hr : Hid (nameB s = false) := by show nameB s = false; unfold nameB; rw [dif_neg (by omega)]; simp
        go_wp2
        go_ret
        exact ⟨ret_bool hr.out.symm, HB.out⟩
      · by_cases h8 : 8 < s.size
        · have hr : Hid (nameB s = false) := by show nameB s = false; unfold nameB; rw [dif_neg (by omega)]; simp
          go_wp2
          go_ret
          exact ⟨ret_bool hr.out.symm, HB.out⟩
        · have hr : Hid (nameB s = (smallU (s[0]'(by omega)) && !kwB s)) := by show nameB s = _; unfold nameB; rw [dif_pos (by omega), hal.out]; simp
          by_cases h3 : (97 : Int) ≤ (s[0]'(by omega)).toNat ∧ ((s[0]'(by omega)).toNat : Int) ≤ 122
          · obtain ⟨h3, h4⟩ := h3
            have hl : Hid (smallU (s[0]'(by omega)) = true) := by show _ = _; simp [smallU]; omega
            go_wp2_with (first | (go_at_call 84; refine (specKeyword s _).mono ?_; rintro e w1 ⟨rfl, hb⟩) | go_in)
            go_ret
            exact ⟨ret_bool (by rw [hr.out, hl.out]; rfl), HB.out.trans (hb.mono HB.out.size)⟩
          · have hl : Hid (smallU (s[0]'(by omega)) = false) := by show _ = _; simp [smallU]; omega
            by_cases h5 : (97 : Int) ≤ (s[0]'(by omega)).toNat
            · have h6 : ¬ ((s[0]'(by omega)).toNat : Int) ≤ 122 := by omega
              go_wp2
              go_ret
              exact ⟨ret_bool (by rw [hr.out, hl.out]; rfl), HB.out⟩
            · go_wp2
              go_ret
              exact ⟨ret_bool (by rw [hr.out, hl.out]; rfl), HB.out⟩


end Go.Proofs.YtlnpfnglphdaiaaGreatDoor.words4

namespace Go.Proofs.YtlnpfnglphdaiaaGreatDoor.tok
open Go Go.RowKit Go.Deep Go.Proofs.YtlnpfnglphdaiaaGreatDoor.rose Go.Proofs.YtlnpfnglphdaiaaGreatDoor
set_option linter.unusedVariables false
set_option linter.unusedSimpArgs false

/-- What a test of the token at hand says: where it holds, there is a next one, and nothing was wrong before. -/
def Tests (E : Env) (w : World) (at_ : Nat) (bad : Int) (e : Ending) (w' : World) : Prop :=
  (∃ b : Bool, e = .returned (.bool b) ∧ (b = true → bad < 0 ∧ at_ + 1 < E.toks.length)) ∧ Below w.heap.size w w'

theorem cell_topP (w : World) (arr : Array Value) (t : TypeId) (j : Nat) : (w.alloc (.cells arr t)).cell? ⟨w.heap.size, j, none⟩ = arr[j]? := by
  have hp := alloc_top w (.cells arr t)
  generalize w.alloc (.cells arr t) = W at hp ⊢
  simp [World.cell?, hp]
theorem grown_below_by {w w1 w2 : World} {r : Option Nat} (h1 : Below w.heap.size w w1) (h2 : w1.grownBy w2 r) : w.grownBy w2 r :=
  ⟨h2.os.trans h1.os, h2.tape.trans h1.tape, h2.output.trans h1.output, Nat.le_trans h1.size h2.size, fun k hk hn => (h2.block k (Nat.lt_of_lt_of_le hk h1.size) hn).trans (h1.block k hk)⟩
theorem grown_by_below {w w1 w2 : World} {r : Option Nat} (h1 : w.grownBy w1 r) (h2 : Below w1.heap.size w1 w2) : w.grownBy w2 r :=
  ⟨h2.os.trans h1.os, h2.tape.trans h1.tape, h2.output.trans h1.output, Nat.le_trans h1.size h2.size, fun k hk hn => (h2.block k (Nat.lt_of_lt_of_le hk h1.size)).trans (h1.block k hk hn)⟩
theorem grown_by_by {w w1 w2 : World} {r : Option Nat} (h1 : w.grownBy w1 r) (h2 : w1.grownBy w2 r) : w.grownBy w2 r :=
  ⟨h2.os.trans h1.os, h2.tape.trans h1.tape, h2.output.trans h1.output, Nat.le_trans h1.size h2.size, fun k hk hn => (h2.block k (Nat.lt_of_lt_of_le hk h1.size) hn).trans (h1.block k hk hn)⟩
theorem grown_self (w : World) (r : Option Nat) : w.grownBy w r := ⟨rfl, rfl, rfl, Nat.le_refl _, fun _ _ _ => rfl⟩

theorem field0 (k : Int) (t : ByteArray) (n p : Int) (W : World) : (Instr.field 125 (.agg #[.int .i64 k, .string t, .int .i64 n, .int .i64 p]) 0).run Tryz.prog W = .ok (.int .i64 k) W := by kernel_rfl
theorem field1 (k : Int) (t : ByteArray) (n p : Int) (W : World) : (Instr.field 125 (.agg #[.int .i64 k, .string t, .int .i64 n, .int .i64 p]) 1).run Tryz.prog W = .ok (.string t) W := by kernel_rfl
theorem field3 (k : Int) (t : ByteArray) (n p : Int) (W : World) : (Instr.field 125 (.agg #[.int .i64 k, .string t, .int .i64 n, .int .i64 p]) 3).run Tryz.prog W = .ok (.int .i64 p) W := by kernel_rfl

/-- What a step of the cursor says. -/
def Steps (E : Env) (w : World) (at_ : Nat) (bad : Int) (e : Ending) (w' : World) : Prop :=
  ∃ (at' : Nat) (bad' : Int), e = .returned (.tuple #[]) ∧ St E w' at' bad' ∧ w.grownBy w' (some E.cb) ∧ at_ ≤ at' ∧ ((at' = at_ + 1 ∧ bad' = bad) ∨ 0 ≤ bad')

set_option maxRecDepth 100000 in
set_option maxHeartbeats 4000000 in
theorem sign3_any (E : Env) (w : World) (at_ : Nat) (bad : Int) (h : St E w at_ bad) (s : ByteArray) :
    Calls Tryz.prog 61 #[.pointer (some ⟨E.cb, 0, none⟩), .string s] w (Tests E w at_ bad) := by
  have HN := now_any E w at_ bad h
  have HL : Hid (∀ k t n p, E.toks[at_]'h.lt = (k, t, n, p) → k ≠ 0 → at_ + 1 < E.toks.length) := fun k t n p he hk => h.notLast (by rw [he]; exact hk)
  obtain ⟨va, vc, names, nn, hblk, -, -⟩ := h.blk
  have hcb := h.cblt
  have d2 : w.cell? ⟨E.cb, 2, none⟩ = some (.int .i64 bad) := by simp [World.cell?, hblk]
  clear hblk
  go_enter Tryz.func61, Tryz.ntmps61
  go_wp2_with fail
  refine HN.mono ?_
  rintro e w1 ⟨⟨k, t, n, p, he, rfl, -⟩, hb⟩
  have HK : Hid (k ≠ 0 → at_ + 1 < E.toks.length) := HL.out k t n p he
  have hcb1 : E.cb < w1.heap.size := Nat.lt_of_lt_of_le hcb hb.size
  have c2 : (w1.alloc (.cells #[.int .i64 k, .string t, .int .i64 n, .int .i64 p] 125)).cell? ⟨E.cb, 2, none⟩ = some (.int .i64 bad) := (((Below.refl w1.heap.size w1).alloc (Nat.le_refl _) _).cell (p := ⟨E.cb, 2, none⟩) hcb1).trans ((hb.cell (p := ⟨E.cb, 2, none⟩) hcb).trans d2)
  have B1 : Hid (Below w.heap.size w (w1.alloc (.cells #[.int .i64 k, .string t, .int .i64 n, .int .i64 p] 125))) := hb.alloc hb.size _
  have p0 : (w1.alloc (.cells #[.int .i64 k, .string t, .int .i64 n, .int .i64 p] 125)).cell? ⟨w1.heap.size, 0, none⟩ = some (.int .i64 k) := cell_topP _ _ _ _
  have p1 : (w1.alloc (.cells #[.int .i64 k, .string t, .int .i64 n, .int .i64 p] 125)).cell? ⟨w1.heap.size, 1, none⟩ = some (.string t) := cell_topP _ _ _ _
  clear hb HN HL d2 he
  by_cases hbad : bad < 0
  · by_cases hk : k = 4
    · have KK : Hid (at_ + 1 < E.toks.length) := HK.out (by omega)
      subst hk
      clear HK
      go_wp2
      go_ret
      exact ⟨⟨_, rfl, fun _ => ⟨hbad, KK.out⟩⟩, B1.out⟩
    · clear HK
      go_wp2
      go_ret
      exact ⟨⟨_, rfl, fun hh => by first | exact absurd hh (by decide) | cases hh⟩, B1.out⟩
  · clear HK
    go_wp2
    go_ret
    exact ⟨⟨_, rfl, fun hh => by first | exact absurd hh (by decide) | cases hh⟩, B1.out⟩

set_option maxRecDepth 100000 in
set_option maxHeartbeats 4000000 in
theorem is_any (E : Env) (w : World) (at_ : Nat) (bad : Int) (h : St E w at_ bad) (s : ByteArray) :
    Calls Tryz.prog 43 #[.pointer (some ⟨E.cb, 0, none⟩), .string s] w (Tests E w at_ bad) := by
  have HN := now_any E w at_ bad h
  have HL : Hid (∀ k t n p, E.toks[at_]'h.lt = (k, t, n, p) → k ≠ 0 → at_ + 1 < E.toks.length) := fun k t n p he hk => h.notLast (by rw [he]; exact hk)
  obtain ⟨va, vc, names, nn, hblk, -, -⟩ := h.blk
  have hcb := h.cblt
  have d2 : w.cell? ⟨E.cb, 2, none⟩ = some (.int .i64 bad) := by simp [World.cell?, hblk]
  clear hblk
  go_enter Tryz.func43, Tryz.ntmps43
  go_wp2_with fail
  refine HN.mono ?_
  rintro e w1 ⟨⟨k, t, n, p, he, rfl, -⟩, hb⟩
  have HK : Hid (k ≠ 0 → at_ + 1 < E.toks.length) := HL.out k t n p he
  have hcb1 : E.cb < w1.heap.size := Nat.lt_of_lt_of_le hcb hb.size
  have c2 : (w1.alloc (.cells #[.int .i64 k, .string t, .int .i64 n, .int .i64 p] 125)).cell? ⟨E.cb, 2, none⟩ = some (.int .i64 bad) := (((Below.refl w1.heap.size w1).alloc (Nat.le_refl _) _).cell (p := ⟨E.cb, 2, none⟩) hcb1).trans ((hb.cell (p := ⟨E.cb, 2, none⟩) hcb).trans d2)
  have B1 : Hid (Below w.heap.size w (w1.alloc (.cells #[.int .i64 k, .string t, .int .i64 n, .int .i64 p] 125))) := hb.alloc hb.size _
  have p0 : (w1.alloc (.cells #[.int .i64 k, .string t, .int .i64 n, .int .i64 p] 125)).cell? ⟨w1.heap.size, 0, none⟩ = some (.int .i64 k) := cell_topP _ _ _ _
  have p1 : (w1.alloc (.cells #[.int .i64 k, .string t, .int .i64 n, .int .i64 p] 125)).cell? ⟨w1.heap.size, 1, none⟩ = some (.string t) := cell_topP _ _ _ _
  clear hb HN HL d2 he
  by_cases hbad : bad < 0
  · by_cases hk : k = 1
    · have KK : Hid (at_ + 1 < E.toks.length) := HK.out (by omega)
      subst hk
      clear HK
      go_wp2
      go_ret
      exact ⟨⟨_, rfl, fun _ => ⟨hbad, KK.out⟩⟩, B1.out⟩
    · clear HK
      go_wp2
      go_ret
      exact ⟨⟨_, rfl, fun hh => by first | exact absurd hh (by decide) | cases hh⟩, B1.out⟩
  · clear HK
    go_wp2
    go_ret
    exact ⟨⟨_, rfl, fun hh => by first | exact absurd hh (by decide) | cases hh⟩, B1.out⟩

set_option maxRecDepth 100000 in
set_option maxHeartbeats 4000000 in
theorem con_any (E : Env) (w : World) (at_ : Nat) (bad : Int) (h : St E w at_ bad) :
    Calls Tryz.prog 83 #[.pointer (some ⟨E.cb, 0, none⟩)] w (Tests E w at_ bad) := by
  have HN := now_any E w at_ bad h
  have HL : Hid (∀ k t n p, E.toks[at_]'h.lt = (k, t, n, p) → k ≠ 0 → at_ + 1 < E.toks.length) := fun k t n p he hk => h.notLast (by rw [he]; exact hk)
  obtain ⟨va, vc, names, nn, hblk, -, -⟩ := h.blk
  have hcb := h.cblt
  have d2 : w.cell? ⟨E.cb, 2, none⟩ = some (.int .i64 bad) := by simp [World.cell?, hblk]
  clear hblk
  go_enter Tryz.func83, Tryz.ntmps83
  go_wp2_with fail
  refine HN.mono ?_
  rintro e w1 ⟨⟨k, t, n, p, he, rfl, -⟩, hb⟩
  have HK : Hid (k ≠ 0 → at_ + 1 < E.toks.length) := HL.out k t n p he
  have hcb1 : E.cb < w1.heap.size := Nat.lt_of_lt_of_le hcb hb.size
  have c2 : (w1.alloc (.cells #[.int .i64 k, .string t, .int .i64 n, .int .i64 p] 125)).cell? ⟨E.cb, 2, none⟩ = some (.int .i64 bad) := (((Below.refl w1.heap.size w1).alloc (Nat.le_refl _) _).cell (p := ⟨E.cb, 2, none⟩) hcb1).trans ((hb.cell (p := ⟨E.cb, 2, none⟩) hcb).trans d2)
  have B1 : Hid (Below w.heap.size w (w1.alloc (.cells #[.int .i64 k, .string t, .int .i64 n, .int .i64 p] 125))) := hb.alloc hb.size _
  have p0 : (w1.alloc (.cells #[.int .i64 k, .string t, .int .i64 n, .int .i64 p] 125)).cell? ⟨w1.heap.size, 0, none⟩ = some (.int .i64 k) := cell_topP _ _ _ _
  have p1 : (w1.alloc (.cells #[.int .i64 k, .string t, .int .i64 n, .int .i64 p] 125)).cell? ⟨w1.heap.size, 1, none⟩ = some (.string t) := cell_topP _ _ _ _
  clear hb HN HL d2 he
  by_cases hbad : bad < 0
  · by_cases hk : k = 2
    · have KK : Hid (at_ + 1 < E.toks.length) := HK.out (by omega)
      subst hk
      clear HK
      go_wp2
      go_ret
      exact ⟨⟨_, rfl, fun _ => ⟨hbad, KK.out⟩⟩, B1.out⟩
    · clear HK
      go_wp2
      go_ret
      exact ⟨⟨_, rfl, fun hh => by first | exact absurd hh (by decide) | cases hh⟩, B1.out⟩
  · clear HK
    go_wp2
    go_ret
    exact ⟨⟨_, rfl, fun hh => by first | exact absurd hh (by decide) | cases hh⟩, B1.out⟩

set_option maxRecDepth 100000 in
set_option maxHeartbeats 4000000 in
theorem name_any (E : Env) (w : World) (at_ : Nat) (bad : Int) (h : St E w at_ bad) :
    Calls Tryz.prog 58 #[.pointer (some ⟨E.cb, 0, none⟩)] w (Tests E w at_ bad) := by
  have HN := now_any E w at_ bad h
  have HL : Hid (∀ k t n p, E.toks[at_]'h.lt = (k, t, n, p) → k ≠ 0 → at_ + 1 < E.toks.length) := fun k t n p he hk => h.notLast (by rw [he]; exact hk)
  obtain ⟨va, vc, names, nn, hblk, -, -⟩ := h.blk
  have hcb := h.cblt
  have d2 : w.cell? ⟨E.cb, 2, none⟩ = some (.int .i64 bad) := by simp [World.cell?, hblk]
  clear hblk
  go_enter Tryz.func58, Tryz.ntmps58
  go_wp2_with fail
  refine HN.mono ?_
  rintro e w1 ⟨⟨k, t, n, p, he, rfl, -⟩, hb⟩
  have HK : Hid (k ≠ 0 → at_ + 1 < E.toks.length) := HL.out k t n p he
  have hcb1 : E.cb < w1.heap.size := Nat.lt_of_lt_of_le hcb hb.size
  have c2 : (w1.alloc (.cells #[.int .i64 k, .string t, .int .i64 n, .int .i64 p] 125)).cell? ⟨E.cb, 2, none⟩ = some (.int .i64 bad) := (((Below.refl w1.heap.size w1).alloc (Nat.le_refl _) _).cell (p := ⟨E.cb, 2, none⟩) hcb1).trans ((hb.cell (p := ⟨E.cb, 2, none⟩) hcb).trans d2)
  have B1 : Hid (Below w.heap.size w (w1.alloc (.cells #[.int .i64 k, .string t, .int .i64 n, .int .i64 p] 125))) := hb.alloc hb.size _
  have p0 : (w1.alloc (.cells #[.int .i64 k, .string t, .int .i64 n, .int .i64 p] 125)).cell? ⟨w1.heap.size, 0, none⟩ = some (.int .i64 k) := cell_topP _ _ _ _
  have p1 : (w1.alloc (.cells #[.int .i64 k, .string t, .int .i64 n, .int .i64 p] 125)).cell? ⟨w1.heap.size, 1, none⟩ = some (.string t) := cell_topP _ _ _ _
  clear hb HN HL d2 he
  by_cases hbad : bad < 0
  · by_cases hk : k = 1
    · have KK : Hid (at_ + 1 < E.toks.length) := HK.out (by omega)
      subst hk
      clear HK
      have HKW := words4.specKeyword t (w1.alloc (.cells #[.int .i64 1, .string t, .int .i64 n, .int .i64 p] 125))
      go_wp2_with fail
      refine HKW.mono ?_
      rintro e w2 ⟨rfl, hb2⟩
      have B2 : Hid (Below w.heap.size w w2) := B1.out.trans (hb2.mono B1.out.size)
      clear hb2 HKW
      generalize words4.kwB t = kb
      go_wp2
      go_ret
      exact ⟨⟨_, rfl, fun _ => ⟨hbad, KK.out⟩⟩, B2.out⟩
    · clear HK
      go_wp2
      go_ret
      exact ⟨⟨_, rfl, fun hh => by first | exact absurd hh (by decide) | cases hh⟩, B1.out⟩
  · clear HK
    go_wp2
    go_ret
    exact ⟨⟨_, rfl, fun hh => by first | exact absurd hh (by decide) | cases hh⟩, B1.out⟩

set_option maxRecDepth 100000 in
set_option maxHeartbeats 4000000 in
/-- Something does not fit. -/
theorem bad_any (E : Env) (w : World) (at_ : Nat) (bad : Int) (h : St E w at_ bad) :
    Calls Tryz.prog 47 #[.pointer (some ⟨E.cb, 0, none⟩)] w fun e w' => e = .returned (.tuple #[]) ∧ ∃ bad' : Int, St E w' at_ bad' ∧ w.grownBy w' (some E.cb) ∧ 0 ≤ bad' := by
  have HN := now_any E w at_ bad h
  have HS : Hid (St E w at_ bad) := h
  obtain ⟨va, vc, names, nn, hblk, -, -⟩ := h.blk
  have hcb := h.cblt
  have d2 : w.cell? ⟨E.cb, 2, none⟩ = some (.int .i64 bad) := by simp [World.cell?, hblk]
  by_cases hbad : bad < 0
  · go_enter Tryz.func47, Tryz.ntmps47
    go_wp2_with fail
    refine HN.mono ?_
    rintro e w1 ⟨⟨k, t, n, p, he, rfl, -, -, -, hp0, hp1⟩, hb⟩
    have HT : Hid (St E (w1.setCell ⟨E.cb, 2, none⟩ (.int .i64 p)) at_ p ∧ w.grownBy (w1.setCell ⟨E.cb, 2, none⟩ (.int .i64 p)) (some E.cb)) := by
      have t1 := (HS.out.on hb).turn (at' := at_) (bad' := p) 2 (.int .i64 p) rfl (.inr ⟨rfl, rfl, rfl⟩) HS.out.lt ⟨by omega, hp1⟩
      exact ⟨t1.1, grown_below_by hb t1.2⟩
    have hblk1 := (hb.block _ hcb).trans hblk
    have c2 : w1.cell? ⟨E.cb, 2, none⟩ = some (.int .i64 bad) := by simp [World.cell?, hblk1]
    have f2 : w1.frozen? ⟨E.cb, 2, none⟩ = false := by simp [World.frozen?, hblk1]
    have HP : Hid (0 ≤ p) := hp0
    have hf := field3 k t n p w1
    clear hb HN d2 he hblk hblk1 hp0 hp1
    go_wp2
    go_end0
    exact ⟨rfl, p, HT.out.1, HT.out.2, HP.out⟩
  · clear hblk HN
    go_enter Tryz.func47, Tryz.ntmps47
    go_wp2
    go_end0
    exact ⟨rfl, bad, HS.out, grown_self _ _, by omega⟩

set_option maxRecDepth 100000 in
set_option maxHeartbeats 4000000 in
theorem next_any (E : Env) (w : World) (at_ : Nat) (bad : Int) (h : St E w at_ bad) (hlt : at_ + 1 < E.toks.length) :
    Calls Tryz.prog 62 #[.pointer (some ⟨E.cb, 0, none⟩)] w fun e w' => e = .returned (.tuple #[]) ∧ St E w' (at_ + 1) bad ∧ w.grownBy w' (some E.cb) := by
  have HS : Hid (St E w at_ bad) := h
  obtain ⟨va, vc, names, nn, hblk, -, -⟩ := h.blk
  have hlen := h.len
  have c0 : w.cell? ⟨E.cb, 0, none⟩ = some (.slice E.ta E.toks.length E.tc) := by simp [World.cell?, hblk]
  have c1 : w.cell? ⟨E.cb, 1, none⟩ = some (.int .i64 at_) := by simp [World.cell?, hblk]
  have f1 : ∀ o, w.frozen? ⟨E.cb, o, none⟩ = false := fun o => by simp [World.frozen?, hblk]
  have hli : (E.toks.length : Int) ≤ 3001 := by omega
  have hl1 : (at_ : Int) < (E.toks.length : Int) - 1 := by omega
  clear hblk
  go_enter Tryz.func62, Tryz.ntmps62
  go_wp2
  go_quiet (fail)
  go_wp2
  go_end0
  have hb := below_drewN (Below.refl w.heap.size w) nq
  have t1 := (HS.out.on hb).turn (at' := at_ + 1) (bad' := bad) 1 (.int .i64 ((at_ : Int) + 1)) rfl (.inl ⟨rfl, by simp, rfl⟩) hlt HS.out.bad0
  exact ⟨rfl, t1.1, grown_below_by hb t1.2⟩


set_option maxRecDepth 100000 in
set_option maxHeartbeats 4000000 in
theorem take_any (E : Env) (w : World) (at_ : Nat) (bad : Int) (h : St E w at_ bad) (s : ByteArray) :
    Calls Tryz.prog 59 #[.pointer (some ⟨E.cb, 0, none⟩), .string s] w (Steps E w at_ bad) := by
  have HT := sign3_any E w at_ bad h s
  have HS : Hid (St E w at_ bad) := h
  have H0 : Hid (bad ≤ -1 ∨ 0 ≤ bad) := by show _ ∨ _; omega
  have H1 : Hid (-1 ≤ bad) := h.bad0.1
  clear h
  go_enter Tryz.func59, Tryz.ntmps59
  go_wp2_with fail
  refine HT.mono ?_
  rintro e w1 ⟨⟨b, rfl, hb⟩, hB⟩
  have S1 : Hid (St E w1 at_ bad) := HS.out.on hB
  have B1 : Hid (Below w.heap.size w w1) := hB
  clear hB HT
  cases b with
  | false =>
    have HX := bad_any E w1 at_ bad S1.out
    go_wp2_with fail
    refine HX.mono ?_
    rintro e w2 ⟨rfl, bad', S2, g2, hb2⟩
    have S2' : Hid (St E w2 at_ bad') := S2
    have G2 : Hid (w.grownBy w2 (some E.cb)) := grown_below_by B1.out g2
    have HB2 : Hid (0 ≤ bad') := hb2
    clear S2 g2 HX hb2
    go_wp2
    go_end0
    exact ⟨at_, bad', rfl, S2'.out, G2.out, Nat.le_refl _, .inr HB2.out⟩
  | true =>
    have hb' := hb rfl
    have HX := next_any E w1 at_ bad S1.out hb'.2
    go_wp2_with fail
    refine HX.mono ?_
    rintro e w2 ⟨rfl, S2, g2⟩
    have S2' : Hid (St E w2 (at_ + 1) bad) := S2
    have G2 : Hid (w.grownBy w2 (some E.cb)) := grown_below_by B1.out g2
    clear S2 g2 HX
    go_wp2
    go_end0
    exact ⟨at_ + 1, bad, rfl, S2'.out, G2.out, Nat.le_succ _, .inl ⟨rfl, rfl⟩⟩

set_option maxRecDepth 100000 in
set_option maxHeartbeats 4000000 in
theorem word_any (E : Env) (w : World) (at_ : Nat) (bad : Int) (h : St E w at_ bad) (s : ByteArray) :
    Calls Tryz.prog 56 #[.pointer (some ⟨E.cb, 0, none⟩), .string s] w (Steps E w at_ bad) := by
  have HT := is_any E w at_ bad h s
  have HS : Hid (St E w at_ bad) := h
  have H0 : Hid (bad ≤ -1 ∨ 0 ≤ bad) := by show _ ∨ _; omega
  have H1 : Hid (-1 ≤ bad) := h.bad0.1
  clear h
  go_enter Tryz.func56, Tryz.ntmps56
  go_wp2_with fail
  refine HT.mono ?_
  rintro e w1 ⟨⟨b, rfl, hb⟩, hB⟩
  have S1 : Hid (St E w1 at_ bad) := HS.out.on hB
  have B1 : Hid (Below w.heap.size w w1) := hB
  clear hB HT
  cases b with
  | false =>
    have HX := bad_any E w1 at_ bad S1.out
    go_wp2_with fail
    refine HX.mono ?_
    rintro e w2 ⟨rfl, bad', S2, g2, hb2⟩
    have S2' : Hid (St E w2 at_ bad') := S2
    have G2 : Hid (w.grownBy w2 (some E.cb)) := grown_below_by B1.out g2
    have HB2 : Hid (0 ≤ bad') := hb2
    clear S2 g2 HX hb2
    go_wp2
    go_end0
    exact ⟨at_, bad', rfl, S2'.out, G2.out, Nat.le_refl _, .inr HB2.out⟩
  | true =>
    have hb' := hb rfl
    have HX := next_any E w1 at_ bad S1.out hb'.2
    go_wp2_with fail
    refine HX.mono ?_
    rintro e w2 ⟨rfl, S2, g2⟩
    have S2' : Hid (St E w2 (at_ + 1) bad) := S2
    have G2 : Hid (w.grownBy w2 (some E.cb)) := grown_below_by B1.out g2
    clear S2 g2 HX
    go_wp2
    go_end0
    exact ⟨at_ + 1, bad, rfl, S2'.out, G2.out, Nat.le_succ _, .inl ⟨rfl, rfl⟩⟩
end Go.Proofs.YtlnpfnglphdaiaaGreatDoor.tok
