/-
  The model's tests of a name and of a con (l4Name, l4Con), at every text: letters alone, one to eight of them, the first one small, or large; no keyword, not Int. Nothing that was there is turned.
-/
import Derived.Test.YtpdmdcoaaboikaaGreatDoorChecked
import Derived.WalkKit
import Derived.WalkLawsBesides
import Derived.Below
import Derived.Deep.QuietTactic
import Derived.Deep.RegionWith
import Derived.BigQuiet
namespace Go.Proofs.YtpdmdcoaaboikaaGreatDoor.words4
open Go.RowKit
set_option linter.unusedVariables false

def smallU (b : UInt8) : Bool := decide (97 ≤ b.toNat ∧ b.toNat ≤ 122)
def largeU (b : UInt8) : Bool := decide (65 ≤ b.toNat ∧ b.toNat ≤ 90)
def letU (b : UInt8) : Bool := smallU b || largeU b
def allLet (s : ByteArray) : Bool := s.data.toList.all letU

theorem letU_no {b : UInt8} (h1 : ¬ ((97 : Int) ≤ b.toNat ∧ (b.toNat : Int) ≤ 122)) (h2 : ¬ ((65 : Int) ≤ b.toNat ∧ (b.toNat : Int) ≤ 90)) : letU b = false := by
  simp [letU, smallU, largeU]; omega
theorem letU_small {b : UInt8} (h1 : (97 : Int) ≤ b.toNat) (h2 : (b.toNat : Int) ≤ 122) : letU b = true := by
  simp [letU, smallU, largeU]; omega
theorem letU_large {b : UInt8} (h1 : (65 : Int) ≤ b.toNat) (h2 : (b.toNat : Int) ≤ 90) : letU b = true := by
  simp [letU, smallU, largeU]; omega
theorem allLet_no {s : ByteArray} {k : Nat} (h : k < s.size) (hb : letU s[k] = false) : allLet s = false := by
  unfold allLet
  rw [List.all_eq_false]
  exact ⟨s[k], List.getElem_mem (l := s.data.toList) (n := k) (by simpa using h), by simp [hb]⟩
theorem allLet_yes {s : ByteArray} (h : ∀ j (hj : j < s.size), letU s[j] = true) : allLet s = true := by
  unfold allLet
  rw [List.all_eq_true]
  intro b hb
  obtain ⟨j, hj, rfl⟩ := List.getElem_of_mem hb
  exact h j (by simpa using hj)

def conB (s : ByteArray) : Bool := allLet s && (if h : 1 ≤ s.size ∧ s.size ≤ 8 then largeU (s[0]'(by omega)) else false) && !(s.toList == [73, 110, 116])

theorem ret_bool {a b : Bool} (h : a = b) : Ending.returned (.bool a) = .returned (.bool b) := by rw [h]

set_option maxHeartbeats 1000000 in
theorem specCon (s : ByteArray) (w : World) (hs : s.size ≤ maxLen) : Calls Tryz.prog 68 #[.string s] w fun e w' => e = .returned (.bool (conB s)) ∧ Below w.heap.size w w' := by
  unfold maxLen at hs
  go_enter Tryz.func68, Tryz.ntmps68
  go_wp2
  go_loopw [3] (fun v3 wr => ∃ k : Nat, k ≤ s.size ∧ v3 = .int .i64 k ∧ Hid (∀ j (hj : j < s.size), j < k → letU s[j] = true) ∧ Hid (Below w.heap.size w wr)) (fun v3 _ => s.size - (intOf v3).toNat)
  case atStart => exact ⟨0, Nat.zero_le _, rfl, fun j _ h => absurd h (Nat.not_lt_zero _), Below.refl _ _⟩
  case round =>
    obtain ⟨k, hk, rfl, HL, HB⟩ := hrel
    by_cases hlt : k < s.size
    · by_cases h1 : (97 : Int) ≤ s[k].toNat ∧ (s[k].toNat : Int) ≤ 122
      · obtain ⟨h1, h2⟩ := h1
        go_wp2
        refine ⟨⟨k + 1, by omega, by go_num, fun j hj hjk => ?_, HB⟩, by simp [intOf]; omega⟩
        by_cases e : j = k
        · subst e; exact letU_small h1 h2
        · exact HL.out j hj (by omega)
      · by_cases h3 : (65 : Int) ≤ s[k].toNat ∧ (s[k].toNat : Int) ≤ 90
        · obtain ⟨h3, h4⟩ := h3
          go_wp2
          refine ⟨⟨k + 1, by omega, by go_num, fun j hj hjk => ?_, HB⟩, by simp [intOf]; omega⟩
          by_cases e : j = k
          · subst e; exact letU_large h3 h4
          · exact HL.out j hj (by omega)
        · have hno : Hid (allLet s = false) := allLet_no hlt (letU_no h1 h3)
          by_cases h5 : (97 : Int) ≤ s[k].toNat
          · have h6 : ¬ (s[k].toNat : Int) ≤ 122 := by omega
            have h65 : (65 : Int) ≤ s[k].toNat := by omega
            have h90 : ¬ (s[k].toNat : Int) ≤ 90 := by omega
            go_wp2
            go_ret
            exact ⟨ret_bool (by simp [conB, hno.out]), HB.out⟩
          · by_cases h7 : (65 : Int) ≤ s[k].toNat
            · have h6 : ¬ (s[k].toNat : Int) ≤ 90 := by omega
              go_wp2
              go_ret
              exact ⟨ret_bool (by simp [conB, hno.out]), HB.out⟩
            · go_wp2
              go_ret
              exact ⟨ret_bool (by simp [conB, hno.out]), HB.out⟩
    · obtain rfl : k = s.size := by omega
      have hal : Hid (allLet s = true) := allLet_yes fun j hj => HL.out j hj hj
      clear HL
      by_cases h1 : s.size < 1
      · have hr : Hid (conB s = false) := by show conB s = false; unfold conB; rw [dif_neg (by omega)]; simp
        go_wp2
        go_ret
        exact ⟨ret_bool hr.out.symm, HB.out⟩
      · by_cases h8 : 8 < s.size
        · have hr : Hid (conB s = false) := by show conB s = false; unfold conB; rw [dif_neg (by omega)]; simp
          go_wp2
          go_ret
          exact ⟨ret_bool hr.out.symm, HB.out⟩
        · have hr : Hid (conB s = (largeU (s[0]'(by omega)) && !(s.toList == [73, 110, 116]))) := by show conB s = _; unfold conB; rw [dif_pos (by omega), hal.out]; simp
          by_cases h3 : (65 : Int) ≤ (s[0]'(by omega)).toNat ∧ ((s[0]'(by omega)).toNat : Int) ≤ 90
          · obtain ⟨h3, h4⟩ := h3
            have hl : Hid (largeU (s[0]'(by omega)) = true) := by show _ = _; simp [largeU]; omega
            go_wp2
            go_ret
            exact ⟨ret_bool (by rw [hr.out, hl.out]; rfl), HB.out⟩
          · have hl : Hid (largeU (s[0]'(by omega)) = false) := by show _ = _; simp [largeU]; omega
            by_cases h5 : (65 : Int) ≤ (s[0]'(by omega)).toNat
            · have h6 : ¬ ((s[0]'(by omega)).toNat : Int) ≤ 90 := by omega
              go_wp2
              go_ret
              exact ⟨ret_bool (by rw [hr.out, hl.out]; rfl), HB.out⟩
            · go_wp2
              go_ret
              exact ⟨ret_bool (by rw [hr.out, hl.out]; rfl), HB.out⟩


def kws : List (List UInt8) := [[100, 97, 116, 97], [108, 101, 116], [114, 101, 99], [105, 110], [102, 117, 110], [99, 97, 115, 101], [111, 102], [105, 102], [116, 104, 101, 110], [101, 108, 115, 101], [112, 117, 116]]
def kwB (s : ByteArray) : Bool := kws.contains s.toList
def nameB (s : ByteArray) : Bool := allLet s && (if h : 1 ≤ s.size ∧ s.size ≤ 8 then smallU (s[0]'(by omega)) else false) && !kwB s

def withinB (l : List ByteArray) (s : ByteArray) : Bool := (l.map ByteArray.toList).contains s.toList

set_option maxHeartbeats 1000000 in
/-- l2Within, at a list of texts that lies in memory. -/
theorem within (l : List ByteArray) (b o cap : Nat) (s : ByteArray) (w : World) (hl : l.length ≤ 100) (hc : ∀ i (h : i < l.length), w.cell? ⟨b, o + i, none⟩ = some (.string l[i])) :
    Calls Tryz.prog 94 #[.slice (some ⟨b, o, none⟩) l.length cap, .string s] w fun e w' => e = .returned (.bool (withinB l s)) ∧ Below w.heap.size w w' := by
  have HC : Hid (∀ i (h : i < l.length), w.cell? ⟨b, o + i, none⟩ = some (.string l[i])) := hc
  clear hc
  go_enter Tryz.func94, Tryz.ntmps94
  go_wp2
  go_loopw [5] (fun v5 wr => ∃ k : Nat, k ≤ l.length ∧ v5 = .int .i64 k ∧ Hid (((l.map ByteArray.toList).take k).contains s.toList = false) ∧ Hid (wr = w)) (fun v5 _ => l.length - (intOf v5).toNat)
  case atStart => exact ⟨0, Nat.zero_le _, rfl, by show _ = _; simp, rfl⟩
  case round =>
    obtain ⟨k, hk, rfl, HL, HB⟩ := hrel
    obtain rfl := HB.out
    by_cases hlt : k < l.length
    · have c1 := HC.out k hlt
      by_cases he : l[k].toList = s.toList
      · have hr : Hid (withinB l s = true) := by
          show (l.map ByteArray.toList).contains s.toList = true
          rw [List.contains_iff_mem, ← he]
          exact List.mem_map_of_mem (List.getElem_mem hlt)
        have t1 : (l[k].toList == s.toList) = true := by rw [he]; simp
        go_wp2
        go_ret
        exact ⟨ret_bool hr.out.symm, Below.refl _ _⟩
      · have hr : Hid (((l.map ByteArray.toList).take (k + 1)).contains s.toList = false) := by
          have h0 := HL.out
          show _ = _
          rw [List.take_add_one, List.getElem?_eq_getElem (by simpa using hlt)]
          simp only [List.contains_eq_mem, decide_eq_false_iff_not] at h0 ⊢
          simp only [Option.toList_some, List.mem_append, List.mem_singleton, not_or]
          exact ⟨h0, fun e => he (by simpa using e.symm)⟩
        have t1 : (l[k].toList == s.toList) = false := by simpa using he
        clear HL
        go_wp2
        exact ⟨⟨k + 1, by omega, by go_num, hr, by first | exact HB | (show True; trivial)⟩, by simp [intOf]; omega⟩
    · obtain rfl : k = l.length := by omega
      have hr : Hid (withinB l s = false) := by have := HL.out; rwa [List.take_of_length_le (by simp)] at this
      go_wp2
      go_ret
      exact ⟨ret_bool hr.out.symm, Below.refl _ _⟩

def kwl : List ByteArray := kws.map fun l => ⟨l.toArray⟩
theorem kw_within (s : ByteArray) : withinB kwl s = kwB s := by
  have : kwl.map ByteArray.toList = kws := by simp [kwl, kws, ByteArray.toList_eq]
  unfold withinB kwB; rw [this]

set_option maxHeartbeats 1000000 in
theorem specKeyword (s : ByteArray) (w : World) : Calls Tryz.prog 84 #[.string s] w fun e w' => e = .returned (.bool (kwB s)) ∧ Below w.heap.size w w' := by
  go_enter Tryz.func84, Tryz.ntmps84
  go_wp2_with fail
  refine (within kwl w.heap.size 0 11 s _ (by decide) ?_).mono ?_
  · intro i hi
    have h11 : i < 11 := hi
    match i, h11 with
    | 0, _ | 1, _ | 2, _ | 3, _ | 4, _ | 5, _ | 6, _ | 7, _ | 8, _ | 9, _ | 10, _ => simp [kwl, kws]
  · rintro e w1 ⟨rfl, hb⟩
    rw [kw_within]
    have B1 : Hid (Below w.heap.size w w1) := ((Below.refl _ _).alloc (Nat.le_refl _) _).trans (hb.mono (by simp))
    clear hb
    go_wp2
    go_ret
    exact ⟨rfl, B1.out⟩

set_option maxHeartbeats 1000000 in
theorem specName (s : ByteArray) (w : World) (hs : s.size ≤ maxLen) : Calls Tryz.prog 89 #[.string s] w fun e w' => e = .returned (.bool (nameB s)) ∧ Below w.heap.size w w' := by
  unfold maxLen at hs
  go_enter Tryz.func89, Tryz.ntmps89
  go_wp2
  go_loopw [3] (fun v3 wr => ∃ k : Nat, k ≤ s.size ∧ v3 = .int .i64 k ∧ Hid (∀ j (hj : j < s.size), j < k → letU s[j] = true) ∧ Hid (Below w.heap.size w wr)) (fun v3 _ => s.size - (intOf v3).toNat)
  case atStart => exact ⟨0, Nat.zero_le _, rfl, fun j _ h => absurd h (Nat.not_lt_zero _), Below.refl _ _⟩
  case round =>
    obtain ⟨k, hk, rfl, HL, HB⟩ := hrel
    by_cases hlt : k < s.size
    · by_cases h1 : (97 : Int) ≤ s[k].toNat ∧ (s[k].toNat : Int) ≤ 122
      · obtain ⟨h1, h2⟩ := h1
        go_wp2
        refine ⟨⟨k + 1, by omega, by go_num, fun j hj hjk => ?_, HB⟩, by simp [intOf]; omega⟩
        by_cases e : j = k
        · subst e; exact letU_small h1 h2
        · exact HL.out j hj (by omega)
      · by_cases h3 : (65 : Int) ≤ s[k].toNat ∧ (s[k].toNat : Int) ≤ 90
        · obtain ⟨h3, h4⟩ := h3
          go_wp2
          refine ⟨⟨k + 1, by omega, by go_num, fun j hj hjk => ?_, HB⟩, by simp [intOf]; omega⟩
          by_cases e : j = k
          · subst e; exact letU_large h3 h4
          · exact HL.out j hj (by omega)
        · have hno : Hid (allLet s = false) := allLet_no hlt (letU_no h1 h3)
          by_cases h5 : (97 : Int) ≤ s[k].toNat
          · have h6 : ¬ (s[k].toNat : Int) ≤ 122 := by omega
            have h65 : (65 : Int) ≤ s[k].toNat := by omega
            have h90 : ¬ (s[k].toNat : Int) ≤ 90 := by omega
            go_wp2
            go_ret
            exact ⟨ret_bool (by simp [nameB, hno.out]), HB.out⟩
          · by_cases h7 : (65 : Int) ≤ s[k].toNat
            · have h6 : ¬ (s[k].toNat : Int) ≤ 90 := by omega
              go_wp2
              go_ret
              exact ⟨ret_bool (by simp [nameB, hno.out]), HB.out⟩
            · go_wp2
              go_ret
              exact ⟨ret_bool (by simp [nameB, hno.out]), HB.out⟩
    · obtain rfl : k = s.size := by omega
      have hal : Hid (allLet s = true) := allLet_yes fun j hj => HL.out j hj hj
      clear HL
      by_cases h1 : s.size < 1
      · have hr : Hid (nameB s = false) := by show nameB s = false; unfold nameB; rw [dif_neg (by omega)]; simp
        go_wp2
        go_ret
        exact ⟨ret_bool hr.out.symm, HB.out⟩
      · by_cases h8 : 8 < s.size
        · have hr : Hid (nameB s = false) := by show nameB s = false; unfold nameB; rw [dif_neg (by omega)]; simp
          go_wp2
          go_ret
          exact ⟨ret_bool hr.out.symm, HB.out⟩
        · have hr : Hid (nameB s = (smallU (s[0]'(by omega)) && !kwB s)) := by show nameB s = _; unfold nameB; rw [dif_pos (by omega), hal.out]; simp
          by_cases h3 : (97 : Int) ≤ (s[0]'(by omega)).toNat ∧ ((s[0]'(by omega)).toNat : Int) ≤ 122
          · obtain ⟨h3, h4⟩ := h3
            have hl : Hid (smallU (s[0]'(by omega)) = true) := by show _ = _; simp [smallU]; omega
            go_wp2_with (first | (go_at_call 84; refine (specKeyword s _).mono ?_; rintro e w1 ⟨rfl, hb⟩) | go_in)
            go_ret
            exact ⟨ret_bool (by rw [hr.out, hl.out]; rfl), HB.out.trans (hb.mono HB.out.size)⟩
          · have hl : Hid (smallU (s[0]'(by omega)) = false) := by show _ = _; simp [smallU]; omega
            by_cases h5 : (97 : Int) ≤ (s[0]'(by omega)).toNat
            · have h6 : ¬ ((s[0]'(by omega)).toNat : Int) ≤ 122 := by omega
              go_wp2
              go_ret
              exact ⟨ret_bool (by rw [hr.out, hl.out]; rfl), HB.out⟩
            · go_wp2
              go_ret
              exact ⟨ret_bool (by rw [hr.out, hl.out]; rfl), HB.out⟩


end Go.Proofs.YtpdmdcoaaboikaaGreatDoor.words4
