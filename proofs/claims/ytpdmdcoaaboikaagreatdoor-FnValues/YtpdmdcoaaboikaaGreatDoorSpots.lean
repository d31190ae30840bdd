/-
  The cons of a list of datas, each with its place: how many are ahead of it, in which data, which one of its cons. No program.
-/
import Derived.Test.YtpdmdcoaaboikaaGreatDoorDataSh
namespace Go.Proofs.YtpdmdcoaaboikaaGreatDoor.data
open Go.RowKit Go.Proofs.YtpdmdcoaaboikaaGreatDoor.rose Go.Proofs.YtpdmdcoaaboikaaGreatDoor
set_option linter.unusedVariables false

/-- A con and where it stands. -/
structure Spot where
  tag : Nat
  i : Nat
  j : Nat
  c : con.ConD

def spotsC (t i j : Nat) : List con.ConD → List Spot
  | [] => []
  | c :: cs => ⟨t, i, j, c⟩ :: spotsC (t + 1) i (j + 1) cs
def spots (t i : Nat) : List DataD → List Spot
  | [] => []
  | d :: ds => spotsC t i 0 d.2.2 ++ spots (t + d.2.2.length) (i + 1) ds
def total : List DataD → Nat
  | [] => 0
  | d :: ds => d.2.2.length + total ds

theorem spotsC_append (t i j : Nat) (xs ys : List con.ConD) : spotsC t i j (xs ++ ys) = spotsC t i j xs ++ spotsC (t + xs.length) i (j + xs.length) ys := by
  induction xs generalizing t j with
  | nil => simp [spotsC]
  | cons x xs ih => simp [spotsC, ih]; congr 1 <;> omega
theorem spots_append (t i : Nat) (xs ys : List DataD) : spots t i (xs ++ ys) = spots t i xs ++ spots (t + total xs) (i + xs.length) ys := by
  induction xs generalizing t i with
  | nil => simp [spots, total]
  | cons x xs ih => simp [spots, total, ih, Nat.add_assoc]; congr 1; omega
theorem spotsC_length (t i j : Nat) (xs : List con.ConD) : (spotsC t i j xs).length = xs.length := by
  induction xs generalizing t j with
  | nil => rfl
  | cons x xs ih => simp [spotsC, ih]
theorem spots_length (t i : Nat) (xs : List DataD) : (spots t i xs).length = total xs := by
  induction xs generalizing t i with
  | nil => rfl
  | cons x xs ih => simp [spots, total, ih, spotsC_length]
theorem total_append (xs ys : List DataD) : total (xs ++ ys) = total xs + total ys := by
  induction xs with
  | nil => simp [total]
  | cons x xs ih => simp [total, ih]; omega
theorem total_le (xs : List DataD) : total xs ≤ wts xs := by
  induction xs with
  | nil => simp [total]
  | cons x xs ih =>
    obtain ⟨x0, x1, x2⟩ := x
    simp [total, wts, wt]; omega
theorem total_take {ks : List DataD} {i : Nat} (h : i < ks.length) : total (ks.take (i + 1)) = total (ks.take i) + ks[i].2.2.length := by
  rw [List.take_succ_eq_append_getElem h, total_append]; simp [total]
theorem total_take_le (ks : List DataD) (i : Nat) : total (ks.take i) ≤ total ks := by
  induction ks generalizing i with
  | nil => simp [total]
  | cons k ks ih =>
    cases i with
    | zero => simp [total]
    | succ i => simp [total]; exact ih i

/-- Those ahead of con j of data i. -/
def ahead (ks : List DataD) (i j : Nat) : List Spot := spots 0 0 (ks.take i) ++ spotsC (total (ks.take i)) i 0 (((ks[i]?.map (·.2.2)).getD []).take j)

theorem ahead_zero (ks : List DataD) (i : Nat) : ahead ks i 0 = spots 0 0 (ks.take i) := by simp [ahead, spotsC]
theorem ahead_start (ks : List DataD) : ahead ks 0 0 = [] := by simp [ahead, spots, spotsC]
theorem ahead_step {ks : List DataD} {i j : Nat} (hi : i < ks.length) (hj : j < ks[i].2.2.length) : ahead ks i (j + 1) = ahead ks i j ++ [⟨total (ks.take i) + j, i, j, ks[i].2.2[j]⟩] := by
  unfold ahead
  rw [List.getElem?_eq_getElem hi]
  simp only [Option.map_some, Option.getD_some]
  rw [List.take_succ_eq_append_getElem hj, spotsC_append]
  simp [spotsC, Nat.min_eq_left (Nat.le_of_lt hj)]
theorem ahead_next {ks : List DataD} {i : Nat} (hi : i < ks.length) : ahead ks i ks[i].2.2.length = ahead ks (i + 1) 0 := by
  rw [ahead_zero]
  unfold ahead
  rw [List.getElem?_eq_getElem hi]
  simp only [Option.map_some, Option.getD_some, List.take_length]
  rw [List.take_succ_eq_append_getElem hi, spots_append]
  simp [spots, Nat.min_eq_left (Nat.le_of_lt hi)]
theorem ahead_end (ks : List DataD) : ahead ks ks.length 0 = spots 0 0 ks := by rw [ahead_zero, List.take_length]
theorem ahead_pre (ks : List DataD) (i : Nat) : ahead ks i 0 <+: spots 0 0 ks := by
  rw [ahead_zero]
  conv => rhs; rw [← List.take_append_drop i ks, spots_append]
  exact List.prefix_append _ _
theorem ahead_prefix {ks : List DataD} {i j : Nat} (hi : i < ks.length) (hj : j ≤ ks[i].2.2.length) : ahead ks i j <+: spots 0 0 ks := by
  refine List.IsPrefix.trans ?_ (ahead_pre ks (i + 1))
  rw [← ahead_next hi]
  unfold ahead
  rw [List.getElem?_eq_getElem hi]
  simp only [Option.map_some, Option.getD_some, List.take_length]
  rw [List.prefix_append_right_inj]
  conv => rhs; rw [← List.take_append_drop j ks[i].2.2, spotsC_append]
  exact List.prefix_append _ _
theorem ahead_length {ks : List DataD} {i j : Nat} (hi : i < ks.length) (hj : j ≤ ks[i].2.2.length) : (ahead ks i j).length = total (ks.take i) + j := by
  unfold ahead
  rw [List.getElem?_eq_getElem hi]
  simp [spots_length, spotsC_length, Nat.min_eq_left hj]

/-- The first spot that is so. -/
theorem find_pre {l pre : List Spot} {x : Spot} {p : Spot → Bool} (h : pre ++ [x] <+: l) (hn : ∀ y ∈ pre, p y = false) (hx : p x = true) : l.find? p = some x := by
  obtain ⟨r, rfl⟩ := h
  rw [List.append_assoc, List.find?_append, List.find?_eq_none.2 (by simpa using hn)]
  simp [hx]
theorem find_no {l : List Spot} {p : Spot → Bool} (h : ∀ y ∈ l, p y = false) : l.find? p = none := List.find?_eq_none.2 (by simpa using h)

def named (name : ByteArray) (s : Spot) : Bool := s.c.1.toList == name.toList
def tagged (tag : Int) (s : Spot) : Bool := decide ((s.tag : Int) = tag)

def place (s : Option Spot) : Int × Int × Int := match s with
  | some s => ((s.tag : Int), (s.i : Int), (s.j : Int))
  | none => (-1, -1, -1)
def placeB (ks : List DataD) (name : ByteArray) : Int × Int × Int := place ((spots 0 0 ks).find? (named name))
def tagB (ks : List DataD) (tag : Int) : Int × Int × Int := place ((spots 0 0 ks).find? (tagged tag))

theorem spotsC_tag {t i j : Nat} {xs : List con.ConD} {s : Spot} (h : s ∈ spotsC t i j xs) : t ≤ s.tag ∧ s.tag < t + xs.length := by
  induction xs generalizing t j with
  | nil => simp [spotsC] at h
  | cons x xs ih =>
    simp only [spotsC, List.mem_cons] at h
    rcases h with rfl | h
    · simp
    · have := ih h; simp; omega
theorem spots_tag {t i : Nat} {xs : List DataD} {s : Spot} (h : s ∈ spots t i xs) : t ≤ s.tag ∧ s.tag < t + total xs := by
  induction xs generalizing t i with
  | nil => simp [spots] at h
  | cons x xs ih =>
    simp only [spots, List.mem_append] at h
    rcases h with h | h
    · have := spotsC_tag h; simp [total]; omega
    · have := ih h; simp [total]; omega
/-- A tag that is within data i's. -/
theorem tag_at {ks : List DataD} {i : Nat} (hi : i < ks.length) {tag : Int} (h1 : (total (ks.take i) : Int) ≤ tag) (h2 : tag - total (ks.take i) < ks[i].2.2.length) : tagB ks tag = (tag, (i : Int), tag - total (ks.take i)) := by
  obtain ⟨j, rfl⟩ : ∃ j : Nat, tag = ((total (ks.take i) + j : Nat) : Int) := ⟨(tag - total (ks.take i)).toNat, by omega⟩
  have hj : j < ks[i].2.2.length := by omega
  have hp : ahead ks i j ++ [⟨total (ks.take i) + j, i, j, ks[i].2.2[j]⟩] <+: spots 0 0 ks := by rw [← ahead_step hi hj]; exact ahead_prefix hi hj
  unfold tagB
  rw [find_pre (x := ⟨total (ks.take i) + j, i, j, ks[i].2.2[j]⟩) hp]
  · simp [place]; omega
  · intro y hy
    unfold tagged
    rw [decide_eq_false]
    unfold ahead at hy
    rw [List.getElem?_eq_getElem hi] at hy
    simp only [Option.map_some, Option.getD_some, List.mem_append] at hy
    rcases hy with hy | hy
    · have := spots_tag hy; omega
    · have := spotsC_tag hy
      rw [List.length_take, Nat.min_eq_left (Nat.le_of_lt hj)] at this
      omega
  · simp [tagged]
theorem tag_none {ks : List DataD} {tag : Int} (h : tag < 0 ∨ (total ks : Int) ≤ tag) : tagB ks tag = (-1, -1, -1) := by
  unfold tagB
  rw [find_no]
  · rfl
  · intro y hy
    have := spots_tag hy
    simp [tagged]; omega

end Go.Proofs.YtpdmdcoaaboikaaGreatDoor.data
