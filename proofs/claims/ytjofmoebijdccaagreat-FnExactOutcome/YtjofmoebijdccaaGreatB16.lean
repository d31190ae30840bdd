/-
  What is right of a heap (chapter 17): told in plain data; no program named.
  The cons of a list of datas, each with its place: how many are ahead of it, in which data, which one of its cons. No program.
  What a word of a heap stands for as a value (chapter 20): told in plain data; no program is named.
-/
import Derived.Test.YtjofmoebijdccaaGreatB1
import Derived.Test.YtjofmoebijdccaaGreatB2
import Derived.Test.YtjofmoebijdccaaGreatB3
import Derived.Test.YtjofmoebijdccaaGreatB4
import Derived.Test.YtjofmoebijdccaaGreatB5
import Derived.Test.YtjofmoebijdccaaGreatB6
import Derived.Test.YtjofmoebijdccaaGreatB7
import Derived.Test.YtjofmoebijdccaaGreatB8
import Derived.Test.YtjofmoebijdccaaGreatB9
import Derived.Test.YtjofmoebijdccaaGreatB10
import Derived.Test.YtjofmoebijdccaaGreatB11
import Derived.Test.YtjofmoebijdccaaGreatB12
import Derived.Test.YtjofmoebijdccaaGreatB13
import Derived.Test.YtjofmoebijdccaaGreatB14
import Derived.Test.YtjofmoebijdccaaGreatB15
namespace Go.Proofs.YtjofmoebijdccaaGreat.heap
open Go Go.RowKit Go.Proofs.YtjofmoebijdccaaGreat.rose Go.Proofs.YtjofmoebijdccaaGreat Go.Proofs.YtjofmoebijdccaaGreat.fun
set_option linter.unusedVariables false

/-- The parts of a header. -/
def funF (h : Int) : Bool := decide (h / 2 % 2 = 1)
def tagF (h : Int) : Int := Int.tdiv (h / 2 / 2) 64
def manyF (h : Int) : Int := h / 2 / 2 % 64
theorem many_in (h : Int) : 0 ≤ manyF h ∧ manyF h ≤ 63 := by unfold manyF; omega
/-- Whether it is no header of a block that there is room for. -/
def badH (h room : Int) : Bool := decide (h < 0) || decide (h % 2 = 0) || decide (3000 < tagF h) || decide (20 < manyF h) || decide (room ≤ manyF h)
/-- The places of blocks from p on; whether they are one behind the other. -/
def plF (W : List Int) (nx : Nat) (p : Nat) : List Int × Bool :=
  if h : p < nx then
    if badH (W.getD p 0) ((nx : Int) - p) then ([], false)
    else ((p : Int) :: (plF W nx (p + 1 + (manyF (W.getD p 0)).toNat)).1, (plF W nx (p + 1 + (manyF (W.getD p 0)).toNat)).2)
  else ([], true)
termination_by nx - p
decreasing_by all_goals omega
theorem plF_end {W : List Int} {nx p : Nat} (h : nx ≤ p) : plF W nx p = ([], true) := by rw [plF, dif_neg (by omega)]
theorem plF_bad {W : List Int} {nx p : Nat} (h : p < nx) (hb : badH (W.getD p 0) ((nx : Int) - p) = true) : plF W nx p = ([], false) := by rw [plF, dif_pos h, if_pos hb]
theorem plF_more {W : List Int} {nx p : Nat} (h : p < nx) (hb : badH (W.getD p 0) ((nx : Int) - p) = false) : plF W nx p = ((p : Int) :: (plF W nx (p + 1 + (manyF (W.getD p 0)).toNat)).1, (plF W nx (p + 1 + (manyF (W.getD p 0)).toNat)).2) := by
  rw [plF, dif_pos h, hb]; simp
/-- What is known of such a place: its block lies ahead of nx. -/
theorem plF_in {W : List Int} {nx : Nat} : ∀ {p : Nat}, (plF W nx p).2 = true → ∀ x ∈ (plF W nx p).1, ∃ q : Nat, x = q ∧ p ≤ q ∧ q + (manyF (W.getD q 0)).toNat < nx := by
  intro p
  induction hd : nx - p using Nat.strongRecOn generalizing p with
  | _ d ih =>
    intro hok x hx
    by_cases hp : p < nx
    · rcases hb : badH (W.getD p 0) ((nx : Int) - p) with _ | _
      · rw [plF_more hp hb] at hok hx
        rcases List.mem_cons.1 hx with rfl | hx
        · refine ⟨p, rfl, Nat.le_refl _, ?_⟩
          have hm := many_in (W.getD p 0)
          unfold badH at hb
          simp only [Bool.or_eq_false_iff, decide_eq_false_iff_not] at hb
          omega
        · obtain ⟨q, rfl, h1, h2⟩ := ih (nx - (p + 1 + (manyF (W.getD p 0)).toNat)) (by omega) rfl hok x hx
          exact ⟨q, rfl, by omega, h2⟩
      · rw [plF_bad hp hb] at hok; cases hok
    · rw [plF_end (by omega)] at hx; cases hx
theorem plF_len {W : List Int} {nx : Nat} : ∀ {p : Nat}, (plF W nx p).1.length ≤ nx - p := by
  intro p
  induction hd : nx - p using Nat.strongRecOn generalizing p with
  | _ d ih =>
    by_cases hp : p < nx
    · rcases hb : badH (W.getD p 0) ((nx : Int) - p) with _ | _
      · rw [plF_more hp hb, List.length_cons]
        have := ih (nx - (p + 1 + (manyF (W.getD p 0)).toNat)) (by omega) rfl
        omega
      · rw [plF_bad hp hb]; simp
    · rw [plF_end (by omega)]; simp
/-- Whether a word is an int of a word, or one of those places. -/
def thereB (l : List Int) (x : Int) : Bool := if x % 2 = 0 then decide (x / 2 ∈ l) else inB (x / 2) (-1073741824) 1073741823
/-- Whether a heap's numbers are right. -/
def headB (T : HeapD) : Bool := inB T.2.1 1 3000 && decide ((T.1.length : Int) = 2 * T.2.1) && (decide (T.2.2.1 = 0) || decide (T.2.2.1 = T.2.1)) && inB T.2.2.2 T.2.2.1 (T.2.2.1 + T.2.1)
/-- Its blocks' places. -/
def plT (T : HeapD) : List Int × Bool := plF T.1 T.2.2.2.toNat T.2.2.1.toNat
/-- Whether the kids of the block at q are right. -/
def kidsB (T : HeapD) (q : Nat) : Bool := (List.range (manyF (T.1.getD q 0)).toNat).all fun k => thereB (plT T).1 (T.1.getD (q + 1 + k) 0)
def heapB (T : HeapD) : Bool := headB T && (plT T).2 && (plT T).1.all fun x => kidsB T x.toNat
theorem kids_no {T : HeapD} {q k : Nat} (hk : k < (manyF (T.1.getD q 0)).toNat) (h : thereB (plT T).1 (T.1.getD (q + 1 + k) 0) = false) : kidsB T q = false := by
  unfold kidsB; rw [List.all_eq_false]; exact ⟨k, List.mem_range.2 hk, by rw [h]; decide⟩
theorem kids_yes {T : HeapD} {q : Nat} (h : ∀ k, k < (manyF (T.1.getD q 0)).toNat → thereB (plT T).1 (T.1.getD (q + 1 + k) 0) = true) : kidsB T q = true := by
  unfold kidsB; rw [List.all_eq_true]; exact fun k hk => h k (List.mem_range.1 hk)
theorem heapB_head {T : HeapD} (h : headB T = false) : heapB T = false := by unfold heapB; rw [h]; rfl
theorem heapB_places {T : HeapD} (h : (plT T).2 = false) : heapB T = false := by unfold heapB; rw [h]; simp
theorem heapB_kids {T : HeapD} {i : Nat} (hi : i < (plT T).1.length) (h : kidsB T ((plT T).1[i]).toNat = false) : heapB T = false := by
  unfold heapB
  have : ((plT T).1.all fun x => kidsB T x.toNat) = false := by rw [List.all_eq_false]; exact ⟨_, List.getElem_mem hi, by simp [h]⟩
  rw [this]; simp
theorem heapB_yes {T : HeapD} (h1 : headB T = true) (h2 : (plT T).2 = true) (h3 : ∀ i (hi : i < (plT T).1.length), kidsB T ((plT T).1[i]).toNat = true) : heapB T = true := by
  unfold heapB
  have : ((plT T).1.all fun x => kidsB T x.toNat) = true := by
    rw [List.all_eq_true]
    intro x hx
    obtain ⟨i, hi, rfl⟩ := List.getElem_of_mem hx
    exact h3 i hi
  rw [this, h1, h2]; rfl
theorem head_in {T : HeapD} (h : headB T = true) : 1 ≤ T.2.1 ∧ T.2.1 ≤ 3000 ∧ (T.1.length : Int) = 2 * T.2.1 ∧ (T.2.2.1 = 0 ∨ T.2.2.1 = T.2.1) ∧ T.2.2.1 ≤ T.2.2.2 ∧ T.2.2.2 ≤ T.2.2.1 + T.2.1 := by
  unfold headB at h
  simp only [Bool.and_eq_true, Bool.or_eq_true, decide_eq_true_eq] at h
  have h1 := inB_yes h.1.1.1
  have h2 := inB_yes h.2
  exact ⟨h1.1, h1.2, h.1.1.2, h.1.2, h2.1, h2.2⟩

end Go.Proofs.YtjofmoebijdccaaGreat.heap

namespace Go.Proofs.YtjofmoebijdccaaGreat.data
open Go.RowKit Go.Proofs.YtjofmoebijdccaaGreat.rose Go.Proofs.YtjofmoebijdccaaGreat
set_option linter.unusedVariables false

/-- A con and where it stands. -/
structure Spot where
  tag : Nat
  i : Nat
  j : Nat
  c : con.ConD

def spotsC (t i j : Nat) : List con.ConD → List Spot
  | [] => []
  | c :: cs => ⟨t, i, j, c⟩ :: spotsC (t + 1) i (j + 1) cs
def spots (t i : Nat) : List DataD → List Spot
  | [] => []
  | d :: ds => spotsC t i 0 d.2.2 ++ spots (t + d.2.2.length) (i + 1) ds
def total : List DataD → Nat
  | [] => 0
  | d :: ds => d.2.2.length + total ds

theorem spotsC_append (t i j : Nat) (xs ys : List con.ConD) : spotsC t i j (xs ++ ys) = spotsC t i j xs ++ spotsC (t + xs.length) i (j + xs.length) ys := by
  induction xs generalizing t j with
  | nil => simp [spotsC]
  | cons x xs ih => simp [spotsC, ih]; congr 1 <;> omega
theorem spots_append (t i : Nat) (xs ys : List DataD) : spots t i (xs ++ ys) = spots t i xs ++ spots (t + total xs) (i + xs.length) ys := by
  induction xs generalizing t i with
  | nil => simp [spots, total]
  | cons x xs ih => simp [spots, total, ih, Nat.add_assoc]; congr 1; omega
theorem spotsC_length (t i j : Nat) (xs : List con.ConD) : (spotsC t i j xs).length = xs.length := by
  induction xs generalizing t j with
  | nil => rfl
  | cons x xs ih => simp [spotsC, ih]
theorem spots_length (t i : Nat) (xs : List DataD) : (spots t i xs).length = total xs := by
  induction xs generalizing t i with
  | nil => rfl
  | cons x xs ih => simp [spots, total, ih, spotsC_length]
theorem total_append (xs ys : List DataD) : total (xs ++ ys) = total xs + total ys := by
  induction xs with
  | nil => simp [total]
  | cons x xs ih => simp [total, ih]; omega
theorem total_le (xs : List DataD) : total xs ≤ wts xs := by
  induction xs with
  | nil => simp [total]
  | cons x xs ih =>
    obtain ⟨x0, x1, x2⟩ := x
    simp [total, wts, wt]; omega
theorem total_take {ks : List DataD} {i : Nat} (h : i < ks.length) : total (ks.take (i + 1)) = total (ks.take i) + ks[i].2.2.length := by
  rw [List.take_succ_eq_append_getElem h, total_append]; simp [total]
theorem total_take_le (ks : List DataD) (i : Nat) : total (ks.take i) ≤ total ks := by
  induction ks generalizing i with
  | nil => simp [total]
  | cons k ks ih =>
    cases i with
    | zero => simp [total]
    | succ i => simp [total]; exact ih i

/-- Those ahead of con j of data i. -/
def ahead (ks : List DataD) (i j : Nat) : List Spot := spots 0 0 (ks.take i) ++ spotsC (total (ks.take i)) i 0 (((ks[i]?.map (·.2.2)).getD []).take j)

theorem ahead_zero (ks : List DataD) (i : Nat) : ahead ks i 0 = spots 0 0 (ks.take i) := by simp [ahead, spotsC]
theorem ahead_start (ks : List DataD) : ahead ks 0 0 = [] := by simp [ahead, spots, spotsC]
theorem ahead_step {ks : List DataD} {i j : Nat} (hi : i < ks.length) (hj : j < ks[i].2.2.length) : ahead ks i (j + 1) = ahead ks i j ++ [⟨total (ks.take i) + j, i, j, ks[i].2.2[j]⟩] := by
  unfold ahead
  rw [List.getElem?_eq_getElem hi]
  simp only [Option.map_some, Option.getD_some]
  rw [List.take_succ_eq_append_getElem hj, spotsC_append]
  simp [spotsC, Nat.min_eq_left (Nat.le_of_lt hj)]
theorem ahead_next {ks : List DataD} {i : Nat} (hi : i < ks.length) : ahead ks i ks[i].2.2.length = ahead ks (i + 1) 0 := by
  rw [ahead_zero]
  unfold ahead
  rw [List.getElem?_eq_getElem hi]
  simp only [Option.map_some, Option.getD_some, List.take_length]
  rw [List.take_succ_eq_append_getElem hi, spots_append]
  simp [spots, Nat.min_eq_left (Nat.le_of_lt hi)]
theorem ahead_end (ks : List DataD) : ahead ks ks.length 0 = spots 0 0 ks := by rw [ahead_zero, List.take_length]
theorem ahead_pre (ks : List DataD) (i : Nat) : ahead ks i 0 <+: spots 0 0 ks := by
  rw [ahead_zero]
  conv => rhs; rw [← List.take_append_drop i ks, spots_append]
  exact List.prefix_append _ _
theorem ahead_prefix {ks : List DataD} {i j : Nat} (hi : i < ks.length) (hj : j ≤ ks[i].2.2.length) : ahead ks i j <+: spots 0 0 ks := by
  refine List.IsPrefix.trans ?_ (ahead_pre ks (i + 1))
  rw [← ahead_next hi]
  unfold ahead
  rw [List.getElem?_eq_getElem hi]
  simp only [Option.map_some, Option.getD_some, List.take_length]
  rw [List.prefix_append_right_inj]
  conv => rhs; rw [← List.take_append_drop j ks[i].2.2, spotsC_append]
  exact List.prefix_append _ _
theorem ahead_length {ks : List DataD} {i j : Nat} (hi : i < ks.length) (hj : j ≤ ks[i].2.2.length) : (ahead ks i j).length = total (ks.take i) + j := by
  unfold ahead
  rw [List.getElem?_eq_getElem hi]
  simp [spots_length, spotsC_length, Nat.min_eq_left hj]

/-- The first spot that is so. -/
theorem find_pre {l pre : List Spot} {x : Spot} {p : Spot → Bool} (h : pre ++ [x] <+: l) (hn : ∀ y ∈ pre, p y = false) (hx : p x = true) : l.find? p = some x := by
  obtain ⟨r, rfl⟩ := h
  rw [List.append_assoc, List.find?_append, List.find?_eq_none.2 (by simpa using hn)]
  simp [hx]
theorem find_no {l : List Spot} {p : Spot → Bool} (h : ∀ y ∈ l, p y = false) : l.find? p = none := List.find?_eq_none.2 (by simpa using h)

def named (name : ByteArray) (s : Spot) : Bool := s.c.1.toList == name.toList
def tagged (tag : Int) (s : Spot) : Bool := decide ((s.tag : Int) = tag)

def place (s : Option Spot) : Int × Int × Int := match s with
  | some s => ((s.tag : Int), (s.i : Int), (s.j : Int))
  | none => (-1, -1, -1)
def placeB (ks : List DataD) (name : ByteArray) : Int × Int × Int := place ((spots 0 0 ks).find? (named name))
def tagB (ks : List DataD) (tag : Int) : Int × Int × Int := place ((spots 0 0 ks).find? (tagged tag))

theorem spotsC_tag {t i j : Nat} {xs : List con.ConD} {s : Spot} (h : s ∈ spotsC t i j xs) : t ≤ s.tag ∧ s.tag < t + xs.length := by
  induction xs generalizing t j with
  | nil => simp [spotsC] at h
  | cons x xs ih =>
    simp only [spotsC, List.mem_cons] at h
    rcases h with rfl | h
    · simp
    · have := ih h; simp; omega
theorem spots_tag {t i : Nat} {xs : List DataD} {s : Spot} (h : s ∈ spots t i xs) : t ≤ s.tag ∧ s.tag < t + total xs := by
  induction xs generalizing t i with
  | nil => simp [spots] at h
  | cons x xs ih =>
    simp only [spots, List.mem_append] at h
    rcases h with h | h
    · have := spotsC_tag h; simp [total]; omega
    · have := ih h; simp [total]; omega
/-- A tag that is within data i's. -/
theorem tag_at {ks : List DataD} {i : Nat} (hi : i < ks.length) {tag : Int} (h1 : (total (ks.take i) : Int) ≤ tag) (h2 : tag - total (ks.take i) < ks[i].2.2.length) : tagB ks tag = (tag, (i : Int), tag - total (ks.take i)) := by
  obtain ⟨j, rfl⟩ : ∃ j : Nat, tag = ((total (ks.take i) + j : Nat) : Int) := ⟨(tag - total (ks.take i)).toNat, by omega⟩
  have hj : j < ks[i].2.2.length := by omega
  have hp : ahead ks i j ++ [⟨total (ks.take i) + j, i, j, ks[i].2.2[j]⟩] <+: spots 0 0 ks := by rw [← ahead_step hi hj]; exact ahead_prefix hi hj
  unfold tagB
  rw [find_pre (x := ⟨total (ks.take i) + j, i, j, ks[i].2.2[j]⟩) hp]
  · simp [place]; omega
  · intro y hy
    unfold tagged
    rw [decide_eq_false]
    unfold ahead at hy
    rw [List.getElem?_eq_getElem hi] at hy
    simp only [Option.map_some, Option.getD_some, List.mem_append] at hy
    rcases hy with hy | hy
    · have := spots_tag hy; omega
    · have := spotsC_tag hy
      rw [List.length_take, Nat.min_eq_left (Nat.le_of_lt hj)] at this
      omega
  · simp [tagged]
theorem tag_none {ks : List DataD} {tag : Int} (h : tag < 0 ∨ (total ks : Int) ≤ tag) : tagB ks tag = (-1, -1, -1) := by
  unfold tagB
  rw [find_no]
  · rfl
  · intro y hy
    have := spots_tag hy
    simp [tagged]; omega

end Go.Proofs.YtjofmoebijdccaaGreat.data

namespace Go.Proofs.YtjofmoebijdccaaGreat.back
open Go Go.RowKit Go.Proofs.YtjofmoebijdccaaGreat.rose Go.Proofs.YtjofmoebijdccaaGreat Go.Proofs.YtjofmoebijdccaaGreat.heap
set_option linter.unusedVariables false

abbrev VD := value.ValueD
abbrev PD := value.Pay

/-- A row of words, one behind the other, told by f, which says how many values are left. -/
def rowB (f : Nat → Int → Option (VD × Nat)) : Nat → List Int → Option (List VD × Nat)
  | r, [] => some ([], r)
  | r, x :: xs => match f r x with
    | none => none
    | some v => match rowB f v.2 xs with
      | none => none
      | some vs => some (v.1 :: vs.1, vs.2)
/-- A word, by what stands on top of it (g), at most d within each other, with r values left. -/
def backD (g : Int → Option (PD × List Int)) : Nat → Nat → Int → Option (VD × Nat)
  | 0, _, _ => none
  | d + 1, r, x => if r = 0 then none else match g x with
    | none => none
    | some p => match rowB (backD g d) (r - 1) p.2 with
      | none => none
      | some vs => some (.mk p.1 vs.1, vs.2)
/-- A con's name and how many kids it has, by its tag. -/
def conAt (ks : List data.DataD) (tag : Int) : Option data.Spot := (data.spots 0 0 ks).find? (data.tagged tag)
/-- What stands on top of a word, and the words of its kids. -/
def topB (ks : List data.DataD) (T : HeapD) (x : Int) : Option (PD × List Int) :=
  if x % 2 = 0 then
    if x / 2 ∈ (plT T).1 then
      if funF (T.1.getD (x / 2).toNat 0) then some ((3, 0, ⟨#[]⟩), [])
      else match conAt ks (tagF (T.1.getD (x / 2).toNat 0)) with
        | none => none
        | some s => if (s.c.2.length : Int) = manyF (T.1.getD (x / 2).toNat 0) then some ((2, 0, s.c.1), (T.1.drop ((x / 2).toNat + 1)).take s.c.2.length) else none
    else none
  else some ((1, x / 2, ⟨#[]⟩), [])
def zeroV : VD := .mk (0, 0, ⟨#[]⟩) []
def backF (ks : List data.DataD) (T : HeapD) (x : Int) : VD × Bool :=
  if heapB T = true then match backD (topB ks T) 200 4000 x with
    | some v => (v.1, true)
    | none => (zeroV, false)
  else (zeroV, false)

/-! ### Each way -/
theorem back_zero (g : Int → Option (PD × List Int)) (r : Nat) (x : Int) : backD g 0 r x = none := rfl
theorem back_full (g : Int → Option (PD × List Int)) (d : Nat) (x : Int) : backD g d 0 x = none := by cases d <;> simp [backD]
theorem back_none {g : Int → Option (PD × List Int)} {d r : Nat} {x : Int} (h : g x = none) : backD g d r x = none := by
  cases d with
  | zero => rfl
  | succ d => simp only [backD, h]; split <;> rfl
theorem back_leaf {g : Int → Option (PD × List Int)} {d r : Nat} {x : Int} {p : PD} (h : g x = some (p, [])) : backD g (d + 1) (r + 1) x = some (.mk p [], r) := by
  simp [backD, h, rowB]
theorem back_row {g : Int → Option (PD × List Int)} {d r : Nat} {x : Int} {p : PD} {xs : List Int} {vs : List VD} {q : Nat} (h : g x = some (p, xs)) (hr : rowB (backD g d) r xs = some (vs, q)) : backD g (d + 1) (r + 1) x = some (.mk p vs, q) := by
  simp [backD, h, hr]
theorem back_rowno {g : Int → Option (PD × List Int)} {d r : Nat} {x : Int} {p : PD} {xs : List Int} (h : g x = some (p, xs)) (hr : rowB (backD g d) r xs = none) : backD g (d + 1) (r + 1) x = none := by
  simp [backD, h, hr]

/-! ### How many are left -/
theorem row_left {f : Nat → Int → Option (VD × Nat)} (hf : ∀ r x v q, f r x = some (v, q) → q ≤ r) {xs : List Int} {r q : Nat} {vs : List VD} (h : rowB f r xs = some (vs, q)) : q ≤ r := by
  induction xs generalizing r vs with
  | nil => simp only [rowB, Option.some.injEq, Prod.mk.injEq] at h; omega
  | cons x xs ih =>
    simp only [rowB] at h
    split at h
    · cases h
    · rename_i v hv
      split at h
      · cases h
      · rename_i vs' hvs
        simp only [Option.some.injEq, Prod.mk.injEq] at h
        have h1 := hf r x v.1 v.2 hv
        have h2 := ih (vs := vs'.1) (r := v.2) (by rw [hvs, ← h.2])
        omega
theorem back_left {g : Int → Option (PD × List Int)} {d r : Nat} {x : Int} {v : VD} {q : Nat} (h : backD g d r x = some (v, q)) : q ≤ r := by
  induction d generalizing r x v q with
  | zero => cases h
  | succ d ih =>
    simp only [backD] at h
    split at h
    · cases h
    · split at h
      · cases h
      · split at h
        · cases h
        · rename_i vs hvs
          simp only [Option.some.injEq, Prod.mk.injEq] at h
          have := row_left (fun r x v q hh => ih (r := r) (x := x) (v := v) (q := q) hh) (vs := vs.1) (q := vs.2) hvs
          omega

/-! ### A row from the left -/
/-- Where a row stands: its first words are vs, and r values are left. -/
def Stand (f : Nat → Int → Option (VD × Nat)) (r0 : Nat) (xs : List Int) (i : Nat) (vs : List VD) (r : Nat) : Prop :=
  vs.length = i ∧ i ≤ xs.length ∧ rowB f r0 xs = (rowB f r (xs.drop i)).map fun t => (vs ++ t.1, t.2)
theorem Stand.start (f : Nat → Int → Option (VD × Nat)) (r0 : Nat) (xs : List Int) : Stand f r0 xs 0 [] r0 := by
  refine ⟨rfl, Nat.zero_le _, ?_⟩
  rw [List.drop_zero]
  cases rowB f r0 xs <;> rfl
theorem Stand.step {f : Nat → Int → Option (VD × Nat)} {r0 : Nat} {xs : List Int} {i : Nat} {vs : List VD} {r q : Nat} {v : VD} (h : Stand f r0 xs i vs r) (hi : i < xs.length) (hv : f r xs[i] = some (v, q)) : Stand f r0 xs (i + 1) (vs ++ [v]) q := by
  obtain ⟨h1, h2, h3⟩ := h
  refine ⟨by simp [h1], hi, ?_⟩
  rw [h3, List.drop_eq_getElem_cons hi]
  simp only [rowB, hv]
  cases rowB f q (xs.drop (i + 1)) <;> simp
theorem Stand.fail {f : Nat → Int → Option (VD × Nat)} {r0 : Nat} {xs : List Int} {i : Nat} {vs : List VD} {r : Nat} (h : Stand f r0 xs i vs r) (hi : i < xs.length) (hv : f r xs[i] = none) : rowB f r0 xs = none := by
  obtain ⟨h1, h2, h3⟩ := h
  rw [h3, List.drop_eq_getElem_cons hi]
  simp only [rowB, hv, Option.map_none]
theorem Stand.done {f : Nat → Int → Option (VD × Nat)} {r0 : Nat} {xs : List Int} {vs : List VD} {r : Nat} (h : Stand f r0 xs xs.length vs r) : rowB f r0 xs = some (vs, r) := by
  obtain ⟨h1, h2, h3⟩ := h
  rw [h3, List.drop_length]
  simp [rowB]
theorem stand_left {g : Int → Option (PD × List Int)} {d r0 i r : Nat} {xs : List Int} {vs : List VD} (h : Stand (backD g d) r0 xs i vs r) {v : VD} {q : Nat} (hi : i < xs.length) (hv : backD g d r xs[i] = some (v, q)) : q ≤ r := back_left hv

/-! ### What stands on top, each way -/
section
variable {ks : List data.DataD} {T : HeapD} {x : Int}
theorem top_int (h : ¬ x % 2 = 0) : topB ks T x = some ((1, x / 2, ⟨#[]⟩), []) := by unfold topB; rw [if_neg h]
theorem top_nowhere (h : x % 2 = 0) (h2 : ¬ x / 2 ∈ (plT T).1) : topB ks T x = none := by unfold topB; rw [if_pos h, if_neg h2]
theorem top_fun (h : x % 2 = 0) (h2 : x / 2 ∈ (plT T).1) (h3 : funF (T.1.getD (x / 2).toNat 0) = true) : topB ks T x = some ((3, 0, ⟨#[]⟩), []) := by unfold topB; rw [if_pos h, if_pos h2, if_pos h3]
theorem top_nocon (h : x % 2 = 0) (h2 : x / 2 ∈ (plT T).1) (h3 : funF (T.1.getD (x / 2).toNat 0) = false) (h4 : conAt ks (tagF (T.1.getD (x / 2).toNat 0)) = none) : topB ks T x = none := by
  unfold topB; rw [if_pos h, if_pos h2, h3, h4]; simp
theorem top_other {s : data.Spot} (h : x % 2 = 0) (h2 : x / 2 ∈ (plT T).1) (h3 : funF (T.1.getD (x / 2).toNat 0) = false) (h4 : conAt ks (tagF (T.1.getD (x / 2).toNat 0)) = some s) (h5 : ¬ (s.c.2.length : Int) = manyF (T.1.getD (x / 2).toNat 0)) : topB ks T x = none := by
  unfold topB; rw [if_pos h, if_pos h2, h3, h4]; simp only [Bool.false_eq_true, if_false, h5]
theorem top_con {s : data.Spot} (h : x % 2 = 0) (h2 : x / 2 ∈ (plT T).1) (h3 : funF (T.1.getD (x / 2).toNat 0) = false) (h4 : conAt ks (tagF (T.1.getD (x / 2).toNat 0)) = some s) (h5 : (s.c.2.length : Int) = manyF (T.1.getD (x / 2).toNat 0)) :
    topB ks T x = some ((2, 0, s.c.1), (T.1.drop ((x / 2).toNat + 1)).take s.c.2.length) := by
  unfold topB; rw [if_pos h, if_pos h2, h3, h4]; simp only [Bool.false_eq_true, if_false, if_true, h5]
end

/-! ### A con by its tag -/
theorem spotsC_mem {t i j : Nat} {xs : List con.ConD} {s : data.Spot} (h : s ∈ data.spotsC t i j xs) : ∃ q, ∃ hq : q < xs.length, s = ⟨t + q, i, j + q, xs[q]⟩ := by
  induction xs generalizing t j with
  | nil => simp [data.spotsC] at h
  | cons x xs ih =>
    simp only [data.spotsC, List.mem_cons] at h
    rcases h with rfl | h
    · exact ⟨0, by simp, rfl⟩
    · obtain ⟨q, hq, rfl⟩ := ih h
      exact ⟨q + 1, by simpa using hq, by simp; omega⟩
theorem spots_mem {t i : Nat} {xs : List data.DataD} {s : data.Spot} (h : s ∈ data.spots t i xs) : ∃ p q, ∃ hp : p < xs.length, ∃ hq : q < xs[p].2.2.length, s.i = i + p ∧ s.j = q ∧ s.c = xs[p].2.2[q] := by
  induction xs generalizing t i with
  | nil => simp [data.spots] at h
  | cons x xs ih =>
    simp only [data.spots, List.mem_append] at h
    rcases h with h | h
    · obtain ⟨q, hq, rfl⟩ := spotsC_mem h
      exact ⟨0, q, by simp, by simpa using hq, by simp, by simp, rfl⟩
    · obtain ⟨p, q, hp, hq, h1, h2, h3⟩ := ih h
      exact ⟨p + 1, q, by simpa using hp, by simpa using hq, by omega, h2, by simpa using h3⟩
theorem con_spot {ks : List data.DataD} {tag : Int} {s : data.Spot} (h : conAt ks tag = some s) : data.tagB ks tag = ((s.tag : Int), (s.i : Int), (s.j : Int)) ∧ ∃ hi : s.i < ks.length, ∃ hj : s.j < ks[s.i].2.2.length, ks[s.i].2.2[s.j] = s.c := by
  refine ⟨by unfold data.tagB; unfold conAt at h; rw [h]; rfl, ?_⟩
  obtain ⟨p, q, hp, hq, h1, h2, h3⟩ := spots_mem (List.mem_of_find?_eq_some h)
  rw [Nat.zero_add] at h1
  subst h1 h2
  exact ⟨hp, hq, h3.symm⟩
theorem con_nowhere {ks : List data.DataD} {tag : Int} (h : conAt ks tag = none) : data.tagB ks tag = (-1, -1, -1) := by unfold data.tagB; unfold conAt at h; rw [h]; rfl
/-- The con with a tag is the one that so many are ahead of. -/
theorem spotsC_get {t i j q : Nat} {xs : List con.ConD} (h : q < (data.spotsC t i j xs).length) : (data.spotsC t i j xs)[q].tag = t + q := by
  induction xs generalizing t j q with
  | nil => simp [data.spotsC] at h
  | cons x xs ih =>
    cases q with
    | zero => simp [data.spotsC]
    | succ q => simp only [data.spotsC, List.getElem_cons_succ]; rw [ih]; omega
theorem spots_get {t i q : Nat} {xs : List data.DataD} (h : q < (data.spots t i xs).length) : (data.spots t i xs)[q].tag = t + q := by
  induction xs generalizing t i q with
  | nil => simp [data.spots] at h
  | cons x xs ih =>
    simp only [data.spots] at h ⊢
    rcases Nat.lt_or_ge q (data.spotsC t i 0 x.2.2).length with hq | hq
    · rw [List.getElem_append_left hq, spotsC_get]
    · rw [List.getElem_append_right hq, ih]
      rw [data.spotsC_length] at hq ⊢
      omega
theorem con_get {ks : List data.DataD} {n : Nat} (h : n < (data.spots 0 0 ks).length) : conAt ks (n : Int) = some (data.spots 0 0 ks)[n] := by
  unfold conAt
  have hp : (data.spots 0 0 ks).take n ++ [(data.spots 0 0 ks)[n]] <+: data.spots 0 0 ks := by
    rw [← List.take_succ_eq_append_getElem h]; exact List.take_prefix _ _
  refine data.find_pre hp (fun y hy => ?_) (by unfold data.tagged; rw [spots_get h]; simp)
  obtain ⟨q, hq, rfl⟩ := List.getElem_of_mem hy
  rw [List.length_take] at hq
  unfold data.tagged
  rw [List.getElem_take, spots_get]
  simp
  omega
theorem con_out {ks : List data.DataD} {tag : Int} (h : tag < 0 ∨ ((data.spots 0 0 ks).length : Int) ≤ tag) : conAt ks tag = none := by
  unfold conAt
  refine data.find_no fun y hy => ?_
  obtain ⟨q, hq, rfl⟩ := List.getElem_of_mem hy
  unfold data.tagged
  rw [spots_get]
  simp
  omega

end Go.Proofs.YtjofmoebijdccaaGreat.back
