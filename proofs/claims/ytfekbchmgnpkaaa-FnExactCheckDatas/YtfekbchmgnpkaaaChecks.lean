/-
  What CheckDatas tells, as a function of the datas; the types of all cons and all that is within them. No program.
-/
import Derived.Test.YtfekbchmgnpkaaaSpots
import Derived.Laws.Strings
namespace Go.Proofs.Ytfekbchmgnpkaaa.data
open Go.RowKit Go.Proofs.Ytfekbchmgnpkaaa.rose Go.Proofs.Ytfekbchmgnpkaaa
set_option linter.unusedVariables false

mutual
/-- A type and all that is within it. -/
def withT : ty.TyD → List ty.TyD
  | .mk x ks => .mk x ks :: withS ks
def withS : List ty.TyD → List ty.TyD
  | [] => []
  | k :: ks => withT k ++ withS ks
end

theorem withT_eq (t : ty.TyD) : withT t = t :: withS t.kids := by cases t; simp [withT, Rose.kids]
theorem withS_append (xs ys : List ty.TyD) : withS (xs ++ ys) = withS xs ++ withS ys := by
  induction xs with
  | nil => simp [withS]
  | cons x xs ih => simp [withS, ih]
theorem withS_one (t : ty.TyD) : withS [t] = withT t := by simp [withS]
theorem withS_take {ks : List ty.TyD} {i : Nat} (h : i < ks.length) : withS (ks.take (i + 1)) = withS (ks.take i) ++ withT ks[i] := by
  rw [List.take_succ_eq_append_getElem h, withS_append, withS_one]
theorem mem_withS {ts : List ty.TyD} {y : ty.TyD} : y ∈ withS ts ↔ ∃ t ∈ ts, y ∈ withT t := by
  induction ts with
  | nil => simp [withS]
  | cons t ts ih => simp [withS, ih]
theorem self_mem (t : ty.TyD) : t ∈ withT t := by rw [withT_eq]; simp
theorem roots_mem {ts : List ty.TyD} {t : ty.TyD} (h : t ∈ ts) : t ∈ withS ts := mem_withS.2 ⟨t, h, self_mem t⟩
theorem kid_mem (t : ty.TyD) : ∀ y ∈ withT t, ∀ k ∈ y.kids, k ∈ withT t := by
  induction t using ind with
  | h x ks ih =>
    intro y hy k hk
    rw [withT_eq] at hy ⊢
    rcases List.mem_cons.1 hy with rfl | hy
    · exact List.mem_cons_of_mem _ (roots_mem hk)
    · obtain ⟨t, ht, hyt⟩ := mem_withS.1 hy
      exact List.mem_cons_of_mem _ (mem_withS.2 ⟨t, ht, ih t ht y hyt k hk⟩)
theorem kid_memS {ts : List ty.TyD} {y k : ty.TyD} (hy : y ∈ withS ts) (hk : k ∈ y.kids) : k ∈ withS ts := by
  obtain ⟨t, ht, hyt⟩ := mem_withS.1 hy
  exact mem_withS.2 ⟨t, ht, kid_mem t y hyt k hk⟩
theorem closed {Y : ty.TyD → Prop} (h : ∀ y, Y y → ∀ k ∈ y.kids, Y k) (t : ty.TyD) : Y t → ∀ y ∈ withT t, Y y := by
  induction t using ind with
  | h x ks ih =>
    intro ht y hy
    rw [withT_eq] at hy
    rcases List.mem_cons.1 hy with rfl | hy
    · exact ht
    · obtain ⟨k, hk, hyk⟩ := mem_withS.1 hy
      exact ih k hk (h _ ht k hk) y hyk
theorem withT_le (t : ty.TyD) : (withT t).length ≤ ty.wt t + 1 := by
  induction t using ind with
  | h x ks ih =>
    obtain ⟨x0, x1, x2⟩ := x
    have : (withS ks).length ≤ ks.length + ty.wts ks := by
      clear x0 x1 x2
      induction ks with
      | nil => simp [withS]
      | cons k ks ih2 =>
        have h1 := ih k (by simp)
        have h2 := ih2 fun q hq => ih q (by simp [hq])
        simp [withS, ty.wts]
        omega
    simp [withT, ty.wt]
    omega
theorem withS_le (ks : List ty.TyD) : (withS ks).length ≤ ks.length + ty.wts ks := by
  induction ks with
  | nil => simp [withS]
  | cons k ks ih =>
    have h1 := withT_le k
    simp [withS, ty.wts]
    omega

/-- The types of cons, and all that is within them. -/
def typesP (l : List Spot) : List ty.TyD := l.flatMap fun s => withS s.c.2
def typesL (ks : List DataD) : List ty.TyD := typesP (spots 0 0 ks)
theorem typesP_append (a b : List Spot) : typesP (a ++ b) = typesP a ++ typesP b := by simp [typesP]
theorem typesP_one (s : Spot) : typesP [s] = withS s.c.2 := by simp [typesP]

theorem spotsC_sum (t i j : Nat) (cs : List con.ConD) : (typesP (spotsC t i j cs)).length ≤ con.wts cs := by
  induction cs generalizing t j with
  | nil => simp [spotsC, typesP]
  | cons c cs ih =>
    obtain ⟨x0, x1⟩ := c
    have h1 := withS_le x1
    have h2 := ih (t + 1) (j + 1)
    simp only [spotsC]
    rw [← List.singleton_append, typesP_append, typesP_one]
    simp [con.wts, con.wt]
    omega
theorem spots_sum (t i : Nat) (ks : List DataD) : (typesP (spots t i ks)).length ≤ wts ks := by
  induction ks generalizing t i with
  | nil => simp [spots, typesP]
  | cons d ks ih =>
    obtain ⟨x0, x1, x2⟩ := d
    have h1 := spotsC_sum t i 0 x2
    have h2 := ih (t + x2.length) (i + 1)
    simp only [spots]
    rw [typesP_append]
    simp [wts, wt]
    omega
theorem typesL_le (ks : List DataD) : (typesL ks).length ≤ wts ks := spots_sum 0 0 ks

def namedD (s : ByteArray) (d : DataD) : Bool := d.1.toList == s.toList
/-- Is it no data's name, or one that is there (many: with as many types)? -/
def okN (ks : List DataD) (many : Bool) (t : ty.TyD) : Bool := !decide (t.x.1 = 4) || match ks.find? (namedD t.x.2.2) with
  | none => false
  | some d => !many || decide (d.2.1 = (t.kids.length : Int))

def namesOk (ks : List DataD) : Prop := (ks.map fun d => d.1.toList).Nodup
def consOk (l : List Spot) : Prop := (l.map fun s => s.c.1.toList).Nodup
instance (ks : List DataD) : Decidable (namesOk ks) := inferInstanceAs (Decidable (List.Nodup _))
instance (l : List Spot) : Decidable (consOk l) := inferInstanceAs (Decidable (List.Nodup _))

def checkB (ks : List DataD) : Int :=
  if !(decide (namesOk ks) && decide (consOk (spots 0 0 ks))) then 1
  else if !(typesL ks).all (okN ks false) then 2
  else if !((typesL ks).all (okN ks true) && decide (total ks ≤ 60)) then 3
  else 0

theorem nodup_snoc {α : Type} {l : List α} {x : α} : (l ++ [x]).Nodup ↔ l.Nodup ∧ x ∉ l := by
  rw [List.nodup_append]
  constructor
  · rintro ⟨h1, -, h3⟩
    exact ⟨h1, fun hx => h3 x hx x (by simp) rfl⟩
  · rintro ⟨h1, h2⟩
    exact ⟨h1, by simp, fun a ha b hb e => by simp at hb; subst hb; subst e; exact h2 ha⟩
theorem consOk_snoc {l : List Spot} {x : Spot} : consOk (l ++ [x]) ↔ consOk l ∧ ∀ y ∈ l, named x.c.1 y = false := by
  unfold consOk
  rw [List.map_append, List.map_cons, List.map_nil, nodup_snoc]
  refine and_congr_right fun _ => ?_
  simp only [List.mem_map, not_exists, not_and, named]
  exact ⟨fun h y hy => by simpa using h y hy, fun h y hy => by simpa using h y hy⟩
theorem namesOk_snoc {l : List DataD} {x : DataD} : namesOk (l ++ [x]) ↔ namesOk l ∧ ∀ y ∈ l, namedD x.1 y = false := by
  unfold namesOk
  rw [List.map_append, List.map_cons, List.map_nil, nodup_snoc]
  refine and_congr_right fun _ => ?_
  simp only [List.mem_map, not_exists, not_and, namedD]
  exact ⟨fun h y hy => by simpa using h y hy, fun h y hy => by simpa using h y hy⟩
theorem nodup_pre {α : Type} {a b : List α} (h : a <+: b) (hb : b.Nodup) : a.Nodup := by
  obtain ⟨r, rfl⟩ := h
  exact (List.nodup_append.1 hb).1
theorem consOk_pre {a b : List Spot} (h : a <+: b) (hb : consOk b) : consOk a := nodup_pre (h.map _) hb

theorem find_data {ks : List DataD} {s : ByteArray} {i : Nat} (hi : i < ks.length) (h : namedD s ks[i] = true) (hn : ∀ j (hj : j < i), namedD s ks[j] = false) : ks.find? (namedD s) = some ks[i] := by
  have e : ks = ks.take i ++ ks[i] :: ks.drop (i + 1) := by simp
  conv => lhs; rw [e]
  rw [List.find?_append, List.find?_eq_none.2]
  · rw [Option.none_or, List.find?_cons_of_pos h]
  · intro d hd
    obtain ⟨j, hj, rfl⟩ := List.getElem_of_mem hd
    simp only [List.length_take] at hj
    simp only [List.getElem_take]
    simp [hn j (by omega)]
theorem find_nodata {ks : List DataD} {s : ByteArray} (h : ∀ d ∈ ks, namedD s d = false) : ks.find? (namedD s) = none := List.find?_eq_none.2 (by simpa using h)

theorem okN_not {ks : List DataD} {many : Bool} {t : ty.TyD} (h : t.x.1 ≠ 4) : okN ks many t = true := by simp [okN, h]
theorem okN_none {ks : List DataD} {many : Bool} {t : ty.TyD} (h : t.x.1 = 4) (hn : ks.find? (namedD t.x.2.2) = none) : okN ks many t = false := by simp [okN, h, hn]
theorem okN_some {ks : List DataD} {many : Bool} {t : ty.TyD} {d : DataD} (h : t.x.1 = 4) (hn : ks.find? (namedD t.x.2.2) = some d) : okN ks many t = (!many || decide (d.2.1 = (t.kids.length : Int))) := by simp [okN, h, hn]

theorem spotsC_get (t i j : Nat) (cs : List con.ConD) (q : Nat) (h : q < (spotsC t i j cs).length) : (spotsC t i j cs)[q].tag = t + q := by
  induction cs generalizing t j q with
  | nil => simp [spotsC] at h
  | cons c cs ih =>
    cases q with
    | zero => simp [spotsC]
    | succ q => simp only [spotsC, List.getElem_cons_succ]; rw [ih]; omega
theorem spots_get (t i : Nat) (ks : List DataD) (q : Nat) (h : q < (spots t i ks).length) : (spots t i ks)[q].tag = t + q := by
  induction ks generalizing t i q with
  | nil => simp [spots] at h
  | cons d ks ih =>
    simp only [spots, List.getElem_append]
    split
    · rw [spotsC_get]
    · rename_i h1
      rw [spotsC_length] at h1
      rw [ih]
      simp only [spotsC_length]
      omega

theorem ahead_lt {ks : List DataD} {i k : Nat} (hi : i < ks.length) (hk : k ≤ ks[i].2.2.length) : ∀ y ∈ ahead ks i k, y.i < i ∨ (y.i = i ∧ y.j < k) := by
  have hC : ∀ (t i j : Nat) (cs : List con.ConD) (y : Spot), y ∈ spotsC t i j cs → y.i = i ∧ y.j < j + cs.length := by
    intro t i j cs
    induction cs generalizing t j with
    | nil => intro y hy; simp [spotsC] at hy
    | cons c cs ih =>
      intro y hy
      simp only [spotsC, List.mem_cons] at hy
      rcases hy with rfl | hy
      · simp
      · have := ih _ _ y hy; simp; omega
  have hS : ∀ (t i : Nat) (ds : List DataD) (y : Spot), y ∈ spots t i ds → y.i < i + ds.length := by
    intro t i ds
    induction ds generalizing t i with
    | nil => intro y hy; simp [spots] at hy
    | cons d ds ih =>
      intro y hy
      simp only [spots, List.mem_append] at hy
      rcases hy with hy | hy
      · have := hC _ _ _ _ y hy; simp; omega
      · have := ih _ _ y hy; simp; omega
  intro y hy
  unfold ahead at hy
  rw [List.getElem?_eq_getElem hi] at hy
  simp only [Option.map_some, Option.getD_some, List.mem_append] at hy
  rcases hy with hy | hy
  · have := hS _ _ _ y hy
    rw [List.length_take, Nat.min_eq_left (by omega)] at this
    omega
  · have := hC _ _ _ _ y hy
    rw [List.length_take, Nat.min_eq_left hk] at this
    omega

/-- A con's name leads to itself just where none ahead of it has it. -/
theorem place_first {ks : List DataD} {i k : Nat} {name : ByteArray} (hi : i < ks.length) (hk : k < ks[i].2.2.length) (hy : ∃ y ∈ ahead ks i k, named name y = true) : ¬ ((placeB ks name).2.1 = (i : Int) ∧ (placeB ks name).2.2 = (k : Int)) := by
  obtain ⟨r, hr⟩ := ahead_prefix hi (Nat.le_of_lt hk)
  have hf : ∃ y0, (ahead ks i k).find? (named name) = some y0 := by
    obtain ⟨y, hy, hn⟩ := hy
    cases hq : (ahead ks i k).find? (named name) with
    | none => have := List.find?_eq_none.1 hq y hy; simp [hn] at this
    | some y0 => exact ⟨y0, rfl⟩
  obtain ⟨y0, hf⟩ := hf
  unfold placeB
  rw [← hr, List.find?_append, hf]
  have hm := List.mem_of_find?_eq_some hf
  have := ahead_lt hi (Nat.le_of_lt hk) y0 hm
  simp [place]
  omega

end Go.Proofs.Ytfekbchmgnpkaaa.data
