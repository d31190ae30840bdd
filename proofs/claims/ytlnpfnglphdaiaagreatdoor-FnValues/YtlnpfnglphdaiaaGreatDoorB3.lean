/-
  The type Ty as it lies in memory.
  The type Con as it lies in memory.
  The type Data as it lies in memory.
  A row that the call itself owns: its last element taken off, its cells read; a kind of data that is one cell; data that lie at one place are one.
  Data that lie in blocks that nothing froze: the same kinds of data, so; a row that the call itself owns lies so.
-/
import Derived.Test.YtlnpfnglphdaiaaGreatDoorChecked
import Derived.WalkKit
import Derived.WalkLawsBesides
import Derived.Deep.QuietTactic
import Derived.BigQuiet
import Derived.Laws.AppendOwn
import Derived.Laws.AppendOwnNone
import Derived.OwnWalkIn
import Derived.Maps.OwnIn
import Derived.Test.YtlnpfnglphdaiaaGreatDoorB1
import Derived.Test.YtlnpfnglphdaiaaGreatDoorB2
namespace Go.Proofs.YtlnpfnglphdaiaaGreatDoor.ty
open Go.RowKit Go.Proofs.YtlnpfnglphdaiaaGreatDoor.rose Go.Proofs.YtlnpfnglphdaiaaGreatDoor
set_option linter.unusedVariables false

abbrev Pay := Int × Int × ByteArray
abbrev TyD := Rose Pay
abbrev paySh : Sh Pay := Sh.int.pair (Sh.int.pair Sh.str)
abbrev tySh : Sh TyD := paySh.rose

theorem ty_open {w : World} {S : Nat → Prop} {cs : List Value} {T : TyD} (h : tySh.rep w S cs T) : ∃ x0 x1 x2 x3 a3 c3, T = .mk (x0, x1, x2) x3 ∧ cs = [.int .i64 x0, .int .i64 x1, .string x2, .slice a3 x3.length c3] ∧ (-9223372036854775808 ≤ x0 ∧ x0 ≤ 9223372036854775807) ∧ (-9223372036854775808 ≤ x1 ∧ x1 ≤ 9223372036854775807) ∧ x2.size ≤ maxLen ∧ tySh.slice.rep w S [.slice a3 x3.length c3] x3 := by
  obtain ⟨⟨x0, x1, x2⟩, x3⟩ := T
  obtain ⟨ps, kc, rfl, ⟨_, _, rfl, ⟨rfl, h0⟩, _, _, rfl, ⟨rfl, h1⟩, ⟨rfl, h2⟩⟩, h3⟩ := rose_iff.1 h
  obtain ⟨a3, c3, rfl⟩ := slice_cells h3
  exact ⟨_, _, _, _, _, _, rfl, rfl, h0, h1, h2, h3⟩
theorem ty_list {w : World} {S : Nat → Prop} {cs : List Value} {T : TyD} (h : tySh.rep w S cs T) : ∃ v0 v1 v2 v3, cs = [v0, v1, v2, v3] := by
  obtain ⟨x0, x1, x2, x3, a3, c3, -, rfl, -⟩ := ty_open h
  exact ⟨_, _, _, _, rfl⟩
theorem ty_shut {w : World} {S : Nat → Prop} {x0 : Int} {x1 : Int} {x2 : ByteArray} {x3 : List TyD} {a3 : Option Addr} {c3 : Nat} (h0 : -9223372036854775808 ≤ x0 ∧ x0 ≤ 9223372036854775807) (h1 : -9223372036854775808 ≤ x1 ∧ x1 ≤ 9223372036854775807) (h2 : x2.size ≤ maxLen) (h3 : tySh.slice.rep w S [.slice a3 x3.length c3] x3) : tySh.rep w S [.int .i64 x0, .int .i64 x1, .string x2, .slice a3 x3.length c3] (.mk (x0, x1, x2) x3) :=
  rose_iff.2 ⟨[.int .i64 x0, .int .i64 x1, .string x2], [_], rfl, ⟨[_], _, rfl, ⟨rfl, h0⟩, [_], _, rfl, ⟨rfl, h1⟩, ⟨rfl, h2⟩⟩, h3⟩

theorem tys_open {w : World} {S : Nat → Prop} {v : Value} {ks : List TyD} (h : tySh.slice.rep w S [v] ks) : ∃ a cap css, v = .slice a ks.length cap ∧ ks.length ≤ cap ∧ cap ≤ maxLen ∧ RowAt w S 4 a ks.length css ∧ ∀ i (h : i < ks.length), tySh.rep w S (css i) ks[i] := by
  obtain ⟨a, cap, css, e, h1, h2, -, h3, h4⟩ := h
  exact ⟨a, cap, css, by simpa using e, h1, h2, h3, h4⟩

theorem ty_cells {w : World} {S : Nat → Prop} {b o i : Nat} {cs : List Value} {T : TyD} (h : tySh.rep w S cs T) (hc : CellsAt w b (o + i * 4) cs) :
    ∃ v0 v1 v2 v3, cs = [v0, v1, v2, v3] ∧ w.cell? ⟨b, o + i * 4, none⟩ = some v0 ∧ w.cell? ⟨b, o + i * 4 + 1, none⟩ = some v1 ∧ w.cell? ⟨b, o + i * 4 + 2, none⟩ = some v2 ∧ w.cell? ⟨b, o + i * 4 + 3, none⟩ = some v3 := by
  obtain ⟨v0, v1, v2, v3, rfl⟩ := ty_list h
  exact ⟨_, _, _, _, rfl, hc 0 _ rfl, hc 1 _ rfl, hc 2 _ rfl, hc 3 _ rfl⟩

mutual
/-- What it weighs. -/
def wt : TyD → Nat
  | .mk (x0, x1, x2) x3 => x2.size + ((x3.length + wts x3))
def wts : List TyD → Nat
  | [] => 0
  | k :: ks => wt k + wts ks
end

theorem wts_take {ks : List TyD} {i : Nat} (h : i < ks.length) : wts (ks.take (i + 1)) = wts (ks.take i) + wt ks[i] := by
  induction ks generalizing i with
  | nil => simp at h
  | cons k ks ih =>
    cases i with
    | zero => simp [wts]
    | succ i => simp [wts, ih (by simpa using h)]; omega
theorem wts_take_le (ks : List TyD) (i : Nat) : wts (ks.take i) ≤ wts ks := by
  induction ks generalizing i with
  | nil => simp [wts]
  | cons k ks ih =>
    cases i with
    | zero => simp [wts]
    | succ i => simp [wts]; exact ih i
theorem wt_mem {ks : List TyD} {k : TyD} (h : k ∈ ks) : wt k ≤ wts ks := by
  induction ks with
  | nil => cases h
  | cons a ks ih =>
    simp only [wts]
    rcases List.mem_cons.1 h with rfl | h
    · omega
    · have := ih h; omega

end Go.Proofs.YtlnpfnglphdaiaaGreatDoor.ty

namespace Go.Proofs.YtlnpfnglphdaiaaGreatDoor.con
open Go.RowKit Go.Proofs.YtlnpfnglphdaiaaGreatDoor.rose Go.Proofs.YtlnpfnglphdaiaaGreatDoor
set_option linter.unusedVariables false

abbrev ConD := ByteArray × List ty.TyD
abbrev conSh : Sh ConD := Sh.str.pair ty.tySh.slice

theorem con_open {w : World} {S : Nat → Prop} {cs : List Value} {T : ConD} (h : conSh.rep w S cs T) : ∃ x0 x1 a1 c1, T = (x0, x1) ∧ cs = [.string x0, .slice a1 x1.length c1] ∧ x0.size ≤ maxLen ∧ ty.tySh.slice.rep w S [.slice a1 x1.length c1] x1 := by
  obtain ⟨x0, x1⟩ := T
  obtain ⟨_, _, rfl, ⟨rfl, h0⟩, h1⟩ := h
  obtain ⟨a1, c1, rfl⟩ := slice_cells h1
  exact ⟨_, _, _, _, rfl, rfl, h0, h1⟩
theorem con_list {w : World} {S : Nat → Prop} {cs : List Value} {T : ConD} (h : conSh.rep w S cs T) : ∃ v0 v1, cs = [v0, v1] := by
  obtain ⟨x0, x1, a1, c1, -, rfl, -⟩ := con_open h
  exact ⟨_, _, rfl⟩
theorem con_shut {w : World} {S : Nat → Prop} {x0 : ByteArray} {x1 : List ty.TyD} {a1 : Option Addr} {c1 : Nat} (h0 : x0.size ≤ maxLen) (h1 : ty.tySh.slice.rep w S [.slice a1 x1.length c1] x1) : conSh.rep w S [.string x0, .slice a1 x1.length c1] ((x0, x1)) :=
  ⟨[_], _, rfl, ⟨rfl, h0⟩, h1⟩

theorem cons_open {w : World} {S : Nat → Prop} {v : Value} {ks : List ConD} (h : conSh.slice.rep w S [v] ks) : ∃ a cap css, v = .slice a ks.length cap ∧ ks.length ≤ cap ∧ cap ≤ maxLen ∧ RowAt w S 2 a ks.length css ∧ ∀ i (h : i < ks.length), conSh.rep w S (css i) ks[i] := by
  obtain ⟨a, cap, css, e, h1, h2, -, h3, h4⟩ := h
  exact ⟨a, cap, css, by simpa using e, h1, h2, h3, h4⟩

theorem con_cells {w : World} {S : Nat → Prop} {b o i : Nat} {cs : List Value} {T : ConD} (h : conSh.rep w S cs T) (hc : CellsAt w b (o + i * 2) cs) :
    ∃ v0 v1, cs = [v0, v1] ∧ w.cell? ⟨b, o + i * 2, none⟩ = some v0 ∧ w.cell? ⟨b, o + i * 2 + 1, none⟩ = some v1 := by
  obtain ⟨v0, v1, rfl⟩ := con_list h
  exact ⟨_, _, rfl, hc 0 _ rfl, hc 1 _ rfl⟩

/-- What it weighs. -/
def wt : ConD → Nat
  | (x0, x1) => x0.size + ((x1.length + ty.wts x1))
def wts : List ConD → Nat
  | [] => 0
  | k :: ks => wt k + wts ks

theorem wts_take {ks : List ConD} {i : Nat} (h : i < ks.length) : wts (ks.take (i + 1)) = wts (ks.take i) + wt ks[i] := by
  induction ks generalizing i with
  | nil => simp at h
  | cons k ks ih =>
    cases i with
    | zero => simp [wts]
    | succ i => simp [wts, ih (by simpa using h)]; omega
theorem wts_take_le (ks : List ConD) (i : Nat) : wts (ks.take i) ≤ wts ks := by
  induction ks generalizing i with
  | nil => simp [wts]
  | cons k ks ih =>
    cases i with
    | zero => simp [wts]
    | succ i => simp [wts]; exact ih i
theorem wt_mem {ks : List ConD} {k : ConD} (h : k ∈ ks) : wt k ≤ wts ks := by
  induction ks with
  | nil => cases h
  | cons a ks ih =>
    simp only [wts]
    rcases List.mem_cons.1 h with rfl | h
    · omega
    · have := ih h; omega

end Go.Proofs.YtlnpfnglphdaiaaGreatDoor.con

namespace Go.Proofs.YtlnpfnglphdaiaaGreatDoor.data
open Go.RowKit Go.Proofs.YtlnpfnglphdaiaaGreatDoor.rose Go.Proofs.YtlnpfnglphdaiaaGreatDoor
set_option linter.unusedVariables false

abbrev DataD := ByteArray × Int × List con.ConD
abbrev dataSh : Sh DataD := Sh.str.pair (Sh.int.pair con.conSh.slice)

theorem data_open {w : World} {S : Nat → Prop} {cs : List Value} {T : DataD} (h : dataSh.rep w S cs T) : ∃ x0 x1 x2 a2 c2, T = (x0, x1, x2) ∧ cs = [.string x0, .int .i64 x1, .slice a2 x2.length c2] ∧ x0.size ≤ maxLen ∧ (-9223372036854775808 ≤ x1 ∧ x1 ≤ 9223372036854775807) ∧ con.conSh.slice.rep w S [.slice a2 x2.length c2] x2 := by
  obtain ⟨x0, x1, x2⟩ := T
  obtain ⟨_, _, rfl, ⟨rfl, h0⟩, _, _, rfl, ⟨rfl, h1⟩, h2⟩ := h
  obtain ⟨a2, c2, rfl⟩ := slice_cells h2
  exact ⟨_, _, _, _, _, rfl, rfl, h0, h1, h2⟩
theorem data_list {w : World} {S : Nat → Prop} {cs : List Value} {T : DataD} (h : dataSh.rep w S cs T) : ∃ v0 v1 v2, cs = [v0, v1, v2] := by
  obtain ⟨x0, x1, x2, a2, c2, -, rfl, -⟩ := data_open h
  exact ⟨_, _, _, rfl⟩
theorem data_shut {w : World} {S : Nat → Prop} {x0 : ByteArray} {x1 : Int} {x2 : List con.ConD} {a2 : Option Addr} {c2 : Nat} (h0 : x0.size ≤ maxLen) (h1 : -9223372036854775808 ≤ x1 ∧ x1 ≤ 9223372036854775807) (h2 : con.conSh.slice.rep w S [.slice a2 x2.length c2] x2) : dataSh.rep w S [.string x0, .int .i64 x1, .slice a2 x2.length c2] ((x0, x1, x2)) :=
  ⟨[_], _, rfl, ⟨rfl, h0⟩, [_], _, rfl, ⟨rfl, h1⟩, h2⟩

theorem datas_open {w : World} {S : Nat → Prop} {v : Value} {ks : List DataD} (h : dataSh.slice.rep w S [v] ks) : ∃ a cap css, v = .slice a ks.length cap ∧ ks.length ≤ cap ∧ cap ≤ maxLen ∧ RowAt w S 3 a ks.length css ∧ ∀ i (h : i < ks.length), dataSh.rep w S (css i) ks[i] := by
  obtain ⟨a, cap, css, e, h1, h2, -, h3, h4⟩ := h
  exact ⟨a, cap, css, by simpa using e, h1, h2, h3, h4⟩

theorem data_cells {w : World} {S : Nat → Prop} {b o i : Nat} {cs : List Value} {T : DataD} (h : dataSh.rep w S cs T) (hc : CellsAt w b (o + i * 3) cs) :
    ∃ v0 v1 v2, cs = [v0, v1, v2] ∧ w.cell? ⟨b, o + i * 3, none⟩ = some v0 ∧ w.cell? ⟨b, o + i * 3 + 1, none⟩ = some v1 ∧ w.cell? ⟨b, o + i * 3 + 2, none⟩ = some v2 := by
  obtain ⟨v0, v1, v2, rfl⟩ := data_list h
  exact ⟨_, _, _, rfl, hc 0 _ rfl, hc 1 _ rfl, hc 2 _ rfl⟩

/-- What it weighs. -/
def wt : DataD → Nat
  | (x0, x1, x2) => x0.size + ((x2.length + con.wts x2))
def wts : List DataD → Nat
  | [] => 0
  | k :: ks => wt k + wts ks

theorem wts_take {ks : List DataD} {i : Nat} (h : i < ks.length) : wts (ks.take (i + 1)) = wts (ks.take i) + wt ks[i] := by
  induction ks generalizing i with
  | nil => simp at h
  | cons k ks ih =>
    cases i with
    | zero => simp [wts]
    | succ i => simp [wts, ih (by simpa using h)]; omega
theorem wts_take_le (ks : List DataD) (i : Nat) : wts (ks.take i) ≤ wts ks := by
  induction ks generalizing i with
  | nil => simp [wts]
  | cons k ks ih =>
    cases i with
    | zero => simp [wts]
    | succ i => simp [wts]; exact ih i
theorem wt_mem {ks : List DataD} {k : DataD} (h : k ∈ ks) : wt k ≤ wts ks := by
  induction ks with
  | nil => cases h
  | cons a ks ih =>
    simp only [wts]
    rcases List.mem_cons.1 h with rfl | h
    · omega
    · have := ih h; omega

end Go.Proofs.YtlnpfnglphdaiaaGreatDoor.data

namespace Go.Proofs.YtlnpfnglphdaiaaGreatDoor.rose
open Go Go.RowKit
set_option linter.unusedVariables false

theorem shrink {w : World} {base : Nat} {t : TypeId} {k j cap g : Nat} {xs : List Value} (h : w.ownsRow base t k (.slice (some ⟨g, 0, none⟩) (j + 1) cap) (j + 1) xs) : w.ownsRow base t k (.slice (some ⟨g, 0, none⟩) j cap) j (xs.take (j * k)) := by
  obtain ⟨hl, hv⟩ := h
  have hle : j * k ≤ (j + 1) * k := Nat.mul_le_mul_right _ (by omega)
  refine ⟨by rw [List.length_take, hl]; omega, Or.inr ?_⟩
  rcases hv with ⟨h, _⟩ | ⟨g', cap', cur, h1, h2, h3, h4, h5, h6, h7⟩
  · cases h
  · cases h1
    exact ⟨g, cap, cur, rfl, h2, h3, by omega, h5, h6, by rw [← h7, List.take_take, Nat.min_eq_left hle]⟩

theorem flat_take (css : Nat → List Value) (n : Nat) {k : Nat} (h : ∀ i, i < n + 1 → (css i).length = k) : (flat css (n + 1)).take (n * k) = flat css n := by
  rw [flat_succ, List.take_left' (flat_length fun i hi => h i (by omega))]

theorem own_cell {w : World} {base : Nat} {t : TypeId} {k g n cap : Nat} {css : Nat → List Value} (h : w.ownsRow base t k (.slice (some ⟨g, 0, none⟩) n cap) n (flat css n)) (hl : ∀ i, i < n → (css i).length = k) {i q : Nat} {v : Value} (hi : i < n) (hq : (css i)[q]? = some v) : w.cell? ⟨g, i * k + q, none⟩ = some v := by
  rcases h.2 with ⟨h, _⟩ | ⟨g', cap', cur, h1, h2, h3, h4, h5, h6, h7⟩
  · cases h
  · cases h1
    have hqk : q < k := by
      rcases Nat.lt_or_ge q k with h' | h'
      · exact h'
      · rw [List.getElem?_eq_none (by rw [hl i hi]; exact h')] at hq; cases hq
    have hf := flat_get (css := css) (n := n) (k := k) hl hi hqk
    rw [hq, ← h7, List.getElem?_take] at hf
    have hlt : i * k + q < n * k := by
      have := Nat.mul_le_mul_right k (show i + 1 ≤ n by omega)
      rw [Nat.succ_mul] at this; omega
    rw [if_pos hlt] at hf
    simp only [World.cell?, h3]
    rw [Array.getElem?_toList] at hf
    exact hf

theorem row_on {w w' : World} {base : Nat} {t : TypeId} {k n : Nat} {v : Value} {xs : List Value} (h : w.ownsRow base t k v n xs) (hb : ∀ g, base ≤ g → g < w.heap.size → w'.heap[g]? = w.heap[g]?) : w'.ownsRow base t k v n xs := by
  obtain ⟨hl, hv⟩ := h
  refine ⟨hl, ?_⟩
  rcases hv with h0 | ⟨g, cap, cur, h1, h2, h3, h4⟩
  · exact Or.inl h0
  · have hg : g < w.heap.size := by
      rcases Nat.lt_or_ge g w.heap.size with h' | h'
      · exact h'
      · rw [Array.getElem?_eq_none h'] at h3; cases h3
    exact Or.inr ⟨g, cap, cur, h1, h2, by rw [hb g h2 hg]; exact h3, h4⟩

/-- An append of one cell to the call's own row, inside a fence: what comes of it is a slice. -/
theorem append_oneIn {F : Fence} {nF : Nat} {P : Program} (w : World) {ops : Array Oper} {rest : List Oper} {o : Oper} {a : Act} {Q : Exit → Act → World → Prop} (hgd : o.guard = none) (s x : Operand) (t : TypeId)
    (ho : o.op = .call { callee := .builtin .append, args := #[s, x], argTypes := #[t, t] })
    (base : Nat) (e : TypeId) (i : TypeInfo) (z : Value) (bytes : Nat) (ht : P.underlying t = some (.slice e)) (hi : P.info? e = some i) (hz : i.zero = some z)
    (hsize : i.size = 1) (hby : i.bytes = bytes) (hzs : z.cells.size = 1)
    (v : Value) (n : Nat) (xs : List Value) (hs : a.eval s = v) (hown : w.ownsRow base e 1 v n xs)
    (ad : Addr) (c : Nat) (y : Value) (hx : a.eval x = .slice (some ad) 1 c) (hnews : ∀ j u, [y][j]? = some u → w.cell? (ad.add j) = some u) (h1 : y.oneCell' = true)
    (h63 : n + 1 ≤ maxLen) (hbytes : (n + 1) * bytes ≤ 140737488355328) (hbase : base ≤ w.heap.size)
    (h : ∀ a' l' c' w', w'.ownsRow base e 1 (.slice a' l' c') (n + 1) (xs ++ [y]) → w.grownBy w' v.ownBlock → wpListIn F nF P ops Q rest (a.put o.dst (.slice a' l' c')) w') :
    wpListIn F nF P ops Q (o :: rest) a w :=
  wpListIn_append_own_at w hgd s x t ho base e i z 1 bytes ht hi hz hsize hby hzs (by decide) v n xs hs hown ad 1 c [y] hx rfl hnews (by simp [h1]) h63 hbytes hbase fun v' w' hown' hg _ _ => by
    obtain ⟨a', l', c', rfl⟩ : ∃ a' l' c', v' = .slice a' l' c' := by
      rcases hown'.2 with ⟨rfl, _⟩ | ⟨_, _, _, rfl, _⟩
      · exact ⟨_, _, _, rfl⟩
      · exact ⟨_, _, _, rfl⟩
    exact h a' l' c' w' hown' hg

/-- One cell, whatever it is. -/
def valSh : Sh Value where
  k := 1
  rep := fun _ _ cs v => cs = [v] ∧ v.oneCell' = true
  len := by rintro _ _ _ _ ⟨rfl, _⟩; rfl
  on := fun h _ => h
  mono := fun h _ => h
  one := by rintro _ _ _ _ ⟨rfl, h⟩ v hv; simp at hv; subst hv; exact h

/-- A kind of data of which cells tell one alone. -/
def Sh.Sole {α : Type} (A : Sh α) : Prop := ∀ w S S' cs x x', A.rep w S cs x → A.rep w S' cs x' → x = x'

theorem Sh.int_sole : Sh.int.Sole := by
  rintro w S S' cs x x' ⟨rfl, _⟩ ⟨h, _⟩
  simpa using h
theorem Sh.str_sole : Sh.str.Sole := by
  rintro w S S' cs x x' ⟨rfl, _⟩ ⟨h, _⟩
  simpa using h
theorem Sh.Sole.pair {α β : Type} {A : Sh α} {B : Sh β} (hA : A.Sole) (hB : B.Sole) : (A.pair B).Sole := by
  rintro w S S' cs ⟨x1, x2⟩ ⟨y1, y2⟩ ⟨c1, c2, rfl, h1, h2⟩ ⟨d1, d2, e, g1, g2⟩
  have hl : c1.length = d1.length := by rw [A.len h1, A.len g1]
  obtain ⟨rfl, rfl⟩ := List.append_inj e hl
  have e1 : x1 = y1 := hA _ _ _ _ _ _ h1 g1
  have e2 : x2 = y2 := hB _ _ _ _ _ _ h2 g2
  rw [e1, e2]

theorem cells_eq {w : World} {b o : Nat} {cs cs' : List Value} (h : CellsAt w b o cs) (h' : CellsAt w b o cs') (hl : cs.length = cs'.length) : cs = cs' := by
  apply List.ext_getElem hl
  intro j h1 h2
  have e1 := h j _ (List.getElem?_eq_getElem h1)
  have e2 := h' j _ (List.getElem?_eq_getElem h2)
  rw [e1] at e2
  exact Option.some.inj e2

theorem Sh.Sole.rose {α : Type} {A : Sh α} (hA : A.Sole) : A.rose.Sole := by
  intro w S S' cs x x' h
  induction h generalizing x' with
  | @mk ps x a cap kids css hp hcap hmax hnone hat hk ih =>
    intro h'
    obtain ⟨y, kids'⟩ := x'
    obtain ⟨ps', kc, e, hp', a', cap', css', rfl, hcap', hmax', hnone', hat', hk'⟩ := rose_iff.1 h'
    have hl : ps.length = ps'.length := by rw [A.len hp, A.len hp']
    obtain ⟨rfl, e2⟩ := List.append_inj e hl
    simp only [List.cons.injEq, Value.slice.injEq, and_true] at e2
    obtain ⟨rfl, hlen, rfl⟩ := e2
    have e1 : x = y := hA _ _ _ _ _ _ hp hp'
    have e3 : kids = kids' := by
      apply List.ext_getElem hlen
      intro j h1 h2
      obtain ⟨b, o, ea, _, hc⟩ := hat j h1
      obtain ⟨b', o', ea', _, hc'⟩ := hat' j h2
      rw [ea] at ea'
      cases ea'
      have he := cells_eq hc hc' (by rw [A.rose.len (hk j h1), A.rose.len (hk' j h2)])
      exact ih j h1 _ (by rw [he]; exact hk' j h2)
    rw [e1, e3]

theorem Sh.Sole.take {α : Type} {A : Sh α} (hA : A.Sole) {w : World} {S S' : Nat → Prop} {a : Addr} {n n' c c' : Nat} {xs xs' : List α} (h : A.slice.rep w S [.slice (some a) n c] xs) (h' : A.slice.rep w S' [.slice (some a) n' c'] xs') (hn : n ≤ n') : xs = xs'.take n := by
  obtain ⟨a1, c1, css, e, hcap, hmax, hnone, hat, hk⟩ := h
  obtain ⟨a2, c2, css', e', hcap', hmax', hnone', hat', hk'⟩ := h'
  simp only [List.cons.injEq, Value.slice.injEq, and_true] at e e'
  obtain ⟨rfl, hl, rfl⟩ := e
  obtain ⟨ea, hl', rfl⟩ := e'
  subst ea
  apply List.ext_getElem (by rw [List.length_take]; omega)
  intro j h1 h2
  rw [List.getElem_take]
  obtain ⟨b, o, ea, _, hc⟩ := hat j h1
  obtain ⟨b', o', ea', _, hc'⟩ := hat' j (by omega)
  rw [ea] at ea'
  cases ea'
  have he := cells_eq hc hc' (by rw [A.len (hk j h1), A.len (hk' j (by omega))])
  exact hA _ _ _ _ _ _ (hk j h1) (by rw [he]; exact hk' j (by omega))

end Go.Proofs.YtlnpfnglphdaiaaGreatDoor.rose

namespace Go.Proofs.YtlnpfnglphdaiaaGreatDoor.rose
open Go Go.RowKit Go.Deep Go.ChangeShapes Go.WideShapes
set_option linter.unusedVariables false

/-- The same data, in blocks that nothing froze. -/
@[reducible] def Sh.plain {α : Type} (A : Sh α) : Sh α where
  k := A.k
  rep := fun w S cs x => A.rep w (fun b => S b ∧ Plain w b) cs x
  len := fun h => A.len h
  on := fun h hb => A.mono (A.on h fun b hS => hb b hS.1) fun b hS => ⟨hS.1, hS.2.on (hb b hS.1)⟩
  mono := fun h hm => A.mono h fun b hS => ⟨hm b hS.1, hS.2⟩
  one := fun h => A.one h

theorem Sh.bare {α : Type} {A : Sh α} {w : World} {S : Nat → Prop} {cs : List Value} {x : α} (h : (Sh.plain A).rep w S cs x) : A.rep w (fun b => S b ∧ Plain w b) cs x := h
theorem Sh.of {α : Type} {A : Sh α} {w : World} {S : Nat → Prop} {cs : List Value} {x : α} (h : A.rep w (fun b => S b ∧ Plain w b) cs x) : (Sh.plain A).rep w S cs x := h

theorem Own.sliceP {α : Type} {A : Sh α} {t : TypeId} {w : World} {base : Nat} {S : Nat → Prop} {v : Value} {xs : List α} (h : Own A t w base S v xs) (hk : 0 < A.k) (hS : ∀ b, base ≤ b → b < w.heap.size → Plain w b → S b) : A.slice.rep w S [v] xs := by
  obtain ⟨css, ⟨hl, hv⟩, hr⟩ := h
  rcases hv with ⟨rfl, h0⟩ | ⟨g, cap, cur, rfl, h2, h3, h4, h5, h6, h7⟩
  · have : xs = [] := List.eq_nil_of_length_eq_zero h0
    subst this
    exact ⟨none, 0, fun _ => [], rfl, Nat.le_refl _, Nat.zero_le _, fun _ => rfl, fun i hi => absurd hi (Nat.not_lt_zero _), fun i hi => absurd hi (Nat.not_lt_zero _)⟩
  · have hg : g < w.heap.size := (Array.getElem?_eq_some_iff.1 h3).1
    refine ⟨some ⟨g, 0, none⟩, cap, css, rfl, h4, h5, (fun h => by cases h), fun i hi => ⟨g, 0, rfl, hS g h2 hg ⟨cur, t, h3⟩, fun j u hj => ?_⟩, hr⟩
    show w.cell? ⟨g, 0 + i * A.k + j, none⟩ = some u
    rw [Nat.zero_add]
    exact own_cell ⟨hl, .inr ⟨g, cap, cur, rfl, h2, h3, h4, h5, h6, h7⟩⟩ (fun i hi => A.len (hr i hi)) hi hj

end Go.Proofs.YtlnpfnglphdaiaaGreatDoor.rose
