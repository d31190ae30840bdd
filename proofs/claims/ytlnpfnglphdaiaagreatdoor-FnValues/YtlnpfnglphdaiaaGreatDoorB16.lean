/-
  A Node as it lies in memory, and what it weighs.
  The type Prog as it lies in memory.
  Where the model's Parse stands: the datas that it gathered lie in a block whose row grows.
  What the model's parsing of expressions says (Nodes); l3Node.
-/
import Derived.Test.YtlnpfnglphdaiaaGreatDoorChecked
import Derived.WalkKit
import Derived.WalkLawsBesides
import Derived.Deep.QuietTactic
import Derived.BigQuiet
import Derived.Laws.AppendOwn
import Derived.Maps.AppendAt
import Derived.Test.YtlnpfnglphdaiaaGreatDoorB1
import Derived.Test.YtlnpfnglphdaiaaGreatDoorB2
import Derived.Test.YtlnpfnglphdaiaaGreatDoorB3
import Derived.Test.YtlnpfnglphdaiaaGreatDoorB4
import Derived.Test.YtlnpfnglphdaiaaGreatDoorB5
import Derived.Test.YtlnpfnglphdaiaaGreatDoorB6
import Derived.Test.YtlnpfnglphdaiaaGreatDoorB7
import Derived.Test.YtlnpfnglphdaiaaGreatDoorB8
import Derived.Test.YtlnpfnglphdaiaaGreatDoorB9
import Derived.Test.YtlnpfnglphdaiaaGreatDoorB10
import Derived.Test.YtlnpfnglphdaiaaGreatDoorB11
import Derived.Test.YtlnpfnglphdaiaaGreatDoorB12
import Derived.Test.YtlnpfnglphdaiaaGreatDoorB13
import Derived.Test.YtlnpfnglphdaiaaGreatDoorB14
import Derived.Test.YtlnpfnglphdaiaaGreatDoorB15
namespace Go.Proofs.YtlnpfnglphdaiaaGreatDoor.node
open Go.RowKit Go.Proofs.YtlnpfnglphdaiaaGreatDoor.rose
set_option linter.unusedVariables false

abbrev Pay := Int × Int × ByteArray × ByteArray
abbrev Nd := Rose Pay
abbrev paySh : Sh Pay := Sh.int.pair (Sh.int.pair (Sh.str.pair Sh.str))
abbrev ndSh : Sh Nd := paySh.rose

/-- A node's cells. -/
theorem nd_open {w : World} {S : Nat → Prop} {cs : List Value} {T : Nd} (h : ndSh.rep w S cs T) : ∃ op n s t a cap ks, T = .mk (op, n, s, t) ks ∧ cs = [.int .i64 op, .int .i64 n, .string s, .string t, .slice a ks.length cap] ∧
    s.size ≤ maxLen ∧ t.size ≤ maxLen ∧ ndSh.slice.rep w S [.slice a ks.length cap] ks := by
  obtain ⟨⟨op, n, s, t⟩, ks⟩ := T
  obtain ⟨ps, kc, rfl, ⟨_, _, rfl, ⟨rfl, _⟩, _, _, rfl, ⟨rfl, _⟩, _, _, rfl, ⟨rfl, hs⟩, ⟨rfl, ht⟩⟩, a, cap, css, rfl, h1, h2, h5, h3, h4⟩ := rose_iff.1 h
  exact ⟨op, n, s, t, a, cap, ks, rfl, rfl, hs, ht, a, cap, css, rfl, h1, h2, h5, h3, h4⟩

theorem nd_ints {w : World} {S : Nat → Prop} {cs : List Value} {op n : Int} {s t : ByteArray} {ks : List Nd} (h : ndSh.rep w S cs (.mk (op, n, s, t) ks)) :
    (-9223372036854775808 ≤ op ∧ op ≤ 9223372036854775807) ∧ (-9223372036854775808 ≤ n ∧ n ≤ 9223372036854775807) := by
  obtain ⟨ps, kc, rfl, ⟨_, _, rfl, ⟨rfl, h1⟩, _, _, rfl, ⟨rfl, h2⟩, _⟩, _⟩ := rose_iff.1 h
  exact ⟨h1, h2⟩
theorem nd_shut {w : World} {S : Nat → Prop} {op n : Int} {s t : ByteArray} {v : Value} {ks : List Nd} (hop : -9223372036854775808 ≤ op ∧ op ≤ 9223372036854775807) (hn : -9223372036854775808 ≤ n ∧ n ≤ 9223372036854775807) (hs : s.size ≤ maxLen) (ht : t.size ≤ maxLen)
    (hk : ndSh.slice.rep w S [v] ks) : ndSh.rep w S [.int .i64 op, .int .i64 n, .string s, .string t, v] (.mk (op, n, s, t) ks) :=
  rose_iff.2 ⟨[.int .i64 op, .int .i64 n, .string s, .string t], [v], rfl, ⟨[_], _, rfl, ⟨rfl, hop⟩, [_], _, rfl, ⟨rfl, hn⟩, [_], [_], rfl, ⟨rfl, hs⟩, ⟨rfl, ht⟩⟩, hk⟩

/-- A slice of nodes, by its elements. -/
theorem nds_open {w : World} {S : Nat → Prop} {v : Value} {ks : List Nd} (h : ndSh.slice.rep w S [v] ks) : ∃ a cap css, v = .slice a ks.length cap ∧ ks.length ≤ cap ∧ cap ≤ maxLen ∧ RowAt w S 5 a ks.length css ∧ ∀ i (h : i < ks.length), ndSh.rep w S (css i) ks[i] := by
  obtain ⟨a, cap, css, e, h1, h2, -, h3, h4⟩ := h
  exact ⟨a, cap, css, by simpa using e, h1, h2, h3, h4⟩

theorem nds_none {w : World} {S : Nat → Prop} {n cap : Nat} {ks : List Nd} (h : ndSh.slice.rep w S [.slice none n cap] ks) : n = 0 ∧ cap = 0 ∧ ks = [] := by
  obtain ⟨a, cap, css, e, h1, h2, h5, h3, h4⟩ := h
  simp only [List.cons.injEq, Value.slice.injEq, and_true] at e
  obtain ⟨rfl, rfl, rfl⟩ := e
  have := h5 rfl
  subst this
  have : ks = [] := List.eq_nil_of_length_eq_zero (by omega)
  subst this
  exact ⟨rfl, rfl, rfl⟩

/-- Element i's five cells. -/
theorem nd_cells {w : World} {S : Nat → Prop} {b o i : Nat} {cs : List Value} {T : Nd} (h : ndSh.rep w S cs T) (hc : CellsAt w b (o + i * 5) cs) :
    ∃ v0 v1 v2 v3 v4, cs = [v0, v1, v2, v3, v4] ∧ w.cell? ⟨b, o + i * 5, none⟩ = some v0 ∧ w.cell? ⟨b, o + i * 5 + 1, none⟩ = some v1 ∧ w.cell? ⟨b, o + i * 5 + 2, none⟩ = some v2 ∧ w.cell? ⟨b, o + i * 5 + 3, none⟩ = some v3 ∧ w.cell? ⟨b, o + i * 5 + 4, none⟩ = some v4 := by
  obtain ⟨op, n, s, t, a, cap, ks, rfl, rfl, _, _, _⟩ := nd_open h
  exact ⟨_, _, _, _, _, rfl, hc 0 _ rfl, hc 1 _ rfl, hc 2 _ rfl, hc 3 _ rfl, hc 4 _ rfl⟩

theorem nd_list {w : World} {S : Nat → Prop} {cs : List Value} {T : Nd} (h : ndSh.rep w S cs T) : ∃ v0 v1 v2 v3 v4, cs = [v0, v1, v2, v3, v4] := by
  obtain ⟨op, n, s, t, a, cap, ks, rfl, rfl, _, _, _⟩ := nd_open h
  exact ⟨_, _, _, _, _, rfl⟩

mutual
/-- What a tree weighs. -/
def wt : Nd → Nat
  | .mk x ks => x.2.2.1.size + x.2.2.2.size + ks.length + wts ks
def wts : List Nd → Nat
  | [] => 0
  | k :: ks => wt k + wts ks
end

theorem wts_take {ks : List Nd} {i : Nat} (h : i < ks.length) : wts (ks.take (i + 1)) = wts (ks.take i) + wt ks[i] := by
  induction ks generalizing i with
  | nil => simp at h
  | cons k ks ih =>
    cases i with
    | zero => simp [wts]
    | succ i => simp [wts, ih (by simpa using h)]; omega
theorem wts_take_le (ks : List Nd) (i : Nat) : wts (ks.take i) ≤ wts ks := by
  induction ks generalizing i with
  | nil => simp [wts]
  | cons k ks ih =>
    cases i with
    | zero => simp [wts]
    | succ i => simp [wts]; exact ih i

theorem wt_mem {ks : List Nd} {k : Nd} (h : k ∈ ks) : wt k ≤ wts ks := by
  induction ks with
  | nil => cases h
  | cons a ks ih =>
    simp only [wts]
    rcases List.mem_cons.1 h with rfl | h
    · omega
    · have := ih h; omega


end Go.Proofs.YtlnpfnglphdaiaaGreatDoor.node

namespace Go.Proofs.YtlnpfnglphdaiaaGreatDoor.prog
open Go.RowKit Go.Proofs.YtlnpfnglphdaiaaGreatDoor.rose Go.Proofs.YtlnpfnglphdaiaaGreatDoor
set_option linter.unusedVariables false

abbrev ProgD := List data.DataD × node.Nd
abbrev progSh : Sh ProgD := data.dataSh.slice.pair node.ndSh

theorem prog_open {w : World} {S : Nat → Prop} {cs : List Value} {T : ProgD} (h : progSh.rep w S cs T) : ∃ x0 a0 c0 x1 u1_0 u1_1 u1_2 u1_3 u1_4, T = (x0, x1) ∧ cs = [.slice a0 x0.length c0, u1_0, u1_1, u1_2, u1_3, u1_4] ∧ data.dataSh.slice.rep w S [.slice a0 x0.length c0] x0 ∧ node.ndSh.rep w S [u1_0, u1_1, u1_2, u1_3, u1_4] x1 := by
  obtain ⟨x0, x1⟩ := T
  obtain ⟨_, _, rfl, h0, h1⟩ := h
  obtain ⟨a0, c0, rfl⟩ := slice_cells h0
  obtain ⟨u1_0, u1_1, u1_2, u1_3, u1_4, rfl⟩ := node.nd_list h1
  exact ⟨_, _, _, _, _, _, _, _, _, rfl, rfl, h0, h1⟩
theorem prog_list {w : World} {S : Nat → Prop} {cs : List Value} {T : ProgD} (h : progSh.rep w S cs T) : ∃ v0 v1 v2 v3 v4 v5, cs = [v0, v1, v2, v3, v4, v5] := by
  obtain ⟨x0, a0, c0, x1, u1_0, u1_1, u1_2, u1_3, u1_4, -, rfl, -⟩ := prog_open h
  exact ⟨_, _, _, _, _, _, rfl⟩
theorem prog_shut {w : World} {S : Nat → Prop} {x0 : List data.DataD} {x1 : node.Nd} {u1_0 : Value} {u1_1 : Value} {u1_2 : Value} {u1_3 : Value} {u1_4 : Value} {a0 : Option Addr} {c0 : Nat} (h0 : data.dataSh.slice.rep w S [.slice a0 x0.length c0] x0) (h1 : node.ndSh.rep w S [u1_0, u1_1, u1_2, u1_3, u1_4] x1) : progSh.rep w S [.slice a0 x0.length c0, u1_0, u1_1, u1_2, u1_3, u1_4] ((x0, x1)) :=
  ⟨[_], _, rfl, h0, h1⟩

theorem progs_open {w : World} {S : Nat → Prop} {v : Value} {ks : List ProgD} (h : progSh.slice.rep w S [v] ks) : ∃ a cap css, v = .slice a ks.length cap ∧ ks.length ≤ cap ∧ cap ≤ maxLen ∧ RowAt w S 6 a ks.length css ∧ ∀ i (h : i < ks.length), progSh.rep w S (css i) ks[i] := by
  obtain ⟨a, cap, css, e, h1, h2, -, h3, h4⟩ := h
  exact ⟨a, cap, css, by simpa using e, h1, h2, h3, h4⟩

theorem prog_cells {w : World} {S : Nat → Prop} {b o i : Nat} {cs : List Value} {T : ProgD} (h : progSh.rep w S cs T) (hc : CellsAt w b (o + i * 6) cs) :
    ∃ v0 v1 v2 v3 v4 v5, cs = [v0, v1, v2, v3, v4, v5] ∧ w.cell? ⟨b, o + i * 6, none⟩ = some v0 ∧ w.cell? ⟨b, o + i * 6 + 1, none⟩ = some v1 ∧ w.cell? ⟨b, o + i * 6 + 2, none⟩ = some v2 ∧ w.cell? ⟨b, o + i * 6 + 3, none⟩ = some v3 ∧ w.cell? ⟨b, o + i * 6 + 4, none⟩ = some v4 ∧ w.cell? ⟨b, o + i * 6 + 5, none⟩ = some v5 := by
  obtain ⟨v0, v1, v2, v3, v4, v5, rfl⟩ := prog_list h
  exact ⟨_, _, _, _, _, _, rfl, hc 0 _ rfl, hc 1 _ rfl, hc 2 _ rfl, hc 3 _ rfl, hc 4 _ rfl, hc 5 _ rfl⟩

/-- What it weighs. -/
def wt : ProgD → Nat
  | (x0, x1) => (x0.length + data.wts x0) + (node.wt x1)
def wts : List ProgD → Nat
  | [] => 0
  | k :: ks => wt k + wts ks

theorem wts_take {ks : List ProgD} {i : Nat} (h : i < ks.length) : wts (ks.take (i + 1)) = wts (ks.take i) + wt ks[i] := by
  induction ks generalizing i with
  | nil => simp at h
  | cons k ks ih =>
    cases i with
    | zero => simp [wts]
    | succ i => simp [wts, ih (by simpa using h)]; omega
theorem wts_take_le (ks : List ProgD) (i : Nat) : wts (ks.take i) ≤ wts ks := by
  induction ks generalizing i with
  | nil => simp [wts]
  | cons k ks ih =>
    cases i with
    | zero => simp [wts]
    | succ i => simp [wts]; exact ih i
theorem wt_mem {ks : List ProgD} {k : ProgD} (h : k ∈ ks) : wt k ≤ wts ks := by
  induction ks with
  | nil => cases h
  | cons a ks ih =>
    simp only [wts]
    rcases List.mem_cons.1 h with rfl | h
    · omega
    · have := ih h; omega

end Go.Proofs.YtlnpfnglphdaiaaGreatDoor.prog

namespace Go.Proofs.YtlnpfnglphdaiaaGreatDoor.tok
open Go Go.RowKit Go.Deep Go.Proofs.YtlnpfnglphdaiaaGreatDoor.rose Go.Proofs.YtlnpfnglphdaiaaGreatDoor
set_option linter.unusedVariables false
set_option linter.unusedSimpArgs false

theorem dwts_snoc (xs : List data.DataD) (x : data.DataD) : data.wts (xs ++ [x]) = data.wts xs + data.wt x := by
  induction xs with
  | nil => simp [data.wts]
  | cons a xs ih => simp [data.wts, ih]; omega

structure Pc (E : Env) (wB wr : World) (v : Value) (xs : List data.DataD) (at' : Nat) (bad' : Int) : Prop where
  st : St E wr at' bad'
  acc : wr.heap[wB.heap.size]? = some (.cells #[v, .int .i64 0, .int .i64 0, .string ⟨#[]⟩, .string ⟨#[]⟩, .slice none 0 0] 62)
  row : GKids dataP 97 wB wr wB.heap.size v xs
  gr : wB.grownBy wr (some E.cb)
  cb : E.cb < wB.heap.size
  top : E.B ≤ wB.heap.size
  ns : ∀ b, E.NS b → wB.heap.size < b ∧ v.ownBlock ≠ some b
  hx : 0 ≤ bad' ∨ (bad' = -1 ∧ xs.length + data.wts xs ≤ 10 * at')

section
variable {E : Env} {wB wr w2 : World} {v : Value} {xs : List data.DataD} {at' at2 : Nat} {bad' bad2 : Int}
theorem Pc.ablt (h : Pc E wB wr v xs at' bad') : wB.heap.size < wr.heap.size := (Array.getElem?_eq_some_iff.1 h.acc).1
theorem Pc.own (h : Pc E wB wr v xs at' bad') : v.ownBlock ≠ some wB.heap.size := fun e => by have := (h.row.ownlt e).1; omega
theorem Pc.by (h : Pc E wB wr v xs at' bad') (hg : wr.grownBy w2 (some E.cb)) (hs : St E w2 at2 bad2) (hle : at' ≤ at2) (hx : 0 ≤ bad2 ∨ bad2 = bad') : Pc E wB w2 v xs at2 bad2 := by
  have hc := h.cb
  refine ⟨hs, (hg.block _ h.ablt fun e => by simp only [Option.some.injEq] at e; omega).trans h.acc, h.row.keep hg.size (fun b h1 h2 _ => hg.block b h2 fun e => by simp only [Option.some.injEq] at e; omega) h.own, grown_by_by h.gr hg, h.cb, h.top, h.ns, ?_⟩
  rcases hx with hx | rfl
  · exact .inl hx
  · rcases h.hx with h' | ⟨e, h'⟩
    · exact .inl h'
    · exact .inr ⟨e, by omega⟩
theorem Pc.on (h : Pc E wB wr v xs at' bad') (hb : Below wr.heap.size wr w2) : Pc E wB w2 v xs at' bad' := h.by (grown_noneG _ hb) (h.st.on hb) (Nat.le_refl _) (.inr rfl)

/-- The names have turned. -/
theorem Pc.turn {E0 : Env} {NS : Nat → Prop} {nv : Value} (h : Pc E0 wB wr v xs at' bad') (hE : E0.cb = E.cb ∧ E0.B = E.B) (hg : wr.grownBy w2 (some E.cb)) (hs : St (E.at NS nv) w2 at2 bad2) (hle : at' ≤ at2) (hx : 0 ≤ bad2 ∨ bad2 = bad') (hns : ∀ b, NS b → wr.heap.size ≤ b ∧ b < w2.heap.size) : Pc (E.at NS nv) wB w2 v xs at2 bad2 := by
  obtain ⟨e1, e2⟩ := hE
  have hc := h.cb
  rw [e1] at hc
  have hal := h.ablt
  refine ⟨hs, (hg.block _ h.ablt fun e => by simp only [Option.some.injEq] at e; omega).trans h.acc, h.row.keep hg.size (fun b h1 h2 _ => hg.block b h2 fun e => by simp only [Option.some.injEq] at e; omega) h.own, ?_, hc, by show E.B ≤ _; rw [← e2]; exact h.top, fun b hS => ?_, ?_⟩
  · have := h.gr
    rw [e1] at this
    exact grown_by_by this hg
  · have := hns b hS
    exact ⟨by omega, fun e => by have := (h.row.ownlt e).2; omega⟩
  · rcases hx with hx | rfl
    · exact .inl hx
    · rcases h.hx with h' | ⟨e, h'⟩
      · exact .inl h'
      · exact .inr ⟨e, by omega⟩

/-- One data more. -/
theorem Pc.push {w3 w4 : World} {cs : List Value} {T : data.DataD} {ua : Option Addr} {ul uc r0 : Nat} {css : Nat → List Value} (h : Pc E wB wr v xs at' bad')
    (hk : ∀ i (h : i < xs.length), dataP.rep wr (fun b => wB.heap.size < b ∧ b < wr.heap.size ∧ b ≠ wB.heap.size ∧ v.ownBlock ≠ some b) (css i) xs[i])
    (hr : dataP.rep wr (fun b => r0 ≤ b ∧ b < wr.heap.size) cs T) (hr0 : wB.heap.size < r0) (hro : ∀ g, v.ownBlock = some g → g < r0) (hb2 : Below wr.heap.size wr w2) (hx : 0 ≤ bad' ∨ (bad' = -1 ∧ (xs ++ [T]).length + data.wts (xs ++ [T]) ≤ 10 * at'))
    (ho : w3.ownsRow (wB.heap.size + 1) 97 3 (.slice ua ul uc) (xs.length + 1) (flat css xs.length ++ cs)) (hg3 : w2.grownBy w3 v.ownBlock) (hat : (Value.slice ua ul uc).ownBlock = v.ownBlock ∨ (Value.slice ua ul uc).ownBlock = some w2.heap.size)
    (hw4 : w4 = w3.setCell ⟨wB.heap.size, 0, none⟩ (.slice ua ul uc)) : Pc E wB w4 (.slice ua ul uc) (xs ++ [T]) at' bad' := by
  have hc := h.cb
  have hal := h.ablt
  have z2 := hb2.size
  have z3 := hg3.size
  have z4 : w4.heap.size = w3.heap.size := by rw [hw4]; simp [World.setCell]
  have o4 : ∀ b, b ≠ wB.heap.size → w4.heap[b]? = w3.heap[b]? := fun b hb => by rw [hw4]; exact Below.heap_setCell _ _ _ _ hb
  have s3 : ∀ b, b < w2.heap.size → v.ownBlock ≠ some b → w3.heap[b]? = w2.heap[b]? := fun b hb hn => hg3.block b hb fun e => hn e.symm
  have nlo : ∀ b, b ≤ wB.heap.size → v.ownBlock ≠ some b := fun b hb e => by have := (h.row.ownlt e).1; omega
  have same : ∀ b, b < wr.heap.size → b ≠ wB.heap.size → v.ownBlock ≠ some b → w4.heap[b]? = wr.heap[b]? := fun b h1 h2 h3 => (o4 b h2).trans ((s3 b (by omega) h3).trans (hb2.block b h1))
  have acc3 := (s3 wB.heap.size (by omega) h.own).trans ((hb2.block wB.heap.size hal).trans h.acc)
  have newown : ∀ b, b < wr.heap.size → v.ownBlock ≠ some b → (Value.slice ua ul uc).ownBlock ≠ some b := fun b h1 h2 => by
    rcases hat with e | e
    · rw [e]; exact h2
    · rw [e]; intro e'; simp only [Option.some.injEq] at e'; omega
  have low : ∀ b, b < wB.heap.size → w4.heap[b]? = wr.heap[b]? := fun b hb => same b (by omega) (by omega) (nlo b (by omega))
  have htop := h.top
  have nown : (Value.slice ua ul uc).ownBlock ≠ some wB.heap.size := newown _ hal h.own
  refine ⟨h.st.keep (by omega) fun b hS => ?_, by rw [hw4]; simp [World.setCell, Array.getElem?_modify, acc3], ⟨fun i => if i < xs.length then css i else (fun _ => cs) (i - xs.length), ?_, fun i hi => ?_⟩, ⟨?_, ?_, ?_, by have := h.gr.size; omega, fun q hq hn => (low q hq).trans (h.gr.block q hq hn)⟩, h.cb, h.top, fun b hS => ⟨(h.ns b hS).1, newown b (h.st.ns b hS).1 (h.ns b hS).2⟩, hx⟩
  · rcases hS with hS | hS | rfl
    · have := h.ns b hS
      exact same b (h.st.ns b hS).1 (by omega) this.2
    · exact low b (by omega)
    · exact low _ (by omega)
  · rw [List.length_append, List.length_singleton, flat_append css (fun _ => cs) xs.length 1]
    have e1 : flat (fun _ => cs) 1 = cs := by simp [flat]
    rw [e1]
    obtain ⟨hl, hv⟩ := ho
    refine ⟨hl, ?_⟩
    rcases hv with h0 | ⟨g, cap, cur, h1, h2, h3, h4⟩
    · exact Or.inl h0
    · exact Or.inr ⟨g, cap, cur, h1, h2, by rw [o4 g (by omega)]; exact h3, h4⟩
  · rw [List.length_append, List.length_singleton] at hi
    by_cases hlt : i < xs.length
    · simp only [if_pos hlt]
      rw [List.getElem_append_left hlt]
      exact dataP.mono (dataP.on (hk i hlt) fun b hS => same b hS.2.1 hS.2.2.1 hS.2.2.2) fun b hS => ⟨hS.1, by omega, hS.2.2.1, newown b hS.2.1 hS.2.2.2⟩
    · simp only [if_neg hlt]
      rw [List.getElem_append_right (by omega)]
      have hno : ∀ b, r0 ≤ b → v.ownBlock ≠ some b := fun b hb e => by have := hro b e; omega
      have e0 : i - xs.length = 0 := by omega
      simp only [e0, List.getElem_cons_zero]
      exact dataP.mono (dataP.on hr fun b hS => same b hS.2 (by omega) (hno b hS.1)) fun b hS => ⟨by omega, by omega, by omega, newown b hS.2 (hno b hS.1)⟩
  · rw [hw4]; exact hg3.os.trans (hb2.os.trans h.gr.os)
  · rw [hw4]; exact hg3.tape.trans (hb2.tape.trans h.gr.tape)
  · rw [hw4]; exact hg3.output.trans (hb2.output.trans h.gr.output)
end

/-- The cursor begins. -/
theorem Pc.start {wA wB wC : World} {a : Option Addr} {c : Nat} {l : List TokD} {w0 : World} (hr : tokSh.slice.rep wA (fun b => w0.heap.size ≤ b ∧ b < wA.heap.size) [.slice a l.length c] l) (hf : Fine l) (hl : l.length ≤ 3001) (hlast : ∃ l0 t, l = l0 ++ [t] ∧ t.1 = 0)
    (hB : wB = wA.alloc (.cells #[.slice a l.length c, .int .i64 0, .int .i64 (-1), .slice none 0 0, .bool false] 120)) (hC : wC = wB.alloc (.cells #[.slice none 0 0, .int .i64 0, .int .i64 0, .string ⟨#[]⟩, .string ⟨#[]⟩, .slice none 0 0] 62)) :
    Pc ⟨wA.heap.size, a, c, l, wA.heap.size, fun _ => False, .slice none 0 0⟩ wB wC (.slice none 0 0) [] 0 (-1) := by
  have bB : Below wA.heap.size wA wB := by rw [hB]; exact (Below.refl _ _).alloc (Nat.le_refl _) _
  have bC : Below wB.heap.size wB wC := by rw [hC]; exact (Below.refl _ _).alloc (Nat.le_refl _) _
  have zB : wB.heap.size = wA.heap.size + 1 := by rw [hB]; simp
  have zC : wC.heap.size = wB.heap.size + 1 := by rw [hC]; simp
  obtain ⟨l0, t, e, ht⟩ := hlast
  refine ⟨⟨⟨none, 0, [], false, ?_, ?_, Nat.zero_le _, rfl⟩, fun b hS => hS.elim, tokSh.slice.mono (tokSh.slice.on (tokSh.slice.on hr fun b hS => bB.block b hS.2) fun b hS => bC.block b (by omega)) fun b hS => ⟨hS.2, by show b ≠ wA.heap.size; omega⟩, ?_, hl, hf, ⟨l0, t, e, ht⟩, by omega, by show wA.heap.size ≤ _; omega⟩, ?_, GKids.nil _ _ _, grown_noneG _ bC, by show wA.heap.size < _; omega, by show wA.heap.size ≤ _; omega, fun b hS => hS.elim, .inr ⟨rfl, by simp [data.wts]⟩⟩
  · show wC.heap[wA.heap.size]? = _
    rw [bC.block _ (by omega), hB]; exact alloc_top _ _
  · exact ⟨none, 0, fun _ => [], rfl, Nat.le_refl _, Nat.zero_le _, fun _ => rfl, fun i hi => absurd hi (Nat.not_lt_zero _), fun i hi => absurd hi (Nat.not_lt_zero _)⟩
  · show 0 < l.length
    rw [e]; simp
  · rw [hC]; exact alloc_top _ _

end Go.Proofs.YtlnpfnglphdaiaaGreatDoor.tok

namespace Go.Proofs.YtlnpfnglphdaiaaGreatDoor.tok
open Go Go.RowKit Go.Deep Go.Proofs.YtlnpfnglphdaiaaGreatDoor.rose Go.Proofs.YtlnpfnglphdaiaaGreatDoor
set_option linter.unusedVariables false
set_option linter.unusedSimpArgs false

/-- What a parsing function says: a tree in new memory; where nothing was wrong, it went on, and the tree weighs no more than ten for each token that it took. -/
def Nodes (E : Env) (w : World) (at_ : Nat) (bad : Int) (e : Ending) (w' : World) : Prop :=
  ∃ (at' : Nat) (bad' : Int) (cs : List Value) (T : node.Nd), e = .returned (.agg cs.toArray) ∧ node.ndSh.rep w' (fun b => w.heap.size ≤ b ∧ b < w'.heap.size) cs T ∧ St E w' at' bad' ∧ w.grownBy w' (some E.cb) ∧ at_ ≤ at' ∧
    (0 ≤ bad' ∨ (bad' = bad ∧ at_ < at' ∧ node.wt T + 2 ≤ 10 * (at' - at_)))

theorem infoNd : (Tryz.prog.info? 36).map (fun i => (i.zero, i.size, i.bytes)) = some (some (.agg #[.int .i64 0, .int .i64 0, .string ⟨#[]⟩, .string ⟨#[]⟩, .slice none 0 0]), 5, 72) := by kernel_rfl

theorem flat_mem {css : Nat → List Value} {n : Nat} {u : Value} (h : u ∈ flat css n) : ∃ i, i < n ∧ u ∈ css i := by
  induction n with
  | zero => simp [flat] at h
  | succ n ih =>
    rw [flat_succ, List.mem_append] at h
    rcases h with h | h
    · obtain ⟨i, hi, hm⟩ := ih h; exact ⟨i, by omega, hm⟩
    · exact ⟨n, by omega, h⟩

theorem blk_cellP {w : World} {b i : Nat} {cur : Array Value} {t : TypeId} {v : Value} (h : w.heap[b]? = some (.cells cur t)) (hi : cur[i]? = some v) : w.cell? ⟨b, i, none⟩ = some v := by simp [World.cell?, h, hi]
theorem blk_freeP {w : World} {b i : Nat} {cur : Array Value} {t : TypeId} (h : w.heap[b]? = some (.cells cur t)) : w.frozen? ⟨b, i, none⟩ = false := by simp [World.frozen?, h]

theorem own_kids {w w0 w2 : World} {css : Nat → List Value} {ks : List node.Nd} {S : Nat → Prop} (hSS : ∀ b, S b → b < w.heap.size) {v' : Value} {Z : Obj} (hz0 : w0.heap.size = w.heap.size + 1) (hp0 : w0.heap[w.heap.size]? = some Z) (HK : ∀ i (h : i < ks.length), node.ndSh.rep w S (css i) ks[i])
    (B1 : Below w.heap.size w (w0.alloc (.cells #[] 36))) (L0 : (w0.alloc (.cells #[] 36)).ownsRow w0.heap.size 36 5 (.slice (some ⟨w0.heap.size, 0, none⟩) 0 0) 0 [])
    (hown : w2.ownsRow w0.heap.size 36 5 v' (0 + ks.length) ([] ++ flat css ks.length)) (hgrow : (w0.alloc (.cells #[] 36)).grownBy w2 (Value.slice (some ⟨w0.heap.size, 0, none⟩) 0 0).ownBlock) :
    rose.Own node.ndSh 36 w2 w0.heap.size S v' ks ∧ Below w.heap.size w w2 ∧ w2.heap[w.heap.size]? = some Z := by
  refine ⟨?_, ?_, ?_⟩
  · have := Own.more (A := node.ndSh) (t := 36) (xs := []) (ys := ks) (css := fun _ => []) (css2 := css) (S := S) (base := w0.heap.size) (v := .slice (some ⟨w0.heap.size, 0, none⟩) 0 0) (w := w0.alloc (.cells #[] 36)) (v' := v') (w' := w2) L0 (fun i hi => absurd hi (Nat.not_lt_zero _)) (fun i hi => node.ndSh.on (HK i hi) fun b hS => B1.block b (hSS b hS)) (fun b hS => by have := hSS b hS; omega) (by simp) hown hgrow
    simpa using this
  · exact B1.grown hgrow (by simp; omega) (fun k hk => by have := (World.ownsRow.lt L0 k hk).1; omega)
  · refine (hgrow.block _ (by simp; omega) fun e => ?_).trans ((Below.heap_alloc _ _ _ (by omega)).trans hp0)
    have := (World.ownsRow.lt L0 _ e.symm).1
    omega

set_option maxRecDepth 100000 in
set_option maxHeartbeats 4000000 in
theorem node3_any (op : Int) (hop : -9223372036854775808 ≤ op ∧ op ≤ 9223372036854775807) (ks : List node.Nd) (q o c : Nat) (w : World) (S : Nat → Prop) (hSS : ∀ b, S b → b < w.heap.size) (hl : 0 < ks.length ∧ ks.length ≤ 3)
    (h : node.ndSh.slice.rep w S [.slice (some ⟨q, o, none⟩) ks.length c] ks) :
    Calls Tryz.prog 66 #[.int .i64 op, .slice (some ⟨q, o, none⟩) ks.length c] w fun e w' => (∃ cs, e = .returned (.agg cs.toArray) ∧ node.ndSh.rep w' (fun b => S b ∨ (w.heap.size ≤ b ∧ b < w'.heap.size)) cs (.mk (op, 0, ⟨#[]⟩, ⟨#[]⟩) ks)) ∧ Below w.heap.size w w' := by
  obtain ⟨a, cap, css, e, hcap, hmax, hrow, hk⟩ := node.nds_open h
  cases e
  have hq : q < w.heap.size := by
    obtain ⟨b, o', e, hS, -⟩ := hrow 0 hl.1
    cases e
    exact hSS _ hS
  have hcells : CellsAt w q o (flat css ks.length) := flat_row (fun i hi => node.ndSh.len (hk i hi)) hrow
  have HK : Hid (∀ i (h : i < ks.length), node.ndSh.rep w S (css i) ks[i]) := hk
  obtain ⟨w0, hw0⟩ : ∃ w0, w0 = w.alloc (.cells #[.int .i64 0, .int .i64 0, .string ⟨#[]⟩, .string ⟨#[]⟩, .slice none 0 0] 36) := ⟨_, rfl⟩
  have HW0 : Hid (w0 = w.alloc (.cells #[.int .i64 0, .int .i64 0, .string ⟨#[]⟩, .string ⟨#[]⟩, .slice none 0 0] 36)) := hw0
  have hz0 : w0.heap.size = w.heap.size + 1 := by rw [hw0]; simp
  have hp0 : w0.heap[w.heap.size]? = some (.cells #[.int .i64 0, .int .i64 0, .string ⟨#[]⟩, .string ⟨#[]⟩, .slice none 0 0] 36) := by rw [hw0]; exact alloc_top _ _
  have b0 : Below w.heap.size w w0 := by rw [hw0]; exact (Below.refl _ _).alloc (Nat.le_refl _) _
  have b1 : Below w0.heap.size w0 (w0.alloc (.cells #[] 36)) := (Below.refl _ _).alloc (Nat.le_refl _) _
  have B1 : Hid (Below w.heap.size w (w0.alloc (.cells #[] 36))) := b0.trans (b1.mono (by omega))
  have NEW : Hid (∀ j u, (flat css ks.length)[j]? = some u → (w0.alloc (.cells #[] 36)).cell? ((⟨q, o, none⟩ : Addr).add j) = some u) := fun j u hu => by
    rw [add_plain, B1.out.cell (p := ⟨q, o + j, none⟩) hq]
    exact hcells j u hu
  have ONE : Hid (∀ u ∈ flat css ks.length, u.oneCell' = true) := fun u hu => by
    obtain ⟨i, hi, hm⟩ := flat_mem hu
    exact node.ndSh.one (HK.out i hi) u hm
  have LEN : Hid ((flat css ks.length).length = ks.length * 5) := flat_length fun i hi => node.ndSh.len (HK.out i hi)
  have L0 : Hid ((w0.alloc (.cells #[] 36)).ownsRow w0.heap.size 36 5 (.slice (some ⟨w0.heap.size, 0, none⟩) 0 0) 0 []) := World.ownsRow_lit w0 #[] 0 (Nat.le_refl _) (Nat.zero_le _) rfl
  obtain ⟨ti, hti, hzz⟩ := Option.map_eq_some_iff.1 infoNd
  simp only [Prod.mk.injEq] at hzz
  obtain ⟨hi0, hi1, hi2⟩ := hzz
  have TI : Hid (Tryz.prog.info? 36 = some ti ∧ ti.zero = some (.agg #[.int .i64 0, .int .i64 0, .string ⟨#[]⟩, .string ⟨#[]⟩, .slice none 0 0]) ∧ ti.size = 5 ∧ ti.bytes = 72) := ⟨hti, hi0, hi1, hi2⟩
  clear h hk hrow hcells hw0 b0 b1 hti hi0 hi1 hi2
  go_enter Tryz.func66, Tryz.ntmps66
  go_wp2_with (first
    | (at_builtin
       rw [← HW0.out]
       refine wpList_append_own_at _ rfl _ _ 34 rfl w0.heap.size 36 ti _ 5 72 Tryz.underlying34 TI.out.1 TI.out.2.1 TI.out.2.2.1 TI.out.2.2.2 rfl (by decide) (.slice (some ⟨w0.heap.size, 0, none⟩) 0 0) 0 [] (by simp [Act.eval, hz0]) L0.out ⟨q, o, none⟩ ks.length c (flat css ks.length) (by simp [Act.eval]) LEN.out NEW.out ONE.out (by unfold maxLen; omega) (by omega) (by simp) ?_
       intro v' w2 hown hgrow _ hat
       have OW : Hid (rose.Own node.ndSh 36 w2 w0.heap.size S v' ks ∧ Below w.heap.size w w2 ∧ w2.heap[w.heap.size]? = some (.cells #[.int .i64 0, .int .i64 0, .string ⟨#[]⟩, .string ⟨#[]⟩, .slice none 0 0] 36)) := own_kids hSS hz0 hp0 HK.out B1.out L0.out hown hgrow
       obtain ⟨av, cv, rfl⟩ : ∃ av cv, v' = .slice av ks.length cv := by
         obtain ⟨av, cv, e⟩ := slice_cells (OW.out.1.slice (by decide))
         exact ⟨av, cv, by simpa using e⟩
       have r0 : w2.cell? ⟨w.heap.size, 0, none⟩ = some (.int .i64 0) := blk_cellP (i := 0) OW.out.2.2 rfl
       have r1 : w2.cell? ⟨w.heap.size, 1, none⟩ = some (.int .i64 0) := blk_cellP (i := 1) OW.out.2.2 rfl
       have r2 : w2.cell? ⟨w.heap.size, 2, none⟩ = some (.string ⟨#[]⟩) := blk_cellP (i := 2) OW.out.2.2 rfl
       have r3 : w2.cell? ⟨w.heap.size, 3, none⟩ = some (.string ⟨#[]⟩) := blk_cellP (i := 3) OW.out.2.2 rfl
       have r4 : w2.cell? ⟨w.heap.size, 4, none⟩ = some (.slice none 0 0) := blk_cellP (i := 4) OW.out.2.2 rfl
       have fr : ∀ o, w2.frozen? ⟨w.heap.size, o, none⟩ = false := fun o => blk_freeP OW.out.2.2
       clear hown hgrow hat)
    | go_in)
  refine bodyPost_ret (v := .agg #[.int .i64 op, .int .i64 0, .string ⟨#[]⟩, .string ⟨#[]⟩, .slice av ks.length cv]) (by simp [results, Tryz.f66, go_sem, r0, r1, r2, r3, r4]) rfl ?_
  obtain ⟨hO, hB, -⟩ := OW.out
  have hsz := hB.size
  have HS := hO.slice (by decide)
  have hz2 : w.heap.size < w2.heap.size := cell_lt r0
  refine ⟨⟨[.int .i64 op, .int .i64 0, .string ⟨#[]⟩, .string ⟨#[]⟩, .slice av ks.length cv], by rfl, ?_⟩, ?_⟩
  · refine node.nd_shut hop (by omega) (by decide) (by decide) (node.ndSh.slice.mono (node.ndSh.slice.on HS fun b hS => ?_) fun b hS => ?_)
    · repeat rw [Below.heap_setCell _ _ _ _ (by rcases hS with h | h <;> (first | have := hSS _ h | skip) <;> (simp; omega))]
    · rcases hS with h | h
      · exact .inl h
      · refine .inr ⟨by omega, ?_⟩
        simp only [World.setCell, Array.size_modify]
        omega
  · repeat first | with_reducible exact hB | (refine Below.setCell ?_ (by first | (simp; done) | (simp; omega)) _)

end Go.Proofs.YtlnpfnglphdaiaaGreatDoor.tok
