/-
  What the model's parsing of types says, with any number of tokens left.
  What l3Data says; where its first loop, that gathers names, stands.
-/
import Derived.Test.YtlnpfnglphdaiaaGreatDoorB1
import Derived.Test.YtlnpfnglphdaiaaGreatDoorB2
import Derived.Test.YtlnpfnglphdaiaaGreatDoorB3
import Derived.Test.YtlnpfnglphdaiaaGreatDoorB4
import Derived.Test.YtlnpfnglphdaiaaGreatDoorB5
import Derived.Test.YtlnpfnglphdaiaaGreatDoorB6
import Derived.Test.YtlnpfnglphdaiaaGreatDoorB7
import Derived.Test.YtlnpfnglphdaiaaGreatDoorB8
import Derived.Test.YtlnpfnglphdaiaaGreatDoorB9
import Derived.Test.YtlnpfnglphdaiaaGreatDoorB10
import Derived.Test.YtlnpfnglphdaiaaGreatDoorB11
import Derived.Test.YtlnpfnglphdaiaaGreatDoorB12
import Derived.Test.YtlnpfnglphdaiaaGreatDoorB13
namespace Go.Proofs.YtlnpfnglphdaiaaGreatDoor.tok
open Go Go.RowKit Go.Deep Go.Proofs.YtlnpfnglphdaiaaGreatDoor.rose Go.Proofs.YtlnpfnglphdaiaaGreatDoor
set_option linter.unusedVariables false

theorem ty_all (E : Env) : ∀ N, GTold 96 tyP ty.wt E fun at_ => E.toks.length - at_ < N := by
  intro N
  induction N with
  | zero => exact fun w at_ bad h hN => absurd hN (Nat.not_lt_zero _)
  | succ N ih => exact fun w at_ bad h hN => ty_of E N ih (fun w at_ bad h hN => tyatom_of E N ih w at_ bad h hN) w at_ bad h (by omega)
theorem tyatom_any (E : Env) : GTold 86 tyP ty.wt E fun _ => True := fun w at_ bad h _ => tyatom_of E (E.toks.length - at_) (ty_all E _) w at_ bad h (Nat.le_refl _)
theorem alt_any (E : Env) : GTold 60 conP con.wt E fun _ => True := fun w at_ bad h _ => alt_of E (tyatom_any E) w at_ bad h trivial

end Go.Proofs.YtlnpfnglphdaiaaGreatDoor.tok

namespace Go.Proofs.YtlnpfnglphdaiaaGreatDoor.tok
open Go Go.RowKit Go.Deep Go.Proofs.YtlnpfnglphdaiaaGreatDoor.rose Go.Proofs.YtlnpfnglphdaiaaGreatDoor
set_option linter.unusedVariables false
set_option linter.unusedSimpArgs false

/-- What l3Data says: as the others, but the names have turned. -/
def DataSays (E : Env) (w : World) (at_ : Nat) (bad : Int) (e : Ending) (w' : World) : Prop :=
  ∃ (NS : Nat → Prop) (nv : Value) (at' : Nat) (bad' : Int) (cs : List Value) (T : data.DataD), e = .returned (.agg cs.toArray) ∧ dataP.rep w' (fun b => w.heap.size ≤ b ∧ b < w'.heap.size) cs T ∧ St (E.at NS nv) w' at' bad' ∧ (∀ b, NS b → w.heap.size ≤ b ∧ b < w'.heap.size) ∧ w.grownBy w' (some E.cb) ∧ at_ ≤ at' ∧
    (0 ≤ bad' ∨ (bad' = bad ∧ at_ < at' ∧ data.wt T + 2 ≤ 10 * (at' - at_)))

theorem cwts_snoc (xs : List con.ConD) (x : con.ConD) : con.wts (xs ++ [x]) = con.wts xs + con.wt x := by
  induction xs with
  | nil => simp [con.wts]
  | cons a xs ih => simp [con.wts, ih]; omega

structure Dl (E : Env) (w wr : World) (Z : Obj) (Ab : Nat) (t : ByteArray) (vv : Value) (names : List ByteArray) (at_ : Nat) (bad : Int) (at' : Nat) (bad' : Int) : Prop where
  nm : Nm E wr (w.heap.size + 1) vv names at' bad'
  acc : wr.heap[Ab]? = some (.cells #[.string t, .int .i64 0, .slice none 0 0] 97)
  gr : w.grownBy wr (some E.cb)
  res : wr.heap[w.heap.size]? = some Z
  cb : E.cb < w.heap.size
  ab : w.heap.size < Ab
  own : vv.ownBlock ≠ some Ab
  top : E.B ≤ w.heap.size
  le : at_ ≤ at'
  hx : 0 ≤ bad' ∨ (bad' = bad ∧ at_ + 2 ≤ at')

section
variable {E : Env} {w wr w2 : World} {Z : Obj} {Ab : Nat} {t : ByteArray} {vv : Value} {names : List ByteArray} {at_ at' at2 : Nat} {bad bad' bad2 : Int}
theorem Dl.ablt (h : Dl E w wr Z Ab t vv names at_ bad at' bad') : Ab < wr.heap.size := (Array.getElem?_eq_some_iff.1 h.acc).1
theorem Dl.lt (h : Dl E w wr Z Ab t vv names at_ bad at' bad') : w.heap.size < wr.heap.size := (Array.getElem?_eq_some_iff.1 h.res).1
theorem Dl.by (h : Dl E w wr Z Ab t vv names at_ bad at' bad') (hg : wr.grownBy w2 (some E.cb)) (hs : St (E.at (fun b => vv.ownBlock = some b) vv) w2 at2 bad2) (hle : at' ≤ at2) (hx : 0 ≤ bad2 ∨ bad2 = bad') (hl : names.length ≤ at2 + (if bad2 < 0 then 0 else 1)) : Dl E w w2 Z Ab t vv names at_ bad at2 bad2 := by
  have hc := h.cb
  have ha := h.ab
  have hle0 := h.le
  refine ⟨h.nm.by hg hs hl, (hg.block _ h.ablt fun e => by simp only [Option.some.injEq] at e; omega).trans h.acc, grown_by_by h.gr hg, (hg.block _ h.lt fun e => by simp only [Option.some.injEq] at e; omega).trans h.res, h.cb, h.ab, h.own, h.top, by omega, ?_⟩
  rcases hx with hx | rfl
  · exact .inl hx
  · rcases h.hx with h' | ⟨e, h'⟩
    · exact .inl h'
    · exact .inr ⟨e, by omega⟩
theorem Dl.on (h : Dl E w wr Z Ab t vv names at_ bad at' bad') (hb : Below wr.heap.size wr w2) : Dl E w w2 Z Ab t vv names at_ bad at' bad' := h.by (grown_noneG _ hb) (h.nm.st.on hb) (Nat.le_refl _) (.inr rfl) h.nm.len

/-- One name more. -/
theorem Dl.push {w3 w4 : World} {s : ByteArray} {a : Option Addr} {l c : Nat} (h : Dl E w wr Z Ab t vv names at_ bad at' bad') (hb2 : Below wr.heap.size wr w2) (ht : s.size ≤ 8) (hlen : names.length + 1 ≤ at' + (if bad' < 0 then 0 else 1))
    (ho : w3.ownsRow (w.heap.size + 1) 9 1 (.slice a l c) (names.length + 1) (names.map Value.string ++ [.string s])) (hg3 : w2.grownBy w3 vv.ownBlock) (hat : (Value.slice a l c).ownBlock = vv.ownBlock ∨ (Value.slice a l c).ownBlock = some w2.heap.size) (hw4 : w4 = w3.setCell ⟨E.cb, 3, none⟩ (.slice a l c)) : Dl E w w4 Z Ab t (.slice a l c) (names ++ [s]) at_ bad at' bad' := by
  have hc := h.cb
  have ha := h.ab
  have hal := h.ablt
  have hlt := h.lt
  have htop := h.top
  have z2 := hb2.size
  obtain ⟨h1, h2⟩ := h.nm.push hb2 ht hlen ho hg3 (by omega) hw4
  have nlo : ∀ b, b ≤ w.heap.size → vv.ownBlock ≠ some b := fun b hb e => by have := (h.nm.ownlt e).1; omega
  have z3 := hg3.size
  have z4 : w4.heap.size = w3.heap.size := by rw [hw4]; simp [World.setCell]
  refine ⟨h1, (h2 Ab hal (by omega) h.own).trans h.acc, ⟨?_, ?_, ?_, by have := h.gr.size; omega, fun q hq hn => (h2 q (by omega) (fun e => hn (by rw [e])) (nlo q (by omega))).trans (h.gr.block q hq hn)⟩, (h2 _ hlt (by omega) (nlo _ (Nat.le_refl _))).trans h.res, h.cb, h.ab, ?_, h.top, h.le, h.hx⟩
  · rw [hw4]; exact hg3.os.trans (hb2.os.trans h.gr.os)
  · rw [hw4]; exact hg3.tape.trans (hb2.tape.trans h.gr.tape)
  · rw [hw4]; exact hg3.output.trans (hb2.output.trans h.gr.output)
  · rcases hat with e | e
    · rw [e]; exact h.own
    · rw [e]; intro e'; simp only [Option.some.injEq] at e'; omega

/-- The names are there: how many is told, and the cons begin. -/
theorem Dl.cons {w4 : World} (h : Dl E w wr Z Ab t vv names at_ bad at' bad') (n : Int) (hw4 : w4 = wr.setCell ⟨Ab, 1, none⟩ (.int .i64 n)) : Gc conP 86 Z (fun v => .cells #[.string t, .int .i64 n, v] 97) (fun xs => 8 + xs.length + con.wts xs) (E.at (fun b => vv.ownBlock = some b) vv) w w4 Ab (.slice none 0 0) [] at_ bad at' bad' := by
  have hc := h.cb
  have ha := h.ab
  have hal := h.ablt
  have htop := h.top
  have z4 : w4.heap.size = wr.heap.size := by rw [hw4]; simp [World.setCell]
  have o4 : ∀ b, b ≠ Ab → w4.heap[b]? = wr.heap[b]? := fun b hb => by rw [hw4]; exact Below.heap_setCell _ _ _ _ hb
  refine ⟨⟨h.nm.st.keep (by omega) fun b hS => o4 b ?_, ⟨?_, ?_, ?_, by have := h.gr.size; omega, fun q hq hn => (o4 q (by omega)).trans (h.gr.block q hq hn)⟩, (o4 _ (by omega)).trans h.res, h.cb⟩, ?_, h.ab, GKids.nil _ _ _, (fun e => by cases e), h.top, fun b hS => .inr ?_, h.le, ?_⟩
  · rcases hS with hS | hS | hS
    · exact fun e => h.own (by rw [← e]; exact hS)
    · have : b < E.B := hS; omega
    · have : b = E.cb := hS; omega
  · rw [hw4]; exact h.gr.os
  · rw [hw4]; exact h.gr.tape
  · rw [hw4]; exact h.gr.output
  · rw [hw4]; simp [World.setCell, Array.getElem?_modify, h.acc]
  · have hq := h.nm.ownlt hS
    exact ⟨fun e => h.own (by rw [← e]; exact hS), (fun e => by cases e), by omega, by omega⟩
  · rcases h.hx with h' | ⟨e, h'⟩
    · exact .inl h'
    · exact .inr ⟨e, by omega, by simp [con.wts]; omega⟩
end

/-- The data is written. -/
theorem answerD {E : Env} {w w1 w' : World} {cs : List Value} {T : data.DataD} {NS : Nat → Prop} {nv : Value} {at_ at' : Nat} {bad bad' : Int} (h : St E w at_ bad) (hgw : w.grownBy w1 (some E.cb)) (hz : w.heap.size < w1.heap.size)
    (hr : dataP.rep w1 (fun b => w.heap.size < b ∧ b < w1.heap.size) cs T) (hs : St (E.at NS nv) w1 at' bad') (hns : ∀ b, NS b → w.heap.size < b) (hle : at_ ≤ at') (hx : 0 ≤ bad' ∨ (bad' = bad ∧ at_ < at' ∧ data.wt T + 2 ≤ 10 * (at' - at_)))
    (hg' : w1.grownBy w' (some w.heap.size)) : DataSays E w at_ bad (.returned (.agg cs.toArray)) w' := by
  have hc := h.cblt
  have ht := h.top
  have z2 := hg'.size
  refine ⟨NS, nv, at', bad', cs, T, rfl, dataP.mono (dataP.on hr fun b hS => hg'.block b hS.2 fun e => by simp only [Option.some.injEq] at e; omega) fun b hS => ⟨by omega, by omega⟩, hs.keep z2 fun b hS => hg'.block b ?_ fun e => ?_, fun b hS => ⟨by have := hns b hS; omega, Nat.lt_of_lt_of_le (hs.ns b hS).1 z2⟩, ⟨hg'.os.trans hgw.os, hg'.tape.trans hgw.tape, hg'.output.trans hgw.output, by omega, fun q hq hn => (hg'.block q (by omega) fun e => by simp only [Option.some.injEq] at e; omega).trans (hgw.block q hq hn)⟩, hle, hx⟩
  · rcases hS with hS | hS | hS
    · exact (hs.ns b hS).1
    · exact Nat.lt_of_lt_of_le hS hs.top
    · have : b = E.cb := hS; omega
  · simp only [Option.some.injEq] at e
    rcases hS with hS | hS | hS
    · have := hns _ hS; omega
    · have : b < E.B := hS; omega
    · have : b = E.cb := hS; omega

end Go.Proofs.YtlnpfnglphdaiaaGreatDoor.tok
