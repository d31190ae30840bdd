/-
  A Op that came in as an argument lies in memory as its cells.
  A Fun that came in as an argument lies in memory as its cells.
  A slice of ints that came in lies in memory as its cells.
  A Heap that came in as an argument lies in memory as its cells.
  A Call that came in as an argument lies in memory as its cells.
  A Vm that came in as an argument lies in memory as its cells.
  An Op that lies in memory apart: it holds no memory; a slice of them is one block.
  A Fun that lies in memory apart: its slices are all different blocks.
  Slices of ints as they lie in memory.
  A Heap that lies in memory apart: its slices are all different blocks.
  An Call that lies in memory apart: it holds no memory; a slice of them is one block.
-/
import Derived.ProofKit
import Derived.OpenShut
import Derived.Test.YtjibmpebebephaaGreatDoorChecked
import Derived.WalkKit
import Derived.Test.YtjibmpebebephaaGreatDoorB1
import Derived.Test.YtjibmpebebephaaGreatDoorB2
import Derived.Test.YtjibmpebebephaaGreatDoorB3
import Derived.Test.YtjibmpebebephaaGreatDoorB4
import Derived.Test.YtjibmpebebephaaGreatDoorB5
namespace Go.Proofs.YtjibmpebebephaaGreatDoor.op
open Go.RowKit Go.ChangeShapes Go.WideShapes Go.Proofs.YtjibmpebebephaaGreatDoor.rose Go.Proofs.YtjibmpebebephaaGreatDoor
set_option linter.unusedVariables false
set_option maxRecDepth 100000

section
variable {H : Type} {enc : TypeId × Value → H} {w : World} {spare : Nat → Bool} {held : Bool}

theorem cells_op : Tryz.prog.cellsOf 140 = 3 := by kernel_rfl

theorem opens_op (n : Nat) : OpensAt enc Tryz.prog w spare held n opSh 140 := by
  intro fuel cs x hf h
  obtain ⟨xs, m, rfl, -, hl, hlen, hfl⟩ := DataW.trod_struct Tryz.underlying140 h
  rw [cells_op] at hl
  have hlen5 : xs.length = 3 := hlen
  match cs, hl with
  | [c0, c1, c2], _ =>
    match xs, hlen5 with
    | [y0, y1, y2], _ =>
      have f0 := hfl 0 _ rfl
      have f1 := hfl 1 _ rfl
      have f2 := hfl 2 _ rfl
      simp only [List.getElem?_cons_zero, List.getElem?_cons_succ] at f0 f1 f2
      obtain ⟨p0, h0⟩ := opens_int (w := w) Tryz.underlying3 n m _ _ (by omega) f0
      obtain ⟨p1, h1⟩ := opens_int (w := w) Tryz.underlying3 n m _ _ (by omega) f1
      obtain ⟨p2, h2⟩ := opens_int (w := w) Tryz.underlying3 n m _ _ (by omega) f2
      exact ⟨(p0, p1, p2), [c0], _, rfl, h0, [c1], _, rfl, h1, h2⟩
theorem opens_ops (n : Nat) : OpensAt enc Tryz.prog w spare held n opSh.slice 76 := fun fuel cs x hf h => opens_slice (n := n) Tryz.underlying76 cells_op (by decide) (opens_op n) fuel cs x (by omega) h

/-- THE ARGUMENT. -/
theorem arg_op {v : Value} {d : DataW H} {ps : List MemPlace} {r : Reach} {b : Nat} (hval : Value.okWide Tryz.prog w r b 140 v) (h : DataW.Trod enc Tryz.prog w 0 spare held 140 v d ps) : ∃ cs T, v = .agg cs.toArray ∧ opSh.rep w (· < w.heap.size) cs T := by
  obtain ⟨cs, rfl, _⟩ := okWide_struct Tryz.underlying140 hval
  obtain ⟨fuel, hf⟩ := h
  obtain ⟨T, hT⟩ := opens_op (enc := enc) (w := w) (spare := spare) (held := held) fuel fuel _ _ (Nat.le_refl _) hf
  exact ⟨cs.toList, T, by simp, hT⟩
end

end Go.Proofs.YtjibmpebebephaaGreatDoor.op

namespace Go.Proofs.YtjibmpebebephaaGreatDoor.fun
open Go.RowKit Go.ChangeShapes Go.WideShapes Go.Proofs.YtjibmpebebephaaGreatDoor.rose Go.Proofs.YtjibmpebebephaaGreatDoor
set_option linter.unusedVariables false
set_option maxRecDepth 100000

section
variable {H : Type} {enc : TypeId × Value → H} {w : World} {spare : Nat → Bool} {held : Bool}

theorem cells_fun : Tryz.prog.cellsOf 78 = 2 := by kernel_rfl

theorem opens_fun (n : Nat) : OpensAt enc Tryz.prog w spare held n funSh 78 := by
  intro fuel cs x hf h
  obtain ⟨xs, m, rfl, -, hl, hlen, hfl⟩ := DataW.trod_struct Tryz.underlying78 h
  rw [cells_fun] at hl
  have hlen5 : xs.length = 2 := hlen
  match cs, hl with
  | [c0, c1], _ =>
    match xs, hlen5 with
    | [y0, y1], _ =>
      have f0 := hfl 0 _ rfl
      have f1 := hfl 1 _ rfl
      simp only [List.getElem?_cons_zero, List.getElem?_cons_succ] at f0 f1
      obtain ⟨p0, h0⟩ := opens_int (w := w) Tryz.underlying3 n m _ _ (by omega) f0
      obtain ⟨p1, h1⟩ := op.opens_ops (w := w) n m _ _ (by omega) f1
      exact ⟨(p0, p1), [c0], _, rfl, h0, h1⟩
theorem opens_funs (n : Nat) : OpensAt enc Tryz.prog w spare held n funSh.slice 22 := fun fuel cs x hf h => opens_slice (n := n) Tryz.underlying22 cells_fun (by decide) (opens_fun n) fuel cs x (by omega) h

/-- THE ARGUMENT. -/
theorem arg_fun {v : Value} {d : DataW H} {ps : List MemPlace} {r : Reach} {b : Nat} (hval : Value.okWide Tryz.prog w r b 78 v) (h : DataW.Trod enc Tryz.prog w 0 spare held 78 v d ps) : ∃ cs T, v = .agg cs.toArray ∧ funSh.rep w (· < w.heap.size) cs T := by
  obtain ⟨cs, rfl, _⟩ := okWide_struct Tryz.underlying78 hval
  obtain ⟨fuel, hf⟩ := h
  obtain ⟨T, hT⟩ := opens_fun (enc := enc) (w := w) (spare := spare) (held := held) fuel fuel _ _ (Nat.le_refl _) hf
  exact ⟨cs.toList, T, by simp, hT⟩
end

end Go.Proofs.YtjibmpebebephaaGreatDoor.fun

namespace Go.Proofs.YtjibmpebebephaaGreatDoor
open Go.RowKit Go.ChangeShapes Go.WideShapes Go.Proofs.YtjibmpebebephaaGreatDoor.rose
set_option maxRecDepth 100000

theorem cells_int : Tryz.prog.cellsOf 3 = 1 := by kernel_rfl
theorem opens_ints {H : Type} {enc : TypeId × Value → H} {w : World} {spare : Nat → Bool} {held : Bool} (n : Nat) : OpensAt enc Tryz.prog w spare held n Sh.int.slice 23 := fun fuel cs x hf h => opens_slice (A := Sh.int) (n := n) Tryz.underlying23 cells_int (by decide) (opens_int Tryz.underlying3 n) fuel cs x (by omega) h

end Go.Proofs.YtjibmpebebephaaGreatDoor

namespace Go.Proofs.YtjibmpebebephaaGreatDoor.heap
open Go.RowKit Go.ChangeShapes Go.WideShapes Go.Proofs.YtjibmpebebephaaGreatDoor.rose Go.Proofs.YtjibmpebebephaaGreatDoor
set_option linter.unusedVariables false
set_option maxRecDepth 100000

section
variable {H : Type} {enc : TypeId × Value → H} {w : World} {spare : Nat → Bool} {held : Bool}

theorem cells_heap : Tryz.prog.cellsOf 25 = 4 := by kernel_rfl

theorem opens_heap (n : Nat) : OpensAt enc Tryz.prog w spare held n heapSh 25 := by
  intro fuel cs x hf h
  obtain ⟨xs, m, rfl, -, hl, hlen, hfl⟩ := DataW.trod_struct Tryz.underlying25 h
  rw [cells_heap] at hl
  have hlen5 : xs.length = 4 := hlen
  match cs, hl with
  | [c0, c1, c2, c3], _ =>
    match xs, hlen5 with
    | [y0, y1, y2, y3], _ =>
      have f0 := hfl 0 _ rfl
      have f1 := hfl 1 _ rfl
      have f2 := hfl 2 _ rfl
      have f3 := hfl 3 _ rfl
      simp only [List.getElem?_cons_zero, List.getElem?_cons_succ] at f0 f1 f2 f3
      obtain ⟨p0, h0⟩ := opens_ints (w := w) n m _ _ (by omega) f0
      obtain ⟨p1, h1⟩ := opens_int (w := w) Tryz.underlying3 n m _ _ (by omega) f1
      obtain ⟨p2, h2⟩ := opens_int (w := w) Tryz.underlying3 n m _ _ (by omega) f2
      obtain ⟨p3, h3⟩ := opens_int (w := w) Tryz.underlying3 n m _ _ (by omega) f3
      exact ⟨(p0, p1, p2, p3), [c0], _, rfl, h0, [c1], _, rfl, h1, [c2], _, rfl, h2, h3⟩

/-- THE ARGUMENT. -/
theorem arg_heap {v : Value} {d : DataW H} {ps : List MemPlace} {r : Reach} {b : Nat} (hval : Value.okWide Tryz.prog w r b 25 v) (h : DataW.Trod enc Tryz.prog w 0 spare held 25 v d ps) : ∃ cs T, v = .agg cs.toArray ∧ heapSh.rep w (· < w.heap.size) cs T := by
  obtain ⟨cs, rfl, _⟩ := okWide_struct Tryz.underlying25 hval
  obtain ⟨fuel, hf⟩ := h
  obtain ⟨T, hT⟩ := opens_heap (enc := enc) (w := w) (spare := spare) (held := held) fuel fuel _ _ (Nat.le_refl _) hf
  exact ⟨cs.toList, T, by simp, hT⟩
end

end Go.Proofs.YtjibmpebebephaaGreatDoor.heap

namespace Go.Proofs.YtjibmpebebephaaGreatDoor.call
open Go.RowKit Go.ChangeShapes Go.WideShapes Go.Proofs.YtjibmpebebephaaGreatDoor.rose Go.Proofs.YtjibmpebebephaaGreatDoor
set_option linter.unusedVariables false
set_option maxRecDepth 100000

section
variable {H : Type} {enc : TypeId × Value → H} {w : World} {spare : Nat → Bool} {held : Bool}

theorem cells_call : Tryz.prog.cellsOf 94 = 3 := by kernel_rfl

theorem opens_call (n : Nat) : OpensAt enc Tryz.prog w spare held n callSh 94 := by
  intro fuel cs x hf h
  obtain ⟨xs, m, rfl, -, hl, hlen, hfl⟩ := DataW.trod_struct Tryz.underlying94 h
  rw [cells_call] at hl
  have hlen5 : xs.length = 3 := hlen
  match cs, hl with
  | [c0, c1, c2], _ =>
    match xs, hlen5 with
    | [y0, y1, y2], _ =>
      have f0 := hfl 0 _ rfl
      have f1 := hfl 1 _ rfl
      have f2 := hfl 2 _ rfl
      simp only [List.getElem?_cons_zero, List.getElem?_cons_succ] at f0 f1 f2
      obtain ⟨p0, h0⟩ := opens_int (w := w) Tryz.underlying3 n m _ _ (by omega) f0
      obtain ⟨p1, h1⟩ := opens_int (w := w) Tryz.underlying3 n m _ _ (by omega) f1
      obtain ⟨p2, h2⟩ := opens_int (w := w) Tryz.underlying3 n m _ _ (by omega) f2
      exact ⟨(p0, p1, p2), [c0], _, rfl, h0, [c1], _, rfl, h1, h2⟩
theorem opens_calls (n : Nat) : OpensAt enc Tryz.prog w spare held n callSh.slice 26 := fun fuel cs x hf h => opens_slice (n := n) Tryz.underlying26 cells_call (by decide) (opens_call n) fuel cs x (by omega) h

/-- THE ARGUMENT. -/
theorem arg_call {v : Value} {d : DataW H} {ps : List MemPlace} {r : Reach} {b : Nat} (hval : Value.okWide Tryz.prog w r b 94 v) (h : DataW.Trod enc Tryz.prog w 0 spare held 94 v d ps) : ∃ cs T, v = .agg cs.toArray ∧ callSh.rep w (· < w.heap.size) cs T := by
  obtain ⟨cs, rfl, _⟩ := okWide_struct Tryz.underlying94 hval
  obtain ⟨fuel, hf⟩ := h
  obtain ⟨T, hT⟩ := opens_call (enc := enc) (w := w) (spare := spare) (held := held) fuel fuel _ _ (Nat.le_refl _) hf
  exact ⟨cs.toList, T, by simp, hT⟩
end

end Go.Proofs.YtjibmpebebephaaGreatDoor.call

namespace Go.Proofs.YtjibmpebebephaaGreatDoor.vm
open Go.RowKit Go.ChangeShapes Go.WideShapes Go.Proofs.YtjibmpebebephaaGreatDoor.rose Go.Proofs.YtjibmpebebephaaGreatDoor
set_option linter.unusedVariables false
set_option maxRecDepth 100000

section
variable {H : Type} {enc : TypeId × Value → H} {w : World} {spare : Nat → Bool} {held : Bool}

theorem cells_vm : Tryz.prog.cellsOf 28 = 10 := by kernel_rfl

theorem opens_vm (n : Nat) : OpensAt enc Tryz.prog w spare held n vmSh 28 := by
  intro fuel cs x hf h
  obtain ⟨xs, m, rfl, -, hl, hlen, hfl⟩ := DataW.trod_struct Tryz.underlying28 h
  rw [cells_vm] at hl
  have hlen5 : xs.length = 7 := hlen
  match cs, hl with
  | [c0, c1, c2, c3, c4, c5, c6, c7, c8, c9], _ =>
    match xs, hlen5 with
    | [y0, y1, y2, y3, y4, y5, y6], _ =>
      have f0 := hfl 0 _ rfl
      have f1 := hfl 1 _ rfl
      have f2 := hfl 2 _ rfl
      have f3 := hfl 3 _ rfl
      have f4 := hfl 4 _ rfl
      have f5 := hfl 5 _ rfl
      have f6 := hfl 6 _ rfl
      simp only [List.getElem?_cons_zero, List.getElem?_cons_succ] at f0 f1 f2 f3 f4 f5 f6
      obtain ⟨p0, h0⟩ := fun.opens_funs (w := w) n m _ _ (by omega) f0
      obtain ⟨p1, h1⟩ := heap.opens_heap (w := w) n m _ _ (by omega) f1
      obtain ⟨p2, h2⟩ := opens_ints (w := w) n m _ _ (by omega) f2
      obtain ⟨p3, h3⟩ := call.opens_calls (w := w) n m _ _ (by omega) f3
      obtain ⟨p4, h4⟩ := opens_ints (w := w) n m _ _ (by omega) f4
      obtain ⟨p5, h5⟩ := opens_int (w := w) Tryz.underlying3 n m _ _ (by omega) f5
      obtain ⟨p6, h6⟩ := opens_bool (w := w) Tryz.underlying4 n m _ _ (by omega) f6
      exact ⟨(p0, p1, p2, p3, p4, p5, p6), [c0], _, rfl, h0, [c1, c2, c3, c4], _, rfl, h1, [c5], _, rfl, h2, [c6], _, rfl, h3, [c7], _, rfl, h4, [c8], _, rfl, h5, h6⟩

/-- THE ARGUMENT. -/
theorem arg_vm {v : Value} {d : DataW H} {ps : List MemPlace} {r : Reach} {b : Nat} (hval : Value.okWide Tryz.prog w r b 28 v) (h : DataW.Trod enc Tryz.prog w 0 spare held 28 v d ps) : ∃ cs T, v = .agg cs.toArray ∧ vmSh.rep w (· < w.heap.size) cs T := by
  obtain ⟨cs, rfl, _⟩ := okWide_struct Tryz.underlying28 hval
  obtain ⟨fuel, hf⟩ := h
  obtain ⟨T, hT⟩ := opens_vm (enc := enc) (w := w) (spare := spare) (held := held) fuel fuel _ _ (Nat.le_refl _) hf
  exact ⟨cs.toList, T, by simp, hT⟩
end

end Go.Proofs.YtjibmpebebephaaGreatDoor.vm

namespace Go.Proofs.YtjibmpebebephaaGreatDoor.op
open Go.RowKit Go.Proofs.YtjibmpebebephaaGreatDoor.rose Go.Proofs.YtjibmpebebephaaGreatDoor
set_option linter.unusedVariables false

abbrev opSp : Sh OpD := opSh
theorem opp_rep {w : World} {S : Nat → Prop} {cs : List Value} {T : OpD} (h : opSp.rep w S cs T) : opSh.rep w S cs T := h
theorem opps_rep {w : World} {S : Nat → Prop} {cs : List Value} {ks : List OpD} (h : opSp.sslice.rep w S cs ks) : opSh.slice.rep w S cs ks := sslice_rep (A := opSp) (B := opSh) rfl (fun h => h) h
theorem opp_shut {w : World} {S : Nat → Prop} {x0 : Int} {x1 : Int} {x2 : Int} (h0 : -9223372036854775808 ≤ x0 ∧ x0 ≤ 9223372036854775807) (h1 : -9223372036854775808 ≤ x1 ∧ x1 ≤ 9223372036854775807) (h2 : -9223372036854775808 ≤ x2 ∧ x2 ≤ 9223372036854775807) : opSp.rep w S [.int .i64 x0, .int .i64 x1, .int .i64 x2] ((x0, x1, x2)) := op_shut h0 h1 h2
theorem opp_shutv {w : World} {S : Nat → Prop} {x0 : Int} {x1 : Int} {x2 : Int} (h0 : -9223372036854775808 ≤ x0 ∧ x0 ≤ 9223372036854775807) (h1 : -9223372036854775808 ≤ x1 ∧ x1 ≤ 9223372036854775807) (h2 : -9223372036854775808 ≤ x2 ∧ x2 ≤ 9223372036854775807) : opSp.rep w S [.int .i64 x0, .int .i64 x1, .int .i64 x2] ((x0, x1, x2)) := op_shut h0 h1 h2
theorem opp_open {w : World} {S : Nat → Prop} {cs : List Value} {T : OpD} (h : opSp.rep w S cs T) : ∃ x0 x1 x2, T = (x0, x1, x2) ∧ cs = [.int .i64 x0, .int .i64 x1, .int .i64 x2] ∧ (-9223372036854775808 ≤ x0 ∧ x0 ≤ 9223372036854775807) ∧ (-9223372036854775808 ≤ x1 ∧ x1 ≤ 9223372036854775807) ∧ (-9223372036854775808 ≤ x2 ∧ x2 ≤ 9223372036854775807) := op_open h
theorem opps_open {w : World} {S : Nat → Prop} {v : Value} {ks : List OpD} (h : opSp.sslice.rep w S [v] ks) : ∃ a cap css F, v = .slice a ks.length cap ∧ ks.length ≤ cap ∧ cap ≤ maxLen ∧ (a = none → cap = 0) ∧ SRow opSp w S a css F ks := by
  obtain ⟨a, cap, css, F, e, h1, h2, h3, h4⟩ := h
  exact ⟨a, cap, css, F, by simpa using e, h1, h2, h3, h4⟩

end Go.Proofs.YtjibmpebebephaaGreatDoor.op

namespace Go.Proofs.YtjibmpebebephaaGreatDoor.fun
open Go.RowKit Go.Proofs.YtjibmpebebephaaGreatDoor.rose Go.Proofs.YtjibmpebebephaaGreatDoor
set_option linter.unusedVariables false

abbrev funSp : Sh FunD := Sh.int.spair op.opSp.sslice

theorem funp_rep {w : World} {S : Nat → Prop} {cs : List Value} {T : FunD} (h : funSp.rep w S cs T) : funSh.rep w S cs T := (fun h => spair_rep (fun h => h) (fun h => op.opps_rep h) h) h
theorem funps_rep {w : World} {S : Nat → Prop} {cs : List Value} {ks : List FunD} (h : funSp.sslice.rep w S cs ks) : funSh.slice.rep w S cs ks := sslice_rep (A := funSp) (B := funSh) rfl (fun h => funp_rep h) h

theorem funp_shut {w : World} {S : Nat → Prop} {x0 : Int} {x1 : List op.OpD} {a1 : Option Addr} {c1 : Nat} (h0 : -9223372036854775808 ≤ x0 ∧ x0 ≤ 9223372036854775807) (h1 : op.opSp.sslice.rep w S [.slice a1 x1.length c1] x1) : funSp.rep w S [.int .i64 x0, .slice a1 x1.length c1] ((x0, x1)) :=
  ⟨[_], _, (fun _ => False), S, rfl, fun b h => h.elim, fun b h => h, fun b h => h.elim, ⟨rfl, h0⟩, h1⟩
theorem funp_shutv {w : World} {S : Nat → Prop} {x0 : Int} {x1 : List op.OpD} {v1 : Value} (h0 : -9223372036854775808 ≤ x0 ∧ x0 ≤ 9223372036854775807) (h1 : op.opSp.sslice.rep w S [v1] x1) : funSp.rep w S [.int .i64 x0, v1] ((x0, x1)) :=
  ⟨[_], _, (fun _ => False), S, rfl, fun b h => h.elim, fun b h => h, fun b h => h.elim, ⟨rfl, h0⟩, h1⟩
theorem funp_open {w : World} {S : Nat → Prop} {cs : List Value} {T : FunD} (h : funSp.rep w S cs T) : ∃ x0 x1 a1 c1, T = (x0, x1) ∧ cs = [.int .i64 x0, .slice a1 x1.length c1] ∧ (-9223372036854775808 ≤ x0 ∧ x0 ≤ 9223372036854775807) ∧ op.opSp.sslice.rep w S [.slice a1 x1.length c1] x1 := by
  obtain ⟨x0, x1⟩ := T
  obtain ⟨_, _, A0, B0, rfl, ua0, ub0, ue0, ⟨rfl, h0⟩, h1⟩ := h
  obtain ⟨a1, c1, rfl⟩ := sslice_cells h1
  exact ⟨_, _, _, _, rfl, rfl, h0, op.opSp.sslice.mono h1 fun b g => ub0 b (g)⟩
theorem funps_open {w : World} {S : Nat → Prop} {v : Value} {ks : List FunD} (h : funSp.sslice.rep w S [v] ks) : ∃ a cap css F, v = .slice a ks.length cap ∧ ks.length ≤ cap ∧ cap ≤ maxLen ∧ (a = none → cap = 0) ∧ SRow funSp w S a css F ks := by
  obtain ⟨a, cap, css, F, e, h1, h2, h3, h4⟩ := h
  exact ⟨a, cap, css, F, by simpa using e, h1, h2, h3, h4⟩

end Go.Proofs.YtjibmpebebephaaGreatDoor.fun

namespace Go.Proofs.YtjibmpebebephaaGreatDoor.ints
open Go.RowKit Go.Proofs.YtjibmpebebephaaGreatDoor.rose Go.Proofs.YtjibmpebebephaaGreatDoor
set_option linter.unusedVariables false

abbrev intsSh : Sh (List Int) := Sh.int.slice
abbrev intsSp : Sh (List Int) := Sh.int.sslice

theorem intsp_rep {w : World} {S : Nat → Prop} {cs : List Value} {ks : List Int} (h : intsSp.rep w S cs ks) : intsSh.rep w S cs ks := sslice_rep (A := Sh.int) (B := Sh.int) rfl (fun h => h) h

theorem ints_open {w : World} {S : Nat → Prop} {v : Value} {ks : List Int} (h : intsSh.rep w S [v] ks) : ∃ a cap, v = .slice a ks.length cap ∧ ks.length ≤ cap ∧ cap ≤ maxLen ∧ ∀ i (h : i < ks.length), ∃ b o, a = some ⟨b, o, none⟩ ∧ S b ∧ w.cell? ⟨b, o + i, none⟩ = some (.int .i64 ks[i]) ∧ -9223372036854775808 ≤ ks[i] ∧ ks[i] ≤ 9223372036854775807 := by
  obtain ⟨a, cap, css, e, h1, h2, -, h3, h4⟩ := h
  refine ⟨a, cap, by simpa using e, h1, h2, fun i hi => ?_⟩
  obtain ⟨b, o, rfl, hS, hc⟩ := h3 i hi
  obtain ⟨hcs, hn⟩ := h4 i hi
  rw [hcs] at hc
  have := hc 0 _ rfl
  exact ⟨b, o, rfl, hS, by simpa [Sh.int] using this, hn⟩

end Go.Proofs.YtjibmpebebephaaGreatDoor.ints

namespace Go.Proofs.YtjibmpebebephaaGreatDoor.heap
open Go.RowKit Go.Proofs.YtjibmpebebephaaGreatDoor.rose Go.Proofs.YtjibmpebebephaaGreatDoor
set_option linter.unusedVariables false

abbrev heapSp : Sh HeapD := Sh.int.sslice.spair (Sh.int.spair (Sh.int.spair Sh.int))

theorem heapp_rep {w : World} {S : Nat → Prop} {cs : List Value} {T : HeapD} (h : heapSp.rep w S cs T) : heapSh.rep w S cs T := (fun h => spair_rep (fun h => ints.intsp_rep h) (fun h => spair_rep (fun h => h) (fun h => spair_rep (fun h => h) (fun h => h) h) h) h) h
theorem heapp_shut {w : World} {S : Nat → Prop} {x0 : List Int} {x1 : Int} {x2 : Int} {x3 : Int} {a0 : Option Addr} {c0 : Nat} (h0 : Sh.int.sslice.rep w S [.slice a0 x0.length c0] x0) (h1 : -9223372036854775808 ≤ x1 ∧ x1 ≤ 9223372036854775807) (h2 : -9223372036854775808 ≤ x2 ∧ x2 ≤ 9223372036854775807) (h3 : -9223372036854775808 ≤ x3 ∧ x3 ≤ 9223372036854775807) : heapSp.rep w S [.slice a0 x0.length c0, .int .i64 x1, .int .i64 x2, .int .i64 x3] ((x0, x1, x2, x3)) :=
  ⟨[_], _, S, (fun _ => False), rfl, fun b h => h, fun b h => h.elim, fun b h1 h2 => h2.elim, h0, [_], _, (fun _ => False), (fun _ => False), rfl, fun b h => h.elim, fun b h => h.elim, fun b h => h.elim, ⟨rfl, h1⟩, [_], _, (fun _ => False), (fun _ => False), rfl, fun b h => h.elim, fun b h => h.elim, fun b h => h.elim, ⟨rfl, h2⟩, ⟨rfl, h3⟩⟩
theorem heapp_shutv {w : World} {S : Nat → Prop} {x0 : List Int} {x1 : Int} {x2 : Int} {x3 : Int} {v0 : Value} (h0 : Sh.int.sslice.rep w S [v0] x0) (h1 : -9223372036854775808 ≤ x1 ∧ x1 ≤ 9223372036854775807) (h2 : -9223372036854775808 ≤ x2 ∧ x2 ≤ 9223372036854775807) (h3 : -9223372036854775808 ≤ x3 ∧ x3 ≤ 9223372036854775807) : heapSp.rep w S [v0, .int .i64 x1, .int .i64 x2, .int .i64 x3] ((x0, x1, x2, x3)) :=
  ⟨[_], _, S, (fun _ => False), rfl, fun b h => h, fun b h => h.elim, fun b h1 h2 => h2.elim, h0, [_], _, (fun _ => False), (fun _ => False), rfl, fun b h => h.elim, fun b h => h.elim, fun b h => h.elim, ⟨rfl, h1⟩, [_], _, (fun _ => False), (fun _ => False), rfl, fun b h => h.elim, fun b h => h.elim, fun b h => h.elim, ⟨rfl, h2⟩, ⟨rfl, h3⟩⟩
theorem heapp_open {w : World} {S : Nat → Prop} {cs : List Value} {T : HeapD} (h : heapSp.rep w S cs T) : ∃ x0 a0 c0 x1 x2 x3, T = (x0, x1, x2, x3) ∧ cs = [.slice a0 x0.length c0, .int .i64 x1, .int .i64 x2, .int .i64 x3] ∧ Sh.int.sslice.rep w S [.slice a0 x0.length c0] x0 ∧ (-9223372036854775808 ≤ x1 ∧ x1 ≤ 9223372036854775807) ∧ (-9223372036854775808 ≤ x2 ∧ x2 ≤ 9223372036854775807) ∧ (-9223372036854775808 ≤ x3 ∧ x3 ≤ 9223372036854775807) := by
  obtain ⟨x0, x1, x2, x3⟩ := T
  obtain ⟨_, _, A0, B0, rfl, ua0, ub0, ue0, h0, _, _, A1, B1, rfl, ua1, ub1, ue1, ⟨rfl, h1⟩, _, _, A2, B2, rfl, ua2, ub2, ue2, ⟨rfl, h2⟩, ⟨rfl, h3⟩⟩ := h
  obtain ⟨a0, c0, rfl⟩ := sslice_cells h0
  exact ⟨_, _, _, _, _, _, rfl, rfl, Sh.int.sslice.mono h0 fun b g => ua0 b g, h1, h2, h3⟩

end Go.Proofs.YtjibmpebebephaaGreatDoor.heap

namespace Go.Proofs.YtjibmpebebephaaGreatDoor.call
open Go.RowKit Go.Proofs.YtjibmpebebephaaGreatDoor.rose Go.Proofs.YtjibmpebebephaaGreatDoor
set_option linter.unusedVariables false

abbrev callSp : Sh CallD := callSh
theorem callp_rep {w : World} {S : Nat → Prop} {cs : List Value} {T : CallD} (h : callSp.rep w S cs T) : callSh.rep w S cs T := h
theorem callps_rep {w : World} {S : Nat → Prop} {cs : List Value} {ks : List CallD} (h : callSp.sslice.rep w S cs ks) : callSh.slice.rep w S cs ks := sslice_rep (A := callSp) (B := callSh) rfl (fun h => h) h
theorem callp_shut {w : World} {S : Nat → Prop} {x0 : Int} {x1 : Int} {x2 : Int} (h0 : -9223372036854775808 ≤ x0 ∧ x0 ≤ 9223372036854775807) (h1 : -9223372036854775808 ≤ x1 ∧ x1 ≤ 9223372036854775807) (h2 : -9223372036854775808 ≤ x2 ∧ x2 ≤ 9223372036854775807) : callSp.rep w S [.int .i64 x0, .int .i64 x1, .int .i64 x2] ((x0, x1, x2)) := call_shut h0 h1 h2
theorem callp_shutv {w : World} {S : Nat → Prop} {x0 : Int} {x1 : Int} {x2 : Int} (h0 : -9223372036854775808 ≤ x0 ∧ x0 ≤ 9223372036854775807) (h1 : -9223372036854775808 ≤ x1 ∧ x1 ≤ 9223372036854775807) (h2 : -9223372036854775808 ≤ x2 ∧ x2 ≤ 9223372036854775807) : callSp.rep w S [.int .i64 x0, .int .i64 x1, .int .i64 x2] ((x0, x1, x2)) := call_shut h0 h1 h2
theorem callp_open {w : World} {S : Nat → Prop} {cs : List Value} {T : CallD} (h : callSp.rep w S cs T) : ∃ x0 x1 x2, T = (x0, x1, x2) ∧ cs = [.int .i64 x0, .int .i64 x1, .int .i64 x2] ∧ (-9223372036854775808 ≤ x0 ∧ x0 ≤ 9223372036854775807) ∧ (-9223372036854775808 ≤ x1 ∧ x1 ≤ 9223372036854775807) ∧ (-9223372036854775808 ≤ x2 ∧ x2 ≤ 9223372036854775807) := call_open h
theorem callps_open {w : World} {S : Nat → Prop} {v : Value} {ks : List CallD} (h : callSp.sslice.rep w S [v] ks) : ∃ a cap css F, v = .slice a ks.length cap ∧ ks.length ≤ cap ∧ cap ≤ maxLen ∧ (a = none → cap = 0) ∧ SRow callSp w S a css F ks := by
  obtain ⟨a, cap, css, F, e, h1, h2, h3, h4⟩ := h
  exact ⟨a, cap, css, F, by simpa using e, h1, h2, h3, h4⟩

end Go.Proofs.YtjibmpebebephaaGreatDoor.call
