/-
  A Vm that came in as an argument lies in memory as its cells.
  An Op that lies in memory apart: it holds no memory; a slice of them is one block.
  A Fun that lies in memory apart: its slices are all different blocks.
  Slices of ints as they lie in memory.
  A Heap that lies in memory apart: its slices are all different blocks.
  An Call that lies in memory apart: it holds no memory; a slice of them is one block.
  A Vm that lies in memory apart: its slices are all different blocks.
  The law's copies of a Op and of slices of it: the same in new memory, all of it apart; nothing that was there is turned.
-/
import Derived.ProofKit
import Derived.OpenShut
import Derived.Test.YtjofmoebijdccaaGreatChecked
import Derived.WalkKit
import Derived.Laws.MakeOwn
import Derived.Deep.OwnRows
import Derived.Test.YtjofmoebijdccaaGreatB1
import Derived.Test.YtjofmoebijdccaaGreatB2
import Derived.Test.YtjofmoebijdccaaGreatB3
import Derived.Test.YtjofmoebijdccaaGreatB4
import Derived.Test.YtjofmoebijdccaaGreatB5
import Derived.Test.YtjofmoebijdccaaGreatB6
import Derived.Test.YtjofmoebijdccaaGreatB7
import Derived.Test.YtjofmoebijdccaaGreatB8
namespace Go.Proofs.YtjofmoebijdccaaGreat.vm
open Go.RowKit Go.ChangeShapes Go.WideShapes Go.Proofs.YtjofmoebijdccaaGreat.rose Go.Proofs.YtjofmoebijdccaaGreat
set_option linter.unusedVariables false
set_option maxRecDepth 100000

section
variable {H : Type} {enc : TypeId × Value → H} {w : World} {spare : Nat → Bool} {held : Bool}

theorem cells_vm : Tryz.prog.cellsOf 29 = 10 := by kernel_rfl

theorem opens_vm (n : Nat) : OpensAt enc Tryz.prog w spare held n vmSh 29 := by
  intro fuel cs x hf h
  obtain ⟨xs, m, rfl, -, hl, hlen, hfl⟩ := DataW.trod_struct Tryz.underlying29 h
  rw [cells_vm] at hl
  have hlen5 : xs.length = 7 := hlen
  match cs, hl with
  | [c0, c1, c2, c3, c4, c5, c6, c7, c8, c9], _ =>
    match xs, hlen5 with
    | [y0, y1, y2, y3, y4, y5, y6], _ =>
      have f0 := hfl 0 _ rfl
      have f1 := hfl 1 _ rfl
      have f2 := hfl 2 _ rfl
      have f3 := hfl 3 _ rfl
      have f4 := hfl 4 _ rfl
      have f5 := hfl 5 _ rfl
      have f6 := hfl 6 _ rfl
      simp only [List.getElem?_cons_zero, List.getElem?_cons_succ] at f0 f1 f2 f3 f4 f5 f6
      obtain ⟨p0, h0⟩ := fun.opens_funs (w := w) n m _ _ (by omega) f0
      obtain ⟨p1, h1⟩ := heap.opens_heap (w := w) n m _ _ (by omega) f1
      obtain ⟨p2, h2⟩ := opens_ints (w := w) n m _ _ (by omega) f2
      obtain ⟨p3, h3⟩ := call.opens_calls (w := w) n m _ _ (by omega) f3
      obtain ⟨p4, h4⟩ := opens_ints (w := w) n m _ _ (by omega) f4
      obtain ⟨p5, h5⟩ := opens_int (w := w) Tryz.underlying3 n m _ _ (by omega) f5
      obtain ⟨p6, h6⟩ := opens_bool (w := w) Tryz.underlying4 n m _ _ (by omega) f6
      exact ⟨(p0, p1, p2, p3, p4, p5, p6), [c0], _, rfl, h0, [c1, c2, c3, c4], _, rfl, h1, [c5], _, rfl, h2, [c6], _, rfl, h3, [c7], _, rfl, h4, [c8], _, rfl, h5, h6⟩

/-- THE ARGUMENT. -/
theorem arg_vm {v : Value} {d : DataW H} {ps : List MemPlace} {r : Reach} {b : Nat} (hval : Value.okWide Tryz.prog w r b 29 v) (h : DataW.Trod enc Tryz.prog w 0 spare held 29 v d ps) : ∃ cs T, v = .agg cs.toArray ∧ vmSh.rep w (· < w.heap.size) cs T := by
  obtain ⟨cs, rfl, _⟩ := okWide_struct Tryz.underlying29 hval
  obtain ⟨fuel, hf⟩ := h
  obtain ⟨T, hT⟩ := opens_vm (enc := enc) (w := w) (spare := spare) (held := held) fuel fuel _ _ (Nat.le_refl _) hf
  exact ⟨cs.toList, T, by simp, hT⟩
end

end Go.Proofs.YtjofmoebijdccaaGreat.vm

namespace Go.Proofs.YtjofmoebijdccaaGreat.op
open Go.RowKit Go.Proofs.YtjofmoebijdccaaGreat.rose Go.Proofs.YtjofmoebijdccaaGreat
set_option linter.unusedVariables false

abbrev opSp : Sh OpD := opSh
theorem opp_rep {w : World} {S : Nat → Prop} {cs : List Value} {T : OpD} (h : opSp.rep w S cs T) : opSh.rep w S cs T := h
theorem opps_rep {w : World} {S : Nat → Prop} {cs : List Value} {ks : List OpD} (h : opSp.sslice.rep w S cs ks) : opSh.slice.rep w S cs ks := sslice_rep (A := opSp) (B := opSh) rfl (fun h => h) h
theorem opp_shut {w : World} {S : Nat → Prop} {x0 : Int} {x1 : Int} {x2 : Int} (h0 : -9223372036854775808 ≤ x0 ∧ x0 ≤ 9223372036854775807) (h1 : -9223372036854775808 ≤ x1 ∧ x1 ≤ 9223372036854775807) (h2 : -9223372036854775808 ≤ x2 ∧ x2 ≤ 9223372036854775807) : opSp.rep w S [.int .i64 x0, .int .i64 x1, .int .i64 x2] ((x0, x1, x2)) := op_shut h0 h1 h2
theorem opp_shutv {w : World} {S : Nat → Prop} {x0 : Int} {x1 : Int} {x2 : Int} (h0 : -9223372036854775808 ≤ x0 ∧ x0 ≤ 9223372036854775807) (h1 : -9223372036854775808 ≤ x1 ∧ x1 ≤ 9223372036854775807) (h2 : -9223372036854775808 ≤ x2 ∧ x2 ≤ 9223372036854775807) : opSp.rep w S [.int .i64 x0, .int .i64 x1, .int .i64 x2] ((x0, x1, x2)) := op_shut h0 h1 h2
theorem opp_open {w : World} {S : Nat → Prop} {cs : List Value} {T : OpD} (h : opSp.rep w S cs T) : ∃ x0 x1 x2, T = (x0, x1, x2) ∧ cs = [.int .i64 x0, .int .i64 x1, .int .i64 x2] ∧ (-9223372036854775808 ≤ x0 ∧ x0 ≤ 9223372036854775807) ∧ (-9223372036854775808 ≤ x1 ∧ x1 ≤ 9223372036854775807) ∧ (-9223372036854775808 ≤ x2 ∧ x2 ≤ 9223372036854775807) := op_open h
theorem opps_open {w : World} {S : Nat → Prop} {v : Value} {ks : List OpD} (h : opSp.sslice.rep w S [v] ks) : ∃ a cap css F, v = .slice a ks.length cap ∧ ks.length ≤ cap ∧ cap ≤ maxLen ∧ (a = none → cap = 0) ∧ SRow opSp w S a css F ks := by
  obtain ⟨a, cap, css, F, e, h1, h2, h3, h4⟩ := h
  exact ⟨a, cap, css, F, by simpa using e, h1, h2, h3, h4⟩

end Go.Proofs.YtjofmoebijdccaaGreat.op

namespace Go.Proofs.YtjofmoebijdccaaGreat.fun
open Go.RowKit Go.Proofs.YtjofmoebijdccaaGreat.rose Go.Proofs.YtjofmoebijdccaaGreat
set_option linter.unusedVariables false

abbrev funSp : Sh FunD := Sh.int.spair op.opSp.sslice

theorem funp_rep {w : World} {S : Nat → Prop} {cs : List Value} {T : FunD} (h : funSp.rep w S cs T) : funSh.rep w S cs T := (fun h => spair_rep (fun h => h) (fun h => op.opps_rep h) h) h
theorem funps_rep {w : World} {S : Nat → Prop} {cs : List Value} {ks : List FunD} (h : funSp.sslice.rep w S cs ks) : funSh.slice.rep w S cs ks := sslice_rep (A := funSp) (B := funSh) rfl (fun h => funp_rep h) h

theorem funp_shut {w : World} {S : Nat → Prop} {x0 : Int} {x1 : List op.OpD} {a1 : Option Addr} {c1 : Nat} (h0 : -9223372036854775808 ≤ x0 ∧ x0 ≤ 9223372036854775807) (h1 : op.opSp.sslice.rep w S [.slice a1 x1.length c1] x1) : funSp.rep w S [.int .i64 x0, .slice a1 x1.length c1] ((x0, x1)) :=
  ⟨[_], _, (fun _ => False), S, rfl, fun b h => h.elim, fun b h => h, fun b h => h.elim, ⟨rfl, h0⟩, h1⟩
theorem funp_shutv {w : World} {S : Nat → Prop} {x0 : Int} {x1 : List op.OpD} {v1 : Value} (h0 : -9223372036854775808 ≤ x0 ∧ x0 ≤ 9223372036854775807) (h1 : op.opSp.sslice.rep w S [v1] x1) : funSp.rep w S [.int .i64 x0, v1] ((x0, x1)) :=
  ⟨[_], _, (fun _ => False), S, rfl, fun b h => h.elim, fun b h => h, fun b h => h.elim, ⟨rfl, h0⟩, h1⟩
theorem funp_open {w : World} {S : Nat → Prop} {cs : List Value} {T : FunD} (h : funSp.rep w S cs T) : ∃ x0 x1 a1 c1, T = (x0, x1) ∧ cs = [.int .i64 x0, .slice a1 x1.length c1] ∧ (-9223372036854775808 ≤ x0 ∧ x0 ≤ 9223372036854775807) ∧ op.opSp.sslice.rep w S [.slice a1 x1.length c1] x1 := by
  obtain ⟨x0, x1⟩ := T
  obtain ⟨_, _, A0, B0, rfl, ua0, ub0, ue0, ⟨rfl, h0⟩, h1⟩ := h
  obtain ⟨a1, c1, rfl⟩ := sslice_cells h1
  exact ⟨_, _, _, _, rfl, rfl, h0, op.opSp.sslice.mono h1 fun b g => ub0 b (g)⟩
theorem funps_open {w : World} {S : Nat → Prop} {v : Value} {ks : List FunD} (h : funSp.sslice.rep w S [v] ks) : ∃ a cap css F, v = .slice a ks.length cap ∧ ks.length ≤ cap ∧ cap ≤ maxLen ∧ (a = none → cap = 0) ∧ SRow funSp w S a css F ks := by
  obtain ⟨a, cap, css, F, e, h1, h2, h3, h4⟩ := h
  exact ⟨a, cap, css, F, by simpa using e, h1, h2, h3, h4⟩

end Go.Proofs.YtjofmoebijdccaaGreat.fun

namespace Go.Proofs.YtjofmoebijdccaaGreat.ints
open Go.RowKit Go.Proofs.YtjofmoebijdccaaGreat.rose Go.Proofs.YtjofmoebijdccaaGreat
set_option linter.unusedVariables false

abbrev intsSh : Sh (List Int) := Sh.int.slice
abbrev intsSp : Sh (List Int) := Sh.int.sslice

theorem intsp_rep {w : World} {S : Nat → Prop} {cs : List Value} {ks : List Int} (h : intsSp.rep w S cs ks) : intsSh.rep w S cs ks := sslice_rep (A := Sh.int) (B := Sh.int) rfl (fun h => h) h

theorem ints_open {w : World} {S : Nat → Prop} {v : Value} {ks : List Int} (h : intsSh.rep w S [v] ks) : ∃ a cap, v = .slice a ks.length cap ∧ ks.length ≤ cap ∧ cap ≤ maxLen ∧ ∀ i (h : i < ks.length), ∃ b o, a = some ⟨b, o, none⟩ ∧ S b ∧ w.cell? ⟨b, o + i, none⟩ = some (.int .i64 ks[i]) ∧ -9223372036854775808 ≤ ks[i] ∧ ks[i] ≤ 9223372036854775807 := by
  obtain ⟨a, cap, css, e, h1, h2, -, h3, h4⟩ := h
  refine ⟨a, cap, by simpa using e, h1, h2, fun i hi => ?_⟩
  obtain ⟨b, o, rfl, hS, hc⟩ := h3 i hi
  obtain ⟨hcs, hn⟩ := h4 i hi
  rw [hcs] at hc
  have := hc 0 _ rfl
  exact ⟨b, o, rfl, hS, by simpa [Sh.int] using this, hn⟩

end Go.Proofs.YtjofmoebijdccaaGreat.ints

namespace Go.Proofs.YtjofmoebijdccaaGreat.heap
open Go.RowKit Go.Proofs.YtjofmoebijdccaaGreat.rose Go.Proofs.YtjofmoebijdccaaGreat
set_option linter.unusedVariables false

abbrev heapSp : Sh HeapD := Sh.int.sslice.spair (Sh.int.spair (Sh.int.spair Sh.int))

theorem heapp_rep {w : World} {S : Nat → Prop} {cs : List Value} {T : HeapD} (h : heapSp.rep w S cs T) : heapSh.rep w S cs T := (fun h => spair_rep (fun h => ints.intsp_rep h) (fun h => spair_rep (fun h => h) (fun h => spair_rep (fun h => h) (fun h => h) h) h) h) h
theorem heapp_shut {w : World} {S : Nat → Prop} {x0 : List Int} {x1 : Int} {x2 : Int} {x3 : Int} {a0 : Option Addr} {c0 : Nat} (h0 : Sh.int.sslice.rep w S [.slice a0 x0.length c0] x0) (h1 : -9223372036854775808 ≤ x1 ∧ x1 ≤ 9223372036854775807) (h2 : -9223372036854775808 ≤ x2 ∧ x2 ≤ 9223372036854775807) (h3 : -9223372036854775808 ≤ x3 ∧ x3 ≤ 9223372036854775807) : heapSp.rep w S [.slice a0 x0.length c0, .int .i64 x1, .int .i64 x2, .int .i64 x3] ((x0, x1, x2, x3)) :=
  ⟨[_], _, S, (fun _ => False), rfl, fun b h => h, fun b h => h.elim, fun b h1 h2 => h2.elim, h0, [_], _, (fun _ => False), (fun _ => False), rfl, fun b h => h.elim, fun b h => h.elim, fun b h => h.elim, ⟨rfl, h1⟩, [_], _, (fun _ => False), (fun _ => False), rfl, fun b h => h.elim, fun b h => h.elim, fun b h => h.elim, ⟨rfl, h2⟩, ⟨rfl, h3⟩⟩
theorem heapp_shutv {w : World} {S : Nat → Prop} {x0 : List Int} {x1 : Int} {x2 : Int} {x3 : Int} {v0 : Value} (h0 : Sh.int.sslice.rep w S [v0] x0) (h1 : -9223372036854775808 ≤ x1 ∧ x1 ≤ 9223372036854775807) (h2 : -9223372036854775808 ≤ x2 ∧ x2 ≤ 9223372036854775807) (h3 : -9223372036854775808 ≤ x3 ∧ x3 ≤ 9223372036854775807) : heapSp.rep w S [v0, .int .i64 x1, .int .i64 x2, .int .i64 x3] ((x0, x1, x2, x3)) :=
  ⟨[_], _, S, (fun _ => False), rfl, fun b h => h, fun b h => h.elim, fun b h1 h2 => h2.elim, h0, [_], _, (fun _ => False), (fun _ => False), rfl, fun b h => h.elim, fun b h => h.elim, fun b h => h.elim, ⟨rfl, h1⟩, [_], _, (fun _ => False), (fun _ => False), rfl, fun b h => h.elim, fun b h => h.elim, fun b h => h.elim, ⟨rfl, h2⟩, ⟨rfl, h3⟩⟩
theorem heapp_open {w : World} {S : Nat → Prop} {cs : List Value} {T : HeapD} (h : heapSp.rep w S cs T) : ∃ x0 a0 c0 x1 x2 x3, T = (x0, x1, x2, x3) ∧ cs = [.slice a0 x0.length c0, .int .i64 x1, .int .i64 x2, .int .i64 x3] ∧ Sh.int.sslice.rep w S [.slice a0 x0.length c0] x0 ∧ (-9223372036854775808 ≤ x1 ∧ x1 ≤ 9223372036854775807) ∧ (-9223372036854775808 ≤ x2 ∧ x2 ≤ 9223372036854775807) ∧ (-9223372036854775808 ≤ x3 ∧ x3 ≤ 9223372036854775807) := by
  obtain ⟨x0, x1, x2, x3⟩ := T
  obtain ⟨_, _, A0, B0, rfl, ua0, ub0, ue0, h0, _, _, A1, B1, rfl, ua1, ub1, ue1, ⟨rfl, h1⟩, _, _, A2, B2, rfl, ua2, ub2, ue2, ⟨rfl, h2⟩, ⟨rfl, h3⟩⟩ := h
  obtain ⟨a0, c0, rfl⟩ := sslice_cells h0
  exact ⟨_, _, _, _, _, _, rfl, rfl, Sh.int.sslice.mono h0 fun b g => ua0 b g, h1, h2, h3⟩

end Go.Proofs.YtjofmoebijdccaaGreat.heap

namespace Go.Proofs.YtjofmoebijdccaaGreat.call
open Go.RowKit Go.Proofs.YtjofmoebijdccaaGreat.rose Go.Proofs.YtjofmoebijdccaaGreat
set_option linter.unusedVariables false

abbrev callSp : Sh CallD := callSh
theorem callp_rep {w : World} {S : Nat → Prop} {cs : List Value} {T : CallD} (h : callSp.rep w S cs T) : callSh.rep w S cs T := h
theorem callps_rep {w : World} {S : Nat → Prop} {cs : List Value} {ks : List CallD} (h : callSp.sslice.rep w S cs ks) : callSh.slice.rep w S cs ks := sslice_rep (A := callSp) (B := callSh) rfl (fun h => h) h
theorem callp_shut {w : World} {S : Nat → Prop} {x0 : Int} {x1 : Int} {x2 : Int} (h0 : -9223372036854775808 ≤ x0 ∧ x0 ≤ 9223372036854775807) (h1 : -9223372036854775808 ≤ x1 ∧ x1 ≤ 9223372036854775807) (h2 : -9223372036854775808 ≤ x2 ∧ x2 ≤ 9223372036854775807) : callSp.rep w S [.int .i64 x0, .int .i64 x1, .int .i64 x2] ((x0, x1, x2)) := call_shut h0 h1 h2
theorem callp_shutv {w : World} {S : Nat → Prop} {x0 : Int} {x1 : Int} {x2 : Int} (h0 : -9223372036854775808 ≤ x0 ∧ x0 ≤ 9223372036854775807) (h1 : -9223372036854775808 ≤ x1 ∧ x1 ≤ 9223372036854775807) (h2 : -9223372036854775808 ≤ x2 ∧ x2 ≤ 9223372036854775807) : callSp.rep w S [.int .i64 x0, .int .i64 x1, .int .i64 x2] ((x0, x1, x2)) := call_shut h0 h1 h2
theorem callp_open {w : World} {S : Nat → Prop} {cs : List Value} {T : CallD} (h : callSp.rep w S cs T) : ∃ x0 x1 x2, T = (x0, x1, x2) ∧ cs = [.int .i64 x0, .int .i64 x1, .int .i64 x2] ∧ (-9223372036854775808 ≤ x0 ∧ x0 ≤ 9223372036854775807) ∧ (-9223372036854775808 ≤ x1 ∧ x1 ≤ 9223372036854775807) ∧ (-9223372036854775808 ≤ x2 ∧ x2 ≤ 9223372036854775807) := call_open h
theorem callps_open {w : World} {S : Nat → Prop} {v : Value} {ks : List CallD} (h : callSp.sslice.rep w S [v] ks) : ∃ a cap css F, v = .slice a ks.length cap ∧ ks.length ≤ cap ∧ cap ≤ maxLen ∧ (a = none → cap = 0) ∧ SRow callSp w S a css F ks := by
  obtain ⟨a, cap, css, F, e, h1, h2, h3, h4⟩ := h
  exact ⟨a, cap, css, F, by simpa using e, h1, h2, h3, h4⟩

end Go.Proofs.YtjofmoebijdccaaGreat.call

namespace Go.Proofs.YtjofmoebijdccaaGreat.vm
open Go.RowKit Go.Proofs.YtjofmoebijdccaaGreat.rose Go.Proofs.YtjofmoebijdccaaGreat
set_option linter.unusedVariables false

abbrev vmSp : Sh VmD := fun.funSp.sslice.spair (heap.heapSp.spair (Sh.int.sslice.spair (call.callSp.sslice.spair (Sh.int.sslice.spair (Sh.int.spair Sh.bool)))))

theorem vmp_rep {w : World} {S : Nat → Prop} {cs : List Value} {T : VmD} (h : vmSp.rep w S cs T) : vmSh.rep w S cs T := (fun h => spair_rep (fun h => fun.funps_rep h) (fun h => spair_rep (fun h => heap.heapp_rep h) (fun h => spair_rep (fun h => ints.intsp_rep h) (fun h => spair_rep (fun h => call.callps_rep h) (fun h => spair_rep (fun h => ints.intsp_rep h) (fun h => spair_rep (fun h => h) (fun h => h) h) h) h) h) h) h) h
theorem vmp_shut {w : World} {S : Nat → Prop} {S0 S1 S2 S3 S4 : Nat → Prop} {x0 : List fun.FunD} {x1 : heap.HeapD} {x2 : List Int} {x3 : List call.CallD} {x4 : List Int} {x5 : Int} {x6 : Bool} {u1_0 : Value} {u1_1 : Value} {u1_2 : Value} {u1_3 : Value} {a0 : Option Addr} {c0 : Nat} {a2 : Option Addr} {c2 : Nat} {a3 : Option Addr} {c3 : Nat} {a4 : Option Addr} {c4 : Nat} (h0 : fun.funSp.sslice.rep w S0 [.slice a0 x0.length c0] x0) (h1 : heap.heapSp.rep w S1 [u1_0, u1_1, u1_2, u1_3] x1) (h2 : Sh.int.sslice.rep w S2 [.slice a2 x2.length c2] x2) (h3 : call.callSp.sslice.rep w S3 [.slice a3 x3.length c3] x3) (h4 : Sh.int.sslice.rep w S4 [.slice a4 x4.length c4] x4) (h5 : -9223372036854775808 ≤ x5 ∧ x5 ≤ 9223372036854775807) (s0 : ∀ b, S0 b → S b) (s1 : ∀ b, S1 b → S b) (s2 : ∀ b, S2 b → S b) (s3 : ∀ b, S3 b → S b) (s4 : ∀ b, S4 b → S b) (d0_1 : ∀ b, S0 b → ¬ S1 b) (d0_2 : ∀ b, S0 b → ¬ S2 b) (d0_3 : ∀ b, S0 b → ¬ S3 b) (d0_4 : ∀ b, S0 b → ¬ S4 b) (d1_2 : ∀ b, S1 b → ¬ S2 b) (d1_3 : ∀ b, S1 b → ¬ S3 b) (d1_4 : ∀ b, S1 b → ¬ S4 b) (d2_3 : ∀ b, S2 b → ¬ S3 b) (d2_4 : ∀ b, S2 b → ¬ S4 b) (d3_4 : ∀ b, S3 b → ¬ S4 b) : vmSp.rep w S [.slice a0 x0.length c0, u1_0, u1_1, u1_2, u1_3, .slice a2 x2.length c2, .slice a3 x3.length c3, .slice a4 x4.length c4, .int .i64 x5, .bool x6] ((x0, x1, x2, x3, x4, x5, x6)) :=
  vmSp.mono (S := fun b => S0 b ∨ S1 b ∨ S2 b ∨ S3 b ∨ S4 b) ⟨[_], _, S0, fun b => S1 b ∨ S2 b ∨ S3 b ∨ S4 b, rfl, fun b h => Or.inl h, fun b h => Or.inr h, fun b h1 h2 => h2.elim (fun g => d0_1 b h1 g) (fun g => g.elim (fun g => d0_2 b h1 g) (fun g => g.elim (fun g => d0_3 b h1 g) (fun g => d0_4 b h1 g))), h0, [_, _, _, _], _, S1, fun b => S2 b ∨ S3 b ∨ S4 b, rfl, fun b h => Or.inl h, fun b h => Or.inr h, fun b h1 h2 => h2.elim (fun g => d1_2 b h1 g) (fun g => g.elim (fun g => d1_3 b h1 g) (fun g => d1_4 b h1 g)), h1, [_], _, S2, fun b => S3 b ∨ S4 b, rfl, fun b h => Or.inl h, fun b h => Or.inr h, fun b h1 h2 => h2.elim (fun g => d2_3 b h1 g) (fun g => d2_4 b h1 g), h2, [_], _, S3, S4, rfl, fun b h => Or.inl h, fun b h => Or.inr h, fun b h1 h2 => d3_4 b h1 h2, h3, [_], _, S4, fun _ => False, rfl, fun b h => h, fun b h => h.elim, fun b h1 h2 => h2.elim, h4, [_], _, (fun _ => False), fun _ => False, rfl, fun b h => h.elim, fun b h => h, fun b h => h.elim, ⟨rfl, h5⟩, rfl⟩ fun b h => h.elim (fun g => s0 b g) (fun g => g.elim (fun g => s1 b g) (fun g => g.elim (fun g => s2 b g) (fun g => g.elim (fun g => s3 b g) (fun g => s4 b g))))
theorem vmp_shutv {w : World} {S : Nat → Prop} {S0 S1 S2 S3 S4 : Nat → Prop} {x0 : List fun.FunD} {x1 : heap.HeapD} {x2 : List Int} {x3 : List call.CallD} {x4 : List Int} {x5 : Int} {x6 : Bool} {u1_0 : Value} {u1_1 : Value} {u1_2 : Value} {u1_3 : Value} {v0 : Value} {v2 : Value} {v3 : Value} {v4 : Value} (h0 : fun.funSp.sslice.rep w S0 [v0] x0) (h1 : heap.heapSp.rep w S1 [u1_0, u1_1, u1_2, u1_3] x1) (h2 : Sh.int.sslice.rep w S2 [v2] x2) (h3 : call.callSp.sslice.rep w S3 [v3] x3) (h4 : Sh.int.sslice.rep w S4 [v4] x4) (h5 : -9223372036854775808 ≤ x5 ∧ x5 ≤ 9223372036854775807) (s0 : ∀ b, S0 b → S b) (s1 : ∀ b, S1 b → S b) (s2 : ∀ b, S2 b → S b) (s3 : ∀ b, S3 b → S b) (s4 : ∀ b, S4 b → S b) (d0_1 : ∀ b, S0 b → ¬ S1 b) (d0_2 : ∀ b, S0 b → ¬ S2 b) (d0_3 : ∀ b, S0 b → ¬ S3 b) (d0_4 : ∀ b, S0 b → ¬ S4 b) (d1_2 : ∀ b, S1 b → ¬ S2 b) (d1_3 : ∀ b, S1 b → ¬ S3 b) (d1_4 : ∀ b, S1 b → ¬ S4 b) (d2_3 : ∀ b, S2 b → ¬ S3 b) (d2_4 : ∀ b, S2 b → ¬ S4 b) (d3_4 : ∀ b, S3 b → ¬ S4 b) : vmSp.rep w S [v0, u1_0, u1_1, u1_2, u1_3, v2, v3, v4, .int .i64 x5, .bool x6] ((x0, x1, x2, x3, x4, x5, x6)) :=
  vmSp.mono (S := fun b => S0 b ∨ S1 b ∨ S2 b ∨ S3 b ∨ S4 b) ⟨[_], _, S0, fun b => S1 b ∨ S2 b ∨ S3 b ∨ S4 b, rfl, fun b h => Or.inl h, fun b h => Or.inr h, fun b h1 h2 => h2.elim (fun g => d0_1 b h1 g) (fun g => g.elim (fun g => d0_2 b h1 g) (fun g => g.elim (fun g => d0_3 b h1 g) (fun g => d0_4 b h1 g))), h0, [_, _, _, _], _, S1, fun b => S2 b ∨ S3 b ∨ S4 b, rfl, fun b h => Or.inl h, fun b h => Or.inr h, fun b h1 h2 => h2.elim (fun g => d1_2 b h1 g) (fun g => g.elim (fun g => d1_3 b h1 g) (fun g => d1_4 b h1 g)), h1, [_], _, S2, fun b => S3 b ∨ S4 b, rfl, fun b h => Or.inl h, fun b h => Or.inr h, fun b h1 h2 => h2.elim (fun g => d2_3 b h1 g) (fun g => d2_4 b h1 g), h2, [_], _, S3, S4, rfl, fun b h => Or.inl h, fun b h => Or.inr h, fun b h1 h2 => d3_4 b h1 h2, h3, [_], _, S4, fun _ => False, rfl, fun b h => h, fun b h => h.elim, fun b h1 h2 => h2.elim, h4, [_], _, (fun _ => False), fun _ => False, rfl, fun b h => h.elim, fun b h => h, fun b h => h.elim, ⟨rfl, h5⟩, rfl⟩ fun b h => h.elim (fun g => s0 b g) (fun g => g.elim (fun g => s1 b g) (fun g => g.elim (fun g => s2 b g) (fun g => g.elim (fun g => s3 b g) (fun g => s4 b g))))
theorem vmp_open {w : World} {S : Nat → Prop} {cs : List Value} {T : VmD} (h : vmSp.rep w S cs T) : ∃ x0 a0 c0 x1 u1_0 u1_1 u1_2 u1_3 x2 a2 c2 x3 a3 c3 x4 a4 c4 x5 x6, ∃ (S0 S1 S2 S3 S4 : Nat → Prop), T = (x0, x1, x2, x3, x4, x5, x6) ∧ cs = [.slice a0 x0.length c0, u1_0, u1_1, u1_2, u1_3, .slice a2 x2.length c2, .slice a3 x3.length c3, .slice a4 x4.length c4, .int .i64 x5, .bool x6] ∧ fun.funSp.sslice.rep w S0 [.slice a0 x0.length c0] x0 ∧ heap.heapSp.rep w S1 [u1_0, u1_1, u1_2, u1_3] x1 ∧ Sh.int.sslice.rep w S2 [.slice a2 x2.length c2] x2 ∧ call.callSp.sslice.rep w S3 [.slice a3 x3.length c3] x3 ∧ Sh.int.sslice.rep w S4 [.slice a4 x4.length c4] x4 ∧ (-9223372036854775808 ≤ x5 ∧ x5 ≤ 9223372036854775807) ∧ (∀ b, S0 b → S b) ∧ (∀ b, S1 b → S b) ∧ (∀ b, S2 b → S b) ∧ (∀ b, S3 b → S b) ∧ (∀ b, S4 b → S b) ∧ (∀ b, S0 b → ¬ S1 b) ∧ (∀ b, S0 b → ¬ S2 b) ∧ (∀ b, S0 b → ¬ S3 b) ∧ (∀ b, S0 b → ¬ S4 b) ∧ (∀ b, S1 b → ¬ S2 b) ∧ (∀ b, S1 b → ¬ S3 b) ∧ (∀ b, S1 b → ¬ S4 b) ∧ (∀ b, S2 b → ¬ S3 b) ∧ (∀ b, S2 b → ¬ S4 b) ∧ (∀ b, S3 b → ¬ S4 b) := by
  obtain ⟨x0, x1, x2, x3, x4, x5, x6⟩ := T
  obtain ⟨_, _, A0, B0, rfl, ua0, ub0, ue0, h0, _, _, A1, B1, rfl, ua1, ub1, ue1, h1, _, _, A2, B2, rfl, ua2, ub2, ue2, h2, _, _, A3, B3, rfl, ua3, ub3, ue3, h3, _, _, A4, B4, rfl, ua4, ub4, ue4, h4, _, _, A5, B5, rfl, ua5, ub5, ue5, ⟨rfl, h5⟩, rfl⟩ := h
  obtain ⟨a0, c0, rfl⟩ := sslice_cells h0
  obtain ⟨u1_0, u1_1, u1_2, u1_3, rfl⟩ := heap.heap_list (heap.heapp_rep h1)
  obtain ⟨a2, c2, rfl⟩ := sslice_cells h2
  obtain ⟨a3, c3, rfl⟩ := sslice_cells h3
  obtain ⟨a4, c4, rfl⟩ := sslice_cells h4
  exact ⟨_, _, _, _, _, _, _, _, _, _, _, _, _, _, _, _, _, _, _, A0, A1, A2, A3, A4, rfl, rfl, h0, h1, h2, h3, h4, h5, fun b g => ua0 b g, fun b g => ub0 b (ua1 b g), fun b g => ub0 b (ub1 b (ua2 b g)), fun b g => ub0 b (ub1 b (ub2 b (ua3 b g))), fun b g => ub0 b (ub1 b (ub2 b (ub3 b (ua4 b g)))), fun b g k => ue0 b g (ua1 b k), fun b g k => ue0 b g (ub1 b (ua2 b k)), fun b g k => ue0 b g (ub1 b (ub2 b (ua3 b k))), fun b g k => ue0 b g (ub1 b (ub2 b (ub3 b (ua4 b k)))), fun b g k => ue1 b g (ua2 b k), fun b g k => ue1 b g (ub2 b (ua3 b k)), fun b g k => ue1 b g (ub2 b (ub3 b (ua4 b k))), fun b g k => ue2 b g (ua3 b k), fun b g k => ue2 b g (ub3 b (ua4 b k)), fun b g k => ue3 b g (ua4 b k)⟩

end Go.Proofs.YtjofmoebijdccaaGreat.vm

namespace Go.Proofs.YtjofmoebijdccaaGreat.op
open Go.RowKit Go.Proofs.YtjofmoebijdccaaGreat.rose Go.Proofs.YtjofmoebijdccaaGreat
set_option linter.unusedVariables false

def ToPSays (T : OpD) : Prop := ∀ cs w, True → opSh.rep w (· < w.heap.size) cs T →
  Calls Tryz.prog 88 #[.agg cs.toArray] w fun e w' => (∃ cs', e = .returned (.agg cs'.toArray) ∧ opSp.rep w' (fun b => w.heap.size ≤ b ∧ b < w'.heap.size) cs' T) ∧ Below w.heap.size w w'

set_option maxHeartbeats 2000000 in
theorem toP_any (T : OpD) : ToPSays T := by
  intro cs w hw h
  obtain ⟨x0, x1, x2, rfl, rfl, f0, f1, f2⟩ := op_open h
  clear h
  clear hw 
  go_enter Tryz.func88, Tryz.ntmps88
  go_wp2
  refine bodyPost_ret (v := .agg #[.int .i64 x0, .int .i64 x1, .int .i64 x2]) (by simp [results, Tryz.f88, go_sem]) rfl ?_
  exact ⟨⟨[.int .i64 x0, .int .i64 x1, .int .i64 x2], rfl, opp_shut f0 f1 f2⟩, (((Below.refl _ _).alloc (Nat.le_refl _) _).alloc (by simp) _).alloc (by simp; omega) _⟩

theorem infoP_op : (Tryz.prog.info? 168).map (fun i => (i.zero, i.size, i.bytes)) = some (some (.agg #[.int .i64 0, .int .i64 0, .int .i64 0]), 3, 24) := by kernel_rfl

theorem makeP_op (n : Nat) (h : n ≤ 1048576) (w : World) : (Instr.makeSlice 94 (.int .i64 (n : Int)) (.int .i64 (n : Int))).run Tryz.prog w = .ok (.slice (some ⟨w.heap.size, 0, none⟩) n n)
    (w.alloc (.cells (madeCells #[.int .i64 0, .int .i64 0, .int .i64 0] (n * 3)) 168)) := by
  obtain ⟨i, hi, hzz⟩ := Option.map_eq_some_iff.1 infoP_op
  simp only [Prod.mk.injEq] at hzz
  obtain ⟨hz, hs, hb⟩ := hzz
  have := run_make (P := Tryz.prog) w 94 168 i _ Tryz.underlying94 hi hz .i64 .i64 n n (by omega) (by omega) (by rw [hb]; omega) (by omega)
  simpa [hs, Value.cells] using this

set_option maxHeartbeats 1000000 in
theorem toPS_of (ks : List OpD) (ih : ∀ k ∈ ks, ToPSays k) (v : Value) (w : World) (hw : ks.length ≤ 1048576) (h : opSh.slice.rep w (· < w.heap.size) [v] ks) :
    Calls Tryz.prog 71 #[v] w fun e w' => (∃ v', e = .returned v' ∧ opSp.sslice.rep w' (fun b => w.heap.size ≤ b ∧ b < w'.heap.size) [v'] ks) ∧ Below w.heap.size w w' := by
  obtain ⟨a, cap, css, rfl, hcap, hmax, hrow, hk⟩ := ops_open h
  clear h hcap hmax
  have IH : Hid (∀ k ∈ ks, ToPSays k) := ih
  have HR : Hid (RowAt w (· < w.heap.size) 3 a ks.length css ∧ ∀ i (h : i < ks.length), opSh.rep w (· < w.heap.size) (css i) ks[i]) := ⟨hrow, hk⟩
  have hn : ks.length ≤ 1048576 := by omega
  clear ih hrow hk hw
  have hmk := makeP_op ks.length hn
  go_enter Tryz.func71, Tryz.ntmps71
  go_wp2
  clear hmk
  generalize hw1 : w.alloc _ = w1
  have F1 : SFilling opSp 168 w1 w.heap.size ks.length 0 ks := by
    subst hw1
    exact SFilling.start
  have B1 : Below w.heap.size w w1 := by subst hw1; exact (Below.refl _ _).alloc (Nat.le_refl _) _
  have Z1 : w.heap.size < w1.heap.size := by subst hw1; simp
  clear hw1
  go_loopw [4] (fun v4 wr => ∃ i : Nat, i ≤ ks.length ∧ v4 = .int .i64 i ∧ Hid (SFilling opSp 168 wr w.heap.size ks.length i ks ∧ Below w.heap.size w wr ∧ w.heap.size < wr.heap.size)) (fun v4 _ => ks.length - (intOf v4).toNat)
  case atStart => exact ⟨0, Nat.zero_le _, rfl, F1, B1, Z1⟩
  case round =>
    obtain ⟨i, hi, rfl, HF⟩ := hrel
    by_cases hlt : i < ks.length
    · obtain ⟨b, o, rfl, hS, hc⟩ := HR.out.1 i hlt
      have hrep := HR.out.2 i hlt
      obtain ⟨v0, v1, v2, hcs, c0, c1, c2⟩ := op_cells hrep hc
      obtain ⟨F, HB, hZ⟩ := HF.out
      have e0 := (HB.cell (p := ⟨b, o + i * 3, none⟩) hS).trans c0
      have e1 := (HB.cell (p := ⟨b, o + i * 3 + 1, none⟩) hS).trans c1
      have e2 := (HB.cell (p := ⟨b, o + i * 3 + 2, none⟩) hS).trans c2
      rw [hcs] at hrep
      clear c0 c1 c2 hc hcs
      have hR := opSh.mono (opSh.below hrep HB) (S' := (· < wr.heap.size)) (fun b hb => Nat.lt_of_lt_of_le hb HB.size)
      clear hrep
      have hcall := IH.out ks[i] (List.getElem_mem hlt) [v0, v1, v2] wr trivial hR
      clear hR F HB hZ
      go_wp2_with fail
      refine hcall.mono ?_
      clear hcall
      rintro e w1 ⟨⟨cs', rfl, hrep'⟩, hb⟩
      obtain ⟨F, HB, hZ⟩ := HF.out
      have hl : cs'.length = 3 := opSp.len hrep'
      have hst := F.store (P := Tryz.prog) hb hZ hlt hl (opSp.one hrep')
      have F2 : Hid (SFilling opSp 168 (w1.setCells w.heap.size (i * 3) cs') w.heap.size ks.length (i + 1) ks) := F.step hb hZ hlt hlt hrep'
      have B2 : Hid (Below w.heap.size w (w1.setCells w.heap.size (i * 3) cs')) := (HB.trans (hb.mono (Nat.le_of_lt hZ))).trans (setCells_below (Nat.le_refl _) _ _)
      have Z2 : Hid (w.heap.size < (w1.setCells w.heap.size (i * 3) cs').heap.size) := by show _ < _; rw [setCells_size]; exact Nat.lt_of_lt_of_le hZ hb.size
      have hk5 : opSp.k = 3 := rfl
      rw [hk5] at hst
      clear F HB hZ HF hrep' hb hk5
      generalize w1.setCells w.heap.size (i * 3) cs' = w2 at hst F2 B2 Z2
      go_wp2
      go_round
      case rel => exact ⟨i + 1, by omega, by go_num, F2.out, B2.out, Z2.out⟩
      case measure => simp [intOf]; omega
    · obtain rfl : i = ks.length := by omega
      go_wp2
      go_ret
      obtain ⟨F, HB, hZ⟩ := HF.out
      exact ⟨⟨_, rfl, F.done hZ (by unfold maxLen; omega)⟩, HB⟩

theorem toPS_any (ks : List OpD) (v : Value) (w : World) (hw : ks.length ≤ 1048576) (h : opSh.slice.rep w (· < w.heap.size) [v] ks) :
    Calls Tryz.prog 71 #[v] w fun e w' => (∃ v', e = .returned v' ∧ opSp.sslice.rep w' (fun b => w.heap.size ≤ b ∧ b < w'.heap.size) [v'] ks) ∧ Below w.heap.size w w' := toPS_of ks (fun k _ => toP_any k) v w hw h

end Go.Proofs.YtjofmoebijdccaaGreat.op
