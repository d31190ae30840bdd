/-
  What VmNew makes (chapter 19): told in plain data; no program named.
  Memory that is made as one step of a region that draws its order: a slice literal, a variable; what was made is told by its block, and the world is a new one.
  Where the parts of a machine lie: its functions' lists, its calls (chapter 19).
  The parts of a machine that are made, each one a step of a region that draws its order (chapter 19): the stack's two words, its one call, its variable, the copy of its functions; and the variable is written.
  The model's IsRef, WordInt, WordRef, l17Of and l7In, at every argument; nothing is turned.
-/
import Derived.Great.BuildSlice
import Derived.Test.YtjibmpebebephaaGreatDoorC1
import Derived.Test.YtjibmpebebephaaGreatDoorC2
import Derived.Test.YtjibmpebebephaaGreatDoorC3
import Derived.Test.YtjibmpebebephaaGreatDoorC4
import Derived.Test.YtjibmpebebephaaGreatDoorC5
import Derived.Test.YtjibmpebebephaaGreatDoorC6
import Derived.Test.YtjibmpebebephaaGreatDoorC7
import Derived.Test.YtjibmpebebephaaGreatDoorC8
import Derived.Test.YtjibmpebebephaaGreatDoorC9
import Derived.Test.YtjibmpebebephaaGreatDoorC10
import Derived.Test.YtjibmpebebephaaGreatDoorC11
import Derived.Test.YtjibmpebebephaaGreatDoorC12
import Derived.Test.YtjibmpebebephaaGreatDoorC13
import Derived.Test.YtjibmpebebephaaGreatDoorC14
import Derived.Test.YtjibmpebebephaaGreatDoorC15
namespace Go.Proofs.YtjibmpebebephaaGreatDoor.vm
open Go Go.RowKit Go.Proofs.YtjibmpebebephaaGreatDoor.rose Go.Proofs.YtjibmpebebephaaGreatDoor Go.Proofs.YtjibmpebebephaaGreatDoor.fun Go.Proofs.YtjibmpebebephaaGreatDoor.heap
set_option linter.unusedVariables false
set_option linter.unusedSimpArgs false

/-- The machine ahead of its first step. -/
def newM (ks : List FunD) (n : Int) (each : Bool) : VmD := (ks, (newF n).1, [1, 1], [(0, 0, 1)], [], 0, each)
def zeroM : VmD := ([], ([], 0, 0, 0), [], [], [], 0, false)
noncomputable def newV (ks : List FunD) (n : Int) (each : Bool) : VmD × Bool := if (newF n).2 && verifyF ks && vmB (newM ks n each) then (newM ks n each, true) else (zeroM, false)
theorem new_no1 {ks : List FunD} {n : Int} {each : Bool} (h : (newF n).2 = false) : newV ks n each = (zeroM, false) := by unfold newV; rw [h]; simp
theorem new_no2 {ks : List FunD} {n : Int} {each : Bool} (h : verifyF ks = false) : newV ks n each = (zeroM, false) := by unfold newV; rw [h]; simp
theorem new_no3 {ks : List FunD} {n : Int} {each : Bool} (h : vmB (newM ks n each) = false) : newV ks n each = (zeroM, false) := by unfold newV; rw [h]; simp
theorem new_yes {ks : List FunD} {n : Int} {each : Bool} (h1 : (newF n).2 = true) (h2 : verifyF ks = true) (h3 : vmB (newM ks n each) = true) : newV ks n each = (newM ks n each, true) := by unfold newV; rw [h1, h2, h3]; rfl
theorem verify_funs {ks : List FunD} (h : verifyF ks = true) : funsB ks = true := by
  unfold verifyF at h
  simp only [Bool.and_eq_true] at h
  exact h.1
/-- No half: no machine that is right. -/
theorem new_half {ks : List FunD} {n : Int} {each : Bool} (h : (newF n).2 = false) : vmB (newM ks n each) = false := by
  have hz : (newF n).1 = ([], 0, 0, 0) := by
    unfold newF at h ⊢
    split at h
    · cases h
    · rename_i q; rw [if_neg q]
  have hb : heapB (newF n).1 = false := by
    rw [hz]
    refine heapB_head ?_
    unfold headB inB
    simp
  unfold vmB newM
  dsimp only
  rw [right_heap hb]
  simp
theorem zero_rep {w : World} {S : Nat → Prop} : vmSp.rep w S [.slice none 0 0, .slice none 0 0, .int .i64 0, .int .i64 0, .int .i64 0, .slice none 0 0, .slice none 0 0, .slice none 0 0, .int .i64 0, .bool false] zeroM := by
  have hn : ∀ {α : Type} (A : Sh α) (S' : Nat → Prop), A.sslice.rep w S' [.slice none 0 0] ([] : List α) := fun A S' => ⟨none, 0, fun _ => [], fun _ _ => False, rfl, Nat.le_refl _, Nat.zero_le _, fun _ => rfl, fun h => absurd h (Nat.lt_irrefl _), fun i hi => absurd hi (Nat.not_lt_zero _), fun i j hi => absurd hi (Nat.not_lt_zero _), fun i hi => absurd hi (Nat.not_lt_zero _)⟩
  exact vmp_shutv (S0 := fun _ => False) (S1 := fun _ => False) (S2 := fun _ => False) (S3 := fun _ => False) (S4 := fun _ => False) (hn _ _) (heap.heapp_shutv (hn _ _) (by omega) (by omega) (by omega)) (hn _ _) (hn _ _) (hn _ _) (by omega) (fun _ h => h.elim) (fun _ h => h.elim) (fun _ h => h.elim) (fun _ h => h.elim) (fun _ h => h.elim) (fun _ h => h.elim) (fun _ h => h.elim) (fun _ h => h.elim) (fun _ h => h.elim) (fun _ h => h.elim) (fun _ h => h.elim) (fun _ h => h.elim) (fun _ h => h.elim) (fun _ h => h.elim) (fun _ h => h.elim)

end Go.Proofs.YtjibmpebebephaaGreatDoor.vm

namespace Go.Proofs.YtjibmpebebephaaGreatDoor.rose
open Go Go.RowKit Go.Deep
set_option linter.unusedVariables false

theorem step_make {P : Program} {ops : Array Oper} {o : Oper} {a : Act} {w : World} {K : Act → World → Prop} {Q : Exit → Act → World → Prop} {E : Prop}
    (hg : o.guard = none) (t e : TypeId) (len : Nat) (parts : Array (Nat × Operand)) (ho : o.op = .buildSlice t len parts) (cells : Array Value) (ie : TypeInfo) (z : Value)
    (hu : P.underlying t = some (.slice e)) (hie : P.info? e = some ie) (hz : ie.zero = some z) (hsmall : ¬ len * ie.size > 2 ^ 24) (hpos : ¬ len * ie.size = 0)
    (hf : Instr.fill (fun i => some (i * ie.size, ie.size)) ((Array.range (len * ie.size)).map (z.cells[· % z.cells.size]!)) (parts.map fun (i, x) => (i, a.eval x)).toList = some cells)
    (hK : ∀ w', Below w.heap.size w w' → w'.heap[w.heap.size]? = some (.cells cells e) → w.heap.size + 1 = w'.heap.size → K (a.put o.dst (.slice (some ⟨w.heap.size, 0, none⟩) len len)) w') :
    if Region.wanted o (yielded ops a.tmps) = true then Oper.wp P o a w K Q else E := by
  have hw : Region.wanted o (yielded ops a.tmps) = true := by simp [Region.wanted, hg]
  rw [if_pos hw]
  exact wp_buildSlice t e len parts ho cells ie z hu hie hz hsmall hpos hf (hK _ ((Below.refl _ _).alloc (Nat.le_refl _) _) (alloc_top _ _) (by simp))

theorem step_var {P : Program} {ops : Array Oper} {o : Oper} {a : Act} {w : World} {K : Act → World → Prop} {Q : Exit → Act → World → Prop} {E : Prop}
    (hg : o.guard = none) (t : TypeId) (ho : o.op = .alloc t) (ie : TypeInfo) (z : Value) (hie : P.info? t = some ie) (hz : ie.zero = some z)
    (hK : ∀ w', Below w.heap.size w w' → w'.heap[w.heap.size]? = some (.cells z.cells t) → w.heap.size + 1 = w'.heap.size → K (a.put o.dst (.pointer (some ⟨w.heap.size, 0, none⟩))) w') :
    if Region.wanted o (yielded ops a.tmps) = true then Oper.wp P o a w K Q else E := by
  have hw : Region.wanted o (yielded ops a.tmps) = true := by simp [Region.wanted, hg]
  rw [if_pos hw]
  have h1 : (execOp a.eval o).run P w = .ok (.value (.pointer (some ⟨w.heap.size, 0, none⟩))) (w.alloc (.cells z.cells t)) := by
    unfold execOp
    simp [ho, Instr.alloc, zeroValue, typeInfo, hie, hz, newVar, newRow]
  unfold Oper.wp
  rw [h1]
  exact hK _ ((Below.refl _ _).alloc (Nat.le_refl _) _) (alloc_top _ _) (by simp)

/-- A call of a Go function by its contract, its world a new one. -/
theorem step_calls {P : Program} {ops : Array Oper} {o : Oper} {a : Act} {w : World} {K : Act → World → Prop} {Q : Exit → Act → World → Prop} {E : Prop}
    (hg : o.guard = none) (f : FuncId) (hent : Enters P f) (xs : Array Operand) (ts : Array TypeId) (hop : o.op = Op.call { callee := Callee.value (Operand.func f), args := xs, argTypes := ts }) (args : Array Value)
    (R : Ending → World → Prop) (h : Calls P f args w R) (ha : xs.map a.eval = args) (hK : ∀ e w', R e w' → ∃ v, e = .returned v ∧ K (a.put o.dst v) w') :
    if Region.wanted o (yielded ops a.tmps) = true then Oper.wp P o a w K Q else E := step_call hg f hent xs ts hop args R h ha hK

end Go.Proofs.YtjibmpebebephaaGreatDoor.rose

namespace Go.Proofs.YtjibmpebebephaaGreatDoor.vm
open Go Go.RowKit Go.Proofs.YtjibmpebebephaaGreatDoor.rose Go.Proofs.YtjibmpebebephaaGreatDoor Go.Proofs.YtjibmpebebephaaGreatDoor.fun Go.Proofs.YtjibmpebebephaaGreatDoor.heap
set_option linter.unusedVariables false
set_option linter.unusedSimpArgs false

theorem hidv {P : Prop} (h : P) : Hid P := h
theorem drewN_bv {B : Nat} {w w' : World} (h : Below B w w') (n : Nat) : Below B w (w'.drewN n) := ⟨h.os, h.tape, h.output, h.size, h.block⟩
theorem drewN_av {w wk : World} {cs : List Value} {t : TypeId} (h : ArgK w wk cs t) (n : Nat) : ArgK w (wk.drewN n) cs t := ⟨drewN_bv h.bel n, h.blk⟩
theorem ret_bV {a b : Bool} (h : a = b) : Ending.returned (.bool a) = Ending.returned (.bool b) := by rw [h]
theorem fun_at {w : World} {S : Nat → Prop} {a : Option Addr} {n c : Nat} {ks : List FunD} (h : funSh.slice.rep w S [.slice a n c] ks) {i : Nat} (hi : i < ks.length) :
    ∃ b o a1 c1, a = some ⟨b, o, none⟩ ∧ S b ∧ w.cell? ⟨b, o + i * 2 + 1, none⟩ = some (.slice a1 ks[i].2.length c1) := by
  obtain ⟨a', cap, css, e, -, -, hrow, hk⟩ := funs_open h
  simp only [Value.slice.injEq] at e
  obtain ⟨rfl, -, rfl⟩ := e
  obtain ⟨b, o, rfl, hS, hc⟩ := hrow i hi
  have hrep := hk i hi
  obtain ⟨v0, v1, hcs, e0, e1⟩ := fun_cells hrep hc
  obtain ⟨x0, x1, a1, c1, hx, hcs2, -, -⟩ := fun_open hrep
  rw [hcs] at hcs2
  simp only [List.cons.injEq, and_true] at hcs2
  rw [hcs2.2] at e1
  refine ⟨b, o, a1, c1, rfl, hS, ?_⟩
  rw [e1, hx]
theorem call_at {w : World} {S : Nat → Prop} {a : Option Addr} {n c : Nat} {ks : List call.CallD} (h : call.callSh.slice.rep w S [.slice a n c] ks) {i : Nat} (hi : i < ks.length) :
    ∃ b o, a = some ⟨b, o, none⟩ ∧ S b ∧ w.cell? ⟨b, o + i * 3, none⟩ = some (.int .i64 ks[i].1) ∧ w.cell? ⟨b, o + i * 3 + 1, none⟩ = some (.int .i64 ks[i].2.1) ∧ w.cell? ⟨b, o + i * 3 + 2, none⟩ = some (.int .i64 ks[i].2.2) ∧
      (-9223372036854775808 ≤ ks[i].1 ∧ ks[i].1 ≤ 9223372036854775807) ∧ (-9223372036854775808 ≤ ks[i].2.1 ∧ ks[i].2.1 ≤ 9223372036854775807) ∧ (-9223372036854775808 ≤ ks[i].2.2 ∧ ks[i].2.2 ≤ 9223372036854775807) := by
  obtain ⟨a', cap, css, e, -, -, hrow, hk⟩ := call.calls_open h
  simp only [Value.slice.injEq] at e
  obtain ⟨rfl, -, rfl⟩ := e
  obtain ⟨b, o, rfl, hS, hc⟩ := hrow i hi
  have hrep := hk i hi
  obtain ⟨v0, v1, v2, hcs, e0, e1, e2⟩ := call.call_cells hrep hc
  obtain ⟨x0, x1, x2, hx, hcs2, f0, f1, f2⟩ := call.call_open hrep
  rw [hcs] at hcs2
  simp only [List.cons.injEq, and_true] at hcs2
  rw [hcs2.1] at e0
  rw [hcs2.2.1] at e1
  rw [hcs2.2.2] at e2
  rw [hx]
  exact ⟨b, o, rfl, hS, e0, e1, e2, f0, f1, f2⟩
theorem fun_cap {w : World} {S : Nat → Prop} {a : Option Addr} {n c : Nat} {ks : List FunD} (h : funSh.slice.rep w S [.slice a n c] ks) : (ks.length : Int) ≤ 9223372036854775807 := by
  obtain ⟨a', cap, css, e, h1, h2, -⟩ := funs_open h
  unfold maxLen at h2; omega
theorem call_cap {w : World} {S : Nat → Prop} {a : Option Addr} {n c : Nat} {ks : List call.CallD} (h : call.callSh.slice.rep w S [.slice a n c] ks) : (ks.length : Int) ≤ 9223372036854775807 := by
  obtain ⟨a', cap, css, e, h1, h2, -⟩ := call.calls_open h
  unfold maxLen at h2; omega
theorem len_funs {ks : List FunD} (h : funsB ks = true) : 1 ≤ ks.length ∧ ks.length ≤ 60 := by
  unfold funsB at h
  simp only [Bool.and_eq_true] at h
  have := inB_yes h.1.1
  omega
theorem len_list {ks : List FunD} (h : funsB ks = true) {i : Nat} (hi : i < ks.length) : 1 ≤ ks[i].2.length ∧ ks[i].2.length ≤ 3000 := by
  unfold funsB at h
  simp only [Bool.and_eq_true] at h
  have h2 := List.all_eq_true.1 h.2 i (List.mem_range.2 hi)
  rw [List.getElem?_eq_getElem hi] at h2
  simp only [Option.map_some, Option.getD_some] at h2
  unfold funB at h2
  simp only [Bool.and_eq_true] at h2
  have := inB_yes h2.1.1.2
  omega

end Go.Proofs.YtjibmpebebephaaGreatDoor.vm

namespace Go.Proofs.YtjibmpebebephaaGreatDoor.vm
open Go Go.RowKit Go.Deep Go.Proofs.YtjibmpebebephaaGreatDoor.rose Go.Proofs.YtjibmpebebephaaGreatDoor Go.Proofs.YtjibmpebebephaaGreatDoor.fun Go.Proofs.YtjibmpebebephaaGreatDoor.heap
set_option linter.unusedVariables false
set_option linter.unusedSimpArgs false
set_option maxRecDepth 100000

theorem infoIntV : (Tryz.prog.info? 3).map (fun i => (i.zero, i.size)) = some (some (.int .i64 0), 1) := by kernel_rfl
theorem infoCallV : (Tryz.prog.info? 57).map (fun i => (i.zero, i.size)) = some (some (.agg #[.int .i64 0, .int .i64 0, .int .i64 0]), 3) := by kernel_rfl
theorem infoVmV : (Tryz.prog.info? 35).map (fun i => (i.zero, i.size)) = some (some (.agg #[.slice none 0 0, .slice none 0 0, .int .i64 0, .int .i64 0, .int .i64 0, .slice none 0 0, .slice none 0 0, .slice none 0 0, .int .i64 0, .bool false]), 10) := by kernel_rfl

section
variable {ops : Array Oper} {o : Oper} {a : Act} {w : World} {K : Act → World → Prop} {Q : Exit → Act → World → Prop} {E : Prop}
theorem step_words (hg : o.guard = none) (x y : Operand) (ho : o.op = .buildSlice 23 2 #[(0, x), (1, y)]) (hx : a.eval x = .int .i64 1) (hy : a.eval y = .int .i64 1)
    (hK : ∀ g w', g = w.heap.size → Below w.heap.size w w' → w'.heap[g]? = some (.cells #[.int .i64 1, .int .i64 1] 3) → w.heap.size + 1 = w'.heap.size → K (a.put o.dst (.slice (some ⟨g, 0, none⟩) 2 2)) w') :
    if Region.wanted o (yielded ops a.tmps) = true then Oper.wp Tryz.prog o a w K Q else E := by
  obtain ⟨ti, h1, hz⟩ := Option.map_eq_some_iff.1 infoIntV
  simp only [Prod.mk.injEq] at hz
  exact step_make hg 23 3 2 _ ho #[.int .i64 1, .int .i64 1] ti _ Tryz.underlying23 h1 hz.1 (by rw [hz.2]; decide) (by rw [hz.2]; decide) (by rw [hz.2]; simp only [List.map_toArray, List.map_cons, List.map_nil, hx, hy]; kernel_rfl) fun w' h2 h3 h4 => hK _ w' rfl h2 h3 h4
theorem step_calls1 (hg : o.guard = none) (x : Operand) (ho : o.op = .buildSlice 33 1 #[(0, x)]) (hx : a.eval x = .agg #[.int .i64 0, .int .i64 0, .int .i64 1])
    (hK : ∀ g w', g = w.heap.size → Below w.heap.size w w' → w'.heap[g]? = some (.cells #[.int .i64 0, .int .i64 0, .int .i64 1] 57) → w.heap.size + 1 = w'.heap.size → K (a.put o.dst (.slice (some ⟨g, 0, none⟩) 1 1)) w') :
    if Region.wanted o (yielded ops a.tmps) = true then Oper.wp Tryz.prog o a w K Q else E := by
  obtain ⟨ti, h1, hz⟩ := Option.map_eq_some_iff.1 infoCallV
  simp only [Prod.mk.injEq] at hz
  exact step_make hg 33 57 1 _ ho #[.int .i64 0, .int .i64 0, .int .i64 1] ti _ Tryz.underlying33 h1 hz.1 (by rw [hz.2]; decide) (by rw [hz.2]; decide) (by rw [hz.2]; simp only [List.map_toArray, List.map_cons, List.map_nil, hx]; kernel_rfl) fun w' h2 h3 h4 => hK _ w' rfl h2 h3 h4
theorem step_vm (hg : o.guard = none) (ho : o.op = .alloc 35)
    (hK : ∀ g w', g = w.heap.size → Below w.heap.size w w' → w'.heap[g]? = some (.cells #[.slice none 0 0, .slice none 0 0, .int .i64 0, .int .i64 0, .int .i64 0, .slice none 0 0, .slice none 0 0, .slice none 0 0, .int .i64 0, .bool false] 35) → w.heap.size + 1 = w'.heap.size → K (a.put o.dst (.pointer (some ⟨g, 0, none⟩))) w') :
    if Region.wanted o (yielded ops a.tmps) = true then Oper.wp Tryz.prog o a w K Q else E := by
  obtain ⟨ti, h1, hz⟩ := Option.map_eq_some_iff.1 infoVmV
  simp only [Prod.mk.injEq] at hz
  exact step_var hg 35 ho ti _ h1 hz.1 fun w' h2 h3 h4 => hK _ w' rfl h2 h3 h4
end

/-- The cells of a block are written, from the i-th one on. -/
def setN (g : Nat) : World → Nat → List Value → World
  | w, _, [] => w
  | w, i, v :: vs => setN g (w.setCell ⟨g, i, none⟩ v) (i + 1) vs
theorem setN_other {g q : Nat} (h : q ≠ g) : ∀ (vs : List Value) (w : World) (i : Nat), (setN g w i vs).heap[q]? = w.heap[q]? := by
  intro vs
  induction vs with
  | nil => intro w i; rfl
  | cons v vs ih => intro w i; rw [setN, ih]; exact Below.heap_setCell _ _ _ _ h
theorem set_size (w : World) (a : Addr) (v : Value) : (w.setCell a v).heap.size = w.heap.size := by simp [World.setCell]
theorem setN_size {g : Nat} : ∀ (vs : List Value) (w : World) (i : Nat), (setN g w i vs).heap.size = w.heap.size := by
  intro vs
  induction vs with
  | nil => intro w i; rfl
  | cons v vs ih => intro w i; rw [setN, ih, set_size]
theorem set_blk {w : World} {g i : Nat} {arr : Array Value} {t : TypeId} {v : Value} (h : w.heap[g]? = some (.cells arr t)) : (w.setCell ⟨g, i, none⟩ v).heap[g]? = some (.cells (arr.setIfInBounds i v) t) := by
  simp [World.setCell, Array.getElem?_modify, h]
theorem setN_same {g : Nat} : ∀ (vs : List Value) (w : World) (i : Nat), (setN g w i vs).os = w.os ∧ (setN g w i vs).tape = w.tape ∧ (setN g w i vs).output = w.output := by
  intro vs
  induction vs with
  | nil => intro w i; exact ⟨rfl, rfl, rfl⟩
  | cons v vs ih => intro w i; rw [setN]; exact ih _ _
theorem setN_below {g B : Nat} {w w' : World} (vs : List Value) (i : Nat) (hb : Below B w' w) (hg : B ≤ g) : Below B w' (setN g w i vs) :=
  ⟨(setN_same vs w i).1.trans hb.os, (setN_same vs w i).2.1.trans hb.tape, (setN_same vs w i).2.2.trans hb.output, by rw [setN_size]; exact hb.size, fun k hk => (setN_other (by omega) vs w i).trans (hb.block k hk)⟩
theorem setN_blk {w : World} {g : Nat} {t : TypeId} {u0 u1 u2 u3 u4 u5 u6 u7 u8 u9 v0 v1 v2 v3 v4 v5 v6 v7 v8 v9 : Value} (h : w.heap[g]? = some (.cells #[u0, u1, u2, u3, u4, u5, u6, u7, u8, u9] t)) :
    (setN g w 0 [v0, v1, v2, v3, v4, v5, v6, v7, v8, v9]).heap[g]? = some (.cells #[v0, v1, v2, v3, v4, v5, v6, v7, v8, v9] t) := by
  have h1 := set_blk (i := 0) (v := v0) h
  have h2 := set_blk (i := 1) (v := v1) h1
  have h3 := set_blk (i := 2) (v := v2) h2
  have h4 := set_blk (i := 3) (v := v3) h3
  have h5 := set_blk (i := 4) (v := v4) h4
  have h6 := set_blk (i := 5) (v := v5) h5
  have h7 := set_blk (i := 6) (v := v6) h6
  have h8 := set_blk (i := 7) (v := v7) h7
  have h9 := set_blk (i := 8) (v := v8) h8
  have h10 := set_blk (i := 9) (v := v9) h9
  simp only [List.setIfInBounds_toArray, List.set_cons_succ, List.set_cons_zero] at h10
  simp only [setN, Nat.zero_add, Nat.reduceAdd]
  exact h10
/-- A list of two words, of one call, in a block of its own. -/
theorem words_rep {w : World} {g : Nat} (h : w.heap[g]? = some (.cells #[.int .i64 1, .int .i64 1] 3)) : Sh.int.sslice.rep w (fun b => b = g) [.slice (some ⟨g, 0, none⟩) 2 2] [1, 1] := by
  refine ⟨some ⟨g, 0, none⟩, 2, fun _ => [.int .i64 1], fun _ _ => False, rfl, Nat.le_refl _, by unfold maxLen; omega, (fun h => by cases h), fun _ => ⟨g, 0, _, 3, rfl, rfl, h, fun i hi q => q.elim, fun i hi j u hj => ?_⟩, fun i hi b hb => hb.elim, fun i j hi hj hne b hb => hb.elim, fun i hi => ?_⟩
  · have hi' : i < 2 := hi
    have hj0 : j = 0 := by
      rcases j with _ | j
      · rfl
      · simp at hj
    subst hj0
    obtain rfl : u = .int .i64 1 := by simpa using hj.symm
    simp only [World.cell?, h]
    rcases (by omega : i = 0 ∨ i = 1) with rfl | rfl <;> rfl
  · have hi' : i < 2 := hi
    rcases (by omega : i = 0 ∨ i = 1) with rfl | rfl <;> exact ⟨rfl, (by decide : (-9223372036854775808 : Int) ≤ 1 ∧ (1 : Int) ≤ 9223372036854775807)⟩
theorem words_sh {w : World} {g : Nat} {S : Nat → Prop} (h : w.heap[g]? = some (.cells #[.int .i64 1, .int .i64 1] 3)) (hS : S g) : Sh.int.slice.rep w S [.slice (some ⟨g, 0, none⟩) 2 2] [1, 1] :=
  Sh.int.slice.mono (ints.intsp_rep (words_rep h)) fun b hb => by rw [hb]; exact hS
theorem call1_rep {w : World} {g : Nat} (h : w.heap[g]? = some (.cells #[.int .i64 0, .int .i64 0, .int .i64 1] 57)) : call.callSp.sslice.rep w (fun b => b = g) [.slice (some ⟨g, 0, none⟩) 1 1] [(0, 0, 1)] := by
  refine ⟨some ⟨g, 0, none⟩, 1, fun _ => [.int .i64 0, .int .i64 0, .int .i64 1], fun _ _ => False, rfl, Nat.le_refl _, by unfold maxLen; omega, (fun h => by cases h), fun _ => ⟨g, 0, _, 57, rfl, rfl, h, fun i hi q => q.elim, fun i hi j u hj => ?_⟩, fun i hi b hb => hb.elim, fun i j hi hj hne b hb => hb.elim, fun i hi => ?_⟩
  · have hi' : i < 1 := hi
    obtain rfl : i = 0 := by omega
    have hj3 : j < 3 := by
      rcases Nat.lt_or_ge j 3 with q | q
      · exact q
      · rw [List.getElem?_eq_none (by simpa using q)] at hj; cases hj
    simp only [World.cell?, h]
    rcases (by omega : j = 0 ∨ j = 1 ∨ j = 2) with rfl | rfl | rfl <;> (simp at hj; subst hj; rfl)
  · have hi' : i < 1 := hi
    obtain rfl : i = 0 := by omega
    exact call.callp_shut (by decide) (by decide) (by decide)
theorem call1_sh {w : World} {g : Nat} {S : Nat → Prop} (h : w.heap[g]? = some (.cells #[.int .i64 0, .int .i64 0, .int .i64 1] 57)) (hS : S g) : call.callSh.slice.rep w S [.slice (some ⟨g, 0, none⟩) 1 1] [(0, 0, 1)] :=
  call.callSh.slice.mono (call.callps_rep (call1_rep h)) fun b hb => by rw [hb]; exact hS

set_option maxHeartbeats 4000000 in
/-- A machine's variable is written. -/
theorem step_write {ops : Array Oper} {o : Oper} {a : Act} {w : World} {K : Act → World → Prop} {Q : Exit → Act → World → Prop} {E : Prop} {g : Nat} {u0 u1 u2 u3 u4 u5 u6 u7 u8 u9 : Value} {b0 b1 b5 b6 b7 : Option Addr} {l0 k0 l1 k1 l5 k5 l6 k6 l7 k7 : Nat} {n2 n3 n4 n8 : Int} {n9 : Bool} {t : TypeId}
    (hg : o.guard = none) (hd : o.dst = none) (p x : Operand) (ho : o.op = .store 35 p x) (hp : a.eval p = .pointer (some ⟨g, 0, none⟩)) (hx : a.eval x = .agg #[.slice b0 l0 k0, .slice b1 l1 k1, .int .i64 n2, .int .i64 n3, .int .i64 n4, .slice b5 l5 k5, .slice b6 l6 k6, .slice b7 l7 k7, .int .i64 n8, .bool n9])
    (h : w.heap[g]? = some (.cells #[u0, u1, u2, u3, u4, u5, u6, u7, u8, u9] t))
    (hK : ∀ w', w'.heap[g]? = some (.cells #[.slice b0 l0 k0, .slice b1 l1 k1, .int .i64 n2, .int .i64 n3, .int .i64 n4, .slice b5 l5 k5, .slice b6 l6 k6, .slice b7 l7 k7, .int .i64 n8, .bool n9] t) → (∀ q, q ≠ g → w'.heap[q]? = w.heap[q]?) → w'.heap.size = w.heap.size → (∀ B w0, Below B w0 w → B ≤ g → Below B w0 w') → K a w') :
    if Region.wanted o (yielded ops a.tmps) = true then Oper.wp Tryz.prog o a w K Q else E := by
  have hw : Region.wanted o (yielded ops a.tmps) = true := by simp [Region.wanted, hg]
  rw [if_pos hw]
  have hk := hK (setN g w 0 [.slice b0 l0 k0, .slice b1 l1 k1, .int .i64 n2, .int .i64 n3, .int .i64 n4, .slice b5 l5 k5, .slice b6 l6 k6, .slice b7 l7 k7, .int .i64 n8, .bool n9]) (setN_blk h) (fun q hq => setN_other hq _ _ _) (setN_size _ _ _) (fun B w0 hb hB => setN_below _ _ hb hB)
  simp only [setN, Nat.zero_add, Nat.reduceAdd] at hk
  have c0 : w.cell? ⟨g, 0, none⟩ = some u0 := by simp [World.cell?, h]
  have c1 : w.cell? ⟨g, 1, none⟩ = some u1 := by simp [World.cell?, h]
  have c2 : w.cell? ⟨g, 2, none⟩ = some u2 := by simp [World.cell?, h]
  have c3 : w.cell? ⟨g, 3, none⟩ = some u3 := by simp [World.cell?, h]
  have c4 : w.cell? ⟨g, 4, none⟩ = some u4 := by simp [World.cell?, h]
  have c5 : w.cell? ⟨g, 5, none⟩ = some u5 := by simp [World.cell?, h]
  have c6 : w.cell? ⟨g, 6, none⟩ = some u6 := by simp [World.cell?, h]
  have c7 : w.cell? ⟨g, 7, none⟩ = some u7 := by simp [World.cell?, h]
  have c8 : w.cell? ⟨g, 8, none⟩ = some u8 := by simp [World.cell?, h]
  have c9 : w.cell? ⟨g, 9, none⟩ = some u9 := by simp [World.cell?, h]
  have fz : ∀ j, w.frozen? ⟨g, j, none⟩ = false := fun j => by simp [World.frozen?, h]
  have HK : Hid _ := hk
  clear hK hk h
  obtain ⟨dst, op, ty, pos, after, guard⟩ := o
  have ho' : op = .store 35 p x := ho
  have hd' : dst = none := hd
  subst ho'
  subst hd'
  unfold Oper.wp execOp
  simp only [hp, hx]
  go_simp
  exact HK.out

/-- What is held while a machine is made: what was there, the result's own block, the heap. -/
structure MK (w X : World) (hk lo0 : Nat) (aw : Option Addr) (n0 cw : Nat) (half base next : Int) (T : HeapD) : Prop where
  bb : Below w.heap.size w X
  hb : X.heap[hk]? = some (.cells #[.slice aw n0 cw, .int .i64 half, .int .i64 base, .int .i64 next] 32)
  hr : X.heap[w.heap.size]? = some (.cells #[.slice none 0 0, .slice none 0 0, .int .i64 0, .int .i64 0, .int .i64 0, .slice none 0 0, .slice none 0 0, .slice none 0 0, .int .i64 0, .bool false] 35)
  hp : heapSp.rep X (fun b => lo0 ≤ b ∧ b < hk) [.slice aw n0 cw, .int .i64 half, .int .i64 base, .int .i64 next] T
  ar : w.heap.size < lo0 ∧ lo0 ≤ hk ∧ hk < X.heap.size
def BlkV (X : World) (g : Nat) (cs : Array Value) (t : TypeId) : Prop := X.heap[g]? = some (.cells cs t)
def FunsV (X : World) (lF hF : Nat) (af : Option Addr) (cf : Nat) (ks : List FunD) : Prop := funSp.sslice.rep X (fun b => lF ≤ b ∧ b < hF) [.slice af ks.length cf] ks ∧ hF ≤ X.heap.size
section
variable {w X Y : World} {hk lo0 g n0 cw lF hF cf : Nat} {aw af : Option Addr} {half base next : Int} {T : HeapD} {cs : Array Value} {t : TypeId} {ks : List FunD}
theorem MK.on (h : MK w X hk lo0 aw n0 cw half base next T) (hb : Below X.heap.size X Y) : MK w Y hk lo0 aw n0 cw half base next T := by
  obtain ⟨a1, a2, a3⟩ := h.ar
  have hz := hb.size
  exact ⟨h.bb.trans (hb.mono h.bb.size), (hb.block _ a3).trans h.hb, (hb.block _ (by omega)).trans h.hr, heapSp.on h.hp fun b hb' => hb.block b (by omega), a1, a2, by omega⟩
theorem MK.put (h : MK w X hk lo0 aw n0 cw half base next T) (hg : hk < g) (ho : ∀ q, q ≠ g → Y.heap[q]? = X.heap[q]?) (hz : Y.heap.size = X.heap.size) (hbl : ∀ B w0, Below B w0 X → B ≤ g → Below B w0 Y) : MK w Y hk lo0 aw n0 cw half base next T := by
  obtain ⟨a1, a2, a3⟩ := h.ar
  exact ⟨hbl _ _ h.bb (by omega), (ho _ (by omega)).trans h.hb, (ho _ (by omega)).trans h.hr, heapSp.on h.hp fun b hb' => ho b (by omega), a1, a2, by omega⟩
theorem MK.cells (h : MK w X hk lo0 aw n0 cw half base next T) : X.cell? ⟨hk, 0, none⟩ = some (.slice aw n0 cw) ∧ X.cell? ⟨hk, 1, none⟩ = some (.int .i64 half) ∧ X.cell? ⟨hk, 2, none⟩ = some (.int .i64 base) ∧ X.cell? ⟨hk, 3, none⟩ = some (.int .i64 next) := by
  refine ⟨?_, ?_, ?_, ?_⟩ <;> simp [World.cell?, h.hb]
theorem BlkV.lt (h : BlkV X g cs t) : g < X.heap.size := (Array.getElem?_eq_some_iff.1 h).1
theorem BlkV.on (h : BlkV X g cs t) (hb : Below X.heap.size X Y) : BlkV Y g cs t := (hb.block g h.lt).trans h
theorem FunsV.on (h : FunsV X lF hF af cf ks) (hb : Below X.heap.size X Y) : FunsV Y lF hF af cf ks := by
  have := h.2
  have := hb.size
  exact ⟨funSp.sslice.on h.1 fun b hb' => hb.block b (by omega), by omega⟩
theorem FunsV.put (h : FunsV X lF hF af cf ks) (hn : g < lF ∨ hF ≤ g) (ho : ∀ q, q ≠ g → Y.heap[q]? = X.heap[q]?) (hz : Y.heap.size = X.heap.size) : FunsV Y lF hF af cf ks :=
  ⟨funSp.sslice.on h.1 fun b hb' => ho b (by omega), by rw [hz]; exact h.2⟩
end

end Go.Proofs.YtjibmpebebephaaGreatDoor.vm

namespace Go.Proofs.YtjibmpebebephaaGreatDoor.heap
open Go Go.RowKit Go.Proofs.YtjibmpebebephaaGreatDoor.rose Go.Proofs.YtjibmpebebephaaGreatDoor Go.Proofs.YtjibmpebebephaaGreatDoor.fun Go.Proofs.YtjibmpebebephaaGreatDoor.words
set_option linter.unusedVariables false
set_option linter.unusedSimpArgs false

set_option maxHeartbeats 1000000 in
theorem isref_is {n : Int} {b : Bool} {w : World} (h : decide (n % 2 = 0) = b) : Calls Tryz.prog 58 #[.int .i64 n] w fun e w' => e = .returned (.bool b) ∧ w' = w := by
  have ha := and_one n
  go_enter Tryz.func58, Tryz.ntmps58
  go_wp2
  go_ret
  exact ⟨ret_b (by rw [← h, Bool.eq_iff_iff]; simp), rfl⟩
set_option maxHeartbeats 1000000 in
theorem wordint_is (n : Int) (w : World) : Calls Tryz.prog 61 #[.int .i64 n] w fun e w' => e = .returned (.int .i64 (n / 2)) ∧ w' = w := by
  go_enter Tryz.func61, Tryz.ntmps61
  go_wp2
  go_ret
  exact ⟨ret_i (by first | rfl | omega), rfl⟩
set_option maxHeartbeats 1000000 in
theorem wordref_is (n : Int) (w : World) : Calls Tryz.prog 60 #[.int .i64 n] w fun e w' => e = .returned (.int .i64 (n / 2)) ∧ w' = w := by
  go_enter Tryz.func60, Tryz.ntmps60
  go_wp2
  go_ret
  exact ⟨ret_i (by first | rfl | omega), rfl⟩
set_option maxHeartbeats 2000000 in
theorem of_is (n : Int) (w : World) (h1 : -9223372036854775808 ≤ n) (h2 : n ≤ 9223372036854775807) : Calls Tryz.prog 57 #[.int .i64 n] w fun e w' => e = .returned (.tuple #[.bool (funF n), .int .i64 (tagF n), .int .i64 (manyF n)]) ∧ w' = w := by
  have ha := and_one (n / 2)
  have hb := and_63 (n / 2 / 2)
  have hq : IntKind.i64.wrap (Int.tdiv (n / 2 / 2) 64) = Int.tdiv (n / 2 / 2) 64 := IntWalk.i64_quo' _ _ (by omega)
  go_enter Tryz.func57, Tryz.ntmps57
  go_wp2
  refine bodyPost_ret (v := .tuple #[.bool (funF n), .int .i64 (tagF n), .int .i64 (manyF n)]) (by simp [results, Tryz.f57, go_sem, funF, tagF, manyF]; try (rw [Bool.eq_iff_iff]; simp)) rfl ?_
  exact ⟨rfl, rfl⟩
set_option maxHeartbeats 1000000 in
theorem in7_is {l : List Int} {x : Int} {b : Bool} (v : Value) (w : World) (hb : decide (x ∈ l) = b) (h : ints.intsSh.rep w (· < w.heap.size) [v] l) : Calls Tryz.prog 59 #[v, .int .i64 x] w fun e w' => e = .returned (.bool b) ∧ w' = w := by
  obtain ⟨a, cap, rfl, hcap, hmax, hat⟩ := ints.ints_open h
  have hmx : (l.length : Int) ≤ 9223372036854775807 := by unfold maxLen at hmax; omega
  have HA : Hid _ := hat
  have HB : Hid (decide (x ∈ l) = b) := hb
  clear h hcap hmax hat hb
  go_enter Tryz.func59, Tryz.ntmps59
  go_wp2
  go_loopw [5] (fun v5 wr => ∃ i : Nat, i ≤ l.length ∧ v5 = .int .i64 i ∧ wr = w ∧ Hid (∀ j (hj : j < l.length), j < i → l[j] ≠ x)) (fun v5 _ => l.length - (intOf v5).toNat)
  case atStart => exact ⟨0, Nat.zero_le _, rfl, rfl, fun j _ hj => absurd hj (Nat.not_lt_zero _)⟩
  case round =>
    obtain ⟨i, hi, rfl, hwr, HJ⟩ := hrel
    subst wr
    by_cases hlt : i < l.length
    · obtain ⟨b', o, rfl, hS, hc, -⟩ := HA.out i hlt
      have e0 : w.cell? ⟨b', o + i, none⟩ = some (.int .i64 l[i]) := hc
      clear hc
      by_cases he : l[i] = x
      · have HE : Hid (b = true) := by show _ = _; rw [← HB.out]; simp only [decide_eq_true_eq]; rw [← he]; exact List.getElem_mem hlt
        rw [he] at e0
        go_wp2
        go_ret
        exact ⟨ret_b HE.out.symm, rfl⟩
      · have hne : (l[i] == x) = false := by simpa using he
        have HN : Hid (∀ j (hj : j < l.length), j < i + 1 → l[j] ≠ x) := fun j hj h1 => by
          by_cases q : j = i
          · subst q; exact he
          · exact HJ.out j hj (by omega)
        generalize l[i] = y at e0 hne
        clear he
        go_wp2
        go_round
        case rel => exact ⟨i + 1, by omega, by go_num, by first | rfl | trivial, HN⟩
        case measure => simp [intOf]; omega
    · obtain rfl : i = l.length := by omega
      have HE : Hid (b = false) := by
        show _ = _; rw [← HB.out]; simp only [decide_eq_false_iff_not]
        intro hm
        obtain ⟨j, hj, e⟩ := List.getElem_of_mem hm
        exact HJ.out j hj hj e
      go_wp2
      go_ret
      exact ⟨ret_b HE.out.symm, rfl⟩

end Go.Proofs.YtjibmpebebephaaGreatDoor.heap
