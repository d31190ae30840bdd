/-
  The law's type Op as it lies in memory.
  The law's type Fun as it lies in memory.
  The law's measure of slices of Ops: what is left of a number when their length is taken off it, or -1.
  The law's measure of a Fun (szFun and of slices): what is left of a number when the weight is taken off it, or -1; nothing that was there is turned.
  A Op that came in as an argument lies in memory as its cells.
  A Fun that came in as an argument lies in memory as its cells.
  An Op that lies in memory apart: it holds no memory; a slice of them is one block.
  A Fun that lies in memory apart: its slices are all different blocks.
  The law's copies of a Op and of slices of it: the same in new memory, all of it apart; nothing that was there is turned.
-/
import Derived.Test.YtjibmpebebephaaGreatDoorChecked
import Derived.WalkKit
import Derived.WalkLawsBesides
import Derived.Deep.QuietTactic
import Derived.BigQuiet
import Derived.ProofKit
import Derived.OpenShut
import Derived.Laws.MakeOwn
import Derived.Deep.OwnRows
import Derived.Test.YtjibmpebebephaaGreatDoorC1
import Derived.Test.YtjibmpebebephaaGreatDoorC2
import Derived.Test.YtjibmpebebephaaGreatDoorC3
namespace Go.Proofs.YtjibmpebebephaaGreatDoor.op
open Go.RowKit Go.Proofs.YtjibmpebebephaaGreatDoor.rose Go.Proofs.YtjibmpebebephaaGreatDoor
set_option linter.unusedVariables false

abbrev OpD := Int × Int × Int
abbrev opSh : Sh OpD := Sh.int.pair (Sh.int.pair Sh.int)

theorem op_open {w : World} {S : Nat → Prop} {cs : List Value} {T : OpD} (h : opSh.rep w S cs T) : ∃ x0 x1 x2, T = (x0, x1, x2) ∧ cs = [.int .i64 x0, .int .i64 x1, .int .i64 x2] ∧ (-9223372036854775808 ≤ x0 ∧ x0 ≤ 9223372036854775807) ∧ (-9223372036854775808 ≤ x1 ∧ x1 ≤ 9223372036854775807) ∧ (-9223372036854775808 ≤ x2 ∧ x2 ≤ 9223372036854775807) := by
  obtain ⟨x0, x1, x2⟩ := T
  obtain ⟨_, _, rfl, ⟨rfl, h0⟩, _, _, rfl, ⟨rfl, h1⟩, ⟨rfl, h2⟩⟩ := h
  exact ⟨_, _, _, rfl, rfl, h0, h1, h2⟩
theorem op_list {w : World} {S : Nat → Prop} {cs : List Value} {T : OpD} (h : opSh.rep w S cs T) : ∃ v0 v1 v2, cs = [v0, v1, v2] := by
  obtain ⟨x0, x1, x2, -, rfl, -⟩ := op_open h
  exact ⟨_, _, _, rfl⟩
theorem op_shut {w : World} {S : Nat → Prop} {x0 : Int} {x1 : Int} {x2 : Int} (h0 : -9223372036854775808 ≤ x0 ∧ x0 ≤ 9223372036854775807) (h1 : -9223372036854775808 ≤ x1 ∧ x1 ≤ 9223372036854775807) (h2 : -9223372036854775808 ≤ x2 ∧ x2 ≤ 9223372036854775807) : opSh.rep w S [.int .i64 x0, .int .i64 x1, .int .i64 x2] ((x0, x1, x2)) :=
  ⟨[_], _, rfl, ⟨rfl, h0⟩, [_], _, rfl, ⟨rfl, h1⟩, ⟨rfl, h2⟩⟩

theorem ops_open {w : World} {S : Nat → Prop} {v : Value} {ks : List OpD} (h : opSh.slice.rep w S [v] ks) : ∃ a cap css, v = .slice a ks.length cap ∧ ks.length ≤ cap ∧ cap ≤ maxLen ∧ RowAt w S 3 a ks.length css ∧ ∀ i (h : i < ks.length), opSh.rep w S (css i) ks[i] := by
  obtain ⟨a, cap, css, e, h1, h2, -, h3, h4⟩ := h
  exact ⟨a, cap, css, by simpa using e, h1, h2, h3, h4⟩

theorem op_cells {w : World} {S : Nat → Prop} {b o i : Nat} {cs : List Value} {T : OpD} (h : opSh.rep w S cs T) (hc : CellsAt w b (o + i * 3) cs) :
    ∃ v0 v1 v2, cs = [v0, v1, v2] ∧ w.cell? ⟨b, o + i * 3, none⟩ = some v0 ∧ w.cell? ⟨b, o + i * 3 + 1, none⟩ = some v1 ∧ w.cell? ⟨b, o + i * 3 + 2, none⟩ = some v2 := by
  obtain ⟨v0, v1, v2, rfl⟩ := op_list h
  exact ⟨_, _, _, rfl, hc 0 _ rfl, hc 1 _ rfl, hc 2 _ rfl⟩


end Go.Proofs.YtjibmpebebephaaGreatDoor.op

namespace Go.Proofs.YtjibmpebebephaaGreatDoor.fun
open Go.RowKit Go.Proofs.YtjibmpebebephaaGreatDoor.rose Go.Proofs.YtjibmpebebephaaGreatDoor
set_option linter.unusedVariables false

abbrev FunD := Int × List op.OpD
abbrev funSh : Sh FunD := Sh.int.pair op.opSh.slice

theorem fun_open {w : World} {S : Nat → Prop} {cs : List Value} {T : FunD} (h : funSh.rep w S cs T) : ∃ x0 x1 a1 c1, T = (x0, x1) ∧ cs = [.int .i64 x0, .slice a1 x1.length c1] ∧ (-9223372036854775808 ≤ x0 ∧ x0 ≤ 9223372036854775807) ∧ op.opSh.slice.rep w S [.slice a1 x1.length c1] x1 := by
  obtain ⟨x0, x1⟩ := T
  obtain ⟨_, _, rfl, ⟨rfl, h0⟩, h1⟩ := h
  obtain ⟨a1, c1, rfl⟩ := slice_cells h1
  exact ⟨_, _, _, _, rfl, rfl, h0, h1⟩
theorem fun_list {w : World} {S : Nat → Prop} {cs : List Value} {T : FunD} (h : funSh.rep w S cs T) : ∃ v0 v1, cs = [v0, v1] := by
  obtain ⟨x0, x1, a1, c1, -, rfl, -⟩ := fun_open h
  exact ⟨_, _, rfl⟩
theorem fun_shut {w : World} {S : Nat → Prop} {x0 : Int} {x1 : List op.OpD} {a1 : Option Addr} {c1 : Nat} (h0 : -9223372036854775808 ≤ x0 ∧ x0 ≤ 9223372036854775807) (h1 : op.opSh.slice.rep w S [.slice a1 x1.length c1] x1) : funSh.rep w S [.int .i64 x0, .slice a1 x1.length c1] ((x0, x1)) :=
  ⟨[_], _, rfl, ⟨rfl, h0⟩, h1⟩

theorem funs_open {w : World} {S : Nat → Prop} {v : Value} {ks : List FunD} (h : funSh.slice.rep w S [v] ks) : ∃ a cap css, v = .slice a ks.length cap ∧ ks.length ≤ cap ∧ cap ≤ maxLen ∧ RowAt w S 2 a ks.length css ∧ ∀ i (h : i < ks.length), funSh.rep w S (css i) ks[i] := by
  obtain ⟨a, cap, css, e, h1, h2, -, h3, h4⟩ := h
  exact ⟨a, cap, css, by simpa using e, h1, h2, h3, h4⟩

theorem fun_cells {w : World} {S : Nat → Prop} {b o i : Nat} {cs : List Value} {T : FunD} (h : funSh.rep w S cs T) (hc : CellsAt w b (o + i * 2) cs) :
    ∃ v0 v1, cs = [v0, v1] ∧ w.cell? ⟨b, o + i * 2, none⟩ = some v0 ∧ w.cell? ⟨b, o + i * 2 + 1, none⟩ = some v1 := by
  obtain ⟨v0, v1, rfl⟩ := fun_list h
  exact ⟨_, _, rfl, hc 0 _ rfl, hc 1 _ rfl⟩

end Go.Proofs.YtjibmpebebephaaGreatDoor.fun

namespace Go.Proofs.YtjibmpebebephaaGreatDoor.op
open Go.RowKit Go.Proofs.YtjibmpebebephaaGreatDoor.rose Go.Proofs.YtjibmpebebephaaGreatDoor
set_option linter.unusedVariables false

set_option maxHeartbeats 1000000 in
theorem szS_any (ks : List OpD) (v : Value) (w : World) (l : Int) (h0 : 0 ≤ l) (h1 : l ≤ 1048576) (h : opSh.slice.rep w (· < w.heap.size) [v] ks) :
    Calls Tryz.prog 70 #[v, .int .i64 l] w fun e w' => e = .returned (.int .i64 (left ks.length l)) ∧ Below w.heap.size w w' := by
  obtain ⟨a, cap, css, e, hcap, hmax, -, -, -⟩ := h
  obtain rfl : v = .slice a ks.length cap := by simpa using e
  have hmx : (ks.length : Int) ≤ 9223372036854775807 := by unfold maxLen at hmax; omega
  clear e hcap hmax
  by_cases hn : (ks.length : Int) ≤ l
  · have t1 : decide (l - (ks.length : Int) < 0) = false := by simp; omega
    have hr : left ks.length l = l - ks.length := by unfold left; rw [if_pos hn]
    go_enter Tryz.func70, Tryz.ntmps70
    go_wp2
    go_ret
    exact ⟨by first | rfl | (rw [hr]; rfl), Below.refl _ _⟩
  · have t1 : decide (l - (ks.length : Int) < 0) = true := by simp; omega
    have hr : left ks.length l = -1 := by unfold left; rw [if_neg hn]
    go_enter Tryz.func70, Tryz.ntmps70
    go_wp2
    go_ret
    exact ⟨by first | rfl | (rw [hr]; rfl), Below.refl _ _⟩

end Go.Proofs.YtjibmpebebephaaGreatDoor.op

namespace Go.Proofs.YtjibmpebebephaaGreatDoor.fun
open Go.RowKit Go.Proofs.YtjibmpebebephaaGreatDoor.rose Go.Proofs.YtjibmpebebephaaGreatDoor
set_option linter.unusedVariables false

/-- What it weighs. -/
def wt : FunD → Nat
  | (x0, x1) => x1.length
def wts : List FunD → Nat
  | [] => 0
  | k :: ks => wt k + wts ks

theorem wts_take {ks : List FunD} {i : Nat} (h : i < ks.length) : wts (ks.take (i + 1)) = wts (ks.take i) + wt ks[i] := by
  induction ks generalizing i with
  | nil => simp at h
  | cons k ks ih =>
    cases i with
    | zero => simp [wts]
    | succ i => simp [wts, ih (by simpa using h)]; omega
theorem wts_take_le (ks : List FunD) (i : Nat) : wts (ks.take i) ≤ wts ks := by
  induction ks generalizing i with
  | nil => simp [wts]
  | cons k ks ih =>
    cases i with
    | zero => simp [wts]
    | succ i => simp [wts]; exact ih i
theorem wt_mem {ks : List FunD} {k : FunD} (h : k ∈ ks) : wt k ≤ wts ks := by
  induction ks with
  | nil => cases h
  | cons a ks ih =>
    simp only [wts]
    rcases List.mem_cons.1 h with rfl | h
    · omega
    · have := ih h; omega

def SzSays (T : FunD) : Prop := ∀ cs w l, 0 ≤ l → l ≤ 1048576 → funSh.rep w (· < w.heap.size) cs T →
  Calls Tryz.prog 38 #[.agg cs.toArray, .int .i64 l] w fun e w' => e = .returned (.int .i64 (left (wt T) l)) ∧ Below w.heap.size w w'

set_option maxHeartbeats 1000000 in
theorem sz_any (T : FunD) : SzSays T := by
  intro cs w l h0 h1 h
  obtain ⟨x0, x1, a1, c1, rfl, rfl, f0, f1⟩ := fun_open h
  clear h
  have K1 : ∀ (l' : Int) (w' : World), 0 ≤ l' → l' ≤ 1048576 → Below w.heap.size w w' → Calls Tryz.prog 70 #[.slice a1 x1.length c1, .int .i64 l'] w' fun e w'' => e = .returned (.int .i64 (left (x1.length) l')) ∧ Below w'.heap.size w' w'' :=
    fun l' w' h2 h3 hb => op.szS_any x1 _ w' l' h2 h3 (op.opSh.slice.mono (op.opSh.slice.below f1 hb) fun b hlt => Nat.lt_of_lt_of_le hlt hb.size)
  clear f0 f1
  have hw : wt ((x0, x1)) = x1.length := by simp [wt]
  rw [hw]
  clear hw
  go_enter Tryz.func38, Tryz.ntmps38
  go_wp2_with fail
  refine (K1 _ _ (by omega) (by omega) ((Below.refl _ _).alloc (Nat.le_refl _) _)).mono ?_
  rintro e w1 ⟨rfl, hb⟩
  have B1 : Hid (Below w.heap.size w w1) := ((Below.refl _ _).alloc (Nat.le_refl _) _).trans (hb.mono (by simp))
  have z1 : w.heap.size < w1.heap.size := Nat.lt_of_lt_of_le (by simp) hb.size
  clear hb K1
  by_cases h10 : ((x1.length : Nat) : Int) ≤ l
  · have hl : left x1.length (l) = l - (x1.length : Nat) := by unfold left; rw [if_pos (by omega)]
    rw [hl]
    clear hl
    have t0 : decide (l - (x1.length : Nat) < 0) = false := by simp; omega
    have hr : left (x1.length) l = l - (x1.length : Nat) := by unfold left; rw [if_pos (by omega)]; try omega
    go_wp2
    go_ret
    exact ⟨by first | rfl | (rw [hr]; rfl), B1.out⟩
  · have hl : left x1.length (l) = -1 := by unfold left; rw [if_neg (by omega)]
    have hr : left (x1.length) l = -1 := by unfold left; rw [if_neg (by omega)]
    rw [hl]
    clear hl
    go_wp2
    go_ret
    exact ⟨by first | rfl | (rw [hr]; rfl), B1.out⟩

set_option maxHeartbeats 1000000 in
theorem szS_of (ks : List FunD) (ih : ∀ k ∈ ks, SzSays k) (v : Value) (w : World) (l : Int) (h0 : 0 ≤ l) (h1 : l ≤ 1048576) (h : funSh.slice.rep w (· < w.heap.size) [v] ks) :
    Calls Tryz.prog 10 #[v, .int .i64 l] w fun e w' => e = .returned (.int .i64 (left (ks.length + wts ks) l)) ∧ Below w.heap.size w w' := by
  obtain ⟨a, cap, css, rfl, hcap, hmax, hrow, hk⟩ := funs_open h
  have hmx : (ks.length : Int) ≤ 9223372036854775807 := by unfold maxLen at hmax; omega
  clear h hcap hmax
  have IH : Hid (∀ k ∈ ks, SzSays k) := ih
  have HR : Hid (RowAt w (· < w.heap.size) 2 a ks.length css ∧ ∀ i (h : i < ks.length), funSh.rep w (· < w.heap.size) (css i) ks[i]) := ⟨hrow, hk⟩
  clear ih hrow hk
  by_cases hn : (ks.length : Int) ≤ l
  · have t1 : decide (l - (ks.length : Int) < 0) = false := by simp; omega
    go_enter Tryz.func10, Tryz.ntmps10
    go_wp2
    go_loopw [1, 5] (fun v1 v5 wr => ∃ i : Nat, i ≤ ks.length ∧ v5 = .int .i64 i ∧ v1 = .int .i64 (l - ks.length - (wts (ks.take i) : Nat)) ∧ ((wts (ks.take i) : Nat) : Int) ≤ l - ks.length ∧ Hid (Below w.heap.size w wr)) (fun _ v5 _ => ks.length - (intOf v5).toNat)
    case atStart => exact ⟨0, Nat.zero_le _, rfl, by simp [wts], by simp [wts]; omega, Below.refl _ _⟩
    case round =>
      obtain ⟨i, hi, rfl, rfl, hle, HB⟩ := hrel
      by_cases hlt : i < ks.length
      · obtain ⟨b, o, rfl, hS, hc⟩ := HR.out.1 i hlt
        have hrep := HR.out.2 i hlt
        obtain ⟨v0, v1, hcs, c0, c1⟩ := fun_cells hrep hc
        have e0 := (HB.out.cell (p := ⟨b, o + i * 2, none⟩) hS).trans c0
        have e1 := (HB.out.cell (p := ⟨b, o + i * 2 + 1, none⟩) hS).trans c1
        rw [hcs] at hrep
        clear c0 c1 hc hcs
        have W1 : Hid (wts (ks.take (i + 1)) = wts (ks.take i) + wt ks[i]) := wts_take hlt
        have W2 : Hid (wts (ks.take (i + 1)) ≤ wts ks) := wts_take_le ks (i + 1)
        have hR := funSh.mono (funSh.below hrep HB.out) (S' := (· < wr.heap.size)) (fun b hb => Nat.lt_of_lt_of_le hb HB.out.size)
        clear hrep
        have hcall := IH.out ks[i] (List.getElem_mem hlt) [v0, v1] wr (l - ks.length - (wts (ks.take i) : Nat)) (by omega) (by omega) hR
        clear hR
        go_wp2_with fail
        refine hcall.mono ?_
        clear hcall
        rintro e w1 ⟨rfl, hb⟩
        have B1 : Hid (Below w.heap.size w w1) := HB.out.trans (hb.mono HB.out.size)
        clear hb HB
        by_cases hfit : ((wt ks[i] : Nat) : Int) ≤ l - ks.length - (wts (ks.take i) : Nat)
        · have hl : left (wt ks[i]) (l - ks.length - (wts (ks.take i) : Nat)) = l - ks.length - (wts (ks.take (i + 1)) : Nat) := by
            unfold left; rw [if_pos hfit, W1.out]; omega
          have hq : ((wts (ks.take (i + 1)) : Nat) : Int) ≤ l - ks.length := by rw [W1.out]; omega
          rw [hl]
          clear hl hfit
          have t2 : decide (l - (ks.length : Int) - ((wts (ks.take (i + 1)) : Nat) : Int) < 0) = false := by simp; omega
          go_wp2
          go_round
          case rel => exact ⟨i + 1, by omega, by go_num, rfl, hq, B1⟩
          case measure => simp [intOf]; omega
        · have hl : left (wt ks[i]) (l - ks.length - (wts (ks.take i) : Nat)) = -1 := by
            unfold left; rw [if_neg hfit]
          have hr : left (ks.length + wts ks) l = -1 := by
            unfold left; rw [if_neg]; have := W1.out; have := W2.out; omega
          rw [hl]
          clear hl
          go_wp2
          go_ret
          exact ⟨by rw [hr]; rfl, B1.out⟩
      · obtain rfl : i = ks.length := by omega
        have hr : left (ks.length + wts ks) l = l - ks.length - (wts ks : Nat) := by
          rw [List.take_length] at hle
          unfold left; rw [if_pos (by omega)]; try omega
        go_wp2
        go_ret
        exact ⟨by rw [hr, List.take_length]; rfl, HB.out⟩
  · have t1 : decide (l - (ks.length : Int) < 0) = true := by simp; omega
    have hr : left (ks.length + wts ks) l = -1 := by
      unfold left; rw [if_neg]; omega
    go_enter Tryz.func10, Tryz.ntmps10
    go_wp2
    go_ret
    exact ⟨by first | rfl | (rw [hr]; rfl), Below.refl _ _⟩

theorem szS_any (ks : List FunD) (v : Value) (w : World) (l : Int) (h0 : 0 ≤ l) (h1 : l ≤ 1048576) (h : funSh.slice.rep w (· < w.heap.size) [v] ks) :
    Calls Tryz.prog 10 #[v, .int .i64 l] w fun e w' => e = .returned (.int .i64 (left (ks.length + wts ks) l)) ∧ Below w.heap.size w w' := szS_of ks (fun k _ => sz_any k) v w l h0 h1 h

end Go.Proofs.YtjibmpebebephaaGreatDoor.fun

namespace Go.Proofs.YtjibmpebebephaaGreatDoor.op
open Go.RowKit Go.ChangeShapes Go.WideShapes Go.Proofs.YtjibmpebebephaaGreatDoor.rose Go.Proofs.YtjibmpebebephaaGreatDoor
set_option linter.unusedVariables false
set_option maxRecDepth 100000

section
variable {H : Type} {enc : TypeId × Value → H} {w : World} {spare : Nat → Bool} {held : Bool}

theorem cells_op : Tryz.prog.cellsOf 140 = 3 := by kernel_rfl

theorem opens_op (n : Nat) : OpensAt enc Tryz.prog w spare held n opSh 140 := by
  intro fuel cs x hf h
  obtain ⟨xs, m, rfl, -, hl, hlen, hfl⟩ := DataW.trod_struct Tryz.underlying140 h
  rw [cells_op] at hl
  have hlen5 : xs.length = 3 := hlen
  match cs, hl with
  | [c0, c1, c2], _ =>
    match xs, hlen5 with
    | [y0, y1, y2], _ =>
      have f0 := hfl 0 _ rfl
      have f1 := hfl 1 _ rfl
      have f2 := hfl 2 _ rfl
      simp only [List.getElem?_cons_zero, List.getElem?_cons_succ] at f0 f1 f2
      obtain ⟨p0, h0⟩ := opens_int (w := w) Tryz.underlying3 n m _ _ (by omega) f0
      obtain ⟨p1, h1⟩ := opens_int (w := w) Tryz.underlying3 n m _ _ (by omega) f1
      obtain ⟨p2, h2⟩ := opens_int (w := w) Tryz.underlying3 n m _ _ (by omega) f2
      exact ⟨(p0, p1, p2), [c0], _, rfl, h0, [c1], _, rfl, h1, h2⟩
theorem opens_ops (n : Nat) : OpensAt enc Tryz.prog w spare held n opSh.slice 76 := fun fuel cs x hf h => opens_slice (n := n) Tryz.underlying76 cells_op (by decide) (opens_op n) fuel cs x (by omega) h

/-- THE ARGUMENT. -/
theorem arg_op {v : Value} {d : DataW H} {ps : List MemPlace} {r : Reach} {b : Nat} (hval : Value.okWide Tryz.prog w r b 140 v) (h : DataW.Trod enc Tryz.prog w 0 spare held 140 v d ps) : ∃ cs T, v = .agg cs.toArray ∧ opSh.rep w (· < w.heap.size) cs T := by
  obtain ⟨cs, rfl, _⟩ := okWide_struct Tryz.underlying140 hval
  obtain ⟨fuel, hf⟩ := h
  obtain ⟨T, hT⟩ := opens_op (enc := enc) (w := w) (spare := spare) (held := held) fuel fuel _ _ (Nat.le_refl _) hf
  exact ⟨cs.toList, T, by simp, hT⟩
end

end Go.Proofs.YtjibmpebebephaaGreatDoor.op

namespace Go.Proofs.YtjibmpebebephaaGreatDoor.fun
open Go.RowKit Go.ChangeShapes Go.WideShapes Go.Proofs.YtjibmpebebephaaGreatDoor.rose Go.Proofs.YtjibmpebebephaaGreatDoor
set_option linter.unusedVariables false
set_option maxRecDepth 100000

section
variable {H : Type} {enc : TypeId × Value → H} {w : World} {spare : Nat → Bool} {held : Bool}

theorem cells_fun : Tryz.prog.cellsOf 78 = 2 := by kernel_rfl

theorem opens_fun (n : Nat) : OpensAt enc Tryz.prog w spare held n funSh 78 := by
  intro fuel cs x hf h
  obtain ⟨xs, m, rfl, -, hl, hlen, hfl⟩ := DataW.trod_struct Tryz.underlying78 h
  rw [cells_fun] at hl
  have hlen5 : xs.length = 2 := hlen
  match cs, hl with
  | [c0, c1], _ =>
    match xs, hlen5 with
    | [y0, y1], _ =>
      have f0 := hfl 0 _ rfl
      have f1 := hfl 1 _ rfl
      simp only [List.getElem?_cons_zero, List.getElem?_cons_succ] at f0 f1
      obtain ⟨p0, h0⟩ := opens_int (w := w) Tryz.underlying3 n m _ _ (by omega) f0
      obtain ⟨p1, h1⟩ := op.opens_ops (w := w) n m _ _ (by omega) f1
      exact ⟨(p0, p1), [c0], _, rfl, h0, h1⟩
theorem opens_funs (n : Nat) : OpensAt enc Tryz.prog w spare held n funSh.slice 22 := fun fuel cs x hf h => opens_slice (n := n) Tryz.underlying22 cells_fun (by decide) (opens_fun n) fuel cs x (by omega) h

/-- THE ARGUMENT. -/
theorem arg_fun {v : Value} {d : DataW H} {ps : List MemPlace} {r : Reach} {b : Nat} (hval : Value.okWide Tryz.prog w r b 78 v) (h : DataW.Trod enc Tryz.prog w 0 spare held 78 v d ps) : ∃ cs T, v = .agg cs.toArray ∧ funSh.rep w (· < w.heap.size) cs T := by
  obtain ⟨cs, rfl, _⟩ := okWide_struct Tryz.underlying78 hval
  obtain ⟨fuel, hf⟩ := h
  obtain ⟨T, hT⟩ := opens_fun (enc := enc) (w := w) (spare := spare) (held := held) fuel fuel _ _ (Nat.le_refl _) hf
  exact ⟨cs.toList, T, by simp, hT⟩
end

end Go.Proofs.YtjibmpebebephaaGreatDoor.fun

namespace Go.Proofs.YtjibmpebebephaaGreatDoor.op
open Go.RowKit Go.Proofs.YtjibmpebebephaaGreatDoor.rose Go.Proofs.YtjibmpebebephaaGreatDoor
set_option linter.unusedVariables false

abbrev opSp : Sh OpD := opSh
theorem opp_rep {w : World} {S : Nat → Prop} {cs : List Value} {T : OpD} (h : opSp.rep w S cs T) : opSh.rep w S cs T := h
theorem opps_rep {w : World} {S : Nat → Prop} {cs : List Value} {ks : List OpD} (h : opSp.sslice.rep w S cs ks) : opSh.slice.rep w S cs ks := sslice_rep (A := opSp) (B := opSh) rfl (fun h => h) h
theorem opp_shut {w : World} {S : Nat → Prop} {x0 : Int} {x1 : Int} {x2 : Int} (h0 : -9223372036854775808 ≤ x0 ∧ x0 ≤ 9223372036854775807) (h1 : -9223372036854775808 ≤ x1 ∧ x1 ≤ 9223372036854775807) (h2 : -9223372036854775808 ≤ x2 ∧ x2 ≤ 9223372036854775807) : opSp.rep w S [.int .i64 x0, .int .i64 x1, .int .i64 x2] ((x0, x1, x2)) := op_shut h0 h1 h2
theorem opp_shutv {w : World} {S : Nat → Prop} {x0 : Int} {x1 : Int} {x2 : Int} (h0 : -9223372036854775808 ≤ x0 ∧ x0 ≤ 9223372036854775807) (h1 : -9223372036854775808 ≤ x1 ∧ x1 ≤ 9223372036854775807) (h2 : -9223372036854775808 ≤ x2 ∧ x2 ≤ 9223372036854775807) : opSp.rep w S [.int .i64 x0, .int .i64 x1, .int .i64 x2] ((x0, x1, x2)) := op_shut h0 h1 h2
theorem opp_open {w : World} {S : Nat → Prop} {cs : List Value} {T : OpD} (h : opSp.rep w S cs T) : ∃ x0 x1 x2, T = (x0, x1, x2) ∧ cs = [.int .i64 x0, .int .i64 x1, .int .i64 x2] ∧ (-9223372036854775808 ≤ x0 ∧ x0 ≤ 9223372036854775807) ∧ (-9223372036854775808 ≤ x1 ∧ x1 ≤ 9223372036854775807) ∧ (-9223372036854775808 ≤ x2 ∧ x2 ≤ 9223372036854775807) := op_open h
theorem opps_open {w : World} {S : Nat → Prop} {v : Value} {ks : List OpD} (h : opSp.sslice.rep w S [v] ks) : ∃ a cap css F, v = .slice a ks.length cap ∧ ks.length ≤ cap ∧ cap ≤ maxLen ∧ (a = none → cap = 0) ∧ SRow opSp w S a css F ks := by
  obtain ⟨a, cap, css, F, e, h1, h2, h3, h4⟩ := h
  exact ⟨a, cap, css, F, by simpa using e, h1, h2, h3, h4⟩

end Go.Proofs.YtjibmpebebephaaGreatDoor.op

namespace Go.Proofs.YtjibmpebebephaaGreatDoor.fun
open Go.RowKit Go.Proofs.YtjibmpebebephaaGreatDoor.rose Go.Proofs.YtjibmpebebephaaGreatDoor
set_option linter.unusedVariables false

abbrev funSp : Sh FunD := Sh.int.spair op.opSp.sslice

theorem funp_rep {w : World} {S : Nat → Prop} {cs : List Value} {T : FunD} (h : funSp.rep w S cs T) : funSh.rep w S cs T := (fun h => spair_rep (fun h => h) (fun h => op.opps_rep h) h) h
theorem funps_rep {w : World} {S : Nat → Prop} {cs : List Value} {ks : List FunD} (h : funSp.sslice.rep w S cs ks) : funSh.slice.rep w S cs ks := sslice_rep (A := funSp) (B := funSh) rfl (fun h => funp_rep h) h

theorem funp_shut {w : World} {S : Nat → Prop} {x0 : Int} {x1 : List op.OpD} {a1 : Option Addr} {c1 : Nat} (h0 : -9223372036854775808 ≤ x0 ∧ x0 ≤ 9223372036854775807) (h1 : op.opSp.sslice.rep w S [.slice a1 x1.length c1] x1) : funSp.rep w S [.int .i64 x0, .slice a1 x1.length c1] ((x0, x1)) :=
  ⟨[_], _, (fun _ => False), S, rfl, fun b h => h.elim, fun b h => h, fun b h => h.elim, ⟨rfl, h0⟩, h1⟩
theorem funp_shutv {w : World} {S : Nat → Prop} {x0 : Int} {x1 : List op.OpD} {v1 : Value} (h0 : -9223372036854775808 ≤ x0 ∧ x0 ≤ 9223372036854775807) (h1 : op.opSp.sslice.rep w S [v1] x1) : funSp.rep w S [.int .i64 x0, v1] ((x0, x1)) :=
  ⟨[_], _, (fun _ => False), S, rfl, fun b h => h.elim, fun b h => h, fun b h => h.elim, ⟨rfl, h0⟩, h1⟩
theorem funp_open {w : World} {S : Nat → Prop} {cs : List Value} {T : FunD} (h : funSp.rep w S cs T) : ∃ x0 x1 a1 c1, T = (x0, x1) ∧ cs = [.int .i64 x0, .slice a1 x1.length c1] ∧ (-9223372036854775808 ≤ x0 ∧ x0 ≤ 9223372036854775807) ∧ op.opSp.sslice.rep w S [.slice a1 x1.length c1] x1 := by
  obtain ⟨x0, x1⟩ := T
  obtain ⟨_, _, A0, B0, rfl, ua0, ub0, ue0, ⟨rfl, h0⟩, h1⟩ := h
  obtain ⟨a1, c1, rfl⟩ := sslice_cells h1
  exact ⟨_, _, _, _, rfl, rfl, h0, op.opSp.sslice.mono h1 fun b g => ub0 b (g)⟩
theorem funps_open {w : World} {S : Nat → Prop} {v : Value} {ks : List FunD} (h : funSp.sslice.rep w S [v] ks) : ∃ a cap css F, v = .slice a ks.length cap ∧ ks.length ≤ cap ∧ cap ≤ maxLen ∧ (a = none → cap = 0) ∧ SRow funSp w S a css F ks := by
  obtain ⟨a, cap, css, F, e, h1, h2, h3, h4⟩ := h
  exact ⟨a, cap, css, F, by simpa using e, h1, h2, h3, h4⟩

end Go.Proofs.YtjibmpebebephaaGreatDoor.fun

namespace Go.Proofs.YtjibmpebebephaaGreatDoor.op
open Go.RowKit Go.Proofs.YtjibmpebebephaaGreatDoor.rose Go.Proofs.YtjibmpebebephaaGreatDoor
set_option linter.unusedVariables false

def ToPSays (T : OpD) : Prop := ∀ cs w, True → opSh.rep w (· < w.heap.size) cs T →
  Calls Tryz.prog 100 #[.agg cs.toArray] w fun e w' => (∃ cs', e = .returned (.agg cs'.toArray) ∧ opSp.rep w' (fun b => w.heap.size ≤ b ∧ b < w'.heap.size) cs' T) ∧ Below w.heap.size w w'

set_option maxHeartbeats 2000000 in
theorem toP_any (T : OpD) : ToPSays T := by
  intro cs w hw h
  obtain ⟨x0, x1, x2, rfl, rfl, f0, f1, f2⟩ := op_open h
  clear h
  clear hw 
  go_enter Tryz.func100, Tryz.ntmps100
  go_wp2
  refine bodyPost_ret (v := .agg #[.int .i64 x0, .int .i64 x1, .int .i64 x2]) (by simp [results, Tryz.f100, go_sem]) rfl ?_
  exact ⟨⟨[.int .i64 x0, .int .i64 x1, .int .i64 x2], rfl, opp_shut f0 f1 f2⟩, (((Below.refl _ _).alloc (Nat.le_refl _) _).alloc (by simp) _).alloc (by simp; omega) _⟩

theorem infoP_op : (Tryz.prog.info? 90).map (fun i => (i.zero, i.size, i.bytes)) = some (some (.agg #[.int .i64 0, .int .i64 0, .int .i64 0]), 3, 24) := by kernel_rfl

theorem makeP_op (n : Nat) (h : n ≤ 1048576) (w : World) : (Instr.makeSlice 58 (.int .i64 (n : Int)) (.int .i64 (n : Int))).run Tryz.prog w = .ok (.slice (some ⟨w.heap.size, 0, none⟩) n n)
    (w.alloc (.cells (madeCells #[.int .i64 0, .int .i64 0, .int .i64 0] (n * 3)) 90)) := by
  obtain ⟨i, hi, hzz⟩ := Option.map_eq_some_iff.1 infoP_op
  simp only [Prod.mk.injEq] at hzz
  obtain ⟨hz, hs, hb⟩ := hzz
  have := run_make (P := Tryz.prog) w 58 90 i _ Tryz.underlying58 hi hz .i64 .i64 n n (by omega) (by omega) (by rw [hb]; omega) (by omega)
  simpa [hs, Value.cells] using this

set_option maxHeartbeats 1000000 in
theorem toPS_of (ks : List OpD) (ih : ∀ k ∈ ks, ToPSays k) (v : Value) (w : World) (hw : ks.length ≤ 1048576) (h : opSh.slice.rep w (· < w.heap.size) [v] ks) :
    Calls Tryz.prog 72 #[v] w fun e w' => (∃ v', e = .returned v' ∧ opSp.sslice.rep w' (fun b => w.heap.size ≤ b ∧ b < w'.heap.size) [v'] ks) ∧ Below w.heap.size w w' := by
  obtain ⟨a, cap, css, rfl, hcap, hmax, hrow, hk⟩ := ops_open h
  clear h hcap hmax
  have IH : Hid (∀ k ∈ ks, ToPSays k) := ih
  have HR : Hid (RowAt w (· < w.heap.size) 3 a ks.length css ∧ ∀ i (h : i < ks.length), opSh.rep w (· < w.heap.size) (css i) ks[i]) := ⟨hrow, hk⟩
  have hn : ks.length ≤ 1048576 := by omega
  clear ih hrow hk hw
  have hmk := makeP_op ks.length hn
  go_enter Tryz.func72, Tryz.ntmps72
  go_wp2
  clear hmk
  generalize hw1 : w.alloc _ = w1
  have F1 : SFilling opSp 90 w1 w.heap.size ks.length 0 ks := by
    subst hw1
    exact SFilling.start
  have B1 : Below w.heap.size w w1 := by subst hw1; exact (Below.refl _ _).alloc (Nat.le_refl _) _
  have Z1 : w.heap.size < w1.heap.size := by subst hw1; simp
  clear hw1
  go_loopw [4] (fun v4 wr => ∃ i : Nat, i ≤ ks.length ∧ v4 = .int .i64 i ∧ Hid (SFilling opSp 90 wr w.heap.size ks.length i ks ∧ Below w.heap.size w wr ∧ w.heap.size < wr.heap.size)) (fun v4 _ => ks.length - (intOf v4).toNat)
  case atStart => exact ⟨0, Nat.zero_le _, rfl, F1, B1, Z1⟩
  case round =>
    obtain ⟨i, hi, rfl, HF⟩ := hrel
    by_cases hlt : i < ks.length
    · obtain ⟨b, o, rfl, hS, hc⟩ := HR.out.1 i hlt
      have hrep := HR.out.2 i hlt
      obtain ⟨v0, v1, v2, hcs, c0, c1, c2⟩ := op_cells hrep hc
      obtain ⟨F, HB, hZ⟩ := HF.out
      have e0 := (HB.cell (p := ⟨b, o + i * 3, none⟩) hS).trans c0
      have e1 := (HB.cell (p := ⟨b, o + i * 3 + 1, none⟩) hS).trans c1
      have e2 := (HB.cell (p := ⟨b, o + i * 3 + 2, none⟩) hS).trans c2
      rw [hcs] at hrep
      clear c0 c1 c2 hc hcs
      have hR := opSh.mono (opSh.below hrep HB) (S' := (· < wr.heap.size)) (fun b hb => Nat.lt_of_lt_of_le hb HB.size)
      clear hrep
      have hcall := IH.out ks[i] (List.getElem_mem hlt) [v0, v1, v2] wr trivial hR
      clear hR F HB hZ
      go_wp2_with fail
      refine hcall.mono ?_
      clear hcall
      rintro e w1 ⟨⟨cs', rfl, hrep'⟩, hb⟩
      obtain ⟨F, HB, hZ⟩ := HF.out
      have hl : cs'.length = 3 := opSp.len hrep'
      have hst := F.store (P := Tryz.prog) hb hZ hlt hl (opSp.one hrep')
      have F2 : Hid (SFilling opSp 90 (w1.setCells w.heap.size (i * 3) cs') w.heap.size ks.length (i + 1) ks) := F.step hb hZ hlt hlt hrep'
      have B2 : Hid (Below w.heap.size w (w1.setCells w.heap.size (i * 3) cs')) := (HB.trans (hb.mono (Nat.le_of_lt hZ))).trans (setCells_below (Nat.le_refl _) _ _)
      have Z2 : Hid (w.heap.size < (w1.setCells w.heap.size (i * 3) cs').heap.size) := by show _ < _; rw [setCells_size]; exact Nat.lt_of_lt_of_le hZ hb.size
      have hk5 : opSp.k = 3 := rfl
      rw [hk5] at hst
      clear F HB hZ HF hrep' hb hk5
      generalize w1.setCells w.heap.size (i * 3) cs' = w2 at hst F2 B2 Z2
      go_wp2
      go_round
      case rel => exact ⟨i + 1, by omega, by go_num, F2.out, B2.out, Z2.out⟩
      case measure => simp [intOf]; omega
    · obtain rfl : i = ks.length := by omega
      go_wp2
      go_ret
      obtain ⟨F, HB, hZ⟩ := HF.out
      exact ⟨⟨_, rfl, F.done hZ (by unfold maxLen; omega)⟩, HB⟩

theorem toPS_any (ks : List OpD) (v : Value) (w : World) (hw : ks.length ≤ 1048576) (h : opSh.slice.rep w (· < w.heap.size) [v] ks) :
    Calls Tryz.prog 72 #[v] w fun e w' => (∃ v', e = .returned v' ∧ opSp.sslice.rep w' (fun b => w.heap.size ≤ b ∧ b < w'.heap.size) [v'] ks) ∧ Below w.heap.size w w' := toPS_of ks (fun k _ => toP_any k) v w hw h

end Go.Proofs.YtjibmpebebephaaGreatDoor.op
