/-
  At every two arguments the program's ValueOk answers as its model, and writes nothing into them; the law's call returns true, and the arguments read as they read before. No condition.
-/
import Derived.Test.YtogjpdhhidkljaaRows
import Derived.Test.YtogjpdhhidkljaaDataArg
import Derived.Test.YtogjpdhhidkljaaDataToQ
import Derived.Test.YtogjpdhhidkljaaDataEq
import Derived.Test.YtogjpdhhidkljaaValueArg
import Derived.Test.YtogjpdhhidkljaaValueToQ
import Derived.Test.YtogjpdhhidkljaaValueEq
import Derived.Test.YtogjpdhhidkljaaValueOkSpec2
import Derived.Test.YtogjpdhhidkljaaValueOkImpl
import Derived.ProofKit
import Derived.Deep.DeepHandedRow
import Derived.Deep.RegionHeld3
import Derived.Sort.AtCall
import Derived.ChangeOld
import Derived.Carry
namespace Go.Proofs.Ytogjpdhhidkljaa.fnExactValueOk
open Go Go.ChangeShapes Go.WideShapes Go.ChangeAt Go.RowKit Go.Proofs.Ytogjpdhhidkljaa.rose Go.Proofs.Ytogjpdhhidkljaa
set_option linter.unusedVariables false

theorem own : ownKnob Try.prog.godebug = none := by kernel_rfl
theorem laidOut : laidOutB Try.prog = true := by kernel_rfl
theorem cell_drewS {w : World} {a : Addr} : w.drew.cell? a = w.cell? a := rfl

/-- What every moment of the law keeps: the arguments' boxes. -/
structure Kept (w wk : World) (c0 : Array Value) : Prop where
  bel : Below w.heap.size w wk
  b0 : wk.heap[w.heap.size]? = some (.cells c0 27)
  lt : w.heap.size + 1 ≤ wk.heap.size
theorem Kept.on {w wk wl : World} {c0 : Array Value} (h : Kept w wk c0) (hb : Below wk.heap.size wk wl) : Kept w wl c0 :=
  ⟨h.bel.trans (hb.mono h.bel.size), (hb.block _ (by have := h.lt; omega)).trans h.b0, Nat.le_trans h.lt hb.size⟩
theorem Kept.drew {w wk : World} {c0 : Array Value} (h : Kept w wk c0) : Kept w wk.drew c0 := ⟨h.bel.drew, h.b0, h.lt⟩
theorem Kept.new (w : World) (c0 : Array Value) : Kept w (w.alloc (.cells c0 27)) c0 := by
  exact ⟨(Below.refl _ _).alloc (Nat.le_refl _) _, alloc_top _ _, by simp⟩

/-- A copy that the law holds in a box. -/
structure Cop {α : Type} (A : Sh α) (t : TypeId) (wk : World) (g : Nat) (cs : List Value) (n m : Nat) (T : α) : Prop where
  box : wk.heap[g]? = some (.cells cs.toArray t)
  rep : A.rep wk (fun b => n ≤ b ∧ b < m ∧ Plain wk b) cs T
  top : m ≤ g ∧ g < wk.heap.size
section
variable {α : Type} {A : Sh α} {t : TypeId} {wk wl : World} {g n m : Nat} {cs : List Value} {T : α}
theorem Cop.on (h : Cop A t wk g cs n m T) (hb : Below wk.heap.size wk wl) : Cop A t wl g cs n m T :=
  ⟨(hb.block _ h.top.2).trans h.box, A.mono (A.on h.rep fun b hS => hb.block b (by have := h.top; omega)) fun b hS => ⟨hS.1, hS.2.1, hS.2.2.on (hb.block b (by have := h.top; omega))⟩, h.top.1, Nat.lt_of_lt_of_le h.top.2 hb.size⟩
theorem Cop.drew (h : Cop A t wk g cs n m T) : Cop A t wk.drew g cs n m T := ⟨h.box, A.on h.rep fun b hS => rfl, h.top⟩
theorem Cop.in_ (h : Cop A t wk g cs n m T) : A.rep wk (fun b => b < wk.heap.size ∧ Plain wk b) cs T := A.mono h.rep fun b hS => ⟨by have := h.top; omega, hS.2.2⟩
theorem Cop.low (h : Cop A t wk g cs n m T) : A.rep wk (· < wk.heap.size) cs T := A.mono h.rep fun b hS => by have := h.top; omega
end
/-- A copy that the law holds in a slot. -/
structure CopS {α : Type} (A : Sh α) (wk : World) (v : Value) (n m : Nat) (T : α) : Prop where
  rep : A.rep wk (fun b => n ≤ b ∧ b < m ∧ Plain wk b) [v] T
  top : m ≤ wk.heap.size
section
variable {α : Type} {A : Sh α} {wk wl : World} {n m : Nat} {v : Value} {T : α}
theorem CopS.on (h : CopS A wk v n m T) (hb : Below wk.heap.size wk wl) : CopS A wl v n m T :=
  ⟨A.mono (A.on h.rep fun b hS => hb.block b (by have := h.top; omega)) fun b hS => ⟨hS.1, hS.2.1, hS.2.2.on (hb.block b (by have := h.top; omega))⟩, Nat.le_trans h.top hb.size⟩
theorem CopS.drew (h : CopS A wk v n m T) : CopS A wk.drew v n m T := ⟨A.on h.rep fun b hS => rfl, h.top⟩
theorem CopS.in_ (h : CopS A wk v n m T) : A.rep wk (fun b => b < wk.heap.size ∧ Plain wk b) [v] T := A.mono h.rep fun b hS => ⟨by have := h.top; omega, hS.2.2⟩
theorem CopS.low (h : CopS A wk v n m T) : A.rep wk (· < wk.heap.size) [v] T := A.mono h.rep fun b hS => by have := h.top; omega
end

set_option maxRecDepth 100000 in
set_option maxHeartbeats 8000000 in
theorem walk (a0 : Option Addr) (l0 c0 : Nat) (cs1 : List Value) (T : List data.DataD) (T' : value.ValueD) (w : World) (h : data.dataSh.slice.rep w (· < w.heap.size) [.slice a0 l0 c0] T) (h' : value.valueSh.rep w (· < w.heap.size) cs1 T') :
    Calls Try.prog 4 #[.slice a0 l0 c0, .agg cs1.toArray] w fun e w' => e = .returned (.bool true) ∧ Below w.heap.size w w' := by
  have AT : Hid (∀ w' : World, Below w.heap.size w w' → data.dataSh.slice.rep w' (· < w'.heap.size) [.slice a0 l0 c0] T) := fun w' hb => data.dataSh.slice.mono (data.dataSh.slice.below h hb) fun b hlt => Nat.lt_of_lt_of_le hlt hb.size
  obtain ⟨u0, u1, u2, u3, rfl⟩ := value.value_list h'
  have AU : Hid (∀ w' : World, Below w.heap.size w w' → value.valueSh.rep w' (· < w'.heap.size) [u0, u1, u2, u3] T') := fun w' hb => value.valueSh.mono (value.valueSh.below h' hb) fun b hlt => Nat.lt_of_lt_of_le hlt hb.size
  have o_u0 := value.valueSh.one h' u0 (by simp)
  have o_u1 := value.valueSh.one h' u1 (by simp)
  have o_u2 := value.valueSh.one h' u2 (by simp)
  have o_u3 := value.valueSh.one h' u3 (by simp)
  clear h h'
  have K0 : Hid (Kept w (w.alloc (.cells #[u0, u1, u2, u3] 27)) #[u0, u1, u2, u3]) := Kept.new _ _
  go_enter Try.func4, Try.ntmps4
  go_wp2_with fail
  refine (data.szS_any T _ _ 1048576 (by decide) (by decide) (AT.out _ K0.out.bel)).mono ?_
  rintro e w1 ⟨rfl, hb⟩
  have K1 : Hid (Kept w w1 #[u0, u1, u2, u3]) := K0.out.on hb
  clear hb K0
  obtain ⟨m1, hm1⟩ : ∃ m : Nat, m = (T.length + data.wts T) := ⟨_, rfl⟩
  have HM1 : Hid (m1 = (T.length + data.wts T)) := hm1
  rw [← hm1]
  clear hm1
  by_cases hw1 : m1 ≤ 1048576
  case neg =>
    have hl : left m1 1048576 = -1 := by unfold left; rw [if_neg (by omega)]
    rw [hl]
    go_wp2
    go_ret
    exact ⟨rfl, K1.out.bel⟩
  have hl : left m1 1048576 = 1048576 - (m1 : Int) := by unfold left; rw [if_pos (by omega)]
  rw [hl]
  have t1 : decide ((1048576 : Int) - (m1 : Int) < 0) = false := by simp; omega
  have c_u0 : w1.cell? ⟨w.heap.size, 0, none⟩ = some u0 := by simp [World.cell?, K1.out.b0]
  have c_u1 : w1.cell? ⟨w.heap.size, 1, none⟩ = some u1 := by simp [World.cell?, K1.out.b0]
  have c_u2 : w1.cell? ⟨w.heap.size, 2, none⟩ = some u2 := by simp [World.cell?, K1.out.b0]
  have c_u3 : w1.cell? ⟨w.heap.size, 3, none⟩ = some u3 := by simp [World.cell?, K1.out.b0]
  go_wp2_with fail
  refine (value.sz_any T' _ _ _ (by omega) (by omega) (AU.out _ K1.out.bel)).mono ?_
  rintro e w2 ⟨rfl, hb⟩
  have K2 : Hid (Kept w w2 #[u0, u1, u2, u3]) := K1.out.on hb
  clear hb K1 hl c_u0 c_u1 c_u2 c_u3
  obtain ⟨m2, hm2⟩ : ∃ m : Nat, m = value.wt T' := ⟨_, rfl⟩
  have HM2 : Hid (m2 = value.wt T') := hm2
  rw [← hm2]
  clear hm2
  by_cases hw2 : m1 + m2 ≤ 1048576
  case neg =>
    have hl : left m2 (1048576 - (m1 : Int)) = -1 := by unfold left; rw [if_neg (by omega)]
    rw [hl]
    go_wp2
    go_ret
    exact ⟨rfl, K2.out.bel⟩
  have hl : left m2 (1048576 - (m1 : Int)) = 1048576 - (m1 : Int) - (m2 : Int) := by unfold left; rw [if_pos (by omega)]
  rw [hl]
  have t2 : decide ((1048576 : Int) - (m1 : Int) - (m2 : Int) < 0) = false := by simp; omega
  have hw : (T.length + data.wts T) ≤ 1048576 := by have := HM1.out; omega
  have hw' : value.wt T' ≤ 1048576 := by have := HM2.out; omega
  have HB0 : Hid (Below w.heap.size w w2.drew) := K2.out.bel.drew
  have hsz : w.heap.size + 1 ≤ w2.drew.heap.size := K2.out.lt
  clear hl
  have c_u0 : w2.cell? ⟨w.heap.size, 0, none⟩ = some u0 := by simp [World.cell?, K2.out.b0]
  have c_u1 : w2.cell? ⟨w.heap.size, 1, none⟩ = some u1 := by simp [World.cell?, K2.out.b0]
  have c_u2 : w2.cell? ⟨w.heap.size, 2, none⟩ = some u2 := by simp [World.cell?, K2.out.b0]
  have c_u3 : w2.cell? ⟨w.heap.size, 3, none⟩ = some u3 := by simp [World.cell?, K2.out.b0]
  go_wp2
  go_region_held3 (fun W => W.cell? ⟨w.heap.size, 0, none⟩ = some u0 ∧ W.cell? ⟨w.heap.size, 1, none⟩ = some u1 ∧ W.cell? ⟨w.heap.size, 2, none⟩ = some u2 ∧ W.cell? ⟨w.heap.size, 3, none⟩ = some u3)
    (exact ⟨(by first | with_reducible exact c_u0 | (rw [cell_drewS]; with_reducible exact c_u0)), (by first | with_reducible exact c_u1 | (rw [cell_drewS]; with_reducible exact c_u1)), (by first | with_reducible exact c_u2 | (rw [cell_drewS]; with_reducible exact c_u2)), (by first | with_reducible exact c_u3 | (rw [cell_drewS]; with_reducible exact c_u3))⟩)
    (first
      | (go_at_call 9; have seen := rT; refine (value.to_anyQ T' _ _ hw' (AU.out _ HBa.out)).mono ?_; rintro e wB ⟨⟨csU, rfl, rU⟩, hbB⟩; have R1 : Hid (value.valueSh.rep wB (· < wB.heap.size) csU T') := value.valueSh.mono rU fun b hS => hS.2.1; have R0 : Hid (data.dataSh.slice.rep wB (· < wB.heap.size) [csT] T) := data.dataSh.slice.mono (data.dataSh.slice.on rT fun b hS => hbB.block b hS.2.1) fun b hS => Nat.lt_of_lt_of_le hS.2.1 hbB.size; have hsB := hbB.size; have HBb : Hid (Below w.heap.size w wB) := HBa.out.trans (hbB.mono HBa.out.size); have BB : Hid (Below w2.heap.size w2 wB) := ((Below.refl _ w2).drew.trans hbA).trans (hbB.mono hsA); replace c_u0 : wB.cell? ⟨w.heap.size, 0, none⟩ = some u0 := (hbB.cell (p := ⟨w.heap.size, 0, none⟩) (show w.heap.size < _ from Nat.lt_of_lt_of_le (by omega) (Nat.le_trans hsz hsA))).trans c_u0; replace c_u1 : wB.cell? ⟨w.heap.size, 1, none⟩ = some u1 := (hbB.cell (p := ⟨w.heap.size, 1, none⟩) (show w.heap.size < _ from Nat.lt_of_lt_of_le (by omega) (Nat.le_trans hsz hsA))).trans c_u1; replace c_u2 : wB.cell? ⟨w.heap.size, 2, none⟩ = some u2 := (hbB.cell (p := ⟨w.heap.size, 2, none⟩) (show w.heap.size < _ from Nat.lt_of_lt_of_le (by omega) (Nat.le_trans hsz hsA))).trans c_u2; replace c_u3 : wB.cell? ⟨w.heap.size, 3, none⟩ = some u3 := (hbB.cell (p := ⟨w.heap.size, 3, none⟩) (show w.heap.size < _ from Nat.lt_of_lt_of_le (by omega) (Nat.le_trans hsz hsA))).trans c_u3)
      | (go_at_call 15; have seen := rU; refine (data.toS_anyQ T _ _ hw (AT.out _ HBa.out)).mono ?_; rintro e wB ⟨⟨csT, rfl, rT⟩, hbB⟩; have R0 : Hid (data.dataSh.slice.rep wB (· < wB.heap.size) [csT] T) := data.dataSh.slice.mono rT fun b hS => hS.2.1; have R1 : Hid (value.valueSh.rep wB (· < wB.heap.size) csU T') := value.valueSh.mono (value.valueSh.on rU fun b hS => hbB.block b hS.2.1) fun b hS => Nat.lt_of_lt_of_le hS.2.1 hbB.size; have hsB := hbB.size; have HBb : Hid (Below w.heap.size w wB) := HBa.out.trans (hbB.mono HBa.out.size); have BB : Hid (Below w2.heap.size w2 wB) := ((Below.refl _ w2).drew.trans hbA).trans (hbB.mono hsA); replace c_u0 : wB.cell? ⟨w.heap.size, 0, none⟩ = some u0 := (hbB.cell (p := ⟨w.heap.size, 0, none⟩) (show w.heap.size < _ from Nat.lt_of_lt_of_le (by omega) (Nat.le_trans hsz hsA))).trans c_u0; replace c_u1 : wB.cell? ⟨w.heap.size, 1, none⟩ = some u1 := (hbB.cell (p := ⟨w.heap.size, 1, none⟩) (show w.heap.size < _ from Nat.lt_of_lt_of_le (by omega) (Nat.le_trans hsz hsA))).trans c_u1; replace c_u2 : wB.cell? ⟨w.heap.size, 2, none⟩ = some u2 := (hbB.cell (p := ⟨w.heap.size, 2, none⟩) (show w.heap.size < _ from Nat.lt_of_lt_of_le (by omega) (Nat.le_trans hsz hsA))).trans c_u2; replace c_u3 : wB.cell? ⟨w.heap.size, 3, none⟩ = some u3 := (hbB.cell (p := ⟨w.heap.size, 3, none⟩) (show w.heap.size < _ from Nat.lt_of_lt_of_le (by omega) (Nat.le_trans hsz hsA))).trans c_u3)
      | (go_at_call 15; refine (data.toS_anyQ T _ _ hw (AT.out _ HB0.out)).mono ?_; rintro e wA ⟨⟨csT, rfl, rT⟩, hbA⟩; have HBa : Hid (Below w.heap.size w wA) := HB0.out.trans (hbA.mono HB0.out.size); have hsA := hbA.size; replace c_u0 : wA.cell? ⟨w.heap.size, 0, none⟩ = some u0 := (hbA.cell (p := ⟨w.heap.size, 0, none⟩) (show w.heap.size < _ from Nat.lt_of_lt_of_le (by omega) hsz)).trans c_u0; replace c_u1 : wA.cell? ⟨w.heap.size, 1, none⟩ = some u1 := (hbA.cell (p := ⟨w.heap.size, 1, none⟩) (show w.heap.size < _ from Nat.lt_of_lt_of_le (by omega) hsz)).trans c_u1; replace c_u2 : wA.cell? ⟨w.heap.size, 2, none⟩ = some u2 := (hbA.cell (p := ⟨w.heap.size, 2, none⟩) (show w.heap.size < _ from Nat.lt_of_lt_of_le (by omega) hsz)).trans c_u2; replace c_u3 : wA.cell? ⟨w.heap.size, 3, none⟩ = some u3 := (hbA.cell (p := ⟨w.heap.size, 3, none⟩) (show w.heap.size < _ from Nat.lt_of_lt_of_le (by omega) hsz)).trans c_u3)
      | (go_at_call 9; refine (value.to_anyQ T' _ _ hw' (AU.out _ HB0.out)).mono ?_; rintro e wA ⟨⟨csU, rfl, rU⟩, hbA⟩; have HBa : Hid (Below w.heap.size w wA) := HB0.out.trans (hbA.mono HB0.out.size); have hsA := hbA.size; replace c_u0 : wA.cell? ⟨w.heap.size, 0, none⟩ = some u0 := (hbA.cell (p := ⟨w.heap.size, 0, none⟩) (show w.heap.size < _ from Nat.lt_of_lt_of_le (by omega) hsz)).trans c_u0; replace c_u1 : wA.cell? ⟨w.heap.size, 1, none⟩ = some u1 := (hbA.cell (p := ⟨w.heap.size, 1, none⟩) (show w.heap.size < _ from Nat.lt_of_lt_of_le (by omega) hsz)).trans c_u1; replace c_u2 : wA.cell? ⟨w.heap.size, 2, none⟩ = some u2 := (hbA.cell (p := ⟨w.heap.size, 2, none⟩) (show w.heap.size < _ from Nat.lt_of_lt_of_le (by omega) hsz)).trans c_u2; replace c_u3 : wA.cell? ⟨w.heap.size, 3, none⟩ = some u3 := (hbA.cell (p := ⟨w.heap.size, 3, none⟩) (show w.heap.size < _ from Nat.lt_of_lt_of_le (by omega) hsz)).trans c_u3)
      | (go_at_call 14; refine (value.specValueOk T T' csT csU wB hw hw' R0.out R1.out).mono ?_; rintro e w3 ⟨rfl, hbC⟩; replace c_u0 : w3.cell? ⟨w.heap.size, 0, none⟩ = some u0 := (hbC.cell (p := ⟨w.heap.size, 0, none⟩) (show w.heap.size < _ from Nat.lt_of_lt_of_le (by omega) (Nat.le_trans hsz (Nat.le_trans hsA hsB)))).trans c_u0; replace c_u1 : w3.cell? ⟨w.heap.size, 1, none⟩ = some u1 := (hbC.cell (p := ⟨w.heap.size, 1, none⟩) (show w.heap.size < _ from Nat.lt_of_lt_of_le (by omega) (Nat.le_trans hsz (Nat.le_trans hsA hsB)))).trans c_u1; replace c_u2 : w3.cell? ⟨w.heap.size, 2, none⟩ = some u2 := (hbC.cell (p := ⟨w.heap.size, 2, none⟩) (show w.heap.size < _ from Nat.lt_of_lt_of_le (by omega) (Nat.le_trans hsz (Nat.le_trans hsA hsB)))).trans c_u2; replace c_u3 : w3.cell? ⟨w.heap.size, 3, none⟩ = some u3 := (hbC.cell (p := ⟨w.heap.size, 3, none⟩) (show w.heap.size < _ from Nat.lt_of_lt_of_le (by omega) (Nat.le_trans hsz (Nat.le_trans hsA hsB)))).trans c_u3))
  all_goals
    have K3 : Hid (Kept w w3 #[u0, u1, u2, u3]) := K2.out.on (BB.out.trans (hbC.mono BB.out.size))
    clear hbC BB HBb HBa HB0 R0 R1 rT rU hbA hbB hsA hsB hsz K2 seen
    obtain ⟨r, hr⟩ : ∃ r, r = value.rightB T T' := ⟨_, rfl⟩
    rw [← hr]
    have HR : Hid (r = value.rightB T T') := hr
    clear hr
    go_wp2_with fail
    refine (data.toS_anyQ T _ _ hw (AT.out _ K3.out.bel)).mono ?_
    rintro e w4 ⟨⟨k0, rfl, r0⟩, hb⟩
    have K_w4 : Hid (Kept w w4 #[u0, u1, u2, u3]) := K3.out.on hb
    have D0_w4 : Hid (CopS data.dataSh.slice w4 k0 w3.heap.size w4.heap.size T) := ⟨r0, Nat.le_refl _⟩
    clear hb r0 c_u0 c_u1 c_u2 c_u3 
    have c_u0 : w4.cell? ⟨w.heap.size, 0, none⟩ = some u0 := by simp [World.cell?, K_w4.out.b0]
    have c_u1 : w4.cell? ⟨w.heap.size, 1, none⟩ = some u1 := by simp [World.cell?, K_w4.out.b0]
    have c_u2 : w4.cell? ⟨w.heap.size, 2, none⟩ = some u2 := by simp [World.cell?, K_w4.out.b0]
    have c_u3 : w4.cell? ⟨w.heap.size, 3, none⟩ = some u3 := by simp [World.cell?, K_w4.out.b0]
    go_wp2_with fail
    refine (value.to_anyQ T' _ _ hw' (AU.out _ K_w4.out.bel)).mono ?_
    rintro e w5 ⟨⟨k1, rfl, r1⟩, hb⟩
    have K_w5 : Hid (Kept w w5 #[u0, u1, u2, u3]) := K_w4.out.on hb
    have D0_w5 : Hid (CopS data.dataSh.slice w5 k0 w3.heap.size w4.heap.size T) := D0_w4.out.on hb
    clear hb c_u0 c_u1 c_u2 c_u3
    obtain ⟨s0, s1, s2, sk, sa, sc, hT, rfl, -, -, -, -⟩ := value.value_open r1
    clear hT
    obtain ⟨w6, e1⟩ : ∃ x, x = w5.alloc (.cells #[.int .i64 s0, .int .i64 s1, .string s2, .slice sa sk.length sc] 37) := ⟨_, rfl⟩
    have hA : Below w5.heap.size w5 w6 := by rw [e1]; exact (Below.refl _ _).alloc (Nat.le_refl _) _
    have K_w6 : Hid (Kept w w6 #[u0, u1, u2, u3]) := K_w5.out.on hA
    have D0_w6 : Hid (CopS data.dataSh.slice w6 k0 w3.heap.size w4.heap.size T) := D0_w5.out.on hA
    have D1_w6 : Hid (Cop value.valueSh 37 w6 w5.heap.size [.int .i64 s0, .int .i64 s1, .string s2, .slice sa sk.length sc] w4.heap.size w5.heap.size T') := ⟨by rw [e1]; exact alloc_top _ _, value.valueSh.mono (value.valueSh.on r1 fun b hS => hA.block b hS.2.1) fun b hS => ⟨hS.1, hS.2.1, hS.2.2.on (hA.block b hS.2.1)⟩, Nat.le_refl _, by rw [e1]; simp⟩
    clear hA r1
    go_wp2_with fail
    rw [← e1]
    refine (value.implValueOk T T' _ _ _ hw hw' D0_w6.out.in_ D1_w6.out.in_).mono ?_
    rintro e wz ⟨rfl, hb⟩
    have K_wz : Hid (Kept w wz #[u0, u1, u2, u3]) := K_w6.out.on hb
    have D0_wz : Hid (CopS data.dataSh.slice wz k0 w3.heap.size w4.heap.size T) := D0_w6.out.on hb
    have D1_wz : Hid (Cop value.valueSh 37 wz w5.heap.size [.int .i64 s0, .int .i64 s1, .string s2, .slice sa sk.length sc] w4.heap.size w5.heap.size T') := D1_w6.out.on hb
    clear hb
    rw [← HR.out]
    go_wp2_with fail
    refine (data.toS_anyQ T _ _ hw (AT.out _ K_wz.out.bel)).mono ?_
    rintro e wy0 ⟨⟨y0, rfl, ry0⟩, hb⟩
    have K_wy0 : Hid (Kept w wy0 #[u0, u1, u2, u3]) := K_wz.out.on hb
    have D0_wy0 : Hid (CopS data.dataSh.slice wy0 k0 w3.heap.size w4.heap.size T) := D0_wz.out.on hb
    have D1_wy0 : Hid (Cop value.valueSh 37 wy0 w5.heap.size [.int .i64 s0, .int .i64 s1, .string s2, .slice sa sk.length sc] w4.heap.size w5.heap.size T') := D1_wz.out.on hb
    have RY : Hid (data.dataSh.slice.rep wy0 (· < wy0.heap.size) [y0] T) := data.dataSh.slice.mono ry0 fun b hS => hS.2.1
    clear hb ry0
    go_wp2_with fail
    refine (data.eqS_any T _ _ _ D0_wy0.out.low RY.out).mono ?_
    rintro e wx0 ⟨rfl, hb⟩
    have K_wx0 : Hid (Kept w wx0 #[u0, u1, u2, u3]) := K_wy0.out.on hb
    have D0_wx0 : Hid (CopS data.dataSh.slice wx0 k0 w3.heap.size w4.heap.size T) := D0_wy0.out.on hb
    have D1_wx0 : Hid (Cop value.valueSh 37 wx0 w5.heap.size [.int .i64 s0, .int .i64 s1, .string s2, .slice sa sk.length sc] w4.heap.size w5.heap.size T') := D1_wy0.out.on hb
    clear hb RY
    have DD1 : Hid (Cop value.valueSh 37 wx0.drew w5.heap.size [.int .i64 s0, .int .i64 s1, .string s2, .slice sa sk.length sc] w4.heap.size w5.heap.size T') := D1_wx0.out.drew
    have hcall := value.to_anyQ T' _ wx0.drew hw' (AU.out _ K_wx0.out.bel.drew)
    have x_s_0 : wx0.cell? ⟨w5.heap.size, 0, none⟩ = some (.int .i64 s0) := by simp [World.cell?, D1_wx0.out.box]
    have x_s_1 : wx0.cell? ⟨w5.heap.size, 1, none⟩ = some (.int .i64 s1) := by simp [World.cell?, D1_wx0.out.box]
    have x_s_2 : wx0.cell? ⟨w5.heap.size, 2, none⟩ = some (.string s2) := by simp [World.cell?, D1_wx0.out.box]
    have x_s_3 : wx0.cell? ⟨w5.heap.size, 3, none⟩ = some (.slice sa sk.length sc) := by simp [World.cell?, D1_wx0.out.box]
    have a_u0 : wx0.cell? ⟨w.heap.size, 0, none⟩ = some u0 := by simp [World.cell?, K_wx0.out.b0]
    have a_u1 : wx0.cell? ⟨w.heap.size, 1, none⟩ = some u1 := by simp [World.cell?, K_wx0.out.b0]
    have a_u2 : wx0.cell? ⟨w.heap.size, 2, none⟩ = some u2 := by simp [World.cell?, K_wx0.out.b0]
    have a_u3 : wx0.cell? ⟨w.heap.size, 3, none⟩ = some u3 := by simp [World.cell?, K_wx0.out.b0]
    go_wp2
    go_region_with (first | (go_at_call 9; refine hcall.mono ?_; rintro e wy1 ⟨⟨z1, rfl, rz⟩, hb⟩; have DE : Hid (Cop value.valueSh 37 wy1 w5.heap.size [.int .i64 s0, .int .i64 s1, .string s2, .slice sa sk.length sc] w4.heap.size w5.heap.size T') := DD1.out.on hb; have y_s_0 : wy1.cell? ⟨w5.heap.size, 0, none⟩ = some (.int .i64 s0) := (by simp [World.cell?, DE.out.box]); have y_s_1 : wy1.cell? ⟨w5.heap.size, 1, none⟩ = some (.int .i64 s1) := (by simp [World.cell?, DE.out.box]); have y_s_2 : wy1.cell? ⟨w5.heap.size, 2, none⟩ = some (.string s2) := (by simp [World.cell?, DE.out.box]); have y_s_3 : wy1.cell? ⟨w5.heap.size, 3, none⟩ = some (.slice sa sk.length sc) := (by simp [World.cell?, DE.out.box])) | (go_at_call 12; refine (value.eq_any T' [.int .i64 s0, .int .i64 s1, .string s2, .slice sa sk.length sc] z1 _ (Cop.low (DD1.out.on hb)) (value.valueSh.mono rz fun b hlt => hlt.2.1)).mono ?_; rintro e wx1 ⟨rfl, hb2⟩))
    all_goals
      have K_wx1 : Hid (Kept w wx1 #[u0, u1, u2, u3]) := (K_wx0.out.drew.on hb).on hb2
      have D0_wx1 : Hid (CopS data.dataSh.slice wx1 k0 w3.heap.size w4.heap.size T) := (D0_wx0.out.drew.on hb).on hb2
      have D1_wx1 : Hid (Cop value.valueSh 37 wx1 w5.heap.size [.int .i64 s0, .int .i64 s1, .string s2, .slice sa sk.length sc] w4.heap.size w5.heap.size T') := (D1_wx0.out.drew.on hb).on hb2
      clear hb hb2 rz hcall DD1 x_s_0 x_s_1 x_s_2 x_s_3 a_u0 a_u1 a_u2 a_u3
      go_wp2
      go_ret
      exact ⟨rfl, K_wx1.out.bel⟩

set_option maxRecDepth 100000 in
theorem lifted (os : Os) (started : os.Started) (H : Type) (enc : TypeId × Value → H) :
    ReturnsInHanded {} Try.checked os 4 .any (Rows.fnExactValueOkSpec.pre6 enc Try.prog Try.f4 Rows.fnExactValueOkRow.domain false) (Rows.fnExactValueOkSpec.post enc Try.prog Try.f4 false true false false) := by
  refine returnsInHanded_of_change (C := Try.checked) own started (by kernel_rfl) Try.func4
    (ChangeSpec.witness6 (enc := enc) (C := Try.checked) false ⟨#[], #[.slice none 0 0, .agg #[.int .i64 0, .int .i64 0, .string ⟨#[]⟩, .slice none 0 0]], []⟩ 8 (by kernel_rfl) (by kernel_rfl) (by kernel_rfl) (by kernel_rfl)) ?_
  intro W base args ds gs before hval0 hW hcnd _
  have hval : ∀ (j : Nat) t v, Try.f4.params[j]? = some t → args[j]? = some v → Value.okWide Try.prog W .any base t v := hval0
  have hW' := hW
  obtain ⟨p, q, hA0, hV, rfl, hfz, hnd⟩ := hW
  have hA : DataW.TrodAll enc Try.prog W 0 (fun _ => true) true Try.f4.params.toList args.toList ds p := hA0
  rw [Try.params4] at hA hval
  obtain ⟨v0, vs0, d0, ds0, p0, q0, hargs, rfl, rfl, h0, r0⟩ := trodAll_cons hA
  obtain ⟨v1, vs1, d1, ds1, p1, q1, rfl, rfl, rfl, h1, r1⟩ := trodAll_cons r0
  obtain ⟨rfl, rfl, rfl⟩ := trodAll_nil r1
  obtain rfl : args = #[v0, v1] := by cases args; simp_all
  obtain ⟨rfl, rfl⟩ := trodVars_none hV
  have k0 := h0
  have lt0 : ∀ x ∈ p0, x.block < W.heap.size := by obtain ⟨m, hm⟩ := k0; exact DataW.trod_lt m _ _ _ hm
  have k1 := h1
  have lt1 : ∀ x ∈ p1, x.block < W.heap.size := by obtain ⟨m, hm⟩ := k1; exact DataW.trod_lt m _ _ _ hm
  obtain ⟨a0, l0, c0, rfl⟩ := okWide_slice Try.underlying42 (hval 0 42 v0 rfl rfl)
  obtain ⟨T, hT⟩ : ∃ ks, data.dataSh.slice.rep W (· < W.heap.size) [.slice a0 l0 c0] ks := by
    obtain ⟨fuel, hf⟩ := h0
    exact data.opens_datas (enc := enc) (w := W) fuel fuel _ _ (Nat.le_refl _) hf
  obtain ⟨cs1, T', rfl, hT'⟩ := value.arg_value (hval 1 27 v1 rfl rfl) h1
  clear hA0 hval0
  refine (walk a0 l0 c0 cs1 T T' W hT hT').mono fun e W' ⟨he, bel⟩ => ?_
  subst he
  exact ⟨_, rfl, _, _, _, [], _, [], hW', trodAll_mk1 (shut_bool Try.underlying4 _), (trodAll_cons_mk (Below.trod laidOut (by kernel_rfl) (of_decide_eq_true (by kernel_rfl)) k0 bel lt0) (trodAll_cons_mk (Below.trod laidOut (by kernel_rfl) (of_decide_eq_true (by kernel_rfl)) k1 bel lt1) trodAll_mk0)), rfl, bel.frame _, fun h => by cases h⟩

theorem over : Rows.fnExactValueOkRow.holds Try.pinned (OpenSpec.ofChange Rows.fnExactValueOkSpec) :=
  OpenClaim.holds_of_wide 4 Try.f4 rfl rfl rfl rfl rfl rfl rfl ⟨rfl, rfl, rfl, rfl, rfl⟩ rfl rfl rfl rfl rfl (by kernel_rfl) Try.func4 (by kernel_rfl)
    (of_decide_eq_true (by kernel_rfl)) (by unfold Func.isWrapper; first | (rw [if_pos (by decide +kernel)]; kernel_rfl) | (rw [if_neg (by decide +kernel)]; exact ⟨rfl, rfl⟩))
    (fun os started H enc _ => lifted os started H enc)

/-- THE STATEMENT. -/
theorem proved : Rows.FnExactValueOkSaid :=
  over
#print axioms proved

end Go.Proofs.Ytogjpdhhidkljaa.fnExactValueOk
