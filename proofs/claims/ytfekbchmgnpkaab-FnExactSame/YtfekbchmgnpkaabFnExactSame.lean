/-
  At every two arguments the program's Same answers as its model, and writes nothing into them; the law's call returns true, and the arguments read as they read before. No condition.
-/
import Derived.Test.YtfekbchmgnpkaabRows
import Derived.Test.YtfekbchmgnpkaabTyArg
import Derived.Test.YtfekbchmgnpkaabTyToQ
import Derived.Test.YtfekbchmgnpkaabTyEq
import Derived.Test.YtfekbchmgnpkaabSameSpec
import Derived.Test.YtfekbchmgnpkaabSameImpl
import Derived.ProofKit
import Derived.Deep.DeepHandedRow
import Derived.Deep.RegionHeld3
import Derived.Sort.AtCall
import Derived.ChangeOld
import Derived.Carry
namespace Go.Proofs.Ytfekbchmgnpkaab.fnExactSame
open Go.ChangeShapes Go.WideShapes Go.ChangeAt Go.RowKit Go.Proofs.Ytfekbchmgnpkaab.rose Go.Proofs.Ytfekbchmgnpkaab.ty
set_option linter.unusedVariables false

theorem own : ownKnob Try.prog.godebug = none := by kernel_rfl
theorem laidOut : laidOutB Try.prog = true := by kernel_rfl
theorem cell_drewS {w : World} {a : Addr} : w.drew.cell? a = w.cell? a := rfl

/-- What every moment of the law keeps: the arguments' boxes. -/
structure Kept (w wk : World) (c d : Array Value) (t : TypeId) : Prop where
  bel : Below w.heap.size w wk
  one : wk.heap[w.heap.size]? = some (.cells c t)
  two : wk.heap[w.heap.size + 1]? = some (.cells d t)
  lt : w.heap.size + 1 < wk.heap.size
theorem Kept.on {w wk wl : World} {c d : Array Value} {t : TypeId} (h : Kept w wk c d t) (hb : Below wk.heap.size wk wl) : Kept w wl c d t :=
  ⟨h.bel.trans (hb.mono h.bel.size), (hb.block _ (by have := h.lt; omega)).trans h.one, (hb.block _ h.lt).trans h.two, Nat.lt_of_lt_of_le h.lt hb.size⟩
theorem Kept.drew {w wk : World} {c d : Array Value} {t : TypeId} (h : Kept w wk c d t) : Kept w wk.drew c d t := ⟨h.bel.drew, h.one, h.two, h.lt⟩
theorem Kept.new (w : World) (c d : Array Value) (t : TypeId) : Kept w ((w.alloc (.cells c t)).alloc (.cells d t)) c d t :=
  ⟨((Below.refl _ _).alloc (Nat.le_refl _) _).alloc (by simp) _, by rw [Below.heap_alloc _ _ _ (by simp)]; exact alloc_top _ _, by have := alloc_top (w.alloc (.cells c t)) (.cells d t); simpa using this, by simp⟩

/-- A copy that the law holds in a box. -/
structure Cop (wk : World) (g : Nat) (cs : List Value) (n m : Nat) (T : TyD) : Prop where
  box : wk.heap[g]? = some (.cells cs.toArray 29)
  rep : tySh.rep wk (fun b => n ≤ b ∧ b < m ∧ Plain wk b) cs T
  top : m ≤ g ∧ g < wk.heap.size
theorem Cop.on {wk wl : World} {g n m : Nat} {cs : List Value} {T : TyD} (h : Cop wk g cs n m T) (hb : Below wk.heap.size wk wl) : Cop wl g cs n m T :=
  ⟨(hb.block _ h.top.2).trans h.box, tySh.mono (tySh.on h.rep fun b hS => hb.block b (by have := h.top; omega)) fun b hS => ⟨hS.1, hS.2.1, hS.2.2.on (hb.block b (by have := h.top; omega))⟩, h.top.1, Nat.lt_of_lt_of_le h.top.2 hb.size⟩
theorem Cop.drew {wk : World} {g n m : Nat} {cs : List Value} {T : TyD} (h : Cop wk g cs n m T) : Cop wk.drew g cs n m T :=
  ⟨h.box, tySh.on h.rep fun b hS => rfl, h.top⟩
theorem Cop.in_ {wk : World} {g n m : Nat} {cs : List Value} {T : TyD} (h : Cop wk g cs n m T) : tySh.rep wk (fun b => b < wk.heap.size ∧ Plain wk b) cs T := tySh.mono h.rep fun b hS => ⟨by have := h.top; omega, hS.2.2⟩
theorem Cop.low {wk : World} {g n m : Nat} {cs : List Value} {T : TyD} (h : Cop wk g cs n m T) : tySh.rep wk (· < wk.heap.size) cs T := tySh.mono h.rep fun b hS => by have := h.top; omega

set_option maxRecDepth 100000 in
set_option maxHeartbeats 8000000 in
theorem walk (cs ds : List Value) (T T' : TyD) (w : World) (h : tySh.rep w (· < w.heap.size) cs T) (h' : tySh.rep w (· < w.heap.size) ds T') :
    Calls Try.prog 3 #[.agg cs.toArray, .agg ds.toArray] w fun e w' => e = .returned (.bool true) ∧ Below w.heap.size w w' := by
  obtain ⟨v0, v1, v2, v3, rfl⟩ := ty_list h
  obtain ⟨u0, u1, u2, u3, rfl⟩ := ty_list h'
  have AT : Hid (∀ w' : World, Below w.heap.size w w' → tySh.rep w' (· < w'.heap.size) [v0, v1, v2, v3] T) := fun w' hb => tySh.mono (tySh.below h hb) fun b hlt => Nat.lt_of_lt_of_le hlt hb.size
  have AU : Hid (∀ w' : World, Below w.heap.size w w' → tySh.rep w' (· < w'.heap.size) [u0, u1, u2, u3] T') := fun w' hb => tySh.mono (tySh.below h' hb) fun b hlt => Nat.lt_of_lt_of_le hlt hb.size
  have o0 := tySh.one h v0 (by simp)
  have o1 := tySh.one h v1 (by simp)
  have o2 := tySh.one h v2 (by simp)
  have o3 := tySh.one h v3 (by simp)
  have p0 := tySh.one h' u0 (by simp)
  have p1 := tySh.one h' u1 (by simp)
  have p2 := tySh.one h' u2 (by simp)
  have p3 := tySh.one h' u3 (by simp)
  clear h h'
  have K0 : Hid (Kept w ((w.alloc (.cells #[v0, v1, v2, v3] 24)).alloc (.cells #[u0, u1, u2, u3] 24)) #[v0, v1, v2, v3] #[u0, u1, u2, u3] 24) := Kept.new _ _ _ _
  go_enter Try.func3, Try.ntmps3
  go_wp2_with fail
  refine (sz_any T _ _ 1048576 (by decide) (by decide) (AT.out _ K0.out.bel)).mono ?_
  rintro e w1 ⟨rfl, hb⟩
  have K1 : Hid (Kept w w1 #[v0, v1, v2, v3] #[u0, u1, u2, u3] 24) := K0.out.on hb
  clear hb K0
  by_cases hw : wt T ≤ 1048576
  case neg =>
    have hl : left (wt T) 1048576 = -1 := by unfold left; rw [if_neg (by omega)]
    rw [hl]
    go_wp2
    go_ret
    exact ⟨rfl, K1.out.bel⟩
  have hl : left (wt T) 1048576 = 1048576 - (wt T : Nat) := by unfold left; rw [if_pos (by omega)]
  rw [hl]
  have t1 : decide ((1048576 : Int) - (wt T : Nat) < 0) = false := by simp; omega
  have ca0 : w1.cell? ⟨w.heap.size, 0, none⟩ = some v0 := by simp [World.cell?, K1.out.one]
  have ca1 : w1.cell? ⟨w.heap.size, 1, none⟩ = some v1 := by simp [World.cell?, K1.out.one]
  have ca2 : w1.cell? ⟨w.heap.size, 2, none⟩ = some v2 := by simp [World.cell?, K1.out.one]
  have ca3 : w1.cell? ⟨w.heap.size, 3, none⟩ = some v3 := by simp [World.cell?, K1.out.one]
  have cb0 : w1.cell? ⟨w.heap.size + 1, 0, none⟩ = some u0 := by simp [World.cell?, K1.out.two]
  have cb1 : w1.cell? ⟨w.heap.size + 1, 1, none⟩ = some u1 := by simp [World.cell?, K1.out.two]
  have cb2 : w1.cell? ⟨w.heap.size + 1, 2, none⟩ = some u2 := by simp [World.cell?, K1.out.two]
  have cb3 : w1.cell? ⟨w.heap.size + 1, 3, none⟩ = some u3 := by simp [World.cell?, K1.out.two]
  go_wp2_with fail
  refine (sz_any T' _ _ _ (by omega) (by omega) (AU.out _ K1.out.bel)).mono ?_
  rintro e w2 ⟨rfl, hb⟩
  have K2 : Hid (Kept w w2 #[v0, v1, v2, v3] #[u0, u1, u2, u3] 24) := K1.out.on hb
  clear hb K1 hl ca0 ca1 ca2 ca3 cb0 cb1 cb2 cb3
  by_cases hw2 : wt T + wt T' ≤ 1048576
  case neg =>
    have hl : left (wt T') (1048576 - (wt T : Nat)) = -1 := by unfold left; rw [if_neg (by omega)]
    rw [hl]
    go_wp2
    go_ret
    exact ⟨rfl, K2.out.bel⟩
  have hl : left (wt T') (1048576 - (wt T : Nat)) = 1048576 - (wt T : Nat) - (wt T' : Nat) := by unfold left; rw [if_pos (by omega)]
  rw [hl]
  have t2 : decide ((1048576 : Int) - (wt T : Nat) - (wt T' : Nat) < 0) = false := by simp; omega
  have hw' : wt T' ≤ 1048576 := by omega
  have HB0 : Hid (Below w.heap.size w w2.drew) := K2.out.bel.drew
  have hsz : w.heap.size + 1 < w2.drew.heap.size := K2.out.lt
  clear hl
  have ca0 : w2.cell? ⟨w.heap.size, 0, none⟩ = some v0 := by simp [World.cell?, K2.out.one]
  have ca1 : w2.cell? ⟨w.heap.size, 1, none⟩ = some v1 := by simp [World.cell?, K2.out.one]
  have ca2 : w2.cell? ⟨w.heap.size, 2, none⟩ = some v2 := by simp [World.cell?, K2.out.one]
  have ca3 : w2.cell? ⟨w.heap.size, 3, none⟩ = some v3 := by simp [World.cell?, K2.out.one]
  have cb0 : w2.cell? ⟨w.heap.size + 1, 0, none⟩ = some u0 := by simp [World.cell?, K2.out.two]
  have cb1 : w2.cell? ⟨w.heap.size + 1, 1, none⟩ = some u1 := by simp [World.cell?, K2.out.two]
  have cb2 : w2.cell? ⟨w.heap.size + 1, 2, none⟩ = some u2 := by simp [World.cell?, K2.out.two]
  have cb3 : w2.cell? ⟨w.heap.size + 1, 3, none⟩ = some u3 := by simp [World.cell?, K2.out.two]
  go_wp2
  go_region_held3 (fun W => W.cell? ⟨w.heap.size, 0, none⟩ = some v0 ∧ W.cell? ⟨w.heap.size, 1, none⟩ = some v1 ∧ W.cell? ⟨w.heap.size, 2, none⟩ = some v2 ∧ W.cell? ⟨w.heap.size, 3, none⟩ = some v3 ∧ W.cell? ⟨w.heap.size + 1, 0, none⟩ = some u0 ∧ W.cell? ⟨w.heap.size + 1, 1, none⟩ = some u1 ∧ W.cell? ⟨w.heap.size + 1, 2, none⟩ = some u2 ∧ W.cell? ⟨w.heap.size + 1, 3, none⟩ = some u3)
    (exact ⟨(by first | with_reducible exact ca0 | (rw [cell_drewS]; with_reducible exact ca0)), (by first | with_reducible exact ca1 | (rw [cell_drewS]; with_reducible exact ca1)), (by first | with_reducible exact ca2 | (rw [cell_drewS]; with_reducible exact ca2)), (by first | with_reducible exact ca3 | (rw [cell_drewS]; with_reducible exact ca3)), (by first | with_reducible exact cb0 | (rw [cell_drewS]; with_reducible exact cb0)), (by first | with_reducible exact cb1 | (rw [cell_drewS]; with_reducible exact cb1)), (by first | with_reducible exact cb2 | (rw [cell_drewS]; with_reducible exact cb2)), (by first | with_reducible exact cb3 | (rw [cell_drewS]; with_reducible exact cb3))⟩)
    (first
      | (go_at_call 6; have seen := rT; refine (to_anyQ T' _ _ hw' (AU.out _ HBa.out)).mono ?_; rintro e wB ⟨⟨csU, rfl, rU⟩, hbB⟩; have RX : Hid (tySh.rep wB (· < wB.heap.size) csU T') := tySh.mono rU fun b hS => hS.2.1; have RY : Hid (tySh.rep wB (· < wB.heap.size) csT T) := tySh.mono (tySh.on rT fun b hS => hbB.block b hS.2.1) fun b hS => Nat.lt_of_lt_of_le hS.2.1 hbB.size; have hsB := hbB.size; have HBb : Hid (Below w.heap.size w wB) := HBa.out.trans (hbB.mono HBa.out.size); have BB : Hid (Below w2.heap.size w2 wB) := ((Below.refl _ w2).drew.trans hbA).trans (hbB.mono hsA); replace ca0 : wB.cell? ⟨w.heap.size, 0, none⟩ = some v0 := (hbB.cell (p := ⟨w.heap.size, 0, none⟩) (show w.heap.size < _ from Nat.lt_trans (Nat.lt_succ_self _) (Nat.lt_of_lt_of_le hsz hsA))).trans ca0; replace ca1 : wB.cell? ⟨w.heap.size, 1, none⟩ = some v1 := (hbB.cell (p := ⟨w.heap.size, 1, none⟩) (show w.heap.size < _ from Nat.lt_trans (Nat.lt_succ_self _) (Nat.lt_of_lt_of_le hsz hsA))).trans ca1; replace ca2 : wB.cell? ⟨w.heap.size, 2, none⟩ = some v2 := (hbB.cell (p := ⟨w.heap.size, 2, none⟩) (show w.heap.size < _ from Nat.lt_trans (Nat.lt_succ_self _) (Nat.lt_of_lt_of_le hsz hsA))).trans ca2; replace ca3 : wB.cell? ⟨w.heap.size, 3, none⟩ = some v3 := (hbB.cell (p := ⟨w.heap.size, 3, none⟩) (show w.heap.size < _ from Nat.lt_trans (Nat.lt_succ_self _) (Nat.lt_of_lt_of_le hsz hsA))).trans ca3; replace cb0 : wB.cell? ⟨w.heap.size + 1, 0, none⟩ = some u0 := (hbB.cell (p := ⟨w.heap.size + 1, 0, none⟩) (show w.heap.size + 1 < _ from (Nat.lt_of_lt_of_le hsz hsA))).trans cb0; replace cb1 : wB.cell? ⟨w.heap.size + 1, 1, none⟩ = some u1 := (hbB.cell (p := ⟨w.heap.size + 1, 1, none⟩) (show w.heap.size + 1 < _ from (Nat.lt_of_lt_of_le hsz hsA))).trans cb1; replace cb2 : wB.cell? ⟨w.heap.size + 1, 2, none⟩ = some u2 := (hbB.cell (p := ⟨w.heap.size + 1, 2, none⟩) (show w.heap.size + 1 < _ from (Nat.lt_of_lt_of_le hsz hsA))).trans cb2; replace cb3 : wB.cell? ⟨w.heap.size + 1, 3, none⟩ = some u3 := (hbB.cell (p := ⟨w.heap.size + 1, 3, none⟩) (show w.heap.size + 1 < _ from (Nat.lt_of_lt_of_le hsz hsA))).trans cb3)
      | (go_at_call 6; have seen := rU; refine (to_anyQ T _ _ hw (AT.out _ HBa.out)).mono ?_; rintro e wB ⟨⟨csT, rfl, rT⟩, hbB⟩; have RX : Hid (tySh.rep wB (· < wB.heap.size) csT T) := tySh.mono rT fun b hS => hS.2.1; have RY : Hid (tySh.rep wB (· < wB.heap.size) csU T') := tySh.mono (tySh.on rU fun b hS => hbB.block b hS.2.1) fun b hS => Nat.lt_of_lt_of_le hS.2.1 hbB.size; have hsB := hbB.size; have HBb : Hid (Below w.heap.size w wB) := HBa.out.trans (hbB.mono HBa.out.size); have BB : Hid (Below w2.heap.size w2 wB) := ((Below.refl _ w2).drew.trans hbA).trans (hbB.mono hsA); replace ca0 : wB.cell? ⟨w.heap.size, 0, none⟩ = some v0 := (hbB.cell (p := ⟨w.heap.size, 0, none⟩) (show w.heap.size < _ from Nat.lt_trans (Nat.lt_succ_self _) (Nat.lt_of_lt_of_le hsz hsA))).trans ca0; replace ca1 : wB.cell? ⟨w.heap.size, 1, none⟩ = some v1 := (hbB.cell (p := ⟨w.heap.size, 1, none⟩) (show w.heap.size < _ from Nat.lt_trans (Nat.lt_succ_self _) (Nat.lt_of_lt_of_le hsz hsA))).trans ca1; replace ca2 : wB.cell? ⟨w.heap.size, 2, none⟩ = some v2 := (hbB.cell (p := ⟨w.heap.size, 2, none⟩) (show w.heap.size < _ from Nat.lt_trans (Nat.lt_succ_self _) (Nat.lt_of_lt_of_le hsz hsA))).trans ca2; replace ca3 : wB.cell? ⟨w.heap.size, 3, none⟩ = some v3 := (hbB.cell (p := ⟨w.heap.size, 3, none⟩) (show w.heap.size < _ from Nat.lt_trans (Nat.lt_succ_self _) (Nat.lt_of_lt_of_le hsz hsA))).trans ca3; replace cb0 : wB.cell? ⟨w.heap.size + 1, 0, none⟩ = some u0 := (hbB.cell (p := ⟨w.heap.size + 1, 0, none⟩) (show w.heap.size + 1 < _ from (Nat.lt_of_lt_of_le hsz hsA))).trans cb0; replace cb1 : wB.cell? ⟨w.heap.size + 1, 1, none⟩ = some u1 := (hbB.cell (p := ⟨w.heap.size + 1, 1, none⟩) (show w.heap.size + 1 < _ from (Nat.lt_of_lt_of_le hsz hsA))).trans cb1; replace cb2 : wB.cell? ⟨w.heap.size + 1, 2, none⟩ = some u2 := (hbB.cell (p := ⟨w.heap.size + 1, 2, none⟩) (show w.heap.size + 1 < _ from (Nat.lt_of_lt_of_le hsz hsA))).trans cb2; replace cb3 : wB.cell? ⟨w.heap.size + 1, 3, none⟩ = some u3 := (hbB.cell (p := ⟨w.heap.size + 1, 3, none⟩) (show w.heap.size + 1 < _ from (Nat.lt_of_lt_of_le hsz hsA))).trans cb3)
      | (go_at_call 6; refine (to_anyQ T _ _ hw (AT.out _ HB0.out)).mono ?_; rintro e wA ⟨⟨csT, rfl, rT⟩, hbA⟩; have HBa : Hid (Below w.heap.size w wA) := HB0.out.trans (hbA.mono HB0.out.size); have hsA := hbA.size; replace ca0 : wA.cell? ⟨w.heap.size, 0, none⟩ = some v0 := (hbA.cell (p := ⟨w.heap.size, 0, none⟩) (show w.heap.size < _ from Nat.lt_trans (Nat.lt_succ_self _) hsz)).trans ca0; replace ca1 : wA.cell? ⟨w.heap.size, 1, none⟩ = some v1 := (hbA.cell (p := ⟨w.heap.size, 1, none⟩) (show w.heap.size < _ from Nat.lt_trans (Nat.lt_succ_self _) hsz)).trans ca1; replace ca2 : wA.cell? ⟨w.heap.size, 2, none⟩ = some v2 := (hbA.cell (p := ⟨w.heap.size, 2, none⟩) (show w.heap.size < _ from Nat.lt_trans (Nat.lt_succ_self _) hsz)).trans ca2; replace ca3 : wA.cell? ⟨w.heap.size, 3, none⟩ = some v3 := (hbA.cell (p := ⟨w.heap.size, 3, none⟩) (show w.heap.size < _ from Nat.lt_trans (Nat.lt_succ_self _) hsz)).trans ca3; replace cb0 : wA.cell? ⟨w.heap.size + 1, 0, none⟩ = some u0 := (hbA.cell (p := ⟨w.heap.size + 1, 0, none⟩) (show w.heap.size + 1 < _ from hsz)).trans cb0; replace cb1 : wA.cell? ⟨w.heap.size + 1, 1, none⟩ = some u1 := (hbA.cell (p := ⟨w.heap.size + 1, 1, none⟩) (show w.heap.size + 1 < _ from hsz)).trans cb1; replace cb2 : wA.cell? ⟨w.heap.size + 1, 2, none⟩ = some u2 := (hbA.cell (p := ⟨w.heap.size + 1, 2, none⟩) (show w.heap.size + 1 < _ from hsz)).trans cb2; replace cb3 : wA.cell? ⟨w.heap.size + 1, 3, none⟩ = some u3 := (hbA.cell (p := ⟨w.heap.size + 1, 3, none⟩) (show w.heap.size + 1 < _ from hsz)).trans cb3)
      | (go_at_call 6; refine (to_anyQ T' _ _ hw' (AU.out _ HB0.out)).mono ?_; rintro e wA ⟨⟨csU, rfl, rU⟩, hbA⟩; have HBa : Hid (Below w.heap.size w wA) := HB0.out.trans (hbA.mono HB0.out.size); have hsA := hbA.size; replace ca0 : wA.cell? ⟨w.heap.size, 0, none⟩ = some v0 := (hbA.cell (p := ⟨w.heap.size, 0, none⟩) (show w.heap.size < _ from Nat.lt_trans (Nat.lt_succ_self _) hsz)).trans ca0; replace ca1 : wA.cell? ⟨w.heap.size, 1, none⟩ = some v1 := (hbA.cell (p := ⟨w.heap.size, 1, none⟩) (show w.heap.size < _ from Nat.lt_trans (Nat.lt_succ_self _) hsz)).trans ca1; replace ca2 : wA.cell? ⟨w.heap.size, 2, none⟩ = some v2 := (hbA.cell (p := ⟨w.heap.size, 2, none⟩) (show w.heap.size < _ from Nat.lt_trans (Nat.lt_succ_self _) hsz)).trans ca2; replace ca3 : wA.cell? ⟨w.heap.size, 3, none⟩ = some v3 := (hbA.cell (p := ⟨w.heap.size, 3, none⟩) (show w.heap.size < _ from Nat.lt_trans (Nat.lt_succ_self _) hsz)).trans ca3; replace cb0 : wA.cell? ⟨w.heap.size + 1, 0, none⟩ = some u0 := (hbA.cell (p := ⟨w.heap.size + 1, 0, none⟩) (show w.heap.size + 1 < _ from hsz)).trans cb0; replace cb1 : wA.cell? ⟨w.heap.size + 1, 1, none⟩ = some u1 := (hbA.cell (p := ⟨w.heap.size + 1, 1, none⟩) (show w.heap.size + 1 < _ from hsz)).trans cb1; replace cb2 : wA.cell? ⟨w.heap.size + 1, 2, none⟩ = some u2 := (hbA.cell (p := ⟨w.heap.size + 1, 2, none⟩) (show w.heap.size + 1 < _ from hsz)).trans cb2; replace cb3 : wA.cell? ⟨w.heap.size + 1, 3, none⟩ = some u3 := (hbA.cell (p := ⟨w.heap.size + 1, 3, none⟩) (show w.heap.size + 1 < _ from hsz)).trans cb3)
      | (go_at_call 5; refine (specSame T T' csT csU wB (by first | exact RX.out | exact RY.out) (by first | exact RX.out | exact RY.out)).mono ?_; rintro e w3 ⟨rfl, hbC⟩; replace ca0 : w3.cell? ⟨w.heap.size, 0, none⟩ = some v0 := (hbC.cell (p := ⟨w.heap.size, 0, none⟩) (show w.heap.size < _ from Nat.lt_trans (Nat.lt_succ_self _) (Nat.lt_of_lt_of_le hsz (Nat.le_trans hsA hsB)))).trans ca0; replace ca1 : w3.cell? ⟨w.heap.size, 1, none⟩ = some v1 := (hbC.cell (p := ⟨w.heap.size, 1, none⟩) (show w.heap.size < _ from Nat.lt_trans (Nat.lt_succ_self _) (Nat.lt_of_lt_of_le hsz (Nat.le_trans hsA hsB)))).trans ca1; replace ca2 : w3.cell? ⟨w.heap.size, 2, none⟩ = some v2 := (hbC.cell (p := ⟨w.heap.size, 2, none⟩) (show w.heap.size < _ from Nat.lt_trans (Nat.lt_succ_self _) (Nat.lt_of_lt_of_le hsz (Nat.le_trans hsA hsB)))).trans ca2; replace ca3 : w3.cell? ⟨w.heap.size, 3, none⟩ = some v3 := (hbC.cell (p := ⟨w.heap.size, 3, none⟩) (show w.heap.size < _ from Nat.lt_trans (Nat.lt_succ_self _) (Nat.lt_of_lt_of_le hsz (Nat.le_trans hsA hsB)))).trans ca3; replace cb0 : w3.cell? ⟨w.heap.size + 1, 0, none⟩ = some u0 := (hbC.cell (p := ⟨w.heap.size + 1, 0, none⟩) (show w.heap.size + 1 < _ from (Nat.lt_of_lt_of_le hsz (Nat.le_trans hsA hsB)))).trans cb0; replace cb1 : w3.cell? ⟨w.heap.size + 1, 1, none⟩ = some u1 := (hbC.cell (p := ⟨w.heap.size + 1, 1, none⟩) (show w.heap.size + 1 < _ from (Nat.lt_of_lt_of_le hsz (Nat.le_trans hsA hsB)))).trans cb1; replace cb2 : w3.cell? ⟨w.heap.size + 1, 2, none⟩ = some u2 := (hbC.cell (p := ⟨w.heap.size + 1, 2, none⟩) (show w.heap.size + 1 < _ from (Nat.lt_of_lt_of_le hsz (Nat.le_trans hsA hsB)))).trans cb2; replace cb3 : w3.cell? ⟨w.heap.size + 1, 3, none⟩ = some u3 := (hbC.cell (p := ⟨w.heap.size + 1, 3, none⟩) (show w.heap.size + 1 < _ from (Nat.lt_of_lt_of_le hsz (Nat.le_trans hsA hsB)))).trans cb3))
  all_goals
    have K3 : Hid (Kept w w3 #[v0, v1, v2, v3] #[u0, u1, u2, u3] 24) := K2.out.on (BB.out.trans (hbC.mono BB.out.size))
    clear hbC BB HBb HBa HB0 RX RY rT rU hbA hbB hsA hsB hsz K2 seen
    obtain ⟨r, hr⟩ : ∃ r, r = sameB T T' := ⟨_, rfl⟩
    rw [← hr]
    have HR : Hid (r = sameB T T') := hr
    clear hr
    go_wp2_with fail
    refine (to_anyQ T _ _ hw (AT.out _ K3.out.bel)).mono ?_
    rintro e w4 ⟨⟨cs4, rfl, r4⟩, hb⟩
    have K4 : Hid (Kept w w4 #[v0, v1, v2, v3] #[u0, u1, u2, u3] 24) := K3.out.on hb
    clear hb K3 ca0 ca1 ca2 ca3 cb0 cb1 cb2 cb3
    obtain ⟨q0, q1, q2, qk, qa, qc, hT, rfl, -, -, -, -⟩ := ty_open r4
    clear hT
    obtain ⟨w5, e5⟩ : ∃ w5, w5 = w4.alloc (.cells #[.int .i64 q0, .int .i64 q1, .string q2, .slice qa qk.length qc] 29) := ⟨_, rfl⟩
    have hA : Below w4.heap.size w4 w5 := by rw [e5]; exact (Below.refl _ _).alloc (Nat.le_refl _) _
    have K5 : Hid (Kept w w5 #[v0, v1, v2, v3] #[u0, u1, u2, u3] 24) := K4.out.on hA
    have C5 : Hid (Cop w5 w4.heap.size [.int .i64 q0, .int .i64 q1, .string q2, .slice qa qk.length qc] w3.heap.size w4.heap.size T) :=
      ⟨by rw [e5]; exact alloc_top _ _, tySh.mono (tySh.on r4 fun b hS => hA.block b hS.2.1) fun b hS => ⟨hS.1, hS.2.1, hS.2.2.on (hA.block b hS.2.1)⟩, Nat.le_refl _, by rw [e5]; simp⟩
    have E5 : Hid (w5 = w4.alloc (.cells #[.int .i64 q0, .int .i64 q1, .string q2, .slice qa qk.length qc] 29)) := e5
    have hz5 : w5.heap.size = w4.heap.size + 1 := by rw [e5]; simp
    clear hA r4 K4
    have ca0 : (w4.alloc (.cells #[.int .i64 q0, .int .i64 q1, .string q2, .slice qa qk.length qc] 29)).cell? ⟨w.heap.size, 0, none⟩ = some v0 := by rw [← e5]; simp [World.cell?, K5.out.one]
    have ca1 : (w4.alloc (.cells #[.int .i64 q0, .int .i64 q1, .string q2, .slice qa qk.length qc] 29)).cell? ⟨w.heap.size, 1, none⟩ = some v1 := by rw [← e5]; simp [World.cell?, K5.out.one]
    have ca2 : (w4.alloc (.cells #[.int .i64 q0, .int .i64 q1, .string q2, .slice qa qk.length qc] 29)).cell? ⟨w.heap.size, 2, none⟩ = some v2 := by rw [← e5]; simp [World.cell?, K5.out.one]
    have ca3 : (w4.alloc (.cells #[.int .i64 q0, .int .i64 q1, .string q2, .slice qa qk.length qc] 29)).cell? ⟨w.heap.size, 3, none⟩ = some v3 := by rw [← e5]; simp [World.cell?, K5.out.one]
    have cb0 : (w4.alloc (.cells #[.int .i64 q0, .int .i64 q1, .string q2, .slice qa qk.length qc] 29)).cell? ⟨w.heap.size + 1, 0, none⟩ = some u0 := by rw [← e5]; simp [World.cell?, K5.out.two]
    have cb1 : (w4.alloc (.cells #[.int .i64 q0, .int .i64 q1, .string q2, .slice qa qk.length qc] 29)).cell? ⟨w.heap.size + 1, 1, none⟩ = some u1 := by rw [← e5]; simp [World.cell?, K5.out.two]
    have cb2 : (w4.alloc (.cells #[.int .i64 q0, .int .i64 q1, .string q2, .slice qa qk.length qc] 29)).cell? ⟨w.heap.size + 1, 2, none⟩ = some u2 := by rw [← e5]; simp [World.cell?, K5.out.two]
    have cb3 : (w4.alloc (.cells #[.int .i64 q0, .int .i64 q1, .string q2, .slice qa qk.length qc] 29)).cell? ⟨w.heap.size + 1, 3, none⟩ = some u3 := by rw [← e5]; simp [World.cell?, K5.out.two]
    go_wp2_with fail
    rw [← e5]
    refine (to_anyQ T' _ _ hw' (AU.out _ K5.out.bel)).mono ?_
    rintro e w6 ⟨⟨cs6, rfl, r6⟩, hb⟩
    have K6 : Hid (Kept w w6 #[v0, v1, v2, v3] #[u0, u1, u2, u3] 24) := K5.out.on hb
    have C6 : Hid (Cop w6 w4.heap.size [.int .i64 q0, .int .i64 q1, .string q2, .slice qa qk.length qc] w3.heap.size w4.heap.size T) := C5.out.on hb
    have z6 : w4.heap.size < w6.heap.size := C6.out.top.2
    clear hb K5 C5 hz5 e5 E5 ca0 ca1 ca2 ca3 cb0 cb1 cb2 cb3
    obtain ⟨s0, s1, s2, sk, sa, sc, hT, rfl, -, -, -, -⟩ := ty_open r6
    clear hT
    obtain ⟨w7, e7⟩ : ∃ w7, w7 = w6.alloc (.cells #[.int .i64 s0, .int .i64 s1, .string s2, .slice sa sk.length sc] 29) := ⟨_, rfl⟩
    have hA : Below w6.heap.size w6 w7 := by rw [e7]; exact (Below.refl _ _).alloc (Nat.le_refl _) _
    have K7 : Hid (Kept w w7 #[v0, v1, v2, v3] #[u0, u1, u2, u3] 24) := K6.out.on hA
    have C7 : Hid (Cop w7 w4.heap.size [.int .i64 q0, .int .i64 q1, .string q2, .slice qa qk.length qc] w3.heap.size w4.heap.size T) := C6.out.on hA
    have D7 : Hid (Cop w7 w6.heap.size [.int .i64 s0, .int .i64 s1, .string s2, .slice sa sk.length sc] w5.heap.size w6.heap.size T') :=
      ⟨by rw [e7]; exact alloc_top _ _, tySh.mono (tySh.on r6 fun b hS => hA.block b hS.2.1) fun b hS => ⟨hS.1, hS.2.1, hS.2.2.on (hA.block b hS.2.1)⟩, Nat.le_refl _, by rw [e7]; simp⟩
    have x0 : w6.cell? ⟨w4.heap.size, 0, none⟩ = some (.int .i64 q0) := by simp [World.cell?, C6.out.box]
    have x1 : w6.cell? ⟨w4.heap.size, 1, none⟩ = some (.int .i64 q1) := by simp [World.cell?, C6.out.box]
    have x2 : w6.cell? ⟨w4.heap.size, 2, none⟩ = some (.string q2) := by simp [World.cell?, C6.out.box]
    have x3 : w6.cell? ⟨w4.heap.size, 3, none⟩ = some (.slice qa qk.length qc) := by simp [World.cell?, C6.out.box]
    clear hA r6 K6 C6
    go_wp2_with fail
    rw [← e7]
    refine (implSame T T' _ _ _ hw C7.out.in_ D7.out.in_).mono ?_
    rintro e w8 ⟨rfl, hb⟩
    have K8 : Hid (Kept w w8 #[v0, v1, v2, v3] #[u0, u1, u2, u3] 24) := K7.out.on hb
    have C8 : Hid (Cop w8 w4.heap.size [.int .i64 q0, .int .i64 q1, .string q2, .slice qa qk.length qc] w3.heap.size w4.heap.size T) := C7.out.on hb
    have D8 : Hid (Cop w8 w6.heap.size [.int .i64 s0, .int .i64 s1, .string s2, .slice sa sk.length sc] w5.heap.size w6.heap.size T') := D7.out.on hb
    clear hb K7 C7 D7 e7 x0 x1 x2 x3 z6
    rw [← HR.out]
    have C8d : Hid (Cop w8.drew w4.heap.size [.int .i64 q0, .int .i64 q1, .string q2, .slice qa qk.length qc] w3.heap.size w4.heap.size T) := C8.out.drew
    have hcall := to_anyQ T _ w8.drew hw (AT.out _ K8.out.bel.drew)
    have x0 : w8.cell? ⟨w4.heap.size, 0, none⟩ = some (.int .i64 q0) := by simp [World.cell?, C8.out.box]
    have x1 : w8.cell? ⟨w4.heap.size, 1, none⟩ = some (.int .i64 q1) := by simp [World.cell?, C8.out.box]
    have x2 : w8.cell? ⟨w4.heap.size, 2, none⟩ = some (.string q2) := by simp [World.cell?, C8.out.box]
    have x3 : w8.cell? ⟨w4.heap.size, 3, none⟩ = some (.slice qa qk.length qc) := by simp [World.cell?, C8.out.box]
    have a0 : w8.cell? ⟨w.heap.size, 0, none⟩ = some v0 := by simp [World.cell?, K8.out.one]
    have a1 : w8.cell? ⟨w.heap.size, 1, none⟩ = some v1 := by simp [World.cell?, K8.out.one]
    have a2 : w8.cell? ⟨w.heap.size, 2, none⟩ = some v2 := by simp [World.cell?, K8.out.one]
    have a3 : w8.cell? ⟨w.heap.size, 3, none⟩ = some v3 := by simp [World.cell?, K8.out.one]
    go_wp2
    go_region_with (first | (go_at_call 6; refine hcall.mono ?_; rintro e w9 ⟨⟨cs9, rfl, r9⟩, hb⟩; have C9 : Hid (Cop w9 w4.heap.size [.int .i64 q0, .int .i64 q1, .string q2, .slice qa qk.length qc] w3.heap.size w4.heap.size T) := C8d.out.on hb; have y0 : w9.cell? ⟨w4.heap.size, 0, none⟩ = some (.int .i64 q0) := (by simp [World.cell?, C9.out.box]); have y1 : w9.cell? ⟨w4.heap.size, 1, none⟩ = some (.int .i64 q1) := (by simp [World.cell?, C9.out.box]); have y2 : w9.cell? ⟨w4.heap.size, 2, none⟩ = some (.string q2) := (by simp [World.cell?, C9.out.box]); have y3 : w9.cell? ⟨w4.heap.size, 3, none⟩ = some (.slice qa qk.length qc) := (by simp [World.cell?, C9.out.box])) | (go_at_call 8; refine (eq_any T [.int .i64 q0, .int .i64 q1, .string q2, .slice qa qk.length qc] cs9 _ (Cop.low (C8d.out.on hb)) (tySh.mono r9 fun b hlt => hlt.2.1)).mono ?_; rintro e w10 ⟨rfl, hb10⟩))
    all_goals
      have K10 : Hid (Kept w w10 #[v0, v1, v2, v3] #[u0, u1, u2, u3] 24) := (K8.out.drew.on hb).on hb10
      have D10 : Hid (Cop w10 w6.heap.size [.int .i64 s0, .int .i64 s1, .string s2, .slice sa sk.length sc] w5.heap.size w6.heap.size T') := (D8.out.drew.on hb).on hb10
      clear hb hb10 r9 hcall C8 C8d K8 D8 x0 x1 x2 x3 a0 a1 a2 a3
      have D10d : Hid (Cop w10.drew w6.heap.size [.int .i64 s0, .int .i64 s1, .string s2, .slice sa sk.length sc] w5.heap.size w6.heap.size T') := D10.out.drew
      have hcall := to_anyQ T' _ w10.drew hw' (AU.out _ K10.out.bel.drew)
      have x0 : w10.cell? ⟨w6.heap.size, 0, none⟩ = some (.int .i64 s0) := by simp [World.cell?, D10.out.box]
      have x1 : w10.cell? ⟨w6.heap.size, 1, none⟩ = some (.int .i64 s1) := by simp [World.cell?, D10.out.box]
      have x2 : w10.cell? ⟨w6.heap.size, 2, none⟩ = some (.string s2) := by simp [World.cell?, D10.out.box]
      have x3 : w10.cell? ⟨w6.heap.size, 3, none⟩ = some (.slice sa sk.length sc) := by simp [World.cell?, D10.out.box]
      have a0 : w10.cell? ⟨w.heap.size + 1, 0, none⟩ = some u0 := by simp [World.cell?, K10.out.two]
      have a1 : w10.cell? ⟨w.heap.size + 1, 1, none⟩ = some u1 := by simp [World.cell?, K10.out.two]
      have a2 : w10.cell? ⟨w.heap.size + 1, 2, none⟩ = some u2 := by simp [World.cell?, K10.out.two]
      have a3 : w10.cell? ⟨w.heap.size + 1, 3, none⟩ = some u3 := by simp [World.cell?, K10.out.two]
      go_wp2
      go_region_with (first | (go_at_call 6; refine hcall.mono ?_; rintro e w11 ⟨⟨cs11, rfl, r11⟩, hb⟩; have D11 : Hid (Cop w11 w6.heap.size [.int .i64 s0, .int .i64 s1, .string s2, .slice sa sk.length sc] w5.heap.size w6.heap.size T') := D10d.out.on hb; have y0 : w11.cell? ⟨w6.heap.size, 0, none⟩ = some (.int .i64 s0) := (by simp [World.cell?, D11.out.box]); have y1 : w11.cell? ⟨w6.heap.size, 1, none⟩ = some (.int .i64 s1) := (by simp [World.cell?, D11.out.box]); have y2 : w11.cell? ⟨w6.heap.size, 2, none⟩ = some (.string s2) := (by simp [World.cell?, D11.out.box]); have y3 : w11.cell? ⟨w6.heap.size, 3, none⟩ = some (.slice sa sk.length sc) := (by simp [World.cell?, D11.out.box])) | (go_at_call 8; refine (eq_any T' [.int .i64 s0, .int .i64 s1, .string s2, .slice sa sk.length sc] cs11 _ (Cop.low (D10d.out.on hb)) (tySh.mono r11 fun b hlt => hlt.2.1)).mono ?_; rintro e w12 ⟨rfl, hb12⟩))
      all_goals
        have K12 : Hid (Kept w w12 #[v0, v1, v2, v3] #[u0, u1, u2, u3] 24) := (K10.out.drew.on hb).on hb12
        clear hb hb12 r11 hcall
        go_wp2
        go_ret
        exact ⟨rfl, K12.out.bel⟩

set_option maxRecDepth 100000 in
theorem lifted (os : Os) (started : os.Started) (H : Type) (enc : TypeId × Value → H) :
    ReturnsInHanded {} Try.checked os 3 .any (Rows.fnExactSameSpec.pre6 enc Try.prog Try.f3 Rows.fnExactSameRow.domain false) (Rows.fnExactSameSpec.post enc Try.prog Try.f3 false true false false) := by
  refine returnsInHanded_of_change (C := Try.checked) own started (by kernel_rfl) Try.func3
    (ChangeSpec.witness6 (enc := enc) (C := Try.checked) false ⟨#[], #[.agg #[.int .i64 0, .int .i64 0, .string ⟨#[]⟩, .slice none 0 0], .agg #[.int .i64 0, .int .i64 0, .string ⟨#[]⟩, .slice none 0 0]], []⟩ 8 (by kernel_rfl) (by kernel_rfl) (by kernel_rfl) (by kernel_rfl)) ?_
  intro W base args ds gs before hval0 hW hcnd _
  have hval : ∀ (j : Nat) t v, Try.f3.params[j]? = some t → args[j]? = some v → Value.okWide Try.prog W .any base t v := hval0
  have hW' := hW
  obtain ⟨p, q, hA0, hV, rfl, hfz, hnd⟩ := hW
  have hA : DataW.TrodAll enc Try.prog W 0 (fun _ => true) true Try.f3.params.toList args.toList ds p := hA0
  rw [Try.params3] at hA hval
  obtain ⟨v0, vs0, d0, ds0, p0, q0, hargs, rfl, rfl, h0, r0⟩ := trodAll_cons hA
  obtain ⟨v1, vs1, d1, ds1, p1, q1, rfl, rfl, rfl, h1, r1⟩ := trodAll_cons r0
  obtain ⟨rfl, rfl, rfl⟩ := trodAll_nil r1
  obtain rfl : args = #[v0, v1] := by cases args; simp_all
  obtain ⟨rfl, rfl⟩ := trodVars_none hV
  have k0 := h0
  have lt0 : ∀ x ∈ p0, x.block < W.heap.size := by obtain ⟨m, hm⟩ := k0; exact DataW.trod_lt m _ _ _ hm
  have k1 := h1
  have lt1 : ∀ x ∈ p1, x.block < W.heap.size := by obtain ⟨m, hm⟩ := k1; exact DataW.trod_lt m _ _ _ hm
  obtain ⟨cs, T, rfl, hT⟩ := arg_ty (hval 0 24 v0 rfl rfl) h0
  obtain ⟨ds2, T', rfl, hT'⟩ := arg_ty (hval 1 24 v1 rfl rfl) h1
  clear hA0 hval0
  refine (walk cs ds2 T T' W hT hT').mono fun e W' ⟨he, bel⟩ => ?_
  subst he
  exact ⟨_, rfl, _, _, _, [], _, [], hW', trodAll_mk1 (shut_bool Try.underlying4 _), (trodAll_cons_mk (Below.trod laidOut (by kernel_rfl) (of_decide_eq_true (by kernel_rfl)) k0 bel lt0) (trodAll_cons_mk (Below.trod laidOut (by kernel_rfl) (of_decide_eq_true (by kernel_rfl)) k1 bel lt1) trodAll_mk0)), rfl, bel.frame _, fun h => by cases h⟩

theorem over : Rows.fnExactSameRow.holds Try.pinned (OpenSpec.ofChange Rows.fnExactSameSpec) :=
  OpenClaim.holds_of_wide 3 Try.f3 rfl rfl rfl rfl rfl rfl rfl ⟨rfl, rfl, rfl, rfl, rfl⟩ rfl rfl rfl rfl rfl (by kernel_rfl) Try.func3 (by kernel_rfl)
    (of_decide_eq_true (by kernel_rfl)) (by unfold Func.isWrapper; first | (rw [if_pos (by decide +kernel)]; kernel_rfl) | (rw [if_neg (by decide +kernel)]; exact ⟨rfl, rfl⟩))
    (fun os started H enc _ => lifted os started H enc)

/-- THE STATEMENT. -/
theorem proved : Rows.FnExactSameSaid :=
  over
#print axioms proved

end Go.Proofs.Ytfekbchmgnpkaab.fnExactSame
