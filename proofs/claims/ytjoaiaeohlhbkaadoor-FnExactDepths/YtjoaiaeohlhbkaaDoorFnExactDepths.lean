/-
  At every argument the program's function answers as its model, writes nothing into an argument, and its answer owns its memory; the law's call returns true, and the arguments read as they read before. No condition.
-/
import Derived.Test.YtjoaiaeohlhbkaaDoorCards
import Derived.Test.YtjoaiaeohlhbkaaDoorTie
import Derived.Test.YtjoaiaeohlhbkaaDoorNamesLaid
import Derived.WalkKit
import Derived.OpenShut
import Derived.LaidMore
import Derived.Stop.LaidErr
import Derived.OpenVars
import Derived.Test.YtjoaiaeohlhbkaaDoorItems2
import Derived.Test.YtjoaiaeohlhbkaaDoorFunSz
import Derived.Test.YtjoaiaeohlhbkaaDoorFunArg
import Derived.Test.YtjoaiaeohlhbkaaDoorFunToP
import Derived.Test.YtjoaiaeohlhbkaaDoorFunEq
import Derived.Test.YtjoaiaeohlhbkaaDoorFunMark
import Derived.Test.YtjoaiaeohlhbkaaDoorIntsMk
import Derived.Test.YtjoaiaeohlhbkaaDoorInts
import Derived.Test.YtjoaiaeohlhbkaaDoorDepthsStd
import Derived.ProofKit
import Derived.Deep.DeepHandedRow
import Derived.ChangeOld
import Derived.Carry
namespace Go.Proofs.YtjoaiaeohlhbkaaDoor.fnExactDepths
open Go.ChangeShapes Go.WideShapes Go.ChangeAt Go.RowKit Go.Proofs.YtjoaiaeohlhbkaaDoor.rose Go.Proofs.YtjoaiaeohlhbkaaDoor
open Go.ChangeMaps (open_string shut_string)
set_option linter.unusedVariables false

theorem own : ownKnob Tryd.prog.godebug = none := by kernel_rfl
theorem laidOut : laidOutB Tryd.prog = true := by kernel_rfl

set_option maxRecDepth 100000 in
set_option maxHeartbeats 8000000 in
theorem walk (ks : List «fun».FunD) (i : Int) (va0 : Value) (w : World) (hi1 : -9223372036854775808 ≤ i) (hj1 : i ≤ 9223372036854775807) (hN : «fun».Names w) (h0 : «fun».funSh.slice.rep w (· < w.heap.size) [va0] ks) :
    Calls Tryd.prog 3 #[va0, .int .i64 i] w fun e w' => e = .returned (.bool true) ∧ Below w.heap.size w w' := by
  have AR0 : Hid (∀ W : World, Below w.heap.size w W → «fun».funSh.slice.rep W (· < W.heap.size) [va0] ks) := fun W hb => «fun».funSh.slice.mono («fun».funSh.slice.below h0 hb) fun b hlt => Nat.lt_of_lt_of_le hlt hb.size
  obtain ⟨ad0, cp0, hva0⟩ : ∃ a c, va0 = .slice a ks.length c := by obtain ⟨a, c, e⟩ := slice_cells h0; simp only [List.cons.injEq, and_true] at e; exact ⟨a, c, e⟩
  subst hva0
  clear h0
  have NS : Hid («fun».Names w) := hN
  clear hN
  have BB0 : Hid (Below w.heap.size w w) := Below.refl _ w
  go_enter Tryd.func3, Tryd.ntmps3
  go_wp2_with fail
  refine («fun».szS_any ks _ _ 1048576 (by decide) (by decide) (AR0.out _ BB0.out)).mono ?_
  rintro e w1 ⟨rfl, hb⟩
  have BB1 : Hid (Below w.heap.size w w1) := BB0.out.trans (hb.mono BB0.out.size)
  have L0 : Hid (w.heap.size + 0 ≤ w1.heap.size) := by have := hb.size; (try simp at this); show _ ≤ _; omega
  clear hb BB0
  obtain ⟨q0, hq0⟩ : ∃ nz : Nat, nz = ks.length + «fun».wts ks := ⟨_, rfl⟩
  rw [← hq0]
  have HQ0 : Hid (q0 = ks.length + «fun».wts ks) := hq0
  clear hq0
  by_cases hw0 : q0 ≤ 1048576
  · have hl : left q0 (1048576) = 1048576 - (q0 : Nat) := by unfold left; rw [if_pos (by omega)]
    rw [hl]
    have t1 : decide (((1048576 : Int) - (q0 : Nat) : Int) < 0) = false := by simp; omega
    clear hl
    have HW : Hid ((ks.length + «fun».wts ks) ≤ 1048576) := by have := HQ0.out; show _ ≤ _; omega
    go_wp2_with fail
    refine («fun».toPS_any ks _ _ (by have := HW.out; omega) (AR0.out _ BB1.out)).mono ?_
    rintro e w2 ⟨⟨k2, rfl, r2⟩, hb⟩
    have BB2 : Hid (Below w.heap.size w w2) := BB1.out.trans (hb.mono BB1.out.size)
    have WC0_2 : Hid (ItmR «fun».funSp.sslice w2 [k2] w1.heap.size w2.heap.size ks) := ⟨Nat.le_refl _, r2⟩
    have L1 : Hid (w1.heap.size ≤ w2.heap.size) := hb.size
    clear hb r2 BB1
    go_wp2_with fail
    refine («fun».specDepths_std ks i _ _ HW.out hi1 hj1 («fun».funSh.slice.mono («fun».funps_rep WC0_2.out.rep) fun b hb => by have := WC0_2.out.top; have := L0.out; have := L1.out; omega)).mono ?_
    rintro e w3 ⟨⟨u3_0, rfl, r3_0⟩, hb⟩
    have BB3 : Hid (Below w.heap.size w w3) := BB2.out.trans (hb.mono BB2.out.size)
    have L2 : Hid (w2.heap.size ≤ w3.heap.size) := hb.size
    have WR0_3 : Hid (ItmR ints.intsSp w3 [u3_0] w2.heap.size w3.heap.size («fun».depthsF ks i).1) := ⟨Nat.le_refl _, r3_0⟩
    clear hb r3_0 BB2
    go_wp2_with fail
    refine («fun».toPS_any ks _ _ (by have := HW.out; omega) (AR0.out _ BB3.out)).mono ?_
    rintro e w4 ⟨⟨k4, rfl, r4⟩, hb⟩
    have WR0_4 : Hid (ItmR ints.intsSp w4 [u3_0] w2.heap.size w3.heap.size («fun».depthsF ks i).1) := WR0_3.out.on hb
    have BB4 : Hid (Below w.heap.size w w4) := BB3.out.trans (hb.mono BB3.out.size)
    have L3 : Hid (w3.heap.size ≤ w4.heap.size) := hb.size
    have X0_4 : Hid (ItmR «fun».funSp.sslice w4 [k4] w3.heap.size w4.heap.size ks) := ⟨Nat.le_refl _, r4⟩
    clear hb r4 WR0_3 BB3
    go_wp2_with fail
    refine («fun».implDepths_std ks i _ _ HW.out hi1 hj1 (NS.out.on BB4.out) («fun».funSh.slice.mono («fun».funps_rep X0_4.out.rep) fun b hb => by have := X0_4.out.top; have := L0.out; have := L1.out; have := L2.out; have := L3.out; omega)).mono ?_
    rintro e w5 ⟨⟨u5_0, rfl, r5_0⟩, hb⟩
    have WR0_5 : Hid (ItmR ints.intsSp w5 [u3_0] w2.heap.size w3.heap.size («fun».depthsF ks i).1) := WR0_4.out.on hb
    have X0_5 : Hid (ItmR «fun».funSp.sslice w5 [k4] w3.heap.size w4.heap.size ks) := X0_4.out.on hb
    have BB5 : Hid (Below w.heap.size w w5) := BB4.out.trans (hb.mono BB4.out.size)
    have L4 : Hid (w4.heap.size ≤ w5.heap.size) := hb.size
    have GR0_5 : Hid (ItmR ints.intsSp w5 [u5_0] w4.heap.size w5.heap.size («fun».depthsF ks i).1) := ⟨Nat.le_refl _, r5_0⟩
    clear hb r5_0 WR0_4 X0_4 BB4
    go_wp2_with fail
    refine (ints.eq_any («fun».depthsF ks i).1 _ _ _ (ints.intsSh.mono (ints.intsp_rep GR0_5.out.rep) fun b hb => by have := GR0_5.out.top; have := L0.out; have := L1.out; have := L2.out; have := L3.out; have := L4.out; omega) (ints.intsSh.mono (ints.intsp_rep WR0_5.out.rep) fun b hb => by have := WR0_5.out.top; have := L0.out; have := L1.out; have := L2.out; have := L3.out; have := L4.out; omega)).mono ?_
    rintro e w6 ⟨rfl, hb⟩
    have WR0_6 : Hid (ItmR ints.intsSp w6 [u3_0] w2.heap.size w3.heap.size («fun».depthsF ks i).1) := WR0_5.out.on hb
    have X0_6 : Hid (ItmR «fun».funSp.sslice w6 [k4] w3.heap.size w4.heap.size ks) := X0_5.out.on hb
    have GR0_6 : Hid (ItmR ints.intsSp w6 [u5_0] w4.heap.size w5.heap.size («fun».depthsF ks i).1) := GR0_5.out.on hb
    have BB6 : Hid (Below w.heap.size w w6) := BB5.out.trans (hb.mono BB5.out.size)
    have L5 : Hid (w5.heap.size ≤ w6.heap.size) := hb.size
    clear hb WR0_5 X0_5 GR0_5 BB5
    go_wp2_with fail
    refine («fun».toPS_any ks _ _ (by have := HW.out; omega) (AR0.out _ BB6.out)).mono ?_
    rintro e w7 ⟨⟨k7, rfl, r7⟩, hb⟩
    have WR0_7 : Hid (ItmR ints.intsSp w7 [u3_0] w2.heap.size w3.heap.size («fun».depthsF ks i).1) := WR0_6.out.on hb
    have X0_7 : Hid (ItmR «fun».funSp.sslice w7 [k4] w3.heap.size w4.heap.size ks) := X0_6.out.on hb
    have GR0_7 : Hid (ItmR ints.intsSp w7 [u5_0] w4.heap.size w5.heap.size («fun».depthsF ks i).1) := GR0_6.out.on hb
    have BB7 : Hid (Below w.heap.size w w7) := BB6.out.trans (hb.mono BB6.out.size)
    have L6 : Hid (w6.heap.size ≤ w7.heap.size) := hb.size
    have RT : Hid («fun».funSh.slice.rep w7 (· < w7.heap.size) [k7] ks) := «fun».funSh.slice.mono («fun».funps_rep r7) fun b hb => hb.2
    clear hb r7 WR0_6 X0_6 GR0_6 BB6
    go_wp2_with fail
    refine («fun».eqS_any ks _ _ _ («fun».funSh.slice.mono («fun».funps_rep X0_7.out.rep) fun b hb => by have := X0_7.out.top; have := L0.out; have := L1.out; have := L2.out; have := L3.out; have := L4.out; have := L5.out; have := L6.out; omega) RT.out).mono ?_
    rintro e w8 ⟨rfl, hb⟩
    have WR0_8 : Hid (ItmR ints.intsSp w8 [u3_0] w2.heap.size w3.heap.size («fun».depthsF ks i).1) := WR0_7.out.on hb
    have X0_8 : Hid (ItmR «fun».funSp.sslice w8 [k4] w3.heap.size w4.heap.size ks) := X0_7.out.on hb
    have GR0_8 : Hid (ItmR ints.intsSp w8 [u5_0] w4.heap.size w5.heap.size («fun».depthsF ks i).1) := GR0_7.out.on hb
    have BB8 : Hid (Below w.heap.size w w8) := BB7.out.trans (hb.mono BB7.out.size)
    have L7 : Hid (w7.heap.size ≤ w8.heap.size) := hb.size
    clear hb RT WR0_7 X0_7 GR0_7 BB7
    have hcn0 : «fun».cnts ks ≤ 1073741824 := «fun».cnts_bound ks (by have := HW.out; omega)
    go_wp2_with fail
    refine («fun».markS_any ks _ _ (1) (fun b => w3.heap.size ≤ b ∧ b < w4.heap.size) (by omega) (by omega) (fun b hb => by have := X0_8.out.top; have := L0.out; have := L1.out; have := L2.out; have := L3.out; have := L4.out; have := L5.out; have := L6.out; have := L7.out; omega) X0_8.out.rep).mono ?_
    rintro e w9 ⟨rfl, -, ho⟩
    have WR0_9 : Hid (ItmR ints.intsSp w9 [u3_0] w2.heap.size w3.heap.size («fun».depthsF ks i).1) := WR0_8.out.only ho (fun b h1 h2 hq => by have := L0.out; have := L1.out; have := L2.out; have := L3.out; have := L4.out; have := L5.out; have := L6.out; have := L7.out; omega)
    have GR0_9 : Hid (ItmR ints.intsSp w9 [u5_0] w4.heap.size w5.heap.size («fun».depthsF ks i).1) := GR0_8.out.only ho (fun b h1 h2 hq => by have := L0.out; have := L1.out; have := L2.out; have := L3.out; have := L4.out; have := L5.out; have := L6.out; have := L7.out; omega)
    have BB9 : Hid (Below w.heap.size w w9) := BB8.out.trans (ho.below BB8.out.size fun b hb => by have := L0.out; have := L1.out; have := L2.out; have := L3.out; have := L4.out; have := L5.out; have := L6.out; have := L7.out; omega)
    have L8 : Hid (w8.heap.size ≤ w9.heap.size) := ho.size
    clear ho X0_8 WR0_8 GR0_8 BB8
    obtain ⟨n0, hn0⟩ : ∃ nz : Nat, nz = «fun».cnts ks := ⟨_, rfl⟩
    rw [← hn0] at hcn0 ⊢
    clear hn0
    have t2 : decide (((1 : Int) + (n0 : Nat) : Int) < 0) = false := by simp; omega
    go_wp2_with fail
    refine (ints.eq_any («fun».depthsF ks i).1 _ _ _ (ints.intsSh.mono (ints.intsp_rep GR0_9.out.rep) fun b hb => by have := GR0_9.out.top; have := L0.out; have := L1.out; have := L2.out; have := L3.out; have := L4.out; have := L5.out; have := L6.out; have := L7.out; have := L8.out; omega) (ints.intsSh.mono (ints.intsp_rep WR0_9.out.rep) fun b hb => by have := WR0_9.out.top; have := L0.out; have := L1.out; have := L2.out; have := L3.out; have := L4.out; have := L5.out; have := L6.out; have := L7.out; have := L8.out; omega)).mono ?_
    rintro e w10 ⟨rfl, hb⟩
    have WR0_10 : Hid (ItmR ints.intsSp w10 [u3_0] w2.heap.size w3.heap.size («fun».depthsF ks i).1) := WR0_9.out.on hb
    have GR0_10 : Hid (ItmR ints.intsSp w10 [u5_0] w4.heap.size w5.heap.size («fun».depthsF ks i).1) := GR0_9.out.on hb
    have BB10 : Hid (Below w.heap.size w w10) := BB9.out.trans (hb.mono BB9.out.size)
    have L9 : Hid (w9.heap.size ≤ w10.heap.size) := hb.size
    clear hb WR0_9 GR0_9 BB9
    have hcg0 : («fun».depthsF ks i).1.length ≤ 1073741824 := «fun».depths_bound ks i (by have := HW.out; omega)
    go_wp2_with fail
    refine (ints.mark_any («fun».depthsF ks i).1 _ _ (1) (fun b => w4.heap.size ≤ b ∧ b < w5.heap.size) (by omega) (by omega) (fun b hb => by have := GR0_10.out.top; have := L0.out; have := L1.out; have := L2.out; have := L3.out; have := L4.out; have := L5.out; have := L6.out; have := L7.out; have := L8.out; have := L9.out; omega) GR0_10.out.rep).mono ?_
    rintro e w11 ⟨rfl, hr, ho⟩
    have WR0_11 : Hid (ItmR ints.intsSp w11 [u3_0] w2.heap.size w3.heap.size («fun».depthsF ks i).1) := WR0_10.out.only ho (fun b h1 h2 hq => by have := L0.out; have := L1.out; have := L2.out; have := L3.out; have := L4.out; have := L5.out; have := L6.out; have := L7.out; have := L8.out; have := L9.out; omega)
    have BB11 : Hid (Below w.heap.size w w11) := BB10.out.trans (ho.below BB10.out.size fun b hb => by have := L0.out; have := L1.out; have := L2.out; have := L3.out; have := L4.out; have := L5.out; have := L6.out; have := L7.out; have := L8.out; have := L9.out; omega)
    have L10 : Hid (w10.heap.size ≤ w11.heap.size) := ho.size
    have GR0_11 : Hid (ItmR ints.intsSh w11 [u5_0] w4.heap.size w5.heap.size (ints.mks 1 («fun».depthsF ks i).1)) := ⟨Nat.le_trans GR0_10.out.top ho.size, ints.intsp_rep hr⟩
    clear ho hr GR0_10 WR0_10 BB10
    obtain ⟨m0, hm0⟩ : ∃ nz : Nat, nz = («fun».depthsF ks i).1.length := ⟨_, rfl⟩
    have HM0 : Hid (m0 = («fun».depthsF ks i).1.length) := hm0
    rw [← hm0] at hcg0 ⊢
    clear hm0
    go_wp2_with fail
    refine (ints.held_any («fun».depthsF ks i).1 _ _ (1) (by omega) (by rw [← HM0.out]; omega) (ints.intsSh.mono GR0_11.out.rep fun b hb => by have := GR0_11.out.top; have := L0.out; have := L1.out; have := L2.out; have := L3.out; have := L4.out; have := L5.out; have := L6.out; have := L7.out; have := L8.out; have := L9.out; have := L10.out; omega)).mono ?_
    rw [← HM0.out]
    rintro e w12 ⟨rfl, hb⟩
    have WR0_12 : Hid (ItmR ints.intsSp w12 [u3_0] w2.heap.size w3.heap.size («fun».depthsF ks i).1) := WR0_11.out.on hb
    have GR0_12 : Hid (ItmR ints.intsSh w12 [u5_0] w4.heap.size w5.heap.size (ints.mks 1 («fun».depthsF ks i).1)) := GR0_11.out.on hb
    have BB12 : Hid (Below w.heap.size w w12) := BB11.out.trans (hb.mono BB11.out.size)
    have L11 : Hid (w11.heap.size ≤ w12.heap.size) := hb.size
    clear hb WR0_11 GR0_11 BB11
    have t22 : decide (((1 : Int) + (m0 : Nat) : Int) < 0) = false := by simp; omega
    go_wp2_with fail
    refine («fun».toPS_any ks _ _ (by have := HW.out; omega) (AR0.out _ BB12.out)).mono ?_
    rintro e w13 ⟨⟨k13, rfl, r13⟩, hb⟩
    have WR0_13 : Hid (ItmR ints.intsSp w13 [u3_0] w2.heap.size w3.heap.size («fun».depthsF ks i).1) := WR0_12.out.on hb
    have GR0_13 : Hid (ItmR ints.intsSh w13 [u5_0] w4.heap.size w5.heap.size (ints.mks 1 («fun».depthsF ks i).1)) := GR0_12.out.on hb
    have BB13 : Hid (Below w.heap.size w w13) := BB12.out.trans (hb.mono BB12.out.size)
    have HC0_13 : Hid (ItmR «fun».funSp.sslice w13 [k13] w12.heap.size w13.heap.size ks) := ⟨Nat.le_refl _, r13⟩
    have L12 : Hid (w12.heap.size ≤ w13.heap.size) := hb.size
    clear hb r13 WR0_12 GR0_12 BB12
    go_wp2_with fail
    refine («fun».implDepths_std ks i _ _ HW.out hi1 hj1 (NS.out.on BB13.out) («fun».funSh.slice.mono («fun».funps_rep HC0_13.out.rep) fun b hb => by have := HC0_13.out.top; have := L0.out; have := L1.out; have := L2.out; have := L3.out; have := L4.out; have := L5.out; have := L6.out; have := L7.out; have := L8.out; have := L9.out; have := L10.out; have := L11.out; have := L12.out; omega)).mono ?_
    rintro e w14 ⟨⟨u14_0, rfl, r14_0⟩, hb⟩
    have WR0_14 : Hid (ItmR ints.intsSp w14 [u3_0] w2.heap.size w3.heap.size («fun».depthsF ks i).1) := WR0_13.out.on hb
    have GR0_14 : Hid (ItmR ints.intsSh w14 [u5_0] w4.heap.size w5.heap.size (ints.mks 1 («fun».depthsF ks i).1)) := GR0_13.out.on hb
    have BB14 : Hid (Below w.heap.size w w14) := BB13.out.trans (hb.mono BB13.out.size)
    have L13 : Hid (w13.heap.size ≤ w14.heap.size) := hb.size
    have HR0_14 : Hid (ItmR ints.intsSp w14 [u14_0] w13.heap.size w14.heap.size («fun».depthsF ks i).1) := ⟨Nat.le_refl _, r14_0⟩
    clear hb r14_0 WR0_13 GR0_13 BB13
    go_wp2_with fail
    refine (ints.eq_any («fun».depthsF ks i).1 _ _ _ (ints.intsSh.mono (ints.intsp_rep HR0_14.out.rep) fun b hb => by have := HR0_14.out.top; have := L0.out; have := L1.out; have := L2.out; have := L3.out; have := L4.out; have := L5.out; have := L6.out; have := L7.out; have := L8.out; have := L9.out; have := L10.out; have := L11.out; have := L12.out; have := L13.out; omega) (ints.intsSh.mono (ints.intsp_rep WR0_14.out.rep) fun b hb => by have := WR0_14.out.top; have := L0.out; have := L1.out; have := L2.out; have := L3.out; have := L4.out; have := L5.out; have := L6.out; have := L7.out; have := L8.out; have := L9.out; have := L10.out; have := L11.out; have := L12.out; have := L13.out; omega)).mono ?_
    rintro e w15 ⟨rfl, hb⟩
    have WR0_15 : Hid (ItmR ints.intsSp w15 [u3_0] w2.heap.size w3.heap.size («fun».depthsF ks i).1) := WR0_14.out.on hb
    have GR0_15 : Hid (ItmR ints.intsSh w15 [u5_0] w4.heap.size w5.heap.size (ints.mks 1 («fun».depthsF ks i).1)) := GR0_14.out.on hb
    have HR0_15 : Hid (ItmR ints.intsSp w15 [u14_0] w13.heap.size w14.heap.size («fun».depthsF ks i).1) := HR0_14.out.on hb
    have BB15 : Hid (Below w.heap.size w w15) := BB14.out.trans (hb.mono BB14.out.size)
    have L14 : Hid (w14.heap.size ≤ w15.heap.size) := hb.size
    clear hb WR0_14 GR0_14 HR0_14 BB14
    go_wp2_with fail
    refine (ints.held_any («fun».depthsF ks i).1 _ _ (1) (by omega) (by rw [← HM0.out]; omega) (ints.intsSh.mono GR0_15.out.rep fun b hb => by have := GR0_15.out.top; have := L0.out; have := L1.out; have := L2.out; have := L3.out; have := L4.out; have := L5.out; have := L6.out; have := L7.out; have := L8.out; have := L9.out; have := L10.out; have := L11.out; have := L12.out; have := L13.out; have := L14.out; omega)).mono ?_
    rw [← HM0.out]
    rintro e w16 ⟨rfl, hb⟩
    have WR0_16 : Hid (ItmR ints.intsSp w16 [u3_0] w2.heap.size w3.heap.size («fun».depthsF ks i).1) := WR0_15.out.on hb
    have GR0_16 : Hid (ItmR ints.intsSh w16 [u5_0] w4.heap.size w5.heap.size (ints.mks 1 («fun».depthsF ks i).1)) := GR0_15.out.on hb
    have BB16 : Hid (Below w.heap.size w w16) := BB15.out.trans (hb.mono BB15.out.size)
    have L15 : Hid (w15.heap.size ≤ w16.heap.size) := hb.size
    clear hb WR0_15 GR0_15 BB15
    have t26 : decide (((1 : Int) + (m0 : Nat) : Int) < 0) = false := by simp; omega
    go_wp2
    go_ret
    exact ⟨rfl, BB16.out⟩
  · have hl : left q0 (1048576) = -1 := by unfold left; rw [if_neg (by omega)]
    rw [hl]
    go_wp2
    go_ret
    exact ⟨rfl, BB1.out⟩

/-- WHAT THE WALKS GIVE, FOR EVERY ARGUMENT AND EVERY WORLD THAT HOLDS WHAT IS LISTED. -/
theorem contract (H : Type) (enc : TypeId × Value → H) (W : World) (base : Nat) (args : Array Value) (ds gs : List (DataW H)) (before : List MemPlace)
    (hval : ∀ (j : Nat) t v, Tryd.f3.params[j]? = some t → args[j]? = some v → Value.okWide Tryd.prog W .any base t v)
    (hW : DataW.Whole enc Tryd.prog Tryd.f3.params.toList Rows.fnExactDepthsSpec.vars false W args.toList ds gs before) (hL : laidMetH Tryd.prog Rows.fnExactDepthsRow.laid W) :
    Calls Tryd.prog 3 args W fun e W' => ∃ v, e = .returned v ∧ Rows.fnExactDepthsSpec.post enc Tryd.prog Tryd.f3 false true false false W args v W' := by
  have hW' := hW
  obtain ⟨p, q, hA0, hV, rfl, hfz, hnd⟩ := hW
  have hA : DataW.TrodAll enc Tryd.prog W 0 (fun _ => true) true Tryd.f3.params.toList args.toList ds p := hA0
  rw [Tryd.params3] at hA hval
  obtain ⟨v0, vs0, d0, ds0, p0, q0, hargs, rfl, rfl, h0, r0⟩ := trodAll_cons hA
  obtain ⟨v1, vs1, d1, ds1, p1, q1, rfl, rfl, rfl, h1, r1⟩ := trodAll_cons r0
  obtain ⟨rfl, rfl, rfl⟩ := trodAll_nil r1
  obtain rfl : args = #[v0, v1] := by cases args; simp_all
  have hV0 : DataW.TrodVars enc Tryd.prog W (fun _ => true) ["loop.example/g00323/impl.opNames"] gs q := hV
  obtain ⟨g1, rfl⟩ : ∃ g1, gs = [g1] := by
    obtain ⟨_, _, _, _, d, _, e, _⟩ := trodVars_one hV0
    exact ⟨d, e⟩
  have hN : «fun».Names W := «fun».names_of_laid (rest := []) hL
  have k0 := h0
  have lt0 : ∀ x ∈ p0, x.block < W.heap.size := by obtain ⟨m, hm⟩ := k0; exact DataW.trod_lt m _ _ _ hm
  obtain ⟨a0, len0, cap0, rfl⟩ := okWide_slice Tryd.underlying22 (hval 0 22 v0 rfl rfl)
  obtain ⟨ks, hT0⟩ : ∃ ks, «fun».funSh.slice.rep W (· < W.heap.size) [.slice a0 len0 cap0] ks := by
    obtain ⟨fuel, hf⟩ := h0
    exact «fun».opens_funs (enc := enc) (w := W) fuel fuel _ _ (Nat.le_refl _) hf
  obtain ⟨i, rfl, rfl, rfl, hx1⟩ := open_int Tryd.underlying3 (hval 1 3 v1 rfl rfl) h1
  clear hA0
  refine (walk ks i _ W (by have := bounds_i64 hx1; omega) (by have := bounds_i64 hx1; omega) hN hT0).mono fun e W' ⟨he, bel⟩ => ?_
  subst he
  exact ⟨_, rfl, _, _, _, [], _, _, hW', trodAll_mk1 (shut_bool Tryd.underlying4 _), (trodAll_cons_mk (Below.trod laidOut (by kernel_rfl) (of_decide_eq_true (by kernel_rfl)) k0 bel lt0) (trodAll_cons_mk (shut_int Tryd.underlying3 hx1) trodAll_mk0)), Below.trodVars laidOut bel (by kernel_rfl) hV0, bel.frame _, fun h => by cases h⟩

/-- A WORLD FOR THE WITNESS: the one that the program's own start leaves. -/
theorem laid_met (os : Os) : laidMet Tryd.prog Rows.fnExactDepthsRow.laid ((World.doorLaid Tryd.prog 35 os).forCall (fun _ _ => 0) ⟨#[], #[.slice none 0 0, .int .i64 0], []⟩).memory :=
  laidMet_of_run' 8 (by kernel_rfl) (by kernel_rfl)
theorem reads (os : Os) {H : Type} (enc : TypeId × Value → H) : ∃ places, DataW.whole enc Tryd.prog ((World.doorLaid Tryd.prog 35 os).forCall (fun _ _ => 0) ⟨#[], #[.slice none 0 0, .int .i64 0], []⟩).memory Tryd.f3.params.toList Rows.fnExactDepthsSpec.vars false #[Value.slice none 0 0, Value.int .i64 0].toList 8 = some ([.nil, .lit (.int .i64 0)], [«fun».nmData], places) :=
  ⟨MemPlace.row ⟨0, 0, none⟩ 110, by kernel_rfl⟩

set_option maxRecDepth 100000 in
theorem lifted (os : Os) (started : os.Started) (H : Type) (enc : TypeId × Value → H) (F : Stop.Interp) :
    ReturnsInHanded {} Tryd.checked os 3 .any ((OpenSpec.ofChange Rows.fnExactDepthsSpec).preRow enc Tryd.prog Tryd.f3 Rows.fnExactDepthsRow.domain false Rows.fnExactDepthsRow.laid) (((OpenSpec.ofChange Rows.fnExactDepthsSpec).at F).post enc Tryd.prog Tryd.f3 false true false false) := by
  obtain ⟨places, hx⟩ := reads os enc
  refine returnsInHanded_of_row (C := Tryd.checked) (s := OpenSpec.ofChange Rows.fnExactDepthsSpec) own started (by kernel_rfl) Tryd.func3
    (witness_row_at (enc := enc) (C := Tryd.checked) false (World.doorLaid Tryd.prog 35 os) #[.slice none 0 0, .int .i64 0] rfl (by kernel_rfl) (by kernel_rfl) (by kernel_rfl)
      (OpenSpec.preRow_of_cond 8 hx (by kernel_rfl) (fun k hk => by cases hk) (by kernel_rfl) (laid_met os))) ?_
  intro W base args ds gs before hval hW _ _ _ hL _ _
  exact contract H enc W base args ds gs before hval hW hL

theorem said : Rows.FnExactDepthsSaid :=
  OpenClaim.holds_of_cond 3 Tryd.f3 rfl rfl rfl rfl rfl rfl rfl ⟨rfl, rfl, rfl, rfl, rfl⟩ rfl rfl rfl rfl rfl (by kernel_rfl) Tryd.func3 (by kernel_rfl)
    (of_decide_eq_true (by kernel_rfl)) (by unfold Func.isWrapper; first | (rw [if_pos (by decide +kernel)]; kernel_rfl) | (rw [if_neg (by decide +kernel)]; exact ⟨rfl, rfl⟩))
    (fun os started H enc _ F => by rw [OpenClaim.pre_eq_preRow]; exact lifted os started H enc F)

theorem plain (f : FuncId) (fn : Func) (hf : Tryd.pinned.checked.prog.funcNamed "loop.example/g00323/laws.FnExactDepths" = some f) (hfn : Tryd.pinned.checked.prog.funcs[f]? = some fn) :
    false = Tryd.pinned.checked.prog.looks [] ∧ ∀ (j : Nat) t, fn.params[j]? = some t → Tryd.pinned.checked.prog.wantsStandIn t = false := by
  obtain rfl : f = 3 := Option.some.inj ((show Tryd.prog.funcNamed "loop.example/g00323/laws.FnExactDepths" = some 3 by kernel_rfl).symm.trans hf) |>.symm
  obtain rfl : fn = Tryd.f3 := (Option.some.inj (Tryd.func3.symm.trans hfn)).symm
  refine ⟨by kernel_rfl, fun j t ht => ?_⟩
  rw [Tryd.params3] at ht
  have hm := Array.mem_of_getElem? ht
  simp only [List.mem_toArray, List.mem_cons, List.mem_nil_iff, or_false] at hm
  rcases hm with rfl | rfl
  · exact (show Tryd.prog.wantsStandIn 22 = false by kernel_rfl)
  · exact (show Tryd.prog.wantsStandIn 3 = false by kernel_rfl)

/-- THE CARD. -/
theorem card : Rows.FnExactDepthsCardSaid :=
  Claim7.holds_tied_plain_at .later [] _ _ _ _ said (fun _ h => by cases h) (by kernel_rfl) (fun _ h => by cases h) fnExactDepths_row_tie rfl ⟨rfl, rfl⟩ (by kernel_rfl) rfl plain (by kernel_rfl)
#print axioms card
end Go.Proofs.YtjoaiaeohlhbkaaDoor.fnExactDepths
