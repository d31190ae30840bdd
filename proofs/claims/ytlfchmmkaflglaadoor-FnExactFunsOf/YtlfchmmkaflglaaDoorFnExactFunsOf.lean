/-
  At every argument the program's function answers as its model, writes nothing into an argument, and its answer owns its memory; the law's call returns true, and the arguments read as they read before. No condition.
-/
import Derived.Test.YtlfchmmkaflglaaDoorCards
import Derived.Test.YtlfchmmkaflglaaDoorTie
import Derived.Test.YtlfchmmkaflglaaDoorNamesLaid
import Derived.WalkKit
import Derived.OpenShut
import Derived.LaidMore
import Derived.Stop.LaidErr
import Derived.OpenVars
import Derived.Test.YtlfchmmkaflglaaDoorItems2
import Derived.Test.YtlfchmmkaflglaaDoorBytesMk
import Derived.Test.YtlfchmmkaflglaaDoorBytesTo
import Derived.Test.YtlfchmmkaflglaaDoorBytesArg
import Derived.Test.YtlfchmmkaflglaaDoorFunEq
import Derived.Test.YtlfchmmkaflglaaDoorFunMark
import Derived.Test.YtlfchmmkaflglaaDoorFunHeld
import Derived.Test.YtlfchmmkaflglaaDoorFunsOfStd
import Derived.ProofKit
import Derived.Deep.DeepHandedRow
import Derived.ChangeOld
import Derived.Carry
namespace Go.Proofs.YtlfchmmkaflglaaDoor.fnExactFunsOf
open Go.ChangeShapes Go.WideShapes Go.ChangeAt Go.RowKit Go.Proofs.YtlfchmmkaflglaaDoor.rose Go.Proofs.YtlfchmmkaflglaaDoor
open Go.ChangeMaps (open_string shut_string)
set_option linter.unusedVariables false

theorem own : ownKnob Tryd.prog.godebug = none := by kernel_rfl
theorem laidOut : laidOutB Tryd.prog = true := by kernel_rfl

set_option maxRecDepth 100000 in
set_option maxHeartbeats 8000000 in
theorem walk (b : List Int) (va0 : Value) (w : World) (hN : «fun».Names w) (h0 : byts.bytesSh.rep w (· < w.heap.size) [va0] b) :
    Calls Tryd.prog 4 #[va0] w fun e w' => e = .returned (.bool true) ∧ Below w.heap.size w w' := by
  have AR0 : Hid (∀ W : World, Below w.heap.size w W → byts.bytesSh.rep W (· < W.heap.size) [va0] b) := fun W hb => byts.bytesSh.mono (byts.bytesSh.below h0 hb) fun b hlt => Nat.lt_of_lt_of_le hlt hb.size
  obtain ⟨ad0, cp0, hva0⟩ : ∃ a c, va0 = .slice a b.length c := by obtain ⟨a, c, e⟩ := slice_cells h0; simp only [List.cons.injEq, and_true] at e; exact ⟨a, c, e⟩
  subst hva0
  clear h0
  have NS : Hid («fun».Names w) := hN
  clear hN
  have BB0 : Hid (Below w.heap.size w w) := Below.refl _ w
  by_cases hl0 : (1048576 : Int) < (b.length : Int)
  · go_enter Tryd.func4, Tryd.ntmps4
    go_wp2
    go_ret
    exact ⟨rfl, Below.refl _ _⟩
  have hs0 : (b.length : Int) ≤ 1048576 := by omega
  have HL0 : Hid (b.length ≤ 1048576) := by show _ ≤ _; omega
  go_enter Tryd.func4, Tryd.ntmps4
  go_wp2_with fail
  refine (byts.toPS_any b _ _ HL0.out (AR0.out _ BB0.out)).mono ?_
  rintro e w1 ⟨⟨k1, rfl, r1⟩, hb⟩
  have BB1 : Hid (Below w.heap.size w w1) := BB0.out.trans (hb.mono BB0.out.size)
  have L0 : Hid (w.heap.size + 0 ≤ w1.heap.size) := by have := hb.size; (try simp at this); show _ ≤ _; omega
  have WC0_1 : Hid (ItmR byts.bytesSp w1 [k1] w.heap.size w1.heap.size b) := ⟨Nat.le_refl _, r1⟩
  have L1 : Hid (w.heap.size ≤ w1.heap.size) := hb.size
  clear hb r1 BB0
  go_wp2_with fail
  refine («fun».specFunsOf b _ _ HL0.out (byts.bytesSh.mono (byts.bytesp_rep WC0_1.out.rep) fun b hb => by have := WC0_1.out.top; have := L0.out; have := L1.out; omega)).mono ?_
  rintro e w2 ⟨⟨u2_0, rfl, r2_0⟩, hb⟩
  have BB2 : Hid (Below w.heap.size w w2) := BB1.out.trans (hb.mono BB1.out.size)
  have L2 : Hid (w1.heap.size ≤ w2.heap.size) := hb.size
  have WR0_2 : Hid (ItmR «fun».funSp.sslice w2 [u2_0] w1.heap.size w2.heap.size («fun».funsOfB b).1) := ⟨Nat.le_refl _, r2_0⟩
  clear hb r2_0 BB1
  go_wp2_with fail
  refine (byts.toPS_any b _ _ HL0.out (AR0.out _ BB2.out)).mono ?_
  rintro e w3 ⟨⟨k3, rfl, r3⟩, hb⟩
  have WR0_3 : Hid (ItmR «fun».funSp.sslice w3 [u2_0] w1.heap.size w2.heap.size («fun».funsOfB b).1) := WR0_2.out.on hb
  have BB3 : Hid (Below w.heap.size w w3) := BB2.out.trans (hb.mono BB2.out.size)
  have L3 : Hid (w2.heap.size ≤ w3.heap.size) := hb.size
  have X0_3 : Hid (ItmR byts.bytesSp w3 [k3] w2.heap.size w3.heap.size b) := ⟨Nat.le_refl _, r3⟩
  clear hb r3 WR0_2 BB2
  go_wp2_with fail
  refine («fun».implFunsOf b _ _ HL0.out (NS.out.on BB3.out) (byts.bytesSh.mono (byts.bytesp_rep X0_3.out.rep) fun b hb => by have := X0_3.out.top; have := L0.out; have := L1.out; have := L2.out; have := L3.out; omega)).mono ?_
  rintro e w4 ⟨⟨u4_0, rfl, r4_0⟩, hb⟩
  have WR0_4 : Hid (ItmR «fun».funSp.sslice w4 [u2_0] w1.heap.size w2.heap.size («fun».funsOfB b).1) := WR0_3.out.on hb
  have X0_4 : Hid (ItmR byts.bytesSp w4 [k3] w2.heap.size w3.heap.size b) := X0_3.out.on hb
  have BB4 : Hid (Below w.heap.size w w4) := BB3.out.trans (hb.mono BB3.out.size)
  have L4 : Hid (w3.heap.size ≤ w4.heap.size) := hb.size
  have GR0_4 : Hid (ItmR «fun».funSp.sslice w4 [u4_0] w3.heap.size w4.heap.size («fun».funsOfB b).1) := ⟨Nat.le_refl _, r4_0⟩
  clear hb r4_0 WR0_3 X0_3 BB3
  go_wp2_with fail
  refine («fun».eqS_any («fun».funsOfB b).1 _ _ _ («fun».funSh.slice.mono («fun».funps_rep GR0_4.out.rep) fun b hb => by have := GR0_4.out.top; have := L0.out; have := L1.out; have := L2.out; have := L3.out; have := L4.out; omega) («fun».funSh.slice.mono («fun».funps_rep WR0_4.out.rep) fun b hb => by have := WR0_4.out.top; have := L0.out; have := L1.out; have := L2.out; have := L3.out; have := L4.out; omega)).mono ?_
  rintro e w5 ⟨rfl, hb⟩
  have WR0_5 : Hid (ItmR «fun».funSp.sslice w5 [u2_0] w1.heap.size w2.heap.size («fun».funsOfB b).1) := WR0_4.out.on hb
  have X0_5 : Hid (ItmR byts.bytesSp w5 [k3] w2.heap.size w3.heap.size b) := X0_4.out.on hb
  have GR0_5 : Hid (ItmR «fun».funSp.sslice w5 [u4_0] w3.heap.size w4.heap.size («fun».funsOfB b).1) := GR0_4.out.on hb
  have BB5 : Hid (Below w.heap.size w w5) := BB4.out.trans (hb.mono BB4.out.size)
  have L5 : Hid (w4.heap.size ≤ w5.heap.size) := hb.size
  clear hb WR0_4 X0_4 GR0_4 BB4
  go_wp2_with fail
  refine (byts.toPS_any b _ _ HL0.out (AR0.out _ BB5.out)).mono ?_
  rintro e w6 ⟨⟨k6, rfl, r6⟩, hb⟩
  have WR0_6 : Hid (ItmR «fun».funSp.sslice w6 [u2_0] w1.heap.size w2.heap.size («fun».funsOfB b).1) := WR0_5.out.on hb
  have X0_6 : Hid (ItmR byts.bytesSp w6 [k3] w2.heap.size w3.heap.size b) := X0_5.out.on hb
  have GR0_6 : Hid (ItmR «fun».funSp.sslice w6 [u4_0] w3.heap.size w4.heap.size («fun».funsOfB b).1) := GR0_5.out.on hb
  have BB6 : Hid (Below w.heap.size w w6) := BB5.out.trans (hb.mono BB5.out.size)
  have L6 : Hid (w5.heap.size ≤ w6.heap.size) := hb.size
  have RT : Hid (byts.bytesSh.rep w6 (· < w6.heap.size) [k6] b) := byts.bytesSh.mono (byts.bytesp_rep r6) fun b hb => hb.2
  clear hb r6 WR0_5 X0_5 GR0_5 BB5
  go_wp2_with fail
  refine (byts.eq_any b _ _ _ (byts.bytesSh.mono (byts.bytesp_rep X0_6.out.rep) fun b hb => by have := X0_6.out.top; have := L0.out; have := L1.out; have := L2.out; have := L3.out; have := L4.out; have := L5.out; have := L6.out; omega) RT.out).mono ?_
  rintro e w7 ⟨rfl, hb⟩
  have WR0_7 : Hid (ItmR «fun».funSp.sslice w7 [u2_0] w1.heap.size w2.heap.size («fun».funsOfB b).1) := WR0_6.out.on hb
  have X0_7 : Hid (ItmR byts.bytesSp w7 [k3] w2.heap.size w3.heap.size b) := X0_6.out.on hb
  have GR0_7 : Hid (ItmR «fun».funSp.sslice w7 [u4_0] w3.heap.size w4.heap.size («fun».funsOfB b).1) := GR0_6.out.on hb
  have BB7 : Hid (Below w.heap.size w w7) := BB6.out.trans (hb.mono BB6.out.size)
  have L7 : Hid (w6.heap.size ≤ w7.heap.size) := hb.size
  clear hb RT WR0_6 X0_6 GR0_6 BB6
  go_wp2_with fail
  refine (byts.mark_any b _ _ (1) (fun b => w2.heap.size ≤ b ∧ b < w3.heap.size) (by omega) (by omega) (fun b hb => by have := X0_7.out.top; have := L0.out; have := L1.out; have := L2.out; have := L3.out; have := L4.out; have := L5.out; have := L6.out; have := L7.out; omega) X0_7.out.rep).mono ?_
  rintro e w8 ⟨rfl, -, ho⟩
  have WR0_8 : Hid (ItmR «fun».funSp.sslice w8 [u2_0] w1.heap.size w2.heap.size («fun».funsOfB b).1) := WR0_7.out.only ho (fun b h1 h2 hq => by have := L0.out; have := L1.out; have := L2.out; have := L3.out; have := L4.out; have := L5.out; have := L6.out; have := L7.out; omega)
  have GR0_8 : Hid (ItmR «fun».funSp.sslice w8 [u4_0] w3.heap.size w4.heap.size («fun».funsOfB b).1) := GR0_7.out.only ho (fun b h1 h2 hq => by have := L0.out; have := L1.out; have := L2.out; have := L3.out; have := L4.out; have := L5.out; have := L6.out; have := L7.out; omega)
  have BB8 : Hid (Below w.heap.size w w8) := BB7.out.trans (ho.below BB7.out.size fun b hb => by have := L0.out; have := L1.out; have := L2.out; have := L3.out; have := L4.out; have := L5.out; have := L6.out; have := L7.out; omega)
  have L8 : Hid (w7.heap.size ≤ w8.heap.size) := ho.size
  clear ho X0_7 WR0_7 GR0_7 BB7
  have t2 : decide (((1 : Int) + (b.length : Nat) : Int) < 0) = false := by simp; omega
  go_wp2_with fail
  refine («fun».eqS_any («fun».funsOfB b).1 _ _ _ («fun».funSh.slice.mono («fun».funps_rep GR0_8.out.rep) fun b hb => by have := GR0_8.out.top; have := L0.out; have := L1.out; have := L2.out; have := L3.out; have := L4.out; have := L5.out; have := L6.out; have := L7.out; have := L8.out; omega) («fun».funSh.slice.mono («fun».funps_rep WR0_8.out.rep) fun b hb => by have := WR0_8.out.top; have := L0.out; have := L1.out; have := L2.out; have := L3.out; have := L4.out; have := L5.out; have := L6.out; have := L7.out; have := L8.out; omega)).mono ?_
  rintro e w9 ⟨rfl, hb⟩
  have WR0_9 : Hid (ItmR «fun».funSp.sslice w9 [u2_0] w1.heap.size w2.heap.size («fun».funsOfB b).1) := WR0_8.out.on hb
  have GR0_9 : Hid (ItmR «fun».funSp.sslice w9 [u4_0] w3.heap.size w4.heap.size («fun».funsOfB b).1) := GR0_8.out.on hb
  have BB9 : Hid (Below w.heap.size w w9) := BB8.out.trans (hb.mono BB8.out.size)
  have L9 : Hid (w8.heap.size ≤ w9.heap.size) := hb.size
  clear hb WR0_8 GR0_8 BB8
  have hcg0 : «fun».cnts («fun».funsOfB b).1 ≤ 1073741824 := «fun».funsOf_bound b
  go_wp2_with fail
  refine («fun».markS_any («fun».funsOfB b).1 _ _ (1) (fun b => w3.heap.size ≤ b ∧ b < w4.heap.size) (by omega) (by omega) (fun b hb => by have := GR0_9.out.top; have := L0.out; have := L1.out; have := L2.out; have := L3.out; have := L4.out; have := L5.out; have := L6.out; have := L7.out; have := L8.out; have := L9.out; omega) GR0_9.out.rep).mono ?_
  rintro e w10 ⟨rfl, hr, ho⟩
  have WR0_10 : Hid (ItmR «fun».funSp.sslice w10 [u2_0] w1.heap.size w2.heap.size («fun».funsOfB b).1) := WR0_9.out.only ho (fun b h1 h2 hq => by have := L0.out; have := L1.out; have := L2.out; have := L3.out; have := L4.out; have := L5.out; have := L6.out; have := L7.out; have := L8.out; have := L9.out; omega)
  have BB10 : Hid (Below w.heap.size w w10) := BB9.out.trans (ho.below BB9.out.size fun b hb => by have := L0.out; have := L1.out; have := L2.out; have := L3.out; have := L4.out; have := L5.out; have := L6.out; have := L7.out; have := L8.out; have := L9.out; omega)
  have L10 : Hid (w9.heap.size ≤ w10.heap.size) := ho.size
  have GR0_10 : Hid (ItmR «fun».funSh.slice w10 [u4_0] w3.heap.size w4.heap.size («fun».mks 1 («fun».funsOfB b).1)) := ⟨Nat.le_trans GR0_9.out.top ho.size, «fun».funps_rep hr⟩
  clear ho hr GR0_9 WR0_9 BB9
  obtain ⟨m0, hm0⟩ : ∃ nz : Nat, nz = «fun».cnts («fun».funsOfB b).1 := ⟨_, rfl⟩
  have HM0 : Hid (m0 = «fun».cnts («fun».funsOfB b).1) := hm0
  rw [← hm0] at hcg0 ⊢
  clear hm0
  go_wp2_with fail
  refine («fun».heldS_any («fun».funsOfB b).1 _ _ (1) (by omega) (by rw [← HM0.out]; omega) («fun».funSh.slice.mono GR0_10.out.rep fun b hb => by have := GR0_10.out.top; have := L0.out; have := L1.out; have := L2.out; have := L3.out; have := L4.out; have := L5.out; have := L6.out; have := L7.out; have := L8.out; have := L9.out; have := L10.out; omega)).mono ?_
  rw [← HM0.out]
  rintro e w11 ⟨rfl, hb⟩
  have WR0_11 : Hid (ItmR «fun».funSp.sslice w11 [u2_0] w1.heap.size w2.heap.size («fun».funsOfB b).1) := WR0_10.out.on hb
  have GR0_11 : Hid (ItmR «fun».funSh.slice w11 [u4_0] w3.heap.size w4.heap.size («fun».mks 1 («fun».funsOfB b).1)) := GR0_10.out.on hb
  have BB11 : Hid (Below w.heap.size w w11) := BB10.out.trans (hb.mono BB10.out.size)
  have L11 : Hid (w10.heap.size ≤ w11.heap.size) := hb.size
  clear hb WR0_10 GR0_10 BB10
  have t21 : decide (((1 : Int) + (m0 : Nat) : Int) < 0) = false := by simp; omega
  go_wp2_with fail
  refine (byts.toPS_any b _ _ HL0.out (AR0.out _ BB11.out)).mono ?_
  rintro e w12 ⟨⟨k12, rfl, r12⟩, hb⟩
  have WR0_12 : Hid (ItmR «fun».funSp.sslice w12 [u2_0] w1.heap.size w2.heap.size («fun».funsOfB b).1) := WR0_11.out.on hb
  have GR0_12 : Hid (ItmR «fun».funSh.slice w12 [u4_0] w3.heap.size w4.heap.size («fun».mks 1 («fun».funsOfB b).1)) := GR0_11.out.on hb
  have BB12 : Hid (Below w.heap.size w w12) := BB11.out.trans (hb.mono BB11.out.size)
  have HC0_12 : Hid (ItmR byts.bytesSp w12 [k12] w11.heap.size w12.heap.size b) := ⟨Nat.le_refl _, r12⟩
  have L12 : Hid (w11.heap.size ≤ w12.heap.size) := hb.size
  clear hb r12 WR0_11 GR0_11 BB11
  go_wp2_with fail
  refine («fun».implFunsOf b _ _ HL0.out (NS.out.on BB12.out) (byts.bytesSh.mono (byts.bytesp_rep HC0_12.out.rep) fun b hb => by have := HC0_12.out.top; have := L0.out; have := L1.out; have := L2.out; have := L3.out; have := L4.out; have := L5.out; have := L6.out; have := L7.out; have := L8.out; have := L9.out; have := L10.out; have := L11.out; have := L12.out; omega)).mono ?_
  rintro e w13 ⟨⟨u13_0, rfl, r13_0⟩, hb⟩
  have WR0_13 : Hid (ItmR «fun».funSp.sslice w13 [u2_0] w1.heap.size w2.heap.size («fun».funsOfB b).1) := WR0_12.out.on hb
  have GR0_13 : Hid (ItmR «fun».funSh.slice w13 [u4_0] w3.heap.size w4.heap.size («fun».mks 1 («fun».funsOfB b).1)) := GR0_12.out.on hb
  have BB13 : Hid (Below w.heap.size w w13) := BB12.out.trans (hb.mono BB12.out.size)
  have L13 : Hid (w12.heap.size ≤ w13.heap.size) := hb.size
  have HR0_13 : Hid (ItmR «fun».funSp.sslice w13 [u13_0] w12.heap.size w13.heap.size («fun».funsOfB b).1) := ⟨Nat.le_refl _, r13_0⟩
  clear hb r13_0 WR0_12 GR0_12 BB12
  go_wp2_with fail
  refine («fun».eqS_any («fun».funsOfB b).1 _ _ _ («fun».funSh.slice.mono («fun».funps_rep HR0_13.out.rep) fun b hb => by have := HR0_13.out.top; have := L0.out; have := L1.out; have := L2.out; have := L3.out; have := L4.out; have := L5.out; have := L6.out; have := L7.out; have := L8.out; have := L9.out; have := L10.out; have := L11.out; have := L12.out; have := L13.out; omega) («fun».funSh.slice.mono («fun».funps_rep WR0_13.out.rep) fun b hb => by have := WR0_13.out.top; have := L0.out; have := L1.out; have := L2.out; have := L3.out; have := L4.out; have := L5.out; have := L6.out; have := L7.out; have := L8.out; have := L9.out; have := L10.out; have := L11.out; have := L12.out; have := L13.out; omega)).mono ?_
  rintro e w14 ⟨rfl, hb⟩
  have WR0_14 : Hid (ItmR «fun».funSp.sslice w14 [u2_0] w1.heap.size w2.heap.size («fun».funsOfB b).1) := WR0_13.out.on hb
  have GR0_14 : Hid (ItmR «fun».funSh.slice w14 [u4_0] w3.heap.size w4.heap.size («fun».mks 1 («fun».funsOfB b).1)) := GR0_13.out.on hb
  have HR0_14 : Hid (ItmR «fun».funSp.sslice w14 [u13_0] w12.heap.size w13.heap.size («fun».funsOfB b).1) := HR0_13.out.on hb
  have BB14 : Hid (Below w.heap.size w w14) := BB13.out.trans (hb.mono BB13.out.size)
  have L14 : Hid (w13.heap.size ≤ w14.heap.size) := hb.size
  clear hb WR0_13 GR0_13 HR0_13 BB13
  go_wp2_with fail
  refine («fun».heldS_any («fun».funsOfB b).1 _ _ (1) (by omega) (by rw [← HM0.out]; omega) («fun».funSh.slice.mono GR0_14.out.rep fun b hb => by have := GR0_14.out.top; have := L0.out; have := L1.out; have := L2.out; have := L3.out; have := L4.out; have := L5.out; have := L6.out; have := L7.out; have := L8.out; have := L9.out; have := L10.out; have := L11.out; have := L12.out; have := L13.out; have := L14.out; omega)).mono ?_
  rw [← HM0.out]
  rintro e w15 ⟨rfl, hb⟩
  have WR0_15 : Hid (ItmR «fun».funSp.sslice w15 [u2_0] w1.heap.size w2.heap.size («fun».funsOfB b).1) := WR0_14.out.on hb
  have GR0_15 : Hid (ItmR «fun».funSh.slice w15 [u4_0] w3.heap.size w4.heap.size («fun».mks 1 («fun».funsOfB b).1)) := GR0_14.out.on hb
  have BB15 : Hid (Below w.heap.size w w15) := BB14.out.trans (hb.mono BB14.out.size)
  have L15 : Hid (w14.heap.size ≤ w15.heap.size) := hb.size
  clear hb WR0_14 GR0_14 BB14
  have t25 : decide (((1 : Int) + (m0 : Nat) : Int) < 0) = false := by simp; omega
  go_wp2
  go_ret
  exact ⟨rfl, BB15.out⟩

/-- WHAT THE WALKS GIVE, FOR EVERY ARGUMENT AND EVERY WORLD THAT HOLDS WHAT IS LISTED. -/
theorem contract (H : Type) (enc : TypeId × Value → H) (W : World) (base : Nat) (args : Array Value) (ds gs : List (DataW H)) (before : List MemPlace)
    (hval : ∀ (j : Nat) t v, Tryd.f4.params[j]? = some t → args[j]? = some v → Value.okWide Tryd.prog W .any base t v)
    (hW : DataW.Whole enc Tryd.prog Tryd.f4.params.toList Rows.fnExactFunsOfSpec.vars false W args.toList ds gs before) (hL : laidMetH Tryd.prog Rows.fnExactFunsOfRow.laid W) :
    Calls Tryd.prog 4 args W fun e W' => ∃ v, e = .returned v ∧ Rows.fnExactFunsOfSpec.post enc Tryd.prog Tryd.f4 false true false false W args v W' := by
  have hW' := hW
  obtain ⟨p, q, hA0, hV, rfl, hfz, hnd⟩ := hW
  have hA : DataW.TrodAll enc Tryd.prog W 0 (fun _ => true) true Tryd.f4.params.toList args.toList ds p := hA0
  rw [Tryd.params4] at hA hval
  obtain ⟨v0, vs0, d0, ds0, p0, q0, hargs, rfl, rfl, h0, r0⟩ := trodAll_cons hA
  obtain ⟨rfl, rfl, rfl⟩ := trodAll_nil r0
  obtain rfl : args = #[v0] := by cases args; simp_all
  have hV0 : DataW.TrodVars enc Tryd.prog W (fun _ => true) ["loop.example/g00323/impl.opNames"] gs q := hV
  obtain ⟨g1, rfl⟩ : ∃ g1, gs = [g1] := by
    obtain ⟨_, _, _, _, d, _, e, _⟩ := trodVars_one hV0
    exact ⟨d, e⟩
  have hN : «fun».Names W := «fun».names_of_laid (rest := []) hL
  have k0 := h0
  have lt0 : ∀ x ∈ p0, x.block < W.heap.size := by obtain ⟨m, hm⟩ := k0; exact DataW.trod_lt m _ _ _ hm
  obtain ⟨a0, len0, cap0, rfl⟩ := okWide_slice Tryd.underlying24 (hval 0 24 v0 rfl rfl)
  obtain ⟨b, hT0⟩ : ∃ ks, byts.bytesSh.rep W (· < W.heap.size) [.slice a0 len0 cap0] ks := by
    obtain ⟨fuel, hf⟩ := h0
    exact opens_bytes (enc := enc) (w := W) fuel fuel _ _ (Nat.le_refl _) hf
  clear hA0
  refine (walk b _ W hN hT0).mono fun e W' ⟨he, bel⟩ => ?_
  subst he
  exact ⟨_, rfl, _, _, _, [], _, _, hW', trodAll_mk1 (shut_bool Tryd.underlying4 _), (trodAll_cons_mk (Below.trod laidOut (by kernel_rfl) (of_decide_eq_true (by kernel_rfl)) k0 bel lt0) trodAll_mk0), Below.trodVars laidOut bel (by kernel_rfl) hV0, bel.frame _, fun h => by cases h⟩

/-- A WORLD FOR THE WITNESS: the one that the program's own start leaves. -/
theorem laid_met (os : Os) : laidMet Tryd.prog Rows.fnExactFunsOfRow.laid ((World.doorLaid Tryd.prog 35 os).forCall (fun _ _ => 0) ⟨#[], #[.slice none 0 0], []⟩).memory :=
  laidMet_of_run' 8 (by kernel_rfl) (by kernel_rfl)
theorem reads (os : Os) {H : Type} (enc : TypeId × Value → H) : ∃ places, DataW.whole enc Tryd.prog ((World.doorLaid Tryd.prog 35 os).forCall (fun _ _ => 0) ⟨#[], #[.slice none 0 0], []⟩).memory Tryd.f4.params.toList Rows.fnExactFunsOfSpec.vars false #[Value.slice none 0 0].toList 8 = some ([.nil], [«fun».nmData], places) :=
  ⟨MemPlace.row ⟨0, 0, none⟩ 110, by kernel_rfl⟩

set_option maxRecDepth 100000 in
theorem lifted (os : Os) (started : os.Started) (H : Type) (enc : TypeId × Value → H) (F : Stop.Interp) :
    ReturnsInHanded {} Tryd.checked os 4 .any ((OpenSpec.ofChange Rows.fnExactFunsOfSpec).preRow enc Tryd.prog Tryd.f4 Rows.fnExactFunsOfRow.domain false Rows.fnExactFunsOfRow.laid) (((OpenSpec.ofChange Rows.fnExactFunsOfSpec).at F).post enc Tryd.prog Tryd.f4 false true false false) := by
  obtain ⟨places, hx⟩ := reads os enc
  refine returnsInHanded_of_row (C := Tryd.checked) (s := OpenSpec.ofChange Rows.fnExactFunsOfSpec) own started (by kernel_rfl) Tryd.func4
    (witness_row_at (enc := enc) (C := Tryd.checked) false (World.doorLaid Tryd.prog 35 os) #[.slice none 0 0] rfl (by kernel_rfl) (by kernel_rfl) (by kernel_rfl)
      (OpenSpec.preRow_of_cond 8 hx (by kernel_rfl) (fun k hk => by cases hk) (by kernel_rfl) (laid_met os))) ?_
  intro W base args ds gs before hval hW _ _ _ hL _ _
  exact contract H enc W base args ds gs before hval hW hL

theorem said : Rows.FnExactFunsOfSaid :=
  OpenClaim.holds_of_cond 4 Tryd.f4 rfl rfl rfl rfl rfl rfl rfl ⟨rfl, rfl, rfl, rfl, rfl⟩ rfl rfl rfl rfl rfl (by kernel_rfl) Tryd.func4 (by kernel_rfl)
    (of_decide_eq_true (by kernel_rfl)) (by unfold Func.isWrapper; first | (rw [if_pos (by decide +kernel)]; kernel_rfl) | (rw [if_neg (by decide +kernel)]; exact ⟨rfl, rfl⟩))
    (fun os started H enc _ F => by rw [OpenClaim.pre_eq_preRow]; exact lifted os started H enc F)

theorem plain (f : FuncId) (fn : Func) (hf : Tryd.pinned.checked.prog.funcNamed "loop.example/g00323/laws.FnExactFunsOf" = some f) (hfn : Tryd.pinned.checked.prog.funcs[f]? = some fn) :
    false = Tryd.pinned.checked.prog.looks [] ∧ ∀ (j : Nat) t, fn.params[j]? = some t → Tryd.pinned.checked.prog.wantsStandIn t = false := by
  obtain rfl : f = 4 := Option.some.inj ((show Tryd.prog.funcNamed "loop.example/g00323/laws.FnExactFunsOf" = some 4 by kernel_rfl).symm.trans hf) |>.symm
  obtain rfl : fn = Tryd.f4 := (Option.some.inj (Tryd.func4.symm.trans hfn)).symm
  refine ⟨by kernel_rfl, fun j t ht => ?_⟩
  rw [Tryd.params4] at ht
  have hm := Array.mem_of_getElem? ht
  simp only [List.mem_toArray, List.mem_cons, List.mem_nil_iff, or_false] at hm
  rcases hm with rfl
  exact (show Tryd.prog.wantsStandIn 24 = false by kernel_rfl)

/-- THE CARD. -/
theorem card : Rows.FnExactFunsOfCardSaid :=
  Claim7.holds_tied_plain_at .later [] _ _ _ _ said (fun _ h => by cases h) (by kernel_rfl) (fun _ h => by cases h) fnExactFunsOf_row_tie rfl ⟨rfl, rfl⟩ (by kernel_rfl) rfl plain (by kernel_rfl)
#print axioms card
end Go.Proofs.YtlfchmmkaflglaaDoor.fnExactFunsOf
