/-
  For every bytes of a draw the law FnHeap returns true: what is allocated of a drawn heap is there, all else is as it was; the argument reads as it read before.
-/
import Derived.Test.YtigcpigmfcgaoaaRows
import Derived.Deep.RegionHeld3
import Derived.WalkKit
import Derived.ProofKit
import Derived.OpenShut
import Derived.Deep.DeepHandedRow
import Derived.ChangeOld
import Derived.Below
import Derived.Carry
import Derived.Test.YtigcpigmfcgaoaaB1
import Derived.Test.YtigcpigmfcgaoaaB2
import Derived.Test.YtigcpigmfcgaoaaB3
import Derived.Test.YtigcpigmfcgaoaaB4
import Derived.Test.YtigcpigmfcgaoaaB5
import Derived.Test.YtigcpigmfcgaoaaB6
import Derived.Test.YtigcpigmfcgaoaaB7
import Derived.Test.YtigcpigmfcgaoaaB8
import Derived.Test.YtigcpigmfcgaoaaB9
import Derived.Test.YtigcpigmfcgaoaaB10
import Derived.Test.YtigcpigmfcgaoaaB11
import Derived.Test.YtigcpigmfcgaoaaB12
import Derived.Test.YtigcpigmfcgaoaaB13
import Derived.Test.YtigcpigmfcgaoaaB14
import Derived.Test.YtigcpigmfcgaoaaB15
import Derived.Test.YtigcpigmfcgaoaaB16
import Derived.Test.YtigcpigmfcgaoaaB17
import Derived.Test.YtigcpigmfcgaoaaB18
import Derived.Test.YtigcpigmfcgaoaaB19
import Derived.Test.YtigcpigmfcgaoaaB20
import Derived.Test.YtigcpigmfcgaoaaB21
import Derived.Test.YtigcpigmfcgaoaaB22
import Derived.Test.YtigcpigmfcgaoaaB23
import Derived.Test.YtigcpigmfcgaoaaB24
import Derived.Test.YtigcpigmfcgaoaaB25
import Derived.Test.YtigcpigmfcgaoaaB26
import Derived.Test.YtigcpigmfcgaoaaB27
import Derived.Test.YtigcpigmfcgaoaaB28
import Derived.Test.YtigcpigmfcgaoaaB29
import Derived.Test.YtigcpigmfcgaoaaB30
import Derived.Test.YtigcpigmfcgaoaaB31
import Derived.Test.YtigcpigmfcgaoaaB32
import Derived.Test.YtigcpigmfcgaoaaB33
import Derived.Test.YtigcpigmfcgaoaaB34
import Derived.Test.YtigcpigmfcgaoaaB35
import Derived.Test.YtigcpigmfcgaoaaB36
namespace Go.Proofs.Ytigcpigmfcgaoaa.fnHeap
open Go.ChangeShapes Go.WideShapes Go.ChangeAt Go.RowKit Go.Proofs.Ytigcpigmfcgaoaa Go.Proofs.Ytigcpigmfcgaoaa.rose Go.Proofs.Ytigcpigmfcgaoaa.heap Go.Proofs.Ytigcpigmfcgaoaa.ints Go.Proofs.Ytigcpigmfcgaoaa.fun
set_option linter.unusedVariables false
set_option linter.unusedSimpArgs false
set_option maxRecDepth 100000

theorem own : ownKnob Try.prog.godebug = none := by kernel_rfl
theorem laidOut : laidOutB Try.prog = true := by kernel_rfl

theorem code_on {w w' : World} {a : Option Addr} {len : Nat} (h : cur.Code w.heap.size w a len) (hb : Below w.heap.size w w') : cur.Code w'.heap.size w' a len := by
  refine ⟨h.1, fun hl => ?_⟩
  obtain ⟨b, off, e, hlt, hz⟩ := h.2 hl
  refine ⟨b, off, e, Nat.lt_of_lt_of_le hlt hb.size, fun j hj => ?_⟩
  obtain ⟨z, hc1, h0, h1⟩ := hz j hj
  exact ⟨z, by rw [hb.cell (p := ⟨b, off + j, none⟩) hlt]; exact hc1, h0, h1⟩

theorem walk_big (a : Option Addr) (len cap : Nat) (hl : 1048576 < len) (hm : (len : Int) ≤ 9223372036854775807) (w : World) :
    Calls Try.prog 3 #[.slice a len cap] w fun e w' => e = .returned (.bool true) ∧ Below w.heap.size w w' := by
  have t1 : decide (1048576 < (len : Int)) = true := by simp; omega
  go_enter Try.func3, Try.ntmps3
  go_wp2
  go_ret
  exact ⟨rfl, Below.refl _ _⟩

set_option maxRecDepth 100000 in
set_option maxHeartbeats 64000000 in
theorem walk_small (a : Option Addr) (len cap : Nat) (w : World) (hC : cur.Code w.heap.size w a len) :
    Calls Try.prog 3 #[.slice a len cap] w fun e w' => e = .returned (.bool true) ∧ Below w.heap.size w w' := by
  have hl := hC.1
  have t1 : decide (1048576 < (len : Int)) = false := by simp; omega
  have HC : Hid (cur.Code w.heap.size w a len) := hC
  clear hC
  go_enter Try.func3, Try.ntmps3
  go_wp2_with (go_at_call 4; go_in)
  refine (drawAlloc_any a len cap _ HC.out).mono ?_
  rintro e w1 ⟨cs, T, fn, tag, vk, kids, rfl, htag, hkl, hk1, hr1, hl1, hb1⟩
  obtain ⟨W, a0, c0, hf, bs, nx, rfl, rfl, -⟩ := heapp_open hr1
  obtain ⟨ak, ck, hvk⟩ : ∃ a c, vk = .slice a kids.length c := by obtain ⟨a, c, e⟩ := slice_cells hk1; simp only [List.cons.injEq, and_true] at e; exact ⟨a, c, e⟩
  subst hvk
  have hW : W.length ≤ 120 := hl1
  obtain ⟨u1, hu1⟩ : ∃ u1, u1 = w1.alloc (.cells #[.slice a0 W.length c0, .int .i64 hf, .int .i64 bs, .int .i64 nx] 26) := ⟨_, rfl⟩
  have hbA : Below w1.heap.size w1 u1 := by rw [hu1]; exact below_new _ _
  have K1 : Hid (KH u1 w1.heap.size a0 c0 W hf bs nx) := by rw [hu1]; exact KH.new (heapSh.mono (heapp_rep hr1) fun b hb => hb.2)
  have KK : Hid (intsSh.rep u1 (· < u1.heap.size) [.slice ak kids.length ck] kids) := ki_on (intsSh.mono hk1 fun b hb => hb.2) hbA
  have BB : Hid (Below w.heap.size w u1) := hb1.trans (hbA.mono hb1.size)
  have HU := hid_of hu1
  have hc2 := implAlloc (W, hf, bs, nx) fn tag kids _ _ u1 (by show W.length ≤ _; omega) (by omega) htag.1 htag.2 K1.out.rep KK.out
  have hc3 := fun V hK hI => specAlloc (W, hf, bs, nx) fn tag kids [.slice a0 W.length c0, .int .i64 hf, .int .i64 bs, .int .i64 nx] (.slice ak kids.length ck) V (by show W.length ≤ _; omega) (by omega) htag.1 htag.2 hK hI
  have AY := hid_of (fun h => alloc_yes (T := (W, hf, bs, nx)) (fn := fn) (tag := tag) (kids := kids) h)
  have AN := hid_of (fun h => alloc_no (T := (W, hf, bs, nx)) (fn := fn) (tag := tag) (kids := kids) h)
  have AL := alloc_len (W, hf, bs, nx) fn tag kids
  generalize allocF (W, hf, bs, nx) fn tag kids = R at hc2 hc3 AY AN AL
  obtain ⟨⟨W1, hf1, bs1, nx1⟩, pl, ok⟩ := R
  dsimp only at hc2 hc3 AL
  have hW1 : W1.length ≤ 120 := by rw [AL]; exact hW
  have HC3 := hid_of hc3
  have HAL := hid_of AL
  clear hb1 hk1 hr1 hl1 hu1 hbA hc3 AL
  have d0 := K1.out.cell 0 rfl
  have d1 := K1.out.cell 1 rfl
  have d2 := K1.out.cell 2 rfl
  have d3 := K1.out.cell 3 rfl
  rw [HU.out] at d0 d1 d2 d3
  go_wp2_with fail
  rw [← HU.out]
  refine hc2.mono ?_
  rintro e w2 ⟨⟨cs2, rfl, hr2⟩, hb2⟩
  obtain ⟨W1', a1, c1, hf1', bs1', nx1', hT2, rfl, -⟩ := heapp_open hr2
  simp only [Prod.mk.injEq] at hT2
  obtain ⟨rfl, rfl, rfl, rfl⟩ := hT2
  obtain ⟨u2, hu2⟩ : ∃ u2, u2 = w2.alloc (.cells #[.slice a1 W1.length c1, .int .i64 hf1, .int .i64 bs1, .int .i64 nx1] 26) := ⟨_, rfl⟩
  have hbB : Below u1.heap.size u1 u2 := by rw [hu2]; exact hb2.trans ((below_new _ _).mono hb2.size)
  have K2 : Hid (KH u2 w2.heap.size a1 c1 W1 hf1 bs1 nx1) := by rw [hu2]; exact KH.new (heapSh.mono (heapp_rep hr2) fun b hb => hb.2)
  replace K1 := hid_of (K1.out.on hbB)
  replace KK := hid_of (ki_on KK.out hbB)
  replace BB := hid_of (BB.out.trans (hbB.mono BB.out.size))
  have HU2 := hid_of hu2
  clear hc2 hr2 hb2 hu2 hbB HU d0 d1 d2 d3
  have d0 := K1.out.cell 0 rfl
  have d1 := K1.out.cell 1 rfl
  have d2 := K1.out.cell 2 rfl
  have d3 := K1.out.cell 3 rfl
  rw [HU2.out] at d0 d1 d2 d3
  have hc3 := HC3.out u2 K1.out.rep KK.out
  go_wp2_with fail
  rw [← HU2.out]
  refine hc3.mono ?_
  rintro e w3 ⟨⟨cs3, rfl, hr3⟩, hb3⟩
  obtain ⟨W1', a2, c2, hf1', bs1', nx1', hT3, rfl, -⟩ := heapp_open hr3
  simp only [Prod.mk.injEq] at hT3
  obtain ⟨rfl, rfl, rfl, rfl⟩ := hT3
  obtain ⟨u3, hu3⟩ : ∃ u3, u3 = w3.alloc (.cells #[.slice a2 W1.length c2, .int .i64 hf1, .int .i64 bs1, .int .i64 nx1] 26) := ⟨_, rfl⟩
  have hbC : Below u2.heap.size u2 u3 := by rw [hu3]; exact hb3.trans ((below_new _ _).mono hb3.size)
  have K3 : Hid (KH u3 w3.heap.size a2 c2 W1 hf1 bs1 nx1) := by rw [hu3]; exact KH.new (heapSh.mono (heapp_rep hr3) fun b hb => hb.2)
  replace K1 := hid_of (K1.out.on hbC)
  replace K2 := hid_of (K2.out.on hbC)
  replace KK := hid_of (ki_on KK.out hbC)
  replace BB := hid_of (BB.out.trans (hbC.mono BB.out.size))
  have HU3 := hid_of hu3
  clear hc3 HC3 hr3 hb3 hu3 hbC HU2 d0 d1 d2 d3
  obtain ⟨okh, hokh⟩ : ∃ x, x = heapB (W, hf, bs, nx) := ⟨_, rfl⟩
  have HOK := hid_of hokh
  have IH : Hid (∀ V, heapSh.rep V (· < V.heap.size) [.slice a0 W.length c0, .int .i64 hf, .int .i64 bs, .int .i64 nx] (W, hf, bs, nx) → Calls Try.prog 9 #[.agg #[.slice a0 W.length c0, .int .i64 hf, .int .i64 bs, .int .i64 nx]] V fun e w' => e = .returned (.bool okh) ∧ Below V.heap.size V w') := fun V hV => by rw [hokh]; exact implHeapOk _ _ V (by show W.length ≤ _; omega) hV
  have SH : Hid (∀ V, heapSh.rep V (· < V.heap.size) [.slice a0 W.length c0, .int .i64 hf, .int .i64 bs, .int .i64 nx] (W, hf, bs, nx) → Calls Try.prog 10 #[.agg #[.slice a0 W.length c0, .int .i64 hf, .int .i64 bs, .int .i64 nx]] V fun e w' => e = .returned (.bool okh) ∧ Below V.heap.size V w') := fun V hV => by rw [hokh]; exact specHeapOk _ _ V hV
  clear hokh
  have ha0 : u3.cell? ⟨w1.heap.size, 0, none⟩ = some (.slice a0 W.length c0) := K1.out.cell 0 rfl
  have ha1 : u3.cell? ⟨w1.heap.size, 1, none⟩ = some (.int .i64 hf) := K1.out.cell 1 rfl
  have ha2 : u3.cell? ⟨w1.heap.size, 2, none⟩ = some (.int .i64 bs) := K1.out.cell 2 rfl
  have ha3 : u3.cell? ⟨w1.heap.size, 3, none⟩ = some (.int .i64 nx) := K1.out.cell 3 rfl
  have aa0 : u3.cell? ⟨w2.heap.size, 0, none⟩ = some (.slice a1 W1.length c1) := K2.out.cell 0 rfl
  have aa1 : u3.cell? ⟨w2.heap.size, 1, none⟩ = some (.int .i64 hf1) := K2.out.cell 1 rfl
  have aa2 : u3.cell? ⟨w2.heap.size, 2, none⟩ = some (.int .i64 bs1) := K2.out.cell 2 rfl
  have aa3 : u3.cell? ⟨w2.heap.size, 3, none⟩ = some (.int .i64 nx1) := K2.out.cell 3 rfl
  have ba0 : u3.cell? ⟨w3.heap.size, 0, none⟩ = some (.slice a2 W1.length c2) := K3.out.cell 0 rfl
  have ba1 : u3.cell? ⟨w3.heap.size, 1, none⟩ = some (.int .i64 hf1) := K3.out.cell 1 rfl
  have ba2 : u3.cell? ⟨w3.heap.size, 2, none⟩ = some (.int .i64 bs1) := K3.out.cell 2 rfl
  have ba3 : u3.cell? ⟨w3.heap.size, 3, none⟩ = some (.int .i64 nx1) := K3.out.cell 3 rfl
  rw [HU3.out] at ha0 ha1 ha2 ha3 aa0 aa1 aa2 aa3 ba0 ba1 ba2 ba3
  go_wp2_with fail
  rw [← HU3.out]
  rw [← HU3.out] at ha0 ha1 ha2 ha3 aa0 aa1 aa2 aa3 ba0 ba1 ba2 ba3
  replace K1 : Hid (KH u3.drew w1.heap.size a0 c0 W hf bs nx) := K1.out.on (Below.refl _ _).drew
  replace K2 : Hid (KH u3.drew w2.heap.size a1 c1 W1 hf1 bs1 nx1) := K2.out.on (Below.refl _ _).drew
  replace K3 : Hid (KH u3.drew w3.heap.size a2 c2 W1 hf1 bs1 nx1) := K3.out.on (Below.refl _ _).drew
  replace KK : Hid (intsSh.rep u3.drew (· < u3.drew.heap.size) [.slice ak kids.length ck] kids) := ki_on KK.out (Below.refl _ _).drew
  replace BB : Hid (Below w.heap.size w u3.drew) := BB.out.drew
  go_region_held3 (fun X => X.cell? ⟨w1.heap.size, 0, none⟩ = some (.slice a0 W.length c0) ∧ X.cell? ⟨w1.heap.size, 1, none⟩ = some (.int .i64 hf) ∧ X.cell? ⟨w1.heap.size, 2, none⟩ = some (.int .i64 bs) ∧ X.cell? ⟨w1.heap.size, 3, none⟩ = some (.int .i64 nx) ∧ X.cell? ⟨w2.heap.size, 0, none⟩ = some (.slice a1 W1.length c1) ∧ X.cell? ⟨w2.heap.size, 1, none⟩ = some (.int .i64 hf1) ∧ X.cell? ⟨w2.heap.size, 2, none⟩ = some (.int .i64 bs1) ∧ X.cell? ⟨w2.heap.size, 3, none⟩ = some (.int .i64 nx1) ∧ X.cell? ⟨w3.heap.size, 0, none⟩ = some (.slice a2 W1.length c2) ∧ X.cell? ⟨w3.heap.size, 1, none⟩ = some (.int .i64 hf1) ∧ X.cell? ⟨w3.heap.size, 2, none⟩ = some (.int .i64 bs1) ∧ X.cell? ⟨w3.heap.size, 3, none⟩ = some (.int .i64 nx1))
    (exact ⟨(by first | with_reducible exact ha0 | (rw [cell_drewD]; with_reducible exact ha0)), (by first | with_reducible exact ha1 | (rw [cell_drewD]; with_reducible exact ha1)), (by first | with_reducible exact ha2 | (rw [cell_drewD]; with_reducible exact ha2)), (by first | with_reducible exact ha3 | (rw [cell_drewD]; with_reducible exact ha3)), (by first | with_reducible exact aa0 | (rw [cell_drewD]; with_reducible exact aa0)), (by first | with_reducible exact aa1 | (rw [cell_drewD]; with_reducible exact aa1)), (by first | with_reducible exact aa2 | (rw [cell_drewD]; with_reducible exact aa2)), (by first | with_reducible exact aa3 | (rw [cell_drewD]; with_reducible exact aa3)), (by first | with_reducible exact ba0 | (rw [cell_drewD]; with_reducible exact ba0)), (by first | with_reducible exact ba1 | (rw [cell_drewD]; with_reducible exact ba1)), (by first | with_reducible exact ba2 | (rw [cell_drewD]; with_reducible exact ba2)), (by first | with_reducible exact ba3 | (rw [cell_drewD]; with_reducible exact ba3))⟩)
    (first
      | (go_at_call 8; refine (sameHeap_any _ _ _ _ K2.out.rep K3.out.rep).mono ?_; rintro e wn ⟨rfl, hbn⟩; replace K1 : Hid (KH wn w1.heap.size a0 c0 W hf bs nx) := K1.out.on hbn; replace K2 : Hid (KH wn w2.heap.size a1 c1 W1 hf1 bs1 nx1) := K2.out.on hbn; replace K3 : Hid (KH wn w3.heap.size a2 c2 W1 hf1 bs1 nx1) := K3.out.on hbn; replace KK := hid_of (ki_on KK.out hbn); replace BB : Hid (Below w.heap.size w wn) := BB.out.trans (hbn.mono BB.out.size); clear hbn; replace ha0 : wn.cell? ⟨w1.heap.size, 0, none⟩ = some (.slice a0 W.length c0) := K1.out.cell 0 rfl; replace ha1 : wn.cell? ⟨w1.heap.size, 1, none⟩ = some (.int .i64 hf) := K1.out.cell 1 rfl; replace ha2 : wn.cell? ⟨w1.heap.size, 2, none⟩ = some (.int .i64 bs) := K1.out.cell 2 rfl; replace ha3 : wn.cell? ⟨w1.heap.size, 3, none⟩ = some (.int .i64 nx) := K1.out.cell 3 rfl; replace aa0 : wn.cell? ⟨w2.heap.size, 0, none⟩ = some (.slice a1 W1.length c1) := K2.out.cell 0 rfl; replace aa1 : wn.cell? ⟨w2.heap.size, 1, none⟩ = some (.int .i64 hf1) := K2.out.cell 1 rfl; replace aa2 : wn.cell? ⟨w2.heap.size, 2, none⟩ = some (.int .i64 bs1) := K2.out.cell 2 rfl; replace aa3 : wn.cell? ⟨w2.heap.size, 3, none⟩ = some (.int .i64 nx1) := K2.out.cell 3 rfl; replace ba0 : wn.cell? ⟨w3.heap.size, 0, none⟩ = some (.slice a2 W1.length c2) := K3.out.cell 0 rfl; replace ba1 : wn.cell? ⟨w3.heap.size, 1, none⟩ = some (.int .i64 hf1) := K3.out.cell 1 rfl; replace ba2 : wn.cell? ⟨w3.heap.size, 2, none⟩ = some (.int .i64 bs1) := K3.out.cell 2 rfl; replace ba3 : wn.cell? ⟨w3.heap.size, 3, none⟩ = some (.int .i64 nx1) := K3.out.cell 3 rfl)
      | (go_at_call 9; refine (IH.out _ K1.out.rep).mono ?_; rintro e wn ⟨rfl, hbn⟩; replace K1 : Hid (KH wn w1.heap.size a0 c0 W hf bs nx) := K1.out.on hbn; replace K2 : Hid (KH wn w2.heap.size a1 c1 W1 hf1 bs1 nx1) := K2.out.on hbn; replace K3 : Hid (KH wn w3.heap.size a2 c2 W1 hf1 bs1 nx1) := K3.out.on hbn; replace KK := hid_of (ki_on KK.out hbn); replace BB : Hid (Below w.heap.size w wn) := BB.out.trans (hbn.mono BB.out.size); clear hbn; replace ha0 : wn.cell? ⟨w1.heap.size, 0, none⟩ = some (.slice a0 W.length c0) := K1.out.cell 0 rfl; replace ha1 : wn.cell? ⟨w1.heap.size, 1, none⟩ = some (.int .i64 hf) := K1.out.cell 1 rfl; replace ha2 : wn.cell? ⟨w1.heap.size, 2, none⟩ = some (.int .i64 bs) := K1.out.cell 2 rfl; replace ha3 : wn.cell? ⟨w1.heap.size, 3, none⟩ = some (.int .i64 nx) := K1.out.cell 3 rfl; replace aa0 : wn.cell? ⟨w2.heap.size, 0, none⟩ = some (.slice a1 W1.length c1) := K2.out.cell 0 rfl; replace aa1 : wn.cell? ⟨w2.heap.size, 1, none⟩ = some (.int .i64 hf1) := K2.out.cell 1 rfl; replace aa2 : wn.cell? ⟨w2.heap.size, 2, none⟩ = some (.int .i64 bs1) := K2.out.cell 2 rfl; replace aa3 : wn.cell? ⟨w2.heap.size, 3, none⟩ = some (.int .i64 nx1) := K2.out.cell 3 rfl; replace ba0 : wn.cell? ⟨w3.heap.size, 0, none⟩ = some (.slice a2 W1.length c2) := K3.out.cell 0 rfl; replace ba1 : wn.cell? ⟨w3.heap.size, 1, none⟩ = some (.int .i64 hf1) := K3.out.cell 1 rfl; replace ba2 : wn.cell? ⟨w3.heap.size, 2, none⟩ = some (.int .i64 bs1) := K3.out.cell 2 rfl; replace ba3 : wn.cell? ⟨w3.heap.size, 3, none⟩ = some (.int .i64 nx1) := K3.out.cell 3 rfl)
      | (go_at_call 10; refine (SH.out _ K1.out.rep).mono ?_; rintro e wn ⟨rfl, hbn⟩; replace K1 : Hid (KH wn w1.heap.size a0 c0 W hf bs nx) := K1.out.on hbn; replace K2 : Hid (KH wn w2.heap.size a1 c1 W1 hf1 bs1 nx1) := K2.out.on hbn; replace K3 : Hid (KH wn w3.heap.size a2 c2 W1 hf1 bs1 nx1) := K3.out.on hbn; replace KK := hid_of (ki_on KK.out hbn); replace BB : Hid (Below w.heap.size w wn) := BB.out.trans (hbn.mono BB.out.size); clear hbn; replace ha0 : wn.cell? ⟨w1.heap.size, 0, none⟩ = some (.slice a0 W.length c0) := K1.out.cell 0 rfl; replace ha1 : wn.cell? ⟨w1.heap.size, 1, none⟩ = some (.int .i64 hf) := K1.out.cell 1 rfl; replace ha2 : wn.cell? ⟨w1.heap.size, 2, none⟩ = some (.int .i64 bs) := K1.out.cell 2 rfl; replace ha3 : wn.cell? ⟨w1.heap.size, 3, none⟩ = some (.int .i64 nx) := K1.out.cell 3 rfl; replace aa0 : wn.cell? ⟨w2.heap.size, 0, none⟩ = some (.slice a1 W1.length c1) := K2.out.cell 0 rfl; replace aa1 : wn.cell? ⟨w2.heap.size, 1, none⟩ = some (.int .i64 hf1) := K2.out.cell 1 rfl; replace aa2 : wn.cell? ⟨w2.heap.size, 2, none⟩ = some (.int .i64 bs1) := K2.out.cell 2 rfl; replace aa3 : wn.cell? ⟨w2.heap.size, 3, none⟩ = some (.int .i64 nx1) := K2.out.cell 3 rfl; replace ba0 : wn.cell? ⟨w3.heap.size, 0, none⟩ = some (.slice a2 W1.length c2) := K3.out.cell 0 rfl; replace ba1 : wn.cell? ⟨w3.heap.size, 1, none⟩ = some (.int .i64 hf1) := K3.out.cell 1 rfl; replace ba2 : wn.cell? ⟨w3.heap.size, 2, none⟩ = some (.int .i64 bs1) := K3.out.cell 2 rfl; replace ba3 : wn.cell? ⟨w3.heap.size, 3, none⟩ = some (.int .i64 nx1) := K3.out.cell 3 rfl))
  clear IH SH HU3 K3 ha0 ha1 ha2 ha3 aa0 aa1 aa2 aa3 ba0 ba1 ba2 ba3
  have hcC := code_on HC.out BB.out
  go_wp2_with fail
  refine (drawBlockAt_any a len cap _ hcC).mono ?_
  rintro e w4 ⟨cs4, T4, x, rfl, hx, hr4, hl4, hb4⟩
  obtain ⟨Wx, ax, cx, hfx, bsx, nxx, rfl, rfl, -⟩ := heapp_open hr4
  have hWx : Wx.length ≤ 120 := hl4
  obtain ⟨u4, hu4⟩ : ∃ u4, u4 = w4.alloc (.cells #[.slice ax Wx.length cx, .int .i64 hfx, .int .i64 bsx, .int .i64 nxx] 26) := ⟨_, rfl⟩
  have hbD : Below wn.heap.size wn u4 := by rw [hu4]; exact hb4.trans ((below_new _ _).mono hb4.size)
  have K4 : Hid (KH u4 w4.heap.size ax cx Wx hfx bsx nxx) := by rw [hu4]; exact KH.new (heapSh.mono (heapp_rep hr4) fun b hb => hb.2)
  replace K1 := hid_of (K1.out.on hbD)
  replace K2 := hid_of (K2.out.on hbD)
  replace KK := hid_of (ki_on KK.out hbD)
  replace BB := hid_of (BB.out.trans (hbD.mono BB.out.size))
  have HU4 := hid_of hu4
  have hc5 := implBlockAt (Wx, hfx, bsx, nxx) x _ u4 (by show Wx.length ≤ _; omega) hx.1 hx.2 K4.out.rep
  have hc6 := fun V hK => specBlockAt (Wx, hfx, bsx, nxx) x [.slice ax Wx.length cx, .int .i64 hfx, .int .i64 bsx, .int .i64 nxx] V (by show Wx.length ≤ _; omega) hx.1 hx.2 hK
  generalize blockF (Wx, hfx, bsx, nxx) x = R4 at hc5 hc6
  obtain ⟨bc, bd, be, bt⟩ := R4
  dsimp only at hc5 hc6
  have HC6 := hid_of hc6
  have e0 := K4.out.cell 0 rfl
  have e1 := K4.out.cell 1 rfl
  have e2 := K4.out.cell 2 rfl
  have e3 := K4.out.cell 3 rfl
  rw [HU4.out] at e0 e1 e2 e3
  clear hr4 hl4 hb4 hu4 hbD hc6 hcC
  go_wp2_with fail
  rw [← HU4.out]
  refine hc5.mono ?_
  rintro e w5 ⟨⟨v5, rfl, hr5⟩, hb5⟩
  obtain ⟨a5, c5, hv5⟩ : ∃ a c, v5 = .slice a be.length c := by obtain ⟨a, c, e⟩ := slice_cells (intsp_rep hr5); simp only [List.cons.injEq, and_true] at e; exact ⟨a, c, e⟩
  subst hv5
  have KE : Hid (intsSh.rep w5 (· < w5.heap.size) [.slice a5 be.length c5] be) := intsSh.mono (intsp_rep hr5) fun b hb => hb.2
  replace K1 := hid_of (K1.out.on hb5)
  replace K2 := hid_of (K2.out.on hb5)
  replace K4 := hid_of (K4.out.on hb5)
  replace KK := hid_of (ki_on KK.out hb5)
  replace BB := hid_of (BB.out.trans (hb5.mono BB.out.size))
  clear hc5 hr5 hb5 HU4 e0 e1 e2 e3
  have e0 := K4.out.cell 0 rfl
  have e1 := K4.out.cell 1 rfl
  have e2 := K4.out.cell 2 rfl
  have e3 := K4.out.cell 3 rfl
  have hc6 := HC6.out w5 K4.out.rep
  go_wp2_with fail
  refine hc6.mono ?_
  rintro e w6 ⟨⟨v6, rfl, hr6⟩, hb6⟩
  obtain ⟨a6, c6, hv6⟩ : ∃ a c, v6 = .slice a be.length c := by obtain ⟨a, c, e⟩ := slice_cells (intsp_rep hr6); simp only [List.cons.injEq, and_true] at e; exact ⟨a, c, e⟩
  subst hv6
  have KF : Hid (intsSh.rep w6 (· < w6.heap.size) [.slice a6 be.length c6] be) := intsSh.mono (intsp_rep hr6) fun b hb => hb.2
  replace K1 := hid_of (K1.out.on hb6)
  replace K2 := hid_of (K2.out.on hb6)
  replace KE := hid_of (ki_on KE.out hb6)
  replace KK := hid_of (ki_on KK.out hb6)
  replace BB := hid_of (BB.out.trans (hb6.mono BB.out.size))
  clear hc6 HC6 hr6 hb6 K4 e0 e1 e2 e3
  have hcC := code_on HC.out BB.out
  go_wp2_with fail
  refine (drawRoom_any a len cap _ hcC).mono ?_
  rintro e w7 ⟨cs7, T7, rfl, hr7, hl7, hb7⟩
  obtain ⟨Wr, ar, cr, hfr, bsr, nxr, rfl, rfl, -⟩ := heapp_open hr7
  have hWr : Wr.length ≤ 120 := hl7
  obtain ⟨u7, hu7⟩ : ∃ u7, u7 = w7.alloc (.cells #[.slice ar Wr.length cr, .int .i64 hfr, .int .i64 bsr, .int .i64 nxr] 26) := ⟨_, rfl⟩
  have hbE : Below w6.heap.size w6 u7 := by rw [hu7]; exact hb7.trans ((below_new _ _).mono hb7.size)
  have K7 : Hid (KH u7 w7.heap.size ar cr Wr hfr bsr nxr) := by rw [hu7]; exact KH.new (heapSh.mono (heapp_rep hr7) fun b hb => hb.2)
  replace K1 := hid_of (K1.out.on hbE)
  replace K2 := hid_of (K2.out.on hbE)
  replace KE := hid_of (ki_on KE.out hbE)
  replace KF := hid_of (ki_on KF.out hbE)
  replace KK := hid_of (ki_on KK.out hbE)
  replace BB := hid_of (BB.out.trans (hbE.mono BB.out.size))
  have HU7 := hid_of hu7
  clear hr7 hl7 hb7 hu7 hbE hcC
  have hcC := code_on HC.out BB.out
  go_wp2_with fail
  rw [← HU7.out]
  refine (drawHeapNew_any a len cap _ hcC).mono ?_
  rintro e w8 ⟨n, rfl, n0, n1, hb8⟩
  replace K1 := hid_of (K1.out.on hb8)
  replace K2 := hid_of (K2.out.on hb8)
  replace K7 := hid_of (K7.out.on hb8)
  replace KE := hid_of (ki_on KE.out hb8)
  replace KF := hid_of (ki_on KF.out hb8)
  replace KK := hid_of (ki_on KK.out hb8)
  replace BB := hid_of (BB.out.trans (hb8.mono BB.out.size))
  clear hb8 HU7 hcC
  have hc9 := implHeapNew n w8 n0 n1
  have HN := hid_of (fun h => new_right (n := n) h)
  have hc10 := fun V => specHeapNew n V n0 n1
  have hnl : (newF n).1.1.length ≤ 6000 := by
    unfold newF
    split
    · rename_i q; have := inB_yes q; show (List.replicate _ _).length ≤ _; rw [List.length_replicate]; omega
    · simp
  generalize newF n = R9 at hc9 hc10 HN hnl
  obtain ⟨⟨Wy, hfy, bsy, nxy⟩, made⟩ := R9
  dsimp only at hc9 hc10 hnl
  have HC10 := hid_of hc10
  clear hc10
  go_wp2_with fail
  refine hc9.mono ?_
  rintro e w9 ⟨⟨cs9, rfl, hr9⟩, hb9⟩
  obtain ⟨Wy', ay, cy, hfy', bsy', nxy', hT9, rfl, -⟩ := heapp_open hr9
  simp only [Prod.mk.injEq] at hT9
  obtain ⟨rfl, rfl, rfl, rfl⟩ := hT9
  obtain ⟨u9, hu9⟩ : ∃ u9, u9 = w9.alloc (.cells #[.slice ay Wy.length cy, .int .i64 hfy, .int .i64 bsy, .int .i64 nxy] 26) := ⟨_, rfl⟩
  have hbF : Below w8.heap.size w8 u9 := by rw [hu9]; exact hb9.trans ((below_new _ _).mono hb9.size)
  have K9 : Hid (KH u9 w9.heap.size ay cy Wy hfy bsy nxy) := by rw [hu9]; exact KH.new (heapSh.mono (heapp_rep hr9) fun b hb => hb.2)
  replace K1 := hid_of (K1.out.on hbF)
  replace K2 := hid_of (K2.out.on hbF)
  replace K7 := hid_of (K7.out.on hbF)
  replace KE := hid_of (ki_on KE.out hbF)
  replace KF := hid_of (ki_on KF.out hbF)
  replace KK := hid_of (ki_on KK.out hbF)
  replace BB := hid_of (BB.out.trans (hbF.mono BB.out.size))
  have HU9 := hid_of hu9
  clear hc9 hr9 hb9 hu9 hbF
  have hc10 := HC10.out u9
  go_wp2_with fail
  rw [← HU9.out]
  refine hc10.mono ?_
  rintro e w10 ⟨⟨cs10, rfl, hr10⟩, hb10⟩
  obtain ⟨Wy', az, cz, hfy', bsy', nxy', hT10, rfl, -⟩ := heapp_open hr10
  simp only [Prod.mk.injEq] at hT10
  obtain ⟨rfl, rfl, rfl, rfl⟩ := hT10
  obtain ⟨u10, hu10⟩ : ∃ u10, u10 = w10.alloc (.cells #[.slice az Wy.length cz, .int .i64 hfy, .int .i64 bsy, .int .i64 nxy] 26) := ⟨_, rfl⟩
  have hbG : Below u9.heap.size u9 u10 := by rw [hu10]; exact hb10.trans ((below_new _ _).mono hb10.size)
  replace K1 := hid_of (K1.out.on hbG)
  replace K2 := hid_of (K2.out.on hbG)
  replace K7 := hid_of (K7.out.on hbG)
  replace K9 := hid_of (K9.out.on hbG)
  replace KE := hid_of (ki_on KE.out hbG)
  replace KF := hid_of (ki_on KF.out hbG)
  replace KK := hid_of (ki_on KK.out hbG)
  replace BB := hid_of (BB.out.trans (hbG.mono BB.out.size))
  have HU10 := hid_of hu10
  clear hc10 HC10 hr10 hb10 hu10 hbG HU9
  cases made with
  | false =>
    obtain ⟨rm, hrm⟩ : ∃ x, x = roomF (Wr, hfr, bsr, nxr) := ⟨_, rfl⟩
    have IR : Hid (∀ V, heapSh.rep V (· < V.heap.size) [.slice ar Wr.length cr, .int .i64 hfr, .int .i64 bsr, .int .i64 nxr] (Wr, hfr, bsr, nxr) → Calls Try.prog 19 #[.agg #[.slice ar Wr.length cr, .int .i64 hfr, .int .i64 bsr, .int .i64 nxr]] V fun e w' => e = .returned (.int .i64 rm) ∧ Below V.heap.size V w') := fun V hV => by rw [hrm]; exact implRoom _ _ V (by show Wr.length ≤ _; omega) hV
    have SR : Hid (∀ V, heapSh.rep V (· < V.heap.size) [.slice ar Wr.length cr, .int .i64 hfr, .int .i64 bsr, .int .i64 nxr] (Wr, hfr, bsr, nxr) → Calls Try.prog 20 #[.agg #[.slice ar Wr.length cr, .int .i64 hfr, .int .i64 bsr, .int .i64 nxr]] V fun e w' => e = .returned (.int .i64 rm) ∧ Below V.heap.size V w') := fun V hV => by rw [hrm]; exact specRoom _ _ V (by show Wr.length ≤ _; omega) hV
    clear hrm
    have ra0 : u10.cell? ⟨w7.heap.size, 0, none⟩ = some (.slice ar Wr.length cr) := K7.out.cell 0 rfl
    have ra1 : u10.cell? ⟨w7.heap.size, 1, none⟩ = some (.int .i64 hfr) := K7.out.cell 1 rfl
    have ra2 : u10.cell? ⟨w7.heap.size, 2, none⟩ = some (.int .i64 bsr) := K7.out.cell 2 rfl
    have ra3 : u10.cell? ⟨w7.heap.size, 3, none⟩ = some (.int .i64 nxr) := K7.out.cell 3 rfl
    have ya0 : u10.cell? ⟨w9.heap.size, 0, none⟩ = some (.slice ay Wy.length cy) := K9.out.cell 0 rfl
    have ya1 : u10.cell? ⟨w9.heap.size, 1, none⟩ = some (.int .i64 hfy) := K9.out.cell 1 rfl
    have ya2 : u10.cell? ⟨w9.heap.size, 2, none⟩ = some (.int .i64 bsy) := K9.out.cell 2 rfl
    have ya3 : u10.cell? ⟨w9.heap.size, 3, none⟩ = some (.int .i64 nxy) := K9.out.cell 3 rfl
    rw [HU10.out] at ra0 ra1 ra2 ra3 ya0 ya1 ya2 ya3
    go_wp2_with fail
    rw [← HU10.out]
    rw [← HU10.out] at ra0 ra1 ra2 ra3 ya0 ya1 ya2 ya3
    replace K1 : Hid (KH u10.drew w1.heap.size a0 c0 W hf bs nx) := K1.out.on (Below.refl _ _).drew
    replace K2 : Hid (KH u10.drew w2.heap.size a1 c1 W1 hf1 bs1 nx1) := K2.out.on (Below.refl _ _).drew
    replace K7 : Hid (KH u10.drew w7.heap.size ar cr Wr hfr bsr nxr) := K7.out.on (Below.refl _ _).drew
    replace K9 : Hid (KH u10.drew w9.heap.size ay cy Wy hfy bsy nxy) := K9.out.on (Below.refl _ _).drew
    replace KE := hid_of (ki_on (V' := u10.drew) KE.out (Below.refl _ _).drew)
    replace KF := hid_of (ki_on (V' := u10.drew) KF.out (Below.refl _ _).drew)
    replace KK := hid_of (ki_on (V' := u10.drew) KK.out (Below.refl _ _).drew)
    replace BB : Hid (Below w.heap.size w u10.drew) := BB.out.drew
    refine wp_region_held_drew (S := (fun X : World => X.cell? ⟨w7.heap.size, 0, none⟩ = some (.slice ar Wr.length cr) ∧ X.cell? ⟨w7.heap.size, 1, none⟩ = some (.int .i64 hfr) ∧ X.cell? ⟨w7.heap.size, 2, none⟩ = some (.int .i64 bsr) ∧ X.cell? ⟨w7.heap.size, 3, none⟩ = some (.int .i64 nxr))) (by kernel_rfl) ⟨ra0, ra1, ra2, ra3⟩ ?_
    intro hS0
    refine wpAnyH_take (i := 0) (v := .bool bt) rfl (by kernel_rfl) (by kernel_rfl) (by kernel_rfl) (fun _ _ _ h => h) (Or.inl ⟨by kernel_rfl, ?_⟩) hS0 ?_
    · intro W hSw
      obtain ⟨s0, s1, s2, s3⟩ := hSw
      go_simp
    try simp only [Act.put, List.setIfInBounds_toArray, List.set_cons_zero, List.set_cons_succ]
    refine wpAnyH_take (i := 1) (v := .bool bt) rfl (by kernel_rfl) (by kernel_rfl) (by kernel_rfl) (fun _ _ _ h => h) (Or.inl ⟨by kernel_rfl, ?_⟩) hS0 ?_
    · intro W hSw
      obtain ⟨s0, s1, s2, s3⟩ := hSw
      go_simp
    try simp only [Act.put, List.setIfInBounds_toArray, List.set_cons_zero, List.set_cons_succ]
    refine wpAnyH_take (i := 2) (v := .bool false) rfl (by kernel_rfl) (by kernel_rfl) (by kernel_rfl) (fun _ _ _ h => h) (Or.inl ⟨by kernel_rfl, ?_⟩) hS0 ?_
    · intro W hSw
      obtain ⟨s0, s1, s2, s3⟩ := hSw
      go_simp
    try simp only [Act.put, List.setIfInBounds_toArray, List.set_cons_zero, List.set_cons_succ]
    refine wpAnyH_take (i := 3) (v := .bool false) rfl (by kernel_rfl) (by kernel_rfl) (by kernel_rfl) (fun _ _ _ h => h) (Or.inl ⟨by kernel_rfl, ?_⟩) hS0 ?_
    · intro W hSw
      obtain ⟨s0, s1, s2, s3⟩ := hSw
      go_simp
    try simp only [Act.put, List.setIfInBounds_toArray, List.set_cons_zero, List.set_cons_succ]
    refine wpAnyH_take (i := 4) (v := .bool bc) rfl (by kernel_rfl) (by kernel_rfl) (by kernel_rfl) (fun _ _ _ h => h) (Or.inl ⟨by kernel_rfl, ?_⟩) hS0 ?_
    · intro W hSw
      obtain ⟨s0, s1, s2, s3⟩ := hSw
      go_simp
    try simp only [Act.put, List.setIfInBounds_toArray, List.set_cons_zero, List.set_cons_succ]
    refine wpAnyH_take (i := 5) (v := .bool bc) rfl (by kernel_rfl) (by kernel_rfl) (by kernel_rfl) (fun _ _ _ h => h) (Or.inl ⟨by kernel_rfl, ?_⟩) hS0 ?_
    · intro W hSw
      obtain ⟨s0, s1, s2, s3⟩ := hSw
      go_simp
    try simp only [Act.put, List.setIfInBounds_toArray, List.set_cons_zero, List.set_cons_succ]
    refine wpAnyH_take (i := 6) (v := .bool false) rfl (by kernel_rfl) (by kernel_rfl) (by kernel_rfl) (fun _ _ _ h => h) (Or.inl ⟨by kernel_rfl, ?_⟩) hS0 ?_
    · intro W hSw
      obtain ⟨s0, s1, s2, s3⟩ := hSw
      go_simp
    try simp only [Act.put, List.setIfInBounds_toArray, List.set_cons_zero, List.set_cons_succ]
    refine wpAnyH_take (i := 7) (v := .bool false) rfl (by kernel_rfl) (by kernel_rfl) (by kernel_rfl) (fun _ _ _ h => h) (Or.inl ⟨by kernel_rfl, ?_⟩) hS0 ?_
    · intro W hSw
      obtain ⟨s0, s1, s2, s3⟩ := hSw
      go_simp
    try simp only [Act.put, List.setIfInBounds_toArray, List.set_cons_zero, List.set_cons_succ]
    refine wpAnyH_take (i := 8) (v := .bool false) rfl (by kernel_rfl) (by kernel_rfl) (by kernel_rfl) (fun _ _ _ h => h) (Or.inl ⟨by kernel_rfl, ?_⟩) hS0 ?_
    · intro W hSw
      obtain ⟨s0, s1, s2, s3⟩ := hSw
      go_simp
    try simp only [Act.put, List.setIfInBounds_toArray, List.set_cons_zero, List.set_cons_succ]
    refine wpAnyH_take (i := 9) (v := .int .i64 bd) rfl (by kernel_rfl) (by kernel_rfl) (by kernel_rfl) (fun _ _ _ h => h) (Or.inl ⟨by kernel_rfl, ?_⟩) hS0 ?_
    · intro W hSw
      obtain ⟨s0, s1, s2, s3⟩ := hSw
      go_simp
    try simp only [Act.put, List.setIfInBounds_toArray, List.set_cons_zero, List.set_cons_succ]
    refine wpAnyH_take (i := 10) (v := .int .i64 bd) rfl (by kernel_rfl) (by kernel_rfl) (by kernel_rfl) (fun _ _ _ h => h) (Or.inl ⟨by kernel_rfl, ?_⟩) hS0 ?_
    · intro W hSw
      obtain ⟨s0, s1, s2, s3⟩ := hSw
      go_simp
    try simp only [Act.put, List.setIfInBounds_toArray, List.set_cons_zero, List.set_cons_succ]
    refine wpAnyH_take (i := 11) (v := .bool false) rfl (by kernel_rfl) (by kernel_rfl) (by kernel_rfl) (fun _ _ _ h => h) (Or.inl ⟨by kernel_rfl, ?_⟩) hS0 ?_
    · intro W hSw
      obtain ⟨s0, s1, s2, s3⟩ := hSw
      go_simp
    try simp only [Act.put, List.setIfInBounds_toArray, List.set_cons_zero, List.set_cons_succ]
    refine wpAnyH_take (i := 12) (v := .bool false) rfl (by kernel_rfl) (by kernel_rfl) (by kernel_rfl) (fun _ _ _ h => h) (Or.inl ⟨by kernel_rfl, ?_⟩) hS0 ?_
    · intro W hSw
      obtain ⟨s0, s1, s2, s3⟩ := hSw
      go_simp
    try simp only [Act.put, List.setIfInBounds_toArray, List.set_cons_zero, List.set_cons_succ]
    refine wpAnyH_take (i := 13) (v := .bool false) rfl (by kernel_rfl) (by kernel_rfl) (by kernel_rfl) (fun _ _ _ h => h) (Or.inl ⟨by kernel_rfl, ?_⟩) hS0 ?_
    · intro W hSw
      obtain ⟨s0, s1, s2, s3⟩ := hSw
      go_simp
    try simp only [Act.put, List.setIfInBounds_toArray, List.set_cons_zero, List.set_cons_succ]
    refine wpAnyH_take (i := 14) (v := .slice a5 be.length c5) rfl (by kernel_rfl) (by kernel_rfl) (by kernel_rfl) (fun _ _ _ h => h) (Or.inl ⟨by kernel_rfl, ?_⟩) hS0 ?_
    · intro W hSw
      obtain ⟨s0, s1, s2, s3⟩ := hSw
      go_simp
    try simp only [Act.put, List.setIfInBounds_toArray, List.set_cons_zero, List.set_cons_succ]
    refine wpAnyH_take (i := 15) (v := .slice a6 be.length c6) rfl (by kernel_rfl) (by kernel_rfl) (by kernel_rfl) (fun _ _ _ h => h) (Or.inl ⟨by kernel_rfl, ?_⟩) hS0 ?_
    · intro W hSw
      obtain ⟨s0, s1, s2, s3⟩ := hSw
      go_simp
    try simp only [Act.put, List.setIfInBounds_toArray, List.set_cons_zero, List.set_cons_succ]
    refine wpAnyH_ready (rs := [16]) (by kernel_rfl) (by simp) ?_
    refine AllReadyH.cons rfl (fun K hK => ?_) AllReadyH.nil
    go_simp
    go_at_call 18
    refine (sameInts_any _ _ _ _ KE.out KF.out).mono ?_
    rintro e wn ⟨rfl, hbn⟩
    replace K1 : Hid (KH wn w1.heap.size a0 c0 W hf bs nx) := K1.out.on hbn
    replace K2 : Hid (KH wn w2.heap.size a1 c1 W1 hf1 bs1 nx1) := K2.out.on hbn
    replace K7 : Hid (KH wn w7.heap.size ar cr Wr hfr bsr nxr) := K7.out.on hbn
    replace K9 : Hid (KH wn w9.heap.size ay cy Wy hfy bsy nxy) := K9.out.on hbn
    replace KE := hid_of (ki_on KE.out hbn)
    replace KF := hid_of (ki_on KF.out hbn)
    replace KK := hid_of (ki_on KK.out hbn)
    replace BB : Hid (Below w.heap.size w wn) := BB.out.trans (hbn.mono BB.out.size)
    clear hbn
    replace ra0 : wn.cell? ⟨w7.heap.size, 0, none⟩ = some (.slice ar Wr.length cr) := K7.out.cell 0 rfl
    replace ra1 : wn.cell? ⟨w7.heap.size, 1, none⟩ = some (.int .i64 hfr) := K7.out.cell 1 rfl
    replace ra2 : wn.cell? ⟨w7.heap.size, 2, none⟩ = some (.int .i64 bsr) := K7.out.cell 2 rfl
    replace ra3 : wn.cell? ⟨w7.heap.size, 3, none⟩ = some (.int .i64 nxr) := K7.out.cell 3 rfl
    have hS1 : (fun X : World => X.cell? ⟨w7.heap.size, 0, none⟩ = some (.slice ar Wr.length cr) ∧ X.cell? ⟨w7.heap.size, 1, none⟩ = some (.int .i64 hfr) ∧ X.cell? ⟨w7.heap.size, 2, none⟩ = some (.int .i64 bsr) ∧ X.cell? ⟨w7.heap.size, 3, none⟩ = some (.int .i64 nxr)) wn := ⟨ra0, ra1, ra2, ra3⟩
    refine hK.out _ _ hS1 (fun _ => ?_)
    clear hK K
    try simp only [Act.put, List.setIfInBounds_toArray, List.set_cons_zero, List.set_cons_succ]
    refine wpAnyH_take (i := 17) (v := .bool false) rfl (by kernel_rfl) (by kernel_rfl) (by kernel_rfl) (fun _ _ _ h => h) (Or.inl ⟨by kernel_rfl, ?_⟩) hS1 ?_
    · intro W hSw
      obtain ⟨s0, s1, s2, s3⟩ := hSw
      go_simp
    try simp only [Act.put, List.setIfInBounds_toArray, List.set_cons_zero, List.set_cons_succ]
    refine wpAnyH_take (i := 18) (v := .bool false) rfl (by kernel_rfl) (by kernel_rfl) (by kernel_rfl) (fun _ _ _ h => h) (Or.inl ⟨by kernel_rfl, ?_⟩) hS1 ?_
    · intro W hSw
      obtain ⟨s0, s1, s2, s3⟩ := hSw
      go_simp
    try simp only [Act.put, List.setIfInBounds_toArray, List.set_cons_zero, List.set_cons_succ]
    refine wpAnyH_take (i := 19) (v := .bool false) rfl (by kernel_rfl) (by kernel_rfl) (by kernel_rfl) (fun _ _ _ h => h) (Or.inl ⟨by kernel_rfl, ?_⟩) hS1 ?_
    · intro W hSw
      obtain ⟨s0, s1, s2, s3⟩ := hSw
      go_simp
    try simp only [Act.put, List.setIfInBounds_toArray, List.set_cons_zero, List.set_cons_succ]
    refine wpAnyH_take (i := 20) (v := .agg #[.slice ar Wr.length cr, .int .i64 hfr, .int .i64 bsr, .int .i64 nxr]) rfl (by kernel_rfl) (by kernel_rfl) (by kernel_rfl) (fun _ _ _ h => h) (Or.inl ⟨by kernel_rfl, ?_⟩) hS1 ?_
    · intro W hSw
      obtain ⟨s0, s1, s2, s3⟩ := hSw
      go_simp
    try simp only [Act.put, List.setIfInBounds_toArray, List.set_cons_zero, List.set_cons_succ]
    refine wpAnyH_take (i := 22) (v := .agg #[.slice ar Wr.length cr, .int .i64 hfr, .int .i64 bsr, .int .i64 nxr]) rfl (by kernel_rfl) (by kernel_rfl) (by kernel_rfl) (fun _ _ _ h => h) (Or.inl ⟨by kernel_rfl, ?_⟩) hS1 ?_
    · intro W hSw
      obtain ⟨s0, s1, s2, s3⟩ := hSw
      go_simp
    try simp only [Act.put, List.setIfInBounds_toArray, List.set_cons_zero, List.set_cons_succ]
    refine wpAnyH_ready (rs := [21]) (by kernel_rfl) (by simp) ?_
    refine AllReadyH.cons rfl (fun K hK => ?_) AllReadyH.nil
    go_simp
    go_at_call 19
    refine (IR.out _ K7.out.rep).mono ?_
    rintro e wn ⟨rfl, hbn⟩
    replace K1 : Hid (KH wn w1.heap.size a0 c0 W hf bs nx) := K1.out.on hbn
    replace K2 : Hid (KH wn w2.heap.size a1 c1 W1 hf1 bs1 nx1) := K2.out.on hbn
    replace K7 : Hid (KH wn w7.heap.size ar cr Wr hfr bsr nxr) := K7.out.on hbn
    replace K9 : Hid (KH wn w9.heap.size ay cy Wy hfy bsy nxy) := K9.out.on hbn
    replace KE := hid_of (ki_on KE.out hbn)
    replace KF := hid_of (ki_on KF.out hbn)
    replace KK := hid_of (ki_on KK.out hbn)
    replace BB : Hid (Below w.heap.size w wn) := BB.out.trans (hbn.mono BB.out.size)
    clear hbn
    replace ra0 : wn.cell? ⟨w7.heap.size, 0, none⟩ = some (.slice ar Wr.length cr) := K7.out.cell 0 rfl
    replace ra1 : wn.cell? ⟨w7.heap.size, 1, none⟩ = some (.int .i64 hfr) := K7.out.cell 1 rfl
    replace ra2 : wn.cell? ⟨w7.heap.size, 2, none⟩ = some (.int .i64 bsr) := K7.out.cell 2 rfl
    replace ra3 : wn.cell? ⟨w7.heap.size, 3, none⟩ = some (.int .i64 nxr) := K7.out.cell 3 rfl
    have hS2 : (fun X : World => X.cell? ⟨w7.heap.size, 0, none⟩ = some (.slice ar Wr.length cr) ∧ X.cell? ⟨w7.heap.size, 1, none⟩ = some (.int .i64 hfr) ∧ X.cell? ⟨w7.heap.size, 2, none⟩ = some (.int .i64 bsr) ∧ X.cell? ⟨w7.heap.size, 3, none⟩ = some (.int .i64 nxr)) wn := ⟨ra0, ra1, ra2, ra3⟩
    refine hK.out _ _ hS2 (fun _ => ?_)
    clear hK K
    try simp only [Act.put, List.setIfInBounds_toArray, List.set_cons_zero, List.set_cons_succ]
    refine wpAnyH_ready (rs := [23]) (by kernel_rfl) (by simp) ?_
    refine AllReadyH.cons rfl (fun K hK => ?_) AllReadyH.nil
    go_simp
    go_at_call 20
    refine (SR.out _ K7.out.rep).mono ?_
    rintro e wn ⟨rfl, hbn⟩
    replace K1 : Hid (KH wn w1.heap.size a0 c0 W hf bs nx) := K1.out.on hbn
    replace K2 : Hid (KH wn w2.heap.size a1 c1 W1 hf1 bs1 nx1) := K2.out.on hbn
    replace K7 : Hid (KH wn w7.heap.size ar cr Wr hfr bsr nxr) := K7.out.on hbn
    replace K9 : Hid (KH wn w9.heap.size ay cy Wy hfy bsy nxy) := K9.out.on hbn
    replace KE := hid_of (ki_on KE.out hbn)
    replace KF := hid_of (ki_on KF.out hbn)
    replace KK := hid_of (ki_on KK.out hbn)
    replace BB : Hid (Below w.heap.size w wn) := BB.out.trans (hbn.mono BB.out.size)
    clear hbn
    replace ra0 : wn.cell? ⟨w7.heap.size, 0, none⟩ = some (.slice ar Wr.length cr) := K7.out.cell 0 rfl
    replace ra1 : wn.cell? ⟨w7.heap.size, 1, none⟩ = some (.int .i64 hfr) := K7.out.cell 1 rfl
    replace ra2 : wn.cell? ⟨w7.heap.size, 2, none⟩ = some (.int .i64 bsr) := K7.out.cell 2 rfl
    replace ra3 : wn.cell? ⟨w7.heap.size, 3, none⟩ = some (.int .i64 nxr) := K7.out.cell 3 rfl
    have hS3 : (fun X : World => X.cell? ⟨w7.heap.size, 0, none⟩ = some (.slice ar Wr.length cr) ∧ X.cell? ⟨w7.heap.size, 1, none⟩ = some (.int .i64 hfr) ∧ X.cell? ⟨w7.heap.size, 2, none⟩ = some (.int .i64 bsr) ∧ X.cell? ⟨w7.heap.size, 3, none⟩ = some (.int .i64 nxr)) wn := ⟨ra0, ra1, ra2, ra3⟩
    refine hK.out _ _ hS3 (fun _ => ?_)
    clear hK K
    try simp only [Act.put, List.setIfInBounds_toArray, List.set_cons_zero, List.set_cons_succ]
    refine wpAnyH_take (i := 24) (v := .bool false) rfl (by kernel_rfl) (by kernel_rfl) (by kernel_rfl) (fun _ _ _ h => h) (Or.inl ⟨by kernel_rfl, ?_⟩) hS3 ?_
    · intro W hSw
      obtain ⟨s0, s1, s2, s3⟩ := hSw
      go_simp
    try simp only [Act.put, List.setIfInBounds_toArray, List.set_cons_zero, List.set_cons_succ]
    refine wpAnyH_take (i := 25) (v := .bool false) rfl (by kernel_rfl) (by kernel_rfl) (by kernel_rfl) (fun _ _ _ h => h) (Or.inl ⟨by kernel_rfl, ?_⟩) hS3 ?_
    · intro W hSw
      obtain ⟨s0, s1, s2, s3⟩ := hSw
      go_simp
    try simp only [Act.put, List.setIfInBounds_toArray, List.set_cons_zero, List.set_cons_succ]
    refine wpAnyH_take (i := 26) (v := .bool false) rfl (by kernel_rfl) (by kernel_rfl) (by kernel_rfl) (fun _ _ _ h => h) (Or.inl ⟨by kernel_rfl, ?_⟩) hS3 ?_
    · intro W hSw
      obtain ⟨s0, s1, s2, s3⟩ := hSw
      go_simp
    try simp only [Act.put, List.setIfInBounds_toArray, List.set_cons_zero, List.set_cons_succ]
    refine wpAnyH_take (i := 27) (v := .bool false) rfl (by kernel_rfl) (by kernel_rfl) (by kernel_rfl) (fun _ _ _ h => h) (Or.inl ⟨by kernel_rfl, ?_⟩) hS3 ?_
    · intro W hSw
      obtain ⟨s0, s1, s2, s3⟩ := hSw
      go_simp
    try simp only [Act.put, List.setIfInBounds_toArray, List.set_cons_zero, List.set_cons_succ]
    refine wpAnyH_take (i := 28) (v := .bool false) rfl (by kernel_rfl) (by kernel_rfl) (by kernel_rfl) (fun _ _ _ h => h) (Or.inl ⟨by kernel_rfl, ?_⟩) hS3 ?_
    · intro W hSw
      obtain ⟨s0, s1, s2, s3⟩ := hSw
      go_simp
    try simp only [Act.put, List.setIfInBounds_toArray, List.set_cons_zero, List.set_cons_succ]
    refine wpAnyH_take (i := 29) (v := .bool false) rfl (by kernel_rfl) (by kernel_rfl) (by kernel_rfl) (fun _ _ _ h => h) (Or.inl ⟨by kernel_rfl, ?_⟩) hS3 ?_
    · intro W hSw
      obtain ⟨s0, s1, s2, s3⟩ := hSw
      go_simp
    try simp only [Act.put, List.setIfInBounds_toArray, List.set_cons_zero, List.set_cons_succ]
    refine wpAnyH_take (i := 30) (v := .bool false) rfl (by kernel_rfl) (by kernel_rfl) (by kernel_rfl) (fun _ _ _ h => h) (Or.inl ⟨by kernel_rfl, ?_⟩) hS3 ?_
    · intro W hSw
      obtain ⟨s0, s1, s2, s3⟩ := hSw
      go_simp
    try simp only [Act.put, List.setIfInBounds_toArray, List.set_cons_zero, List.set_cons_succ]
    refine wpAnyH_take (i := 31) (v := .bool false) rfl (by kernel_rfl) (by kernel_rfl) (by kernel_rfl) (fun _ _ _ h => h) (Or.inl ⟨by kernel_rfl, ?_⟩) hS3 ?_
    · intro W hSw
      obtain ⟨s0, s1, s2, s3⟩ := hSw
      go_simp
    try simp only [Act.put, List.setIfInBounds_toArray, List.set_cons_zero, List.set_cons_succ]
    refine wpAnyH_take (i := 32) (v := .bool false) rfl (by kernel_rfl) (by kernel_rfl) (by kernel_rfl) (fun _ _ _ h => h) (Or.inl ⟨by kernel_rfl, ?_⟩) hS3 ?_
    · intro W hSw
      obtain ⟨s0, s1, s2, s3⟩ := hSw
      go_simp
    try simp only [Act.put, List.setIfInBounds_toArray, List.set_cons_zero, List.set_cons_succ]
    refine wpAnyH_take (i := 33) (v := .bool false) rfl (by kernel_rfl) (by kernel_rfl) (by kernel_rfl) (fun _ _ _ h => h) (Or.inl ⟨by kernel_rfl, ?_⟩) hS3 ?_
    · intro W hSw
      obtain ⟨s0, s1, s2, s3⟩ := hSw
      go_simp
    try simp only [Act.put, List.setIfInBounds_toArray, List.set_cons_zero, List.set_cons_succ]
    refine wpAnyH_take (i := 34) (v := undef) rfl (by kernel_rfl) (by kernel_rfl) (by kernel_rfl) (fun _ _ _ h => h) (Or.inr ⟨by kernel_rfl, rfl⟩) hS3 ?_
    try simp only [Act.put, List.setIfInBounds_toArray, List.set_cons_zero, List.set_cons_succ]
    refine wpAnyH_take (i := 35) (v := undef) rfl (by kernel_rfl) (by kernel_rfl) (by kernel_rfl) (fun _ _ _ h => h) (Or.inr ⟨by kernel_rfl, rfl⟩) hS3 ?_
    try simp only [Act.put, List.setIfInBounds_toArray, List.set_cons_zero, List.set_cons_succ]
    refine wpAnyH_take (i := 36) (v := undef) rfl (by kernel_rfl) (by kernel_rfl) (by kernel_rfl) (fun _ _ _ h => h) (Or.inr ⟨by kernel_rfl, rfl⟩) hS3 ?_
    try simp only [Act.put, List.setIfInBounds_toArray, List.set_cons_zero, List.set_cons_succ]
    refine wpAnyH_take (i := 37) (v := .bool false) rfl (by kernel_rfl) (by kernel_rfl) (by kernel_rfl) (fun _ _ _ h => h) (Or.inl ⟨by kernel_rfl, ?_⟩) hS3 ?_
    · intro W hSw
      obtain ⟨s0, s1, s2, s3⟩ := hSw
      go_simp
    try simp only [Act.put, List.setIfInBounds_toArray, List.set_cons_zero, List.set_cons_succ]
    refine wpAnyH_take (i := 38) (v := .bool false) rfl (by kernel_rfl) (by kernel_rfl) (by kernel_rfl) (fun _ _ _ h => h) (Or.inl ⟨by kernel_rfl, ?_⟩) hS3 ?_
    · intro W hSw
      obtain ⟨s0, s1, s2, s3⟩ := hSw
      go_simp
    try simp only [Act.put, List.setIfInBounds_toArray, List.set_cons_zero, List.set_cons_succ]
    refine wpAnyH_done (by kernel_rfl) ?_ _
    try simp only [Act.put, List.getElem_toArray, List.getElem?_toArray, List.getElem_cons_succ, List.getElem_cons_zero, List.getElem?_cons_succ, List.getElem?_cons_zero, List.setIfInBounds_toArray, List.set_cons_succ, List.set_cons_zero]
    clear IR SR KE KF K7 K9 HU10 ra0 ra1 ra2 ra3 ya0 ya1 ya2 ya3
    cases ok with
    | false =>
      have hno := AN.out rfl
      simp only [Prod.mk.injEq] at hno
      obtain ⟨⟨rfl, rfl, rfl, rfl⟩, rfl, -⟩ := hno
      have d0 := K1.out.cell 0 rfl
      have d1 := K1.out.cell 1 rfl
      have d2 := K1.out.cell 2 rfl
      have d3 := K1.out.cell 3 rfl
      have e0 := K2.out.cell 0 rfl
      have e1 := K2.out.cell 1 rfl
      have e2 := K2.out.cell 2 rfl
      have e3 := K2.out.cell 3 rfl
      have hcs := sameHeap_any _ _ _ _ K2.out.rep K1.out.rep
      go_wp2_with fail
      refine hcs.mono ?_
      rintro e w11 ⟨rfl, hb11⟩
      have B11 := hid_of (BB.out.trans (hb11.mono BB.out.size))
      clear hb11 hcs
      go_wp2
      go_ret
      exact ⟨rfl, B11.out⟩
    | true =>
      obtain ⟨he, hT, h0, hk20, hroom, hM⟩ := AY.out rfl
      simp only [Prod.mk.injEq, and_true] at he
      obtain ⟨he1, rfl⟩ := he
      have HM : Hid (moreF (W, hf, bs, pl) fn tag kids = (W1, hf1, bs1, nx1)) := by show _ = _; rw [← he1]
      have hMB := more_block (T := (W, hf, bs, pl)) (fn := fn) (tag := tag) (kids := kids) hT h0 hk20 hroom hM
      have hMR := more_room (T := (W, hf, bs, pl)) (fn := fn) (tag := tag) (kids := kids) hT hM
      have hMS := fun (i : Nat) (hi : (i : Int) < pl) => more_same (T := (W, hf, bs, pl)) (fn := fn) (tag := tag) (kids := kids) hT hroom hi
      have HMO : Hid (heapB (W1, hf1, bs1, nx1) = true) := by show _ = _; rw [← HM.out]; exact hM
      rw [HM.out] at hMB hMR hMS
      have HMR := hid_of hMR
      have HMS := hid_of hMS
      have hin := head_in (heapB_in hT)
      dsimp only at hin
      have HIN := hid_of hin
      have HTB := hid_of hT
      have hbk : Hid (∀ V : World, heapSh.rep V (· < V.heap.size) [.slice a1 W1.length c1, .int .i64 hf1, .int .i64 bs1, .int .i64 nx1] (W1, hf1, bs1, nx1) → Calls Try.prog 12 #[.agg #[.slice a1 W1.length c1, .int .i64 hf1, .int .i64 bs1, .int .i64 nx1], .int .i64 pl] V fun e w' => (∃ v', e = .returned (.tuple #[.bool fn, .int .i64 tag, v', .bool true]) ∧ intsSp.rep w' (fun b => V.heap.size ≤ b ∧ b < w'.heap.size) [v'] kids) ∧ Below V.heap.size V w') := fun V hV => by
        have := implBlockAt (W1, hf1, bs1, nx1) pl _ V (by show W1.length ≤ _; omega) (by omega) (by omega) hV
        rw [hMB] at this; exact this
      obtain ⟨rm, hrm⟩ : ∃ x, x = roomF (W, hf, bs, pl) := ⟨_, rfl⟩
      have hrmv : rm = bs + hf - pl := by rw [hrm]; unfold roomF; rw [hT]; rfl
      have IRa : Hid (∀ V : World, heapSh.rep V (· < V.heap.size) [.slice a1 W1.length c1, .int .i64 hf1, .int .i64 bs1, .int .i64 nx1] (W1, hf1, bs1, nx1) → Calls Try.prog 19 #[.agg #[.slice a1 W1.length c1, .int .i64 hf1, .int .i64 bs1, .int .i64 nx1]] V fun e w' => e = .returned (.int .i64 (rm - 1 - kids.length)) ∧ Below V.heap.size V w') := fun V hV => by
        have := implRoom (W1, hf1, bs1, nx1) _ V (by show W1.length ≤ _; omega) hV
        rw [HMR.out, ← hrm] at this; exact this
      have IRh : Hid (∀ V : World, heapSh.rep V (· < V.heap.size) [.slice a0 W.length c0, .int .i64 hf, .int .i64 bs, .int .i64 pl] (W, hf, bs, pl) → Calls Try.prog 19 #[.agg #[.slice a0 W.length c0, .int .i64 hf, .int .i64 bs, .int .i64 pl]] V fun e w' => e = .returned (.int .i64 rm) ∧ Below V.heap.size V w') := fun V hV => by
        have := implRoom (W, hf, bs, pl) _ V (by show W.length ≤ _; omega) hV
        rw [← hrm] at this; exact this
      have hrr : 0 ≤ rm ∧ rm ≤ 3000 := by omega
      have hwr1 : IntKind.i64.wrap (rm - 1) = rm - 1 := by rw [IntKind.wrap_i64]; omega
      have hwr2 : IntKind.i64.wrap (rm - 1 - (kids.length : Int)) = rm - 1 - (kids.length : Int) := by rw [IntKind.wrap_i64]; omega
      clear he1 hMB hMR hMS hin hT h0 hM hrm hrmv AY AN HM HMR
      have e0 := K2.out.cell 0 rfl
      have e1 := K2.out.cell 1 rfl
      have e2 := K2.out.cell 2 rfl
      have e3 := K2.out.cell 3 rfl
      have hb11' := hbk.out wn K2.out.rep
      go_wp2_with fail
      refine hb11'.mono ?_
      rintro e w11 ⟨⟨v11, rfl, hr11⟩, hbn⟩
      obtain ⟨a7, c7, hv7⟩ : ∃ a c, v11 = .slice a kids.length c := by obtain ⟨a, c, e⟩ := slice_cells (intsp_rep hr11); simp only [List.cons.injEq, and_true] at e; exact ⟨a, c, e⟩
      subst hv7
      have KU : Hid (intsSh.rep w11 (· < w11.heap.size) [.slice a7 kids.length c7] kids) := intsSh.mono (intsp_rep hr11) fun b hb => hb.2
      replace K1 : Hid (KH w11 w1.heap.size a0 c0 W hf bs pl) := K1.out.on hbn
      replace K2 : Hid (KH w11 w2.heap.size a1 c1 W1 hf1 bs1 nx1) := K2.out.on hbn
      replace KK := hid_of (ki_on KK.out hbn)
      replace BB : Hid (Below w.heap.size w w11) := BB.out.trans (hbn.mono BB.out.size)
      clear hb11' hbk hbn hr11 e0 e1 e2 e3
      have ta0 : w11.cell? ⟨w1.heap.size, 0, none⟩ = some (.slice a0 W.length c0) := K1.out.cell 0 rfl
      have ta1 : w11.cell? ⟨w1.heap.size, 1, none⟩ = some (.int .i64 hf) := K1.out.cell 1 rfl
      have ta2 : w11.cell? ⟨w1.heap.size, 2, none⟩ = some (.int .i64 bs) := K1.out.cell 2 rfl
      have ta3 : w11.cell? ⟨w1.heap.size, 3, none⟩ = some (.int .i64 pl) := K1.out.cell 3 rfl
      have ua0 : w11.cell? ⟨w2.heap.size, 0, none⟩ = some (.slice a1 W1.length c1) := K2.out.cell 0 rfl
      have ua1 : w11.cell? ⟨w2.heap.size, 1, none⟩ = some (.int .i64 hf1) := K2.out.cell 1 rfl
      have ua2 : w11.cell? ⟨w2.heap.size, 2, none⟩ = some (.int .i64 bs1) := K2.out.cell 2 rfl
      have ua3 : w11.cell? ⟨w2.heap.size, 3, none⟩ = some (.int .i64 nx1) := K2.out.cell 3 rfl
      go_wp2_with fail
      replace K1 : Hid (KH w11.drew w1.heap.size a0 c0 W hf bs pl) := K1.out.on (Below.refl _ _).drew
      replace K2 : Hid (KH w11.drew w2.heap.size a1 c1 W1 hf1 bs1 nx1) := K2.out.on (Below.refl _ _).drew
      replace KU := hid_of (ki_on (V' := w11.drew) KU.out (Below.refl _ _).drew)
      replace KK := hid_of (ki_on (V' := w11.drew) KK.out (Below.refl _ _).drew)
      replace BB : Hid (Below w.heap.size w w11.drew) := BB.out.drew
      go_region_held3 (fun X => X.cell? ⟨w1.heap.size, 0, none⟩ = some (.slice a0 W.length c0) ∧ X.cell? ⟨w1.heap.size, 1, none⟩ = some (.int .i64 hf) ∧ X.cell? ⟨w1.heap.size, 2, none⟩ = some (.int .i64 bs) ∧ X.cell? ⟨w1.heap.size, 3, none⟩ = some (.int .i64 pl) ∧ X.cell? ⟨w2.heap.size, 0, none⟩ = some (.slice a1 W1.length c1) ∧ X.cell? ⟨w2.heap.size, 1, none⟩ = some (.int .i64 hf1) ∧ X.cell? ⟨w2.heap.size, 2, none⟩ = some (.int .i64 bs1) ∧ X.cell? ⟨w2.heap.size, 3, none⟩ = some (.int .i64 nx1))
        (exact ⟨(by first | with_reducible exact ta0 | (rw [cell_drewD]; with_reducible exact ta0)), (by first | with_reducible exact ta1 | (rw [cell_drewD]; with_reducible exact ta1)), (by first | with_reducible exact ta2 | (rw [cell_drewD]; with_reducible exact ta2)), (by first | with_reducible exact ta3 | (rw [cell_drewD]; with_reducible exact ta3)), (by first | with_reducible exact ua0 | (rw [cell_drewD]; with_reducible exact ua0)), (by first | with_reducible exact ua1 | (rw [cell_drewD]; with_reducible exact ua1)), (by first | with_reducible exact ua2 | (rw [cell_drewD]; with_reducible exact ua2)), (by first | with_reducible exact ua3 | (rw [cell_drewD]; with_reducible exact ua3))⟩)
        (first
          | (go_at_call 18; refine (sameInts_any _ _ _ _ KU.out KK.out).mono ?_; rintro e wn ⟨rfl, hbn⟩; replace K1 : Hid (KH wn w1.heap.size a0 c0 W hf bs pl) := K1.out.on hbn; replace K2 : Hid (KH wn w2.heap.size a1 c1 W1 hf1 bs1 nx1) := K2.out.on hbn; replace KU := hid_of (ki_on KU.out hbn); replace KK := hid_of (ki_on KK.out hbn); replace BB : Hid (Below w.heap.size w wn) := BB.out.trans (hbn.mono BB.out.size); clear hbn; replace ta0 : wn.cell? ⟨w1.heap.size, 0, none⟩ = some (.slice a0 W.length c0) := K1.out.cell 0 rfl; replace ta1 : wn.cell? ⟨w1.heap.size, 1, none⟩ = some (.int .i64 hf) := K1.out.cell 1 rfl; replace ta2 : wn.cell? ⟨w1.heap.size, 2, none⟩ = some (.int .i64 bs) := K1.out.cell 2 rfl; replace ta3 : wn.cell? ⟨w1.heap.size, 3, none⟩ = some (.int .i64 pl) := K1.out.cell 3 rfl; replace ua0 : wn.cell? ⟨w2.heap.size, 0, none⟩ = some (.slice a1 W1.length c1) := K2.out.cell 0 rfl; replace ua1 : wn.cell? ⟨w2.heap.size, 1, none⟩ = some (.int .i64 hf1) := K2.out.cell 1 rfl; replace ua2 : wn.cell? ⟨w2.heap.size, 2, none⟩ = some (.int .i64 bs1) := K2.out.cell 2 rfl; replace ua3 : wn.cell? ⟨w2.heap.size, 3, none⟩ = some (.int .i64 nx1) := K2.out.cell 3 rfl)
          | (go_at_call 19; (with_reducible show Calls _ _ #[.agg #[.slice a1 W1.length c1, .int .i64 hf1, .int .i64 bs1, .int .i64 nx1]] _ _); refine (IRa.out _ K2.out.rep).mono ?_; rintro e wn ⟨rfl, hbn⟩; replace K1 : Hid (KH wn w1.heap.size a0 c0 W hf bs pl) := K1.out.on hbn; replace K2 : Hid (KH wn w2.heap.size a1 c1 W1 hf1 bs1 nx1) := K2.out.on hbn; replace KU := hid_of (ki_on KU.out hbn); replace KK := hid_of (ki_on KK.out hbn); replace BB : Hid (Below w.heap.size w wn) := BB.out.trans (hbn.mono BB.out.size); clear hbn; replace ta0 : wn.cell? ⟨w1.heap.size, 0, none⟩ = some (.slice a0 W.length c0) := K1.out.cell 0 rfl; replace ta1 : wn.cell? ⟨w1.heap.size, 1, none⟩ = some (.int .i64 hf) := K1.out.cell 1 rfl; replace ta2 : wn.cell? ⟨w1.heap.size, 2, none⟩ = some (.int .i64 bs) := K1.out.cell 2 rfl; replace ta3 : wn.cell? ⟨w1.heap.size, 3, none⟩ = some (.int .i64 pl) := K1.out.cell 3 rfl; replace ua0 : wn.cell? ⟨w2.heap.size, 0, none⟩ = some (.slice a1 W1.length c1) := K2.out.cell 0 rfl; replace ua1 : wn.cell? ⟨w2.heap.size, 1, none⟩ = some (.int .i64 hf1) := K2.out.cell 1 rfl; replace ua2 : wn.cell? ⟨w2.heap.size, 2, none⟩ = some (.int .i64 bs1) := K2.out.cell 2 rfl; replace ua3 : wn.cell? ⟨w2.heap.size, 3, none⟩ = some (.int .i64 nx1) := K2.out.cell 3 rfl)
          | (go_at_call 19; (with_reducible show Calls _ _ #[.agg #[.slice a0 W.length c0, .int .i64 hf, .int .i64 bs, .int .i64 pl]] _ _); refine (IRh.out _ K1.out.rep).mono ?_; rintro e wn ⟨rfl, hbn⟩; replace K1 : Hid (KH wn w1.heap.size a0 c0 W hf bs pl) := K1.out.on hbn; replace K2 : Hid (KH wn w2.heap.size a1 c1 W1 hf1 bs1 nx1) := K2.out.on hbn; replace KU := hid_of (ki_on KU.out hbn); replace KK := hid_of (ki_on KK.out hbn); replace BB : Hid (Below w.heap.size w wn) := BB.out.trans (hbn.mono BB.out.size); clear hbn; replace ta0 : wn.cell? ⟨w1.heap.size, 0, none⟩ = some (.slice a0 W.length c0) := K1.out.cell 0 rfl; replace ta1 : wn.cell? ⟨w1.heap.size, 1, none⟩ = some (.int .i64 hf) := K1.out.cell 1 rfl; replace ta2 : wn.cell? ⟨w1.heap.size, 2, none⟩ = some (.int .i64 bs) := K1.out.cell 2 rfl; replace ta3 : wn.cell? ⟨w1.heap.size, 3, none⟩ = some (.int .i64 pl) := K1.out.cell 3 rfl; replace ua0 : wn.cell? ⟨w2.heap.size, 0, none⟩ = some (.slice a1 W1.length c1) := K2.out.cell 0 rfl; replace ua1 : wn.cell? ⟨w2.heap.size, 1, none⟩ = some (.int .i64 hf1) := K2.out.cell 1 rfl; replace ua2 : wn.cell? ⟨w2.heap.size, 2, none⟩ = some (.int .i64 bs1) := K2.out.cell 2 rfl; replace ua3 : wn.cell? ⟨w2.heap.size, 3, none⟩ = some (.int .i64 nx1) := K2.out.cell 3 rfl))
      clear IRa IRh hwr1 hwr2 hrr KU ta0 ta1 ta2 ta3 ua0 ua1 ua2 ua3
      have hrange : 0 ≤ bs ∧ bs ≤ 3000 ∧ 0 ≤ pl ∧ pl ≤ 6000 ∧ bs ≤ pl ∧ pl ≤ (W.length : Int) := by have := HIN.out; omega
      obtain ⟨bn, rfl⟩ : ∃ z : Nat, bs = z := ⟨bs.toNat, by omega⟩
      obtain ⟨pn, rfl⟩ : ∃ z : Nat, pl = z := ⟨pl.toNat, by omega⟩
      have HRG : Hid (bn ≤ pn ∧ pn ≤ 6000 ∧ pn ≤ W.length) := by show _ ∧ _; omega
      have b2 := K1.out.cell 2 rfl
      have K1L : Hid (KH wn w1.heap.size a0 c0 W hf bn pn) := K1
      have K2L : Hid (KH wn w2.heap.size a1 c1 W1 hf1 bs1 nx1) := K2
      have BBL : Hid (Below w.heap.size w wn) := BB
      clear hrange
      go_wp2
      go_loopw [33] (fun v33 wr => ∃ k : Nat, bn ≤ k ∧ k ≤ pn ∧ v33 = .int .i64 k ∧ Hid (KH wr w1.heap.size a0 c0 W hf bn pn) ∧ Hid (KH wr w2.heap.size a1 c1 W1 hf1 bs1 nx1) ∧ Hid (Below w.heap.size w wr)) (fun v33 _ => pn + 1 - (intOf v33).toNat)
      case atStart => exact ⟨bn, Nat.le_refl _, HRG.out.1, rfl, K1L, K2L, BBL⟩
      case round =>
        obtain ⟨k, hk1, hk2, rfl, HK1, HK2, HBB⟩ := hrel
        have hn6 : pn ≤ 6000 := HRG.out.2.1
        have b3 := HK1.out.cell 3 rfl
        by_cases hkp : k < pn
        · have hkW : k < W.length := by have := HRG.out; omega
          have hkW1 : k < W1.length := by rw [HAL.out]; exact hkW
          obtain ⟨b, o, rfl, x0, r1, r2⟩ := HK1.out.word k hkW
          obtain ⟨b', o', rfl, x1, -, -⟩ := HK2.out.word k hkW1
          have hs := HMS.out k (by omega)
          rw [getD_atH hkW, getD_atH hkW1] at hs
          rw [hs] at x1
          obtain ⟨x, hx⟩ : ∃ x, x = W[k] := ⟨_, rfl⟩
          rw [← hx] at x0 x1
          have b0 := HK1.out.cell 0 rfl
          have q0 := HK2.out.cell 0 rfl
          have i0 : (0 : Int) ≤ (k : Int) := by omega
          have i1 : (k : Int) < (W.length : Int) := by omega
          have i2 : (k : Int) < (W1.length : Int) := by omega
          have i3 : (k : Int) < (pn : Int) := by omega
          clear hs hx r1 r2
          go_wp2
          go_quiet (fail)
          have HK1n : Hid (KH (wr.drewN nq) w1.heap.size (some ⟨b, o, none⟩) c0 W hf bn pn) := HK1.out.on (drewN_bel (Below.refl _ _) nq)
          have HK2n : Hid (KH (wr.drewN nq) w2.heap.size (some ⟨b', o', none⟩) c1 W1 hf1 bs1 nx1) := HK2.out.on (drewN_bel (Below.refl _ _) nq)
          have HBn : Hid (Below w.heap.size w (wr.drewN nq)) := drewN_bel HBB.out nq
          go_wp2
          go_round
          case rel => exact ⟨k + 1, by omega, by omega, by go_num, HK1n, HK2n, HBn⟩
          case measure => simp [intOf]; omega
        · have hkk : k = pn := by omega
          have hnl : ¬ (k : Int) < (pn : Int) := by omega
          have q0 := HK2.out.cell 0 rfl
          have q1 := HK2.out.cell 1 rfl
          have q2 := HK2.out.cell 2 rfl
          have q3 := HK2.out.cell 3 rfl
          have hfin := implHeapOk (W1, hf1, bs1, nx1) _ wr (by show W1.length ≤ _; have := HAL.out; omega) HK2.out.rep
          rw [HMO.out] at hfin
          go_wp2_with fail
          refine hfin.mono ?_
          rintro e w12 ⟨rfl, hb12⟩
          have B12 := hid_of (HBB.out.trans (hb12.mono HBB.out.size))
          clear hb12 hfin
          go_wp2
          go_ret
          exact ⟨rfl, B12.out⟩
  | true =>
    obtain ⟨rm, hrm⟩ : ∃ x, x = roomF (Wr, hfr, bsr, nxr) := ⟨_, rfl⟩
    have IR : Hid (∀ V, heapSh.rep V (· < V.heap.size) [.slice ar Wr.length cr, .int .i64 hfr, .int .i64 bsr, .int .i64 nxr] (Wr, hfr, bsr, nxr) → Calls Try.prog 19 #[.agg #[.slice ar Wr.length cr, .int .i64 hfr, .int .i64 bsr, .int .i64 nxr]] V fun e w' => e = .returned (.int .i64 rm) ∧ Below V.heap.size V w') := fun V hV => by rw [hrm]; exact implRoom _ _ V (by show Wr.length ≤ _; omega) hV
    have SR : Hid (∀ V, heapSh.rep V (· < V.heap.size) [.slice ar Wr.length cr, .int .i64 hfr, .int .i64 bsr, .int .i64 nxr] (Wr, hfr, bsr, nxr) → Calls Try.prog 20 #[.agg #[.slice ar Wr.length cr, .int .i64 hfr, .int .i64 bsr, .int .i64 nxr]] V fun e w' => e = .returned (.int .i64 rm) ∧ Below V.heap.size V w') := fun V hV => by rw [hrm]; exact specRoom _ _ V (by show Wr.length ≤ _; omega) hV
    clear hrm
    have IY : Hid (∀ V, heapSh.rep V (· < V.heap.size) [.slice ay Wy.length cy, .int .i64 hfy, .int .i64 bsy, .int .i64 nxy] (Wy, hfy, bsy, nxy) → Calls Try.prog 9 #[.agg #[.slice ay Wy.length cy, .int .i64 hfy, .int .i64 bsy, .int .i64 nxy]] V fun e w' => e = .returned (.bool true) ∧ Below V.heap.size V w') := fun V hV => by have := implHeapOk _ _ V (by show Wy.length ≤ _; omega) hV; rw [HN.out rfl] at this; exact this
    have ra0 : u10.cell? ⟨w7.heap.size, 0, none⟩ = some (.slice ar Wr.length cr) := K7.out.cell 0 rfl
    have ra1 : u10.cell? ⟨w7.heap.size, 1, none⟩ = some (.int .i64 hfr) := K7.out.cell 1 rfl
    have ra2 : u10.cell? ⟨w7.heap.size, 2, none⟩ = some (.int .i64 bsr) := K7.out.cell 2 rfl
    have ra3 : u10.cell? ⟨w7.heap.size, 3, none⟩ = some (.int .i64 nxr) := K7.out.cell 3 rfl
    have ya0 : u10.cell? ⟨w9.heap.size, 0, none⟩ = some (.slice ay Wy.length cy) := K9.out.cell 0 rfl
    have ya1 : u10.cell? ⟨w9.heap.size, 1, none⟩ = some (.int .i64 hfy) := K9.out.cell 1 rfl
    have ya2 : u10.cell? ⟨w9.heap.size, 2, none⟩ = some (.int .i64 bsy) := K9.out.cell 2 rfl
    have ya3 : u10.cell? ⟨w9.heap.size, 3, none⟩ = some (.int .i64 nxy) := K9.out.cell 3 rfl
    rw [HU10.out] at ra0 ra1 ra2 ra3 ya0 ya1 ya2 ya3
    go_wp2_with fail
    rw [← HU10.out]
    rw [← HU10.out] at ra0 ra1 ra2 ra3 ya0 ya1 ya2 ya3
    replace K1 : Hid (KH u10.drew w1.heap.size a0 c0 W hf bs nx) := K1.out.on (Below.refl _ _).drew
    replace K2 : Hid (KH u10.drew w2.heap.size a1 c1 W1 hf1 bs1 nx1) := K2.out.on (Below.refl _ _).drew
    replace K7 : Hid (KH u10.drew w7.heap.size ar cr Wr hfr bsr nxr) := K7.out.on (Below.refl _ _).drew
    replace K9 : Hid (KH u10.drew w9.heap.size ay cy Wy hfy bsy nxy) := K9.out.on (Below.refl _ _).drew
    replace KE := hid_of (ki_on (V' := u10.drew) KE.out (Below.refl _ _).drew)
    replace KF := hid_of (ki_on (V' := u10.drew) KF.out (Below.refl _ _).drew)
    replace KK := hid_of (ki_on (V' := u10.drew) KK.out (Below.refl _ _).drew)
    replace BB : Hid (Below w.heap.size w u10.drew) := BB.out.drew
    go_region_held3 (fun X => X.cell? ⟨w7.heap.size, 0, none⟩ = some (.slice ar Wr.length cr) ∧ X.cell? ⟨w7.heap.size, 1, none⟩ = some (.int .i64 hfr) ∧ X.cell? ⟨w7.heap.size, 2, none⟩ = some (.int .i64 bsr) ∧ X.cell? ⟨w7.heap.size, 3, none⟩ = some (.int .i64 nxr) ∧ X.cell? ⟨w9.heap.size, 0, none⟩ = some (.slice ay Wy.length cy) ∧ X.cell? ⟨w9.heap.size, 1, none⟩ = some (.int .i64 hfy) ∧ X.cell? ⟨w9.heap.size, 2, none⟩ = some (.int .i64 bsy) ∧ X.cell? ⟨w9.heap.size, 3, none⟩ = some (.int .i64 nxy))
      (exact ⟨(by first | with_reducible exact ra0 | (rw [cell_drewD]; with_reducible exact ra0)), (by first | with_reducible exact ra1 | (rw [cell_drewD]; with_reducible exact ra1)), (by first | with_reducible exact ra2 | (rw [cell_drewD]; with_reducible exact ra2)), (by first | with_reducible exact ra3 | (rw [cell_drewD]; with_reducible exact ra3)), (by first | with_reducible exact ya0 | (rw [cell_drewD]; with_reducible exact ya0)), (by first | with_reducible exact ya1 | (rw [cell_drewD]; with_reducible exact ya1)), (by first | with_reducible exact ya2 | (rw [cell_drewD]; with_reducible exact ya2)), (by first | with_reducible exact ya3 | (rw [cell_drewD]; with_reducible exact ya3))⟩)
      (first
        | (go_at_call 18; refine (sameInts_any _ _ _ _ KE.out KF.out).mono ?_; rintro e wn ⟨rfl, hbn⟩; replace K1 : Hid (KH wn w1.heap.size a0 c0 W hf bs nx) := K1.out.on hbn; replace K2 : Hid (KH wn w2.heap.size a1 c1 W1 hf1 bs1 nx1) := K2.out.on hbn; replace K7 : Hid (KH wn w7.heap.size ar cr Wr hfr bsr nxr) := K7.out.on hbn; replace K9 : Hid (KH wn w9.heap.size ay cy Wy hfy bsy nxy) := K9.out.on hbn; replace KE := hid_of (ki_on KE.out hbn); replace KF := hid_of (ki_on KF.out hbn); replace KK := hid_of (ki_on KK.out hbn); replace BB : Hid (Below w.heap.size w wn) := BB.out.trans (hbn.mono BB.out.size); clear hbn; replace ra0 : wn.cell? ⟨w7.heap.size, 0, none⟩ = some (.slice ar Wr.length cr) := K7.out.cell 0 rfl; replace ra1 : wn.cell? ⟨w7.heap.size, 1, none⟩ = some (.int .i64 hfr) := K7.out.cell 1 rfl; replace ra2 : wn.cell? ⟨w7.heap.size, 2, none⟩ = some (.int .i64 bsr) := K7.out.cell 2 rfl; replace ra3 : wn.cell? ⟨w7.heap.size, 3, none⟩ = some (.int .i64 nxr) := K7.out.cell 3 rfl; replace ya0 : wn.cell? ⟨w9.heap.size, 0, none⟩ = some (.slice ay Wy.length cy) := K9.out.cell 0 rfl; replace ya1 : wn.cell? ⟨w9.heap.size, 1, none⟩ = some (.int .i64 hfy) := K9.out.cell 1 rfl; replace ya2 : wn.cell? ⟨w9.heap.size, 2, none⟩ = some (.int .i64 bsy) := K9.out.cell 2 rfl; replace ya3 : wn.cell? ⟨w9.heap.size, 3, none⟩ = some (.int .i64 nxy) := K9.out.cell 3 rfl)
        | (go_at_call 19; refine (IR.out _ K7.out.rep).mono ?_; rintro e wn ⟨rfl, hbn⟩; replace K1 : Hid (KH wn w1.heap.size a0 c0 W hf bs nx) := K1.out.on hbn; replace K2 : Hid (KH wn w2.heap.size a1 c1 W1 hf1 bs1 nx1) := K2.out.on hbn; replace K7 : Hid (KH wn w7.heap.size ar cr Wr hfr bsr nxr) := K7.out.on hbn; replace K9 : Hid (KH wn w9.heap.size ay cy Wy hfy bsy nxy) := K9.out.on hbn; replace KE := hid_of (ki_on KE.out hbn); replace KF := hid_of (ki_on KF.out hbn); replace KK := hid_of (ki_on KK.out hbn); replace BB : Hid (Below w.heap.size w wn) := BB.out.trans (hbn.mono BB.out.size); clear hbn; replace ra0 : wn.cell? ⟨w7.heap.size, 0, none⟩ = some (.slice ar Wr.length cr) := K7.out.cell 0 rfl; replace ra1 : wn.cell? ⟨w7.heap.size, 1, none⟩ = some (.int .i64 hfr) := K7.out.cell 1 rfl; replace ra2 : wn.cell? ⟨w7.heap.size, 2, none⟩ = some (.int .i64 bsr) := K7.out.cell 2 rfl; replace ra3 : wn.cell? ⟨w7.heap.size, 3, none⟩ = some (.int .i64 nxr) := K7.out.cell 3 rfl; replace ya0 : wn.cell? ⟨w9.heap.size, 0, none⟩ = some (.slice ay Wy.length cy) := K9.out.cell 0 rfl; replace ya1 : wn.cell? ⟨w9.heap.size, 1, none⟩ = some (.int .i64 hfy) := K9.out.cell 1 rfl; replace ya2 : wn.cell? ⟨w9.heap.size, 2, none⟩ = some (.int .i64 bsy) := K9.out.cell 2 rfl; replace ya3 : wn.cell? ⟨w9.heap.size, 3, none⟩ = some (.int .i64 nxy) := K9.out.cell 3 rfl)
        | (go_at_call 20; refine (SR.out _ K7.out.rep).mono ?_; rintro e wn ⟨rfl, hbn⟩; replace K1 : Hid (KH wn w1.heap.size a0 c0 W hf bs nx) := K1.out.on hbn; replace K2 : Hid (KH wn w2.heap.size a1 c1 W1 hf1 bs1 nx1) := K2.out.on hbn; replace K7 : Hid (KH wn w7.heap.size ar cr Wr hfr bsr nxr) := K7.out.on hbn; replace K9 : Hid (KH wn w9.heap.size ay cy Wy hfy bsy nxy) := K9.out.on hbn; replace KE := hid_of (ki_on KE.out hbn); replace KF := hid_of (ki_on KF.out hbn); replace KK := hid_of (ki_on KK.out hbn); replace BB : Hid (Below w.heap.size w wn) := BB.out.trans (hbn.mono BB.out.size); clear hbn; replace ra0 : wn.cell? ⟨w7.heap.size, 0, none⟩ = some (.slice ar Wr.length cr) := K7.out.cell 0 rfl; replace ra1 : wn.cell? ⟨w7.heap.size, 1, none⟩ = some (.int .i64 hfr) := K7.out.cell 1 rfl; replace ra2 : wn.cell? ⟨w7.heap.size, 2, none⟩ = some (.int .i64 bsr) := K7.out.cell 2 rfl; replace ra3 : wn.cell? ⟨w7.heap.size, 3, none⟩ = some (.int .i64 nxr) := K7.out.cell 3 rfl; replace ya0 : wn.cell? ⟨w9.heap.size, 0, none⟩ = some (.slice ay Wy.length cy) := K9.out.cell 0 rfl; replace ya1 : wn.cell? ⟨w9.heap.size, 1, none⟩ = some (.int .i64 hfy) := K9.out.cell 1 rfl; replace ya2 : wn.cell? ⟨w9.heap.size, 2, none⟩ = some (.int .i64 bsy) := K9.out.cell 2 rfl; replace ya3 : wn.cell? ⟨w9.heap.size, 3, none⟩ = some (.int .i64 nxy) := K9.out.cell 3 rfl)
        | (go_at_call 9; refine (IY.out _ K9.out.rep).mono ?_; rintro e wn ⟨rfl, hbn⟩; replace K1 : Hid (KH wn w1.heap.size a0 c0 W hf bs nx) := K1.out.on hbn; replace K2 : Hid (KH wn w2.heap.size a1 c1 W1 hf1 bs1 nx1) := K2.out.on hbn; replace K7 : Hid (KH wn w7.heap.size ar cr Wr hfr bsr nxr) := K7.out.on hbn; replace K9 : Hid (KH wn w9.heap.size ay cy Wy hfy bsy nxy) := K9.out.on hbn; replace KE := hid_of (ki_on KE.out hbn); replace KF := hid_of (ki_on KF.out hbn); replace KK := hid_of (ki_on KK.out hbn); replace BB : Hid (Below w.heap.size w wn) := BB.out.trans (hbn.mono BB.out.size); clear hbn; replace ra0 : wn.cell? ⟨w7.heap.size, 0, none⟩ = some (.slice ar Wr.length cr) := K7.out.cell 0 rfl; replace ra1 : wn.cell? ⟨w7.heap.size, 1, none⟩ = some (.int .i64 hfr) := K7.out.cell 1 rfl; replace ra2 : wn.cell? ⟨w7.heap.size, 2, none⟩ = some (.int .i64 bsr) := K7.out.cell 2 rfl; replace ra3 : wn.cell? ⟨w7.heap.size, 3, none⟩ = some (.int .i64 nxr) := K7.out.cell 3 rfl; replace ya0 : wn.cell? ⟨w9.heap.size, 0, none⟩ = some (.slice ay Wy.length cy) := K9.out.cell 0 rfl; replace ya1 : wn.cell? ⟨w9.heap.size, 1, none⟩ = some (.int .i64 hfy) := K9.out.cell 1 rfl; replace ya2 : wn.cell? ⟨w9.heap.size, 2, none⟩ = some (.int .i64 bsy) := K9.out.cell 2 rfl; replace ya3 : wn.cell? ⟨w9.heap.size, 3, none⟩ = some (.int .i64 nxy) := K9.out.cell 3 rfl))
    clear IR SR KE KF K7 K9 HU10 IY ra0 ra1 ra2 ra3 ya0 ya1 ya2 ya3
    cases ok with
    | false =>
      have hno := AN.out rfl
      simp only [Prod.mk.injEq] at hno
      obtain ⟨⟨rfl, rfl, rfl, rfl⟩, rfl, -⟩ := hno
      have d0 := K1.out.cell 0 rfl
      have d1 := K1.out.cell 1 rfl
      have d2 := K1.out.cell 2 rfl
      have d3 := K1.out.cell 3 rfl
      have e0 := K2.out.cell 0 rfl
      have e1 := K2.out.cell 1 rfl
      have e2 := K2.out.cell 2 rfl
      have e3 := K2.out.cell 3 rfl
      have hcs := sameHeap_any _ _ _ _ K2.out.rep K1.out.rep
      go_wp2_with fail
      refine hcs.mono ?_
      rintro e w11 ⟨rfl, hb11⟩
      have B11 := hid_of (BB.out.trans (hb11.mono BB.out.size))
      clear hb11 hcs
      go_wp2
      go_ret
      exact ⟨rfl, B11.out⟩
    | true =>
      obtain ⟨he, hT, h0, hk20, hroom, hM⟩ := AY.out rfl
      simp only [Prod.mk.injEq, and_true] at he
      obtain ⟨he1, rfl⟩ := he
      have HM : Hid (moreF (W, hf, bs, pl) fn tag kids = (W1, hf1, bs1, nx1)) := by show _ = _; rw [← he1]
      have hMB := more_block (T := (W, hf, bs, pl)) (fn := fn) (tag := tag) (kids := kids) hT h0 hk20 hroom hM
      have hMR := more_room (T := (W, hf, bs, pl)) (fn := fn) (tag := tag) (kids := kids) hT hM
      have hMS := fun (i : Nat) (hi : (i : Int) < pl) => more_same (T := (W, hf, bs, pl)) (fn := fn) (tag := tag) (kids := kids) hT hroom hi
      have HMO : Hid (heapB (W1, hf1, bs1, nx1) = true) := by show _ = _; rw [← HM.out]; exact hM
      rw [HM.out] at hMB hMR hMS
      have HMR := hid_of hMR
      have HMS := hid_of hMS
      have hin := head_in (heapB_in hT)
      dsimp only at hin
      have HIN := hid_of hin
      have HTB := hid_of hT
      have hbk : Hid (∀ V : World, heapSh.rep V (· < V.heap.size) [.slice a1 W1.length c1, .int .i64 hf1, .int .i64 bs1, .int .i64 nx1] (W1, hf1, bs1, nx1) → Calls Try.prog 12 #[.agg #[.slice a1 W1.length c1, .int .i64 hf1, .int .i64 bs1, .int .i64 nx1], .int .i64 pl] V fun e w' => (∃ v', e = .returned (.tuple #[.bool fn, .int .i64 tag, v', .bool true]) ∧ intsSp.rep w' (fun b => V.heap.size ≤ b ∧ b < w'.heap.size) [v'] kids) ∧ Below V.heap.size V w') := fun V hV => by
        have := implBlockAt (W1, hf1, bs1, nx1) pl _ V (by show W1.length ≤ _; omega) (by omega) (by omega) hV
        rw [hMB] at this; exact this
      obtain ⟨rm, hrm⟩ : ∃ x, x = roomF (W, hf, bs, pl) := ⟨_, rfl⟩
      have hrmv : rm = bs + hf - pl := by rw [hrm]; unfold roomF; rw [hT]; rfl
      have IRa : Hid (∀ V : World, heapSh.rep V (· < V.heap.size) [.slice a1 W1.length c1, .int .i64 hf1, .int .i64 bs1, .int .i64 nx1] (W1, hf1, bs1, nx1) → Calls Try.prog 19 #[.agg #[.slice a1 W1.length c1, .int .i64 hf1, .int .i64 bs1, .int .i64 nx1]] V fun e w' => e = .returned (.int .i64 (rm - 1 - kids.length)) ∧ Below V.heap.size V w') := fun V hV => by
        have := implRoom (W1, hf1, bs1, nx1) _ V (by show W1.length ≤ _; omega) hV
        rw [HMR.out, ← hrm] at this; exact this
      have IRh : Hid (∀ V : World, heapSh.rep V (· < V.heap.size) [.slice a0 W.length c0, .int .i64 hf, .int .i64 bs, .int .i64 pl] (W, hf, bs, pl) → Calls Try.prog 19 #[.agg #[.slice a0 W.length c0, .int .i64 hf, .int .i64 bs, .int .i64 pl]] V fun e w' => e = .returned (.int .i64 rm) ∧ Below V.heap.size V w') := fun V hV => by
        have := implRoom (W, hf, bs, pl) _ V (by show W.length ≤ _; omega) hV
        rw [← hrm] at this; exact this
      have hrr : 0 ≤ rm ∧ rm ≤ 3000 := by omega
      have hwr1 : IntKind.i64.wrap (rm - 1) = rm - 1 := by rw [IntKind.wrap_i64]; omega
      have hwr2 : IntKind.i64.wrap (rm - 1 - (kids.length : Int)) = rm - 1 - (kids.length : Int) := by rw [IntKind.wrap_i64]; omega
      clear he1 hMB hMR hMS hin hT h0 hM hrm hrmv AY AN HM HMR
      have e0 := K2.out.cell 0 rfl
      have e1 := K2.out.cell 1 rfl
      have e2 := K2.out.cell 2 rfl
      have e3 := K2.out.cell 3 rfl
      have hb11' := hbk.out wn K2.out.rep
      go_wp2_with fail
      refine hb11'.mono ?_
      rintro e w11 ⟨⟨v11, rfl, hr11⟩, hbn⟩
      obtain ⟨a7, c7, hv7⟩ : ∃ a c, v11 = .slice a kids.length c := by obtain ⟨a, c, e⟩ := slice_cells (intsp_rep hr11); simp only [List.cons.injEq, and_true] at e; exact ⟨a, c, e⟩
      subst hv7
      have KU : Hid (intsSh.rep w11 (· < w11.heap.size) [.slice a7 kids.length c7] kids) := intsSh.mono (intsp_rep hr11) fun b hb => hb.2
      replace K1 : Hid (KH w11 w1.heap.size a0 c0 W hf bs pl) := K1.out.on hbn
      replace K2 : Hid (KH w11 w2.heap.size a1 c1 W1 hf1 bs1 nx1) := K2.out.on hbn
      replace KK := hid_of (ki_on KK.out hbn)
      replace BB : Hid (Below w.heap.size w w11) := BB.out.trans (hbn.mono BB.out.size)
      clear hb11' hbk hbn hr11 e0 e1 e2 e3
      have ta0 : w11.cell? ⟨w1.heap.size, 0, none⟩ = some (.slice a0 W.length c0) := K1.out.cell 0 rfl
      have ta1 : w11.cell? ⟨w1.heap.size, 1, none⟩ = some (.int .i64 hf) := K1.out.cell 1 rfl
      have ta2 : w11.cell? ⟨w1.heap.size, 2, none⟩ = some (.int .i64 bs) := K1.out.cell 2 rfl
      have ta3 : w11.cell? ⟨w1.heap.size, 3, none⟩ = some (.int .i64 pl) := K1.out.cell 3 rfl
      have ua0 : w11.cell? ⟨w2.heap.size, 0, none⟩ = some (.slice a1 W1.length c1) := K2.out.cell 0 rfl
      have ua1 : w11.cell? ⟨w2.heap.size, 1, none⟩ = some (.int .i64 hf1) := K2.out.cell 1 rfl
      have ua2 : w11.cell? ⟨w2.heap.size, 2, none⟩ = some (.int .i64 bs1) := K2.out.cell 2 rfl
      have ua3 : w11.cell? ⟨w2.heap.size, 3, none⟩ = some (.int .i64 nx1) := K2.out.cell 3 rfl
      go_wp2_with fail
      replace K1 : Hid (KH w11.drew w1.heap.size a0 c0 W hf bs pl) := K1.out.on (Below.refl _ _).drew
      replace K2 : Hid (KH w11.drew w2.heap.size a1 c1 W1 hf1 bs1 nx1) := K2.out.on (Below.refl _ _).drew
      replace KU := hid_of (ki_on (V' := w11.drew) KU.out (Below.refl _ _).drew)
      replace KK := hid_of (ki_on (V' := w11.drew) KK.out (Below.refl _ _).drew)
      replace BB : Hid (Below w.heap.size w w11.drew) := BB.out.drew
      go_region_held3 (fun X => X.cell? ⟨w1.heap.size, 0, none⟩ = some (.slice a0 W.length c0) ∧ X.cell? ⟨w1.heap.size, 1, none⟩ = some (.int .i64 hf) ∧ X.cell? ⟨w1.heap.size, 2, none⟩ = some (.int .i64 bs) ∧ X.cell? ⟨w1.heap.size, 3, none⟩ = some (.int .i64 pl) ∧ X.cell? ⟨w2.heap.size, 0, none⟩ = some (.slice a1 W1.length c1) ∧ X.cell? ⟨w2.heap.size, 1, none⟩ = some (.int .i64 hf1) ∧ X.cell? ⟨w2.heap.size, 2, none⟩ = some (.int .i64 bs1) ∧ X.cell? ⟨w2.heap.size, 3, none⟩ = some (.int .i64 nx1))
        (exact ⟨(by first | with_reducible exact ta0 | (rw [cell_drewD]; with_reducible exact ta0)), (by first | with_reducible exact ta1 | (rw [cell_drewD]; with_reducible exact ta1)), (by first | with_reducible exact ta2 | (rw [cell_drewD]; with_reducible exact ta2)), (by first | with_reducible exact ta3 | (rw [cell_drewD]; with_reducible exact ta3)), (by first | with_reducible exact ua0 | (rw [cell_drewD]; with_reducible exact ua0)), (by first | with_reducible exact ua1 | (rw [cell_drewD]; with_reducible exact ua1)), (by first | with_reducible exact ua2 | (rw [cell_drewD]; with_reducible exact ua2)), (by first | with_reducible exact ua3 | (rw [cell_drewD]; with_reducible exact ua3))⟩)
        (first
          | (go_at_call 18; refine (sameInts_any _ _ _ _ KU.out KK.out).mono ?_; rintro e wn ⟨rfl, hbn⟩; replace K1 : Hid (KH wn w1.heap.size a0 c0 W hf bs pl) := K1.out.on hbn; replace K2 : Hid (KH wn w2.heap.size a1 c1 W1 hf1 bs1 nx1) := K2.out.on hbn; replace KU := hid_of (ki_on KU.out hbn); replace KK := hid_of (ki_on KK.out hbn); replace BB : Hid (Below w.heap.size w wn) := BB.out.trans (hbn.mono BB.out.size); clear hbn; replace ta0 : wn.cell? ⟨w1.heap.size, 0, none⟩ = some (.slice a0 W.length c0) := K1.out.cell 0 rfl; replace ta1 : wn.cell? ⟨w1.heap.size, 1, none⟩ = some (.int .i64 hf) := K1.out.cell 1 rfl; replace ta2 : wn.cell? ⟨w1.heap.size, 2, none⟩ = some (.int .i64 bs) := K1.out.cell 2 rfl; replace ta3 : wn.cell? ⟨w1.heap.size, 3, none⟩ = some (.int .i64 pl) := K1.out.cell 3 rfl; replace ua0 : wn.cell? ⟨w2.heap.size, 0, none⟩ = some (.slice a1 W1.length c1) := K2.out.cell 0 rfl; replace ua1 : wn.cell? ⟨w2.heap.size, 1, none⟩ = some (.int .i64 hf1) := K2.out.cell 1 rfl; replace ua2 : wn.cell? ⟨w2.heap.size, 2, none⟩ = some (.int .i64 bs1) := K2.out.cell 2 rfl; replace ua3 : wn.cell? ⟨w2.heap.size, 3, none⟩ = some (.int .i64 nx1) := K2.out.cell 3 rfl)
          | (go_at_call 19; (with_reducible show Calls _ _ #[.agg #[.slice a1 W1.length c1, .int .i64 hf1, .int .i64 bs1, .int .i64 nx1]] _ _); refine (IRa.out _ K2.out.rep).mono ?_; rintro e wn ⟨rfl, hbn⟩; replace K1 : Hid (KH wn w1.heap.size a0 c0 W hf bs pl) := K1.out.on hbn; replace K2 : Hid (KH wn w2.heap.size a1 c1 W1 hf1 bs1 nx1) := K2.out.on hbn; replace KU := hid_of (ki_on KU.out hbn); replace KK := hid_of (ki_on KK.out hbn); replace BB : Hid (Below w.heap.size w wn) := BB.out.trans (hbn.mono BB.out.size); clear hbn; replace ta0 : wn.cell? ⟨w1.heap.size, 0, none⟩ = some (.slice a0 W.length c0) := K1.out.cell 0 rfl; replace ta1 : wn.cell? ⟨w1.heap.size, 1, none⟩ = some (.int .i64 hf) := K1.out.cell 1 rfl; replace ta2 : wn.cell? ⟨w1.heap.size, 2, none⟩ = some (.int .i64 bs) := K1.out.cell 2 rfl; replace ta3 : wn.cell? ⟨w1.heap.size, 3, none⟩ = some (.int .i64 pl) := K1.out.cell 3 rfl; replace ua0 : wn.cell? ⟨w2.heap.size, 0, none⟩ = some (.slice a1 W1.length c1) := K2.out.cell 0 rfl; replace ua1 : wn.cell? ⟨w2.heap.size, 1, none⟩ = some (.int .i64 hf1) := K2.out.cell 1 rfl; replace ua2 : wn.cell? ⟨w2.heap.size, 2, none⟩ = some (.int .i64 bs1) := K2.out.cell 2 rfl; replace ua3 : wn.cell? ⟨w2.heap.size, 3, none⟩ = some (.int .i64 nx1) := K2.out.cell 3 rfl)
          | (go_at_call 19; (with_reducible show Calls _ _ #[.agg #[.slice a0 W.length c0, .int .i64 hf, .int .i64 bs, .int .i64 pl]] _ _); refine (IRh.out _ K1.out.rep).mono ?_; rintro e wn ⟨rfl, hbn⟩; replace K1 : Hid (KH wn w1.heap.size a0 c0 W hf bs pl) := K1.out.on hbn; replace K2 : Hid (KH wn w2.heap.size a1 c1 W1 hf1 bs1 nx1) := K2.out.on hbn; replace KU := hid_of (ki_on KU.out hbn); replace KK := hid_of (ki_on KK.out hbn); replace BB : Hid (Below w.heap.size w wn) := BB.out.trans (hbn.mono BB.out.size); clear hbn; replace ta0 : wn.cell? ⟨w1.heap.size, 0, none⟩ = some (.slice a0 W.length c0) := K1.out.cell 0 rfl; replace ta1 : wn.cell? ⟨w1.heap.size, 1, none⟩ = some (.int .i64 hf) := K1.out.cell 1 rfl; replace ta2 : wn.cell? ⟨w1.heap.size, 2, none⟩ = some (.int .i64 bs) := K1.out.cell 2 rfl; replace ta3 : wn.cell? ⟨w1.heap.size, 3, none⟩ = some (.int .i64 pl) := K1.out.cell 3 rfl; replace ua0 : wn.cell? ⟨w2.heap.size, 0, none⟩ = some (.slice a1 W1.length c1) := K2.out.cell 0 rfl; replace ua1 : wn.cell? ⟨w2.heap.size, 1, none⟩ = some (.int .i64 hf1) := K2.out.cell 1 rfl; replace ua2 : wn.cell? ⟨w2.heap.size, 2, none⟩ = some (.int .i64 bs1) := K2.out.cell 2 rfl; replace ua3 : wn.cell? ⟨w2.heap.size, 3, none⟩ = some (.int .i64 nx1) := K2.out.cell 3 rfl))
      clear IRa IRh hwr1 hwr2 hrr KU ta0 ta1 ta2 ta3 ua0 ua1 ua2 ua3
      have hrange : 0 ≤ bs ∧ bs ≤ 3000 ∧ 0 ≤ pl ∧ pl ≤ 6000 ∧ bs ≤ pl ∧ pl ≤ (W.length : Int) := by have := HIN.out; omega
      obtain ⟨bn, rfl⟩ : ∃ z : Nat, bs = z := ⟨bs.toNat, by omega⟩
      obtain ⟨pn, rfl⟩ : ∃ z : Nat, pl = z := ⟨pl.toNat, by omega⟩
      have HRG : Hid (bn ≤ pn ∧ pn ≤ 6000 ∧ pn ≤ W.length) := by show _ ∧ _; omega
      have b2 := K1.out.cell 2 rfl
      have K1L : Hid (KH wn w1.heap.size a0 c0 W hf bn pn) := K1
      have K2L : Hid (KH wn w2.heap.size a1 c1 W1 hf1 bs1 nx1) := K2
      have BBL : Hid (Below w.heap.size w wn) := BB
      clear hrange
      go_wp2
      go_loopw [33] (fun v33 wr => ∃ k : Nat, bn ≤ k ∧ k ≤ pn ∧ v33 = .int .i64 k ∧ Hid (KH wr w1.heap.size a0 c0 W hf bn pn) ∧ Hid (KH wr w2.heap.size a1 c1 W1 hf1 bs1 nx1) ∧ Hid (Below w.heap.size w wr)) (fun v33 _ => pn + 1 - (intOf v33).toNat)
      case atStart => exact ⟨bn, Nat.le_refl _, HRG.out.1, rfl, K1L, K2L, BBL⟩
      case round =>
        obtain ⟨k, hk1, hk2, rfl, HK1, HK2, HBB⟩ := hrel
        have hn6 : pn ≤ 6000 := HRG.out.2.1
        have b3 := HK1.out.cell 3 rfl
        by_cases hkp : k < pn
        · have hkW : k < W.length := by have := HRG.out; omega
          have hkW1 : k < W1.length := by rw [HAL.out]; exact hkW
          obtain ⟨b, o, rfl, x0, r1, r2⟩ := HK1.out.word k hkW
          obtain ⟨b', o', rfl, x1, -, -⟩ := HK2.out.word k hkW1
          have hs := HMS.out k (by omega)
          rw [getD_atH hkW, getD_atH hkW1] at hs
          rw [hs] at x1
          obtain ⟨x, hx⟩ : ∃ x, x = W[k] := ⟨_, rfl⟩
          rw [← hx] at x0 x1
          have b0 := HK1.out.cell 0 rfl
          have q0 := HK2.out.cell 0 rfl
          have i0 : (0 : Int) ≤ (k : Int) := by omega
          have i1 : (k : Int) < (W.length : Int) := by omega
          have i2 : (k : Int) < (W1.length : Int) := by omega
          have i3 : (k : Int) < (pn : Int) := by omega
          clear hs hx r1 r2
          go_wp2
          go_quiet (fail)
          have HK1n : Hid (KH (wr.drewN nq) w1.heap.size (some ⟨b, o, none⟩) c0 W hf bn pn) := HK1.out.on (drewN_bel (Below.refl _ _) nq)
          have HK2n : Hid (KH (wr.drewN nq) w2.heap.size (some ⟨b', o', none⟩) c1 W1 hf1 bs1 nx1) := HK2.out.on (drewN_bel (Below.refl _ _) nq)
          have HBn : Hid (Below w.heap.size w (wr.drewN nq)) := drewN_bel HBB.out nq
          go_wp2
          go_round
          case rel => exact ⟨k + 1, by omega, by omega, by go_num, HK1n, HK2n, HBn⟩
          case measure => simp [intOf]; omega
        · have hkk : k = pn := by omega
          have hnl : ¬ (k : Int) < (pn : Int) := by omega
          have q0 := HK2.out.cell 0 rfl
          have q1 := HK2.out.cell 1 rfl
          have q2 := HK2.out.cell 2 rfl
          have q3 := HK2.out.cell 3 rfl
          have hfin := implHeapOk (W1, hf1, bs1, nx1) _ wr (by show W1.length ≤ _; have := HAL.out; omega) HK2.out.rep
          rw [HMO.out] at hfin
          go_wp2_with fail
          refine hfin.mono ?_
          rintro e w12 ⟨rfl, hb12⟩
          have B12 := hid_of (HBB.out.trans (hb12.mono HBB.out.size))
          clear hb12 hfin
          go_wp2
          go_ret
          exact ⟨rfl, B12.out⟩


theorem cell_lt {w : World} {b o : Nat} {v : Value} (h : w.cell? ⟨b, o, none⟩ = some v) : b < w.heap.size := by
  rcases Nat.lt_or_ge b w.heap.size with h' | h'
  · exact h'
  · simp [World.cell?, Array.getElem?_eq_none h'] at h

theorem walk (a : Option Addr) (len cap : Nat) (zs : List Int) (w : World)
    (hr : (a = none ∧ len = 0 ∧ cap = 0 ∧ zs = []) ∨ ∃ x, a = some x ∧ len ≤ cap ∧ cap ≤ maxLen ∧ zs.length = cap ∧ (∀ i, i < zs.length → w.cell? (x.add i) = some (.int .u8 (zs.getD i 0))) ∧ ∀ n ∈ zs, (Lit.int .u8 n).wf = true) :
    Calls Try.prog 3 #[.slice a len cap] w fun e w' => e = .returned (.bool true) ∧ Below w.heap.size w w' := by
  by_cases hl : len ≤ 1048576
  · refine walk_small a len cap w ⟨hl, fun h0 => ?_⟩
    rcases hr with ⟨_, h, _, _⟩ | ⟨x, rfl, hlc, hm, hz, hcell, hwz⟩
    · omega
    · obtain ⟨b, off, spot⟩ := x
      have hc := hcell 0 (by omega)
      have hspot : spot = none := by simpa [Addr.add] using World.cell?_spot hc
      subst hspot
      have hc' : ∀ j, j < len → w.cell? ⟨b, off + j, none⟩ = some (.int .u8 (zs.getD j 0)) := fun j hj => by
        have := hcell j (by omega)
        rwa [WideShapes.add_plain] at this
      refine ⟨b, off, rfl, cell_lt (hc' 0 h0), fun j hj => ⟨zs.getD j 0, hc' j hj, ?_⟩⟩
      have hmem : zs.getD j 0 ∈ zs := by
        rw [List.getD_eq_getElem?_getD, List.getElem?_eq_getElem (by omega)]
        exact List.getElem_mem _
      exact bounds_u8 (hwz _ hmem)
  · refine walk_big a len cap (by omega) ?_ w
    rcases hr with ⟨_, h, _, _⟩ | ⟨x, rfl, hlc, hm, hz, hcell, hwz⟩
    · omega
    · unfold maxLen at hm; omega

theorem lifted (os : Os) (started : os.Started) (H : Type) (enc : TypeId × Value → H) :
    ReturnsInHanded {} Try.checked os 3 .any (Rows.fnHeapSpec.pre6 enc Try.prog Try.f3 Rows.fnHeapRow.domain false) (Rows.fnHeapSpec.post enc Try.prog Try.f3 false true false false) := by
  refine returnsInHanded_of_change (C := Try.checked) own started (by kernel_rfl) Try.func3
    (ChangeSpec.witness6 (enc := enc) (C := Try.checked) false ⟨#[], #[.slice none 0 0], []⟩ 8 (by kernel_rfl) (by kernel_rfl) (by kernel_rfl) (by kernel_rfl)) ?_
  intro W base args ds gs before hval0 hW hcnd _
  have hval : ∀ (j : Nat) t v, Try.f3.params[j]? = some t → args[j]? = some v → Value.okWide Try.prog W .any base t v := hval0
  have hW' := hW
  obtain ⟨p, q, hA0, hV, rfl, hfz, hnd⟩ := hW
  have hA : DataW.TrodAll enc Try.prog W 0 (fun _ => true) true Try.f3.params.toList args.toList ds p := hA0
  rw [Try.params3] at hA hval
  obtain ⟨v0, vs0, d0, ds0, p0, q0, hargs, rfl, rfl, h0, r0⟩ := trodAll_cons hA
  obtain ⟨rfl, rfl, rfl⟩ := trodAll_nil r0
  obtain rfl : args = #[v0] := by cases args; simp_all
  obtain ⟨rfl, rfl⟩ := trodVars_none hV
  have k0 := h0
  have lt0 : ∀ x ∈ p0, x.block < W.heap.size := by obtain ⟨m, hm⟩ := k0; exact DataW.trod_lt m _ _ _ hm
  obtain ⟨a0, len0, cap0, rfl⟩ := okWide_slice Try.underlying22 (hval 0 22 v0 rfl rfl)
  obtain ⟨z0, w0⟩ : ∃ zs : List Int, (a0 = none ∧ len0 = 0 ∧ cap0 = 0 ∧ zs = []) ∨ ∃ x, a0 = some x ∧ len0 ≤ cap0 ∧ cap0 ≤ maxLen ∧ zs.length = cap0 ∧ (∀ i, i < zs.length → W.cell? (x.add i) = some (.int .u8 (zs.getD i 0))) ∧ ∀ n ∈ zs, (Lit.int .u8 n).wf = true := by
    obtain ⟨fuel, hf⟩ := h0
    rcases open_ints Try.underlying22 Try.underlying5 (by kernel_rfl) hf with ⟨hcs, _⟩ | ⟨x, l, c, zs, hcs, _, hl, hm, hz, _, hcell, hwz⟩
    · simp [Value.cells] at hcs
      obtain ⟨rfl, rfl, rfl⟩ := hcs
      exact ⟨[], .inl ⟨rfl, rfl, rfl, rfl⟩⟩
    · simp [Value.cells] at hcs
      obtain ⟨rfl, rfl, rfl⟩ := hcs
      exact ⟨zs, .inr ⟨_, rfl, hl, hm, by simpa using hz, hcell, hwz⟩⟩
  clear hA0 hval0
  refine (walk a0 len0 cap0 z0 W w0).mono fun e W' ⟨he, bel⟩ => ?_
  subst he
  exact ⟨_, rfl, _, _, _, [], _, [], hW', trodAll_mk1 (shut_bool Try.underlying4 _), (trodAll_cons_mk (Below.trod laidOut (by kernel_rfl) (of_decide_eq_true (by kernel_rfl)) k0 bel lt0) trodAll_mk0), rfl, bel.frame _, fun h => by cases h⟩

theorem over : Rows.fnHeapRow.holds Try.pinned (OpenSpec.ofChange Rows.fnHeapSpec) :=
  OpenClaim.holds_of_wide 3 Try.f3 rfl rfl rfl rfl rfl rfl rfl ⟨rfl, rfl, rfl, rfl, rfl⟩ rfl rfl rfl rfl rfl (by kernel_rfl) Try.func3 (by kernel_rfl)
    (of_decide_eq_true (by kernel_rfl)) (by unfold Func.isWrapper; first | (rw [if_pos (by decide +kernel)]; kernel_rfl) | (rw [if_neg (by decide +kernel)]; exact ⟨rfl, rfl⟩))
    (fun os started H enc _ => lifted os started H enc)

/-- THE STATEMENT. -/
theorem proved : Rows.FnHeapSaid :=
  over
#print axioms proved
end Go.Proofs.Ytigcpigmfcgaoaa.fnHeap
