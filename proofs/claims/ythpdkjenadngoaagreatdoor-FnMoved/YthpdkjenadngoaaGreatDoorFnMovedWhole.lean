/-
  For every bytes of a draw the law FnMoved returns true: a drawn heap that is moved is seen as it was, it has just what is come to, and moved again it is the same but for the half; the argument reads as it read before. Conditions: the library's tables that the road reads are as the program's text lays them (the card ties them).
-/
import Derived.Test.YthpdkjenadngoaaGreatDoorCards
import Derived.Test.YthpdkjenadngoaaGreatDoorTie
import Derived.WalkKit
import Derived.ProofKit
import Derived.OpenShut
import Derived.Deep.DeepHandedRow
import Derived.Deep.RegionHeld3
import Derived.Lib.LaidTab
import Derived.LaidMore
import Derived.Lib.ItoaMem
import Derived.ShutString
import Derived.ChangeOld
import Derived.Below
import Derived.Stop.LaidErr
import Derived.Test.YthpdkjenadngoaaGreatDoorB1
import Derived.Test.YthpdkjenadngoaaGreatDoorB2
import Derived.Test.YthpdkjenadngoaaGreatDoorB3
import Derived.Test.YthpdkjenadngoaaGreatDoorB4
import Derived.Test.YthpdkjenadngoaaGreatDoorB5
import Derived.Test.YthpdkjenadngoaaGreatDoorB6
import Derived.Test.YthpdkjenadngoaaGreatDoorB7
import Derived.Test.YthpdkjenadngoaaGreatDoorB8
import Derived.Test.YthpdkjenadngoaaGreatDoorB9
import Derived.Test.YthpdkjenadngoaaGreatDoorB10
import Derived.Test.YthpdkjenadngoaaGreatDoorB11
import Derived.Test.YthpdkjenadngoaaGreatDoorB12
import Derived.Test.YthpdkjenadngoaaGreatDoorB13
import Derived.Test.YthpdkjenadngoaaGreatDoorB14
import Derived.Test.YthpdkjenadngoaaGreatDoorB15
import Derived.Test.YthpdkjenadngoaaGreatDoorB16
import Derived.Test.YthpdkjenadngoaaGreatDoorB17
import Derived.Test.YthpdkjenadngoaaGreatDoorB18
import Derived.Test.YthpdkjenadngoaaGreatDoorB19
import Derived.Test.YthpdkjenadngoaaGreatDoorB20
import Derived.Test.YthpdkjenadngoaaGreatDoorB21
import Derived.Test.YthpdkjenadngoaaGreatDoorB22
import Derived.Test.YthpdkjenadngoaaGreatDoorB23
import Derived.Test.YthpdkjenadngoaaGreatDoorB24
import Derived.Test.YthpdkjenadngoaaGreatDoorB25
import Derived.Test.YthpdkjenadngoaaGreatDoorB26
import Derived.Test.YthpdkjenadngoaaGreatDoorB27
import Derived.Test.YthpdkjenadngoaaGreatDoorB28
import Derived.Test.YthpdkjenadngoaaGreatDoorB29
import Derived.Test.YthpdkjenadngoaaGreatDoorB30
import Derived.Test.YthpdkjenadngoaaGreatDoorB31
import Derived.Test.YthpdkjenadngoaaGreatDoorB32
import Derived.Test.YthpdkjenadngoaaGreatDoorB33
import Derived.Test.YthpdkjenadngoaaGreatDoorB34
import Derived.Test.YthpdkjenadngoaaGreatDoorB35
import Derived.Test.YthpdkjenadngoaaGreatDoorB36
import Derived.Test.YthpdkjenadngoaaGreatDoorB37
namespace Go.Proofs.YthpdkjenadngoaaGreatDoor.fnMoved
open Go.ChangeShapes Go.WideShapes Go.ChangeAt Go.RowKit Go.Proofs.YthpdkjenadngoaaGreatDoor Go.Proofs.YthpdkjenadngoaaGreatDoor.rose Go.Proofs.YthpdkjenadngoaaGreatDoor.heap Go.Proofs.YthpdkjenadngoaaGreatDoor.ints Go.Proofs.YthpdkjenadngoaaGreatDoor.fun
set_option linter.unusedVariables false
set_option linter.unusedSimpArgs false
set_option maxRecDepth 100000

theorem own : ownKnob Tryz.prog.godebug = none := by kernel_rfl
theorem laidOut : laidOutB Tryz.prog = true := by kernel_rfl

/-- WHAT THE ROW's LIST GIVES: the table of powers of ten. -/
theorem laid {W : World} (h : laidMetH Tryz.prog Rows.fnMovedRow.laid W) : «fun».Tab W :=
  Lib.tabIs_of_head (rest := []) «fun».gPow «fun».gPowType Tryz.underlying174 Tryz.underlying135 «fun».cellsU64 «fun».cellsPow (laidMet.tail (laidMet.tail h))
theorem drew_bel {w u : World} (h : Below w.heap.size w u) : Below w.heap.size w u.drew := h.drew
/-- How many words the first i blocks of a list have. -/
def sumT (W L : List Int) (i : Nat) : Nat := ((L.take i).map (szP W)).sum
theorem sumT_zero (W L : List Int) : sumT W L 0 = 0 := by simp [sumT]
theorem sumT_succ {W L : List Int} {i : Nat} (h : i < L.length) : sumT W L (i + 1) = sumT W L i + szP W L[i] := sums_succ h
theorem sumT_le (W L : List Int) (i : Nat) : sumT W L i ≤ (L.map (szP W)).sum := sums_le L i
theorem sumT_all (W L : List Int) : sumT W L L.length = (L.map (szP W)).sum := by unfold sumT; rw [List.take_length]
theorem cell_drewM (w : World) (a : Addr) : w.drew.cell? a = w.cell? a := rfl

theorem code_on {w w' : World} {a : Option Addr} {len : Nat} (h : cur.Code w.heap.size w a len) (hb : Below w.heap.size w w') : cur.Code w'.heap.size w' a len := by
  refine ⟨h.1, fun hl => ?_⟩
  obtain ⟨b, off, e, hlt, hz⟩ := h.2 hl
  refine ⟨b, off, e, Nat.lt_of_lt_of_le hlt hb.size, fun j hj => ?_⟩
  obtain ⟨z, hc1, h0, h1⟩ := hz j hj
  exact ⟨z, by rw [hb.cell (p := ⟨b, off + j, none⟩) hlt]; exact hc1, h0, h1⟩

theorem walk_big (a : Option Addr) (len cap : Nat) (hl : 1048576 < len) (hm : (len : Int) ≤ 9223372036854775807) (w : World) :
    Calls Tryz.prog 3 #[.slice a len cap] w fun e w' => e = .returned (.bool true) ∧ Below w.heap.size w w' := by
  have t1 : decide (1048576 < (len : Int)) = true := by simp; omega
  go_enter Tryz.func3, Tryz.ntmps3
  go_wp2
  go_ret
  exact ⟨rfl, Below.refl _ _⟩


set_option maxRecDepth 100000 in
set_option maxHeartbeats 64000000 in
theorem walk_small (a : Option Addr) (len cap : Nat) (w : World) (hC : cur.Code w.heap.size w a len) (hL : «fun».Tab w) :
    Calls Tryz.prog 3 #[.slice a len cap] w fun e w' => e = .returned (.bool true) ∧ Below w.heap.size w w' := by
  have hl := hC.1
  have t1 : decide (1048576 < (len : Int)) = false := by simp; omega
  have HC : Hid (cur.Code w.heap.size w a len) := hC
  have TB : Hid («fun».Tab w) := hL
  clear hC hL
  go_enter Tryz.func3, Tryz.ntmps3
  go_wp2_with (go_at_call 4; go_in)
  refine (drawCollect_any a len cap _ HC.out).mono ?_
  rintro e w1 ⟨csw1, Tw1, vr, rs, rfl, hrlw1, hkw1, hrw1, hlw1, hbw1⟩
  obtain ⟨W, a0, c0, hf, bs, nx, rfl, rfl, -⟩ := heapp_open hrw1
  have hlenw1 : W.length ≤ 120 := hlw1
  obtain ⟨ar, cr, hvr⟩ : ∃ a c, vr = .slice a rs.length c := by obtain ⟨a, c, e⟩ := slice_cells hkw1; simp only [List.cons.injEq, and_true] at e; exact ⟨a, c, e⟩
  subst hvr
  obtain ⟨u1, hu1⟩ : ∃ z, z = w1.alloc (.cells #[.slice a0 W.length c0, .int .i64 hf, .int .i64 bs, .int .i64 nx] 26) := ⟨_, rfl⟩
  have hnu1 : Below w1.heap.size w1 u1 := by rw [hu1]; exact below_new _ _
  have K1 : Hid (KH u1 w1.heap.size a0 c0 W hf bs nx) := by show KH _ _ _ _ _ _ _ _; rw [hu1]; exact KH.new (heapSh.mono (heapp_rep hrw1) fun b hb => hb.2)
  have HUu1 := hid_of hu1
  have KR : Hid (intsSh.rep u1 (· < u1.heap.size) [.slice ar rs.length cr] rs) := ki_on (intsSh.mono hkw1 fun b hb => hb.2) hnu1
  have BB : Hid (Below w.heap.size w u1) := hbw1.trans (hnu1.mono hbw1.size)
  have RI : Hid (∀ y ∈ W, InR y) := rep_words K1.out.rep
  have hc2 := implCollect (W, hf, bs, nx) rs _ _ u1 (by show W.length ≤ _; omega) (by omega) K1.out.rep KR.out
  have hc3 := fun V hK hI => specCollect (W, hf, bs, nx) rs [.slice a0 W.length c0, .int .i64 hf, .int .i64 bs, .int .i64 nx] (.slice ar rs.length cr) V (by show W.length ≤ _; omega) (by omega) hK hI
  have hcl := col_lens (T := (W, hf, bs, nx)) (rs := rs) RI.out
  obtain ⟨R, hR⟩ : ∃ R, R = collectF (W, hf, bs, nx) rs := ⟨_, rfl⟩
  have HR := hid_of hR
  rw [← hR] at hc2 hc3 hcl
  clear hR
  obtain ⟨⟨W1, hf1, bs1, nx1⟩, rs1⟩ := R
  dsimp only at hc2 hc3 hcl
  have hW1 : W1.length ≤ 120 := by rw [hcl.1]; exact hlenw1
  have hrs1 : rs1.length ≤ 250 := by rw [hcl.2]; exact hrlw1
  have HC3 := hid_of hc3
  clear hbw1 hkw1 hrw1 hlw1 hu1 hnu1 hc3 hcl
  have d0 : u1.cell? ⟨w1.heap.size, 0, none⟩ = some (.slice a0 W.length c0) := K1.out.cell 0 rfl
  have d1 : u1.cell? ⟨w1.heap.size, 1, none⟩ = some (.int .i64 hf) := K1.out.cell 1 rfl
  have d2 : u1.cell? ⟨w1.heap.size, 2, none⟩ = some (.int .i64 bs) := K1.out.cell 2 rfl
  have d3 : u1.cell? ⟨w1.heap.size, 3, none⟩ = some (.int .i64 nx) := K1.out.cell 3 rfl
  rw [HUu1.out] at d0 d1 d2 d3
  go_wp2_with fail
  rw [← HUu1.out]
  refine hc2.mono ?_
  rintro e w2 ⟨hO, hbw2⟩
  obtain ⟨a1, c1, am, cm, rfl, hHw2, hIw2⟩ := col_keep hbw2.size hO
  clear hO
  obtain ⟨u2, hu2⟩ : ∃ z, z = w2.alloc (.cells #[.slice a1 W1.length c1, .int .i64 hf1, .int .i64 bs1, .int .i64 nx1] 26) := ⟨_, rfl⟩
  have hnu2 : Below w2.heap.size w2 u2 := by rw [hu2]; exact below_new _ _
  have K2 : Hid (KH u2 w2.heap.size a1 c1 W1 hf1 bs1 nx1) := by show KH _ _ _ _ _ _ _ _; rw [hu2]; exact KH.new hHw2
  have HUu2 := hid_of hu2
  have KM : Hid (intsSh.rep u2 (· < u2.heap.size) [.slice am rs1.length cm] rs1) := ki_on hIw2 hnu2
  have hBu2 : Below u1.heap.size u1 u2 := hbw2.trans (hnu2.mono hbw2.size)
  replace K1 : Hid (KH u2 w1.heap.size a0 c0 W hf bs nx) := K1.out.on hBu2
  replace KR := hid_of (ki_on KR.out hBu2)
  replace BB : Hid (Below w.heap.size w u2) := BB.out.trans (hBu2.mono BB.out.size)
  clear hHw2 hIw2 hbw2 hnu2 hBu2 hu2
  clear hc2 HUu1 d0 d1 d2 d3
  have d0 : u2.cell? ⟨w1.heap.size, 0, none⟩ = some (.slice a0 W.length c0) := K1.out.cell 0 rfl
  have d1 : u2.cell? ⟨w1.heap.size, 1, none⟩ = some (.int .i64 hf) := K1.out.cell 1 rfl
  have d2 : u2.cell? ⟨w1.heap.size, 2, none⟩ = some (.int .i64 bs) := K1.out.cell 2 rfl
  have d3 : u2.cell? ⟨w1.heap.size, 3, none⟩ = some (.int .i64 nx) := K1.out.cell 3 rfl
  rw [HUu2.out] at d0 d1 d2 d3
  have hc3 := HC3.out u2 K1.out.rep KR.out
  go_wp2_with fail
  rw [← HUu2.out]
  refine hc3.mono ?_
  rintro e w3 ⟨hO, hbw3⟩
  obtain ⟨a2, c2, aw, cw, rfl, hHw3, hIw3⟩ := col_keep hbw3.size hO
  clear hO
  obtain ⟨u3, hu3⟩ : ∃ z, z = w3.alloc (.cells #[.slice a2 W1.length c2, .int .i64 hf1, .int .i64 bs1, .int .i64 nx1] 26) := ⟨_, rfl⟩
  have hnu3 : Below w3.heap.size w3 u3 := by rw [hu3]; exact below_new _ _
  have K3 : Hid (KH u3 w3.heap.size a2 c2 W1 hf1 bs1 nx1) := by show KH _ _ _ _ _ _ _ _; rw [hu3]; exact KH.new hHw3
  have HUu3 := hid_of hu3
  have KW : Hid (intsSh.rep u3 (· < u3.heap.size) [.slice aw rs1.length cw] rs1) := ki_on hIw3 hnu3
  have hBu3 : Below u2.heap.size u2 u3 := hbw3.trans (hnu3.mono hbw3.size)
  replace K1 : Hid (KH u3 w1.heap.size a0 c0 W hf bs nx) := K1.out.on hBu3
  replace K2 : Hid (KH u3 w2.heap.size a1 c1 W1 hf1 bs1 nx1) := K2.out.on hBu3
  replace KR := hid_of (ki_on KR.out hBu3)
  replace KM := hid_of (ki_on KM.out hBu3)
  replace BB : Hid (Below w.heap.size w u3) := BB.out.trans (hBu3.mono BB.out.size)
  clear hHw3 hIw3 hbw3 hnu3 hBu3 hu3
  clear hc3 HC3 HUu2 d0 d1 d2 d3
  have d0 : u3.cell? ⟨w2.heap.size, 0, none⟩ = some (.slice a1 W1.length c1) := K2.out.cell 0 rfl
  have d1 : u3.cell? ⟨w2.heap.size, 1, none⟩ = some (.int .i64 hf1) := K2.out.cell 1 rfl
  have d2 : u3.cell? ⟨w2.heap.size, 2, none⟩ = some (.int .i64 bs1) := K2.out.cell 2 rfl
  have d3 : u3.cell? ⟨w2.heap.size, 3, none⟩ = some (.int .i64 nx1) := K2.out.cell 3 rfl
  have e0 : u3.cell? ⟨w3.heap.size, 0, none⟩ = some (.slice a2 W1.length c2) := K3.out.cell 0 rfl
  have e1 : u3.cell? ⟨w3.heap.size, 1, none⟩ = some (.int .i64 hf1) := K3.out.cell 1 rfl
  have e2 : u3.cell? ⟨w3.heap.size, 2, none⟩ = some (.int .i64 bs1) := K3.out.cell 2 rfl
  have e3 : u3.cell? ⟨w3.heap.size, 3, none⟩ = some (.int .i64 nx1) := K3.out.cell 3 rfl
  rw [HUu3.out] at d0 d1 d2 d3 e0 e1 e2 e3
  have hs1 := sameHeap_any _ _ _ _ K2.out.rep K3.out.rep
  go_wp2_with fail
  rw [← HUu3.out]
  refine hs1.mono ?_
  rintro e x1 ⟨rfl, hbn⟩
  replace K1 : Hid (KH x1 w1.heap.size a0 c0 W hf bs nx) := K1.out.on hbn
  replace K2 : Hid (KH x1 w2.heap.size a1 c1 W1 hf1 bs1 nx1) := K2.out.on hbn
  replace KR := hid_of (ki_on KR.out hbn)
  replace KM := hid_of (ki_on KM.out hbn)
  replace KW := hid_of (ki_on KW.out hbn)
  replace BB : Hid (Below w.heap.size w x1) := BB.out.trans (hbn.mono BB.out.size)
  clear hbn hs1 HUu3 K3 d0 d1 d2 d3 e0 e1 e2 e3
  have hs2 := sameInts_any _ _ _ _ KM.out KW.out
  go_wp2_with fail
  refine hs2.mono ?_
  rintro e x2 ⟨rfl, hbn⟩
  replace K1 : Hid (KH x2 w1.heap.size a0 c0 W hf bs nx) := K1.out.on hbn
  replace K2 : Hid (KH x2 w2.heap.size a1 c1 W1 hf1 bs1 nx1) := K2.out.on hbn
  replace KR := hid_of (ki_on KR.out hbn)
  replace KM := hid_of (ki_on KM.out hbn)
  replace BB : Hid (Below w.heap.size w x2) := BB.out.trans (hbn.mono BB.out.size)
  clear hbn hs2 KW
  have hcC := code_on HC.out BB.out
  go_wp2_with fail
  refine (drawReach_any a len cap _ hcC).mono ?_
  rintro e w4 ⟨csw4, Tw4, vx, rsx, rfl, hrlw4, hkw4, hrw4, hlw4, hbw4⟩
  obtain ⟨Wx, ax, cx, hfx, bsx, nxx, rfl, rfl, -⟩ := heapp_open hrw4
  have hlenw4 : Wx.length ≤ 120 := hlw4
  obtain ⟨u4, hu4⟩ : ∃ z, z = w4.alloc (.cells #[.slice ax Wx.length cx, .int .i64 hfx, .int .i64 bsx, .int .i64 nxx] 26) := ⟨_, rfl⟩
  have hnu4 : Below w4.heap.size w4 u4 := by rw [hu4]; exact below_new _ _
  have KX : Hid (KH u4 w4.heap.size ax cx Wx hfx bsx nxx) := by show KH _ _ _ _ _ _ _ _; rw [hu4]; exact KH.new (heapSh.mono (heapp_rep hrw4) fun b hb => hb.2)
  have HUu4 := hid_of hu4
  have KXI : Hid (intsSh.rep u4 (· < u4.heap.size) [vx] rsx) := ki_on (intsSh.mono hkw4 fun b hb => hb.2) hnu4
  have hBu4 : Below x2.heap.size x2 u4 := hbw4.trans (hnu4.mono hbw4.size)
  replace K1 : Hid (KH u4 w1.heap.size a0 c0 W hf bs nx) := K1.out.on hBu4
  replace K2 : Hid (KH u4 w2.heap.size a1 c1 W1 hf1 bs1 nx1) := K2.out.on hBu4
  replace KR := hid_of (ki_on KR.out hBu4)
  replace KM := hid_of (ki_on KM.out hBu4)
  replace BB : Hid (Below w.heap.size w u4) := BB.out.trans (hBu4.mono BB.out.size)
  clear hbw4 hkw4 hrw4 hlw4 hu4 hnu4 hBu4 hcC
  have hcC := code_on HC.out BB.out
  go_wp2_with fail
  rw [← HUu4.out]
  refine (drawShape_any a len cap _ hcC).mono ?_
  rintro e w5 ⟨csw5, Tw5, vy, rsy, rfl, hrlw5, hkw5, hrw5, hlw5, hbw5⟩
  obtain ⟨Wy, ay, cy, hfy, bsy, nxy, rfl, rfl, -⟩ := heapp_open hrw5
  have hlenw5 : Wy.length ≤ 120 := hlw5
  obtain ⟨u5, hu5⟩ : ∃ z, z = w5.alloc (.cells #[.slice ay Wy.length cy, .int .i64 hfy, .int .i64 bsy, .int .i64 nxy] 26) := ⟨_, rfl⟩
  have hnu5 : Below w5.heap.size w5 u5 := by rw [hu5]; exact below_new _ _
  have KY : Hid (KH u5 w5.heap.size ay cy Wy hfy bsy nxy) := by show KH _ _ _ _ _ _ _ _; rw [hu5]; exact KH.new (heapSh.mono (heapp_rep hrw5) fun b hb => hb.2)
  have HUu5 := hid_of hu5
  have KYI : Hid (intsSh.rep u5 (· < u5.heap.size) [vy] rsy) := ki_on (intsSh.mono hkw5 fun b hb => hb.2) hnu5
  have hBu5 : Below u4.heap.size u4 u5 := hbw5.trans (hnu5.mono hbw5.size)
  replace K1 : Hid (KH u5 w1.heap.size a0 c0 W hf bs nx) := K1.out.on hBu5
  replace K2 : Hid (KH u5 w2.heap.size a1 c1 W1 hf1 bs1 nx1) := K2.out.on hBu5
  replace KX : Hid (KH u5 w4.heap.size ax cx Wx hfx bsx nxx) := KX.out.on hBu5
  replace KR := hid_of (ki_on KR.out hBu5)
  replace KM := hid_of (ki_on KM.out hBu5)
  replace KXI := hid_of (ki_on KXI.out hBu5)
  replace BB : Hid (Below w.heap.size w u5) := BB.out.trans (hBu5.mono BB.out.size)
  clear hbw5 hkw5 hrw5 hlw5 hu5 hnu5 hBu5 hcC HUu4
  obtain ⟨L, hLd⟩ : ∃ L, L = reachF (Wx, hfx, bsx, nxx) rsx := ⟨_, rfl⟩
  obtain ⟨tx, htx⟩ : ∃ x, x = shapeF (Wy, hfy, bsy, nxy) rsy := ⟨_, rfl⟩
  have IX : Hid (∀ V vx, heapSh.rep V (· < V.heap.size) [.slice ax Wx.length cx, .int .i64 hfx, .int .i64 bsx, .int .i64 nxx] (Wx, hfx, bsx, nxx) → intsSh.rep V (· < V.heap.size) [vx] rsx → Calls Tryz.prog 12 #[.agg #[.slice ax Wx.length cx, .int .i64 hfx, .int .i64 bsx, .int .i64 nxx], vx] V fun e w' => (∃ v', e = .returned v' ∧ intsSh.rep w' (· < w'.heap.size) [v'] L) ∧ Below V.heap.size V w') := fun V vx hK hI => (implReach _ _ _ _ V (by show Wx.length ≤ _; omega) (by omega) hK hI).mono (by rintro e w' ⟨⟨v', rfl, hv⟩, hb⟩; exact ⟨⟨v', rfl, by rw [hLd]; exact intsSh.mono (intsp_rep hv.sp) fun b hb => hb.2⟩, hb⟩)
  have SX : Hid (∀ V vx, heapSh.rep V (· < V.heap.size) [.slice ax Wx.length cx, .int .i64 hfx, .int .i64 bsx, .int .i64 nxx] (Wx, hfx, bsx, nxx) → intsSh.rep V (· < V.heap.size) [vx] rsx → Calls Tryz.prog 13 #[.agg #[.slice ax Wx.length cx, .int .i64 hfx, .int .i64 bsx, .int .i64 nxx], vx] V fun e w' => (∃ v', e = .returned v' ∧ intsSh.rep w' (· < w'.heap.size) [v'] L) ∧ Below V.heap.size V w') := fun V vx hK hI => (specReach _ _ _ _ V (by omega) hK hI).mono (by rintro e w' ⟨⟨v', rfl, hv⟩, hb⟩; exact ⟨⟨v', rfl, by rw [hLd]; exact intsSh.mono (intsp_rep hv.sp) fun b hb => hb.2⟩, hb⟩)
  have IY : Hid (∀ V vy, Below w.heap.size w V → heapSh.rep V (· < V.heap.size) [.slice ay Wy.length cy, .int .i64 hfy, .int .i64 bsy, .int .i64 nxy] (Wy, hfy, bsy, nxy) → intsSh.rep V (· < V.heap.size) [vy] rsy → Calls Tryz.prog 14 #[.agg #[.slice ay Wy.length cy, .int .i64 hfy, .int .i64 bsy, .int .i64 nxy], vy] V fun e w' => e = .returned (.string tx) ∧ Below V.heap.size V w') := fun V vy hB hK hI => by rw [htx]; exact implShape _ _ _ _ V (by show Wy.length ≤ _; omega) (by omega) (TB.out.on hB) hK hI
  have SY : Hid (∀ V vy, heapSh.rep V (· < V.heap.size) [.slice ay Wy.length cy, .int .i64 hfy, .int .i64 bsy, .int .i64 nxy] (Wy, hfy, bsy, nxy) → intsSh.rep V (· < V.heap.size) [vy] rsy → Calls Tryz.prog 15 #[.agg #[.slice ay Wy.length cy, .int .i64 hfy, .int .i64 bsy, .int .i64 nxy], vy] V fun e w' => e = .returned (.string tx) ∧ Below V.heap.size V w') := fun V vy hK hI => by rw [htx]; exact specShape _ _ _ _ V (by omega) hK hI
  clear hLd htx
  have xa0 : u5.cell? ⟨w4.heap.size, 0, none⟩ = some (.slice ax Wx.length cx) := KX.out.cell 0 rfl
  have xa1 : u5.cell? ⟨w4.heap.size, 1, none⟩ = some (.int .i64 hfx) := KX.out.cell 1 rfl
  have xa2 : u5.cell? ⟨w4.heap.size, 2, none⟩ = some (.int .i64 bsx) := KX.out.cell 2 rfl
  have xa3 : u5.cell? ⟨w4.heap.size, 3, none⟩ = some (.int .i64 nxx) := KX.out.cell 3 rfl
  have ya0 : u5.cell? ⟨w5.heap.size, 0, none⟩ = some (.slice ay Wy.length cy) := KY.out.cell 0 rfl
  have ya1 : u5.cell? ⟨w5.heap.size, 1, none⟩ = some (.int .i64 hfy) := KY.out.cell 1 rfl
  have ya2 : u5.cell? ⟨w5.heap.size, 2, none⟩ = some (.int .i64 bsy) := KY.out.cell 2 rfl
  have ya3 : u5.cell? ⟨w5.heap.size, 3, none⟩ = some (.int .i64 nxy) := KY.out.cell 3 rfl
  rw [HUu5.out] at xa0 xa1 xa2 xa3 ya0 ya1 ya2 ya3
  go_wp2_with fail
  rw [← HUu5.out]
  rw [← HUu5.out] at xa0 xa1 xa2 xa3 ya0 ya1 ya2 ya3
  replace K1 : Hid (KH u5.drew w1.heap.size a0 c0 W hf bs nx) := K1.out.on (Below.refl _ _).drew
  replace K2 : Hid (KH u5.drew w2.heap.size a1 c1 W1 hf1 bs1 nx1) := K2.out.on (Below.refl _ _).drew
  replace KX : Hid (KH u5.drew w4.heap.size ax cx Wx hfx bsx nxx) := KX.out.on (Below.refl _ _).drew
  replace KY : Hid (KH u5.drew w5.heap.size ay cy Wy hfy bsy nxy) := KY.out.on (Below.refl _ _).drew
  replace KR := hid_of (ki_on (V' := u5.drew) KR.out (Below.refl _ _).drew)
  replace KM := hid_of (ki_on (V' := u5.drew) KM.out (Below.refl _ _).drew)
  replace KXI := hid_of (ki_on (V' := u5.drew) KXI.out (Below.refl _ _).drew)
  replace KYI := hid_of (ki_on (V' := u5.drew) KYI.out (Below.refl _ _).drew)
  replace BB : Hid (Below w.heap.size w u5.drew) := BB.out.drew
  go_region_held3 (fun X => X.cell? ⟨w4.heap.size, 0, none⟩ = some (.slice ax Wx.length cx) ∧ X.cell? ⟨w4.heap.size, 1, none⟩ = some (.int .i64 hfx) ∧ X.cell? ⟨w4.heap.size, 2, none⟩ = some (.int .i64 bsx) ∧ X.cell? ⟨w4.heap.size, 3, none⟩ = some (.int .i64 nxx) ∧ X.cell? ⟨w5.heap.size, 0, none⟩ = some (.slice ay Wy.length cy) ∧ X.cell? ⟨w5.heap.size, 1, none⟩ = some (.int .i64 hfy) ∧ X.cell? ⟨w5.heap.size, 2, none⟩ = some (.int .i64 bsy) ∧ X.cell? ⟨w5.heap.size, 3, none⟩ = some (.int .i64 nxy))
    (exact ⟨(by first | with_reducible exact xa0 | (rw [cell_drewM]; with_reducible exact xa0)), (by first | with_reducible exact xa1 | (rw [cell_drewM]; with_reducible exact xa1)), (by first | with_reducible exact xa2 | (rw [cell_drewM]; with_reducible exact xa2)), (by first | with_reducible exact xa3 | (rw [cell_drewM]; with_reducible exact xa3)), (by first | with_reducible exact ya0 | (rw [cell_drewM]; with_reducible exact ya0)), (by first | with_reducible exact ya1 | (rw [cell_drewM]; with_reducible exact ya1)), (by first | with_reducible exact ya2 | (rw [cell_drewM]; with_reducible exact ya2)), (by first | with_reducible exact ya3 | (rw [cell_drewM]; with_reducible exact ya3))⟩)
    (first
      | (go_at_call 12; refine (IX.out _ _ KX.out.rep KXI.out).mono ?_; rintro e wn ⟨⟨vp, rfl, hvp⟩, hbn⟩; replace K1 : Hid (KH wn w1.heap.size a0 c0 W hf bs nx) := K1.out.on hbn; replace K2 : Hid (KH wn w2.heap.size a1 c1 W1 hf1 bs1 nx1) := K2.out.on hbn; replace KX : Hid (KH wn w4.heap.size ax cx Wx hfx bsx nxx) := KX.out.on hbn; replace KY : Hid (KH wn w5.heap.size ay cy Wy hfy bsy nxy) := KY.out.on hbn; replace KR := hid_of (ki_on KR.out hbn); replace KM := hid_of (ki_on KM.out hbn); replace KXI := hid_of (ki_on KXI.out hbn); replace KYI := hid_of (ki_on KYI.out hbn); (try (replace KQ := hid_of (ki_on KQ.out hbn))); replace BB : Hid (Below w.heap.size w wn) := BB.out.trans (hbn.mono BB.out.size); have KP := hid_of hvp; clear hvp; clear hbn; replace xa0 : wn.cell? ⟨w4.heap.size, 0, none⟩ = some (.slice ax Wx.length cx) := KX.out.cell 0 rfl; replace xa1 : wn.cell? ⟨w4.heap.size, 1, none⟩ = some (.int .i64 hfx) := KX.out.cell 1 rfl; replace xa2 : wn.cell? ⟨w4.heap.size, 2, none⟩ = some (.int .i64 bsx) := KX.out.cell 2 rfl; replace xa3 : wn.cell? ⟨w4.heap.size, 3, none⟩ = some (.int .i64 nxx) := KX.out.cell 3 rfl; replace ya0 : wn.cell? ⟨w5.heap.size, 0, none⟩ = some (.slice ay Wy.length cy) := KY.out.cell 0 rfl; replace ya1 : wn.cell? ⟨w5.heap.size, 1, none⟩ = some (.int .i64 hfy) := KY.out.cell 1 rfl; replace ya2 : wn.cell? ⟨w5.heap.size, 2, none⟩ = some (.int .i64 bsy) := KY.out.cell 2 rfl; replace ya3 : wn.cell? ⟨w5.heap.size, 3, none⟩ = some (.int .i64 nxy) := KY.out.cell 3 rfl)
      | (go_at_call 13; refine (SX.out _ _ KX.out.rep KXI.out).mono ?_; rintro e wn ⟨⟨vq, rfl, hvq⟩, hbn⟩; replace K1 : Hid (KH wn w1.heap.size a0 c0 W hf bs nx) := K1.out.on hbn; replace K2 : Hid (KH wn w2.heap.size a1 c1 W1 hf1 bs1 nx1) := K2.out.on hbn; replace KX : Hid (KH wn w4.heap.size ax cx Wx hfx bsx nxx) := KX.out.on hbn; replace KY : Hid (KH wn w5.heap.size ay cy Wy hfy bsy nxy) := KY.out.on hbn; replace KR := hid_of (ki_on KR.out hbn); replace KM := hid_of (ki_on KM.out hbn); replace KXI := hid_of (ki_on KXI.out hbn); replace KYI := hid_of (ki_on KYI.out hbn); (try (replace KP := hid_of (ki_on KP.out hbn))); replace BB : Hid (Below w.heap.size w wn) := BB.out.trans (hbn.mono BB.out.size); have KQ := hid_of hvq; clear hvq; clear hbn; replace xa0 : wn.cell? ⟨w4.heap.size, 0, none⟩ = some (.slice ax Wx.length cx) := KX.out.cell 0 rfl; replace xa1 : wn.cell? ⟨w4.heap.size, 1, none⟩ = some (.int .i64 hfx) := KX.out.cell 1 rfl; replace xa2 : wn.cell? ⟨w4.heap.size, 2, none⟩ = some (.int .i64 bsx) := KX.out.cell 2 rfl; replace xa3 : wn.cell? ⟨w4.heap.size, 3, none⟩ = some (.int .i64 nxx) := KX.out.cell 3 rfl; replace ya0 : wn.cell? ⟨w5.heap.size, 0, none⟩ = some (.slice ay Wy.length cy) := KY.out.cell 0 rfl; replace ya1 : wn.cell? ⟨w5.heap.size, 1, none⟩ = some (.int .i64 hfy) := KY.out.cell 1 rfl; replace ya2 : wn.cell? ⟨w5.heap.size, 2, none⟩ = some (.int .i64 bsy) := KY.out.cell 2 rfl; replace ya3 : wn.cell? ⟨w5.heap.size, 3, none⟩ = some (.int .i64 nxy) := KY.out.cell 3 rfl)
      | (go_at_call 9; refine (sameInts_any _ _ _ _ KP.out KQ.out).mono ?_; rintro e wn ⟨rfl, hbn⟩; replace K1 : Hid (KH wn w1.heap.size a0 c0 W hf bs nx) := K1.out.on hbn; replace K2 : Hid (KH wn w2.heap.size a1 c1 W1 hf1 bs1 nx1) := K2.out.on hbn; replace KX : Hid (KH wn w4.heap.size ax cx Wx hfx bsx nxx) := KX.out.on hbn; replace KY : Hid (KH wn w5.heap.size ay cy Wy hfy bsy nxy) := KY.out.on hbn; replace KR := hid_of (ki_on KR.out hbn); replace KM := hid_of (ki_on KM.out hbn); replace KXI := hid_of (ki_on KXI.out hbn); replace KYI := hid_of (ki_on KYI.out hbn); replace BB : Hid (Below w.heap.size w wn) := BB.out.trans (hbn.mono BB.out.size); clear hbn; replace xa0 : wn.cell? ⟨w4.heap.size, 0, none⟩ = some (.slice ax Wx.length cx) := KX.out.cell 0 rfl; replace xa1 : wn.cell? ⟨w4.heap.size, 1, none⟩ = some (.int .i64 hfx) := KX.out.cell 1 rfl; replace xa2 : wn.cell? ⟨w4.heap.size, 2, none⟩ = some (.int .i64 bsx) := KX.out.cell 2 rfl; replace xa3 : wn.cell? ⟨w4.heap.size, 3, none⟩ = some (.int .i64 nxx) := KX.out.cell 3 rfl; replace ya0 : wn.cell? ⟨w5.heap.size, 0, none⟩ = some (.slice ay Wy.length cy) := KY.out.cell 0 rfl; replace ya1 : wn.cell? ⟨w5.heap.size, 1, none⟩ = some (.int .i64 hfy) := KY.out.cell 1 rfl; replace ya2 : wn.cell? ⟨w5.heap.size, 2, none⟩ = some (.int .i64 bsy) := KY.out.cell 2 rfl; replace ya3 : wn.cell? ⟨w5.heap.size, 3, none⟩ = some (.int .i64 nxy) := KY.out.cell 3 rfl)
      | (go_at_call 14; refine (IY.out _ _ BB.out KY.out.rep KYI.out).mono ?_; rintro e wn ⟨rfl, hbn⟩; replace K1 : Hid (KH wn w1.heap.size a0 c0 W hf bs nx) := K1.out.on hbn; replace K2 : Hid (KH wn w2.heap.size a1 c1 W1 hf1 bs1 nx1) := K2.out.on hbn; replace KX : Hid (KH wn w4.heap.size ax cx Wx hfx bsx nxx) := KX.out.on hbn; replace KY : Hid (KH wn w5.heap.size ay cy Wy hfy bsy nxy) := KY.out.on hbn; replace KR := hid_of (ki_on KR.out hbn); replace KM := hid_of (ki_on KM.out hbn); replace KXI := hid_of (ki_on KXI.out hbn); replace KYI := hid_of (ki_on KYI.out hbn); replace BB : Hid (Below w.heap.size w wn) := BB.out.trans (hbn.mono BB.out.size); clear hbn; replace xa0 : wn.cell? ⟨w4.heap.size, 0, none⟩ = some (.slice ax Wx.length cx) := KX.out.cell 0 rfl; replace xa1 : wn.cell? ⟨w4.heap.size, 1, none⟩ = some (.int .i64 hfx) := KX.out.cell 1 rfl; replace xa2 : wn.cell? ⟨w4.heap.size, 2, none⟩ = some (.int .i64 bsx) := KX.out.cell 2 rfl; replace xa3 : wn.cell? ⟨w4.heap.size, 3, none⟩ = some (.int .i64 nxx) := KX.out.cell 3 rfl; replace ya0 : wn.cell? ⟨w5.heap.size, 0, none⟩ = some (.slice ay Wy.length cy) := KY.out.cell 0 rfl; replace ya1 : wn.cell? ⟨w5.heap.size, 1, none⟩ = some (.int .i64 hfy) := KY.out.cell 1 rfl; replace ya2 : wn.cell? ⟨w5.heap.size, 2, none⟩ = some (.int .i64 bsy) := KY.out.cell 2 rfl; replace ya3 : wn.cell? ⟨w5.heap.size, 3, none⟩ = some (.int .i64 nxy) := KY.out.cell 3 rfl)
      | (go_at_call 15; refine (SY.out _ _ KY.out.rep KYI.out).mono ?_; rintro e wn ⟨rfl, hbn⟩; replace K1 : Hid (KH wn w1.heap.size a0 c0 W hf bs nx) := K1.out.on hbn; replace K2 : Hid (KH wn w2.heap.size a1 c1 W1 hf1 bs1 nx1) := K2.out.on hbn; replace KX : Hid (KH wn w4.heap.size ax cx Wx hfx bsx nxx) := KX.out.on hbn; replace KY : Hid (KH wn w5.heap.size ay cy Wy hfy bsy nxy) := KY.out.on hbn; replace KR := hid_of (ki_on KR.out hbn); replace KM := hid_of (ki_on KM.out hbn); replace KXI := hid_of (ki_on KXI.out hbn); replace KYI := hid_of (ki_on KYI.out hbn); replace BB : Hid (Below w.heap.size w wn) := BB.out.trans (hbn.mono BB.out.size); clear hbn; replace xa0 : wn.cell? ⟨w4.heap.size, 0, none⟩ = some (.slice ax Wx.length cx) := KX.out.cell 0 rfl; replace xa1 : wn.cell? ⟨w4.heap.size, 1, none⟩ = some (.int .i64 hfx) := KX.out.cell 1 rfl; replace xa2 : wn.cell? ⟨w4.heap.size, 2, none⟩ = some (.int .i64 bsx) := KX.out.cell 2 rfl; replace xa3 : wn.cell? ⟨w4.heap.size, 3, none⟩ = some (.int .i64 nxx) := KX.out.cell 3 rfl; replace ya0 : wn.cell? ⟨w5.heap.size, 0, none⟩ = some (.slice ay Wy.length cy) := KY.out.cell 0 rfl; replace ya1 : wn.cell? ⟨w5.heap.size, 1, none⟩ = some (.int .i64 hfy) := KY.out.cell 1 rfl; replace ya2 : wn.cell? ⟨w5.heap.size, 2, none⟩ = some (.int .i64 bsy) := KY.out.cell 2 rfl; replace ya3 : wn.cell? ⟨w5.heap.size, 3, none⟩ = some (.int .i64 nxy) := KY.out.cell 3 rfl))
  clear IX SX IY SY HUu5 KX KY KXI KYI KP KQ xa0 xa1 xa2 xa3 ya0 ya1 ya2 ya3
  obtain ⟨sh, hsh⟩ : ∃ x, x = shapeF (W, hf, bs, nx) rs := ⟨_, rfl⟩
  have d0 : wn.cell? ⟨w1.heap.size, 0, none⟩ = some (.slice a0 W.length c0) := K1.out.cell 0 rfl
  have d1 : wn.cell? ⟨w1.heap.size, 1, none⟩ = some (.int .i64 hf) := K1.out.cell 1 rfl
  have d2 : wn.cell? ⟨w1.heap.size, 2, none⟩ = some (.int .i64 bs) := K1.out.cell 2 rfl
  have d3 : wn.cell? ⟨w1.heap.size, 3, none⟩ = some (.int .i64 nx) := K1.out.cell 3 rfl
  have hs3 := implShape (W, hf, bs, nx) rs _ _ wn (by show W.length ≤ _; omega) (by omega) (TB.out.on BB.out) K1.out.rep KR.out
  rw [← hsh] at hs3
  have HSH := hid_of hsh
  clear hsh
  go_wp2_with fail
  refine hs3.mono ?_
  rintro e x3 ⟨rfl, hbn⟩
  replace K1 : Hid (KH x3 w1.heap.size a0 c0 W hf bs nx) := K1.out.on hbn
  replace K2 : Hid (KH x3 w2.heap.size a1 c1 W1 hf1 bs1 nx1) := K2.out.on hbn
  replace KR := hid_of (ki_on KR.out hbn)
  replace KM := hid_of (ki_on KM.out hbn)
  replace BB : Hid (Below w.heap.size w x3) := BB.out.trans (hbn.mono BB.out.size)
  clear hbn hs3 d0 d1 d2 d3
  rcases hrt : rightB (W, hf, bs, nx) rs with _ | _
  · have hcn := col_no hrt
    rw [← HR.out] at hcn
    simp only [Prod.mk.injEq] at hcn
    obtain ⟨⟨f1, f2, f3, f4⟩, f5⟩ := hcn
    replace f1 := f1.symm
    replace f2 := f2.symm
    replace f3 := f3.symm
    replace f4 := f4.symm
    replace f5 := f5.symm
    subst f1
    subst f2
    subst f3
    subst f4
    subst f5
    have hse : sh = ⟨#[]⟩ := by rw [HSH.out]; exact shape_none hrt
    subst hse
    clear HSH HR hrt
    have d0 : x3.cell? ⟨w1.heap.size, 0, none⟩ = some (.slice a0 W.length c0) := K1.out.cell 0 rfl
    have d1 : x3.cell? ⟨w1.heap.size, 1, none⟩ = some (.int .i64 hf) := K1.out.cell 1 rfl
    have d2 : x3.cell? ⟨w1.heap.size, 2, none⟩ = some (.int .i64 bs) := K1.out.cell 2 rfl
    have d3 : x3.cell? ⟨w1.heap.size, 3, none⟩ = some (.int .i64 nx) := K1.out.cell 3 rfl
    have e0 : x3.cell? ⟨w2.heap.size, 0, none⟩ = some (.slice a1 W.length c1) := K2.out.cell 0 rfl
    have e1 : x3.cell? ⟨w2.heap.size, 1, none⟩ = some (.int .i64 hf) := K2.out.cell 1 rfl
    have e2 : x3.cell? ⟨w2.heap.size, 2, none⟩ = some (.int .i64 bs) := K2.out.cell 2 rfl
    have e3 : x3.cell? ⟨w2.heap.size, 3, none⟩ = some (.int .i64 nx) := K2.out.cell 3 rfl
    have hs4 := sameHeap_any _ _ _ _ K2.out.rep K1.out.rep
    go_wp2_with fail
    refine hs4.mono ?_
    rintro e x4 ⟨rfl, hbn⟩
    replace KR := hid_of (ki_on KR.out hbn)
    replace KM := hid_of (ki_on KM.out hbn)
    replace BB : Hid (Below w.heap.size w x4) := BB.out.trans (hbn.mono BB.out.size)
    clear hbn hs4 K1 K2 d0 d1 d2 d3 e0 e1 e2 e3
    have hs5 := sameInts_any _ _ _ _ KM.out KR.out
    go_wp2_with fail
    refine hs5.mono ?_
    rintro e x5 ⟨rfl, hbn⟩
    have B5 := hid_of (BB.out.trans (hbn.mono BB.out.size))
    clear hbn hs5
    go_wp2
    go_ret
    exact ⟨rfl, B5.out⟩
  · have hse : sh ≠ ⟨#[]⟩ := by rw [HSH.out]; exact shape_some hrt
    have hsd : decide (sh = ⟨#[]⟩) = false := decide_eq_false hse
    have hte : sh.toList.isEmpty = false := by
      rcases hq : sh.toList.isEmpty with _ | _
      · rfl
      · exact absurd (ByteArray.ext (by have := List.isEmpty_iff.1 hq; rw [ByteArray.toList_eq] at this; exact Array.toList_eq_nil_iff.1 this)) hse
    obtain ⟨sz, hz1, hz2, hz3, hz4, hz5, hz6, hz7, hz8, hz9, hz10, hz11, hz12, hz13⟩ := moved_twice (T := (W, hf, bs, nx)) RI.out hrt
    rw [← HR.out] at hz3 hz4 hz5 hz6 hz7 hz8 hz9 hz12 hz13
    rw [← HSH.out] at hz7 hz8
    dsimp only at hz3 hz4 hz5 hz6 hz7 hz8 hz9 hz10 hz11 hz12 hz13
    have hcl2 := col_lens (T := (W1, hf1, bs1, nx1)) (rs := rs1) (rep_words K2.out.rep)
    obtain ⟨R2, hR2⟩ : ∃ R2, R2 = collectF (W1, hf1, bs1, nx1) rs1 := ⟨_, rfl⟩
    rw [← hR2] at hz4 hz5 hz8 hcl2
    obtain ⟨⟨W6, hf6, bs6, nx6⟩, rs6⟩ := R2
    dsimp only at hz4 hz5 hz8 hcl2
    have HR2 := hid_of hR2
    have hW6 : W6.length ≤ 120 := by rw [hcl2.1]; exact hW1
    have hrs6 : rs6.length ≤ 250 := by rw [hcl2.2]; exact hrs1
    replace hz4 := hz4.symm
    subst hz4
    subst hz3
    subst hz5
    have HZ := hid_of (And.intro hz6 (And.intro hz7 (And.intro hz8 (And.intro hz9 (And.intro hz10 (And.intro hz11 (And.intro hz12 hz13)))))))
    have HZ1 := hid_of hz1
    have HZ2 : Hid (sz ≤ 3000) := hz2
    obtain ⟨g1, g2, g3⟩ := reach_sum hrt
    have hro := (right_is hrt).1
    obtain ⟨L, hLd⟩ : ∃ L, L = reachF (W, hf, bs, nx) rs := ⟨_, rfl⟩
    rw [← hLd] at g2 g3 hz1
    have G1 : Hid (sz = (L.map (szP W)).sum) := hz1
    have G2 : Hid (∀ x ∈ L, ∃ fn tag kids, blockF (W, hf, bs, nx) x = (fn, tag, kids, true) ∧ 1 + (kids : List Int).length = szP W x) := fun x hx => block_of hro (g2 x hx)
    have hs4 := implReach (W, hf, bs, nx) rs _ _ x3 (by show W.length ≤ _; omega) (by omega) K1.out.rep KR.out
    rw [← hLd] at hs4
    clear hR2 hz1 hz2 hz6 hz7 hz8 hz9 hz10 hz11 hz12 hz13 g1 g2 hro hLd hcl2 hse hrt
    have d0 : x3.cell? ⟨w1.heap.size, 0, none⟩ = some (.slice a0 W.length c0) := K1.out.cell 0 rfl
    have d1 : x3.cell? ⟨w1.heap.size, 1, none⟩ = some (.int .i64 hf) := K1.out.cell 1 rfl
    have d2 : x3.cell? ⟨w1.heap.size, 2, none⟩ = some (.int .i64 bs) := K1.out.cell 2 rfl
    have d3 : x3.cell? ⟨w1.heap.size, 3, none⟩ = some (.int .i64 nx) := K1.out.cell 3 rfl
    go_wp2_with fail
    refine hs4.mono ?_
    rintro e x4 ⟨⟨vl, rfl, hvl⟩, hbn⟩
    have KLr : intsSh.rep x4 (· < x4.heap.size) [vl] L := intsSh.mono (intsp_rep hvl.sp) fun b hb => hb.2
    obtain ⟨al, cl, hvv⟩ : ∃ a c, vl = .slice a L.length c := by obtain ⟨a, c, e⟩ := slice_cells KLr; simp only [List.cons.injEq, and_true] at e; exact ⟨a, c, e⟩
    subst hvv
    have KL := hid_of KLr
    replace K1 : Hid (KH x4 w1.heap.size a0 c0 W hf bs nx) := K1.out.on hbn
    replace K2 : Hid (KH x4 w2.heap.size a1 c1 W1 hf1 bs1 (bs1 + (sz : Int))) := K2.out.on hbn
    replace KR := hid_of (ki_on KR.out hbn)
    replace KM := hid_of (ki_on KM.out hbn)
    replace BB : Hid (Below w.heap.size w x4) := BB.out.trans (hbn.mono BB.out.size)
    clear hbn hs4 hvl KLr d0 d1 d2 d3
    have K1L : Hid (KH x4 w1.heap.size a0 c0 W hf bs nx) := K1
    have K2L : Hid (KH x4 w2.heap.size a1 c1 W1 hf1 bs1 (bs1 + (sz : Int))) := K2
    have KML : Hid (intsSh.rep x4 (· < x4.heap.size) [.slice am rs1.length cm] rs1) := KM
    have KLL : Hid (intsSh.rep x4 (· < x4.heap.size) [.slice al L.length cl] L) := KL
    have BBL : Hid (Below w.heap.size w x4) := BB
    go_wp2
    go_loopw [15, 16, 17, 18, 19, 20] (fun v15 v16 v17 v18 v19 v20 wr => ∃ i : Nat, i ≤ L.length ∧ v16 = .int .i64 i ∧ v15 = .int .i64 ((sumT W L i : Nat) : Int) ∧ Hid (KH wr w1.heap.size a0 c0 W hf bs nx) ∧ Hid (KH wr w2.heap.size a1 c1 W1 hf1 bs1 (bs1 + (sz : Int))) ∧ Hid (intsSh.rep wr (· < wr.heap.size) [.slice am rs1.length cm] rs1) ∧ Hid (intsSh.rep wr (· < wr.heap.size) [.slice al L.length cl] L) ∧ Hid (Below w.heap.size w wr)) (fun _ v16 _ _ _ _ _ => L.length - (intOf v16).toNat)
    case atStart => exact ⟨0, Nat.zero_le _, rfl, by rw [sumT_zero]; rfl, K1L, K2L, KML, KLL, BBL⟩
    case round =>
      obtain ⟨i, hi, rfl, rfl, HK1, HK2, HKM, HKL, HBB⟩ := hrel
      clear K1 K2 KM KL BB KR K1L K2L KML KLL BBL
      have K1 : Hid (KH wr w1.heap.size a0 c0 W hf bs nx) := HK1
      have K2 : Hid (KH wr w2.heap.size a1 c1 W1 hf1 bs1 (bs1 + (sz : Int))) := HK2
      have KM : Hid (intsSh.rep wr (· < wr.heap.size) [.slice am rs1.length cm] rs1) := HKM
      have KL : Hid (intsSh.rep wr (· < wr.heap.size) [.slice al L.length cl] L) := HKL
      have BB : Hid (Below w.heap.size w wr) := HBB
      clear HK1 HK2 HKM HKL HBB
      by_cases hlt : i < L.length
      · obtain ⟨a9, c9, e9, -, -, hat⟩ := ints_open KL.out
        simp only [Value.slice.injEq, true_and, Value.slice.injEq] at e9
        obtain ⟨rfl, rfl⟩ := e9
        obtain ⟨bl, ol, rfl, -, hcl, r1, r2⟩ := hat i hlt
        clear hat
        obtain ⟨fn, tag, kids, hbk, hkl⟩ := G2.out L[i] (List.getElem_mem hlt)
        have hsum := sumT_succ (W := W) hlt
        have hle := sumT_le W L (i + 1)
        have hG1 := G1.out
        have hz2 := HZ2.out
        generalize hy : L[i] = y at hcl r1 r2 hbk hkl hsum
        have hs5 : Hid (∀ V, heapSh.rep V (· < V.heap.size) [.slice a0 W.length c0, .int .i64 hf, .int .i64 bs, .int .i64 nx] (W, hf, bs, nx) → Calls Tryz.prog 16 #[.agg #[.slice a0 W.length c0, .int .i64 hf, .int .i64 bs, .int .i64 nx], .int .i64 y] V fun e w' => (∃ ak ck, e = .returned (.tuple #[.bool fn, .int .i64 tag, .slice ak kids.length ck, .bool true])) ∧ Below V.heap.size V w') := fun V hK => by
          have := implBlockAt (W, hf, bs, nx) y _ V (by show W.length ≤ _; omega) r1 r2 hK
          rw [hbk] at this
          exact this.mono (by
            rintro e w' ⟨⟨v', rfl, hv⟩, hb⟩
            obtain ⟨a, c, e⟩ := slice_cells (intsp_rep hv)
            simp only [List.cons.injEq, and_true] at e
            exact ⟨⟨a, c, by rw [e]⟩, hb⟩)
        have i0 : (0 : Int) ≤ (i : Int) := by omega
        have i1 : (i : Int) < (L.length : Int) := by omega
        have hw1 : IntKind.i64.wrap (((sumT W L i : Nat) : Int) + 1) = ((sumT W L i : Nat) : Int) + 1 := by rw [IntKind.wrap_i64]; omega
        have hw2 : IntKind.i64.wrap (((sumT W L i : Nat) : Int) + 1 + (kids.length : Int)) = ((sumT W L (i + 1) : Nat) : Int) := by rw [IntKind.wrap_i64]; omega
        have c8 := hcl
        have LC : Hid (∀ V : World, intsSh.rep V (· < V.heap.size) [.slice (some ⟨bl, ol, none⟩) L.length cl] L → V.cell? ⟨bl, ol + i, none⟩ = some (.int .i64 y)) := fun V hV => by
          obtain ⟨a9, c9, e9, -, -, hat⟩ := ints_open hV
          simp only [Value.slice.injEq, true_and] at e9
          obtain ⟨rfl, rfl⟩ := e9
          obtain ⟨bl9, ol9, e10, -, hcl9, -⟩ := hat i hlt
          simp only [Option.some.injEq, Addr.mk.injEq, and_true] at e10
          obtain ⟨rfl, rfl⟩ := e10
          rw [hcl9, hy]
        clear hbk hkl hsum hle hG1 hz2 hy r1 r2 hcl
        have d0 : wr.cell? ⟨w1.heap.size, 0, none⟩ = some (.slice a0 W.length c0) := K1.out.cell 0 rfl
        have d1 : wr.cell? ⟨w1.heap.size, 1, none⟩ = some (.int .i64 hf) := K1.out.cell 1 rfl
        have d2 : wr.cell? ⟨w1.heap.size, 2, none⟩ = some (.int .i64 bs) := K1.out.cell 2 rfl
        have d3 : wr.cell? ⟨w1.heap.size, 3, none⟩ = some (.int .i64 nx) := K1.out.cell 3 rfl
        go_wp2_with fail
        replace K1 : Hid (KH wr.drew w1.heap.size a0 c0 W hf bs nx) := K1.out.on (Below.refl _ _).drew
        replace K2 : Hid (KH wr.drew w2.heap.size a1 c1 W1 hf1 bs1 (bs1 + (sz : Int))) := K2.out.on (Below.refl _ _).drew
        replace KM := hid_of (ki_on (V' := wr.drew) KM.out (Below.refl _ _).drew)
        replace KL := hid_of (ki_on (V' := wr.drew) KL.out (Below.refl _ _).drew)
        replace BB : Hid (Below w.heap.size w wr.drew) := BB.out.drew
        go_region_held3 (fun X => X.cell? ⟨w1.heap.size, 0, none⟩ = some (.slice a0 W.length c0) ∧ X.cell? ⟨w1.heap.size, 1, none⟩ = some (.int .i64 hf) ∧ X.cell? ⟨w1.heap.size, 2, none⟩ = some (.int .i64 bs) ∧ X.cell? ⟨w1.heap.size, 3, none⟩ = some (.int .i64 nx) ∧ X.cell? ⟨bl, ol + i, none⟩ = some (.int .i64 y))
          (exact ⟨(by first | with_reducible exact d0 | (rw [cell_drewM]; with_reducible exact d0)), (by first | with_reducible exact d1 | (rw [cell_drewM]; with_reducible exact d1)), (by first | with_reducible exact d2 | (rw [cell_drewM]; with_reducible exact d2)), (by first | with_reducible exact d3 | (rw [cell_drewM]; with_reducible exact d3)), (by first | with_reducible exact c8 | (rw [cell_drewM]; with_reducible exact c8))⟩)
          (first
            | (go_at_call 16; refine (hs5.out _ K1.out.rep).mono ?_; rintro e wn ⟨⟨ak, ck, rfl⟩, hbn⟩; replace K1 : Hid (KH wn w1.heap.size a0 c0 W hf bs nx) := K1.out.on hbn; replace K2 : Hid (KH wn w2.heap.size a1 c1 W1 hf1 bs1 (bs1 + (sz : Int))) := K2.out.on hbn; replace KM := hid_of (ki_on KM.out hbn); replace KL := hid_of (ki_on KL.out hbn); replace BB : Hid (Below w.heap.size w wn) := BB.out.trans (hbn.mono BB.out.size); clear hbn; replace d0 : wn.cell? ⟨w1.heap.size, 0, none⟩ = some (.slice a0 W.length c0) := K1.out.cell 0 rfl; replace d1 : wn.cell? ⟨w1.heap.size, 1, none⟩ = some (.int .i64 hf) := K1.out.cell 1 rfl; replace d2 : wn.cell? ⟨w1.heap.size, 2, none⟩ = some (.int .i64 bs) := K1.out.cell 2 rfl; replace d3 : wn.cell? ⟨w1.heap.size, 3, none⟩ = some (.int .i64 nx) := K1.out.cell 3 rfl; replace c8 : wn.cell? ⟨bl, ol + i, none⟩ = some (.int .i64 y) := LC.out _ KL.out))
        all_goals
          clear hs5 d0 d1 d2 d3 c8
          go_wp2
          go_round
          case rel => exact ⟨i + 1, by omega, by go_num, rfl, K1, K2, KM, KL, BB⟩
          case measure => simp [intOf]; omega
      · obtain rfl : i = L.length := by omega
        have hsz : sumT W L L.length = sz := by rw [sumT_all, G1.out]
        rw [hsz]
        clear hsz
        have hs6 := implCollect (W1, hf1, bs1, bs1 + sz) rs1 _ _ wr (by show W1.length ≤ _; omega) (by omega) K2.out.rep KM.out
        rw [← HR2.out] at hs6
        dsimp only at hs6
        clear KL
        have d0 : wr.cell? ⟨w2.heap.size, 0, none⟩ = some (.slice a1 W1.length c1) := K2.out.cell 0 rfl
        have d1 : wr.cell? ⟨w2.heap.size, 1, none⟩ = some (.int .i64 hf1) := K2.out.cell 1 rfl
        have d2 : wr.cell? ⟨w2.heap.size, 2, none⟩ = some (.int .i64 bs1) := K2.out.cell 2 rfl
        have d3 : wr.cell? ⟨w2.heap.size, 3, none⟩ = some (.int .i64 (bs1 + (sz : Int))) := K2.out.cell 3 rfl
        go_wp2_with fail
        refine hs6.mono ?_
        rintro e w6 ⟨hO, hbw6⟩
        obtain ⟨a6, c6, an, cn, rfl, hHw6, hIw6⟩ := col_keep hbw6.size hO
        clear hO
        obtain ⟨u6, hu6⟩ : ∃ z, z = w6.alloc (.cells #[.slice a6 W6.length c6, .int .i64 hf6, .int .i64 bs, .int .i64 (bs + (sz : Int))] 26) := ⟨_, rfl⟩
        have hnu6 : Below w6.heap.size w6 u6 := by rw [hu6]; exact below_new _ _
        have K6 : Hid (KH u6 w6.heap.size a6 c6 W6 hf6 bs (bs + (sz : Int))) := by show KH _ _ _ _ _ _ _ _; rw [hu6]; exact KH.new hHw6
        have HUu6 := hid_of hu6
        have KN : Hid (intsSh.rep u6 (· < u6.heap.size) [.slice an rs6.length cn] rs6) := ki_on hIw6 hnu6
        have hBu6 : Below wr.heap.size wr u6 := hbw6.trans (hnu6.mono hbw6.size)
        replace K1 : Hid (KH u6 w1.heap.size a0 c0 W hf bs nx) := K1.out.on hBu6
        replace K2 : Hid (KH u6 w2.heap.size a1 c1 W1 hf1 bs1 (bs1 + (sz : Int))) := K2.out.on hBu6
        replace KM := hid_of (ki_on KM.out hBu6)
        replace BB : Hid (Below w.heap.size w u6) := BB.out.trans (hBu6.mono BB.out.size)
        clear hHw6 hIw6 hbw6 hnu6 hBu6 hu6
        clear hs6 d0 d1 d2 d3
        obtain ⟨q6, q7, q8, q9, q10, q11, q12, q13⟩ := HZ.out
        obtain ⟨rh, hrh⟩ : ∃ x, x = roomF (W, hf, bs, nx) := ⟨_, rfl⟩
        obtain ⟨ra, hra⟩ : ∃ x, x = roomF (W1, hf1, bs1, bs1 + sz) := ⟨_, rfl⟩
        rw [← hrh, ← hra] at q9
        have IHo : Hid (∀ V, heapSh.rep V (· < V.heap.size) [.slice a1 W1.length c1, .int .i64 hf1, .int .i64 bs1, .int .i64 (bs1 + (sz : Int))] (W1, hf1, bs1, bs1 + (sz : Int)) → Calls Tryz.prog 17 #[.agg #[.slice a1 W1.length c1, .int .i64 hf1, .int .i64 bs1, .int .i64 (bs1 + (sz : Int))]] V fun e w' => e = .returned (.bool true) ∧ Below V.heap.size V w') := fun V hV => by
          have := implHeapOk (W1, hf1, bs1, bs1 + sz) _ V (by show W1.length ≤ _; omega) hV
          rw [q6] at this; exact this
        have ISa : Hid (∀ V, Below w.heap.size w V → heapSh.rep V (· < V.heap.size) [.slice a1 W1.length c1, .int .i64 hf1, .int .i64 bs1, .int .i64 (bs1 + (sz : Int))] (W1, hf1, bs1, bs1 + (sz : Int)) → intsSh.rep V (· < V.heap.size) [.slice am rs1.length cm] rs1 → Calls Tryz.prog 14 #[.agg #[.slice a1 W1.length c1, .int .i64 hf1, .int .i64 bs1, .int .i64 (bs1 + (sz : Int))], .slice am rs1.length cm] V fun e w' => e = .returned (.string sh) ∧ Below V.heap.size V w') := fun V hB hK hI => by
          have := implShape (W1, hf1, bs1, bs1 + sz) rs1 _ _ V (by show W1.length ≤ _; omega) (by omega) (TB.out.on hB) hK hI
          rw [q7] at this; exact this
        have ISc : Hid (∀ V, Below w.heap.size w V → heapSh.rep V (· < V.heap.size) [.slice a6 W6.length c6, .int .i64 hf6, .int .i64 bs, .int .i64 (bs + (sz : Int))] (W6, hf6, bs, bs + (sz : Int)) → intsSh.rep V (· < V.heap.size) [.slice an rs6.length cn] rs6 → Calls Tryz.prog 14 #[.agg #[.slice a6 W6.length c6, .int .i64 hf6, .int .i64 bs, .int .i64 (bs + (sz : Int))], .slice an rs6.length cn] V fun e w' => e = .returned (.string sh) ∧ Below V.heap.size V w') := fun V hB hK hI => by
          have := implShape (W6, hf6, bs, bs + sz) rs6 _ _ V (by show W6.length ≤ _; omega) (by omega) (TB.out.on hB) hK hI
          rw [q8] at this; exact this
        have IRa : Hid (∀ V, heapSh.rep V (· < V.heap.size) [.slice a1 W1.length c1, .int .i64 hf1, .int .i64 bs1, .int .i64 (bs1 + (sz : Int))] (W1, hf1, bs1, bs1 + (sz : Int)) → Calls Tryz.prog 18 #[.agg #[.slice a1 W1.length c1, .int .i64 hf1, .int .i64 bs1, .int .i64 (bs1 + (sz : Int))]] V fun e w' => e = .returned (.int .i64 ra) ∧ Below V.heap.size V w') := fun V hV => by rw [hra]; exact implRoom _ _ V (by show W1.length ≤ _; omega) hV
        have IRh : Hid (∀ V, heapSh.rep V (· < V.heap.size) [.slice a0 W.length c0, .int .i64 hf, .int .i64 bs, .int .i64 nx] (W, hf, bs, nx) → Calls Tryz.prog 18 #[.agg #[.slice a0 W.length c0, .int .i64 hf, .int .i64 bs, .int .i64 nx]] V fun e w' => e = .returned (.int .i64 rh) ∧ Below V.heap.size V w') := fun V hV => by rw [hrh]; exact implRoom _ _ V (by show W.length ≤ _; omega) hV
        have hz2 := HZ2.out
        have hwa : IntKind.i64.wrap (bs1 + (sz : Int) - bs1) = (sz : Int) := by rw [IntKind.wrap_i64]; omega
        have hwc : IntKind.i64.wrap (bs + (sz : Int) - bs) = (sz : Int) := by rw [IntKind.wrap_i64]; omega
        have hge : decide (rh ≤ ra) = true := decide_eq_true q9
        clear hrh hra q6 q7 q8 q9 q10 q11 q12 q13 HZ HZ1 hz2
        have ha0 : u6.cell? ⟨w1.heap.size, 0, none⟩ = some (.slice a0 W.length c0) := K1.out.cell 0 rfl
        have ha1 : u6.cell? ⟨w1.heap.size, 1, none⟩ = some (.int .i64 hf) := K1.out.cell 1 rfl
        have ha2 : u6.cell? ⟨w1.heap.size, 2, none⟩ = some (.int .i64 bs) := K1.out.cell 2 rfl
        have ha3 : u6.cell? ⟨w1.heap.size, 3, none⟩ = some (.int .i64 nx) := K1.out.cell 3 rfl
        have aa0 : u6.cell? ⟨w2.heap.size, 0, none⟩ = some (.slice a1 W1.length c1) := K2.out.cell 0 rfl
        have aa1 : u6.cell? ⟨w2.heap.size, 1, none⟩ = some (.int .i64 hf1) := K2.out.cell 1 rfl
        have aa2 : u6.cell? ⟨w2.heap.size, 2, none⟩ = some (.int .i64 bs1) := K2.out.cell 2 rfl
        have aa3 : u6.cell? ⟨w2.heap.size, 3, none⟩ = some (.int .i64 (bs1 + (sz : Int))) := K2.out.cell 3 rfl
        have ca0 : u6.cell? ⟨w6.heap.size, 0, none⟩ = some (.slice a6 W6.length c6) := K6.out.cell 0 rfl
        have ca1 : u6.cell? ⟨w6.heap.size, 1, none⟩ = some (.int .i64 hf6) := K6.out.cell 1 rfl
        have ca2 : u6.cell? ⟨w6.heap.size, 2, none⟩ = some (.int .i64 bs) := K6.out.cell 2 rfl
        have ca3 : u6.cell? ⟨w6.heap.size, 3, none⟩ = some (.int .i64 (bs + (sz : Int))) := K6.out.cell 3 rfl
        rw [HUu6.out] at ha0 ha1 ha2 ha3 aa0 aa1 aa2 aa3 ca0 ca1 ca2 ca3
        go_wp2_with fail
        rw [← HUu6.out]
        rw [← HUu6.out] at ha0 ha1 ha2 ha3 aa0 aa1 aa2 aa3 ca0 ca1 ca2 ca3
        replace K1 : Hid (KH u6.drew w1.heap.size a0 c0 W hf bs nx) := K1.out.on (Below.refl _ _).drew
        replace K2 : Hid (KH u6.drew w2.heap.size a1 c1 W1 hf1 bs1 (bs1 + (sz : Int))) := K2.out.on (Below.refl _ _).drew
        replace K6 : Hid (KH u6.drew w6.heap.size a6 c6 W6 hf6 bs (bs + (sz : Int))) := K6.out.on (Below.refl _ _).drew
        replace KM := hid_of (ki_on (V' := u6.drew) KM.out (Below.refl _ _).drew)
        replace KN := hid_of (ki_on (V' := u6.drew) KN.out (Below.refl _ _).drew)
        replace BB : Hid (Below w.heap.size w u6.drew) := BB.out.drew
        go_region_held3 (fun X => X.cell? ⟨w1.heap.size, 0, none⟩ = some (.slice a0 W.length c0) ∧ X.cell? ⟨w1.heap.size, 1, none⟩ = some (.int .i64 hf) ∧ X.cell? ⟨w1.heap.size, 2, none⟩ = some (.int .i64 bs) ∧ X.cell? ⟨w1.heap.size, 3, none⟩ = some (.int .i64 nx) ∧ X.cell? ⟨w2.heap.size, 0, none⟩ = some (.slice a1 W1.length c1) ∧ X.cell? ⟨w2.heap.size, 1, none⟩ = some (.int .i64 hf1) ∧ X.cell? ⟨w2.heap.size, 2, none⟩ = some (.int .i64 bs1) ∧ X.cell? ⟨w2.heap.size, 3, none⟩ = some (.int .i64 (bs1 + (sz : Int))) ∧ X.cell? ⟨w6.heap.size, 0, none⟩ = some (.slice a6 W6.length c6) ∧ X.cell? ⟨w6.heap.size, 1, none⟩ = some (.int .i64 hf6) ∧ X.cell? ⟨w6.heap.size, 2, none⟩ = some (.int .i64 bs) ∧ X.cell? ⟨w6.heap.size, 3, none⟩ = some (.int .i64 (bs + (sz : Int))))
          (exact ⟨(by first | with_reducible exact ha0 | (rw [cell_drewM]; with_reducible exact ha0)), (by first | with_reducible exact ha1 | (rw [cell_drewM]; with_reducible exact ha1)), (by first | with_reducible exact ha2 | (rw [cell_drewM]; with_reducible exact ha2)), (by first | with_reducible exact ha3 | (rw [cell_drewM]; with_reducible exact ha3)), (by first | with_reducible exact aa0 | (rw [cell_drewM]; with_reducible exact aa0)), (by first | with_reducible exact aa1 | (rw [cell_drewM]; with_reducible exact aa1)), (by first | with_reducible exact aa2 | (rw [cell_drewM]; with_reducible exact aa2)), (by first | with_reducible exact aa3 | (rw [cell_drewM]; with_reducible exact aa3)), (by first | with_reducible exact ca0 | (rw [cell_drewM]; with_reducible exact ca0)), (by first | with_reducible exact ca1 | (rw [cell_drewM]; with_reducible exact ca1)), (by first | with_reducible exact ca2 | (rw [cell_drewM]; with_reducible exact ca2)), (by first | with_reducible exact ca3 | (rw [cell_drewM]; with_reducible exact ca3))⟩)
          (first
            | (go_at_call 17; refine (IHo.out _ K2.out.rep).mono ?_; rintro e wn ⟨rfl, hbn⟩; replace K1 : Hid (KH wn w1.heap.size a0 c0 W hf bs nx) := K1.out.on hbn; replace K2 : Hid (KH wn w2.heap.size a1 c1 W1 hf1 bs1 (bs1 + (sz : Int))) := K2.out.on hbn; replace K6 : Hid (KH wn w6.heap.size a6 c6 W6 hf6 bs (bs + (sz : Int))) := K6.out.on hbn; replace KM := hid_of (ki_on KM.out hbn); replace KN := hid_of (ki_on KN.out hbn); replace BB : Hid (Below w.heap.size w wn) := BB.out.trans (hbn.mono BB.out.size); clear hbn; replace ha0 : wn.cell? ⟨w1.heap.size, 0, none⟩ = some (.slice a0 W.length c0) := K1.out.cell 0 rfl; replace ha1 : wn.cell? ⟨w1.heap.size, 1, none⟩ = some (.int .i64 hf) := K1.out.cell 1 rfl; replace ha2 : wn.cell? ⟨w1.heap.size, 2, none⟩ = some (.int .i64 bs) := K1.out.cell 2 rfl; replace ha3 : wn.cell? ⟨w1.heap.size, 3, none⟩ = some (.int .i64 nx) := K1.out.cell 3 rfl; replace aa0 : wn.cell? ⟨w2.heap.size, 0, none⟩ = some (.slice a1 W1.length c1) := K2.out.cell 0 rfl; replace aa1 : wn.cell? ⟨w2.heap.size, 1, none⟩ = some (.int .i64 hf1) := K2.out.cell 1 rfl; replace aa2 : wn.cell? ⟨w2.heap.size, 2, none⟩ = some (.int .i64 bs1) := K2.out.cell 2 rfl; replace aa3 : wn.cell? ⟨w2.heap.size, 3, none⟩ = some (.int .i64 (bs1 + (sz : Int))) := K2.out.cell 3 rfl; replace ca0 : wn.cell? ⟨w6.heap.size, 0, none⟩ = some (.slice a6 W6.length c6) := K6.out.cell 0 rfl; replace ca1 : wn.cell? ⟨w6.heap.size, 1, none⟩ = some (.int .i64 hf6) := K6.out.cell 1 rfl; replace ca2 : wn.cell? ⟨w6.heap.size, 2, none⟩ = some (.int .i64 bs) := K6.out.cell 2 rfl; replace ca3 : wn.cell? ⟨w6.heap.size, 3, none⟩ = some (.int .i64 (bs + (sz : Int))) := K6.out.cell 3 rfl)
            | (go_at_call 14; (with_reducible show Calls _ _ #[.agg #[.slice a1 W1.length c1, .int .i64 hf1, .int .i64 bs1, .int .i64 (bs1 + (sz : Int))], .slice am rs1.length cm] _ _); refine (ISa.out _ BB.out K2.out.rep KM.out).mono ?_; rintro e wn ⟨rfl, hbn⟩; replace K1 : Hid (KH wn w1.heap.size a0 c0 W hf bs nx) := K1.out.on hbn; replace K2 : Hid (KH wn w2.heap.size a1 c1 W1 hf1 bs1 (bs1 + (sz : Int))) := K2.out.on hbn; replace K6 : Hid (KH wn w6.heap.size a6 c6 W6 hf6 bs (bs + (sz : Int))) := K6.out.on hbn; replace KM := hid_of (ki_on KM.out hbn); replace KN := hid_of (ki_on KN.out hbn); replace BB : Hid (Below w.heap.size w wn) := BB.out.trans (hbn.mono BB.out.size); clear hbn; replace ha0 : wn.cell? ⟨w1.heap.size, 0, none⟩ = some (.slice a0 W.length c0) := K1.out.cell 0 rfl; replace ha1 : wn.cell? ⟨w1.heap.size, 1, none⟩ = some (.int .i64 hf) := K1.out.cell 1 rfl; replace ha2 : wn.cell? ⟨w1.heap.size, 2, none⟩ = some (.int .i64 bs) := K1.out.cell 2 rfl; replace ha3 : wn.cell? ⟨w1.heap.size, 3, none⟩ = some (.int .i64 nx) := K1.out.cell 3 rfl; replace aa0 : wn.cell? ⟨w2.heap.size, 0, none⟩ = some (.slice a1 W1.length c1) := K2.out.cell 0 rfl; replace aa1 : wn.cell? ⟨w2.heap.size, 1, none⟩ = some (.int .i64 hf1) := K2.out.cell 1 rfl; replace aa2 : wn.cell? ⟨w2.heap.size, 2, none⟩ = some (.int .i64 bs1) := K2.out.cell 2 rfl; replace aa3 : wn.cell? ⟨w2.heap.size, 3, none⟩ = some (.int .i64 (bs1 + (sz : Int))) := K2.out.cell 3 rfl; replace ca0 : wn.cell? ⟨w6.heap.size, 0, none⟩ = some (.slice a6 W6.length c6) := K6.out.cell 0 rfl; replace ca1 : wn.cell? ⟨w6.heap.size, 1, none⟩ = some (.int .i64 hf6) := K6.out.cell 1 rfl; replace ca2 : wn.cell? ⟨w6.heap.size, 2, none⟩ = some (.int .i64 bs) := K6.out.cell 2 rfl; replace ca3 : wn.cell? ⟨w6.heap.size, 3, none⟩ = some (.int .i64 (bs + (sz : Int))) := K6.out.cell 3 rfl)
            | (go_at_call 14; (with_reducible show Calls _ _ #[.agg #[.slice a6 W6.length c6, .int .i64 hf6, .int .i64 bs, .int .i64 (bs + (sz : Int))], .slice an rs6.length cn] _ _); refine (ISc.out _ BB.out K6.out.rep KN.out).mono ?_; rintro e wn ⟨rfl, hbn⟩; replace K1 : Hid (KH wn w1.heap.size a0 c0 W hf bs nx) := K1.out.on hbn; replace K2 : Hid (KH wn w2.heap.size a1 c1 W1 hf1 bs1 (bs1 + (sz : Int))) := K2.out.on hbn; replace K6 : Hid (KH wn w6.heap.size a6 c6 W6 hf6 bs (bs + (sz : Int))) := K6.out.on hbn; replace KM := hid_of (ki_on KM.out hbn); replace KN := hid_of (ki_on KN.out hbn); replace BB : Hid (Below w.heap.size w wn) := BB.out.trans (hbn.mono BB.out.size); clear hbn; replace ha0 : wn.cell? ⟨w1.heap.size, 0, none⟩ = some (.slice a0 W.length c0) := K1.out.cell 0 rfl; replace ha1 : wn.cell? ⟨w1.heap.size, 1, none⟩ = some (.int .i64 hf) := K1.out.cell 1 rfl; replace ha2 : wn.cell? ⟨w1.heap.size, 2, none⟩ = some (.int .i64 bs) := K1.out.cell 2 rfl; replace ha3 : wn.cell? ⟨w1.heap.size, 3, none⟩ = some (.int .i64 nx) := K1.out.cell 3 rfl; replace aa0 : wn.cell? ⟨w2.heap.size, 0, none⟩ = some (.slice a1 W1.length c1) := K2.out.cell 0 rfl; replace aa1 : wn.cell? ⟨w2.heap.size, 1, none⟩ = some (.int .i64 hf1) := K2.out.cell 1 rfl; replace aa2 : wn.cell? ⟨w2.heap.size, 2, none⟩ = some (.int .i64 bs1) := K2.out.cell 2 rfl; replace aa3 : wn.cell? ⟨w2.heap.size, 3, none⟩ = some (.int .i64 (bs1 + (sz : Int))) := K2.out.cell 3 rfl; replace ca0 : wn.cell? ⟨w6.heap.size, 0, none⟩ = some (.slice a6 W6.length c6) := K6.out.cell 0 rfl; replace ca1 : wn.cell? ⟨w6.heap.size, 1, none⟩ = some (.int .i64 hf6) := K6.out.cell 1 rfl; replace ca2 : wn.cell? ⟨w6.heap.size, 2, none⟩ = some (.int .i64 bs) := K6.out.cell 2 rfl; replace ca3 : wn.cell? ⟨w6.heap.size, 3, none⟩ = some (.int .i64 (bs + (sz : Int))) := K6.out.cell 3 rfl)
            | (go_at_call 18; (with_reducible show Calls _ _ #[.agg #[.slice a1 W1.length c1, .int .i64 hf1, .int .i64 bs1, .int .i64 (bs1 + (sz : Int))]] _ _); refine (IRa.out _ K2.out.rep).mono ?_; rintro e wn ⟨rfl, hbn⟩; replace K1 : Hid (KH wn w1.heap.size a0 c0 W hf bs nx) := K1.out.on hbn; replace K2 : Hid (KH wn w2.heap.size a1 c1 W1 hf1 bs1 (bs1 + (sz : Int))) := K2.out.on hbn; replace K6 : Hid (KH wn w6.heap.size a6 c6 W6 hf6 bs (bs + (sz : Int))) := K6.out.on hbn; replace KM := hid_of (ki_on KM.out hbn); replace KN := hid_of (ki_on KN.out hbn); replace BB : Hid (Below w.heap.size w wn) := BB.out.trans (hbn.mono BB.out.size); clear hbn; replace ha0 : wn.cell? ⟨w1.heap.size, 0, none⟩ = some (.slice a0 W.length c0) := K1.out.cell 0 rfl; replace ha1 : wn.cell? ⟨w1.heap.size, 1, none⟩ = some (.int .i64 hf) := K1.out.cell 1 rfl; replace ha2 : wn.cell? ⟨w1.heap.size, 2, none⟩ = some (.int .i64 bs) := K1.out.cell 2 rfl; replace ha3 : wn.cell? ⟨w1.heap.size, 3, none⟩ = some (.int .i64 nx) := K1.out.cell 3 rfl; replace aa0 : wn.cell? ⟨w2.heap.size, 0, none⟩ = some (.slice a1 W1.length c1) := K2.out.cell 0 rfl; replace aa1 : wn.cell? ⟨w2.heap.size, 1, none⟩ = some (.int .i64 hf1) := K2.out.cell 1 rfl; replace aa2 : wn.cell? ⟨w2.heap.size, 2, none⟩ = some (.int .i64 bs1) := K2.out.cell 2 rfl; replace aa3 : wn.cell? ⟨w2.heap.size, 3, none⟩ = some (.int .i64 (bs1 + (sz : Int))) := K2.out.cell 3 rfl; replace ca0 : wn.cell? ⟨w6.heap.size, 0, none⟩ = some (.slice a6 W6.length c6) := K6.out.cell 0 rfl; replace ca1 : wn.cell? ⟨w6.heap.size, 1, none⟩ = some (.int .i64 hf6) := K6.out.cell 1 rfl; replace ca2 : wn.cell? ⟨w6.heap.size, 2, none⟩ = some (.int .i64 bs) := K6.out.cell 2 rfl; replace ca3 : wn.cell? ⟨w6.heap.size, 3, none⟩ = some (.int .i64 (bs + (sz : Int))) := K6.out.cell 3 rfl)
            | (go_at_call 18; (with_reducible show Calls _ _ #[.agg #[.slice a0 W.length c0, .int .i64 hf, .int .i64 bs, .int .i64 nx]] _ _); refine (IRh.out _ K1.out.rep).mono ?_; rintro e wn ⟨rfl, hbn⟩; replace K1 : Hid (KH wn w1.heap.size a0 c0 W hf bs nx) := K1.out.on hbn; replace K2 : Hid (KH wn w2.heap.size a1 c1 W1 hf1 bs1 (bs1 + (sz : Int))) := K2.out.on hbn; replace K6 : Hid (KH wn w6.heap.size a6 c6 W6 hf6 bs (bs + (sz : Int))) := K6.out.on hbn; replace KM := hid_of (ki_on KM.out hbn); replace KN := hid_of (ki_on KN.out hbn); replace BB : Hid (Below w.heap.size w wn) := BB.out.trans (hbn.mono BB.out.size); clear hbn; replace ha0 : wn.cell? ⟨w1.heap.size, 0, none⟩ = some (.slice a0 W.length c0) := K1.out.cell 0 rfl; replace ha1 : wn.cell? ⟨w1.heap.size, 1, none⟩ = some (.int .i64 hf) := K1.out.cell 1 rfl; replace ha2 : wn.cell? ⟨w1.heap.size, 2, none⟩ = some (.int .i64 bs) := K1.out.cell 2 rfl; replace ha3 : wn.cell? ⟨w1.heap.size, 3, none⟩ = some (.int .i64 nx) := K1.out.cell 3 rfl; replace aa0 : wn.cell? ⟨w2.heap.size, 0, none⟩ = some (.slice a1 W1.length c1) := K2.out.cell 0 rfl; replace aa1 : wn.cell? ⟨w2.heap.size, 1, none⟩ = some (.int .i64 hf1) := K2.out.cell 1 rfl; replace aa2 : wn.cell? ⟨w2.heap.size, 2, none⟩ = some (.int .i64 bs1) := K2.out.cell 2 rfl; replace aa3 : wn.cell? ⟨w2.heap.size, 3, none⟩ = some (.int .i64 (bs1 + (sz : Int))) := K2.out.cell 3 rfl; replace ca0 : wn.cell? ⟨w6.heap.size, 0, none⟩ = some (.slice a6 W6.length c6) := K6.out.cell 0 rfl; replace ca1 : wn.cell? ⟨w6.heap.size, 1, none⟩ = some (.int .i64 hf6) := K6.out.cell 1 rfl; replace ca2 : wn.cell? ⟨w6.heap.size, 2, none⟩ = some (.int .i64 bs) := K6.out.cell 2 rfl; replace ca3 : wn.cell? ⟨w6.heap.size, 3, none⟩ = some (.int .i64 (bs + (sz : Int))) := K6.out.cell 3 rfl))
        all_goals
          go_wp2
          go_ret
          exact ⟨rfl, BB.out⟩

theorem cell_lt {w : World} {b o : Nat} {v : Value} (h : w.cell? ⟨b, o, none⟩ = some v) : b < w.heap.size := by
  rcases Nat.lt_or_ge b w.heap.size with h' | h'
  · exact h'
  · simp [World.cell?, Array.getElem?_eq_none h'] at h

theorem walk (a : Option Addr) (len cap : Nat) (zs : List Int) (w : World) (hL : «fun».Tab w)
    (hr : (a = none ∧ len = 0 ∧ cap = 0 ∧ zs = []) ∨ ∃ x, a = some x ∧ len ≤ cap ∧ cap ≤ maxLen ∧ zs.length = cap ∧ (∀ i, i < zs.length → w.cell? (x.add i) = some (.int .u8 (zs.getD i 0))) ∧ ∀ n ∈ zs, (Lit.int .u8 n).wf = true) :
    Calls Tryz.prog 3 #[.slice a len cap] w fun e w' => e = .returned (.bool true) ∧ Below w.heap.size w w' := by
  by_cases hl : len ≤ 1048576
  · refine walk_small a len cap w ⟨hl, fun h0 => ?_⟩ hL
    rcases hr with ⟨_, h, _, _⟩ | ⟨x, rfl, hlc, hm, hz, hcell, hwz⟩
    · omega
    · obtain ⟨b, off, spot⟩ := x
      have hc := hcell 0 (by omega)
      have hspot : spot = none := by simpa [Addr.add] using World.cell?_spot hc
      subst hspot
      have hc' : ∀ j, j < len → w.cell? ⟨b, off + j, none⟩ = some (.int .u8 (zs.getD j 0)) := fun j hj => by
        have := hcell j (by omega)
        rwa [Lib.add_plain] at this
      refine ⟨b, off, rfl, cell_lt (hc' 0 h0), fun j hj => ⟨zs.getD j 0, hc' j hj, ?_⟩⟩
      have hmem : zs.getD j 0 ∈ zs := by
        rw [List.getD_eq_getElem?_getD, List.getElem?_eq_getElem (by omega)]
        exact List.getElem_mem _
      exact bounds_u8 (hwz _ hmem)
  · refine walk_big a len cap (by omega) ?_ w
    rcases hr with ⟨_, h, _, _⟩ | ⟨x, rfl, hlc, hm, hz, hcell, hwz⟩
    · omega
    · unfold maxLen at hm; omega

/-- WHAT THE WALKS GIVE, FOR EVERY ARGUMENT AND EVERY WORLD THAT HOLDS WHAT IS LISTED. -/
theorem contract (H : Type) (enc : TypeId × Value → H) (W : World) (base : Nat) (args : Array Value) (ds gs : List (DataW H)) (before : List MemPlace)
    (hval : ∀ (j : Nat) t v, Tryz.f3.params[j]? = some t → args[j]? = some v → Value.okWide Tryz.prog W .any base t v)
    (hW : DataW.Whole enc Tryz.prog Tryz.f3.params.toList Rows.fnMovedSpec.vars false W args.toList ds gs before) (hL : laidMetH Tryz.prog Rows.fnMovedRow.laid W) :
    Calls Tryz.prog 3 args W fun e W' => ∃ v, e = .returned v ∧ Rows.fnMovedSpec.post enc Tryz.prog Tryz.f3 false true false false W args v W' := by
  have hW' := hW
  obtain ⟨p, q, hA0, hV, rfl, hfz, hnd⟩ := hW
  have hA : DataW.TrodAll enc Tryz.prog W 0 (fun _ => true) true Tryz.f3.params.toList args.toList ds p := hA0
  rw [Tryz.params3] at hA hval
  obtain ⟨v0, vs0, d0, ds0, p0, q0, hargs, rfl, rfl, h0, r0⟩ := trodAll_cons hA
  obtain ⟨rfl, rfl, rfl⟩ := trodAll_nil r0
  obtain rfl : args = #[v0] := by cases args; simp_all
  obtain ⟨rfl, rfl⟩ := trodVars_none hV
  obtain ⟨a0, len0, cap0, rfl⟩ := okWide_slice Tryz.underlying22 (hval 0 22 v0 rfl rfl)
  have k0 := h0
  have lt0 : ∀ x ∈ p0, x.block < W.heap.size := by obtain ⟨m, hm⟩ := k0; exact DataW.trod_lt m _ _ _ hm
  obtain ⟨z0, w0⟩ : ∃ zs : List Int, (a0 = none ∧ len0 = 0 ∧ cap0 = 0 ∧ zs = []) ∨ ∃ x, a0 = some x ∧ len0 ≤ cap0 ∧ cap0 ≤ maxLen ∧ zs.length = cap0 ∧ (∀ i, i < zs.length → W.cell? (x.add i) = some (.int .u8 (zs.getD i 0))) ∧ ∀ n ∈ zs, (Lit.int .u8 n).wf = true := by
    obtain ⟨fuel, hf⟩ := h0
    rcases open_ints Tryz.underlying22 Tryz.underlying5 (by kernel_rfl) hf with ⟨hcs, _⟩ | ⟨x, l, c, zs, hcs, _, hl, hm, hz, _, hcell, hwz⟩
    · simp [Value.cells] at hcs
      obtain ⟨rfl, rfl, rfl⟩ := hcs
      exact ⟨[], .inl ⟨rfl, rfl, rfl, rfl⟩⟩
    · simp [Value.cells] at hcs
      obtain ⟨rfl, rfl, rfl⟩ := hcs
      exact ⟨zs, .inr ⟨_, rfl, hl, hm, by simpa using hz, hcell, hwz⟩⟩
  clear hA0
  refine (walk a0 len0 cap0 z0 W (laid hL) w0).mono fun e W' ⟨he, bel⟩ => ?_
  subst he
  exact ⟨_, rfl, _, _, _, [], _, [], hW', trodAll_mk1 (shut_bool Tryz.underlying4 _), (trodAll_cons_mk (Below.trod laidOut (by kernel_rfl) (of_decide_eq_true (by kernel_rfl)) k0 bel lt0) trodAll_mk0), rfl, bel.frame _, fun h => by cases h⟩

/-- A WORLD FOR THE WITNESS: the one that the program's own start leaves. -/
theorem laid_met (os : Os) : laidMet Tryz.prog Rows.fnMovedRow.laid ((World.doorLaid Tryz.prog 24 os).forCall (fun _ _ => 0) ⟨#[], #[.slice none 0 0], []⟩).memory :=
  laidMet_of_run' 8 (by kernel_rfl) (by kernel_rfl)
theorem reads (os : Os) {H : Type} (enc : TypeId × Value → H) : ∃ places, DataW.whole enc Tryz.prog ((World.doorLaid Tryz.prog 24 os).forCall (fun _ _ => 0) ⟨#[], #[.slice none 0 0], []⟩).memory Tryz.f3.params.toList Rows.fnMovedSpec.vars false #[Value.slice none 0 0].toList 8 = some ([.nil], [], places) :=
  ⟨[], by kernel_rfl⟩

set_option maxRecDepth 100000 in
theorem lifted (os : Os) (started : os.Started) (H : Type) (enc : TypeId × Value → H) (F : Stop.Interp) :
    ReturnsInHanded {} Tryz.checked os 3 .any ((OpenSpec.ofChange Rows.fnMovedSpec).preRow enc Tryz.prog Tryz.f3 Rows.fnMovedRow.domain false Rows.fnMovedRow.laid) (((OpenSpec.ofChange Rows.fnMovedSpec).at F).post enc Tryz.prog Tryz.f3 false true false false) := by
  obtain ⟨places, hx⟩ := reads os enc
  refine returnsInHanded_of_row (C := Tryz.checked) (s := OpenSpec.ofChange Rows.fnMovedSpec) own started (by kernel_rfl) Tryz.func3
    (witness_row_at (enc := enc) (C := Tryz.checked) false (World.doorLaid Tryz.prog 24 os) #[.slice none 0 0] rfl (by kernel_rfl) (by kernel_rfl) (by kernel_rfl)
      (OpenSpec.preRow_of_cond 8 hx (by kernel_rfl) (fun k hk => by cases hk) (by kernel_rfl) (laid_met os))) ?_
  intro W base args ds gs before hval hW _ _ _ hL _ _
  exact contract H enc W base args ds gs before hval hW hL

theorem said : Rows.FnMovedSaid :=
  OpenClaim.holds_of_cond 3 Tryz.f3 rfl rfl rfl rfl rfl rfl rfl ⟨rfl, rfl, rfl, rfl, rfl⟩ rfl rfl rfl rfl rfl (by kernel_rfl) Tryz.func3 (by kernel_rfl)
    (of_decide_eq_true (by kernel_rfl)) (by unfold Func.isWrapper; first | (rw [if_pos (by decide +kernel)]; kernel_rfl) | (rw [if_neg (by decide +kernel)]; exact ⟨rfl, rfl⟩))
    (fun os started H enc _ F => by rw [OpenClaim.pre_eq_preRow]; exact lifted os started H enc F)

theorem plain (f : FuncId) (fn : Func) (hf : Tryz.pinned.checked.prog.funcNamed "loop.example/g00323/laws.FnMoved" = some f) (hfn : Tryz.pinned.checked.prog.funcs[f]? = some fn) :
    false = Tryz.pinned.checked.prog.looks [] ∧ ∀ (j : Nat) t, fn.params[j]? = some t → Tryz.pinned.checked.prog.wantsStandIn t = false := by
  obtain rfl : f = 3 := Option.some.inj ((show Tryz.prog.funcNamed "loop.example/g00323/laws.FnMoved" = some 3 by kernel_rfl).symm.trans hf) |>.symm
  obtain rfl : fn = Tryz.f3 := (Option.some.inj (Tryz.func3.symm.trans hfn)).symm
  refine ⟨by kernel_rfl, fun j t ht => ?_⟩
  rw [Tryz.params3] at ht
  obtain rfl : t = 22 := by simpa using Array.mem_of_getElem? ht
  exact (show Tryz.prog.wantsStandIn 22 = false by kernel_rfl)

/-- THE CARD. -/
theorem card : Rows.FnMovedCardSaid :=
  Claim7.holds_tied_plain_at .later [] _ _ _ _ said (fun _ h => by cases h) (by kernel_rfl) (fun _ h => by cases h) fnMoved_row_tie rfl ⟨rfl, rfl⟩ (by kernel_rfl) rfl plain (by kernel_rfl)
#print axioms card
end Go.Proofs.YthpdkjenadngoaaGreatDoor.fnMoved
