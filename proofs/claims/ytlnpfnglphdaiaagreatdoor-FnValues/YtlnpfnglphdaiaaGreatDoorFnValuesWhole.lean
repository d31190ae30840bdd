/-
  For every bytes of a draw the law FnValues returns true: a drawn value is shown as the model shows it, it is right where the model says so, a drawn value fits anything and a name, and only a con's text may be empty; the argument reads as it read before. Conditions: the library's table that the road reads is as the program's text lays it (the card ties it).
-/
import Derived.Test.YtlnpfnglphdaiaaGreatDoorCards
import Derived.Test.YtlnpfnglphdaiaaGreatDoorTie
import Derived.WalkKit
import Derived.ProofKit
import Derived.OpenShut
import Derived.Deep.DeepHandedRow
import Derived.Deep.RegionHeld3
import Derived.Lib.LaidTab
import Derived.LaidMore
import Derived.Lib.ItoaMem
import Derived.ShutString
import Derived.ChangeOld
import Derived.Below
import Derived.Stop.LaidErr
import Derived.Test.YtlnpfnglphdaiaaGreatDoorB1
import Derived.Test.YtlnpfnglphdaiaaGreatDoorB2
import Derived.Test.YtlnpfnglphdaiaaGreatDoorB3
import Derived.Test.YtlnpfnglphdaiaaGreatDoorB4
import Derived.Test.YtlnpfnglphdaiaaGreatDoorB5
import Derived.Test.YtlnpfnglphdaiaaGreatDoorB6
import Derived.Test.YtlnpfnglphdaiaaGreatDoorB7
import Derived.Test.YtlnpfnglphdaiaaGreatDoorB8
import Derived.Test.YtlnpfnglphdaiaaGreatDoorB9
import Derived.Test.YtlnpfnglphdaiaaGreatDoorB10
import Derived.Test.YtlnpfnglphdaiaaGreatDoorB11
import Derived.Test.YtlnpfnglphdaiaaGreatDoorB12
import Derived.Test.YtlnpfnglphdaiaaGreatDoorB13
import Derived.Test.YtlnpfnglphdaiaaGreatDoorB14
import Derived.Test.YtlnpfnglphdaiaaGreatDoorB15
import Derived.Test.YtlnpfnglphdaiaaGreatDoorB16
import Derived.Test.YtlnpfnglphdaiaaGreatDoorB17
import Derived.Test.YtlnpfnglphdaiaaGreatDoorB18
import Derived.Test.YtlnpfnglphdaiaaGreatDoorB19
import Derived.Test.YtlnpfnglphdaiaaGreatDoorB20
import Derived.Test.YtlnpfnglphdaiaaGreatDoorB21
import Derived.Test.YtlnpfnglphdaiaaGreatDoorB22
import Derived.Test.YtlnpfnglphdaiaaGreatDoorB23
import Derived.Test.YtlnpfnglphdaiaaGreatDoorB24
import Derived.Test.YtlnpfnglphdaiaaGreatDoorB25
import Derived.Test.YtlnpfnglphdaiaaGreatDoorB26
import Derived.Test.YtlnpfnglphdaiaaGreatDoorB27
import Derived.Test.YtlnpfnglphdaiaaGreatDoorB28
import Derived.Test.YtlnpfnglphdaiaaGreatDoorB29
import Derived.Test.YtlnpfnglphdaiaaGreatDoorB30
import Derived.Test.YtlnpfnglphdaiaaGreatDoorB31
import Derived.Test.YtlnpfnglphdaiaaGreatDoorB32
import Derived.Test.YtlnpfnglphdaiaaGreatDoorB33
import Derived.Test.YtlnpfnglphdaiaaGreatDoorB34
import Derived.Test.YtlnpfnglphdaiaaGreatDoorB35
import Derived.Test.YtlnpfnglphdaiaaGreatDoorB36
import Derived.Test.YtlnpfnglphdaiaaGreatDoorB37
import Derived.Test.YtlnpfnglphdaiaaGreatDoorB38
import Derived.Test.YtlnpfnglphdaiaaGreatDoorB39
import Derived.Test.YtlnpfnglphdaiaaGreatDoorB40
import Derived.Test.YtlnpfnglphdaiaaGreatDoorB41
import Derived.Test.YtlnpfnglphdaiaaGreatDoorB42
import Derived.Test.YtlnpfnglphdaiaaGreatDoorB43
import Derived.Test.YtlnpfnglphdaiaaGreatDoorB44
import Derived.Test.YtlnpfnglphdaiaaGreatDoorB45
namespace Go.Proofs.YtlnpfnglphdaiaaGreatDoor.fnValues
open Go.ChangeShapes Go.WideShapes Go.ChangeAt Go.RowKit Go.Proofs.YtlnpfnglphdaiaaGreatDoor.rose Go.Proofs.YtlnpfnglphdaiaaGreatDoor.value Go.Proofs.YtlnpfnglphdaiaaGreatDoor.vt Go.Proofs.YtlnpfnglphdaiaaGreatDoor.tok
set_option linter.unusedVariables false
set_option maxRecDepth 100000

theorem own : ownKnob Tryz.prog.godebug = none := by kernel_rfl
theorem laidOut : laidOutB Tryz.prog = true := by kernel_rfl
theorem gPow : Tryz.prog.globalNamed "internal/strconv.uint64pow10" = some 0 := by kernel_rfl
theorem gPowType : (Tryz.prog.globals[0]?).map (·.type) = some 197 := by kernel_rfl
theorem cellsPow : Tryz.prog.cellsOf 197 = 20 := by kernel_rfl
theorem cellsU64 : Tryz.prog.cellsOf 190 = 1 := by kernel_rfl

/-- WHAT THE ROW's LIST GIVES: the table of powers of ten. -/
theorem laid {W : World} (h : laidMetH Tryz.prog Rows.fnValuesRow.laid W) : Tab W :=
  Lib.tabIs_of_head (rest := []) gPow gPowType Tryz.underlying197 Tryz.underlying190 cellsU64 cellsPow (laidMet.tail (laidMet.tail h))

theorem cell_drewV (w : World) (a : Addr) : w.drew.cell? a = w.cell? a := rfl

theorem itoa_some (n : Int) : Lib.itoa n ≠ [] := by
  rcases Int.lt_or_le n 0 with h | h
  · obtain ⟨u, rfl⟩ : ∃ u : Nat, n = -(u : Int) := ⟨n.natAbs, by omega⟩
    rw [Lib.itoa_neg u (by omega)]; exact List.cons_ne_nil _ _
  · obtain ⟨u, rfl⟩ : ∃ u : Nat, n = u := ⟨n.toNat, by omega⟩
    rw [Lib.itoa_nonneg]; exact plain.digits_ne u
theorem nleaf {w : World} {S : Nat → Prop} {k n : Int} {s u : ByteArray} (h1 : -9223372036854775808 ≤ k ∧ k ≤ 9223372036854775807) (h2 : -9223372036854775808 ≤ n ∧ n ≤ 9223372036854775807) (h3 : s.size ≤ maxLen) (h4 : u.size ≤ maxLen) : node.ndSh.rep w S [.int .i64 k, .int .i64 n, .string s, .string u, .slice none 0 0] (.mk (k, n, s, u) []) :=
  node.nd_shut h1 h2 h3 h4 ⟨none, 0, fun _ => [], rfl, Nat.le_refl _, Nat.zero_le _, fun _ => rfl, fun i hi => absurd hi (Nat.not_lt_zero _), fun i hi => absurd hi (Nat.not_lt_zero _)⟩

theorem code_on {w w' : World} {a : Option Addr} {len : Nat} (h : cur.Code w.heap.size w a len) (hb : Below w.heap.size w w') : cur.Code w'.heap.size w' a len := by
  refine ⟨h.1, fun hl => ?_⟩
  obtain ⟨b, off, e, hlt, hz⟩ := h.2 hl
  refine ⟨b, off, e, Nat.lt_of_lt_of_le hlt hb.size, fun j hj => ?_⟩
  obtain ⟨z, hc1, h0, h1⟩ := hz j hj
  exact ⟨z, by rw [hb.cell (p := ⟨b, off + j, none⟩) hlt]; exact hc1, h0, h1⟩

theorem walk_big (a : Option Addr) (len cap : Nat) (hl : 1048576 < len) (hm : (len : Int) ≤ 9223372036854775807) (w : World) :
    Calls Tryz.prog 3 #[.slice a len cap] w fun e w' => e = .returned (.bool true) ∧ Below w.heap.size w w' := by
  have t1 : decide (1048576 < (len : Int)) = true := by simp; omega
  go_enter Tryz.func3, Tryz.ntmps3
  go_wp2
  go_ret
  exact ⟨rfl, Below.refl _ _⟩


set_option maxHeartbeats 16000000 in
theorem walk_small (a : Option Addr) (len cap : Nat) (w : World) (hC : cur.Code w.heap.size w a len) (hL : Tab w) :
    Calls Tryz.prog 3 #[.slice a len cap] w fun e w' => e = .returned (.bool true) ∧ Below w.heap.size w w' := by
  have hl := hC.1
  have t1 : decide (1048576 < (len : Int)) = false := by simp; omega
  have HC : Hid (cur.Code w.heap.size w a len) := hC
  have HL : Hid (Tab w) := hL
  clear hC hL
  go_enter Tryz.func3, Tryz.ntmps3
  go_wp2_with (go_at_call 4; go_in)
  refine (value.drawText_any a len cap _ HC.out).mono ?_
  rintro e w1 ⟨⟨cs, V, rfl, hr, hw⟩, hb⟩
  obtain ⟨v0, v1, v2, vk, va, vc, hTT, rfl, f0, f1, f2, -⟩ := value_open (Sh.bare hr)
  obtain ⟨vl, hvl⟩ : ∃ n, n = vk.length := ⟨_, rfl⟩
  rw [← hvl] at hr ⊢
  have HK : Hid (tl V = [] → v0 = 2) := by
    subst hTT
    intro h
    rw [tl] at h
    by_cases e1 : v0 = 1
    · rw [if_pos e1, dg_in f1] at h
      exact absurd h (itoa_some v1)
    · rw [if_neg e1] at h
      by_cases e2 : v0 = 2
      · exact e2
      · rw [if_neg e2] at h; cases h
  clear hvl hTT f0 f1 f2
  have B1 : Hid (Below w.heap.size w w1) := hb
  have R1 : Hid (valueP.rep w1 (fun b => w.heap.size ≤ b ∧ b < w1.heap.size) [.int .i64 v0, .int .i64 v1, .string v2, .slice va vl vc] V ∧ wt V ≤ 80) := ⟨hr, hw⟩
  obtain ⟨w2, hw2⟩ : ∃ x, x = w1.alloc (.cells #[.int .i64 v0, .int .i64 v1, .string v2, .slice va vl vc] 26) := ⟨_, rfl⟩
  have HW2 : Hid (w2 = w1.alloc (.cells #[.int .i64 v0, .int .i64 v1, .string v2, .slice va vl vc] 26)) := hw2
  have b2 : Below w1.heap.size w1 w2 := by rw [hw2]; exact (Below.refl _ _).alloc (Nat.le_refl _) _
  have P2 : Hid (w2.heap[w1.heap.size]? = some (.cells #[.int .i64 v0, .int .i64 v1, .string v2, .slice va vl vc] 26)) := by show _ = _; rw [hw2]; exact alloc_top _ _
  have B2 : Hid (Below w.heap.size w w2) := B1.out.trans (b2.mono B1.out.size)
  have R2 : Hid (valueP.rep w2 (· < w1.heap.size) [.int .i64 v0, .int .i64 v1, .string v2, .slice va vl vc] V ∧ wt V ≤ 80) := ⟨valueP.mono (valueP.on hr fun b hS => b2.block b hS.2) fun b hS => hS.2, hw⟩
  have HX := value.drawOk_any a len cap w2 (code_on HC.out B2.out)
  clear hr hw hb hw2 b2
  go_wp2_with fail
  rw [← HW2.out]
  refine HX.mono ?_
  rintro e w3 ⟨⟨lv, ks, cs, X, rfl, hd, hdw, hx, hxw⟩, hb⟩
  obtain ⟨la, lc, hlv⟩ := slice_cells (Sh.bare hd)
  simp only [List.cons.injEq, and_true] at hlv
  subst hlv
  obtain ⟨ll, hll⟩ : ∃ n, n = ks.length := ⟨_, rfl⟩
  rw [← hll] at hd ⊢
  obtain ⟨x0, x1, x2, xk, xa, xc, hTT, rfl, -, -, -, -⟩ := value_open (Sh.bare hx)
  obtain ⟨xl, hxl⟩ : ∃ n, n = xk.length := ⟨_, rfl⟩
  rw [← hxl] at hx ⊢
  clear hxl hTT hll
  obtain ⟨w4, hw4⟩ : ∃ x, x = w3.alloc (.cells #[.int .i64 x0, .int .i64 x1, .string x2, .slice xa xl xc] 26) := ⟨_, rfl⟩
  have HW4 : Hid (w4 = w3.alloc (.cells #[.int .i64 x0, .int .i64 x1, .string x2, .slice xa xl xc] 26)) := hw4
  have b4 : Below w3.heap.size w3 w4 := by rw [hw4]; exact (Below.refl _ _).alloc (Nat.le_refl _) _
  have z4 : w4.heap.size = w3.heap.size + 1 := by rw [hw4]; simp
  have hV2 := (Array.getElem?_eq_some_iff.1 P2.out).1
  have z3 := hb.size
  have B4 : Hid (Below w.heap.size w w4) := (B2.out.trans (hb.mono B2.out.size)).trans (b4.mono (by have := B2.out.size; omega))
  have P4 : Hid (w4.heap[w1.heap.size]? = some (.cells #[.int .i64 v0, .int .i64 v1, .string v2, .slice va vl vc] 26) ∧ w4.heap[w3.heap.size]? = some (.cells #[.int .i64 x0, .int .i64 x1, .string x2, .slice xa xl xc] 26)) := ⟨(b4.block _ (by omega)).trans ((hb.block _ hV2).trans P2.out), by rw [hw4]; exact alloc_top _ _⟩
  have R4 : Hid (valueP.rep w4 (· < w4.heap.size) [.int .i64 v0, .int .i64 v1, .string v2, .slice va vl vc] V) := valueP.mono (valueP.on (valueP.on R2.out.1 fun b hS => hb.block b (by omega)) fun b hS => b4.block b (by omega)) fun b hS => by omega
  have Q4 : Hid (valueP.rep w4 (· < w4.heap.size) [.int .i64 x0, .int .i64 x1, .string x2, .slice xa xl xc] X) := valueP.mono (valueP.on hx fun b hS => b4.block b hS.2) fun b hS => by omega
  have D4 : Hid (dataPs.rep w4 (· < w4.heap.size) [.slice la ll lc] ks) := dataPs.mono (dataPs.on hd fun b hS => b4.block b hS.2) fun b hS => by omega
  have RW : Hid (∀ W, Below w4.heap.size w4 W → valueP.rep W (· < W.heap.size) [.int .i64 v0, .int .i64 v1, .string v2, .slice va vl vc] V ∧ valueP.rep W (· < W.heap.size) [.int .i64 x0, .int .i64 x1, .string x2, .slice xa xl xc] X ∧ dataPs.rep W (· < W.heap.size) [.slice la ll lc] ks ∧ Tab W) := fun W h =>
    ⟨valueP.mono (valueP.below R4.out h) fun b hS => Nat.lt_of_lt_of_le hS h.size, valueP.mono (valueP.below Q4.out h) fun b hS => Nat.lt_of_lt_of_le hS h.size, dataPs.mono (dataPs.below D4.out h) fun b hS => Nat.lt_of_lt_of_le hS h.size, HL.out.on (B4.out.trans (h.mono B4.out.size))⟩
  obtain ⟨tx, htx⟩ : ∃ t, t = str (tl V) := ⟨_, rfl⟩
  obtain ⟨rb, hrb⟩ : ∃ r, r = rightB ks X := ⟨_, rfl⟩
  have HWV : Hid (wt V ≤ 80 ∧ wt X ≤ 80 ∧ ks.length + data.wts ks ≤ 40000) := ⟨R2.out.2, hxw, hdw⟩
  have HIT : Hid (∀ W, Below w4.heap.size w4 W → Calls Tryz.prog 7 #[.agg #[.int .i64 v0, .int .i64 v1, .string v2, .slice va vl vc]] W fun e w' => e = .returned (.string tx) ∧ Below W.heap.size W w') := fun W h => by
    rw [htx]; exact implValueText V [.int .i64 v0, .int .i64 v1, .string v2, .slice va vl vc] W (by have := HWV.out; omega) (RW.out W h).2.2.2 (valueSh.mono (Sh.bare (RW.out W h).1) fun b hS => hS.1)
  have HST : Hid (∀ W, Below w4.heap.size w4 W → Calls Tryz.prog 8 #[.agg #[.int .i64 v0, .int .i64 v1, .string v2, .slice va vl vc]] W fun e w' => e = .returned (.string tx) ∧ Below W.heap.size W w') := fun W h => by
    rw [htx]; exact specValueText V [.int .i64 v0, .int .i64 v1, .string v2, .slice va vl vc] W (by have := HWV.out; omega) (valueSh.mono (Sh.bare (RW.out W h).1) fun b hS => hS.1)
  have HIO : Hid (∀ W, Below w4.heap.size w4 W → Calls Tryz.prog 9 #[.slice la ll lc, .agg #[.int .i64 x0, .int .i64 x1, .string x2, .slice xa xl xc]] W fun e w' => e = .returned (.bool rb) ∧ Below W.heap.size W w') := fun W h => by
    rw [hrb]; exact implValueOk ks X _ [.int .i64 x0, .int .i64 x1, .string x2, .slice xa xl xc] W (by have := HWV.out; omega) (by have := HWV.out; omega) (Sh.bare (RW.out W h).2.2.1) (Sh.bare (RW.out W h).2.1)
  have HSO : Hid (∀ W, Below w4.heap.size w4 W → Calls Tryz.prog 10 #[.slice la ll lc, .agg #[.int .i64 x0, .int .i64 x1, .string x2, .slice xa xl xc]] W fun e w' => e = .returned (.bool rb) ∧ Below W.heap.size W w') := fun W h => by
    rw [hrb]; exact specValueOk ks X _ [.int .i64 x0, .int .i64 x1, .string x2, .slice xa xl xc] W (by have := HWV.out; omega) (by have := HWV.out; omega) (data.dataSh.slice.mono (Sh.bare (RW.out W h).2.2.1) fun b hS => hS.1) (valueSh.mono (Sh.bare (RW.out W h).2.1) fun b hS => hS.1)
  have HF1 : Hid (∀ W, Below w4.heap.size w4 W → Calls Tryz.prog 11 #[.agg #[.int .i64 17, .int .i64 0, .string ⟨#[]⟩, .string ⟨#[]⟩, .slice none 0 0], .agg #[.int .i64 x0, .int .i64 x1, .string x2, .slice xa xl xc]] W fun e w' => e = .returned (.bool true) ∧ Below W.heap.size W w') := fun W h => by
    have h1 := fits.implFits (.mk (17, 0, ⟨#[]⟩, ⟨#[]⟩) []) X [.int .i64 17, .int .i64 0, .string ⟨#[]⟩, .string ⟨#[]⟩, .slice none 0 0] [.int .i64 x0, .int .i64 x1, .string x2, .slice xa xl xc] W (by simp [node.wt, node.wts]; decide) (by have := HWV.out; omega) (nleaf (by omega) (by omega) (by decide) (by decide)) (Sh.bare (RW.out W h).2.1)
    rwa [fits.fitsB_true (by rw [fits.FitsP]; exact .inl rfl)] at h1
  have HF2 : Hid (∀ W, Below w4.heap.size w4 W → Calls Tryz.prog 11 #[.agg #[.int .i64 18, .int .i64 0, .string ⟨#[120]⟩, .string ⟨#[]⟩, .slice none 0 0], .agg #[.int .i64 x0, .int .i64 x1, .string x2, .slice xa xl xc]] W fun e w' => e = .returned (.bool true) ∧ Below W.heap.size W w') := fun W h => by
    have h1 := fits.implFits (.mk (18, 0, ⟨#[120]⟩, ⟨#[]⟩) []) X [.int .i64 18, .int .i64 0, .string ⟨#[120]⟩, .string ⟨#[]⟩, .slice none 0 0] [.int .i64 x0, .int .i64 x1, .string x2, .slice xa xl xc] W (by simp [node.wt, node.wts]; decide) (by have := HWV.out; omega) (nleaf (by omega) (by omega) (by decide) (by decide)) (Sh.bare (RW.out W h).2.1)
    rwa [fits.fitsB_true (by rw [fits.FitsP]; exact .inr (.inl rfl))] at h1
  have HTX : Hid (tx.toList.isEmpty = false ∨ (tx = ⟨#[]⟩ ∧ v0 = 2)) := by
    by_cases h : tl V = []
    · exact .inr ⟨by rw [htx, h]; rfl, HK.out h⟩
    · refine .inl (str_eq_no fun e => h ?_)
      rw [htx] at e
      simpa [str] using e
  have hV : w1.heap.size < w4.heap.size := by omega
  have hX : w3.heap.size < w4.heap.size := by omega
  have da0 : w4.cell? ⟨w1.heap.size, 0, none⟩ = some (.int .i64 v0) := by simp [World.cell?, P4.out.1]
  have da1 : w4.cell? ⟨w1.heap.size, 1, none⟩ = some (.int .i64 v1) := by simp [World.cell?, P4.out.1]
  have da2 : w4.cell? ⟨w1.heap.size, 2, none⟩ = some (.string v2) := by simp [World.cell?, P4.out.1]
  have da3 : w4.cell? ⟨w1.heap.size, 3, none⟩ = some (.slice va vl vc) := by simp [World.cell?, P4.out.1]
  have db0 : w4.cell? ⟨w3.heap.size, 0, none⟩ = some (.int .i64 x0) := by simp [World.cell?, P4.out.2]
  have db1 : w4.cell? ⟨w3.heap.size, 1, none⟩ = some (.int .i64 x1) := by simp [World.cell?, P4.out.2]
  have db2 : w4.cell? ⟨w3.heap.size, 2, none⟩ = some (.string x2) := by simp [World.cell?, P4.out.2]
  have db3 : w4.cell? ⟨w3.heap.size, 3, none⟩ = some (.slice xa xl xc) := by simp [World.cell?, P4.out.2]
  have KQ : Hid (Below w4.heap.size w4 w4.drew) := (Below.refl _ _).drew
  clear HX hd hdw hx hxw hb hw4 b4 z4 z3 hV2 htx hrb HWV RW R4 Q4 D4 P4 R2 P2 R1 B2 HK HL HC
  have HB4 : Hid (Below w.heap.size w w4) := B4.out
  clear B4
  have ca0 := da0
  have ca1 := da1
  have ca2 := da2
  have ca3 := da3
  have cb0 := db0
  have cb1 := db1
  have cb2 := db2
  have cb3 := db3
  go_wp2_with fail
  rw [← HW4.out]
  go_region_held3 (fun W => W.cell? ⟨w1.heap.size, 0, none⟩ = some (.int .i64 v0) ∧ W.cell? ⟨w1.heap.size, 1, none⟩ = some (.int .i64 v1) ∧ W.cell? ⟨w1.heap.size, 2, none⟩ = some (.string v2) ∧ W.cell? ⟨w1.heap.size, 3, none⟩ = some (.slice va vl vc) ∧ W.cell? ⟨w3.heap.size, 0, none⟩ = some (.int .i64 x0) ∧ W.cell? ⟨w3.heap.size, 1, none⟩ = some (.int .i64 x1) ∧ W.cell? ⟨w3.heap.size, 2, none⟩ = some (.string x2) ∧ W.cell? ⟨w3.heap.size, 3, none⟩ = some (.slice xa xl xc))
    (exact ⟨(by first | with_reducible exact ca0 | (rw [cell_drewV]; with_reducible exact ca0)), (by first | with_reducible exact ca1 | (rw [cell_drewV]; with_reducible exact ca1)), (by first | with_reducible exact ca2 | (rw [cell_drewV]; with_reducible exact ca2)), (by first | with_reducible exact ca3 | (rw [cell_drewV]; with_reducible exact ca3)), (by first | with_reducible exact cb0 | (rw [cell_drewV]; with_reducible exact cb0)), (by first | with_reducible exact cb1 | (rw [cell_drewV]; with_reducible exact cb1)), (by first | with_reducible exact cb2 | (rw [cell_drewV]; with_reducible exact cb2)), (by first | with_reducible exact cb3 | (rw [cell_drewV]; with_reducible exact cb3))⟩)
    (first
      | (go_at_call 7; refine (HIT.out _ KQ.out).mono ?_; rintro e wn ⟨rfl, hb⟩; replace KQ : Hid (Below w4.heap.size w4 wn) := KQ.out.trans (hb.mono KQ.out.size); clear hb; replace ca0 : wn.cell? ⟨w1.heap.size, 0, none⟩ = some (.int .i64 v0) := (KQ.out.cell (p := ⟨w1.heap.size, 0, none⟩) hV).trans da0; replace ca1 : wn.cell? ⟨w1.heap.size, 1, none⟩ = some (.int .i64 v1) := (KQ.out.cell (p := ⟨w1.heap.size, 1, none⟩) hV).trans da1; replace ca2 : wn.cell? ⟨w1.heap.size, 2, none⟩ = some (.string v2) := (KQ.out.cell (p := ⟨w1.heap.size, 2, none⟩) hV).trans da2; replace ca3 : wn.cell? ⟨w1.heap.size, 3, none⟩ = some (.slice va vl vc) := (KQ.out.cell (p := ⟨w1.heap.size, 3, none⟩) hV).trans da3; replace cb0 : wn.cell? ⟨w3.heap.size, 0, none⟩ = some (.int .i64 x0) := (KQ.out.cell (p := ⟨w3.heap.size, 0, none⟩) hX).trans db0; replace cb1 : wn.cell? ⟨w3.heap.size, 1, none⟩ = some (.int .i64 x1) := (KQ.out.cell (p := ⟨w3.heap.size, 1, none⟩) hX).trans db1; replace cb2 : wn.cell? ⟨w3.heap.size, 2, none⟩ = some (.string x2) := (KQ.out.cell (p := ⟨w3.heap.size, 2, none⟩) hX).trans db2; replace cb3 : wn.cell? ⟨w3.heap.size, 3, none⟩ = some (.slice xa xl xc) := (KQ.out.cell (p := ⟨w3.heap.size, 3, none⟩) hX).trans db3)
      | (go_at_call 8; refine (HST.out _ KQ.out).mono ?_; rintro e wn ⟨rfl, hb⟩; replace KQ : Hid (Below w4.heap.size w4 wn) := KQ.out.trans (hb.mono KQ.out.size); clear hb; replace ca0 : wn.cell? ⟨w1.heap.size, 0, none⟩ = some (.int .i64 v0) := (KQ.out.cell (p := ⟨w1.heap.size, 0, none⟩) hV).trans da0; replace ca1 : wn.cell? ⟨w1.heap.size, 1, none⟩ = some (.int .i64 v1) := (KQ.out.cell (p := ⟨w1.heap.size, 1, none⟩) hV).trans da1; replace ca2 : wn.cell? ⟨w1.heap.size, 2, none⟩ = some (.string v2) := (KQ.out.cell (p := ⟨w1.heap.size, 2, none⟩) hV).trans da2; replace ca3 : wn.cell? ⟨w1.heap.size, 3, none⟩ = some (.slice va vl vc) := (KQ.out.cell (p := ⟨w1.heap.size, 3, none⟩) hV).trans da3; replace cb0 : wn.cell? ⟨w3.heap.size, 0, none⟩ = some (.int .i64 x0) := (KQ.out.cell (p := ⟨w3.heap.size, 0, none⟩) hX).trans db0; replace cb1 : wn.cell? ⟨w3.heap.size, 1, none⟩ = some (.int .i64 x1) := (KQ.out.cell (p := ⟨w3.heap.size, 1, none⟩) hX).trans db1; replace cb2 : wn.cell? ⟨w3.heap.size, 2, none⟩ = some (.string x2) := (KQ.out.cell (p := ⟨w3.heap.size, 2, none⟩) hX).trans db2; replace cb3 : wn.cell? ⟨w3.heap.size, 3, none⟩ = some (.slice xa xl xc) := (KQ.out.cell (p := ⟨w3.heap.size, 3, none⟩) hX).trans db3)
      | (go_at_call 9; refine (HIO.out _ KQ.out).mono ?_; rintro e wn ⟨rfl, hb⟩; replace KQ : Hid (Below w4.heap.size w4 wn) := KQ.out.trans (hb.mono KQ.out.size); clear hb; replace ca0 : wn.cell? ⟨w1.heap.size, 0, none⟩ = some (.int .i64 v0) := (KQ.out.cell (p := ⟨w1.heap.size, 0, none⟩) hV).trans da0; replace ca1 : wn.cell? ⟨w1.heap.size, 1, none⟩ = some (.int .i64 v1) := (KQ.out.cell (p := ⟨w1.heap.size, 1, none⟩) hV).trans da1; replace ca2 : wn.cell? ⟨w1.heap.size, 2, none⟩ = some (.string v2) := (KQ.out.cell (p := ⟨w1.heap.size, 2, none⟩) hV).trans da2; replace ca3 : wn.cell? ⟨w1.heap.size, 3, none⟩ = some (.slice va vl vc) := (KQ.out.cell (p := ⟨w1.heap.size, 3, none⟩) hV).trans da3; replace cb0 : wn.cell? ⟨w3.heap.size, 0, none⟩ = some (.int .i64 x0) := (KQ.out.cell (p := ⟨w3.heap.size, 0, none⟩) hX).trans db0; replace cb1 : wn.cell? ⟨w3.heap.size, 1, none⟩ = some (.int .i64 x1) := (KQ.out.cell (p := ⟨w3.heap.size, 1, none⟩) hX).trans db1; replace cb2 : wn.cell? ⟨w3.heap.size, 2, none⟩ = some (.string x2) := (KQ.out.cell (p := ⟨w3.heap.size, 2, none⟩) hX).trans db2; replace cb3 : wn.cell? ⟨w3.heap.size, 3, none⟩ = some (.slice xa xl xc) := (KQ.out.cell (p := ⟨w3.heap.size, 3, none⟩) hX).trans db3)
      | (go_at_call 10; refine (HSO.out _ KQ.out).mono ?_; rintro e wn ⟨rfl, hb⟩; replace KQ : Hid (Below w4.heap.size w4 wn) := KQ.out.trans (hb.mono KQ.out.size); clear hb; replace ca0 : wn.cell? ⟨w1.heap.size, 0, none⟩ = some (.int .i64 v0) := (KQ.out.cell (p := ⟨w1.heap.size, 0, none⟩) hV).trans da0; replace ca1 : wn.cell? ⟨w1.heap.size, 1, none⟩ = some (.int .i64 v1) := (KQ.out.cell (p := ⟨w1.heap.size, 1, none⟩) hV).trans da1; replace ca2 : wn.cell? ⟨w1.heap.size, 2, none⟩ = some (.string v2) := (KQ.out.cell (p := ⟨w1.heap.size, 2, none⟩) hV).trans da2; replace ca3 : wn.cell? ⟨w1.heap.size, 3, none⟩ = some (.slice va vl vc) := (KQ.out.cell (p := ⟨w1.heap.size, 3, none⟩) hV).trans da3; replace cb0 : wn.cell? ⟨w3.heap.size, 0, none⟩ = some (.int .i64 x0) := (KQ.out.cell (p := ⟨w3.heap.size, 0, none⟩) hX).trans db0; replace cb1 : wn.cell? ⟨w3.heap.size, 1, none⟩ = some (.int .i64 x1) := (KQ.out.cell (p := ⟨w3.heap.size, 1, none⟩) hX).trans db1; replace cb2 : wn.cell? ⟨w3.heap.size, 2, none⟩ = some (.string x2) := (KQ.out.cell (p := ⟨w3.heap.size, 2, none⟩) hX).trans db2; replace cb3 : wn.cell? ⟨w3.heap.size, 3, none⟩ = some (.slice xa xl xc) := (KQ.out.cell (p := ⟨w3.heap.size, 3, none⟩) hX).trans db3))
  all_goals
    rcases HTX.out with hte | ⟨hte0, hv⟩
    · go_wp2_with (first
        | (go_at_call 11; refine (HF1.out _ KQ.out).mono ?_; rintro e wn ⟨rfl, hb⟩; replace KQ : Hid (Below w4.heap.size w4 wn) := KQ.out.trans (hb.mono KQ.out.size); clear hb; replace ca0 : wn.cell? ⟨w1.heap.size, 0, none⟩ = some (.int .i64 v0) := (KQ.out.cell (p := ⟨w1.heap.size, 0, none⟩) hV).trans da0; replace ca1 : wn.cell? ⟨w1.heap.size, 1, none⟩ = some (.int .i64 v1) := (KQ.out.cell (p := ⟨w1.heap.size, 1, none⟩) hV).trans da1; replace ca2 : wn.cell? ⟨w1.heap.size, 2, none⟩ = some (.string v2) := (KQ.out.cell (p := ⟨w1.heap.size, 2, none⟩) hV).trans da2; replace ca3 : wn.cell? ⟨w1.heap.size, 3, none⟩ = some (.slice va vl vc) := (KQ.out.cell (p := ⟨w1.heap.size, 3, none⟩) hV).trans da3; replace cb0 : wn.cell? ⟨w3.heap.size, 0, none⟩ = some (.int .i64 x0) := (KQ.out.cell (p := ⟨w3.heap.size, 0, none⟩) hX).trans db0; replace cb1 : wn.cell? ⟨w3.heap.size, 1, none⟩ = some (.int .i64 x1) := (KQ.out.cell (p := ⟨w3.heap.size, 1, none⟩) hX).trans db1; replace cb2 : wn.cell? ⟨w3.heap.size, 2, none⟩ = some (.string x2) := (KQ.out.cell (p := ⟨w3.heap.size, 2, none⟩) hX).trans db2; replace cb3 : wn.cell? ⟨w3.heap.size, 3, none⟩ = some (.slice xa xl xc) := (KQ.out.cell (p := ⟨w3.heap.size, 3, none⟩) hX).trans db3)
        | (go_at_call 11; refine (HF2.out _ KQ.out).mono ?_; rintro e wn ⟨rfl, hb⟩; replace KQ : Hid (Below w4.heap.size w4 wn) := KQ.out.trans (hb.mono KQ.out.size); clear hb; replace ca0 : wn.cell? ⟨w1.heap.size, 0, none⟩ = some (.int .i64 v0) := (KQ.out.cell (p := ⟨w1.heap.size, 0, none⟩) hV).trans da0; replace ca1 : wn.cell? ⟨w1.heap.size, 1, none⟩ = some (.int .i64 v1) := (KQ.out.cell (p := ⟨w1.heap.size, 1, none⟩) hV).trans da1; replace ca2 : wn.cell? ⟨w1.heap.size, 2, none⟩ = some (.string v2) := (KQ.out.cell (p := ⟨w1.heap.size, 2, none⟩) hV).trans da2; replace ca3 : wn.cell? ⟨w1.heap.size, 3, none⟩ = some (.slice va vl vc) := (KQ.out.cell (p := ⟨w1.heap.size, 3, none⟩) hV).trans da3; replace cb0 : wn.cell? ⟨w3.heap.size, 0, none⟩ = some (.int .i64 x0) := (KQ.out.cell (p := ⟨w3.heap.size, 0, none⟩) hX).trans db0; replace cb1 : wn.cell? ⟨w3.heap.size, 1, none⟩ = some (.int .i64 x1) := (KQ.out.cell (p := ⟨w3.heap.size, 1, none⟩) hX).trans db1; replace cb2 : wn.cell? ⟨w3.heap.size, 2, none⟩ = some (.string x2) := (KQ.out.cell (p := ⟨w3.heap.size, 2, none⟩) hX).trans db2; replace cb3 : wn.cell? ⟨w3.heap.size, 3, none⟩ = some (.slice xa xl xc) := (KQ.out.cell (p := ⟨w3.heap.size, 3, none⟩) hX).trans db3)
        | (go_at_call 7; refine (HIT.out _ KQ.out).mono ?_; rintro e wn ⟨rfl, hb⟩; replace KQ : Hid (Below w4.heap.size w4 wn) := KQ.out.trans (hb.mono KQ.out.size); clear hb; replace ca0 : wn.cell? ⟨w1.heap.size, 0, none⟩ = some (.int .i64 v0) := (KQ.out.cell (p := ⟨w1.heap.size, 0, none⟩) hV).trans da0; replace ca1 : wn.cell? ⟨w1.heap.size, 1, none⟩ = some (.int .i64 v1) := (KQ.out.cell (p := ⟨w1.heap.size, 1, none⟩) hV).trans da1; replace ca2 : wn.cell? ⟨w1.heap.size, 2, none⟩ = some (.string v2) := (KQ.out.cell (p := ⟨w1.heap.size, 2, none⟩) hV).trans da2; replace ca3 : wn.cell? ⟨w1.heap.size, 3, none⟩ = some (.slice va vl vc) := (KQ.out.cell (p := ⟨w1.heap.size, 3, none⟩) hV).trans da3; replace cb0 : wn.cell? ⟨w3.heap.size, 0, none⟩ = some (.int .i64 x0) := (KQ.out.cell (p := ⟨w3.heap.size, 0, none⟩) hX).trans db0; replace cb1 : wn.cell? ⟨w3.heap.size, 1, none⟩ = some (.int .i64 x1) := (KQ.out.cell (p := ⟨w3.heap.size, 1, none⟩) hX).trans db1; replace cb2 : wn.cell? ⟨w3.heap.size, 2, none⟩ = some (.string x2) := (KQ.out.cell (p := ⟨w3.heap.size, 2, none⟩) hX).trans db2; replace cb3 : wn.cell? ⟨w3.heap.size, 3, none⟩ = some (.slice xa xl xc) := (KQ.out.cell (p := ⟨w3.heap.size, 3, none⟩) hX).trans db3))
      all_goals
        go_ret
        exact ⟨rfl, HB4.out.trans (KQ.out.mono HB4.out.size)⟩
    · have HV : Hid (v0 = 2) := hv
      have hte : tx.toList.isEmpty = true := by rw [hte0]; simp [ByteArray.toList_eq]
      clear hv hte0
      go_wp2_with (first
        | (go_at_call 11; refine (HF1.out _ KQ.out).mono ?_; rintro e wn ⟨rfl, hb⟩; replace KQ : Hid (Below w4.heap.size w4 wn) := KQ.out.trans (hb.mono KQ.out.size); clear hb; replace ca0 : wn.cell? ⟨w1.heap.size, 0, none⟩ = some (.int .i64 v0) := (KQ.out.cell (p := ⟨w1.heap.size, 0, none⟩) hV).trans da0; replace ca1 : wn.cell? ⟨w1.heap.size, 1, none⟩ = some (.int .i64 v1) := (KQ.out.cell (p := ⟨w1.heap.size, 1, none⟩) hV).trans da1; replace ca2 : wn.cell? ⟨w1.heap.size, 2, none⟩ = some (.string v2) := (KQ.out.cell (p := ⟨w1.heap.size, 2, none⟩) hV).trans da2; replace ca3 : wn.cell? ⟨w1.heap.size, 3, none⟩ = some (.slice va vl vc) := (KQ.out.cell (p := ⟨w1.heap.size, 3, none⟩) hV).trans da3; replace cb0 : wn.cell? ⟨w3.heap.size, 0, none⟩ = some (.int .i64 x0) := (KQ.out.cell (p := ⟨w3.heap.size, 0, none⟩) hX).trans db0; replace cb1 : wn.cell? ⟨w3.heap.size, 1, none⟩ = some (.int .i64 x1) := (KQ.out.cell (p := ⟨w3.heap.size, 1, none⟩) hX).trans db1; replace cb2 : wn.cell? ⟨w3.heap.size, 2, none⟩ = some (.string x2) := (KQ.out.cell (p := ⟨w3.heap.size, 2, none⟩) hX).trans db2; replace cb3 : wn.cell? ⟨w3.heap.size, 3, none⟩ = some (.slice xa xl xc) := (KQ.out.cell (p := ⟨w3.heap.size, 3, none⟩) hX).trans db3)
        | (go_at_call 11; refine (HF2.out _ KQ.out).mono ?_; rintro e wn ⟨rfl, hb⟩; replace KQ : Hid (Below w4.heap.size w4 wn) := KQ.out.trans (hb.mono KQ.out.size); clear hb; replace ca0 : wn.cell? ⟨w1.heap.size, 0, none⟩ = some (.int .i64 v0) := (KQ.out.cell (p := ⟨w1.heap.size, 0, none⟩) hV).trans da0; replace ca1 : wn.cell? ⟨w1.heap.size, 1, none⟩ = some (.int .i64 v1) := (KQ.out.cell (p := ⟨w1.heap.size, 1, none⟩) hV).trans da1; replace ca2 : wn.cell? ⟨w1.heap.size, 2, none⟩ = some (.string v2) := (KQ.out.cell (p := ⟨w1.heap.size, 2, none⟩) hV).trans da2; replace ca3 : wn.cell? ⟨w1.heap.size, 3, none⟩ = some (.slice va vl vc) := (KQ.out.cell (p := ⟨w1.heap.size, 3, none⟩) hV).trans da3; replace cb0 : wn.cell? ⟨w3.heap.size, 0, none⟩ = some (.int .i64 x0) := (KQ.out.cell (p := ⟨w3.heap.size, 0, none⟩) hX).trans db0; replace cb1 : wn.cell? ⟨w3.heap.size, 1, none⟩ = some (.int .i64 x1) := (KQ.out.cell (p := ⟨w3.heap.size, 1, none⟩) hX).trans db1; replace cb2 : wn.cell? ⟨w3.heap.size, 2, none⟩ = some (.string x2) := (KQ.out.cell (p := ⟨w3.heap.size, 2, none⟩) hX).trans db2; replace cb3 : wn.cell? ⟨w3.heap.size, 3, none⟩ = some (.slice xa xl xc) := (KQ.out.cell (p := ⟨w3.heap.size, 3, none⟩) hX).trans db3)
        | (go_at_call 7; refine (HIT.out _ KQ.out).mono ?_; rintro e wn ⟨rfl, hb⟩; replace KQ : Hid (Below w4.heap.size w4 wn) := KQ.out.trans (hb.mono KQ.out.size); clear hb; replace ca0 : wn.cell? ⟨w1.heap.size, 0, none⟩ = some (.int .i64 v0) := (KQ.out.cell (p := ⟨w1.heap.size, 0, none⟩) hV).trans da0; replace ca1 : wn.cell? ⟨w1.heap.size, 1, none⟩ = some (.int .i64 v1) := (KQ.out.cell (p := ⟨w1.heap.size, 1, none⟩) hV).trans da1; replace ca2 : wn.cell? ⟨w1.heap.size, 2, none⟩ = some (.string v2) := (KQ.out.cell (p := ⟨w1.heap.size, 2, none⟩) hV).trans da2; replace ca3 : wn.cell? ⟨w1.heap.size, 3, none⟩ = some (.slice va vl vc) := (KQ.out.cell (p := ⟨w1.heap.size, 3, none⟩) hV).trans da3; replace cb0 : wn.cell? ⟨w3.heap.size, 0, none⟩ = some (.int .i64 x0) := (KQ.out.cell (p := ⟨w3.heap.size, 0, none⟩) hX).trans db0; replace cb1 : wn.cell? ⟨w3.heap.size, 1, none⟩ = some (.int .i64 x1) := (KQ.out.cell (p := ⟨w3.heap.size, 1, none⟩) hX).trans db1; replace cb2 : wn.cell? ⟨w3.heap.size, 2, none⟩ = some (.string x2) := (KQ.out.cell (p := ⟨w3.heap.size, 2, none⟩) hX).trans db2; replace cb3 : wn.cell? ⟨w3.heap.size, 3, none⟩ = some (.slice xa xl xc) := (KQ.out.cell (p := ⟨w3.heap.size, 3, none⟩) hX).trans db3))
      all_goals
        go_ret
        exact ⟨by rw [HV.out]; rfl, HB4.out.trans (KQ.out.mono HB4.out.size)⟩

theorem cell_lt {w : World} {b o : Nat} {v : Value} (h : w.cell? ⟨b, o, none⟩ = some v) : b < w.heap.size := by
  rcases Nat.lt_or_ge b w.heap.size with h' | h'
  · exact h'
  · simp [World.cell?, Array.getElem?_eq_none h'] at h

theorem walk (a : Option Addr) (len cap : Nat) (zs : List Int) (w : World) (hL : Tab w)
    (hr : (a = none ∧ len = 0 ∧ cap = 0 ∧ zs = []) ∨ ∃ x, a = some x ∧ len ≤ cap ∧ cap ≤ maxLen ∧ zs.length = cap ∧ (∀ i, i < zs.length → w.cell? (x.add i) = some (.int .u8 (zs.getD i 0))) ∧ ∀ n ∈ zs, (Lit.int .u8 n).wf = true) :
    Calls Tryz.prog 3 #[.slice a len cap] w fun e w' => e = .returned (.bool true) ∧ Below w.heap.size w w' := by
  by_cases hl : len ≤ 1048576
  · refine walk_small a len cap w ⟨hl, fun h0 => ?_⟩ hL
    rcases hr with ⟨_, h, _, _⟩ | ⟨x, rfl, hlc, hm, hz, hcell, hwz⟩
    · omega
    · obtain ⟨b, off, spot⟩ := x
      have hc := hcell 0 (by omega)
      have hspot : spot = none := by simpa [Addr.add] using World.cell?_spot hc
      subst hspot
      have hc' : ∀ j, j < len → w.cell? ⟨b, off + j, none⟩ = some (.int .u8 (zs.getD j 0)) := fun j hj => by
        have := hcell j (by omega)
        rwa [Lib.add_plain] at this
      refine ⟨b, off, rfl, cell_lt (hc' 0 h0), fun j hj => ⟨zs.getD j 0, hc' j hj, ?_⟩⟩
      have hmem : zs.getD j 0 ∈ zs := by
        rw [List.getD_eq_getElem?_getD, List.getElem?_eq_getElem (by omega)]
        exact List.getElem_mem _
      exact bounds_u8 (hwz _ hmem)
  · refine walk_big a len cap (by omega) ?_ w
    rcases hr with ⟨_, h, _, _⟩ | ⟨x, rfl, hlc, hm, hz, hcell, hwz⟩
    · omega
    · unfold maxLen at hm; omega

/-- WHAT THE WALKS GIVE, FOR EVERY ARGUMENT AND EVERY WORLD THAT HOLDS WHAT IS LISTED. -/
theorem contract (H : Type) (enc : TypeId × Value → H) (W : World) (base : Nat) (args : Array Value) (ds gs : List (DataW H)) (before : List MemPlace)
    (hval : ∀ (j : Nat) t v, Tryz.f3.params[j]? = some t → args[j]? = some v → Value.okWide Tryz.prog W .any base t v)
    (hW : DataW.Whole enc Tryz.prog Tryz.f3.params.toList Rows.fnValuesSpec.vars false W args.toList ds gs before) (hL : laidMetH Tryz.prog Rows.fnValuesRow.laid W) :
    Calls Tryz.prog 3 args W fun e W' => ∃ v, e = .returned v ∧ Rows.fnValuesSpec.post enc Tryz.prog Tryz.f3 false true false false W args v W' := by
  have hW' := hW
  obtain ⟨p, q, hA0, hV, rfl, hfz, hnd⟩ := hW
  have hA : DataW.TrodAll enc Tryz.prog W 0 (fun _ => true) true Tryz.f3.params.toList args.toList ds p := hA0
  rw [Tryz.params3] at hA hval
  obtain ⟨v0, vs0, d0, ds0, p0, q0, hargs, rfl, rfl, h0, r0⟩ := trodAll_cons hA
  obtain ⟨rfl, rfl, rfl⟩ := trodAll_nil r0
  obtain rfl : args = #[v0] := by cases args; simp_all
  obtain ⟨rfl, rfl⟩ := trodVars_none hV
  obtain ⟨a0, len0, cap0, rfl⟩ := okWide_slice Tryz.underlying22 (hval 0 22 v0 rfl rfl)
  have k0 := h0
  have lt0 : ∀ x ∈ p0, x.block < W.heap.size := by obtain ⟨m, hm⟩ := k0; exact DataW.trod_lt m _ _ _ hm
  obtain ⟨z0, w0⟩ : ∃ zs : List Int, (a0 = none ∧ len0 = 0 ∧ cap0 = 0 ∧ zs = []) ∨ ∃ x, a0 = some x ∧ len0 ≤ cap0 ∧ cap0 ≤ maxLen ∧ zs.length = cap0 ∧ (∀ i, i < zs.length → W.cell? (x.add i) = some (.int .u8 (zs.getD i 0))) ∧ ∀ n ∈ zs, (Lit.int .u8 n).wf = true := by
    obtain ⟨fuel, hf⟩ := h0
    rcases open_ints Tryz.underlying22 Tryz.underlying5 (by kernel_rfl) hf with ⟨hcs, _⟩ | ⟨x, l, c, zs, hcs, _, hl, hm, hz, _, hcell, hwz⟩
    · simp [Value.cells] at hcs
      obtain ⟨rfl, rfl, rfl⟩ := hcs
      exact ⟨[], .inl ⟨rfl, rfl, rfl, rfl⟩⟩
    · simp [Value.cells] at hcs
      obtain ⟨rfl, rfl, rfl⟩ := hcs
      exact ⟨zs, .inr ⟨_, rfl, hl, hm, by simpa using hz, hcell, hwz⟩⟩
  clear hA0
  refine (walk a0 len0 cap0 z0 W (laid hL) w0).mono fun e W' ⟨he, bel⟩ => ?_
  subst he
  exact ⟨_, rfl, _, _, _, [], _, [], hW', trodAll_mk1 (shut_bool Tryz.underlying4 _), (trodAll_cons_mk (Below.trod laidOut (by kernel_rfl) (of_decide_eq_true (by kernel_rfl)) k0 bel lt0) trodAll_mk0), rfl, bel.frame _, fun h => by cases h⟩

/-- A WORLD FOR THE WITNESS: the one that the program's own start leaves. -/
theorem laid_met (os : Os) : laidMet Tryz.prog Rows.fnValuesRow.laid ((World.doorLaid Tryz.prog 24 os).forCall (fun _ _ => 0) ⟨#[], #[.slice none 0 0], []⟩).memory :=
  laidMet_of_run' 8 (by kernel_rfl) (by kernel_rfl)
theorem reads (os : Os) {H : Type} (enc : TypeId × Value → H) : ∃ places, DataW.whole enc Tryz.prog ((World.doorLaid Tryz.prog 24 os).forCall (fun _ _ => 0) ⟨#[], #[.slice none 0 0], []⟩).memory Tryz.f3.params.toList Rows.fnValuesSpec.vars false #[Value.slice none 0 0].toList 8 = some ([.nil], [], places) :=
  ⟨[], by kernel_rfl⟩

set_option maxRecDepth 100000 in
theorem lifted (os : Os) (started : os.Started) (H : Type) (enc : TypeId × Value → H) (F : Stop.Interp) :
    ReturnsInHanded {} Tryz.checked os 3 .any ((OpenSpec.ofChange Rows.fnValuesSpec).preRow enc Tryz.prog Tryz.f3 Rows.fnValuesRow.domain false Rows.fnValuesRow.laid) (((OpenSpec.ofChange Rows.fnValuesSpec).at F).post enc Tryz.prog Tryz.f3 false true false false) := by
  obtain ⟨places, hx⟩ := reads os enc
  refine returnsInHanded_of_row (C := Tryz.checked) (s := OpenSpec.ofChange Rows.fnValuesSpec) own started (by kernel_rfl) Tryz.func3
    (witness_row_at (enc := enc) (C := Tryz.checked) false (World.doorLaid Tryz.prog 24 os) #[.slice none 0 0] rfl (by kernel_rfl) (by kernel_rfl) (by kernel_rfl)
      (OpenSpec.preRow_of_cond 8 hx (by kernel_rfl) (fun k hk => by cases hk) (by kernel_rfl) (laid_met os))) ?_
  intro W base args ds gs before hval hW _ _ _ hL _ _
  exact contract H enc W base args ds gs before hval hW hL

theorem said : Rows.FnValuesSaid :=
  OpenClaim.holds_of_cond 3 Tryz.f3 rfl rfl rfl rfl rfl rfl rfl ⟨rfl, rfl, rfl, rfl, rfl⟩ rfl rfl rfl rfl rfl (by kernel_rfl) Tryz.func3 (by kernel_rfl)
    (of_decide_eq_true (by kernel_rfl)) (by unfold Func.isWrapper; first | (rw [if_pos (by decide +kernel)]; kernel_rfl) | (rw [if_neg (by decide +kernel)]; exact ⟨rfl, rfl⟩))
    (fun os started H enc _ F => by rw [OpenClaim.pre_eq_preRow]; exact lifted os started H enc F)

theorem plain (f : FuncId) (fn : Func) (hf : Tryz.pinned.checked.prog.funcNamed "loop.example/g00323/laws.FnValues" = some f) (hfn : Tryz.pinned.checked.prog.funcs[f]? = some fn) :
    true = Tryz.pinned.checked.prog.looks [] ∧ ∀ (j : Nat) t, fn.params[j]? = some t → Tryz.pinned.checked.prog.wantsStandIn t = false := by
  obtain rfl : f = 3 := Option.some.inj ((show Tryz.prog.funcNamed "loop.example/g00323/laws.FnValues" = some 3 by kernel_rfl).symm.trans hf) |>.symm
  obtain rfl : fn = Tryz.f3 := (Option.some.inj (Tryz.func3.symm.trans hfn)).symm
  refine ⟨by kernel_rfl, fun j t ht => ?_⟩
  rw [Tryz.params3] at ht
  obtain rfl : t = 22 := by simpa using Array.mem_of_getElem? ht
  exact (show Tryz.prog.wantsStandIn 22 = false by kernel_rfl)

/-- THE CARD. -/
theorem card : Rows.FnValuesCardSaid :=
  Claim7.holds_tied_plain_at .later [] _ _ _ _ said (fun _ h => by cases h) (by kernel_rfl) (fun _ h => by cases h) fnValues_row_tie rfl ⟨rfl, rfl⟩ (by kernel_rfl) rfl plain (by kernel_rfl)
#print axioms card
end Go.Proofs.YtlnpfnglphdaiaaGreatDoor.fnValues
