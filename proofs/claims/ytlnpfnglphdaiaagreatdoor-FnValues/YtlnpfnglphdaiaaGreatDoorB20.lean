/-
  The model's l3Sum, from what l3Product says.
-/
import Derived.Test.YtlnpfnglphdaiaaGreatDoorB1
import Derived.Test.YtlnpfnglphdaiaaGreatDoorB2
import Derived.Test.YtlnpfnglphdaiaaGreatDoorB3
import Derived.Test.YtlnpfnglphdaiaaGreatDoorB4
import Derived.Test.YtlnpfnglphdaiaaGreatDoorB5
import Derived.Test.YtlnpfnglphdaiaaGreatDoorB6
import Derived.Test.YtlnpfnglphdaiaaGreatDoorB7
import Derived.Test.YtlnpfnglphdaiaaGreatDoorB8
import Derived.Test.YtlnpfnglphdaiaaGreatDoorB9
import Derived.Test.YtlnpfnglphdaiaaGreatDoorB10
import Derived.Test.YtlnpfnglphdaiaaGreatDoorB11
import Derived.Test.YtlnpfnglphdaiaaGreatDoorB12
import Derived.Test.YtlnpfnglphdaiaaGreatDoorB13
import Derived.Test.YtlnpfnglphdaiaaGreatDoorB14
import Derived.Test.YtlnpfnglphdaiaaGreatDoorB15
import Derived.Test.YtlnpfnglphdaiaaGreatDoorB16
import Derived.Test.YtlnpfnglphdaiaaGreatDoorB17
import Derived.Test.YtlnpfnglphdaiaaGreatDoorB18
import Derived.Test.YtlnpfnglphdaiaaGreatDoorB19
namespace Go.Proofs.YtlnpfnglphdaiaaGreatDoor.tok
open Go Go.RowKit Go.Deep Go.Proofs.YtlnpfnglphdaiaaGreatDoor.rose Go.Proofs.YtlnpfnglphdaiaaGreatDoor
set_option linter.unusedVariables false
set_option linter.unusedSimpArgs false

set_option maxRecDepth 100000 in
set_option maxHeartbeats 8000000 in
theorem sum_of (E : Env) (N : Nat) (HE : ∀ w at_ bad, St E w at_ bad → E.toks.length - at_ ≤ N → Calls Tryz.prog 99 #[.pointer (some ⟨E.cb, 0, none⟩)] w (Nodes E w at_ bad))
    (w : World) (at_ : Nat) (bad : Int) (h : St E w at_ bad) (hN : E.toks.length - at_ ≤ N) :
    Calls Tryz.prog 88 #[.pointer (some ⟨E.cb, 0, none⟩)] w (Nodes E w at_ bad) := by
  have HEE : Hid (∀ w at_ bad, St E w at_ bad → E.toks.length - at_ ≤ N → Calls Tryz.prog 99 #[.pointer (some ⟨E.cb, 0, none⟩)] w (Nodes E w at_ bad)) := HE
  have HS : Hid (St E w at_ bad) := h
  have HLT : Hid (E.toks.length - at_ ≤ N) := hN
  obtain ⟨w0, hw0⟩ : ∃ w0, w0 = w.alloc (.cells #[.int .i64 0, .int .i64 0, .string ⟨#[]⟩, .string ⟨#[]⟩, .slice none 0 0] 36) := ⟨_, rfl⟩
  have HW0 : Hid (w0 = w.alloc (.cells #[.int .i64 0, .int .i64 0, .string ⟨#[]⟩, .string ⟨#[]⟩, .slice none 0 0] 36)) := hw0
  have HX := HE w0 at_ bad (h.on (by rw [hw0]; exact (Below.refl _ _).alloc (Nat.le_refl _) _)) hN
  clear hw0 HE h hN
  go_enter Tryz.func88, Tryz.ntmps88
  go_wp2_with fail
  rw [← HW0.out]
  refine HX.mono ?_
  rintro e w1 ⟨at1, bad1, cs, T1, rfl, hrep, S1, g1, hle1, hx1⟩
  obtain ⟨z0, z1, z2, z3, za, zc, zk, hTT, rfl, -, -, -⟩ := node.nd_open hrep
  clear hTT
  have P2 : Hid (Pr E w (w1.alloc (.cells #[.int .i64 z0, .int .i64 z1, .string z2, .string z3, .slice za zk.length zc] 36)) w1.heap.size [.int .i64 z0, .int .i64 z1, .string z2, .string z3, .slice za zk.length zc] T1 at_ bad at1 bad1) := Pr.first HW0.out HS.out hrep S1 g1 hle1 hx1 rfl
  clear HX hrep S1 g1 hle1 hx1
  go_wp2
  go_loopw [8] (fun _ wr => ∃ (x0 x1 : Int) (x2 x3 : ByteArray) (xa : Option Addr) (xl xc : Nat) (T : node.Nd) (at' : Nat) (bad' : Int), Hid (Pr E w wr w1.heap.size [.int .i64 x0, .int .i64 x1, .string x2, .string x3, .slice xa xl xc] T at_ bad at' bad')) (fun _ wr => msr E wr)
  case atStart => exact ⟨z0, z1, z2, z3, za, zk.length, zc, T1, at1, bad1, P2⟩
  case round =>
    clear P2
    obtain ⟨x0, x1, x2, x3, xa, xl, xc, T, at', bad', HP⟩ := hrel
    have HM : Hid (msr E wr = 2 * (E.toks.length - at') + (if bad' < 0 then 1 else 0)) := HP.out.st.msr
    have HX := sign3_any E wr at' bad' HP.out.st ⟨#[43]⟩
    go_wp2_with fail
    refine HX.mono ?_
    rintro e w3 ⟨⟨b, rfl, hb⟩, hB⟩
    have P3 : Hid (Pr E w w3 w1.heap.size [.int .i64 x0, .int .i64 x1, .string x2, .string x3, .slice xa xl xc] T at_ bad at' bad') := HP.out.step (grown_none _ hB) (HP.out.st.on hB) (Nat.le_refl _) (.inr rfl)
    clear hB HX
    cases b with
    | false =>
      clear hb
      have HX := sign3_any E w3 at' bad' P3.out.st ⟨#[45]⟩
      go_wp2_with fail
      refine HX.mono ?_
      rintro e wa ⟨⟨b, rfl, hb⟩, hB⟩
      have PA : Hid (Pr E w wa w1.heap.size [.int .i64 x0, .int .i64 x1, .string x2, .string x3, .slice xa xl xc] T at_ bad at' bad') := P3.out.step (grown_none _ hB) (P3.out.st.on hB) (Nat.le_refl _) (.inr rfl)
      clear hB HX
      cases b with
      | false =>
        clear hb HM
        have y0 : wa.cell? ⟨w1.heap.size, 0, none⟩ = some (.int .i64 x0) := blk_cellP (i := 0) PA.out.acc rfl
        have y1 : wa.cell? ⟨w1.heap.size, 1, none⟩ = some (.int .i64 x1) := blk_cellP (i := 1) PA.out.acc rfl
        have y2 : wa.cell? ⟨w1.heap.size, 2, none⟩ = some (.string x2) := blk_cellP (i := 2) PA.out.acc rfl
        have y3 : wa.cell? ⟨w1.heap.size, 3, none⟩ = some (.string x3) := blk_cellP (i := 3) PA.out.acc rfl
        have y4 : wa.cell? ⟨w1.heap.size, 4, none⟩ = some (.slice xa xl xc) := blk_cellP (i := 4) PA.out.acc rfl
        have r0 : wa.cell? ⟨w.heap.size, 0, none⟩ = some (.int .i64 0) := blk_cellP (i := 0) PA.out.res rfl
        have r1 : wa.cell? ⟨w.heap.size, 1, none⟩ = some (.int .i64 0) := blk_cellP (i := 1) PA.out.res rfl
        have r2 : wa.cell? ⟨w.heap.size, 2, none⟩ = some (.string ⟨#[]⟩) := blk_cellP (i := 2) PA.out.res rfl
        have r3 : wa.cell? ⟨w.heap.size, 3, none⟩ = some (.string ⟨#[]⟩) := blk_cellP (i := 3) PA.out.res rfl
        have r4 : wa.cell? ⟨w.heap.size, 4, none⟩ = some (.slice none 0 0) := blk_cellP (i := 4) PA.out.res rfl
        have fr : ∀ o, wa.frozen? ⟨w.heap.size, o, none⟩ = false := fun o => blk_freeP PA.out.res
        go_wp2
        refine bodyPost_ret (v := .agg #[.int .i64 x0, .int .i64 x1, .string x2, .string x3, .slice xa xl xc]) (by simp [results, Tryz.f88, go_sem, r0, r1, r2, r3, r4]) rfl ?_
        refine PA.out.done ?_
        repeat first | exact grown_self _ _ | (refine grown_by_by ?_ (grown_setP _ _ _ _))
      | true =>
        have HBD : Hid (bad' < 0 ∧ at' + 1 < E.toks.length) := hb rfl
        clear hb
        have HX := sign3_any E wa at' bad' PA.out.st ⟨#[45]⟩
        go_wp2_with fail
        refine HX.mono ?_
        rintro e wb ⟨⟨b, rfl, -⟩, hB⟩
        have PB : Hid (Pr E w wb w1.heap.size [.int .i64 x0, .int .i64 x1, .string x2, .string x3, .slice xa xl xc] T at_ bad at' bad') := PA.out.step (grown_none _ hB) (PA.out.st.on hB) (Nat.le_refl _) (.inr rfl)
        clear hB HX
        cases b with
        | false =>
          have HX := next_any E wb at' bad' PB.out.st HBD.out.2
          go_wp2_with fail
          refine HX.mono ?_
          rintro e w4 ⟨rfl, S4, g4⟩
          have P4 : Hid (Pr E w w4 w1.heap.size [.int .i64 x0, .int .i64 x1, .string x2, .string x3, .slice xa xl xc] T at_ bad (at' + 1) bad') := PB.out.step g4 S4 (Nat.le_succ _) (.inr rfl)
          clear S4 g4 HX
          have HX := HEE.out w4 (at' + 1) bad' P4.out.st (by have := HLT.out; have := P4.out.le; omega)
          go_wp2_with fail
          refine HX.mono ?_
          rintro e w5 ⟨at5, bad5, cs, T2, rfl, hrep, S5, g5, hle5, hx5⟩
          obtain ⟨u0, u1, u2, u3, ua, uc, uk, hTT, rfl, -, -, -⟩ := node.nd_open hrep
          clear hTT
          obtain ⟨w6, hw6⟩ : ∃ w6, w6 = w5.alloc (.cells #[.int .i64 u0, .int .i64 u1, .string u2, .string u3, .slice ua uk.length uc] 36) := ⟨_, rfl⟩
          have HW6 : Hid (w6 = w5.alloc (.cells #[.int .i64 u0, .int .i64 u1, .string u2, .string u3, .slice ua uk.length uc] 36)) := hw6
          have b6 : Below w5.heap.size w5 w6 := by rw [hw6]; exact (Below.refl _ _).alloc (Nat.le_refl _) _
          have hz6 : w6.heap.size = w5.heap.size + 1 := by rw [hw6]; simp
          have hd5 : 0 ≤ bad5 ∨ bad5 = bad' := by
            rcases hx5 with h | ⟨h, -⟩
            · exact .inl h
            · exact .inr h
          have P6 : Hid (Pr E w w6 w1.heap.size [.int .i64 x0, .int .i64 x1, .string x2, .string x3, .slice xa xl xc] T at_ bad at5 bad5) := (P4.out.step g5 S5 hle5 hd5).step (grown_none _ b6) (S5.on b6) (Nat.le_refl _) (.inr rfl)
          have hab4 := P4.out.ablt
          have hwb := P4.out.ab
          have hz5 := g5.size
          have A6 : Hid (w6.heap[w5.heap.size]? = some (.cells #[.int .i64 u0, .int .i64 u1, .string u2, .string u3, .slice ua uk.length uc] 36)) := by show _ = _; rw [hw6]; exact alloc_top _ _
          obtain ⟨w7, hw7⟩ : ∃ w7, w7 = w6.alloc (.cells #[.int .i64 x0, .int .i64 x1, .string x2, .string x3, .slice xa xl xc, .int .i64 u0, .int .i64 u1, .string u2, .string u3, .slice ua uk.length uc] 36) := ⟨_, rfl⟩
          have HW7 : Hid (w7 = w6.alloc (.cells #[.int .i64 x0, .int .i64 x1, .string x2, .string x3, .slice xa xl xc, .int .i64 u0, .int .i64 u1, .string u2, .string u3, .slice ua uk.length uc] 36)) := hw7
          have b7 : Below w6.heap.size w6 w7 := by rw [hw7]; exact (Below.refl _ _).alloc (Nat.le_refl _) _
          have hz7 : w7.heap.size = w6.heap.size + 1 := by rw [hw7]; simp
          have P7 : Hid (Pr E w w7 w1.heap.size [.int .i64 x0, .int .i64 x1, .string x2, .string x3, .slice xa xl xc] T at_ bad at5 bad5) := P6.out.step (grown_none _ b7) (P6.out.st.on b7) (Nat.le_refl _) (.inr rfl)
          have R7 := pair_rep (W := w7) (S := fun b => w.heap.size < b ∧ b < w7.heap.size ∧ b ≠ w1.heap.size) (by rw [hw7]; exact alloc_top _ _) ⟨by omega, by omega, by omega⟩ P7.out.rep (node.ndSh.mono (node.ndSh.on (node.ndSh.on hrep fun b hS => b6.block b hS.2) fun b hS => b7.block b (by omega)) fun b hS => ⟨by omega, by omega, by omega⟩)
          have HN := node3_any 10 (by omega) [T, T2] w6.heap.size 0 2 w7 _ (fun b hS => hS.2.1) (by simp) R7
          have HWT : Hid (0 ≤ bad5 ∨ (bad5 = bad ∧ at_ < at5 ∧ node.wt (.mk (10, 0, ⟨#[]⟩, ⟨#[]⟩) [T, T2]) + 2 ≤ 10 * (at5 - at_))) := by
            rcases hx5 with h5 | ⟨e5, h5, h5'⟩
            · exact .inl h5
            · rcases P4.out.hx with h4 | ⟨e4, h4, h4'⟩
              · exact .inl (by omega)
              · refine .inr ⟨by omega, by omega, ?_⟩
                rcases PB.out.hx with h3 | ⟨e3, h3, h3'⟩
                · have := HBD.out.1; omega
                · rw [pair_wt]
                  omega
          have HM5 : Hid (at' + 1 ≤ at5) := hle5
          have y0 : w6.cell? ⟨w1.heap.size, 0, none⟩ = some (.int .i64 x0) := blk_cellP (i := 0) P6.out.acc rfl
          have y1 : w6.cell? ⟨w1.heap.size, 1, none⟩ = some (.int .i64 x1) := blk_cellP (i := 1) P6.out.acc rfl
          have y2 : w6.cell? ⟨w1.heap.size, 2, none⟩ = some (.string x2) := blk_cellP (i := 2) P6.out.acc rfl
          have y3 : w6.cell? ⟨w1.heap.size, 3, none⟩ = some (.string x3) := blk_cellP (i := 3) P6.out.acc rfl
          have y4 : w6.cell? ⟨w1.heap.size, 4, none⟩ = some (.slice xa xl xc) := blk_cellP (i := 4) P6.out.acc rfl
          rw [hw6] at y0 y1 y2 y3 y4
          clear HX hrep S5 g5 hle5 hx5 hd5 hw7 b7 R7 b6 hw6
          go_wp2_with fail
          rw [← HW6.out, ← HW7.out]
          rw [hz6] at HN
          refine HN.mono ?_
          rintro e w8 ⟨⟨cs3, rfl, hrep3⟩, hB8⟩
          obtain ⟨v0, v1, v2, v3, va, vc, vk, hTT, rfl, -, -, -⟩ := node.nd_open hrep3
          clear hTT
          have P8 : Hid (Pr E w w8 w1.heap.size [.int .i64 x0, .int .i64 x1, .string x2, .string x3, .slice xa xl xc] T at_ bad at5 bad5) := P7.out.step (grown_none _ hB8) (P7.out.st.on hB8) (Nat.le_refl _) (.inr rfl)
          have R8 : Hid (node.ndSh.rep w8 (fun b => w.heap.size < b ∧ b < w8.heap.size ∧ b ≠ w1.heap.size) [.int .i64 v0, .int .i64 v1, .string v2, .string v3, .slice va vk.length vc] (.mk (10, 0, ⟨#[]⟩, ⟨#[]⟩) [T, T2])) := node.ndSh.mono hrep3 fun b hS => by
            have := hB8.size
            rcases hS with hS | hS
            · exact ⟨hS.1, by omega, hS.2.2⟩
            · exact ⟨by omega, hS.2, by omega⟩
          have k0 : w8.cell? ⟨w1.heap.size, 0, none⟩ = some (.int .i64 x0) := blk_cellP (i := 0) P8.out.acc rfl
          have k1 : w8.cell? ⟨w1.heap.size, 1, none⟩ = some (.int .i64 x1) := blk_cellP (i := 1) P8.out.acc rfl
          have k2 : w8.cell? ⟨w1.heap.size, 2, none⟩ = some (.string x2) := blk_cellP (i := 2) P8.out.acc rfl
          have k3 : w8.cell? ⟨w1.heap.size, 3, none⟩ = some (.string x3) := blk_cellP (i := 3) P8.out.acc rfl
          have k4 : w8.cell? ⟨w1.heap.size, 4, none⟩ = some (.slice xa xl xc) := blk_cellP (i := 4) P8.out.acc rfl
          have fr : ∀ o, w8.frozen? ⟨w1.heap.size, o, none⟩ = false := fun o => blk_freeP P8.out.acc
          clear HN hrep3 hB8 y0 y1 y2 y3 y4
          have NX : Hid (Pr E w (((((w8.setCell ⟨w1.heap.size, 0, none⟩ (.int .i64 v0)).setCell ⟨w1.heap.size, 1, none⟩ (.int .i64 v1)).setCell ⟨w1.heap.size, 2, none⟩ (.string v2)).setCell ⟨w1.heap.size, 3, none⟩ (.string v3)).setCell ⟨w1.heap.size, 4, none⟩ (.slice va vk.length vc)) w1.heap.size [.int .i64 v0, .int .i64 v1, .string v2, .string v3, .slice va vk.length vc] (.mk (10, 0, ⟨#[]⟩, ⟨#[]⟩) [T, T2]) at_ bad at5 bad5) := by
            refine P8.out.put ?_ ?_ R8.out HWT.out
            · repeat first | exact grown_self _ _ | (refine grown_by_by ?_ (grown_setP _ _ _ _))
            · have := P8.out.acc
              simp [World.setCell, Array.getElem?_modify, this]
          go_wp2
          go_round
          case rel => exact ⟨v0, v1, v2, v3, va, vk.length, vc, _, at5, bad5, NX⟩
          case measure =>
            rw [NX.out.st.msr, HM.out]
            have := HM5.out
            have := HBD.out
            rw [if_pos this.1]
            split <;> omega
        | true =>
          have HX := next_any E wb at' bad' PB.out.st HBD.out.2
          go_wp2_with fail
          refine HX.mono ?_
          rintro e w4 ⟨rfl, S4, g4⟩
          have P4 : Hid (Pr E w w4 w1.heap.size [.int .i64 x0, .int .i64 x1, .string x2, .string x3, .slice xa xl xc] T at_ bad (at' + 1) bad') := PB.out.step g4 S4 (Nat.le_succ _) (.inr rfl)
          clear S4 g4 HX
          have HX := HEE.out w4 (at' + 1) bad' P4.out.st (by have := HLT.out; have := P4.out.le; omega)
          go_wp2_with fail
          refine HX.mono ?_
          rintro e w5 ⟨at5, bad5, cs, T2, rfl, hrep, S5, g5, hle5, hx5⟩
          obtain ⟨u0, u1, u2, u3, ua, uc, uk, hTT, rfl, -, -, -⟩ := node.nd_open hrep
          clear hTT
          obtain ⟨w6, hw6⟩ : ∃ w6, w6 = w5.alloc (.cells #[.int .i64 u0, .int .i64 u1, .string u2, .string u3, .slice ua uk.length uc] 36) := ⟨_, rfl⟩
          have HW6 : Hid (w6 = w5.alloc (.cells #[.int .i64 u0, .int .i64 u1, .string u2, .string u3, .slice ua uk.length uc] 36)) := hw6
          have b6 : Below w5.heap.size w5 w6 := by rw [hw6]; exact (Below.refl _ _).alloc (Nat.le_refl _) _
          have hz6 : w6.heap.size = w5.heap.size + 1 := by rw [hw6]; simp
          have hd5 : 0 ≤ bad5 ∨ bad5 = bad' := by
            rcases hx5 with h | ⟨h, -⟩
            · exact .inl h
            · exact .inr h
          have P6 : Hid (Pr E w w6 w1.heap.size [.int .i64 x0, .int .i64 x1, .string x2, .string x3, .slice xa xl xc] T at_ bad at5 bad5) := (P4.out.step g5 S5 hle5 hd5).step (grown_none _ b6) (S5.on b6) (Nat.le_refl _) (.inr rfl)
          have hab4 := P4.out.ablt
          have hwb := P4.out.ab
          have hz5 := g5.size
          have A6 : Hid (w6.heap[w5.heap.size]? = some (.cells #[.int .i64 u0, .int .i64 u1, .string u2, .string u3, .slice ua uk.length uc] 36)) := by show _ = _; rw [hw6]; exact alloc_top _ _
          obtain ⟨w7, hw7⟩ : ∃ w7, w7 = w6.alloc (.cells #[.int .i64 x0, .int .i64 x1, .string x2, .string x3, .slice xa xl xc, .int .i64 u0, .int .i64 u1, .string u2, .string u3, .slice ua uk.length uc] 36) := ⟨_, rfl⟩
          have HW7 : Hid (w7 = w6.alloc (.cells #[.int .i64 x0, .int .i64 x1, .string x2, .string x3, .slice xa xl xc, .int .i64 u0, .int .i64 u1, .string u2, .string u3, .slice ua uk.length uc] 36)) := hw7
          have b7 : Below w6.heap.size w6 w7 := by rw [hw7]; exact (Below.refl _ _).alloc (Nat.le_refl _) _
          have hz7 : w7.heap.size = w6.heap.size + 1 := by rw [hw7]; simp
          have P7 : Hid (Pr E w w7 w1.heap.size [.int .i64 x0, .int .i64 x1, .string x2, .string x3, .slice xa xl xc] T at_ bad at5 bad5) := P6.out.step (grown_none _ b7) (P6.out.st.on b7) (Nat.le_refl _) (.inr rfl)
          have R7 := pair_rep (W := w7) (S := fun b => w.heap.size < b ∧ b < w7.heap.size ∧ b ≠ w1.heap.size) (by rw [hw7]; exact alloc_top _ _) ⟨by omega, by omega, by omega⟩ P7.out.rep (node.ndSh.mono (node.ndSh.on (node.ndSh.on hrep fun b hS => b6.block b hS.2) fun b hS => b7.block b (by omega)) fun b hS => ⟨by omega, by omega, by omega⟩)
          have HN := node3_any 11 (by omega) [T, T2] w6.heap.size 0 2 w7 _ (fun b hS => hS.2.1) (by simp) R7
          have HWT : Hid (0 ≤ bad5 ∨ (bad5 = bad ∧ at_ < at5 ∧ node.wt (.mk (11, 0, ⟨#[]⟩, ⟨#[]⟩) [T, T2]) + 2 ≤ 10 * (at5 - at_))) := by
            rcases hx5 with h5 | ⟨e5, h5, h5'⟩
            · exact .inl h5
            · rcases P4.out.hx with h4 | ⟨e4, h4, h4'⟩
              · exact .inl (by omega)
              · refine .inr ⟨by omega, by omega, ?_⟩
                rcases PB.out.hx with h3 | ⟨e3, h3, h3'⟩
                · have := HBD.out.1; omega
                · rw [pair_wt]
                  omega
          have HM5 : Hid (at' + 1 ≤ at5) := hle5
          have y0 : w6.cell? ⟨w1.heap.size, 0, none⟩ = some (.int .i64 x0) := blk_cellP (i := 0) P6.out.acc rfl
          have y1 : w6.cell? ⟨w1.heap.size, 1, none⟩ = some (.int .i64 x1) := blk_cellP (i := 1) P6.out.acc rfl
          have y2 : w6.cell? ⟨w1.heap.size, 2, none⟩ = some (.string x2) := blk_cellP (i := 2) P6.out.acc rfl
          have y3 : w6.cell? ⟨w1.heap.size, 3, none⟩ = some (.string x3) := blk_cellP (i := 3) P6.out.acc rfl
          have y4 : w6.cell? ⟨w1.heap.size, 4, none⟩ = some (.slice xa xl xc) := blk_cellP (i := 4) P6.out.acc rfl
          rw [hw6] at y0 y1 y2 y3 y4
          clear HX hrep S5 g5 hle5 hx5 hd5 hw7 b7 R7 b6 hw6
          go_wp2_with fail
          rw [← HW6.out, ← HW7.out]
          rw [hz6] at HN
          refine HN.mono ?_
          rintro e w8 ⟨⟨cs3, rfl, hrep3⟩, hB8⟩
          obtain ⟨v0, v1, v2, v3, va, vc, vk, hTT, rfl, -, -, -⟩ := node.nd_open hrep3
          clear hTT
          have P8 : Hid (Pr E w w8 w1.heap.size [.int .i64 x0, .int .i64 x1, .string x2, .string x3, .slice xa xl xc] T at_ bad at5 bad5) := P7.out.step (grown_none _ hB8) (P7.out.st.on hB8) (Nat.le_refl _) (.inr rfl)
          have R8 : Hid (node.ndSh.rep w8 (fun b => w.heap.size < b ∧ b < w8.heap.size ∧ b ≠ w1.heap.size) [.int .i64 v0, .int .i64 v1, .string v2, .string v3, .slice va vk.length vc] (.mk (11, 0, ⟨#[]⟩, ⟨#[]⟩) [T, T2])) := node.ndSh.mono hrep3 fun b hS => by
            have := hB8.size
            rcases hS with hS | hS
            · exact ⟨hS.1, by omega, hS.2.2⟩
            · exact ⟨by omega, hS.2, by omega⟩
          have k0 : w8.cell? ⟨w1.heap.size, 0, none⟩ = some (.int .i64 x0) := blk_cellP (i := 0) P8.out.acc rfl
          have k1 : w8.cell? ⟨w1.heap.size, 1, none⟩ = some (.int .i64 x1) := blk_cellP (i := 1) P8.out.acc rfl
          have k2 : w8.cell? ⟨w1.heap.size, 2, none⟩ = some (.string x2) := blk_cellP (i := 2) P8.out.acc rfl
          have k3 : w8.cell? ⟨w1.heap.size, 3, none⟩ = some (.string x3) := blk_cellP (i := 3) P8.out.acc rfl
          have k4 : w8.cell? ⟨w1.heap.size, 4, none⟩ = some (.slice xa xl xc) := blk_cellP (i := 4) P8.out.acc rfl
          have fr : ∀ o, w8.frozen? ⟨w1.heap.size, o, none⟩ = false := fun o => blk_freeP P8.out.acc
          clear HN hrep3 hB8 y0 y1 y2 y3 y4
          have NX : Hid (Pr E w (((((w8.setCell ⟨w1.heap.size, 0, none⟩ (.int .i64 v0)).setCell ⟨w1.heap.size, 1, none⟩ (.int .i64 v1)).setCell ⟨w1.heap.size, 2, none⟩ (.string v2)).setCell ⟨w1.heap.size, 3, none⟩ (.string v3)).setCell ⟨w1.heap.size, 4, none⟩ (.slice va vk.length vc)) w1.heap.size [.int .i64 v0, .int .i64 v1, .string v2, .string v3, .slice va vk.length vc] (.mk (11, 0, ⟨#[]⟩, ⟨#[]⟩) [T, T2]) at_ bad at5 bad5) := by
            refine P8.out.put ?_ ?_ R8.out HWT.out
            · repeat first | exact grown_self _ _ | (refine grown_by_by ?_ (grown_setP _ _ _ _))
            · have := P8.out.acc
              simp [World.setCell, Array.getElem?_modify, this]
          go_wp2
          go_round
          case rel => exact ⟨v0, v1, v2, v3, va, vk.length, vc, _, at5, bad5, NX⟩
          case measure =>
            rw [NX.out.st.msr, HM.out]
            have := HM5.out
            have := HBD.out
            rw [if_pos this.1]
            split <;> omega
    | true =>
      have HBD : Hid (bad' < 0 ∧ at' + 1 < E.toks.length) := hb rfl
      clear hb
      have HX := sign3_any E w3 at' bad' P3.out.st ⟨#[45]⟩
      go_wp2_with fail
      refine HX.mono ?_
      rintro e wb ⟨⟨b, rfl, -⟩, hB⟩
      have PB : Hid (Pr E w wb w1.heap.size [.int .i64 x0, .int .i64 x1, .string x2, .string x3, .slice xa xl xc] T at_ bad at' bad') := P3.out.step (grown_none _ hB) (P3.out.st.on hB) (Nat.le_refl _) (.inr rfl)
      clear hB HX
      cases b with
      | false =>
        have HX := next_any E wb at' bad' PB.out.st HBD.out.2
        go_wp2_with fail
        refine HX.mono ?_
        rintro e w4 ⟨rfl, S4, g4⟩
        have P4 : Hid (Pr E w w4 w1.heap.size [.int .i64 x0, .int .i64 x1, .string x2, .string x3, .slice xa xl xc] T at_ bad (at' + 1) bad') := PB.out.step g4 S4 (Nat.le_succ _) (.inr rfl)
        clear S4 g4 HX
        have HX := HEE.out w4 (at' + 1) bad' P4.out.st (by have := HLT.out; have := P4.out.le; omega)
        go_wp2_with fail
        refine HX.mono ?_
        rintro e w5 ⟨at5, bad5, cs, T2, rfl, hrep, S5, g5, hle5, hx5⟩
        obtain ⟨u0, u1, u2, u3, ua, uc, uk, hTT, rfl, -, -, -⟩ := node.nd_open hrep
        clear hTT
        obtain ⟨w6, hw6⟩ : ∃ w6, w6 = w5.alloc (.cells #[.int .i64 u0, .int .i64 u1, .string u2, .string u3, .slice ua uk.length uc] 36) := ⟨_, rfl⟩
        have HW6 : Hid (w6 = w5.alloc (.cells #[.int .i64 u0, .int .i64 u1, .string u2, .string u3, .slice ua uk.length uc] 36)) := hw6
        have b6 : Below w5.heap.size w5 w6 := by rw [hw6]; exact (Below.refl _ _).alloc (Nat.le_refl _) _
        have hz6 : w6.heap.size = w5.heap.size + 1 := by rw [hw6]; simp
        have hd5 : 0 ≤ bad5 ∨ bad5 = bad' := by
          rcases hx5 with h | ⟨h, -⟩
          · exact .inl h
          · exact .inr h
        have P6 : Hid (Pr E w w6 w1.heap.size [.int .i64 x0, .int .i64 x1, .string x2, .string x3, .slice xa xl xc] T at_ bad at5 bad5) := (P4.out.step g5 S5 hle5 hd5).step (grown_none _ b6) (S5.on b6) (Nat.le_refl _) (.inr rfl)
        have hab4 := P4.out.ablt
        have hwb := P4.out.ab
        have hz5 := g5.size
        have A6 : Hid (w6.heap[w5.heap.size]? = some (.cells #[.int .i64 u0, .int .i64 u1, .string u2, .string u3, .slice ua uk.length uc] 36)) := by show _ = _; rw [hw6]; exact alloc_top _ _
        obtain ⟨w7, hw7⟩ : ∃ w7, w7 = w6.alloc (.cells #[.int .i64 x0, .int .i64 x1, .string x2, .string x3, .slice xa xl xc, .int .i64 u0, .int .i64 u1, .string u2, .string u3, .slice ua uk.length uc] 36) := ⟨_, rfl⟩
        have HW7 : Hid (w7 = w6.alloc (.cells #[.int .i64 x0, .int .i64 x1, .string x2, .string x3, .slice xa xl xc, .int .i64 u0, .int .i64 u1, .string u2, .string u3, .slice ua uk.length uc] 36)) := hw7
        have b7 : Below w6.heap.size w6 w7 := by rw [hw7]; exact (Below.refl _ _).alloc (Nat.le_refl _) _
        have hz7 : w7.heap.size = w6.heap.size + 1 := by rw [hw7]; simp
        have P7 : Hid (Pr E w w7 w1.heap.size [.int .i64 x0, .int .i64 x1, .string x2, .string x3, .slice xa xl xc] T at_ bad at5 bad5) := P6.out.step (grown_none _ b7) (P6.out.st.on b7) (Nat.le_refl _) (.inr rfl)
        have R7 := pair_rep (W := w7) (S := fun b => w.heap.size < b ∧ b < w7.heap.size ∧ b ≠ w1.heap.size) (by rw [hw7]; exact alloc_top _ _) ⟨by omega, by omega, by omega⟩ P7.out.rep (node.ndSh.mono (node.ndSh.on (node.ndSh.on hrep fun b hS => b6.block b hS.2) fun b hS => b7.block b (by omega)) fun b hS => ⟨by omega, by omega, by omega⟩)
        have HN := node3_any 10 (by omega) [T, T2] w6.heap.size 0 2 w7 _ (fun b hS => hS.2.1) (by simp) R7
        have HWT : Hid (0 ≤ bad5 ∨ (bad5 = bad ∧ at_ < at5 ∧ node.wt (.mk (10, 0, ⟨#[]⟩, ⟨#[]⟩) [T, T2]) + 2 ≤ 10 * (at5 - at_))) := by
          rcases hx5 with h5 | ⟨e5, h5, h5'⟩
          · exact .inl h5
          · rcases P4.out.hx with h4 | ⟨e4, h4, h4'⟩
            · exact .inl (by omega)
            · refine .inr ⟨by omega, by omega, ?_⟩
              rcases PB.out.hx with h3 | ⟨e3, h3, h3'⟩
              · have := HBD.out.1; omega
              · rw [pair_wt]
                omega
        have HM5 : Hid (at' + 1 ≤ at5) := hle5
        have y0 : w6.cell? ⟨w1.heap.size, 0, none⟩ = some (.int .i64 x0) := blk_cellP (i := 0) P6.out.acc rfl
        have y1 : w6.cell? ⟨w1.heap.size, 1, none⟩ = some (.int .i64 x1) := blk_cellP (i := 1) P6.out.acc rfl
        have y2 : w6.cell? ⟨w1.heap.size, 2, none⟩ = some (.string x2) := blk_cellP (i := 2) P6.out.acc rfl
        have y3 : w6.cell? ⟨w1.heap.size, 3, none⟩ = some (.string x3) := blk_cellP (i := 3) P6.out.acc rfl
        have y4 : w6.cell? ⟨w1.heap.size, 4, none⟩ = some (.slice xa xl xc) := blk_cellP (i := 4) P6.out.acc rfl
        rw [hw6] at y0 y1 y2 y3 y4
        clear HX hrep S5 g5 hle5 hx5 hd5 hw7 b7 R7 b6 hw6
        go_wp2_with fail
        rw [← HW6.out, ← HW7.out]
        rw [hz6] at HN
        refine HN.mono ?_
        rintro e w8 ⟨⟨cs3, rfl, hrep3⟩, hB8⟩
        obtain ⟨v0, v1, v2, v3, va, vc, vk, hTT, rfl, -, -, -⟩ := node.nd_open hrep3
        clear hTT
        have P8 : Hid (Pr E w w8 w1.heap.size [.int .i64 x0, .int .i64 x1, .string x2, .string x3, .slice xa xl xc] T at_ bad at5 bad5) := P7.out.step (grown_none _ hB8) (P7.out.st.on hB8) (Nat.le_refl _) (.inr rfl)
        have R8 : Hid (node.ndSh.rep w8 (fun b => w.heap.size < b ∧ b < w8.heap.size ∧ b ≠ w1.heap.size) [.int .i64 v0, .int .i64 v1, .string v2, .string v3, .slice va vk.length vc] (.mk (10, 0, ⟨#[]⟩, ⟨#[]⟩) [T, T2])) := node.ndSh.mono hrep3 fun b hS => by
          have := hB8.size
          rcases hS with hS | hS
          · exact ⟨hS.1, by omega, hS.2.2⟩
          · exact ⟨by omega, hS.2, by omega⟩
        have k0 : w8.cell? ⟨w1.heap.size, 0, none⟩ = some (.int .i64 x0) := blk_cellP (i := 0) P8.out.acc rfl
        have k1 : w8.cell? ⟨w1.heap.size, 1, none⟩ = some (.int .i64 x1) := blk_cellP (i := 1) P8.out.acc rfl
        have k2 : w8.cell? ⟨w1.heap.size, 2, none⟩ = some (.string x2) := blk_cellP (i := 2) P8.out.acc rfl
        have k3 : w8.cell? ⟨w1.heap.size, 3, none⟩ = some (.string x3) := blk_cellP (i := 3) P8.out.acc rfl
        have k4 : w8.cell? ⟨w1.heap.size, 4, none⟩ = some (.slice xa xl xc) := blk_cellP (i := 4) P8.out.acc rfl
        have fr : ∀ o, w8.frozen? ⟨w1.heap.size, o, none⟩ = false := fun o => blk_freeP P8.out.acc
        clear HN hrep3 hB8 y0 y1 y2 y3 y4
        have NX : Hid (Pr E w (((((w8.setCell ⟨w1.heap.size, 0, none⟩ (.int .i64 v0)).setCell ⟨w1.heap.size, 1, none⟩ (.int .i64 v1)).setCell ⟨w1.heap.size, 2, none⟩ (.string v2)).setCell ⟨w1.heap.size, 3, none⟩ (.string v3)).setCell ⟨w1.heap.size, 4, none⟩ (.slice va vk.length vc)) w1.heap.size [.int .i64 v0, .int .i64 v1, .string v2, .string v3, .slice va vk.length vc] (.mk (10, 0, ⟨#[]⟩, ⟨#[]⟩) [T, T2]) at_ bad at5 bad5) := by
          refine P8.out.put ?_ ?_ R8.out HWT.out
          · repeat first | exact grown_self _ _ | (refine grown_by_by ?_ (grown_setP _ _ _ _))
          · have := P8.out.acc
            simp [World.setCell, Array.getElem?_modify, this]
        go_wp2
        go_round
        case rel => exact ⟨v0, v1, v2, v3, va, vk.length, vc, _, at5, bad5, NX⟩
        case measure =>
          rw [NX.out.st.msr, HM.out]
          have := HM5.out
          have := HBD.out
          rw [if_pos this.1]
          split <;> omega
      | true =>
        have HX := next_any E wb at' bad' PB.out.st HBD.out.2
        go_wp2_with fail
        refine HX.mono ?_
        rintro e w4 ⟨rfl, S4, g4⟩
        have P4 : Hid (Pr E w w4 w1.heap.size [.int .i64 x0, .int .i64 x1, .string x2, .string x3, .slice xa xl xc] T at_ bad (at' + 1) bad') := PB.out.step g4 S4 (Nat.le_succ _) (.inr rfl)
        clear S4 g4 HX
        have HX := HEE.out w4 (at' + 1) bad' P4.out.st (by have := HLT.out; have := P4.out.le; omega)
        go_wp2_with fail
        refine HX.mono ?_
        rintro e w5 ⟨at5, bad5, cs, T2, rfl, hrep, S5, g5, hle5, hx5⟩
        obtain ⟨u0, u1, u2, u3, ua, uc, uk, hTT, rfl, -, -, -⟩ := node.nd_open hrep
        clear hTT
        obtain ⟨w6, hw6⟩ : ∃ w6, w6 = w5.alloc (.cells #[.int .i64 u0, .int .i64 u1, .string u2, .string u3, .slice ua uk.length uc] 36) := ⟨_, rfl⟩
        have HW6 : Hid (w6 = w5.alloc (.cells #[.int .i64 u0, .int .i64 u1, .string u2, .string u3, .slice ua uk.length uc] 36)) := hw6
        have b6 : Below w5.heap.size w5 w6 := by rw [hw6]; exact (Below.refl _ _).alloc (Nat.le_refl _) _
        have hz6 : w6.heap.size = w5.heap.size + 1 := by rw [hw6]; simp
        have hd5 : 0 ≤ bad5 ∨ bad5 = bad' := by
          rcases hx5 with h | ⟨h, -⟩
          · exact .inl h
          · exact .inr h
        have P6 : Hid (Pr E w w6 w1.heap.size [.int .i64 x0, .int .i64 x1, .string x2, .string x3, .slice xa xl xc] T at_ bad at5 bad5) := (P4.out.step g5 S5 hle5 hd5).step (grown_none _ b6) (S5.on b6) (Nat.le_refl _) (.inr rfl)
        have hab4 := P4.out.ablt
        have hwb := P4.out.ab
        have hz5 := g5.size
        have A6 : Hid (w6.heap[w5.heap.size]? = some (.cells #[.int .i64 u0, .int .i64 u1, .string u2, .string u3, .slice ua uk.length uc] 36)) := by show _ = _; rw [hw6]; exact alloc_top _ _
        obtain ⟨w7, hw7⟩ : ∃ w7, w7 = w6.alloc (.cells #[.int .i64 x0, .int .i64 x1, .string x2, .string x3, .slice xa xl xc, .int .i64 u0, .int .i64 u1, .string u2, .string u3, .slice ua uk.length uc] 36) := ⟨_, rfl⟩
        have HW7 : Hid (w7 = w6.alloc (.cells #[.int .i64 x0, .int .i64 x1, .string x2, .string x3, .slice xa xl xc, .int .i64 u0, .int .i64 u1, .string u2, .string u3, .slice ua uk.length uc] 36)) := hw7
        have b7 : Below w6.heap.size w6 w7 := by rw [hw7]; exact (Below.refl _ _).alloc (Nat.le_refl _) _
        have hz7 : w7.heap.size = w6.heap.size + 1 := by rw [hw7]; simp
        have P7 : Hid (Pr E w w7 w1.heap.size [.int .i64 x0, .int .i64 x1, .string x2, .string x3, .slice xa xl xc] T at_ bad at5 bad5) := P6.out.step (grown_none _ b7) (P6.out.st.on b7) (Nat.le_refl _) (.inr rfl)
        have R7 := pair_rep (W := w7) (S := fun b => w.heap.size < b ∧ b < w7.heap.size ∧ b ≠ w1.heap.size) (by rw [hw7]; exact alloc_top _ _) ⟨by omega, by omega, by omega⟩ P7.out.rep (node.ndSh.mono (node.ndSh.on (node.ndSh.on hrep fun b hS => b6.block b hS.2) fun b hS => b7.block b (by omega)) fun b hS => ⟨by omega, by omega, by omega⟩)
        have HN := node3_any 11 (by omega) [T, T2] w6.heap.size 0 2 w7 _ (fun b hS => hS.2.1) (by simp) R7
        have HWT : Hid (0 ≤ bad5 ∨ (bad5 = bad ∧ at_ < at5 ∧ node.wt (.mk (11, 0, ⟨#[]⟩, ⟨#[]⟩) [T, T2]) + 2 ≤ 10 * (at5 - at_))) := by
          rcases hx5 with h5 | ⟨e5, h5, h5'⟩
          · exact .inl h5
          · rcases P4.out.hx with h4 | ⟨e4, h4, h4'⟩
            · exact .inl (by omega)
            · refine .inr ⟨by omega, by omega, ?_⟩
              rcases PB.out.hx with h3 | ⟨e3, h3, h3'⟩
              · have := HBD.out.1; omega
              · rw [pair_wt]
                omega
        have HM5 : Hid (at' + 1 ≤ at5) := hle5
        have y0 : w6.cell? ⟨w1.heap.size, 0, none⟩ = some (.int .i64 x0) := blk_cellP (i := 0) P6.out.acc rfl
        have y1 : w6.cell? ⟨w1.heap.size, 1, none⟩ = some (.int .i64 x1) := blk_cellP (i := 1) P6.out.acc rfl
        have y2 : w6.cell? ⟨w1.heap.size, 2, none⟩ = some (.string x2) := blk_cellP (i := 2) P6.out.acc rfl
        have y3 : w6.cell? ⟨w1.heap.size, 3, none⟩ = some (.string x3) := blk_cellP (i := 3) P6.out.acc rfl
        have y4 : w6.cell? ⟨w1.heap.size, 4, none⟩ = some (.slice xa xl xc) := blk_cellP (i := 4) P6.out.acc rfl
        rw [hw6] at y0 y1 y2 y3 y4
        clear HX hrep S5 g5 hle5 hx5 hd5 hw7 b7 R7 b6 hw6
        go_wp2_with fail
        rw [← HW6.out, ← HW7.out]
        rw [hz6] at HN
        refine HN.mono ?_
        rintro e w8 ⟨⟨cs3, rfl, hrep3⟩, hB8⟩
        obtain ⟨v0, v1, v2, v3, va, vc, vk, hTT, rfl, -, -, -⟩ := node.nd_open hrep3
        clear hTT
        have P8 : Hid (Pr E w w8 w1.heap.size [.int .i64 x0, .int .i64 x1, .string x2, .string x3, .slice xa xl xc] T at_ bad at5 bad5) := P7.out.step (grown_none _ hB8) (P7.out.st.on hB8) (Nat.le_refl _) (.inr rfl)
        have R8 : Hid (node.ndSh.rep w8 (fun b => w.heap.size < b ∧ b < w8.heap.size ∧ b ≠ w1.heap.size) [.int .i64 v0, .int .i64 v1, .string v2, .string v3, .slice va vk.length vc] (.mk (11, 0, ⟨#[]⟩, ⟨#[]⟩) [T, T2])) := node.ndSh.mono hrep3 fun b hS => by
          have := hB8.size
          rcases hS with hS | hS
          · exact ⟨hS.1, by omega, hS.2.2⟩
          · exact ⟨by omega, hS.2, by omega⟩
        have k0 : w8.cell? ⟨w1.heap.size, 0, none⟩ = some (.int .i64 x0) := blk_cellP (i := 0) P8.out.acc rfl
        have k1 : w8.cell? ⟨w1.heap.size, 1, none⟩ = some (.int .i64 x1) := blk_cellP (i := 1) P8.out.acc rfl
        have k2 : w8.cell? ⟨w1.heap.size, 2, none⟩ = some (.string x2) := blk_cellP (i := 2) P8.out.acc rfl
        have k3 : w8.cell? ⟨w1.heap.size, 3, none⟩ = some (.string x3) := blk_cellP (i := 3) P8.out.acc rfl
        have k4 : w8.cell? ⟨w1.heap.size, 4, none⟩ = some (.slice xa xl xc) := blk_cellP (i := 4) P8.out.acc rfl
        have fr : ∀ o, w8.frozen? ⟨w1.heap.size, o, none⟩ = false := fun o => blk_freeP P8.out.acc
        clear HN hrep3 hB8 y0 y1 y2 y3 y4
        have NX : Hid (Pr E w (((((w8.setCell ⟨w1.heap.size, 0, none⟩ (.int .i64 v0)).setCell ⟨w1.heap.size, 1, none⟩ (.int .i64 v1)).setCell ⟨w1.heap.size, 2, none⟩ (.string v2)).setCell ⟨w1.heap.size, 3, none⟩ (.string v3)).setCell ⟨w1.heap.size, 4, none⟩ (.slice va vk.length vc)) w1.heap.size [.int .i64 v0, .int .i64 v1, .string v2, .string v3, .slice va vk.length vc] (.mk (11, 0, ⟨#[]⟩, ⟨#[]⟩) [T, T2]) at_ bad at5 bad5) := by
          refine P8.out.put ?_ ?_ R8.out HWT.out
          · repeat first | exact grown_self _ _ | (refine grown_by_by ?_ (grown_setP _ _ _ _))
          · have := P8.out.acc
            simp [World.setCell, Array.getElem?_modify, this]
        go_wp2
        go_round
        case rel => exact ⟨v0, v1, v2, v3, va, vk.length, vc, _, at5, bad5, NX⟩
        case measure =>
          rw [NX.out.st.msr, HM.out]
          have := HM5.out
          have := HBD.out
          rw [if_pos this.1]
          split <;> omega

end Go.Proofs.YtlnpfnglphdaiaaGreatDoor.tok
