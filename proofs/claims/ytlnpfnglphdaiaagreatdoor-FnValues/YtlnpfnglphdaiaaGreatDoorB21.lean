/-
  The model's l3Compare, from what l3Sum says.
  A loop of the model's parsing that gathers kids by append: where it stands, and its step.
-/
import Derived.Test.YtlnpfnglphdaiaaGreatDoorB1
import Derived.Test.YtlnpfnglphdaiaaGreatDoorB2
import Derived.Test.YtlnpfnglphdaiaaGreatDoorB3
import Derived.Test.YtlnpfnglphdaiaaGreatDoorB4
import Derived.Test.YtlnpfnglphdaiaaGreatDoorB5
import Derived.Test.YtlnpfnglphdaiaaGreatDoorB6
import Derived.Test.YtlnpfnglphdaiaaGreatDoorB7
import Derived.Test.YtlnpfnglphdaiaaGreatDoorB8
import Derived.Test.YtlnpfnglphdaiaaGreatDoorB9
import Derived.Test.YtlnpfnglphdaiaaGreatDoorB10
import Derived.Test.YtlnpfnglphdaiaaGreatDoorB11
import Derived.Test.YtlnpfnglphdaiaaGreatDoorB12
import Derived.Test.YtlnpfnglphdaiaaGreatDoorB13
import Derived.Test.YtlnpfnglphdaiaaGreatDoorB14
import Derived.Test.YtlnpfnglphdaiaaGreatDoorB15
import Derived.Test.YtlnpfnglphdaiaaGreatDoorB16
import Derived.Test.YtlnpfnglphdaiaaGreatDoorB17
import Derived.Test.YtlnpfnglphdaiaaGreatDoorB18
import Derived.Test.YtlnpfnglphdaiaaGreatDoorB19
import Derived.Test.YtlnpfnglphdaiaaGreatDoorB20
namespace Go.Proofs.YtlnpfnglphdaiaaGreatDoor.tok
open Go Go.RowKit Go.Deep Go.Proofs.YtlnpfnglphdaiaaGreatDoor.rose Go.Proofs.YtlnpfnglphdaiaaGreatDoor
set_option linter.unusedVariables false
set_option linter.unusedSimpArgs false

/-- Another tree is the answer. -/
theorem Pr.give {E : Env} {w wr w' : World} {Ab : Nat} {cs cs' : List Value} {T T' : node.Nd} {at_ at' : Nat} {bad bad' : Int} (h : Pr E w wr Ab cs T at_ bad at' bad') (hg : wr.grownBy w' (some w.heap.size)) (hr : node.ndSh.rep wr (fun b => w.heap.size < b ∧ b < wr.heap.size ∧ b ≠ Ab) cs' T') (hx : 0 ≤ bad' ∨ (bad' = bad ∧ at_ < at' ∧ node.wt T' + 2 ≤ 10 * (at' - at_))) : Nodes E w at_ bad (.returned (.agg cs'.toArray)) w' := by
  have hc := h.cb
  have ht := h.top
  have ha := h.ab
  have hz := h.gr.size
  have h1 := (Array.getElem?_eq_some_iff.1 h.res).1
  refine ⟨at', bad', cs', T', rfl, node.ndSh.mono (node.ndSh.on hr fun b hS => hg.block b hS.2.1 fun e => by simp only [Option.some.injEq] at e; omega) fun b hS => ⟨by omega, Nat.lt_of_lt_of_le hS.2.1 hg.size⟩, h.st.keep hg.size fun b hS => hg.block b ?_ fun e => ?_, ⟨hg.os.trans h.gr.os, hg.tape.trans h.gr.tape, hg.output.trans h.gr.output, Nat.le_trans h.gr.size hg.size, fun q hq hn => (hg.block q (by omega) fun e => by simp only [Option.some.injEq] at e; omega).trans (h.gr.block q hq hn)⟩, h.le, hx⟩
  · rcases hS with hS | hS | rfl
    · have := h.ns b hS; omega
    · omega
    · omega
  · simp only [Option.some.injEq] at e
    rcases hS with hS | hS | hS
    · have := h.ns _ hS; omega
    · omega
    · omega

set_option maxRecDepth 100000 in
set_option maxHeartbeats 8000000 in
theorem compare_of (E : Env) (N : Nat) (HE : ∀ w at_ bad, St E w at_ bad → E.toks.length - at_ ≤ N → Calls Tryz.prog 88 #[.pointer (some ⟨E.cb, 0, none⟩)] w (Nodes E w at_ bad))
    (w : World) (at_ : Nat) (bad : Int) (h : St E w at_ bad) (hN : E.toks.length - at_ ≤ N) :
    Calls Tryz.prog 67 #[.pointer (some ⟨E.cb, 0, none⟩)] w (Nodes E w at_ bad) := by
  have HEE : Hid (∀ w at_ bad, St E w at_ bad → E.toks.length - at_ ≤ N → Calls Tryz.prog 88 #[.pointer (some ⟨E.cb, 0, none⟩)] w (Nodes E w at_ bad)) := HE
  have HS : Hid (St E w at_ bad) := h
  have HLT : Hid (E.toks.length - at_ ≤ N) := hN
  obtain ⟨w0, hw0⟩ : ∃ w0, w0 = w.alloc (.cells #[.int .i64 0, .int .i64 0, .string ⟨#[]⟩, .string ⟨#[]⟩, .slice none 0 0] 36) := ⟨_, rfl⟩
  have HW0 : Hid (w0 = w.alloc (.cells #[.int .i64 0, .int .i64 0, .string ⟨#[]⟩, .string ⟨#[]⟩, .slice none 0 0] 36)) := hw0
  have HX := HE w0 at_ bad (h.on (by rw [hw0]; exact (Below.refl _ _).alloc (Nat.le_refl _) _)) hN
  clear hw0 HE h hN
  go_enter Tryz.func67, Tryz.ntmps67
  go_wp2_with fail
  rw [← HW0.out]
  refine HX.mono ?_
  rintro e w1 ⟨at1, bad1, cs, T1, rfl, hrep, S1, g1, hle1, hx1⟩
  obtain ⟨z0, z1, z2, z3, za, zc, zk, hTT, rfl, -, -, -⟩ := node.nd_open hrep
  clear hTT
  have P2 : Hid (Pr E w (w1.alloc (.cells #[.int .i64 z0, .int .i64 z1, .string z2, .string z3, .slice za zk.length zc] 36)) w1.heap.size [.int .i64 z0, .int .i64 z1, .string z2, .string z3, .slice za zk.length zc] T1 at_ bad at1 bad1) := Pr.first HW0.out HS.out hrep S1 g1 hle1 hx1 rfl
  clear HX hrep S1 g1 hle1 hx1
  obtain ⟨wr, hwr⟩ : ∃ wr, wr = w1.alloc (.cells #[.int .i64 z0, .int .i64 z1, .string z2, .string z3, .slice za zk.length zc] 36) := ⟨_, rfl⟩
  have HWR : Hid (wr = w1.alloc (.cells #[.int .i64 z0, .int .i64 z1, .string z2, .string z3, .slice za zk.length zc] 36)) := hwr
  have HP : Hid (Pr E w wr w1.heap.size [.int .i64 z0, .int .i64 z1, .string z2, .string z3, .slice za zk.length zc] T1 at_ bad at1 bad1) := by rw [hwr]; exact P2.out
  clear P2 hwr
  have HX := sign3_any E wr at1 bad1 HP.out.st ⟨#[60]⟩
  go_wp2_with fail
  rw [← HWR.out]
  refine HX.mono ?_
  rintro e w3 ⟨⟨b, rfl, hb⟩, hB⟩
  have P3 : Hid (Pr E w w3 w1.heap.size [.int .i64 z0, .int .i64 z1, .string z2, .string z3, .slice za zk.length zc] T1 at_ bad at1 bad1) := HP.out.step (grown_none _ hB) (HP.out.st.on hB) (Nat.le_refl _) (.inr rfl)
  clear hB HX
  cases b with
  | true =>
      have HBD : Hid (bad1 < 0 ∧ at1 + 1 < E.toks.length) := hb rfl
      clear hb
      have HX := next_any E w3 at1 bad1 P3.out.st HBD.out.2
      go_wp2_with fail
      refine HX.mono ?_
      rintro e w4 ⟨rfl, S4, g4⟩
      have P4 : Hid (Pr E w w4 w1.heap.size [.int .i64 z0, .int .i64 z1, .string z2, .string z3, .slice za zk.length zc] T1 at_ bad (at1 + 1) bad1) := P3.out.step g4 S4 (Nat.le_succ _) (.inr rfl)
      clear S4 g4 HX
      have HX := HEE.out w4 (at1 + 1) bad1 P4.out.st (by have := HLT.out; have := P4.out.le; omega)
      go_wp2_with fail
      refine HX.mono ?_
      rintro e w5 ⟨at5, bad5, cs, T2, rfl, hrep, S5, g5, hle5, hx5⟩
      obtain ⟨u0, u1, u2, u3, ua, uc, uk, hTT, rfl, -, -, -⟩ := node.nd_open hrep
      clear hTT
      obtain ⟨w6, hw6⟩ : ∃ w6, w6 = w5.alloc (.cells #[.int .i64 u0, .int .i64 u1, .string u2, .string u3, .slice ua uk.length uc] 36) := ⟨_, rfl⟩
      have HW6 : Hid (w6 = w5.alloc (.cells #[.int .i64 u0, .int .i64 u1, .string u2, .string u3, .slice ua uk.length uc] 36)) := hw6
      have b6 : Below w5.heap.size w5 w6 := by rw [hw6]; exact (Below.refl _ _).alloc (Nat.le_refl _) _
      have hz6 : w6.heap.size = w5.heap.size + 1 := by rw [hw6]; simp
      have hd5 : 0 ≤ bad5 ∨ bad5 = bad1 := by
        rcases hx5 with h | ⟨h, -⟩
        · exact .inl h
        · exact .inr h
      have P6 : Hid (Pr E w w6 w1.heap.size [.int .i64 z0, .int .i64 z1, .string z2, .string z3, .slice za zk.length zc] T1 at_ bad at5 bad5) := (P4.out.step g5 S5 hle5 hd5).step (grown_none _ b6) (S5.on b6) (Nat.le_refl _) (.inr rfl)
      have hab4 := P4.out.ablt
      have hwb := P4.out.ab
      have hz5 := g5.size
      have A6 : Hid (w6.heap[w5.heap.size]? = some (.cells #[.int .i64 u0, .int .i64 u1, .string u2, .string u3, .slice ua uk.length uc] 36)) := by show _ = _; rw [hw6]; exact alloc_top _ _
      obtain ⟨w7, hw7⟩ : ∃ w7, w7 = w6.alloc (.cells #[.int .i64 z0, .int .i64 z1, .string z2, .string z3, .slice za zk.length zc, .int .i64 u0, .int .i64 u1, .string u2, .string u3, .slice ua uk.length uc] 36) := ⟨_, rfl⟩
      have HW7 : Hid (w7 = w6.alloc (.cells #[.int .i64 z0, .int .i64 z1, .string z2, .string z3, .slice za zk.length zc, .int .i64 u0, .int .i64 u1, .string u2, .string u3, .slice ua uk.length uc] 36)) := hw7
      have b7 : Below w6.heap.size w6 w7 := by rw [hw7]; exact (Below.refl _ _).alloc (Nat.le_refl _) _
      have hz7 : w7.heap.size = w6.heap.size + 1 := by rw [hw7]; simp
      have P7 : Hid (Pr E w w7 w1.heap.size [.int .i64 z0, .int .i64 z1, .string z2, .string z3, .slice za zk.length zc] T1 at_ bad at5 bad5) := P6.out.step (grown_none _ b7) (P6.out.st.on b7) (Nat.le_refl _) (.inr rfl)
      have R7 := pair_rep (W := w7) (S := fun b => w.heap.size < b ∧ b < w7.heap.size ∧ b ≠ w1.heap.size) (by rw [hw7]; exact alloc_top _ _) ⟨by omega, by omega, by omega⟩ P7.out.rep (node.ndSh.mono (node.ndSh.on (node.ndSh.on hrep fun b hS => b6.block b hS.2) fun b hS => b7.block b (by omega)) fun b hS => ⟨by omega, by omega, by omega⟩)
      have HN := node3_any 13 (by omega) [T1, T2] w6.heap.size 0 2 w7 _ (fun b hS => hS.2.1) (by simp) R7
      have HWT : Hid (0 ≤ bad5 ∨ (bad5 = bad ∧ at_ < at5 ∧ node.wt (.mk (13, 0, ⟨#[]⟩, ⟨#[]⟩) [T1, T2]) + 2 ≤ 10 * (at5 - at_))) := by
        rcases hx5 with h5 | ⟨e5, h5, h5'⟩
        · exact .inl h5
        · rcases P4.out.hx with h4 | ⟨e4, h4, h4'⟩
          · exact .inl (by omega)
          · refine .inr ⟨by omega, by omega, ?_⟩
            rcases P3.out.hx with h3 | ⟨e3, h3, h3'⟩
            · have := HBD.out.1; omega
            · rw [pair_wt]
              omega
      have y0 : w6.cell? ⟨w1.heap.size, 0, none⟩ = some (.int .i64 z0) := blk_cellP (i := 0) P6.out.acc rfl
      have y1 : w6.cell? ⟨w1.heap.size, 1, none⟩ = some (.int .i64 z1) := blk_cellP (i := 1) P6.out.acc rfl
      have y2 : w6.cell? ⟨w1.heap.size, 2, none⟩ = some (.string z2) := blk_cellP (i := 2) P6.out.acc rfl
      have y3 : w6.cell? ⟨w1.heap.size, 3, none⟩ = some (.string z3) := blk_cellP (i := 3) P6.out.acc rfl
      have y4 : w6.cell? ⟨w1.heap.size, 4, none⟩ = some (.slice za zk.length zc) := blk_cellP (i := 4) P6.out.acc rfl
      rw [hw6] at y0 y1 y2 y3 y4
      clear HX hrep S5 g5 hle5 hx5 hd5 hw7 b7 R7 b6 hw6
      go_wp2_with fail
      rw [← HW6.out, ← HW7.out]
      rw [hz6] at HN
      refine HN.mono ?_
      rintro e w8 ⟨⟨cs3, rfl, hrep3⟩, hB8⟩
      obtain ⟨v0, v1, v2, v3, va, vc, vk, hTT, rfl, -, -, -⟩ := node.nd_open hrep3
      clear hTT
      have P8 : Hid (Pr E w w8 w1.heap.size [.int .i64 z0, .int .i64 z1, .string z2, .string z3, .slice za zk.length zc] T1 at_ bad at5 bad5) := P7.out.step (grown_none _ hB8) (P7.out.st.on hB8) (Nat.le_refl _) (.inr rfl)
      have R8 : Hid (node.ndSh.rep w8 (fun b => w.heap.size < b ∧ b < w8.heap.size ∧ b ≠ w1.heap.size) [.int .i64 v0, .int .i64 v1, .string v2, .string v3, .slice va vk.length vc] (.mk (13, 0, ⟨#[]⟩, ⟨#[]⟩) [T1, T2])) := node.ndSh.mono hrep3 fun b hS => by
        have := hB8.size
        rcases hS with hS | hS
        · exact ⟨hS.1, by omega, hS.2.2⟩
        · exact ⟨by omega, hS.2, by omega⟩
      have r0 : w8.cell? ⟨w.heap.size, 0, none⟩ = some (.int .i64 0) := blk_cellP (i := 0) P8.out.res rfl
      have r1 : w8.cell? ⟨w.heap.size, 1, none⟩ = some (.int .i64 0) := blk_cellP (i := 1) P8.out.res rfl
      have r2 : w8.cell? ⟨w.heap.size, 2, none⟩ = some (.string ⟨#[]⟩) := blk_cellP (i := 2) P8.out.res rfl
      have r3 : w8.cell? ⟨w.heap.size, 3, none⟩ = some (.string ⟨#[]⟩) := blk_cellP (i := 3) P8.out.res rfl
      have r4 : w8.cell? ⟨w.heap.size, 4, none⟩ = some (.slice none 0 0) := blk_cellP (i := 4) P8.out.res rfl
      have fr : ∀ o, w8.frozen? ⟨w.heap.size, o, none⟩ = false := fun o => blk_freeP P8.out.res
      clear HN hrep3 hB8 y0 y1 y2 y3 y4
      go_wp2
      refine bodyPost_ret (v := .agg #[.int .i64 v0, .int .i64 v1, .string v2, .string v3, .slice va vk.length vc]) (by simp [results, Tryz.f67, go_sem, r0, r1, r2, r3, r4]) rfl ?_
      refine P8.out.give (cs' := [.int .i64 v0, .int .i64 v1, .string v2, .string v3, .slice va vk.length vc]) ?_ R8.out HWT.out
      repeat first | exact grown_self _ _ | (refine grown_by_by ?_ (grown_setP _ _ _ _))
  | false =>
    clear hb
    have HX := sign3_any E w3 at1 bad1 P3.out.st ⟨#[61, 61]⟩
    go_wp2_with fail
    refine HX.mono ?_
    rintro e wa ⟨⟨b, rfl, hb⟩, hB⟩
    have PA : Hid (Pr E w wa w1.heap.size [.int .i64 z0, .int .i64 z1, .string z2, .string z3, .slice za zk.length zc] T1 at_ bad at1 bad1) := P3.out.step (grown_none _ hB) (P3.out.st.on hB) (Nat.le_refl _) (.inr rfl)
    clear hB HX
    cases b with
    | true =>
      have HBD : Hid (bad1 < 0 ∧ at1 + 1 < E.toks.length) := hb rfl
      clear hb
      have HX := next_any E wa at1 bad1 PA.out.st HBD.out.2
      go_wp2_with fail
      refine HX.mono ?_
      rintro e w4 ⟨rfl, S4, g4⟩
      have P4 : Hid (Pr E w w4 w1.heap.size [.int .i64 z0, .int .i64 z1, .string z2, .string z3, .slice za zk.length zc] T1 at_ bad (at1 + 1) bad1) := PA.out.step g4 S4 (Nat.le_succ _) (.inr rfl)
      clear S4 g4 HX
      have HX := HEE.out w4 (at1 + 1) bad1 P4.out.st (by have := HLT.out; have := P4.out.le; omega)
      go_wp2_with fail
      refine HX.mono ?_
      rintro e w5 ⟨at5, bad5, cs, T2, rfl, hrep, S5, g5, hle5, hx5⟩
      obtain ⟨u0, u1, u2, u3, ua, uc, uk, hTT, rfl, -, -, -⟩ := node.nd_open hrep
      clear hTT
      obtain ⟨w6, hw6⟩ : ∃ w6, w6 = w5.alloc (.cells #[.int .i64 u0, .int .i64 u1, .string u2, .string u3, .slice ua uk.length uc] 36) := ⟨_, rfl⟩
      have HW6 : Hid (w6 = w5.alloc (.cells #[.int .i64 u0, .int .i64 u1, .string u2, .string u3, .slice ua uk.length uc] 36)) := hw6
      have b6 : Below w5.heap.size w5 w6 := by rw [hw6]; exact (Below.refl _ _).alloc (Nat.le_refl _) _
      have hz6 : w6.heap.size = w5.heap.size + 1 := by rw [hw6]; simp
      have hd5 : 0 ≤ bad5 ∨ bad5 = bad1 := by
        rcases hx5 with h | ⟨h, -⟩
        · exact .inl h
        · exact .inr h
      have P6 : Hid (Pr E w w6 w1.heap.size [.int .i64 z0, .int .i64 z1, .string z2, .string z3, .slice za zk.length zc] T1 at_ bad at5 bad5) := (P4.out.step g5 S5 hle5 hd5).step (grown_none _ b6) (S5.on b6) (Nat.le_refl _) (.inr rfl)
      have hab4 := P4.out.ablt
      have hwb := P4.out.ab
      have hz5 := g5.size
      have A6 : Hid (w6.heap[w5.heap.size]? = some (.cells #[.int .i64 u0, .int .i64 u1, .string u2, .string u3, .slice ua uk.length uc] 36)) := by show _ = _; rw [hw6]; exact alloc_top _ _
      obtain ⟨w7, hw7⟩ : ∃ w7, w7 = w6.alloc (.cells #[.int .i64 z0, .int .i64 z1, .string z2, .string z3, .slice za zk.length zc, .int .i64 u0, .int .i64 u1, .string u2, .string u3, .slice ua uk.length uc] 36) := ⟨_, rfl⟩
      have HW7 : Hid (w7 = w6.alloc (.cells #[.int .i64 z0, .int .i64 z1, .string z2, .string z3, .slice za zk.length zc, .int .i64 u0, .int .i64 u1, .string u2, .string u3, .slice ua uk.length uc] 36)) := hw7
      have b7 : Below w6.heap.size w6 w7 := by rw [hw7]; exact (Below.refl _ _).alloc (Nat.le_refl _) _
      have hz7 : w7.heap.size = w6.heap.size + 1 := by rw [hw7]; simp
      have P7 : Hid (Pr E w w7 w1.heap.size [.int .i64 z0, .int .i64 z1, .string z2, .string z3, .slice za zk.length zc] T1 at_ bad at5 bad5) := P6.out.step (grown_none _ b7) (P6.out.st.on b7) (Nat.le_refl _) (.inr rfl)
      have R7 := pair_rep (W := w7) (S := fun b => w.heap.size < b ∧ b < w7.heap.size ∧ b ≠ w1.heap.size) (by rw [hw7]; exact alloc_top _ _) ⟨by omega, by omega, by omega⟩ P7.out.rep (node.ndSh.mono (node.ndSh.on (node.ndSh.on hrep fun b hS => b6.block b hS.2) fun b hS => b7.block b (by omega)) fun b hS => ⟨by omega, by omega, by omega⟩)
      have HN := node3_any 14 (by omega) [T1, T2] w6.heap.size 0 2 w7 _ (fun b hS => hS.2.1) (by simp) R7
      have HWT : Hid (0 ≤ bad5 ∨ (bad5 = bad ∧ at_ < at5 ∧ node.wt (.mk (14, 0, ⟨#[]⟩, ⟨#[]⟩) [T1, T2]) + 2 ≤ 10 * (at5 - at_))) := by
        rcases hx5 with h5 | ⟨e5, h5, h5'⟩
        · exact .inl h5
        · rcases P4.out.hx with h4 | ⟨e4, h4, h4'⟩
          · exact .inl (by omega)
          · refine .inr ⟨by omega, by omega, ?_⟩
            rcases PA.out.hx with h3 | ⟨e3, h3, h3'⟩
            · have := HBD.out.1; omega
            · rw [pair_wt]
              omega
      have y0 : w6.cell? ⟨w1.heap.size, 0, none⟩ = some (.int .i64 z0) := blk_cellP (i := 0) P6.out.acc rfl
      have y1 : w6.cell? ⟨w1.heap.size, 1, none⟩ = some (.int .i64 z1) := blk_cellP (i := 1) P6.out.acc rfl
      have y2 : w6.cell? ⟨w1.heap.size, 2, none⟩ = some (.string z2) := blk_cellP (i := 2) P6.out.acc rfl
      have y3 : w6.cell? ⟨w1.heap.size, 3, none⟩ = some (.string z3) := blk_cellP (i := 3) P6.out.acc rfl
      have y4 : w6.cell? ⟨w1.heap.size, 4, none⟩ = some (.slice za zk.length zc) := blk_cellP (i := 4) P6.out.acc rfl
      rw [hw6] at y0 y1 y2 y3 y4
      clear HX hrep S5 g5 hle5 hx5 hd5 hw7 b7 R7 b6 hw6
      go_wp2_with fail
      rw [← HW6.out, ← HW7.out]
      rw [hz6] at HN
      refine HN.mono ?_
      rintro e w8 ⟨⟨cs3, rfl, hrep3⟩, hB8⟩
      obtain ⟨v0, v1, v2, v3, va, vc, vk, hTT, rfl, -, -, -⟩ := node.nd_open hrep3
      clear hTT
      have P8 : Hid (Pr E w w8 w1.heap.size [.int .i64 z0, .int .i64 z1, .string z2, .string z3, .slice za zk.length zc] T1 at_ bad at5 bad5) := P7.out.step (grown_none _ hB8) (P7.out.st.on hB8) (Nat.le_refl _) (.inr rfl)
      have R8 : Hid (node.ndSh.rep w8 (fun b => w.heap.size < b ∧ b < w8.heap.size ∧ b ≠ w1.heap.size) [.int .i64 v0, .int .i64 v1, .string v2, .string v3, .slice va vk.length vc] (.mk (14, 0, ⟨#[]⟩, ⟨#[]⟩) [T1, T2])) := node.ndSh.mono hrep3 fun b hS => by
        have := hB8.size
        rcases hS with hS | hS
        · exact ⟨hS.1, by omega, hS.2.2⟩
        · exact ⟨by omega, hS.2, by omega⟩
      have r0 : w8.cell? ⟨w.heap.size, 0, none⟩ = some (.int .i64 0) := blk_cellP (i := 0) P8.out.res rfl
      have r1 : w8.cell? ⟨w.heap.size, 1, none⟩ = some (.int .i64 0) := blk_cellP (i := 1) P8.out.res rfl
      have r2 : w8.cell? ⟨w.heap.size, 2, none⟩ = some (.string ⟨#[]⟩) := blk_cellP (i := 2) P8.out.res rfl
      have r3 : w8.cell? ⟨w.heap.size, 3, none⟩ = some (.string ⟨#[]⟩) := blk_cellP (i := 3) P8.out.res rfl
      have r4 : w8.cell? ⟨w.heap.size, 4, none⟩ = some (.slice none 0 0) := blk_cellP (i := 4) P8.out.res rfl
      have fr : ∀ o, w8.frozen? ⟨w.heap.size, o, none⟩ = false := fun o => blk_freeP P8.out.res
      clear HN hrep3 hB8 y0 y1 y2 y3 y4
      go_wp2
      refine bodyPost_ret (v := .agg #[.int .i64 v0, .int .i64 v1, .string v2, .string v3, .slice va vk.length vc]) (by simp [results, Tryz.f67, go_sem, r0, r1, r2, r3, r4]) rfl ?_
      refine P8.out.give (cs' := [.int .i64 v0, .int .i64 v1, .string v2, .string v3, .slice va vk.length vc]) ?_ R8.out HWT.out
      repeat first | exact grown_self _ _ | (refine grown_by_by ?_ (grown_setP _ _ _ _))
    | false =>
      clear hb
      have y0 : wa.cell? ⟨w1.heap.size, 0, none⟩ = some (.int .i64 z0) := blk_cellP (i := 0) PA.out.acc rfl
      have y1 : wa.cell? ⟨w1.heap.size, 1, none⟩ = some (.int .i64 z1) := blk_cellP (i := 1) PA.out.acc rfl
      have y2 : wa.cell? ⟨w1.heap.size, 2, none⟩ = some (.string z2) := blk_cellP (i := 2) PA.out.acc rfl
      have y3 : wa.cell? ⟨w1.heap.size, 3, none⟩ = some (.string z3) := blk_cellP (i := 3) PA.out.acc rfl
      have y4 : wa.cell? ⟨w1.heap.size, 4, none⟩ = some (.slice za zk.length zc) := blk_cellP (i := 4) PA.out.acc rfl
      have r0 : wa.cell? ⟨w.heap.size, 0, none⟩ = some (.int .i64 0) := blk_cellP (i := 0) PA.out.res rfl
      have r1 : wa.cell? ⟨w.heap.size, 1, none⟩ = some (.int .i64 0) := blk_cellP (i := 1) PA.out.res rfl
      have r2 : wa.cell? ⟨w.heap.size, 2, none⟩ = some (.string ⟨#[]⟩) := blk_cellP (i := 2) PA.out.res rfl
      have r3 : wa.cell? ⟨w.heap.size, 3, none⟩ = some (.string ⟨#[]⟩) := blk_cellP (i := 3) PA.out.res rfl
      have r4 : wa.cell? ⟨w.heap.size, 4, none⟩ = some (.slice none 0 0) := blk_cellP (i := 4) PA.out.res rfl
      have fr : ∀ o, wa.frozen? ⟨w.heap.size, o, none⟩ = false := fun o => blk_freeP PA.out.res
      go_wp2
      refine bodyPost_ret (v := .agg #[.int .i64 z0, .int .i64 z1, .string z2, .string z3, .slice za zk.length zc]) (by simp [results, Tryz.f67, go_sem, r0, r1, r2, r3, r4]) rfl ?_
      refine PA.out.done ?_
      repeat first | exact grown_self _ _ | (refine grown_by_by ?_ (grown_setP _ _ _ _))

end Go.Proofs.YtlnpfnglphdaiaaGreatDoor.tok

namespace Go.Proofs.YtlnpfnglphdaiaaGreatDoor.tok
open Go Go.RowKit Go.Deep Go.Proofs.YtlnpfnglphdaiaaGreatDoor.rose Go.Proofs.YtlnpfnglphdaiaaGreatDoor
set_option linter.unusedVariables false
set_option linter.unusedSimpArgs false

structure Ks (E : Env) (w wr : World) (Ab : Nat) (op : Int) (s : ByteArray) (v : Value) (xs : List node.Nd) (at_ : Nat) (bad : Int) (at' : Nat) (bad' : Int) : Prop where
  st : St E wr at' bad'
  gr : w.grownBy wr (some E.cb)
  res : wr.heap[w.heap.size]? = some (.cells #[.int .i64 0, .int .i64 0, .string ⟨#[]⟩, .string ⟨#[]⟩, .slice none 0 0] 36)
  acc : wr.heap[Ab]? = some (.cells #[.int .i64 op, .int .i64 0, .string s, .string ⟨#[]⟩, v] 36)
  grown : Grown node.ndSh 36 wr (Ab + 1) v xs
  cb : E.cb < w.heap.size
  ab : w.heap.size < Ab
  top : E.B ≤ w.heap.size
  ns : ∀ b, E.NS b → b < w.heap.size
  le : at_ ≤ at'
  sz : s.size ≤ 8
  hx : 0 ≤ bad' ∨ (bad' = bad ∧ at_ < at' ∧ 8 + xs.length + node.wts xs + 2 ≤ 10 * (at' - at_))

theorem Ks.ablt {E : Env} {w wr : World} {Ab : Nat} {op : Int} {s : ByteArray} {v : Value} {xs : List node.Nd} {at_ at' : Nat} {bad bad' : Int} (h : Ks E w wr Ab op s v xs at_ bad at' bad') : Ab < wr.heap.size := (Array.getElem?_eq_some_iff.1 h.acc).1

theorem Ks.step {E : Env} {w wr w2 : World} {Ab : Nat} {op : Int} {s : ByteArray} {v : Value} {xs : List node.Nd} {at_ at' : Nat} {bad bad' : Int} (h : Ks E w wr Ab op s v xs at_ bad at' bad') (hb : Below wr.heap.size wr w2) : Ks E w w2 Ab op s v xs at_ bad at' bad' := by
  have hc := h.cb
  have ha := h.ab
  have h1 := (Array.getElem?_eq_some_iff.1 h.res).1
  exact ⟨h.st.on hb, grown_by_below h.gr hb, (hb.block _ h1).trans h.res, (hb.block _ h.ablt).trans h.acc, h.grown.on hb.size fun b _ hlt => hb.block b hlt, h.cb, h.ab, h.top, h.ns, h.le, h.sz, h.hx⟩

theorem wts_snoc (xs : List node.Nd) (x : node.Nd) : node.wts (xs ++ [x]) = node.wts xs + node.wt x := by
  induction xs with
  | nil => simp [node.wts]
  | cons a xs ih => simp [node.wts, ih]; omega

theorem Ks.push {E : Env} {w wr w1 w2 w3 w4 : World} {Ab : Nat} {op : Int} {s : ByteArray} {v : Value} {xs : List node.Nd} {at_ at' at5 : Nat} {bad bad' bad5 : Int} {cs : List Value} {T : node.Nd} {css : Nat → List Value} {F : Nat → Nat → Prop} {ua : Option Addr} {ul uc : Nat}
    (h : Ks E w wr Ab op s v xs at_ bad at' bad') (hbad : bad' < 0) (hg1 : wr.grownBy w1 (some E.cb)) (hs1 : St E w1 at5 bad5) (hle : at' ≤ at5) (hx5 : 0 ≤ bad5 ∨ (bad5 = bad' ∧ at' < at5 ∧ node.wt T + 2 ≤ 10 * (at5 - at')))
    (hr1 : node.ndSh.rep w1 (fun b => wr.heap.size ≤ b ∧ b < w1.heap.size) cs T) (hb2 : Below w1.heap.size w1 w2)
    (gr : ∀ i (h : i < xs.length), node.ndSh.rep wr (F i) (css i) xs[i]) (gf : ∀ i, i < xs.length → ∀ b, F i b → Ab + 1 ≤ b ∧ b < wr.heap.size ∧ v.ownBlock ≠ some b) (ga : ∀ i j, i < xs.length → j < xs.length → i ≠ j → ∀ b, F i b → ¬ F j b) (gv : ∀ g, v.ownBlock = some g → Ab + 1 ≤ g ∧ g < wr.heap.size)
    (ho : w3.ownsRow (Ab + 1) 36 5 (.slice ua ul uc) (xs.length + 1) (flat css xs.length ++ cs)) (hg3 : w2.grownBy w3 v.ownBlock) (hat : (Value.slice ua ul uc).ownBlock = v.ownBlock ∨ (Value.slice ua ul uc).ownBlock = some w2.heap.size)
    (hw4 : w4 = w3.setCell ⟨Ab, 4, none⟩ (.slice ua ul uc)) : Ks E w w4 Ab op s (.slice ua ul uc) (xs ++ [T]) at_ bad at5 bad5 := by
  have hc := h.cb
  have ha := h.ab
  have htop := h.top
  have h1 := (Array.getElem?_eq_some_iff.1 h.res).1
  have h2 := h.ablt
  have z1 := hg1.size
  have z2 := hb2.size
  have z3 := hg3.size
  have z4 : w4.heap.size = w3.heap.size := by rw [hw4]; simp [World.setCell]
  have hle0 := h.le
  have o4 : ∀ b, b ≠ Ab → w4.heap[b]? = w3.heap[b]? := fun b hb => by rw [hw4]; exact Below.heap_setCell _ _ _ _ hb
  have s3 : ∀ b, b < w2.heap.size → v.ownBlock ≠ some b → w3.heap[b]? = w2.heap[b]? := fun b hb hn => hg3.block b hb fun e => hn e.symm
  have nv : ∀ b, b ≤ Ab → v.ownBlock ≠ some b := fun b hb e => by have := (gv b e).1; omega
  have same : ∀ b, b < Ab → b < wr.heap.size → w4.heap[b]? = w1.heap[b]? := fun b hb hw => (o4 b (by omega)).trans ((s3 b (by omega) (nv b (by omega))).trans (hb2.block b (by omega)))
  have sameR : ∀ b, b < Ab → b < wr.heap.size → b ≠ E.cb → w4.heap[b]? = wr.heap[b]? := fun b hb hw hn => (same b hb hw).trans (hg1.block b hw fun e => hn (by simp only [Option.some.injEq] at e; omega))
  have acc3 : w3.heap[Ab]? = some (.cells #[.int .i64 op, .int .i64 0, .string s, .string ⟨#[]⟩, v] 36) := (s3 Ab (by omega) (nv Ab (Nat.le_refl _))).trans ((hb2.block Ab (by omega)).trans ((hg1.block Ab h2 fun e => by simp only [Option.some.injEq] at e; omega).trans h.acc))
  have acc4 : w4.heap[Ab]? = some (.cells #[.int .i64 op, .int .i64 0, .string s, .string ⟨#[]⟩, .slice ua ul uc] 36) := by
    rw [hw4]; simp [World.setCell, Array.getElem?_modify, acc3]
  have G3 : Grown node.ndSh 36 w3 (Ab + 1) (.slice ua ul uc) (xs ++ [T]) :=
    Grown.push (w := wr) (w1 := w2) (css := css) (F := F) (v := v) (lo := wr.heap.size) (hi := w1.heap.size) (cs := cs)
      (fun j hj => node.ndSh.on (gr j hj) fun q hq => (hb2.block q (by have := (gf j hj q hq).2.1; omega)).trans (hg1.block q (gf j hj q hq).2.1 fun e => by have := (gf j hj q hq).1; simp only [Option.some.injEq] at e; omega))
      gf ga (fun g hg => (gv g hg).2) (node.ndSh.on hr1 fun q hq => hb2.block q hq.2) (by omega) (by omega) (by omega) ho hg3 hat
  refine ⟨hs1.keep (by omega) fun b hS => ?_, ⟨?_, ?_, ?_, by have := h.gr.size; omega, fun q hq hn => ?_⟩, (sameR _ (by omega) h1 (by omega)).trans h.res, acc4, G3.on (by omega) fun b hb hlt => o4 b (by omega), h.cb, h.ab, h.top, h.ns, by omega, h.sz, ?_⟩
  · refine same b ?_ ?_
    all_goals
      rcases hS with hS | hS | rfl
      · have := h.ns b hS; omega
      · omega
      · omega
  · rw [hw4]; exact hg3.os.trans (hb2.os.trans (hg1.os.trans h.gr.os))
  · rw [hw4]; exact hg3.tape.trans (hb2.tape.trans (hg1.tape.trans h.gr.tape))
  · rw [hw4]; exact hg3.output.trans (hb2.output.trans (hg1.output.trans h.gr.output))
  · exact (sameR q (by omega) (by have := h.gr.size; omega) fun e => hn (by rw [e])).trans (h.gr.block q hq hn)
  · rcases hx5 with h5 | ⟨e5, h5, h5'⟩
    · exact .inl h5
    · rcases h.hx with h' | ⟨e', h', h''⟩
      · omega
      · refine .inr ⟨by omega, by omega, ?_⟩
        rw [wts_snoc, List.length_append, List.length_singleton]
        omega

/-- The kids' node is the answer. -/
theorem Ks.done {E : Env} {w wr w' : World} {Ab : Nat} {op : Int} {s : ByteArray} {v : Value} {xs : List node.Nd} {at_ at' : Nat} {bad bad' : Int} (h : Ks E w wr Ab op s v xs at_ bad at' bad') (hop : -9223372036854775808 ≤ op ∧ op ≤ 9223372036854775807) (hg : wr.grownBy w' (some w.heap.size)) :
    Nodes E w at_ bad (.returned (.agg #[.int .i64 op, .int .i64 0, .string s, .string ⟨#[]⟩, v])) w' := by
  have hz := h.sz
  have hab := h.ab
  have P : Pr E w wr Ab [.int .i64 op, .int .i64 0, .string s, .string ⟨#[]⟩, v] (.mk (op, 0, s, ⟨#[]⟩) xs) at_ bad at' bad' := by
    refine ⟨h.st, h.gr, h.res, h.acc, node.nd_shut hop (by omega) (by unfold maxLen; omega) (by decide) (node.ndSh.slice.mono (sslice_rep rfl (fun h => h) (h.grown.sslice (by decide))) fun b hS => ⟨by omega, hS.2, by omega⟩), h.cb, h.ab, h.top, h.ns, h.le, ?_⟩
    rcases h.hx with h' | ⟨e', h', h''⟩
    · exact .inl h'
    · refine .inr ⟨e', h', ?_⟩
      have : node.wt (.mk (op, 0, s, ⟨#[]⟩) xs) = s.size + xs.length + node.wts xs := by rw [node.wt]; show s.size + 0 + _ + _ = _; omega
      rw [this]
      omega
  exact P.done hg

end Go.Proofs.YtlnpfnglphdaiaaGreatDoor.tok
