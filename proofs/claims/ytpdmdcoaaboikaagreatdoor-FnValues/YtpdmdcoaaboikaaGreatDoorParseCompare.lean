/-
  The model's l3Compare, from what l3Sum says.
-/
import Derived.Test.YtpdmdcoaaboikaaGreatDoorParseSum
namespace Go.Proofs.YtpdmdcoaaboikaaGreatDoor.tok
open Go Go.RowKit Go.Deep Go.Proofs.YtpdmdcoaaboikaaGreatDoor.rose Go.Proofs.YtpdmdcoaaboikaaGreatDoor
set_option linter.unusedVariables false
set_option linter.unusedSimpArgs false

/-- Another tree is the answer. -/
theorem Pr.give {E : Env} {w wr w' : World} {Ab : Nat} {cs cs' : List Value} {T T' : node.Nd} {at_ at' : Nat} {bad bad' : Int} (h : Pr E w wr Ab cs T at_ bad at' bad') (hg : wr.grownBy w' (some w.heap.size)) (hr : node.ndSh.rep wr (fun b => w.heap.size < b ∧ b < wr.heap.size ∧ b ≠ Ab) cs' T') (hx : 0 ≤ bad' ∨ (bad' = bad ∧ at_ < at' ∧ node.wt T' + 2 ≤ 10 * (at' - at_))) : Nodes E w at_ bad (.returned (.agg cs'.toArray)) w' := by
  have hc := h.cb
  have ht := h.top
  have ha := h.ab
  have hz := h.gr.size
  have h1 := (Array.getElem?_eq_some_iff.1 h.res).1
  refine ⟨at', bad', cs', T', rfl, node.ndSh.mono (node.ndSh.on hr fun b hS => hg.block b hS.2.1 fun e => by simp only [Option.some.injEq] at e; omega) fun b hS => ⟨by omega, Nat.lt_of_lt_of_le hS.2.1 hg.size⟩, h.st.keep hg.size fun b hS => hg.block b ?_ fun e => ?_, ⟨hg.os.trans h.gr.os, hg.tape.trans h.gr.tape, hg.output.trans h.gr.output, Nat.le_trans h.gr.size hg.size, fun q hq hn => (hg.block q (by omega) fun e => by simp only [Option.some.injEq] at e; omega).trans (h.gr.block q hq hn)⟩, h.le, hx⟩
  · rcases hS with hS | hS | rfl
    · have := h.ns b hS; omega
    · omega
    · omega
  · simp only [Option.some.injEq] at e
    rcases hS with hS | hS | hS
    · have := h.ns _ hS; omega
    · omega
    · omega

set_option maxRecDepth 100000 in
set_option maxHeartbeats 8000000 in
theorem compare_of (E : Env) (N : Nat) (HE : ∀ w at_ bad, St E w at_ bad → E.toks.length - at_ ≤ N → Calls Tryz.prog 88 #[.pointer (some ⟨E.cb, 0, none⟩)] w (Nodes E w at_ bad))
    (w : World) (at_ : Nat) (bad : Int) (h : St E w at_ bad) (hN : E.toks.length - at_ ≤ N) :
    Calls Tryz.prog 67 #[.pointer (some ⟨E.cb, 0, none⟩)] w (Nodes E w at_ bad) := by
  have HEE : Hid (∀ w at_ bad, St E w at_ bad → E.toks.length - at_ ≤ N → Calls Tryz.prog 88 #[.pointer (some ⟨E.cb, 0, none⟩)] w (Nodes E w at_ bad)) := HE
  have HS : Hid (St E w at_ bad) := h
  have HLT : Hid (E.toks.length - at_ ≤ N) := hN
  obtain ⟨w0, hw0⟩ : ∃ w0, w0 = w.alloc (.cells #[.int .i64 0, .int .i64 0, .string ⟨#[]⟩, .string ⟨#[]⟩, .slice none 0 0] 36) := ⟨_, rfl⟩
  have HW0 : Hid (w0 = w.alloc (.cells #[.int .i64 0, .int .i64 0, .string ⟨#[]⟩, .string ⟨#[]⟩, .slice none 0 0] 36)) := hw0
  have HX := HE w0 at_ bad (h.on (by rw [hw0]; exact (Below.refl _ _).alloc (Nat.le_refl _) _)) hN
  clear hw0 HE h hN
  go_enter Tryz.func67, Tryz.ntmps67
  go_wp2_with fail
  rw [← HW0.out]
  refine HX.mono ?_
  rintro e w1 ⟨at1, bad1, cs, T1, rfl, hrep, S1, g1, hle1, hx1⟩
  obtain ⟨z0, z1, z2, z3, za, zc, zk, hTT, rfl, -, -, -⟩ := node.nd_open hrep
  clear hTT
  have P2 : Hid (Pr E w (w1.alloc (.cells #[.int .i64 z0, .int .i64 z1, .string z2, .string z3, .slice za zk.length zc] 36)) w1.heap.size [.int .i64 z0, .int .i64 z1, .string z2, .string z3, .slice za zk.length zc] T1 at_ bad at1 bad1) := Pr.first HW0.out HS.out hrep S1 g1 hle1 hx1 rfl
  clear HX hrep S1 g1 hle1 hx1
  obtain ⟨wr, hwr⟩ : ∃ wr, wr = w1.alloc (.cells #[.int .i64 z0, .int .i64 z1, .string z2, .string z3, .slice za zk.length zc] 36) := ⟨_, rfl⟩
  have HWR : Hid (wr = w1.alloc (.cells #[.int .i64 z0, .int .i64 z1, .string z2, .string z3, .slice za zk.length zc] 36)) := hwr
  have HP : Hid (Pr E w wr w1.heap.size [.int .i64 z0, .int .i64 z1, .string z2, .string z3, .slice za zk.length zc] T1 at_ bad at1 bad1) := by rw [hwr]; exact P2.out
  clear P2 hwr
  have HX := sign3_any E wr at1 bad1 HP.out.st ⟨#[60]⟩
  go_wp2_with fail
  rw [← HWR.out]
  refine HX.mono ?_
  rintro e w3 ⟨⟨b, rfl, hb⟩, hB⟩
  have P3 : Hid (Pr E w w3 w1.heap.size [.int .i64 z0, .int .i64 z1, .string z2, .string z3, .slice za zk.length zc] T1 at_ bad at1 bad1) := HP.out.step (grown_none _ hB) (HP.out.st.on hB) (Nat.le_refl _) (.inr rfl)
  clear hB HX
  cases b with
  | true =>
      have HBD : Hid (bad1 < 0 ∧ at1 + 1 < E.toks.length) := hb rfl
      clear hb
      have HX := next_any E w3 at1 bad1 P3.out.st HBD.out.2
      go_wp2_with fail
      refine HX.mono ?_
      rintro e w4 ⟨rfl, S4, g4⟩
      have P4 : Hid (Pr E w w4 w1.heap.size [.int .i64 z0, .int .i64 z1, .string z2, .string z3, .slice za zk.length zc] T1 at_ bad (at1 + 1) bad1) := P3.out.step g4 S4 (Nat.le_succ _) (.inr rfl)
      clear S4 g4 HX
      have HX := HEE.out w4 (at1 + 1) bad1 P4.out.st (by have := HLT.out; have := P4.out.le; omega)
      go_wp2_with fail
      refine HX.mono ?_
      rintro e w5 ⟨at5, bad5, cs, T2, rfl, hrep, S5, g5, hle5, hx5⟩
      obtain ⟨u0, u1, u2, u3, ua, uc, uk, hTT, rfl, -, -, -⟩ := node.nd_open hrep
      clear hTT
      obtain ⟨w6, hw6⟩ : ∃ w6, w6 = w5.alloc (.cells #[.int .i64 u0, .int .i64 u1, .string u2, .string u3, .slice ua uk.length uc] 36) := ⟨_, rfl⟩
      have HW6 : Hid (w6 = w5.alloc (.cells #[.int .i64 u0, .int .i64 u1, .string u2, .string u3, .slice ua uk.length uc] 36)) := hw6
      have b6 : Below w5.heap.size w5 w6 := by rw [hw6]; exact (Below.refl _ _).alloc (Nat.le_refl _) _
      have hz6 : w6.heap.size = w5.heap.size + 1 := by rw [hw6]; simp
      have hd5 : 0 ≤ bad5 ∨ bad5 = bad1 := by
        rcases hx5 with h | ⟨h, -⟩
        · exact .inl h
        · exact .inr h
      have P6 : Hid (Pr E w w6 w1.heap.size [.int .i64 z0, .int .i64 z1, .string z2, .string z3, .slice za zk.length zc] T1 at_ bad at5 bad5) := (P4.out.step g5 S5 hle5 hd5).step (grown_none _ b6) (S5.on b6) (Nat.le_refl _) (.inr rfl)
      have hab4 := P4.out.ablt
      have hwb := P4.out.ab
      have hz5 := g5.size
      have A6 : Hid (w6.heap[w5.heap.size]? = some (.cells #[.int .i64 u0, .int .i64 u1, .string u2, .string u3, .slice ua uk.length uc] 36)) := by show _ = _; rw [hw6]; exact alloc_top _ _
      obtain ⟨w7, hw7⟩ : ∃ w7, w7 = w6.alloc (.cells #[.int .i64 z0, .int .i64 z1, .string z2, .string z3, .slice za zk.length zc, .int .i64 u0, .int .i64 u1, .string u2, .string u3, .slice ua uk.length uc] 36) := ⟨_, rfl⟩
      have HW7 : Hid (w7 = w6.alloc (.cells #[.int .i64 z0, .int .i64 z1, .string z2, .string z3, .slice za zk.length zc, .int .i64 u0, .int .i64 u1, .string u2, .string u3, .slice ua uk.length uc] 36)) := hw7
      have b7 : Below w6.heap.size w6 w7 := by rw [hw7]; exact (Below.refl _ _).alloc (Nat.le_refl _) _
      have hz7 : w7.heap.size = w6.heap.size + 1 := by rw [hw7]; simp
      have P7 : Hid (Pr E w w7 w1.heap.size [.int .i64 z0, .int .i64 z1, .string z2, .string z3, .slice za zk.length zc] T1 at_ bad at5 bad5) := P6.out.step (grown_none _ b7) (P6.out.st.on b7) (Nat.le_refl _) (.inr rfl)
      have R7 := pair_rep (W := w7) (S := fun b => w.heap.size < b ∧ b < w7.heap.size ∧ b ≠ w1.heap.size) (by rw [hw7]; exact alloc_top _ _) ⟨by omega, by omega, by omega⟩ P7.out.rep (node.ndSh.mono (node.ndSh.on (node.ndSh.on hrep fun b hS => b6.block b hS.2) fun b hS => b7.block b (by omega)) fun b hS => ⟨by omega, by omega, by omega⟩)
      have HN := node3_any 13 (by omega) [T1, T2] w6.heap.size 0 2 w7 _ (fun b hS => hS.2.1) (by simp) R7
      have HWT : Hid (0 ≤ bad5 ∨ (bad5 = bad ∧ at_ < at5 ∧ node.wt (.mk (13, 0, ⟨#[]⟩, ⟨#[]⟩) [T1, T2]) + 2 ≤ 10 * (at5 - at_))) := by
        rcases hx5 with h5 | ⟨e5, h5, h5'⟩
        · exact .inl h5
        · rcases P4.out.hx with h4 | ⟨e4, h4, h4'⟩
          · exact .inl (by omega)
          · refine .inr ⟨by omega, by omega, ?_⟩
            rcases P3.out.hx with h3 | ⟨e3, h3, h3'⟩
            · have := HBD.out.1; omega
            · rw [pair_wt]
              omega
      have y0 : w6.cell? ⟨w1.heap.size, 0, none⟩ = some (.int .i64 z0) := blk_cellP (i := 0) P6.out.acc rfl
      have y1 : w6.cell? ⟨w1.heap.size, 1, none⟩ = some (.int .i64 z1) := blk_cellP (i := 1) P6.out.acc rfl
      have y2 : w6.cell? ⟨w1.heap.size, 2, none⟩ = some (.string z2) := blk_cellP (i := 2) P6.out.acc rfl
      have y3 : w6.cell? ⟨w1.heap.size, 3, none⟩ = some (.string z3) := blk_cellP (i := 3) P6.out.acc rfl
      have y4 : w6.cell? ⟨w1.heap.size, 4, none⟩ = some (.slice za zk.length zc) := blk_cellP (i := 4) P6.out.acc rfl
      rw [hw6] at y0 y1 y2 y3 y4
      clear HX hrep S5 g5 hle5 hx5 hd5 hw7 b7 R7 b6 hw6
      go_wp2_with fail
      rw [← HW6.out, ← HW7.out]
      rw [hz6] at HN
      refine HN.mono ?_
      rintro e w8 ⟨⟨cs3, rfl, hrep3⟩, hB8⟩
      obtain ⟨v0, v1, v2, v3, va, vc, vk, hTT, rfl, -, -, -⟩ := node.nd_open hrep3
      clear hTT
      have P8 : Hid (Pr E w w8 w1.heap.size [.int .i64 z0, .int .i64 z1, .string z2, .string z3, .slice za zk.length zc] T1 at_ bad at5 bad5) := P7.out.step (grown_none _ hB8) (P7.out.st.on hB8) (Nat.le_refl _) (.inr rfl)
      have R8 : Hid (node.ndSh.rep w8 (fun b => w.heap.size < b ∧ b < w8.heap.size ∧ b ≠ w1.heap.size) [.int .i64 v0, .int .i64 v1, .string v2, .string v3, .slice va vk.length vc] (.mk (13, 0, ⟨#[]⟩, ⟨#[]⟩) [T1, T2])) := node.ndSh.mono hrep3 fun b hS => by
        have := hB8.size
        rcases hS with hS | hS
        · exact ⟨hS.1, by omega, hS.2.2⟩
        · exact ⟨by omega, hS.2, by omega⟩
      have r0 : w8.cell? ⟨w.heap.size, 0, none⟩ = some (.int .i64 0) := blk_cellP (i := 0) P8.out.res rfl
      have r1 : w8.cell? ⟨w.heap.size, 1, none⟩ = some (.int .i64 0) := blk_cellP (i := 1) P8.out.res rfl
      have r2 : w8.cell? ⟨w.heap.size, 2, none⟩ = some (.string ⟨#[]⟩) := blk_cellP (i := 2) P8.out.res rfl
      have r3 : w8.cell? ⟨w.heap.size, 3, none⟩ = some (.string ⟨#[]⟩) := blk_cellP (i := 3) P8.out.res rfl
      have r4 : w8.cell? ⟨w.heap.size, 4, none⟩ = some (.slice none 0 0) := blk_cellP (i := 4) P8.out.res rfl
      have fr : ∀ o, w8.frozen? ⟨w.heap.size, o, none⟩ = false := fun o => blk_freeP P8.out.res
      clear HN hrep3 hB8 y0 y1 y2 y3 y4
      go_wp2
      refine bodyPost_ret (v := .agg #[.int .i64 v0, .int .i64 v1, .string v2, .string v3, .slice va vk.length vc]) (by simp [results, Tryz.f67, go_sem, r0, r1, r2, r3, r4]) rfl ?_
      refine P8.out.give (cs' := [.int .i64 v0, .int .i64 v1, .string v2, .string v3, .slice va vk.length vc]) ?_ R8.out HWT.out
      repeat first | exact grown_self _ _ | (refine grown_by_by ?_ (grown_setP _ _ _ _))
  | false =>
    clear hb
    have HX := sign3_any E w3 at1 bad1 P3.out.st ⟨#[61, 61]⟩
    go_wp2_with fail
    refine HX.mono ?_
    rintro e wa ⟨⟨b, rfl, hb⟩, hB⟩
    have PA : Hid (Pr E w wa w1.heap.size [.int .i64 z0, .int .i64 z1, .string z2, .string z3, .slice za zk.length zc] T1 at_ bad at1 bad1) := P3.out.step (grown_none _ hB) (P3.out.st.on hB) (Nat.le_refl _) (.inr rfl)
    clear hB HX
    cases b with
    | true =>
      have HBD : Hid (bad1 < 0 ∧ at1 + 1 < E.toks.length) := hb rfl
      clear hb
      have HX := next_any E wa at1 bad1 PA.out.st HBD.out.2
      go_wp2_with fail
      refine HX.mono ?_
      rintro e w4 ⟨rfl, S4, g4⟩
      have P4 : Hid (Pr E w w4 w1.heap.size [.int .i64 z0, .int .i64 z1, .string z2, .string z3, .slice za zk.length zc] T1 at_ bad (at1 + 1) bad1) := PA.out.step g4 S4 (Nat.le_succ _) (.inr rfl)
      clear S4 g4 HX
      have HX := HEE.out w4 (at1 + 1) bad1 P4.out.st (by have := HLT.out; have := P4.out.le; omega)
      go_wp2_with fail
      refine HX.mono ?_
      rintro e w5 ⟨at5, bad5, cs, T2, rfl, hrep, S5, g5, hle5, hx5⟩
      obtain ⟨u0, u1, u2, u3, ua, uc, uk, hTT, rfl, -, -, -⟩ := node.nd_open hrep
      clear hTT
      obtain ⟨w6, hw6⟩ : ∃ w6, w6 = w5.alloc (.cells #[.int .i64 u0, .int .i64 u1, .string u2, .string u3, .slice ua uk.length uc] 36) := ⟨_, rfl⟩
      have HW6 : Hid (w6 = w5.alloc (.cells #[.int .i64 u0, .int .i64 u1, .string u2, .string u3, .slice ua uk.length uc] 36)) := hw6
      have b6 : Below w5.heap.size w5 w6 := by rw [hw6]; exact (Below.refl _ _).alloc (Nat.le_refl _) _
      have hz6 : w6.heap.size = w5.heap.size + 1 := by rw [hw6]; simp
      have hd5 : 0 ≤ bad5 ∨ bad5 = bad1 := by
        rcases hx5 with h | ⟨h, -⟩
        · exact .inl h
        · exact .inr h
      have P6 : Hid (Pr E w w6 w1.heap.size [.int .i64 z0, .int .i64 z1, .string z2, .string z3, .slice za zk.length zc] T1 at_ bad at5 bad5) := (P4.out.step g5 S5 hle5 hd5).step (grown_none _ b6) (S5.on b6) (Nat.le_refl _) (.inr rfl)
      have hab4 := P4.out.ablt
      have hwb := P4.out.ab
      have hz5 := g5.size
      have A6 : Hid (w6.heap[w5.heap.size]? = some (.cells #[.int .i64 u0, .int .i64 u1, .string u2, .string u3, .slice ua uk.length uc] 36)) := by show _ = _; rw [hw6]; exact alloc_top _ _
      obtain ⟨w7, hw7⟩ : ∃ w7, w7 = w6.alloc (.cells #[.int .i64 z0, .int .i64 z1, .string z2, .string z3, .slice za zk.length zc, .int .i64 u0, .int .i64 u1, .string u2, .string u3, .slice ua uk.length uc] 36) := ⟨_, rfl⟩
      have HW7 : Hid (w7 = w6.alloc (.cells #[.int .i64 z0, .int .i64 z1, .string z2, .string z3, .slice za zk.length zc, .int .i64 u0, .int .i64 u1, .string u2, .string u3, .slice ua uk.length uc] 36)) := hw7
      have b7 : Below w6.heap.size w6 w7 := by rw [hw7]; exact (Below.refl _ _).alloc (Nat.le_refl _) _
      have hz7 : w7.heap.size = w6.heap.size + 1 := by rw [hw7]; simp
      have P7 : Hid (Pr E w w7 w1.heap.size [.int .i64 z0, .int .i64 z1, .string z2, .string z3, .slice za zk.length zc] T1 at_ bad at5 bad5) := P6.out.step (grown_none _ b7) (P6.out.st.on b7) (Nat.le_refl _) (.inr rfl)
      have R7 := pair_rep (W := w7) (S := fun b => w.heap.size < b ∧ b < w7.heap.size ∧ b ≠ w1.heap.size) (by rw [hw7]; exact alloc_top _ _) ⟨by omega, by omega, by omega⟩ P7.out.rep (node.ndSh.mono (node.ndSh.on (node.ndSh.on hrep fun b hS => b6.block b hS.2) fun b hS => b7.block b (by omega)) fun b hS => ⟨by omega, by omega, by omega⟩)
      have HN := node3_any 14 (by omega) [T1, T2] w6.heap.size 0 2 w7 _ (fun b hS => hS.2.1) (by simp) R7
      have HWT : Hid (0 ≤ bad5 ∨ (bad5 = bad ∧ at_ < at5 ∧ node.wt (.mk (14, 0, ⟨#[]⟩, ⟨#[]⟩) [T1, T2]) + 2 ≤ 10 * (at5 - at_))) := by
        rcases hx5 with h5 | ⟨e5, h5, h5'⟩
        · exact .inl h5
        · rcases P4.out.hx with h4 | ⟨e4, h4, h4'⟩
          · exact .inl (by omega)
          · refine .inr ⟨by omega, by omega, ?_⟩
            rcases PA.out.hx with h3 | ⟨e3, h3, h3'⟩
            · have := HBD.out.1; omega
            · rw [pair_wt]
              omega
      have y0 : w6.cell? ⟨w1.heap.size, 0, none⟩ = some (.int .i64 z0) := blk_cellP (i := 0) P6.out.acc rfl
      have y1 : w6.cell? ⟨w1.heap.size, 1, none⟩ = some (.int .i64 z1) := blk_cellP (i := 1) P6.out.acc rfl
      have y2 : w6.cell? ⟨w1.heap.size, 2, none⟩ = some (.string z2) := blk_cellP (i := 2) P6.out.acc rfl
      have y3 : w6.cell? ⟨w1.heap.size, 3, none⟩ = some (.string z3) := blk_cellP (i := 3) P6.out.acc rfl
      have y4 : w6.cell? ⟨w1.heap.size, 4, none⟩ = some (.slice za zk.length zc) := blk_cellP (i := 4) P6.out.acc rfl
      rw [hw6] at y0 y1 y2 y3 y4
      clear HX hrep S5 g5 hle5 hx5 hd5 hw7 b7 R7 b6 hw6
      go_wp2_with fail
      rw [← HW6.out, ← HW7.out]
      rw [hz6] at HN
      refine HN.mono ?_
      rintro e w8 ⟨⟨cs3, rfl, hrep3⟩, hB8⟩
      obtain ⟨v0, v1, v2, v3, va, vc, vk, hTT, rfl, -, -, -⟩ := node.nd_open hrep3
      clear hTT
      have P8 : Hid (Pr E w w8 w1.heap.size [.int .i64 z0, .int .i64 z1, .string z2, .string z3, .slice za zk.length zc] T1 at_ bad at5 bad5) := P7.out.step (grown_none _ hB8) (P7.out.st.on hB8) (Nat.le_refl _) (.inr rfl)
      have R8 : Hid (node.ndSh.rep w8 (fun b => w.heap.size < b ∧ b < w8.heap.size ∧ b ≠ w1.heap.size) [.int .i64 v0, .int .i64 v1, .string v2, .string v3, .slice va vk.length vc] (.mk (14, 0, ⟨#[]⟩, ⟨#[]⟩) [T1, T2])) := node.ndSh.mono hrep3 fun b hS => by
        have := hB8.size
        rcases hS with hS | hS
        · exact ⟨hS.1, by omega, hS.2.2⟩
        · exact ⟨by omega, hS.2, by omega⟩
      have r0 : w8.cell? ⟨w.heap.size, 0, none⟩ = some (.int .i64 0) := blk_cellP (i := 0) P8.out.res rfl
      have r1 : w8.cell? ⟨w.heap.size, 1, none⟩ = some (.int .i64 0) := blk_cellP (i := 1) P8.out.res rfl
      have r2 : w8.cell? ⟨w.heap.size, 2, none⟩ = some (.string ⟨#[]⟩) := blk_cellP (i := 2) P8.out.res rfl
      have r3 : w8.cell? ⟨w.heap.size, 3, none⟩ = some (.string ⟨#[]⟩) := blk_cellP (i := 3) P8.out.res rfl
      have r4 : w8.cell? ⟨w.heap.size, 4, none⟩ = some (.slice none 0 0) := blk_cellP (i := 4) P8.out.res rfl
      have fr : ∀ o, w8.frozen? ⟨w.heap.size, o, none⟩ = false := fun o => blk_freeP P8.out.res
      clear HN hrep3 hB8 y0 y1 y2 y3 y4
      go_wp2
      refine bodyPost_ret (v := .agg #[.int .i64 v0, .int .i64 v1, .string v2, .string v3, .slice va vk.length vc]) (by simp [results, Tryz.f67, go_sem, r0, r1, r2, r3, r4]) rfl ?_
      refine P8.out.give (cs' := [.int .i64 v0, .int .i64 v1, .string v2, .string v3, .slice va vk.length vc]) ?_ R8.out HWT.out
      repeat first | exact grown_self _ _ | (refine grown_by_by ?_ (grown_setP _ _ _ _))
    | false =>
      clear hb
      have y0 : wa.cell? ⟨w1.heap.size, 0, none⟩ = some (.int .i64 z0) := blk_cellP (i := 0) PA.out.acc rfl
      have y1 : wa.cell? ⟨w1.heap.size, 1, none⟩ = some (.int .i64 z1) := blk_cellP (i := 1) PA.out.acc rfl
      have y2 : wa.cell? ⟨w1.heap.size, 2, none⟩ = some (.string z2) := blk_cellP (i := 2) PA.out.acc rfl
      have y3 : wa.cell? ⟨w1.heap.size, 3, none⟩ = some (.string z3) := blk_cellP (i := 3) PA.out.acc rfl
      have y4 : wa.cell? ⟨w1.heap.size, 4, none⟩ = some (.slice za zk.length zc) := blk_cellP (i := 4) PA.out.acc rfl
      have r0 : wa.cell? ⟨w.heap.size, 0, none⟩ = some (.int .i64 0) := blk_cellP (i := 0) PA.out.res rfl
      have r1 : wa.cell? ⟨w.heap.size, 1, none⟩ = some (.int .i64 0) := blk_cellP (i := 1) PA.out.res rfl
      have r2 : wa.cell? ⟨w.heap.size, 2, none⟩ = some (.string ⟨#[]⟩) := blk_cellP (i := 2) PA.out.res rfl
      have r3 : wa.cell? ⟨w.heap.size, 3, none⟩ = some (.string ⟨#[]⟩) := blk_cellP (i := 3) PA.out.res rfl
      have r4 : wa.cell? ⟨w.heap.size, 4, none⟩ = some (.slice none 0 0) := blk_cellP (i := 4) PA.out.res rfl
      have fr : ∀ o, wa.frozen? ⟨w.heap.size, o, none⟩ = false := fun o => blk_freeP PA.out.res
      go_wp2
      refine bodyPost_ret (v := .agg #[.int .i64 z0, .int .i64 z1, .string z2, .string z3, .slice za zk.length zc]) (by simp [results, Tryz.f67, go_sem, r0, r1, r2, r3, r4]) rfl ?_
      refine PA.out.done ?_
      repeat first | exact grown_self _ _ | (refine grown_by_by ?_ (grown_setP _ _ _ _))

end Go.Proofs.YtpdmdcoaaboikaaGreatDoor.tok
