/-
  The model's l3Let and l3Rec, from what l3E says with fewer tokens left.
  What a parsing function of the model holds while it goes on: its answer's block, trees in blocks of their own; a node of three kids.
-/
import Derived.Test.YtlnpfnglphdaiaaGreatDoorB1
import Derived.Test.YtlnpfnglphdaiaaGreatDoorB2
import Derived.Test.YtlnpfnglphdaiaaGreatDoorB3
import Derived.Test.YtlnpfnglphdaiaaGreatDoorB4
import Derived.Test.YtlnpfnglphdaiaaGreatDoorB5
import Derived.Test.YtlnpfnglphdaiaaGreatDoorB6
import Derived.Test.YtlnpfnglphdaiaaGreatDoorB7
import Derived.Test.YtlnpfnglphdaiaaGreatDoorB8
import Derived.Test.YtlnpfnglphdaiaaGreatDoorB9
import Derived.Test.YtlnpfnglphdaiaaGreatDoorB10
import Derived.Test.YtlnpfnglphdaiaaGreatDoorB11
import Derived.Test.YtlnpfnglphdaiaaGreatDoorB12
import Derived.Test.YtlnpfnglphdaiaaGreatDoorB13
import Derived.Test.YtlnpfnglphdaiaaGreatDoorB14
import Derived.Test.YtlnpfnglphdaiaaGreatDoorB15
import Derived.Test.YtlnpfnglphdaiaaGreatDoorB16
import Derived.Test.YtlnpfnglphdaiaaGreatDoorB17
import Derived.Test.YtlnpfnglphdaiaaGreatDoorB18
import Derived.Test.YtlnpfnglphdaiaaGreatDoorB19
import Derived.Test.YtlnpfnglphdaiaaGreatDoorB20
import Derived.Test.YtlnpfnglphdaiaaGreatDoorB21
import Derived.Test.YtlnpfnglphdaiaaGreatDoorB22
import Derived.Test.YtlnpfnglphdaiaaGreatDoorB23
import Derived.Test.YtlnpfnglphdaiaaGreatDoorB24
namespace Go.Proofs.YtlnpfnglphdaiaaGreatDoor.tok
open Go Go.RowKit Go.Deep Go.Proofs.YtlnpfnglphdaiaaGreatDoor.rose Go.Proofs.YtlnpfnglphdaiaaGreatDoor
set_option linter.unusedVariables false
set_option linter.unusedSimpArgs false

theorem Pr.first3 {E : Env} {w w0 w1 w2 : World} {cs : List Value} {T : node.Nd} {at_ at' : Nat} {bad bad' : Int} (hp0 : w0.heap[w.heap.size]? = some (.cells #[.int .i64 0, .int .i64 0, .string ⟨#[]⟩, .string ⟨#[]⟩, .slice none 0 0] 36)) (b0 : w.grownBy w0 (some E.cb)) (h : St E w at_ bad)
    (hr : node.ndSh.rep w1 (fun b => w0.heap.size ≤ b ∧ b < w1.heap.size) cs T) (hs : St E w1 at' bad') (hg : w0.grownBy w1 (some E.cb)) (hle : at_ ≤ at') (hx : 0 ≤ bad' ∨ (bad' = bad ∧ at_ < at' ∧ node.wt T + 2 ≤ 10 * (at' - at_))) (hw2 : w2 = w1.alloc (.cells cs.toArray 36)) :
    Pr E w w2 w1.heap.size cs T at_ bad at' bad' := by
  have hcb := h.cblt
  have hz0 := (Array.getElem?_eq_some_iff.1 hp0).1
  have hz1 := hg.size
  have b2 : Below w1.heap.size w1 w2 := by rw [hw2]; exact (Below.refl _ _).alloc (Nat.le_refl _) _
  have hz2 : w2.heap.size = w1.heap.size + 1 := by rw [hw2]; simp
  exact ⟨hs.on b2, grown_by_below (grown_by_by b0 hg) b2, (b2.block _ (by omega)).trans ((hg.block _ (by omega) fun e => by simp only [Option.some.injEq] at e; omega).trans hp0), by rw [hw2]; exact alloc_top _ _, node.ndSh.mono (node.ndSh.on hr fun b hS => b2.block b hS.2) fun b hS => ⟨by omega, by omega, by omega⟩, hcb, by omega, h.top, fun b hb => (h.ns b hb).1, hle, hx⟩

theorem two_wt (op : Int) (s t : ByteArray) (T T2 : node.Nd) : node.wt (.mk (op, 0, s, t) [T, T2]) = s.size + t.size + 2 + (node.wt T + node.wt T2) := by
  rw [node.wt, node.wts, node.wts, node.wts]
  show s.size + t.size + 2 + (node.wt T + (node.wt T2 + 0)) = _
  omega
theorem res_on {E : Env} {w w1 w2 : World} {Z : Obj} (hp : w1.heap[w.heap.size]? = some Z) (hg : w1.grownBy w2 (some E.cb)) (hc : E.cb < w.heap.size) : w2.heap[w.heap.size]? = some Z :=
  (hg.block _ (Array.getElem?_eq_some_iff.1 hp).1 fun e => by simp only [Option.some.injEq] at e; omega).trans hp


set_option maxRecDepth 100000 in
set_option maxHeartbeats 8000000 in
theorem let_of (E : Env) (N : Nat) (HE : ∀ w at_ bad, St E w at_ bad → E.toks.length - at_ < N → Calls Tryz.prog 45 #[.pointer (some ⟨E.cb, 0, none⟩)] w (Nodes E w at_ bad))
    (w : World) (at_ : Nat) (bad : Int) (h : St E w at_ bad) (hN : E.toks.length - at_ ≤ N) (hlt : at_ + 1 < E.toks.length) :
    Calls Tryz.prog 63 #[.pointer (some ⟨E.cb, 0, none⟩)] w (Nodes E w at_ bad) := by
  have HEE : Hid (∀ w at_ bad, St E w at_ bad → E.toks.length - at_ < N → Calls Tryz.prog 45 #[.pointer (some ⟨E.cb, 0, none⟩)] w (Nodes E w at_ bad)) := HE
  have HS : Hid (St E w at_ bad) := h
  have HLT : Hid (E.toks.length - at_ ≤ N ∧ at_ + 1 < E.toks.length) := ⟨hN, hlt⟩
  obtain ⟨w0, hw0⟩ : ∃ w0, w0 = w.alloc (.cells #[.int .i64 0, .int .i64 0, .string ⟨#[]⟩, .string ⟨#[]⟩, .slice none 0 0] 36) := ⟨_, rfl⟩
  have HW0 : Hid (w0 = w.alloc (.cells #[.int .i64 0, .int .i64 0, .string ⟨#[]⟩, .string ⟨#[]⟩, .slice none 0 0] 36)) := hw0
  have b0 : Below w.heap.size w w0 := by rw [hw0]; exact (Below.refl _ _).alloc (Nat.le_refl _) _
  have G0 : Hid (w.grownBy w0 (some E.cb) ∧ w0.heap[w.heap.size]? = some (.cells #[.int .i64 0, .int .i64 0, .string ⟨#[]⟩, .string ⟨#[]⟩, .slice none 0 0] 36)) := ⟨grown_none _ b0, by rw [hw0]; exact alloc_top _ _⟩
  have hcb := h.cblt
  have HX := next_any E w0 at_ bad (h.on b0) hlt
  clear hw0 HE h hN b0 hlt
  go_enter Tryz.func63, Tryz.ntmps63
  go_wp2_with fail
  rw [← HW0.out]
  refine HX.mono ?_
  rintro e w1 ⟨rfl, S1, g1⟩
  have S1' : Hid (St E w1 (at_ + 1) bad) := S1
  have G1 : Hid (w.grownBy w1 (some E.cb) ∧ w1.heap[w.heap.size]? = some (.cells #[.int .i64 0, .int .i64 0, .string ⟨#[]⟩, .string ⟨#[]⟩, .slice none 0 0] 36)) := ⟨grown_by_by G0.out.1 g1, res_on G0.out.2 g1 hcb⟩
  clear HX S1 g1
  have HX := text3_any E w1 (at_ + 1) bad S1'.out false
  go_wp2_with fail
  refine HX.mono ?_
  rintro e w2 ⟨at2, bad2, t, rfl, ht, S2, g2, hle2, hx2⟩
  have S2' : Hid (St E w2 at2 bad2) := S2
  have G2 : Hid (w.grownBy w2 (some E.cb) ∧ w2.heap[w.heap.size]? = some (.cells #[.int .i64 0, .int .i64 0, .string ⟨#[]⟩, .string ⟨#[]⟩, .slice none 0 0] 36)) := ⟨grown_by_by G1.out.1 g2, res_on G1.out.2 g2 hcb⟩
  have H2 : Hid (t.size ≤ 8 ∧ at_ + 1 ≤ at2 ∧ ((at2 = at_ + 1 + 1 ∧ bad2 = bad) ∨ 0 ≤ bad2)) := ⟨ht, hle2, hx2⟩
  clear HX S2 g2 ht hle2 hx2
  have HX := take_any E w2 at2 bad2 S2'.out ⟨#[61]⟩
  go_wp2_with fail
  refine HX.mono ?_
  rintro e w3 ⟨at3, bad3, rfl, S3, g3, hle3, hx3⟩
  have S3' : Hid (St E w3 at3 bad3) := S3
  have G3 : Hid (w.grownBy w3 (some E.cb) ∧ w3.heap[w.heap.size]? = some (.cells #[.int .i64 0, .int .i64 0, .string ⟨#[]⟩, .string ⟨#[]⟩, .slice none 0 0] 36)) := ⟨grown_by_by G2.out.1 g3, res_on G2.out.2 g3 hcb⟩
  have H3 : Hid (at2 ≤ at3 ∧ ((at3 = at2 + 1 ∧ bad3 = bad2) ∨ 0 ≤ bad3)) := ⟨hle3, hx3⟩
  clear HX S3 g3 hle3 hx3
  have HX := HEE.out w3 at3 bad3 S3'.out (by have := HLT.out; have h2 := H2.out; have h3 := H3.out; omega)
  go_wp2_with fail
  refine HX.mono ?_
  rintro e w4 ⟨at4, bad4, cs, T, rfl, hrep, S4, g4, hle4, hx4⟩
  obtain ⟨x0, x1, x2, x3, xa, xc, xk, hTT, rfl, -, -, -⟩ := node.nd_open hrep
  clear hTT
  obtain ⟨xl, hxl⟩ : ∃ xl, xl = xk.length := ⟨_, rfl⟩
  rw [← hxl] at hrep ⊢
  obtain ⟨w5, hw5⟩ : ∃ w5, w5 = w4.alloc (.cells #[.int .i64 x0, .int .i64 x1, .string x2, .string x3, .slice xa xl xc] 36) := ⟨_, rfl⟩
  have HW5 : Hid (w5 = w4.alloc (.cells #[.int .i64 x0, .int .i64 x1, .string x2, .string x3, .slice xa xl xc] 36)) := hw5
  have P5 : Hid (Pr E w w5 w4.heap.size [.int .i64 x0, .int .i64 x1, .string x2, .string x3, .slice xa xl xc] T at_ bad at4 bad4) := by
    refine Pr.first3 G3.out.2 G3.out.1 HS.out hrep S4 g4 (by have h2 := H2.out; have h3 := H3.out; omega) ?_ hw5
    have h2 := H2.out; have h3 := H3.out; 
    rcases hx4 with h4 | h4
    · exact .inl h4
    · by_cases hb4 : 0 ≤ bad4
      · exact .inl hb4
      · exact .inr ⟨by omega, by omega, by omega⟩
  have H4 : Hid (at_ + 1 ≤ at3 ∧ at3 ≤ at4 ∧ (0 ≤ bad4 ∨ (bad4 = bad ∧ 4 + at_ ≤ at4 ∧ node.wt T + 2 ≤ 10 * (at4 - at_ - 3)))) := by
    have h2 := H2.out; have h3 := H3.out; 
    refine ⟨by omega, hle4, ?_⟩
    rcases hx4 with h4 | h4
    · exact .inl h4
    · by_cases hb4 : 0 ≤ bad4
      · exact .inl hb4
      · exact .inr ⟨by omega, by omega, by omega⟩
  have HTS : Hid (t.size ≤ 8) := H2.out.1
  clear HX hrep S4 g4 hle4 hx4 hw5 hxl
  have HX := word_any E w5 at4 bad4 P5.out.st ⟨#[105, 110]⟩
  go_wp2_with fail
  rw [← HW5.out]
  refine HX.mono ?_
  rintro e w6 ⟨at6, bad6, rfl, S6, g6, hle6, hx6⟩
  have P6 : Hid (Pr E w w6 w4.heap.size [.int .i64 x0, .int .i64 x1, .string x2, .string x3, .slice xa xl xc] T at_ bad at6 bad6) := P5.out.step g6 S6 hle6 (by rcases hx6 with h | h; exact .inr h.2; exact .inl h)
  have H6 : Hid (at4 ≤ at6 ∧ ((at6 = at4 + 1 ∧ bad6 = bad4) ∨ 0 ≤ bad6)) := ⟨hle6, hx6⟩
  clear HX S6 g6 hle6 hx6
  have HX := HEE.out w6 at6 bad6 P6.out.st (by have := HLT.out; have := H4.out; have := H6.out; omega)
  go_wp2_with fail
  refine HX.mono ?_
  rintro e w7 ⟨at7, bad7, cs, T2, rfl, hrep, S7, g7, hle7, hx7⟩
  obtain ⟨u0, u1, u2, u3, ua, uc, uk, hTT, rfl, -, -, -⟩ := node.nd_open hrep
  clear hTT
  have b8 : Below w7.heap.size w7 (w7.alloc (.cells #[.int .i64 u0, .int .i64 u1, .string u2, .string u3, .slice ua uk.length uc] 36)) := (Below.refl _ _).alloc (Nat.le_refl _) _
  obtain ⟨w8, hw8⟩ : ∃ w8, w8 = w7.alloc (.cells #[.int .i64 u0, .int .i64 u1, .string u2, .string u3, .slice ua uk.length uc] 36) := ⟨_, rfl⟩
  rw [← hw8] at b8
  have hz8 : w8.heap.size = w7.heap.size + 1 := by rw [hw8]; simp
  have P8 : Hid (Pr E w w8 w4.heap.size [.int .i64 x0, .int .i64 x1, .string x2, .string x3, .slice xa xl xc] T at_ bad at7 bad7) := (P6.out.step g7 S7 hle7 (by rcases hx7 with h | h; exact .inl h; exact .inr h.1)).step (grown_none _ b8) (S7.on b8) (Nat.le_refl _) (.inr rfl)
  have hab6 := P6.out.ablt
  have hwb := P6.out.ab
  have hz7 := g7.size
  obtain ⟨w9, hw9⟩ : ∃ w9, w9 = w8.alloc (.cells #[.int .i64 x0, .int .i64 x1, .string x2, .string x3, .slice xa xl xc, .int .i64 u0, .int .i64 u1, .string u2, .string u3, .slice ua uk.length uc] 36) := ⟨_, rfl⟩
  have HW9 : Hid (w9 = (w7.alloc (.cells #[.int .i64 u0, .int .i64 u1, .string u2, .string u3, .slice ua uk.length uc] 36)).alloc (.cells #[.int .i64 x0, .int .i64 x1, .string x2, .string x3, .slice xa xl xc, .int .i64 u0, .int .i64 u1, .string u2, .string u3, .slice ua uk.length uc] 36)) := by show _ = _; rw [hw9, hw8]
  have b9 : Below w8.heap.size w8 w9 := by rw [hw9]; exact (Below.refl _ _).alloc (Nat.le_refl _) _
  have hz9 : w9.heap.size = w8.heap.size + 1 := by rw [hw9]; simp
  have P9 : Hid (Pr E w w9 w4.heap.size [.int .i64 x0, .int .i64 x1, .string x2, .string x3, .slice xa xl xc] T at_ bad at7 bad7) := P8.out.step (grown_none _ b9) (P8.out.st.on b9) (Nat.le_refl _) (.inr rfl)
  have R9 : Hid (node.ndSh.rep w9 (fun b => w.heap.size < b ∧ b < w9.heap.size ∧ b ≠ w4.heap.size) [.int .i64 5, .int .i64 0, .string t, .string ⟨#[]⟩, .slice (some ⟨w7.heap.size + 1, 0, none⟩) 2 2] (.mk (5, 0, t, ⟨#[]⟩) [T, T2])) := by
    refine node.nd_shut (by omega) (by omega) (by have := HTS.out; unfold maxLen; omega) (by decide) ?_
    rw [← hz8]
    exact pair_rep (by rw [hw9]; exact alloc_top _ _) ⟨by omega, by omega, by omega⟩ P9.out.rep (node.ndSh.mono (node.ndSh.on (node.ndSh.on hrep fun b hS => b8.block b hS.2) fun b hS => b9.block b (by omega)) fun b hS => ⟨by omega, by omega, by omega⟩)
  have HWT : Hid (0 ≤ bad7 ∨ (bad7 = bad ∧ at_ < at7 ∧ node.wt (.mk (5, 0, t, ⟨#[]⟩) [T, T2]) + 2 ≤ 10 * (at7 - at_))) := by
    have h4 := H4.out; have h6 := H6.out; have hts := HTS.out
    rcases hx7 with h7 | h7
    · exact .inl h7
    · by_cases hb7 : 0 ≤ bad7
      · exact .inl hb7
      · refine .inr ⟨by omega, by omega, ?_⟩
        rw [two_wt]
        show t.size + 0 + 2 + _ + 2 ≤ _; omega
  have y0 : w8.cell? ⟨w4.heap.size, 0, none⟩ = some (.int .i64 x0) := blk_cellP (i := 0) P8.out.acc rfl
  have y1 : w8.cell? ⟨w4.heap.size, 1, none⟩ = some (.int .i64 x1) := blk_cellP (i := 1) P8.out.acc rfl
  have y2 : w8.cell? ⟨w4.heap.size, 2, none⟩ = some (.string x2) := blk_cellP (i := 2) P8.out.acc rfl
  have y3 : w8.cell? ⟨w4.heap.size, 3, none⟩ = some (.string x3) := blk_cellP (i := 3) P8.out.acc rfl
  have y4 : w8.cell? ⟨w4.heap.size, 4, none⟩ = some (.slice xa xl xc) := blk_cellP (i := 4) P8.out.acc rfl
  rw [hw8] at y0 y1 y2 y3 y4
  have r0 : w9.cell? ⟨w.heap.size, 0, none⟩ = some (.int .i64 0) := blk_cellP (i := 0) P9.out.res rfl
  have r1 : w9.cell? ⟨w.heap.size, 1, none⟩ = some (.int .i64 0) := blk_cellP (i := 1) P9.out.res rfl
  have r2 : w9.cell? ⟨w.heap.size, 2, none⟩ = some (.string ⟨#[]⟩) := blk_cellP (i := 2) P9.out.res rfl
  have r3 : w9.cell? ⟨w.heap.size, 3, none⟩ = some (.string ⟨#[]⟩) := blk_cellP (i := 3) P9.out.res rfl
  have r4 : w9.cell? ⟨w.heap.size, 4, none⟩ = some (.slice none 0 0) := blk_cellP (i := 4) P9.out.res rfl
  have fr : ∀ o, w9.frozen? ⟨w.heap.size, o, none⟩ = false := fun o => blk_freeP P9.out.res
  rw [HW9.out] at r0 r1 r2 r3 r4 fr
  have HT : Hid (∀ w', w9.grownBy w' (some w.heap.size) → Nodes E w at_ bad (.returned (.agg [.int .i64 5, .int .i64 0, .string t, .string ⟨#[]⟩, .slice (some ⟨w7.heap.size + 1, 0, none⟩) 2 2].toArray)) w') := fun w' hg' => P9.out.give hg' R9.out HWT.out
  rw [HW9.out] at HT
  clear HX hrep S7 g7 hle7 hx7 hw8 hw9 b8 b9 R9 HWT P9 P8
  go_wp2
  refine bodyPost_ret (v := .agg #[.int .i64 5, .int .i64 0, .string t, .string ⟨#[]⟩, .slice (some ⟨w7.heap.size + 1, 0, none⟩) 2 2]) (by simp [results, Tryz.f63, go_sem, r0, r1, r2, r3, r4]) rfl ?_
  refine HT.out _ ?_
  repeat first | exact grown_self _ _ | (refine grown_by_by ?_ (grown_setP _ _ _ _))

set_option maxRecDepth 100000 in
set_option maxHeartbeats 8000000 in
theorem rec_of (E : Env) (N : Nat) (HE : ∀ w at_ bad, St E w at_ bad → E.toks.length - at_ < N → Calls Tryz.prog 45 #[.pointer (some ⟨E.cb, 0, none⟩)] w (Nodes E w at_ bad))
    (w : World) (at_ : Nat) (bad : Int) (h : St E w at_ bad) (hN : E.toks.length - at_ ≤ N) (hlt : at_ + 1 < E.toks.length) :
    Calls Tryz.prog 64 #[.pointer (some ⟨E.cb, 0, none⟩)] w (Nodes E w at_ bad) := by
  have HEE : Hid (∀ w at_ bad, St E w at_ bad → E.toks.length - at_ < N → Calls Tryz.prog 45 #[.pointer (some ⟨E.cb, 0, none⟩)] w (Nodes E w at_ bad)) := HE
  have HS : Hid (St E w at_ bad) := h
  have HLT : Hid (E.toks.length - at_ ≤ N ∧ at_ + 1 < E.toks.length) := ⟨hN, hlt⟩
  obtain ⟨w0, hw0⟩ : ∃ w0, w0 = w.alloc (.cells #[.int .i64 0, .int .i64 0, .string ⟨#[]⟩, .string ⟨#[]⟩, .slice none 0 0] 36) := ⟨_, rfl⟩
  have HW0 : Hid (w0 = w.alloc (.cells #[.int .i64 0, .int .i64 0, .string ⟨#[]⟩, .string ⟨#[]⟩, .slice none 0 0] 36)) := hw0
  have b0 : Below w.heap.size w w0 := by rw [hw0]; exact (Below.refl _ _).alloc (Nat.le_refl _) _
  have G0 : Hid (w.grownBy w0 (some E.cb) ∧ w0.heap[w.heap.size]? = some (.cells #[.int .i64 0, .int .i64 0, .string ⟨#[]⟩, .string ⟨#[]⟩, .slice none 0 0] 36)) := ⟨grown_none _ b0, by rw [hw0]; exact alloc_top _ _⟩
  have hcb := h.cblt
  have HX := next_any E w0 at_ bad (h.on b0) hlt
  clear hw0 HE h hN b0 hlt
  go_enter Tryz.func64, Tryz.ntmps64
  go_wp2_with fail
  rw [← HW0.out]
  refine HX.mono ?_
  rintro e w1 ⟨rfl, S1, g1⟩
  have S1' : Hid (St E w1 (at_ + 1) bad) := S1
  have G1 : Hid (w.grownBy w1 (some E.cb) ∧ w1.heap[w.heap.size]? = some (.cells #[.int .i64 0, .int .i64 0, .string ⟨#[]⟩, .string ⟨#[]⟩, .slice none 0 0] 36)) := ⟨grown_by_by G0.out.1 g1, res_on G0.out.2 g1 hcb⟩
  clear HX S1 g1
  have HX := text3_any E w1 (at_ + 1) bad S1'.out false
  go_wp2_with fail
  refine HX.mono ?_
  rintro e w2 ⟨at2, bad2, t, rfl, ht, S2, g2, hle2, hx2⟩
  have S2' : Hid (St E w2 at2 bad2) := S2
  have G2 : Hid (w.grownBy w2 (some E.cb) ∧ w2.heap[w.heap.size]? = some (.cells #[.int .i64 0, .int .i64 0, .string ⟨#[]⟩, .string ⟨#[]⟩, .slice none 0 0] 36)) := ⟨grown_by_by G1.out.1 g2, res_on G1.out.2 g2 hcb⟩
  have H2 : Hid (t.size ≤ 8 ∧ at_ + 1 ≤ at2 ∧ ((at2 = at_ + 1 + 1 ∧ bad2 = bad) ∨ 0 ≤ bad2)) := ⟨ht, hle2, hx2⟩
  clear HX S2 g2 ht hle2 hx2
  have HX := text3_any E w2 at2 bad2 S2'.out false
  go_wp2_with fail
  refine HX.mono ?_
  rintro e wt ⟨att, badt, t2, rfl, ht2, Stt, gt, hlet, hxt⟩
  have St' : Hid (tok.St E wt att badt) := Stt
  have Gt : Hid (w.grownBy wt (some E.cb) ∧ wt.heap[w.heap.size]? = some (.cells #[.int .i64 0, .int .i64 0, .string ⟨#[]⟩, .string ⟨#[]⟩, .slice none 0 0] 36)) := ⟨grown_by_by G2.out.1 gt, res_on G2.out.2 gt hcb⟩
  have Ht : Hid (t2.size ≤ 8 ∧ at2 ≤ att ∧ ((att = at2 + 1 ∧ badt = bad2) ∨ 0 ≤ badt)) := ⟨ht2, hlet, hxt⟩
  clear HX Stt gt ht2 hlet hxt
  have HX := take_any E wt att badt St'.out ⟨#[61]⟩
  go_wp2_with fail
  refine HX.mono ?_
  rintro e w3 ⟨at3, bad3, rfl, S3, g3, hle3, hx3⟩
  have S3' : Hid (St E w3 at3 bad3) := S3
  have G3 : Hid (w.grownBy w3 (some E.cb) ∧ w3.heap[w.heap.size]? = some (.cells #[.int .i64 0, .int .i64 0, .string ⟨#[]⟩, .string ⟨#[]⟩, .slice none 0 0] 36)) := ⟨grown_by_by Gt.out.1 g3, res_on Gt.out.2 g3 hcb⟩
  have H3 : Hid (att ≤ at3 ∧ ((at3 = att + 1 ∧ bad3 = badt) ∨ 0 ≤ bad3)) := ⟨hle3, hx3⟩
  clear HX S3 g3 hle3 hx3
  have HX := HEE.out w3 at3 bad3 S3'.out (by have := HLT.out; have h2 := H2.out; have h3 := H3.out; have h2' := Ht.out; omega)
  go_wp2_with fail
  refine HX.mono ?_
  rintro e w4 ⟨at4, bad4, cs, T, rfl, hrep, S4, g4, hle4, hx4⟩
  obtain ⟨x0, x1, x2, x3, xa, xc, xk, hTT, rfl, -, -, -⟩ := node.nd_open hrep
  clear hTT
  obtain ⟨xl, hxl⟩ : ∃ xl, xl = xk.length := ⟨_, rfl⟩
  rw [← hxl] at hrep ⊢
  obtain ⟨w5, hw5⟩ : ∃ w5, w5 = w4.alloc (.cells #[.int .i64 x0, .int .i64 x1, .string x2, .string x3, .slice xa xl xc] 36) := ⟨_, rfl⟩
  have HW5 : Hid (w5 = w4.alloc (.cells #[.int .i64 x0, .int .i64 x1, .string x2, .string x3, .slice xa xl xc] 36)) := hw5
  have P5 : Hid (Pr E w w5 w4.heap.size [.int .i64 x0, .int .i64 x1, .string x2, .string x3, .slice xa xl xc] T at_ bad at4 bad4) := by
    refine Pr.first3 G3.out.2 G3.out.1 HS.out hrep S4 g4 (by have h2 := H2.out; have h3 := H3.out; have h2' := Ht.out; omega) ?_ hw5
    have h2 := H2.out; have h3 := H3.out; have h2' := Ht.out; 
    rcases hx4 with h4 | h4
    · exact .inl h4
    · by_cases hb4 : 0 ≤ bad4
      · exact .inl hb4
      · exact .inr ⟨by omega, by omega, by omega⟩
  have H4 : Hid (at_ + 1 ≤ at3 ∧ at3 ≤ at4 ∧ (0 ≤ bad4 ∨ (bad4 = bad ∧ 5 + at_ ≤ at4 ∧ node.wt T + 2 ≤ 10 * (at4 - at_ - 4)))) := by
    have h2 := H2.out; have h3 := H3.out; have h2' := Ht.out; 
    refine ⟨by omega, hle4, ?_⟩
    rcases hx4 with h4 | h4
    · exact .inl h4
    · by_cases hb4 : 0 ≤ bad4
      · exact .inl hb4
      · exact .inr ⟨by omega, by omega, by omega⟩
  have HTS : Hid (t.size ≤ 8 ∧ t2.size ≤ 8) := ⟨H2.out.1, Ht.out.1⟩
  clear HX hrep S4 g4 hle4 hx4 hw5 hxl
  have HX := word_any E w5 at4 bad4 P5.out.st ⟨#[105, 110]⟩
  go_wp2_with fail
  rw [← HW5.out]
  refine HX.mono ?_
  rintro e w6 ⟨at6, bad6, rfl, S6, g6, hle6, hx6⟩
  have P6 : Hid (Pr E w w6 w4.heap.size [.int .i64 x0, .int .i64 x1, .string x2, .string x3, .slice xa xl xc] T at_ bad at6 bad6) := P5.out.step g6 S6 hle6 (by rcases hx6 with h | h; exact .inr h.2; exact .inl h)
  have H6 : Hid (at4 ≤ at6 ∧ ((at6 = at4 + 1 ∧ bad6 = bad4) ∨ 0 ≤ bad6)) := ⟨hle6, hx6⟩
  clear HX S6 g6 hle6 hx6
  have HX := HEE.out w6 at6 bad6 P6.out.st (by have := HLT.out; have := H4.out; have := H6.out; omega)
  go_wp2_with fail
  refine HX.mono ?_
  rintro e w7 ⟨at7, bad7, cs, T2, rfl, hrep, S7, g7, hle7, hx7⟩
  obtain ⟨u0, u1, u2, u3, ua, uc, uk, hTT, rfl, -, -, -⟩ := node.nd_open hrep
  clear hTT
  have b8 : Below w7.heap.size w7 (w7.alloc (.cells #[.int .i64 u0, .int .i64 u1, .string u2, .string u3, .slice ua uk.length uc] 36)) := (Below.refl _ _).alloc (Nat.le_refl _) _
  obtain ⟨w8, hw8⟩ : ∃ w8, w8 = w7.alloc (.cells #[.int .i64 u0, .int .i64 u1, .string u2, .string u3, .slice ua uk.length uc] 36) := ⟨_, rfl⟩
  rw [← hw8] at b8
  have hz8 : w8.heap.size = w7.heap.size + 1 := by rw [hw8]; simp
  have P8 : Hid (Pr E w w8 w4.heap.size [.int .i64 x0, .int .i64 x1, .string x2, .string x3, .slice xa xl xc] T at_ bad at7 bad7) := (P6.out.step g7 S7 hle7 (by rcases hx7 with h | h; exact .inl h; exact .inr h.1)).step (grown_none _ b8) (S7.on b8) (Nat.le_refl _) (.inr rfl)
  have hab6 := P6.out.ablt
  have hwb := P6.out.ab
  have hz7 := g7.size
  obtain ⟨w9, hw9⟩ : ∃ w9, w9 = w8.alloc (.cells #[.int .i64 x0, .int .i64 x1, .string x2, .string x3, .slice xa xl xc, .int .i64 u0, .int .i64 u1, .string u2, .string u3, .slice ua uk.length uc] 36) := ⟨_, rfl⟩
  have HW9 : Hid (w9 = (w7.alloc (.cells #[.int .i64 u0, .int .i64 u1, .string u2, .string u3, .slice ua uk.length uc] 36)).alloc (.cells #[.int .i64 x0, .int .i64 x1, .string x2, .string x3, .slice xa xl xc, .int .i64 u0, .int .i64 u1, .string u2, .string u3, .slice ua uk.length uc] 36)) := by show _ = _; rw [hw9, hw8]
  have b9 : Below w8.heap.size w8 w9 := by rw [hw9]; exact (Below.refl _ _).alloc (Nat.le_refl _) _
  have hz9 : w9.heap.size = w8.heap.size + 1 := by rw [hw9]; simp
  have P9 : Hid (Pr E w w9 w4.heap.size [.int .i64 x0, .int .i64 x1, .string x2, .string x3, .slice xa xl xc] T at_ bad at7 bad7) := P8.out.step (grown_none _ b9) (P8.out.st.on b9) (Nat.le_refl _) (.inr rfl)
  have R9 : Hid (node.ndSh.rep w9 (fun b => w.heap.size < b ∧ b < w9.heap.size ∧ b ≠ w4.heap.size) [.int .i64 6, .int .i64 0, .string t, .string t2, .slice (some ⟨w7.heap.size + 1, 0, none⟩) 2 2] (.mk (6, 0, t, t2) [T, T2])) := by
    refine node.nd_shut (by omega) (by omega) (by have := HTS.out; unfold maxLen; omega) (by have := HTS.out; unfold maxLen; omega) ?_
    rw [← hz8]
    exact pair_rep (by rw [hw9]; exact alloc_top _ _) ⟨by omega, by omega, by omega⟩ P9.out.rep (node.ndSh.mono (node.ndSh.on (node.ndSh.on hrep fun b hS => b8.block b hS.2) fun b hS => b9.block b (by omega)) fun b hS => ⟨by omega, by omega, by omega⟩)
  have HWT : Hid (0 ≤ bad7 ∨ (bad7 = bad ∧ at_ < at7 ∧ node.wt (.mk (6, 0, t, t2) [T, T2]) + 2 ≤ 10 * (at7 - at_))) := by
    have h4 := H4.out; have h6 := H6.out; have hts := HTS.out
    rcases hx7 with h7 | h7
    · exact .inl h7
    · by_cases hb7 : 0 ≤ bad7
      · exact .inl hb7
      · refine .inr ⟨by omega, by omega, ?_⟩
        rw [two_wt]
        omega
  have y0 : w8.cell? ⟨w4.heap.size, 0, none⟩ = some (.int .i64 x0) := blk_cellP (i := 0) P8.out.acc rfl
  have y1 : w8.cell? ⟨w4.heap.size, 1, none⟩ = some (.int .i64 x1) := blk_cellP (i := 1) P8.out.acc rfl
  have y2 : w8.cell? ⟨w4.heap.size, 2, none⟩ = some (.string x2) := blk_cellP (i := 2) P8.out.acc rfl
  have y3 : w8.cell? ⟨w4.heap.size, 3, none⟩ = some (.string x3) := blk_cellP (i := 3) P8.out.acc rfl
  have y4 : w8.cell? ⟨w4.heap.size, 4, none⟩ = some (.slice xa xl xc) := blk_cellP (i := 4) P8.out.acc rfl
  rw [hw8] at y0 y1 y2 y3 y4
  have r0 : w9.cell? ⟨w.heap.size, 0, none⟩ = some (.int .i64 0) := blk_cellP (i := 0) P9.out.res rfl
  have r1 : w9.cell? ⟨w.heap.size, 1, none⟩ = some (.int .i64 0) := blk_cellP (i := 1) P9.out.res rfl
  have r2 : w9.cell? ⟨w.heap.size, 2, none⟩ = some (.string ⟨#[]⟩) := blk_cellP (i := 2) P9.out.res rfl
  have r3 : w9.cell? ⟨w.heap.size, 3, none⟩ = some (.string ⟨#[]⟩) := blk_cellP (i := 3) P9.out.res rfl
  have r4 : w9.cell? ⟨w.heap.size, 4, none⟩ = some (.slice none 0 0) := blk_cellP (i := 4) P9.out.res rfl
  have fr : ∀ o, w9.frozen? ⟨w.heap.size, o, none⟩ = false := fun o => blk_freeP P9.out.res
  rw [HW9.out] at r0 r1 r2 r3 r4 fr
  have HT : Hid (∀ w', w9.grownBy w' (some w.heap.size) → Nodes E w at_ bad (.returned (.agg [.int .i64 6, .int .i64 0, .string t, .string t2, .slice (some ⟨w7.heap.size + 1, 0, none⟩) 2 2].toArray)) w') := fun w' hg' => P9.out.give hg' R9.out HWT.out
  rw [HW9.out] at HT
  clear HX hrep S7 g7 hle7 hx7 hw8 hw9 b8 b9 R9 HWT P9 P8
  go_wp2
  refine bodyPost_ret (v := .agg #[.int .i64 6, .int .i64 0, .string t, .string t2, .slice (some ⟨w7.heap.size + 1, 0, none⟩) 2 2]) (by simp [results, Tryz.f64, go_sem, r0, r1, r2, r3, r4]) rfl ?_
  refine HT.out _ ?_
  repeat first | exact grown_self _ _ | (refine grown_by_by ?_ (grown_setP _ _ _ _))

end Go.Proofs.YtlnpfnglphdaiaaGreatDoor.tok

namespace Go.Proofs.YtlnpfnglphdaiaaGreatDoor.tok
open Go Go.RowKit Go.Deep Go.Proofs.YtlnpfnglphdaiaaGreatDoor.rose Go.Proofs.YtlnpfnglphdaiaaGreatDoor
set_option linter.unusedVariables false
set_option linter.unusedSimpArgs false

/-- Where a parsing function stands: its answer's block is new and empty. -/
structure Cx (E : Env) (w wr : World) (at' : Nat) (bad' : Int) : Prop where
  st : St E wr at' bad'
  gr : w.grownBy wr (some E.cb)
  res : wr.heap[w.heap.size]? = some (.cells #[.int .i64 0, .int .i64 0, .string ⟨#[]⟩, .string ⟨#[]⟩, .slice none 0 0] 36)
  cb : E.cb < w.heap.size

section
variable {E : Env} {w wr w2 : World} {at' at2 : Nat} {bad' bad2 : Int}
theorem Cx.lt (h : Cx E w wr at' bad') : w.heap.size < wr.heap.size := (Array.getElem?_eq_some_iff.1 h.res).1
theorem Cx.by (h : Cx E w wr at' bad') (hg : wr.grownBy w2 (some E.cb)) (hs : St E w2 at2 bad2) : Cx E w w2 at2 bad2 := ⟨hs, grown_by_by h.gr hg, res_on h.res hg h.cb, h.cb⟩
theorem Cx.on (h : Cx E w wr at' bad') (hb : Below wr.heap.size wr w2) : Cx E w w2 at' bad' := h.by (grown_none _ hb) (h.st.on hb)
theorem Cx.start (h : St E w at' bad') (hw : w2 = w.alloc (.cells #[.int .i64 0, .int .i64 0, .string ⟨#[]⟩, .string ⟨#[]⟩, .slice none 0 0] 36)) : Cx E w w2 at' bad' := by
  have b0 : Below w.heap.size w w2 := by rw [hw]; exact (Below.refl _ _).alloc (Nat.le_refl _) _
  exact ⟨h.on b0, grown_none _ b0, by rw [hw]; exact alloc_top _ _, h.cblt⟩
end

/-- A tree in a block of its own, all of it from block lo on. -/
structure Hd (wr : World) (lo nb : Nat) (cs : List Value) (T : node.Nd) : Prop where
  blk : wr.heap[nb]? = some (.cells cs.toArray 36)
  le : lo ≤ nb
  rep : node.ndSh.rep wr (fun b => lo ≤ b ∧ b < wr.heap.size) cs T

section
variable {wr w2 : World} {lo nb c : Nat} {cs : List Value} {T : node.Nd}
theorem Hd.lt (h : Hd wr lo nb cs T) : nb < wr.heap.size := (Array.getElem?_eq_some_iff.1 h.blk).1
theorem Hd.by (h : Hd wr lo nb cs T) (hg : wr.grownBy w2 (some c)) (hc : c < lo) : Hd w2 lo nb cs T := by
  have := h.le
  exact ⟨(hg.block _ h.lt fun e => by simp only [Option.some.injEq] at e; omega).trans h.blk, h.le, node.ndSh.mono (node.ndSh.on h.rep fun b hS => hg.block b hS.2 fun e => by simp only [Option.some.injEq] at e; omega) fun b hS => ⟨hS.1, Nat.lt_of_lt_of_le hS.2 hg.size⟩⟩
theorem Hd.on (h : Hd wr lo nb cs T) (hb : Below wr.heap.size wr w2) : Hd w2 lo nb cs T :=
  ⟨(hb.block _ h.lt).trans h.blk, h.le, node.ndSh.mono (node.ndSh.on h.rep fun b hS => hb.block b hS.2) fun b hS => ⟨hS.1, Nat.lt_of_lt_of_le hS.2 hb.size⟩⟩
theorem Hd.new (hr : node.ndSh.rep wr (fun b => lo ≤ b ∧ b < wr.heap.size) cs T) (hl : lo ≤ wr.heap.size) (hw : w2 = wr.alloc (.cells cs.toArray 36)) : Hd w2 lo wr.heap.size cs T := by
  have b2 : Below wr.heap.size wr w2 := by rw [hw]; exact (Below.refl _ _).alloc (Nat.le_refl _) _
  exact ⟨by rw [hw]; exact alloc_top _ _, hl, node.ndSh.mono (node.ndSh.on hr fun b hS => b2.block b hS.2) fun b hS => ⟨hS.1, Nat.lt_of_lt_of_le hS.2 b2.size⟩⟩
end

theorem three_rep {W : World} {S : Nat → Prop} {q : Nat} {t : TypeId} {a0 a1 a2 a3 a4 b0 b1 b2 b3 b4 c0 c1 c2 c3 c4 : Value} {T T2 T3 : node.Nd} (hb : W.heap[q]? = some (.cells #[a0, a1, a2, a3, a4, b0, b1, b2, b3, b4, c0, c1, c2, c3, c4] t)) (hq : S q)
    (h1 : node.ndSh.rep W S [a0, a1, a2, a3, a4] T) (h2 : node.ndSh.rep W S [b0, b1, b2, b3, b4] T2) (h3 : node.ndSh.rep W S [c0, c1, c2, c3, c4] T3) : node.ndSh.slice.rep W S [.slice (some ⟨q, 0, none⟩) [T, T2, T3].length 3] [T, T2, T3] := by
  refine ⟨some ⟨q, 0, none⟩, 3, fun i => if i = 0 then [a0, a1, a2, a3, a4] else if i = 1 then [b0, b1, b2, b3, b4] else [c0, c1, c2, c3, c4], rfl, Nat.le_refl _, by decide, (fun h => by cases h), fun i hi => ⟨q, 0, rfl, hq, fun j u hj => ?_⟩, fun i hi => ?_⟩
  · match i, hi with
    | 0, _ =>
      match j, hj with
      | 0, hj | 1, hj | 2, hj | 3, hj | 4, hj => cases hj; simp [World.cell?, hb]
    | 1, _ =>
      match j, hj with
      | 0, hj => cases hj; show W.cell? ⟨q, 5, none⟩ = _; simp [World.cell?, hb]
      | 1, hj => cases hj; show W.cell? ⟨q, 6, none⟩ = _; simp [World.cell?, hb]
      | 2, hj => cases hj; show W.cell? ⟨q, 7, none⟩ = _; simp [World.cell?, hb]
      | 3, hj => cases hj; show W.cell? ⟨q, 8, none⟩ = _; simp [World.cell?, hb]
      | 4, hj => cases hj; show W.cell? ⟨q, 9, none⟩ = _; simp [World.cell?, hb]
    | 2, _ =>
      match j, hj with
      | 0, hj => cases hj; show W.cell? ⟨q, 10, none⟩ = _; simp [World.cell?, hb]
      | 1, hj => cases hj; show W.cell? ⟨q, 11, none⟩ = _; simp [World.cell?, hb]
      | 2, hj => cases hj; show W.cell? ⟨q, 12, none⟩ = _; simp [World.cell?, hb]
      | 3, hj => cases hj; show W.cell? ⟨q, 13, none⟩ = _; simp [World.cell?, hb]
      | 4, hj => cases hj; show W.cell? ⟨q, 14, none⟩ = _; simp [World.cell?, hb]
  · match i, hi with
    | 0, _ => exact h1
    | 1, _ => exact h2
    | 2, _ => exact h3

theorem three_wt (op : Int) (T T2 T3 : node.Nd) : node.wt (.mk (op, 0, ⟨#[]⟩, ⟨#[]⟩) [T, T2, T3]) = 3 + (node.wt T + node.wt T2 + node.wt T3) := by
  rw [node.wt, node.wts, node.wts, node.wts, node.wts]
  show 0 + 0 + 3 + (node.wt T + (node.wt T2 + (node.wt T3 + 0))) = _
  omega
theorem name_wt (op : Int) (s : ByteArray) (T : node.Nd) : node.wt (.mk (op, 0, s, ⟨#[]⟩) [T]) = s.size + 1 + node.wt T := by
  rw [node.wt, node.wts, node.wts]
  show s.size + 0 + 1 + (node.wt T + 0) = _
  omega

end Go.Proofs.YtlnpfnglphdaiaaGreatDoor.tok
