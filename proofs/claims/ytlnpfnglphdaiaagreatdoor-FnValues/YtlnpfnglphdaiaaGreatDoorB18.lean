/-
  The model's l3Atom, from what l3E says with fewer tokens left.
  The model's l3Product, from what l3Apply says.
-/
import Derived.Test.YtlnpfnglphdaiaaGreatDoorB1
import Derived.Test.YtlnpfnglphdaiaaGreatDoorB2
import Derived.Test.YtlnpfnglphdaiaaGreatDoorB3
import Derived.Test.YtlnpfnglphdaiaaGreatDoorB4
import Derived.Test.YtlnpfnglphdaiaaGreatDoorB5
import Derived.Test.YtlnpfnglphdaiaaGreatDoorB6
import Derived.Test.YtlnpfnglphdaiaaGreatDoorB7
import Derived.Test.YtlnpfnglphdaiaaGreatDoorB8
import Derived.Test.YtlnpfnglphdaiaaGreatDoorB9
import Derived.Test.YtlnpfnglphdaiaaGreatDoorB10
import Derived.Test.YtlnpfnglphdaiaaGreatDoorB11
import Derived.Test.YtlnpfnglphdaiaaGreatDoorB12
import Derived.Test.YtlnpfnglphdaiaaGreatDoorB13
import Derived.Test.YtlnpfnglphdaiaaGreatDoorB14
import Derived.Test.YtlnpfnglphdaiaaGreatDoorB15
import Derived.Test.YtlnpfnglphdaiaaGreatDoorB16
import Derived.Test.YtlnpfnglphdaiaaGreatDoorB17
namespace Go.Proofs.YtlnpfnglphdaiaaGreatDoor.tok
open Go Go.RowKit Go.Deep Go.Proofs.YtlnpfnglphdaiaaGreatDoor.rose Go.Proofs.YtlnpfnglphdaiaaGreatDoor
set_option linter.unusedVariables false
set_option linter.unusedSimpArgs false

/-- Where a parsing function stands: its answer's block is new and empty, the token that it looked at lies in block Tb. -/
structure Fr (E : Env) (w wr : World) (Tb : Nat) (k : Int) (t : ByteArray) (n p : Int) (at_ : Nat) (bad : Int) : Prop where
  st : St E wr at_ bad
  gr : w.grownBy wr (some E.cb)
  res : wr.heap[w.heap.size]? = some (.cells #[.int .i64 0, .int .i64 0, .string ⟨#[]⟩, .string ⟨#[]⟩, .slice none 0 0] 36)
  tok : wr.heap[Tb]? = some (.cells #[.int .i64 k, .string t, .int .i64 n, .int .i64 p] 125)
  cb : E.cb < w.heap.size
  tb : w.heap.size < Tb
  top : E.B ≤ w.heap.size
  ns : ∀ b, E.NS b → b < w.heap.size

theorem Fr.step {E : Env} {w wr w2 : World} {Tb : Nat} {k n p : Int} {t : ByteArray} {at_ at2 : Nat} {bad bad2 : Int} (h : Fr E w wr Tb k t n p at_ bad) (hg : wr.grownBy w2 (some E.cb)) (hs : St E w2 at2 bad2) : Fr E w w2 Tb k t n p at2 bad2 := by
  have h1 := (Array.getElem?_eq_some_iff.1 h.res).1
  have h2 := (Array.getElem?_eq_some_iff.1 h.tok).1
  have := h.cb
  have := h.tb
  exact ⟨hs, grown_by_by h.gr hg, (hg.block _ h1 fun e => by simp only [Option.some.injEq] at e; omega).trans h.res, (hg.block _ h2 fun e => by simp only [Option.some.injEq] at e; omega).trans h.tok, h.cb, h.tb, h.top, h.ns⟩

theorem grown_none {w w' : World} (r : Option Nat) (h : Below w.heap.size w w') : w.grownBy w' r := ⟨h.os, h.tape, h.output, h.size, fun k hk _ => h.block k hk⟩

/-- The answer is written. -/
theorem Fr.done {E : Env} {w wr w' : World} {Tb : Nat} {k n p : Int} {t : ByteArray} {at_ at' : Nat} {bad bad' : Int} {cs : List Value} {T : node.Nd} (h : Fr E w wr Tb k t n p at' bad') (hg : wr.grownBy w' (some w.heap.size))
    (hr : node.ndSh.rep wr (fun b => w.heap.size < b ∧ b < wr.heap.size) cs T) (hat : at_ ≤ at') (hx : 0 ≤ bad' ∨ (bad' = bad ∧ at_ < at' ∧ node.wt T + 2 ≤ 10 * (at' - at_))) : Nodes E w at_ bad (.returned (.agg cs.toArray)) w' := by
  have h1 := (Array.getElem?_eq_some_iff.1 h.res).1
  have hc := h.cb
  have ht := h.top
  have hz := h.gr.size
  refine ⟨at', bad', cs, T, rfl, node.ndSh.mono (node.ndSh.on hr fun b hS => hg.block b hS.2 fun e => by simp only [Option.some.injEq] at e; omega) fun b hS => ⟨by omega, Nat.lt_of_lt_of_le hS.2 hg.size⟩, h.st.keep hg.size fun b hS => hg.block b ?_ fun e => ?_, ⟨hg.os.trans h.gr.os, hg.tape.trans h.gr.tape, hg.output.trans h.gr.output, Nat.le_trans h.gr.size hg.size, fun q hq hn => (hg.block q (by omega) fun e => by simp only [Option.some.injEq] at e; omega).trans (h.gr.block q hq hn)⟩, hat, hx⟩
  · rcases hS with hS | hS | rfl
    · have := h.ns b hS; omega
    · omega
    · omega
  · simp only [Option.some.injEq] at e
    rcases hS with hS | hS | hS
    · have := h.ns _ hS; omega
    · omega
    · omega

theorem grown_setP (w : World) (p o : Nat) (v : Value) : w.grownBy (w.setCell ⟨p, o, none⟩ v) (some p) :=
  ⟨rfl, rfl, rfl, by simp [World.setCell], fun k _ hne => Below.heap_setCell _ _ _ _ (fun e => hne (by rw [e]))⟩

theorem leaf_rep {w : World} {S : Nat → Prop} {op n : Int} {s : ByteArray} (h1 : -9223372036854775808 ≤ op ∧ op ≤ 9223372036854775807) (h2 : -9223372036854775808 ≤ n ∧ n ≤ 9223372036854775807) (h3 : s.size ≤ maxLen) : node.ndSh.rep w S [.int .i64 op, .int .i64 n, .string s, .string ⟨#[]⟩, .slice none 0 0] (.mk (op, n, s, ⟨#[]⟩) []) :=
  node.nd_shut h1 h2 h3 (by decide) ⟨none, 0, fun _ => [], rfl, Nat.le_refl _, Nat.zero_le _, fun _ => rfl, fun i hi => absurd hi (Nat.not_lt_zero _), fun i hi => absurd hi (Nat.not_lt_zero _)⟩
theorem leaf_wt {op n : Int} {s : ByteArray} (h : s.size ≤ 8) : node.wt (.mk (op, n, s, ⟨#[]⟩) []) ≤ 8 := by simp [node.wt, node.wts]; exact h

set_option maxRecDepth 100000 in
set_option maxHeartbeats 8000000 in
theorem atom_of (E : Env) (N : Nat) (HE : ∀ w at_ bad, St E w at_ bad → E.toks.length - at_ < N → Calls Tryz.prog 45 #[.pointer (some ⟨E.cb, 0, none⟩)] w (Nodes E w at_ bad))
    (w : World) (at_ : Nat) (bad : Int) (h : St E w at_ bad) (hN : E.toks.length - at_ ≤ N) :
    Calls Tryz.prog 104 #[.pointer (some ⟨E.cb, 0, none⟩)] w (Nodes E w at_ bad) := by
  have HL : Hid (∀ k t n p, E.toks[at_]'h.lt = (k, t, n, p) → k ≠ 0 → at_ + 1 < E.toks.length) := fun k t n p he hk => h.notLast (by rw [he]; exact hk)
  have HEE : Hid (∀ w at_ bad, St E w at_ bad → E.toks.length - at_ < N → Calls Tryz.prog 45 #[.pointer (some ⟨E.cb, 0, none⟩)] w (Nodes E w at_ bad)) := HE
  have HLT : Hid (at_ < E.toks.length ∧ E.toks.length - at_ ≤ N) := ⟨h.lt, hN⟩
  have HNS : Hid (∀ b, E.NS b → b < w.heap.size) := fun b hb => (h.ns b hb).1
  have hcb := h.cblt
  have htop := h.top
  obtain ⟨w0, hw0⟩ : ∃ w0, w0 = w.alloc (.cells #[.int .i64 0, .int .i64 0, .string ⟨#[]⟩, .string ⟨#[]⟩, .slice none 0 0] 36) := ⟨_, rfl⟩
  have HW0 : Hid (w0 = w.alloc (.cells #[.int .i64 0, .int .i64 0, .string ⟨#[]⟩, .string ⟨#[]⟩, .slice none 0 0] 36)) := hw0
  have b0 : Below w.heap.size w w0 := by rw [hw0]; exact (Below.refl _ _).alloc (Nat.le_refl _) _
  have hp0 : w0.heap[w.heap.size]? = some (.cells #[.int .i64 0, .int .i64 0, .string ⟨#[]⟩, .string ⟨#[]⟩, .slice none 0 0] 36) := by rw [hw0]; exact alloc_top _ _
  have hz0 : w0.heap.size = w.heap.size + 1 := by rw [hw0]; simp
  have S0 : Hid (St E w0 at_ bad) := h.on b0
  have HN := now_any E w0 at_ bad S0.out
  have B0 : Hid (Below w.heap.size w w0) := b0
  clear hw0 b0 HE hN
  go_enter Tryz.func104, Tryz.ntmps104
  go_wp2_with fail
  rw [← HW0.out]
  refine HN.mono ?_
  rintro e w1 ⟨⟨k, t, n, p, he, rfl, ht, hn0, hn1, -⟩, hb⟩
  have HK : Hid (k ≠ 0 → at_ + 1 < E.toks.length) := HL.out k t n p he
  have HT : Hid (t.size ≤ 8 ∧ 0 ≤ n ∧ n ≤ 1073741823) := ⟨ht, hn0, hn1⟩
  obtain ⟨w2, hw2⟩ : ∃ w2, w2 = w1.alloc (.cells #[.int .i64 k, .string t, .int .i64 n, .int .i64 p] 125) := ⟨_, rfl⟩
  have HW2 : Hid (w2 = w1.alloc (.cells #[.int .i64 k, .string t, .int .i64 n, .int .i64 p] 125)) := hw2
  have F2 : Hid (Fr E w w2 w1.heap.size k t n p at_ bad) := by
    have b1 : Below w0.heap.size w0 w2 := by rw [hw2]; exact hb.alloc hb.size _
    have hz1 := hb.size
    exact ⟨S0.out.on b1, grown_below_by B0.out (grown_none _ b1), (b1.block _ (by omega)).trans hp0, by rw [hw2]; exact alloc_top _ _, hcb, by omega, htop, HNS.out⟩
  clear HN he ht hn0 hn1 hb hp0 hw2
  obtain ⟨va, vc, names, nn, hblk, -, -⟩ := F2.out.st.blk
  have c2 : (w1.alloc (.cells #[.int .i64 k, .string t, .int .i64 n, .int .i64 p] 125)).cell? ⟨E.cb, 2, none⟩ = some (.int .i64 bad) := by rw [← HW2.out]; exact blk_cellP (i := 2) hblk rfl
  have p0 : (w1.alloc (.cells #[.int .i64 k, .string t, .int .i64 n, .int .i64 p] 125)).cell? ⟨w1.heap.size, 0, none⟩ = some (.int .i64 k) := by rw [← HW2.out]; exact blk_cellP (i := 0) F2.out.tok rfl
  clear hblk
  by_cases hA : bad < 0 ∧ k = 3
  · obtain ⟨hbad, rfl⟩ := hA
    have KK := HK.out (by omega)
    have HX := next_any E w2 at_ bad F2.out.st KK
    go_wp2_with fail
    rw [← HW2.out]
    refine HX.mono ?_
    rintro e w3 ⟨rfl, S3, g3⟩
    have F3 : Hid (Fr E w w3 w1.heap.size 3 t n p (at_ + 1) bad) := F2.out.step g3 S3
    have r0 : w3.cell? ⟨w.heap.size, 0, none⟩ = some (.int .i64 0) := blk_cellP (i := 0) F3.out.res rfl
    have r1 : w3.cell? ⟨w.heap.size, 1, none⟩ = some (.int .i64 0) := blk_cellP (i := 1) F3.out.res rfl
    have r2 : w3.cell? ⟨w.heap.size, 2, none⟩ = some (.string ⟨#[]⟩) := blk_cellP (i := 2) F3.out.res rfl
    have r3 : w3.cell? ⟨w.heap.size, 3, none⟩ = some (.string ⟨#[]⟩) := blk_cellP (i := 3) F3.out.res rfl
    have r4 : w3.cell? ⟨w.heap.size, 4, none⟩ = some (.slice none 0 0) := blk_cellP (i := 4) F3.out.res rfl
    have fr : ∀ o, w3.frozen? ⟨w.heap.size, o, none⟩ = false := fun o => blk_freeP F3.out.res
    have q2 : w3.cell? ⟨w1.heap.size, 2, none⟩ = some (.int .i64 n) := blk_cellP (i := 2) F3.out.tok rfl
    clear HX S3 g3 c2 p0 HK KK
    go_wp2
    refine bodyPost_ret (v := .agg #[.int .i64 1, .int .i64 n, .string ⟨#[]⟩, .string ⟨#[]⟩, .slice none 0 0]) (by simp [results, Tryz.f104, go_sem, r0, r1, r2, r3, r4]) rfl ?_
    refine F3.out.done (cs := [.int .i64 1, .int .i64 n, .string ⟨#[]⟩, .string ⟨#[]⟩, .slice none 0 0]) (T := .mk (1, n, ⟨#[]⟩, ⟨#[]⟩) []) ?_ (leaf_rep (by omega) (by have := HT.out; omega) (by decide)) (by omega) (.inr ⟨rfl, by omega, by have := leaf_wt (op := 1) (n := n) (s := ⟨#[]⟩) (by decide); omega⟩)
    repeat first | exact grown_self _ _ | (refine grown_by_by ?_ (grown_setP _ _ _ _))
  · have hA' : ¬ bad < 0 ∨ (bad < 0 ∧ k ≠ 3) := by omega
    clear hA HK
    rcases hA' with hbad | ⟨hbad, hk⟩
    all_goals
      have HX := name_any E w2 at_ bad F2.out.st
      go_wp2_with fail
      rw [← HW2.out]
      refine HX.mono ?_
      rintro e w3 ⟨⟨b, rfl, hb⟩, hB⟩
      have F3 : Hid (Fr E w w3 w1.heap.size k t n p at_ bad) := F2.out.step (grown_none _ hB) (F2.out.st.on hB)
      clear hB HX c2 p0
      cases b with
      | true =>
        have hb' := hb rfl
        have HX := next_any E w3 at_ bad F3.out.st hb'.2
        clear hb hb'
        go_wp2_with fail
        refine HX.mono ?_
        rintro e w4 ⟨rfl, S4, g4⟩
        have F4 : Hid (Fr E w w4 w1.heap.size k t n p (at_ + 1) bad) := F3.out.step g4 S4
        clear S4 g4
        have r0 : w4.cell? ⟨w.heap.size, 0, none⟩ = some (.int .i64 0) := blk_cellP (i := 0) F4.out.res rfl
        have r1 : w4.cell? ⟨w.heap.size, 1, none⟩ = some (.int .i64 0) := blk_cellP (i := 1) F4.out.res rfl
        have r2 : w4.cell? ⟨w.heap.size, 2, none⟩ = some (.string ⟨#[]⟩) := blk_cellP (i := 2) F4.out.res rfl
        have r3 : w4.cell? ⟨w.heap.size, 3, none⟩ = some (.string ⟨#[]⟩) := blk_cellP (i := 3) F4.out.res rfl
        have r4 : w4.cell? ⟨w.heap.size, 4, none⟩ = some (.slice none 0 0) := blk_cellP (i := 4) F4.out.res rfl
        have fr : ∀ o, w4.frozen? ⟨w.heap.size, o, none⟩ = false := fun o => blk_freeP F4.out.res
        have q1 : w4.cell? ⟨w1.heap.size, 1, none⟩ = some (.string t) := blk_cellP (i := 1) F4.out.tok rfl
        clear HX
        go_wp2
        refine bodyPost_ret (v := .agg #[.int .i64 2, .int .i64 0, .string t, .string ⟨#[]⟩, .slice none 0 0]) (by simp [results, Tryz.f104, go_sem, r0, r1, r2, r3, r4]) rfl ?_
        refine F4.out.done (cs := [.int .i64 2, .int .i64 0, .string t, .string ⟨#[]⟩, .slice none 0 0]) (T := .mk (2, 0, t, ⟨#[]⟩) []) ?_ (leaf_rep (by omega) (by omega) (by have := HT.out.1; unfold maxLen; omega)) (by omega) (.inr ⟨rfl, by omega, by have := leaf_wt (op := 2) (n := 0) HT.out.1; omega⟩)
        repeat first | exact grown_self _ _ | (refine grown_by_by ?_ (grown_setP _ _ _ _))
      | false =>
        have HX := con_any E w3 at_ bad F3.out.st
        clear hb
        go_wp2_with fail
        refine HX.mono ?_
        rintro e w4 ⟨⟨b, rfl, hb⟩, hB⟩
        have F4 : Hid (Fr E w w4 w1.heap.size k t n p at_ bad) := F3.out.step (grown_none _ hB) (F3.out.st.on hB)
        clear hB HX
        cases b with
        | true =>
          have hb' := hb rfl
          have HX := next_any E w4 at_ bad F4.out.st hb'.2
          clear hb hb'
          go_wp2_with fail
          refine HX.mono ?_
          rintro e w5 ⟨rfl, S5, g5⟩
          have F5 : Hid (Fr E w w5 w1.heap.size k t n p (at_ + 1) bad) := F4.out.step g5 S5
          clear S5 g5
          have r0 : w5.cell? ⟨w.heap.size, 0, none⟩ = some (.int .i64 0) := blk_cellP (i := 0) F5.out.res rfl
          have r1 : w5.cell? ⟨w.heap.size, 1, none⟩ = some (.int .i64 0) := blk_cellP (i := 1) F5.out.res rfl
          have r2 : w5.cell? ⟨w.heap.size, 2, none⟩ = some (.string ⟨#[]⟩) := blk_cellP (i := 2) F5.out.res rfl
          have r3 : w5.cell? ⟨w.heap.size, 3, none⟩ = some (.string ⟨#[]⟩) := blk_cellP (i := 3) F5.out.res rfl
          have r4 : w5.cell? ⟨w.heap.size, 4, none⟩ = some (.slice none 0 0) := blk_cellP (i := 4) F5.out.res rfl
          have fr : ∀ o, w5.frozen? ⟨w.heap.size, o, none⟩ = false := fun o => blk_freeP F5.out.res
          have q1 : w5.cell? ⟨w1.heap.size, 1, none⟩ = some (.string t) := blk_cellP (i := 1) F5.out.tok rfl
          clear HX
          go_wp2
          refine bodyPost_ret (v := .agg #[.int .i64 15, .int .i64 0, .string t, .string ⟨#[]⟩, .slice none 0 0]) (by simp [results, Tryz.f104, go_sem, r0, r1, r2, r3, r4]) rfl ?_
          refine F5.out.done (cs := [.int .i64 15, .int .i64 0, .string t, .string ⟨#[]⟩, .slice none 0 0]) (T := .mk (15, 0, t, ⟨#[]⟩) []) ?_ (leaf_rep (by omega) (by omega) (by have := HT.out.1; unfold maxLen; omega)) (by omega) (.inr ⟨rfl, by omega, by have := leaf_wt (op := 15) (n := 0) HT.out.1; omega⟩)
          repeat first | exact grown_self _ _ | (refine grown_by_by ?_ (grown_setP _ _ _ _))
        | false =>
          have HX := take_any E w4 at_ bad F4.out.st ⟨#[40]⟩
          clear hb
          go_wp2_with fail
          refine HX.mono ?_
          rintro e w5 ⟨at5, bad5, rfl, S5, g5, hat5, hx5⟩
          have F5 : Hid (Fr E w w5 w1.heap.size k t n p at5 bad5) := F4.out.step g5 S5
          obtain ⟨va, vc, names, nn, hblk, -, -⟩ := S5.blk
          have c2 : w5.cell? ⟨E.cb, 2, none⟩ = some (.int .i64 bad5) := blk_cellP (i := 2) hblk rfl
          clear S5 g5 hblk HX
          by_cases hb5 : 0 ≤ bad5
          · have HB5 : Hid (0 ≤ bad5) := hb5
            clear hx5
            have r0 : w5.cell? ⟨w.heap.size, 0, none⟩ = some (.int .i64 0) := blk_cellP (i := 0) F5.out.res rfl
            have r1 : w5.cell? ⟨w.heap.size, 1, none⟩ = some (.int .i64 0) := blk_cellP (i := 1) F5.out.res rfl
            have r2 : w5.cell? ⟨w.heap.size, 2, none⟩ = some (.string ⟨#[]⟩) := blk_cellP (i := 2) F5.out.res rfl
            have r3 : w5.cell? ⟨w.heap.size, 3, none⟩ = some (.string ⟨#[]⟩) := blk_cellP (i := 3) F5.out.res rfl
            have r4 : w5.cell? ⟨w.heap.size, 4, none⟩ = some (.slice none 0 0) := blk_cellP (i := 4) F5.out.res rfl
            have fr : ∀ o, w5.frozen? ⟨w.heap.size, o, none⟩ = false := fun o => blk_freeP F5.out.res
            go_wp2
            refine bodyPost_ret (v := .agg #[.int .i64 0, .int .i64 0, .string ⟨#[]⟩, .string ⟨#[]⟩, .slice none 0 0]) (by simp [results, Tryz.f104, go_sem, r0, r1, r2, r3, r4]) rfl ?_
            refine F5.out.done (cs := [.int .i64 0, .int .i64 0, .string ⟨#[]⟩, .string ⟨#[]⟩, .slice none 0 0]) (T := .mk (0, 0, ⟨#[]⟩, ⟨#[]⟩) []) ?_ (leaf_rep (by omega) (by omega) (by decide)) (by omega) (.inl HB5.out)
            repeat first | exact grown_self _ _ | (refine grown_by_by ?_ (grown_setP _ _ _ _))
          · obtain ⟨rfl, rfl⟩ : at5 = at_ + 1 ∧ bad5 = bad := by
              rcases hx5 with h | h
              · exact h
              · exact absurd h hb5
            try (exfalso; omega)
            all_goals
              have HX := HEE.out w5 (at_ + 1) bad5 F5.out.st (by have := HLT.out; omega)
              clear hx5
              go_wp2_with fail
              refine HX.mono ?_
              rintro e w6 ⟨at6, bad6, cs, T, rfl, hrep, S6, g6, hat6, hx6⟩
              obtain ⟨x0, x1, x2, x3, xa, xc, xk, hTT, rfl, -, -, -⟩ := node.nd_open hrep
              clear hTT
              obtain ⟨w7, hw7⟩ : ∃ w7, w7 = w6.alloc (.cells #[.int .i64 x0, .int .i64 x1, .string x2, .string x3, .slice xa xk.length xc] 36) := ⟨_, rfl⟩
              have HW7 : Hid (w7 = w6.alloc (.cells #[.int .i64 x0, .int .i64 x1, .string x2, .string x3, .slice xa xk.length xc] 36)) := hw7
              have b7 : Below w6.heap.size w6 w7 := by rw [hw7]; exact (Below.refl _ _).alloc (Nat.le_refl _) _
              have F7 : Hid (Fr E w w7 w1.heap.size k t n p at6 bad6) := (F5.out.step g6 S6).step (grown_none _ b7) (S6.on b7)
              have hz7 : w7.heap.size = w6.heap.size + 1 := by rw [hw7]; simp
              have P7 : Hid (w7.heap[w6.heap.size]? = some (.cells #[.int .i64 x0, .int .i64 x1, .string x2, .string x3, .slice xa xk.length xc] 36)) := by show _ = _; rw [hw7]; exact alloc_top _ _
              have hz5 : w.heap.size < w5.heap.size := (Array.getElem?_eq_some_iff.1 F5.out.res).1
              have hz6 : w5.heap.size ≤ w6.heap.size := g6.size
              have R7 : Hid (node.ndSh.rep w7 (fun b => w.heap.size < b ∧ b < w6.heap.size) [.int .i64 x0, .int .i64 x1, .string x2, .string x3, .slice xa xk.length xc] T) := node.ndSh.mono (node.ndSh.on hrep fun b hS => b7.block b hS.2) fun b hS => ⟨by omega, hS.2⟩
              have HX6 : Hid (0 ≤ bad6 ∨ (bad6 = bad5 ∧ at_ + 1 < at6 ∧ node.wt T + 2 ≤ 10 * (at6 - (at_ + 1)))) := hx6
              have HX := take_any E w7 at6 bad6 F7.out.st ⟨#[41]⟩
              clear hrep S6 g6 hx6 hw7 b7 c2
              go_wp2_with fail
              rw [← HW7.out]
              refine HX.mono ?_
              rintro e w8 ⟨at8, bad8, rfl, S8, g8, hat8, hx8⟩
              have F8 : Hid (Fr E w w8 w1.heap.size k t n p at8 bad8) := F7.out.step g8 S8
              have P8 : Hid (w8.heap[w6.heap.size]? = some (.cells #[.int .i64 x0, .int .i64 x1, .string x2, .string x3, .slice xa xk.length xc] 36)) := (g8.block _ (by omega) fun e => by simp only [Option.some.injEq] at e; omega).trans P7.out
              have R8 : Hid (node.ndSh.rep w8 (fun b => w.heap.size < b ∧ b < w8.heap.size) [.int .i64 x0, .int .i64 x1, .string x2, .string x3, .slice xa xk.length xc] T) := node.ndSh.mono (node.ndSh.on R7.out fun b hS => g8.block b (by omega) fun e => by simp only [Option.some.injEq] at e; omega) fun b hS => ⟨hS.1, by have := g8.size; omega⟩
              have HX8 : Hid ((at8 = at6 + 1 ∧ bad8 = bad6) ∨ 0 ≤ bad8) := hx8
              have y0 : w8.cell? ⟨w6.heap.size, 0, none⟩ = some (.int .i64 x0) := blk_cellP (i := 0) P8.out rfl
              have y1 : w8.cell? ⟨w6.heap.size, 1, none⟩ = some (.int .i64 x1) := blk_cellP (i := 1) P8.out rfl
              have y2 : w8.cell? ⟨w6.heap.size, 2, none⟩ = some (.string x2) := blk_cellP (i := 2) P8.out rfl
              have y3 : w8.cell? ⟨w6.heap.size, 3, none⟩ = some (.string x3) := blk_cellP (i := 3) P8.out rfl
              have y4 : w8.cell? ⟨w6.heap.size, 4, none⟩ = some (.slice xa xk.length xc) := blk_cellP (i := 4) P8.out rfl
              clear HX S8 g8 hx8
              have r0 : w8.cell? ⟨w.heap.size, 0, none⟩ = some (.int .i64 0) := blk_cellP (i := 0) F8.out.res rfl
              have r1 : w8.cell? ⟨w.heap.size, 1, none⟩ = some (.int .i64 0) := blk_cellP (i := 1) F8.out.res rfl
              have r2 : w8.cell? ⟨w.heap.size, 2, none⟩ = some (.string ⟨#[]⟩) := blk_cellP (i := 2) F8.out.res rfl
              have r3 : w8.cell? ⟨w.heap.size, 3, none⟩ = some (.string ⟨#[]⟩) := blk_cellP (i := 3) F8.out.res rfl
              have r4 : w8.cell? ⟨w.heap.size, 4, none⟩ = some (.slice none 0 0) := blk_cellP (i := 4) F8.out.res rfl
              have fr : ∀ o, w8.frozen? ⟨w.heap.size, o, none⟩ = false := fun o => blk_freeP F8.out.res
              go_wp2
              refine bodyPost_ret (v := .agg #[.int .i64 x0, .int .i64 x1, .string x2, .string x3, .slice xa xk.length xc]) (by simp [results, Tryz.f104, go_sem, r0, r1, r2, r3, r4]) rfl ?_
              refine F8.out.done (cs := [.int .i64 x0, .int .i64 x1, .string x2, .string x3, .slice xa xk.length xc]) (T := T) ?_ R8.out (by omega) ?_
              · repeat first | exact grown_self _ _ | (refine grown_by_by ?_ (grown_setP _ _ _ _))
              · rcases HX8.out with ⟨rfl, rfl⟩ | h8
                · rcases HX6.out with h6 | ⟨e6, h6, h6'⟩
                  · exact .inl h6
                  · exact .inr ⟨e6, by omega, by omega⟩
                · exact .inl h8

end Go.Proofs.YtlnpfnglphdaiaaGreatDoor.tok

namespace Go.Proofs.YtlnpfnglphdaiaaGreatDoor.tok
open Go Go.RowKit Go.Deep Go.Proofs.YtlnpfnglphdaiaaGreatDoor.rose Go.Proofs.YtlnpfnglphdaiaaGreatDoor
set_option linter.unusedVariables false
set_option linter.unusedSimpArgs false

def atOf (E : Env) (w : World) : Nat := match w.cell? ⟨E.cb, 1, none⟩ with | some (.int _ z) => z.toNat | _ => 0
def badOf (E : Env) (w : World) : Int := match w.cell? ⟨E.cb, 2, none⟩ with | some (.int _ z) => z | _ => 0
theorem St.atOf {E : Env} {w : World} {at_ : Nat} {bad : Int} (h : St E w at_ bad) : tok.atOf E w = at_ := by
  obtain ⟨va, vc, names, nn, hblk, -, -⟩ := h.blk
  have : w.cell? ⟨E.cb, 1, none⟩ = some (.int .i64 at_) := blk_cellP (i := 1) hblk rfl
  simp [tok.atOf, this]
theorem St.badOf {E : Env} {w : World} {at_ : Nat} {bad : Int} (h : St E w at_ bad) : tok.badOf E w = bad := by
  obtain ⟨va, vc, names, nn, hblk, -, -⟩ := h.blk
  have : w.cell? ⟨E.cb, 2, none⟩ = some (.int .i64 bad) := blk_cellP (i := 2) hblk rfl
  simp [tok.badOf, this]
/-- What is left to do. -/
def msr (E : Env) (w : World) : Nat := 2 * (E.toks.length - atOf E w) + (if badOf E w < 0 then 1 else 0)
theorem St.msr {E : Env} {w : World} {at_ : Nat} {bad : Int} (h : St E w at_ bad) : tok.msr E w = 2 * (E.toks.length - at_) + (if bad < 0 then 1 else 0) := by
  unfold tok.msr; rw [h.atOf, h.badOf]

/-- Where a loop that gathers a tree stands: the answer's block is empty, the tree lies in block Ab. -/
structure Pr (E : Env) (w wr : World) (Ab : Nat) (cs : List Value) (T : node.Nd) (at_ : Nat) (bad : Int) (at' : Nat) (bad' : Int) : Prop where
  st : St E wr at' bad'
  gr : w.grownBy wr (some E.cb)
  res : wr.heap[w.heap.size]? = some (.cells #[.int .i64 0, .int .i64 0, .string ⟨#[]⟩, .string ⟨#[]⟩, .slice none 0 0] 36)
  acc : wr.heap[Ab]? = some (.cells cs.toArray 36)
  rep : node.ndSh.rep wr (fun b => w.heap.size < b ∧ b < wr.heap.size ∧ b ≠ Ab) cs T
  cb : E.cb < w.heap.size
  ab : w.heap.size < Ab
  top : E.B ≤ w.heap.size
  ns : ∀ b, E.NS b → b < w.heap.size
  le : at_ ≤ at'
  hx : 0 ≤ bad' ∨ (bad' = bad ∧ at_ < at' ∧ node.wt T + 2 ≤ 10 * (at' - at_))

theorem Pr.ablt {E : Env} {w wr : World} {Ab : Nat} {cs : List Value} {T : node.Nd} {at_ at' : Nat} {bad bad' : Int} (h : Pr E w wr Ab cs T at_ bad at' bad') : Ab < wr.heap.size := (Array.getElem?_eq_some_iff.1 h.acc).1

/-- The answer is written. -/
theorem Pr.done {E : Env} {w wr w' : World} {Ab : Nat} {cs : List Value} {T : node.Nd} {at_ at' : Nat} {bad bad' : Int} (h : Pr E w wr Ab cs T at_ bad at' bad') (hg : wr.grownBy w' (some w.heap.size)) : Nodes E w at_ bad (.returned (.agg cs.toArray)) w' := by
  have hc := h.cb
  have ht := h.top
  have ha := h.ab
  have hz := h.gr.size
  have h1 := (Array.getElem?_eq_some_iff.1 h.res).1
  refine ⟨at', bad', cs, T, rfl, node.ndSh.mono (node.ndSh.on h.rep fun b hS => hg.block b hS.2.1 fun e => by simp only [Option.some.injEq] at e; omega) fun b hS => ⟨by omega, Nat.lt_of_lt_of_le hS.2.1 hg.size⟩, h.st.keep hg.size fun b hS => hg.block b ?_ fun e => ?_, ⟨hg.os.trans h.gr.os, hg.tape.trans h.gr.tape, hg.output.trans h.gr.output, Nat.le_trans h.gr.size hg.size, fun q hq hn => (hg.block q (by omega) fun e => by simp only [Option.some.injEq] at e; omega).trans (h.gr.block q hq hn)⟩, h.le, h.hx⟩
  · rcases hS with hS | hS | rfl
    · have := h.ns b hS; omega
    · omega
    · omega
  · simp only [Option.some.injEq] at e
    rcases hS with hS | hS | hS
    · have := h.ns _ hS; omega
    · omega
    · omega

/-- The cursor goes on, nothing else is turned. -/
theorem Pr.step {E : Env} {w wr w2 : World} {Ab : Nat} {cs : List Value} {T : node.Nd} {at_ at' at2 : Nat} {bad bad' bad2 : Int} (h : Pr E w wr Ab cs T at_ bad at' bad') (hg : wr.grownBy w2 (some E.cb)) (hs : St E w2 at2 bad2) (hle : at' ≤ at2) (hx : 0 ≤ bad2 ∨ bad2 = bad') : Pr E w w2 Ab cs T at_ bad at2 bad2 := by
  have hc := h.cb
  have ha := h.ab
  have h1 := (Array.getElem?_eq_some_iff.1 h.res).1
  have h2 := h.ablt
  have h3 := h.le
  refine ⟨hs, grown_by_by h.gr hg, (hg.block _ h1 fun e => by simp only [Option.some.injEq] at e; omega).trans h.res, (hg.block _ h2 fun e => by simp only [Option.some.injEq] at e; omega).trans h.acc, node.ndSh.mono (node.ndSh.on h.rep fun b hS => hg.block b hS.2.1 fun e => by simp only [Option.some.injEq] at e; omega) fun b hS => ⟨hS.1, Nat.lt_of_lt_of_le hS.2.1 hg.size, hS.2.2⟩, h.cb, h.ab, h.top, h.ns, by omega, ?_⟩
  rcases hx with hx | rfl
  · exact .inl hx
  · rcases h.hx with h' | ⟨e, h', h''⟩
    · exact .inl h'
    · exact .inr ⟨e, by omega, by omega⟩

/-- Another tree is put in its place. -/
theorem Pr.put {E : Env} {w wr w' : World} {Ab : Nat} {cs cs' : List Value} {T T' : node.Nd} {at_ at' : Nat} {bad bad' : Int} (h : Pr E w wr Ab cs T at_ bad at' bad') (hg : wr.grownBy w' (some Ab)) (hacc : w'.heap[Ab]? = some (.cells cs'.toArray 36)) (hr : node.ndSh.rep wr (fun b => w.heap.size < b ∧ b < wr.heap.size ∧ b ≠ Ab) cs' T')
    (hx : 0 ≤ bad' ∨ (bad' = bad ∧ at_ < at' ∧ node.wt T' + 2 ≤ 10 * (at' - at_))) : Pr E w w' Ab cs' T' at_ bad at' bad' := by
  have hc := h.cb
  have ht := h.top
  have ha := h.ab
  have hz := h.gr.size
  have h1 := (Array.getElem?_eq_some_iff.1 h.res).1
  refine ⟨h.st.keep hg.size fun b hS => hg.block b ?_ fun e => ?_, ⟨hg.os.trans h.gr.os, hg.tape.trans h.gr.tape, hg.output.trans h.gr.output, Nat.le_trans h.gr.size hg.size, fun q hq hn => (hg.block q (by omega) fun e => by simp only [Option.some.injEq] at e; omega).trans (h.gr.block q hq hn)⟩, (hg.block _ h1 fun e => by simp only [Option.some.injEq] at e; omega).trans h.res, hacc, node.ndSh.mono (node.ndSh.on hr fun b hS => hg.block b hS.2.1 fun e => by simp only [Option.some.injEq] at e; omega) fun b hS => ⟨hS.1, Nat.lt_of_lt_of_le hS.2.1 hg.size, hS.2.2⟩, h.cb, h.ab, h.top, h.ns, h.le, hx⟩
  · rcases hS with hS | hS | rfl
    · have := h.ns b hS; omega
    · omega
    · omega
  · simp only [Option.some.injEq] at e
    rcases hS with hS | hS | hS
    · have := h.ns _ hS; omega
    · omega
    · omega

/-- A loop begins: the first tree, that a function gave, lies in a new block. -/
theorem Pr.first {E : Env} {w w0 w1 w2 : World} {cs : List Value} {T : node.Nd} {at_ at' : Nat} {bad bad' : Int} (hw0 : w0 = w.alloc (.cells #[.int .i64 0, .int .i64 0, .string ⟨#[]⟩, .string ⟨#[]⟩, .slice none 0 0] 36)) (h : St E w at_ bad)
    (hr : node.ndSh.rep w1 (fun b => w0.heap.size ≤ b ∧ b < w1.heap.size) cs T) (hs : St E w1 at' bad') (hg : w0.grownBy w1 (some E.cb)) (hle : at_ ≤ at') (hx : 0 ≤ bad' ∨ (bad' = bad ∧ at_ < at' ∧ node.wt T + 2 ≤ 10 * (at' - at_))) (hw2 : w2 = w1.alloc (.cells cs.toArray 36)) :
    Pr E w w2 w1.heap.size cs T at_ bad at' bad' := by
  have hcb := h.cblt
  have hz0 : w0.heap.size = w.heap.size + 1 := by rw [hw0]; simp
  have hz1 := hg.size
  have b0 : Below w.heap.size w w0 := by rw [hw0]; exact (Below.refl _ _).alloc (Nat.le_refl _) _
  have b2 : Below w1.heap.size w1 w2 := by rw [hw2]; exact (Below.refl _ _).alloc (Nat.le_refl _) _
  have hz2 : w2.heap.size = w1.heap.size + 1 := by rw [hw2]; simp
  have hp0 : w0.heap[w.heap.size]? = some (.cells #[.int .i64 0, .int .i64 0, .string ⟨#[]⟩, .string ⟨#[]⟩, .slice none 0 0] 36) := by rw [hw0]; exact alloc_top _ _
  exact ⟨hs.on b2, grown_by_below (grown_below_by b0 hg) b2, (b2.block _ (by omega)).trans ((hg.block _ (by omega) fun e => by simp only [Option.some.injEq] at e; omega).trans hp0), by rw [hw2]; exact alloc_top _ _, node.ndSh.mono (node.ndSh.on hr fun b hS => b2.block b hS.2) fun b hS => ⟨by omega, by omega, by omega⟩, hcb, by omega, h.top, fun b hb => (h.ns b hb).1, hle, hx⟩

end Go.Proofs.YtlnpfnglphdaiaaGreatDoor.tok
