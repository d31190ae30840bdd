/-
  The model's l3PatAtom, from what l3Pat says with fewer tokens left.
-/
import Derived.Test.YtlnpfnglphdaiaaGreatDoorB1
import Derived.Test.YtlnpfnglphdaiaaGreatDoorB2
import Derived.Test.YtlnpfnglphdaiaaGreatDoorB3
import Derived.Test.YtlnpfnglphdaiaaGreatDoorB4
import Derived.Test.YtlnpfnglphdaiaaGreatDoorB5
import Derived.Test.YtlnpfnglphdaiaaGreatDoorB6
import Derived.Test.YtlnpfnglphdaiaaGreatDoorB7
import Derived.Test.YtlnpfnglphdaiaaGreatDoorB8
import Derived.Test.YtlnpfnglphdaiaaGreatDoorB9
import Derived.Test.YtlnpfnglphdaiaaGreatDoorB10
import Derived.Test.YtlnpfnglphdaiaaGreatDoorB11
import Derived.Test.YtlnpfnglphdaiaaGreatDoorB12
import Derived.Test.YtlnpfnglphdaiaaGreatDoorB13
import Derived.Test.YtlnpfnglphdaiaaGreatDoorB14
import Derived.Test.YtlnpfnglphdaiaaGreatDoorB15
import Derived.Test.YtlnpfnglphdaiaaGreatDoorB16
import Derived.Test.YtlnpfnglphdaiaaGreatDoorB17
import Derived.Test.YtlnpfnglphdaiaaGreatDoorB18
import Derived.Test.YtlnpfnglphdaiaaGreatDoorB19
import Derived.Test.YtlnpfnglphdaiaaGreatDoorB20
import Derived.Test.YtlnpfnglphdaiaaGreatDoorB21
namespace Go.Proofs.YtlnpfnglphdaiaaGreatDoor.tok
open Go Go.RowKit Go.Deep Go.Proofs.YtlnpfnglphdaiaaGreatDoor.rose Go.Proofs.YtlnpfnglphdaiaaGreatDoor
set_option linter.unusedVariables false
set_option linter.unusedSimpArgs false

set_option maxRecDepth 100000 in
set_option maxHeartbeats 8000000 in
theorem patatom_of (E : Env) (N : Nat) (HE : ∀ w at_ bad, St E w at_ bad → E.toks.length - at_ < N → Calls Tryz.prog 87 #[.pointer (some ⟨E.cb, 0, none⟩)] w (Nodes E w at_ bad))
    (w : World) (at_ : Nat) (bad : Int) (h : St E w at_ bad) (hN : E.toks.length - at_ ≤ N) :
    Calls Tryz.prog 97 #[.pointer (some ⟨E.cb, 0, none⟩)] w (Nodes E w at_ bad) := by
  have HL : Hid (∀ k t n p, E.toks[at_]'h.lt = (k, t, n, p) → k ≠ 0 → at_ + 1 < E.toks.length) := fun k t n p he hk => h.notLast (by rw [he]; exact hk)
  have HEE : Hid (∀ w at_ bad, St E w at_ bad → E.toks.length - at_ < N → Calls Tryz.prog 87 #[.pointer (some ⟨E.cb, 0, none⟩)] w (Nodes E w at_ bad)) := HE
  have HLT : Hid (at_ < E.toks.length ∧ E.toks.length - at_ ≤ N) := ⟨h.lt, hN⟩
  have HNS : Hid (∀ b, E.NS b → b < w.heap.size) := fun b hb => (h.ns b hb).1
  have hcb := h.cblt
  have htop := h.top
  obtain ⟨w0, hw0⟩ : ∃ w0, w0 = w.alloc (.cells #[.int .i64 0, .int .i64 0, .string ⟨#[]⟩, .string ⟨#[]⟩, .slice none 0 0] 36) := ⟨_, rfl⟩
  have HW0 : Hid (w0 = w.alloc (.cells #[.int .i64 0, .int .i64 0, .string ⟨#[]⟩, .string ⟨#[]⟩, .slice none 0 0] 36)) := hw0
  have b0 : Below w.heap.size w w0 := by rw [hw0]; exact (Below.refl _ _).alloc (Nat.le_refl _) _
  have hp0 : w0.heap[w.heap.size]? = some (.cells #[.int .i64 0, .int .i64 0, .string ⟨#[]⟩, .string ⟨#[]⟩, .slice none 0 0] 36) := by rw [hw0]; exact alloc_top _ _
  have hz0 : w0.heap.size = w.heap.size + 1 := by rw [hw0]; simp
  have S0 : Hid (St E w0 at_ bad) := h.on b0
  have HN := now_any E w0 at_ bad S0.out
  have B0 : Hid (Below w.heap.size w w0) := b0
  clear hw0 b0 HE hN
  go_enter Tryz.func97, Tryz.ntmps97
  go_wp2_with fail
  rw [← HW0.out]
  refine HN.mono ?_
  rintro e w1 ⟨⟨k, t, n, p, he, rfl, ht, hn0, hn1, -⟩, hb⟩
  have HK : Hid (k ≠ 0 → at_ + 1 < E.toks.length) := HL.out k t n p he
  have HT : Hid (t.size ≤ 8 ∧ 0 ≤ n ∧ n ≤ 1073741823) := ⟨ht, hn0, hn1⟩
  obtain ⟨w2, hw2⟩ : ∃ w2, w2 = w1.alloc (.cells #[.int .i64 k, .string t, .int .i64 n, .int .i64 p] 125) := ⟨_, rfl⟩
  have HW2 : Hid (w2 = w1.alloc (.cells #[.int .i64 k, .string t, .int .i64 n, .int .i64 p] 125)) := hw2
  have F2 : Hid (Fr E w w2 w1.heap.size k t n p at_ bad) := by
    have b1 : Below w0.heap.size w0 w2 := by rw [hw2]; exact hb.alloc hb.size _
    have hz1 := hb.size
    exact ⟨S0.out.on b1, grown_below_by B0.out (grown_none _ b1), (b1.block _ (by omega)).trans hp0, by rw [hw2]; exact alloc_top _ _, hcb, by omega, htop, HNS.out⟩
  clear HN he ht hn0 hn1 hb hp0 hw2
  have HX := sign3_any E w2 at_ bad F2.out.st ⟨#[95]⟩
  go_wp2_with fail
  rw [← HW2.out]
  refine HX.mono ?_
  rintro e wq ⟨⟨b, rfl, hb⟩, hB⟩
  have FQ : Hid (Fr E w wq w1.heap.size k t n p at_ bad) := F2.out.step (grown_none _ hB) (F2.out.st.on hB)
  clear hB HX
  cases b with
  | true =>
    have hb' := hb rfl
    have HX := next_any E wq at_ bad FQ.out.st hb'.2
    clear hb hb'
    go_wp2_with fail
    refine HX.mono ?_
    rintro e w3 ⟨rfl, S3, g3⟩
    have F3 : Hid (Fr E w w3 w1.heap.size k t n p (at_ + 1) bad) := FQ.out.step g3 S3
    have r0 : w3.cell? ⟨w.heap.size, 0, none⟩ = some (.int .i64 0) := blk_cellP (i := 0) F3.out.res rfl
    have r1 : w3.cell? ⟨w.heap.size, 1, none⟩ = some (.int .i64 0) := blk_cellP (i := 1) F3.out.res rfl
    have r2 : w3.cell? ⟨w.heap.size, 2, none⟩ = some (.string ⟨#[]⟩) := blk_cellP (i := 2) F3.out.res rfl
    have r3 : w3.cell? ⟨w.heap.size, 3, none⟩ = some (.string ⟨#[]⟩) := blk_cellP (i := 3) F3.out.res rfl
    have r4 : w3.cell? ⟨w.heap.size, 4, none⟩ = some (.slice none 0 0) := blk_cellP (i := 4) F3.out.res rfl
    have fr : ∀ o, w3.frozen? ⟨w.heap.size, o, none⟩ = false := fun o => blk_freeP F3.out.res
    clear HX S3 g3 HK
    go_wp2
    refine bodyPost_ret (v := .agg #[.int .i64 17, .int .i64 0, .string ⟨#[]⟩, .string ⟨#[]⟩, .slice none 0 0]) (by simp [results, Tryz.f97, go_sem, r0, r1, r2, r3, r4]) rfl ?_
    refine F3.out.done (cs := [.int .i64 17, .int .i64 0, .string ⟨#[]⟩, .string ⟨#[]⟩, .slice none 0 0]) (T := .mk (17, 0, ⟨#[]⟩, ⟨#[]⟩) []) ?_ (leaf_rep (by omega) (by omega) (by decide)) (by omega) (.inr ⟨rfl, by omega, by have := leaf_wt (op := 17) (n := 0) (s := ⟨#[]⟩) (by decide); omega⟩)
    repeat first | exact grown_self _ _ | (refine grown_by_by ?_ (grown_setP _ _ _ _))
  | false =>
    clear hb
    obtain ⟨va, vc, names, nn, hblk, -, -⟩ := FQ.out.st.blk
    have c2 : wq.cell? ⟨E.cb, 2, none⟩ = some (.int .i64 bad) := blk_cellP (i := 2) hblk rfl
    have p0 : wq.cell? ⟨w1.heap.size, 0, none⟩ = some (.int .i64 k) := blk_cellP (i := 0) FQ.out.tok rfl
    clear hblk
    by_cases hA : bad < 0 ∧ k = 3
    · obtain ⟨hbad, rfl⟩ := hA
      have KK := HK.out (by omega)
      have HX := next_any E wq at_ bad FQ.out.st KK
      go_wp2_with fail
      refine HX.mono ?_
      rintro e w3 ⟨rfl, S3, g3⟩
      have F3 : Hid (Fr E w w3 w1.heap.size 3 t n p (at_ + 1) bad) := FQ.out.step g3 S3
      have r0 : w3.cell? ⟨w.heap.size, 0, none⟩ = some (.int .i64 0) := blk_cellP (i := 0) F3.out.res rfl
      have r1 : w3.cell? ⟨w.heap.size, 1, none⟩ = some (.int .i64 0) := blk_cellP (i := 1) F3.out.res rfl
      have r2 : w3.cell? ⟨w.heap.size, 2, none⟩ = some (.string ⟨#[]⟩) := blk_cellP (i := 2) F3.out.res rfl
      have r3 : w3.cell? ⟨w.heap.size, 3, none⟩ = some (.string ⟨#[]⟩) := blk_cellP (i := 3) F3.out.res rfl
      have r4 : w3.cell? ⟨w.heap.size, 4, none⟩ = some (.slice none 0 0) := blk_cellP (i := 4) F3.out.res rfl
      have fr : ∀ o, w3.frozen? ⟨w.heap.size, o, none⟩ = false := fun o => blk_freeP F3.out.res
      have q2 : w3.cell? ⟨w1.heap.size, 2, none⟩ = some (.int .i64 n) := blk_cellP (i := 2) F3.out.tok rfl
      clear HX S3 g3 c2 p0 HK KK
      go_wp2
      refine bodyPost_ret (v := .agg #[.int .i64 19, .int .i64 n, .string ⟨#[]⟩, .string ⟨#[]⟩, .slice none 0 0]) (by simp [results, Tryz.f97, go_sem, r0, r1, r2, r3, r4]) rfl ?_
      refine F3.out.done (cs := [.int .i64 19, .int .i64 n, .string ⟨#[]⟩, .string ⟨#[]⟩, .slice none 0 0]) (T := .mk (19, n, ⟨#[]⟩, ⟨#[]⟩) []) ?_ (leaf_rep (by omega) (by have := HT.out; omega) (by decide)) (by omega) (.inr ⟨rfl, by omega, by have := leaf_wt (op := 19) (n := n) (s := ⟨#[]⟩) (by decide); omega⟩)
      repeat first | exact grown_self _ _ | (refine grown_by_by ?_ (grown_setP _ _ _ _))
    · have hA' : ¬ bad < 0 ∨ (bad < 0 ∧ k ≠ 3) := by omega
      clear hA HK
      rcases hA' with hbad | ⟨hbad, hk⟩
      all_goals
        have HX := name_any E wq at_ bad FQ.out.st
        go_wp2_with fail
        refine HX.mono ?_
        rintro e w3 ⟨⟨b, rfl, hb⟩, hB⟩
        have F3 : Hid (Fr E w w3 w1.heap.size k t n p at_ bad) := FQ.out.step (grown_none _ hB) (FQ.out.st.on hB)
        clear hB HX c2 p0
        cases b with
        | true =>
          have hb' := hb rfl
          have HX := next_any E w3 at_ bad F3.out.st hb'.2
          clear hb hb'
          go_wp2_with fail
          refine HX.mono ?_
          rintro e w4 ⟨rfl, S4, g4⟩
          have F4 : Hid (Fr E w w4 w1.heap.size k t n p (at_ + 1) bad) := F3.out.step g4 S4
          clear S4 g4
          have r0 : w4.cell? ⟨w.heap.size, 0, none⟩ = some (.int .i64 0) := blk_cellP (i := 0) F4.out.res rfl
          have r1 : w4.cell? ⟨w.heap.size, 1, none⟩ = some (.int .i64 0) := blk_cellP (i := 1) F4.out.res rfl
          have r2 : w4.cell? ⟨w.heap.size, 2, none⟩ = some (.string ⟨#[]⟩) := blk_cellP (i := 2) F4.out.res rfl
          have r3 : w4.cell? ⟨w.heap.size, 3, none⟩ = some (.string ⟨#[]⟩) := blk_cellP (i := 3) F4.out.res rfl
          have r4 : w4.cell? ⟨w.heap.size, 4, none⟩ = some (.slice none 0 0) := blk_cellP (i := 4) F4.out.res rfl
          have fr : ∀ o, w4.frozen? ⟨w.heap.size, o, none⟩ = false := fun o => blk_freeP F4.out.res
          have q1 : w4.cell? ⟨w1.heap.size, 1, none⟩ = some (.string t) := blk_cellP (i := 1) F4.out.tok rfl
          clear HX
          go_wp2
          refine bodyPost_ret (v := .agg #[.int .i64 18, .int .i64 0, .string t, .string ⟨#[]⟩, .slice none 0 0]) (by simp [results, Tryz.f97, go_sem, r0, r1, r2, r3, r4]) rfl ?_
          refine F4.out.done (cs := [.int .i64 18, .int .i64 0, .string t, .string ⟨#[]⟩, .slice none 0 0]) (T := .mk (18, 0, t, ⟨#[]⟩) []) ?_ (leaf_rep (by omega) (by omega) (by have := HT.out.1; unfold maxLen; omega)) (by omega) (.inr ⟨rfl, by omega, by have := leaf_wt (op := 18) (n := 0) HT.out.1; omega⟩)
          repeat first | exact grown_self _ _ | (refine grown_by_by ?_ (grown_setP _ _ _ _))
        | false =>
          have HX := con_any E w3 at_ bad F3.out.st
          clear hb
          go_wp2_with fail
          refine HX.mono ?_
          rintro e w4 ⟨⟨b, rfl, hb⟩, hB⟩
          have F4 : Hid (Fr E w w4 w1.heap.size k t n p at_ bad) := F3.out.step (grown_none _ hB) (F3.out.st.on hB)
          clear hB HX
          cases b with
          | true =>
            have hb' := hb rfl
            have HX := next_any E w4 at_ bad F4.out.st hb'.2
            clear hb hb'
            go_wp2_with fail
            refine HX.mono ?_
            rintro e w5 ⟨rfl, S5, g5⟩
            have F5 : Hid (Fr E w w5 w1.heap.size k t n p (at_ + 1) bad) := F4.out.step g5 S5
            clear S5 g5
            have r0 : w5.cell? ⟨w.heap.size, 0, none⟩ = some (.int .i64 0) := blk_cellP (i := 0) F5.out.res rfl
            have r1 : w5.cell? ⟨w.heap.size, 1, none⟩ = some (.int .i64 0) := blk_cellP (i := 1) F5.out.res rfl
            have r2 : w5.cell? ⟨w.heap.size, 2, none⟩ = some (.string ⟨#[]⟩) := blk_cellP (i := 2) F5.out.res rfl
            have r3 : w5.cell? ⟨w.heap.size, 3, none⟩ = some (.string ⟨#[]⟩) := blk_cellP (i := 3) F5.out.res rfl
            have r4 : w5.cell? ⟨w.heap.size, 4, none⟩ = some (.slice none 0 0) := blk_cellP (i := 4) F5.out.res rfl
            have fr : ∀ o, w5.frozen? ⟨w.heap.size, o, none⟩ = false := fun o => blk_freeP F5.out.res
            have q1 : w5.cell? ⟨w1.heap.size, 1, none⟩ = some (.string t) := blk_cellP (i := 1) F5.out.tok rfl
            clear HX
            go_wp2
            refine bodyPost_ret (v := .agg #[.int .i64 20, .int .i64 0, .string t, .string ⟨#[]⟩, .slice none 0 0]) (by simp [results, Tryz.f97, go_sem, r0, r1, r2, r3, r4]) rfl ?_
            refine F5.out.done (cs := [.int .i64 20, .int .i64 0, .string t, .string ⟨#[]⟩, .slice none 0 0]) (T := .mk (20, 0, t, ⟨#[]⟩) []) ?_ (leaf_rep (by omega) (by omega) (by have := HT.out.1; unfold maxLen; omega)) (by omega) (.inr ⟨rfl, by omega, by have := leaf_wt (op := 20) (n := 0) HT.out.1; omega⟩)
            repeat first | exact grown_self _ _ | (refine grown_by_by ?_ (grown_setP _ _ _ _))
          | false =>
            have HX := take_any E w4 at_ bad F4.out.st ⟨#[40]⟩
            clear hb
            go_wp2_with fail
            refine HX.mono ?_
            rintro e w5 ⟨at5, bad5, rfl, S5, g5, hat5, hx5⟩
            have F5 : Hid (Fr E w w5 w1.heap.size k t n p at5 bad5) := F4.out.step g5 S5
            obtain ⟨va, vc, names, nn, hblk, -, -⟩ := S5.blk
            have c2 : w5.cell? ⟨E.cb, 2, none⟩ = some (.int .i64 bad5) := blk_cellP (i := 2) hblk rfl
            clear S5 g5 hblk HX
            by_cases hb5 : 0 ≤ bad5
            · have HB5 : Hid (0 ≤ bad5) := hb5
              clear hx5
              have r0 : w5.cell? ⟨w.heap.size, 0, none⟩ = some (.int .i64 0) := blk_cellP (i := 0) F5.out.res rfl
              have r1 : w5.cell? ⟨w.heap.size, 1, none⟩ = some (.int .i64 0) := blk_cellP (i := 1) F5.out.res rfl
              have r2 : w5.cell? ⟨w.heap.size, 2, none⟩ = some (.string ⟨#[]⟩) := blk_cellP (i := 2) F5.out.res rfl
              have r3 : w5.cell? ⟨w.heap.size, 3, none⟩ = some (.string ⟨#[]⟩) := blk_cellP (i := 3) F5.out.res rfl
              have r4 : w5.cell? ⟨w.heap.size, 4, none⟩ = some (.slice none 0 0) := blk_cellP (i := 4) F5.out.res rfl
              have fr : ∀ o, w5.frozen? ⟨w.heap.size, o, none⟩ = false := fun o => blk_freeP F5.out.res
              go_wp2
              refine bodyPost_ret (v := .agg #[.int .i64 0, .int .i64 0, .string ⟨#[]⟩, .string ⟨#[]⟩, .slice none 0 0]) (by simp [results, Tryz.f97, go_sem, r0, r1, r2, r3, r4]) rfl ?_
              refine F5.out.done (cs := [.int .i64 0, .int .i64 0, .string ⟨#[]⟩, .string ⟨#[]⟩, .slice none 0 0]) (T := .mk (0, 0, ⟨#[]⟩, ⟨#[]⟩) []) ?_ (leaf_rep (by omega) (by omega) (by decide)) (by omega) (.inl HB5.out)
              repeat first | exact grown_self _ _ | (refine grown_by_by ?_ (grown_setP _ _ _ _))
            · obtain ⟨rfl, rfl⟩ : at5 = at_ + 1 ∧ bad5 = bad := by
                rcases hx5 with h | h
                · exact h
                · exact absurd h hb5
              try (exfalso; omega)
              all_goals
                have HX := HEE.out w5 (at_ + 1) bad5 F5.out.st (by have := HLT.out; omega)
                clear hx5
                go_wp2_with fail
                refine HX.mono ?_
                rintro e w6 ⟨at6, bad6, cs, T, rfl, hrep, S6, g6, hat6, hx6⟩
                obtain ⟨x0, x1, x2, x3, xa, xc, xk, hTT, rfl, -, -, -⟩ := node.nd_open hrep
                clear hTT
                obtain ⟨w7, hw7⟩ : ∃ w7, w7 = w6.alloc (.cells #[.int .i64 x0, .int .i64 x1, .string x2, .string x3, .slice xa xk.length xc] 36) := ⟨_, rfl⟩
                have HW7 : Hid (w7 = w6.alloc (.cells #[.int .i64 x0, .int .i64 x1, .string x2, .string x3, .slice xa xk.length xc] 36)) := hw7
                have b7 : Below w6.heap.size w6 w7 := by rw [hw7]; exact (Below.refl _ _).alloc (Nat.le_refl _) _
                have F7 : Hid (Fr E w w7 w1.heap.size k t n p at6 bad6) := (F5.out.step g6 S6).step (grown_none _ b7) (S6.on b7)
                have hz7 : w7.heap.size = w6.heap.size + 1 := by rw [hw7]; simp
                have P7 : Hid (w7.heap[w6.heap.size]? = some (.cells #[.int .i64 x0, .int .i64 x1, .string x2, .string x3, .slice xa xk.length xc] 36)) := by show _ = _; rw [hw7]; exact alloc_top _ _
                have hz5 : w.heap.size < w5.heap.size := (Array.getElem?_eq_some_iff.1 F5.out.res).1
                have hz6 : w5.heap.size ≤ w6.heap.size := g6.size
                have R7 : Hid (node.ndSh.rep w7 (fun b => w.heap.size < b ∧ b < w6.heap.size) [.int .i64 x0, .int .i64 x1, .string x2, .string x3, .slice xa xk.length xc] T) := node.ndSh.mono (node.ndSh.on hrep fun b hS => b7.block b hS.2) fun b hS => ⟨by omega, hS.2⟩
                have HX6 : Hid (0 ≤ bad6 ∨ (bad6 = bad5 ∧ at_ + 1 < at6 ∧ node.wt T + 2 ≤ 10 * (at6 - (at_ + 1)))) := hx6
                have HX := take_any E w7 at6 bad6 F7.out.st ⟨#[41]⟩
                clear hrep S6 g6 hx6 hw7 b7 c2
                go_wp2_with fail
                rw [← HW7.out]
                refine HX.mono ?_
                rintro e w8 ⟨at8, bad8, rfl, S8, g8, hat8, hx8⟩
                have F8 : Hid (Fr E w w8 w1.heap.size k t n p at8 bad8) := F7.out.step g8 S8
                have P8 : Hid (w8.heap[w6.heap.size]? = some (.cells #[.int .i64 x0, .int .i64 x1, .string x2, .string x3, .slice xa xk.length xc] 36)) := (g8.block _ (by omega) fun e => by simp only [Option.some.injEq] at e; omega).trans P7.out
                have R8 : Hid (node.ndSh.rep w8 (fun b => w.heap.size < b ∧ b < w8.heap.size) [.int .i64 x0, .int .i64 x1, .string x2, .string x3, .slice xa xk.length xc] T) := node.ndSh.mono (node.ndSh.on R7.out fun b hS => g8.block b (by omega) fun e => by simp only [Option.some.injEq] at e; omega) fun b hS => ⟨hS.1, by have := g8.size; omega⟩
                have HX8 : Hid ((at8 = at6 + 1 ∧ bad8 = bad6) ∨ 0 ≤ bad8) := hx8
                have y0 : w8.cell? ⟨w6.heap.size, 0, none⟩ = some (.int .i64 x0) := blk_cellP (i := 0) P8.out rfl
                have y1 : w8.cell? ⟨w6.heap.size, 1, none⟩ = some (.int .i64 x1) := blk_cellP (i := 1) P8.out rfl
                have y2 : w8.cell? ⟨w6.heap.size, 2, none⟩ = some (.string x2) := blk_cellP (i := 2) P8.out rfl
                have y3 : w8.cell? ⟨w6.heap.size, 3, none⟩ = some (.string x3) := blk_cellP (i := 3) P8.out rfl
                have y4 : w8.cell? ⟨w6.heap.size, 4, none⟩ = some (.slice xa xk.length xc) := blk_cellP (i := 4) P8.out rfl
                clear HX S8 g8 hx8
                have r0 : w8.cell? ⟨w.heap.size, 0, none⟩ = some (.int .i64 0) := blk_cellP (i := 0) F8.out.res rfl
                have r1 : w8.cell? ⟨w.heap.size, 1, none⟩ = some (.int .i64 0) := blk_cellP (i := 1) F8.out.res rfl
                have r2 : w8.cell? ⟨w.heap.size, 2, none⟩ = some (.string ⟨#[]⟩) := blk_cellP (i := 2) F8.out.res rfl
                have r3 : w8.cell? ⟨w.heap.size, 3, none⟩ = some (.string ⟨#[]⟩) := blk_cellP (i := 3) F8.out.res rfl
                have r4 : w8.cell? ⟨w.heap.size, 4, none⟩ = some (.slice none 0 0) := blk_cellP (i := 4) F8.out.res rfl
                have fr : ∀ o, w8.frozen? ⟨w.heap.size, o, none⟩ = false := fun o => blk_freeP F8.out.res
                go_wp2
                refine bodyPost_ret (v := .agg #[.int .i64 x0, .int .i64 x1, .string x2, .string x3, .slice xa xk.length xc]) (by simp [results, Tryz.f97, go_sem, r0, r1, r2, r3, r4]) rfl ?_
                refine F8.out.done (cs := [.int .i64 x0, .int .i64 x1, .string x2, .string x3, .slice xa xk.length xc]) (T := T) ?_ R8.out (by omega) ?_
                · repeat first | exact grown_self _ _ | (refine grown_by_by ?_ (grown_setP _ _ _ _))
                · rcases HX8.out with ⟨rfl, rfl⟩ | h8
                  · rcases HX6.out with h6 | ⟨e6, h6, h6'⟩
                    · exact .inl h6
                    · exact .inr ⟨e6, by omega, by omega⟩
                  · exact .inl h8


end Go.Proofs.YtlnpfnglphdaiaaGreatDoor.tok
