/-
  The model's l3TyAtom, from what l3Ty says with fewer tokens left.
  The model's l3Alt, from what l3TyAtom says.
-/
import Derived.Test.YtlnpfnglphdaiaaGreatDoorB1
import Derived.Test.YtlnpfnglphdaiaaGreatDoorB2
import Derived.Test.YtlnpfnglphdaiaaGreatDoorB3
import Derived.Test.YtlnpfnglphdaiaaGreatDoorB4
import Derived.Test.YtlnpfnglphdaiaaGreatDoorB5
import Derived.Test.YtlnpfnglphdaiaaGreatDoorB6
import Derived.Test.YtlnpfnglphdaiaaGreatDoorB7
import Derived.Test.YtlnpfnglphdaiaaGreatDoorB8
import Derived.Test.YtlnpfnglphdaiaaGreatDoorB9
import Derived.Test.YtlnpfnglphdaiaaGreatDoorB10
namespace Go.Proofs.YtlnpfnglphdaiaaGreatDoor.tok
open Go Go.RowKit Go.Deep Go.Proofs.YtlnpfnglphdaiaaGreatDoor.rose Go.Proofs.YtlnpfnglphdaiaaGreatDoor
set_option linter.unusedVariables false
set_option linter.unusedSimpArgs false

theorem tleaf_rep {w : World} {S : Nat → Prop} {op n : Int} {s : ByteArray} (h1 : -9223372036854775808 ≤ op ∧ op ≤ 9223372036854775807) (h2 : -9223372036854775808 ≤ n ∧ n ≤ 9223372036854775807) (h3 : s.size ≤ maxLen) : tyP.rep w S [.int .i64 op, .int .i64 n, .string s, .slice none 0 0] (.mk (op, n, s) []) :=
  Sh.of (ty.ty_shut (x3 := []) (a3 := none) (c3 := 0) h1 h2 h3 ⟨none, 0, fun _ => [], rfl, Nat.le_refl _, Nat.zero_le _, fun _ => rfl, fun i hi => absurd hi (Nat.not_lt_zero _), fun i hi => absurd hi (Nat.not_lt_zero _)⟩)
theorem tleaf_wt {op n : Int} {s : ByteArray} (h : s.size ≤ 8) : ty.wt (.mk (op, n, s) []) ≤ 8 := by simp [ty.wt, ty.wts]; exact h

set_option maxRecDepth 100000 in
set_option maxHeartbeats 8000000 in
theorem tyatom_of (E : Env) (N : Nat) (HY : GTold 96 tyP ty.wt E fun at_ => E.toks.length - at_ < N) (w : World) (at_ : Nat) (bad : Int) (h : St E w at_ bad) (hN : E.toks.length - at_ ≤ N) :
    Calls Tryz.prog 86 #[.pointer (some ⟨E.cb, 0, none⟩)] w (Gives tyP ty.wt E w at_ bad) := by
  have HL : Hid (∀ k t n p, E.toks[at_]'h.lt = (k, t, n, p) → k ≠ 0 → at_ + 1 < E.toks.length) := fun k t n p he hk => h.notLast (by rw [he]; exact hk)
  have HLT : Hid (at_ < E.toks.length) := h.lt
  have HY' : Hid _ := HY
  have HS : Hid (St E w at_ bad) := h
  have HN : Hid (E.toks.length - at_ ≤ N) := hN
  obtain ⟨w0, hw0⟩ : ∃ w0, w0 = w.alloc (.cells #[.int .i64 0, .int .i64 0, .string ⟨#[]⟩, .slice none 0 0] 145) := ⟨_, rfl⟩
  have HW0 : Hid (w0 = w.alloc (.cells #[.int .i64 0, .int .i64 0, .string ⟨#[]⟩, .slice none 0 0] 145)) := hw0
  have C0 : Hid (Gx (.cells #[.int .i64 0, .int .i64 0, .string ⟨#[]⟩, .slice none 0 0] 145) E w w0 at_ bad) := Gx.start h hw0
  clear hw0 HY hN
  go_enter Tryz.func86, Tryz.ntmps86
  have HX := now_any E w0 at_ bad C0.out.st
  go_wp2_with fail
  rw [← HW0.out]
  refine HX.mono ?_
  rintro e w1 ⟨⟨k, t, n, p, he, rfl, ht, hn0, hn1, -⟩, hb⟩
  have HK : Hid (k ≠ 0 → at_ + 1 < E.toks.length) := HL.out k t n p he
  have HT0 : Hid (t.size ≤ 8) := ht
  obtain ⟨w2, hw2⟩ : ∃ w2, w2 = w1.alloc (.cells #[.int .i64 k, .string t, .int .i64 n, .int .i64 p] 125) := ⟨_, rfl⟩
  have HW2 : Hid (w2 = w1.alloc (.cells #[.int .i64 k, .string t, .int .i64 n, .int .i64 p] 125)) := hw2
  have hB : Below w0.heap.size w0 w2 := by rw [hw2]; exact hb.alloc hb.size _
  have C2 : Hid (Gx (.cells #[.int .i64 0, .int .i64 0, .string ⟨#[]⟩, .slice none 0 0] 145) E w w2 at_ bad) := C0.out.on hB
  have HTB : Hid (w.heap.size < w1.heap.size) := by have := C0.out.lt; have := hb.size; show _ < _; omega
  have TK2 : Hid (w2.heap[w1.heap.size]? = some (.cells #[.int .i64 k, .string t, .int .i64 n, .int .i64 p] 125)) := by show _ = _; rw [hw2]; exact alloc_top _ _
  clear HX he ht hn0 hn1 hb hw2 hB
  have HX := name_any E w2 at_ bad C2.out.st
  go_wp2_with fail
  rw [← HW2.out]
  refine HX.mono ?_
  rintro e w3 ⟨⟨b, rfl, hb⟩, hB⟩
  have C3 : Hid (Gx (.cells #[.int .i64 0, .int .i64 0, .string ⟨#[]⟩, .slice none 0 0] 145) E w w3 at_ bad) := C2.out.on hB
  have TK3 : Hid (w3.heap[w1.heap.size]? = some (.cells #[.int .i64 k, .string t, .int .i64 n, .int .i64 p] 125)) := (hB.block _ (Array.getElem?_eq_some_iff.1 TK2.out).1).trans TK2.out
  clear hB HX
  cases b with
  | true =>
    have HB : Hid (bad < 0 ∧ at_ + 1 < E.toks.length) := hb rfl
    clear hb
    have HX := next_any E w3 at_ bad C3.out.st HB.out.2
    go_wp2_with fail
    refine HX.mono ?_
    rintro e w4 ⟨rfl, S, g⟩
    have C4 : Hid (Gx (.cells #[.int .i64 0, .int .i64 0, .string ⟨#[]⟩, .slice none 0 0] 145) E w w4 (at_ + 1) bad) := C3.out.by g S
    have TK4 : Hid (w4.heap[w1.heap.size]? = some (.cells #[.int .i64 k, .string t, .int .i64 n, .int .i64 p] 125)) := (g.block _ (Array.getElem?_eq_some_iff.1 TK3.out).1 fun e => by simp only [Option.some.injEq] at e; have := C4.out.cb; have := HTB.out; omega).trans TK3.out
    clear HX S g
    have q1 : w4.cell? ⟨w1.heap.size, 1, none⟩ = some (.string t) := blk_cellG (i := 1) TK4.out rfl
    have HX := var_any E w4 (at_ + 1) bad C4.out.st t
    go_wp2_with fail
    refine HX.mono ?_
    rintro e w5 ⟨⟨m, rfl, hm⟩, S, g⟩
    have C5 : Hid (Gx (.cells #[.int .i64 0, .int .i64 0, .string ⟨#[]⟩, .slice none 0 0] 145) E w w5 (at_ + 1) bad) := C4.out.by g S
    have TK5 : Hid (w5.heap[w1.heap.size]? = some (.cells #[.int .i64 k, .string t, .int .i64 n, .int .i64 p] 125)) := (g.block _ (Array.getElem?_eq_some_iff.1 TK4.out).1 fun e => by simp only [Option.some.injEq] at e; have := C5.out.cb; have := HTB.out; omega).trans TK4.out
    clear HX S g q1
    have hmi : (m : Int) ≤ 3001 := by omega
    have HT : Hid (∀ w', w5.grownBy w' (some w.heap.size) → Gives tyP ty.wt E w at_ bad (.returned (.agg [.int .i64 2, .int .i64 (m : Int), .string ⟨#[]⟩, .slice none 0 0].toArray)) w') := fun w' hg' => answerG (T := .mk (2, (m : Int), ⟨#[]⟩) []) HS.out C5.out.gr C5.out.lt (tleaf_rep (by omega) (by omega) (by decide)) C5.out.st (by omega) (.inr ⟨rfl, by omega, by have := tleaf_wt (op := 2) (n := (m : Int)) (s := ⟨#[]⟩) (by decide); omega⟩) hg'
    have r0 : w5.cell? ⟨w.heap.size, 0, none⟩ = some (.int .i64 0) := blk_cellG (i := 0) C5.out.res rfl
    have r1 : w5.cell? ⟨w.heap.size, 1, none⟩ = some (.int .i64 0) := blk_cellG (i := 1) C5.out.res rfl
    have r2 : w5.cell? ⟨w.heap.size, 2, none⟩ = some (.string ⟨#[]⟩) := blk_cellG (i := 2) C5.out.res rfl
    have r3 : w5.cell? ⟨w.heap.size, 3, none⟩ = some (.slice none 0 0) := blk_cellG (i := 3) C5.out.res rfl
    have fr : ∀ o, w5.frozen? ⟨w.heap.size, o, none⟩ = false := fun o => blk_freeG C5.out.res
    clear HK
    go_wp2
    refine bodyPost_ret (v := .agg #[.int .i64 2, .int .i64 (m : Int), .string ⟨#[]⟩, .slice none 0 0]) (by simp [results, Tryz.f86, go_sem, r0, r1, r2, r3]) rfl ?_
    refine HT.out _ ?_
    repeat first | exact grown_self _ _ | (refine grown_by_by ?_ (grown_setG _ _ _ _))
  | false =>
    clear hb
    have HX := con_any E w3 at_ bad C3.out.st
    go_wp2_with fail
    refine HX.mono ?_
    rintro e w6 ⟨⟨b, rfl, hb⟩, hB⟩
    have C6 : Hid (Gx (.cells #[.int .i64 0, .int .i64 0, .string ⟨#[]⟩, .slice none 0 0] 145) E w w6 at_ bad) := C3.out.on hB
    have TK6 : Hid (w6.heap[w1.heap.size]? = some (.cells #[.int .i64 k, .string t, .int .i64 n, .int .i64 p] 125)) := (hB.block _ (Array.getElem?_eq_some_iff.1 TK3.out).1).trans TK3.out
    clear hB HX
    cases b with
    | true =>
      have HB : Hid (bad < 0 ∧ at_ + 1 < E.toks.length) := hb rfl
      clear hb
      have HX := next_any E w6 at_ bad C6.out.st HB.out.2
      go_wp2_with fail
      refine HX.mono ?_
      rintro e w7 ⟨rfl, S, g⟩
      have C7 : Hid (Gx (.cells #[.int .i64 0, .int .i64 0, .string ⟨#[]⟩, .slice none 0 0] 145) E w w7 (at_ + 1) bad) := C6.out.by g S
      have TK7 : Hid (w7.heap[w1.heap.size]? = some (.cells #[.int .i64 k, .string t, .int .i64 n, .int .i64 p] 125)) := (g.block _ (Array.getElem?_eq_some_iff.1 TK6.out).1 fun e => by simp only [Option.some.injEq] at e; have := C7.out.cb; have := HTB.out; omega).trans TK6.out
      clear HX S g
      have q1 : w7.cell? ⟨w1.heap.size, 1, none⟩ = some (.string t) := blk_cellG (i := 1) TK7.out rfl
      have HT : Hid (∀ w', w7.grownBy w' (some w.heap.size) → Gives tyP ty.wt E w at_ bad (.returned (.agg [.int .i64 4, .int .i64 0, .string t, .slice none 0 0].toArray)) w') := fun w' hg' => answerG (T := .mk (4, 0, t) []) HS.out C7.out.gr C7.out.lt (tleaf_rep (by omega) (by omega) (by have := HT0.out; unfold maxLen; omega)) C7.out.st (by omega) (.inr ⟨rfl, by omega, by have := tleaf_wt (op := 4) (n := 0) (s := t) (HT0.out); omega⟩) hg'
      have r0 : w7.cell? ⟨w.heap.size, 0, none⟩ = some (.int .i64 0) := blk_cellG (i := 0) C7.out.res rfl
      have r1 : w7.cell? ⟨w.heap.size, 1, none⟩ = some (.int .i64 0) := blk_cellG (i := 1) C7.out.res rfl
      have r2 : w7.cell? ⟨w.heap.size, 2, none⟩ = some (.string ⟨#[]⟩) := blk_cellG (i := 2) C7.out.res rfl
      have r3 : w7.cell? ⟨w.heap.size, 3, none⟩ = some (.slice none 0 0) := blk_cellG (i := 3) C7.out.res rfl
      have fr : ∀ o, w7.frozen? ⟨w.heap.size, o, none⟩ = false := fun o => blk_freeG C7.out.res
      clear HK
      go_wp2
      refine bodyPost_ret (v := .agg #[.int .i64 4, .int .i64 0, .string t, .slice none 0 0]) (by simp [results, Tryz.f86, go_sem, r0, r1, r2, r3]) rfl ?_
      refine HT.out _ ?_
      repeat first | exact grown_self _ _ | (refine grown_by_by ?_ (grown_setG _ _ _ _))
    | false =>
      clear hb
      obtain ⟨va, vc, names, nn, hblk, -, -⟩ := C6.out.st.blk
      have c2 : w6.cell? ⟨E.cb, 2, none⟩ = some (.int .i64 bad) := blk_cellG (i := 2) hblk rfl
      have p0 : w6.cell? ⟨w1.heap.size, 0, none⟩ = some (.int .i64 k) := blk_cellG (i := 0) TK6.out rfl
      clear hblk
      by_cases hA : bad < 0 ∧ k = 2
      · obtain ⟨hbad, hk2⟩ := hA
        rw [hk2] at p0
        have KK := HK.out (by omega)
        clear hk2
        have HX := next_any E w6 at_ bad C6.out.st KK
        go_wp2_with fail
        refine HX.mono ?_
        rintro e w8 ⟨rfl, S, g⟩
        have C8 : Hid (Gx (.cells #[.int .i64 0, .int .i64 0, .string ⟨#[]⟩, .slice none 0 0] 145) E w w8 (at_ + 1) bad) := C6.out.by g S
        have TK8 : Hid (w8.heap[w1.heap.size]? = some (.cells #[.int .i64 k, .string t, .int .i64 n, .int .i64 p] 125)) := (g.block _ (Array.getElem?_eq_some_iff.1 TK6.out).1 fun e => by simp only [Option.some.injEq] at e; have := C8.out.cb; have := HTB.out; omega).trans TK6.out
        clear HX S g
        clear KK c2 p0
        have HT : Hid (∀ w', w8.grownBy w' (some w.heap.size) → Gives tyP ty.wt E w at_ bad (.returned (.agg [.int .i64 1, .int .i64 0, .string ⟨#[]⟩, .slice none 0 0].toArray)) w') := fun w' hg' => answerG (T := .mk (1, 0, ⟨#[]⟩) []) HS.out C8.out.gr C8.out.lt (tleaf_rep (by omega) (by omega) (by decide)) C8.out.st (by omega) (.inr ⟨rfl, by omega, by have := tleaf_wt (op := 1) (n := 0) (s := ⟨#[]⟩) (by decide); omega⟩) hg'
        have r0 : w8.cell? ⟨w.heap.size, 0, none⟩ = some (.int .i64 0) := blk_cellG (i := 0) C8.out.res rfl
        have r1 : w8.cell? ⟨w.heap.size, 1, none⟩ = some (.int .i64 0) := blk_cellG (i := 1) C8.out.res rfl
        have r2 : w8.cell? ⟨w.heap.size, 2, none⟩ = some (.string ⟨#[]⟩) := blk_cellG (i := 2) C8.out.res rfl
        have r3 : w8.cell? ⟨w.heap.size, 3, none⟩ = some (.slice none 0 0) := blk_cellG (i := 3) C8.out.res rfl
        have fr : ∀ o, w8.frozen? ⟨w.heap.size, o, none⟩ = false := fun o => blk_freeG C8.out.res
        clear HK
        go_wp2
        refine bodyPost_ret (v := .agg #[.int .i64 1, .int .i64 0, .string ⟨#[]⟩, .slice none 0 0]) (by simp [results, Tryz.f86, go_sem, r0, r1, r2, r3]) rfl ?_
        refine HT.out _ ?_
        repeat first | exact grown_self _ _ | (refine grown_by_by ?_ (grown_setG _ _ _ _))
      · have hA' : ¬ bad < 0 ∨ (bad < 0 ∧ k ≠ 2) := by omega
        clear hA HK
        rcases hA' with hbad | ⟨hbad, hk⟩
        all_goals
          have HX := take_any E w6 at_ bad C6.out.st ⟨#[40]⟩
          go_wp2_with fail
          refine HX.mono ?_
          rintro e w9 ⟨at9, bad9, rfl, S, g, hle, hx⟩
          have C9 : Hid (Gx (.cells #[.int .i64 0, .int .i64 0, .string ⟨#[]⟩, .slice none 0 0] 145) E w w9 at9 bad9) := C6.out.by g S
          have TK9 : Hid (w9.heap[w1.heap.size]? = some (.cells #[.int .i64 k, .string t, .int .i64 n, .int .i64 p] 125)) := (g.block _ (Array.getElem?_eq_some_iff.1 TK6.out).1 fun e => by simp only [Option.some.injEq] at e; have := C9.out.cb; have := HTB.out; omega).trans TK6.out
          have R9 : Hid (at_ ≤ at9 ∧ ((at9 = at_ + 1 ∧ bad9 = bad) ∨ 0 ≤ bad9)) := ⟨hle, hx⟩
          clear HX S g hle hx
          clear c2 p0
          obtain ⟨va, vc, names, nn, hblk, -, -⟩ := C9.out.st.blk
          have c2 : w9.cell? ⟨E.cb, 2, none⟩ = some (.int .i64 bad9) := blk_cellG (i := 2) hblk rfl
          clear hblk
          by_cases hb5 : 0 ≤ bad9
          · have HB5 : Hid (0 ≤ bad9) := hb5
            have HT : Hid (∀ w', w9.grownBy w' (some w.heap.size) → Gives tyP ty.wt E w at_ bad (.returned (.agg [.int .i64 0, .int .i64 0, .string ⟨#[]⟩, .slice none 0 0].toArray)) w') := fun w' hg' => answerG (T := .mk (0, 0, ⟨#[]⟩) []) HS.out C9.out.gr C9.out.lt (tleaf_rep (by omega) (by omega) (by decide)) C9.out.st (by have := R9.out; omega) (.inl HB5.out) hg'
            have r0 : w9.cell? ⟨w.heap.size, 0, none⟩ = some (.int .i64 0) := blk_cellG (i := 0) C9.out.res rfl
            have r1 : w9.cell? ⟨w.heap.size, 1, none⟩ = some (.int .i64 0) := blk_cellG (i := 1) C9.out.res rfl
            have r2 : w9.cell? ⟨w.heap.size, 2, none⟩ = some (.string ⟨#[]⟩) := blk_cellG (i := 2) C9.out.res rfl
            have r3 : w9.cell? ⟨w.heap.size, 3, none⟩ = some (.slice none 0 0) := blk_cellG (i := 3) C9.out.res rfl
            have fr : ∀ o, w9.frozen? ⟨w.heap.size, o, none⟩ = false := fun o => blk_freeG C9.out.res
            go_wp2
            refine bodyPost_ret (v := .agg #[.int .i64 0, .int .i64 0, .string ⟨#[]⟩, .slice none 0 0]) (by simp [results, Tryz.f86, go_sem, r0, r1, r2, r3]) rfl ?_
            refine HT.out _ ?_
            repeat first | exact grown_self _ _ | (refine grown_by_by ?_ (grown_setG _ _ _ _))
          · have HB5 : Hid (¬ 0 ≤ bad9) := hb5
            have HX := HY'.out w9 at9 bad9 C9.out.st (by have := HN.out; have := HLT.out; have := R9.out; have := HB5.out; omega)
            go_wp2_with fail
            refine HX.mono ?_
            rintro e w10 ⟨at10, bad10, cs, T10, rfl, hrep, S, g, hle, hx⟩
            obtain ⟨u10_0, u10_1, u10_2, uk, ua10, uc10, hTT, rfl, -, -, -, -⟩ := ty.ty_open (Sh.bare hrep)
            clear hTT
            obtain ⟨ul10, hul⟩ : ∃ n, n = uk.length := ⟨_, rfl⟩
            rw [← hul] at hrep ⊢
            clear hul
            have C10 : Hid (Gx (.cells #[.int .i64 0, .int .i64 0, .string ⟨#[]⟩, .slice none 0 0] 145) E w w10 at10 bad10) := C9.out.by g S
            have TK10 : Hid (w10.heap[w1.heap.size]? = some (.cells #[.int .i64 k, .string t, .int .i64 n, .int .i64 p] 125)) := (g.block _ (Array.getElem?_eq_some_iff.1 TK9.out).1 fun e => by simp only [Option.some.injEq] at e; have := C10.out.cb; have := HTB.out; omega).trans TK9.out
            have R10 : Hid (at9 ≤ at10 ∧ (0 ≤ bad10 ∨ (bad10 = bad9 ∧ at9 < at10 ∧ ty.wt T10 + 2 ≤ 10 * (at10 - at9)))) := ⟨hle, hx⟩
            obtain ⟨w11, hw11⟩ : ∃ x, x = w10.alloc (.cells #[.int .i64 u10_0, .int .i64 u10_1, .string u10_2, .slice ua10 ul10 uc10] 145) := ⟨_, rfl⟩
            have HW11 : Hid (w11 = w10.alloc (.cells #[.int .i64 u10_0, .int .i64 u10_1, .string u10_2, .slice ua10 ul10 uc10] 145)) := hw11
            have hB : Below w10.heap.size w10 w11 := by rw [hw11]; exact (Below.refl _ _).alloc (Nat.le_refl _) _
            have HD : Gh tyP 145 w11 (w.heap.size + 1) w10.heap.size [.int .i64 u10_0, .int .i64 u10_1, .string u10_2, .slice ua10 ul10 uc10] T10 := Gh.new (tyP.mono hrep fun b hS => ⟨by have := C9.out.lt; omega, hS.2⟩) (by have := C10.out.lt; omega) hw11
            have C11 : Hid (Gx (.cells #[.int .i64 0, .int .i64 0, .string ⟨#[]⟩, .slice none 0 0] 145) E w w11 at10 bad10) := C10.out.on hB
            have TK11 : Hid (w11.heap[w1.heap.size]? = some (.cells #[.int .i64 k, .string t, .int .i64 n, .int .i64 p] 125)) := (hB.block _ (Array.getElem?_eq_some_iff.1 TK10.out).1).trans TK10.out
            have H10_11 : Hid (Gh tyP 145 w11 (w.heap.size + 1) w10.heap.size [.int .i64 u10_0, .int .i64 u10_1, .string u10_2, .slice ua10 ul10 uc10] T10) := HD
            clear HX hrep S g hle hx hB HD hw11 c2
            have HX := take_any E w11 at10 bad10 C11.out.st ⟨#[41]⟩
            go_wp2_with fail
            rw [← HW11.out]
            refine HX.mono ?_
            rintro e w12 ⟨at12, bad12, rfl, S, g, hle, hx⟩
            have C12 : Hid (Gx (.cells #[.int .i64 0, .int .i64 0, .string ⟨#[]⟩, .slice none 0 0] 145) E w w12 at12 bad12) := C11.out.by g S
            have H10_12 : Hid (Gh tyP 145 w12 (w.heap.size + 1) w10.heap.size [.int .i64 u10_0, .int .i64 u10_1, .string u10_2, .slice ua10 ul10 uc10] T10) := H10_11.out.by g (by have := C12.out.cb; omega)
            have TK12 : Hid (w12.heap[w1.heap.size]? = some (.cells #[.int .i64 k, .string t, .int .i64 n, .int .i64 p] 125)) := (g.block _ (Array.getElem?_eq_some_iff.1 TK11.out).1 fun e => by simp only [Option.some.injEq] at e; have := C12.out.cb; have := HTB.out; omega).trans TK11.out
            have R12 : Hid (at10 ≤ at12 ∧ ((at12 = at10 + 1 ∧ bad12 = bad10) ∨ 0 ≤ bad12)) := ⟨hle, hx⟩
            clear HX S g hle hx
            have y0 : w12.cell? ⟨w10.heap.size, 0, none⟩ = some (.int .i64 u10_0) := blk_cellG (i := 0) H10_12.out.blk rfl
            have y1 : w12.cell? ⟨w10.heap.size, 1, none⟩ = some (.int .i64 u10_1) := blk_cellG (i := 1) H10_12.out.blk rfl
            have y2 : w12.cell? ⟨w10.heap.size, 2, none⟩ = some (.string u10_2) := blk_cellG (i := 2) H10_12.out.blk rfl
            have y3 : w12.cell? ⟨w10.heap.size, 3, none⟩ = some (.slice ua10 ul10 uc10) := blk_cellG (i := 3) H10_12.out.blk rfl
            have HT : Hid (∀ w', w12.grownBy w' (some w.heap.size) → Gives tyP ty.wt E w at_ bad (.returned (.agg [.int .i64 u10_0, .int .i64 u10_1, .string u10_2, .slice ua10 ul10 uc10].toArray)) w') := fun w' hg' => answerG HS.out C12.out.gr C12.out.lt (tyP.mono H10_12.out.rep fun b hS => ⟨by omega, hS.2⟩) C12.out.st (by have := R9.out; have := R10.out; have := R12.out; omega) (by
              have := R9.out; have := R10.out; have := R12.out; have := HB5.out
              by_cases hb : 0 ≤ bad12
              · exact .inl hb
              · exact .inr ⟨by omega, by omega, by omega⟩) hg'
            have r0 : w12.cell? ⟨w.heap.size, 0, none⟩ = some (.int .i64 0) := blk_cellG (i := 0) C12.out.res rfl
            have r1 : w12.cell? ⟨w.heap.size, 1, none⟩ = some (.int .i64 0) := blk_cellG (i := 1) C12.out.res rfl
            have r2 : w12.cell? ⟨w.heap.size, 2, none⟩ = some (.string ⟨#[]⟩) := blk_cellG (i := 2) C12.out.res rfl
            have r3 : w12.cell? ⟨w.heap.size, 3, none⟩ = some (.slice none 0 0) := blk_cellG (i := 3) C12.out.res rfl
            have fr : ∀ o, w12.frozen? ⟨w.heap.size, o, none⟩ = false := fun o => blk_freeG C12.out.res
            go_wp2
            refine bodyPost_ret (v := .agg #[.int .i64 u10_0, .int .i64 u10_1, .string u10_2, .slice ua10 ul10 uc10]) (by simp [results, Tryz.f86, go_sem, r0, r1, r2, r3]) rfl ?_
            refine HT.out _ ?_
            repeat first | exact grown_self _ _ | (refine grown_by_by ?_ (grown_setG _ _ _ _))

end Go.Proofs.YtlnpfnglphdaiaaGreatDoor.tok

namespace Go.Proofs.YtlnpfnglphdaiaaGreatDoor.tok
open Go Go.RowKit Go.Deep Go.Proofs.YtlnpfnglphdaiaaGreatDoor.rose Go.Proofs.YtlnpfnglphdaiaaGreatDoor
set_option linter.unusedVariables false
set_option linter.unusedSimpArgs false

theorem entTA : Enters Tryz.prog 86 := enters_of Tryz.func86 (by kernel_rfl) rfl
theorem infoTyP : (Tryz.prog.info? 145).map (fun i => (i.zero, i.size, i.bytes)) = some (some (.agg #[.int .i64 0, .int .i64 0, .string ⟨#[]⟩, .slice none 0 0]), 4, 56) := by kernel_rfl
theorem twts_snoc (xs : List ty.TyD) (x : ty.TyD) : ty.wts (xs ++ [x]) = ty.wts xs + ty.wt x := by
  induction xs with
  | nil => simp [ty.wts]
  | cons a xs ih => simp [ty.wts, ih]; omega
def atG (E : Env) (w : World) : Nat := match w.cell? ⟨E.cb, 1, none⟩ with | some (.int _ z) => z.toNat | _ => 0
def badG (E : Env) (w : World) : Int := match w.cell? ⟨E.cb, 2, none⟩ with | some (.int _ z) => z | _ => 0
/-- What is left to do. -/
def msrG (E : Env) (w : World) : Nat := 2 * (E.toks.length - atG E w) + (if badG E w < 0 then 1 else 0)
theorem St.msrG {E : Env} {w : World} {at_ : Nat} {bad : Int} (h : St E w at_ bad) : tok.msrG E w = 2 * (E.toks.length - at_) + (if bad < 0 then 1 else 0) := by
  obtain ⟨va, vc, names, nn, hblk, -, -⟩ := h.blk
  have h1 : w.cell? ⟨E.cb, 1, none⟩ = some (.int .i64 at_) := blk_cellG (i := 1) hblk rfl
  have h2 : w.cell? ⟨E.cb, 2, none⟩ = some (.int .i64 bad) := blk_cellG (i := 2) hblk rfl
  unfold tok.msrG
  have e1 : atG E w = at_ := by simp [atG, h1]
  have e2 : badG E w = bad := by simp [badG, h2]
  rw [e1, e2]

set_option maxRecDepth 100000 in
set_option maxHeartbeats 8000000 in
theorem alt_of (E : Env) (HA : GTold 86 tyP ty.wt E fun _ => True) (w : World) (at_ : Nat) (bad : Int) (h : St E w at_ bad) (hN : True) :
    Calls Tryz.prog 60 #[.pointer (some ⟨E.cb, 0, none⟩)] w (Gives conP con.wt E w at_ bad) := by
  obtain ⟨ti, hti, hzz⟩ := Option.map_eq_some_iff.1 infoTyP
  simp only [Prod.mk.injEq] at hzz
  obtain ⟨hi0, hi1, hi2⟩ := hzz
  have TI : Hid (Tryz.prog.info? 145 = some ti ∧ ti.zero = some (.agg #[.int .i64 0, .int .i64 0, .string ⟨#[]⟩, .slice none 0 0]) ∧ ti.size = 4 ∧ ti.bytes = 56) := ⟨hti, hi0, hi1, hi2⟩
  clear hti hi0 hi1 hi2
  have HA' : Hid _ := HA
  have HS : Hid (St E w at_ bad) := h
  have HN : Hid (True) := hN
  obtain ⟨w0, hw0⟩ : ∃ w0, w0 = w.alloc (.cells #[.string ⟨#[]⟩, .slice none 0 0] 86) := ⟨_, rfl⟩
  have HW0 : Hid (w0 = w.alloc (.cells #[.string ⟨#[]⟩, .slice none 0 0] 86)) := hw0
  have C0 : Hid (Gx (.cells #[.string ⟨#[]⟩, .slice none 0 0] 86) E w w0 at_ bad) := Gx.start h hw0
  clear hw0 HA h hN
  go_enter Tryz.func60, Tryz.ntmps60
  have HX := text3_any E w0 at_ bad C0.out.st true
  go_wp2_with fail
  rw [← HW0.out]
  refine HX.mono ?_
  rintro e w1 ⟨at1, bad1, t, rfl, ht, S, g, hle, hx⟩
  have C1 : Hid (Gx (.cells #[.string ⟨#[]⟩, .slice none 0 0] 86) E w w1 at1 bad1) := C0.out.by g S
  have R1 : Hid (t.size ≤ 8 ∧ at_ ≤ at1 ∧ ((at1 = at_ + 1 ∧ bad1 = bad) ∨ 0 ≤ bad1)) := ⟨ht, hle, hx⟩
  clear HX S g ht hle hx
  have K1 : Hid (Gc tyP 145 (.cells #[.string ⟨#[]⟩, .slice none 0 0] 86) (fun v => .cells #[.string t, v] 86) (fun xs => 8 + xs.length + ty.wts xs) E w (w1.alloc (.cells #[.string t, .slice none 0 0] 86)) w1.heap.size (.slice none 0 0) [] at_ bad at1 bad1) := by
    have b3 : Below w1.heap.size w1 (w1.alloc (.cells #[.string t, .slice none 0 0] 86)) := (Below.refl _ _).alloc (Nat.le_refl _) _
    have r := R1.out
    refine ⟨C1.out.on b3, alloc_top _ _, C1.out.lt, GKids.nil _ _ _, (fun e => by cases e), HS.out.top, fun b hb => .inl (HS.out.ns b hb).1, by omega, ?_⟩
    rcases r.2.2 with ⟨h1, h2⟩ | h2
    · exact .inr ⟨h2, by omega, by simp [ty.wts]; omega⟩
    · exact .inl h2
  have HTS : Hid (t.size ≤ 8) := R1.out.1
  go_wp2
  go_loopw [8] (fun _ wr => ∃ (v : Value) (xs : List ty.TyD) (at' : Nat) (bad' : Int), Hid (Gc tyP 145 (.cells #[.string ⟨#[]⟩, .slice none 0 0] 86) (fun v => .cells #[.string t, v] 86) (fun xs => 8 + xs.length + ty.wts xs) E w wr w1.heap.size v xs at_ bad at' bad')) (fun _ wr => msrG E wr)
  case atStart => exact ⟨_, [], at1, bad1, K1⟩
  case round =>
    clear K1
    obtain ⟨v, xs, at', bad', HK⟩ := hrel
    have HM : Hid (msrG E wr = 2 * (E.toks.length - at') + (if bad' < 0 then 1 else 0)) := HK.out.cx.st.msrG
    have HX := small3_any E wr at' bad' HK.out.cx.st
    go_wp2_with fail
    refine HX.mono ?_
    rintro e w3 ⟨⟨b, rfl, hb⟩, hB⟩
    have K3 : Hid (Gc tyP 145 (.cells #[.string ⟨#[]⟩, .slice none 0 0] 86) (fun v => .cells #[.string t, v] 86) (fun xs => 8 + xs.length + ty.wts xs) E w w3 w1.heap.size v xs at_ bad at' bad') := HK.out.on hB
    clear hB HX
    cases b with
    | true =>
      have HBD : Hid (bad' < 0 ∧ at' + 1 < E.toks.length) := hb rfl
      clear hb
      obtain ⟨av, cv, hv⟩ := K3.out.row.slice
      have HV : Hid (v = .slice av xs.length cv) := hv
      clear hv
      obtain ⟨cssG, grow, gk⟩ := K3.out.row
      have GR : Hid (w3.ownsRow (w.heap.size + 1) 145 4 v xs.length (flat cssG xs.length)) := grow
      have GK : Hid (∀ i (h : i < xs.length), tyP.rep w3 (fun b => w.heap.size < b ∧ b < w3.heap.size ∧ b ≠ w1.heap.size ∧ v.ownBlock ≠ some b) (cssG i) xs[i]) := gk
      have HOR : Hid (∀ g, v.ownBlock = some g → g < w3.heap.size) := fun g e => (K3.out.row.ownlt e).2
      have hab : w1.heap.size < w3.heap.size := K3.out.ablt
      have hcb := K3.out.cx.cb
      have habw := K3.out.ab
      have hz3 := K3.out.cx.lt
      have g4 : w3.cell? ⟨w1.heap.size, 1, none⟩ = some v := blk_cellG (i := 1) K3.out.acc rfl
      have HLN : Hid (xs.length ≤ 30010) := by
        have h1 := K3.out.hx; have h2 := HBD.out; have h3 := K3.out.cx.st.len; have h4 := K3.out.cx.st.lt; show _ ≤ _; omega
      have hcall := HA'.out w3.drew at' bad' (K3.out.cx.st.on (Below.refl _ _).drew) trivial
      clear grow gk
      go_wp2_with fail
      go_region_law
        (first
          | (refine step_append_own rfl _ _ 84 rfl (w.heap.size + 1) 145 ti _ 4 56 Tryz.underlying84 TI.out.1 TI.out.2.1 TI.out.2.2.1 TI.out.2.2.2 rfl (by decide) v xs.length _ (by first | (simp [Act.eval, HV.out]; done) | (simp [Act.eval, Act.put, HV.out]; done)) RA.out ⟨w5.heap.size, 0, none⟩ 1 1 [.int .i64 u0, .int .i64 u1, .string u2, .slice ua ul uc] rfl rfl (cells_new _ _ _ _ rfl) (by simp [Value.oneCell']) (by unfold maxLen; have := HLN.out; omega) (by have := HLN.out; omega) (by have := Z5.out; simp; omega) ?_; intro qa ql qc w6 hown6 hgrow6 hat6
             have hO6 : w6.heap[w1.heap.size]? = some (.cells #[.string t, v] 86) := (hgrow6.block w1.heap.size (by have := Z5.out; simp; omega) (fun e => K3.out.own e.symm)).trans ((Below.heap_alloc _ _ _ (by have := Z5.out; omega)).trans O5.out)
             have y0 : w6.cell? ⟨w1.heap.size, 1, none⟩ = some v := blk_cellG (i := 1) hO6 rfl
             have y1 : w6.frozen? ⟨w1.heap.size, 1, none⟩ = false := blk_freeG (i := 1) hO6)
          | (refine step_call rfl 86 entTA _ _ rfl _ _ hcall (by first | (simp [Act.eval]; done) | (simp [Act.eval, Act.put]; done) | rfl) ?_; rintro e w5 ⟨at5, bad5, cs, T, rfl, hrep, S5, g5, hle5, hx5⟩
             obtain ⟨u0, u1, u2, uk, ua, uc, hTT, rfl, -, -, -, -⟩ := ty.ty_open (Sh.bare hrep)
             clear hTT
             obtain ⟨ul, hul⟩ : ∃ n, n = uk.length := ⟨_, rfl⟩
             rw [← hul] at hrep ⊢
             have G5 : Hid (w3.grownBy w5 (some E.cb)) := ⟨g5.os, g5.tape, g5.output, g5.size, g5.block⟩
             have K5 : Hid (Gc tyP 145 (.cells #[.string ⟨#[]⟩, .slice none 0 0] 86) (fun v => .cells #[.string t, v] 86) (fun xs => 8 + xs.length + ty.wts xs) E w w5 w1.heap.size v xs at_ bad at5 bad5) := K3.out.by G5.out S5 hle5 (by rcases hx5 with h | h; exact .inl h; exact .inr h.1)
             have Z5 : Hid (w3.heap.size ≤ w5.heap.size ∧ w.heap.size < w5.heap.size ∧ w1.heap.size < w5.heap.size) := ⟨g5.size, K5.out.cx.lt, K5.out.ablt⟩
             have O5 : Hid (w5.heap[w1.heap.size]? = some (.cells #[.string t, v] 86)) := K5.out.acc
             have g4b : w5.cell? ⟨w1.heap.size, 1, none⟩ = some v := blk_cellG (i := 1) O5.out rfl
             have g4c : ∀ o', (w5.alloc o').cell? ⟨w1.heap.size, 1, none⟩ = some v := fun o' => (((Below.refl _ w5).alloc (Nat.le_refl _) o').cell (p := ⟨w1.heap.size, 1, none⟩) (by have := Z5.out; show w1.heap.size < _; omega)).trans g4b
             have RA : Hid ((w5.alloc (.cells #[.int .i64 u0, .int .i64 u1, .string u2, .slice ua ul uc] 145)).ownsRow (w.heap.size + 1) 145 4 v xs.length (flat cssG xs.length)) := by
               obtain ⟨hl, hv⟩ := GR.out
               refine ⟨hl, ?_⟩
               rcases hv with h0 | ⟨g, cap, cur, h1, h2, h3, h4⟩
               · exact Or.inl h0
               · have hg := (Array.getElem?_eq_some_iff.1 h3).1
                 exact Or.inr ⟨g, cap, cur, h1, h2, by rw [Below.heap_alloc _ _ _ (by have := Z5.out; omega), G5.out.block g hg fun e => by simp only [Option.some.injEq] at e; omega]; exact h3, h4⟩
             have HR5 : Hid (tyP.rep w5 (fun b => w3.heap.size ≤ b ∧ b < w5.heap.size) [.int .i64 u0, .int .i64 u1, .string u2, .slice ua ul uc] T) := hrep
             have HX5 : Hid (at' ≤ at5 ∧ (0 ≤ bad5 ∨ (bad5 = bad' ∧ at' < at5 ∧ ty.wt T + 2 ≤ 10 * (at5 - at')))) := ⟨hle5, hx5⟩
             clear hul hrep S5 g5 hle5 hx5
             refine ⟨_, rfl, ?_⟩))
      all_goals
        have NX : Hid (Gc tyP 145 (.cells #[.string ⟨#[]⟩, .slice none 0 0] 86) (fun v => .cells #[.string t, v] 86) (fun xs => 8 + xs.length + ty.wts xs) E w (w6.setCell ⟨w1.heap.size, 1, none⟩ (.slice qa ql qc)) w1.heap.size (.slice qa ql qc) (xs ++ [T]) at_ bad at5 bad5) := by
          refine K5.out.push (r0 := w3.heap.size) (w2 := w5.alloc (.cells #[.int .i64 u0, .int .i64 u1, .string u2, .slice ua ul uc] 145)) (css := cssG) (fun i hi => tyP.mono (tyP.on (GK.out i hi) fun b hS => G5.out.block b hS.2.1 fun e => by simp only [Option.some.injEq] at e; omega) fun b hS => ⟨hS.1, by have := Z5.out; omega, hS.2.2⟩) HR5.out hab (by omega) HOR.out ((Below.refl _ _).alloc (Nat.le_refl _) _) ?_ hown6 hgrow6 hat6 1 rfl (fun h => by simp [World.setCell, Array.getElem?_modify, h])
          have h1 := HX5.out; have h2 := K3.out.hx; have h3 := HBD.out; have h4 := K3.out.le
          by_cases hb : 0 ≤ bad5
          · exact .inl hb
          · refine .inr ⟨by omega, by omega, ?_⟩
            show 8 + (xs ++ [T]).length + ty.wts (xs ++ [T]) + 2 ≤ _
            rw [twts_snoc, List.length_append, List.length_singleton]
            omega
        have RZ : Hid (at' ≤ at5 ∧ (0 ≤ bad5 ∨ at' < at5)) := ⟨HX5.out.1, by
          rcases HX5.out.2 with h | h
          · exact .inl h
          · exact .inr h.2.1⟩
        clear hown6 hgrow6 hat6 hO6 y0 y1 HR5 RA g4 g4b g4c O5 K5 Z5 hcall GR GK G5 HX5
        go_wp2
        go_round
        case rel => exact ⟨_, _, at5, bad5, NX⟩
        case measure =>
          rw [NX.out.cx.st.msrG, HM.out]
          have h1 := RZ.out; have h2 := HBD.out
          rw [if_pos h2.1]
          split <;> omega
    | false =>
      clear hb HM
      obtain ⟨av, cv, hv⟩ := K3.out.row.slice
      subst hv
      have y0 : w3.cell? ⟨w1.heap.size, 0, none⟩ = some (.string t) := blk_cellG (i := 0) K3.out.acc rfl
      have y1 : w3.cell? ⟨w1.heap.size, 1, none⟩ = some (.slice av xs.length cv) := blk_cellG (i := 1) K3.out.acc rfl
      have r0 : w3.cell? ⟨w.heap.size, 0, none⟩ = some (.string ⟨#[]⟩) := blk_cellG (i := 0) K3.out.cx.res rfl
      have r1 : w3.cell? ⟨w.heap.size, 1, none⟩ = some (.slice none 0 0) := blk_cellG (i := 1) K3.out.cx.res rfl
      have fr : ∀ o, w3.frozen? ⟨w.heap.size, o, none⟩ = false := fun o => blk_freeG K3.out.cx.res
      have HT : Hid (∀ w', w3.grownBy w' (some w.heap.size) → Gives conP con.wt E w at_ bad (.returned (.agg [.string t, .slice av xs.length cv].toArray)) w') := fun w' hg' => answerG (T := (t, xs)) HS.out K3.out.cx.gr K3.out.cx.lt (Sh.of (con.con_shut (by have := HTS.out; unfold maxLen; omega) (Sh.bare (K3.out.row.repP (by decide))))) K3.out.cx.st K3.out.le (by
        rcases K3.out.hx with h | ⟨e, h, h2⟩
        · exact .inl h
        · refine .inr ⟨e, h, ?_⟩
          have h3 : 8 + xs.length + ty.wts xs + 2 ≤ 10 * (at' - at_) := h2
          have := HTS.out; simp only [con.wt]; omega) hg'
      go_wp2
      refine bodyPost_ret (v := .agg #[.string t, .slice av xs.length cv]) (by simp [results, Tryz.f60, go_sem, r0, r1]) rfl ?_
      refine HT.out _ ?_
      repeat first | exact grown_self _ _ | (refine grown_by_by ?_ (grown_setG _ _ _ _))

end Go.Proofs.YtlnpfnglphdaiaaGreatDoor.tok
