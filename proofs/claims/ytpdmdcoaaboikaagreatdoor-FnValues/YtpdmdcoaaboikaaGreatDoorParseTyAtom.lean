/-
  The model's l3TyAtom, from what l3Ty says with fewer tokens left.
-/
import Derived.Test.YtpdmdcoaaboikaaGreatDoorParseVar
import Derived.Test.YtpdmdcoaaboikaaGreatDoorTySh
namespace Go.Proofs.YtpdmdcoaaboikaaGreatDoor.tok
open Go Go.RowKit Go.Deep Go.Proofs.YtpdmdcoaaboikaaGreatDoor.rose Go.Proofs.YtpdmdcoaaboikaaGreatDoor
set_option linter.unusedVariables false
set_option linter.unusedSimpArgs false

theorem tleaf_rep {w : World} {S : Nat → Prop} {op n : Int} {s : ByteArray} (h1 : -9223372036854775808 ≤ op ∧ op ≤ 9223372036854775807) (h2 : -9223372036854775808 ≤ n ∧ n ≤ 9223372036854775807) (h3 : s.size ≤ maxLen) : tyP.rep w S [.int .i64 op, .int .i64 n, .string s, .slice none 0 0] (.mk (op, n, s) []) :=
  Sh.of (ty.ty_shut (x3 := []) (a3 := none) (c3 := 0) h1 h2 h3 ⟨none, 0, fun _ => [], rfl, Nat.le_refl _, Nat.zero_le _, fun _ => rfl, fun i hi => absurd hi (Nat.not_lt_zero _), fun i hi => absurd hi (Nat.not_lt_zero _)⟩)
theorem tleaf_wt {op n : Int} {s : ByteArray} (h : s.size ≤ 8) : ty.wt (.mk (op, n, s) []) ≤ 8 := by simp [ty.wt, ty.wts]; exact h

set_option maxRecDepth 100000 in
set_option maxHeartbeats 8000000 in
theorem tyatom_of (E : Env) (N : Nat) (HY : GTold 96 tyP ty.wt E fun at_ => E.toks.length - at_ < N) (w : World) (at_ : Nat) (bad : Int) (h : St E w at_ bad) (hN : E.toks.length - at_ ≤ N) :
    Calls Tryz.prog 86 #[.pointer (some ⟨E.cb, 0, none⟩)] w (Gives tyP ty.wt E w at_ bad) := by
  have HL : Hid (∀ k t n p, E.toks[at_]'h.lt = (k, t, n, p) → k ≠ 0 → at_ + 1 < E.toks.length) := fun k t n p he hk => h.notLast (by rw [he]; exact hk)
  have HLT : Hid (at_ < E.toks.length) := h.lt
  have HY' : Hid _ := HY
  have HS : Hid (St E w at_ bad) := h
  have HN : Hid (E.toks.length - at_ ≤ N) := hN
  obtain ⟨w0, hw0⟩ : ∃ w0, w0 = w.alloc (.cells #[.int .i64 0, .int .i64 0, .string ⟨#[]⟩, .slice none 0 0] 145) := ⟨_, rfl⟩
  have HW0 : Hid (w0 = w.alloc (.cells #[.int .i64 0, .int .i64 0, .string ⟨#[]⟩, .slice none 0 0] 145)) := hw0
  have C0 : Hid (Gx (.cells #[.int .i64 0, .int .i64 0, .string ⟨#[]⟩, .slice none 0 0] 145) E w w0 at_ bad) := Gx.start h hw0
  clear hw0 HY hN
  go_enter Tryz.func86, Tryz.ntmps86
  have HX := now_any E w0 at_ bad C0.out.st
  go_wp2_with fail
  rw [← HW0.out]
  refine HX.mono ?_
  rintro e w1 ⟨⟨k, t, n, p, he, rfl, ht, hn0, hn1, -⟩, hb⟩
  have HK : Hid (k ≠ 0 → at_ + 1 < E.toks.length) := HL.out k t n p he
  have HT0 : Hid (t.size ≤ 8) := ht
  obtain ⟨w2, hw2⟩ : ∃ w2, w2 = w1.alloc (.cells #[.int .i64 k, .string t, .int .i64 n, .int .i64 p] 125) := ⟨_, rfl⟩
  have HW2 : Hid (w2 = w1.alloc (.cells #[.int .i64 k, .string t, .int .i64 n, .int .i64 p] 125)) := hw2
  have hB : Below w0.heap.size w0 w2 := by rw [hw2]; exact hb.alloc hb.size _
  have C2 : Hid (Gx (.cells #[.int .i64 0, .int .i64 0, .string ⟨#[]⟩, .slice none 0 0] 145) E w w2 at_ bad) := C0.out.on hB
  have HTB : Hid (w.heap.size < w1.heap.size) := by have := C0.out.lt; have := hb.size; show _ < _; omega
  have TK2 : Hid (w2.heap[w1.heap.size]? = some (.cells #[.int .i64 k, .string t, .int .i64 n, .int .i64 p] 125)) := by show _ = _; rw [hw2]; exact alloc_top _ _
  clear HX he ht hn0 hn1 hb hw2 hB
  have HX := name_any E w2 at_ bad C2.out.st
  go_wp2_with fail
  rw [← HW2.out]
  refine HX.mono ?_
  rintro e w3 ⟨⟨b, rfl, hb⟩, hB⟩
  have C3 : Hid (Gx (.cells #[.int .i64 0, .int .i64 0, .string ⟨#[]⟩, .slice none 0 0] 145) E w w3 at_ bad) := C2.out.on hB
  have TK3 : Hid (w3.heap[w1.heap.size]? = some (.cells #[.int .i64 k, .string t, .int .i64 n, .int .i64 p] 125)) := (hB.block _ (Array.getElem?_eq_some_iff.1 TK2.out).1).trans TK2.out
  clear hB HX
  cases b with
  | true =>
    have HB : Hid (bad < 0 ∧ at_ + 1 < E.toks.length) := hb rfl
    clear hb
    have HX := next_any E w3 at_ bad C3.out.st HB.out.2
    go_wp2_with fail
    refine HX.mono ?_
    rintro e w4 ⟨rfl, S, g⟩
    have C4 : Hid (Gx (.cells #[.int .i64 0, .int .i64 0, .string ⟨#[]⟩, .slice none 0 0] 145) E w w4 (at_ + 1) bad) := C3.out.by g S
    have TK4 : Hid (w4.heap[w1.heap.size]? = some (.cells #[.int .i64 k, .string t, .int .i64 n, .int .i64 p] 125)) := (g.block _ (Array.getElem?_eq_some_iff.1 TK3.out).1 fun e => by simp only [Option.some.injEq] at e; have := C4.out.cb; have := HTB.out; omega).trans TK3.out
    clear HX S g
    have q1 : w4.cell? ⟨w1.heap.size, 1, none⟩ = some (.string t) := blk_cellG (i := 1) TK4.out rfl
    have HX := var_any E w4 (at_ + 1) bad C4.out.st t
    go_wp2_with fail
    refine HX.mono ?_
    rintro e w5 ⟨⟨m, rfl, hm⟩, S, g⟩
    have C5 : Hid (Gx (.cells #[.int .i64 0, .int .i64 0, .string ⟨#[]⟩, .slice none 0 0] 145) E w w5 (at_ + 1) bad) := C4.out.by g S
    have TK5 : Hid (w5.heap[w1.heap.size]? = some (.cells #[.int .i64 k, .string t, .int .i64 n, .int .i64 p] 125)) := (g.block _ (Array.getElem?_eq_some_iff.1 TK4.out).1 fun e => by simp only [Option.some.injEq] at e; have := C5.out.cb; have := HTB.out; omega).trans TK4.out
    clear HX S g q1
    have hmi : (m : Int) ≤ 3001 := by omega
    have HT : Hid (∀ w', w5.grownBy w' (some w.heap.size) → Gives tyP ty.wt E w at_ bad (.returned (.agg [.int .i64 2, .int .i64 (m : Int), .string ⟨#[]⟩, .slice none 0 0].toArray)) w') := fun w' hg' => answerG (T := .mk (2, (m : Int), ⟨#[]⟩) []) HS.out C5.out.gr C5.out.lt (tleaf_rep (by omega) (by omega) (by decide)) C5.out.st (by omega) (.inr ⟨rfl, by omega, by have := tleaf_wt (op := 2) (n := (m : Int)) (s := ⟨#[]⟩) (by decide); omega⟩) hg'
    have r0 : w5.cell? ⟨w.heap.size, 0, none⟩ = some (.int .i64 0) := blk_cellG (i := 0) C5.out.res rfl
    have r1 : w5.cell? ⟨w.heap.size, 1, none⟩ = some (.int .i64 0) := blk_cellG (i := 1) C5.out.res rfl
    have r2 : w5.cell? ⟨w.heap.size, 2, none⟩ = some (.string ⟨#[]⟩) := blk_cellG (i := 2) C5.out.res rfl
    have r3 : w5.cell? ⟨w.heap.size, 3, none⟩ = some (.slice none 0 0) := blk_cellG (i := 3) C5.out.res rfl
    have fr : ∀ o, w5.frozen? ⟨w.heap.size, o, none⟩ = false := fun o => blk_freeG C5.out.res
    clear HK
    go_wp2
    refine bodyPost_ret (v := .agg #[.int .i64 2, .int .i64 (m : Int), .string ⟨#[]⟩, .slice none 0 0]) (by simp [results, Tryz.f86, go_sem, r0, r1, r2, r3]) rfl ?_
    refine HT.out _ ?_
    repeat first | exact grown_self _ _ | (refine grown_by_by ?_ (grown_setG _ _ _ _))
  | false =>
    clear hb
    have HX := con_any E w3 at_ bad C3.out.st
    go_wp2_with fail
    refine HX.mono ?_
    rintro e w6 ⟨⟨b, rfl, hb⟩, hB⟩
    have C6 : Hid (Gx (.cells #[.int .i64 0, .int .i64 0, .string ⟨#[]⟩, .slice none 0 0] 145) E w w6 at_ bad) := C3.out.on hB
    have TK6 : Hid (w6.heap[w1.heap.size]? = some (.cells #[.int .i64 k, .string t, .int .i64 n, .int .i64 p] 125)) := (hB.block _ (Array.getElem?_eq_some_iff.1 TK3.out).1).trans TK3.out
    clear hB HX
    cases b with
    | true =>
      have HB : Hid (bad < 0 ∧ at_ + 1 < E.toks.length) := hb rfl
      clear hb
      have HX := next_any E w6 at_ bad C6.out.st HB.out.2
      go_wp2_with fail
      refine HX.mono ?_
      rintro e w7 ⟨rfl, S, g⟩
      have C7 : Hid (Gx (.cells #[.int .i64 0, .int .i64 0, .string ⟨#[]⟩, .slice none 0 0] 145) E w w7 (at_ + 1) bad) := C6.out.by g S
      have TK7 : Hid (w7.heap[w1.heap.size]? = some (.cells #[.int .i64 k, .string t, .int .i64 n, .int .i64 p] 125)) := (g.block _ (Array.getElem?_eq_some_iff.1 TK6.out).1 fun e => by simp only [Option.some.injEq] at e; have := C7.out.cb; have := HTB.out; omega).trans TK6.out
      clear HX S g
      have q1 : w7.cell? ⟨w1.heap.size, 1, none⟩ = some (.string t) := blk_cellG (i := 1) TK7.out rfl
      have HT : Hid (∀ w', w7.grownBy w' (some w.heap.size) → Gives tyP ty.wt E w at_ bad (.returned (.agg [.int .i64 4, .int .i64 0, .string t, .slice none 0 0].toArray)) w') := fun w' hg' => answerG (T := .mk (4, 0, t) []) HS.out C7.out.gr C7.out.lt (tleaf_rep (by omega) (by omega) (by have := HT0.out; unfold maxLen; omega)) C7.out.st (by omega) (.inr ⟨rfl, by omega, by have := tleaf_wt (op := 4) (n := 0) (s := t) (HT0.out); omega⟩) hg'
      have r0 : w7.cell? ⟨w.heap.size, 0, none⟩ = some (.int .i64 0) := blk_cellG (i := 0) C7.out.res rfl
      have r1 : w7.cell? ⟨w.heap.size, 1, none⟩ = some (.int .i64 0) := blk_cellG (i := 1) C7.out.res rfl
      have r2 : w7.cell? ⟨w.heap.size, 2, none⟩ = some (.string ⟨#[]⟩) := blk_cellG (i := 2) C7.out.res rfl
      have r3 : w7.cell? ⟨w.heap.size, 3, none⟩ = some (.slice none 0 0) := blk_cellG (i := 3) C7.out.res rfl
      have fr : ∀ o, w7.frozen? ⟨w.heap.size, o, none⟩ = false := fun o => blk_freeG C7.out.res
      clear HK
      go_wp2
      refine bodyPost_ret (v := .agg #[.int .i64 4, .int .i64 0, .string t, .slice none 0 0]) (by simp [results, Tryz.f86, go_sem, r0, r1, r2, r3]) rfl ?_
      refine HT.out _ ?_
      repeat first | exact grown_self _ _ | (refine grown_by_by ?_ (grown_setG _ _ _ _))
    | false =>
      clear hb
      obtain ⟨va, vc, names, nn, hblk, -, -⟩ := C6.out.st.blk
      have c2 : w6.cell? ⟨E.cb, 2, none⟩ = some (.int .i64 bad) := blk_cellG (i := 2) hblk rfl
      have p0 : w6.cell? ⟨w1.heap.size, 0, none⟩ = some (.int .i64 k) := blk_cellG (i := 0) TK6.out rfl
      clear hblk
      by_cases hA : bad < 0 ∧ k = 2
      · obtain ⟨hbad, hk2⟩ := hA
        rw [hk2] at p0
        have KK := HK.out (by omega)
        clear hk2
        have HX := next_any E w6 at_ bad C6.out.st KK
        go_wp2_with fail
        refine HX.mono ?_
        rintro e w8 ⟨rfl, S, g⟩
        have C8 : Hid (Gx (.cells #[.int .i64 0, .int .i64 0, .string ⟨#[]⟩, .slice none 0 0] 145) E w w8 (at_ + 1) bad) := C6.out.by g S
        have TK8 : Hid (w8.heap[w1.heap.size]? = some (.cells #[.int .i64 k, .string t, .int .i64 n, .int .i64 p] 125)) := (g.block _ (Array.getElem?_eq_some_iff.1 TK6.out).1 fun e => by simp only [Option.some.injEq] at e; have := C8.out.cb; have := HTB.out; omega).trans TK6.out
        clear HX S g
        clear KK c2 p0
        have HT : Hid (∀ w', w8.grownBy w' (some w.heap.size) → Gives tyP ty.wt E w at_ bad (.returned (.agg [.int .i64 1, .int .i64 0, .string ⟨#[]⟩, .slice none 0 0].toArray)) w') := fun w' hg' => answerG (T := .mk (1, 0, ⟨#[]⟩) []) HS.out C8.out.gr C8.out.lt (tleaf_rep (by omega) (by omega) (by decide)) C8.out.st (by omega) (.inr ⟨rfl, by omega, by have := tleaf_wt (op := 1) (n := 0) (s := ⟨#[]⟩) (by decide); omega⟩) hg'
        have r0 : w8.cell? ⟨w.heap.size, 0, none⟩ = some (.int .i64 0) := blk_cellG (i := 0) C8.out.res rfl
        have r1 : w8.cell? ⟨w.heap.size, 1, none⟩ = some (.int .i64 0) := blk_cellG (i := 1) C8.out.res rfl
        have r2 : w8.cell? ⟨w.heap.size, 2, none⟩ = some (.string ⟨#[]⟩) := blk_cellG (i := 2) C8.out.res rfl
        have r3 : w8.cell? ⟨w.heap.size, 3, none⟩ = some (.slice none 0 0) := blk_cellG (i := 3) C8.out.res rfl
        have fr : ∀ o, w8.frozen? ⟨w.heap.size, o, none⟩ = false := fun o => blk_freeG C8.out.res
        clear HK
        go_wp2
        refine bodyPost_ret (v := .agg #[.int .i64 1, .int .i64 0, .string ⟨#[]⟩, .slice none 0 0]) (by simp [results, Tryz.f86, go_sem, r0, r1, r2, r3]) rfl ?_
        refine HT.out _ ?_
        repeat first | exact grown_self _ _ | (refine grown_by_by ?_ (grown_setG _ _ _ _))
      · have hA' : ¬ bad < 0 ∨ (bad < 0 ∧ k ≠ 2) := by omega
        clear hA HK
        rcases hA' with hbad | ⟨hbad, hk⟩
        all_goals
          have HX := take_any E w6 at_ bad C6.out.st ⟨#[40]⟩
          go_wp2_with fail
          refine HX.mono ?_
          rintro e w9 ⟨at9, bad9, rfl, S, g, hle, hx⟩
          have C9 : Hid (Gx (.cells #[.int .i64 0, .int .i64 0, .string ⟨#[]⟩, .slice none 0 0] 145) E w w9 at9 bad9) := C6.out.by g S
          have TK9 : Hid (w9.heap[w1.heap.size]? = some (.cells #[.int .i64 k, .string t, .int .i64 n, .int .i64 p] 125)) := (g.block _ (Array.getElem?_eq_some_iff.1 TK6.out).1 fun e => by simp only [Option.some.injEq] at e; have := C9.out.cb; have := HTB.out; omega).trans TK6.out
          have R9 : Hid (at_ ≤ at9 ∧ ((at9 = at_ + 1 ∧ bad9 = bad) ∨ 0 ≤ bad9)) := ⟨hle, hx⟩
          clear HX S g hle hx
          clear c2 p0
          obtain ⟨va, vc, names, nn, hblk, -, -⟩ := C9.out.st.blk
          have c2 : w9.cell? ⟨E.cb, 2, none⟩ = some (.int .i64 bad9) := blk_cellG (i := 2) hblk rfl
          clear hblk
          by_cases hb5 : 0 ≤ bad9
          · have HB5 : Hid (0 ≤ bad9) := hb5
            have HT : Hid (∀ w', w9.grownBy w' (some w.heap.size) → Gives tyP ty.wt E w at_ bad (.returned (.agg [.int .i64 0, .int .i64 0, .string ⟨#[]⟩, .slice none 0 0].toArray)) w') := fun w' hg' => answerG (T := .mk (0, 0, ⟨#[]⟩) []) HS.out C9.out.gr C9.out.lt (tleaf_rep (by omega) (by omega) (by decide)) C9.out.st (by have := R9.out; omega) (.inl HB5.out) hg'
            have r0 : w9.cell? ⟨w.heap.size, 0, none⟩ = some (.int .i64 0) := blk_cellG (i := 0) C9.out.res rfl
            have r1 : w9.cell? ⟨w.heap.size, 1, none⟩ = some (.int .i64 0) := blk_cellG (i := 1) C9.out.res rfl
            have r2 : w9.cell? ⟨w.heap.size, 2, none⟩ = some (.string ⟨#[]⟩) := blk_cellG (i := 2) C9.out.res rfl
            have r3 : w9.cell? ⟨w.heap.size, 3, none⟩ = some (.slice none 0 0) := blk_cellG (i := 3) C9.out.res rfl
            have fr : ∀ o, w9.frozen? ⟨w.heap.size, o, none⟩ = false := fun o => blk_freeG C9.out.res
            go_wp2
            refine bodyPost_ret (v := .agg #[.int .i64 0, .int .i64 0, .string ⟨#[]⟩, .slice none 0 0]) (by simp [results, Tryz.f86, go_sem, r0, r1, r2, r3]) rfl ?_
            refine HT.out _ ?_
            repeat first | exact grown_self _ _ | (refine grown_by_by ?_ (grown_setG _ _ _ _))
          · have HB5 : Hid (¬ 0 ≤ bad9) := hb5
            have HX := HY'.out w9 at9 bad9 C9.out.st (by have := HN.out; have := HLT.out; have := R9.out; have := HB5.out; omega)
            go_wp2_with fail
            refine HX.mono ?_
            rintro e w10 ⟨at10, bad10, cs, T10, rfl, hrep, S, g, hle, hx⟩
            obtain ⟨u10_0, u10_1, u10_2, uk, ua10, uc10, hTT, rfl, -, -, -, -⟩ := ty.ty_open (Sh.bare hrep)
            clear hTT
            obtain ⟨ul10, hul⟩ : ∃ n, n = uk.length := ⟨_, rfl⟩
            rw [← hul] at hrep ⊢
            clear hul
            have C10 : Hid (Gx (.cells #[.int .i64 0, .int .i64 0, .string ⟨#[]⟩, .slice none 0 0] 145) E w w10 at10 bad10) := C9.out.by g S
            have TK10 : Hid (w10.heap[w1.heap.size]? = some (.cells #[.int .i64 k, .string t, .int .i64 n, .int .i64 p] 125)) := (g.block _ (Array.getElem?_eq_some_iff.1 TK9.out).1 fun e => by simp only [Option.some.injEq] at e; have := C10.out.cb; have := HTB.out; omega).trans TK9.out
            have R10 : Hid (at9 ≤ at10 ∧ (0 ≤ bad10 ∨ (bad10 = bad9 ∧ at9 < at10 ∧ ty.wt T10 + 2 ≤ 10 * (at10 - at9)))) := ⟨hle, hx⟩
            obtain ⟨w11, hw11⟩ : ∃ x, x = w10.alloc (.cells #[.int .i64 u10_0, .int .i64 u10_1, .string u10_2, .slice ua10 ul10 uc10] 145) := ⟨_, rfl⟩
            have HW11 : Hid (w11 = w10.alloc (.cells #[.int .i64 u10_0, .int .i64 u10_1, .string u10_2, .slice ua10 ul10 uc10] 145)) := hw11
            have hB : Below w10.heap.size w10 w11 := by rw [hw11]; exact (Below.refl _ _).alloc (Nat.le_refl _) _
            have HD : Gh tyP 145 w11 (w.heap.size + 1) w10.heap.size [.int .i64 u10_0, .int .i64 u10_1, .string u10_2, .slice ua10 ul10 uc10] T10 := Gh.new (tyP.mono hrep fun b hS => ⟨by have := C9.out.lt; omega, hS.2⟩) (by have := C10.out.lt; omega) hw11
            have C11 : Hid (Gx (.cells #[.int .i64 0, .int .i64 0, .string ⟨#[]⟩, .slice none 0 0] 145) E w w11 at10 bad10) := C10.out.on hB
            have TK11 : Hid (w11.heap[w1.heap.size]? = some (.cells #[.int .i64 k, .string t, .int .i64 n, .int .i64 p] 125)) := (hB.block _ (Array.getElem?_eq_some_iff.1 TK10.out).1).trans TK10.out
            have H10_11 : Hid (Gh tyP 145 w11 (w.heap.size + 1) w10.heap.size [.int .i64 u10_0, .int .i64 u10_1, .string u10_2, .slice ua10 ul10 uc10] T10) := HD
            clear HX hrep S g hle hx hB HD hw11 c2
            have HX := take_any E w11 at10 bad10 C11.out.st ⟨#[41]⟩
            go_wp2_with fail
            rw [← HW11.out]
            refine HX.mono ?_
            rintro e w12 ⟨at12, bad12, rfl, S, g, hle, hx⟩
            have C12 : Hid (Gx (.cells #[.int .i64 0, .int .i64 0, .string ⟨#[]⟩, .slice none 0 0] 145) E w w12 at12 bad12) := C11.out.by g S
            have H10_12 : Hid (Gh tyP 145 w12 (w.heap.size + 1) w10.heap.size [.int .i64 u10_0, .int .i64 u10_1, .string u10_2, .slice ua10 ul10 uc10] T10) := H10_11.out.by g (by have := C12.out.cb; omega)
            have TK12 : Hid (w12.heap[w1.heap.size]? = some (.cells #[.int .i64 k, .string t, .int .i64 n, .int .i64 p] 125)) := (g.block _ (Array.getElem?_eq_some_iff.1 TK11.out).1 fun e => by simp only [Option.some.injEq] at e; have := C12.out.cb; have := HTB.out; omega).trans TK11.out
            have R12 : Hid (at10 ≤ at12 ∧ ((at12 = at10 + 1 ∧ bad12 = bad10) ∨ 0 ≤ bad12)) := ⟨hle, hx⟩
            clear HX S g hle hx
            have y0 : w12.cell? ⟨w10.heap.size, 0, none⟩ = some (.int .i64 u10_0) := blk_cellG (i := 0) H10_12.out.blk rfl
            have y1 : w12.cell? ⟨w10.heap.size, 1, none⟩ = some (.int .i64 u10_1) := blk_cellG (i := 1) H10_12.out.blk rfl
            have y2 : w12.cell? ⟨w10.heap.size, 2, none⟩ = some (.string u10_2) := blk_cellG (i := 2) H10_12.out.blk rfl
            have y3 : w12.cell? ⟨w10.heap.size, 3, none⟩ = some (.slice ua10 ul10 uc10) := blk_cellG (i := 3) H10_12.out.blk rfl
            have HT : Hid (∀ w', w12.grownBy w' (some w.heap.size) → Gives tyP ty.wt E w at_ bad (.returned (.agg [.int .i64 u10_0, .int .i64 u10_1, .string u10_2, .slice ua10 ul10 uc10].toArray)) w') := fun w' hg' => answerG HS.out C12.out.gr C12.out.lt (tyP.mono H10_12.out.rep fun b hS => ⟨by omega, hS.2⟩) C12.out.st (by have := R9.out; have := R10.out; have := R12.out; omega) (by
              have := R9.out; have := R10.out; have := R12.out; have := HB5.out
              by_cases hb : 0 ≤ bad12
              · exact .inl hb
              · exact .inr ⟨by omega, by omega, by omega⟩) hg'
            have r0 : w12.cell? ⟨w.heap.size, 0, none⟩ = some (.int .i64 0) := blk_cellG (i := 0) C12.out.res rfl
            have r1 : w12.cell? ⟨w.heap.size, 1, none⟩ = some (.int .i64 0) := blk_cellG (i := 1) C12.out.res rfl
            have r2 : w12.cell? ⟨w.heap.size, 2, none⟩ = some (.string ⟨#[]⟩) := blk_cellG (i := 2) C12.out.res rfl
            have r3 : w12.cell? ⟨w.heap.size, 3, none⟩ = some (.slice none 0 0) := blk_cellG (i := 3) C12.out.res rfl
            have fr : ∀ o, w12.frozen? ⟨w.heap.size, o, none⟩ = false := fun o => blk_freeG C12.out.res
            go_wp2
            refine bodyPost_ret (v := .agg #[.int .i64 u10_0, .int .i64 u10_1, .string u10_2, .slice ua10 ul10 uc10]) (by simp [results, Tryz.f86, go_sem, r0, r1, r2, r3]) rfl ?_
            refine HT.out _ ?_
            repeat first | exact grown_self _ _ | (refine grown_by_by ?_ (grown_setG _ _ _ _))

end Go.Proofs.YtpdmdcoaaboikaaGreatDoor.tok
