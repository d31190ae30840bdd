/-
  The model's l3Text, l3Small, l3Atomic.
-/
import Derived.Test.YtpdmdcoaaboikaaGreatDoorParseLeaf
namespace Go.Proofs.YtpdmdcoaaboikaaGreatDoor.tok
open Go Go.RowKit Go.Deep Go.Proofs.YtpdmdcoaaboikaaGreatDoor.rose Go.Proofs.YtpdmdcoaaboikaaGreatDoor
set_option linter.unusedVariables false
set_option linter.unusedSimpArgs false

/-- What a text that must come says. -/
def Texts (E : Env) (w : World) (at_ : Nat) (bad : Int) (e : Ending) (w' : World) : Prop :=
  ∃ (at' : Nat) (bad' : Int) (t : ByteArray), e = .returned (.string t) ∧ t.size ≤ 8 ∧ St E w' at' bad' ∧ w.grownBy w' (some E.cb) ∧ at_ ≤ at' ∧ ((at' = at_ + 1 ∧ bad' = bad) ∨ 0 ≤ bad')

set_option maxRecDepth 100000 in
set_option maxHeartbeats 4000000 in
theorem text3_any (E : Env) (w : World) (at_ : Nat) (bad : Int) (h : St E w at_ bad) (c : Bool) :
    Calls Tryz.prog 57 #[.pointer (some ⟨E.cb, 0, none⟩), .bool c] w (Texts E w at_ bad) := by
  have HT : Calls Tryz.prog (if c then 83 else 58) #[.pointer (some ⟨E.cb, 0, none⟩)] w (Tests E w at_ bad) := by
    cases c
    · exact name_any E w at_ bad h
    · exact con_any E w at_ bad h
  have HS : Hid (St E w at_ bad) := h
  clear h
  cases c
  all_goals
    simp only [if_true, if_false, Bool.false_eq_true] at HT
    go_enter Tryz.func57, Tryz.ntmps57
    go_wp2_with fail
    refine HT.mono ?_
    rintro e w1 ⟨⟨b, rfl, hb⟩, hB⟩
    have S1 : Hid (St E w1 at_ bad) := HS.out.on hB
    have B1 : Hid (Below w.heap.size w w1) := hB
    clear hB HT
    cases b with
    | false =>
      have HX := bad_any E w1 at_ bad S1.out
      go_wp2_with fail
      refine HX.mono ?_
      rintro e w2 ⟨rfl, bad', S2, g2, hb2⟩
      have S2' : Hid (St E w2 at_ bad') := S2
      have G2 : Hid (w.grownBy w2 (some E.cb)) := grown_below_by B1.out g2
      have HB2 : Hid (0 ≤ bad') := hb2
      clear S2 g2 HX hb2
      go_wp2
      go_ret
      exact ⟨at_, bad', ⟨#[]⟩, rfl, by decide, S2'.out, G2.out, Nat.le_refl _, .inr HB2.out⟩
    | true =>
      have hb' := hb rfl
      have HX := now_any E w1 at_ bad S1.out
      go_wp2_with fail
      refine HX.mono ?_
      rintro e w2 ⟨⟨k, t, n, p, he, rfl, ht, -⟩, hB2⟩
      have S2 : Hid (St E w2 at_ bad) := S1.out.on hB2
      have B2 : Hid (Below w.heap.size w w2) := B1.out.trans (hB2.mono B1.out.size)
      have HTS : Hid (t.size ≤ 8) := ht
      have hf := field1 k t n p w2
      have HY := next_any E w2 at_ bad S2.out hb'.2
      clear HX hB2 he ht
      go_wp2_with fail
      refine HY.mono ?_
      rintro e w3 ⟨rfl, S3, g3⟩
      have S3' : Hid (St E w3 (at_ + 1) bad) := S3
      have G3 : Hid (w.grownBy w3 (some E.cb)) := grown_below_by B2.out g3
      clear S3 g3 HY hf
      go_wp2
      go_ret
      exact ⟨at_ + 1, bad, t, rfl, HTS.out, S3'.out, G3.out, Nat.le_succ _, .inl ⟨rfl, rfl⟩⟩

set_option maxRecDepth 100000 in
set_option maxHeartbeats 4000000 in
theorem small3_any (E : Env) (w : World) (at_ : Nat) (bad : Int) (h : St E w at_ bad) :
    Calls Tryz.prog 85 #[.pointer (some ⟨E.cb, 0, none⟩)] w (Tests E w at_ bad) := by
  have HN := now_any E w at_ bad h
  have HL : Hid (∀ k t n p, E.toks[at_]'h.lt = (k, t, n, p) → k ≠ 0 → at_ + 1 < E.toks.length) := fun k t n p he hk => h.notLast (by rw [he]; exact hk)
  have HS : Hid (St E w at_ bad) := h
  have hcb := h.cblt
  go_enter Tryz.func85, Tryz.ntmps85
  go_wp2_with fail
  refine HN.mono ?_
  rintro e w0 ⟨⟨k, t, n, p, he, rfl, -⟩, hb0⟩
  have HK : Hid (k ≠ 0 → at_ + 1 < E.toks.length) := HL.out k t n p he
  obtain ⟨w1, hw1⟩ : ∃ w1, w1 = w0.alloc (.cells #[.int .i64 k, .string t, .int .i64 n, .int .i64 p] 125) := ⟨_, rfl⟩
  have HW1 : Hid (w1 = w0.alloc (.cells #[.int .i64 k, .string t, .int .i64 n, .int .i64 p] 125)) := hw1
  have hB1 : Below w.heap.size w w1 := by rw [hw1]; exact hb0.alloc hb0.size _
  have S1 : Hid (St E w1 at_ bad) := HS.out.on hB1
  have hz1 : w0.heap.size < w1.heap.size := by rw [hw1]; simp
  have p0 : w1.cell? ⟨w0.heap.size, 0, none⟩ = some (.int .i64 k) := by rw [hw1]; exact cell_topP _ _ _ _
  have hcb1 := S1.out.cblt
  have B1 : Hid (Below w.heap.size w w1) := hB1
  have HX := name_any E w1 at_ bad S1.out
  clear HN HL he hw1 hb0 hB1
  go_wp2_with fail
  rw [← HW1.out]
  refine HX.mono ?_
  rintro e w2 ⟨⟨b, rfl, hb⟩, hB⟩
  have HB : Hid (b = true → bad < 0 ∧ at_ + 1 < E.toks.length) := hb
  have S2 : Hid (St E w2 at_ bad) := S1.out.on hB
  have B2 : Hid (Below w.heap.size w w2) := B1.out.trans (hB.mono B1.out.size)
  have q0 : w2.cell? ⟨w0.heap.size, 0, none⟩ = some (.int .i64 k) := (hB.cell (p := ⟨w0.heap.size, 0, none⟩) hz1).trans p0
  obtain ⟨va, vc, names, nn, hblk, -, -⟩ := S2.out.blk
  have c2 : w2.cell? ⟨E.cb, 2, none⟩ = some (.int .i64 bad) := by simp [World.cell?, hblk]
  have HY := sign3_any E w2 at_ bad S2.out ⟨#[40]⟩
  clear hB HX p0 hblk hb
  cases b with
  | true =>
    go_wp2
    go_ret
    exact ⟨⟨true, rfl, fun _ => by first | exact HB.out trivial | exact HB.out rfl⟩, B2.out⟩
  | false =>
    clear HB
    by_cases hc : bad < 0 ∧ k = 2
    · obtain ⟨hbad, rfl⟩ := hc
      have KK : Hid (at_ + 1 < E.toks.length) := HK.out (by omega)
      clear HK
      go_wp2
      go_ret
      exact ⟨⟨true, rfl, fun _ => ⟨hbad, KK.out⟩⟩, B2.out⟩
    · clear HK
      by_cases hbad : bad < 0
      · have hk : k ≠ 2 := fun e => hc ⟨hbad, e⟩
        clear hc
        go_wp2_with fail
        refine HY.mono ?_
        rintro e w3 ⟨⟨b, rfl, hb⟩, hB⟩
        have HB : Hid (b = true → bad < 0 ∧ at_ + 1 < E.toks.length) := hb
        have B3 : Hid (Below w.heap.size w w3) := B2.out.trans (hB.mono B2.out.size)
        clear hB hb HY
        cases b with
        | true =>
          have HB' : Hid (bad < 0 ∧ at_ + 1 < E.toks.length) := HB.out rfl
          clear HB
          go_wp2
          go_ret
          exact ⟨⟨true, rfl, fun _ => HB'.out⟩, B3.out⟩
        | false =>
          clear HB
          go_wp2
          go_ret
          exact ⟨⟨_, rfl, fun hh => by first | (cases hh; done) | exact absurd (by simpa using hh) hk⟩, B3.out⟩
      · clear hc
        go_wp2_with fail
        refine HY.mono ?_
        rintro e w3 ⟨⟨b, rfl, hb⟩, hB⟩
        have HB : Hid (b = true → bad < 0 ∧ at_ + 1 < E.toks.length) := hb
        have B3 : Hid (Below w.heap.size w w3) := B2.out.trans (hB.mono B2.out.size)
        clear hB hb HY
        cases b with
        | true =>
          have HB' : Hid (bad < 0 ∧ at_ + 1 < E.toks.length) := HB.out rfl
          clear HB
          go_wp2
          go_ret
          exact ⟨⟨true, rfl, fun _ => HB'.out⟩, B3.out⟩
        | false =>
          clear HB
          go_wp2
          go_ret
          exact ⟨⟨_, rfl, fun hh => by first | (cases hh; done) | exact absurd (by simpa using hh) hk⟩, B3.out⟩

set_option maxRecDepth 100000 in
set_option maxHeartbeats 4000000 in
theorem atomic_any (E : Env) (w : World) (at_ : Nat) (bad : Int) (h : St E w at_ bad) :
    Calls Tryz.prog 98 #[.pointer (some ⟨E.cb, 0, none⟩)] w (Tests E w at_ bad) := by
  have HN := name_any E w at_ bad h
  have HL : Hid (∀ k t n p, E.toks[at_]'h.lt = (k, t, n, p) → k ≠ 0 → at_ + 1 < E.toks.length) := fun k t n p he hk => h.notLast (by rw [he]; exact hk)
  have HS : Hid (St E w at_ bad) := h
  go_enter Tryz.func98, Tryz.ntmps98
  go_wp2_with fail
  refine HN.mono ?_
  rintro e w1 ⟨⟨b, rfl, hb⟩, hB⟩
  have HB : Hid (b = true → bad < 0 ∧ at_ + 1 < E.toks.length) := hb
  have S1 : Hid (St E w1 at_ bad) := HS.out.on hB
  have B1 : Hid (Below w.heap.size w w1) := hB
  clear hB hb HN
  cases b with
  | true =>
    go_wp2
    go_ret
    exact ⟨⟨true, rfl, fun _ => by first | exact HB.out trivial | exact HB.out rfl⟩, B1.out⟩
  | false =>
    clear HB
    have HX := con_any E w1 at_ bad S1.out
    go_wp2_with fail
    refine HX.mono ?_
    rintro e w2 ⟨⟨b, rfl, hb⟩, hB⟩
    have HB : Hid (b = true → bad < 0 ∧ at_ + 1 < E.toks.length) := hb
    have S2 : Hid (St E w2 at_ bad) := S1.out.on hB
    have B2 : Hid (Below w.heap.size w w2) := B1.out.trans (hB.mono B1.out.size)
    clear hB hb HX
    cases b with
    | true =>
      go_wp2
      go_ret
      exact ⟨⟨true, rfl, fun _ => by first | exact HB.out trivial | exact HB.out rfl⟩, B2.out⟩
    | false =>
      clear HB
      have HY := sign3_any E w2 at_ bad S2.out ⟨#[40]⟩
      go_wp2_with fail
      refine HY.mono ?_
      rintro e w3 ⟨⟨b, rfl, hb⟩, hB⟩
      have HB : Hid (b = true → bad < 0 ∧ at_ + 1 < E.toks.length) := hb
      have S3 : Hid (St E w3 at_ bad) := S2.out.on hB
      have B3 : Hid (Below w.heap.size w w3) := B2.out.trans (hB.mono B2.out.size)
      obtain ⟨va, vc, names, nn, hblk, -, -⟩ := S3.out.blk
      have c2 : w3.cell? ⟨E.cb, 2, none⟩ = some (.int .i64 bad) := by simp [World.cell?, hblk]
      clear hB hb HY hblk
      cases b with
      | true =>
        go_wp2
        go_ret
        exact ⟨⟨true, rfl, fun _ => by first | exact HB.out trivial | exact HB.out rfl⟩, B3.out⟩
      | false =>
        clear HB
        by_cases hbad : bad < 0
        · have HZ := now_any E w3 at_ bad S3.out
          go_wp2_with fail
          refine HZ.mono ?_
          rintro e w4 ⟨⟨k, t, n, p, he, rfl, -⟩, hb0⟩
          have HK : Hid (k ≠ 0 → at_ + 1 < E.toks.length) := HL.out k t n p he
          have hf := field0 k t n p w4
          have B4 : Hid (Below w.heap.size w w4) := B3.out.trans (hb0.mono B3.out.size)
          clear hb0 he HZ
          go_wp2
          go_ret
          exact ⟨⟨_, rfl, fun hh => ⟨hbad, HK.out (by have := of_decide_eq_true hh; omega)⟩⟩, B4.out⟩
        · go_wp2
          go_ret
          exact ⟨⟨_, rfl, fun hh => by first | (cases hh; done) | exact absurd (by simpa using hh) hk⟩, B3.out⟩

end Go.Proofs.YtpdmdcoaaboikaaGreatDoor.tok
