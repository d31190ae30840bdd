/-
  The model's l2One and Tokens, at every text.
  The model's Tokens, at every text: it comes back, with a list of tokens that ends with one of kind 0 and whose texts are short, or with none; nothing that was there is turned. (Not which tokens they are.)
  The model's cursor over tokens (l3Cur) as it lies; l3Now.
-/
import Derived.Deep.RegionHeld3
import Derived.Sort.AtCall
import Derived.Test.YtlnpfnglphdaiaaGreatDoorB1
import Derived.Test.YtlnpfnglphdaiaaGreatDoorB2
import Derived.Test.YtlnpfnglphdaiaaGreatDoorB3
import Derived.Test.YtlnpfnglphdaiaaGreatDoorB4
import Derived.Test.YtlnpfnglphdaiaaGreatDoorB5
import Derived.Test.YtlnpfnglphdaiaaGreatDoorB6
namespace Go.Proofs.YtlnpfnglphdaiaaGreatDoor.tok
open Go Go.RowKit Go.Deep Go.Proofs.YtlnpfnglphdaiaaGreatDoor.rose Go.Proofs.YtlnpfnglphdaiaaGreatDoor
set_option linter.unusedVariables false
set_option linter.unusedSimpArgs false

set_option maxRecDepth 100000 in
set_option maxHeartbeats 4000000 in
theorem one_num (s : ByteArray) (at_ : Nat) (w : World) (hs : s.size ≤ 3000) (hat : at_ < s.size) (h1 : smallB s[at_].toNat = false) (h2 : largeB s[at_].toNat = false) (h3 : digitB s[at_].toNat = true) :
    Calls Tryz.prog 55 #[.string s, .int .i64 at_] w (OneSays s at_ w) := by
  obtain ⟨z, hz⟩ : ∃ z : Int, z = s[at_].toNat := ⟨_, rfl⟩
  have HLET : Hid (digitB s[at_].toNat = true) := h3
  rw [← hz] at h1 h2 h3
  have hix : ∀ W, (Instr.index 9 (.string s) (.int .i64 at_)).run Tryz.prog W = .ok (.int .u8 z) W := fun W => by rw [hz]; exact ix_run s at_ hat W
  have HSL : Hid (∀ j, at_ ≤ j → j ≤ s.size → ∀ W, (Instr.slice 9 (.string s) (some (.int .i64 at_)) (some (.int .i64 (j : Nat))) none).run Tryz.prog W = .ok (.string (s.extract at_ j)) W) := fun j h1 h2 W => sl_run s at_ j _ _ rfl rfl h1 h2 W
  clear hz
  obtain ⟨w0, hw0⟩ : ∃ w0, w0 = w.alloc (.cells #[.int .i64 0, .string ⟨#[]⟩, .int .i64 0, .int .i64 0] 125) := ⟨_, rfl⟩
  have B0 : Hid (Below w.heap.size w w0) := by show Below _ _ _; rw [hw0]; exact (Below.refl _ _).alloc (Nat.le_refl _) _
  have HP : Hid (w0.heap[w.heap.size]? = some (.cells #[.int .i64 0, .string ⟨#[]⟩, .int .i64 0, .int .i64 0] 125)) := by show _ = _; rw [hw0]; exact alloc_top _ _
  have HW0 : Hid (w0 = w.alloc (.cells #[.int .i64 0, .string ⟨#[]⟩, .int .i64 0, .int .i64 0] 125)) := hw0
  clear hw0
  have HDI : Hid (∀ z w, Calls Tryz.prog 80 #[.int .u8 z] w fun e w' => e = .returned (.bool (digitB z)) ∧ w' = w) := digit_any
  have c1 := small_any z
  have c2 := large_any z
  have c3 := digit_any z
  rw [h1] at c1
  rw [h2] at c2
  rw [h3] at c3
  clear h1 h2 h3
  go_enter Tryz.func55, Tryz.ntmps55
  go_wp2_with (first | (go_at_call 78; refine (c1 _).mono ?_; rintro e w1 ⟨rfl, rfl⟩) | (go_at_call 79; refine (c2 _).mono ?_; rintro e w1 ⟨rfl, rfl⟩) | (go_at_call 80; refine (c3 _).mono ?_; rintro e w1 ⟨rfl, rfl⟩) | fail)
  rw [← HW0.out]
  clear c1 c2 c3
  go_loopw [7] (fun v7 wr => ∃ j : Nat, at_ ≤ j ∧ j ≤ s.size ∧ v7 = .int .i64 j ∧ wr = w0) (fun v7 _ => s.size - (intOf v7).toNat)
  case atStart => exact ⟨at_, Nat.le_refl _, by omega, rfl, rfl⟩
  case round =>
    obtain ⟨j, hj1, hj2, rfl, hwr⟩ := hrel
    subst hwr
    by_cases hlt : j < s.size
    · obtain ⟨y, hy⟩ : ∃ y : Int, y = s[j].toNat := ⟨_, rfl⟩
      have hiy : ∀ W, (Instr.index 9 (.string s) (.int .i64 j)).run Tryz.prog W = .ok (.int .u8 y) W := fun W => by rw [hy]; exact ix_run s j hlt W
      have HNE : Hid (digitB y = false → at_ < j) := fun q1 => by
        rcases Nat.lt_or_ge at_ j with h | h
        · exact h
        · exfalso
          have e : j = at_ := by omega
          subst e
          have := HLET.out
          rw [← hy, q1] at this
          cases this
      obtain ⟨b1, hb1⟩ : ∃ b, b = digitB y := ⟨_, rfl⟩
      have HB1 : Hid (b1 = digitB y) := hb1
      have d1 := HDI.out y
      rw [← hb1] at d1
      clear hy hb1
      cases b1 with
      | true =>
        go_wp2_with (first | (go_at_call 80; refine (d1 _).mono ?_; rintro e w1 ⟨rfl, rfl⟩) | fail)
        go_round
        case rel => exact ⟨j + 1, by omega, by omega, by go_num, by first | rfl | trivial⟩
        case measure => simp [intOf]; omega
      | false =>
      have hat_j : at_ < j := HNE.out HB1.out.symm
      have hxs := HSL.out j (by omega) (by omega)
      have HXZ : Hid ((s.extract at_ j).size = j - at_) := ext_size (by omega) (by omega)
      generalize s.extract at_ j = x at hxs HXZ
      have hnum := numWalks.spec_any x
      obtain ⟨rn, hrn⟩ : ∃ r, r = (plain.numRes x.data.toList).1 := ⟨_, rfl⟩
      obtain ⟨rb, hrb⟩ : ∃ r, r = (plain.numRes x.data.toList).2 := ⟨_, rfl⟩
      rw [← hrn, ← hrb] at hnum
      have HRN : Hid (0 ≤ rn ∧ rn ≤ 1073741823) := by rw [hrn]; exact num_le _
      have hxm : x.size ≤ maxLen := by rw [HXZ.out]; unfold maxLen; omega
      have hcall := hnum wr hxm
      clear hrn hrb hnum
      go_wp2_with (first | (go_at_call 80; refine (d1 _).mono ?_; rintro e w1 ⟨rfl, rfl⟩) | fail)
      refine hcall.mono ?_
      rintro e w1 ⟨rfl, hb⟩
      have hlt0 := (Array.getElem?_eq_some_iff.1 HP.out).1
      have hp := (hb.block _ hlt0).trans HP.out
      have B1 : Hid (Below w.heap.size w w1) := B0.out.trans (hb.mono B0.out.size)
      have k0 : w1.cell? ⟨w.heap.size, 0, none⟩ = some (.int .i64 0) := by simp [World.cell?, hp]
      have k1 : w1.cell? ⟨w.heap.size, 1, none⟩ = some (.string ⟨#[]⟩) := by simp [World.cell?, hp]
      have k2 : w1.cell? ⟨w.heap.size, 2, none⟩ = some (.int .i64 0) := by simp [World.cell?, hp]
      have k3 : w1.cell? ⟨w.heap.size, 3, none⟩ = some (.int .i64 0) := by simp [World.cell?, hp]
      have f1 : ∀ o, w1.frozen? ⟨w.heap.size, o, none⟩ = false := fun o => by simp [World.frozen?, hp]
      clear hp hb hcall hlt0
      go_wp2
      refine bodyPost_ret (v := .tuple #[.agg #[.int .i64 3, .string ⟨#[]⟩, .int .i64 rn, .int .i64 at_], .int .i64 j, .bool rb]) (by simp [results, Tryz.f55, go_sem, k0, k1, k2, k3]) rfl ?_
      refine ⟨⟨3, rn, j, ⟨#[]⟩, rb, rfl, fun hok => ?_, HRN.out, by decide⟩, ?_⟩
      · have h0 : (⟨#[]⟩ : ByteArray).size = 0 := rfl
        have h1 := HRN.out
        exact ⟨by omega, by omega, by rw [h0]; omega, h1.1, h1.2, by omega, by omega⟩
      · repeat first | with_reducible exact B1.out | (refine Below.setCell ?_ (by first | (simp; done) | (simp; omega)) _)
    · obtain rfl : j = s.size := by omega
      have hat_j : at_ < s.size := hat
      have hxs := HSL.out s.size (by omega) (by omega)
      have HXZ : Hid ((s.extract at_ s.size).size = s.size - at_) := ext_size (by omega) (by omega)
      generalize s.extract at_ s.size = x at hxs HXZ
      have d1 := HDI.out z
      have hnum := numWalks.spec_any x
      obtain ⟨rn, hrn⟩ : ∃ r, r = (plain.numRes x.data.toList).1 := ⟨_, rfl⟩
      obtain ⟨rb, hrb⟩ : ∃ r, r = (plain.numRes x.data.toList).2 := ⟨_, rfl⟩
      rw [← hrn, ← hrb] at hnum
      have HRN : Hid (0 ≤ rn ∧ rn ≤ 1073741823) := by rw [hrn]; exact num_le _
      have hxm : x.size ≤ maxLen := by rw [HXZ.out]; unfold maxLen; omega
      have hcall := hnum wr hxm
      clear hrn hrb hnum
      go_wp2_with (first | (go_at_call 80; refine (d1 _).mono ?_; rintro e w1 ⟨rfl, rfl⟩) | fail)
      refine hcall.mono ?_
      rintro e w1 ⟨rfl, hb⟩
      have hlt0 := (Array.getElem?_eq_some_iff.1 HP.out).1
      have hp := (hb.block _ hlt0).trans HP.out
      have B1 : Hid (Below w.heap.size w w1) := B0.out.trans (hb.mono B0.out.size)
      have k0 : w1.cell? ⟨w.heap.size, 0, none⟩ = some (.int .i64 0) := by simp [World.cell?, hp]
      have k1 : w1.cell? ⟨w.heap.size, 1, none⟩ = some (.string ⟨#[]⟩) := by simp [World.cell?, hp]
      have k2 : w1.cell? ⟨w.heap.size, 2, none⟩ = some (.int .i64 0) := by simp [World.cell?, hp]
      have k3 : w1.cell? ⟨w.heap.size, 3, none⟩ = some (.int .i64 0) := by simp [World.cell?, hp]
      have f1 : ∀ o, w1.frozen? ⟨w.heap.size, o, none⟩ = false := fun o => by simp [World.frozen?, hp]
      clear hp hb hcall hlt0
      go_wp2
      refine bodyPost_ret (v := .tuple #[.agg #[.int .i64 3, .string ⟨#[]⟩, .int .i64 rn, .int .i64 at_], .int .i64 s.size, .bool rb]) (by simp [results, Tryz.f55, go_sem, k0, k1, k2, k3]) rfl ?_
      refine ⟨⟨3, rn, s.size, ⟨#[]⟩, rb, rfl, fun hok => ?_, HRN.out, by decide⟩, ?_⟩
      · have h0 : (⟨#[]⟩ : ByteArray).size = 0 := rfl
        have h1 := HRN.out
        exact ⟨by omega, by omega, by rw [h0]; omega, h1.1, h1.2, by omega, by omega⟩
      · repeat first | with_reducible exact B1.out | (refine Below.setCell ?_ (by first | (simp; done) | (simp; omega)) _)

theorem one_any (s : ByteArray) (at_ : Nat) (w : World) (hs : s.size ≤ 3000) (hat : at_ < s.size) : Calls Tryz.prog 55 #[.string s, .int .i64 at_] w (OneSays s at_ w) := by
  cases h1 : smallB s[at_].toNat with
  | true => exact one_name s at_ w hs hat (.inl h1)
  | false =>
    cases h2 : largeB s[at_].toNat with
    | true => exact one_name s at_ w hs hat (.inr ⟨h1, h2⟩)
    | false =>
      cases h3 : digitB s[at_].toNat with
      | true => exact one_num s at_ w hs hat h1 h2 h3
      | false => exact one_sign s at_ w hs hat h1 h2 h3

/-! ### Tokens -/

/-- A token: kind, text, number, place. -/
abbrev TokD := Int × ByteArray × Int × Int
abbrev tokSh : Sh TokD := Sh.int.pair (Sh.str.pair (Sh.int.pair Sh.int))
theorem tok_shut {w : World} {S : Nat → Prop} {k n p : Int} {t : ByteArray} (hk : -9223372036854775808 ≤ k ∧ k ≤ 9223372036854775807) (ht : t.size ≤ maxLen) (hn : -9223372036854775808 ≤ n ∧ n ≤ 9223372036854775807) (hp : -9223372036854775808 ≤ p ∧ p ≤ 9223372036854775807) :
    tokSh.rep w S [.int .i64 k, .string t, .int .i64 n, .int .i64 p] (k, t, n, p) := ⟨[_], [_, _, _], rfl, ⟨rfl, hk⟩, [_], [_, _], rfl, ⟨rfl, ht⟩, [_], [_], rfl, ⟨rfl, hn⟩, ⟨rfl, hp⟩⟩

/-- Tokens that Tokens may give: short texts, words; the last one of kind 0. -/
def Fine (l : List TokD) : Prop := ∀ t ∈ l, t.2.1.size ≤ 8 ∧ 0 ≤ t.2.2.1 ∧ t.2.2.1 ≤ 1073741823 ∧ 0 ≤ t.2.2.2 ∧ t.2.2.2 ≤ 3000

theorem cells_newT (w : World) (cs : List Value) (t : TypeId) (arr : Array Value) (ha : arr = cs.toArray) : ∀ j u, cs[j]? = some u → (w.alloc (.cells arr t)).cell? ((⟨w.heap.size, 0, none⟩ : Addr).add j) = some u := by
  subst ha
  intro j u hj
  have hh : (w.alloc (.cells cs.toArray t)).heap[w.heap.size]? = some (.cells cs.toArray t) := alloc_top w (.cells cs.toArray t)
  rw [add_plain, Nat.zero_add]
  simp only [World.cell?, hh]
  simpa using hj

set_option maxRecDepth 100000 in
theorem info_tok : (Tryz.prog.info? 125).map (fun i => (i.zero, i.size, i.bytes)) = some (some (.agg #[.int .i64 0, .string ⟨#[]⟩, .int .i64 0, .int .i64 0]), 4, 40) := by kernel_rfl

end Go.Proofs.YtlnpfnglphdaiaaGreatDoor.tok

namespace Go.Proofs.YtlnpfnglphdaiaaGreatDoor.tok
open Go Go.RowKit Go.Deep Go.Proofs.YtlnpfnglphdaiaaGreatDoor.rose Go.Proofs.YtlnpfnglphdaiaaGreatDoor
set_option linter.unusedVariables false
set_option linter.unusedSimpArgs false

theorem fine_snoc {l : List TokD} {t : TokD} (h : Fine l) (ht : t.2.1.size ≤ 8 ∧ 0 ≤ t.2.2.1 ∧ t.2.2.1 ≤ 1073741823 ∧ 0 ≤ t.2.2.2 ∧ t.2.2.2 ≤ 3000) : Fine (l ++ [t]) := fun x hx => by
  rcases List.mem_append.1 hx with h1 | h1
  · exact h x h1
  · simp only [List.mem_singleton] at h1; subst h1; exact ht

theorem nil_rep (n : Nat) (W : World) (g : Nat) (c : Nat) (hc : c ≤ maxLen) : tokSh.slice.rep W (fun b => n ≤ b ∧ b < W.heap.size) [.slice (some ⟨g, 0, none⟩) 0 c] [] := ⟨some ⟨g, 0, none⟩, c, fun _ => [], rfl, Nat.zero_le _, hc, (fun h => by cases h), fun i hi => absurd hi (Nat.not_lt_zero _), fun i hi => absurd hi (Nat.not_lt_zero _)⟩

set_option maxRecDepth 100000 in
set_option maxHeartbeats 4000000 in
theorem tokens_any (s : ByteArray) (w : World) (hsz : s.size ≤ maxLen) :
    Calls Tryz.prog 42 #[.string s] w fun e w' => (∃ (v : Value) (at_ : Int) (l : List TokD), e = .returned (.tuple #[v, .int .i64 at_]) ∧ -1 ≤ at_ ∧ at_ ≤ 3000 ∧ tokSh.slice.rep w' (fun b => w.heap.size ≤ b ∧ b < w'.heap.size) [v] l ∧ (at_ < 0 → Fine l ∧ l.length ≤ 3001 ∧ ∃ l0 t, l = l0 ++ [t] ∧ t.1 = 0)) ∧ Below w.heap.size w w' := by
  obtain ⟨ti, hti, hzz⟩ := Option.map_eq_some_iff.1 info_tok
  simp only [Prod.mk.injEq] at hzz
  obtain ⟨hz0, hz1, hz2⟩ := hzz
  have TI : Hid (Tryz.prog.info? 125 = some ti ∧ ti.zero = some (.agg #[.int .i64 0, .string ⟨#[]⟩, .int .i64 0, .int .i64 0]) ∧ ti.size = 4 ∧ ti.bytes = 40) := ⟨hti, hz0, hz1, hz2⟩
  clear hti hz0 hz1 hz2
  by_cases hbig : (3000 : Int) < (s.size : Int)
  · have hs2 : (s.size : Int) ≤ 9223372036854775807 := by unfold maxLen at hsz; omega
    go_enter Tryz.func42, Tryz.ntmps42
    go_wp2
    go_ret2
    exact ⟨⟨_, 0, [], rfl, by decide, by decide, nil_rep _ _ _ _ (Nat.zero_le _), fun h => absurd h (by decide)⟩, (Below.refl _ _).alloc (Nat.le_refl _) _⟩
  · have hs : s.size ≤ 3000 := by omega
    clear hbig hsz
    have HIX : Hid (∀ i (h : i < s.size) W, (Instr.index 9 (.string s) (.int .i64 (i : Nat))).run Tryz.prog W = .ok (.int .u8 s[i].toNat) W) := fun i h W => ix_run s i h W
    have HN : Hid (∃ n, n = w.heap.size) := ⟨_, rfl⟩
    go_enter Tryz.func42, Tryz.ntmps42
    go_wp2
    go_loopw [4, 5] (fun v4 v5 wr => ∃ (l : List TokD) (i : Nat), i ≤ s.size ∧ v5 = .int .i64 i ∧ Hid (rose.Own tokSh 125 wr w.heap.size (fun _ => False) v4 l ∧ Fine l ∧ l.length ≤ i ∧ Below w.heap.size w wr)) (fun _ v5 _ => s.size - (intOf v5).toNat)
    case atStart =>
      refine ⟨[], 0, Nat.zero_le _, rfl, ⟨fun _ => [], ⟨rfl, Or.inr ⟨w.heap.size, 0, #[], rfl, Nat.le_refl _, alloc_top _ _, Nat.le_refl _, Nat.zero_le _, rfl, rfl⟩⟩, fun i hi => absurd hi (Nat.not_lt_zero _)⟩, fun t ht => (by cases ht), Nat.le_refl _, (Below.refl _ _).alloc (Nat.le_refl _) _⟩
    case round =>
      obtain ⟨l, i, hi, rfl, HI⟩ := hrel
      have hwz : w.heap.size ≤ wr.heap.size := HI.out.2.2.2.size
      by_cases hlt : i < s.size
      · obtain ⟨y, hy⟩ : ∃ y : Int, y = s[i].toNat := ⟨_, rfl⟩
        have hiy := HIX.out i hlt
        rw [← hy] at hiy
        clear hy
        by_cases hblank : y = 32 ∨ y = 10
        · rcases hblank with rfl | rfl
          all_goals
            go_wp2
            go_round
            case rel => exact ⟨l, i + 1, by omega, by go_num, HI.out.1, HI.out.2.1, by have := HI.out.2.2.1; omega, HI.out.2.2.2⟩
            case measure => simp [intOf]; omega
        · have q1 : (y == 32) = false := by simp; exact fun e => hblank (.inl e)
          have q2 : (y == 10) = false := by simp; exact fun e => hblank (.inr e)
          clear hblank
          have hcall := one_any s i wr hs hlt
          go_wp2_with fail
          refine hcall.mono ?_
          rintro e w1 ⟨⟨k, n, to, t, ok, rfl, hok, hn, ht⟩, hb⟩
          have B1 : Hid (Below w.heap.size w w1) := HI.out.2.2.2.trans (hb.mono hwz)
          have O1 : Hid (rose.Own tokSh 125 w1 w.heap.size (fun _ => False) u4 l) := HI.out.1.on fun b hh => by
            rcases hh with hh | hh
            · exact hh.elim
            · exact hb.block b hh
          have hw1 : w.heap.size ≤ w1.heap.size := B1.out.size
          clear hcall hb
          cases ok with
          | false =>
            go_wp2
            go_ret2
            refine ⟨⟨_, i, [], rfl, by omega, by omega, nil_rep _ _ _ _ (Nat.zero_le _), fun h => absurd h (by omega)⟩, ?_⟩
            exact (B1.out.alloc hw1 _).alloc (by simp; omega) _
          | true =>
            obtain ⟨g1, g2, g3, g4, g5, g6, g7⟩ := hok rfl
            obtain ⟨j, rfl⟩ : ∃ j : Nat, to = (j : Int) := ⟨to.toNat, by omega⟩
            clear hok
            obtain ⟨Y, hY⟩ : ∃ Y, Y = (w1.alloc (.cells #[.int .i64 k, .string t, .int .i64 n, .int .i64 i] 125)).alloc (.cells #[.int .i64 k, .string t, .int .i64 n, .int .i64 i] 125) := ⟨_, rfl⟩
            have BY : Hid (Below w1.heap.size w1 Y) := by show Below _ _ _; rw [hY]; exact ((Below.refl _ _).alloc (Nat.le_refl _) _).alloc (by simp) _
            have OY := O1.out.on (w' := Y) fun b hh => by
              rcases hh with hh | hh
              · exact hh.elim
              · exact BY.out.block b hh
            obtain ⟨cs4, hrow4, hcr4⟩ := OY
            have HROW : Hid (Y.ownsRow w.heap.size 125 4 u4 l.length (flat cs4 l.length)) := hrow4
            have HCR : Hid (∀ q (h : q < l.length), tokSh.rep Y (fun _ => False) (cs4 q) l[q]) := hcr4
            have hnews := cells_newT (w1.alloc (.cells #[.int .i64 k, .string t, .int .i64 n, .int .i64 i] 125)) [.int .i64 k, .string t, .int .i64 n, .int .i64 i] 125 _ rfl
            rw [show (#[.int .i64 k, .string t, .int .i64 n, .int .i64 i] : Array Value) = [.int .i64 k, .string t, .int .i64 n, .int .i64 i].toArray from rfl] at hY
            rw [← hY, World.size_alloc] at hnews
            have HNEW : Hid _ := hnews
            have HYY : Hid (Y = (w1.alloc (.cells #[.int .i64 k, .string t, .int .i64 n, .int .i64 i] 125)).alloc (.cells #[.int .i64 k, .string t, .int .i64 n, .int .i64 i] 125)) := hY
            have hll : l.length ≤ 3000 := by have := HI.out.2.2.1; omega
            have hYz : w.heap.size ≤ Y.heap.size := Nat.le_trans hw1 BY.out.size
            clear hnews hrow4 hcr4 hY
            go_wp2_with (first
              | (at_builtin
                 rw [← HYY.out]
                 refine wpList_append_own_at _ rfl _ _ 115 rfl w.heap.size 125 ti _ 4 40 Tryz.underlying115 TI.out.1 TI.out.2.1 TI.out.2.2.1 TI.out.2.2.2 rfl (by decide) u4 l.length _ rfl HROW.out ⟨w1.heap.size + 1, 0, none⟩ 1 1 _ rfl rfl HNEW.out (by simp [Value.oneCell']) (by unfold maxLen; omega) (by omega) hYz ?_
                 intro v' w6 hown5 hgrow5 _ hat5)
              | go_in)
            have HO6 : Hid (rose.Own tokSh 125 w6 w.heap.size (fun _ => False) v' (l ++ [(k, t, n, (i : Int))])) := by
              have hrp : tokSh.rep Y (fun _ => False) [.int .i64 k, .string t, .int .i64 n, .int .i64 i] (k, t, n, (i : Int)) := tok_shut (by omega) (by unfold maxLen; omega) (by omega) (by omega)
              exact Own.more (A := tokSh) (xs := l) (ys := [(k, t, n, (i : Int))]) (css := cs4) (css2 := fun _ => [.int .i64 k, .string t, .int .i64 n, .int .i64 i]) HROW.out HCR.out
                (fun q hq => by have : q = 0 := by simp at hq; omega
                                subst this; exact hrp) (fun b hS => hS.elim) hYz (v' := v') (w' := w6) (by rw [show flat (fun _ => [Value.int .i64 k, .string t, .int .i64 n, .int .i64 i]) [(k, t, n, (i : Int))].length = [.int .i64 k, .string t, .int .i64 n, .int .i64 i] by simp [flat]]; exact hown5) hgrow5
            have HB6 : Hid (Below w.heap.size w w6) := (B1.out.trans (BY.out.mono hw1)).grown hgrow5 hYz fun q e => (World.ownsRow.lt HROW.out q e).1
            have HF6 : Hid (Fine (l ++ [(k, t, n, (i : Int))])) := fine_snoc HI.out.2.1 ⟨g3, g4, g5, by dsimp only; omega, by dsimp only; omega⟩
            clear hown5 hgrow5 hat5
            go_round
            case rel => exact ⟨l ++ [(k, t, n, (i : Int))], j, by omega, rfl, HO6.out, HF6.out, by have := HI.out.2.2.1; simp; omega, HB6.out⟩
            case measure => simp [intOf]; omega
      · obtain rfl : i = s.size := by omega
        obtain ⟨Y, hY⟩ : ∃ Y, Y = wr.alloc (.cells #[.int .i64 0, .string ⟨#[]⟩, .int .i64 0, .int .i64 s.size] 125) := ⟨_, rfl⟩
        have BY : Hid (Below wr.heap.size wr Y) := by show Below _ _ _; rw [hY]; exact (Below.refl _ _).alloc (Nat.le_refl _) _
        have OY := HI.out.1.on (w' := Y) fun b hh => by
          rcases hh with hh | hh
          · exact hh.elim
          · exact BY.out.block b hh
        obtain ⟨cs4, hrow4, hcr4⟩ := OY
        have HROW : Hid (Y.ownsRow w.heap.size 125 4 u4 l.length (flat cs4 l.length)) := hrow4
        have HCR : Hid (∀ q (h : q < l.length), tokSh.rep Y (fun _ => False) (cs4 q) l[q]) := hcr4
        have hnews := cells_newT wr [.int .i64 0, .string ⟨#[]⟩, .int .i64 0, .int .i64 s.size] 125 _ rfl
        rw [show (#[.int .i64 0, .string ⟨#[]⟩, .int .i64 0, .int .i64 s.size] : Array Value) = [.int .i64 0, .string ⟨#[]⟩, .int .i64 0, .int .i64 s.size].toArray from rfl] at hY
        rw [← hY] at hnews
        have HNEW : Hid _ := hnews
        have HYY : Hid (Y = wr.alloc (.cells #[.int .i64 0, .string ⟨#[]⟩, .int .i64 0, .int .i64 s.size] 125)) := hY
        have hll : l.length ≤ 3000 := by have := HI.out.2.2.1; omega
        have hYz : w.heap.size ≤ Y.heap.size := Nat.le_trans hwz BY.out.size
        clear hnews hrow4 hcr4 hY
        go_wp2_with (first
          | (at_builtin
             rw [← HYY.out]
             refine wpList_append_own_at _ rfl _ _ 115 rfl w.heap.size 125 ti _ 4 40 Tryz.underlying115 TI.out.1 TI.out.2.1 TI.out.2.2.1 TI.out.2.2.2 rfl (by decide) u4 l.length _ rfl HROW.out ⟨wr.heap.size, 0, none⟩ 1 1 _ rfl rfl HNEW.out (by simp [Value.oneCell']) (by unfold maxLen; omega) (by omega) hYz ?_
             intro v' w6 hown5 hgrow5 _ hat5)
          | go_in)
        have HO6 : Hid (rose.Own tokSh 125 w6 w.heap.size (fun _ => False) v' (l ++ [(0, ⟨#[]⟩, 0, (s.size : Int))])) := by
          have hrp : tokSh.rep Y (fun _ => False) [.int .i64 0, .string ⟨#[]⟩, .int .i64 0, .int .i64 s.size] (0, ⟨#[]⟩, 0, (s.size : Int)) := tok_shut (by omega) (Nat.zero_le _) (by omega) (by omega)
          exact Own.more (A := tokSh) (xs := l) (ys := [(0, ⟨#[]⟩, 0, (s.size : Int))]) (css := cs4) (css2 := fun _ => [.int .i64 0, .string ⟨#[]⟩, .int .i64 0, .int .i64 s.size]) HROW.out HCR.out
            (fun q hq => by have : q = 0 := by simp at hq; omega
                            subst this; exact hrp) (fun b hS => hS.elim) hYz (v' := v') (w' := w6) (by rw [show flat (fun _ => [Value.int .i64 0, .string ⟨#[]⟩, .int .i64 0, .int .i64 s.size]) [((0 : Int), (⟨#[]⟩ : ByteArray), (0 : Int), (s.size : Int))].length = [.int .i64 0, .string ⟨#[]⟩, .int .i64 0, .int .i64 s.size] by simp [flat]]; exact hown5) hgrow5
        have HB6 : Hid (Below w.heap.size w w6) := (HI.out.2.2.2.trans (BY.out.mono hwz)).grown hgrow5 hYz fun q e => (World.ownsRow.lt HROW.out q e).1
        have HF6 : Hid (Fine (l ++ [((0 : Int), (⟨#[]⟩ : ByteArray), (0 : Int), (s.size : Int))])) := fine_snoc HI.out.2.1 ⟨Nat.zero_le _, by dsimp only; omega, by dsimp only; omega, by dsimp only; omega, by dsimp only; omega⟩
        clear hown5 hgrow5 hat5
        go_ret2
        refine ⟨⟨v', -1, _, rfl, by decide, by decide, tokSh.slice.mono (HO6.out.slice (by decide)) fun b hb => hb.resolve_left (fun h => h.elim), fun _ => ⟨HF6.out, by simp; omega, l, _, rfl, rfl⟩⟩, HB6.out⟩

end Go.Proofs.YtlnpfnglphdaiaaGreatDoor.tok

namespace Go.Proofs.YtlnpfnglphdaiaaGreatDoor.tok
open Go Go.RowKit Go.Deep Go.Proofs.YtlnpfnglphdaiaaGreatDoor.rose Go.Proofs.YtlnpfnglphdaiaaGreatDoor
set_option linter.unusedVariables false
set_option linter.unusedSimpArgs false

/-- Where a cursor lies, and its tokens: in blocks below B; its vars' names: in blocks NS, their slice nv. -/
structure Env where
  cb : Nat
  ta : Option Addr
  tc : Nat
  toks : List TokD
  B : Nat
  NS : Nat → Prop
  nv : Value

/-- A cursor at a place; bad: where something did not fit, or -1. -/
structure St (E : Env) (w : World) (at_ : Nat) (bad : Int) : Prop where
  blk : ∃ (va : Option Addr) (vc : Nat) (names : List ByteArray) (nn : Bool), w.heap[E.cb]? = some (.cells #[.slice E.ta E.toks.length E.tc, .int .i64 at_, .int .i64 bad, .slice va names.length vc, .bool nn] 120) ∧ Sh.str.slice.rep w E.NS [.slice va names.length vc] names ∧ names.length ≤ 3001 ∧ Value.slice va names.length vc = E.nv
  ns : ∀ b, E.NS b → b < w.heap.size ∧ b ≠ E.cb
  rep : tokSh.slice.rep w (fun b => b < E.B ∧ b ≠ E.cb) [.slice E.ta E.toks.length E.tc] E.toks
  lt : at_ < E.toks.length
  len : E.toks.length ≤ 3001
  fine : Fine E.toks
  last : ∃ l0 t, E.toks = l0 ++ [t] ∧ t.1 = 0
  bad0 : -1 ≤ bad ∧ bad ≤ 3000
  top : E.B ≤ w.heap.size

theorem St.keep {E : Env} {w w' : World} {at_ : Nat} {bad : Int} (h : St E w at_ bad) (hz : w.heap.size ≤ w'.heap.size) (hb : ∀ b, (E.NS b ∨ b < E.B ∨ b = E.cb) → w'.heap[b]? = w.heap[b]?) : St E w' at_ bad := by
  obtain ⟨va, vc, names, nn, h1, h2, h3⟩ := h.blk
  exact ⟨⟨va, vc, names, nn, (hb _ (.inr (.inr rfl))).trans h1, Sh.str.slice.on h2 fun b hS => hb b (.inl hS), h3⟩, fun b hS => ⟨Nat.lt_of_lt_of_le (h.ns b hS).1 hz, (h.ns b hS).2⟩, tokSh.slice.on h.rep fun b hS => hb b (.inr (.inl hS.1)), h.lt, h.len, h.fine, h.last, h.bad0, Nat.le_trans h.top hz⟩
theorem St.cblt {E : Env} {w : World} {at_ : Nat} {bad : Int} (h : St E w at_ bad) : E.cb < w.heap.size := by
  obtain ⟨va, vc, names, nn, h1, -⟩ := h.blk
  exact (Array.getElem?_eq_some_iff.1 h1).1
theorem St.on {E : Env} {w w' : World} {at_ : Nat} {bad : Int} (h : St E w at_ bad) (hb : Below w.heap.size w w') : St E w' at_ bad :=
  h.keep hb.size fun b hS => hb.block b (by
    rcases hS with hS | hS | rfl
    · exact (h.ns b hS).1
    · exact Nat.lt_of_lt_of_le hS h.top
    · exact h.cblt)

/-- What is not of kind 0 is not the last. -/
theorem St.notLast {E : Env} {w : World} {at_ : Nat} {bad : Int} (h : St E w at_ bad) (hk : (E.toks[at_]'h.lt).1 ≠ 0) : at_ + 1 < E.toks.length := by
  obtain ⟨l0, t, he, ht⟩ := h.last
  have hlt := h.lt
  rcases Nat.lt_or_ge (at_ + 1) E.toks.length with h' | h'
  · exact h'
  · exfalso
    apply hk
    have hl : at_ = l0.length := by rw [he] at hlt h'; simp at hlt h'; omega
    simp only [he]
    rw [List.getElem_append_right (by omega)]
    simp [hl, ht]

/-- A number of the cursor is turned. -/
theorem St.turn {E : Env} {w w' : World} {at_ at' : Nat} {bad bad' : Int} (h : St E w at_ bad) (o : Nat) (v : Value) (hw : w' = w.setCell ⟨E.cb, o, none⟩ v) (hov : (o = 1 ∧ v = .int .i64 at' ∧ bad' = bad) ∨ (o = 2 ∧ v = .int .i64 bad' ∧ at' = at_)) (hlt : at' < E.toks.length) (hb0 : -1 ≤ bad' ∧ bad' ≤ 3000) : St E w' at' bad' ∧ w.grownBy w' (some E.cb) := by
  obtain ⟨va, vc, names, nn, h1, h2, h3⟩ := h.blk
  have hz : w'.heap.size = w.heap.size := by rw [hw]; simp [World.setCell]
  have hoth : ∀ k, k ≠ E.cb → w'.heap[k]? = w.heap[k]? := fun k hk => by rw [hw]; exact Below.heap_setCell _ _ _ _ hk
  have hblk : w'.heap[E.cb]? = some (.cells #[.slice E.ta E.toks.length E.tc, .int .i64 at', .int .i64 bad', .slice va names.length vc, .bool nn] 120) := by
    rw [hw]
    rcases hov with ⟨rfl, rfl, rfl⟩ | ⟨rfl, rfl, rfl⟩
    · simp [World.setCell, Array.getElem?_modify, h1]
    · simp [World.setCell, Array.getElem?_modify, h1]
  refine ⟨⟨⟨va, vc, names, nn, hblk, Sh.str.slice.on h2 fun b hS => hoth b (h.ns b hS).2, h3⟩, fun b hS => ⟨by rw [hz]; exact (h.ns b hS).1, (h.ns b hS).2⟩, tokSh.slice.on h.rep fun b hS => hoth b hS.2, hlt, h.len, h.fine, h.last, hb0, by rw [hz]; exact h.top⟩, ?_⟩
  rw [hw]
  exact ⟨rfl, rfl, rfl, by simp [World.setCell], fun k _ hne => Below.heap_setCell _ _ _ _ (fun e => hne (by rw [e]))⟩

/-- The token at hand. -/
theorem St.tok {E : Env} {w : World} {at_ : Nat} {bad : Int} (h : St E w at_ bad) : ∃ k t n p b o, E.toks[at_]'h.lt = (k, t, n, p) ∧ E.ta = some ⟨b, o, none⟩ ∧ b < E.B ∧ b ≠ E.cb ∧ w.cell? ⟨b, o + at_ * 4, none⟩ = some (.int .i64 k) ∧ w.cell? ⟨b, o + at_ * 4 + 1, none⟩ = some (.string t) ∧ w.cell? ⟨b, o + at_ * 4 + 2, none⟩ = some (.int .i64 n) ∧ w.cell? ⟨b, o + at_ * 4 + 3, none⟩ = some (.int .i64 p) ∧ t.size ≤ 8 ∧ 0 ≤ n ∧ n ≤ 1073741823 ∧ 0 ≤ p ∧ p ≤ 3000 := by
  obtain ⟨a, c, css, e, -, -, -, hrow, hk⟩ := h.rep
  simp only [List.cons.injEq, Value.slice.injEq, and_true] at e
  obtain ⟨rfl, -, -⟩ := e
  obtain ⟨b, o, ea, hS, hc⟩ := hrow at_ h.lt
  have hr := hk at_ h.lt
  have hf := h.fine (E.toks[at_]'h.lt) (List.getElem_mem h.lt)
  generalize E.toks[at_]'h.lt = T at hr hf
  obtain ⟨k, t, n, p⟩ := T
  obtain ⟨_, _, hcs, ⟨rfl, _⟩, _, _, rfl, ⟨rfl, _⟩, _, _, rfl, ⟨rfl, _⟩, ⟨rfl, _⟩⟩ := hr
  rw [hcs] at hc
  exact ⟨k, t, n, p, b, o, rfl, ea, hS.1, hS.2, hc 0 _ rfl, hc 1 _ rfl, hc 2 _ rfl, hc 3 _ rfl, hf.1, hf.2.1, hf.2.2.1, hf.2.2.2.1, hf.2.2.2.2⟩

theorem cell_drewP {w : World} {a : Addr} : w.drew.cell? a = w.cell? a := rfl
theorem cell_setP {w : World} {b o q c : Nat} {v : Value} (h : q ≠ b) : (w.setCell ⟨b, o, none⟩ v).cell? ⟨q, c, none⟩ = w.cell? ⟨q, c, none⟩ := World.cell?_of_block (w := w) (a := ⟨q, c, none⟩) (Below.heap_setCell _ _ _ _ h)

set_option maxRecDepth 100000 in
set_option maxHeartbeats 4000000 in
theorem now_any (E : Env) (w : World) (at_ : Nat) (bad : Int) (h : St E w at_ bad) :
    Calls Tryz.prog 46 #[.pointer (some ⟨E.cb, 0, none⟩)] w fun e w' => (∃ k t n p, E.toks[at_]'h.lt = (k, t, n, p) ∧ e = .returned (.agg #[.int .i64 k, .string t, .int .i64 n, .int .i64 p]) ∧ t.size ≤ 8 ∧ 0 ≤ n ∧ n ≤ 1073741823 ∧ 0 ≤ p ∧ p ≤ 3000) ∧ Below w.heap.size w w' := by
  obtain ⟨k, t, n, p, b, o, ht, hta, hbB, hbc, d0, d1, d2, d3, q1, q2, q3, q4, q5⟩ := h.tok
  obtain ⟨va, vc, names, nn, hblk, -, -⟩ := h.blk
  rw [hta] at hblk
  have hcb := h.cblt
  have hlt := h.lt
  have hlen := h.len
  have hbw : b < w.heap.size := Nat.lt_of_lt_of_le hbB h.top
  have HQ : Hid (E.toks[at_]'h.lt = (k, t, n, p) ∧ t.size ≤ 8 ∧ 0 ≤ n ∧ n ≤ 1073741823 ∧ 0 ≤ p ∧ p ≤ 3000) := ⟨ht, q1, q2, q3, q4, q5⟩
  obtain ⟨w0, hw0⟩ : ∃ w0, w0 = w.alloc (.cells #[.int .i64 0, .string ⟨#[]⟩, .int .i64 0, .int .i64 0] 125) := ⟨_, rfl⟩
  have B0 : Hid (Below w.heap.size w w0) := by show Below _ _ _; rw [hw0]; exact (Below.refl _ _).alloc (Nat.le_refl _) _
  have HW0 : Hid (w0 = w.alloc (.cells #[.int .i64 0, .string ⟨#[]⟩, .int .i64 0, .int .i64 0] 125)) := hw0
  have hp : w0.heap[w.heap.size]? = some (.cells #[.int .i64 0, .string ⟨#[]⟩, .int .i64 0, .int .i64 0] 125) := by rw [hw0]; exact alloc_top _ _
  have k0 : w0.cell? ⟨w.heap.size, 0, none⟩ = some (.int .i64 0) := by simp [World.cell?, hp]
  have k1 : w0.cell? ⟨w.heap.size, 1, none⟩ = some (.string ⟨#[]⟩) := by simp [World.cell?, hp]
  have k2 : w0.cell? ⟨w.heap.size, 2, none⟩ = some (.int .i64 0) := by simp [World.cell?, hp]
  have k3 : w0.cell? ⟨w.heap.size, 3, none⟩ = some (.int .i64 0) := by simp [World.cell?, hp]
  have f1 : ∀ o, w0.frozen? ⟨w.heap.size, o, none⟩ = false := fun o => by simp [World.frozen?, hp]
  have hblk0 := (B0.out.block _ hcb).trans hblk
  have c0 : w0.cell? ⟨E.cb, 0, none⟩ = some (.slice (some ⟨b, o, none⟩) E.toks.length E.tc) := by simp [World.cell?, hblk0]
  have c1 : w0.cell? ⟨E.cb, 1, none⟩ = some (.int .i64 at_) := by simp [World.cell?, hblk0]
  have e0 := (B0.out.cell (p := ⟨b, o + at_ * 4, none⟩) hbw).trans d0
  have e1 := (B0.out.cell (p := ⟨b, o + at_ * 4 + 1, none⟩) hbw).trans d1
  have e2 := (B0.out.cell (p := ⟨b, o + at_ * 4 + 2, none⟩) hbw).trans d2
  have e3 := (B0.out.cell (p := ⟨b, o + at_ * 4 + 3, none⟩) hbw).trans d3
  have n1 : E.cb ≠ w.heap.size := by omega
  have n2 : b ≠ w.heap.size := by omega
  have hli : (E.toks.length : Int) ≤ 3001 := by omega
  have hlt' : (at_ : Int) < (E.toks.length : Int) := by omega
  clear hw0 hp hblk hblk0 d0 d1 d2 d3 ht hta q1 q2 q3 q4 q5
  go_enter Tryz.func46, Tryz.ntmps46
  go_wp2
  rw [← HW0.out]
  go_region_held3 (fun W => W.cell? ⟨E.cb, 0, none⟩ = some (.slice (some ⟨b, o, none⟩) E.toks.length E.tc) ∧ W.cell? ⟨E.cb, 1, none⟩ = some (.int .i64 at_) ∧ W.cell? ⟨b, o + at_ * 4, none⟩ = some (.int .i64 k) ∧ W.cell? ⟨b, o + at_ * 4 + 1, none⟩ = some (.string t) ∧ W.cell? ⟨b, o + at_ * 4 + 2, none⟩ = some (.int .i64 n) ∧ W.cell? ⟨b, o + at_ * 4 + 3, none⟩ = some (.int .i64 p))
    (exact ⟨(by first | with_reducible exact c0 | ((repeat (first | rw [cell_drewP] | rw [cell_setP n1])); with_reducible exact c0) | (show w0.cell? _ = _; with_reducible exact c0)), (by first | with_reducible exact c1 | ((repeat (first | rw [cell_drewP] | rw [cell_setP n1])); with_reducible exact c1) | (show w0.cell? _ = _; with_reducible exact c1)), (by first | with_reducible exact e0 | ((repeat (first | rw [cell_drewP] | rw [cell_setP n2])); with_reducible exact e0) | (show w0.cell? _ = _; with_reducible exact e0)), (by first | with_reducible exact e1 | ((repeat (first | rw [cell_drewP] | rw [cell_setP n2])); with_reducible exact e1) | (show w0.cell? _ = _; with_reducible exact e1)), (by first | with_reducible exact e2 | ((repeat (first | rw [cell_drewP] | rw [cell_setP n2])); with_reducible exact e2) | (show w0.cell? _ = _; with_reducible exact e2)), (by first | with_reducible exact e3 | ((repeat (first | rw [cell_drewP] | rw [cell_setP n2])); with_reducible exact e3) | (show w0.cell? _ = _; with_reducible exact e3))⟩)
    (fail)
  go_wp2
  refine bodyPost_ret (v := .agg #[.int .i64 k, .string t, .int .i64 n, .int .i64 p]) (by simp [results, Tryz.f46, go_sem, k0, k1, k2, k3]) rfl ?_
  refine ⟨⟨k, t, n, p, HQ.out.1, rfl, HQ.out.2⟩, ?_⟩
  repeat first | with_reducible exact B0.out | refine Below.drew ?_ | (refine Below.setCell ?_ (by first | (simp; done) | (simp; omega)) _)

end Go.Proofs.YtlnpfnglphdaiaaGreatDoor.tok
