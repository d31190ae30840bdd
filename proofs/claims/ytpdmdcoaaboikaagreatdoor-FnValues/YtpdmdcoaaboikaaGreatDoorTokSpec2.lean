/-
  The model's l2One and Tokens, at every text.
-/
import Derived.Test.YtpdmdcoaaboikaaGreatDoorTokSpec
namespace Go.Proofs.YtpdmdcoaaboikaaGreatDoor.tok
open Go Go.RowKit Go.Deep Go.Proofs.YtpdmdcoaaboikaaGreatDoor.rose Go.Proofs.YtpdmdcoaaboikaaGreatDoor
set_option linter.unusedVariables false
set_option linter.unusedSimpArgs false

set_option maxRecDepth 100000 in
set_option maxHeartbeats 4000000 in
theorem one_num (s : ByteArray) (at_ : Nat) (w : World) (hs : s.size ≤ 3000) (hat : at_ < s.size) (h1 : smallB s[at_].toNat = false) (h2 : largeB s[at_].toNat = false) (h3 : digitB s[at_].toNat = true) :
    Calls Tryz.prog 55 #[.string s, .int .i64 at_] w (OneSays s at_ w) := by
  obtain ⟨z, hz⟩ : ∃ z : Int, z = s[at_].toNat := ⟨_, rfl⟩
  have HLET : Hid (digitB s[at_].toNat = true) := h3
  rw [← hz] at h1 h2 h3
  have hix : ∀ W, (Instr.index 9 (.string s) (.int .i64 at_)).run Tryz.prog W = .ok (.int .u8 z) W := fun W => by rw [hz]; exact ix_run s at_ hat W
  have HSL : Hid (∀ j, at_ ≤ j → j ≤ s.size → ∀ W, (Instr.slice 9 (.string s) (some (.int .i64 at_)) (some (.int .i64 (j : Nat))) none).run Tryz.prog W = .ok (.string (s.extract at_ j)) W) := fun j h1 h2 W => sl_run s at_ j _ _ rfl rfl h1 h2 W
  clear hz
  obtain ⟨w0, hw0⟩ : ∃ w0, w0 = w.alloc (.cells #[.int .i64 0, .string ⟨#[]⟩, .int .i64 0, .int .i64 0] 125) := ⟨_, rfl⟩
  have B0 : Hid (Below w.heap.size w w0) := by show Below _ _ _; rw [hw0]; exact (Below.refl _ _).alloc (Nat.le_refl _) _
  have HP : Hid (w0.heap[w.heap.size]? = some (.cells #[.int .i64 0, .string ⟨#[]⟩, .int .i64 0, .int .i64 0] 125)) := by show _ = _; rw [hw0]; exact alloc_top _ _
  have HW0 : Hid (w0 = w.alloc (.cells #[.int .i64 0, .string ⟨#[]⟩, .int .i64 0, .int .i64 0] 125)) := hw0
  clear hw0
  have HDI : Hid (∀ z w, Calls Tryz.prog 80 #[.int .u8 z] w fun e w' => e = .returned (.bool (digitB z)) ∧ w' = w) := digit_any
  have c1 := small_any z
  have c2 := large_any z
  have c3 := digit_any z
  rw [h1] at c1
  rw [h2] at c2
  rw [h3] at c3
  clear h1 h2 h3
  go_enter Tryz.func55, Tryz.ntmps55
  go_wp2_with (first | (go_at_call 78; refine (c1 _).mono ?_; rintro e w1 ⟨rfl, rfl⟩) | (go_at_call 79; refine (c2 _).mono ?_; rintro e w1 ⟨rfl, rfl⟩) | (go_at_call 80; refine (c3 _).mono ?_; rintro e w1 ⟨rfl, rfl⟩) | fail)
  rw [← HW0.out]
  clear c1 c2 c3
  go_loopw [7] (fun v7 wr => ∃ j : Nat, at_ ≤ j ∧ j ≤ s.size ∧ v7 = .int .i64 j ∧ wr = w0) (fun v7 _ => s.size - (intOf v7).toNat)
  case atStart => exact ⟨at_, Nat.le_refl _, by omega, rfl, rfl⟩
  case round =>
    obtain ⟨j, hj1, hj2, rfl, hwr⟩ := hrel
    subst hwr
    by_cases hlt : j < s.size
    · obtain ⟨y, hy⟩ : ∃ y : Int, y = s[j].toNat := ⟨_, rfl⟩
      have hiy : ∀ W, (Instr.index 9 (.string s) (.int .i64 j)).run Tryz.prog W = .ok (.int .u8 y) W := fun W => by rw [hy]; exact ix_run s j hlt W
      have HNE : Hid (digitB y = false → at_ < j) := fun q1 => by
        rcases Nat.lt_or_ge at_ j with h | h
        · exact h
        · exfalso
          have e : j = at_ := by omega
          subst e
          have := HLET.out
          rw [← hy, q1] at this
          cases this
      obtain ⟨b1, hb1⟩ : ∃ b, b = digitB y := ⟨_, rfl⟩
      have HB1 : Hid (b1 = digitB y) := hb1
      have d1 := HDI.out y
      rw [← hb1] at d1
      clear hy hb1
      cases b1 with
      | true =>
        go_wp2_with (first | (go_at_call 80; refine (d1 _).mono ?_; rintro e w1 ⟨rfl, rfl⟩) | fail)
        go_round
        case rel => exact ⟨j + 1, by omega, by omega, by go_num, by first | rfl | trivial⟩
        case measure => simp [intOf]; omega
      | false =>
      have hat_j : at_ < j := HNE.out HB1.out.symm
      have hxs := HSL.out j (by omega) (by omega)
      have HXZ : Hid ((s.extract at_ j).size = j - at_) := ext_size (by omega) (by omega)
      generalize s.extract at_ j = x at hxs HXZ
      have hnum := numWalks.spec_any x
      obtain ⟨rn, hrn⟩ : ∃ r, r = (plain.numRes x.data.toList).1 := ⟨_, rfl⟩
      obtain ⟨rb, hrb⟩ : ∃ r, r = (plain.numRes x.data.toList).2 := ⟨_, rfl⟩
      rw [← hrn, ← hrb] at hnum
      have HRN : Hid (0 ≤ rn ∧ rn ≤ 1073741823) := by rw [hrn]; exact num_le _
      have hxm : x.size ≤ maxLen := by rw [HXZ.out]; unfold maxLen; omega
      have hcall := hnum wr hxm
      clear hrn hrb hnum
      go_wp2_with (first | (go_at_call 80; refine (d1 _).mono ?_; rintro e w1 ⟨rfl, rfl⟩) | fail)
      refine hcall.mono ?_
      rintro e w1 ⟨rfl, hb⟩
      have hlt0 := (Array.getElem?_eq_some_iff.1 HP.out).1
      have hp := (hb.block _ hlt0).trans HP.out
      have B1 : Hid (Below w.heap.size w w1) := B0.out.trans (hb.mono B0.out.size)
      have k0 : w1.cell? ⟨w.heap.size, 0, none⟩ = some (.int .i64 0) := by simp [World.cell?, hp]
      have k1 : w1.cell? ⟨w.heap.size, 1, none⟩ = some (.string ⟨#[]⟩) := by simp [World.cell?, hp]
      have k2 : w1.cell? ⟨w.heap.size, 2, none⟩ = some (.int .i64 0) := by simp [World.cell?, hp]
      have k3 : w1.cell? ⟨w.heap.size, 3, none⟩ = some (.int .i64 0) := by simp [World.cell?, hp]
      have f1 : ∀ o, w1.frozen? ⟨w.heap.size, o, none⟩ = false := fun o => by simp [World.frozen?, hp]
      clear hp hb hcall hlt0
      go_wp2
      refine bodyPost_ret (v := .tuple #[.agg #[.int .i64 3, .string ⟨#[]⟩, .int .i64 rn, .int .i64 at_], .int .i64 j, .bool rb]) (by simp [results, Tryz.f55, go_sem, k0, k1, k2, k3]) rfl ?_
      refine ⟨⟨3, rn, j, ⟨#[]⟩, rb, rfl, fun hok => ?_, HRN.out, by decide⟩, ?_⟩
      · have h0 : (⟨#[]⟩ : ByteArray).size = 0 := rfl
        have h1 := HRN.out
        exact ⟨by omega, by omega, by rw [h0]; omega, h1.1, h1.2, by omega, by omega⟩
      · repeat first | with_reducible exact B1.out | (refine Below.setCell ?_ (by first | (simp; done) | (simp; omega)) _)
    · obtain rfl : j = s.size := by omega
      have hat_j : at_ < s.size := hat
      have hxs := HSL.out s.size (by omega) (by omega)
      have HXZ : Hid ((s.extract at_ s.size).size = s.size - at_) := ext_size (by omega) (by omega)
      generalize s.extract at_ s.size = x at hxs HXZ
      have d1 := HDI.out z
      have hnum := numWalks.spec_any x
      obtain ⟨rn, hrn⟩ : ∃ r, r = (plain.numRes x.data.toList).1 := ⟨_, rfl⟩
      obtain ⟨rb, hrb⟩ : ∃ r, r = (plain.numRes x.data.toList).2 := ⟨_, rfl⟩
      rw [← hrn, ← hrb] at hnum
      have HRN : Hid (0 ≤ rn ∧ rn ≤ 1073741823) := by rw [hrn]; exact num_le _
      have hxm : x.size ≤ maxLen := by rw [HXZ.out]; unfold maxLen; omega
      have hcall := hnum wr hxm
      clear hrn hrb hnum
      go_wp2_with (first | (go_at_call 80; refine (d1 _).mono ?_; rintro e w1 ⟨rfl, rfl⟩) | fail)
      refine hcall.mono ?_
      rintro e w1 ⟨rfl, hb⟩
      have hlt0 := (Array.getElem?_eq_some_iff.1 HP.out).1
      have hp := (hb.block _ hlt0).trans HP.out
      have B1 : Hid (Below w.heap.size w w1) := B0.out.trans (hb.mono B0.out.size)
      have k0 : w1.cell? ⟨w.heap.size, 0, none⟩ = some (.int .i64 0) := by simp [World.cell?, hp]
      have k1 : w1.cell? ⟨w.heap.size, 1, none⟩ = some (.string ⟨#[]⟩) := by simp [World.cell?, hp]
      have k2 : w1.cell? ⟨w.heap.size, 2, none⟩ = some (.int .i64 0) := by simp [World.cell?, hp]
      have k3 : w1.cell? ⟨w.heap.size, 3, none⟩ = some (.int .i64 0) := by simp [World.cell?, hp]
      have f1 : ∀ o, w1.frozen? ⟨w.heap.size, o, none⟩ = false := fun o => by simp [World.frozen?, hp]
      clear hp hb hcall hlt0
      go_wp2
      refine bodyPost_ret (v := .tuple #[.agg #[.int .i64 3, .string ⟨#[]⟩, .int .i64 rn, .int .i64 at_], .int .i64 s.size, .bool rb]) (by simp [results, Tryz.f55, go_sem, k0, k1, k2, k3]) rfl ?_
      refine ⟨⟨3, rn, s.size, ⟨#[]⟩, rb, rfl, fun hok => ?_, HRN.out, by decide⟩, ?_⟩
      · have h0 : (⟨#[]⟩ : ByteArray).size = 0 := rfl
        have h1 := HRN.out
        exact ⟨by omega, by omega, by rw [h0]; omega, h1.1, h1.2, by omega, by omega⟩
      · repeat first | with_reducible exact B1.out | (refine Below.setCell ?_ (by first | (simp; done) | (simp; omega)) _)

theorem one_any (s : ByteArray) (at_ : Nat) (w : World) (hs : s.size ≤ 3000) (hat : at_ < s.size) : Calls Tryz.prog 55 #[.string s, .int .i64 at_] w (OneSays s at_ w) := by
  cases h1 : smallB s[at_].toNat with
  | true => exact one_name s at_ w hs hat (.inl h1)
  | false =>
    cases h2 : largeB s[at_].toNat with
    | true => exact one_name s at_ w hs hat (.inr ⟨h1, h2⟩)
    | false =>
      cases h3 : digitB s[at_].toNat with
      | true => exact one_num s at_ w hs hat h1 h2 h3
      | false => exact one_sign s at_ w hs hat h1 h2 h3

/-! ### Tokens -/

/-- A token: kind, text, number, place. -/
abbrev TokD := Int × ByteArray × Int × Int
abbrev tokSh : Sh TokD := Sh.int.pair (Sh.str.pair (Sh.int.pair Sh.int))
theorem tok_shut {w : World} {S : Nat → Prop} {k n p : Int} {t : ByteArray} (hk : -9223372036854775808 ≤ k ∧ k ≤ 9223372036854775807) (ht : t.size ≤ maxLen) (hn : -9223372036854775808 ≤ n ∧ n ≤ 9223372036854775807) (hp : -9223372036854775808 ≤ p ∧ p ≤ 9223372036854775807) :
    tokSh.rep w S [.int .i64 k, .string t, .int .i64 n, .int .i64 p] (k, t, n, p) := ⟨[_], [_, _, _], rfl, ⟨rfl, hk⟩, [_], [_, _], rfl, ⟨rfl, ht⟩, [_], [_], rfl, ⟨rfl, hn⟩, ⟨rfl, hp⟩⟩

/-- Tokens that Tokens may give: short texts, words; the last one of kind 0. -/
def Fine (l : List TokD) : Prop := ∀ t ∈ l, t.2.1.size ≤ 8 ∧ 0 ≤ t.2.2.1 ∧ t.2.2.1 ≤ 1073741823 ∧ 0 ≤ t.2.2.2 ∧ t.2.2.2 ≤ 3000

theorem cells_newT (w : World) (cs : List Value) (t : TypeId) (arr : Array Value) (ha : arr = cs.toArray) : ∀ j u, cs[j]? = some u → (w.alloc (.cells arr t)).cell? ((⟨w.heap.size, 0, none⟩ : Addr).add j) = some u := by
  subst ha
  intro j u hj
  have hh : (w.alloc (.cells cs.toArray t)).heap[w.heap.size]? = some (.cells cs.toArray t) := alloc_top w (.cells cs.toArray t)
  rw [add_plain, Nat.zero_add]
  simp only [World.cell?, hh]
  simpa using hj

set_option maxRecDepth 100000 in
theorem info_tok : (Tryz.prog.info? 125).map (fun i => (i.zero, i.size, i.bytes)) = some (some (.agg #[.int .i64 0, .string ⟨#[]⟩, .int .i64 0, .int .i64 0]), 4, 40) := by kernel_rfl

end Go.Proofs.YtpdmdcoaaboikaaGreatDoor.tok
