/-
  The program's tests of a name and of a con (tidyName, tidyCon), at every text: as the model's. Nothing that was there is turned.
-/
import Derived.Test.YtkojogfljnnfhabSpecWords4
import Derived.Laws.RangeString
import Derived.Laws.RangeAny
namespace Go.Proofs.Ytkojogfljnnfhab.words4
open Go.RowKit
set_option linter.unusedVariables false

theorem decode_no {s : ByteArray} {pos : Nat} (h : pos < s.size) (hb : letU s[pos] = false) : ¬ (97 ≤ (Utf8.decode s pos).1 ∧ (Utf8.decode s pos).1 ≤ 122) ∧ ¬ (65 ≤ (Utf8.decode s pos).1 ∧ (Utf8.decode s pos).1 ≤ 90) := by
  by_cases ha : s[pos].toNat < 128
  · rw [decode_ascii s pos h ha]
    simp [letU, smallU, largeU] at hb
    simp only
    omega
  · have := (decode_high s pos h (by omega)).1
    omega

theorem iter_below (w : World) (s : ByteArray) (p : Nat) : Below w.heap.size w (w.iter s p) := (Below.refl _ _).alloc (Nat.le_refl _) _

theorem not_all {s : ByteArray} {k : Nat} (h : k < s.size) (hb : letU s[k] = false) {p : Nat} (hp : p < s.size) : ((s.extract 0 p).toList == s.toList) = allLet s := by
  rw [allLet_no h hb]
  rw [beq_eq_false_iff_ne]
  intro e
  have := congrArg List.length e
  simp [ByteArray.toList_eq] at this
  omega

def LeadSays (s : ByteArray) (e : Ending) : Prop := ∃ r : ByteArray, e = .returned (.string r) ∧ (r.toList == s.toList) = allLet s

set_option maxHeartbeats 1000000 in
set_option maxRecDepth 100000 in
theorem leading_letters (s : ByteArray) (hs : s.size ≤ maxLen) (w : World) : Calls Try.prog 55 #[.string s, .func (.func 56) #[] #[]] w fun e w' => LeadSays s e ∧ Below w.heap.size w w' := by
  unfold maxLen at hs
  go_enter Try.func55, Try.ntmps55
  go_wp2
  go_loopw [5] (fun v5 wr => ∃ pos : Nat, pos ≤ s.size ∧ wr = w.iter s pos ∧ Hid (∀ j (hj : j < s.size), j < pos → letU s[j] = true)) (fun _ wr => s.size - wr.iterPos w.heap.size)
  case atStart => exact ⟨0, Nat.zero_le _, rfl, fun j _ h => absurd h (Nat.not_lt_zero _)⟩
  case round =>
    obtain ⟨k, hk, rfl, HL⟩ := hrel
    by_cases hlt : k < s.size
    · by_cases h1 : (97 : Int) ≤ s[k].toNat ∧ (s[k].toNat : Int) ≤ 122
      · obtain ⟨h1, h2⟩ := h1
        have hnx : ∀ ty, (Instr.next (.pointer (some ⟨w.heap.size, 0, none⟩)) true ty).run Try.prog (w.iter s k) = _ := fun ty => run_next_ascii w s k ty hlt (by omega)
        go_wp2
        refine ⟨⟨k + 1, by omega, rfl, fun j hj hjk => ?_⟩, by simp; omega⟩
        by_cases e : j = k
        · subst e; exact letU_small h1 h2
        · exact HL.out j hj (by omega)
      · by_cases h3 : (65 : Int) ≤ s[k].toNat ∧ (s[k].toNat : Int) ≤ 90
        · obtain ⟨h3, h4⟩ := h3
          have hnx : ∀ ty, (Instr.next (.pointer (some ⟨w.heap.size, 0, none⟩)) true ty).run Try.prog (w.iter s k) = _ := fun ty => run_next_ascii w s k ty hlt (by omega)
          have h97 : ¬ (97 : Int) ≤ s[k].toNat := by omega
          go_wp2
          refine ⟨⟨k + 1, by omega, rfl, fun j hj hjk => ?_⟩, by simp; omega⟩
          by_cases e : j = k
          · subst e; exact letU_large h3 h4
          · exact HL.out j hj (by omega)
        · have hl := letU_no h1 h3
          obtain ⟨d1, d2⟩ := decode_no hlt hl
          have hno : Hid (((s.extract 0 k).toList == s.toList) = allLet s) := not_all hlt hl hlt
          have hnx : ∀ ty, (Instr.next (.pointer (some ⟨w.heap.size, 0, none⟩)) true ty).run Try.prog (w.iter s k) = _ := fun ty => run_next_any w s k ty hlt
          clear h1 h3 hl HL
          generalize (Utf8.decode s k).1 = d at d1 d2 hnx
          generalize (Utf8.decode s k).2 = d' at hnx
          by_cases h5 : (97 : Int) ≤ d
          · have h6 : ¬ (d : Int) ≤ 122 := by omega
            have h65 : (65 : Int) ≤ d := by omega
            have h90 : ¬ (d : Int) ≤ 90 := by omega
            go_wp2
            go_ret
            exact ⟨⟨_, rfl, hno.out⟩, iter_below _ _ _⟩
          · by_cases h7 : (65 : Int) ≤ d
            · have h6 : ¬ (d : Int) ≤ 90 := by omega
              go_wp2
              go_ret
              exact ⟨⟨_, rfl, hno.out⟩, iter_below _ _ _⟩
            · go_wp2
              go_ret
              exact ⟨⟨_, rfl, hno.out⟩, iter_below _ _ _⟩
    · have hal : Hid (allLet s = true) := allLet_yes fun j hj => HL.out j hj (by omega)
      have hnx : ∀ ty, (Instr.next (.pointer (some ⟨w.heap.size, 0, none⟩)) true ty).run Try.prog (w.iter s k) = _ := fun ty => run_next_end w s k ty hlt
      clear HL
      go_wp2
      go_ret
      exact ⟨⟨_, rfl, by rw [hal.out]; simp⟩, iter_below _ _ _⟩

def kindOf (s : ByteArray) (h : 0 < s.size) : Int := if smallU s[0] then 1 else 2

set_option maxHeartbeats 1000000 in
theorem letterTok (s : ByteArray) (hs : s.size ≤ maxLen) (h0 : 0 < s.size) (w : World) : Calls Try.prog 57 #[.string s] w fun e w' =>
    e = .returned (.tuple #[.agg #[.int .i64 (kindOf s h0), .string s, .int .i64 0, .int .i64 0], .bool (decide ((s.size : Int) ≤ 8))]) ∧ Below w.heap.size w w' := by
  unfold maxLen at hs
  have hub := (s[0]'h0).toNat_lt
  have h32 : wrap32 ((s[0]'h0).toNat : Int) = (s[0]'h0).toNat := by unfold wrap32; omega
  clear hub
  by_cases h1 : (97 : Int) ≤ (s[0]'h0).toNat
  · by_cases h2 : ((s[0]'h0).toNat : Int) ≤ 122
    · have hk : Hid (kindOf s h0 = 1) := by show _ = _; unfold kindOf; rw [if_pos (by simp [smallU]; omega)]
      go_enter Try.func57, Try.ntmps57
      go_wp2
      refine bodyPost_ret (v := .tuple #[.agg #[.int .i64 1, .string s, .int .i64 0, .int .i64 0], .bool (decide ((s.size : Int) ≤ 8))]) (by simp [results, Try.f57, go_sem]) rfl ?_
      exact ⟨by rw [hk.out], (Below.refl _ _).alloc (Nat.le_refl _) _⟩
    · have hk : Hid (kindOf s h0 = 2) := by show _ = _; unfold kindOf; rw [if_neg (by simp [smallU]; omega)]
      go_enter Try.func57, Try.ntmps57
      go_wp2
      refine bodyPost_ret (v := .tuple #[.agg #[.int .i64 2, .string s, .int .i64 0, .int .i64 0], .bool (decide ((s.size : Int) ≤ 8))]) (by simp [results, Try.f57, go_sem]) rfl ?_
      exact ⟨by rw [hk.out], (Below.refl _ _).alloc (Nat.le_refl _) _⟩
  · have hk : Hid (kindOf s h0 = 2) := by show _ = _; unfold kindOf; rw [if_neg (by simp [smallU]; omega)]
    go_enter Try.func57, Try.ntmps57
    go_wp2
    refine bodyPost_ret (v := .tuple #[.agg #[.int .i64 2, .string s, .int .i64 0, .int .i64 0], .bool (decide ((s.size : Int) ≤ 8))]) (by simp [results, Try.f57, go_sem]) rfl ?_
    exact ⟨by rw [hk.out], (Below.refl _ _).alloc (Nat.le_refl _) _⟩

/-- isRun at the kind of a con (2), or of a name (1). -/
def runB (kind : Int) (s : ByteArray) : Bool := allLet s && (if h : 1 ≤ s.size ∧ s.size ≤ 8 then decide (kindOf s (by omega) = kind) else false)

set_option maxHeartbeats 1000000 in
theorem implRun (s : ByteArray) (kind : Int) (hs : s.size ≤ maxLen) (w : World) : Calls Try.prog 47 #[.string s, .int .i64 kind] w fun e w' => e = .returned (.bool (runB kind s)) ∧ Below w.heap.size w w' := by
  by_cases h0 : s.size = 0
  · have e0 : s = ⟨#[]⟩ := by
      cases s with
      | mk d => congr; exact Array.eq_empty_of_size_eq_zero h0
    subst e0
    have hr : Hid (runB kind ⟨#[]⟩ = false) := by show _ = _; unfold runB; rw [dif_neg (by rw [h0]; omega)]; simp
    go_enter Try.func47, Try.ntmps47
    go_wp2
    go_ret
    exact ⟨ret_bool hr.out.symm, Below.refl _ _⟩
  · have hne : (s.toList == []) = false := by
      rw [beq_eq_false_iff_ne]
      intro e
      have := congrArg List.length e
      rw [ByteArray.toList_eq] at this
      simp only [Array.length_toList, List.length_nil] at this
      exact h0 this
    by_cases hal : allLet s = true
    · go_enter Try.func47, Try.ntmps47
      go_wp2_with (go_at_call 55; refine (leading_letters s hs _).mono ?_; rintro e w1 ⟨⟨r, rfl, hr⟩, hb⟩; rw [hal] at hr)
      have hk := letterTok s hs (by omega) w1
      have B1 : Hid (Below w.heap.size w w1) := hb
      clear hb
      refine hk.mono ?_
      clear hk
      rintro e w2 ⟨rfl, hb⟩
      have B2 : Hid (Below w.heap.size w w2) := B1.out.trans (hb.mono B1.out.size)
      clear hb B1
      by_cases h8 : (s.size : Int) ≤ 8
      · have hr2 : Hid (runB kind s = decide (kindOf s (by omega) = kind)) := by show _ = _; unfold runB; rw [dif_pos (by omega), hal]; simp
        generalize kindOf s (by omega) = q at hr2 ⊢
        go_wp2
        go_ret
        refine ⟨ret_bool (hr2.out.symm ▸ ?_), B2.out.alloc B2.out.size _⟩
        first | rfl | simp
      · have hr2 : Hid (runB kind s = false) := by show _ = _; unfold runB; rw [dif_neg (by omega)]; simp
        go_wp2
        go_ret
        exact ⟨ret_bool hr2.out.symm, B2.out.alloc B2.out.size _⟩
    · have hal' : allLet s = false := by simpa using hal
      have hr2 : Hid (runB kind s = false) := by show _ = _; unfold runB; rw [hal']; simp
      go_enter Try.func47, Try.ntmps47
      go_wp2_with (go_at_call 55; refine (leading_letters s hs _).mono ?_; rintro e w1 ⟨⟨r, rfl, hr⟩, hb⟩; rw [hal'] at hr)
      go_ret
      exact ⟨ret_bool hr2.out.symm, hb⟩

theorem small_large {b : UInt8} (h : letU b = true) : smallU b = !largeU b := by
  simp [letU, smallU, largeU] at h ⊢
  rw [Bool.eq_iff_iff]; simp; omega
theorem first_let {s : ByteArray} (h : allLet s = true) (h0 : 0 < s.size) : letU s[0] = true := by
  unfold allLet at h
  rw [List.all_eq_true] at h
  exact h _ (List.getElem_mem (l := s.data.toList) (n := 0) (by simpa using h0))

theorem run_con (s : ByteArray) : (runB 2 s && !(s.toList == [73, 110, 116])) = conB s := by
  unfold runB conB
  congr 1
  by_cases hal : allLet s = true
  · rw [hal]
    by_cases h : 1 ≤ s.size ∧ s.size ≤ 8
    · rw [dif_pos h, dif_pos h]
      have := small_large (first_let hal (by omega))
      unfold kindOf
      rw [this]
      cases largeU (s[0]'(by omega)) <;> simp
    · rw [dif_neg h, dif_neg h]
  · simp [hal]
theorem run_name (s : ByteArray) : (runB 1 s && !kwB s) = nameB s := by
  unfold runB nameB
  congr 1
  by_cases hal : allLet s = true
  · rw [hal]
    by_cases h : 1 ≤ s.size ∧ s.size ≤ 8
    · rw [dif_pos h, dif_pos h]
      unfold kindOf
      cases smallU (s[0]'(by omega)) <;> simp
    · rw [dif_neg h, dif_neg h]
  · simp [hal]

set_option maxHeartbeats 1000000 in
theorem implCon (s : ByteArray) (hs : s.size ≤ maxLen) (w : World) : Calls Try.prog 36 #[.string s] w fun e w' => e = .returned (.bool (conB s)) ∧ Below w.heap.size w w' := by
  have hr := run_con s
  generalize conB s = q at hr ⊢
  by_cases h : runB 2 s = true
  · go_enter Try.func36, Try.ntmps36
    go_wp2_with (go_at_call 47; refine (implRun s 2 hs _).mono ?_; rintro e w1 ⟨rfl, hb⟩)
    go_ret
    refine ⟨ret_bool ?_, hb⟩
    rw [← hr, h]; simp
  · have h' : runB 2 s = false := by simpa using h
    go_enter Try.func36, Try.ntmps36
    go_wp2_with (go_at_call 47; refine (implRun s 2 hs _).mono ?_; rintro e w1 ⟨rfl, hb⟩)
    go_ret
    refine ⟨ret_bool ?_, hb⟩
    rw [← hr, h']; simp

set_option maxHeartbeats 2000000 in
theorem implKeyword (s : ByteArray) (w : World) : Calls Try.prog 59 #[.string s] w fun e w' => e = .returned (.bool (kwB s)) ∧ w' = w := by
  go_enter Try.func59, Try.ntmps59
  go_wp2
  all_goals first
    | (exfalso; simp_all; done)
    | (go_ret; exact ⟨ret_bool (by unfold kwB kws; simp_all), rfl⟩)

set_option maxHeartbeats 1000000 in
theorem implName (s : ByteArray) (hs : s.size ≤ maxLen) (w : World) : Calls Try.prog 50 #[.string s] w fun e w' => e = .returned (.bool (nameB s)) ∧ Below w.heap.size w w' := by
  have hr := run_name s
  generalize nameB s = q at hr ⊢
  by_cases h : runB 1 s = true
  · go_enter Try.func50, Try.ntmps50
    go_wp2_with (first | (go_at_call 47; refine (implRun s 1 hs _).mono ?_; rintro e w1 ⟨rfl, hb⟩) | (go_at_call 59; refine (implKeyword s _).mono ?_; rintro e w2 ⟨rfl, rfl⟩))
    go_ret
    refine ⟨ret_bool ?_, hb⟩
    rw [← hr, h]; simp
  · have h' : runB 1 s = false := by simpa using h
    go_enter Try.func50, Try.ntmps50
    go_wp2_with (first | (go_at_call 47; refine (implRun s 1 hs _).mono ?_; rintro e w1 ⟨rfl, hb⟩) | (go_at_call 59; refine (implKeyword s _).mono ?_; rintro e w2 ⟨rfl, rfl⟩))
    go_ret
    refine ⟨ret_bool ?_, hb⟩
    rw [← hr, h']; simp

end Go.Proofs.Ytkojogfljnnfhab.words4
