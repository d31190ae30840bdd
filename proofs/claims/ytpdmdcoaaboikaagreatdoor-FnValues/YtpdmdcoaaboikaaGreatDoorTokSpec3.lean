/-
  The model's Tokens, at every text: it comes back, with a list of tokens that ends with one of kind 0 and whose texts are short, or with none; nothing that was there is turned. (Not which tokens they are.)
-/
import Derived.Test.YtpdmdcoaaboikaaGreatDoorTokSpec2
namespace Go.Proofs.YtpdmdcoaaboikaaGreatDoor.tok
open Go Go.RowKit Go.Deep Go.Proofs.YtpdmdcoaaboikaaGreatDoor.rose Go.Proofs.YtpdmdcoaaboikaaGreatDoor
set_option linter.unusedVariables false
set_option linter.unusedSimpArgs false

theorem fine_snoc {l : List TokD} {t : TokD} (h : Fine l) (ht : t.2.1.size ≤ 8 ∧ 0 ≤ t.2.2.1 ∧ t.2.2.1 ≤ 1073741823 ∧ 0 ≤ t.2.2.2 ∧ t.2.2.2 ≤ 3000) : Fine (l ++ [t]) := fun x hx => by
  rcases List.mem_append.1 hx with h1 | h1
  · exact h x h1
  · simp only [List.mem_singleton] at h1; subst h1; exact ht

theorem nil_rep (n : Nat) (W : World) (g : Nat) (c : Nat) (hc : c ≤ maxLen) : tokSh.slice.rep W (fun b => n ≤ b ∧ b < W.heap.size) [.slice (some ⟨g, 0, none⟩) 0 c] [] := ⟨some ⟨g, 0, none⟩, c, fun _ => [], rfl, Nat.zero_le _, hc, (fun h => by cases h), fun i hi => absurd hi (Nat.not_lt_zero _), fun i hi => absurd hi (Nat.not_lt_zero _)⟩

set_option maxRecDepth 100000 in
set_option maxHeartbeats 4000000 in
theorem tokens_any (s : ByteArray) (w : World) (hsz : s.size ≤ maxLen) :
    Calls Tryz.prog 42 #[.string s] w fun e w' => (∃ (v : Value) (at_ : Int) (l : List TokD), e = .returned (.tuple #[v, .int .i64 at_]) ∧ -1 ≤ at_ ∧ at_ ≤ 3000 ∧ tokSh.slice.rep w' (fun b => w.heap.size ≤ b ∧ b < w'.heap.size) [v] l ∧ (at_ < 0 → Fine l ∧ l.length ≤ 3001 ∧ ∃ l0 t, l = l0 ++ [t] ∧ t.1 = 0)) ∧ Below w.heap.size w w' := by
  obtain ⟨ti, hti, hzz⟩ := Option.map_eq_some_iff.1 info_tok
  simp only [Prod.mk.injEq] at hzz
  obtain ⟨hz0, hz1, hz2⟩ := hzz
  have TI : Hid (Tryz.prog.info? 125 = some ti ∧ ti.zero = some (.agg #[.int .i64 0, .string ⟨#[]⟩, .int .i64 0, .int .i64 0]) ∧ ti.size = 4 ∧ ti.bytes = 40) := ⟨hti, hz0, hz1, hz2⟩
  clear hti hz0 hz1 hz2
  by_cases hbig : (3000 : Int) < (s.size : Int)
  · have hs2 : (s.size : Int) ≤ 9223372036854775807 := by unfold maxLen at hsz; omega
    go_enter Tryz.func42, Tryz.ntmps42
    go_wp2
    go_ret2
    exact ⟨⟨_, 0, [], rfl, by decide, by decide, nil_rep _ _ _ _ (Nat.zero_le _), fun h => absurd h (by decide)⟩, (Below.refl _ _).alloc (Nat.le_refl _) _⟩
  · have hs : s.size ≤ 3000 := by omega
    clear hbig hsz
    have HIX : Hid (∀ i (h : i < s.size) W, (Instr.index 9 (.string s) (.int .i64 (i : Nat))).run Tryz.prog W = .ok (.int .u8 s[i].toNat) W) := fun i h W => ix_run s i h W
    have HN : Hid (∃ n, n = w.heap.size) := ⟨_, rfl⟩
    go_enter Tryz.func42, Tryz.ntmps42
    go_wp2
    go_loopw [4, 5] (fun v4 v5 wr => ∃ (l : List TokD) (i : Nat), i ≤ s.size ∧ v5 = .int .i64 i ∧ Hid (rose.Own tokSh 125 wr w.heap.size (fun _ => False) v4 l ∧ Fine l ∧ l.length ≤ i ∧ Below w.heap.size w wr)) (fun _ v5 _ => s.size - (intOf v5).toNat)
    case atStart =>
      refine ⟨[], 0, Nat.zero_le _, rfl, ⟨fun _ => [], ⟨rfl, Or.inr ⟨w.heap.size, 0, #[], rfl, Nat.le_refl _, alloc_top _ _, Nat.le_refl _, Nat.zero_le _, rfl, rfl⟩⟩, fun i hi => absurd hi (Nat.not_lt_zero _)⟩, fun t ht => (by cases ht), Nat.le_refl _, (Below.refl _ _).alloc (Nat.le_refl _) _⟩
    case round =>
      obtain ⟨l, i, hi, rfl, HI⟩ := hrel
      have hwz : w.heap.size ≤ wr.heap.size := HI.out.2.2.2.size
      by_cases hlt : i < s.size
      · obtain ⟨y, hy⟩ : ∃ y : Int, y = s[i].toNat := ⟨_, rfl⟩
        have hiy := HIX.out i hlt
        rw [← hy] at hiy
        clear hy
        by_cases hblank : y = 32 ∨ y = 10
        · rcases hblank with rfl | rfl
          all_goals
            go_wp2
            go_round
            case rel => exact ⟨l, i + 1, by omega, by go_num, HI.out.1, HI.out.2.1, by have := HI.out.2.2.1; omega, HI.out.2.2.2⟩
            case measure => simp [intOf]; omega
        · have q1 : (y == 32) = false := by simp; exact fun e => hblank (.inl e)
          have q2 : (y == 10) = false := by simp; exact fun e => hblank (.inr e)
          clear hblank
          have hcall := one_any s i wr hs hlt
          go_wp2_with fail
          refine hcall.mono ?_
          rintro e w1 ⟨⟨k, n, to, t, ok, rfl, hok, hn, ht⟩, hb⟩
          have B1 : Hid (Below w.heap.size w w1) := HI.out.2.2.2.trans (hb.mono hwz)
          have O1 : Hid (rose.Own tokSh 125 w1 w.heap.size (fun _ => False) u4 l) := HI.out.1.on fun b hh => by
            rcases hh with hh | hh
            · exact hh.elim
            · exact hb.block b hh
          have hw1 : w.heap.size ≤ w1.heap.size := B1.out.size
          clear hcall hb
          cases ok with
          | false =>
            go_wp2
            go_ret2
            refine ⟨⟨_, i, [], rfl, by omega, by omega, nil_rep _ _ _ _ (Nat.zero_le _), fun h => absurd h (by omega)⟩, ?_⟩
            exact (B1.out.alloc hw1 _).alloc (by simp; omega) _
          | true =>
            obtain ⟨g1, g2, g3, g4, g5, g6, g7⟩ := hok rfl
            obtain ⟨j, rfl⟩ : ∃ j : Nat, to = (j : Int) := ⟨to.toNat, by omega⟩
            clear hok
            obtain ⟨Y, hY⟩ : ∃ Y, Y = (w1.alloc (.cells #[.int .i64 k, .string t, .int .i64 n, .int .i64 i] 125)).alloc (.cells #[.int .i64 k, .string t, .int .i64 n, .int .i64 i] 125) := ⟨_, rfl⟩
            have BY : Hid (Below w1.heap.size w1 Y) := by show Below _ _ _; rw [hY]; exact ((Below.refl _ _).alloc (Nat.le_refl _) _).alloc (by simp) _
            have OY := O1.out.on (w' := Y) fun b hh => by
              rcases hh with hh | hh
              · exact hh.elim
              · exact BY.out.block b hh
            obtain ⟨cs4, hrow4, hcr4⟩ := OY
            have HROW : Hid (Y.ownsRow w.heap.size 125 4 u4 l.length (flat cs4 l.length)) := hrow4
            have HCR : Hid (∀ q (h : q < l.length), tokSh.rep Y (fun _ => False) (cs4 q) l[q]) := hcr4
            have hnews := cells_newT (w1.alloc (.cells #[.int .i64 k, .string t, .int .i64 n, .int .i64 i] 125)) [.int .i64 k, .string t, .int .i64 n, .int .i64 i] 125 _ rfl
            rw [show (#[.int .i64 k, .string t, .int .i64 n, .int .i64 i] : Array Value) = [.int .i64 k, .string t, .int .i64 n, .int .i64 i].toArray from rfl] at hY
            rw [← hY, World.size_alloc] at hnews
            have HNEW : Hid _ := hnews
            have HYY : Hid (Y = (w1.alloc (.cells #[.int .i64 k, .string t, .int .i64 n, .int .i64 i] 125)).alloc (.cells #[.int .i64 k, .string t, .int .i64 n, .int .i64 i] 125)) := hY
            have hll : l.length ≤ 3000 := by have := HI.out.2.2.1; omega
            have hYz : w.heap.size ≤ Y.heap.size := Nat.le_trans hw1 BY.out.size
            clear hnews hrow4 hcr4 hY
            go_wp2_with (first
              | (at_builtin
                 rw [← HYY.out]
                 refine wpList_append_own_at _ rfl _ _ 115 rfl w.heap.size 125 ti _ 4 40 Tryz.underlying115 TI.out.1 TI.out.2.1 TI.out.2.2.1 TI.out.2.2.2 rfl (by decide) u4 l.length _ rfl HROW.out ⟨w1.heap.size + 1, 0, none⟩ 1 1 _ rfl rfl HNEW.out (by simp [Value.oneCell']) (by unfold maxLen; omega) (by omega) hYz ?_
                 intro v' w6 hown5 hgrow5 _ hat5)
              | go_in)
            have HO6 : Hid (rose.Own tokSh 125 w6 w.heap.size (fun _ => False) v' (l ++ [(k, t, n, (i : Int))])) := by
              have hrp : tokSh.rep Y (fun _ => False) [.int .i64 k, .string t, .int .i64 n, .int .i64 i] (k, t, n, (i : Int)) := tok_shut (by omega) (by unfold maxLen; omega) (by omega) (by omega)
              exact Own.more (A := tokSh) (xs := l) (ys := [(k, t, n, (i : Int))]) (css := cs4) (css2 := fun _ => [.int .i64 k, .string t, .int .i64 n, .int .i64 i]) HROW.out HCR.out
                (fun q hq => by have : q = 0 := by simp at hq; omega
                                subst this; exact hrp) (fun b hS => hS.elim) hYz (v' := v') (w' := w6) (by rw [show flat (fun _ => [Value.int .i64 k, .string t, .int .i64 n, .int .i64 i]) [(k, t, n, (i : Int))].length = [.int .i64 k, .string t, .int .i64 n, .int .i64 i] by simp [flat]]; exact hown5) hgrow5
            have HB6 : Hid (Below w.heap.size w w6) := (B1.out.trans (BY.out.mono hw1)).grown hgrow5 hYz fun q e => (World.ownsRow.lt HROW.out q e).1
            have HF6 : Hid (Fine (l ++ [(k, t, n, (i : Int))])) := fine_snoc HI.out.2.1 ⟨g3, g4, g5, by dsimp only; omega, by dsimp only; omega⟩
            clear hown5 hgrow5 hat5
            go_round
            case rel => exact ⟨l ++ [(k, t, n, (i : Int))], j, by omega, rfl, HO6.out, HF6.out, by have := HI.out.2.2.1; simp; omega, HB6.out⟩
            case measure => simp [intOf]; omega
      · obtain rfl : i = s.size := by omega
        obtain ⟨Y, hY⟩ : ∃ Y, Y = wr.alloc (.cells #[.int .i64 0, .string ⟨#[]⟩, .int .i64 0, .int .i64 s.size] 125) := ⟨_, rfl⟩
        have BY : Hid (Below wr.heap.size wr Y) := by show Below _ _ _; rw [hY]; exact (Below.refl _ _).alloc (Nat.le_refl _) _
        have OY := HI.out.1.on (w' := Y) fun b hh => by
          rcases hh with hh | hh
          · exact hh.elim
          · exact BY.out.block b hh
        obtain ⟨cs4, hrow4, hcr4⟩ := OY
        have HROW : Hid (Y.ownsRow w.heap.size 125 4 u4 l.length (flat cs4 l.length)) := hrow4
        have HCR : Hid (∀ q (h : q < l.length), tokSh.rep Y (fun _ => False) (cs4 q) l[q]) := hcr4
        have hnews := cells_newT wr [.int .i64 0, .string ⟨#[]⟩, .int .i64 0, .int .i64 s.size] 125 _ rfl
        rw [show (#[.int .i64 0, .string ⟨#[]⟩, .int .i64 0, .int .i64 s.size] : Array Value) = [.int .i64 0, .string ⟨#[]⟩, .int .i64 0, .int .i64 s.size].toArray from rfl] at hY
        rw [← hY] at hnews
        have HNEW : Hid _ := hnews
        have HYY : Hid (Y = wr.alloc (.cells #[.int .i64 0, .string ⟨#[]⟩, .int .i64 0, .int .i64 s.size] 125)) := hY
        have hll : l.length ≤ 3000 := by have := HI.out.2.2.1; omega
        have hYz : w.heap.size ≤ Y.heap.size := Nat.le_trans hwz BY.out.size
        clear hnews hrow4 hcr4 hY
        go_wp2_with (first
          | (at_builtin
             rw [← HYY.out]
             refine wpList_append_own_at _ rfl _ _ 115 rfl w.heap.size 125 ti _ 4 40 Tryz.underlying115 TI.out.1 TI.out.2.1 TI.out.2.2.1 TI.out.2.2.2 rfl (by decide) u4 l.length _ rfl HROW.out ⟨wr.heap.size, 0, none⟩ 1 1 _ rfl rfl HNEW.out (by simp [Value.oneCell']) (by unfold maxLen; omega) (by omega) hYz ?_
             intro v' w6 hown5 hgrow5 _ hat5)
          | go_in)
        have HO6 : Hid (rose.Own tokSh 125 w6 w.heap.size (fun _ => False) v' (l ++ [(0, ⟨#[]⟩, 0, (s.size : Int))])) := by
          have hrp : tokSh.rep Y (fun _ => False) [.int .i64 0, .string ⟨#[]⟩, .int .i64 0, .int .i64 s.size] (0, ⟨#[]⟩, 0, (s.size : Int)) := tok_shut (by omega) (Nat.zero_le _) (by omega) (by omega)
          exact Own.more (A := tokSh) (xs := l) (ys := [(0, ⟨#[]⟩, 0, (s.size : Int))]) (css := cs4) (css2 := fun _ => [.int .i64 0, .string ⟨#[]⟩, .int .i64 0, .int .i64 s.size]) HROW.out HCR.out
            (fun q hq => by have : q = 0 := by simp at hq; omega
                            subst this; exact hrp) (fun b hS => hS.elim) hYz (v' := v') (w' := w6) (by rw [show flat (fun _ => [Value.int .i64 0, .string ⟨#[]⟩, .int .i64 0, .int .i64 s.size]) [((0 : Int), (⟨#[]⟩ : ByteArray), (0 : Int), (s.size : Int))].length = [.int .i64 0, .string ⟨#[]⟩, .int .i64 0, .int .i64 s.size] by simp [flat]]; exact hown5) hgrow5
        have HB6 : Hid (Below w.heap.size w w6) := (HI.out.2.2.2.trans (BY.out.mono hwz)).grown hgrow5 hYz fun q e => (World.ownsRow.lt HROW.out q e).1
        have HF6 : Hid (Fine (l ++ [((0 : Int), (⟨#[]⟩ : ByteArray), (0 : Int), (s.size : Int))])) := fine_snoc HI.out.2.1 ⟨Nat.zero_le _, by dsimp only; omega, by dsimp only; omega, by dsimp only; omega, by dsimp only; omega⟩
        clear hown5 hgrow5 hat5
        go_ret2
        refine ⟨⟨v', -1, _, rfl, by decide, by decide, tokSh.slice.mono (HO6.out.slice (by decide)) fun b hb => hb.resolve_left (fun h => h.elim), fun _ => ⟨HF6.out, by simp; omega, l, _, rfl, rfl⟩⟩, HB6.out⟩

end Go.Proofs.YtpdmdcoaaboikaaGreatDoor.tok
