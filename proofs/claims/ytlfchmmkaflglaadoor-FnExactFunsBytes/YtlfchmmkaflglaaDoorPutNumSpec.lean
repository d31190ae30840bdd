/-
  The model's PutNum, at every number; nothing that was there is turned.
-/
import Derived.Test.YtlfchmmkaflglaaDoorNumBytes
import Derived.Test.YtlfchmmkaflglaaDoorByteRows
import Derived.Test.YtlfchmmkaflglaaDoorSpecIn
import Derived.Test.YtlfchmmkaflglaaDoorRowSet
import Derived.Maps.AppendAt
import Derived.WalkSmall
namespace Go.Proofs.YtlfchmmkaflglaaDoor.byts
open Go Go.RowKit Go.Proofs.YtlfchmmkaflglaaDoor.rose Go.Proofs.YtlfchmmkaflglaaDoor Go.Proofs.YtlfchmmkaflglaaDoor.fun
set_option linter.unusedVariables false
set_option linter.unusedSimpArgs false

theorem brow_lit (w : World) {base : Nat} (h : base ≤ w.heap.size) : BRow (w.alloc (.cells #[] 5)) base (.slice (some ⟨w.heap.size, 0, none⟩) 0 0) [] :=
  ⟨World.ownsRow_lit w #[] 0 h (Nat.zero_le _) rfl, fun x hx => by cases hx⟩
theorem brow_one {w : World} {base : Nat} {a : Option Addr} {c : Nat} {l : List Int} {x : Int} (h : w.ownsRow base 5 1 (.slice a (l.length + 1) c) (l.length + 1) (l.map (Value.int .u8) ++ [.int .u8 x])) (hl : ∀ y ∈ l, InB8 y) (hx : InB8 x) : BRow w base (.slice a (l.length + 1) c) (l ++ [x]) := by
  refine ⟨by rw [List.length_append, List.length_singleton, List.map_append]; exact h, fun y hy => ?_⟩
  rcases List.mem_append.1 hy with hy | hy
  · exact hl y hy
  · simp only [List.mem_singleton] at hy; subst hy; exact hx

set_option maxRecDepth 100000 in
set_option maxHeartbeats 4000000 in
theorem specPutNum (n : Int) (w : World) (h1 : -9223372036854775808 ≤ n) (h2 : n ≤ 9223372036854775807) :
    Calls Tryd.prog 20 #[.int .i64 n] w fun e w' => (∃ v', e = .returned v' ∧ BRow w' w.heap.size v' (putB n)) ∧ Below w.heap.size w w' := by
  obtain ⟨ti, hti, hz0, hz1, hz2⟩ := byte_info
  have TI : Hid (Tryd.prog.info? 5 = some ti ∧ ti.zero = some (.int .u8 0) ∧ ti.size = 1 ∧ ti.bytes = 1) := ⟨hti, hz0, hz1, hz2⟩
  clear hti hz0 hz1 hz2
  rcases q0 : inB n 0 2147483647 with _ | _
  · have HQ : Hid (putB n = []) := by show _ = _; unfold putB; rw [q0]; rfl
    go_enter Tryd.func20, Tryd.ntmps20
    go_wp2_with (go_at_call 30; refine (in_is q0).mono ?_; rintro e w' ⟨rfl, hx⟩; subst w')
    go_ret
    rw [HQ.out]
    exact ⟨⟨_, rfl, brow_lit w (Nat.le_refl _)⟩, (Below.refl _ _).alloc (Nat.le_refl _) _⟩
  · have q1 := inB_yes q0
    obtain ⟨m, rfl⟩ : ∃ m : Nat, n = m := ⟨n.toNat, by omega⟩
    have HQ : Hid (putB m = vint m) := by show _ = _; unfold putB; rw [q0]; simp
    have hm : m ≤ 2147483647 := by omega
    go_enter Tryd.func20, Tryd.ntmps20
    go_wp2_with (go_at_call 30; refine (in_is q0).mono ?_; rintro e w' ⟨rfl, hx⟩; subst w')
    clear q0 q1 h1 h2
    go_loopw [0, 3] (fun v0 v3 wr => ∃ (k : Nat) (l : List Int) (av : Option Addr) (cv : Nat), k ≤ 2147483647 ∧ v0 = .int .i64 k ∧ v3 = .slice av l.length cv ∧ Hid (BRow wr w.heap.size (.slice av l.length cv) l ∧ l ++ vint k = vint m ∧ l.length ≤ 5 ∧ Below w.heap.size w wr)) (fun v0 _ _ => (intOf v0).toNat)
    case atStart => exact ⟨m, [], _, _, hm, rfl, rfl, brow_lit w (Nat.le_refl _), rfl, by simp, (Below.refl _ _).alloc (Nat.le_refl _) _⟩
    case round =>
      obtain ⟨k, l, av, cv, hk, rfl, rfl, HK⟩ := hrel
      have hl : l.length ≤ 5 := HK.out.2.2.1
      have HZ : Hid (w.heap.size ≤ wr.heap.size) := HK.out.2.2.2.size
      have HO : Hid (∀ g, (Value.slice av l.length cv).ownBlock = some g → w.heap.size ≤ g ∧ g < wr.heap.size) := fun g hg => HK.out.1.lt g hg
      by_cases h7 : 127 < k
      · have t1 : decide ((127 : Int) < (k : Int)) = true := by simp; omega
        have RD : Hid (∀ X, (wr.alloc X).ownsRow w.heap.size 5 1 (.slice av l.length cv) l.length (l.map (Value.int .u8))) := fun X => (HK.out.1.keep ((Below.refl _ _).alloc (Nat.le_refl _) X)).1
        obtain ⟨r, hr⟩ : ∃ r : Nat, r = k % 128 := ⟨_, rfl⟩
        have hr1 : (k : Int) % 128 = (r : Int) := by omega
        have hr2 : r < 128 := by omega
        have hq1 : IntKind.i64.wrap (Int.tdiv (k : Int) 128) = ((k / 128 : Nat) : Int) := by rw [IntWalk.i64_quo _ _ (by omega)]; omega
        have HR : Hid (r = k % 128) := hr
        clear hr
        go_wp2_with (first
          | (at_builtin; refine wpList_append_own_at _ rfl (.tmp 11) (.tmp 16) 24 rfl w.heap.size 5 ti _ 1 1 Tryd.underlying24 TI.out.1 TI.out.2.1 TI.out.2.2.1 TI.out.2.2.2 rfl (by decide) (.slice av l.length cv) _ _ rfl (RD.out _) ⟨wr.heap.size, 0, none⟩ 1 1 [.int .u8 ((r : Int) + 128)] rfl rfl (new_cell _ _ _) (by simp; rfl) (by unfold maxLen; omega) (by omega) (by have := HZ.out; simp; omega) ?_; intro v4 w4 o4 g4 n4 a4; obtain ⟨a5, c5, rfl⟩ := own_form o4))
        have B4 : Below w.heap.size w w4 := (HK.out.2.2.2.alloc HZ.out _).grown g4 (by have := HZ.out; simp; omega) (fun g hg => (HO.out g hg).1)
        have NX : Hid (BRow w4 w.heap.size (.slice a5 (l ++ [(r : Int) + 128]).length c5) (l ++ [(r : Int) + 128]) ∧ (l ++ [(r : Int) + 128]) ++ vint (k / 128) = vint m ∧ (l ++ [(r : Int) + 128]).length ≤ 5 ∧ Below w.heap.size w w4) := by
          have he : (l ++ [(r : Int) + 128]) ++ vint (k / 128) = vint m := by
            have h1 := HK.out.2.1
            rw [vint_more h7] at h1
            rw [List.append_assoc, ← h1, HR.out]
            simp
          refine ⟨by rw [List.length_append, List.length_singleton]; exact brow_one o4 HK.out.1.2 ⟨by omega, by omega⟩, he, ?_, B4⟩
          have h2 := congrArg List.length he
          have h3 := vint_pos (k / 128)
          have h4 := vint_len (n := m) (k := 5) (by omega) (by omega)
          rw [List.length_append] at h2
          omega
        go_round
        case rel => exact ⟨k / 128, l ++ [(r : Int) + 128], a5, c5, by omega, by go_num, by simp, NX⟩
        case measure => simp [intOf]; omega
      · have t1 : decide ((127 : Int) < (k : Int)) = false := by simp; omega
        have hk7 : k ≤ 127 := by omega
        have RD : Hid (∀ X, (wr.alloc X).ownsRow w.heap.size 5 1 (.slice av l.length cv) l.length (l.map (Value.int .u8))) := fun X => (HK.out.1.keep ((Below.refl _ _).alloc (Nat.le_refl _) X)).1
        go_wp2_with (first
          | (at_builtin; refine wpList_append_own_at _ rfl (.tmp 20) (.tmp 23) 24 rfl w.heap.size 5 ti _ 1 1 Tryd.underlying24 TI.out.1 TI.out.2.1 TI.out.2.2.1 TI.out.2.2.2 rfl (by decide) (.slice av l.length cv) _ _ rfl (RD.out _) ⟨wr.heap.size, 0, none⟩ 1 1 [.int .u8 (k : Int)] rfl rfl (new_cell _ _ _) (by simp; rfl) (by unfold maxLen; omega) (by omega) (by have := HZ.out; simp; omega) ?_; intro v4 w4 o4 g4 n4 a4; obtain ⟨a5, c5, rfl⟩ := own_form o4))
        go_ret
        have B4 : Below w.heap.size w w4 := (HK.out.2.2.2.alloc HZ.out _).grown g4 (by have := HZ.out; simp; omega) (fun g hg => (HO.out g hg).1)
        have he : l ++ [(k : Int)] = putB m := by rw [HQ.out, ← HK.out.2.1, vint_small hk7]
        rw [← he]
        exact ⟨⟨_, rfl, brow_one o4 HK.out.1.2 ⟨by omega, by omega⟩⟩, B4⟩

end Go.Proofs.YtlfchmmkaflglaaDoor.byts
