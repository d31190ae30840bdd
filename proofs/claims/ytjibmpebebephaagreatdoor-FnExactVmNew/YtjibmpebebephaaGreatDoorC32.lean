/-
  The program's valuesBehind, at every place that is right.
  A scope whose run jumps to two labels; what is known at every jump, and a number that falls. No program named.
-/
import Derived.WalkSmall
import Derived.Test.YtjibmpebebephaaGreatDoorChecked
import Derived.ScopeJumps
import Derived.WalkMore
import Derived.Test.YtjibmpebebephaaGreatDoorC1
import Derived.Test.YtjibmpebebephaaGreatDoorC2
import Derived.Test.YtjibmpebebephaaGreatDoorC3
import Derived.Test.YtjibmpebebephaaGreatDoorC4
import Derived.Test.YtjibmpebebephaaGreatDoorC5
import Derived.Test.YtjibmpebebephaaGreatDoorC6
import Derived.Test.YtjibmpebebephaaGreatDoorC7
import Derived.Test.YtjibmpebebephaaGreatDoorC8
import Derived.Test.YtjibmpebebephaaGreatDoorC9
import Derived.Test.YtjibmpebebephaaGreatDoorC10
import Derived.Test.YtjibmpebebephaaGreatDoorC11
import Derived.Test.YtjibmpebebephaaGreatDoorC12
import Derived.Test.YtjibmpebebephaaGreatDoorC13
import Derived.Test.YtjibmpebebephaaGreatDoorC14
import Derived.Test.YtjibmpebebephaaGreatDoorC15
import Derived.Test.YtjibmpebebephaaGreatDoorC16
import Derived.Test.YtjibmpebebephaaGreatDoorC17
import Derived.Test.YtjibmpebebephaaGreatDoorC18
import Derived.Test.YtjibmpebebephaaGreatDoorC19
import Derived.Test.YtjibmpebebephaaGreatDoorC20
import Derived.Test.YtjibmpebebephaaGreatDoorC21
import Derived.Test.YtjibmpebebephaaGreatDoorC22
import Derived.Test.YtjibmpebebephaaGreatDoorC23
import Derived.Test.YtjibmpebebephaaGreatDoorC24
import Derived.Test.YtjibmpebebephaaGreatDoorC25
import Derived.Test.YtjibmpebebephaaGreatDoorC26
import Derived.Test.YtjibmpebebephaaGreatDoorC27
import Derived.Test.YtjibmpebebephaaGreatDoorC28
import Derived.Test.YtjibmpebebephaaGreatDoorC29
import Derived.Test.YtjibmpebebephaaGreatDoorC30
import Derived.Test.YtjibmpebebephaaGreatDoorC31
namespace Go.Proofs.YtjibmpebebephaaGreatDoor.fun
open Go Go.RowKit Go.Proofs.YtjibmpebebephaaGreatDoor.rose Go.Proofs.YtjibmpebebephaaGreatDoor
set_option linter.unusedVariables false
set_option linter.unusedSimpArgs false

/-- What is behind a place: so many, and whether that may be. -/
def behindB (o : op.OpD) (d : Int) : Bool := fineB o d && decide (nextD o d ≤ 60)
theorem fine_of {c n m d : Int} : fineB (c, n, m) d = (decide (takesB c m < d) && !(decide (c = 2) && decide (d ≤ n)) && !(decide (c = 7) && !decide (d = 2))) := rfl

set_option maxRecDepth 100000 in
set_option maxHeartbeats 8000000 in
theorem valuesBehind_any (c n m d : Int) (w : World) (h0 : 1 ≤ d ∧ d ≤ 60) (htk : 0 ≤ takesB c m ∧ takesB c m ≤ 20) :
    Calls Tryz.prog 101 #[.agg #[.int .i64 c, .int .i64 n, .int .i64 m], .int .i64 d] w fun e w' => (∃ y, e = .returned (.tuple #[.int .i64 y, .bool (behindB (c, n, m) d)]) ∧ (fineB (c, n, m) d = true → y = nextD (c, n, m) d)) ∧ Below w.heap.size w w' := by
  obtain ⟨k, hk⟩ : ∃ k, k = takesB c m := ⟨_, rfl⟩
  obtain ⟨p, hpu⟩ : ∃ p, p = putsB c := ⟨_, rfl⟩
  have pb : 0 ≤ p ∧ p ≤ 1 := by rw [hpu]; exact puts_pos c
  rw [← hk] at htk
  have HK : Hid (takesB c m = k ∧ putsB c = p) := ⟨hk.symm, hpu.symm⟩
  have BA : Below w.heap.size w (w.alloc (.cells #[.int .i64 c, .int .i64 n, .int .i64 m] 90)) := (Below.refl _ _).alloc (Nat.le_refl _) _
  have hcall := implEffect c n m (w.alloc (.cells #[.int .i64 c, .int .i64 n, .int .i64 m] 90))
  rw [HK.out.1, HK.out.2] at hcall
  have HBA : Hid (Below w.heap.size w (w.alloc (.cells #[.int .i64 c, .int .i64 n, .int .i64 m] 90))) := BA
  have FT : Hid (fineB (c, n, m) d = (decide (k < d) && !(decide (c = 2) && decide (d ≤ n)) && !(decide (c = 7) && !decide (d = 2)))) := by show _ = _; rw [fine_of, HK.out.1]
  have NX : Hid (nextD (c, n, m) d = d - k + p) := by show d - takesB c m + putsB c = _; rw [HK.out.1, HK.out.2]
  have BF : Hid (fineB (c, n, m) d = false → behindB (c, n, m) d = false) := fun h => by unfold behindB; rw [h]; rfl
  have BT : Hid (fineB (c, n, m) d = true → behindB (c, n, m) d = decide (d - k + p ≤ 60)) := fun h => by unfold behindB; rw [h, NX.out]; rfl
  obtain ⟨r, hr⟩ : ∃ r, r = behindB (c, n, m) d := ⟨_, rfl⟩
  have HR : Hid (r = behindB (c, n, m) d) := hr
  obtain ⟨f, hf⟩ : ∃ f, f = fineB (c, n, m) d := ⟨_, rfl⟩
  have HFI : Hid (f = fineB (c, n, m) d) := hf
  rw [← hr, ← hf]
  obtain ⟨x, hx⟩ : ∃ x, x = nextD (c, n, m) d := ⟨_, rfl⟩
  have HX : Hid (x = d - k + p) := by show _ = _; rw [hx, NX.out]
  rw [← hx]
  clear hk hpu BA hr hf hx
  go_enter Tryz.func101, Tryz.ntmps101
  go_wp2_with fail
  refine hcall.mono ?_
  rintro e w1 ⟨rfl, hb⟩
  have B1 : Hid (Below w.heap.size w w1) := HBA.out.trans (hb.mono HBA.out.size)
  have z1 : w.heap.size < (w.alloc (.cells #[.int .i64 c, .int .i64 n, .int .i64 m] 90)).heap.size := by simp
  have x0 : w1.cell? ⟨w.heap.size, 0, none⟩ = some (.int .i64 c) := (hb.cell (p := ⟨w.heap.size, 0, none⟩) z1).trans (by simp)
  have x1 : w1.cell? ⟨w.heap.size, 1, none⟩ = some (.int .i64 n) := (hb.cell (p := ⟨w.heap.size, 1, none⟩) z1).trans (by simp)
  clear hcall hb z1 HBA
  by_cases hk1 : d - 1 < k
  · have t0 : decide (d - 1 < k) = true := by simpa using hk1
    have HF : Hid (fineB (c, n, m) d = false) := by show _ = _; rw [FT.out, show decide (k < d) = false by simp; omega]; rfl
    go_wp2
    go_ret2
    exact ⟨⟨0, by show Ending.returned (.tuple #[.int .i64 0, .bool false]) = _; rw [HR.out, BF.out HF.out], fun h => by rw [HFI.out, HF.out] at h; cases h⟩, B1.out⟩
  · have t0 : decide (d - 1 < k) = false := by simpa using hk1
    have FK : Hid (decide (k < d) = true) := by show _ = _; simp; omega
    have db : d - k + p ≤ 100 ∧ 1 ≤ d - k + p := by omega
    have eX : d + (p - k) = d - k + p := by omega
    clear hk1
    by_cases hc2 : c = 2
    · subst hc2
      by_cases hn : d ≤ n
      · have t1 : decide (d ≤ n) = true := by simpa using hn
        have HF : Hid (fineB (2, n, m) d = false) := by show _ = _; rw [FT.out, t1]; simp
        go_wp2
        go_ret2
        exact ⟨⟨0, by show Ending.returned (.tuple #[.int .i64 0, .bool false]) = _; rw [HR.out, BF.out HF.out], fun h => by rw [HFI.out, HF.out] at h; cases h⟩, B1.out⟩
      · have t1 : decide (d ≤ n) = false := by simpa using hn
        have HF : Hid (fineB (2, n, m) d = true) := by show _ = _; rw [FT.out, FK.out]; rw [t1]; simp
        go_wp2
        go_ret2
        exact ⟨⟨d - k + p, by show Ending.returned (.tuple #[.int .i64 (d - k + p), .bool (decide (d - k + p ≤ 60))]) = _; rw [HR.out, BT.out HF.out], fun h => HX.out.symm⟩, B1.out⟩
    · have n2 : (c == 2) = false := by simpa using hc2
      by_cases hc7 : c = 7
      · subst hc7
        by_cases hd2 : d = 2
        · subst hd2
          have t0' : decide ((1 : Int) < k) = false := by simpa using t0
          have HF : Hid (fineB (7, n, m) 2 = true) := by show _ = _; rw [FT.out, FK.out]; simp
          go_wp2
          go_ret2
          exact ⟨⟨2 - k + p, by show Ending.returned (.tuple #[.int .i64 (2 - k + p), .bool (decide (2 - k + p ≤ 60))]) = _; rw [HR.out, BT.out HF.out], fun h => HX.out.symm⟩, B1.out⟩
        · have t2 : (d != 2) = true := by simpa using hd2
          have HF : Hid (fineB (7, n, m) d = false) := by show _ = _; rw [FT.out]; simp [hd2]
          go_wp2
          go_ret2
          exact ⟨⟨0, by show Ending.returned (.tuple #[.int .i64 0, .bool false]) = _; rw [HR.out, BF.out HF.out], fun h => by rw [HFI.out, HF.out] at h; cases h⟩, B1.out⟩
      · have n7 : (c == 7) = false := by simpa using hc7
        have HF : Hid (fineB (c, n, m) d = true) := by show _ = _; rw [FT.out, FK.out]; simp [hc2, hc7]
        go_wp2
        go_ret2
        exact ⟨⟨d - k + p, by show Ending.returned (.tuple #[.int .i64 (d - k + p), .bool (decide (d - k + p ≤ 60))]) = _; rw [HR.out, BT.out HF.out], fun h => HX.out.symm⟩, B1.out⟩

end Go.Proofs.YtjibmpebebephaaGreatDoor.fun

namespace Go.Proofs.YtjibmpebebephaaGreatDoor.rose
open Go
set_option linter.unusedVariables false

/-- As Q; by a goto to a label l: J l. -/
def jumps (J : Nat → Act → World → Prop) (Q : Exit → Act → World → Prop) : Exit → Act → World → Prop
  | .goto l, a, w => J l a w
  | e, a, w => Q e a w

section
variable {P : Program} {a : Act} {w : World} {Q : Exit → Act → World → Prop}

theorem wp_turn {c : Code} {Q Q' : Exit → Act → World → Prop} (h : c.wp P Q a w) (hq : ∀ e a w, Q e a w → Q' e a w) : c.wp P Q' a w := fun b k cs => by
  obtain ⟨e, a₁, w₁, h1, h2⟩ := h b k cs
  exact ⟨e, a₁, w₁, hq _ _ _ h1, h2⟩

theorem wp_scope_ghost {c : Code} (J : Nat → Nat → Act → World → Prop)
    (first : c.wp P (jumps (fun l a' w' => ∃ n, J n l a' w') Q) a w)
    (pass : ∀ n l a w, J n l a w → ∃ rest, findLabel c l = some rest ∧ rest.wp P (jumps (fun l' a' w' => ∃ n', n' < n ∧ J n' l' a' w') Q) a w) : (Code.scope c).wp P Q a w := by
  intro b k cs
  have key : ∀ n l a w, J n l a w → ∃ rest, findLabel c l = some rest ∧ ∃ e a' w', Q e a' w' ∧ Arrives P (lone (b.at a (.code rest :: .inScope c :: k)) cs w) b k cs e a' w' := by
    intro n
    induction n using Nat.strongRecOn with
    | _ n ih =>
      intro l a w hJ
      obtain ⟨rest, hf, hp⟩ := pass n l a w hJ
      refine ⟨rest, hf, ?_⟩
      obtain ⟨e, a₁, w₁, hq, harr⟩ := hp b (.inScope c :: k) cs
      cases e with
      | normal => exact ⟨.normal, a₁, w₁, hq, Steps.trans harr (.one step_inScope)⟩
      | exit id => exact ⟨.exit id, a₁, w₁, hq, fun k' hk => harr k' (by simp [exitTo, hk])⟩
      | goto l' =>
        obtain ⟨n', hlt, hJ'⟩ := hq
        obtain ⟨rest', hf', e₂, a₂, w₂, hq₂, harr₂⟩ := ih n' hlt l' a₁ w₁ hJ'
        have hg : gotoIn l' (.inScope c :: k) = some (.code rest' :: .inScope c :: k) := by simp [gotoIn, hf']
        exact ⟨e₂, a₂, w₂, hq₂, .of_steps (harr _ hg) harr₂⟩
      | ret => exact ⟨_, a₁, w₁, hq, harr⟩
      | panic ch => exact ⟨_, a₁, w₁, hq, harr⟩
      | outgrown => exact ⟨_, a₁, w₁, hq, harr⟩
  obtain ⟨e, a₁, w₁, hq, harr⟩ := first b (.inScope c :: k) cs
  cases e with
  | normal => exact ⟨.normal, a₁, w₁, hq, .head step_scope (Steps.trans harr (.one step_inScope))⟩
  | exit id => exact ⟨.exit id, a₁, w₁, hq, fun k' hk => .head step_scope (harr k' (by simp [exitTo, hk]))⟩
  | goto l' =>
    obtain ⟨n, hJ'⟩ := hq
    obtain ⟨rest', hf', e₂, a₂, w₂, hq₂, harr₂⟩ := key n l' a₁ w₁ hJ'
    have hg : gotoIn l' (.inScope c :: k) = some (.code rest' :: .inScope c :: k) := by simp [gotoIn, hf']
    exact ⟨e₂, a₂, w₂, hq₂, .of_steps (.head step_scope (harr _ hg)) harr₂⟩
  | ret => exact ⟨_, a₁, w₁, hq, .of_steps (.one step_scope) harr⟩
  | panic ch => exact ⟨_, a₁, w₁, hq, .of_steps (.one step_scope) harr⟩
  | outgrown => exact ⟨_, a₁, w₁, hq, .of_steps (.one step_scope) harr⟩

/-- Two labels, 1 and 0; the first run comes to label 1 by itself. -/
theorem wp_scope_two {c X1 X0 : Code} (J1 J0 : Nat → Act → World → Prop) (h1 : findLabel c 1 = some (.seq .skip X1)) (h0 : findLabel c 0 = some (.seq .skip X0))
    (meet : ∀ n a w, J1 n a w → X1.wp P (jumps (fun l' a' w' => ∃ n', n' < n ∧ ((l' = 1 ∧ J1 n' a' w') ∨ (l' = 0 ∧ J0 n' a' w'))) Q) a w)
    (turn : ∀ n a w, J0 n a w → X0.wp P (jumps (fun l' a' w' => ∃ n', n' < n ∧ ((l' = 1 ∧ J1 n' a' w') ∨ (l' = 0 ∧ J0 n' a' w'))) Q) a w)
    (first : (∀ n a w, J1 n a w → X1.wp P (jumps (fun l' a' w' => ∃ n, (l' = 1 ∧ J1 n a' w') ∨ (l' = 0 ∧ J0 n a' w')) Q) a w) → c.wp P (jumps (fun l' a' w' => ∃ n, (l' = 1 ∧ J1 n a' w') ∨ (l' = 0 ∧ J0 n a' w')) Q) a w) : (Code.scope c).wp P Q a w := by
  refine wp_scope_ghost (fun n l a w => (l = 1 ∧ J1 n a w) ∨ (l = 0 ∧ J0 n a w)) (first fun n a w hJ => wp_turn (meet n a w hJ) fun e a w hq => ?_) fun n l a w hJ => ?_
  · cases e with
    | goto l => obtain ⟨n', -, hn⟩ := hq; exact ⟨n', hn⟩
    | _ => exact hq
  · rcases hJ with ⟨rfl, hJ⟩ | ⟨rfl, hJ⟩
    · exact ⟨_, h1, wp_seq (wp_skip (meet n a w hJ))⟩
    · exact ⟨_, h0, wp_seq (wp_skip (turn n a w hJ))⟩
end
end Go.Proofs.YtjibmpebebephaaGreatDoor.rose
