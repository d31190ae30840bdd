/-
  The program's FunsOf, at all bytes; nothing that was there is turned.
-/
import Derived.Test.YtlfchmmkaflglaaDoorTakeFuns
import Derived.Test.YtlfchmmkaflglaaDoorFunsImpl
namespace Go.Proofs.YtlfchmmkaflglaaDoor.fun
open Go Go.RowKit Go.Proofs.YtlfchmmkaflglaaDoor.rose Go.Proofs.YtlfchmmkaflglaaDoor Go.Proofs.YtlfchmmkaflglaaDoor.byts
set_option linter.unusedVariables false
set_option linter.unusedSimpArgs false

theorem wts_few (c : Nat) : ∀ ks : List FunD, (∀ k ∈ ks, k.2.length ≤ c) → wts ks ≤ c * ks.length
  | [], _ => by simp [wts]
  | k :: ks, h => by
    have h1 := h k (List.mem_cons_self ..)
    have h2 := wts_few c ks fun y hy => h y (List.mem_cons_of_mem _ hy)
    have h3 : wt k = k.2.length := rfl
    rw [wts, List.length_cons, Nat.mul_succ, h3]
    omega
theorem nil_rep (w : World) (X : Nat → Prop) : funSp.sslice.rep w X [.slice none 0 0] [] :=
  ⟨none, 0, fun _ => [], fun _ _ => False, rfl, Nat.le_refl _, Nat.zero_le _, fun _ => rfl, fun h => absurd h (Nat.lt_irrefl _), fun i hi => absurd hi (Nat.not_lt_zero _), fun i j hi => absurd hi (Nat.not_lt_zero _), fun i hi => absurd hi (Nat.not_lt_zero _)⟩

set_option maxRecDepth 100000 in
set_option maxHeartbeats 8000000 in
theorem implFunsOf (b : List Int) (v : Value) (w : World) (hl : b.length ≤ 1048576) (hN : Names w) (h : bytesSh.rep w (· < w.heap.size) [v] b) :
    Calls Tryd.prog 16 #[v] w fun e w' => (∃ v', e = .returned (.tuple #[v', .bool (funsOfB b).2]) ∧ funSp.sslice.rep w' (fun q => w.heap.size ≤ q ∧ q < w'.heap.size) [v'] (funsOfB b).1) ∧ Below w.heap.size w w' := by
  obtain ⟨a, cap, hv⟩ : ∃ a c, v = .slice a b.length c := by obtain ⟨a, c, e⟩ := slice_cells h; simp only [List.cons.injEq, and_true] at e; exact ⟨a, c, e⟩
  subst hv
  obtain ⟨W1, hW1⟩ : ∃ W1, W1 = w.alloc (.cells #[.int .i64 0] 3) := ⟨_, rfl⟩
  have hB1 : Below w.heap.size w W1 := by rw [hW1]; exact (Below.refl _ _).alloc (Nat.le_refl _) _
  have hM1 : Cell W1 w.heap.size 0 (.int .i64 0) := by rw [hW1]; exact Cell.new w _ #[.int .i64 0] 0 _ rfl
  have hs1 : W1.heap.size = w.heap.size + 1 := by rw [hW1]; simp
  have hcall := takeFuns_any b (.slice a b.length cap) w.heap.size W1 hl (bytesSh.mono (bytesSh.below h hB1) fun k hk => ⟨by omega, Nat.ne_of_lt hk⟩) hM1
  have HW1 : Hid (W1 = w.alloc (.cells #[.int .i64 0] 3)) := hW1
  have HTH : Hid (∀ w1, Wg (One w.heap.size) W1 w1 → Below w.heap.size w w1) := fun w1 hw => hB1.trans (hw.below (fun k o hk e => by have := e.1; omega) (by omega))
  have NS : Hid (Names w) := hN
  obtain ⟨r, hr⟩ : ∃ r, r = funsOfB b := ⟨_, rfl⟩
  rw [← hr]
  have HR : Hid (r = funsOfB b) := hr
  clear h hW1 hB1 hM1 hr hN
  go_enter Tryd.func16, Tryd.ntmps16
  go_wp2_with fail
  rw [← HW1.out]
  refine hcall.mono ?_
  rintro e w1 ⟨k, vl, rfl, hG⟩
  have B1 : Hid (Below w.heap.size w w1) := HTH.out w1 hG.old
  cases k with
  | false =>
    have HF : Hid (r = ([], false)) := by
      show _ = _
      rw [HR.out]; unfold funsOfB
      rcases hG.no rfl with q | q
      · rw [q]; simp
      · rw [q]; simp
    clear hG hcall
    go_wp2
    go_ret2
    rw [HF.out]
    exact ⟨⟨_, rfl, nil_rep _ _⟩, B1.out⟩
  | true =>
    obtain ⟨y1, y2, y3, y4, y5, y6⟩ := hG.yes rfl
    obtain ⟨xs, p, ok, hA⟩ : ∃ x y z, allS b = (x, y, z) := ⟨_, _, _, rfl⟩
    rw [hA] at y1 y2 y3 y4 y5 y6
    dsimp only at y1 y2 y3 y4 y5 y6
    subst y1
    obtain ⟨a5, c5, hvl⟩ := y4.slice
    subst hvl
    have c0 : w1.cell? ⟨w.heap.size, 0, none⟩ = some (.int .i64 (p : Nat)) := y3.cell
    have hsl := y4.sslice (by decide)
    have hW1s : w.heap.size ≤ W1.heap.size := by omega
    have HSL : Hid (funSp.sslice.rep w1 (fun q => w.heap.size ≤ q ∧ q < w1.heap.size) [.slice a5 xs.length c5] xs) := funSp.sslice.mono hsl fun q hq => ⟨by omega, hq.2⟩
    have hwt := wts_few 3000 xs y6
    have hcall2 := implFunsOk xs (.slice a5 xs.length c5) w1 (by omega) (NS.out.on B1.out) (funSh.slice.mono (funps_rep HSL.out) fun q hq => hq.2)
    have hxl : (xs.length : Int) ≤ 60 := by omega
    clear hG hcall hsl y3 y4 y6 hwt hs1
    by_cases hpb : p = b.length
    · have hpe : ((p : Int) != (b.length : Int)) = false := by simp; omega
      have HRE : Hid (r = if funsB xs then (xs, true) else ([], false)) := by show _ = _; rw [HR.out]; unfold funsOfB; rw [hA]; simp [hpb]
      rcases q4 : funsB xs with _ | _
      · have HF : Hid (r = ([], false)) := by show _ = _; rw [HRE.out, q4]; rfl
        rw [q4] at hcall2
        clear q4 hA HRE
        go_wp2_with fail
        refine hcall2.mono ?_
        rintro e w4 ⟨rfl, hb4⟩
        have B4 : Hid (Below w.heap.size w w4) := B1.out.trans (hb4.mono B1.out.size)
        clear hcall2 hb4 c0
        go_wp2
        go_ret2
        rw [HF.out]
        exact ⟨⟨_, rfl, nil_rep _ _⟩, B4.out⟩
      · have HF : Hid (r = (xs, true)) := by show _ = _; rw [HRE.out, q4]; rfl
        rw [q4] at hcall2
        clear q4 hA HRE
        go_wp2_with fail
        refine hcall2.mono ?_
        rintro e w4 ⟨rfl, hb4⟩
        have B4 : Hid (Below w.heap.size w w4) := B1.out.trans (hb4.mono B1.out.size)
        have R4 : Hid (funSp.sslice.rep w4 (fun q => w.heap.size ≤ q ∧ q < w4.heap.size) [.slice a5 xs.length c5] xs) := funSp.sslice.mono (funSp.sslice.on HSL.out fun q hq => hb4.block q hq.2) fun q hq => ⟨hq.1, Nat.lt_of_lt_of_le hq.2 hb4.size⟩
        clear hcall2 hb4 c0
        go_wp2
        go_ret2
        rw [HF.out]
        exact ⟨⟨_, rfl, R4.out⟩, B4.out⟩
    · have hpe : ((p : Int) != (b.length : Int)) = true := by simp; omega
      have HF : Hid (r = ([], false)) := by show _ = _; rw [HR.out]; unfold funsOfB; rw [hA]; simp [hpb]
      clear hA hcall2
      go_wp2
      go_ret2
      rw [HF.out]
      exact ⟨⟨_, rfl, nil_rep _ _⟩, B1.out⟩

end Go.Proofs.YtlfchmmkaflglaaDoor.fun
