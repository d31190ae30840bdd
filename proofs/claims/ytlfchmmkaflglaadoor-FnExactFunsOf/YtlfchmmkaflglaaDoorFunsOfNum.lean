/-
  The model's l16Num: a number is taken off the bytes; nothing but the cursor is turned.
-/
import Derived.Test.YtlfchmmkaflglaaDoorFunsOfDefs
import Derived.Deep.RegionWith
import Derived.WalkSmall
namespace Go.Proofs.YtlfchmmkaflglaaDoor.fun
open Go Go.RowKit Go.Proofs.YtlfchmmkaflglaaDoor.rose Go.Proofs.YtlfchmmkaflglaaDoor Go.Proofs.YtlfchmmkaflglaaDoor.byts
set_option linter.unusedVariables false
set_option linter.unusedSimpArgs false

/-- The cursor's block. -/
def CB (w : World) (cb : Nat) (v : Value) (p : Nat) (ok : Bool) : Prop := w.heap[cb]? = some (.cells #[v, .int .i64 p, .bool ok] 54)
theorem CB.lt {w : World} {cb : Nat} {v : Value} {p : Nat} {ok : Bool} (h : CB w cb v p ok) : cb < w.heap.size := (Array.getElem?_eq_some_iff.1 h).1
theorem CB.cell {w : World} {cb : Nat} {v : Value} {p : Nat} {ok : Bool} (h : CB w cb v p ok) (j : Nat) {u : Value} (hj : #[v, .int .i64 p, .bool ok][j]? = some u) : w.cell? ⟨cb, j, none⟩ = some u := by simp [World.cell?, show w.heap[cb]? = _ from h, hj]
theorem CB.free {w : World} {cb : Nat} {v : Value} {p : Nat} {ok : Bool} (h : CB w cb v p ok) (j : Nat) : w.frozen? ⟨cb, j, none⟩ = false := by simp [World.frozen?, show w.heap[cb]? = _ from h]
theorem grown_set1 (w : World) (p o : Nat) (v : Value) : w.grownBy (w.setCell ⟨p, o, none⟩ v) (some p) :=
  ⟨rfl, rfl, rfl, by simp [World.setCell], fun k _ hne => Below.heap_setCell _ _ _ _ (fun e => hne (by rw [e]))⟩
theorem grown_below1 {w w1 w2 : World} {c : Nat} (h : Below w.heap.size w w1) (hg : w1.grownBy w2 (some c)) : w.grownBy w2 (some c) :=
  ⟨hg.os.trans h.os, hg.tape.trans h.tape, hg.output.trans h.output, Nat.le_trans h.size hg.size, fun k hk hn => (hg.block k (Nat.lt_of_lt_of_le hk h.size) hn).trans (h.block k hk)⟩

set_option maxRecDepth 100000 in
set_option maxHeartbeats 4000000 in
theorem num_any (b : List Int) (cb p : Nat) (ok : Bool) (v : Value) (w : World) (hl : b.length ≤ 1048576) (hp : p ≤ b.length) (h : CB w cb v p ok) (hr : bytesSh.rep w (· < w.heap.size) [v] b) :
    Calls Tryd.prog 26 #[.pointer (some ⟨cb, 0, none⟩)] w fun e w' => e = .returned (.int .i64 ((numS b p ok).1 : Nat)) ∧ CB w' cb v (numS b p ok).2.1 (numS b p ok).2.2 ∧ w.grownBy w' (some cb) := by
  have HC : Hid (CB w cb v p ok) := h
  have c0 : w.cell? ⟨cb, 0, none⟩ = some v := h.cell 0 rfl
  have c1 : w.cell? ⟨cb, 1, none⟩ = some (.int .i64 p) := h.cell 1 rfl
  obtain ⟨a, cap, hv⟩ : ∃ a c, v = .slice a b.length c := by obtain ⟨a, c, e⟩ := slice_cells hr; simp only [List.cons.injEq, and_true] at e; exact ⟨a, c, e⟩
  subst hv
  have hcall := specGetNum b (p : Int) _ w.drew hl (by omega) (by omega) hr
  have hlt := h.lt
  rcases q : (getB b (p : Int)).2.2 with _ | _
  · have hS : numS b p ok = (0, p, false) := by unfold numS; rw [q]; simp
    have HS : Hid (numS b p ok = (0, p, false)) := hS
    rw [getB_no q] at hcall
    clear h hr hS q
    go_enter Tryd.func26, Tryd.ntmps26
    go_wp2
    go_region_with (go_at_call 35; refine hcall.mono ?_; rintro e w1 ⟨rfl, hb⟩)
    all_goals
      have hb' : Below w.heap.size w w1 := (Below.refl _ w).drew.trans hb
      have C1 : Hid (CB w1 cb (.slice a b.length cap) p ok) := (hb'.block cb hlt).trans HC.out
      have HB : Hid (Below w.heap.size w w1) := hb'
      have y2 : w1.cell? ⟨cb, 2, none⟩ = some (.bool ok) := C1.out.cell 2 rfl
      have yf : w1.frozen? ⟨cb, 2, none⟩ = false := C1.out.free 2
      clear hb hb' hcall c0 c1
      go_wp2
      go_ret
      rw [HS.out]
      exact ⟨rfl, by have := C1.out; unfold CB at *; simp [World.setCell, Array.getElem?_modify, this], grown_below1 HB.out (grown_set1 _ _ _ _)⟩
  · obtain ⟨n, j, e, h1, h2, h3⟩ := getB_yes q
    rw [e] at hcall
    cases ok with
    | false =>
      have HS : Hid (numS b p false = (0, p, false)) := by show _ = _; unfold numS; simp
      clear h hr q e
      go_enter Tryd.func26, Tryd.ntmps26
      go_wp2
      go_region_with (go_at_call 35; refine hcall.mono ?_; rintro e w1 ⟨rfl, hb⟩)
      all_goals
        have hb' : Below w.heap.size w w1 := (Below.refl _ w).drew.trans hb
        have C1 : Hid (CB w1 cb (.slice a b.length cap) p false) := (hb'.block cb hlt).trans HC.out
        have HB : Hid (Below w.heap.size w w1) := hb'
        have y2 : w1.cell? ⟨cb, 2, none⟩ = some (.bool false) := C1.out.cell 2 rfl
        have yf : w1.frozen? ⟨cb, 2, none⟩ = false := C1.out.free 2
        clear hb hb' hcall c0 c1
        go_wp2
        go_ret
        rw [HS.out]
        exact ⟨rfl, by have := C1.out; unfold CB at *; simp [World.setCell, Array.getElem?_modify, this], grown_below1 HB.out (grown_set1 _ _ _ _)⟩
    | true =>
      have HS : Hid (numS b p true = (n, j, true)) := by show _ = _; unfold numS; rw [e]; simp
      clear h hr q e
      go_enter Tryd.func26, Tryd.ntmps26
      go_wp2
      go_region_with (go_at_call 35; refine hcall.mono ?_; rintro e w1 ⟨rfl, hb⟩)
      all_goals
        have hb' : Below w.heap.size w w1 := (Below.refl _ w).drew.trans hb
        have C1 : Hid (CB w1 cb (.slice a b.length cap) p true) := (hb'.block cb hlt).trans HC.out
        have HB : Hid (Below w.heap.size w w1) := hb'
        have y2 : w1.cell? ⟨cb, 2, none⟩ = some (.bool true) := C1.out.cell 2 rfl
        have y1 : w1.cell? ⟨cb, 1, none⟩ = some (.int .i64 p) := C1.out.cell 1 rfl
        have yf : w1.frozen? ⟨cb, 1, none⟩ = false := C1.out.free 1
        clear hb hb' hcall c0 c1
        go_wp2
        go_ret
        rw [HS.out]
        exact ⟨rfl, by have := C1.out; unfold CB at *; simp [World.setCell, Array.getElem?_modify, this], grown_below1 HB.out (grown_set1 _ _ _ _)⟩

end Go.Proofs.YtlfchmmkaflglaaDoor.fun
