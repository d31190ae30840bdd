/-
  The values that the model draws (l9DrawValue, l10DrawValue): some, in new memory, of a bounded weight; but for the cursor nothing that was there is turned.
  Lists that a draw picks from; what a draw has turned.
  The model's l1DrawAny: some number; but for the cursor nothing that was there is turned.
-/
import Derived.Deep.RegionWith
import Derived.Test.YtlnpfnglphdaiaaGreatDoorB1
import Derived.Test.YtlnpfnglphdaiaaGreatDoorB2
import Derived.Test.YtlnpfnglphdaiaaGreatDoorB3
namespace Go.Proofs.YtlnpfnglphdaiaaGreatDoor.value
open Go Go.RowKit Go.Deep Go.Proofs.YtlnpfnglphdaiaaGreatDoor.rose Go.Proofs.YtlnpfnglphdaiaaGreatDoor Go.Proofs.YtlnpfnglphdaiaaGreatDoor.cur
set_option linter.unusedVariables false
set_option linter.unusedSimpArgs false

theorem dblk {w : World} {b i : Nat} {cur : Array Value} {t : TypeId} {v : Value} (h : w.heap[b]? = some (.cells cur t)) (hi : cur[i]? = some v) : w.cell? ⟨b, i, none⟩ = some v := by simp [World.cell?, h, hi]
theorem dfree {w : World} {b i : Nat} {cur : Array Value} {t : TypeId} (h : w.heap[b]? = some (.cells cur t)) : w.frozen? ⟨b, i, none⟩ = false := by simp [World.frozen?, h]
theorem by_by {w w1 w2 : World} {r : Option Nat} (h1 : w.grownBy w1 r) (h2 : w1.grownBy w2 r) : w.grownBy w2 r :=
  ⟨h2.os.trans h1.os, h2.tape.trans h1.tape, h2.output.trans h1.output, Nat.le_trans h1.size h2.size, fun k hk hn => (h2.block k (Nat.lt_of_lt_of_le hk h1.size) hn).trans (h1.block k hk hn)⟩
theorem by_below {w w1 : World} {r : Option Nat} (h : Below w.heap.size w w1) : w.grownBy w1 r := ⟨h.os, h.tape, h.output, h.size, fun k hk _ => h.block k hk⟩
theorem by_set (w : World) (p o : Nat) (v : Value) : w.grownBy (w.setCell ⟨p, o, none⟩ v) (some p) :=
  ⟨rfl, rfl, rfl, by simp [World.setCell], fun k _ hne => Below.heap_setCell _ _ _ _ (fun e => hne (by rw [e]))⟩
theorem by_self (w : World) (r : Option Nat) : w.grownBy w r := ⟨rfl, rfl, rfl, Nat.le_refl _, fun _ _ _ => rfl⟩

theorem by_alloc (w : World) (A C : Obj) : (w.alloc A).grownBy (w.alloc C) (some w.heap.size) :=
  ⟨rfl, rfl, rfl, by simp, fun k hk hn => by
    have h1 : k < w.heap.size := by
      rcases Nat.lt_or_ge k w.heap.size with h | h
      · exact h
      · exact absurd (congrArg some (show k = w.heap.size by simp at hk; omega)) hn
    rw [Below.heap_alloc _ _ _ h1, Below.heap_alloc _ _ _ h1]⟩

theorem once_any (B p : Nat) (n : Int) (w : World) (hc : Cur B w p) (h0 : 0 < n) (h1 : n ≤ 256) :
    Calls Tryz.prog 39 #[.pointer (some ⟨p, 0, none⟩), .int .i64 n] w fun e w' => ∃ b : Bool, e = .returned (.bool b) ∧ Cur B w' p ∧ w.grownBy w' (some p) := by
  go_enter Tryz.func39, Tryz.ntmps39
  go_wp2_with fail
  refine (below_small B p n w hc h0 h1).mono ?_
  rintro e w1 ⟨x, rfl, hx0, hx1, hc1, hg1⟩
  have HC : Hid (Cur B w1 p ∧ w.grownBy w1 (some p)) := ⟨hc1, hg1⟩
  clear hc1 hg1
  go_wp2
  go_ret
  exact ⟨_, rfl, HC.out.1, HC.out.2⟩

abbrev valueP : Sh ValueD := valueSh.plain
abbrev valuePs : Sh (List ValueD) := valueSh.slice.plain

/-- What a draw says: a value in new memory. -/
def Drawn (B p bound : Nat) (w : World) (e : Ending) (w' : World) : Prop :=
  ∃ (cs : List Value) (T : ValueD), e = .returned (.agg cs.toArray) ∧ valueP.rep w' (fun b => w.heap.size ≤ b ∧ b < w'.heap.size) cs T ∧ wt T ≤ bound ∧ Cur B w' p ∧ w.grownBy w' (some p)

/-- Where a draw stands: its answer's block is new and empty. -/
structure Vx (B p : Nat) (w wr : World) : Prop where
  cur : Cur B wr p
  gr : w.grownBy wr (some p)
  res : wr.heap[w.heap.size]? = some (.cells #[.int .i64 0, .int .i64 0, .string ⟨#[]⟩, .slice none 0 0] 26)
  lo : p < w.heap.size
theorem Vx.lt {B p : Nat} {w wr : World} (h : Vx B p w wr) : w.heap.size < wr.heap.size := (Array.getElem?_eq_some_iff.1 h.res).1
theorem Vx.by {B p : Nat} {w wr w2 : World} (h : Vx B p w wr) (hg : wr.grownBy w2 (some p)) (hc : Cur B w2 p) : Vx B p w w2 := by
  have := h.lo
  exact ⟨hc, by_by h.gr hg, (hg.block _ h.lt fun e => by simp only [Option.some.injEq] at e; omega).trans h.res, h.lo⟩
theorem Vx.on {B p : Nat} {w wr w2 : World} (h : Vx B p w wr) (hb : Below wr.heap.size wr w2) : Vx B p w w2 := h.by (by_below hb) (h.cur.on (by_below hb))
theorem Vx.start {B p : Nat} {w w0 : World} (hc : Cur B w p) (hw : w0 = w.alloc (.cells #[.int .i64 0, .int .i64 0, .string ⟨#[]⟩, .slice none 0 0] 26)) : Vx B p w w0 := by
  have b0 : Below w.heap.size w w0 := by rw [hw]; exact (Below.refl _ _).alloc (Nat.le_refl _) _
  exact ⟨hc.on (by_below b0), by_below b0, by rw [hw]; exact alloc_top _ _, hc.lt⟩
/-- The answer is written. -/
theorem Vx.done {B p bound : Nat} {w wr w' : World} {cs : List Value} {T : ValueD} (h : Vx B p w wr) (hr : valueP.rep wr (fun b => w.heap.size < b ∧ b < wr.heap.size) cs T) (hw : wt T ≤ bound) (hg : wr.grownBy w' (some w.heap.size)) : Drawn B p bound w (.returned (.agg cs.toArray)) w' := by
  have hl := h.lo
  have hlt := h.lt
  have hz := hg.size
  have hpl := h.cur.lt
  have hB := h.cur.le
  refine ⟨cs, T, rfl, valueP.mono (valueP.on hr fun b hS => hg.block b hS.2 fun e => by simp only [Option.some.injEq] at e; omega) fun b hS => ⟨by omega, by omega⟩, hw, ?_, ⟨hg.os.trans h.gr.os, hg.tape.trans h.gr.tape, hg.output.trans h.gr.output, by have := h.gr.size; omega, fun q hq hn => (hg.block q (by omega) fun e => by simp only [Option.some.injEq] at e; omega).trans (h.gr.block q hq hn)⟩⟩
  obtain ⟨a, len, cap, i, hh, hp, hi, hC, hB'⟩ := h.cur
  exact ⟨a, len, cap, i, hh, by rw [hg.block p hpl (fun e => by simp only [Option.some.injEq] at e; omega)]; exact hp, hi, hC.of_cells fun ad had => World.cell?_of_block (hg.block ad.block (by omega) (fun e => by simp only [Option.some.injEq] at e; omega)), hB'⟩

theorem vleaf {w : World} {S : Nat → Prop} {k n : Int} {s : ByteArray} (h1 : -9223372036854775808 ≤ k ∧ k ≤ 9223372036854775807) (h2 : -9223372036854775808 ≤ n ∧ n ≤ 9223372036854775807) (h3 : s.size ≤ maxLen) : valueP.rep w S [.int .i64 k, .int .i64 n, .string s, .slice none 0 0] (.mk (k, n, s) []) :=
  Sh.of (value_shut (x3 := []) (a3 := none) (c3 := 0) h1 h2 h3 ⟨none, 0, fun _ => [], rfl, Nat.le_refl _, Nat.zero_le _, fun _ => rfl, fun i hi => absurd hi (Nat.not_lt_zero _), fun i hi => absurd hi (Nat.not_lt_zero _)⟩)
theorem vleaf_wt {k n : Int} {s : ByteArray} : wt (.mk (k, n, s) []) = s.size := by simp [wt, wts]
theorem vone {W : World} {S : Nat → Prop} {q : Nat} {t : TypeId} {a0 a1 a2 a3 : Value} {T : ValueD} (hb : W.heap[q]? = some (.cells #[a0, a1, a2, a3] t)) (hq : S q) (h1 : valueSh.rep W S [a0, a1, a2, a3] T) : valueSh.slice.rep W S [.slice (some ⟨q, 0, none⟩) [T].length 1] [T] := by
  refine ⟨some ⟨q, 0, none⟩, 1, fun _ => [a0, a1, a2, a3], rfl, Nat.le_refl _, by decide, (fun h => by cases h), fun i hi => ⟨q, 0, rfl, hq, fun j u hj => ?_⟩, fun i hi => ?_⟩
  · match i, hi with
    | 0, _ =>
      match j, hj with
      | 0, hj | 1, hj | 2, hj | 3, hj => cases hj; simp [World.cell?, hb]
  · match i, hi with
    | 0, _ => exact h1
theorem vtwo {W : World} {S : Nat → Prop} {q : Nat} {t : TypeId} {a0 a1 a2 a3 b0 b1 b2 b3 : Value} {T T2 : ValueD} (hb : W.heap[q]? = some (.cells #[a0, a1, a2, a3, b0, b1, b2, b3] t)) (hq : S q)
    (h1 : valueSh.rep W S [a0, a1, a2, a3] T) (h2 : valueSh.rep W S [b0, b1, b2, b3] T2) : valueSh.slice.rep W S [.slice (some ⟨q, 0, none⟩) [T, T2].length 2] [T, T2] := by
  refine ⟨some ⟨q, 0, none⟩, 2, fun i => if i = 0 then [a0, a1, a2, a3] else [b0, b1, b2, b3], rfl, Nat.le_refl _, by decide, (fun h => by cases h), fun i hi => ⟨q, 0, rfl, hq, fun j u hj => ?_⟩, fun i hi => ?_⟩
  · match i, hi with
    | 0, _ =>
      match j, hj with
      | 0, hj | 1, hj | 2, hj | 3, hj => cases hj; simp [World.cell?, hb]
    | 1, _ =>
      match j, hj with
      | 0, hj => cases hj; show W.cell? ⟨q, 4, none⟩ = _; simp [World.cell?, hb]
      | 1, hj => cases hj; show W.cell? ⟨q, 5, none⟩ = _; simp [World.cell?, hb]
      | 2, hj => cases hj; show W.cell? ⟨q, 6, none⟩ = _; simp [World.cell?, hb]
      | 3, hj => cases hj; show W.cell? ⟨q, 7, none⟩ = _; simp [World.cell?, hb]
  · match i, hi with
    | 0, _ => exact h1
    | 1, _ => exact h2

set_option maxRecDepth 100000 in
set_option maxHeartbeats 4000000 in
theorem v2_any (B p : Nat) (d : Int) (w : World) (hc : Cur B w p) : Calls Tryz.prog 23 #[.pointer (some ⟨p, 0, none⟩), .int .i64 2, .int .i64 d] w (Drawn B p 0 w) := by
  obtain ⟨w0, hw0⟩ : ∃ w0, w0 = w.alloc (.cells #[.int .i64 0, .int .i64 0, .string ⟨#[]⟩, .slice none 0 0] 26) := ⟨_, rfl⟩
  have HW0 : Hid (w0 = w.alloc (.cells #[.int .i64 0, .int .i64 0, .string ⟨#[]⟩, .slice none 0 0] 26)) := hw0
  have V0 : Hid (Vx B p w w0) := Vx.start hc hw0
  clear hw0 hc
  have HX := below_small B p 4 w0 V0.out.cur (by decide) (by decide)
  go_enter Tryz.func23, Tryz.ntmps23
  go_wp2_with fail
  rw [← HW0.out]
  refine HX.mono ?_
  rintro e w1 ⟨x, rfl, hx0, hx1, hc1, hg1⟩
  have V1 : Hid (Vx B p w w1) := V0.out.by hg1 hc1
  clear HX hc1 hg1
  have HT : Hid (∀ w', w1.grownBy w' (some w.heap.size) → Drawn B p 0 w (.returned (.agg [.int .i64 1, .int .i64 x, .string ⟨#[]⟩, .slice none 0 0].toArray)) w') := fun w' hg' => V1.out.done (T := .mk (1, x, ⟨#[]⟩) []) (vleaf (by omega) (by omega) (by decide)) (by rw [vleaf_wt]; decide) hg'
  have r0 : w1.cell? ⟨w.heap.size, 0, none⟩ = some (.int .i64 0) := dblk (i := 0) V1.out.res rfl
  have r1 : w1.cell? ⟨w.heap.size, 1, none⟩ = some (.int .i64 0) := dblk (i := 1) V1.out.res rfl
  have r2 : w1.cell? ⟨w.heap.size, 2, none⟩ = some (.string ⟨#[]⟩) := dblk (i := 2) V1.out.res rfl
  have r3 : w1.cell? ⟨w.heap.size, 3, none⟩ = some (.slice none 0 0) := dblk (i := 3) V1.out.res rfl
  have fr : ∀ o, w1.frozen? ⟨w.heap.size, o, none⟩ = false := fun o => dfree V1.out.res
  go_wp2
  refine bodyPost_ret (v := .agg #[.int .i64 1, .int .i64 x, .string ⟨#[]⟩, .slice none 0 0]) (by simp [results, Tryz.f23, go_sem, r0, r1, r2, r3]) rfl ?_
  refine HT.out _ ?_
  repeat first | exact by_self _ _ | with_reducible exact by_alloc _ _ _ | (refine by_by ?_ (by_set _ _ _ _))

set_option maxRecDepth 100000 in
set_option maxHeartbeats 4000000 in
theorem v1_any (B p : Nat) (d : Int) (w : World) (hc : Cur B w p) : Calls Tryz.prog 23 #[.pointer (some ⟨p, 0, none⟩), .int .i64 1, .int .i64 d] w (Drawn B p 5 w) := by
  obtain ⟨w0, hw0⟩ : ∃ w0, w0 = w.alloc (.cells #[.int .i64 0, .int .i64 0, .string ⟨#[]⟩, .slice none 0 0] 26) := ⟨_, rfl⟩
  have HW0 : Hid (w0 = w.alloc (.cells #[.int .i64 0, .int .i64 0, .string ⟨#[]⟩, .slice none 0 0] 26)) := hw0
  have V0 : Hid (Vx B p w w0) := Vx.start hc hw0
  clear hw0 hc
  have HX := once_any B p 2 w0 V0.out.cur (by decide) (by decide)
  go_enter Tryz.func23, Tryz.ntmps23
  go_wp2_with fail
  rw [← HW0.out]
  refine HX.mono ?_
  rintro e w1 ⟨b, rfl, hc1, hg1⟩
  have V1 : Hid (Vx B p w w1) := V0.out.by hg1 hc1
  clear HX hc1 hg1
  cases b with
  | true =>
    have HT : Hid (∀ w', w1.grownBy w' (some w.heap.size) → Drawn B p 5 w (.returned (.agg [.int .i64 2, .int .i64 0, .string ⟨#[78, 111, 110, 101]⟩, .slice none 0 0].toArray)) w') := fun w' hg' => V1.out.done (T := .mk (2, 0, ⟨#[78, 111, 110, 101]⟩) []) (vleaf (by omega) (by omega) (by decide)) (by rw [vleaf_wt]; decide) hg'
    have r0 : w1.cell? ⟨w.heap.size, 0, none⟩ = some (.int .i64 0) := dblk (i := 0) V1.out.res rfl
    have r1 : w1.cell? ⟨w.heap.size, 1, none⟩ = some (.int .i64 0) := dblk (i := 1) V1.out.res rfl
    have r2 : w1.cell? ⟨w.heap.size, 2, none⟩ = some (.string ⟨#[]⟩) := dblk (i := 2) V1.out.res rfl
    have r3 : w1.cell? ⟨w.heap.size, 3, none⟩ = some (.slice none 0 0) := dblk (i := 3) V1.out.res rfl
    have fr : ∀ o, w1.frozen? ⟨w.heap.size, o, none⟩ = false := fun o => dfree V1.out.res
    go_wp2
    refine bodyPost_ret (v := .agg #[.int .i64 2, .int .i64 0, .string ⟨#[78, 111, 110, 101]⟩, .slice none 0 0]) (by simp [results, Tryz.f23, go_sem, r0, r1, r2, r3]) rfl ?_
    refine HT.out _ ?_
    repeat first | exact by_self _ _ | with_reducible exact by_alloc _ _ _ | (refine by_by ?_ (by_set _ _ _ _))
  | false =>
    have HX := v2_any B p 0 w1 V1.out.cur
    go_wp2_with fail
    refine HX.mono ?_
    rintro e w2 ⟨cs, T, rfl, hr, hw, hc2, hg2⟩
    obtain ⟨u0, u1, u2, uk, ua, uc, hTT, rfl, -, -, -, -⟩ := value_open (Sh.bare hr)
    clear hTT
    obtain ⟨ul, hul⟩ : ∃ n, n = uk.length := ⟨_, rfl⟩
    rw [← hul] at hr ⊢
    clear hul
    have V2 : Hid (Vx B p w w2) := V1.out.by hg2 hc2
    obtain ⟨w3, hw3⟩ : ∃ x, x = w2.alloc (.cells #[.int .i64 u0, .int .i64 u1, .string u2, .slice ua ul uc] 26) := ⟨_, rfl⟩
    have hB : Below w2.heap.size w2 w3 := by rw [hw3]; exact (Below.refl _ _).alloc (Nat.le_refl _) _
    have z3 : w3.heap.size = w2.heap.size + 1 := by rw [hw3]; simp
    have V3 : Hid (Vx B p w w3) := V2.out.on hB
    have RP : Hid (valueP.rep w3 (fun b => w.heap.size < b ∧ b < w3.heap.size) [.int .i64 2, .int .i64 0, .string ⟨#[83, 111, 109, 101]⟩, .slice (some ⟨w2.heap.size, 0, none⟩) 1 1] (.mk (2, 0, ⟨#[83, 111, 109, 101]⟩) [T])) := by
      refine Sh.of (value_shut (x3 := [T]) (by omega) (by omega) (by decide) ?_)
      exact vone (by rw [hw3]; exact alloc_top _ _) ⟨⟨V2.out.lt, by omega⟩, _, _, by rw [hw3]; exact alloc_top _ _⟩ (Sh.bare (valueP.mono (valueP.on hr fun b hS => hB.block b hS.2) fun b hS => ⟨by have := V1.out.lt; omega, by omega⟩))
    have HWT : Hid (wt (.mk (2, 0, ⟨#[83, 111, 109, 101]⟩) [T]) ≤ 5) := by simp only [wt, wts, List.length_singleton]; show 4 + _ ≤ 5; omega
    have HT : Hid (∀ w', w3.grownBy w' (some w.heap.size) → Drawn B p 5 w (.returned (.agg [.int .i64 2, .int .i64 0, .string ⟨#[83, 111, 109, 101]⟩, .slice (some ⟨w2.heap.size, 0, none⟩) 1 1].toArray)) w') := fun w' hg' => V3.out.done (T := _) RP.out HWT.out hg'
    have r0 : w3.cell? ⟨w.heap.size, 0, none⟩ = some (.int .i64 0) := dblk (i := 0) V3.out.res rfl
    have r1 : w3.cell? ⟨w.heap.size, 1, none⟩ = some (.int .i64 0) := dblk (i := 1) V3.out.res rfl
    have r2 : w3.cell? ⟨w.heap.size, 2, none⟩ = some (.string ⟨#[]⟩) := dblk (i := 2) V3.out.res rfl
    have r3 : w3.cell? ⟨w.heap.size, 3, none⟩ = some (.slice none 0 0) := dblk (i := 3) V3.out.res rfl
    have fr : ∀ o, w3.frozen? ⟨w.heap.size, o, none⟩ = false := fun o => dfree V3.out.res
    rw [hw3] at r0 r1 r2 r3 fr
    rw [hw3] at HT
    clear HX hr hw hc2 hg2 hB z3 V3 RP hw3
    go_wp2
    refine bodyPost_ret (v := .agg #[.int .i64 2, .int .i64 0, .string ⟨#[83, 111, 109, 101]⟩, .slice (some ⟨w2.heap.size, 0, none⟩) 1 1]) (by simp [results, Tryz.f23, go_sem, r0, r1, r2, r3]) rfl ?_
    refine HT.out _ ?_
    repeat first | exact by_self _ _ | with_reducible exact by_alloc _ _ _ | (refine by_by ?_ (by_set _ _ _ _))

set_option maxRecDepth 100000 in
set_option maxHeartbeats 4000000 in
theorem v0_any (d : Nat) : d ≤ 3 → ∀ (B p : Nat) (w : World) (hc : Cur B w p), Calls Tryz.prog 23 #[.pointer (some ⟨p, 0, none⟩), .int .i64 0, .int .i64 (d : Nat)] w (Drawn B p (3 + 20 * d) w) := by
  induction d with
  | zero =>
    intro _ B p w hc
    obtain ⟨w0, hw0⟩ : ∃ w0, w0 = w.alloc (.cells #[.int .i64 0, .int .i64 0, .string ⟨#[]⟩, .slice none 0 0] 26) := ⟨_, rfl⟩
    have HW0 : Hid (w0 = w.alloc (.cells #[.int .i64 0, .int .i64 0, .string ⟨#[]⟩, .slice none 0 0] 26)) := hw0
    have V0 : Hid (Vx B p w w0) := Vx.start hc hw0
    clear hw0 hc
    have HT : Hid (∀ w', w0.grownBy w' (some w.heap.size) → Drawn B p (3 + 20 * 0) w (.returned (.agg [.int .i64 2, .int .i64 0, .string ⟨#[78, 105, 108]⟩, .slice none 0 0].toArray)) w') := fun w' hg' => V0.out.done (T := .mk (2, 0, ⟨#[78, 105, 108]⟩) []) (vleaf (by omega) (by omega) (by decide)) (by rw [vleaf_wt]; decide) hg'
    have r0 : w0.cell? ⟨w.heap.size, 0, none⟩ = some (.int .i64 0) := dblk (i := 0) V0.out.res rfl
    have r1 : w0.cell? ⟨w.heap.size, 1, none⟩ = some (.int .i64 0) := dblk (i := 1) V0.out.res rfl
    have r2 : w0.cell? ⟨w.heap.size, 2, none⟩ = some (.string ⟨#[]⟩) := dblk (i := 2) V0.out.res rfl
    have r3 : w0.cell? ⟨w.heap.size, 3, none⟩ = some (.slice none 0 0) := dblk (i := 3) V0.out.res rfl
    have fr : ∀ o, w0.frozen? ⟨w.heap.size, o, none⟩ = false := fun o => dfree V0.out.res
    rw [HW0.out] at r0 r1 r2 r3 fr
    rw [HW0.out] at HT
    clear V0 HW0
    go_enter Tryz.func23, Tryz.ntmps23
    go_wp2
    refine bodyPost_ret (v := .agg #[.int .i64 2, .int .i64 0, .string ⟨#[78, 105, 108]⟩, .slice none 0 0]) (by simp [results, Tryz.f23, go_sem, r0, r1, r2, r3]) rfl ?_
    refine HT.out _ ?_
    repeat first | exact by_self _ _ | with_reducible exact by_alloc _ _ _ | (refine by_by ?_ (by_set _ _ _ _))
  | succ d ih =>
    intro hd B p w hc
    have IH : Hid (∀ (B p : Nat) (w : World) (hc : Cur B w p), Calls Tryz.prog 23 #[.pointer (some ⟨p, 0, none⟩), .int .i64 0, .int .i64 (d : Nat)] w (Drawn B p (3 + 20 * d) w)) := ih (by omega)
    clear ih
    obtain ⟨w0, hw0⟩ : ∃ w0, w0 = w.alloc (.cells #[.int .i64 0, .int .i64 0, .string ⟨#[]⟩, .slice none 0 0] 26) := ⟨_, rfl⟩
    have HW0 : Hid (w0 = w.alloc (.cells #[.int .i64 0, .int .i64 0, .string ⟨#[]⟩, .slice none 0 0] 26)) := hw0
    have V0 : Hid (Vx B p w w0) := Vx.start hc hw0
    clear hw0 hc
    have hdi : (d : Int) + 1 ≤ 3 := by omega
    have hdn : ¬ ((d : Int) + 1 = 0) := by omega
    have HX := once_any B p 3 w0 V0.out.cur (by decide) (by decide)
    rw [show ((d + 1 : Nat) : Int) = (d : Int) + 1 by omega]
    go_enter Tryz.func23, Tryz.ntmps23
    go_wp2_with fail
    rw [← HW0.out]
    refine HX.mono ?_
    rintro e w1 ⟨b, rfl, hc1, hg1⟩
    have V1 : Hid (Vx B p w w1) := V0.out.by hg1 hc1
    clear HX hc1 hg1
    cases b with
    | true =>
      have HT : Hid (∀ w', w1.grownBy w' (some w.heap.size) → Drawn B p (3 + 20 * (d + 1)) w (.returned (.agg [.int .i64 2, .int .i64 0, .string ⟨#[78, 105, 108]⟩, .slice none 0 0].toArray)) w') := fun w' hg' => V1.out.done (T := .mk (2, 0, ⟨#[78, 105, 108]⟩) []) (vleaf (by omega) (by omega) (by decide)) (by rw [vleaf_wt]; show 3 ≤ _; omega) hg'
      have r0 : w1.cell? ⟨w.heap.size, 0, none⟩ = some (.int .i64 0) := dblk (i := 0) V1.out.res rfl
      have r1 : w1.cell? ⟨w.heap.size, 1, none⟩ = some (.int .i64 0) := dblk (i := 1) V1.out.res rfl
      have r2 : w1.cell? ⟨w.heap.size, 2, none⟩ = some (.string ⟨#[]⟩) := dblk (i := 2) V1.out.res rfl
      have r3 : w1.cell? ⟨w.heap.size, 3, none⟩ = some (.slice none 0 0) := dblk (i := 3) V1.out.res rfl
      have fr : ∀ o, w1.frozen? ⟨w.heap.size, o, none⟩ = false := fun o => dfree V1.out.res
      go_wp2
      refine bodyPost_ret (v := .agg #[.int .i64 2, .int .i64 0, .string ⟨#[78, 105, 108]⟩, .slice none 0 0]) (by simp [results, Tryz.f23, go_sem, r0, r1, r2, r3]) rfl ?_
      refine HT.out _ ?_
      repeat first | exact by_self _ _ | with_reducible exact by_alloc _ _ _ | (refine by_by ?_ (by_set _ _ _ _))
    | false =>
      have HX := v1_any B p (d : Int) w1 V1.out.cur
      go_wp2_with fail
      refine HX.mono ?_
      rintro e w2 ⟨cs, Ta, rfl, hr, hwa, hc2, hg2⟩
      obtain ⟨a0, a1, a2, uk, aa, ac, hTT, rfl, -, -, -, -⟩ := value_open (Sh.bare hr)
      clear hTT
      obtain ⟨al, hul⟩ : ∃ n, n = uk.length := ⟨_, rfl⟩
      rw [← hul] at hr ⊢
      clear hul
      have V2 : Hid (Vx B p w w2) := V1.out.by hg2 hc2
      obtain ⟨wa, hwa'⟩ : ∃ x, x = w2.alloc (.cells #[.int .i64 a0, .int .i64 a1, .string a2, .slice aa al ac] 26) := ⟨_, rfl⟩
      have HWa : Hid (wa = w2.alloc (.cells #[.int .i64 a0, .int .i64 a1, .string a2, .slice aa al ac] 26)) := hwa'
      have hB : Below w2.heap.size w2 wa := by rw [hwa']; exact (Below.refl _ _).alloc (Nat.le_refl _) _
      have za : wa.heap.size = w2.heap.size + 1 := by rw [hwa']; simp
      have Va : Hid (Vx B p w wa) := V2.out.on hB
      have PA : Hid (wa.heap[w2.heap.size]? = some (.cells #[.int .i64 a0, .int .i64 a1, .string a2, .slice aa al ac] 26)) := by show _ = _; rw [hwa']; exact alloc_top _ _
      have RA : Hid (valueP.rep wa (fun b => w.heap.size < b ∧ b < wa.heap.size) [.int .i64 a0, .int .i64 a1, .string a2, .slice aa al ac] Ta) := valueP.mono (valueP.on hr fun b hS => hB.block b hS.2) fun b hS => ⟨by have := V1.out.lt; omega, by omega⟩
      have HTA : Hid (wt Ta ≤ 5) := hwa
      clear HX hr hwa hc2 hg2 hB hwa'
      have HX := IH.out B p wa Va.out.cur
      go_wp2_with fail
      rw [← HWa.out]
      refine HX.mono ?_
      rintro e w3 ⟨cs, Tb, rfl, hr, hwb, hc2, hg2⟩
      obtain ⟨b0, b1, b2, uk, ba, bc, hTT, rfl, -, -, -, -⟩ := value_open (Sh.bare hr)
      clear hTT
      obtain ⟨bl, hul⟩ : ∃ n, n = uk.length := ⟨_, rfl⟩
      rw [← hul] at hr ⊢
      clear hul
      have V3 : Hid (Vx B p w w3) := Va.out.by hg2 hc2
      have hlo := Va.out.lo
      have hlt2 := V2.out.lt
      have P3 : Hid (w3.heap[w2.heap.size]? = some (.cells #[.int .i64 a0, .int .i64 a1, .string a2, .slice aa al ac] 26)) := (hg2.block _ (by omega) fun e => by simp only [Option.some.injEq] at e; omega).trans PA.out
      have hz3 := hg2.size
      have R3 : Hid (valueP.rep w3 (fun b => w.heap.size < b ∧ b < w3.heap.size) [.int .i64 a0, .int .i64 a1, .string a2, .slice aa al ac] Ta) := valueP.mono (valueP.on RA.out fun b hS => hg2.block b hS.2 fun e => by simp only [Option.some.injEq] at e; omega) fun b hS => ⟨hS.1, by omega⟩
      obtain ⟨wb, hwb'⟩ : ∃ x, x = w3.alloc (.cells #[.int .i64 b0, .int .i64 b1, .string b2, .slice ba bl bc] 26) := ⟨_, rfl⟩
      have HWb : Hid (wb = w3.alloc (.cells #[.int .i64 b0, .int .i64 b1, .string b2, .slice ba bl bc] 26)) := hwb'
      have hB : Below w3.heap.size w3 wb := by rw [hwb']; exact (Below.refl _ _).alloc (Nat.le_refl _) _
      have zb : wb.heap.size = w3.heap.size + 1 := by rw [hwb']; simp
      have Vb : Hid (Vx B p w wb) := V3.out.on hB
      have PB : wb.heap[w3.heap.size]? = some (.cells #[.int .i64 b0, .int .i64 b1, .string b2, .slice ba bl bc] 26) := by rw [hwb']; exact alloc_top _ _
      have PA2 : wb.heap[w2.heap.size]? = some (.cells #[.int .i64 a0, .int .i64 a1, .string a2, .slice aa al ac] 26) := (hB.block _ (by omega)).trans P3.out
      have y0 : wb.cell? ⟨w2.heap.size, 0, none⟩ = some (.int .i64 a0) := dblk (i := 0) PA2 rfl
      have y1 : wb.cell? ⟨w2.heap.size, 1, none⟩ = some (.int .i64 a1) := dblk (i := 1) PA2 rfl
      have y2 : wb.cell? ⟨w2.heap.size, 2, none⟩ = some (.string a2) := dblk (i := 2) PA2 rfl
      have y3 : wb.cell? ⟨w2.heap.size, 3, none⟩ = some (.slice aa al ac) := dblk (i := 3) PA2 rfl
      have q0 : wb.cell? ⟨w3.heap.size, 0, none⟩ = some (.int .i64 b0) := dblk (i := 0) PB rfl
      have q1 : wb.cell? ⟨w3.heap.size, 1, none⟩ = some (.int .i64 b1) := dblk (i := 1) PB rfl
      have q2 : wb.cell? ⟨w3.heap.size, 2, none⟩ = some (.string b2) := dblk (i := 2) PB rfl
      have q3 : wb.cell? ⟨w3.heap.size, 3, none⟩ = some (.slice ba bl bc) := dblk (i := 3) PB rfl
      rw [HWb.out] at y0 y1 y2 y3 q0 q1 q2 q3
      obtain ⟨wc, hwc⟩ : ∃ x, x = wb.alloc (.cells #[.int .i64 a0, .int .i64 a1, .string a2, .slice aa al ac, .int .i64 b0, .int .i64 b1, .string b2, .slice ba bl bc] 26) := ⟨_, rfl⟩
      have hC : Below wb.heap.size wb wc := by rw [hwc]; exact (Below.refl _ _).alloc (Nat.le_refl _) _
      have zc : wc.heap.size = wb.heap.size + 1 := by rw [hwc]; simp
      have Vc : Hid (Vx B p w wc) := Vb.out.on hC
      have RP : Hid (valueP.rep wc (fun b => w.heap.size < b ∧ b < wc.heap.size) [.int .i64 2, .int .i64 0, .string ⟨#[67, 111, 110, 115]⟩, .slice (some ⟨wb.heap.size, 0, none⟩) 2 2] (.mk (2, 0, ⟨#[67, 111, 110, 115]⟩) [Ta, Tb])) := by
        refine Sh.of (value_shut (x3 := [Ta, Tb]) (by omega) (by omega) (by decide) ?_)
        exact vtwo (by rw [hwc]; exact alloc_top _ _) ⟨⟨by omega, by omega⟩, _, _, by rw [hwc]; exact alloc_top _ _⟩ (Sh.bare (valueP.mono (valueP.on (valueP.on R3.out fun b hS => hB.block b hS.2) fun b hS => hC.block b (by omega)) fun b hS => ⟨hS.1, by omega⟩)) (Sh.bare (valueP.mono (valueP.on (valueP.on hr fun b hS => hB.block b hS.2) fun b hS => hC.block b (by omega)) fun b hS => ⟨by omega, by omega⟩))
      have HWT : Hid (wt (.mk (2, 0, ⟨#[67, 111, 110, 115]⟩) [Ta, Tb]) ≤ 3 + 20 * (d + 1)) := by have := HTA.out; simp only [wt, wts, List.length_cons, List.length_nil]; show 4 + _ ≤ _; omega
      have HT : Hid (∀ w', wc.grownBy w' (some w.heap.size) → Drawn B p (3 + 20 * (d + 1)) w (.returned (.agg [.int .i64 2, .int .i64 0, .string ⟨#[67, 111, 110, 115]⟩, .slice (some ⟨wb.heap.size, 0, none⟩) 2 2].toArray)) w') := fun w' hg' => Vc.out.done (T := _) RP.out HWT.out hg'
      have r0 : wc.cell? ⟨w.heap.size, 0, none⟩ = some (.int .i64 0) := dblk (i := 0) Vc.out.res rfl
      have r1 : wc.cell? ⟨w.heap.size, 1, none⟩ = some (.int .i64 0) := dblk (i := 1) Vc.out.res rfl
      have r2 : wc.cell? ⟨w.heap.size, 2, none⟩ = some (.string ⟨#[]⟩) := dblk (i := 2) Vc.out.res rfl
      have r3 : wc.cell? ⟨w.heap.size, 3, none⟩ = some (.slice none 0 0) := dblk (i := 3) Vc.out.res rfl
      have fr : ∀ o, wc.frozen? ⟨w.heap.size, o, none⟩ = false := fun o => dfree Vc.out.res
      rw [hwc, HWb.out] at r0 r1 r2 r3 fr
      rw [zb] at HT
      rw [hwc, HWb.out] at HT
      clear HX hr hwb hc2 hg2 hB hwb' PB PA2 hwc hC zc Vc RP zb Vb R3
      go_wp2
      refine bodyPost_ret (v := .agg #[.int .i64 2, .int .i64 0, .string ⟨#[67, 111, 110, 115]⟩, .slice (some ⟨w3.heap.size + 1, 0, none⟩) 2 2]) (by simp [results, Tryz.f23, go_sem, r0, r1, r2, r3]) rfl ?_
      refine HT.out _ ?_
      repeat first | exact by_self _ _ | with_reducible exact by_alloc _ _ _ | (refine by_by ?_ (by_set _ _ _ _))

end Go.Proofs.YtlnpfnglphdaiaaGreatDoor.value

namespace Go.Proofs.YtlnpfnglphdaiaaGreatDoor.cur
open Go.RowKit
set_option linter.unusedVariables false

theorem grown_drew {w w' : World} {row : Option Nat} (h : w.grownBy w' row) : w.grownBy w'.drew row := ⟨h.os, h.tape, h.output, h.size, h.block⟩

theorem ints_new (w : World) (zs : List Int) (t : TypeId) (hz : ∀ z ∈ zs, -9223372036854775808 ≤ z ∧ z ≤ 9223372036854775807) :
    ∀ j, j < zs.length → ∃ z : Int, (w.alloc (.cells (zs.map (Value.int .i64)).toArray t)).cell? ⟨w.heap.size, j, none⟩ = some (.int .i64 z) ∧ -9223372036854775808 ≤ z ∧ z ≤ 9223372036854775807 := by
  intro j hj
  refine ⟨zs[j], ?_, hz _ (List.getElem_mem hj)⟩
  rw [World.cell?_alloc_new]
  simp [hj]
theorem strs_new (w : World) (ss : List ByteArray) (t : TypeId) (m : Nat) (hz : ∀ s ∈ ss, s.size ≤ m) :
    ∀ j, j < ss.length → ∃ s : ByteArray, (w.alloc (.cells (ss.map Value.string).toArray t)).cell? ⟨w.heap.size, j, none⟩ = some (.string s) ∧ s.size ≤ m := by
  intro j hj
  refine ⟨ss[j], ?_, hz _ (List.getElem_mem hj)⟩
  rw [World.cell?_alloc_new]
  simp [hj]
theorem below_of {B p : Nat} {w w1 w2 : World} (hB : B = w.heap.size) (h1 : w.grownBy w1 none) (h2 : w1.grownBy w2 (some p)) (hp : B ≤ p) : Below w.heap.size w w2 := by
  subst hB
  exact ((Below.refl _ w).grown h1 (Nat.le_refl _) (fun k hk => by cases hk)).grown h2 h1.size (fun k hk => by cases hk; exact hp)

end Go.Proofs.YtlnpfnglphdaiaaGreatDoor.cur

namespace Go.Proofs.YtlnpfnglphdaiaaGreatDoor.cur
open Go.RowKit
set_option linter.unusedVariables false

set_option maxHeartbeats 400000 in
theorem drawAny_any (B p : Nat) (w : World) (hc : Cur B w p) :
    Calls Tryz.prog 26 #[.pointer (some ⟨p, 0, none⟩)] w fun e w' => ∃ x : Int, e = .returned (.int .i64 x) ∧ -9223372036854775808 ≤ x ∧ x ≤ 9223372036854775807 ∧ Cur B w' p ∧ w.grownBy w' (some p) := by
  have hlt := hc.lt
  have HC : Hid (Cur B w p) := hc
  clear hc
  go_enter Tryz.func26, Tryz.ntmps26
  go_wp2_with fail
  refine (pickInt_any B p w.heap.size 10 _ (HC.out.on (World.grownBy_alloc _ _ none)) (by decide) (by decide) (by omega) (by simp)
    (ints_new w [0, 1, -1, 5, 1073741823, 1073741824, -1073741824, -1073741825, 9223372036854775807, -9223372036854775808] 3 (by decide))).mono ?_
  rintro e w1 ⟨x, rfl, hx0, hx1, hc1, hg1⟩
  have H1 : Hid (Cur B w1 p) := hc1
  have G1 : Hid (w.grownBy w1 (some p)) := (World.grownBy_alloc w _ (some p)).trans hg1
  clear hc1 hg1
  go_wp2
  go_ret
  exact ⟨x, rfl, hx0, hx1, H1.out, G1.out⟩

end Go.Proofs.YtlnpfnglphdaiaaGreatDoor.cur
