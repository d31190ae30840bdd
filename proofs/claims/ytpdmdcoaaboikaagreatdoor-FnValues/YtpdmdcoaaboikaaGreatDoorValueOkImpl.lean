/-
  The program's ValueOk, at every list of datas and value that lie in rows of cells which nothing froze; nothing that was there is turned.
-/
import Derived.Test.YtpdmdcoaaboikaaGreatDoorOkStorey2
namespace Go.Proofs.YtpdmdcoaaboikaaGreatDoor.value
open Go Go.RowKit Go.Maps Go.Deep Go.Proofs.YtpdmdcoaaboikaaGreatDoor.rose Go.Proofs.YtpdmdcoaaboikaaGreatDoor
set_option linter.unusedVariables false
set_option linter.unusedSimpArgs false

theorem one_row {α : Type} (A : Sh α) {w : World} {S : Nat → Prop} (g : Nat) (cs : List Value) (t : TypeId) (X : α) (hg : w.heap[g]? = some (.cells cs.toArray t)) (hS : S g) (hr : A.rep w S cs X) : A.slice.rep w S [.slice (some ⟨g, 0, none⟩) 1 1] [X] := by
  refine ⟨some ⟨g, 0, none⟩, 1, fun _ => cs, rfl, Nat.le_refl _, by unfold maxLen; omega, (fun h => by cases h), fun i hi => ⟨g, 0, rfl, hS, ?_⟩, fun i hi => ?_⟩
  · have : i = 0 := by simp at hi; omega
    subst this
    intro j u hj
    simp only [World.cell?, hg, Nat.zero_mul, Nat.zero_add]
    simpa using hj
  · have : i = 0 := by simp at hi; omega
    subst this
    exact hr

/-- What holds ahead of round i: ST are the lists of that storey. -/
structure Round (ds : List DataD) (V : ValueD) (i : Nat) (ST : List AtD) : Prop where
  len : ∀ p ∈ ST, 0 < p.2.2.length
  mass : mass ST ≤ 1048577
  sound : OkP ds V → ∀ p ∈ ST, ∀ x ∈ p.2.2, OkP ds x
  deep : ∀ p ∈ ST, ∀ x ∈ p.2.2, i + dp x ≤ dp V
  whole : (∀ p ∈ ST, ∀ x ∈ p.2.2, OkP ds x) → OkP ds V
  most : ∀ d, (∀ p ∈ ST, ∀ x ∈ p.2.2, dp x ≤ d) → dp V ≤ i + d

theorem Round.start {ds : List DataD} {V : ValueD} (a : Option Addr) (c : Nat) (hw : wt V ≤ 1048576) : Round ds V 0 [(a, c, [V])] := by
  refine ⟨by simp, ?_, ?_, ?_, ?_, ?_⟩
  · have := all_le V
    simp [value.mass, allS]; omega
  · intro h p hp x hx
    simp only [List.mem_singleton] at hp
    subst hp
    simp only [List.mem_singleton] at hx
    subst hx
    exact h
  · intro p hp x hx
    simp only [List.mem_singleton] at hp
    subst hp
    simp only [List.mem_singleton] at hx
    subst hx
    omega
  · intro h
    exact h (a, c, [V]) (by simp) V (by simp)
  · intro d h
    have := h (a, c, [V]) (by simp) V (by simp)
    omega
theorem Round.step {ds : List DataD} {V : ValueD} {i : Nat} {ST B : List AtD} (h : Round ds V i ST) (h1 : ∀ p ∈ ST, ∀ x ∈ p.2.2, OkL ds x ∧ Cov B x) (h2 : ∀ q ∈ B, ∃ p ∈ ST, ∃ x ∈ p.2.2, q.2.2 = x.kids) (h3 : ∀ q ∈ B, 0 < q.2.2.length) (h4 : value.mass B ≤ value.mass ST) : Round ds V (i + 1) B := by
  have hkid : ∀ p ∈ ST, ∀ x ∈ p.2.2, ∀ y ∈ x.kids, ∃ q ∈ B, y ∈ q.2.2 := fun p hp x hx y hy => by
    rcases (h1 p hp x hx).2 with hn | ⟨q, hq, hpre⟩
    · rw [hn] at hy; cases hy
    · exact ⟨q, hq, hpre.subset hy⟩
  refine ⟨h3, by have := h.mass; omega, ?_, ?_, ?_, ?_⟩
  · intro hV q hq y hy
    obtain ⟨p, hp, x, hx, e⟩ := h2 q hq
    exact (okP_iff.1 (h.sound hV p hp x hx)).2 y (by rw [← e]; exact hy)
  · intro q hq y hy
    obtain ⟨p, hp, x, hx, e⟩ := h2 q hq
    have d1 := h.deep p hp x hx
    have d2 := dp_kid (V := x) (v := y) (by rw [← e]; exact hy)
    omega
  · intro hB
    refine h.whole fun p hp x hx => okP_iff.2 ⟨(h1 p hp x hx).1, fun y hy => ?_⟩
    obtain ⟨q, hq, hyq⟩ := hkid p hp x hx y hy
    exact hB q hq y hyq
  · intro d hB
    have := h.most (d + 1) fun p hp x hx => by
      rw [dp_kids]
      have : dps x.kids ≤ d := dps_le.2 fun y hy => by
        obtain ⟨q, hq, hyq⟩ := hkid p hp x hx y hy
        exact hB q hq y hyq
      omega
    omega
theorem Round.no {ds : List DataD} {V : ValueD} {i : Nat} {ST : List AtD} (h : Round ds V i ST) (hb : ∃ p ∈ ST, ∃ x ∈ p.2.2, ¬ OkL ds x) : rightB ds V = false := by
  obtain ⟨p, hp, x, hx, hno⟩ := hb
  unfold rightB
  rw [okB_false fun q => hno (okP_iff.1 (h.sound q p hp x hx)).1, Bool.and_false]
theorem Round.fin {ds : List DataD} {V : ValueD} {ST : List AtD} (h : Round ds V 200 ST) : rightB ds V = decide (ST.length = 0) := by
  unfold rightB
  cases ST with
  | nil =>
    have h1 := h.most 0 (by simp)
    have h2 := h.whole (by simp)
    rw [decide_eq_true (by omega), okB_true h2]
    rfl
  | cons p ST =>
    have hl := h.len p (by simp)
    have hx : p.2.2[0] ∈ p.2.2 := List.getElem_mem hl
    have h1 := h.deep p (by simp) _ hx
    have h2 := dp_pos p.2.2[0]
    rw [decide_eq_false (show ¬ dp V ≤ 200 by omega), Bool.false_and]
    rfl

set_option maxRecDepth 100000 in
set_option maxHeartbeats 4000000 in
theorem implValueOk (ds : List DataD) (V : ValueD) (v : Value) (cs : List Value) (w : World) (hd : ds.length + data.wts ds ≤ 1048576) (hw : wt V ≤ 1048576) (hdv : data.dataSh.slice.rep w (fun b => b < w.heap.size ∧ Plain w b) [v] ds) (h : valueSh.rep w (fun b => b < w.heap.size ∧ Plain w b) cs V) :
    Calls Tryz.prog 9 #[v, .agg cs.toArray] w fun e w' => e = .returned (.bool (rightB ds V)) ∧ Below w.heap.size w w' := by
  have o0 := data.dataSh.slice.one hdv v (by simp)
  have one := valueSh.one h
  obtain ⟨v0, v1, v2, v3, rfl⟩ := value_list h
  have p0 := one v0 (by simp)
  have p1 := one v1 (by simp)
  have p2 := one v2 (by simp)
  have p3 := one v3 (by simp)
  obtain ⟨w0, hw0⟩ : ∃ w0, w0 = w.alloc (.cells #[v0, v1, v2, v3] 26) := ⟨_, rfl⟩
  have HW0 : Hid (w0 = w.alloc (.cells #[v0, v1, v2, v3] 26)) := hw0
  have T1 : Hid (w0.heap[w.heap.size]? = some (.cells #[v0, v1, v2, v3] 26)) := by show _ = _; rw [hw0]; exact alloc_top _ _
  have B0 : Hid (Below w.heap.size w w0) := by show Below _ _ _; rw [hw0]; exact (Below.refl _ _).alloc (Nat.le_refl _) _
  have Z0 : Hid (w0.heap.size = w.heap.size + 1) := by show _ = _; rw [hw0]; simp
  have HV : Hid (valueSh.rep w (fun b => b < w.heap.size ∧ Plain w b) [v0, v1, v2, v3] V) := h
  have HDV : Hid (data.dataSh.slice.rep w0 (· < w0.heap.size) [v] ds) := data.dataSh.slice.mono (data.dataSh.slice.on hdv fun b hb => B0.out.block b hb.1) fun b hb => Nat.lt_of_lt_of_le hb.1 B0.out.size
  have HWT : Hid (wt V ≤ 1048576) := hw
  clear hw0 h hdv one hw
  go_enter Tryz.func9, Tryz.ntmps9
  go_wp2_with fail
  rw [← HW0.out]
  refine (data.kidsByCon_any ds v w0 hd HDV.out).mono ?_
  rintro e w1 ⟨rfl, hb, D, nm, hM, hA⟩
  have hz1 : w0.heap.size < w1.heap.size := by
    obtain ⟨es, clock, h1, -⟩ := hM
    exact (Array.getElem?_eq_some_iff.1 h1).1
  have HMA : Hid (w1.ownsMap Tryz.prog 9 (plainElem Tryz.prog 3) w0.heap.size nm D ∧ data.Arity D (data.spots 0 0 ds)) := ⟨hM, hA⟩
  have B1 : Hid (Below w.heap.size w w1) := B0.out.trans (hb.mono B0.out.size)
  have TC : Hid (w1.heap[w.heap.size]? = some (.cells #[v0, v1, v2, v3] 26)) := (hb.block _ (Array.getElem?_eq_some_iff.1 T1.out).1).trans T1.out
  clear hb hM hA
  have e0 : w1.cell? ⟨w.heap.size, 0, none⟩ = some v0 := by simp [World.cell?, TC.out]
  have e1 : w1.cell? ⟨w.heap.size, 1, none⟩ = some v1 := by simp [World.cell?, TC.out]
  have e2 : w1.cell? ⟨w.heap.size, 2, none⟩ = some v2 := by simp [World.cell?, TC.out]
  have e3 : w1.cell? ⟨w.heap.size, 3, none⟩ = some v3 := by simp [World.cell?, TC.out]
  obtain ⟨w2, hw2⟩ : ∃ w2, w2 = (w1.alloc (.cells #[v0, v1, v2, v3] 26)).alloc (.cells #[.slice (some ⟨w1.heap.size, 0, none⟩) 1 1] 24) := ⟨_, rfl⟩
  have HW2 : Hid (w2 = (w1.alloc (.cells #[v0, v1, v2, v3] 26)).alloc (.cells #[.slice (some ⟨w1.heap.size, 0, none⟩) 1 1] 24)) := hw2
  have B2 : Hid (Below w1.heap.size w1 w2) := by show Below _ _ _; rw [hw2]; exact ((Below.refl _ _).alloc (Nat.le_refl _) _).alloc (by simp) _
  have Z2 : Hid (w2.heap.size = w1.heap.size + 2) := by show _ = _; rw [hw2]; simp
  have S2 : Hid (atSh.slice.rep w2 (fun b => b < w2.heap.size ∧ Plain w2 b) [.slice (some ⟨w1.heap.size + 1, 0, none⟩) 1 1] [(some ⟨w1.heap.size, 0, none⟩, 1, [V])]) := by
    have k1 : w2.heap[w1.heap.size]? = some (.cells [v0, v1, v2, v3].toArray 26) := by rw [hw2, Below.heap_alloc _ _ _ (by simp)]; exact alloc_top _ _
    have k2 : w2.heap[w1.heap.size + 1]? = some (.cells [Value.slice (some ⟨w1.heap.size, 0, none⟩) 1 1].toArray 24) := by
      rw [hw2]
      have := alloc_top (w1.alloc (.cells #[v0, v1, v2, v3] 26)) (.cells #[.slice (some ⟨w1.heap.size, 0, none⟩) 1 1] 24)
      rwa [World.size_alloc] at this
    have hbb : Below w.heap.size w w2 := B1.out.trans (B2.out.mono B1.out.size)
    have r1 : valueSh.rep w2 (fun b => b < w2.heap.size ∧ Plain w2 b) [v0, v1, v2, v3] V := valueSh.mono (valueSh.on HV.out fun b hb => hbb.block b hb.1) fun b hb => ⟨Nat.lt_of_lt_of_le hb.1 hbb.size, hb.2.on (hbb.block b hb.1)⟩
    refine one_row atSh (w1.heap.size + 1) _ _ _ k2 ⟨by rw [Z2.out]; omega, _, _, k2⟩ ⟨rfl, ?_⟩
    exact one_row valueSh w1.heap.size _ _ V k1 ⟨by rw [Z2.out]; omega, _, _, k1⟩ r1
  clear hw2
  go_wp2
  rw [← HW2.out]
  go_loopw [6, 14] (fun v6 v14 wr => ∃ (ST : List AtD) (i : Nat), i ≤ 200 ∧ v14 = .int .i64 i ∧ Hid (Round ds V i ST ∧ atSh.slice.rep wr (fun b => b < wr.heap.size ∧ Plain wr b) [v6] ST ∧ Below w1.heap.size w1 wr)) (fun _ v14 _ => 200 - (intOf v14).toNat)
  case atStart => exact ⟨_, 0, Nat.zero_le _, rfl, Round.start _ _ HWT.out, S2.out, B2.out⟩
  case round =>
    obtain ⟨ST, i, hi, rfl, HI⟩ := hrel
    have ho := atSh.slice.one HI.out.2.1 u6 (by simp)
    by_cases hlt : i < 200
    · have hcall := okStorey_any ds ST u6 w0.heap.size nm D wr (data.owns_low HMA.out.1 HI.out.2.2 hz1) HMA.out.2 (Nat.lt_of_lt_of_le hz1 HI.out.2.2.size) HI.out.1.len HI.out.1.mass HI.out.2.1
      go_wp2_with fail
      refine hcall.mono ?_
      clear hcall
      rintro e w3 ⟨hb, hor⟩
      have B3 : Hid (Below w1.heap.size w1 w3) := HI.out.2.2.trans (hb.mono HI.out.2.2.size)
      clear hb
      rcases hor with ⟨rfl, hno⟩ | ⟨v', B, rfl, q1, q2, q3, q4, q5⟩
      · have Q : Hid (rightB ds V = false) := HI.out.1.no hno
        clear hno
        go_wp2
        go_ret
        exact ⟨ret_b Q.out.symm, B1.out.trans (B3.out.mono B1.out.size)⟩
      · have Q : Hid (Round ds V (i + 1) B ∧ atSh.slice.rep w3 (fun b => b < w3.heap.size ∧ Plain w3 b) [v'] B) := ⟨HI.out.1.step q1 q2 q3 q4, q5⟩
        clear q1 q2 q3 q4 q5
        go_wp2
        go_round
        case rel => exact ⟨B, i + 1, by omega, by go_num, Q.out.1, Q.out.2, B3.out⟩
        case measure => simp [intOf]; omega
    · obtain rfl : i = 200 := by omega
      obtain ⟨sa, sc, csS, e, hcap, hmax, -, -, -⟩ := HI.out.2.1
      simp only [List.cons.injEq, and_true] at e
      have Q : Hid (rightB ds V = decide (ST.length = 0)) := HI.out.1.fin
      have B3 : Hid (Below w1.heap.size w1 wr) := HI.out.2.2
      clear HI
      subst e
      have hsl : (ST.length : Int) ≤ 9223372036854775807 := by unfold maxLen at hmax; omega
      clear hmax hcap
      go_wp2
      go_ret
      refine ⟨ret_b ?_, B1.out.trans (B3.out.mono B1.out.size)⟩
      rw [Q.out]
      by_cases hs : ST.length = 0
      · simp [hs]
      · rw [decide_eq_false hs]
        first | (simp; omega) | simpa using hs

end Go.Proofs.YtpdmdcoaaboikaaGreatDoor.value
