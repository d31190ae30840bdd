/-
  The program's ValueOk, at every list of datas and value that lie in rows of cells which nothing froze; nothing that was there is turned.
  Whether a pattern fits a value, told of trees: what the model's Fits and the program's are held against.
  What a pattern asks for, and what a value is: the program's isAnything, headOf, conHead, shapeHead and toldShape.
-/
import Derived.Laws.Strings
import Derived.Deep.RegionWith
import Derived.Deep.RegionHeld3
import Derived.Sort.AtCall
import Derived.Test.YtlnpfnglphdaiaaGreatDoorB1
import Derived.Test.YtlnpfnglphdaiaaGreatDoorB2
import Derived.Test.YtlnpfnglphdaiaaGreatDoorB3
import Derived.Test.YtlnpfnglphdaiaaGreatDoorB4
import Derived.Test.YtlnpfnglphdaiaaGreatDoorB5
import Derived.Test.YtlnpfnglphdaiaaGreatDoorB6
import Derived.Test.YtlnpfnglphdaiaaGreatDoorB7
import Derived.Test.YtlnpfnglphdaiaaGreatDoorB8
import Derived.Test.YtlnpfnglphdaiaaGreatDoorB9
import Derived.Test.YtlnpfnglphdaiaaGreatDoorB10
import Derived.Test.YtlnpfnglphdaiaaGreatDoorB11
import Derived.Test.YtlnpfnglphdaiaaGreatDoorB12
import Derived.Test.YtlnpfnglphdaiaaGreatDoorB13
import Derived.Test.YtlnpfnglphdaiaaGreatDoorB14
import Derived.Test.YtlnpfnglphdaiaaGreatDoorB15
import Derived.Test.YtlnpfnglphdaiaaGreatDoorB16
import Derived.Test.YtlnpfnglphdaiaaGreatDoorB17
import Derived.Test.YtlnpfnglphdaiaaGreatDoorB18
import Derived.Test.YtlnpfnglphdaiaaGreatDoorB19
import Derived.Test.YtlnpfnglphdaiaaGreatDoorB20
import Derived.Test.YtlnpfnglphdaiaaGreatDoorB21
import Derived.Test.YtlnpfnglphdaiaaGreatDoorB22
import Derived.Test.YtlnpfnglphdaiaaGreatDoorB23
import Derived.Test.YtlnpfnglphdaiaaGreatDoorB24
import Derived.Test.YtlnpfnglphdaiaaGreatDoorB25
import Derived.Test.YtlnpfnglphdaiaaGreatDoorB26
import Derived.Test.YtlnpfnglphdaiaaGreatDoorB27
import Derived.Test.YtlnpfnglphdaiaaGreatDoorB28
import Derived.Test.YtlnpfnglphdaiaaGreatDoorB29
import Derived.Test.YtlnpfnglphdaiaaGreatDoorB30
import Derived.Test.YtlnpfnglphdaiaaGreatDoorB31
import Derived.Test.YtlnpfnglphdaiaaGreatDoorB32
import Derived.Test.YtlnpfnglphdaiaaGreatDoorB33
import Derived.Test.YtlnpfnglphdaiaaGreatDoorB34
import Derived.Test.YtlnpfnglphdaiaaGreatDoorB35
import Derived.Test.YtlnpfnglphdaiaaGreatDoorB36
import Derived.Test.YtlnpfnglphdaiaaGreatDoorB37
import Derived.Test.YtlnpfnglphdaiaaGreatDoorB38
import Derived.Test.YtlnpfnglphdaiaaGreatDoorB39
import Derived.Test.YtlnpfnglphdaiaaGreatDoorB40
import Derived.Test.YtlnpfnglphdaiaaGreatDoorB41
namespace Go.Proofs.YtlnpfnglphdaiaaGreatDoor.value
open Go Go.RowKit Go.Maps Go.Deep Go.Proofs.YtlnpfnglphdaiaaGreatDoor.rose Go.Proofs.YtlnpfnglphdaiaaGreatDoor
set_option linter.unusedVariables false
set_option linter.unusedSimpArgs false

theorem one_row {α : Type} (A : Sh α) {w : World} {S : Nat → Prop} (g : Nat) (cs : List Value) (t : TypeId) (X : α) (hg : w.heap[g]? = some (.cells cs.toArray t)) (hS : S g) (hr : A.rep w S cs X) : A.slice.rep w S [.slice (some ⟨g, 0, none⟩) 1 1] [X] := by
  refine ⟨some ⟨g, 0, none⟩, 1, fun _ => cs, rfl, Nat.le_refl _, by unfold maxLen; omega, (fun h => by cases h), fun i hi => ⟨g, 0, rfl, hS, ?_⟩, fun i hi => ?_⟩
  · have : i = 0 := by simp at hi; omega
    subst this
    intro j u hj
    simp only [World.cell?, hg, Nat.zero_mul, Nat.zero_add]
    simpa using hj
  · have : i = 0 := by simp at hi; omega
    subst this
    exact hr

/-- What holds ahead of round i: ST are the lists of that storey. -/
structure Round (ds : List DataD) (V : ValueD) (i : Nat) (ST : List AtD) : Prop where
  len : ∀ p ∈ ST, 0 < p.2.2.length
  mass : mass ST ≤ 1048577
  sound : OkP ds V → ∀ p ∈ ST, ∀ x ∈ p.2.2, OkP ds x
  deep : ∀ p ∈ ST, ∀ x ∈ p.2.2, i + dp x ≤ dp V
  whole : (∀ p ∈ ST, ∀ x ∈ p.2.2, OkP ds x) → OkP ds V
  most : ∀ d, (∀ p ∈ ST, ∀ x ∈ p.2.2, dp x ≤ d) → dp V ≤ i + d

theorem Round.start {ds : List DataD} {V : ValueD} (a : Option Addr) (c : Nat) (hw : wt V ≤ 1048576) : Round ds V 0 [(a, c, [V])] := by
  refine ⟨by simp, ?_, ?_, ?_, ?_, ?_⟩
  · have := all_le V
    simp [value.mass, allS]; omega
  · intro h p hp x hx
    simp only [List.mem_singleton] at hp
    subst hp
    simp only [List.mem_singleton] at hx
    subst hx
    exact h
  · intro p hp x hx
    simp only [List.mem_singleton] at hp
    subst hp
    simp only [List.mem_singleton] at hx
    subst hx
    omega
  · intro h
    exact h (a, c, [V]) (by simp) V (by simp)
  · intro d h
    have := h (a, c, [V]) (by simp) V (by simp)
    omega
theorem Round.step {ds : List DataD} {V : ValueD} {i : Nat} {ST B : List AtD} (h : Round ds V i ST) (h1 : ∀ p ∈ ST, ∀ x ∈ p.2.2, OkL ds x ∧ Cov B x) (h2 : ∀ q ∈ B, ∃ p ∈ ST, ∃ x ∈ p.2.2, q.2.2 = x.kids) (h3 : ∀ q ∈ B, 0 < q.2.2.length) (h4 : value.mass B ≤ value.mass ST) : Round ds V (i + 1) B := by
  have hkid : ∀ p ∈ ST, ∀ x ∈ p.2.2, ∀ y ∈ x.kids, ∃ q ∈ B, y ∈ q.2.2 := fun p hp x hx y hy => by
    rcases (h1 p hp x hx).2 with hn | ⟨q, hq, hpre⟩
    · rw [hn] at hy; cases hy
    · exact ⟨q, hq, hpre.subset hy⟩
  refine ⟨h3, by have := h.mass; omega, ?_, ?_, ?_, ?_⟩
  · intro hV q hq y hy
    obtain ⟨p, hp, x, hx, e⟩ := h2 q hq
    exact (okP_iff.1 (h.sound hV p hp x hx)).2 y (by rw [← e]; exact hy)
  · intro q hq y hy
    obtain ⟨p, hp, x, hx, e⟩ := h2 q hq
    have d1 := h.deep p hp x hx
    have d2 := dp_kid (V := x) (v := y) (by rw [← e]; exact hy)
    omega
  · intro hB
    refine h.whole fun p hp x hx => okP_iff.2 ⟨(h1 p hp x hx).1, fun y hy => ?_⟩
    obtain ⟨q, hq, hyq⟩ := hkid p hp x hx y hy
    exact hB q hq y hyq
  · intro d hB
    have := h.most (d + 1) fun p hp x hx => by
      rw [dp_kids]
      have : dps x.kids ≤ d := dps_le.2 fun y hy => by
        obtain ⟨q, hq, hyq⟩ := hkid p hp x hx y hy
        exact hB q hq y hyq
      omega
    omega
theorem Round.no {ds : List DataD} {V : ValueD} {i : Nat} {ST : List AtD} (h : Round ds V i ST) (hb : ∃ p ∈ ST, ∃ x ∈ p.2.2, ¬ OkL ds x) : rightB ds V = false := by
  obtain ⟨p, hp, x, hx, hno⟩ := hb
  unfold rightB
  rw [okB_false fun q => hno (okP_iff.1 (h.sound q p hp x hx)).1, Bool.and_false]
theorem Round.fin {ds : List DataD} {V : ValueD} {ST : List AtD} (h : Round ds V 200 ST) : rightB ds V = decide (ST.length = 0) := by
  unfold rightB
  cases ST with
  | nil =>
    have h1 := h.most 0 (by simp)
    have h2 := h.whole (by simp)
    rw [decide_eq_true (by omega), okB_true h2]
    rfl
  | cons p ST =>
    have hl := h.len p (by simp)
    have hx : p.2.2[0] ∈ p.2.2 := List.getElem_mem hl
    have h1 := h.deep p (by simp) _ hx
    have h2 := dp_pos p.2.2[0]
    rw [decide_eq_false (show ¬ dp V ≤ 200 by omega), Bool.false_and]
    rfl

set_option maxRecDepth 100000 in
set_option maxHeartbeats 4000000 in
theorem implValueOk (ds : List DataD) (V : ValueD) (v : Value) (cs : List Value) (w : World) (hd : ds.length + data.wts ds ≤ 1048576) (hw : wt V ≤ 1048576) (hdv : data.dataSh.slice.rep w (fun b => b < w.heap.size ∧ Plain w b) [v] ds) (h : valueSh.rep w (fun b => b < w.heap.size ∧ Plain w b) cs V) :
    Calls Tryz.prog 9 #[v, .agg cs.toArray] w fun e w' => e = .returned (.bool (rightB ds V)) ∧ Below w.heap.size w w' := by
  have o0 := data.dataSh.slice.one hdv v (by simp)
  have one := valueSh.one h
  obtain ⟨v0, v1, v2, v3, rfl⟩ := value_list h
  have p0 := one v0 (by simp)
  have p1 := one v1 (by simp)
  have p2 := one v2 (by simp)
  have p3 := one v3 (by simp)
  obtain ⟨w0, hw0⟩ : ∃ w0, w0 = w.alloc (.cells #[v0, v1, v2, v3] 26) := ⟨_, rfl⟩
  have HW0 : Hid (w0 = w.alloc (.cells #[v0, v1, v2, v3] 26)) := hw0
  have T1 : Hid (w0.heap[w.heap.size]? = some (.cells #[v0, v1, v2, v3] 26)) := by show _ = _; rw [hw0]; exact alloc_top _ _
  have B0 : Hid (Below w.heap.size w w0) := by show Below _ _ _; rw [hw0]; exact (Below.refl _ _).alloc (Nat.le_refl _) _
  have Z0 : Hid (w0.heap.size = w.heap.size + 1) := by show _ = _; rw [hw0]; simp
  have HV : Hid (valueSh.rep w (fun b => b < w.heap.size ∧ Plain w b) [v0, v1, v2, v3] V) := h
  have HDV : Hid (data.dataSh.slice.rep w0 (· < w0.heap.size) [v] ds) := data.dataSh.slice.mono (data.dataSh.slice.on hdv fun b hb => B0.out.block b hb.1) fun b hb => Nat.lt_of_lt_of_le hb.1 B0.out.size
  have HWT : Hid (wt V ≤ 1048576) := hw
  clear hw0 h hdv one hw
  go_enter Tryz.func9, Tryz.ntmps9
  go_wp2_with fail
  rw [← HW0.out]
  refine (data.kidsByCon_any ds v w0 hd HDV.out).mono ?_
  rintro e w1 ⟨rfl, hb, D, nm, hM, hA⟩
  have hz1 : w0.heap.size < w1.heap.size := by
    obtain ⟨es, clock, h1, -⟩ := hM
    exact (Array.getElem?_eq_some_iff.1 h1).1
  have HMA : Hid (w1.ownsMap Tryz.prog 9 (plainElem Tryz.prog 3) w0.heap.size nm D ∧ data.Arity D (data.spots 0 0 ds)) := ⟨hM, hA⟩
  have B1 : Hid (Below w.heap.size w w1) := B0.out.trans (hb.mono B0.out.size)
  have TC : Hid (w1.heap[w.heap.size]? = some (.cells #[v0, v1, v2, v3] 26)) := (hb.block _ (Array.getElem?_eq_some_iff.1 T1.out).1).trans T1.out
  clear hb hM hA
  have e0 : w1.cell? ⟨w.heap.size, 0, none⟩ = some v0 := by simp [World.cell?, TC.out]
  have e1 : w1.cell? ⟨w.heap.size, 1, none⟩ = some v1 := by simp [World.cell?, TC.out]
  have e2 : w1.cell? ⟨w.heap.size, 2, none⟩ = some v2 := by simp [World.cell?, TC.out]
  have e3 : w1.cell? ⟨w.heap.size, 3, none⟩ = some v3 := by simp [World.cell?, TC.out]
  obtain ⟨w2, hw2⟩ : ∃ w2, w2 = (w1.alloc (.cells #[v0, v1, v2, v3] 26)).alloc (.cells #[.slice (some ⟨w1.heap.size, 0, none⟩) 1 1] 24) := ⟨_, rfl⟩
  have HW2 : Hid (w2 = (w1.alloc (.cells #[v0, v1, v2, v3] 26)).alloc (.cells #[.slice (some ⟨w1.heap.size, 0, none⟩) 1 1] 24)) := hw2
  have B2 : Hid (Below w1.heap.size w1 w2) := by show Below _ _ _; rw [hw2]; exact ((Below.refl _ _).alloc (Nat.le_refl _) _).alloc (by simp) _
  have Z2 : Hid (w2.heap.size = w1.heap.size + 2) := by show _ = _; rw [hw2]; simp
  have S2 : Hid (atSh.slice.rep w2 (fun b => b < w2.heap.size ∧ Plain w2 b) [.slice (some ⟨w1.heap.size + 1, 0, none⟩) 1 1] [(some ⟨w1.heap.size, 0, none⟩, 1, [V])]) := by
    have k1 : w2.heap[w1.heap.size]? = some (.cells [v0, v1, v2, v3].toArray 26) := by rw [hw2, Below.heap_alloc _ _ _ (by simp)]; exact alloc_top _ _
    have k2 : w2.heap[w1.heap.size + 1]? = some (.cells [Value.slice (some ⟨w1.heap.size, 0, none⟩) 1 1].toArray 24) := by
      rw [hw2]
      have := alloc_top (w1.alloc (.cells #[v0, v1, v2, v3] 26)) (.cells #[.slice (some ⟨w1.heap.size, 0, none⟩) 1 1] 24)
      rwa [World.size_alloc] at this
    have hbb : Below w.heap.size w w2 := B1.out.trans (B2.out.mono B1.out.size)
    have r1 : valueSh.rep w2 (fun b => b < w2.heap.size ∧ Plain w2 b) [v0, v1, v2, v3] V := valueSh.mono (valueSh.on HV.out fun b hb => hbb.block b hb.1) fun b hb => ⟨Nat.lt_of_lt_of_le hb.1 hbb.size, hb.2.on (hbb.block b hb.1)⟩
    refine one_row atSh (w1.heap.size + 1) _ _ _ k2 ⟨by rw [Z2.out]; omega, _, _, k2⟩ ⟨rfl, ?_⟩
    exact one_row valueSh w1.heap.size _ _ V k1 ⟨by rw [Z2.out]; omega, _, _, k1⟩ r1
  clear hw2
  go_wp2
  rw [← HW2.out]
  go_loopw [6, 14] (fun v6 v14 wr => ∃ (ST : List AtD) (i : Nat), i ≤ 200 ∧ v14 = .int .i64 i ∧ Hid (Round ds V i ST ∧ atSh.slice.rep wr (fun b => b < wr.heap.size ∧ Plain wr b) [v6] ST ∧ Below w1.heap.size w1 wr)) (fun _ v14 _ => 200 - (intOf v14).toNat)
  case atStart => exact ⟨_, 0, Nat.zero_le _, rfl, Round.start _ _ HWT.out, S2.out, B2.out⟩
  case round =>
    obtain ⟨ST, i, hi, rfl, HI⟩ := hrel
    have ho := atSh.slice.one HI.out.2.1 u6 (by simp)
    by_cases hlt : i < 200
    · have hcall := okStorey_any ds ST u6 w0.heap.size nm D wr (data.owns_low HMA.out.1 HI.out.2.2 hz1) HMA.out.2 (Nat.lt_of_lt_of_le hz1 HI.out.2.2.size) HI.out.1.len HI.out.1.mass HI.out.2.1
      go_wp2_with fail
      refine hcall.mono ?_
      clear hcall
      rintro e w3 ⟨hb, hor⟩
      have B3 : Hid (Below w1.heap.size w1 w3) := HI.out.2.2.trans (hb.mono HI.out.2.2.size)
      clear hb
      rcases hor with ⟨rfl, hno⟩ | ⟨v', B, rfl, q1, q2, q3, q4, q5⟩
      · have Q : Hid (rightB ds V = false) := HI.out.1.no hno
        clear hno
        go_wp2
        go_ret
        exact ⟨ret_b Q.out.symm, B1.out.trans (B3.out.mono B1.out.size)⟩
      · have Q : Hid (Round ds V (i + 1) B ∧ atSh.slice.rep w3 (fun b => b < w3.heap.size ∧ Plain w3 b) [v'] B) := ⟨HI.out.1.step q1 q2 q3 q4, q5⟩
        clear q1 q2 q3 q4 q5
        go_wp2
        go_round
        case rel => exact ⟨B, i + 1, by omega, by go_num, Q.out.1, Q.out.2, B3.out⟩
        case measure => simp [intOf]; omega
    · obtain rfl : i = 200 := by omega
      obtain ⟨sa, sc, csS, e, hcap, hmax, -, -, -⟩ := HI.out.2.1
      simp only [List.cons.injEq, and_true] at e
      have Q : Hid (rightB ds V = decide (ST.length = 0)) := HI.out.1.fin
      have B3 : Hid (Below w1.heap.size w1 wr) := HI.out.2.2
      clear HI
      subst e
      have hsl : (ST.length : Int) ≤ 9223372036854775807 := by unfold maxLen at hmax; omega
      clear hmax hcap
      go_wp2
      go_ret
      refine ⟨ret_b ?_, B1.out.trans (B3.out.mono B1.out.size)⟩
      rw [Q.out]
      by_cases hs : ST.length = 0
      · simp [hs]
      · rw [decide_eq_false hs]
        first | (simp; omega) | simpa using hs

end Go.Proofs.YtlnpfnglphdaiaaGreatDoor.value

namespace Go.Proofs.YtlnpfnglphdaiaaGreatDoor.fits
open Go Go.RowKit Go.Proofs.YtlnpfnglphdaiaaGreatDoor.rose Go.Proofs.YtlnpfnglphdaiaaGreatDoor
set_option linter.unusedVariables false

abbrev Nd := node.Nd
abbrev ValueD := value.ValueD
abbrev ndSh := node.ndSh
abbrev valueSh := value.valueSh

theorem bytes_ext {a b : ByteArray} (h : a.toList = b.toList) : a = b := by
  rw [ByteArray.toList_eq, ByteArray.toList_eq] at h
  obtain ⟨⟨x⟩⟩ := a
  obtain ⟨⟨y⟩⟩ := b
  simp at h
  rw [h]

mutual
/-- A pattern fits a value. -/
def FitsP : Nd → ValueD → Prop
  | .mk x ks, V => x.1 = 17 ∨ x.1 = 18 ∨ (x.1 = 19 ∧ V.x.1 = 1 ∧ V.x.2.1 = x.2.1) ∨ (x.1 = 20 ∧ V.x.1 = 2 ∧ V.x.2.2 = x.2.2.1 ∧ V.kids.length = ks.length ∧ FitsS ks V.kids)
def FitsS : List Nd → List ValueD → Prop
  | [], _ => True
  | k :: ks, vs => ∀ v r, vs = v :: r → FitsP k v ∧ FitsS ks r
end

theorem fitsS_iff {ks : List Nd} : ∀ {vs : List ValueD}, FitsS ks vs ↔ ∀ i (h : i < ks.length) (h' : i < vs.length), FitsP ks[i] vs[i] := by
  induction ks with
  | nil => intro vs; simp [FitsS]
  | cons k ks ih =>
    intro vs
    cases vs with
    | nil => simp [FitsS]
    | cons v r =>
      constructor
      · intro h i h1 h2
        rw [FitsS] at h
        obtain ⟨h3, h4⟩ := h v r rfl
        cases i with
        | zero => exact h3
        | succ i => exact ih.1 h4 i (by simpa using h1) (by simpa using h2)
      · intro h
        rw [FitsS]
        intro v' r' e
        cases e
        exact ⟨h 0 (by simp) (by simp), ih.2 fun i h1 h2 => h (i + 1) (by simpa using h1) (by simpa using h2)⟩

theorem fitsP_iff {x : node.Pay} {ks : List Nd} {y : value.Pay} {vs : List ValueD} : FitsP (.mk x ks) (.mk y vs) ↔ x.1 = 17 ∨ x.1 = 18 ∨ (x.1 = 19 ∧ y.1 = 1 ∧ y.2.1 = x.2.1) ∨ (x.1 = 20 ∧ y.1 = 2 ∧ y.2.2 = x.2.2.1 ∧ vs.length = ks.length ∧ ∀ i (h : i < ks.length) (h' : i < vs.length), FitsP ks[i] vs[i]) := by
  rw [FitsP, ← fitsS_iff]
  exact Iff.rfl

noncomputable def fitsB (p : Nd) (v : ValueD) : Bool := @decide (FitsP p v) (Classical.propDecidable _)
theorem fitsB_true {p : Nd} {v : ValueD} (h : FitsP p v) : fitsB p v = true := by unfold fitsB; exact @decide_eq_true _ (Classical.propDecidable _) h
theorem fitsB_false {p : Nd} {v : ValueD} (h : ¬ FitsP p v) : fitsB p v = false := by unfold fitsB; exact @decide_eq_false _ (Classical.propDecidable _) h
theorem fitsB_iff {p : Nd} {v : ValueD} : fitsB p v = true ↔ FitsP p v := by
  by_cases h : FitsP p v
  · simp [fitsB_true h, h]
  · simp [fitsB_false h, h]

theorem ret_b {a b : Bool} (h : a = b) : Ending.returned (.bool a) = Ending.returned (.bool b) := by rw [h]

end Go.Proofs.YtlnpfnglphdaiaaGreatDoor.fits

namespace Go.Proofs.YtlnpfnglphdaiaaGreatDoor.fits
open Go Go.RowKit Go.Proofs.YtlnpfnglphdaiaaGreatDoor.rose Go.Proofs.YtlnpfnglphdaiaaGreatDoor
set_option linter.unusedVariables false
set_option linter.unusedSimpArgs false

/-- A head: op, number, name, how many kids. -/
abbrev Hd := Int × Int × ByteArray × Int
def hdV (h : Hd) : Value := .agg #[.int .i64 h.1, .int .i64 h.2.1, .string h.2.2.1, .int .i64 h.2.2.2]
def asked (op n : Int) (s : ByteArray) (m : Int) : Hd := if op = 20 then (20, 0, s, m) else if op = 19 then (19, n, ⟨#[]⟩, 0) else (0, 0, ⟨#[]⟩, 0)
def owned (k n : Int) (s : ByteArray) (m : Int) : Hd := if k = 1 then (19, n, ⟨#[]⟩, 0) else if k = 2 then (20, 0, s, m) else (0, 0, ⟨#[]⟩, 0)

/-- What holds of a pattern that is not anything and a value, kids aside. -/
def Loc (T : Nd) (V : ValueD) : Prop := (T.x.1 = 19 ∧ V.x.1 = 1 ∧ V.x.2.1 = T.x.2.1) ∨ (T.x.1 = 20 ∧ V.x.1 = 2 ∧ V.x.2.2 = T.x.2.2.1 ∧ V.kids.length = T.kids.length)

theorem loc_iff {x0 x1 : Int} {x2 x3 : ByteArray} {ks : List Nd} {y0 y1 : Int} {y2 : ByteArray} {vs : List ValueD} : Loc (.mk (x0, x1, x2, x3) ks) (.mk (y0, y1, y2) vs) ↔ ((x0 = 20 ∨ x0 = 19) ∧ asked x0 x1 x2 ks.length = owned y0 y1 y2 vs.length) := by
  simp only [Loc, Rose.x, Rose.kids, asked, owned]
  constructor
  · rintro (⟨rfl, rfl, rfl⟩ | ⟨rfl, rfl, rfl, h⟩)
    · simp
    · simp [h]
  · rintro ⟨rfl | rfl, h⟩
    · right
      rw [if_pos rfl] at h
      by_cases h1 : y0 = 1
      · rw [if_pos h1] at h; simp at h
      · rw [if_neg h1] at h
        by_cases h2 : y0 = 2
        · rw [if_pos h2] at h
          simp at h
          exact ⟨rfl, h2, h.1.symm, by omega⟩
        · rw [if_neg h2] at h; simp at h
    · left
      rw [if_neg (by decide), if_pos rfl] at h
      by_cases h1 : y0 = 1
      · rw [if_pos h1] at h
        simp at h
        exact ⟨rfl, h1, h.symm⟩
      · rw [if_neg h1] at h
        by_cases h2 : y0 = 2
        · rw [if_pos h2] at h; simp at h
        · rw [if_neg h2] at h; simp at h

set_option maxHeartbeats 1000000 in
theorem conHead_any (s : ByteArray) (m : Int) (w : World) :
    Calls Tryz.prog 54 #[.string s, .int .i64 m] w fun e w' => e = .returned (.agg #[.int .i64 20, .int .i64 0, .string s, .int .i64 m]) ∧ Below w.heap.size w w' := by
  go_enter Tryz.func54, Tryz.ntmps54
  go_wp2
  refine bodyPost_ret (v := .agg #[.int .i64 20, .int .i64 0, .string s, .int .i64 m]) (by simp [results, Tryz.f54, go_sem]) rfl ?_
  refine ⟨rfl, ?_⟩
  repeat first | with_reducible exact Below.refl _ _ | (refine Below.setCell ?_ (by first | (simp; done) | (simp; omega)) _) | (refine Below.alloc ?_ (by first | (simp; done) | (simp; omega)) _)

set_option maxHeartbeats 1000000 in
theorem anything_any (x0 x1 : Int) (x2 x3 : ByteArray) (a : Option Addr) (n c : Nat) (w : World) :
    Calls Tryz.prog 36 #[.agg #[.int .i64 x0, .int .i64 x1, .string x2, .string x3, .slice a n c]] w fun e w' => e = .returned (.bool (decide (x0 = 17 ∨ x0 = 18))) ∧ Below w.heap.size w w' := by
  have B0 : Hid (Below w.heap.size w (w.alloc (.cells #[.int .i64 x0, .int .i64 x1, .string x2, .string x3, .slice a n c] 36))) := (Below.refl _ _).alloc (Nat.le_refl _) _
  by_cases h : x0 = 17
  · subst h
    go_enter Tryz.func36, Tryz.ntmps36
    go_wp2
    go_ret
    exact ⟨rfl, B0.out⟩
  · by_cases h' : x0 = 18
    · subst h'
      go_enter Tryz.func36, Tryz.ntmps36
      go_wp2
      go_ret
      exact ⟨rfl, B0.out⟩
    · have R : Hid (decide (x0 = 17 ∨ x0 = 18) = false) := by show _ = _; simp [h, h']
      go_enter Tryz.func36, Tryz.ntmps36
      go_wp2
      go_ret
      exact ⟨ret_b (by rw [R.out]; simp [h, h']), B0.out⟩

set_option maxHeartbeats 2000000 in
theorem headOf_any (x0 x1 : Int) (x2 x3 : ByteArray) (a : Option Addr) (n c : Nat) (hn : (n : Int) ≤ 9223372036854775807) (w : World) :
    Calls Tryz.prog 37 #[.agg #[.int .i64 x0, .int .i64 x1, .string x2, .string x3, .slice a n c]] w fun e w' => e = .returned (.tuple #[hdV (asked x0 x1 x2 n), .bool (decide (x0 = 20 ∨ x0 = 19))]) ∧ Below w.heap.size w w' := by
  by_cases h : x0 = 20
  · subst h
    have hA : asked 20 x1 x2 (n : Int) = (20, 0, x2, (n : Int)) := by simp [asked]
    rw [hA]
    clear hA
    unfold hdV
    dsimp only
    have hcall := conHead_any x2 (n : Int) ((w.alloc (.cells #[.int .i64 20, .int .i64 x1, .string x2, .string x3, .slice a n c] 36)).alloc (.cells #[.int .i64 0, .int .i64 0, .string ⟨#[]⟩, .int .i64 0] 104))
    have B0 : Hid (Below w.heap.size w ((w.alloc (.cells #[.int .i64 20, .int .i64 x1, .string x2, .string x3, .slice a n c] 36)).alloc (.cells #[.int .i64 0, .int .i64 0, .string ⟨#[]⟩, .int .i64 0] 104))) := ((Below.refl _ _).alloc (Nat.le_refl _) _).alloc (by simp) _
    have T0 : Hid (((w.alloc (.cells #[.int .i64 20, .int .i64 x1, .string x2, .string x3, .slice a n c] 36)).alloc (.cells #[.int .i64 0, .int .i64 0, .string ⟨#[]⟩, .int .i64 0] 104)).heap[w.heap.size + 1]? = some (.cells #[.int .i64 0, .int .i64 0, .string ⟨#[]⟩, .int .i64 0] 104)) := by
      have := alloc_top (w.alloc (.cells #[.int .i64 20, .int .i64 x1, .string x2, .string x3, .slice a n c] 36)) (.cells #[.int .i64 0, .int .i64 0, .string ⟨#[]⟩, .int .i64 0] 104)
      rwa [World.size_alloc] at this
    have Z0 : Hid (((w.alloc (.cells #[.int .i64 20, .int .i64 x1, .string x2, .string x3, .slice a n c] 36)).alloc (.cells #[.int .i64 0, .int .i64 0, .string ⟨#[]⟩, .int .i64 0] 104)).heap.size = w.heap.size + 2) := by show _ = _; simp
    go_enter Tryz.func37, Tryz.ntmps37
    go_wp2_with fail
    refine hcall.mono ?_
    rintro e w1 ⟨rfl, hb⟩
    have B1 : Hid (Below w.heap.size w w1) := B0.out.trans (hb.mono (by rw [Z0.out]; omega))
    have hp : w1.heap[w.heap.size + 1]? = some (.cells #[.int .i64 0, .int .i64 0, .string ⟨#[]⟩, .int .i64 0] 104) := (hb.block _ (by rw [Z0.out]; omega)).trans T0.out
    clear hcall hb T0 Z0 B0
    have c0 : w1.cell? ⟨w.heap.size + 1, 0, none⟩ = some (.int .i64 0) := by simp [World.cell?, hp]
    have c1 : w1.cell? ⟨w.heap.size + 1, 1, none⟩ = some (.int .i64 0) := by simp [World.cell?, hp]
    have c2 : w1.cell? ⟨w.heap.size + 1, 2, none⟩ = some (.string ⟨#[]⟩) := by simp [World.cell?, hp]
    have c3 : w1.cell? ⟨w.heap.size + 1, 3, none⟩ = some (.int .i64 0) := by simp [World.cell?, hp]
    have f1 : ∀ o, w1.frozen? ⟨w.heap.size + 1, o, none⟩ = false := fun o => by simp [World.frozen?, hp]
    clear hp
    go_wp2
    refine bodyPost_ret (v := .tuple #[.agg #[.int .i64 20, .int .i64 0, .string x2, .int .i64 n], .bool true]) (by simp [results, Tryz.f37, go_sem, c0, c1, c2, c3]) rfl ?_
    refine ⟨rfl, ?_⟩
    repeat first | with_reducible exact B1.out | (refine Below.setCell ?_ (by first | (simp; done) | (simp; omega)) _)
  · by_cases h' : x0 = 19
    · subst h'
      have hA : asked 19 x1 x2 (n : Int) = (19, x1, ⟨#[]⟩, 0) := by simp [asked]
      rw [hA]
      clear hA
      unfold hdV
      dsimp only
      go_enter Tryz.func37, Tryz.ntmps37
      go_wp2
      refine bodyPost_ret (v := .tuple #[.agg #[.int .i64 19, .int .i64 x1, .string ⟨#[]⟩, .int .i64 0], .bool true]) (by simp [results, Tryz.f37, go_sem]) rfl ?_
      refine ⟨rfl, ?_⟩
      repeat first | with_reducible exact Below.refl _ _ | (refine Below.setCell ?_ (by first | (simp; done) | (simp; omega)) _) | (refine Below.alloc ?_ (by first | (simp; done) | (simp; omega)) _)
    · have hA : asked x0 x1 x2 (n : Int) = (0, 0, ⟨#[]⟩, 0) := by simp [asked, h, h']
      have hd : decide (x0 = 20 ∨ x0 = 19) = false := by simp [h, h']
      rw [hA, hd]
      clear hA hd
      unfold hdV
      dsimp only
      go_enter Tryz.func37, Tryz.ntmps37
      go_wp2
      refine bodyPost_ret (v := .tuple #[.agg #[.int .i64 0, .int .i64 0, .string ⟨#[]⟩, .int .i64 0], .bool false]) (by simp [results, Tryz.f37, go_sem]) rfl ?_
      refine ⟨rfl, ?_⟩
      repeat first | with_reducible exact Below.refl _ _ | (refine Below.setCell ?_ (by first | (simp; done) | (simp; omega)) _) | (refine Below.alloc ?_ (by first | (simp; done) | (simp; omega)) _)

set_option maxHeartbeats 2000000 in
theorem shapeHead_any (y0 y1 : Int) (y2 : ByteArray) (n : Nat) (w : World) :
    Calls Tryz.prog 38 #[.int .i64 y0, .int .i64 y1, .string y2, .int .i64 n] w fun e w' => e = .returned (hdV (owned y0 y1 y2 n)) ∧ Below w.heap.size w w' := by
  by_cases h : y0 = 1
  · subst h
    have hA : owned 1 y1 y2 (n : Int) = (19, y1, ⟨#[]⟩, 0) := by simp [owned]
    rw [hA]
    clear hA
    unfold hdV
    dsimp only
    go_enter Tryz.func38, Tryz.ntmps38
    go_wp2
    refine bodyPost_ret (v := .agg #[.int .i64 19, .int .i64 y1, .string ⟨#[]⟩, .int .i64 0]) (by simp [results, Tryz.f38, go_sem]) rfl ?_
    refine ⟨rfl, ?_⟩
    repeat first | with_reducible exact Below.refl _ _ | (refine Below.setCell ?_ (by first | (simp; done) | (simp; omega)) _) | (refine Below.alloc ?_ (by first | (simp; done) | (simp; omega)) _)
  · by_cases h' : y0 = 2
    · subst h'
      have hA : owned 2 y1 y2 (n : Int) = (20, 0, y2, (n : Int)) := by simp [owned]
      rw [hA]
      clear hA
      unfold hdV
      dsimp only
      have hcall := conHead_any y2 (n : Int) (w.alloc (.cells #[.int .i64 0, .int .i64 0, .string ⟨#[]⟩, .int .i64 0] 104))
      have B0 : Hid (Below w.heap.size w (w.alloc (.cells #[.int .i64 0, .int .i64 0, .string ⟨#[]⟩, .int .i64 0] 104))) := (Below.refl _ _).alloc (Nat.le_refl _) _
      have T0 : Hid ((w.alloc (.cells #[.int .i64 0, .int .i64 0, .string ⟨#[]⟩, .int .i64 0] 104)).heap[w.heap.size]? = some (.cells #[.int .i64 0, .int .i64 0, .string ⟨#[]⟩, .int .i64 0] 104)) := alloc_top _ _
      have Z0 : Hid ((w.alloc (.cells #[.int .i64 0, .int .i64 0, .string ⟨#[]⟩, .int .i64 0] 104)).heap.size = w.heap.size + 1) := by show _ = _; simp
      go_enter Tryz.func38, Tryz.ntmps38
      go_wp2_with fail
      refine hcall.mono ?_
      rintro e w1 ⟨rfl, hb⟩
      have B1 : Hid (Below w.heap.size w w1) := B0.out.trans (hb.mono (by rw [Z0.out]; omega))
      have hp : w1.heap[w.heap.size]? = some (.cells #[.int .i64 0, .int .i64 0, .string ⟨#[]⟩, .int .i64 0] 104) := (hb.block _ (by rw [Z0.out]; omega)).trans T0.out
      clear hcall hb T0 Z0 B0
      have c0 : w1.cell? ⟨w.heap.size, 0, none⟩ = some (.int .i64 0) := by simp [World.cell?, hp]
      have c1 : w1.cell? ⟨w.heap.size, 1, none⟩ = some (.int .i64 0) := by simp [World.cell?, hp]
      have c2 : w1.cell? ⟨w.heap.size, 2, none⟩ = some (.string ⟨#[]⟩) := by simp [World.cell?, hp]
      have c3 : w1.cell? ⟨w.heap.size, 3, none⟩ = some (.int .i64 0) := by simp [World.cell?, hp]
      have f1 : ∀ o, w1.frozen? ⟨w.heap.size, o, none⟩ = false := fun o => by simp [World.frozen?, hp]
      clear hp
      go_wp2
      refine bodyPost_ret (v := .agg #[.int .i64 20, .int .i64 0, .string y2, .int .i64 n]) (by simp [results, Tryz.f38, go_sem, c0, c1, c2, c3]) rfl ?_
      refine ⟨rfl, ?_⟩
      repeat first | with_reducible exact B1.out | (refine Below.setCell ?_ (by first | (simp; done) | (simp; omega)) _)
    · have hA : owned y0 y1 y2 (n : Int) = (0, 0, ⟨#[]⟩, 0) := by simp [owned, h, h']
      rw [hA]
      clear hA
      unfold hdV
      dsimp only
      go_enter Tryz.func38, Tryz.ntmps38
      go_wp2
      refine bodyPost_ret (v := .agg #[.int .i64 0, .int .i64 0, .string ⟨#[]⟩, .int .i64 0]) (by simp [results, Tryz.f38, go_sem]) rfl ?_
      refine ⟨rfl, ?_⟩
      repeat first | with_reducible exact Below.refl _ _ | (refine Below.setCell ?_ (by first | (simp; done) | (simp; omega)) _) | (refine Below.alloc ?_ (by first | (simp; done) | (simp; omega)) _)

theorem cell_drewF {w : World} {a : Addr} : w.drew.cell? a = w.cell? a := rfl

set_option maxHeartbeats 2000000 in
theorem toldShape_any (y0 y1 : Int) (y2 : ByteArray) (a : Option Addr) (n c : Nat) (hn : (n : Int) ≤ 9223372036854775807) (w : World) :
    Calls Tryz.prog 22 #[.agg #[.int .i64 y0, .int .i64 y1, .string y2, .slice a n c]] w fun e w' => e = .returned (.tuple #[hdV (owned y0 y1 y2 n), .slice a n c]) ∧ Below w.heap.size w w' := by
  obtain ⟨w0, hw0⟩ : ∃ w0, w0 = (w.alloc (.cells #[.int .i64 y0, .int .i64 y1, .string y2, .slice a n c] 26)).alloc (.cells #[.int .i64 0, .int .i64 0, .string ⟨#[]⟩, .int .i64 0] 104) := ⟨_, rfl⟩
  have hcall := shapeHead_any y0 y1 y2 n w0.drew
  obtain ⟨⟨h0, h1, h2, h3⟩, hh⟩ : ∃ h, h = owned y0 y1 y2 (n : Int) := ⟨_, rfl⟩
  rw [← hh] at hcall ⊢
  unfold hdV at hcall ⊢
  dsimp only at hcall ⊢
  clear hh
  have B0 : Hid (Below w.heap.size w w0.drew) := by show Below _ _ _; rw [hw0]; exact (((Below.refl _ _).alloc (Nat.le_refl _) _).alloc (by simp) _).drew
  have T0 : Hid (w0.heap[w.heap.size]? = some (.cells #[.int .i64 y0, .int .i64 y1, .string y2, .slice a n c] 26)) := by
    show _ = _; rw [hw0, Below.heap_alloc _ _ _ (by simp)]; exact alloc_top _ _
  have T1 : Hid (w0.heap[w.heap.size + 1]? = some (.cells #[.int .i64 0, .int .i64 0, .string ⟨#[]⟩, .int .i64 0] 104)) := by
    show _ = _
    rw [hw0]
    have := alloc_top (w.alloc (.cells #[.int .i64 y0, .int .i64 y1, .string y2, .slice a n c] 26)) (.cells #[.int .i64 0, .int .i64 0, .string ⟨#[]⟩, .int .i64 0] 104)
    rwa [World.size_alloc] at this
  have Z0 : Hid (w0.heap.size = w.heap.size + 2) := by show _ = _; rw [hw0]; simp
  have HW0 : Hid (w0 = (w.alloc (.cells #[.int .i64 y0, .int .i64 y1, .string y2, .slice a n c] 26)).alloc (.cells #[.int .i64 0, .int .i64 0, .string ⟨#[]⟩, .int .i64 0] 104)) := hw0
  clear hw0
  go_enter Tryz.func22, Tryz.ntmps22
  go_wp2
  rw [← HW0.out]
  have d0 : w0.cell? ⟨w.heap.size, 0, none⟩ = some (.int .i64 y0) := by simp [World.cell?, T0.out]
  have d1 : w0.cell? ⟨w.heap.size, 1, none⟩ = some (.int .i64 y1) := by simp [World.cell?, T0.out]
  have d2 : w0.cell? ⟨w.heap.size, 2, none⟩ = some (.string y2) := by simp [World.cell?, T0.out]
  have d3 : w0.cell? ⟨w.heap.size, 3, none⟩ = some (.slice a n c) := by simp [World.cell?, T0.out]
  have hz : w.heap.size < w0.heap.size := by rw [Z0.out]; omega
  go_region_held3 (fun W => W.cell? ⟨w.heap.size, 0, none⟩ = some (.int .i64 y0) ∧ W.cell? ⟨w.heap.size, 1, none⟩ = some (.int .i64 y1) ∧ W.cell? ⟨w.heap.size, 2, none⟩ = some (.string y2) ∧ W.cell? ⟨w.heap.size, 3, none⟩ = some (.slice a n c))
    (exact ⟨(by first | with_reducible exact d0 | (rw [cell_drewF]; with_reducible exact d0) | ((repeat rw [World.cell?_setCell_far _ _ _ _ (by simp)]); with_reducible exact d0)), (by first | with_reducible exact d1 | (rw [cell_drewF]; with_reducible exact d1) | ((repeat rw [World.cell?_setCell_far _ _ _ _ (by simp)]); with_reducible exact d1)), (by first | with_reducible exact d2 | (rw [cell_drewF]; with_reducible exact d2) | ((repeat rw [World.cell?_setCell_far _ _ _ _ (by simp)]); with_reducible exact d2)), (by first | with_reducible exact d3 | (rw [cell_drewF]; with_reducible exact d3) | ((repeat rw [World.cell?_setCell_far _ _ _ _ (by simp)]); with_reducible exact d3))⟩)
    (first
      | (go_at_call 38; refine hcall.mono ?_; rintro e w1 ⟨rfl, hb⟩; have B1 : Hid (Below w.heap.size w w1) := B0.out.trans (hb.mono B0.out.size); have hp1 : Hid (w1.heap[w.heap.size + 1]? = some (.cells #[.int .i64 0, .int .i64 0, .string ⟨#[]⟩, .int .i64 0] 104)) := (hb.block _ (show w.heap.size + 1 < w0.heap.size by rw [Z0.out]; omega)).trans T1.out; replace d0 : w1.cell? ⟨w.heap.size, 0, none⟩ = some (.int .i64 y0) := (hb.cell (p := ⟨w.heap.size, 0, none⟩) hz).trans d0; replace d1 : w1.cell? ⟨w.heap.size, 1, none⟩ = some (.int .i64 y1) := (hb.cell (p := ⟨w.heap.size, 1, none⟩) hz).trans d1; replace d2 : w1.cell? ⟨w.heap.size, 2, none⟩ = some (.string y2) := (hb.cell (p := ⟨w.heap.size, 2, none⟩) hz).trans d2; replace d3 : w1.cell? ⟨w.heap.size, 3, none⟩ = some (.slice a n c) := (hb.cell (p := ⟨w.heap.size, 3, none⟩) hz).trans d3; have c0 : w1.cell? ⟨w.heap.size + 1, 0, none⟩ = some (.int .i64 0) := (by simp [World.cell?, hp1.out]); have c1 : w1.cell? ⟨w.heap.size + 1, 1, none⟩ = some (.int .i64 0) := (by simp [World.cell?, hp1.out]); have c2 : w1.cell? ⟨w.heap.size + 1, 2, none⟩ = some (.string ⟨#[]⟩) := (by simp [World.cell?, hp1.out]); have c3 : w1.cell? ⟨w.heap.size + 1, 3, none⟩ = some (.int .i64 0) := (by simp [World.cell?, hp1.out]); have f1 : ∀ o, w1.frozen? ⟨w.heap.size + 1, o, none⟩ = false := (fun o => by simp [World.frozen?, hp1.out])))
  all_goals
    go_wp2
    refine bodyPost_ret (v := .tuple #[.agg #[.int .i64 h0, .int .i64 h1, .string h2, .int .i64 h3], .slice a n c]) (by simp [results, Tryz.f22, go_sem, c0, c1, c2, c3]) rfl ?_
    refine ⟨rfl, ?_⟩
    repeat first | with_reducible exact B1.out | (refine Below.setCell ?_ (by first | (simp; done) | (simp; omega)) _)

end Go.Proofs.YtlnpfnglphdaiaaGreatDoor.fits
