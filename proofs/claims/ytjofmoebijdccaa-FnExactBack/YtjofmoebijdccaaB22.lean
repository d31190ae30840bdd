/-
  The program's hold: a heap at work, if it is right; nothing that was there is turned.
  The lock's word of a heap at work.
  A heap at work while another block is turned.
-/
import Derived.Laws.MakeOwn
import Derived.Defers
import Derived.Test.YtjofmoebijdccaaB1
import Derived.Test.YtjofmoebijdccaaB2
import Derived.Test.YtjofmoebijdccaaB3
import Derived.Test.YtjofmoebijdccaaB4
import Derived.Test.YtjofmoebijdccaaB5
import Derived.Test.YtjofmoebijdccaaB6
import Derived.Test.YtjofmoebijdccaaB7
import Derived.Test.YtjofmoebijdccaaB8
import Derived.Test.YtjofmoebijdccaaB9
import Derived.Test.YtjofmoebijdccaaB10
import Derived.Test.YtjofmoebijdccaaB11
import Derived.Test.YtjofmoebijdccaaB12
import Derived.Test.YtjofmoebijdccaaB13
import Derived.Test.YtjofmoebijdccaaB14
import Derived.Test.YtjofmoebijdccaaB15
import Derived.Test.YtjofmoebijdccaaB16
import Derived.Test.YtjofmoebijdccaaB17
import Derived.Test.YtjofmoebijdccaaB18
import Derived.Test.YtjofmoebijdccaaB19
import Derived.Test.YtjofmoebijdccaaB20
import Derived.Test.YtjofmoebijdccaaB21
namespace Go.Proofs.Ytjofmoebijdccaa.heap
open Go Go.RowKit Go.Proofs.Ytjofmoebijdccaa.rose Go.Proofs.Ytjofmoebijdccaa Go.Proofs.Ytjofmoebijdccaa.fun Go.Proofs.Ytjofmoebijdccaa.words Go.Proofs.Ytjofmoebijdccaa.ints
set_option linter.unusedVariables false
set_option linter.unusedSimpArgs false

set_option maxHeartbeats 4000000 in
theorem okHalves_is (T : HeapD) (cs : List Value) (w : World) (h : heapSh.rep w (· < w.heap.size) cs T) :
    Calls Try.prog 46 #[.agg cs.toArray] w fun e w' => e = .returned (.bool (headB T)) ∧ Below w.heap.size w w' := by
  obtain ⟨W, a0, c0, half, base, next, rfl, rfl, f0, f1, f2, f3⟩ := heap_open h
  obtain ⟨a, cap, e, hcap, hmax, hat⟩ := ints_open f0
  cases e
  have hmx : (W.length : Int) ≤ 9223372036854775807 := by unfold maxLen at hmax; omega
  have BA : Hid (Below w.heap.size w (w.alloc (.cells #[.slice a0 W.length c0, .int .i64 half, .int .i64 base, .int .i64 next] 35))) := (Below.refl _ _).alloc (Nat.le_refl _) _
  obtain ⟨r, hr⟩ : ∃ r, r = headB (W, half, base, next) := ⟨_, rfl⟩
  have HR : Hid (r = headB (W, half, base, next)) := hr
  rw [← hr]
  clear h f0 hcap hmax hat hr
  rcases q1 : inB half 1 3000 with _ | _
  · have HF : Hid (r = false) := by show _ = _; rw [HR.out]; unfold headB; rw [q1]; rfl
    go_enter Try.func46, Try.ntmps46
    go_wp2_with (go_at_call 62; refine (half_is (by assumption)).mono ?_; rintro e w' ⟨rfl, hx⟩; subst w')
    go_ret
    exact ⟨ret_b HF.out.symm, BA.out⟩
  have g1 := inB_yes q1
  by_cases q2 : (W.length : Int) = 2 * half
  case neg =>
    have t2 : ((W.length : Int) != 2 * half) = true := by simpa using q2
    have HF : Hid (r = false) := by show _ = _; rw [HR.out]; unfold headB; simp [q2]
    go_enter Try.func46, Try.ntmps46
    go_wp2_with (go_at_call 62; refine (half_is (by assumption)).mono ?_; rintro e w' ⟨rfl, hx⟩; subst w')
    go_ret
    exact ⟨ret_b HF.out.symm, BA.out⟩
  have t2 : ((W.length : Int) != 2 * half) = false := by simpa using q2
  by_cases q3 : base = 0 ∨ base = half
  case neg =>
    have t3 : (base != 0) = true := by simp; omega
    have t3' : (base != half) = true := by simp; omega
    have HF : Hid (r = false) := by show _ = _; rw [HR.out]; unfold headB; simp; omega
    go_enter Try.func46, Try.ntmps46
    go_wp2_with (go_at_call 62; refine (half_is (by assumption)).mono ?_; rintro e w' ⟨rfl, hx⟩; subst w')
    go_ret
    exact ⟨ret_b HF.out.symm, BA.out⟩
  have T3 : Hid ((base != 0) = false ∨ ((base != 0) = true ∧ (base != half) = false)) := by
    show _ ∨ _
    by_cases z : base = 0
    · exact .inl (by simpa using z)
    · exact .inr ⟨by simpa using z, by simp; omega⟩
  have HR2 : Hid (r = (decide (base ≤ next) && decide (next ≤ base + half))) := by
    show _ = _
    rw [HR.out]; unfold headB inB; dsimp only
    have : inB half 1 3000 = true := q1
    unfold inB at this
    rw [this]
    simp [q2]
    rcases q3 with q | q <;> simp [q]
  rcases q4 : decide (base ≤ next) with _ | _
  · have HF : Hid (r = false) := by show _ = _; rw [HR2.out, q4]; rfl
    rcases T3.out with t3 | ⟨t3, t3'⟩
    all_goals
      go_enter Try.func46, Try.ntmps46
      go_wp2_with (go_at_call 62; refine (half_is (by assumption)).mono ?_; rintro e w' ⟨rfl, hx⟩; subst w')
      go_ret
      exact ⟨ret_b HF.out.symm, BA.out⟩
  · obtain ⟨t, ht⟩ : ∃ t, decide (next ≤ base + half) = t := ⟨_, rfl⟩
    have HF : Hid (r = t) := by show _ = _; rw [HR2.out, q4, ht]; rfl
    rcases T3.out with t3 | ⟨t3, t3'⟩
    all_goals
      go_enter Try.func46, Try.ntmps46
      go_wp2_with (go_at_call 62; refine (half_is (by assumption)).mono ?_; rintro e w' ⟨rfl, hx⟩; subst w')
      go_ret
      exact ⟨ret_b HF.out.symm, BA.out⟩

theorem add1_is {a : Addr} {w : World} (hc : w.cell? a = some (.int .i64 0)) (hz : w.frozen? a = false) :
    Calls Try.prog 47 #[.pointer (some a), .int .i64 1] w fun e w' => e = .returned (.int .i64 1) ∧ w' = w.setCell a (.int .i64 1) := lock.add_is (x := 0) (y := 1) hc hz (by decide) (by decide)

theorem infoN_bool : (Try.prog.info? 4).map (fun i => (i.zero, i.size, i.bytes)) = some (some (.bool false), 1, 1) := by kernel_rfl
theorem make_bools (n : Nat) (h : n ≤ 1048576) (w : World) : (Instr.makeSlice 89 (.int .i64 (n : Int)) (.int .i64 (n : Int))).run Try.prog w = .ok (.slice (some ⟨w.heap.size, 0, none⟩) n n)
    (w.alloc (.cells (List.replicate n (.bool false)).toArray 4)) := by
  obtain ⟨i, hi, hzz⟩ := Option.map_eq_some_iff.1 infoN_bool
  simp only [Prod.mk.injEq] at hzz
  obtain ⟨hz, hs, hb⟩ := hzz
  have := run_make (P := Try.prog) w 89 4 i _ Try.underlying89 hi hz .i64 .i64 n n (by omega) (by omega) (by rw [hb]; omega) (by omega)
  have e : madeCells #[.bool false] (n * 1) = (List.replicate n (.bool false)).toArray := by
    apply Array.ext
    · simp [madeCells]
    · intro j h1 h2
      simp [madeCells, Nat.mod_one]
  rw [← e]
  simpa [hs, Value.cells] using this

/-- What hold answers. -/
def HoldOut (W : List Int) (half base next : Int) (wv : Value) (w : World) (e : Ending) (w' : World) : Prop :=
  (heapB (W, half, base, next) = false → ∃ p, e = .returned (.tuple #[.pointer p, .bool false])) ∧
  (heapB (W, half, base, next) = true → ∃ (hb hm hf bs nx : Nat) (M : List Bool), half = hf ∧ base = bs ∧ next = nx ∧ e = .returned (.tuple #[.pointer (some ⟨hb, 0, none⟩), .bool true]) ∧ HH w.heap.size hb hm wv W hf bs nx 0 M w' ∧ MarksAre hf bs M (plF W nx bs).1)

theorem heapB_parts {T : HeapD} : heapB T = (headB T && (plT T).2 && ((plT T).1.all fun x => kidsB T x.toNat)) := rfl

set_option maxRecDepth 100000 in
set_option maxHeartbeats 8000000 in
theorem hold_is (W : List Int) (a0 : Option Addr) (c0 : Nat) (half base next : Int) (w : World) (h : heapSh.rep w (· < w.heap.size) [.slice a0 W.length c0, .int .i64 half, .int .i64 base, .int .i64 next] (W, half, base, next)) :
    Calls Try.prog 24 #[.agg #[.slice a0 W.length c0, .int .i64 half, .int .i64 base, .int .i64 next]] w fun e w' => HoldOut W half base next (.slice a0 W.length c0) w e w' ∧ Below w.heap.size w w' := by
  have AH : Hid (∀ w' : World, Below w.heap.size w w' → heapSh.rep w' (· < w'.heap.size) [.slice a0 W.length c0, .int .i64 half, .int .i64 base, .int .i64 next] (W, half, base, next)) := fun w' hb => heapSh.mono (heapSh.below h hb) fun b hlt => Nat.lt_of_lt_of_le hlt hb.size
  have AI : Hid (∀ w' : World, Below w.heap.size w w' → intsSh.rep w' (· < w.heap.size) [.slice a0 W.length c0] W) := fun w' hb => by
    obtain ⟨W', a', c', hf', bs', nx', eT, eC, f0, -⟩ := heap_open (heapSh.below h hb)
    simp only [Prod.mk.injEq] at eT
    obtain ⟨rfl, rfl, rfl, rfl⟩ := eT
    simp only [List.cons.injEq] at eC
    rw [eC.1]; exact f0
  obtain ⟨W', a', c', hf', bs', nx', eT, eC, -, f1, f2, f3⟩ := heap_open h
  simp only [Prod.mk.injEq] at eT
  obtain ⟨rfl, rfl, rfl, rfl⟩ := eT
  clear eC a' c'
  have A0 : Hid (ArgK w (w.alloc (.cells #[.slice a0 W.length c0, .int .i64 half, .int .i64 base, .int .i64 next] 35)) [.slice a0 W.length c0, .int .i64 half, .int .i64 base, .int .i64 next] 35) := ArgK.new _ _ _ rfl
  have hcall := okHalves_is (W, half, base, next) [.slice a0 W.length c0, .int .i64 half, .int .i64 base, .int .i64 next] _ (AH.out _ A0.out.bel)
  clear h
  rcases q1 : headB (W, half, base, next) with _ | _
  · have HF : Hid (heapB (W, half, base, next) = false) := heapB_head q1
    rw [q1] at hcall
    clear q1 f1 f2 f3
    go_enter Try.func24, Try.ntmps24
    go_wp2_with fail
    refine hcall.mono ?_
    rintro e w1 ⟨rfl, hb⟩
    have A1 := A0.out.on hb
    clear hcall hb
    go_wp2
    refine bodyPost_ret (v := .tuple #[.pointer none, .bool false]) (by simp [results, Try.f24, go_sem]) rfl ?_
    exact ⟨⟨fun _ => ⟨_, rfl⟩, fun hq => by rw [HF.out] at hq; cases hq⟩, A1.bel⟩
  · rw [q1] at hcall
    have hin := head_in q1
    dsimp only at hin
    obtain ⟨hf, rfl⟩ : ∃ z : Nat, half = z := ⟨half.toNat, by omega⟩
    obtain ⟨bs, rfl⟩ : ∃ z : Nat, base = z := ⟨base.toNat, by omega⟩
    obtain ⟨nx, rfl⟩ : ∃ z : Nat, next = z := ⟨next.toNat, by omega⟩
    have HSZ : Hid (W.length = 2 * hf ∧ (bs = 0 ∨ bs = hf) ∧ 1 ≤ hf ∧ hf ≤ 3000 ∧ bs ≤ nx ∧ nx ≤ bs + hf) := by show _ ∧ _; omega
    have HPT : Hid (plT (W, (hf : Int), (bs : Int), (nx : Int)) = plF W nx bs) := by show _ = _; unfold plT; simp
    have HHB : Hid (heapB (W, (hf : Int), (bs : Int), (nx : Int)) = ((plF W nx bs).2 && ((plF W nx bs).1.all fun x => kidsB (W, (hf : Int), (bs : Int), (nx : Int)) x.toNat))) := by show _ = _; rw [heapB_parts, q1, HPT.out]; rfl
    have hmk := make_bools hf (by omega)
    have h3000 : hf ≤ 3000 ∧ bs ≤ 3000 ∧ nx ≤ 6000 := by omega
    have hf0 : (0 : Int) ≤ (hf : Int) := by omega
    clear q1 hin f1 f2 f3
    go_enter Try.func24, Try.ntmps24
    go_wp2_with fail
    refine hcall.mono ?_
    rintro e w1 ⟨rfl, hb⟩
    have A1 : Hid (ArgK w w1 [.slice a0 W.length c0, .int .i64 hf, .int .i64 bs, .int .i64 nx] 35) := A0.out.on hb
    clear hcall hb A0
    have k0 : w1.cell? ⟨w.heap.size, 0, none⟩ = some (.slice a0 W.length c0) := A1.out.cell 0 rfl
    have k1 : w1.cell? ⟨w.heap.size, 1, none⟩ = some (.int .i64 hf) := A1.out.cell 1 rfl
    have k3 : w1.cell? ⟨w.heap.size, 3, none⟩ = some (.int .i64 nx) := A1.out.cell 3 rfl
    have k0n : w1.drew.cell? ⟨w.heap.size, 0, none⟩ = some (.slice a0 W.length c0) := k0
    have k1n : w1.drew.cell? ⟨w.heap.size, 1, none⟩ = some (.int .i64 hf) := k1
    have k3n : w1.drew.cell? ⟨w.heap.size, 3, none⟩ = some (.int .i64 nx) := k3
    have A2 : Hid (∀ Y : Obj, ArgK w (w1.alloc Y) [.slice a0 W.length c0, .int .i64 hf, .int .i64 bs, .int .i64 nx] 35) := fun Y => A1.out.on ((Below.refl _ _).alloc (Nat.le_refl _) _)
    have A3 : Hid (∀ Y Z : Obj, ArgK w ((w1.alloc Y).alloc Z) [.slice a0 W.length c0, .int .i64 hf, .int .i64 bs, .int .i64 nx] 35) := fun Y Z => (A2.out Y).on ((Below.refl _ _).alloc (Nat.le_refl _) _)
    have k0A : ∀ Y : Obj, (w1.alloc Y).drew.cell? ⟨w.heap.size, 0, none⟩ = some (.slice a0 W.length c0) := fun Y => (A2.out Y).cell 0 rfl
    have k0B : ∀ Y Z : Obj, ((w1.alloc Y).alloc Z).drew.cell? ⟨w.heap.size, 0, none⟩ = some (.slice a0 W.length c0) := fun Y Z => (A3.out Y Z).cell 0 rfl
    have k1A : ∀ Y : Obj, (w1.alloc Y).drew.cell? ⟨w.heap.size, 1, none⟩ = some (.int .i64 hf) := fun Y => (A2.out Y).cell 1 rfl
    have k1B : ∀ Y Z : Obj, ((w1.alloc Y).alloc Z).drew.cell? ⟨w.heap.size, 1, none⟩ = some (.int .i64 hf) := fun Y Z => (A3.out Y Z).cell 1 rfl
    have k3A : ∀ Y : Obj, (w1.alloc Y).drew.cell? ⟨w.heap.size, 3, none⟩ = some (.int .i64 nx) := fun Y => (A2.out Y).cell 3 rfl
    have k3B : ∀ Y Z : Obj, ((w1.alloc Y).alloc Z).drew.cell? ⟨w.heap.size, 3, none⟩ = some (.int .i64 nx) := fun Y Z => (A3.out Y Z).cell 3 rfl
    go_wp2
    go_region_held3 (fun X => X.cell? ⟨w.heap.size, 0, none⟩ = some (.slice a0 W.length c0) ∧ X.cell? ⟨w.heap.size, 1, none⟩ = some (.int .i64 hf) ∧ X.cell? ⟨w.heap.size, 3, none⟩ = some (.int .i64 nx))
      (exact ⟨(by first | with_reducible exact k0 | with_reducible exact k0n | with_reducible exact k0A _ | with_reducible exact k0B _ _), (by first | with_reducible exact k1 | with_reducible exact k1n | with_reducible exact k1A _ | with_reducible exact k1B _ _), (by first | with_reducible exact k3 | with_reducible exact k3n | with_reducible exact k3A _ | with_reducible exact k3B _ _)⟩)
      (fail)
    have hz1 := A1.out.lt
    obtain ⟨wR, hwR⟩ : ∃ wR, wR = ((w1.alloc (.cells (Array.replicate hf (.bool false)) 4)).alloc (.cells #[.int .i32 0, .int .u32 0, .int .i64 0, .slice a0 W.length c0, .int .i64 hf, .int .i64 nx, .slice (some ⟨w1.heap.size, 0, none⟩) hf hf] 102)).drew := ⟨_, rfl⟩
    rw [← hwR]
    have RB : wR.heap[w1.heap.size + 1]? = some (.cells #[.int .i32 0, .int .u32 0, .int .i64 0, .slice a0 W.length c0, .int .i64 hf, .int .i64 nx, .slice (some ⟨w1.heap.size, 0, none⟩) hf hf] 102) := by
      rw [hwR]
      have := alloc_top (w1.alloc (.cells (Array.replicate hf (.bool false)) 4)) (.cells #[.int .i32 0, .int .u32 0, .int .i64 0, .slice a0 W.length c0, .int .i64 hf, .int .i64 nx, .slice (some ⟨w1.heap.size, 0, none⟩) hf hf] 102)
      rwa [World.size_alloc] at this
    have RM : wR.heap[w1.heap.size]? = some (.cells (Array.replicate hf (.bool false)) 4) := by
      rw [hwR]
      have hB : Below (w1.alloc (.cells (Array.replicate hf (.bool false)) 4)).heap.size (w1.alloc (.cells (Array.replicate hf (.bool false)) 4)) ((w1.alloc (.cells (Array.replicate hf (.bool false)) 4)).alloc (.cells #[.int .i32 0, .int .u32 0, .int .i64 0, .slice a0 W.length c0, .int .i64 hf, .int .i64 nx, .slice (some ⟨w1.heap.size, 0, none⟩) hf hf] 102)).drew := ((Below.refl _ _).alloc (Nat.le_refl _) _).drew
      exact (hB.block _ (by simp)).trans (alloc_top _ _)
    have AR : Hid (ArgK w wR [.slice a0 W.length c0, .int .i64 hf, .int .i64 bs, .int .i64 nx] 35) := by rw [hwR]; exact (A3.out _ _).drew
    clear hwR A2 A3 k0A k0B k1A k1B k3A k3B k0n k1n k3n k0 k1 k3 hmk
    generalize hgm : w1.heap.size = hm at *
    have hhb : ∃ hb, hm + 1 = hb := ⟨_, rfl⟩
    obtain ⟨hb, hhb⟩ := hhb
    rw [hhb] at RB
    simp only [hhb]
    have hLO : w.heap.size ≤ hb ∧ w.heap.size ≤ hm ∧ hb ≠ hm := by omega
    have LO : Hid _ := hLO
    have k2 : wR.cell? ⟨w.heap.size, 2, none⟩ = some (.int .i64 bs) := AR.out.cell 2 rfl
    have r2 : wR.cell? ⟨hb, 2, none⟩ = some (.int .i64 0) := by simp [World.cell?, RB]
    have rz : wR.frozen? ⟨hb, 2, none⟩ = false := by simp [World.frozen?, RB]
    have RBh : Hid _ := RB
    have RMh : Hid _ := RM
    clear RB RM hz1 hLO hhb hgm A1
    by_cases hz : bs = 0
    · have KX : Hid (HH w.heap.size hb hm (.slice a0 W.length c0) W hf bs nx 0 (List.replicate hf false) wR) :=
        ⟨LO.out, by rw [RBh.out]; subst hz; rfl, by rw [RMh.out]; simp, by simp, AI.out _ AR.out.bel, HSZ.out⟩
      have BX : Hid (Below w.heap.size w wR) := AR.out.bel
      have hzz : ¬ (0 : Int) < (bs : Int) := by omega
      clear r2 rz
      go_wp2_with fail
      have hfi := findBlocks_is KX.out (fun j hj => by simp [List.getD, hj])
      rcases q5 : (plF W nx bs).2 with _ | _
      · have HF : Hid (heapB (W, (hf : Int), (bs : Int), (nx : Int)) = false) := by show _ = _; rw [HHB.out, q5]; rfl
        rw [q5] at hfi
        clear q5
        go_wp2_with fail
        refine hfi.mono ?_
        rintro e w5 ⟨rfl, -, hB5⟩
        have HB5 : Hid (Below w.heap.size w w5) := BX.out.trans hB5
        clear hfi hB5
        go_wp2
        refine bodyPost_ret (v := .tuple #[.pointer (some ⟨hb, 0, none⟩), .bool false]) (by simp [results, Try.f24, go_sem]) rfl ?_
        exact ⟨⟨fun _ => ⟨_, rfl⟩, fun hq => by rw [HF.out] at hq; cases hq⟩, HB5.out⟩
      · have Q5 : Hid ((plF W nx bs).2 = true) := q5
        rw [q5] at hfi
        clear q5
        go_wp2_with fail
        refine hfi.mono ?_
        rintro e w5 ⟨rfl, ⟨M5, hH5, hM5⟩, hB5⟩
        have HB5 : Hid (Below w.heap.size w w5) := BX.out.trans hB5
        have hM6 := hM5 (by first | trivial | exact Q5.out)
        have hok := okKids_is hH5 hM6 Q5.out
        have KK : Hid (HH w.heap.size hb hm (.slice a0 W.length c0) W hf bs nx 0 M5 w5 ∧ MarksAre hf bs M5 (plF W nx bs).1) := ⟨hH5, hM6⟩
        obtain ⟨rr, hrr⟩ : ∃ rr, rr = ((plF W nx bs).1.all fun x => kidsB (W, (hf : Int), (bs : Int), (nx : Int)) x.toNat) := ⟨_, rfl⟩
        have HF : Hid (heapB (W, (hf : Int), (bs : Int), (nx : Int)) = rr) := by show _ = _; rw [HHB.out, Q5.out, hrr]; rfl
        rw [← hrr] at hok
        clear hfi hB5 hH5 hM5 hM6 hrr
        go_wp2_with fail
        refine hok.mono ?_
        rintro e w6 ⟨rfl, hB6⟩
        have HB6 : Hid (Below w.heap.size w w6) := HB5.out.trans (hB6.mono HB5.out.size)
        have K6 : Hid (HH w.heap.size hb hm (.slice a0 W.length c0) W hf bs nx 0 M5 w6) := KK.out.1.on hB6
        clear hok hB6
        go_wp2
        cases rr
        · refine bodyPost_ret (v := .tuple #[.pointer (some ⟨hb, 0, none⟩), .bool false]) (by simp [results, Try.f24, go_sem]) rfl ?_
          exact ⟨⟨fun _ => ⟨_, rfl⟩, fun hq => by rw [HF.out] at hq; cases hq⟩, HB6.out⟩
        · refine bodyPost_ret (v := .tuple #[.pointer (some ⟨hb, 0, none⟩), .bool true]) (by simp [results, Try.f24, go_sem]) rfl ?_
          exact ⟨⟨fun hq => (by rw [HF.out] at hq; cases hq), fun _ => ⟨hb, hm, hf, bs, nx, M5, rfl, rfl, rfl, rfl, K6.out, KK.out.2⟩⟩, HB6.out⟩
    · have KX : Hid (HH w.heap.size hb hm (.slice a0 W.length c0) W hf bs nx 0 (List.replicate hf false) (wR.setCell ⟨hb, 2, none⟩ (.int .i64 1))) := by
        have hlo := LO.out
        refine ⟨LO.out, ?_, (Below.heap_setCell _ _ _ _ (by show hm ≠ hb; omega)).trans (by rw [RMh.out]; simp), by simp, intsSh.on (AI.out _ AR.out.bel) fun b hb' => Below.heap_setCell _ _ _ _ (by show b ≠ hb; omega), HSZ.out⟩
        have : timesF bs = 1 := by unfold timesF; rw [if_neg hz]
        rw [this]
        simp [World.setCell, Array.getElem?_modify, RBh.out]
      have BX : Hid (Below w.heap.size w (wR.setCell ⟨hb, 2, none⟩ (.int .i64 1))) := AR.out.bel.setCell LO.out.1 _
      have hzz : (0 : Int) < (bs : Int) := by omega
      go_wp2_with (go_at_call 47; refine (add1_is r2 rz).mono ?_; rintro e w4 ⟨rfl, hw4⟩; subst hw4)
      have hfi := findBlocks_is KX.out (fun j hj => by simp [List.getD, hj])
      rcases q5 : (plF W nx bs).2 with _ | _
      · have HF : Hid (heapB (W, (hf : Int), (bs : Int), (nx : Int)) = false) := by show _ = _; rw [HHB.out, q5]; rfl
        rw [q5] at hfi
        clear q5
        go_wp2_with fail
        refine hfi.mono ?_
        rintro e w5 ⟨rfl, -, hB5⟩
        have HB5 : Hid (Below w.heap.size w w5) := BX.out.trans hB5
        clear hfi hB5
        go_wp2
        refine bodyPost_ret (v := .tuple #[.pointer (some ⟨hb, 0, none⟩), .bool false]) (by simp [results, Try.f24, go_sem]) rfl ?_
        exact ⟨⟨fun _ => ⟨_, rfl⟩, fun hq => by rw [HF.out] at hq; cases hq⟩, HB5.out⟩
      · have Q5 : Hid ((plF W nx bs).2 = true) := q5
        rw [q5] at hfi
        clear q5
        go_wp2_with fail
        refine hfi.mono ?_
        rintro e w5 ⟨rfl, ⟨M5, hH5, hM5⟩, hB5⟩
        have HB5 : Hid (Below w.heap.size w w5) := BX.out.trans hB5
        have hM6 := hM5 (by first | trivial | exact Q5.out)
        have hok := okKids_is hH5 hM6 Q5.out
        have KK : Hid (HH w.heap.size hb hm (.slice a0 W.length c0) W hf bs nx 0 M5 w5 ∧ MarksAre hf bs M5 (plF W nx bs).1) := ⟨hH5, hM6⟩
        obtain ⟨rr, hrr⟩ : ∃ rr, rr = ((plF W nx bs).1.all fun x => kidsB (W, (hf : Int), (bs : Int), (nx : Int)) x.toNat) := ⟨_, rfl⟩
        have HF : Hid (heapB (W, (hf : Int), (bs : Int), (nx : Int)) = rr) := by show _ = _; rw [HHB.out, Q5.out, hrr]; rfl
        rw [← hrr] at hok
        clear hfi hB5 hH5 hM5 hM6 hrr
        go_wp2_with fail
        refine hok.mono ?_
        rintro e w6 ⟨rfl, hB6⟩
        have HB6 : Hid (Below w.heap.size w w6) := HB5.out.trans (hB6.mono HB5.out.size)
        have K6 : Hid (HH w.heap.size hb hm (.slice a0 W.length c0) W hf bs nx 0 M5 w6) := KK.out.1.on hB6
        clear hok hB6
        go_wp2
        cases rr
        · refine bodyPost_ret (v := .tuple #[.pointer (some ⟨hb, 0, none⟩), .bool false]) (by simp [results, Try.f24, go_sem]) rfl ?_
          exact ⟨⟨fun _ => ⟨_, rfl⟩, fun hq => by rw [HF.out] at hq; cases hq⟩, HB6.out⟩
        · refine bodyPost_ret (v := .tuple #[.pointer (some ⟨hb, 0, none⟩), .bool true]) (by simp [results, Try.f24, go_sem]) rfl ?_
          exact ⟨⟨fun hq => (by rw [HF.out] at hq; cases hq), fun _ => ⟨hb, hm, hf, bs, nx, M5, rfl, rfl, rfl, rfl, K6.out, KK.out.2⟩⟩, HB6.out⟩

end Go.Proofs.Ytjofmoebijdccaa.heap

namespace Go.Proofs.Ytjofmoebijdccaa.heap
open Go Go.RowKit Go.Proofs.Ytjofmoebijdccaa.rose Go.Proofs.Ytjofmoebijdccaa Go.Proofs.Ytjofmoebijdccaa.fun Go.Proofs.Ytjofmoebijdccaa.words Go.Proofs.Ytjofmoebijdccaa.ints
set_option linter.unusedVariables false
set_option linter.unusedSimpArgs false

/-- The lock's word is written. -/
theorem HH.lockw {B hb hm : Nat} {wv : Value} {W : List Int} {half base next : Nat} {lk : Int} {M : List Bool} {w : World} (h : HH B hb hm wv W half base next lk M w) (v : Int) : HH B hb hm wv W half base next v M (w.setCell ⟨hb, 0, none⟩ (.int .i32 v)) := by
  have hlo := h.lo
  refine ⟨h.lo, by simp [World.setCell, Array.getElem?_modify, h.blk], (Below.heap_setCell _ _ _ _ (by show hm ≠ hb; omega)).trans h.mks, h.len, intsSh.on h.wds fun b hb' => Below.heap_setCell _ _ _ _ (by show b ≠ hb; omega), h.siz⟩
theorem drewN_bel {B : Nat} {w w' : World} (h : Below B w w') (n : Nat) : Below B w (w'.drewN n) := ⟨h.os, h.tape, h.output, h.size, h.block⟩

end Go.Proofs.Ytjofmoebijdccaa.heap

namespace Go.Proofs.Ytjofmoebijdccaa.heap
open Go Go.RowKit Go.Proofs.Ytjofmoebijdccaa.rose Go.Proofs.Ytjofmoebijdccaa Go.Proofs.Ytjofmoebijdccaa.fun Go.Proofs.Ytjofmoebijdccaa.words Go.Proofs.Ytjofmoebijdccaa.ints
set_option linter.unusedVariables false
set_option linter.unusedSimpArgs false

/-- A cell of another block is written. -/
theorem HH.other {B hb hm : Nat} {wv : Value} {W : List Int} {half base next : Nat} {lk : Int} {M : List Bool} {w : World} (h : HH B hb hm wv W half base next lk M w) {g : Nat} (j : Nat) (v : Value) (h1 : ¬ g = hb) (h2 : ¬ g = hm) (h3 : B ≤ g) : HH B hb hm wv W half base next lk M (w.setCell ⟨g, j, none⟩ v) :=
  ⟨h.lo, (Below.heap_setCell _ _ _ _ (by show hb ≠ g; omega)).trans h.blk, (Below.heap_setCell _ _ _ _ (by show hm ≠ g; omega)).trans h.mks, h.len, intsSh.on h.wds fun b hb' => Below.heap_setCell _ _ _ _ (by show b ≠ g; omega), h.siz⟩
theorem setr3 {w : World} {r : Nat} {t : TypeId} {u0 u1 u2 : Value} (v0 v1 v2 : Value) (h : w.heap[r]? = some (.cells #[u0, u1, u2] t)) : (((w.setCell ⟨r, 0, none⟩ v0).setCell ⟨r, 1, none⟩ v1).setCell ⟨r, 2, none⟩ v2).heap[r]? = some (.cells #[v0, v1, v2] t) := by
  simp [World.setCell, Array.getElem?_modify, h]
theorem HH.res {B hb hm : Nat} {wv : Value} {W : List Int} {half base next : Nat} {lk : Int} {M : List Bool} {w : World} (h : HH B hb hm wv W half base next lk M w) {g : Nat} (v0 v1 v2 : Value) (h1 : ¬ g = hb) (h2 : ¬ g = hm) (h3 : B ≤ g) : HH B hb hm wv W half base next lk M (((w.setCell ⟨g, 0, none⟩ v0).setCell ⟨g, 1, none⟩ v1).setCell ⟨g, 2, none⟩ v2) :=
  ((h.other 0 v0 h1 h2 h3).other 1 v1 h1 h2 h3).other 2 v2 h1 h2 h3
theorem cell_res3 {w : World} {g r j : Nat} {u : Value} (v0 v1 v2 : Value) (h : w.cell? ⟨g, j, none⟩ = some u) (hne : ¬ r = g) : (((w.setCell ⟨r, 0, none⟩ v0).setCell ⟨r, 1, none⟩ v1).setCell ⟨r, 2, none⟩ v2).cell? ⟨g, j, none⟩ = some u := by
  have e : (((w.setCell ⟨r, 0, none⟩ v0).setCell ⟨r, 1, none⟩ v1).setCell ⟨r, 2, none⟩ v2).heap[g]? = w.heap[g]? :=
    ((Below.heap_setCell _ _ _ _ (by show g ≠ r; omega)).trans (Below.heap_setCell _ _ _ _ (by show g ≠ r; omega))).trans (Below.heap_setCell _ _ _ _ (by show g ≠ r; omega))
  rw [← h]
  simp only [World.cell?, e]
theorem irow_res3 {w : World} {base r : Nat} {v : Value} {l : List Int} (v0 v1 v2 : Value) (h : IRow w base v l) (hr : r < base) : IRow (((w.setCell ⟨r, 0, none⟩ v0).setCell ⟨r, 1, none⟩ v1).setCell ⟨r, 2, none⟩ v2) base v l :=
  ⟨own_same h.1 fun q hq => by
    have := (h.lt q hq).1
    exact ((Below.heap_setCell _ _ _ _ (by show q ≠ r; omega)).trans (Below.heap_setCell _ _ _ _ (by show q ≠ r; omega))).trans (Below.heap_setCell _ _ _ _ (by show q ≠ r; omega)), h.2⟩

end Go.Proofs.Ytjofmoebijdccaa.heap
