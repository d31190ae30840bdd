/-
  The model's Alloc, at every argument; nothing that was there is turned.
  What is come to from roots, and in which order (chapter 18): told in plain data; no program named.
-/
import Derived.Test.YthpdkjenadngoaaGreatDoorB1
import Derived.Test.YthpdkjenadngoaaGreatDoorB2
import Derived.Test.YthpdkjenadngoaaGreatDoorB3
import Derived.Test.YthpdkjenadngoaaGreatDoorB4
import Derived.Test.YthpdkjenadngoaaGreatDoorB5
import Derived.Test.YthpdkjenadngoaaGreatDoorB6
namespace Go.Proofs.YthpdkjenadngoaaGreatDoor.heap
open Go Go.RowKit Go.Proofs.YthpdkjenadngoaaGreatDoor.rose Go.Proofs.YthpdkjenadngoaaGreatDoor Go.Proofs.YthpdkjenadngoaaGreatDoor.fun Go.Proofs.YthpdkjenadngoaaGreatDoor.words Go.Proofs.YthpdkjenadngoaaGreatDoor.ints
set_option linter.unusedVariables false
set_option linter.unusedSimpArgs false

/-- The argument's block, and the answer's, which is empty still. -/
structure AK (w wk : World) (cs : List Value) : Prop where
  arg : ArgK w wk cs 26
  res : wk.heap[w.heap.size + 1]? = some (.cells #[.slice none 0 0, .int .i64 0, .int .i64 0, .int .i64 0] 26)
theorem AK.lt {w wk : World} {cs : List Value} (h : AK w wk cs) : w.heap.size + 2 ≤ wk.heap.size := (Array.getElem?_eq_some_iff.1 h.res).1
theorem AK.on {w wk wl : World} {cs : List Value} (h : AK w wk cs) (hb : Below wk.heap.size wk wl) : AK w wl cs := ⟨h.arg.on hb, (hb.block _ h.lt).trans h.res⟩
theorem AK.low {w wk wl : World} {cs : List Value} {B : Nat} (h : AK w wk cs) (hB : w.heap.size + 2 ≤ B) (hb : Below B wk wl) : AK w wl cs := ⟨⟨h.arg.bel.trans (hb.mono (by omega)), (hb.block _ (by omega)).trans h.arg.blk⟩, (hb.block _ (by omega)).trans h.res⟩

/-- The answer is written. -/
theorem fin {w u : World} {cs : List Value} {W : List Int} {a1 a2 a3 : Int} {ua : Option Addr} {uc B : Nat} {x0 x1 x2 x3 : Value} {n : Int} {ok : Bool} (h : AK w u cs) (hr : IRow u B (.slice ua W.length uc) W) (hB : w.heap.size + 2 ≤ B)
    (hf : (-9223372036854775808 ≤ a1 ∧ a1 ≤ 9223372036854775807) ∧ (-9223372036854775808 ≤ a2 ∧ a2 ≤ 9223372036854775807) ∧ (-9223372036854775808 ≤ a3 ∧ a3 ≤ 9223372036854775807)) :
    (∃ cs', Ending.returned (.tuple #[.agg #[.slice ua W.length uc, .int .i64 a1, .int .i64 a2, .int .i64 a3], .int .i64 n, .bool ok]) = .returned (.tuple #[.agg cs'.toArray, .int .i64 n, .bool ok]) ∧
      heapSp.rep ((((u.setCell ⟨w.heap.size + 1, 0, none⟩ x0).setCell ⟨w.heap.size + 1, 1, none⟩ x1).setCell ⟨w.heap.size + 1, 2, none⟩ x2).setCell ⟨w.heap.size + 1, 3, none⟩ x3)
        (fun b => w.heap.size ≤ b ∧ b < ((((u.setCell ⟨w.heap.size + 1, 0, none⟩ x0).setCell ⟨w.heap.size + 1, 1, none⟩ x1).setCell ⟨w.heap.size + 1, 2, none⟩ x2).setCell ⟨w.heap.size + 1, 3, none⟩ x3).heap.size) cs' (W, a1, a2, a3)) ∧
      Below w.heap.size w ((((u.setCell ⟨w.heap.size + 1, 0, none⟩ x0).setCell ⟨w.heap.size + 1, 1, none⟩ x1).setCell ⟨w.heap.size + 1, 2, none⟩ x2).setCell ⟨w.heap.size + 1, 3, none⟩ x3) := by
  have hI : IRow ((((u.setCell ⟨w.heap.size + 1, 0, none⟩ x0).setCell ⟨w.heap.size + 1, 1, none⟩ x1).setCell ⟨w.heap.size + 1, 2, none⟩ x2).setCell ⟨w.heap.size + 1, 3, none⟩ x3) B (.slice ua W.length uc) W := by
    refine ⟨own_same hr.1 fun q hq => ?_, hr.2⟩
    have := (hr.lt q hq).1
    repeat rw [Below.heap_setCell _ _ _ _ (by show q ≠ w.heap.size + 1; omega)]
  refine ⟨⟨[.slice ua W.length uc, .int .i64 a1, .int .i64 a2, .int .i64 a3], rfl, heapp_shutv (irow_base0 hI (by omega)).sp hf.1 hf.2.1 hf.2.2⟩, ?_⟩
  have hb := h.arg.bel
  repeat first | with_reducible exact hb | (refine Below.setCell ?_ (by show w.heap.size ≤ w.heap.size + 1; omega) _)

set_option maxRecDepth 100000 in
set_option maxHeartbeats 16000000 in
theorem specAlloc (T : HeapD) (fn : Bool) (tag : Int) (kids : List Int) (cs : List Value) (vk : Value) (w : World) (hw : (wt T) ≤ 1048576) (hl : kids.length ≤ 1048576) (h1 : -9223372036854775808 ≤ tag) (h2 : tag ≤ 9223372036854775807) (h : heapSh.rep w (· < w.heap.size) cs T) (hk : intsSh.rep w (· < w.heap.size) [vk] kids) :
    Calls Tryz.prog 73 #[.agg cs.toArray, .bool fn, .int .i64 tag, vk] w fun e w' => (∃ cs', e = .returned (.tuple #[.agg cs'.toArray, .int .i64 (allocF T fn tag kids).2.1, .bool (allocF T fn tag kids).2.2]) ∧ heapSp.rep w' (fun b => w.heap.size ≤ b ∧ b < w'.heap.size) cs' (allocF T fn tag kids).1) ∧ Below w.heap.size w w' := by
  have AH : Hid (∀ w' : World, Below w.heap.size w w' → heapSh.rep w' (· < w'.heap.size) cs T) := fun w' hb => heapSh.mono (heapSh.below h hb) fun b hlt => Nat.lt_of_lt_of_le hlt hb.size
  have HKI : Hid (intsSh.rep w (· < w.heap.size) [vk] kids) := hk
  obtain ⟨ak, ck, hvk⟩ : ∃ a c, vk = .slice a kids.length c := by obtain ⟨a, c, e⟩ := slice_cells hk; simp only [List.cons.injEq, and_true] at e; exact ⟨a, c, e⟩
  subst hvk
  obtain ⟨W, a0, c0, half, base, next, rfl, rfl, f0, f1, f2, f3⟩ := heap_open h
  have HW : Hid (wt (W, half, base, next) ≤ 1048576) := hw
  have HFR : Hid ((-9223372036854775808 ≤ half ∧ half ≤ 9223372036854775807) ∧ (-9223372036854775808 ≤ base ∧ base ≤ 9223372036854775807) ∧ (-9223372036854775808 ≤ next ∧ next ≤ 9223372036854775807)) := ⟨f1, f2, f3⟩
  obtain ⟨r, hr⟩ : ∃ r, r = allocF (W, half, base, next) fn tag kids := ⟨_, rfl⟩
  have HR : Hid (r = allocF (W, half, base, next) fn tag kids) := hr
  rw [← hr]
  have K0 : Hid (AK w ((w.alloc (.cells #[.slice a0 W.length c0, .int .i64 half, .int .i64 base, .int .i64 next] 26)).alloc (.cells #[.slice none 0 0, .int .i64 0, .int .i64 0, .int .i64 0] 26)) [.slice a0 W.length c0, .int .i64 half, .int .i64 base, .int .i64 next]) := by
    have hA := ArgK.new w [.slice a0 W.length c0, .int .i64 half, .int .i64 base, .int .i64 next] 26 (arr := #[.slice a0 W.length c0, .int .i64 half, .int .i64 base, .int .i64 next]) rfl
    refine ⟨hA.on ((Below.refl _ _).alloc (Nat.le_refl _) _), ?_⟩
    have := alloc_top (w.alloc (.cells #[.slice a0 W.length c0, .int .i64 half, .int .i64 base, .int .i64 next] 26)) (.cells #[.slice none 0 0, .int .i64 0, .int .i64 0, .int .i64 0] 26)
    rwa [World.size_alloc] at this
  have hcall := specHeapOk (W, half, base, next) [.slice a0 W.length c0, .int .i64 half, .int .i64 base, .int .i64 next] _ (AH.out _ K0.out.arg.bel)
  clear h hk hr f0 f1 f2 f3 hw
  rcases q1 : heapB (W, half, base, next) with _ | _
  · have HF : Hid (r = ((W, half, base, next), 0, false)) := by show _ = _; rw [HR.out]; unfold allocF; rw [q1]; rfl
    rw [q1] at hcall
    clear q1
    go_enter Tryz.func73, Tryz.ntmps73
    go_wp2_with fail
    refine hcall.mono ?_
    rintro e w1 ⟨rfl, hb⟩
    have K1 : Hid (AK w w1 [.slice a0 W.length c0, .int .i64 half, .int .i64 base, .int .i64 next]) := K0.out.on hb
    clear hcall hb K0
    have b0 : w1.cell? ⟨w.heap.size, 0, none⟩ = some (.slice a0 W.length c0) := K1.out.arg.cell 0 rfl
    have b1 : w1.cell? ⟨w.heap.size, 1, none⟩ = some (.int .i64 half) := K1.out.arg.cell 1 rfl
    have b2 : w1.cell? ⟨w.heap.size, 2, none⟩ = some (.int .i64 base) := K1.out.arg.cell 2 rfl
    have b3 : w1.cell? ⟨w.heap.size, 3, none⟩ = some (.int .i64 next) := K1.out.arg.cell 3 rfl
    have hcpt := copy_is (W, half, base, next) [.slice a0 W.length c0, .int .i64 half, .int .i64 base, .int .i64 next] w1 HW.out (AH.out _ K1.out.arg.bel)
    go_wp2_with fail
    refine hcpt.mono ?_
    rintro e ut ⟨⟨xa, xc, rfl, hur⟩, hub⟩
    have Kt : Hid (AK w ut [.slice a0 W.length c0, .int .i64 half, .int .i64 base, .int .i64 next]) := K1.out.on hub
    have HUt : Hid (IRow ut w1.heap.size (.slice xa W.length xc) W ∧ w.heap.size + 2 ≤ w1.heap.size) := ⟨hur, K1.out.lt⟩
    clear hcpt hur hub b0 b1 b2 b3
    have z0 : ut.cell? ⟨w.heap.size + 1, 0, none⟩ = some (.slice none 0 0) := by simp [World.cell?, Kt.out.res]
    have z1 : ut.cell? ⟨w.heap.size + 1, 1, none⟩ = some (.int .i64 0) := by simp [World.cell?, Kt.out.res]
    have z2 : ut.cell? ⟨w.heap.size + 1, 2, none⟩ = some (.int .i64 0) := by simp [World.cell?, Kt.out.res]
    have z3 : ut.cell? ⟨w.heap.size + 1, 3, none⟩ = some (.int .i64 0) := by simp [World.cell?, Kt.out.res]
    have zf : ∀ j, ut.frozen? ⟨w.heap.size + 1, j, none⟩ = false := fun j => by simp [World.frozen?, Kt.out.res]
    go_wp2
    refine bodyPost_ret (v := .tuple #[.agg #[.slice xa W.length xc, .int .i64 half, .int .i64 base, .int .i64 next], .int .i64 0, .bool false]) (by simp [results, Tryz.f73, go_sem, z0, z1, z2, z3]) rfl ?_
    rw [HF.out]
    exact fin Kt.out HUt.out.1 HUt.out.2 HFR.out
  rw [q1] at hcall
  rcases q2 : inB tag 0 3000 with _ | _
  · have HF : Hid (r = ((W, half, base, next), 0, false)) := by show _ = _; rw [HR.out]; unfold allocF; rw [q1, q2]; rfl
    clear q1
    go_enter Tryz.func73, Tryz.ntmps73
    go_wp2_with fail
    refine hcall.mono ?_
    rintro e w1 ⟨rfl, hb⟩
    have K1 : Hid (AK w w1 [.slice a0 W.length c0, .int .i64 half, .int .i64 base, .int .i64 next]) := K0.out.on hb
    clear hcall hb K0
    have b0 : w1.cell? ⟨w.heap.size, 0, none⟩ = some (.slice a0 W.length c0) := K1.out.arg.cell 0 rfl
    have b1 : w1.cell? ⟨w.heap.size, 1, none⟩ = some (.int .i64 half) := K1.out.arg.cell 1 rfl
    have b2 : w1.cell? ⟨w.heap.size, 2, none⟩ = some (.int .i64 base) := K1.out.arg.cell 2 rfl
    have b3 : w1.cell? ⟨w.heap.size, 3, none⟩ = some (.int .i64 next) := K1.out.arg.cell 3 rfl
    have hcpt := copy_is (W, half, base, next) [.slice a0 W.length c0, .int .i64 half, .int .i64 base, .int .i64 next] w1 HW.out (AH.out _ K1.out.arg.bel)
    go_wp2_with (go_at_call 87; refine (in_is (by assumption)).mono ?_; rintro e w' ⟨rfl, hx⟩; subst w')
    refine hcpt.mono ?_
    rintro e ut ⟨⟨xa, xc, rfl, hur⟩, hub⟩
    have Kt : Hid (AK w ut [.slice a0 W.length c0, .int .i64 half, .int .i64 base, .int .i64 next]) := K1.out.on hub
    have HUt : Hid (IRow ut w1.heap.size (.slice xa W.length xc) W ∧ w.heap.size + 2 ≤ w1.heap.size) := ⟨hur, K1.out.lt⟩
    clear hcpt hur hub b0 b1 b2 b3
    have z0 : ut.cell? ⟨w.heap.size + 1, 0, none⟩ = some (.slice none 0 0) := by simp [World.cell?, Kt.out.res]
    have z1 : ut.cell? ⟨w.heap.size + 1, 1, none⟩ = some (.int .i64 0) := by simp [World.cell?, Kt.out.res]
    have z2 : ut.cell? ⟨w.heap.size + 1, 2, none⟩ = some (.int .i64 0) := by simp [World.cell?, Kt.out.res]
    have z3 : ut.cell? ⟨w.heap.size + 1, 3, none⟩ = some (.int .i64 0) := by simp [World.cell?, Kt.out.res]
    have zf : ∀ j, ut.frozen? ⟨w.heap.size + 1, j, none⟩ = false := fun j => by simp [World.frozen?, Kt.out.res]
    go_wp2
    refine bodyPost_ret (v := .tuple #[.agg #[.slice xa W.length xc, .int .i64 half, .int .i64 base, .int .i64 next], .int .i64 0, .bool false]) (by simp [results, Tryz.f73, go_sem, z0, z1, z2, z3]) rfl ?_
    rw [HF.out]
    exact fin Kt.out HUt.out.1 HUt.out.2 HFR.out
  have g2 := inB_yes q2
  by_cases q3 : kids.length ≤ 20
  case neg =>
    have t3 : decide ((20 : Int) < (kids.length : Int)) = true := by simp; omega
    have HF : Hid (r = ((W, half, base, next), 0, false)) := by show _ = _; rw [HR.out]; unfold allocF; rw [q1, q2]; simp [q3]
    clear q1
    go_enter Tryz.func73, Tryz.ntmps73
    go_wp2_with fail
    refine hcall.mono ?_
    rintro e w1 ⟨rfl, hb⟩
    have K1 : Hid (AK w w1 [.slice a0 W.length c0, .int .i64 half, .int .i64 base, .int .i64 next]) := K0.out.on hb
    clear hcall hb K0
    have b0 : w1.cell? ⟨w.heap.size, 0, none⟩ = some (.slice a0 W.length c0) := K1.out.arg.cell 0 rfl
    have b1 : w1.cell? ⟨w.heap.size, 1, none⟩ = some (.int .i64 half) := K1.out.arg.cell 1 rfl
    have b2 : w1.cell? ⟨w.heap.size, 2, none⟩ = some (.int .i64 base) := K1.out.arg.cell 2 rfl
    have b3 : w1.cell? ⟨w.heap.size, 3, none⟩ = some (.int .i64 next) := K1.out.arg.cell 3 rfl
    have hcpt := copy_is (W, half, base, next) [.slice a0 W.length c0, .int .i64 half, .int .i64 base, .int .i64 next] w1 HW.out (AH.out _ K1.out.arg.bel)
    go_wp2_with (go_at_call 87; refine (in_is (by assumption)).mono ?_; rintro e w' ⟨rfl, hx⟩; subst w')
    refine hcpt.mono ?_
    rintro e ut ⟨⟨xa, xc, rfl, hur⟩, hub⟩
    have Kt : Hid (AK w ut [.slice a0 W.length c0, .int .i64 half, .int .i64 base, .int .i64 next]) := K1.out.on hub
    have HUt : Hid (IRow ut w1.heap.size (.slice xa W.length xc) W ∧ w.heap.size + 2 ≤ w1.heap.size) := ⟨hur, K1.out.lt⟩
    clear hcpt hur hub b0 b1 b2 b3
    have z0 : ut.cell? ⟨w.heap.size + 1, 0, none⟩ = some (.slice none 0 0) := by simp [World.cell?, Kt.out.res]
    have z1 : ut.cell? ⟨w.heap.size + 1, 1, none⟩ = some (.int .i64 0) := by simp [World.cell?, Kt.out.res]
    have z2 : ut.cell? ⟨w.heap.size + 1, 2, none⟩ = some (.int .i64 0) := by simp [World.cell?, Kt.out.res]
    have z3 : ut.cell? ⟨w.heap.size + 1, 3, none⟩ = some (.int .i64 0) := by simp [World.cell?, Kt.out.res]
    have zf : ∀ j, ut.frozen? ⟨w.heap.size + 1, j, none⟩ = false := fun j => by simp [World.frozen?, Kt.out.res]
    go_wp2
    refine bodyPost_ret (v := .tuple #[.agg #[.slice xa W.length xc, .int .i64 half, .int .i64 base, .int .i64 next], .int .i64 0, .bool false]) (by simp [results, Tryz.f73, go_sem, z0, z1, z2, z3]) rfl ?_
    rw [HF.out]
    exact fin Kt.out HUt.out.1 HUt.out.2 HFR.out
  case pos =>
    have t3 : decide ((20 : Int) < (kids.length : Int)) = false := by simp; omega
    have HD : Hid (headB (W, half, base, next) = true) := heapB_in q1
    have H1 := head_in HD.out
    dsimp only at H1
    have Q1 : Hid (heapB (W, half, base, next) = true) := q1
    obtain ⟨hn, rfl⟩ : ∃ z : Nat, half = z := ⟨half.toNat, by omega⟩
    obtain ⟨bn, rfl⟩ : ∃ z : Nat, base = z := ⟨base.toNat, by omega⟩
    obtain ⟨nx, rfl⟩ : ∃ z : Nat, next = z := ⟨next.toNat, by omega⟩
    clear q1
    go_enter Tryz.func73, Tryz.ntmps73
    go_wp2_with fail
    refine hcall.mono ?_
    rintro e w1 ⟨rfl, hb⟩
    have K1 : Hid (AK w w1 [.slice a0 W.length c0, .int .i64 hn, .int .i64 bn, .int .i64 nx]) := K0.out.on hb
    clear hcall hb K0
    have b0 : w1.cell? ⟨w.heap.size, 0, none⟩ = some (.slice a0 W.length c0) := K1.out.arg.cell 0 rfl
    have b1 : w1.cell? ⟨w.heap.size, 1, none⟩ = some (.int .i64 hn) := K1.out.arg.cell 1 rfl
    have b2 : w1.cell? ⟨w.heap.size, 2, none⟩ = some (.int .i64 bn) := K1.out.arg.cell 2 rfl
    have b3 : w1.cell? ⟨w.heap.size, 3, none⟩ = some (.int .i64 nx) := K1.out.arg.cell 3 rfl
    have hcp := copy_is (W, (hn : Int), (bn : Int), (nx : Int)) [.slice a0 W.length c0, .int .i64 hn, .int .i64 bn, .int .i64 nx] w1 HW.out (AH.out _ K1.out.arg.bel)
    go_wp2_with (go_at_call 87; refine (in_is (by assumption)).mono ?_; rintro e w' ⟨rfl, hx⟩; subst w')
    refine hcp.mono ?_
    rintro e u1 ⟨⟨ua, uc, rfl, hur⟩, hub⟩
    try dsimp only at hur
    rcases hur.open with ⟨-, h0⟩ | ⟨g, cp, hv, -⟩
    · rw [h0] at H1; simp at H1; omega
    obtain ⟨rfl, rfl⟩ : ua = some ⟨g, 0, none⟩ ∧ uc = cp := by simp only [Value.slice.injEq] at hv; exact ⟨hv.1, hv.2.2⟩
    have K2 : Hid (AK w u1 [.slice a0 W.length c0, .int .i64 hn, .int .i64 bn, .int .i64 nx]) := K1.out.on hub
    have hz1 := K1.out.lt
    have hput := put_is W hn bn nx fn tag kids g uc w1.heap.size (.slice ak kids.length ck) u1 HD.out g2 q3 hur (intsSh.mono (intsSh.on HKI.out fun b hb' => K2.out.arg.bel.block b hb') fun b hb' => by omega)
    clear hcp hur hub b0 b1 b2 b3 hv
    by_cases hroom : (kids.length : Int) < (bn : Int) + hn - nx
    case neg =>
      simp only [if_neg hroom] at hput
      have HF : Hid (r = ((W, (hn : Int), (bn : Int), (nx : Int)), 0, false)) := by show _ = _; rw [HR.out]; unfold allocF; dsimp only; simp only [hroom, decide_false, Bool.and_false, Bool.false_and, Bool.false_eq_true, if_false]
      go_wp2_with fail
      refine hput.mono ?_
      rintro e u2 ⟨rfl, hb2⟩
      have K3 : Hid (AK w (u2.alloc (.cells #[.slice (some ⟨g, 0, none⟩) W.length uc, .int .i64 hn, .int .i64 bn, .int .i64 nx] 26)) [.slice a0 W.length c0, .int .i64 hn, .int .i64 bn, .int .i64 nx]) := (K2.out.on hb2).on ((Below.refl _ _).alloc (Nat.le_refl _) _)
      clear hput hb2
      have b0 : (u2.alloc (.cells #[.slice (some ⟨g, 0, none⟩) W.length uc, .int .i64 hn, .int .i64 bn, .int .i64 nx] 26)).cell? ⟨w.heap.size, 0, none⟩ = some (.slice a0 W.length c0) := K3.out.arg.cell 0 rfl
      have b1 : (u2.alloc (.cells #[.slice (some ⟨g, 0, none⟩) W.length uc, .int .i64 hn, .int .i64 bn, .int .i64 nx] 26)).cell? ⟨w.heap.size, 1, none⟩ = some (.int .i64 hn) := K3.out.arg.cell 1 rfl
      have b2 : (u2.alloc (.cells #[.slice (some ⟨g, 0, none⟩) W.length uc, .int .i64 hn, .int .i64 bn, .int .i64 nx] 26)).cell? ⟨w.heap.size, 2, none⟩ = some (.int .i64 bn) := K3.out.arg.cell 2 rfl
      have b3 : (u2.alloc (.cells #[.slice (some ⟨g, 0, none⟩) W.length uc, .int .i64 hn, .int .i64 bn, .int .i64 nx] 26)).cell? ⟨w.heap.size, 3, none⟩ = some (.int .i64 nx) := K3.out.arg.cell 3 rfl
      have hcps := copy_is (W, (hn : Int), (bn : Int), (nx : Int)) [.slice a0 W.length c0, .int .i64 hn, .int .i64 bn, .int .i64 nx] (u2.alloc (.cells #[.slice (some ⟨g, 0, none⟩) W.length uc, .int .i64 hn, .int .i64 bn, .int .i64 nx] 26)) HW.out (AH.out _ K3.out.arg.bel)
      go_wp2_with fail
      refine hcps.mono ?_
      rintro e us ⟨⟨xa, xc, rfl, hur⟩, hub⟩
      have Ks : Hid (AK w us [.slice a0 W.length c0, .int .i64 hn, .int .i64 bn, .int .i64 nx]) := K3.out.on hub
      have HUs : Hid (IRow us (u2.alloc (.cells #[.slice (some ⟨g, 0, none⟩) W.length uc, .int .i64 hn, .int .i64 bn, .int .i64 nx] 26)).heap.size (.slice xa W.length xc) W ∧ w.heap.size + 2 ≤ (u2.alloc (.cells #[.slice (some ⟨g, 0, none⟩) W.length uc, .int .i64 hn, .int .i64 bn, .int .i64 nx] 26)).heap.size) := ⟨hur, K3.out.lt⟩
      clear hcps hur hub b0 b1 b2 b3
      have z0 : us.cell? ⟨w.heap.size + 1, 0, none⟩ = some (.slice none 0 0) := by simp [World.cell?, Ks.out.res]
      have z1 : us.cell? ⟨w.heap.size + 1, 1, none⟩ = some (.int .i64 0) := by simp [World.cell?, Ks.out.res]
      have z2 : us.cell? ⟨w.heap.size + 1, 2, none⟩ = some (.int .i64 0) := by simp [World.cell?, Ks.out.res]
      have z3 : us.cell? ⟨w.heap.size + 1, 3, none⟩ = some (.int .i64 0) := by simp [World.cell?, Ks.out.res]
      have zf : ∀ j, us.frozen? ⟨w.heap.size + 1, j, none⟩ = false := fun j => by simp [World.frozen?, Ks.out.res]
      go_wp2
      refine bodyPost_ret (v := .tuple #[.agg #[.slice xa W.length xc, .int .i64 hn, .int .i64 bn, .int .i64 nx], .int .i64 0, .bool false]) (by simp [results, Tryz.f73, go_sem, z0, z1, z2, z3]) rfl ?_
      rw [HF.out]
      exact fin Ks.out HUs.out.1 HUs.out.2 HFR.out
    case pos =>
      simp only [if_pos hroom] at hput
      go_wp2_with fail
      refine hput.mono ?_
      rintro e u2 ⟨rfl, hr2, hb2⟩
      have K3 : Hid (AK w (u2.alloc (.cells #[.slice (some ⟨g, 0, none⟩) W.length uc, .int .i64 hn, .int .i64 bn, .int .i64 ((nx : Int) + 1 + kids.length)] 26)) [.slice a0 W.length c0, .int .i64 hn, .int .i64 bn, .int .i64 nx]) := (K2.out.low hz1 hb2).on ((Below.refl _ _).alloc (Nat.le_refl _) _)
      obtain ⟨X, hX⟩ : ∃ X, X = putW W nx (headW fn tag kids.length :: kids) := ⟨_, rfl⟩
      rw [← hX] at hr2
      have hXl : X.length = W.length := by rw [hX]; exact putW_length _ _ _
      have hM : moreF (W, (hn : Int), (bn : Int), (nx : Int)) fn tag kids = (X, (hn : Int), (bn : Int), (nx : Int) + 1 + kids.length) := by unfold moreF; dsimp only; rw [Int.toNat_natCast, hX]
      have RX : Hid (IRow (u2.alloc (.cells #[.slice (some ⟨g, 0, none⟩) W.length uc, .int .i64 hn, .int .i64 bn, .int .i64 ((nx : Int) + 1 + kids.length)] 26)) w1.heap.size (.slice (some ⟨g, 0, none⟩) W.length uc) X) := hr2.keep ((Below.refl _ _).alloc (Nat.le_refl _) _)
      have BX : Hid ((u2.alloc (.cells #[.slice (some ⟨g, 0, none⟩) W.length uc, .int .i64 hn, .int .i64 bn, .int .i64 ((nx : Int) + 1 + kids.length)] 26)).heap[u2.heap.size]? = some (.cells #[.slice (some ⟨g, 0, none⟩) W.length uc, .int .i64 hn, .int .i64 bn, .int .i64 ((nx : Int) + 1 + kids.length)] 26)) := alloc_top _ _
      have hcall5 := specHeapOk (X, (hn : Int), (bn : Int), (nx : Int) + 1 + kids.length) [.slice (some ⟨g, 0, none⟩) W.length uc, .int .i64 hn, .int .i64 bn, .int .i64 ((nx : Int) + 1 + kids.length)] (u2.alloc (.cells #[.slice (some ⟨g, 0, none⟩) W.length uc, .int .i64 hn, .int .i64 bn, .int .i64 ((nx : Int) + 1 + kids.length)] 26)) (by
        rw [← hXl]
        refine heap_shut (intsSh.mono (intsp_rep (by have := RX.out.sp; rw [← hXl] at this; exact this)) fun b hb' => ?_) (by omega) (by omega) (by omega)
        exact hb'.2)
      have HMX : Hid (moreF (W, (hn : Int), (bn : Int), (nx : Int)) fn tag kids = (X, (hn : Int), (bn : Int), (nx : Int) + 1 + kids.length)) := hM
      have HXL : Hid (X.length = W.length) := hXl
      clear hput hr2 hb2 hX hM
      rcases q5 : heapB (X, (hn : Int), (bn : Int), (nx : Int) + 1 + kids.length) with _ | _
      · have HF : Hid (r = ((W, (hn : Int), (bn : Int), (nx : Int)), 0, false)) := by show _ = _; rw [HR.out]; unfold allocF; rw [HMX.out, q5]; simp
        rw [q5] at hcall5
        clear q5
        go_wp2_with fail
        refine hcall5.mono ?_
        rintro e w5 ⟨rfl, hb5⟩
        have K5 : Hid (AK w w5 [.slice a0 W.length c0, .int .i64 hn, .int .i64 bn, .int .i64 nx]) := K3.out.on hb5
        clear hcall5 hb5 K3
        have b0 : w5.cell? ⟨w.heap.size, 0, none⟩ = some (.slice a0 W.length c0) := K5.out.arg.cell 0 rfl
        have b1 : w5.cell? ⟨w.heap.size, 1, none⟩ = some (.int .i64 hn) := K5.out.arg.cell 1 rfl
        have b2 : w5.cell? ⟨w.heap.size, 2, none⟩ = some (.int .i64 bn) := K5.out.arg.cell 2 rfl
        have b3 : w5.cell? ⟨w.heap.size, 3, none⟩ = some (.int .i64 nx) := K5.out.arg.cell 3 rfl
        have hcps := copy_is (W, (hn : Int), (bn : Int), (nx : Int)) [.slice a0 W.length c0, .int .i64 hn, .int .i64 bn, .int .i64 nx] w5 HW.out (AH.out _ K5.out.arg.bel)
        go_wp2_with fail
        refine hcps.mono ?_
        rintro e us ⟨⟨xa, xc, rfl, hur⟩, hub⟩
        have Ks : Hid (AK w us [.slice a0 W.length c0, .int .i64 hn, .int .i64 bn, .int .i64 nx]) := K5.out.on hub
        have HUs : Hid (IRow us w5.heap.size (.slice xa W.length xc) W ∧ w.heap.size + 2 ≤ w5.heap.size) := ⟨hur, K5.out.lt⟩
        clear hcps hur hub b0 b1 b2 b3
        have z0 : us.cell? ⟨w.heap.size + 1, 0, none⟩ = some (.slice none 0 0) := by simp [World.cell?, Ks.out.res]
        have z1 : us.cell? ⟨w.heap.size + 1, 1, none⟩ = some (.int .i64 0) := by simp [World.cell?, Ks.out.res]
        have z2 : us.cell? ⟨w.heap.size + 1, 2, none⟩ = some (.int .i64 0) := by simp [World.cell?, Ks.out.res]
        have z3 : us.cell? ⟨w.heap.size + 1, 3, none⟩ = some (.int .i64 0) := by simp [World.cell?, Ks.out.res]
        have zf : ∀ j, us.frozen? ⟨w.heap.size + 1, j, none⟩ = false := fun j => by simp [World.frozen?, Ks.out.res]
        go_wp2
        refine bodyPost_ret (v := .tuple #[.agg #[.slice xa W.length xc, .int .i64 hn, .int .i64 bn, .int .i64 nx], .int .i64 0, .bool false]) (by simp [results, Tryz.f73, go_sem, z0, z1, z2, z3]) rfl ?_
        rw [HF.out]
        exact fin Ks.out HUs.out.1 HUs.out.2 HFR.out
      · have HF : Hid (r = ((X, (hn : Int), (bn : Int), (nx : Int) + 1 + kids.length), (nx : Int), true)) := by
          show _ = _; rw [HR.out]; unfold allocF; rw [HMX.out, q5, Q1.out, q2]
          dsimp only
          simp only [decide_eq_true hroom, decide_eq_true q3, Bool.and_self, if_true]
        rw [q5] at hcall5
        clear q5
        go_wp2_with fail
        refine hcall5.mono ?_
        rintro e w5 ⟨rfl, hb5⟩
        have K5 : Hid (AK w w5 [.slice a0 W.length c0, .int .i64 hn, .int .i64 bn, .int .i64 nx]) := K3.out.on hb5
        have R5 : Hid (IRow w5 w1.heap.size (.slice (some ⟨g, 0, none⟩) W.length uc) X) := RX.out.keep hb5
        have hB5 := (hb5.block _ (Array.getElem?_eq_some_iff.1 BX.out).1).trans BX.out
        have v0 : w5.cell? ⟨u2.heap.size, 0, none⟩ = some (.slice (some ⟨g, 0, none⟩) W.length uc) := by simp [World.cell?, hB5]
        have v1 : w5.cell? ⟨u2.heap.size, 1, none⟩ = some (.int .i64 hn) := by simp [World.cell?, hB5]
        have v2 : w5.cell? ⟨u2.heap.size, 2, none⟩ = some (.int .i64 bn) := by simp [World.cell?, hB5]
        have v3 : w5.cell? ⟨u2.heap.size, 3, none⟩ = some (.int .i64 ((nx : Int) + 1 + kids.length)) := by simp [World.cell?, hB5]
        clear hcall5 hb5 K3 hB5
        have z0 : w5.cell? ⟨w.heap.size + 1, 0, none⟩ = some (.slice none 0 0) := by simp [World.cell?, K5.out.res]
        have z1 : w5.cell? ⟨w.heap.size + 1, 1, none⟩ = some (.int .i64 0) := by simp [World.cell?, K5.out.res]
        have z2 : w5.cell? ⟨w.heap.size + 1, 2, none⟩ = some (.int .i64 0) := by simp [World.cell?, K5.out.res]
        have z3 : w5.cell? ⟨w.heap.size + 1, 3, none⟩ = some (.int .i64 0) := by simp [World.cell?, K5.out.res]
        have zf : ∀ j, w5.frozen? ⟨w.heap.size + 1, j, none⟩ = false := fun j => by simp [World.frozen?, K5.out.res]
        go_wp2
        refine bodyPost_ret (v := .tuple #[.agg #[.slice (some ⟨g, 0, none⟩) W.length uc, .int .i64 hn, .int .i64 bn, .int .i64 ((nx : Int) + 1 + kids.length)], .int .i64 nx, .bool true]) (by simp [results, Tryz.f73, go_sem, z0, z1, z2, z3]) rfl ?_
        rw [HF.out, ← HXL.out]
        exact fin K5.out (by have := R5.out; rw [← HXL.out] at this; exact this) hz1 ⟨by omega, by omega, by omega⟩

end Go.Proofs.YthpdkjenadngoaaGreatDoor.heap

namespace Go.Proofs.YthpdkjenadngoaaGreatDoor.heap
open Go Go.RowKit Go.Proofs.YthpdkjenadngoaaGreatDoor.rose Go.Proofs.YthpdkjenadngoaaGreatDoor Go.Proofs.YthpdkjenadngoaaGreatDoor.fun
set_option linter.unusedVariables false
set_option linter.unusedSimpArgs false

/-- Whether a heap and roots are right. -/
def rightB (T : HeapD) (rs : List Int) : Bool := heapB T && rs.all (thereB (plT T).1)
theorem right_heap {T : HeapD} {rs : List Int} (h : heapB T = false) : rightB T rs = false := by unfold rightB; rw [h]; rfl
theorem right_root {T : HeapD} {rs : List Int} {i : Nat} (hi : i < rs.length) (h : thereB (plT T).1 rs[i] = false) : rightB T rs = false := by
  unfold rightB
  have : rs.all (thereB (plT T).1) = false := by rw [List.all_eq_false]; exact ⟨_, List.getElem_mem hi, by simp [h]⟩
  rw [this]; simp
theorem right_yes {T : HeapD} {rs : List Int} (h : heapB T = true) (h2 : ∀ i (hi : i < rs.length), thereB (plT T).1 rs[i] = true) : rightB T rs = true := by
  unfold rightB
  have : rs.all (thereB (plT T).1) = true := by
    rw [List.all_eq_true]
    intro x hx
    obtain ⟨i, hi, rfl⟩ := List.getElem_of_mem hx
    exact h2 i hi
  rw [this, h]; rfl
theorem right_is {T : HeapD} {rs : List Int} (h : rightB T rs = true) : heapB T = true ∧ ∀ x ∈ rs, thereB (plT T).1 x = true := by
  unfold rightB at h
  simp only [Bool.and_eq_true] at h
  exact ⟨h.1, fun x hx => List.all_eq_true.1 h.2 x hx⟩

theorem heap_head {T : HeapD} (h : heapB T = true) : headB T = true := by
  unfold heapB at h
  simp only [Bool.and_eq_true] at h
  exact h.1.1
theorem heap_places {T : HeapD} (h : heapB T = true) : (plT T).2 = true := by
  unfold heapB at h
  simp only [Bool.and_eq_true] at h
  exact h.1.2
/-- The kid k of the block at p. -/
def kidAt (W : List Int) (p k : Nat) : Int := W.getD (p + 1 + k) 0
/-- The kids of the block at p. -/
def kidsL (W : List Int) (p : Nat) : List Int := (List.range (manyF (W.getD p 0)).toNat).map (kidAt W p)
/-- A word is met. -/
def addR (out : List Int) (x : Int) : List Int := if x % 2 = 0 ∧ x / 2 ∉ out then out ++ [x / 2] else out
def addRs (out xs : List Int) : List Int := xs.foldl addR out
/-- Block by block, from place k of the order on. -/
def scanF (W : List Int) : Nat → Nat → List Int → List Int
  | 0, _, out => out
  | f + 1, k, out => if h : k < out.length then scanF W f (k + 1) (addRs out (kidsL W (out[k]).toNat)) else out
/-- The blocks that are come to, in the order in which they are met. -/
def orderF (T : HeapD) (rs : List Int) : List Int := scanF T.1 (T.1.length + 1) 0 (addRs [] rs)

theorem addRs_push (out xs : List Int) (x : Int) : addRs out (xs ++ [x]) = addR (addRs out xs) x := by simp [addRs, List.foldl_append]
theorem addRs_take {out xs : List Int} {i : Nat} (h : i < xs.length) : addRs out (xs.take (i + 1)) = addR (addRs out (xs.take i)) xs[i] := by rw [List.take_succ_eq_append_getElem h, addRs_push]
theorem addR_skip {out : List Int} {x : Int} (h : x % 2 ≠ 0 ∨ x / 2 ∈ out) : addR out x = out := by unfold addR; rw [if_neg]; rintro ⟨h1, h2⟩; rcases h with h | h; exact h h1; exact h2 h
theorem addR_put {out : List Int} {x : Int} (h : x % 2 = 0) (h2 : x / 2 ∉ out) : addR out x = out ++ [x / 2] := by unfold addR; rw [if_pos ⟨h, h2⟩]
theorem kidsL_len (W : List Int) (p : Nat) : (kidsL W p).length = (manyF (W.getD p 0)).toNat := by simp [kidsL]
theorem kidsL_get {W : List Int} {p k : Nat} (h : k < (kidsL W p).length) : (kidsL W p)[k] = kidAt W p k := by simp [kidsL]
theorem scan_end {W : List Int} {f k : Nat} {out : List Int} (h : out.length ≤ k) : scanF W f k out = out := by
  cases f with
  | zero => rfl
  | succ f => rw [scanF, dif_neg (by omega)]
theorem scan_more {W : List Int} {f k : Nat} {out : List Int} (h : k < out.length) : scanF W (f + 1) k out = scanF W f (k + 1) (addRs out (kidsL W (out[k]).toNat)) := by rw [scanF, dif_pos h]

theorem nodup_len : ∀ {out L : List Int}, out.Nodup → (∀ x ∈ out, x ∈ L) → out.length ≤ L.length := by
  intro out
  induction out with
  | nil => intro L _ _; exact Nat.zero_le _
  | cons x out ih =>
    intro L hn hs
    have hx : x ∈ L := hs x List.mem_cons_self
    rw [List.nodup_cons] at hn
    have := ih (L := L.erase x) hn.2 fun y hy => by
      have hne : y ≠ x := fun e => hn.1 (by rw [← e]; exact hy)
      rw [List.mem_erase_of_ne hne]
      exact hs y (List.mem_cons_of_mem _ hy)
    rw [List.length_erase_of_mem hx] at this
    have hp : 0 < L.length := List.length_pos_of_mem hx
    simp only [List.length_cons]
    omega

/-- What is known of an order on its way. -/
structure OInv (T : HeapD) (out : List Int) : Prop where
  nodup : out.Nodup
  sub : ∀ x ∈ out, x ∈ (plT T).1
theorem OInv.nil (T : HeapD) : OInv T [] := ⟨List.nodup_nil, fun x hx => by cases hx⟩
theorem OInv.add {T : HeapD} {out : List Int} (h : OInv T out) {x : Int} (hx : thereB (plT T).1 x = true) : OInv T (addR out x) := by
  unfold addR
  split
  · rename_i hc
    unfold thereB at hx
    rw [if_pos hc.1] at hx
    have hm : x / 2 ∈ (plT T).1 := of_decide_eq_true hx
    refine ⟨?_, fun y hy => ?_⟩
    · rw [List.nodup_append]
      exact ⟨h.nodup, by simp, fun a ha b hb e => by simp only [List.mem_singleton] at hb; subst hb e; exact hc.2 ha⟩
    · rcases List.mem_append.1 hy with q | q
      · exact h.sub y q
      · simp only [List.mem_singleton] at q; subst q; exact hm
  · exact h
theorem OInv.adds {T : HeapD} {xs : List Int} : ∀ {out : List Int}, OInv T out → (∀ x ∈ xs, thereB (plT T).1 x = true) → OInv T (addRs out xs) := by
  induction xs with
  | nil => intro out h _; exact h
  | cons x xs ih => intro out h hx; exact ih (h.add (hx x List.mem_cons_self)) fun y hy => hx y (List.mem_cons_of_mem _ hy)
theorem OInv.len {T : HeapD} {out : List Int} (h : OInv T out) : out.length ≤ (plT T).1.length := nodup_len h.nodup h.sub
/-- The kids of a right heap's blocks are right. -/
theorem kids_there {T : HeapD} (h : heapB T = true) {x : Int} (hx : x ∈ (plT T).1) : ∀ y ∈ kidsL T.1 x.toNat, thereB (plT T).1 y = true := by
  intro y hy
  unfold heapB at h
  simp only [Bool.and_eq_true] at h
  have h1 : kidsB T x.toNat = true := List.all_eq_true.1 h.2 x hx
  unfold kidsL at hy
  obtain ⟨k, hk, rfl⟩ := List.mem_map.1 hy
  unfold kidsB at h1
  exact List.all_eq_true.1 h1 k hk

/-- Where a block of a right heap lies. -/
theorem place_in {T : HeapD} (h : heapB T = true) {x : Int} (hx : x ∈ (plT T).1) : ∃ z : Nat, x = z ∧ z + (manyF (T.1.getD z 0)).toNat < T.1.length := by
  obtain ⟨z, hz, -, h4⟩ := plF_in (W := T.1) (nx := T.2.2.2.toNat) (p := T.2.2.1.toNat) (heap_places h) x hx
  have := head_in (heap_head h)
  exact ⟨z, hz, by omega⟩
theorem places_len {T : HeapD} (h : heapB T = true) : (plT T).1.length ≤ T.1.length ∧ T.1.length ≤ 6000 := by
  have h1 := plF_len (W := T.1) (nx := T.2.2.2.toNat) (p := T.2.2.1.toNat)
  have h2 := head_in (heap_head h)
  unfold plT
  omega

end Go.Proofs.YthpdkjenadngoaaGreatDoor.heap
