/-
  The model's Alloc, at every argument; nothing that was there is turned.
-/
import Derived.Test.YtempmfpnngbbeabB1
import Derived.Test.YtempmfpnngbbeabB2
import Derived.Test.YtempmfpnngbbeabB3
import Derived.Test.YtempmfpnngbbeabB4
import Derived.Test.YtempmfpnngbbeabB5
import Derived.Test.YtempmfpnngbbeabB6
import Derived.Test.YtempmfpnngbbeabB7
import Derived.Test.YtempmfpnngbbeabB8
import Derived.Test.YtempmfpnngbbeabB9
import Derived.Test.YtempmfpnngbbeabB10
import Derived.Test.YtempmfpnngbbeabB11
namespace Go.Proofs.Ytempmfpnngbbeab.heap
open Go Go.RowKit Go.Proofs.Ytempmfpnngbbeab.rose Go.Proofs.Ytempmfpnngbbeab Go.Proofs.Ytempmfpnngbbeab.fun Go.Proofs.Ytempmfpnngbbeab.words Go.Proofs.Ytempmfpnngbbeab.ints
set_option linter.unusedVariables false
set_option linter.unusedSimpArgs false

/-- The argument's block, and the answer's, which is empty still. -/
structure AK (w wk : World) (cs : List Value) : Prop where
  arg : ArgK w wk cs 27
  res : wk.heap[w.heap.size + 1]? = some (.cells #[.slice none 0 0, .int .i64 0, .int .i64 0, .int .i64 0] 27)
theorem AK.lt {w wk : World} {cs : List Value} (h : AK w wk cs) : w.heap.size + 2 ≤ wk.heap.size := (Array.getElem?_eq_some_iff.1 h.res).1
theorem AK.on {w wk wl : World} {cs : List Value} (h : AK w wk cs) (hb : Below wk.heap.size wk wl) : AK w wl cs := ⟨h.arg.on hb, (hb.block _ h.lt).trans h.res⟩
theorem AK.low {w wk wl : World} {cs : List Value} {B : Nat} (h : AK w wk cs) (hB : w.heap.size + 2 ≤ B) (hb : Below B wk wl) : AK w wl cs := ⟨⟨h.arg.bel.trans (hb.mono (by omega)), (hb.block _ (by omega)).trans h.arg.blk⟩, (hb.block _ (by omega)).trans h.res⟩

/-- The answer is written. -/
theorem fin {w u : World} {cs : List Value} {W : List Int} {a1 a2 a3 : Int} {ua : Option Addr} {uc B : Nat} {x0 x1 x2 x3 : Value} {n : Int} {ok : Bool} (h : AK w u cs) (hr : IRow u B (.slice ua W.length uc) W) (hB : w.heap.size + 2 ≤ B)
    (hf : (-9223372036854775808 ≤ a1 ∧ a1 ≤ 9223372036854775807) ∧ (-9223372036854775808 ≤ a2 ∧ a2 ≤ 9223372036854775807) ∧ (-9223372036854775808 ≤ a3 ∧ a3 ≤ 9223372036854775807)) :
    (∃ cs', Ending.returned (.tuple #[.agg #[.slice ua W.length uc, .int .i64 a1, .int .i64 a2, .int .i64 a3], .int .i64 n, .bool ok]) = .returned (.tuple #[.agg cs'.toArray, .int .i64 n, .bool ok]) ∧
      heapSp.rep ((((u.setCell ⟨w.heap.size + 1, 0, none⟩ x0).setCell ⟨w.heap.size + 1, 1, none⟩ x1).setCell ⟨w.heap.size + 1, 2, none⟩ x2).setCell ⟨w.heap.size + 1, 3, none⟩ x3)
        (fun b => w.heap.size ≤ b ∧ b < ((((u.setCell ⟨w.heap.size + 1, 0, none⟩ x0).setCell ⟨w.heap.size + 1, 1, none⟩ x1).setCell ⟨w.heap.size + 1, 2, none⟩ x2).setCell ⟨w.heap.size + 1, 3, none⟩ x3).heap.size) cs' (W, a1, a2, a3)) ∧
      Below w.heap.size w ((((u.setCell ⟨w.heap.size + 1, 0, none⟩ x0).setCell ⟨w.heap.size + 1, 1, none⟩ x1).setCell ⟨w.heap.size + 1, 2, none⟩ x2).setCell ⟨w.heap.size + 1, 3, none⟩ x3) := by
  have hI : IRow ((((u.setCell ⟨w.heap.size + 1, 0, none⟩ x0).setCell ⟨w.heap.size + 1, 1, none⟩ x1).setCell ⟨w.heap.size + 1, 2, none⟩ x2).setCell ⟨w.heap.size + 1, 3, none⟩ x3) B (.slice ua W.length uc) W := by
    refine ⟨own_same hr.1 fun q hq => ?_, hr.2⟩
    have := (hr.lt q hq).1
    repeat rw [Below.heap_setCell _ _ _ _ (by show q ≠ w.heap.size + 1; omega)]
  refine ⟨⟨[.slice ua W.length uc, .int .i64 a1, .int .i64 a2, .int .i64 a3], rfl, heapp_shutv (irow_base0 hI (by omega)).sp hf.1 hf.2.1 hf.2.2⟩, ?_⟩
  have hb := h.arg.bel
  repeat first | with_reducible exact hb | (refine Below.setCell ?_ (by show w.heap.size ≤ w.heap.size + 1; omega) _)

set_option maxRecDepth 100000 in
set_option maxHeartbeats 16000000 in
theorem specAlloc (T : HeapD) (fn : Bool) (tag : Int) (kids : List Int) (cs : List Value) (vk : Value) (w : World) (hw : (wt T) ≤ 1048576) (hl : kids.length ≤ 1048576) (h1 : -9223372036854775808 ≤ tag) (h2 : tag ≤ 9223372036854775807) (h : heapSh.rep w (· < w.heap.size) cs T) (hk : intsSh.rep w (· < w.heap.size) [vk] kids) :
    Calls Try.prog 18 #[.agg cs.toArray, .bool fn, .int .i64 tag, vk] w fun e w' => (∃ cs', e = .returned (.tuple #[.agg cs'.toArray, .int .i64 (allocF T fn tag kids).2.1, .bool (allocF T fn tag kids).2.2]) ∧ heapSp.rep w' (fun b => w.heap.size ≤ b ∧ b < w'.heap.size) cs' (allocF T fn tag kids).1) ∧ Below w.heap.size w w' := by
  have AH : Hid (∀ w' : World, Below w.heap.size w w' → heapSh.rep w' (· < w'.heap.size) cs T) := fun w' hb => heapSh.mono (heapSh.below h hb) fun b hlt => Nat.lt_of_lt_of_le hlt hb.size
  have HKI : Hid (intsSh.rep w (· < w.heap.size) [vk] kids) := hk
  obtain ⟨ak, ck, hvk⟩ : ∃ a c, vk = .slice a kids.length c := by obtain ⟨a, c, e⟩ := slice_cells hk; simp only [List.cons.injEq, and_true] at e; exact ⟨a, c, e⟩
  subst hvk
  obtain ⟨W, a0, c0, half, base, next, rfl, rfl, f0, f1, f2, f3⟩ := heap_open h
  have HW : Hid (wt (W, half, base, next) ≤ 1048576) := hw
  have HFR : Hid ((-9223372036854775808 ≤ half ∧ half ≤ 9223372036854775807) ∧ (-9223372036854775808 ≤ base ∧ base ≤ 9223372036854775807) ∧ (-9223372036854775808 ≤ next ∧ next ≤ 9223372036854775807)) := ⟨f1, f2, f3⟩
  obtain ⟨r, hr⟩ : ∃ r, r = allocF (W, half, base, next) fn tag kids := ⟨_, rfl⟩
  have HR : Hid (r = allocF (W, half, base, next) fn tag kids) := hr
  rw [← hr]
  have K0 : Hid (AK w ((w.alloc (.cells #[.slice a0 W.length c0, .int .i64 half, .int .i64 base, .int .i64 next] 27)).alloc (.cells #[.slice none 0 0, .int .i64 0, .int .i64 0, .int .i64 0] 27)) [.slice a0 W.length c0, .int .i64 half, .int .i64 base, .int .i64 next]) := by
    have hA := ArgK.new w [.slice a0 W.length c0, .int .i64 half, .int .i64 base, .int .i64 next] 27 (arr := #[.slice a0 W.length c0, .int .i64 half, .int .i64 base, .int .i64 next]) rfl
    refine ⟨hA.on ((Below.refl _ _).alloc (Nat.le_refl _) _), ?_⟩
    have := alloc_top (w.alloc (.cells #[.slice a0 W.length c0, .int .i64 half, .int .i64 base, .int .i64 next] 27)) (.cells #[.slice none 0 0, .int .i64 0, .int .i64 0, .int .i64 0] 27)
    rwa [World.size_alloc] at this
  have hcall := specHeapOk (W, half, base, next) [.slice a0 W.length c0, .int .i64 half, .int .i64 base, .int .i64 next] _ (AH.out _ K0.out.arg.bel)
  clear h hk hr f0 f1 f2 f3 hw
  rcases q1 : heapB (W, half, base, next) with _ | _
  · have HF : Hid (r = ((W, half, base, next), 0, false)) := by show _ = _; rw [HR.out]; unfold allocF; rw [q1]; rfl
    rw [q1] at hcall
    clear q1
    go_enter Try.func18, Try.ntmps18
    go_wp2_with fail
    refine hcall.mono ?_
    rintro e w1 ⟨rfl, hb⟩
    have K1 : Hid (AK w w1 [.slice a0 W.length c0, .int .i64 half, .int .i64 base, .int .i64 next]) := K0.out.on hb
    clear hcall hb K0
    have b0 : w1.cell? ⟨w.heap.size, 0, none⟩ = some (.slice a0 W.length c0) := K1.out.arg.cell 0 rfl
    have b1 : w1.cell? ⟨w.heap.size, 1, none⟩ = some (.int .i64 half) := K1.out.arg.cell 1 rfl
    have b2 : w1.cell? ⟨w.heap.size, 2, none⟩ = some (.int .i64 base) := K1.out.arg.cell 2 rfl
    have b3 : w1.cell? ⟨w.heap.size, 3, none⟩ = some (.int .i64 next) := K1.out.arg.cell 3 rfl
    have hcpt := copy_is (W, half, base, next) [.slice a0 W.length c0, .int .i64 half, .int .i64 base, .int .i64 next] w1 HW.out (AH.out _ K1.out.arg.bel)
    go_wp2_with fail
    refine hcpt.mono ?_
    rintro e ut ⟨⟨xa, xc, rfl, hur⟩, hub⟩
    have Kt : Hid (AK w ut [.slice a0 W.length c0, .int .i64 half, .int .i64 base, .int .i64 next]) := K1.out.on hub
    have HUt : Hid (IRow ut w1.heap.size (.slice xa W.length xc) W ∧ w.heap.size + 2 ≤ w1.heap.size) := ⟨hur, K1.out.lt⟩
    clear hcpt hur hub b0 b1 b2 b3
    have z0 : ut.cell? ⟨w.heap.size + 1, 0, none⟩ = some (.slice none 0 0) := by simp [World.cell?, Kt.out.res]
    have z1 : ut.cell? ⟨w.heap.size + 1, 1, none⟩ = some (.int .i64 0) := by simp [World.cell?, Kt.out.res]
    have z2 : ut.cell? ⟨w.heap.size + 1, 2, none⟩ = some (.int .i64 0) := by simp [World.cell?, Kt.out.res]
    have z3 : ut.cell? ⟨w.heap.size + 1, 3, none⟩ = some (.int .i64 0) := by simp [World.cell?, Kt.out.res]
    have zf : ∀ j, ut.frozen? ⟨w.heap.size + 1, j, none⟩ = false := fun j => by simp [World.frozen?, Kt.out.res]
    go_wp2
    refine bodyPost_ret (v := .tuple #[.agg #[.slice xa W.length xc, .int .i64 half, .int .i64 base, .int .i64 next], .int .i64 0, .bool false]) (by simp [results, Try.f18, go_sem, z0, z1, z2, z3]) rfl ?_
    rw [HF.out]
    exact fin Kt.out HUt.out.1 HUt.out.2 HFR.out
  rw [q1] at hcall
  rcases q2 : inB tag 0 3000 with _ | _
  · have HF : Hid (r = ((W, half, base, next), 0, false)) := by show _ = _; rw [HR.out]; unfold allocF; rw [q1, q2]; rfl
    clear q1
    go_enter Try.func18, Try.ntmps18
    go_wp2_with fail
    refine hcall.mono ?_
    rintro e w1 ⟨rfl, hb⟩
    have K1 : Hid (AK w w1 [.slice a0 W.length c0, .int .i64 half, .int .i64 base, .int .i64 next]) := K0.out.on hb
    clear hcall hb K0
    have b0 : w1.cell? ⟨w.heap.size, 0, none⟩ = some (.slice a0 W.length c0) := K1.out.arg.cell 0 rfl
    have b1 : w1.cell? ⟨w.heap.size, 1, none⟩ = some (.int .i64 half) := K1.out.arg.cell 1 rfl
    have b2 : w1.cell? ⟨w.heap.size, 2, none⟩ = some (.int .i64 base) := K1.out.arg.cell 2 rfl
    have b3 : w1.cell? ⟨w.heap.size, 3, none⟩ = some (.int .i64 next) := K1.out.arg.cell 3 rfl
    have hcpt := copy_is (W, half, base, next) [.slice a0 W.length c0, .int .i64 half, .int .i64 base, .int .i64 next] w1 HW.out (AH.out _ K1.out.arg.bel)
    go_wp2_with (go_at_call 25; refine (in_is (by assumption)).mono ?_; rintro e w' ⟨rfl, hx⟩; subst w')
    refine hcpt.mono ?_
    rintro e ut ⟨⟨xa, xc, rfl, hur⟩, hub⟩
    have Kt : Hid (AK w ut [.slice a0 W.length c0, .int .i64 half, .int .i64 base, .int .i64 next]) := K1.out.on hub
    have HUt : Hid (IRow ut w1.heap.size (.slice xa W.length xc) W ∧ w.heap.size + 2 ≤ w1.heap.size) := ⟨hur, K1.out.lt⟩
    clear hcpt hur hub b0 b1 b2 b3
    have z0 : ut.cell? ⟨w.heap.size + 1, 0, none⟩ = some (.slice none 0 0) := by simp [World.cell?, Kt.out.res]
    have z1 : ut.cell? ⟨w.heap.size + 1, 1, none⟩ = some (.int .i64 0) := by simp [World.cell?, Kt.out.res]
    have z2 : ut.cell? ⟨w.heap.size + 1, 2, none⟩ = some (.int .i64 0) := by simp [World.cell?, Kt.out.res]
    have z3 : ut.cell? ⟨w.heap.size + 1, 3, none⟩ = some (.int .i64 0) := by simp [World.cell?, Kt.out.res]
    have zf : ∀ j, ut.frozen? ⟨w.heap.size + 1, j, none⟩ = false := fun j => by simp [World.frozen?, Kt.out.res]
    go_wp2
    refine bodyPost_ret (v := .tuple #[.agg #[.slice xa W.length xc, .int .i64 half, .int .i64 base, .int .i64 next], .int .i64 0, .bool false]) (by simp [results, Try.f18, go_sem, z0, z1, z2, z3]) rfl ?_
    rw [HF.out]
    exact fin Kt.out HUt.out.1 HUt.out.2 HFR.out
  have g2 := inB_yes q2
  by_cases q3 : kids.length ≤ 20
  case neg =>
    have t3 : decide ((20 : Int) < (kids.length : Int)) = true := by simp; omega
    have HF : Hid (r = ((W, half, base, next), 0, false)) := by show _ = _; rw [HR.out]; unfold allocF; rw [q1, q2]; simp [q3]
    clear q1
    go_enter Try.func18, Try.ntmps18
    go_wp2_with fail
    refine hcall.mono ?_
    rintro e w1 ⟨rfl, hb⟩
    have K1 : Hid (AK w w1 [.slice a0 W.length c0, .int .i64 half, .int .i64 base, .int .i64 next]) := K0.out.on hb
    clear hcall hb K0
    have b0 : w1.cell? ⟨w.heap.size, 0, none⟩ = some (.slice a0 W.length c0) := K1.out.arg.cell 0 rfl
    have b1 : w1.cell? ⟨w.heap.size, 1, none⟩ = some (.int .i64 half) := K1.out.arg.cell 1 rfl
    have b2 : w1.cell? ⟨w.heap.size, 2, none⟩ = some (.int .i64 base) := K1.out.arg.cell 2 rfl
    have b3 : w1.cell? ⟨w.heap.size, 3, none⟩ = some (.int .i64 next) := K1.out.arg.cell 3 rfl
    have hcpt := copy_is (W, half, base, next) [.slice a0 W.length c0, .int .i64 half, .int .i64 base, .int .i64 next] w1 HW.out (AH.out _ K1.out.arg.bel)
    go_wp2_with (go_at_call 25; refine (in_is (by assumption)).mono ?_; rintro e w' ⟨rfl, hx⟩; subst w')
    refine hcpt.mono ?_
    rintro e ut ⟨⟨xa, xc, rfl, hur⟩, hub⟩
    have Kt : Hid (AK w ut [.slice a0 W.length c0, .int .i64 half, .int .i64 base, .int .i64 next]) := K1.out.on hub
    have HUt : Hid (IRow ut w1.heap.size (.slice xa W.length xc) W ∧ w.heap.size + 2 ≤ w1.heap.size) := ⟨hur, K1.out.lt⟩
    clear hcpt hur hub b0 b1 b2 b3
    have z0 : ut.cell? ⟨w.heap.size + 1, 0, none⟩ = some (.slice none 0 0) := by simp [World.cell?, Kt.out.res]
    have z1 : ut.cell? ⟨w.heap.size + 1, 1, none⟩ = some (.int .i64 0) := by simp [World.cell?, Kt.out.res]
    have z2 : ut.cell? ⟨w.heap.size + 1, 2, none⟩ = some (.int .i64 0) := by simp [World.cell?, Kt.out.res]
    have z3 : ut.cell? ⟨w.heap.size + 1, 3, none⟩ = some (.int .i64 0) := by simp [World.cell?, Kt.out.res]
    have zf : ∀ j, ut.frozen? ⟨w.heap.size + 1, j, none⟩ = false := fun j => by simp [World.frozen?, Kt.out.res]
    go_wp2
    refine bodyPost_ret (v := .tuple #[.agg #[.slice xa W.length xc, .int .i64 half, .int .i64 base, .int .i64 next], .int .i64 0, .bool false]) (by simp [results, Try.f18, go_sem, z0, z1, z2, z3]) rfl ?_
    rw [HF.out]
    exact fin Kt.out HUt.out.1 HUt.out.2 HFR.out
  case pos =>
    have t3 : decide ((20 : Int) < (kids.length : Int)) = false := by simp; omega
    have HD : Hid (headB (W, half, base, next) = true) := heapB_in q1
    have H1 := head_in HD.out
    dsimp only at H1
    have Q1 : Hid (heapB (W, half, base, next) = true) := q1
    obtain ⟨hn, rfl⟩ : ∃ z : Nat, half = z := ⟨half.toNat, by omega⟩
    obtain ⟨bn, rfl⟩ : ∃ z : Nat, base = z := ⟨base.toNat, by omega⟩
    obtain ⟨nx, rfl⟩ : ∃ z : Nat, next = z := ⟨next.toNat, by omega⟩
    clear q1
    go_enter Try.func18, Try.ntmps18
    go_wp2_with fail
    refine hcall.mono ?_
    rintro e w1 ⟨rfl, hb⟩
    have K1 : Hid (AK w w1 [.slice a0 W.length c0, .int .i64 hn, .int .i64 bn, .int .i64 nx]) := K0.out.on hb
    clear hcall hb K0
    have b0 : w1.cell? ⟨w.heap.size, 0, none⟩ = some (.slice a0 W.length c0) := K1.out.arg.cell 0 rfl
    have b1 : w1.cell? ⟨w.heap.size, 1, none⟩ = some (.int .i64 hn) := K1.out.arg.cell 1 rfl
    have b2 : w1.cell? ⟨w.heap.size, 2, none⟩ = some (.int .i64 bn) := K1.out.arg.cell 2 rfl
    have b3 : w1.cell? ⟨w.heap.size, 3, none⟩ = some (.int .i64 nx) := K1.out.arg.cell 3 rfl
    have hcp := copy_is (W, (hn : Int), (bn : Int), (nx : Int)) [.slice a0 W.length c0, .int .i64 hn, .int .i64 bn, .int .i64 nx] w1 HW.out (AH.out _ K1.out.arg.bel)
    go_wp2_with (go_at_call 25; refine (in_is (by assumption)).mono ?_; rintro e w' ⟨rfl, hx⟩; subst w')
    refine hcp.mono ?_
    rintro e u1 ⟨⟨ua, uc, rfl, hur⟩, hub⟩
    try dsimp only at hur
    rcases hur.open with ⟨-, h0⟩ | ⟨g, cp, hv, -⟩
    · rw [h0] at H1; simp at H1; omega
    obtain ⟨rfl, rfl⟩ : ua = some ⟨g, 0, none⟩ ∧ uc = cp := by simp only [Value.slice.injEq] at hv; exact ⟨hv.1, hv.2.2⟩
    have K2 : Hid (AK w u1 [.slice a0 W.length c0, .int .i64 hn, .int .i64 bn, .int .i64 nx]) := K1.out.on hub
    have hz1 := K1.out.lt
    have hput := put_is W hn bn nx fn tag kids g uc w1.heap.size (.slice ak kids.length ck) u1 HD.out g2 q3 hur (intsSh.mono (intsSh.on HKI.out fun b hb' => K2.out.arg.bel.block b hb') fun b hb' => by omega)
    clear hcp hur hub b0 b1 b2 b3 hv
    by_cases hroom : (kids.length : Int) < (bn : Int) + hn - nx
    case neg =>
      simp only [if_neg hroom] at hput
      have HF : Hid (r = ((W, (hn : Int), (bn : Int), (nx : Int)), 0, false)) := by show _ = _; rw [HR.out]; unfold allocF; dsimp only; simp only [hroom, decide_false, Bool.and_false, Bool.false_and, Bool.false_eq_true, if_false]
      go_wp2_with fail
      refine hput.mono ?_
      rintro e u2 ⟨rfl, hb2⟩
      have K3 : Hid (AK w (u2.alloc (.cells #[.slice (some ⟨g, 0, none⟩) W.length uc, .int .i64 hn, .int .i64 bn, .int .i64 nx] 27)) [.slice a0 W.length c0, .int .i64 hn, .int .i64 bn, .int .i64 nx]) := (K2.out.on hb2).on ((Below.refl _ _).alloc (Nat.le_refl _) _)
      clear hput hb2
      have b0 : (u2.alloc (.cells #[.slice (some ⟨g, 0, none⟩) W.length uc, .int .i64 hn, .int .i64 bn, .int .i64 nx] 27)).cell? ⟨w.heap.size, 0, none⟩ = some (.slice a0 W.length c0) := K3.out.arg.cell 0 rfl
      have b1 : (u2.alloc (.cells #[.slice (some ⟨g, 0, none⟩) W.length uc, .int .i64 hn, .int .i64 bn, .int .i64 nx] 27)).cell? ⟨w.heap.size, 1, none⟩ = some (.int .i64 hn) := K3.out.arg.cell 1 rfl
      have b2 : (u2.alloc (.cells #[.slice (some ⟨g, 0, none⟩) W.length uc, .int .i64 hn, .int .i64 bn, .int .i64 nx] 27)).cell? ⟨w.heap.size, 2, none⟩ = some (.int .i64 bn) := K3.out.arg.cell 2 rfl
      have b3 : (u2.alloc (.cells #[.slice (some ⟨g, 0, none⟩) W.length uc, .int .i64 hn, .int .i64 bn, .int .i64 nx] 27)).cell? ⟨w.heap.size, 3, none⟩ = some (.int .i64 nx) := K3.out.arg.cell 3 rfl
      have hcps := copy_is (W, (hn : Int), (bn : Int), (nx : Int)) [.slice a0 W.length c0, .int .i64 hn, .int .i64 bn, .int .i64 nx] (u2.alloc (.cells #[.slice (some ⟨g, 0, none⟩) W.length uc, .int .i64 hn, .int .i64 bn, .int .i64 nx] 27)) HW.out (AH.out _ K3.out.arg.bel)
      go_wp2_with fail
      refine hcps.mono ?_
      rintro e us ⟨⟨xa, xc, rfl, hur⟩, hub⟩
      have Ks : Hid (AK w us [.slice a0 W.length c0, .int .i64 hn, .int .i64 bn, .int .i64 nx]) := K3.out.on hub
      have HUs : Hid (IRow us (u2.alloc (.cells #[.slice (some ⟨g, 0, none⟩) W.length uc, .int .i64 hn, .int .i64 bn, .int .i64 nx] 27)).heap.size (.slice xa W.length xc) W ∧ w.heap.size + 2 ≤ (u2.alloc (.cells #[.slice (some ⟨g, 0, none⟩) W.length uc, .int .i64 hn, .int .i64 bn, .int .i64 nx] 27)).heap.size) := ⟨hur, K3.out.lt⟩
      clear hcps hur hub b0 b1 b2 b3
      have z0 : us.cell? ⟨w.heap.size + 1, 0, none⟩ = some (.slice none 0 0) := by simp [World.cell?, Ks.out.res]
      have z1 : us.cell? ⟨w.heap.size + 1, 1, none⟩ = some (.int .i64 0) := by simp [World.cell?, Ks.out.res]
      have z2 : us.cell? ⟨w.heap.size + 1, 2, none⟩ = some (.int .i64 0) := by simp [World.cell?, Ks.out.res]
      have z3 : us.cell? ⟨w.heap.size + 1, 3, none⟩ = some (.int .i64 0) := by simp [World.cell?, Ks.out.res]
      have zf : ∀ j, us.frozen? ⟨w.heap.size + 1, j, none⟩ = false := fun j => by simp [World.frozen?, Ks.out.res]
      go_wp2
      refine bodyPost_ret (v := .tuple #[.agg #[.slice xa W.length xc, .int .i64 hn, .int .i64 bn, .int .i64 nx], .int .i64 0, .bool false]) (by simp [results, Try.f18, go_sem, z0, z1, z2, z3]) rfl ?_
      rw [HF.out]
      exact fin Ks.out HUs.out.1 HUs.out.2 HFR.out
    case pos =>
      simp only [if_pos hroom] at hput
      go_wp2_with fail
      refine hput.mono ?_
      rintro e u2 ⟨rfl, hr2, hb2⟩
      have K3 : Hid (AK w (u2.alloc (.cells #[.slice (some ⟨g, 0, none⟩) W.length uc, .int .i64 hn, .int .i64 bn, .int .i64 ((nx : Int) + 1 + kids.length)] 27)) [.slice a0 W.length c0, .int .i64 hn, .int .i64 bn, .int .i64 nx]) := (K2.out.low hz1 hb2).on ((Below.refl _ _).alloc (Nat.le_refl _) _)
      obtain ⟨X, hX⟩ : ∃ X, X = putW W nx (headW fn tag kids.length :: kids) := ⟨_, rfl⟩
      rw [← hX] at hr2
      have hXl : X.length = W.length := by rw [hX]; exact putW_length _ _ _
      have hM : moreF (W, (hn : Int), (bn : Int), (nx : Int)) fn tag kids = (X, (hn : Int), (bn : Int), (nx : Int) + 1 + kids.length) := by unfold moreF; dsimp only; rw [Int.toNat_natCast, hX]
      have RX : Hid (IRow (u2.alloc (.cells #[.slice (some ⟨g, 0, none⟩) W.length uc, .int .i64 hn, .int .i64 bn, .int .i64 ((nx : Int) + 1 + kids.length)] 27)) w1.heap.size (.slice (some ⟨g, 0, none⟩) W.length uc) X) := hr2.keep ((Below.refl _ _).alloc (Nat.le_refl _) _)
      have BX : Hid ((u2.alloc (.cells #[.slice (some ⟨g, 0, none⟩) W.length uc, .int .i64 hn, .int .i64 bn, .int .i64 ((nx : Int) + 1 + kids.length)] 27)).heap[u2.heap.size]? = some (.cells #[.slice (some ⟨g, 0, none⟩) W.length uc, .int .i64 hn, .int .i64 bn, .int .i64 ((nx : Int) + 1 + kids.length)] 27)) := alloc_top _ _
      have hcall5 := specHeapOk (X, (hn : Int), (bn : Int), (nx : Int) + 1 + kids.length) [.slice (some ⟨g, 0, none⟩) W.length uc, .int .i64 hn, .int .i64 bn, .int .i64 ((nx : Int) + 1 + kids.length)] (u2.alloc (.cells #[.slice (some ⟨g, 0, none⟩) W.length uc, .int .i64 hn, .int .i64 bn, .int .i64 ((nx : Int) + 1 + kids.length)] 27)) (by
        rw [← hXl]
        refine heap_shut (intsSh.mono (intsp_rep (by have := RX.out.sp; rw [← hXl] at this; exact this)) fun b hb' => ?_) (by omega) (by omega) (by omega)
        exact hb'.2)
      have HMX : Hid (moreF (W, (hn : Int), (bn : Int), (nx : Int)) fn tag kids = (X, (hn : Int), (bn : Int), (nx : Int) + 1 + kids.length)) := hM
      have HXL : Hid (X.length = W.length) := hXl
      clear hput hr2 hb2 hX hM
      rcases q5 : heapB (X, (hn : Int), (bn : Int), (nx : Int) + 1 + kids.length) with _ | _
      · have HF : Hid (r = ((W, (hn : Int), (bn : Int), (nx : Int)), 0, false)) := by show _ = _; rw [HR.out]; unfold allocF; rw [HMX.out, q5]; simp
        rw [q5] at hcall5
        clear q5
        go_wp2_with fail
        refine hcall5.mono ?_
        rintro e w5 ⟨rfl, hb5⟩
        have K5 : Hid (AK w w5 [.slice a0 W.length c0, .int .i64 hn, .int .i64 bn, .int .i64 nx]) := K3.out.on hb5
        clear hcall5 hb5 K3
        have b0 : w5.cell? ⟨w.heap.size, 0, none⟩ = some (.slice a0 W.length c0) := K5.out.arg.cell 0 rfl
        have b1 : w5.cell? ⟨w.heap.size, 1, none⟩ = some (.int .i64 hn) := K5.out.arg.cell 1 rfl
        have b2 : w5.cell? ⟨w.heap.size, 2, none⟩ = some (.int .i64 bn) := K5.out.arg.cell 2 rfl
        have b3 : w5.cell? ⟨w.heap.size, 3, none⟩ = some (.int .i64 nx) := K5.out.arg.cell 3 rfl
        have hcps := copy_is (W, (hn : Int), (bn : Int), (nx : Int)) [.slice a0 W.length c0, .int .i64 hn, .int .i64 bn, .int .i64 nx] w5 HW.out (AH.out _ K5.out.arg.bel)
        go_wp2_with fail
        refine hcps.mono ?_
        rintro e us ⟨⟨xa, xc, rfl, hur⟩, hub⟩
        have Ks : Hid (AK w us [.slice a0 W.length c0, .int .i64 hn, .int .i64 bn, .int .i64 nx]) := K5.out.on hub
        have HUs : Hid (IRow us w5.heap.size (.slice xa W.length xc) W ∧ w.heap.size + 2 ≤ w5.heap.size) := ⟨hur, K5.out.lt⟩
        clear hcps hur hub b0 b1 b2 b3
        have z0 : us.cell? ⟨w.heap.size + 1, 0, none⟩ = some (.slice none 0 0) := by simp [World.cell?, Ks.out.res]
        have z1 : us.cell? ⟨w.heap.size + 1, 1, none⟩ = some (.int .i64 0) := by simp [World.cell?, Ks.out.res]
        have z2 : us.cell? ⟨w.heap.size + 1, 2, none⟩ = some (.int .i64 0) := by simp [World.cell?, Ks.out.res]
        have z3 : us.cell? ⟨w.heap.size + 1, 3, none⟩ = some (.int .i64 0) := by simp [World.cell?, Ks.out.res]
        have zf : ∀ j, us.frozen? ⟨w.heap.size + 1, j, none⟩ = false := fun j => by simp [World.frozen?, Ks.out.res]
        go_wp2
        refine bodyPost_ret (v := .tuple #[.agg #[.slice xa W.length xc, .int .i64 hn, .int .i64 bn, .int .i64 nx], .int .i64 0, .bool false]) (by simp [results, Try.f18, go_sem, z0, z1, z2, z3]) rfl ?_
        rw [HF.out]
        exact fin Ks.out HUs.out.1 HUs.out.2 HFR.out
      · have HF : Hid (r = ((X, (hn : Int), (bn : Int), (nx : Int) + 1 + kids.length), (nx : Int), true)) := by
          show _ = _; rw [HR.out]; unfold allocF; rw [HMX.out, q5, Q1.out, q2]
          dsimp only
          simp only [decide_eq_true hroom, decide_eq_true q3, Bool.and_self, if_true]
        rw [q5] at hcall5
        clear q5
        go_wp2_with fail
        refine hcall5.mono ?_
        rintro e w5 ⟨rfl, hb5⟩
        have K5 : Hid (AK w w5 [.slice a0 W.length c0, .int .i64 hn, .int .i64 bn, .int .i64 nx]) := K3.out.on hb5
        have R5 : Hid (IRow w5 w1.heap.size (.slice (some ⟨g, 0, none⟩) W.length uc) X) := RX.out.keep hb5
        have hB5 := (hb5.block _ (Array.getElem?_eq_some_iff.1 BX.out).1).trans BX.out
        have v0 : w5.cell? ⟨u2.heap.size, 0, none⟩ = some (.slice (some ⟨g, 0, none⟩) W.length uc) := by simp [World.cell?, hB5]
        have v1 : w5.cell? ⟨u2.heap.size, 1, none⟩ = some (.int .i64 hn) := by simp [World.cell?, hB5]
        have v2 : w5.cell? ⟨u2.heap.size, 2, none⟩ = some (.int .i64 bn) := by simp [World.cell?, hB5]
        have v3 : w5.cell? ⟨u2.heap.size, 3, none⟩ = some (.int .i64 ((nx : Int) + 1 + kids.length)) := by simp [World.cell?, hB5]
        clear hcall5 hb5 K3 hB5
        have z0 : w5.cell? ⟨w.heap.size + 1, 0, none⟩ = some (.slice none 0 0) := by simp [World.cell?, K5.out.res]
        have z1 : w5.cell? ⟨w.heap.size + 1, 1, none⟩ = some (.int .i64 0) := by simp [World.cell?, K5.out.res]
        have z2 : w5.cell? ⟨w.heap.size + 1, 2, none⟩ = some (.int .i64 0) := by simp [World.cell?, K5.out.res]
        have z3 : w5.cell? ⟨w.heap.size + 1, 3, none⟩ = some (.int .i64 0) := by simp [World.cell?, K5.out.res]
        have zf : ∀ j, w5.frozen? ⟨w.heap.size + 1, j, none⟩ = false := fun j => by simp [World.frozen?, K5.out.res]
        go_wp2
        refine bodyPost_ret (v := .tuple #[.agg #[.slice (some ⟨g, 0, none⟩) W.length uc, .int .i64 hn, .int .i64 bn, .int .i64 ((nx : Int) + 1 + kids.length)], .int .i64 nx, .bool true]) (by simp [results, Try.f18, go_sem, z0, z1, z2, z3]) rfl ?_
        rw [HF.out, ← HXL.out]
        exact fin K5.out (by have := R5.out; rw [← HXL.out] at this; exact this) hz1 ⟨by omega, by omega, by omega⟩

end Go.Proofs.Ytempmfpnngbbeab.heap
