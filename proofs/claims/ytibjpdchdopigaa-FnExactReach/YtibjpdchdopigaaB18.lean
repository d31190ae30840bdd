/-
  The program's Reach, at every heap and all roots; nothing that was there is turned.
  The model's and the program's Reach, as the law's frame asks for them.
-/
import Derived.Sort.OwnSortedInts
import Derived.Test.YtibjpdchdopigaaB1
import Derived.Test.YtibjpdchdopigaaB2
import Derived.Test.YtibjpdchdopigaaB3
import Derived.Test.YtibjpdchdopigaaB4
import Derived.Test.YtibjpdchdopigaaB5
import Derived.Test.YtibjpdchdopigaaB6
import Derived.Test.YtibjpdchdopigaaB7
import Derived.Test.YtibjpdchdopigaaB8
import Derived.Test.YtibjpdchdopigaaB9
import Derived.Test.YtibjpdchdopigaaB10
import Derived.Test.YtibjpdchdopigaaB11
import Derived.Test.YtibjpdchdopigaaB12
import Derived.Test.YtibjpdchdopigaaB13
import Derived.Test.YtibjpdchdopigaaB14
import Derived.Test.YtibjpdchdopigaaB15
import Derived.Test.YtibjpdchdopigaaB16
import Derived.Test.YtibjpdchdopigaaB17
namespace Go.Proofs.Ytibjpdchdopigaa.heap
open Go Go.RowKit Go.Deep Go.Proofs.Ytibjpdchdopigaa.rose Go.Proofs.Ytibjpdchdopigaa Go.Proofs.Ytibjpdchdopigaa.fun Go.Proofs.Ytibjpdchdopigaa.words Go.Proofs.Ytibjpdchdopigaa.ints
set_option linter.unusedVariables false
set_option linter.unusedSimpArgs false

set_option maxRecDepth 100000 in
set_option maxHeartbeats 8000000 in
theorem implReach (T : HeapD) (rs : List Int) (cs : List Value) (v : Value) (w : World) (hw : (wt T) ≤ 1048576) (hl : rs.length ≤ 1048576) (h : heapSh.rep w (· < w.heap.size) cs T) (hv : intsSh.rep w (· < w.heap.size) [v] rs) :
    Calls Try.prog 9 #[.agg cs.toArray, v] w fun e w' => (∃ v', e = .returned v' ∧ IRow w' w.heap.size v' (reachF T rs)) ∧ Below w.heap.size w w' := by
  obtain ⟨W, a0, c0, half, base, next, rfl, rfl, f0, f1, f2, f3⟩ := heap_open h
  have A0 : Hid (ArgK w (w.alloc (.cells #[.slice a0 W.length c0, .int .i64 half, .int .i64 base, .int .i64 next] 27)) [.slice a0 W.length c0, .int .i64 half, .int .i64 base, .int .i64 next] 27) := ArgK.new _ _ _ rfl
  have hcall := meetTop_is W a0 c0 half base next rs v _ hl (heapSh.mono (heapSh.below h A0.out.bel) fun b hlt => Nat.lt_of_lt_of_le hlt A0.out.bel.size) (intsSh.mono (intsSh.below hv A0.out.bel) fun b hlt => Nat.lt_of_lt_of_le hlt A0.out.bel.size)
  have Z0 : (w.alloc (.cells #[.slice a0 W.length c0, .int .i64 half, .int .i64 base, .int .i64 next] 27)).heap.size = w.heap.size + 1 := by simp
  rw [Z0] at hcall
  have BA : Hid (Below w.heap.size w (w.alloc (.cells #[.slice a0 W.length c0, .int .i64 half, .int .i64 base, .int .i64 next] 27))) := A0.out.bel
  clear h f0 f1 f2 f3 hw hv
  rcases q : rightB (W, half, base, next) rs with _ | _
  · have HF : Hid (reachF (W, half, base, next) rs = []) := by show _ = _; unfold reachF; rw [q]; rfl
    go_enter Try.func9, Try.ntmps9
    go_wp2_with fail
    refine hcall.mono ?_
    rintro e w1 ⟨ho, hb⟩
    obtain ⟨p, rfl⟩ := ho.1 q
    have B1 : Hid (Below w.heap.size w w1) := BA.out.trans (hb.mono (by omega))
    clear hcall hb ho q
    go_wp2
    go_ret
    rw [HF.out]
    exact ⟨⟨_, rfl, IRow.nil _ _⟩, B1.out.alloc B1.out.size _⟩
  · have HF : Hid (reachF (W, half, base, next) rs = (orderF (W, half, base, next) rs).mergeSort fun x y => decide (x ≤ y)) := by show _ = _; unfold reachF; rw [q, sort_ins (order_inv q).nodup]; rfl
    go_enter Try.func9, Try.ntmps9
    go_wp2_with fail
    refine hcall.mono ?_
    rintro e w1 ⟨ho, hb⟩
    obtain ⟨hb', hm, hf, bs, nx, nb, B2, M, v, e1, e2, e3, rfl, hH, hN, hz1, hz2⟩ := ho.2 q
    have HLO : Hid (w.heap.size + 2 < B2) := by have := hH.lo; show _ < _; omega
    obtain ⟨O, hO⟩ : ∃ O, O = orderF (W, half, base, next) rs := ⟨_, rfl⟩
    rw [← hO] at hN HF
    have B1 : Hid (Below w.heap.size w w1) := BA.out.trans (hb.mono (by omega))
    obtain ⟨av, cv, hvv⟩ := own_form hN.plc.1
    subst hvv
    have N1 : Hid (Met B2 nb (.slice av O.length cv) bs hf O w1) := hN
    have HL : Hid (O.length ≤ 3000) := by show _ ≤ _; have := hN.siz; omega
    clear hcall hb ho q hH hN hO e1 e2 e3
    have T2 : Hid ((w1.alloc (.cells #[.int .i64 bs, .slice av O.length cv, .slice (some ⟨nb, 0, none⟩) hf hf] 41)).heap[w1.heap.size]? = some (.cells #[.int .i64 bs, .slice av O.length cv, .slice (some ⟨nb, 0, none⟩) hf hf] 41)) := alloc_top _ _
    have I2 : Hid (IRow (w1.alloc (.cells #[.int .i64 bs, .slice av O.length cv, .slice (some ⟨nb, 0, none⟩) hf hf] 41)) B2 (.slice av O.length cv) O) := N1.out.plc.keep ((Below.refl _ _).alloc (Nat.le_refl _) _)
    have D2 : Hid (Below w.heap.size w (w1.alloc (.cells #[.int .i64 bs, .slice av O.length cv, .slice (some ⟨nb, 0, none⟩) hf hf] 41))) := B1.out.alloc B1.out.size _
    have hlt2 : Hid (∀ q, (Value.slice av O.length cv).ownBlock = some q → q < w1.heap.size) := fun q hq => (N1.out.plc.lt q hq).2
    go_wp2_with fail
    generalize w1.alloc (.cells #[.int .i64 bs, .slice av O.length cv, .slice (some ⟨nb, 0, none⟩) hf hf] 41) = w2 at *
    have Z2 : Hid (w.heap.size + 2 ≤ w2.heap.size) := by have := (Array.getElem?_eq_some_iff.1 T2.out).1; have := HLO.out; have := D2.out.size; have := N1.out.lt; have := N1.out.lo; show _ ≤ _; omega
    rcases I2.out.1.2 with ⟨hnil, -⟩ | ⟨g, cap, cur, hvv, hg1, hg2, hg3, hg4, hg5, hg6⟩
    · simp only [Value.slice.injEq] at hnil
      obtain ⟨rfl, hn0, rfl⟩ := hnil
      have hO : O = [] := List.eq_nil_of_length_eq_zero hn0
      subst hO
      refine (Try.slices_Sort_int_none none 0 w2).mono ?_
      rintro e w6 ⟨rfl, rfl⟩
      have t1 : w6.cell? ⟨w1.heap.size, 1, none⟩ = some (.slice none 0 0) := blk_cellH (i := 1) T2.out rfl
      go_wp2
      go_ret
      rw [HF.out]
      exact ⟨⟨_, rfl, by simpa using IRow.nil _ _⟩, D2.out⟩
    · simp only [Value.slice.injEq] at hvv
      obtain ⟨rfl, -, rfl⟩ := hvv
      have hgl : g < w2.heap.size := (Array.getElem?_eq_some_iff.1 hg2).1
      have hgw := hlt2.out g rfl
      have hH := holds_of_blockI hg2 (by simpa using hg6)
      have IRR : Hid (∀ x ∈ O, InR x) := I2.out.2
      have HB6 : Hid (B2 ≤ g ∧ w2.heap[g]? = some (.cells cur 3) ∧ O.length ≤ cv ∧ cv ≤ maxLen ∧ cur.size = cv * 1) := ⟨hg1, hg2, by omega, hg4, hg5⟩
      have hcall := Try.slices_Sort_int g 0 cv O w2 hH hgl (by have := HL.out; omega)
      refine hcall.mono ?_
      rintro e w6 ⟨rfl, n6, os6, hw6⟩
      obtain ⟨q1, q2, q3, q4, q5⟩ := HB6.out
      have hl6 : (O.mergeSort fun x y => decide (x ≤ y)).length = O.length := List.length_mergeSort _
      have own := ownsRow_sortedI (w := w2) (base := B2) (g := g) (cap := cv) (n := n6) (e := 3) (os := os6) (cur := cur) (ss := O) (ts := O.mergeSort fun x y => decide (x ≤ y)) hl6 q1 q2 q3 q4 q5
      have grw := grownBy_sortedI (w := w2) (g := g) (n := n6) (os := os6) (O.mergeSort fun x y => decide (x ≤ y)).toArray
      rw [← hw6] at own grw
      have T6 : w6.heap[w1.heap.size]? = some (.cells #[.int .i64 bs, .slice (some ⟨g, 0, none⟩) O.length cv, .slice (some ⟨nb, 0, none⟩) hf hf] 41) := (grw.block w1.heap.size (Array.getElem?_eq_some_iff.1 T2.out).1 (fun e => by injection e with e; omega)).trans T2.out
      have t1 : w6.cell? ⟨w1.heap.size, 1, none⟩ = some (.slice (some ⟨g, 0, none⟩) O.length cv) := blk_cellH (i := 1) T6 rfl
      have OWN : Hid _ := own
      have D6 : Hid (Below w.heap.size w w6) := D2.out.grown grw (by have := Z2.out; omega) (fun k hk => by cases hk; have := HLO.out; omega)
      clear own grw T6 hw6 hcall hH hg1 hg2 hg3 hg4 hg5 hg6 hgl hgw q1 q2 q3 q4 q5
      go_wp2
      go_ret
      rw [HF.out]
      refine ⟨⟨_, rfl, ?_, fun x hx => IRR.out x ((List.mergeSort_perm O _).mem_iff.1 hx)⟩, D6.out⟩
      rw [hl6]
      exact own_base OWN.out (by have := HLO.out; omega)

end Go.Proofs.Ytibjpdchdopigaa.heap

namespace Go.Proofs.Ytibjpdchdopigaa.heap
open Go Go.RowKit Go.Proofs.Ytibjpdchdopigaa.rose Go.Proofs.Ytibjpdchdopigaa Go.Proofs.Ytibjpdchdopigaa.fun Go.Proofs.Ytibjpdchdopigaa.words Go.Proofs.Ytibjpdchdopigaa.ints
set_option linter.unusedVariables false

theorem specReach_std (T : HeapD) (rs : List Int) (cs : List Value) (v : Value) (w : World) (hw : (wt T) ≤ 1048576) (hl : rs.length ≤ 1048576) (h : heapSh.rep w (· < w.heap.size) cs T) (hv : intsSh.rep w (· < w.heap.size) [v] rs) :
    Calls Try.prog 6 #[.agg cs.toArray, v] w fun e w' => (∃ v', e = .returned v' ∧ intsSp.rep w' (fun b => w.heap.size ≤ b ∧ b < w'.heap.size) [v'] (reachF T rs)) ∧ Below w.heap.size w w' :=
  (specReach T rs cs v w hl h hv).mono fun e w' ⟨⟨v', he, hr⟩, hb⟩ => ⟨⟨v', he, hr.sp⟩, hb⟩
theorem implReach_std (T : HeapD) (rs : List Int) (cs : List Value) (v : Value) (w : World) (hw : (wt T) ≤ 1048576) (hl : rs.length ≤ 1048576) (h : heapSh.rep w (· < w.heap.size) cs T) (hv : intsSh.rep w (· < w.heap.size) [v] rs) :
    Calls Try.prog 9 #[.agg cs.toArray, v] w fun e w' => (∃ v', e = .returned v' ∧ intsSp.rep w' (fun b => w.heap.size ≤ b ∧ b < w'.heap.size) [v'] (reachF T rs)) ∧ Below w.heap.size w w' :=
  (implReach T rs cs v w hw hl h hv).mono fun e w' ⟨⟨v', he, hr⟩, hb⟩ => ⟨⟨v', he, hr.sp⟩, hb⟩
theorem cntT_boundR (T : HeapD) (hw : wt T ≤ 1048576) : cntT T ≤ 1073741824 := by
  obtain ⟨W, a, b, c⟩ := T
  have h1 : wt (W, a, b, c) = W.length := rfl
  have h2 : cntT (W, a, b, c) = W.length := rfl
  omega
theorem reach_bound (T : HeapD) (rs : List Int) : (reachF T rs).length ≤ 1073741824 := by
  unfold reachF
  split
  · rename_i h
    have h1 := ins_len (orderF T rs)
    have h2 := order_len h
    omega
  · simp

end Go.Proofs.Ytibjpdchdopigaa.heap
