/-
  The program's Room, at every heap; nothing that was there is turned.
  A heap at work looks at the kids of the block that is put next (mayKeep).
-/
import Derived.Defers
import Derived.Test.YtigcpigmfcgaoaaB1
import Derived.Test.YtigcpigmfcgaoaaB2
import Derived.Test.YtigcpigmfcgaoaaB3
import Derived.Test.YtigcpigmfcgaoaaB4
import Derived.Test.YtigcpigmfcgaoaaB5
import Derived.Test.YtigcpigmfcgaoaaB6
import Derived.Test.YtigcpigmfcgaoaaB7
import Derived.Test.YtigcpigmfcgaoaaB8
import Derived.Test.YtigcpigmfcgaoaaB9
import Derived.Test.YtigcpigmfcgaoaaB10
import Derived.Test.YtigcpigmfcgaoaaB11
import Derived.Test.YtigcpigmfcgaoaaB12
import Derived.Test.YtigcpigmfcgaoaaB13
import Derived.Test.YtigcpigmfcgaoaaB14
import Derived.Test.YtigcpigmfcgaoaaB15
import Derived.Test.YtigcpigmfcgaoaaB16
import Derived.Test.YtigcpigmfcgaoaaB17
import Derived.Test.YtigcpigmfcgaoaaB18
import Derived.Test.YtigcpigmfcgaoaaB19
import Derived.Test.YtigcpigmfcgaoaaB20
import Derived.Test.YtigcpigmfcgaoaaB21
import Derived.Test.YtigcpigmfcgaoaaB22
import Derived.Test.YtigcpigmfcgaoaaB23
import Derived.Test.YtigcpigmfcgaoaaB24
import Derived.Test.YtigcpigmfcgaoaaB25
import Derived.Test.YtigcpigmfcgaoaaB26
import Derived.Test.YtigcpigmfcgaoaaB27
import Derived.Test.YtigcpigmfcgaoaaB28
import Derived.Test.YtigcpigmfcgaoaaB29
namespace Go.Proofs.Ytigcpigmfcgaoaa.heap
open Go Go.RowKit Go.Proofs.Ytigcpigmfcgaoaa.rose Go.Proofs.Ytigcpigmfcgaoaa Go.Proofs.Ytigcpigmfcgaoaa.fun Go.Proofs.Ytigcpigmfcgaoaa.words Go.Proofs.Ytigcpigmfcgaoaa.ints
set_option linter.unusedVariables false
set_option linter.unusedSimpArgs false

/-- The lock's word is written. -/
theorem HH.lockw {B hb hm : Nat} {wv : Value} {W : List Int} {half base next : Nat} {lk : Int} {M : List Bool} {w : World} (h : HH B hb hm wv W half base next lk M w) (v : Int) : HH B hb hm wv W half base next v M (w.setCell ⟨hb, 0, none⟩ (.int .i32 v)) := by
  have hlo := h.lo
  refine ⟨h.lo, by simp [World.setCell, Array.getElem?_modify, h.blk], (Below.heap_setCell _ _ _ _ (by show hm ≠ hb; omega)).trans h.mks, h.len, intsSh.on h.wds fun b hb' => Below.heap_setCell _ _ _ _ (by show b ≠ hb; omega), h.siz⟩
theorem drewN_bel {B : Nat} {w w' : World} (h : Below B w w') (n : Nat) : Below B w (w'.drewN n) := ⟨h.os, h.tape, h.output, h.size, h.block⟩

set_option maxHeartbeats 4000000 in
theorem room_is {B hb hm : Nat} {wv : Value} {W : List Int} {half base next : Nat} {M : List Bool} {w : World} (h : HH B hb hm wv W half base next 0 M w) :
    Calls Try.prog 40 #[.pointer (some ⟨hb, 0, none⟩)] w fun e w' => e = .returned (.int .i64 ((base : Int) + half - next)) ∧ HH B hb hm wv W half base next 0 M w' ∧ Below B w w' := by
  have c0 := h.c0
  have z0 := h.frz 0
  have H1 : Hid (HH B hb hm wv W half base next 1 M (w.setCell ⟨hb, 0, none⟩ (.int .i32 1))) := h.lockw 1
  have B1 : Hid (Below B w (w.setCell ⟨hb, 0, none⟩ (.int .i32 1))) := (Below.refl _ _).setCell h.lo.1 _
  have LO : Hid (B ≤ hb) := h.lo.1
  have hcall := left_is H1.out
  clear h
  go_enter_defers Try.func40, Try.ntmps40
  go_wp2_with (go_at_call 47; refine (Go.MuLone.lock_free lock.muLib ⟨hb, 0, none⟩ _ c0 z0).mono ?_; rintro e w' ⟨rfl, rfl⟩)
  refine hcall.mono ?_
  rintro e w2 ⟨rfl, n, rfl⟩
  go_wp2
  refine leaves_cons (f := 48) (args := #[.pointer (some ⟨hb, 0, none⟩)]) (by simp) (by simp [go_sem]) ?_
  refine (Go.MuLone.unlock_deferred lock.muLib ⟨hb, 0, none⟩ .returning _ (H1.out.drewN n).c0 ((H1.out.drewN n).frz 0)).mono ?_
  rintro e u' w'' ⟨rfl, rfl, rfl⟩
  exact ⟨_, results_tmp rfl _ _ _, rfl, (H1.out.drewN n).lockw 0, (drewN_bel B1.out n).setCell LO.out _⟩

set_option maxHeartbeats 2000000 in
theorem implRoom (T : HeapD) (cs : List Value) (w : World) (hw : (wt T) ≤ 1048576) (h : heapSh.rep w (· < w.heap.size) cs T) :
    Calls Try.prog 19 #[.agg cs.toArray] w fun e w' => e = .returned (.int .i64 (roomF T)) ∧ Below w.heap.size w w' := by
  obtain ⟨W, a0, c0, half, base, next, rfl, rfl, f0, f1, f2, f3⟩ := heap_open h
  have A0 : Hid (ArgK w (w.alloc (.cells #[.slice a0 W.length c0, .int .i64 half, .int .i64 base, .int .i64 next] 26)) [.slice a0 W.length c0, .int .i64 half, .int .i64 base, .int .i64 next] 26) := ArgK.new _ _ _ rfl
  have hcall := hold_is W a0 c0 half base next _ (heapSh.mono (heapSh.below h A0.out.bel) fun b hlt => Nat.lt_of_lt_of_le hlt A0.out.bel.size)
  have hz : w.heap.size ≤ (w.alloc (.cells #[.slice a0 W.length c0, .int .i64 half, .int .i64 base, .int .i64 next] 26)).heap.size := A0.out.bel.size
  clear h f0 f1 f2 f3 hw
  rcases q : heapB (W, half, base, next) with _ | _
  · have HF : Hid (roomF (W, half, base, next) = 0) := by show _ = _; unfold roomF; rw [q]; rfl
    go_enter Try.func19, Try.ntmps19
    go_wp2_with fail
    refine hcall.mono ?_
    rintro e w1 ⟨ho, hb⟩
    obtain ⟨p, rfl⟩ := ho.1 q
    have A1 := A0.out.on hb
    clear hcall hb ho
    go_wp2
    go_ret
    exact ⟨ret_i HF.out.symm, A1.bel⟩
  · have HF : Hid (roomF (W, half, base, next) = base + half - next) := by show _ = _; unfold roomF; rw [q]; rfl
    go_enter Try.func19, Try.ntmps19
    go_wp2_with fail
    refine hcall.mono ?_
    rintro e w1 ⟨ho, hb⟩
    obtain ⟨hb', hm, hf, bs, nx, M, e1, e2, e3, rfl, hH, -⟩ := ho.2 q
    have A1 := A0.out.on hb
    have HZ : Hid (w.heap.size ≤ (w.alloc (.cells #[.slice a0 W.length c0, .int .i64 half, .int .i64 base, .int .i64 next] 26)).heap.size) := hz
    have hc2 := room_is hH
    subst e1 e2 e3
    clear hcall hb ho hH hz
    go_wp2_with fail
    refine hc2.mono ?_
    rintro e w2 ⟨rfl, -, hb2⟩
    go_wp2
    go_ret
    exact ⟨ret_i HF.out.symm, A1.bel.trans (hb2.mono HZ.out)⟩

end Go.Proofs.Ytigcpigmfcgaoaa.heap

namespace Go.Proofs.Ytigcpigmfcgaoaa.heap
open Go Go.RowKit Go.Proofs.Ytigcpigmfcgaoaa.rose Go.Proofs.Ytigcpigmfcgaoaa Go.Proofs.Ytigcpigmfcgaoaa.fun Go.Proofs.Ytigcpigmfcgaoaa.words Go.Proofs.Ytigcpigmfcgaoaa.ints
set_option linter.unusedVariables false
set_option linter.unusedSimpArgs false

/-- Whether a kid is right, the new block's own place among the places. -/
def keepB (base next : Nat) (M : List Bool) (x : Int) : Bool := kidM base next M x || decide (x = 2 * (next : Int))

theorem refWord_same (n : Nat) (w : World) (h : n ≤ 6000) : Calls Try.prog 70 #[.int .i64 n] w fun e w' => e = .returned (.int .i64 (2 * (n : Int))) ∧ w' = w := by
  have t1 : decide ((n : Int) < 0) = false := decide_eq_false (by omega)
  have t2 : decide ((6000 : Int) < (n : Int)) = false := decide_eq_false (by omega)
  go_enter Try.func70, Try.ntmps70
  go_wp2
  go_ret
  exact ⟨rfl, rfl⟩

set_option maxRecDepth 100000 in
set_option maxHeartbeats 4000000 in
theorem mayKeep_is {B hb hm : Nat} {wv : Value} {W : List Int} {half base next : Nat} {lk : Int} {M : List Bool} {w : World} (h : HH B hb hm wv W half base next lk M w) (ak : Option Addr) (ck : Nat) (kids : List Int) (S : Nat → Prop) (hk : intsSh.rep w S [.slice ak kids.length ck] kids) :
    Calls Try.prog 52 #[.pointer (some ⟨hb, 0, none⟩), .slice ak kids.length ck] w fun e w' => e = .returned (.bool (kids.all (keepB base next M))) ∧ ∃ n, w' = w.drewN n := by
  have HW : Hid (HH B hb hm wv W half base next lk M w) := h
  obtain ⟨a, cap, e, hcap, hmax, hat⟩ := ints_open hk
  cases e
  have HA : Hid _ := hat
  have hn6 : next ≤ 6000 := by have := h.siz; omega
  have hkl : (kids.length : Int) ≤ 9223372036854775807 := by unfold maxLen at hmax; omega
  obtain ⟨r, hr⟩ : ∃ r, r = kids.all (keepB base next M) := ⟨_, rfl⟩
  have HR : Hid (r = kids.all (keepB base next M)) := hr
  rw [← hr]
  clear h hk hat hcap hmax hr
  go_enter Try.func52, Try.ntmps52
  go_wp2
  go_loopw [9] (fun v9 wr => ∃ k n : Nat, k ≤ kids.length ∧ v9 = .int .i64 k ∧ Hid (wr = w.drewN n) ∧ Hid (∀ j (hj : j < kids.length), j < k → keepB base next M kids[j] = true)) (fun v9 _ => kids.length + 1 - (intOf v9).toNat)
  case atStart => exact ⟨0, 0, Nat.zero_le _, rfl, rfl, fun j _ hj => absurd hj (Nat.not_lt_zero _)⟩
  case round =>
    obtain ⟨k, n, hkk, rfl, HN, HT⟩ := hrel
    by_cases hlt : k < kids.length
    · obtain ⟨b, o, rfl, -, hc, r1, r2⟩ := HA.out k hlt
      have ck : wr.cell? ⟨b, o + k, none⟩ = some (.int .i64 kids[k]) := by rw [HN.out]; exact hc
      obtain ⟨x, hx⟩ : ∃ x, x = kids[k] := ⟨_, rfl⟩
      rw [← hx] at ck r1 r2
      have HX : Hid (x = kids[k]) := hx
      have HWr : Hid (HH B hb hm wv W half base next lk M wr) := by rw [HN.out]; exact HW.out.drewN n
      have hc2 := okKid_is HWr.out x r1 r2
      have i0 : (0 : Int) ≤ (k : Int) := by omega
      have i1 : (k : Int) < (kids.length : Int) := by omega
      clear hc hx
      rcases q : kidM base next M x with _ | _
      · rw [q] at hc2
        rcases q2 : decide (x = 2 * (next : Int)) with _ | _
        · have HF : Hid (r = false) := by
            show _ = _
            rw [HR.out, List.all_eq_false]
            exact ⟨kids[k], List.getElem_mem hlt, by rw [← HX.out]; unfold keepB; rw [q, q2]; decide⟩
          have t2 : (x != 2 * (next : Int)) = true := by have := of_decide_eq_false q2; simpa using this
          clear q q2
          go_wp2_with fail
          refine hc2.mono ?_
          rintro e w3 ⟨rfl, n3, rfl⟩
          have c5 := (HWr.out.drewN n3).c5
          have hrw := refWord_same next (wr.drewN n3) hn6
          clear hc2
          go_wp2_with fail
          refine hrw.mono ?_
          rintro e w4 ⟨rfl, hw4⟩
          subst hw4
          go_wp2
          go_ret
          exact ⟨ret_b HF.out.symm, ⟨n + n3, by rw [HN.out, World.drewN_drewN]⟩⟩
        · have HQ : Hid (keepB base next M kids[k] = true) := by show _ = _; rw [← HX.out]; unfold keepB; rw [q, q2]; rfl
          have t2 : (x != 2 * (next : Int)) = false := by have := of_decide_eq_true q2; simpa using this
          clear q q2
          go_wp2_with fail
          refine hc2.mono ?_
          rintro e w3 ⟨rfl, n3, rfl⟩
          have c5 := (HWr.out.drewN n3).c5
          have hrw := refWord_same next (wr.drewN n3) hn6
          have HN3 : Hid (wr.drewN n3 = w.drewN (n + n3)) := by show _ = _; rw [HN.out, World.drewN_drewN]
          clear hc2
          go_wp2_with fail
          refine hrw.mono ?_
          rintro e w4 ⟨rfl, hw4⟩
          subst hw4
          go_wp2
          go_round
          case rel => exact ⟨k + 1, n + n3, by omega, by go_num, HN3, fun j hj hjk => by
            by_cases e : j = k
            · subst e; exact HQ.out
            · exact HT.out j hj (by omega)⟩
          case measure => simp [intOf]; omega
      · have HQ : Hid (keepB base next M kids[k] = true) := by show _ = _; rw [← HX.out]; unfold keepB; rw [q]; rfl
        rw [q] at hc2
        clear q
        go_wp2_with fail
        refine hc2.mono ?_
        rintro e w3 ⟨rfl, n3, rfl⟩
        have HN3 : Hid (wr.drewN n3 = w.drewN (n + n3)) := by show _ = _; rw [HN.out, World.drewN_drewN]
        clear hc2
        go_wp2
        go_round
        case rel => exact ⟨k + 1, n + n3, by omega, by go_num, HN3, fun j hj hjk => by
          by_cases e : j = k
          · subst e; exact HQ.out
          · exact HT.out j hj (by omega)⟩
        case measure => simp [intOf]; omega
    · obtain rfl : k = kids.length := by omega
      have HF : Hid (r = true) := by
        show _ = _
        rw [HR.out, List.all_eq_true]
        intro y hy
        obtain ⟨j, hj, e⟩ := List.getElem_of_mem hy
        rw [← e]; exact HT.out j hj hj
      go_wp2
      go_ret
      exact ⟨ret_b HF.out.symm, ⟨n, HN.out⟩⟩

end Go.Proofs.Ytigcpigmfcgaoaa.heap
