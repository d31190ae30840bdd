/-
  The program's HeapOk, at every heap; nothing that was there is turned.
  The program's Room, at every heap; nothing that was there is turned.
  A heap at work looks at the kids of the block that is put next (mayKeep).
  What is come to from roots, and in which order (chapter 18): told in plain data; no program named.
-/
import Derived.Defers
import Derived.Test.YtempmfpnngbbeabB1
import Derived.Test.YtempmfpnngbbeabB2
import Derived.Test.YtempmfpnngbbeabB3
import Derived.Test.YtempmfpnngbbeabB4
import Derived.Test.YtempmfpnngbbeabB5
import Derived.Test.YtempmfpnngbbeabB6
import Derived.Test.YtempmfpnngbbeabB7
import Derived.Test.YtempmfpnngbbeabB8
import Derived.Test.YtempmfpnngbbeabB9
import Derived.Test.YtempmfpnngbbeabB10
import Derived.Test.YtempmfpnngbbeabB11
import Derived.Test.YtempmfpnngbbeabB12
import Derived.Test.YtempmfpnngbbeabB13
import Derived.Test.YtempmfpnngbbeabB14
import Derived.Test.YtempmfpnngbbeabB15
import Derived.Test.YtempmfpnngbbeabB16
import Derived.Test.YtempmfpnngbbeabB17
namespace Go.Proofs.Ytempmfpnngbbeab.heap
open Go Go.RowKit Go.Proofs.Ytempmfpnngbbeab.rose Go.Proofs.Ytempmfpnngbbeab Go.Proofs.Ytempmfpnngbbeab.fun Go.Proofs.Ytempmfpnngbbeab.words Go.Proofs.Ytempmfpnngbbeab.ints
set_option linter.unusedVariables false
set_option linter.unusedSimpArgs false

set_option maxHeartbeats 2000000 in
theorem implHeapOk (T : HeapD) (cs : List Value) (w : World) (hw : (wt T) ≤ 1048576) (h : heapSh.rep w (· < w.heap.size) cs T) :
    Calls Try.prog 10 #[.agg cs.toArray] w fun e w' => e = .returned (.bool (heapB T)) ∧ Below w.heap.size w w' := by
  obtain ⟨W, a0, c0, half, base, next, rfl, rfl, f0, f1, f2, f3⟩ := heap_open h
  have A0 : Hid (ArgK w (w.alloc (.cells #[.slice a0 W.length c0, .int .i64 half, .int .i64 base, .int .i64 next] 27)) [.slice a0 W.length c0, .int .i64 half, .int .i64 base, .int .i64 next] 27) := ArgK.new _ _ _ rfl
  have hcall := hold_is W a0 c0 half base next _ (heapSh.mono (heapSh.below h A0.out.bel) fun b hlt => Nat.lt_of_lt_of_le hlt A0.out.bel.size)
  clear h f0 f1 f2 f3 hw
  rcases q : heapB (W, half, base, next) with _ | _
  · go_enter Try.func10, Try.ntmps10
    go_wp2_with fail
    refine hcall.mono ?_
    rintro e w1 ⟨ho, hb⟩
    obtain ⟨p, rfl⟩ := ho.1 q
    have A1 := A0.out.on hb
    clear hcall hb ho
    go_wp2
    go_ret
    exact ⟨rfl, A1.bel⟩
  · go_enter Try.func10, Try.ntmps10
    go_wp2_with fail
    refine hcall.mono ?_
    rintro e w1 ⟨ho, hb⟩
    obtain ⟨hb', hm, hf, bs, nx, M, -, -, -, rfl, -, -⟩ := ho.2 q
    have A1 := A0.out.on hb
    clear hcall hb ho
    go_wp2
    go_ret
    exact ⟨rfl, A1.bel⟩

end Go.Proofs.Ytempmfpnngbbeab.heap

namespace Go.Proofs.Ytempmfpnngbbeab.heap
open Go Go.RowKit Go.Proofs.Ytempmfpnngbbeab.rose Go.Proofs.Ytempmfpnngbbeab Go.Proofs.Ytempmfpnngbbeab.fun Go.Proofs.Ytempmfpnngbbeab.words Go.Proofs.Ytempmfpnngbbeab.ints
set_option linter.unusedVariables false
set_option linter.unusedSimpArgs false

/-- The lock's word is written. -/
theorem HH.lockw {B hb hm : Nat} {wv : Value} {W : List Int} {half base next : Nat} {lk : Int} {M : List Bool} {w : World} (h : HH B hb hm wv W half base next lk M w) (v : Int) : HH B hb hm wv W half base next v M (w.setCell ⟨hb, 0, none⟩ (.int .i32 v)) := by
  have hlo := h.lo
  refine ⟨h.lo, by simp [World.setCell, Array.getElem?_modify, h.blk], (Below.heap_setCell _ _ _ _ (by show hm ≠ hb; omega)).trans h.mks, h.len, intsSh.on h.wds fun b hb' => Below.heap_setCell _ _ _ _ (by show b ≠ hb; omega), h.siz⟩
theorem drewN_bel {B : Nat} {w w' : World} (h : Below B w w') (n : Nat) : Below B w (w'.drewN n) := ⟨h.os, h.tape, h.output, h.size, h.block⟩

set_option maxHeartbeats 4000000 in
theorem room_is {B hb hm : Nat} {wv : Value} {W : List Int} {half base next : Nat} {M : List Bool} {w : World} (h : HH B hb hm wv W half base next 0 M w) :
    Calls Try.prog 36 #[.pointer (some ⟨hb, 0, none⟩)] w fun e w' => e = .returned (.int .i64 ((base : Int) + half - next)) ∧ HH B hb hm wv W half base next 0 M w' ∧ Below B w w' := by
  have c0 := h.c0
  have z0 := h.frz 0
  have H1 : Hid (HH B hb hm wv W half base next 1 M (w.setCell ⟨hb, 0, none⟩ (.int .i32 1))) := h.lockw 1
  have B1 : Hid (Below B w (w.setCell ⟨hb, 0, none⟩ (.int .i32 1))) := (Below.refl _ _).setCell h.lo.1 _
  have LO : Hid (B ≤ hb) := h.lo.1
  have hcall := left_is H1.out
  clear h
  go_enter_defers Try.func36, Try.ntmps36
  go_wp2_with (go_at_call 45; refine (Go.MuLone.lock_free lock.muLib ⟨hb, 0, none⟩ _ c0 z0).mono ?_; rintro e w' ⟨rfl, rfl⟩)
  refine hcall.mono ?_
  rintro e w2 ⟨rfl, n, rfl⟩
  go_wp2
  refine leaves_cons (f := 46) (args := #[.pointer (some ⟨hb, 0, none⟩)]) (by simp) (by simp [go_sem]) ?_
  refine (Go.MuLone.unlock_deferred lock.muLib ⟨hb, 0, none⟩ .returning _ (H1.out.drewN n).c0 ((H1.out.drewN n).frz 0)).mono ?_
  rintro e u' w'' ⟨rfl, rfl, rfl⟩
  exact ⟨_, results_tmp rfl _ _ _, rfl, (H1.out.drewN n).lockw 0, (drewN_bel B1.out n).setCell LO.out _⟩

set_option maxHeartbeats 2000000 in
theorem implRoom (T : HeapD) (cs : List Value) (w : World) (hw : (wt T) ≤ 1048576) (h : heapSh.rep w (· < w.heap.size) cs T) :
    Calls Try.prog 23 #[.agg cs.toArray] w fun e w' => e = .returned (.int .i64 (roomF T)) ∧ Below w.heap.size w w' := by
  obtain ⟨W, a0, c0, half, base, next, rfl, rfl, f0, f1, f2, f3⟩ := heap_open h
  have A0 : Hid (ArgK w (w.alloc (.cells #[.slice a0 W.length c0, .int .i64 half, .int .i64 base, .int .i64 next] 27)) [.slice a0 W.length c0, .int .i64 half, .int .i64 base, .int .i64 next] 27) := ArgK.new _ _ _ rfl
  have hcall := hold_is W a0 c0 half base next _ (heapSh.mono (heapSh.below h A0.out.bel) fun b hlt => Nat.lt_of_lt_of_le hlt A0.out.bel.size)
  have hz : w.heap.size ≤ (w.alloc (.cells #[.slice a0 W.length c0, .int .i64 half, .int .i64 base, .int .i64 next] 27)).heap.size := A0.out.bel.size
  clear h f0 f1 f2 f3 hw
  rcases q : heapB (W, half, base, next) with _ | _
  · have HF : Hid (roomF (W, half, base, next) = 0) := by show _ = _; unfold roomF; rw [q]; rfl
    go_enter Try.func23, Try.ntmps23
    go_wp2_with fail
    refine hcall.mono ?_
    rintro e w1 ⟨ho, hb⟩
    obtain ⟨p, rfl⟩ := ho.1 q
    have A1 := A0.out.on hb
    clear hcall hb ho
    go_wp2
    go_ret
    exact ⟨ret_i HF.out.symm, A1.bel⟩
  · have HF : Hid (roomF (W, half, base, next) = base + half - next) := by show _ = _; unfold roomF; rw [q]; rfl
    go_enter Try.func23, Try.ntmps23
    go_wp2_with fail
    refine hcall.mono ?_
    rintro e w1 ⟨ho, hb⟩
    obtain ⟨hb', hm, hf, bs, nx, M, e1, e2, e3, rfl, hH, -⟩ := ho.2 q
    have A1 := A0.out.on hb
    have HZ : Hid (w.heap.size ≤ (w.alloc (.cells #[.slice a0 W.length c0, .int .i64 half, .int .i64 base, .int .i64 next] 27)).heap.size) := hz
    have hc2 := room_is hH
    subst e1 e2 e3
    clear hcall hb ho hH hz
    go_wp2_with fail
    refine hc2.mono ?_
    rintro e w2 ⟨rfl, -, hb2⟩
    go_wp2
    go_ret
    exact ⟨ret_i HF.out.symm, A1.bel.trans (hb2.mono HZ.out)⟩

end Go.Proofs.Ytempmfpnngbbeab.heap

namespace Go.Proofs.Ytempmfpnngbbeab.heap
open Go Go.RowKit Go.Proofs.Ytempmfpnngbbeab.rose Go.Proofs.Ytempmfpnngbbeab Go.Proofs.Ytempmfpnngbbeab.fun Go.Proofs.Ytempmfpnngbbeab.words Go.Proofs.Ytempmfpnngbbeab.ints
set_option linter.unusedVariables false
set_option linter.unusedSimpArgs false

/-- Whether a kid is right, the new block's own place among the places. -/
def keepB (base next : Nat) (M : List Bool) (x : Int) : Bool := kidM base next M x || decide (x = 2 * (next : Int))

theorem refWord_same (n : Nat) (w : World) (h : n ≤ 6000) : Calls Try.prog 65 #[.int .i64 n] w fun e w' => e = .returned (.int .i64 (2 * (n : Int))) ∧ w' = w := by
  have t1 : decide ((n : Int) < 0) = false := decide_eq_false (by omega)
  have t2 : decide ((6000 : Int) < (n : Int)) = false := decide_eq_false (by omega)
  go_enter Try.func65, Try.ntmps65
  go_wp2
  go_ret
  exact ⟨rfl, rfl⟩

set_option maxRecDepth 100000 in
set_option maxHeartbeats 4000000 in
theorem mayKeep_is {B hb hm : Nat} {wv : Value} {W : List Int} {half base next : Nat} {lk : Int} {M : List Bool} {w : World} (h : HH B hb hm wv W half base next lk M w) (ak : Option Addr) (ck : Nat) (kids : List Int) (S : Nat → Prop) (hk : intsSh.rep w S [.slice ak kids.length ck] kids) :
    Calls Try.prog 54 #[.pointer (some ⟨hb, 0, none⟩), .slice ak kids.length ck] w fun e w' => e = .returned (.bool (kids.all (keepB base next M))) ∧ ∃ n, w' = w.drewN n := by
  have HW : Hid (HH B hb hm wv W half base next lk M w) := h
  obtain ⟨a, cap, e, hcap, hmax, hat⟩ := ints_open hk
  cases e
  have HA : Hid _ := hat
  have hn6 : next ≤ 6000 := by have := h.siz; omega
  have hkl : (kids.length : Int) ≤ 9223372036854775807 := by unfold maxLen at hmax; omega
  obtain ⟨r, hr⟩ : ∃ r, r = kids.all (keepB base next M) := ⟨_, rfl⟩
  have HR : Hid (r = kids.all (keepB base next M)) := hr
  rw [← hr]
  clear h hk hat hcap hmax hr
  go_enter Try.func54, Try.ntmps54
  go_wp2
  go_loopw [9] (fun v9 wr => ∃ k n : Nat, k ≤ kids.length ∧ v9 = .int .i64 k ∧ Hid (wr = w.drewN n) ∧ Hid (∀ j (hj : j < kids.length), j < k → keepB base next M kids[j] = true)) (fun v9 _ => kids.length + 1 - (intOf v9).toNat)
  case atStart => exact ⟨0, 0, Nat.zero_le _, rfl, rfl, fun j _ hj => absurd hj (Nat.not_lt_zero _)⟩
  case round =>
    obtain ⟨k, n, hkk, rfl, HN, HT⟩ := hrel
    by_cases hlt : k < kids.length
    · obtain ⟨b, o, rfl, -, hc, r1, r2⟩ := HA.out k hlt
      have ck : wr.cell? ⟨b, o + k, none⟩ = some (.int .i64 kids[k]) := by rw [HN.out]; exact hc
      obtain ⟨x, hx⟩ : ∃ x, x = kids[k] := ⟨_, rfl⟩
      rw [← hx] at ck r1 r2
      have HX : Hid (x = kids[k]) := hx
      have HWr : Hid (HH B hb hm wv W half base next lk M wr) := by rw [HN.out]; exact HW.out.drewN n
      have hc2 := okKid_is HWr.out x r1 r2
      have i0 : (0 : Int) ≤ (k : Int) := by omega
      have i1 : (k : Int) < (kids.length : Int) := by omega
      clear hc hx
      rcases q : kidM base next M x with _ | _
      · rw [q] at hc2
        rcases q2 : decide (x = 2 * (next : Int)) with _ | _
        · have HF : Hid (r = false) := by
            show _ = _
            rw [HR.out, List.all_eq_false]
            exact ⟨kids[k], List.getElem_mem hlt, by rw [← HX.out]; unfold keepB; rw [q, q2]; decide⟩
          have t2 : (x != 2 * (next : Int)) = true := by have := of_decide_eq_false q2; simpa using this
          clear q q2
          go_wp2_with fail
          refine hc2.mono ?_
          rintro e w3 ⟨rfl, n3, rfl⟩
          have c5 := (HWr.out.drewN n3).c5
          have hrw := refWord_same next (wr.drewN n3) hn6
          clear hc2
          go_wp2_with fail
          refine hrw.mono ?_
          rintro e w4 ⟨rfl, hw4⟩
          subst hw4
          go_wp2
          go_ret
          exact ⟨ret_b HF.out.symm, ⟨n + n3, by rw [HN.out, World.drewN_drewN]⟩⟩
        · have HQ : Hid (keepB base next M kids[k] = true) := by show _ = _; rw [← HX.out]; unfold keepB; rw [q, q2]; rfl
          have t2 : (x != 2 * (next : Int)) = false := by have := of_decide_eq_true q2; simpa using this
          clear q q2
          go_wp2_with fail
          refine hc2.mono ?_
          rintro e w3 ⟨rfl, n3, rfl⟩
          have c5 := (HWr.out.drewN n3).c5
          have hrw := refWord_same next (wr.drewN n3) hn6
          have HN3 : Hid (wr.drewN n3 = w.drewN (n + n3)) := by show _ = _; rw [HN.out, World.drewN_drewN]
          clear hc2
          go_wp2_with fail
          refine hrw.mono ?_
          rintro e w4 ⟨rfl, hw4⟩
          subst hw4
          go_wp2
          go_round
          case rel => exact ⟨k + 1, n + n3, by omega, by go_num, HN3, fun j hj hjk => by
            by_cases e : j = k
            · subst e; exact HQ.out
            · exact HT.out j hj (by omega)⟩
          case measure => simp [intOf]; omega
      · have HQ : Hid (keepB base next M kids[k] = true) := by show _ = _; rw [← HX.out]; unfold keepB; rw [q]; rfl
        rw [q] at hc2
        clear q
        go_wp2_with fail
        refine hc2.mono ?_
        rintro e w3 ⟨rfl, n3, rfl⟩
        have HN3 : Hid (wr.drewN n3 = w.drewN (n + n3)) := by show _ = _; rw [HN.out, World.drewN_drewN]
        clear hc2
        go_wp2
        go_round
        case rel => exact ⟨k + 1, n + n3, by omega, by go_num, HN3, fun j hj hjk => by
          by_cases e : j = k
          · subst e; exact HQ.out
          · exact HT.out j hj (by omega)⟩
        case measure => simp [intOf]; omega
    · obtain rfl : k = kids.length := by omega
      have HF : Hid (r = true) := by
        show _ = _
        rw [HR.out, List.all_eq_true]
        intro y hy
        obtain ⟨j, hj, e⟩ := List.getElem_of_mem hy
        rw [← e]; exact HT.out j hj hj
      go_wp2
      go_ret
      exact ⟨ret_b HF.out.symm, ⟨n, HN.out⟩⟩

end Go.Proofs.Ytempmfpnngbbeab.heap

namespace Go.Proofs.Ytempmfpnngbbeab.heap
open Go Go.RowKit Go.Proofs.Ytempmfpnngbbeab.rose Go.Proofs.Ytempmfpnngbbeab Go.Proofs.Ytempmfpnngbbeab.fun
set_option linter.unusedVariables false
set_option linter.unusedSimpArgs false

/-- Whether a heap and roots are right. -/
def rightB (T : HeapD) (rs : List Int) : Bool := heapB T && rs.all (thereB (plT T).1)
theorem right_heap {T : HeapD} {rs : List Int} (h : heapB T = false) : rightB T rs = false := by unfold rightB; rw [h]; rfl
theorem right_root {T : HeapD} {rs : List Int} {i : Nat} (hi : i < rs.length) (h : thereB (plT T).1 rs[i] = false) : rightB T rs = false := by
  unfold rightB
  have : rs.all (thereB (plT T).1) = false := by rw [List.all_eq_false]; exact ⟨_, List.getElem_mem hi, by simp [h]⟩
  rw [this]; simp
theorem right_yes {T : HeapD} {rs : List Int} (h : heapB T = true) (h2 : ∀ i (hi : i < rs.length), thereB (plT T).1 rs[i] = true) : rightB T rs = true := by
  unfold rightB
  have : rs.all (thereB (plT T).1) = true := by
    rw [List.all_eq_true]
    intro x hx
    obtain ⟨i, hi, rfl⟩ := List.getElem_of_mem hx
    exact h2 i hi
  rw [this, h]; rfl
theorem right_is {T : HeapD} {rs : List Int} (h : rightB T rs = true) : heapB T = true ∧ ∀ x ∈ rs, thereB (plT T).1 x = true := by
  unfold rightB at h
  simp only [Bool.and_eq_true] at h
  exact ⟨h.1, fun x hx => List.all_eq_true.1 h.2 x hx⟩

theorem heap_head {T : HeapD} (h : heapB T = true) : headB T = true := by
  unfold heapB at h
  simp only [Bool.and_eq_true] at h
  exact h.1.1
theorem heap_places {T : HeapD} (h : heapB T = true) : (plT T).2 = true := by
  unfold heapB at h
  simp only [Bool.and_eq_true] at h
  exact h.1.2
/-- The kid k of the block at p. -/
def kidAt (W : List Int) (p k : Nat) : Int := W.getD (p + 1 + k) 0
/-- The kids of the block at p. -/
def kidsL (W : List Int) (p : Nat) : List Int := (List.range (manyF (W.getD p 0)).toNat).map (kidAt W p)
/-- A word is met. -/
def addR (out : List Int) (x : Int) : List Int := if x % 2 = 0 ∧ x / 2 ∉ out then out ++ [x / 2] else out
def addRs (out xs : List Int) : List Int := xs.foldl addR out
/-- Block by block, from place k of the order on. -/
def scanF (W : List Int) : Nat → Nat → List Int → List Int
  | 0, _, out => out
  | f + 1, k, out => if h : k < out.length then scanF W f (k + 1) (addRs out (kidsL W (out[k]).toNat)) else out
/-- The blocks that are come to, in the order in which they are met. -/
def orderF (T : HeapD) (rs : List Int) : List Int := scanF T.1 (T.1.length + 1) 0 (addRs [] rs)

theorem addRs_push (out xs : List Int) (x : Int) : addRs out (xs ++ [x]) = addR (addRs out xs) x := by simp [addRs, List.foldl_append]
theorem addRs_take {out xs : List Int} {i : Nat} (h : i < xs.length) : addRs out (xs.take (i + 1)) = addR (addRs out (xs.take i)) xs[i] := by rw [List.take_succ_eq_append_getElem h, addRs_push]
theorem addR_skip {out : List Int} {x : Int} (h : x % 2 ≠ 0 ∨ x / 2 ∈ out) : addR out x = out := by unfold addR; rw [if_neg]; rintro ⟨h1, h2⟩; rcases h with h | h; exact h h1; exact h2 h
theorem addR_put {out : List Int} {x : Int} (h : x % 2 = 0) (h2 : x / 2 ∉ out) : addR out x = out ++ [x / 2] := by unfold addR; rw [if_pos ⟨h, h2⟩]
theorem kidsL_len (W : List Int) (p : Nat) : (kidsL W p).length = (manyF (W.getD p 0)).toNat := by simp [kidsL]
theorem kidsL_get {W : List Int} {p k : Nat} (h : k < (kidsL W p).length) : (kidsL W p)[k] = kidAt W p k := by simp [kidsL]
theorem scan_end {W : List Int} {f k : Nat} {out : List Int} (h : out.length ≤ k) : scanF W f k out = out := by
  cases f with
  | zero => rfl
  | succ f => rw [scanF, dif_neg (by omega)]
theorem scan_more {W : List Int} {f k : Nat} {out : List Int} (h : k < out.length) : scanF W (f + 1) k out = scanF W f (k + 1) (addRs out (kidsL W (out[k]).toNat)) := by rw [scanF, dif_pos h]

theorem nodup_len : ∀ {out L : List Int}, out.Nodup → (∀ x ∈ out, x ∈ L) → out.length ≤ L.length := by
  intro out
  induction out with
  | nil => intro L _ _; exact Nat.zero_le _
  | cons x out ih =>
    intro L hn hs
    have hx : x ∈ L := hs x List.mem_cons_self
    rw [List.nodup_cons] at hn
    have := ih (L := L.erase x) hn.2 fun y hy => by
      have hne : y ≠ x := fun e => hn.1 (by rw [← e]; exact hy)
      rw [List.mem_erase_of_ne hne]
      exact hs y (List.mem_cons_of_mem _ hy)
    rw [List.length_erase_of_mem hx] at this
    have hp : 0 < L.length := List.length_pos_of_mem hx
    simp only [List.length_cons]
    omega

/-- What is known of an order on its way. -/
structure OInv (T : HeapD) (out : List Int) : Prop where
  nodup : out.Nodup
  sub : ∀ x ∈ out, x ∈ (plT T).1
theorem OInv.nil (T : HeapD) : OInv T [] := ⟨List.nodup_nil, fun x hx => by cases hx⟩
theorem OInv.add {T : HeapD} {out : List Int} (h : OInv T out) {x : Int} (hx : thereB (plT T).1 x = true) : OInv T (addR out x) := by
  unfold addR
  split
  · rename_i hc
    unfold thereB at hx
    rw [if_pos hc.1] at hx
    have hm : x / 2 ∈ (plT T).1 := of_decide_eq_true hx
    refine ⟨?_, fun y hy => ?_⟩
    · rw [List.nodup_append]
      exact ⟨h.nodup, by simp, fun a ha b hb e => by simp only [List.mem_singleton] at hb; subst hb e; exact hc.2 ha⟩
    · rcases List.mem_append.1 hy with q | q
      · exact h.sub y q
      · simp only [List.mem_singleton] at q; subst q; exact hm
  · exact h
theorem OInv.adds {T : HeapD} {xs : List Int} : ∀ {out : List Int}, OInv T out → (∀ x ∈ xs, thereB (plT T).1 x = true) → OInv T (addRs out xs) := by
  induction xs with
  | nil => intro out h _; exact h
  | cons x xs ih => intro out h hx; exact ih (h.add (hx x List.mem_cons_self)) fun y hy => hx y (List.mem_cons_of_mem _ hy)
theorem OInv.len {T : HeapD} {out : List Int} (h : OInv T out) : out.length ≤ (plT T).1.length := nodup_len h.nodup h.sub
/-- The kids of a right heap's blocks are right. -/
theorem kids_there {T : HeapD} (h : heapB T = true) {x : Int} (hx : x ∈ (plT T).1) : ∀ y ∈ kidsL T.1 x.toNat, thereB (plT T).1 y = true := by
  intro y hy
  unfold heapB at h
  simp only [Bool.and_eq_true] at h
  have h1 : kidsB T x.toNat = true := List.all_eq_true.1 h.2 x hx
  unfold kidsL at hy
  obtain ⟨k, hk, rfl⟩ := List.mem_map.1 hy
  unfold kidsB at h1
  exact List.all_eq_true.1 h1 k hk

/-- Where a block of a right heap lies. -/
theorem place_in {T : HeapD} (h : heapB T = true) {x : Int} (hx : x ∈ (plT T).1) : ∃ z : Nat, x = z ∧ z + (manyF (T.1.getD z 0)).toNat < T.1.length := by
  obtain ⟨z, hz, -, h4⟩ := plF_in (W := T.1) (nx := T.2.2.2.toNat) (p := T.2.2.1.toNat) (heap_places h) x hx
  have := head_in (heap_head h)
  exact ⟨z, hz, by omega⟩
theorem places_len {T : HeapD} (h : heapB T = true) : (plT T).1.length ≤ T.1.length ∧ T.1.length ≤ 6000 := by
  have h1 := plF_len (W := T.1) (nx := T.2.2.2.toNat) (p := T.2.2.1.toNat)
  have h2 := head_in (heap_head h)
  unfold plT
  omega

end Go.Proofs.Ytempmfpnngbbeab.heap
