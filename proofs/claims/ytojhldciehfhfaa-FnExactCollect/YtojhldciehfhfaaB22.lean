/-
  The program's heap at work while it is moved: its words in a block of the call's own, how often it was moved any number; what its methods that only read answer.
-/
import Derived.Lib.SliceRun
import Derived.Deep.Upon
import Derived.Test.YtojhldciehfhfaaB1
import Derived.Test.YtojhldciehfhfaaB2
import Derived.Test.YtojhldciehfhfaaB3
import Derived.Test.YtojhldciehfhfaaB4
import Derived.Test.YtojhldciehfhfaaB5
import Derived.Test.YtojhldciehfhfaaB6
import Derived.Test.YtojhldciehfhfaaB7
import Derived.Test.YtojhldciehfhfaaB8
import Derived.Test.YtojhldciehfhfaaB9
import Derived.Test.YtojhldciehfhfaaB10
import Derived.Test.YtojhldciehfhfaaB11
import Derived.Test.YtojhldciehfhfaaB12
import Derived.Test.YtojhldciehfhfaaB13
import Derived.Test.YtojhldciehfhfaaB14
import Derived.Test.YtojhldciehfhfaaB15
import Derived.Test.YtojhldciehfhfaaB16
import Derived.Test.YtojhldciehfhfaaB17
import Derived.Test.YtojhldciehfhfaaB18
import Derived.Test.YtojhldciehfhfaaB19
import Derived.Test.YtojhldciehfhfaaB20
import Derived.Test.YtojhldciehfhfaaB21
namespace Go.Proofs.Ytojhldciehfhfaa.heap
open Go Go.RowKit Go.Deep Go.Proofs.Ytojhldciehfhfaa.rose Go.Proofs.Ytojhldciehfhfaa Go.Proofs.Ytojhldciehfhfaa.fun Go.Proofs.Ytojhldciehfhfaa.words Go.Proofs.Ytojhldciehfhfaa.ints
set_option linter.unusedVariables false
set_option linter.unusedSimpArgs false

structure HM (hb hm g : Nat) (X : List Int) (half next t : Nat) (lk : Int) (w : World) : Prop where
  ne : hb ≠ hm ∧ hb ≠ g ∧ hm ≠ g
  blk : w.heap[hb]? = some (.cells #[.int .i32 lk, .int .u32 0, .int .i64 t, .slice (some ⟨g, 0, none⟩) X.length X.length, .int .i64 half, .int .i64 next, .slice (some ⟨hm, 0, none⟩) half half] 72)
  mks : ∃ M : List Bool, M.length = half ∧ w.heap[hm]? = some (.cells (M.map Value.bool).toArray 4)
  wds : OW g X w
  siz : X.length = 2 * half ∧ 1 ≤ half ∧ half ≤ 3000 ∧ t ≤ 2
section
variable {hb hm g : Nat} {X : List Int} {half next t : Nat} {lk : Int} {w w' : World}
theorem HM.lt (h : HM hb hm g X half next t lk w) : hb < w.heap.size ∧ hm < w.heap.size ∧ g < w.heap.size := by
  obtain ⟨M, -, hM⟩ := h.mks
  exact ⟨(Array.getElem?_eq_some_iff.1 h.blk).1, (Array.getElem?_eq_some_iff.1 hM).1, h.wds.lt⟩
theorem HM.other (h : HM hb hm g X half next t lk w) (e : ∀ k, k < w.heap.size → w'.heap[k]? = w.heap[k]?) : HM hb hm g X half next t lk w' := by
  obtain ⟨M, hl, hM⟩ := h.mks
  have := h.lt
  exact ⟨h.ne, (e hb this.1).trans h.blk, ⟨M, hl, (e hm this.2.1).trans hM⟩, h.wds.on (e g this.2.2), h.siz⟩
theorem HM.on (h : HM hb hm g X half next t lk w) (hB : Below w.heap.size w w') : HM hb hm g X half next t lk w' := h.other fun k hk => hB.block k hk
theorem HM.words (h : HM hb hm g X half next t lk w) {X' : List Int} (hX : OW g X' w') (hl : X'.length = X.length) (e : ∀ k, k < w.heap.size → k ≠ g → w'.heap[k]? = w.heap[k]?) : HM hb hm g X' half next t lk w' := by
  obtain ⟨M, hlM, hM⟩ := h.mks
  have := h.lt
  have hne := h.ne
  exact ⟨h.ne, by rw [hl]; exact (e hb this.1 hne.2.1).trans h.blk, ⟨M, hlM, (e hm this.2.1 hne.2.2).trans hM⟩, hX, by rw [hl]; exact h.siz⟩
theorem HM.c0 (h : HM hb hm g X half next t lk w) : w.cell? ⟨hb, 0, none⟩ = some (.int .i32 lk) := by simp [World.cell?, h.blk]
theorem HM.c2 (h : HM hb hm g X half next t lk w) : w.cell? ⟨hb, 2, none⟩ = some (.int .i64 t) := by simp [World.cell?, h.blk]
theorem HM.c3 (h : HM hb hm g X half next t lk w) : w.cell? ⟨hb, 3, none⟩ = some (.slice (some ⟨g, 0, none⟩) X.length X.length) := by simp [World.cell?, h.blk]
theorem HM.c4 (h : HM hb hm g X half next t lk w) : w.cell? ⟨hb, 4, none⟩ = some (.int .i64 half) := by simp [World.cell?, h.blk]
theorem HM.c5 (h : HM hb hm g X half next t lk w) : w.cell? ⟨hb, 5, none⟩ = some (.int .i64 next) := by simp [World.cell?, h.blk]
theorem HM.c6 (h : HM hb hm g X half next t lk w) : w.cell? ⟨hb, 6, none⟩ = some (.slice (some ⟨hm, 0, none⟩) half half) := by simp [World.cell?, h.blk]
theorem HM.frz (h : HM hb hm g X half next t lk w) (j : Nat) : w.frozen? ⟨hb, j, none⟩ = false := by simp [World.frozen?, h.blk]
theorem HM.mk_ (h : HM hb hm g X half next t lk w) {j : Nat} (hj : j < half) : ∃ b, w.cell? ⟨hm, j, none⟩ = some (.bool b) := by
  obtain ⟨M, hl, hM⟩ := h.mks
  exact ⟨M[j]'(by omega), by simp [World.cell?, hM, show j < M.length by omega]⟩
theorem HM.mfrz (h : HM hb hm g X half next t lk w) (j : Nat) : w.frozen? ⟨hm, j, none⟩ = false := by
  obtain ⟨M, hl, hM⟩ := h.mks
  simp [World.frozen?, hM]
/-- Cells of its own block are written. -/
theorem HM.set (h : HM hb hm g X half next t lk w) : (∀ v : Int, HM hb hm g X half next t v (w.setCell ⟨hb, 0, none⟩ (.int .i32 v))) ∧ (∀ n : Nat, n ≤ 2 → HM hb hm g X half next n lk (w.setCell ⟨hb, 2, none⟩ (.int .i64 n))) ∧ (∀ n : Nat, HM hb hm g X half n t lk (w.setCell ⟨hb, 5, none⟩ (.int .i64 n))) := by
  obtain ⟨M, hl, hM⟩ := h.mks
  have hne := h.ne
  have hs := h.siz
  refine ⟨fun v => ⟨h.ne, by simp [World.setCell, Array.getElem?_modify, h.blk], ⟨M, hl, (Below.heap_setCell _ _ _ _ (by show hm ≠ hb; omega)).trans hM⟩, h.wds.on (Below.heap_setCell _ _ _ _ (by show g ≠ hb; omega)), h.siz⟩, fun n hn => ⟨h.ne, by simp [World.setCell, Array.getElem?_modify, h.blk], ⟨M, hl, (Below.heap_setCell _ _ _ _ (by show hm ≠ hb; omega)).trans hM⟩, h.wds.on (Below.heap_setCell _ _ _ _ (by show g ≠ hb; omega)), ⟨hs.1, hs.2.1, hs.2.2.1, hn⟩⟩, fun n => ⟨h.ne, by simp [World.setCell, Array.getElem?_modify, h.blk], ⟨M, hl, (Below.heap_setCell _ _ _ _ (by show hm ≠ hb; omega)).trans hM⟩, h.wds.on (Below.heap_setCell _ _ _ _ (by show g ≠ hb; omega)), h.siz⟩⟩
/-- A mark is written. -/
theorem HM.mark (h : HM hb hm g X half next t lk w) (j : Nat) (b : Bool) : HM hb hm g X half next t lk (w.setCell ⟨hm, j, none⟩ (.bool b)) := by
  obtain ⟨M, hl, hM⟩ := h.mks
  have hne := h.ne
  exact ⟨h.ne, (Below.heap_setCell _ _ _ _ (by show hb ≠ hm; omega)).trans h.blk, ⟨M.set j b, by rw [List.length_set]; exact hl, by simp [World.setCell, Array.getElem?_modify, hM, List.map_set]⟩, h.wds.on (Below.heap_setCell _ _ _ _ (by show g ≠ hm; omega)), h.siz⟩
theorem HM.marks (n : Nat) : ∀ (o : Nat) {w : World}, HM hb hm g X half next t lk w → HM hb hm g X half next t lk (w.setCells hm o (List.replicate n (.bool false))) := by
  induction n with
  | zero => intro o w h; exact h
  | succ n ih => intro o w h; exact ih (o + 1) (h.mark o false)
theorem OW.cells {g : Nat} (xs : List Int) (hx : ∀ x ∈ xs, InR x) : ∀ (o : Nat) {X : List Int} {w : World}, OW g X w → OW g (putW X o xs) (w.setCells g o (xs.map (Value.int .i64))) := by
  induction xs with
  | nil => intro o X w h; exact h
  | cons x xs ih => intro o X w h; exact ih (fun y hy => hx y (List.mem_cons_of_mem _ hy)) (o + 1) (h.set o (hx x (List.mem_cons_self ..)))
theorem cells_other (g : Nat) (vs : List Value) : ∀ (o : Nat) (w : World), (∀ k, k ≠ g → (w.setCells g o vs).heap[k]? = w.heap[k]?) := by
  induction vs with
  | nil => intro o w k _; rfl
  | cons v vs ih => intro o w k hk; exact (ih (o + 1) _ k hk).trans (Below.heap_setCell _ _ _ _ (by exact hk))
theorem cells_below {B g : Nat} (hB : B ≤ g) {a : World} (vs : List Value) : ∀ (o : Nat) (w : World), Below B a w → Below B a (w.setCells g o vs) := by
  induction vs with
  | nil => intro o w h; exact h
  | cons v vs ih => intro o w h; exact ih (o + 1) _ (h.setCell hB _)
end
/-- Where the half in use begins. -/
def bT (t half : Nat) : Nat := t % 2 * half

set_option maxHeartbeats 2000000 in
theorem hbase_is {hb hm g : Nat} {X : List Int} {half next t : Nat} {lk : Int} {w : World} (h : HM hb hm g X half next t lk w) :
    Calls Try.prog 34 #[.pointer (some ⟨hb, 0, none⟩)] w fun e w' => e = .returned (.int .i64 (bT t half)) ∧ ∃ n, w' = w.drewN n := by
  have hs := h.siz
  have c2 := h.c2
  have c4 := h.c4
  have c2n : ∀ n, (w.drewN n).cell? ⟨hb, 2, none⟩ = some (.int .i64 t) := fun n => h.c2
  have ht : t = 0 ∨ t = 1 ∨ t = 2 := by omega
  rcases ht with rfl | rfl | rfl
  · clear h
    go_enter Try.func34, Try.ntmps34
    go_wp2
    go_quiet ((go_at_call 55; exact Calls.quiet_of_same (lock.load_is (c2n _))))
    go_wp2
    go_ret
    exact ⟨ret_i (by unfold bT; first | rfl | omega | (simp; done) | (simp; omega)), ⟨_, rfl⟩⟩
  · clear h
    go_enter Try.func34, Try.ntmps34
    go_wp2
    go_quiet ((go_at_call 55; exact Calls.quiet_of_same (lock.load_is (c2n _))))
    go_wp2
    go_ret
    exact ⟨ret_i (by unfold bT; first | rfl | omega | (simp; done) | (simp; omega)), ⟨_, rfl⟩⟩
  · clear h
    go_enter Try.func34, Try.ntmps34
    go_wp2
    go_quiet ((go_at_call 55; exact Calls.quiet_of_same (lock.load_is (c2n _))))
    go_wp2
    go_ret
    exact ⟨ret_i (by unfold bT; first | rfl | omega | (simp; done) | (simp; omega)), ⟨_, rfl⟩⟩

theorem HM.drewN {hb hm g : Nat} {X : List Int} {half next t : Nat} {lk : Int} {w : World} (h : HM hb hm g X half next t lk w) (n : Nat) : HM hb hm g X half next t lk (w.drewN n) := h.other fun _ _ => rfl

set_option maxRecDepth 100000 in
set_option maxHeartbeats 4000000 in
theorem hinUse_is {hb hm g : Nat} {X : List Int} {half next t : Nat} {lk : Int} {w : World} (h : HM hb hm g X half next t lk w) :
    Calls Try.prog 32 #[.pointer (some ⟨hb, 0, none⟩)] w fun e w' => e = .returned (.slice (some ⟨g, bT t half, none⟩) half (X.length - bT t half)) ∧ ∃ n, w' = w.drewN n := by
  have hs := h.siz
  have hbt : bT t half ≤ half := by unfold bT; have : t % 2 = 0 ∨ t % 2 = 1 := by omega
                                    rcases this with e | e <;> rw [e] <;> omega
  have c3 := h.c3
  have c4 := h.c4
  have hcb : ∀ n, Calls Try.prog 34 #[.pointer (some ⟨hb, 0, none⟩)] (w.drewN n) fun e w' => e = .returned (.int .i64 (bT t half)) ∧ ∃ m, w' = (w.drewN n).drewN m := fun n => hbase_is (h.drewN n)
  obtain ⟨bs, hbs⟩ : ∃ bs, bs = bT t half := ⟨_, rfl⟩
  rw [← hbs] at hcb hbt ⊢
  obtain ⟨xl, hxl⟩ : ∃ xl, xl = X.length := ⟨_, rfl⟩
  rw [← hxl] at c3 hs ⊢
  have i1 : (bs : Int) + (half : Int) ≤ (xl : Int) := by omega
  have i2 : (0 : Int) ≤ (bs : Int) := by omega
  have i3 : (bs : Int) ≤ (bs : Int) + (half : Int) := by omega
  have i4 : IntKind.i64.wrap ((bs : Int) + (half : Int)) = (bs : Int) + (half : Int) := by rw [IntKind.wrap_i64]; omega
  have i5 : ((bs : Int) + (half : Int)).toNat - bs = half := by omega
  have i6 : (xl : Int) ≤ 6000 := by omega
  have i7 : bs < xl := by omega
  clear h hbs hxl hs
  go_enter Try.func32, Try.ntmps32
  go_wp2
  go_quiet ((go_at_call 34; exact Calls.quiet_of (hcb _)))
  go_wp2
  refine bodyPost_ret (v := .slice (some ⟨g, bs, none⟩) half (xl - bs)) (by simp [results, Try.f32, go_sem, i5]) rfl ?_
  exact ⟨rfl, ⟨_, rfl⟩⟩

set_option maxRecDepth 100000 in
set_option maxHeartbeats 4000000 in
theorem hkids_is {hb hm g : Nat} {W : List Int} {half next t : Nat} {lk : Int} {w : World} (h : HM hb hm g W half next t lk w) (p mn : Nat) (hmn : (manyF (W.getD p 0)).toNat = mn) (hp : p + mn < W.length) :
    Calls Try.prog 38 #[.pointer (some ⟨hb, 0, none⟩), .int .i64 p] w fun e w' =>
      (∃ o c, e = .returned (.slice (some ⟨g, o, none⟩) mn c) ∧ (mn = 0 ∨ o = p + 1) ∧ o + mn ≤ W.length) ∧ Below w.heap.size w w' := by
  have hw6 : W.length ≤ 6000 := by have := h.siz; omega
  have hlt := h.lt.1
  have hpl : p < W.length := by omega
  have hc := h.wds.cell hpl
  obtain ⟨r1, r2⟩ := h.wds.2 _ (List.getElem_mem hpl)
  have hgd := getD_atH hpl
  have c3 := h.c3
  obtain ⟨x, hx⟩ : ∃ x, x = W[p] := ⟨_, rfl⟩
  rw [← hx] at hc hgd r1 r2
  rw [hgd] at hmn
  have hm := many_in x
  have hmi : manyF x = (mn : Int) := by omega
  have hz : g < w.heap.size := h.wds.lt
  have cx := hc
  have PMW : Hid (p + mn < W.length) := hp
  have pI : (p : Int) < (W.length : Int) := by omega
  have pmI : (p : Int) + (1 + (mn : Int)) ≤ (W.length : Int) := by omega
  have hm63 : mn ≤ 63 := by omega
  have i0 : (0 : Int) ≤ (p : Int) := by omega
  have i1 : IntKind.i64.wrap ((p : Int) + 1) = (p : Int) + 1 := by rw [IntKind.wrap_i64]; omega
  have i2 : IntKind.i64.wrap ((p : Int) + (1 + (mn : Int))) = (p : Int) + (1 + (mn : Int)) := by rw [IntKind.wrap_i64]; omega
  have i3 : (0 : Int) ≤ (p : Int) + 1 := by omega
  have i4 : (p : Int) + 1 ≤ (p : Int) + (1 + (mn : Int)) := by omega
  have K0 : Hid (Below w.heap.size w w) := Below.refl _ _
  have c3n : w.drew.cell? ⟨hb, 3, none⟩ = some (.slice (some ⟨g, 0, none⟩) W.length W.length) := c3
  have cxn : w.drew.cell? ⟨g, p, none⟩ = some (.int .i64 x) := cx
  clear h hc hmn hx hgd hm
  go_enter Try.func38, Try.ntmps38
  go_wp2
  go_region_held3 (fun X => X.cell? ⟨hb, 3, none⟩ = some (.slice (some ⟨g, 0, none⟩) W.length W.length) ∧ X.cell? ⟨g, p, none⟩ = some (.int .i64 x))
    (exact ⟨(by first | with_reducible exact c3 | with_reducible exact c3n), (by first | with_reducible exact cx | with_reducible exact cxn)⟩)
    (first
      | (go_at_call 35; refine (headerOf_is x _ r1 r2).mono ?_; rintro e w1 ⟨rfl, hB⟩; have K1 : Hid (Below w.heap.size w w1) := K0.out.drew.trans hB; replace c3 : w1.cell? ⟨hb, 3, none⟩ = some (.slice (some ⟨g, 0, none⟩) W.length W.length) := (hB.cell (p := ⟨hb, 3, none⟩) hlt).trans c3; replace cx : w1.cell? ⟨g, p, none⟩ = some (.int .i64 x) := (hB.cell (p := ⟨g, p, none⟩) hz).trans cx; have hz1 : w.heap.size ≤ w1.heap.size := hB.size; clear hB)
      | (go_at_call 36; refine (hdrSize_is _ _ _ _ (by omega) (by omega)).mono ?_; rintro e w2 ⟨rfl, hB⟩; have K2 : Hid (Below w.heap.size w w2) := K1.out.trans (hB.mono hz1); replace c3 : w2.cell? ⟨hb, 3, none⟩ = some (.slice (some ⟨g, 0, none⟩) W.length W.length) := (hB.cell (p := ⟨hb, 3, none⟩) (Nat.lt_of_lt_of_le hlt hz1)).trans c3; replace cx : w2.cell? ⟨g, p, none⟩ = some (.int .i64 x) := (hB.cell (p := ⟨g, p, none⟩) (Nat.lt_of_lt_of_le hz hz1)).trans cx; clear hB))
  go_wp2
  · obtain rfl : mn = 0 := by omega
    have hP := PMW.out
    refine bodyPost_ret (v := .slice (some ⟨g, 0, none⟩) 0 (W.length - (p + 1))) (by simp [results, Try.f38, go_sem]; omega) rfl ?_
    first | exact ⟨⟨0, ⟨_, rfl⟩, .inl rfl, by omega⟩, K2.out⟩ | exact ⟨⟨0, _, rfl, .inl rfl, by omega⟩, K2.out⟩
  · have hln : ((p : Int) + (1 + (mn : Int))).toNat - (p + 1) = mn := by omega
    have hP := PMW.out
    refine bodyPost_ret (v := .slice (some ⟨g, p + 1, none⟩) mn (W.length - (p + 1))) (by simp [results, Try.f38, go_sem, hln]) rfl ?_
    first | exact ⟨⟨p + 1, ⟨_, rfl⟩, .inr rfl, by omega⟩, K2.out⟩ | exact ⟨⟨p + 1, _, rfl, .inr rfl, by omega⟩, K2.out⟩

end Go.Proofs.Ytojhldciehfhfaa.heap
