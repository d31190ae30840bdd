/-
  The program moves a heap at work (heldHeap.move), under its lock.
-/
import Derived.Defers
import Derived.Deep.RegionWith
import Derived.Test.YthpdkjenadngoaaGreatDoorB1
import Derived.Test.YthpdkjenadngoaaGreatDoorB2
import Derived.Test.YthpdkjenadngoaaGreatDoorB3
import Derived.Test.YthpdkjenadngoaaGreatDoorB4
import Derived.Test.YthpdkjenadngoaaGreatDoorB5
import Derived.Test.YthpdkjenadngoaaGreatDoorB6
import Derived.Test.YthpdkjenadngoaaGreatDoorB7
import Derived.Test.YthpdkjenadngoaaGreatDoorB8
import Derived.Test.YthpdkjenadngoaaGreatDoorB9
import Derived.Test.YthpdkjenadngoaaGreatDoorB10
import Derived.Test.YthpdkjenadngoaaGreatDoorB11
import Derived.Test.YthpdkjenadngoaaGreatDoorB12
import Derived.Test.YthpdkjenadngoaaGreatDoorB13
import Derived.Test.YthpdkjenadngoaaGreatDoorB14
import Derived.Test.YthpdkjenadngoaaGreatDoorB15
import Derived.Test.YthpdkjenadngoaaGreatDoorB16
import Derived.Test.YthpdkjenadngoaaGreatDoorB17
import Derived.Test.YthpdkjenadngoaaGreatDoorB18
import Derived.Test.YthpdkjenadngoaaGreatDoorB19
import Derived.Test.YthpdkjenadngoaaGreatDoorB20
import Derived.Test.YthpdkjenadngoaaGreatDoorB21
import Derived.Test.YthpdkjenadngoaaGreatDoorB22
import Derived.Test.YthpdkjenadngoaaGreatDoorB23
import Derived.Test.YthpdkjenadngoaaGreatDoorB24
import Derived.Test.YthpdkjenadngoaaGreatDoorB25
import Derived.Test.YthpdkjenadngoaaGreatDoorB26
import Derived.Test.YthpdkjenadngoaaGreatDoorB27
import Derived.Test.YthpdkjenadngoaaGreatDoorB28
import Derived.Test.YthpdkjenadngoaaGreatDoorB29
import Derived.Test.YthpdkjenadngoaaGreatDoorB30
namespace Go.Proofs.YthpdkjenadngoaaGreatDoor.heap
open Go Go.RowKit Go.Deep Go.Proofs.YthpdkjenadngoaaGreatDoor.rose Go.Proofs.YthpdkjenadngoaaGreatDoor Go.Proofs.YthpdkjenadngoaaGreatDoor.fun Go.Proofs.YthpdkjenadngoaaGreatDoor.words Go.Proofs.YthpdkjenadngoaaGreatDoor.ints
set_option linter.unusedVariables false
set_option linter.unusedSimpArgs false

/-- On the way: the heap is locked; the box of what was met; all else is as it was. -/
structure MQ (Bl hb hm g nb : Nat) (v : Value) (half base0 : Nat) (w : World) (Xs : List Int) (next t : Nat) (X : World) : Prop where
  hp : HM hb hm g Xs half next t 1 X
  box : X.heap[w.heap.size]? = some (.cells #[.int .i64 base0, v, .slice (some ⟨nb, 0, none⟩) half half] 45)
  oth : ∀ k, k < w.heap.size → k ≠ hb → k ≠ hm → k ≠ g → X.heap[k]? = w.heap[k]?
  bel : Below Bl w X
  lim : Bl ≤ hb ∧ Bl ≤ hm ∧ Bl ≤ g ∧ hb < w.heap.size ∧ hm < w.heap.size ∧ g < w.heap.size
section
variable {Bl hb hm g nb : Nat} {v : Value} {half base0 : Nat} {w : World} {Xs : List Int} {next t : Nat} {X Y : World}
theorem MQ.lt (h : MQ Bl hb hm g nb v half base0 w Xs next t X) : w.heap.size < X.heap.size := (Array.getElem?_eq_some_iff.1 h.box).1
theorem MQ.on (h : MQ Bl hb hm g nb v half base0 w Xs next t X) (hB : Below X.heap.size X Y) : MQ Bl hb hm g nb v half base0 w Xs next t Y :=
  ⟨h.hp.on hB, (hB.block _ h.lt).trans h.box, fun k hk h1 h2 h3 => (hB.block k (by have := h.lt; omega)).trans (h.oth k hk h1 h2 h3), h.bel.trans (hB.mono (by have := h.lt; have := h.lim; omega)), h.lim⟩
theorem MQ.up (h : MQ Bl hb hm g nb v half base0 w Xs next t X) (hB : Below (w.heap.size + 1) X Y) : MQ Bl hb hm g nb v half base0 w Xs next t Y := by
  have hl := h.lim
  obtain ⟨M, hlM, hM⟩ := h.hp.mks
  exact ⟨⟨h.hp.ne, (hB.block hb (by omega)).trans h.hp.blk, ⟨M, hlM, (hB.block hm (by omega)).trans hM⟩, h.hp.wds.on (hB.block g (by omega)), h.hp.siz⟩, (hB.block _ (by omega)).trans h.box, fun k hk h1 h2 h3 => (hB.block k (by omega)).trans (h.oth k hk h1 h2 h3), h.bel.trans (hB.mono (by omega)), h.lim⟩
theorem MQ.drewN (h : MQ Bl hb hm g nb v half base0 w Xs next t X) (n : Nat) : MQ Bl hb hm g nb v half base0 w Xs next t (X.drewN n) := h.on ⟨rfl, rfl, rfl, Nat.le_refl _, fun _ _ => rfl⟩
theorem MQ.times (h : MQ Bl hb hm g nb v half base0 w Xs next t X) {n : Nat} (hn : n ≤ 2) : MQ Bl hb hm g nb v half base0 w Xs next n (X.setCell ⟨hb, 2, none⟩ (.int .i64 n)) := by
  have hl := h.lim
  exact ⟨h.hp.set.2.1 n hn, (Below.heap_setCell _ _ _ _ (by show w.heap.size ≠ hb; omega)).trans h.box, fun k hk h1 h2 h3 => (Below.heap_setCell _ _ _ _ (by exact h1)).trans (h.oth k hk h1 h2 h3), h.bel.setCell hl.1 _, h.lim⟩
theorem MQ.nxt (h : MQ Bl hb hm g nb v half base0 w Xs next t X) (n : Nat) : MQ Bl hb hm g nb v half base0 w Xs n t (X.setCell ⟨hb, 5, none⟩ (.int .i64 n)) := by
  have hl := h.lim
  exact ⟨h.hp.set.2.2 n, (Below.heap_setCell _ _ _ _ (by show w.heap.size ≠ hb; omega)).trans h.box, fun k hk h1 h2 h3 => (Below.heap_setCell _ _ _ _ (by exact h1)).trans (h.oth k hk h1 h2 h3), h.bel.setCell hl.1 _, h.lim⟩
theorem MQ.mark (h : MQ Bl hb hm g nb v half base0 w Xs next t X) (j : Nat) (b : Bool) : MQ Bl hb hm g nb v half base0 w Xs next t (X.setCell ⟨hm, j, none⟩ (.bool b)) := by
  have hl := h.lim
  exact ⟨h.hp.mark j b, (Below.heap_setCell _ _ _ _ (by show w.heap.size ≠ hm; omega)).trans h.box, fun k hk h1 h2 h3 => (Below.heap_setCell _ _ _ _ (by exact h2)).trans (h.oth k hk h1 h2 h3), h.bel.setCell hl.2.1 _, h.lim⟩
theorem MQ.marks (h : MQ Bl hb hm g nb v half base0 w Xs next t X) (n o : Nat) : MQ Bl hb hm g nb v half base0 w Xs next t (X.setCells hm o (List.replicate n (.bool false))) := by
  have hl := h.lim
  exact ⟨h.hp.marks n o, (cells_other _ _ _ _ _ (by omega)).trans h.box, fun k hk h1 h2 h3 => (cells_other _ _ _ _ k h2).trans (h.oth k hk h1 h2 h3), cells_below hl.2.1 _ _ _ h.bel, h.lim⟩
/-- Its words are turned. -/
theorem MQ.words (h : MQ Bl hb hm g nb v half base0 w Xs next t X) {Xn : List Int} (hX : OW g Xn Y) (hl : Xn.length = Xs.length) (e : ∀ k, k < X.heap.size → k ≠ g → Y.heap[k]? = X.heap[k]?) (hB : Below g X Y) : MQ Bl hb hm g nb v half base0 w Xn next t Y := by
  have hlm := h.lim
  have hlt := h.lt
  exact ⟨h.hp.words hX hl e, (e _ hlt (by omega)).trans h.box, fun k hk h1 h2 h3 => (e k (by omega) h3).trans (h.oth k hk h1 h2 h3), h.bel.trans (hB.mono hlm.2.2.1), h.lim⟩
theorem MQ.b0 (h : MQ Bl hb hm g nb v half base0 w Xs next t X) : X.cell? ⟨w.heap.size, 0, none⟩ = some (.int .i64 base0) := blk_cellH (i := 0) h.box rfl
theorem MQ.b1 (h : MQ Bl hb hm g nb v half base0 w Xs next t X) : X.cell? ⟨w.heap.size, 1, none⟩ = some v := blk_cellH (i := 1) h.box rfl
theorem MQ.b2 (h : MQ Bl hb hm g nb v half base0 w Xs next t X) : X.cell? ⟨w.heap.size, 2, none⟩ = some (.slice (some ⟨nb, 0, none⟩) half half) := blk_cellH (i := 2) h.box rfl
end
theorem cell_setQ {w : World} {g r i j : Nat} {u : Value} (v : Value) (h : w.cell? ⟨g, j, none⟩ = some u) (hne : ¬ r = g) : (w.setCell ⟨r, i, none⟩ v).cell? ⟨g, j, none⟩ = some u := by
  have e : (w.setCell ⟨r, i, none⟩ v).heap[g]? = w.heap[g]? := Below.heap_setCell _ _ _ _ (by show g ≠ r; omega)
  rw [← h]
  simp only [World.cell?, e]
/-- A copy into a block of one's own, as one step of a region that draws its order: all else is as it was. -/
theorem step_copy_exact {P : Program} {ops : Array Oper} {o : Oper} {a : Act} {w : World} {K : Act → World → Prop} {Q : Exit → Act → World → Prop} {E : Prop} (hgd : o.guard = none) (d s : Operand) (dT sT : TypeId)
    (ho : o.op = .call { callee := .builtin .copy, args := #[d, s], argTypes := #[dT, sT] }) (elem : TypeId) (hu : P.underlying dT = some (.slice elem)) (hsz : (P.info? elem).map (·.size) = some 1)
    (ad : Addr) (dLen dCap sLen sCap : Nat) (g off : Nat) (hd : a.eval d = .slice (some ⟨g, off, none⟩) dLen dCap) (hs : a.eval s = .slice (some ad) sLen sCap)
    (cur : List Value) (t : TypeId) (hg : w.heap[g]? = some (.cells cur.toArray t (0, 0))) (cs : List Value) (hn : cs.length = Nat.min sLen dLen)
    (hsrc : ∀ j v, cs[j]? = some v → w.cell? (ad.add j) = some v)
    (hfit : off + cs.length ≤ cur.length) (h1 : ∀ v ∈ cs, v.oneCell' = true)
    (h : ∀ w', Hid (w'.heap[g]? = some (.cells (Go.splice cur off cs).toArray t (0, 0))) → Hid (∀ k, k ≠ g → w'.heap[k]? = w.heap[k]?) → Hid (Below g w w') → K (a.put o.dst (goInt cs.length)) w') :
    if Region.wanted o (yielded ops a.tmps) = true then Oper.wp P o a w K Q else E := by
  have hw : Region.wanted o (yielded ops a.tmps) = true := by simp [Region.wanted, hgd]
  rw [if_pos hw]
  by_cases h0 : cs.length = 0
  · obtain rfl : cs = [] := List.eq_nil_of_length_eq_zero h0
    have hrun := run_copy_none (P := P) w dT sT o.type elem (some ⟨g, off, none⟩) (some ad) dLen dCap sLen sCap hu hsz (by simpa using hn.symm)
    unfold Oper.wp
    simp [execOp, ho, resolve, invoke, builtin, hd, hs, hrun, Result.andThen]
    exact h w (show _ = _ by simpa [Go.splice] using hg) (fun _ _ => rfl) (Below.refl _ _)
  · have hrun := run_copy_row (P := P) w dT sT o.type elem g off dLen dCap ad sLen sCap cur.toArray t cs hu hsz hg hn hsrc (by simpa using hfit) h1
    unfold Oper.wp
    simp [execOp, ho, resolve, invoke, builtin, hd, hs, hrun, Result.andThen]
    exact h _ (show _ = _ by simpa [Go.splice] using setRow_heap w g _ _ t _ hg) (fun k hk => setRow_other w g k _ hk) (below_setRow (Below.refl _ _) (Nat.le_refl _) _)
theorem OW.splice {g p : Nat} {X xs : List Int} {w w' : World} (h : OW g X w) (hp : p + xs.length ≤ X.length) (hx : ∀ x ∈ xs, InR x) (hb : w'.heap[g]? = some (.cells (Go.splice (X.map (Value.int .i64)) p (xs.map (Value.int .i64))).toArray 3 (0, 0))) : OW g (putW X p xs) w' := by
  refine ⟨?_, fun y hy => ?_⟩
  · rw [hb, splice_map, putW_splice hp]
  · rcases putW_mem hy with q | q
    · exact h.2 y q
    · exact hx y q
theorem step_clear {P : Program} {ops : Array Oper} {o : Oper} {a : Act} {w w' : World} {K : Act → World → Prop} {Q : Exit → Act → World → Prop} {E : Prop} (hgd : o.guard = none) (x : Operand) (T : TypeId)
    (ho : o.op = .call { callee := .builtin .clear, args := #[x], argTypes := #[T] }) (v : Value) (hx : a.eval x = v) (hrun : ∀ ty, (Builtin.clear_ #[T] ty #[v]).run P w = .ok (.tuple #[]) w') (h : K (a.put o.dst (.tuple #[])) w') :
    if Region.wanted o (yielded ops a.tmps) = true then Oper.wp P o a w K Q else E := by
  have hw : Region.wanted o (yielded ops a.tmps) = true := by simp [Region.wanted, hgd]
  rw [if_pos hw]
  unfold Oper.wp
  simp [execOp, ho, resolve, invoke, builtin, hx, hrun, Result.andThen]
  exact h
theorem entU : Enters Tryz.prog 45 := enters_of Tryz.func45 (by kernel_rfl) rfl
theorem entB2 : Enters Tryz.prog 47 := enters_of Tryz.func47 (by kernel_rfl) rfl
theorem entH : Enters Tryz.prog 48 := enters_of Tryz.func48 (by kernel_rfl) rfl
theorem entS : Enters Tryz.prog 49 := enters_of Tryz.func49 (by kernel_rfl) rfl
theorem zero_bool (w : World) : (zeroValue 4).run Tryz.prog w = .ok (.bool false) w := by kernel_rfl
theorem zero_int (w : World) : (zeroValue 3).run Tryz.prog w = .ok (.int .i64 0) w := by kernel_rfl
theorem bT_is {base half t : Nat} (h : base = 0 ∧ t = 1 ∨ base = half ∧ t = 2) : bT t half = half - base := by
  unfold bT
  rcases h with ⟨rfl, rfl⟩ | ⟨rfl, rfl⟩ <;> simp

set_option maxRecDepth 100000 in
set_option maxHeartbeats 16000000 in
theorem move_is {Bl B B2 hb hm g gr nb : Nat} {v : Value} {W rs O : List Int} {half base next : Nat} {M : List Bool} {w : World} (h : HH B hb hm (.slice (some ⟨g, 0, none⟩) W.length W.length) W half base next 0 M w) (hW : OW g W w) (hN : Met B2 nb v base half O w) (hR : OW gr rs w) (hBB : Bl ≤ B) (hd : Bl ≤ g ∧ Bl ≤ gr ∧ g ≠ gr ∧ g ≠ hb ∧ g ≠ hm ∧ gr ≠ hb ∧ gr ≠ hm ∧ g < B2 ∧ gr < B2 ∧ hb < B2 ∧ hm < B2)
    (hT : rightB (W, (half : Int), (base : Int), (next : Int)) rs = true) (hO : O = orderF (W, (half : Int), (base : Int), (next : Int)) rs) (hrl : rs.length ≤ 1048576) :
    Calls Tryz.prog 24 #[.pointer (some ⟨hb, 0, none⟩), .agg #[.int .i64 base, v, .slice (some ⟨nb, 0, none⟩) half half], .slice (some ⟨gr, 0, none⟩) rs.length rs.length] w fun e w' =>
      e = .returned (.tuple #[]) ∧ (∃ t, bT t half = half - base ∧ HM hb hm g (doneW W half base (half - base) O) half (posO W (half - base) O O.length) t 0 w') ∧ OW gr (rs.map (turnM O (mvL W (half - base) O O.length))) w' ∧ Below Bl w w' := by
  obtain ⟨av, cv, hvv⟩ := own_form hN.plc.1
  subst hvv
  have hlt := h.lt
  have hlo := h.lo
  have HSZ : Hid _ := h.siz
  have hgl := hW.lt
  have LIM : Hid (Bl ≤ hb ∧ Bl ≤ hm ∧ Bl ≤ g ∧ hb < w.heap.size ∧ hm < w.heap.size ∧ g < w.heap.size) := ⟨by omega, by omega, hd.1, hlt.1, hlt.2, hgl⟩
  clear hBB
  have HD : Hid _ := hd
  -- the box, the lock
  have T0 := alloc_top w (.cells #[.int .i64 base, .slice av O.length cv, .slice (some ⟨nb, 0, none⟩) half half] 45)
  have K0 : Below w.heap.size w (w.alloc (.cells #[.int .i64 base, .slice av O.length cv, .slice (some ⟨nb, 0, none⟩) half half] 45)) := (Below.refl _ _).alloc (Nat.le_refl _) _
  obtain ⟨t0, ht0⟩ : ∃ t0 : Nat, timesF base = (t0 : Int) ∧ (base = 0 ∧ t0 = 0 ∨ base = half ∧ t0 = 1) := by
    have := HSZ.out
    unfold timesF
    by_cases e : base = 0
    · exact ⟨0, by rw [if_pos e]; rfl, .inl ⟨e, rfl⟩⟩
    · exact ⟨1, by rw [if_neg e]; rfl, .inr ⟨by omega, rfl⟩⟩
  have hM0 : HM hb hm g W half next t0 0 w := ⟨⟨hlo.2.2, by omega, by omega⟩, by rw [h.blk, ht0.1], ⟨M, h.len, h.mks⟩, hW, ⟨HSZ.out.1, HSZ.out.2.2.1, HSZ.out.2.2.2.1, by omega⟩⟩
  have hMa := hM0.on K0
  generalize hwa : w.alloc (.cells #[.int .i64 base, .slice av O.length cv, .slice (some ⟨nb, 0, none⟩) half half] 45) = wa at *
  have c0 := hMa.c0
  have z0 := hMa.frz 0
  have Q1 : Hid (MQ Bl hb hm g nb (.slice av O.length cv) half base w W next t0 (wa.setCell ⟨hb, 0, none⟩ (.int .i32 1))) := by
    have hl := LIM.out
    exact ⟨hMa.set.1 1, (Below.heap_setCell _ _ _ _ (by show w.heap.size ≠ hb; omega)).trans T0, fun k hk h1 h2 h3 => (Below.heap_setCell _ _ _ _ (by exact h1)).trans (K0.block k hk), (K0.mono (by omega)).setCell hl.1 _, hl⟩
  have HT0 : Hid (base = 0 ∧ t0 = 0 ∨ base = half ∧ t0 = 1) := ht0.2
  have HB0 : Hid (bT t0 half = base) := by show _ = _; unfold bT; rcases ht0.2 with ⟨rfl, rfl⟩ | ⟨rfl, rfl⟩ <;> simp
  have NN : Hid (Met B2 nb (.slice av O.length cv) base half O w) := hN
  have RR : Hid (OW gr rs w) := hR
  have ht2 : t0 + 1 ≤ 2 := by omega
  have hus := hinUse_is Q1.out.hp
  rw [HB0.out] at hus
  have HTT : Hid _ := hT
  have HOO : Hid _ := hO
  have HWW : Hid (OW g W w) := hW
  have HPI : Hid (∀ x ∈ O, ∃ z : Nat, x = z ∧ base ≤ z ∧ z + (manyF (W.getD z 0)).toNat < next) := fun x hx => by
    have e : plT (W, (half : Int), (base : Int), (next : Int)) = plF W next base := by unfold plT; simp
    have hok := heap_places (right_is hT).1
    rw [e] at hok
    rw [hO] at hx
    have hs := (order_inv hT).sub x hx
    rw [e] at hs
    exact plF_in hok x hs
  have HDN : Hid _ := done_is hW.2 hT hO HSZ.out
  clear h hW hN hR hd hT hO hlt hlo T0 K0 ht0 hM0 hMa hgl
  go_enter_defers Tryz.func24, Tryz.ntmps24
  go_wp2_with (go_at_call 43; refine (Go.MuLone.lock_free lock.muLib ⟨hb, 0, none⟩ _ c0 z0).mono ?_; rintro e w' ⟨rfl, rfl⟩)
  obtain ⟨ti, hti, hz0, hz1, hz2⟩ := int_info
  have TI : Hid (Tryz.prog.info? 3 = some ti ∧ ti.zero = some (.int .i64 0) ∧ ti.size = 1 ∧ ti.bytes = 8) := ⟨hti, hz0, hz1, hz2⟩
  clear hti hz0 hz1 hz2
  clear c0 z0 hwa
  refine hus.mono ?_
  rintro e w2 ⟨rfl, n2, rfl⟩
  have Q2 := Q1.out.drewN n2
  generalize (wa.setCell ⟨hb, 0, none⟩ (.int .i32 1)).drewN n2 = w2 at *
  have c2 := Q2.hp.c2
  have z2 := Q2.hp.frz 2
  have hadd := lock.add_is (y := 1) c2 z2 (by omega) (by omega)
  have Q3 : Hid (MQ Bl hb hm g nb (.slice av O.length cv) half base w W next (t0 + 1) (w2.setCell ⟨hb, 2, none⟩ (.int .i64 ((t0 : Int) + 1)))) := by
    have := Q2.times ht2
    rwa [show (((t0 + 1 : Nat) : Int)) = (t0 : Int) + 1 by omega] at this
  clear hus c2 z2 Q2 Q1
  go_wp2_with (go_at_call 46; refine hadd.mono ?_; rintro e w' ⟨rfl, hw'⟩; subst hw')
  generalize w2.setCell ⟨hb, 2, none⟩ (.int .i64 ((t0 : Int) + 1)) = w3 at *
  have hba := hbase_is Q3.out.hp
  obtain ⟨b1, hb1⟩ : ∃ b1, b1 = half - base := ⟨_, rfl⟩
  have HB1 : Hid (bT (t0 + 1) half = b1 ∧ b1 = half - base ∧ b1 + base = half) := by
    have h1 := HT0.out
    have h2 := HSZ.out
    refine ⟨by rw [hb1]; exact bT_is (by omega), hb1, by omega⟩
  rw [HB1.out.1] at hba
  clear hb1
  refine hba.mono ?_
  rintro e w4 ⟨rfl, n4, rfl⟩
  have Q4 := Q3.out.drewN n4
  clear hba hadd Q3
  generalize w3.drewN n4 = w4 at *
  have c5 := Q4.hp.c5
  have z5 := Q4.hp.frz 5
  have Q5 := Q4.nxt b1
  have c6 := Q5.hp.c6
  have hh1 : 1 ≤ half := HSZ.out.2.2.1
  have hcl : ∀ ty, (Builtin.clear_ #[83] ty #[.slice (some ⟨hm, 0, none⟩) half half]).run Tryz.prog (w4.setCell ⟨hb, 5, none⟩ (.int .i64 b1)) = .ok (.tuple #[]) ((w4.setCell ⟨hb, 5, none⟩ (.int .i64 b1)).setCells hm 0 (List.replicate half (.bool false))) := fun ty =>
    Lib.run_clear_slice _ 83 4 ty (.bool false) Tryz.underlying83 zero_bool rfl rfl hm 0 half half hh1 (fun j hj => by rw [Nat.zero_add]; obtain ⟨x, hx⟩ := Q5.hp.mk_ hj; rw [hx]; rfl) (fun j hj => Q5.hp.mfrz _)
  have Q6 : Hid (MQ Bl hb hm g nb (.slice av O.length cv) half base w W b1 (t0 + 1) ((w4.setCell ⟨hb, 5, none⟩ (.int .i64 b1)).setCells hm 0 (List.replicate half (.bool false)))) := Q5.marks half 0
  have b1c := Q6.out.b1
  clear Q4 Q5
  go_wp2_with (simp only [hcl])
  clear hcl c5 z5 c6 b1c
  generalize (w4.setCell ⟨hb, 5, none⟩ (.int .i64 b1)).setCells hm 0 (List.replicate half (.bool false)) = w6 at *
  go_loopw [37, 7] (fun v37 v7 wr => ∃ (k : Nat), k ≤ O.length ∧ v37 = .int .i64 k ∧ Hid (MQ Bl hb hm g nb (.slice av O.length cv) half base w (cpW W b1 O k) (posO W b1 O k) (t0 + 1) wr) ∧ Hid (IRow wr (w.heap.size + 1) v7 (mvL W b1 O k))) (fun v37 _ _ => O.length - (intOf v37).toNat)
  case atStart => exact ⟨0, Nat.zero_le _, rfl, by have := Q6.out; rwa [show posO W b1 O 0 = b1 from posO_zero _ _ _], IRow.nil _ _⟩
  case round =>
    obtain ⟨k, hk, rfl, HQ, HI⟩ := hrel
    by_cases hlt : k < O.length
    · obtain ⟨z, hz, hz1, hz2⟩ := HPI.out _ (List.getElem_mem hlt)
      have hpn := HDN.out.1
      rw [← HB1.out.2.1] at hpn
      have hps := posO_succ (W := W) (b := b1) (O := O) hlt
      have hple := posO_le (W := W) (b := b1) (O := O) (i := k + 1) (j := O.length) (by omega) (Nat.le_refl _)
      have hpb := posO_le (W := W) (b := b1) (O := O) (i := 0) (j := k) (Nat.zero_le _) (by omega)
      rw [posO_zero] at hpb
      obtain ⟨mn, hmn⟩ : ∃ t : Nat, (manyF (W.getD z 0)).toNat = t := ⟨_, rfl⟩
      have hszk : szP W O[k] = 1 + mn := by unfold szP; rw [hz, Int.toNat_natCast, hmn]
      rw [hmn] at hz2
      rw [hszk] at hps
      obtain ⟨nx, hnx⟩ : ∃ nx, nx = posO W b1 O k := ⟨_, rfl⟩
      rw [← hnx] at hps hpb HQ
      have HNX : Hid (nx = posO W b1 O k) := hnx
      have hsz := HSZ.out
      have hbb := HB1.out.2.2
      obtain ⟨jn, hjn⟩ : ∃ jn : Nat, nx = b1 + jn := ⟨nx - b1, by omega⟩
      have hjh : jn < half := by omega
      have HFN : Hid (posO W b1 O (k + 1) = nx + (1 + mn) ∧ nx + (1 + mn) ≤ b1 + half ∧ nx = b1 + jn ∧ jn < half ∧ W.length = 2 * half ∧ b1 + base = half ∧ (base = 0 ∨ base = half) ∧ base ≤ z ∧ z + mn < base + half ∧ half ≤ 3000) := ⟨hps, by omega, hjn, hjh, hsz.1, hbb, hsz.2.1, hz1, by omega, by omega⟩
      obtain ⟨Xk, hXk⟩ : ∃ Xk, Xk = cpW W b1 O k := ⟨_, rfl⟩
      have hXl : Xk.length = W.length := by rw [hXk, cpW_len]
      have HXO : Hid (∀ i, i < b1 ∨ nx ≤ i → Xk.getD i 0 = W.getD i 0) := fun i hi => by rw [hXk]; exact cp_old (by omega) hk i (by rw [← hnx]; exact hi)
      have HXN : Hid (cpW W b1 O (k + 1) = putW Xk nx (rawB W z)) := by show _ = _; rw [cpW, ← hXk, ← hnx, getD_O hlt, hz, Int.toNat_natCast]
      rw [← hXk] at HQ
      have HXL : Hid (Xk.length = W.length) := hXl
      rcases NN.out.plc.open with ⟨-, h0⟩ | ⟨ga, cp, hv, hg1, hg2, -, -, hcl, -⟩
      · rw [h0] at hlt; simp at hlt
      obtain ⟨rfl, rfl⟩ : av = some ⟨ga, 0, none⟩ ∧ cv = cp := by simp only [Value.slice.injEq] at hv; exact ⟨hv.1, hv.2.2⟩
      have e0 : wr.cell? ⟨ga, k, none⟩ = some (.int .i64 z) := by
        have h1 := hcl k hlt
        rw [hz] at h1
        rw [← h1]
        have hdd := HD.out
        simp only [World.cell?, HQ.out.oth ga hg2 (by omega) (by omega) (by omega)]
      have kI : (k : Int) < (O.length : Int) := by omega
      have k0 : (0 : Int) ≤ (k : Int) := by omega
      have c5 := HQ.out.hp.c5
      obtain ⟨am, cm, hvm⟩ := own_form HI.out.1
      rw [mvL_len] at hvm
      subst hvm
      have OWN : Hid (wr.ownsRow (w.heap.size + 1) 3 1 (.slice am k cm) k ((mvL W b1 O k).map (Value.int .i64))) := by
        have := HI.out.1
        rwa [mvL_len] at this
      have hk3 : k ≤ 3000 := by have := NN.out.siz; omega
      have hn6 : nx ≤ 6000 := by omega
      have QL := HQ.out.lt
      have hMN : (manyF (W.getD z 0)).toNat = mn := hmn
      clear hcl hv hpn hps hple hpb hszk hnx hsz hbb hjn hjh hXk hXl hz hz1 hmn
      go_wp2_with (first
        | (at_builtin; refine wpList_append_own _ rfl (.tmp 41) (.tmp 46) 24 rfl (w.heap.size + 1) 3 ti _ 1 8 Tryz.underlying24 TI.out.1 TI.out.2.1 TI.out.2.2.1 TI.out.2.2.2 rfl (by decide) _ _ _ rfl (OWN.out.alloc _) ⟨wr.heap.size, 0, none⟩ 1 1 [.int .i64 nx] rfl rfl (cells_new _ _ _ _ rfl) (by simp [Value.oneCell']) (by unfold maxLen; omega) (by omega) (by simp; omega) ?_; intro v5 w5 o5 g5 n5)
        | go_in)
      have hB5 : Below (w.heap.size + 1) wr w5 := ((Below.refl _ _).alloc (by omega) _).grown g5 (by simp; omega) (fun q hq => (HI.out.lt q hq).1)
      have Q5 : Hid (MQ Bl hb hm g nb (.slice (some ⟨ga, 0, none⟩) O.length cv) half base w Xk nx (t0 + 1) w5) := HQ.out.up hB5
      obtain ⟨a5, cv5, hv5⟩ := own_form o5
      subst hv5
      have I5 : Hid (IRow w5 (w.heap.size + 1) (.slice a5 (k + 1) cv5) (mvL W b1 O (k + 1))) := by
        refine ⟨?_, fun y hy => ?_⟩
        · rw [mvL_len, mvL_succ, List.map_append, ← HNX.out]; exact o5
        · rw [mvL_succ] at hy
          rcases List.mem_append.1 hy with q | q
          · exact HI.out.2 y q
          · rw [List.mem_singleton, ← HNX.out] at q; subst q; unfold InR; omega
      clear hB5 o5 g5 n5 OWN HI HQ c5 e0 QL
      have c5 := Q5.out.hp.c5
      have c6 := Q5.out.hp.c6
      have c5n : w5.drew.cell? ⟨hb, 5, none⟩ = some (.int .i64 nx) := c5
      have c6n : w5.drew.cell? ⟨hb, 6, none⟩ = some (.slice (some ⟨hm, 0, none⟩) half half) := c6
      have c5m : ∀ n, (w5.drewN n).cell? ⟨hb, 5, none⟩ = some (.int .i64 nx) := fun _ => c5
      have c6m : ∀ n, (w5.drewN n).cell? ⟨hb, 6, none⟩ = some (.slice (some ⟨hm, 0, none⟩) half half) := fun _ => c6
      obtain ⟨mb5, cm5⟩ := Q5.out.hp.mk_ HFN.out.2.2.2.1
      have fm5 := Q5.out.hp.mfrz jn
      have cm5m : ∀ n, (w5.drewN n).cell? ⟨hm, jn, none⟩ = some (.bool mb5) := fun _ => cm5
      have fm5m : ∀ n, (w5.drewN n).frozen? ⟨hm, jn, none⟩ = false := fun _ => fm5
      have hcb5 : Calls Tryz.prog 47 #[.pointer (some ⟨hb, 0, none⟩)] (w5.drewN 1) fun e w' => e = .returned (.int .i64 b1) ∧ ∃ m, w' = (w5.drewN 1).drewN m := by
        have := hbase_is (Q5.out.drewN 1).hp
        rwa [HB1.out.1] at this
      have d1 : IntKind.i64.wrap ((nx : Int) - (b1 : Int)) = (jn : Int) := by have := HFN.out; rw [IntKind.wrap_i64]; omega
      have d2 : (nx : Int) - (b1 : Int) = (jn : Int) := by have := HFN.out; omega
      have d3 : IntKind.i64.wrap (jn : Int) = (jn : Int) := by have := HFN.out; rw [IntKind.wrap_i64]; omega
      have d4 : (jn : Int) < (half : Int) := by have := HFN.out; omega
      have d5 : (0 : Int) ≤ (jn : Int) := by omega
      have hmh : ¬ hm = hb := fun e => Q5.out.hp.ne.1 e.symm
      go_region_held3 (fun X => X.cell? ⟨hb, 5, none⟩ = some (.int .i64 nx) ∧ X.cell? ⟨hb, 6, none⟩ = some (.slice (some ⟨hm, 0, none⟩) half half))
        (exact ⟨(by first | with_reducible exact c5 | with_reducible exact c5n | with_reducible exact c5m _ | exact cell_setQ _ c5 hmh | exact cell_setQ (w := w5.drewN _) _ (c5m _) hmh), (by first | with_reducible exact c6 | with_reducible exact c6n | with_reducible exact c6m _ | exact cell_setQ _ c6 hmh | exact cell_setQ (w := w5.drewN _) _ (c6m _) hmh)⟩)
        (first
          | (go_at_call 47; refine hcb5.mono ?_; rintro e w6' ⟨rfl, n6, rfl⟩))
      have Q7 : Hid (MQ Bl hb hm g nb (.slice (some ⟨ga, 0, none⟩) O.length cv) half base w Xk nx (t0 + 1) ((w5.drewN (1 + n6)).setCell ⟨hm, jn, none⟩ (.bool true))) := (Q5.out.drewN (1 + n6)).mark jn true
      have I7 : Hid (IRow ((w5.drewN (1 + n6)).setCell ⟨hm, jn, none⟩ (.bool true)) (w.heap.size + 1) (.slice a5 (k + 1) cv5) (mvL W b1 O (k + 1))) := ⟨own_same I5.out.1 fun q hq => Below.heap_setCell _ _ _ _ (by have := (I5.out.lt q hq).1; have := LIM.out; show q ≠ hm; omega), I5.out.2⟩
      clear c5 c6 c5n c6n c5m c6m cm5 fm5 cm5m fm5m hcb5 d1 d2 d3 d4 hmh I5 Q5
      generalize (w5.drewN (1 + n6)).setCell ⟨hm, jn, none⟩ (.bool true) = w7 at *
      obtain ⟨x, hx⟩ : ∃ x, x = W.getD z 0 := ⟨_, rfl⟩
      have hXz : ∀ j, j ≤ mn → Xk.getD (z + j) 0 = W.getD (z + j) 0 := fun j hj => HXO.out _ (by have := HFN.out; omega)
      have hzl : z < Xk.length := by rw [HXL.out]; have := HFN.out; omega
      have hcx : ∀ {X : World}, OW g Xk X → X.cell? ⟨g, z, none⟩ = some (.int .i64 x) := fun hO' => by
        rw [hO'.cell hzl]
        have := hXz 0 (Nat.zero_le _)
        rw [Nat.add_zero] at this
        rw [hx, ← this, List.getD_eq_getElem?_getD, List.getElem?_eq_getElem hzl]; rfl
      have hxr : InR x := by
        rw [hx, List.getD_eq_getElem?_getD, List.getElem?_eq_getElem (by rw [← HXL.out]; exact hzl)]
        exact HWW.out.2 _ (List.getElem_mem _)
      have hm0 := many_in x
      have hmi : manyF x = (mn : Int) := by rw [← hx] at hMN; omega
      have hcw : ∀ X : World, Calls Tryz.prog 48 #[.int .i64 x] X fun e w' => e = .returned (.agg #[.bool (funF x), .int .i64 (tagS x), .int .i64 mn]) ∧ Below X.heap.size X w' := fun X => by rw [← hmi]; exact headerOf_is x X hxr.1 hxr.2
      have hmn20 : mn ≤ 63 := by omega
      have hcs : ∀ X : World, Calls Tryz.prog 49 #[.agg #[.bool (funF x), .int .i64 (tagS x), .int .i64 mn]] X fun e w' => e = .returned (.int .i64 (1 + (mn : Int))) ∧ Below X.heap.size X w' := fun X => hdrSize_is _ _ _ X (by omega) (by omega)
      have HX0 : Hid (x = W.getD z 0) := hx
      have HKL1 : Hid (k < O.length) := hlt
      have HCX : Hid (∀ {X : World}, OW g Xk X → X.cell? ⟨g, z, none⟩ = some (.int .i64 x)) := hcx
      have c3 := Q7.out.hp.c3
      have c5 := Q7.out.hp.c5
      have cx := hcx Q7.out.hp.wds
      have c3n : w7.drew.cell? ⟨hb, 3, none⟩ = some (.slice (some ⟨g, 0, none⟩) Xk.length Xk.length) := c3
      have c5n : w7.drew.cell? ⟨hb, 4, none⟩ = _ := Q7.out.hp.c4
      have c5n' : w7.drew.cell? ⟨hb, 5, none⟩ = some (.int .i64 nx) := c5
      have cxn : w7.drew.cell? ⟨g, z, none⟩ = some (.int .i64 x) := cx
      obtain ⟨xl, hxl⟩ : ∃ xl, xl = Xk.length := ⟨_, rfl⟩
      have HXLL : Hid (xl = Xk.length ∧ nx + (1 + mn) ≤ xl ∧ z + (1 + mn) ≤ xl ∧ xl ≤ 6000) := by have := HFN.out; have := HXL.out; show _ ∧ _; omega
      rw [← hxl] at c3 c3n
      have g1 : (nx : Int) ≤ (xl : Int) := by have := HXLL.out; omega
      have g2 : (z : Int) < (xl : Int) := by have := HXLL.out; omega
      have g3 : (z : Int) + (1 + (mn : Int)) ≤ (xl : Int) := by have := HXLL.out; omega
      have g4 : IntKind.i64.wrap ((z : Int) + (1 + (mn : Int))) = (z : Int) + (1 + (mn : Int)) := by have := HXLL.out; rw [IntKind.wrap_i64]; omega
      have g5 : (z : Int) ≤ (z : Int) + (1 + (mn : Int)) := by omega
      have g6 : (0 : Int) ≤ (z : Int) := by omega
      have g7 : (0 : Int) ≤ (nx : Int) := by omega
      have g8 : nx < xl := by have := HXLL.out; omega
      have g9 : z < xl := by have := HXLL.out; omega
      have g10 : IntKind.i64.wrap ((nx : Int) + ((1 + mn : Nat) : Int)) = (nx : Int) + ((1 + mn : Nat) : Int) := by have := HXLL.out; rw [IntKind.wrap_i64]; omega
      clear hx hxl hXz hzl hxr hm0 hmi hcx d5
      go_wp2
      have HSRC9 : Hid (∀ {Y : World}, OW g Xk Y → ∀ j v, ((rawB W z).map (Value.int .i64))[j]? = some v → Y.cell? ((⟨g, z, none⟩ : Addr).add j) = some v) := fun {Y} hY j v hj => by
        rw [List.getElem?_map] at hj
        obtain ⟨y, hy, rfl⟩ := Option.map_eq_some_iff.1 hj
        obtain ⟨hq, rfl⟩ := List.getElem?_eq_some_iff.1 hy
        rw [rawB_get, add_plain]
        rw [rawB_len, hMN] at hq
        have hjl : z + j < Xk.length := by have := HXLL.out; omega
        rw [hY.cell hjl]
        have h1 := HXO.out (z + j) (by have := HFN.out; omega)
        rw [← h1, List.getD_eq_getElem?_getD, List.getElem?_eq_getElem hjl]
        rfl
      have hrl : (rawB W z).length = 1 + mn := by rw [rawB_len, hMN]; omega
      have HCL : Hid (((rawB W z).map (Value.int .i64)).length = Nat.min (1 + mn) (xl - nx)) := by show _ = _; rw [List.length_map, hrl]; exact (Nat.min_eq_left (by have := HXLL.out; omega)).symm
      have HCF : Hid (nx + ((rawB W z).map (Value.int .i64)).length ≤ (Xk.map (Value.int .i64)).length) := by show _ ≤ _; rw [List.length_map, List.length_map, hrl]; have := HXLL.out; omega
      have HCN : Hid (goInt ((rawB W z).map (Value.int .i64)).length = .int .i64 ((1 + mn : Nat) : Int)) := by show _ = _; rw [List.length_map, hrl]; rfl
      have HRW : Hid (nx + (rawB W z).length ≤ Xk.length ∧ ∀ y ∈ rawB W z, InR y) := by
        refine ⟨by rw [hrl]; have := HXLL.out; omega, fun y hy => ?_⟩
        unfold rawB at hy
        obtain ⟨i, -, rfl⟩ := List.mem_map.1 hy
        exact getD_mem_or HWW.out.2
      have HCX2 : Hid (∀ {Y : World}, OW g (putW Xk nx (rawB W z)) Y → Y.cell? ⟨g, z, none⟩ = some (.int .i64 x)) := fun {Y} hY => by
        have hzl : z < (putW Xk nx (rawB W z)).length := by rw [putW_length]; have := HXLL.out; omega
        rw [hY.cell hzl]
        have h1 := putW_get (rawB W z) Xk nx z HRW.out.1
        rw [if_neg (by rw [hrl]; have := HFN.out; omega), HXO.out z (by have := HFN.out; omega)] at h1
        rw [HX0.out, ← h1, List.getD_eq_getElem?_getD, List.getElem?_eq_getElem hzl]; rfl
      clear hrl
      refine wp_region_noPanic ?_
      have hS7 : (fun X : World => X.cell? ⟨hb, 3, none⟩ = some (.slice (some ⟨g, 0, none⟩) xl xl) ∧ X.cell? ⟨g, z, none⟩ = some (.int .i64 x)) w7.drew := ⟨c3n, cxn⟩
      refine wp_region_held_drew (S := (fun X : World => X.cell? ⟨hb, 3, none⟩ = some (.slice (some ⟨g, 0, none⟩) xl xl) ∧ X.cell? ⟨g, z, none⟩ = some (.int .i64 x))) (by kernel_rfl) hS7 ?_
      intro _
      refine wpAnyH_take (i := 0) (v := .pointer (some ⟨hb, 0, none⟩)) rfl (by kernel_rfl) (by kernel_rfl) (by kernel_rfl) (fun _ _ _ h => h) (Or.inl ⟨by kernel_rfl, ?_⟩) hS7 ?_
      · intro W hSw
        obtain ⟨s0, s1⟩ := hSw
        go_simp
      try simp only [Act.put, List.setIfInBounds_toArray, List.set_cons_zero, List.set_cons_succ]
      refine wpAnyH_take (i := 1) (v := .pointer (some ⟨hb, 0, none⟩)) rfl (by kernel_rfl) (by kernel_rfl) (by kernel_rfl) (fun _ _ _ h => h) (Or.inl ⟨by kernel_rfl, ?_⟩) hS7 ?_
      · intro W hSw
        obtain ⟨s0, s1⟩ := hSw
        go_simp
      try simp only [Act.put, List.setIfInBounds_toArray, List.set_cons_zero, List.set_cons_succ]
      refine wpAnyH_take (i := 2) (v := .pointer (some ⟨hb, 5, none⟩)) rfl (by kernel_rfl) (by kernel_rfl) (by kernel_rfl) (fun _ _ _ h => h) (Or.inl ⟨by kernel_rfl, ?_⟩) hS7 ?_
      · intro W hSw
        obtain ⟨s0, s1⟩ := hSw
        go_simp
      try simp only [Act.put, List.setIfInBounds_toArray, List.set_cons_zero, List.set_cons_succ]
      refine wpAnyH_take (i := 4) (v := .pointer (some ⟨hb, 0, none⟩)) rfl (by kernel_rfl) (by kernel_rfl) (by kernel_rfl) (fun _ _ _ h => h) (Or.inl ⟨by kernel_rfl, ?_⟩) hS7 ?_
      · intro W hSw
        obtain ⟨s0, s1⟩ := hSw
        go_simp
      try simp only [Act.put, List.setIfInBounds_toArray, List.set_cons_zero, List.set_cons_succ]
      refine wpAnyH_take (i := 5) (v := .pointer (some ⟨hb, 0, none⟩)) rfl (by kernel_rfl) (by kernel_rfl) (by kernel_rfl) (fun _ _ _ h => h) (Or.inl ⟨by kernel_rfl, ?_⟩) hS7 ?_
      · intro W hSw
        obtain ⟨s0, s1⟩ := hSw
        go_simp
      try simp only [Act.put, List.setIfInBounds_toArray, List.set_cons_zero, List.set_cons_succ]
      refine wpAnyH_take (i := 6) (v := .pointer (some ⟨hb, 3, none⟩)) rfl (by kernel_rfl) (by kernel_rfl) (by kernel_rfl) (fun _ _ _ h => h) (Or.inl ⟨by kernel_rfl, ?_⟩) hS7 ?_
      · intro W hSw
        obtain ⟨s0, s1⟩ := hSw
        go_simp
      try simp only [Act.put, List.setIfInBounds_toArray, List.set_cons_zero, List.set_cons_succ]
      refine wpAnyH_take (i := 7) (v := .slice (some ⟨g, 0, none⟩) xl xl) rfl (by kernel_rfl) (by kernel_rfl) (by kernel_rfl) (fun _ _ _ h => h) (Or.inl ⟨by kernel_rfl, ?_⟩) hS7 ?_
      · intro W hSw
        obtain ⟨s0, s1⟩ := hSw
        go_simp
      try simp only [Act.put, List.setIfInBounds_toArray, List.set_cons_zero, List.set_cons_succ]
      refine wpAnyH_take (i := 8) (v := .pointer (some ⟨hb, 0, none⟩)) rfl (by kernel_rfl) (by kernel_rfl) (by kernel_rfl) (fun _ _ _ h => h) (Or.inl ⟨by kernel_rfl, ?_⟩) hS7 ?_
      · intro W hSw
        obtain ⟨s0, s1⟩ := hSw
        go_simp
      try simp only [Act.put, List.setIfInBounds_toArray, List.set_cons_zero, List.set_cons_succ]
      refine wpAnyH_take (i := 9) (v := .pointer (some ⟨hb, 0, none⟩)) rfl (by kernel_rfl) (by kernel_rfl) (by kernel_rfl) (fun _ _ _ h => h) (Or.inl ⟨by kernel_rfl, ?_⟩) hS7 ?_
      · intro W hSw
        obtain ⟨s0, s1⟩ := hSw
        go_simp
      try simp only [Act.put, List.setIfInBounds_toArray, List.set_cons_zero, List.set_cons_succ]
      refine wpAnyH_take (i := 10) (v := .pointer (some ⟨hb, 5, none⟩)) rfl (by kernel_rfl) (by kernel_rfl) (by kernel_rfl) (fun _ _ _ h => h) (Or.inl ⟨by kernel_rfl, ?_⟩) hS7 ?_
      · intro W hSw
        obtain ⟨s0, s1⟩ := hSw
        go_simp
      try simp only [Act.put, List.setIfInBounds_toArray, List.set_cons_zero, List.set_cons_succ]
      refine wpAnyH_take (i := 13) (v := .pointer (some ⟨hb, 0, none⟩)) rfl (by kernel_rfl) (by kernel_rfl) (by kernel_rfl) (fun _ _ _ h => h) (Or.inl ⟨by kernel_rfl, ?_⟩) hS7 ?_
      · intro W hSw
        obtain ⟨s0, s1⟩ := hSw
        go_simp
      try simp only [Act.put, List.setIfInBounds_toArray, List.set_cons_zero, List.set_cons_succ]
      refine wpAnyH_take (i := 14) (v := .pointer (some ⟨hb, 0, none⟩)) rfl (by kernel_rfl) (by kernel_rfl) (by kernel_rfl) (fun _ _ _ h => h) (Or.inl ⟨by kernel_rfl, ?_⟩) hS7 ?_
      · intro W hSw
        obtain ⟨s0, s1⟩ := hSw
        go_simp
      try simp only [Act.put, List.setIfInBounds_toArray, List.set_cons_zero, List.set_cons_succ]
      refine wpAnyH_take (i := 15) (v := .pointer (some ⟨hb, 3, none⟩)) rfl (by kernel_rfl) (by kernel_rfl) (by kernel_rfl) (fun _ _ _ h => h) (Or.inl ⟨by kernel_rfl, ?_⟩) hS7 ?_
      · intro W hSw
        obtain ⟨s0, s1⟩ := hSw
        go_simp
      try simp only [Act.put, List.setIfInBounds_toArray, List.set_cons_zero, List.set_cons_succ]
      refine wpAnyH_take (i := 16) (v := .slice (some ⟨g, 0, none⟩) xl xl) rfl (by kernel_rfl) (by kernel_rfl) (by kernel_rfl) (fun _ _ _ h => h) (Or.inl ⟨by kernel_rfl, ?_⟩) hS7 ?_
      · intro W hSw
        obtain ⟨s0, s1⟩ := hSw
        go_simp
      try simp only [Act.put, List.setIfInBounds_toArray, List.set_cons_zero, List.set_cons_succ]
      refine wpAnyH_take (i := 17) (v := .int .i64 z) rfl (by kernel_rfl) (by kernel_rfl) (by kernel_rfl) (fun _ _ _ h => h) (Or.inl ⟨by kernel_rfl, ?_⟩) hS7 ?_
      · intro W hSw
        obtain ⟨s0, s1⟩ := hSw
        go_simp
      try simp only [Act.put, List.setIfInBounds_toArray, List.set_cons_zero, List.set_cons_succ]
      refine wpAnyH_take (i := 18) (v := .int .i64 z) rfl (by kernel_rfl) (by kernel_rfl) (by kernel_rfl) (fun _ _ _ h => h) (Or.inl ⟨by kernel_rfl, ?_⟩) hS7 ?_
      · intro W hSw
        obtain ⟨s0, s1⟩ := hSw
        go_simp
      try simp only [Act.put, List.setIfInBounds_toArray, List.set_cons_zero, List.set_cons_succ]
      refine wpAnyH_take (i := 19) (v := .pointer (some ⟨hb, 0, none⟩)) rfl (by kernel_rfl) (by kernel_rfl) (by kernel_rfl) (fun _ _ _ h => h) (Or.inl ⟨by kernel_rfl, ?_⟩) hS7 ?_
      · intro W hSw
        obtain ⟨s0, s1⟩ := hSw
        go_simp
      try simp only [Act.put, List.setIfInBounds_toArray, List.set_cons_zero, List.set_cons_succ]
      refine wpAnyH_take (i := 20) (v := .pointer (some ⟨hb, 0, none⟩)) rfl (by kernel_rfl) (by kernel_rfl) (by kernel_rfl) (fun _ _ _ h => h) (Or.inl ⟨by kernel_rfl, ?_⟩) hS7 ?_
      · intro W hSw
        obtain ⟨s0, s1⟩ := hSw
        go_simp
      try simp only [Act.put, List.setIfInBounds_toArray, List.set_cons_zero, List.set_cons_succ]
      refine wpAnyH_take (i := 21) (v := .pointer (some ⟨hb, 3, none⟩)) rfl (by kernel_rfl) (by kernel_rfl) (by kernel_rfl) (fun _ _ _ h => h) (Or.inl ⟨by kernel_rfl, ?_⟩) hS7 ?_
      · intro W hSw
        obtain ⟨s0, s1⟩ := hSw
        go_simp
      try simp only [Act.put, List.setIfInBounds_toArray, List.set_cons_zero, List.set_cons_succ]
      refine wpAnyH_take (i := 22) (v := .slice (some ⟨g, 0, none⟩) xl xl) rfl (by kernel_rfl) (by kernel_rfl) (by kernel_rfl) (fun _ _ _ h => h) (Or.inl ⟨by kernel_rfl, ?_⟩) hS7 ?_
      · intro W hSw
        obtain ⟨s0, s1⟩ := hSw
        go_simp
      try simp only [Act.put, List.setIfInBounds_toArray, List.set_cons_zero, List.set_cons_succ]
      refine wpAnyH_take (i := 23) (v := .int .i64 z) rfl (by kernel_rfl) (by kernel_rfl) (by kernel_rfl) (fun _ _ _ h => h) (Or.inl ⟨by kernel_rfl, ?_⟩) hS7 ?_
      · intro W hSw
        obtain ⟨s0, s1⟩ := hSw
        go_simp
      try simp only [Act.put, List.setIfInBounds_toArray, List.set_cons_zero, List.set_cons_succ]
      refine wpAnyH_take (i := 24) (v := .pointer (some ⟨g, z, none⟩)) rfl (by kernel_rfl) (by kernel_rfl) (by kernel_rfl) (fun _ _ _ h => h) (Or.inl ⟨by kernel_rfl, ?_⟩) hS7 ?_
      · intro W hSw
        obtain ⟨s0, s1⟩ := hSw
        go_simp
      try simp only [Act.put, List.setIfInBounds_toArray, List.set_cons_zero, List.set_cons_succ]
      refine wpAnyH_take (i := 25) (v := .int .i64 x) rfl (by kernel_rfl) (by kernel_rfl) (by kernel_rfl) (fun _ _ _ h => h) (Or.inl ⟨by kernel_rfl, ?_⟩) hS7 ?_
      · intro W hSw
        obtain ⟨s0, s1⟩ := hSw
        go_simp
      try simp only [Act.put, List.setIfInBounds_toArray, List.set_cons_zero, List.set_cons_succ]
      refine wpAnyH_ready (rs := [3, 11, 26]) (by kernel_rfl) (by simp) ?_
      refine AllReadyH.cons rfl (fun K hK => ?_) (AllReadyH.cons rfl (fun K hK => ?_) (AllReadyH.cons rfl (fun K hK => ?_) (AllReadyH.nil)))
      · go_simp
        refine hK.out _ _ hS7 (fun _ => ?_)
        clear hK K
        try simp only [Act.put, List.setIfInBounds_toArray, List.set_cons_zero, List.set_cons_succ]
        refine wpAnyH_ready (rs := [11, 26]) (by kernel_rfl) (by simp) ?_
        refine AllReadyH.cons rfl (fun K hK => ?_) (AllReadyH.cons rfl (fun K hK => ?_) (AllReadyH.nil))
        · go_simp
          refine hK.out _ _ hS7 (fun _ => ?_)
          clear hK K
          try simp only [Act.put, List.setIfInBounds_toArray, List.set_cons_zero, List.set_cons_succ]
          refine wpAnyH_take (i := 12) (v := .slice (some ⟨g, nx, none⟩) (xl - nx) (xl - nx)) rfl (by kernel_rfl) (by kernel_rfl) (by kernel_rfl) (fun _ _ _ h => h) (Or.inl ⟨by kernel_rfl, ?_⟩) hS7 ?_
          · intro W hSw
            obtain ⟨s0, s1⟩ := hSw
            go_simp
            omega
          try simp only [Act.put, List.setIfInBounds_toArray, List.set_cons_zero, List.set_cons_succ]
          refine wpAnyH_ready (rs := [26]) (by kernel_rfl) (by simp) ?_
          refine AllReadyH.cons rfl (fun K hK => ?_) (AllReadyH.nil)
          · go_simp
            go_at_call 48
            refine (hcw _).mono ?_
            rintro e w8 ⟨rfl, hb8⟩
            have Q8 : Hid (MQ Bl hb hm g nb (.slice (some ⟨ga, 0, none⟩) O.length cv) half base w Xk nx (t0 + 1) w8) := (Q7.out.drewN 1).on hb8
            have I8 : Hid (IRow w8 (w.heap.size + 1) (.slice a5 (k + 1) cv5) (mvL W b1 O (k + 1))) := (show IRow w7.drew (w.heap.size + 1) (.slice a5 (k + 1) cv5) (mvL W b1 O (k + 1)) from I7.out).keep hb8
            have m5 : w8.cell? ⟨hb, 5, none⟩ = some (.int .i64 nx) := Q8.out.hp.c5
            have hS8 : (fun X : World => X.cell? ⟨hb, 3, none⟩ = some (.slice (some ⟨g, 0, none⟩) xl xl) ∧ X.cell? ⟨g, z, none⟩ = some (.int .i64 x)) w8 := ⟨by rw [HXLL.out.1]; exact Q8.out.hp.c3, HCX.out Q8.out.hp.wds⟩
            clear hb8
            refine hK.out _ _ hS8 (fun _ => ?_)
            clear hK K
            try simp only [Act.put, List.setIfInBounds_toArray, List.set_cons_zero, List.set_cons_succ]
            refine wpAnyH_ready (rs := [27]) (by kernel_rfl) (by simp) ?_
            refine AllReadyH.cons rfl (fun K hK => ?_) (AllReadyH.nil)
            · go_simp
              go_at_call 49
              refine (hcs _).mono ?_
              rintro e w9 ⟨rfl, hb9⟩
              have Q9 : Hid (MQ Bl hb hm g nb (.slice (some ⟨ga, 0, none⟩) O.length cv) half base w Xk nx (t0 + 1) w9) := Q8.out.on hb9
              have I9 : Hid (IRow w9 (w.heap.size + 1) (.slice a5 (k + 1) cv5) (mvL W b1 O (k + 1))) := I8.out.keep hb9
              have HSRC : Hid (∀ j v, ((rawB W z).map (Value.int .i64))[j]? = some v → w9.cell? ((⟨g, z, none⟩ : Addr).add j) = some v) := fun j v hj => HSRC9.out Q9.out.hp.wds j v hj
              have n5c : w9.cell? ⟨hb, 5, none⟩ = some (.int .i64 nx) := Q9.out.hp.c5
              have hS9 : (fun X : World => X.cell? ⟨hb, 3, none⟩ = some (.slice (some ⟨g, 0, none⟩) xl xl) ∧ X.cell? ⟨g, z, none⟩ = some (.int .i64 x)) w9 := ⟨by rw [HXLL.out.1]; exact Q9.out.hp.c3, HCX.out Q9.out.hp.wds⟩
              clear hb9
              refine hK.out _ _ hS9 (fun _ => ?_)
              clear hK K
              try simp only [Act.put, List.setIfInBounds_toArray, List.set_cons_zero, List.set_cons_succ]
              refine wpAnyH_take (i := 28) (v := .int .i64 ((z : Int) + (1 + (mn : Int)))) rfl (by kernel_rfl) (by kernel_rfl) (by kernel_rfl) (fun _ _ _ h => h) (Or.inl ⟨by kernel_rfl, ?_⟩) hS9 ?_
              · intro W hSw
                obtain ⟨s0, s1⟩ := hSw
                go_simp
              try simp only [Act.put, List.setIfInBounds_toArray, List.set_cons_zero, List.set_cons_succ]
              refine wpAnyH_take (i := 29) (v := .slice (some ⟨g, z, none⟩) (1 + mn) (xl - z)) rfl (by kernel_rfl) (by kernel_rfl) (by kernel_rfl) (fun _ _ _ h => h) (Or.inl ⟨by kernel_rfl, ?_⟩) hS9 ?_
              · intro W hSw
                obtain ⟨s0, s1⟩ := hSw
                go_simp
                omega
              try simp only [Act.put, List.setIfInBounds_toArray, List.set_cons_zero, List.set_cons_succ]
              refine wpAnyH_ready (rs := [30]) (by kernel_rfl) (by simp) ?_
              refine AllReadyH.cons rfl (fun K hK => ?_) (AllReadyH.nil)
              · refine step_copy_exact rfl (.tmp 72) (.tmp 89) 24 24 rfl 3 Tryz.underlying24 sizeP_int ⟨g, z, none⟩ (xl - nx) (xl - nx) (1 + mn) (xl - z) g nx rfl rfl (Xk.map (Value.int .i64)) 3 Q9.out.hp.wds.1 ((rawB W z).map (Value.int .i64)) HCL.out HSRC.out HCF.out (fun v hv => by obtain ⟨y, _, rfl⟩ := List.mem_map.1 hv; rfl) ?_
                intro w10 HA10 HO10 HE10
                have hwl10 := Q9.out.lt
                have O10 : OW g (putW Xk nx (rawB W z)) w10 := OW.splice Q9.out.hp.wds HRW.out.1 HRW.out.2 HA10.out
                have Q10 : Hid (MQ Bl hb hm g nb (.slice (some ⟨ga, 0, none⟩) O.length cv) half base w (putW Xk nx (rawB W z)) nx (t0 + 1) w10) := Q9.out.words O10 (putW_length _ _ _) (fun q _ hq => HO10.out q hq) HE10.out
                have I10 : Hid (IRow w10 (w.heap.size + 1) (.slice a5 (k + 1) cv5) (mvL W b1 O (k + 1))) := ⟨own_same I9.out.1 fun q hq => HO10.out q (by have := (I9.out.lt q hq).1; have := LIM.out; omega), I9.out.2⟩
                have y5 : w10.cell? ⟨hb, 5, none⟩ = some (.int .i64 nx) := Q10.out.hp.c5
                have yf : w10.frozen? ⟨hb, 5, none⟩ = false := Q10.out.hp.frz 5
                have hS10 : (fun X : World => X.cell? ⟨hb, 3, none⟩ = some (.slice (some ⟨g, 0, none⟩) xl xl) ∧ X.cell? ⟨g, z, none⟩ = some (.int .i64 x)) w10 := ⟨by have := Q10.out.hp.c3; rw [putW_length, ← HXLL.out.1] at this; exact this, HCX2.out O10⟩
                rw [HCN.out]
                clear O10 HA10 HO10 HE10 hwl10
                refine hK.out _ _ hS10 (fun _ => ?_)
                clear hK K
                try simp only [Act.put, List.setIfInBounds_toArray, List.set_cons_zero, List.set_cons_succ]
                refine wpAnyH_take (i := 31) (v := .int .i64 ((nx : Int) + ((1 + mn : Nat) : Int))) rfl (by kernel_rfl) (by kernel_rfl) (by kernel_rfl) (fun _ _ _ h => h) (Or.inl ⟨by kernel_rfl, ?_⟩) hS10 ?_
                · intro W hSw
                  obtain ⟨s0, s1⟩ := hSw
                  go_simp
                  rw [IntKind.wrap_i64]; have := HXLL.out; omega
                try simp only [Act.put, List.setIfInBounds_toArray, List.set_cons_zero, List.set_cons_succ]
                refine wpAnyH_take (i := 32) (v := .pointer (some ⟨hb, 0, none⟩)) rfl (by kernel_rfl) (by kernel_rfl) (by kernel_rfl) (fun _ _ _ h => h) (Or.inl ⟨by kernel_rfl, ?_⟩) hS10 ?_
                · intro W hSw
                  obtain ⟨s0, s1⟩ := hSw
                  go_simp
                try simp only [Act.put, List.setIfInBounds_toArray, List.set_cons_zero, List.set_cons_succ]
                refine wpAnyH_take (i := 33) (v := .pointer (some ⟨hb, 5, none⟩)) rfl (by kernel_rfl) (by kernel_rfl) (by kernel_rfl) (fun _ _ _ h => h) (Or.inl ⟨by kernel_rfl, ?_⟩) hS10 ?_
                · intro W hSw
                  obtain ⟨s0, s1⟩ := hSw
                  go_simp
                try simp only [Act.put, List.setIfInBounds_toArray, List.set_cons_zero, List.set_cons_succ]
                refine wpAnyH_ready (rs := [34]) (by kernel_rfl) (by simp) ?_
                refine AllReadyH.cons rfl (fun K hK => ?_) (AllReadyH.nil)
                · go_simp
                  have Q11 : Hid (MQ Bl hb hm g nb (.slice (some ⟨ga, 0, none⟩) O.length cv) half base w (putW Xk nx (rawB W z)) (nx + (1 + mn)) (t0 + 1) (w10.setCell ⟨hb, 5, none⟩ (.int .i64 ((nx : Int) + (1 + (mn : Int)))))) := by
                    have := Q10.out.nxt (nx + (1 + mn))
                    rwa [show ((nx + (1 + mn) : Nat) : Int) = (nx : Int) + (1 + (mn : Int)) by omega] at this
                  have I11 : Hid (IRow (w10.setCell ⟨hb, 5, none⟩ (.int .i64 ((nx : Int) + (1 + (mn : Int))))) (w.heap.size + 1) (.slice a5 (k + 1) cv5) (mvL W b1 O (k + 1))) := ⟨own_same I10.out.1 fun q hq => Below.heap_setCell _ _ _ _ (by have := (I10.out.lt q hq).1; have := LIM.out; show q ≠ hb; omega), I10.out.2⟩
                  have hS11 : (fun X : World => X.cell? ⟨hb, 3, none⟩ = some (.slice (some ⟨g, 0, none⟩) xl xl) ∧ X.cell? ⟨g, z, none⟩ = some (.int .i64 x)) (w10.setCell ⟨hb, 5, none⟩ (.int .i64 ((nx : Int) + (1 + (mn : Int))))) := ⟨by have := Q11.out.hp.c3; rw [putW_length, ← HXLL.out.1] at this; exact this, cell_setQ _ hS10.2 (fun e => Q10.out.hp.ne.2.1 e)⟩
                  refine hK.out _ _ hS11 (fun _ => ?_)
                  clear hK K
                  refine wpAnyH_done (by kernel_rfl) ?_ _
                  try simp only [Act.put, List.getElem_toArray, List.getElem?_toArray, List.getElem_cons_succ, List.getElem_cons_zero, List.getElem?_cons_succ, List.getElem?_cons_zero, List.setIfInBounds_toArray, List.set_cons_succ, List.set_cons_zero]
                  refine NoPanic.normal ?_
                  clear hS7 hS8 hS9 hS10 hS11 y5 yf n5c m5 HSRC
                  generalize w10.setCell ⟨hb, 5, none⟩ (.int .i64 ((nx : Int) + (1 + (mn : Int)))) = w11 at *
                  go_wp2
                  exact ⟨⟨k + 1, by have := HKL1.out; omega, by first | rfl | go_num, by show MQ _ _ _ _ _ _ _ _ _ _ _ _ _; rw [HXN.out, HFN.out.1]; exact Q11.out, I11⟩, by have := HKL1.out; simp only [intOf]; omega⟩

        · go_simp
          go_at_call 48
          refine (hcw _).mono ?_
          rintro e w8 ⟨rfl, hb8⟩
          have Q8 : Hid (MQ Bl hb hm g nb (.slice (some ⟨ga, 0, none⟩) O.length cv) half base w Xk nx (t0 + 1) w8) := (Q7.out.drewN 1).on hb8
          have I8 : Hid (IRow w8 (w.heap.size + 1) (.slice a5 (k + 1) cv5) (mvL W b1 O (k + 1))) := (show IRow w7.drew (w.heap.size + 1) (.slice a5 (k + 1) cv5) (mvL W b1 O (k + 1)) from I7.out).keep hb8
          have m5 : w8.cell? ⟨hb, 5, none⟩ = some (.int .i64 nx) := Q8.out.hp.c5
          have hS8 : (fun X : World => X.cell? ⟨hb, 3, none⟩ = some (.slice (some ⟨g, 0, none⟩) xl xl) ∧ X.cell? ⟨g, z, none⟩ = some (.int .i64 x)) w8 := ⟨by rw [HXLL.out.1]; exact Q8.out.hp.c3, HCX.out Q8.out.hp.wds⟩
          clear hb8
          refine hK.out _ _ hS8 (fun _ => ?_)
          clear hK K
          try simp only [Act.put, List.setIfInBounds_toArray, List.set_cons_zero, List.set_cons_succ]
          refine wpAnyH_ready (rs := [11, 27]) (by kernel_rfl) (by simp) ?_
          refine AllReadyH.cons rfl (fun K hK => ?_) (AllReadyH.cons rfl (fun K hK => ?_) (AllReadyH.nil))
          · go_simp
            refine hK.out _ _ hS8 (fun _ => ?_)
            clear hK K
            try simp only [Act.put, List.setIfInBounds_toArray, List.set_cons_zero, List.set_cons_succ]
            refine wpAnyH_take (i := 12) (v := .slice (some ⟨g, nx, none⟩) (xl - nx) (xl - nx)) rfl (by kernel_rfl) (by kernel_rfl) (by kernel_rfl) (fun _ _ _ h => h) (Or.inl ⟨by kernel_rfl, ?_⟩) hS8 ?_
            · intro W hSw
              obtain ⟨s0, s1⟩ := hSw
              go_simp
              omega
            try simp only [Act.put, List.setIfInBounds_toArray, List.set_cons_zero, List.set_cons_succ]
            refine wpAnyH_ready (rs := [27]) (by kernel_rfl) (by simp) ?_
            refine AllReadyH.cons rfl (fun K hK => ?_) (AllReadyH.nil)
            · go_simp
              go_at_call 49
              refine (hcs _).mono ?_
              rintro e w9 ⟨rfl, hb9⟩
              have Q9 : Hid (MQ Bl hb hm g nb (.slice (some ⟨ga, 0, none⟩) O.length cv) half base w Xk nx (t0 + 1) w9) := Q8.out.on hb9
              have I9 : Hid (IRow w9 (w.heap.size + 1) (.slice a5 (k + 1) cv5) (mvL W b1 O (k + 1))) := I8.out.keep hb9
              have HSRC : Hid (∀ j v, ((rawB W z).map (Value.int .i64))[j]? = some v → w9.cell? ((⟨g, z, none⟩ : Addr).add j) = some v) := fun j v hj => HSRC9.out Q9.out.hp.wds j v hj
              have n5c : w9.cell? ⟨hb, 5, none⟩ = some (.int .i64 nx) := Q9.out.hp.c5
              have hS9 : (fun X : World => X.cell? ⟨hb, 3, none⟩ = some (.slice (some ⟨g, 0, none⟩) xl xl) ∧ X.cell? ⟨g, z, none⟩ = some (.int .i64 x)) w9 := ⟨by rw [HXLL.out.1]; exact Q9.out.hp.c3, HCX.out Q9.out.hp.wds⟩
              clear hb9
              refine hK.out _ _ hS9 (fun _ => ?_)
              clear hK K
              try simp only [Act.put, List.setIfInBounds_toArray, List.set_cons_zero, List.set_cons_succ]
              refine wpAnyH_take (i := 28) (v := .int .i64 ((z : Int) + (1 + (mn : Int)))) rfl (by kernel_rfl) (by kernel_rfl) (by kernel_rfl) (fun _ _ _ h => h) (Or.inl ⟨by kernel_rfl, ?_⟩) hS9 ?_
              · intro W hSw
                obtain ⟨s0, s1⟩ := hSw
                go_simp
              try simp only [Act.put, List.setIfInBounds_toArray, List.set_cons_zero, List.set_cons_succ]
              refine wpAnyH_take (i := 29) (v := .slice (some ⟨g, z, none⟩) (1 + mn) (xl - z)) rfl (by kernel_rfl) (by kernel_rfl) (by kernel_rfl) (fun _ _ _ h => h) (Or.inl ⟨by kernel_rfl, ?_⟩) hS9 ?_
              · intro W hSw
                obtain ⟨s0, s1⟩ := hSw
                go_simp
                omega
              try simp only [Act.put, List.setIfInBounds_toArray, List.set_cons_zero, List.set_cons_succ]
              refine wpAnyH_ready (rs := [30]) (by kernel_rfl) (by simp) ?_
              refine AllReadyH.cons rfl (fun K hK => ?_) (AllReadyH.nil)
              · refine step_copy_exact rfl (.tmp 72) (.tmp 89) 24 24 rfl 3 Tryz.underlying24 sizeP_int ⟨g, z, none⟩ (xl - nx) (xl - nx) (1 + mn) (xl - z) g nx rfl rfl (Xk.map (Value.int .i64)) 3 Q9.out.hp.wds.1 ((rawB W z).map (Value.int .i64)) HCL.out HSRC.out HCF.out (fun v hv => by obtain ⟨y, _, rfl⟩ := List.mem_map.1 hv; rfl) ?_
                intro w10 HA10 HO10 HE10
                have hwl10 := Q9.out.lt
                have O10 : OW g (putW Xk nx (rawB W z)) w10 := OW.splice Q9.out.hp.wds HRW.out.1 HRW.out.2 HA10.out
                have Q10 : Hid (MQ Bl hb hm g nb (.slice (some ⟨ga, 0, none⟩) O.length cv) half base w (putW Xk nx (rawB W z)) nx (t0 + 1) w10) := Q9.out.words O10 (putW_length _ _ _) (fun q _ hq => HO10.out q hq) HE10.out
                have I10 : Hid (IRow w10 (w.heap.size + 1) (.slice a5 (k + 1) cv5) (mvL W b1 O (k + 1))) := ⟨own_same I9.out.1 fun q hq => HO10.out q (by have := (I9.out.lt q hq).1; have := LIM.out; omega), I9.out.2⟩
                have y5 : w10.cell? ⟨hb, 5, none⟩ = some (.int .i64 nx) := Q10.out.hp.c5
                have yf : w10.frozen? ⟨hb, 5, none⟩ = false := Q10.out.hp.frz 5
                have hS10 : (fun X : World => X.cell? ⟨hb, 3, none⟩ = some (.slice (some ⟨g, 0, none⟩) xl xl) ∧ X.cell? ⟨g, z, none⟩ = some (.int .i64 x)) w10 := ⟨by have := Q10.out.hp.c3; rw [putW_length, ← HXLL.out.1] at this; exact this, HCX2.out O10⟩
                rw [HCN.out]
                clear O10 HA10 HO10 HE10 hwl10
                refine hK.out _ _ hS10 (fun _ => ?_)
                clear hK K
                try simp only [Act.put, List.setIfInBounds_toArray, List.set_cons_zero, List.set_cons_succ]
                refine wpAnyH_take (i := 31) (v := .int .i64 ((nx : Int) + ((1 + mn : Nat) : Int))) rfl (by kernel_rfl) (by kernel_rfl) (by kernel_rfl) (fun _ _ _ h => h) (Or.inl ⟨by kernel_rfl, ?_⟩) hS10 ?_
                · intro W hSw
                  obtain ⟨s0, s1⟩ := hSw
                  go_simp
                  rw [IntKind.wrap_i64]; have := HXLL.out; omega
                try simp only [Act.put, List.setIfInBounds_toArray, List.set_cons_zero, List.set_cons_succ]
                refine wpAnyH_take (i := 32) (v := .pointer (some ⟨hb, 0, none⟩)) rfl (by kernel_rfl) (by kernel_rfl) (by kernel_rfl) (fun _ _ _ h => h) (Or.inl ⟨by kernel_rfl, ?_⟩) hS10 ?_
                · intro W hSw
                  obtain ⟨s0, s1⟩ := hSw
                  go_simp
                try simp only [Act.put, List.setIfInBounds_toArray, List.set_cons_zero, List.set_cons_succ]
                refine wpAnyH_take (i := 33) (v := .pointer (some ⟨hb, 5, none⟩)) rfl (by kernel_rfl) (by kernel_rfl) (by kernel_rfl) (fun _ _ _ h => h) (Or.inl ⟨by kernel_rfl, ?_⟩) hS10 ?_
                · intro W hSw
                  obtain ⟨s0, s1⟩ := hSw
                  go_simp
                try simp only [Act.put, List.setIfInBounds_toArray, List.set_cons_zero, List.set_cons_succ]
                refine wpAnyH_ready (rs := [34]) (by kernel_rfl) (by simp) ?_
                refine AllReadyH.cons rfl (fun K hK => ?_) (AllReadyH.nil)
                · go_simp
                  have Q11 : Hid (MQ Bl hb hm g nb (.slice (some ⟨ga, 0, none⟩) O.length cv) half base w (putW Xk nx (rawB W z)) (nx + (1 + mn)) (t0 + 1) (w10.setCell ⟨hb, 5, none⟩ (.int .i64 ((nx : Int) + (1 + (mn : Int)))))) := by
                    have := Q10.out.nxt (nx + (1 + mn))
                    rwa [show ((nx + (1 + mn) : Nat) : Int) = (nx : Int) + (1 + (mn : Int)) by omega] at this
                  have I11 : Hid (IRow (w10.setCell ⟨hb, 5, none⟩ (.int .i64 ((nx : Int) + (1 + (mn : Int))))) (w.heap.size + 1) (.slice a5 (k + 1) cv5) (mvL W b1 O (k + 1))) := ⟨own_same I10.out.1 fun q hq => Below.heap_setCell _ _ _ _ (by have := (I10.out.lt q hq).1; have := LIM.out; show q ≠ hb; omega), I10.out.2⟩
                  have hS11 : (fun X : World => X.cell? ⟨hb, 3, none⟩ = some (.slice (some ⟨g, 0, none⟩) xl xl) ∧ X.cell? ⟨g, z, none⟩ = some (.int .i64 x)) (w10.setCell ⟨hb, 5, none⟩ (.int .i64 ((nx : Int) + (1 + (mn : Int))))) := ⟨by have := Q11.out.hp.c3; rw [putW_length, ← HXLL.out.1] at this; exact this, cell_setQ _ hS10.2 (fun e => Q10.out.hp.ne.2.1 e)⟩
                  refine hK.out _ _ hS11 (fun _ => ?_)
                  clear hK K
                  refine wpAnyH_done (by kernel_rfl) ?_ _
                  try simp only [Act.put, List.getElem_toArray, List.getElem?_toArray, List.getElem_cons_succ, List.getElem_cons_zero, List.getElem?_cons_succ, List.getElem?_cons_zero, List.setIfInBounds_toArray, List.set_cons_succ, List.set_cons_zero]
                  refine NoPanic.normal ?_
                  clear hS7 hS8 hS9 hS10 hS11 y5 yf n5c m5 HSRC
                  generalize w10.setCell ⟨hb, 5, none⟩ (.int .i64 ((nx : Int) + (1 + (mn : Int)))) = w11 at *
                  go_wp2
                  exact ⟨⟨k + 1, by have := HKL1.out; omega, by first | rfl | go_num, by show MQ _ _ _ _ _ _ _ _ _ _ _ _ _; rw [HXN.out, HFN.out.1]; exact Q11.out, I11⟩, by have := HKL1.out; simp only [intOf]; omega⟩

          · go_simp
            go_at_call 49
            refine (hcs _).mono ?_
            rintro e w9 ⟨rfl, hb9⟩
            have Q9 : Hid (MQ Bl hb hm g nb (.slice (some ⟨ga, 0, none⟩) O.length cv) half base w Xk nx (t0 + 1) w9) := Q8.out.on hb9
            have I9 : Hid (IRow w9 (w.heap.size + 1) (.slice a5 (k + 1) cv5) (mvL W b1 O (k + 1))) := I8.out.keep hb9
            have HSRC : Hid (∀ j v, ((rawB W z).map (Value.int .i64))[j]? = some v → w9.cell? ((⟨g, z, none⟩ : Addr).add j) = some v) := fun j v hj => HSRC9.out Q9.out.hp.wds j v hj
            have n5c : w9.cell? ⟨hb, 5, none⟩ = some (.int .i64 nx) := Q9.out.hp.c5
            have hS9 : (fun X : World => X.cell? ⟨hb, 3, none⟩ = some (.slice (some ⟨g, 0, none⟩) xl xl) ∧ X.cell? ⟨g, z, none⟩ = some (.int .i64 x)) w9 := ⟨by rw [HXLL.out.1]; exact Q9.out.hp.c3, HCX.out Q9.out.hp.wds⟩
            clear hb9
            refine hK.out _ _ hS9 (fun _ => ?_)
            clear hK K
            try simp only [Act.put, List.setIfInBounds_toArray, List.set_cons_zero, List.set_cons_succ]
            refine wpAnyH_take (i := 28) (v := .int .i64 ((z : Int) + (1 + (mn : Int)))) rfl (by kernel_rfl) (by kernel_rfl) (by kernel_rfl) (fun _ _ _ h => h) (Or.inl ⟨by kernel_rfl, ?_⟩) hS9 ?_
            · intro W hSw
              obtain ⟨s0, s1⟩ := hSw
              go_simp
            try simp only [Act.put, List.setIfInBounds_toArray, List.set_cons_zero, List.set_cons_succ]
            refine wpAnyH_take (i := 29) (v := .slice (some ⟨g, z, none⟩) (1 + mn) (xl - z)) rfl (by kernel_rfl) (by kernel_rfl) (by kernel_rfl) (fun _ _ _ h => h) (Or.inl ⟨by kernel_rfl, ?_⟩) hS9 ?_
            · intro W hSw
              obtain ⟨s0, s1⟩ := hSw
              go_simp
              omega
            try simp only [Act.put, List.setIfInBounds_toArray, List.set_cons_zero, List.set_cons_succ]
            refine wpAnyH_ready (rs := [11]) (by kernel_rfl) (by simp) ?_
            refine AllReadyH.cons rfl (fun K hK => ?_) (AllReadyH.nil)
            · go_simp
              refine hK.out _ _ hS9 (fun _ => ?_)
              clear hK K
              try simp only [Act.put, List.setIfInBounds_toArray, List.set_cons_zero, List.set_cons_succ]
              refine wpAnyH_take (i := 12) (v := .slice (some ⟨g, nx, none⟩) (xl - nx) (xl - nx)) rfl (by kernel_rfl) (by kernel_rfl) (by kernel_rfl) (fun _ _ _ h => h) (Or.inl ⟨by kernel_rfl, ?_⟩) hS9 ?_
              · intro W hSw
                obtain ⟨s0, s1⟩ := hSw
                go_simp
                omega
              try simp only [Act.put, List.setIfInBounds_toArray, List.set_cons_zero, List.set_cons_succ]
              refine wpAnyH_ready (rs := [30]) (by kernel_rfl) (by simp) ?_
              refine AllReadyH.cons rfl (fun K hK => ?_) (AllReadyH.nil)
              · refine step_copy_exact rfl (.tmp 72) (.tmp 89) 24 24 rfl 3 Tryz.underlying24 sizeP_int ⟨g, z, none⟩ (xl - nx) (xl - nx) (1 + mn) (xl - z) g nx rfl rfl (Xk.map (Value.int .i64)) 3 Q9.out.hp.wds.1 ((rawB W z).map (Value.int .i64)) HCL.out HSRC.out HCF.out (fun v hv => by obtain ⟨y, _, rfl⟩ := List.mem_map.1 hv; rfl) ?_
                intro w10 HA10 HO10 HE10
                have hwl10 := Q9.out.lt
                have O10 : OW g (putW Xk nx (rawB W z)) w10 := OW.splice Q9.out.hp.wds HRW.out.1 HRW.out.2 HA10.out
                have Q10 : Hid (MQ Bl hb hm g nb (.slice (some ⟨ga, 0, none⟩) O.length cv) half base w (putW Xk nx (rawB W z)) nx (t0 + 1) w10) := Q9.out.words O10 (putW_length _ _ _) (fun q _ hq => HO10.out q hq) HE10.out
                have I10 : Hid (IRow w10 (w.heap.size + 1) (.slice a5 (k + 1) cv5) (mvL W b1 O (k + 1))) := ⟨own_same I9.out.1 fun q hq => HO10.out q (by have := (I9.out.lt q hq).1; have := LIM.out; omega), I9.out.2⟩
                have y5 : w10.cell? ⟨hb, 5, none⟩ = some (.int .i64 nx) := Q10.out.hp.c5
                have yf : w10.frozen? ⟨hb, 5, none⟩ = false := Q10.out.hp.frz 5
                have hS10 : (fun X : World => X.cell? ⟨hb, 3, none⟩ = some (.slice (some ⟨g, 0, none⟩) xl xl) ∧ X.cell? ⟨g, z, none⟩ = some (.int .i64 x)) w10 := ⟨by have := Q10.out.hp.c3; rw [putW_length, ← HXLL.out.1] at this; exact this, HCX2.out O10⟩
                rw [HCN.out]
                clear O10 HA10 HO10 HE10 hwl10
                refine hK.out _ _ hS10 (fun _ => ?_)
                clear hK K
                try simp only [Act.put, List.setIfInBounds_toArray, List.set_cons_zero, List.set_cons_succ]
                refine wpAnyH_take (i := 31) (v := .int .i64 ((nx : Int) + ((1 + mn : Nat) : Int))) rfl (by kernel_rfl) (by kernel_rfl) (by kernel_rfl) (fun _ _ _ h => h) (Or.inl ⟨by kernel_rfl, ?_⟩) hS10 ?_
                · intro W hSw
                  obtain ⟨s0, s1⟩ := hSw
                  go_simp
                  rw [IntKind.wrap_i64]; have := HXLL.out; omega
                try simp only [Act.put, List.setIfInBounds_toArray, List.set_cons_zero, List.set_cons_succ]
                refine wpAnyH_take (i := 32) (v := .pointer (some ⟨hb, 0, none⟩)) rfl (by kernel_rfl) (by kernel_rfl) (by kernel_rfl) (fun _ _ _ h => h) (Or.inl ⟨by kernel_rfl, ?_⟩) hS10 ?_
                · intro W hSw
                  obtain ⟨s0, s1⟩ := hSw
                  go_simp
                try simp only [Act.put, List.setIfInBounds_toArray, List.set_cons_zero, List.set_cons_succ]
                refine wpAnyH_take (i := 33) (v := .pointer (some ⟨hb, 5, none⟩)) rfl (by kernel_rfl) (by kernel_rfl) (by kernel_rfl) (fun _ _ _ h => h) (Or.inl ⟨by kernel_rfl, ?_⟩) hS10 ?_
                · intro W hSw
                  obtain ⟨s0, s1⟩ := hSw
                  go_simp
                try simp only [Act.put, List.setIfInBounds_toArray, List.set_cons_zero, List.set_cons_succ]
                refine wpAnyH_ready (rs := [34]) (by kernel_rfl) (by simp) ?_
                refine AllReadyH.cons rfl (fun K hK => ?_) (AllReadyH.nil)
                · go_simp
                  have Q11 : Hid (MQ Bl hb hm g nb (.slice (some ⟨ga, 0, none⟩) O.length cv) half base w (putW Xk nx (rawB W z)) (nx + (1 + mn)) (t0 + 1) (w10.setCell ⟨hb, 5, none⟩ (.int .i64 ((nx : Int) + (1 + (mn : Int)))))) := by
                    have := Q10.out.nxt (nx + (1 + mn))
                    rwa [show ((nx + (1 + mn) : Nat) : Int) = (nx : Int) + (1 + (mn : Int)) by omega] at this
                  have I11 : Hid (IRow (w10.setCell ⟨hb, 5, none⟩ (.int .i64 ((nx : Int) + (1 + (mn : Int))))) (w.heap.size + 1) (.slice a5 (k + 1) cv5) (mvL W b1 O (k + 1))) := ⟨own_same I10.out.1 fun q hq => Below.heap_setCell _ _ _ _ (by have := (I10.out.lt q hq).1; have := LIM.out; show q ≠ hb; omega), I10.out.2⟩
                  have hS11 : (fun X : World => X.cell? ⟨hb, 3, none⟩ = some (.slice (some ⟨g, 0, none⟩) xl xl) ∧ X.cell? ⟨g, z, none⟩ = some (.int .i64 x)) (w10.setCell ⟨hb, 5, none⟩ (.int .i64 ((nx : Int) + (1 + (mn : Int))))) := ⟨by have := Q11.out.hp.c3; rw [putW_length, ← HXLL.out.1] at this; exact this, cell_setQ _ hS10.2 (fun e => Q10.out.hp.ne.2.1 e)⟩
                  refine hK.out _ _ hS11 (fun _ => ?_)
                  clear hK K
                  refine wpAnyH_done (by kernel_rfl) ?_ _
                  try simp only [Act.put, List.getElem_toArray, List.getElem?_toArray, List.getElem_cons_succ, List.getElem_cons_zero, List.getElem?_cons_succ, List.getElem?_cons_zero, List.setIfInBounds_toArray, List.set_cons_succ, List.set_cons_zero]
                  refine NoPanic.normal ?_
                  clear hS7 hS8 hS9 hS10 hS11 y5 yf n5c m5 HSRC
                  generalize w10.setCell ⟨hb, 5, none⟩ (.int .i64 ((nx : Int) + (1 + (mn : Int)))) = w11 at *
                  go_wp2
                  exact ⟨⟨k + 1, by have := HKL1.out; omega, by first | rfl | go_num, by show MQ _ _ _ _ _ _ _ _ _ _ _ _ _; rw [HXN.out, HFN.out.1]; exact Q11.out, I11⟩, by have := HKL1.out; simp only [intOf]; omega⟩

      · go_simp
        refine hK.out _ _ hS7 (fun _ => ?_)
        clear hK K
        try simp only [Act.put, List.setIfInBounds_toArray, List.set_cons_zero, List.set_cons_succ]
        refine wpAnyH_take (i := 12) (v := .slice (some ⟨g, nx, none⟩) (xl - nx) (xl - nx)) rfl (by kernel_rfl) (by kernel_rfl) (by kernel_rfl) (fun _ _ _ h => h) (Or.inl ⟨by kernel_rfl, ?_⟩) hS7 ?_
        · intro W hSw
          obtain ⟨s0, s1⟩ := hSw
          go_simp
          omega
        try simp only [Act.put, List.setIfInBounds_toArray, List.set_cons_zero, List.set_cons_succ]
        refine wpAnyH_ready (rs := [3, 26]) (by kernel_rfl) (by simp) ?_
        refine AllReadyH.cons rfl (fun K hK => ?_) (AllReadyH.cons rfl (fun K hK => ?_) (AllReadyH.nil))
        · go_simp
          refine hK.out _ _ hS7 (fun _ => ?_)
          clear hK K
          try simp only [Act.put, List.setIfInBounds_toArray, List.set_cons_zero, List.set_cons_succ]
          refine wpAnyH_ready (rs := [26]) (by kernel_rfl) (by simp) ?_
          refine AllReadyH.cons rfl (fun K hK => ?_) (AllReadyH.nil)
          · go_simp
            go_at_call 48
            refine (hcw _).mono ?_
            rintro e w8 ⟨rfl, hb8⟩
            have Q8 : Hid (MQ Bl hb hm g nb (.slice (some ⟨ga, 0, none⟩) O.length cv) half base w Xk nx (t0 + 1) w8) := (Q7.out.drewN 1).on hb8
            have I8 : Hid (IRow w8 (w.heap.size + 1) (.slice a5 (k + 1) cv5) (mvL W b1 O (k + 1))) := (show IRow w7.drew (w.heap.size + 1) (.slice a5 (k + 1) cv5) (mvL W b1 O (k + 1)) from I7.out).keep hb8
            have m5 : w8.cell? ⟨hb, 5, none⟩ = some (.int .i64 nx) := Q8.out.hp.c5
            have hS8 : (fun X : World => X.cell? ⟨hb, 3, none⟩ = some (.slice (some ⟨g, 0, none⟩) xl xl) ∧ X.cell? ⟨g, z, none⟩ = some (.int .i64 x)) w8 := ⟨by rw [HXLL.out.1]; exact Q8.out.hp.c3, HCX.out Q8.out.hp.wds⟩
            clear hb8
            refine hK.out _ _ hS8 (fun _ => ?_)
            clear hK K
            try simp only [Act.put, List.setIfInBounds_toArray, List.set_cons_zero, List.set_cons_succ]
            refine wpAnyH_ready (rs := [27]) (by kernel_rfl) (by simp) ?_
            refine AllReadyH.cons rfl (fun K hK => ?_) (AllReadyH.nil)
            · go_simp
              go_at_call 49
              refine (hcs _).mono ?_
              rintro e w9 ⟨rfl, hb9⟩
              have Q9 : Hid (MQ Bl hb hm g nb (.slice (some ⟨ga, 0, none⟩) O.length cv) half base w Xk nx (t0 + 1) w9) := Q8.out.on hb9
              have I9 : Hid (IRow w9 (w.heap.size + 1) (.slice a5 (k + 1) cv5) (mvL W b1 O (k + 1))) := I8.out.keep hb9
              have HSRC : Hid (∀ j v, ((rawB W z).map (Value.int .i64))[j]? = some v → w9.cell? ((⟨g, z, none⟩ : Addr).add j) = some v) := fun j v hj => HSRC9.out Q9.out.hp.wds j v hj
              have n5c : w9.cell? ⟨hb, 5, none⟩ = some (.int .i64 nx) := Q9.out.hp.c5
              have hS9 : (fun X : World => X.cell? ⟨hb, 3, none⟩ = some (.slice (some ⟨g, 0, none⟩) xl xl) ∧ X.cell? ⟨g, z, none⟩ = some (.int .i64 x)) w9 := ⟨by rw [HXLL.out.1]; exact Q9.out.hp.c3, HCX.out Q9.out.hp.wds⟩
              clear hb9
              refine hK.out _ _ hS9 (fun _ => ?_)
              clear hK K
              try simp only [Act.put, List.setIfInBounds_toArray, List.set_cons_zero, List.set_cons_succ]
              refine wpAnyH_take (i := 28) (v := .int .i64 ((z : Int) + (1 + (mn : Int)))) rfl (by kernel_rfl) (by kernel_rfl) (by kernel_rfl) (fun _ _ _ h => h) (Or.inl ⟨by kernel_rfl, ?_⟩) hS9 ?_
              · intro W hSw
                obtain ⟨s0, s1⟩ := hSw
                go_simp
              try simp only [Act.put, List.setIfInBounds_toArray, List.set_cons_zero, List.set_cons_succ]
              refine wpAnyH_take (i := 29) (v := .slice (some ⟨g, z, none⟩) (1 + mn) (xl - z)) rfl (by kernel_rfl) (by kernel_rfl) (by kernel_rfl) (fun _ _ _ h => h) (Or.inl ⟨by kernel_rfl, ?_⟩) hS9 ?_
              · intro W hSw
                obtain ⟨s0, s1⟩ := hSw
                go_simp
                omega
              try simp only [Act.put, List.setIfInBounds_toArray, List.set_cons_zero, List.set_cons_succ]
              refine wpAnyH_ready (rs := [30]) (by kernel_rfl) (by simp) ?_
              refine AllReadyH.cons rfl (fun K hK => ?_) (AllReadyH.nil)
              · refine step_copy_exact rfl (.tmp 72) (.tmp 89) 24 24 rfl 3 Tryz.underlying24 sizeP_int ⟨g, z, none⟩ (xl - nx) (xl - nx) (1 + mn) (xl - z) g nx rfl rfl (Xk.map (Value.int .i64)) 3 Q9.out.hp.wds.1 ((rawB W z).map (Value.int .i64)) HCL.out HSRC.out HCF.out (fun v hv => by obtain ⟨y, _, rfl⟩ := List.mem_map.1 hv; rfl) ?_
                intro w10 HA10 HO10 HE10
                have hwl10 := Q9.out.lt
                have O10 : OW g (putW Xk nx (rawB W z)) w10 := OW.splice Q9.out.hp.wds HRW.out.1 HRW.out.2 HA10.out
                have Q10 : Hid (MQ Bl hb hm g nb (.slice (some ⟨ga, 0, none⟩) O.length cv) half base w (putW Xk nx (rawB W z)) nx (t0 + 1) w10) := Q9.out.words O10 (putW_length _ _ _) (fun q _ hq => HO10.out q hq) HE10.out
                have I10 : Hid (IRow w10 (w.heap.size + 1) (.slice a5 (k + 1) cv5) (mvL W b1 O (k + 1))) := ⟨own_same I9.out.1 fun q hq => HO10.out q (by have := (I9.out.lt q hq).1; have := LIM.out; omega), I9.out.2⟩
                have y5 : w10.cell? ⟨hb, 5, none⟩ = some (.int .i64 nx) := Q10.out.hp.c5
                have yf : w10.frozen? ⟨hb, 5, none⟩ = false := Q10.out.hp.frz 5
                have hS10 : (fun X : World => X.cell? ⟨hb, 3, none⟩ = some (.slice (some ⟨g, 0, none⟩) xl xl) ∧ X.cell? ⟨g, z, none⟩ = some (.int .i64 x)) w10 := ⟨by have := Q10.out.hp.c3; rw [putW_length, ← HXLL.out.1] at this; exact this, HCX2.out O10⟩
                rw [HCN.out]
                clear O10 HA10 HO10 HE10 hwl10
                refine hK.out _ _ hS10 (fun _ => ?_)
                clear hK K
                try simp only [Act.put, List.setIfInBounds_toArray, List.set_cons_zero, List.set_cons_succ]
                refine wpAnyH_take (i := 31) (v := .int .i64 ((nx : Int) + ((1 + mn : Nat) : Int))) rfl (by kernel_rfl) (by kernel_rfl) (by kernel_rfl) (fun _ _ _ h => h) (Or.inl ⟨by kernel_rfl, ?_⟩) hS10 ?_
                · intro W hSw
                  obtain ⟨s0, s1⟩ := hSw
                  go_simp
                  rw [IntKind.wrap_i64]; have := HXLL.out; omega
                try simp only [Act.put, List.setIfInBounds_toArray, List.set_cons_zero, List.set_cons_succ]
                refine wpAnyH_take (i := 32) (v := .pointer (some ⟨hb, 0, none⟩)) rfl (by kernel_rfl) (by kernel_rfl) (by kernel_rfl) (fun _ _ _ h => h) (Or.inl ⟨by kernel_rfl, ?_⟩) hS10 ?_
                · intro W hSw
                  obtain ⟨s0, s1⟩ := hSw
                  go_simp
                try simp only [Act.put, List.setIfInBounds_toArray, List.set_cons_zero, List.set_cons_succ]
                refine wpAnyH_take (i := 33) (v := .pointer (some ⟨hb, 5, none⟩)) rfl (by kernel_rfl) (by kernel_rfl) (by kernel_rfl) (fun _ _ _ h => h) (Or.inl ⟨by kernel_rfl, ?_⟩) hS10 ?_
                · intro W hSw
                  obtain ⟨s0, s1⟩ := hSw
                  go_simp
                try simp only [Act.put, List.setIfInBounds_toArray, List.set_cons_zero, List.set_cons_succ]
                refine wpAnyH_ready (rs := [34]) (by kernel_rfl) (by simp) ?_
                refine AllReadyH.cons rfl (fun K hK => ?_) (AllReadyH.nil)
                · go_simp
                  have Q11 : Hid (MQ Bl hb hm g nb (.slice (some ⟨ga, 0, none⟩) O.length cv) half base w (putW Xk nx (rawB W z)) (nx + (1 + mn)) (t0 + 1) (w10.setCell ⟨hb, 5, none⟩ (.int .i64 ((nx : Int) + (1 + (mn : Int)))))) := by
                    have := Q10.out.nxt (nx + (1 + mn))
                    rwa [show ((nx + (1 + mn) : Nat) : Int) = (nx : Int) + (1 + (mn : Int)) by omega] at this
                  have I11 : Hid (IRow (w10.setCell ⟨hb, 5, none⟩ (.int .i64 ((nx : Int) + (1 + (mn : Int))))) (w.heap.size + 1) (.slice a5 (k + 1) cv5) (mvL W b1 O (k + 1))) := ⟨own_same I10.out.1 fun q hq => Below.heap_setCell _ _ _ _ (by have := (I10.out.lt q hq).1; have := LIM.out; show q ≠ hb; omega), I10.out.2⟩
                  have hS11 : (fun X : World => X.cell? ⟨hb, 3, none⟩ = some (.slice (some ⟨g, 0, none⟩) xl xl) ∧ X.cell? ⟨g, z, none⟩ = some (.int .i64 x)) (w10.setCell ⟨hb, 5, none⟩ (.int .i64 ((nx : Int) + (1 + (mn : Int))))) := ⟨by have := Q11.out.hp.c3; rw [putW_length, ← HXLL.out.1] at this; exact this, cell_setQ _ hS10.2 (fun e => Q10.out.hp.ne.2.1 e)⟩
                  refine hK.out _ _ hS11 (fun _ => ?_)
                  clear hK K
                  refine wpAnyH_done (by kernel_rfl) ?_ _
                  try simp only [Act.put, List.getElem_toArray, List.getElem?_toArray, List.getElem_cons_succ, List.getElem_cons_zero, List.getElem?_cons_succ, List.getElem?_cons_zero, List.setIfInBounds_toArray, List.set_cons_succ, List.set_cons_zero]
                  refine NoPanic.normal ?_
                  clear hS7 hS8 hS9 hS10 hS11 y5 yf n5c m5 HSRC
                  generalize w10.setCell ⟨hb, 5, none⟩ (.int .i64 ((nx : Int) + (1 + (mn : Int)))) = w11 at *
                  go_wp2
                  exact ⟨⟨k + 1, by have := HKL1.out; omega, by first | rfl | go_num, by show MQ _ _ _ _ _ _ _ _ _ _ _ _ _; rw [HXN.out, HFN.out.1]; exact Q11.out, I11⟩, by have := HKL1.out; simp only [intOf]; omega⟩

        · go_simp
          go_at_call 48
          refine (hcw _).mono ?_
          rintro e w8 ⟨rfl, hb8⟩
          have Q8 : Hid (MQ Bl hb hm g nb (.slice (some ⟨ga, 0, none⟩) O.length cv) half base w Xk nx (t0 + 1) w8) := (Q7.out.drewN 1).on hb8
          have I8 : Hid (IRow w8 (w.heap.size + 1) (.slice a5 (k + 1) cv5) (mvL W b1 O (k + 1))) := (show IRow w7.drew (w.heap.size + 1) (.slice a5 (k + 1) cv5) (mvL W b1 O (k + 1)) from I7.out).keep hb8
          have m5 : w8.cell? ⟨hb, 5, none⟩ = some (.int .i64 nx) := Q8.out.hp.c5
          have hS8 : (fun X : World => X.cell? ⟨hb, 3, none⟩ = some (.slice (some ⟨g, 0, none⟩) xl xl) ∧ X.cell? ⟨g, z, none⟩ = some (.int .i64 x)) w8 := ⟨by rw [HXLL.out.1]; exact Q8.out.hp.c3, HCX.out Q8.out.hp.wds⟩
          clear hb8
          refine hK.out _ _ hS8 (fun _ => ?_)
          clear hK K
          try simp only [Act.put, List.setIfInBounds_toArray, List.set_cons_zero, List.set_cons_succ]
          refine wpAnyH_ready (rs := [3, 27]) (by kernel_rfl) (by simp) ?_
          refine AllReadyH.cons rfl (fun K hK => ?_) (AllReadyH.cons rfl (fun K hK => ?_) (AllReadyH.nil))
          · go_simp
            refine hK.out _ _ hS8 (fun _ => ?_)
            clear hK K
            try simp only [Act.put, List.setIfInBounds_toArray, List.set_cons_zero, List.set_cons_succ]
            refine wpAnyH_ready (rs := [27]) (by kernel_rfl) (by simp) ?_
            refine AllReadyH.cons rfl (fun K hK => ?_) (AllReadyH.nil)
            · go_simp
              go_at_call 49
              refine (hcs _).mono ?_
              rintro e w9 ⟨rfl, hb9⟩
              have Q9 : Hid (MQ Bl hb hm g nb (.slice (some ⟨ga, 0, none⟩) O.length cv) half base w Xk nx (t0 + 1) w9) := Q8.out.on hb9
              have I9 : Hid (IRow w9 (w.heap.size + 1) (.slice a5 (k + 1) cv5) (mvL W b1 O (k + 1))) := I8.out.keep hb9
              have HSRC : Hid (∀ j v, ((rawB W z).map (Value.int .i64))[j]? = some v → w9.cell? ((⟨g, z, none⟩ : Addr).add j) = some v) := fun j v hj => HSRC9.out Q9.out.hp.wds j v hj
              have n5c : w9.cell? ⟨hb, 5, none⟩ = some (.int .i64 nx) := Q9.out.hp.c5
              have hS9 : (fun X : World => X.cell? ⟨hb, 3, none⟩ = some (.slice (some ⟨g, 0, none⟩) xl xl) ∧ X.cell? ⟨g, z, none⟩ = some (.int .i64 x)) w9 := ⟨by rw [HXLL.out.1]; exact Q9.out.hp.c3, HCX.out Q9.out.hp.wds⟩
              clear hb9
              refine hK.out _ _ hS9 (fun _ => ?_)
              clear hK K
              try simp only [Act.put, List.setIfInBounds_toArray, List.set_cons_zero, List.set_cons_succ]
              refine wpAnyH_take (i := 28) (v := .int .i64 ((z : Int) + (1 + (mn : Int)))) rfl (by kernel_rfl) (by kernel_rfl) (by kernel_rfl) (fun _ _ _ h => h) (Or.inl ⟨by kernel_rfl, ?_⟩) hS9 ?_
              · intro W hSw
                obtain ⟨s0, s1⟩ := hSw
                go_simp
              try simp only [Act.put, List.setIfInBounds_toArray, List.set_cons_zero, List.set_cons_succ]
              refine wpAnyH_take (i := 29) (v := .slice (some ⟨g, z, none⟩) (1 + mn) (xl - z)) rfl (by kernel_rfl) (by kernel_rfl) (by kernel_rfl) (fun _ _ _ h => h) (Or.inl ⟨by kernel_rfl, ?_⟩) hS9 ?_
              · intro W hSw
                obtain ⟨s0, s1⟩ := hSw
                go_simp
                omega
              try simp only [Act.put, List.setIfInBounds_toArray, List.set_cons_zero, List.set_cons_succ]
              refine wpAnyH_ready (rs := [30]) (by kernel_rfl) (by simp) ?_
              refine AllReadyH.cons rfl (fun K hK => ?_) (AllReadyH.nil)
              · refine step_copy_exact rfl (.tmp 72) (.tmp 89) 24 24 rfl 3 Tryz.underlying24 sizeP_int ⟨g, z, none⟩ (xl - nx) (xl - nx) (1 + mn) (xl - z) g nx rfl rfl (Xk.map (Value.int .i64)) 3 Q9.out.hp.wds.1 ((rawB W z).map (Value.int .i64)) HCL.out HSRC.out HCF.out (fun v hv => by obtain ⟨y, _, rfl⟩ := List.mem_map.1 hv; rfl) ?_
                intro w10 HA10 HO10 HE10
                have hwl10 := Q9.out.lt
                have O10 : OW g (putW Xk nx (rawB W z)) w10 := OW.splice Q9.out.hp.wds HRW.out.1 HRW.out.2 HA10.out
                have Q10 : Hid (MQ Bl hb hm g nb (.slice (some ⟨ga, 0, none⟩) O.length cv) half base w (putW Xk nx (rawB W z)) nx (t0 + 1) w10) := Q9.out.words O10 (putW_length _ _ _) (fun q _ hq => HO10.out q hq) HE10.out
                have I10 : Hid (IRow w10 (w.heap.size + 1) (.slice a5 (k + 1) cv5) (mvL W b1 O (k + 1))) := ⟨own_same I9.out.1 fun q hq => HO10.out q (by have := (I9.out.lt q hq).1; have := LIM.out; omega), I9.out.2⟩
                have y5 : w10.cell? ⟨hb, 5, none⟩ = some (.int .i64 nx) := Q10.out.hp.c5
                have yf : w10.frozen? ⟨hb, 5, none⟩ = false := Q10.out.hp.frz 5
                have hS10 : (fun X : World => X.cell? ⟨hb, 3, none⟩ = some (.slice (some ⟨g, 0, none⟩) xl xl) ∧ X.cell? ⟨g, z, none⟩ = some (.int .i64 x)) w10 := ⟨by have := Q10.out.hp.c3; rw [putW_length, ← HXLL.out.1] at this; exact this, HCX2.out O10⟩
                rw [HCN.out]
                clear O10 HA10 HO10 HE10 hwl10
                refine hK.out _ _ hS10 (fun _ => ?_)
                clear hK K
                try simp only [Act.put, List.setIfInBounds_toArray, List.set_cons_zero, List.set_cons_succ]
                refine wpAnyH_take (i := 31) (v := .int .i64 ((nx : Int) + ((1 + mn : Nat) : Int))) rfl (by kernel_rfl) (by kernel_rfl) (by kernel_rfl) (fun _ _ _ h => h) (Or.inl ⟨by kernel_rfl, ?_⟩) hS10 ?_
                · intro W hSw
                  obtain ⟨s0, s1⟩ := hSw
                  go_simp
                  rw [IntKind.wrap_i64]; have := HXLL.out; omega
                try simp only [Act.put, List.setIfInBounds_toArray, List.set_cons_zero, List.set_cons_succ]
                refine wpAnyH_take (i := 32) (v := .pointer (some ⟨hb, 0, none⟩)) rfl (by kernel_rfl) (by kernel_rfl) (by kernel_rfl) (fun _ _ _ h => h) (Or.inl ⟨by kernel_rfl, ?_⟩) hS10 ?_
                · intro W hSw
                  obtain ⟨s0, s1⟩ := hSw
                  go_simp
                try simp only [Act.put, List.setIfInBounds_toArray, List.set_cons_zero, List.set_cons_succ]
                refine wpAnyH_take (i := 33) (v := .pointer (some ⟨hb, 5, none⟩)) rfl (by kernel_rfl) (by kernel_rfl) (by kernel_rfl) (fun _ _ _ h => h) (Or.inl ⟨by kernel_rfl, ?_⟩) hS10 ?_
                · intro W hSw
                  obtain ⟨s0, s1⟩ := hSw
                  go_simp
                try simp only [Act.put, List.setIfInBounds_toArray, List.set_cons_zero, List.set_cons_succ]
                refine wpAnyH_ready (rs := [34]) (by kernel_rfl) (by simp) ?_
                refine AllReadyH.cons rfl (fun K hK => ?_) (AllReadyH.nil)
                · go_simp
                  have Q11 : Hid (MQ Bl hb hm g nb (.slice (some ⟨ga, 0, none⟩) O.length cv) half base w (putW Xk nx (rawB W z)) (nx + (1 + mn)) (t0 + 1) (w10.setCell ⟨hb, 5, none⟩ (.int .i64 ((nx : Int) + (1 + (mn : Int)))))) := by
                    have := Q10.out.nxt (nx + (1 + mn))
                    rwa [show ((nx + (1 + mn) : Nat) : Int) = (nx : Int) + (1 + (mn : Int)) by omega] at this
                  have I11 : Hid (IRow (w10.setCell ⟨hb, 5, none⟩ (.int .i64 ((nx : Int) + (1 + (mn : Int))))) (w.heap.size + 1) (.slice a5 (k + 1) cv5) (mvL W b1 O (k + 1))) := ⟨own_same I10.out.1 fun q hq => Below.heap_setCell _ _ _ _ (by have := (I10.out.lt q hq).1; have := LIM.out; show q ≠ hb; omega), I10.out.2⟩
                  have hS11 : (fun X : World => X.cell? ⟨hb, 3, none⟩ = some (.slice (some ⟨g, 0, none⟩) xl xl) ∧ X.cell? ⟨g, z, none⟩ = some (.int .i64 x)) (w10.setCell ⟨hb, 5, none⟩ (.int .i64 ((nx : Int) + (1 + (mn : Int))))) := ⟨by have := Q11.out.hp.c3; rw [putW_length, ← HXLL.out.1] at this; exact this, cell_setQ _ hS10.2 (fun e => Q10.out.hp.ne.2.1 e)⟩
                  refine hK.out _ _ hS11 (fun _ => ?_)
                  clear hK K
                  refine wpAnyH_done (by kernel_rfl) ?_ _
                  try simp only [Act.put, List.getElem_toArray, List.getElem?_toArray, List.getElem_cons_succ, List.getElem_cons_zero, List.getElem?_cons_succ, List.getElem?_cons_zero, List.setIfInBounds_toArray, List.set_cons_succ, List.set_cons_zero]
                  refine NoPanic.normal ?_
                  clear hS7 hS8 hS9 hS10 hS11 y5 yf n5c m5 HSRC
                  generalize w10.setCell ⟨hb, 5, none⟩ (.int .i64 ((nx : Int) + (1 + (mn : Int)))) = w11 at *
                  go_wp2
                  exact ⟨⟨k + 1, by have := HKL1.out; omega, by first | rfl | go_num, by show MQ _ _ _ _ _ _ _ _ _ _ _ _ _; rw [HXN.out, HFN.out.1]; exact Q11.out, I11⟩, by have := HKL1.out; simp only [intOf]; omega⟩

          · go_simp
            go_at_call 49
            refine (hcs _).mono ?_
            rintro e w9 ⟨rfl, hb9⟩
            have Q9 : Hid (MQ Bl hb hm g nb (.slice (some ⟨ga, 0, none⟩) O.length cv) half base w Xk nx (t0 + 1) w9) := Q8.out.on hb9
            have I9 : Hid (IRow w9 (w.heap.size + 1) (.slice a5 (k + 1) cv5) (mvL W b1 O (k + 1))) := I8.out.keep hb9
            have HSRC : Hid (∀ j v, ((rawB W z).map (Value.int .i64))[j]? = some v → w9.cell? ((⟨g, z, none⟩ : Addr).add j) = some v) := fun j v hj => HSRC9.out Q9.out.hp.wds j v hj
            have n5c : w9.cell? ⟨hb, 5, none⟩ = some (.int .i64 nx) := Q9.out.hp.c5
            have hS9 : (fun X : World => X.cell? ⟨hb, 3, none⟩ = some (.slice (some ⟨g, 0, none⟩) xl xl) ∧ X.cell? ⟨g, z, none⟩ = some (.int .i64 x)) w9 := ⟨by rw [HXLL.out.1]; exact Q9.out.hp.c3, HCX.out Q9.out.hp.wds⟩
            clear hb9
            refine hK.out _ _ hS9 (fun _ => ?_)
            clear hK K
            try simp only [Act.put, List.setIfInBounds_toArray, List.set_cons_zero, List.set_cons_succ]
            refine wpAnyH_take (i := 28) (v := .int .i64 ((z : Int) + (1 + (mn : Int)))) rfl (by kernel_rfl) (by kernel_rfl) (by kernel_rfl) (fun _ _ _ h => h) (Or.inl ⟨by kernel_rfl, ?_⟩) hS9 ?_
            · intro W hSw
              obtain ⟨s0, s1⟩ := hSw
              go_simp
            try simp only [Act.put, List.setIfInBounds_toArray, List.set_cons_zero, List.set_cons_succ]
            refine wpAnyH_take (i := 29) (v := .slice (some ⟨g, z, none⟩) (1 + mn) (xl - z)) rfl (by kernel_rfl) (by kernel_rfl) (by kernel_rfl) (fun _ _ _ h => h) (Or.inl ⟨by kernel_rfl, ?_⟩) hS9 ?_
            · intro W hSw
              obtain ⟨s0, s1⟩ := hSw
              go_simp
              omega
            try simp only [Act.put, List.setIfInBounds_toArray, List.set_cons_zero, List.set_cons_succ]
            refine wpAnyH_ready (rs := [3, 30]) (by kernel_rfl) (by simp) ?_
            refine AllReadyH.cons rfl (fun K hK => ?_) (AllReadyH.cons rfl (fun K hK => ?_) (AllReadyH.nil))
            · go_simp
              refine hK.out _ _ hS9 (fun _ => ?_)
              clear hK K
              try simp only [Act.put, List.setIfInBounds_toArray, List.set_cons_zero, List.set_cons_succ]
              refine wpAnyH_ready (rs := [30]) (by kernel_rfl) (by simp) ?_
              refine AllReadyH.cons rfl (fun K hK => ?_) (AllReadyH.nil)
              · refine step_copy_exact rfl (.tmp 72) (.tmp 89) 24 24 rfl 3 Tryz.underlying24 sizeP_int ⟨g, z, none⟩ (xl - nx) (xl - nx) (1 + mn) (xl - z) g nx rfl rfl (Xk.map (Value.int .i64)) 3 Q9.out.hp.wds.1 ((rawB W z).map (Value.int .i64)) HCL.out HSRC.out HCF.out (fun v hv => by obtain ⟨y, _, rfl⟩ := List.mem_map.1 hv; rfl) ?_
                intro w10 HA10 HO10 HE10
                have hwl10 := Q9.out.lt
                have O10 : OW g (putW Xk nx (rawB W z)) w10 := OW.splice Q9.out.hp.wds HRW.out.1 HRW.out.2 HA10.out
                have Q10 : Hid (MQ Bl hb hm g nb (.slice (some ⟨ga, 0, none⟩) O.length cv) half base w (putW Xk nx (rawB W z)) nx (t0 + 1) w10) := Q9.out.words O10 (putW_length _ _ _) (fun q _ hq => HO10.out q hq) HE10.out
                have I10 : Hid (IRow w10 (w.heap.size + 1) (.slice a5 (k + 1) cv5) (mvL W b1 O (k + 1))) := ⟨own_same I9.out.1 fun q hq => HO10.out q (by have := (I9.out.lt q hq).1; have := LIM.out; omega), I9.out.2⟩
                have y5 : w10.cell? ⟨hb, 5, none⟩ = some (.int .i64 nx) := Q10.out.hp.c5
                have yf : w10.frozen? ⟨hb, 5, none⟩ = false := Q10.out.hp.frz 5
                have hS10 : (fun X : World => X.cell? ⟨hb, 3, none⟩ = some (.slice (some ⟨g, 0, none⟩) xl xl) ∧ X.cell? ⟨g, z, none⟩ = some (.int .i64 x)) w10 := ⟨by have := Q10.out.hp.c3; rw [putW_length, ← HXLL.out.1] at this; exact this, HCX2.out O10⟩
                rw [HCN.out]
                clear O10 HA10 HO10 HE10 hwl10
                refine hK.out _ _ hS10 (fun _ => ?_)
                clear hK K
                try simp only [Act.put, List.setIfInBounds_toArray, List.set_cons_zero, List.set_cons_succ]
                refine wpAnyH_take (i := 31) (v := .int .i64 ((nx : Int) + ((1 + mn : Nat) : Int))) rfl (by kernel_rfl) (by kernel_rfl) (by kernel_rfl) (fun _ _ _ h => h) (Or.inl ⟨by kernel_rfl, ?_⟩) hS10 ?_
                · intro W hSw
                  obtain ⟨s0, s1⟩ := hSw
                  go_simp
                  rw [IntKind.wrap_i64]; have := HXLL.out; omega
                try simp only [Act.put, List.setIfInBounds_toArray, List.set_cons_zero, List.set_cons_succ]
                refine wpAnyH_take (i := 32) (v := .pointer (some ⟨hb, 0, none⟩)) rfl (by kernel_rfl) (by kernel_rfl) (by kernel_rfl) (fun _ _ _ h => h) (Or.inl ⟨by kernel_rfl, ?_⟩) hS10 ?_
                · intro W hSw
                  obtain ⟨s0, s1⟩ := hSw
                  go_simp
                try simp only [Act.put, List.setIfInBounds_toArray, List.set_cons_zero, List.set_cons_succ]
                refine wpAnyH_take (i := 33) (v := .pointer (some ⟨hb, 5, none⟩)) rfl (by kernel_rfl) (by kernel_rfl) (by kernel_rfl) (fun _ _ _ h => h) (Or.inl ⟨by kernel_rfl, ?_⟩) hS10 ?_
                · intro W hSw
                  obtain ⟨s0, s1⟩ := hSw
                  go_simp
                try simp only [Act.put, List.setIfInBounds_toArray, List.set_cons_zero, List.set_cons_succ]
                refine wpAnyH_ready (rs := [34]) (by kernel_rfl) (by simp) ?_
                refine AllReadyH.cons rfl (fun K hK => ?_) (AllReadyH.nil)
                · go_simp
                  have Q11 : Hid (MQ Bl hb hm g nb (.slice (some ⟨ga, 0, none⟩) O.length cv) half base w (putW Xk nx (rawB W z)) (nx + (1 + mn)) (t0 + 1) (w10.setCell ⟨hb, 5, none⟩ (.int .i64 ((nx : Int) + (1 + (mn : Int)))))) := by
                    have := Q10.out.nxt (nx + (1 + mn))
                    rwa [show ((nx + (1 + mn) : Nat) : Int) = (nx : Int) + (1 + (mn : Int)) by omega] at this
                  have I11 : Hid (IRow (w10.setCell ⟨hb, 5, none⟩ (.int .i64 ((nx : Int) + (1 + (mn : Int))))) (w.heap.size + 1) (.slice a5 (k + 1) cv5) (mvL W b1 O (k + 1))) := ⟨own_same I10.out.1 fun q hq => Below.heap_setCell _ _ _ _ (by have := (I10.out.lt q hq).1; have := LIM.out; show q ≠ hb; omega), I10.out.2⟩
                  have hS11 : (fun X : World => X.cell? ⟨hb, 3, none⟩ = some (.slice (some ⟨g, 0, none⟩) xl xl) ∧ X.cell? ⟨g, z, none⟩ = some (.int .i64 x)) (w10.setCell ⟨hb, 5, none⟩ (.int .i64 ((nx : Int) + (1 + (mn : Int))))) := ⟨by have := Q11.out.hp.c3; rw [putW_length, ← HXLL.out.1] at this; exact this, cell_setQ _ hS10.2 (fun e => Q10.out.hp.ne.2.1 e)⟩
                  refine hK.out _ _ hS11 (fun _ => ?_)
                  clear hK K
                  refine wpAnyH_done (by kernel_rfl) ?_ _
                  try simp only [Act.put, List.getElem_toArray, List.getElem?_toArray, List.getElem_cons_succ, List.getElem_cons_zero, List.getElem?_cons_succ, List.getElem?_cons_zero, List.setIfInBounds_toArray, List.set_cons_succ, List.set_cons_zero]
                  refine NoPanic.normal ?_
                  clear hS7 hS8 hS9 hS10 hS11 y5 yf n5c m5 HSRC
                  generalize w10.setCell ⟨hb, 5, none⟩ (.int .i64 ((nx : Int) + (1 + (mn : Int)))) = w11 at *
                  go_wp2
                  exact ⟨⟨k + 1, by have := HKL1.out; omega, by first | rfl | go_num, by show MQ _ _ _ _ _ _ _ _ _ _ _ _ _; rw [HXN.out, HFN.out.1]; exact Q11.out, I11⟩, by have := HKL1.out; simp only [intOf]; omega⟩

            · refine step_copy_exact rfl (.tmp 72) (.tmp 89) 24 24 rfl 3 Tryz.underlying24 sizeP_int ⟨g, z, none⟩ (xl - nx) (xl - nx) (1 + mn) (xl - z) g nx rfl rfl (Xk.map (Value.int .i64)) 3 Q9.out.hp.wds.1 ((rawB W z).map (Value.int .i64)) HCL.out HSRC.out HCF.out (fun v hv => by obtain ⟨y, _, rfl⟩ := List.mem_map.1 hv; rfl) ?_
              intro w10 HA10 HO10 HE10
              have hwl10 := Q9.out.lt
              have O10 : OW g (putW Xk nx (rawB W z)) w10 := OW.splice Q9.out.hp.wds HRW.out.1 HRW.out.2 HA10.out
              have Q10 : Hid (MQ Bl hb hm g nb (.slice (some ⟨ga, 0, none⟩) O.length cv) half base w (putW Xk nx (rawB W z)) nx (t0 + 1) w10) := Q9.out.words O10 (putW_length _ _ _) (fun q _ hq => HO10.out q hq) HE10.out
              have I10 : Hid (IRow w10 (w.heap.size + 1) (.slice a5 (k + 1) cv5) (mvL W b1 O (k + 1))) := ⟨own_same I9.out.1 fun q hq => HO10.out q (by have := (I9.out.lt q hq).1; have := LIM.out; omega), I9.out.2⟩
              have y5 : w10.cell? ⟨hb, 5, none⟩ = some (.int .i64 nx) := Q10.out.hp.c5
              have yf : w10.frozen? ⟨hb, 5, none⟩ = false := Q10.out.hp.frz 5
              have hS10 : (fun X : World => X.cell? ⟨hb, 3, none⟩ = some (.slice (some ⟨g, 0, none⟩) xl xl) ∧ X.cell? ⟨g, z, none⟩ = some (.int .i64 x)) w10 := ⟨by have := Q10.out.hp.c3; rw [putW_length, ← HXLL.out.1] at this; exact this, HCX2.out O10⟩
              rw [HCN.out]
              clear O10 HA10 HO10 HE10 hwl10
              refine hK.out _ _ hS10 (fun _ => ?_)
              clear hK K
              try simp only [Act.put, List.setIfInBounds_toArray, List.set_cons_zero, List.set_cons_succ]
              refine wpAnyH_ready (rs := [3]) (by kernel_rfl) (by simp) ?_
              refine AllReadyH.cons rfl (fun K hK => ?_) (AllReadyH.nil)
              · go_simp
                refine hK.out _ _ hS10 (fun _ => ?_)
                clear hK K
                try simp only [Act.put, List.setIfInBounds_toArray, List.set_cons_zero, List.set_cons_succ]
                refine wpAnyH_take (i := 31) (v := .int .i64 ((nx : Int) + ((1 + mn : Nat) : Int))) rfl (by kernel_rfl) (by kernel_rfl) (by kernel_rfl) (fun _ _ _ h => h) (Or.inl ⟨by kernel_rfl, ?_⟩) hS10 ?_
                · intro W hSw
                  obtain ⟨s0, s1⟩ := hSw
                  go_simp
                  rw [IntKind.wrap_i64]; have := HXLL.out; omega
                try simp only [Act.put, List.setIfInBounds_toArray, List.set_cons_zero, List.set_cons_succ]
                refine wpAnyH_take (i := 32) (v := .pointer (some ⟨hb, 0, none⟩)) rfl (by kernel_rfl) (by kernel_rfl) (by kernel_rfl) (fun _ _ _ h => h) (Or.inl ⟨by kernel_rfl, ?_⟩) hS10 ?_
                · intro W hSw
                  obtain ⟨s0, s1⟩ := hSw
                  go_simp
                try simp only [Act.put, List.setIfInBounds_toArray, List.set_cons_zero, List.set_cons_succ]
                refine wpAnyH_take (i := 33) (v := .pointer (some ⟨hb, 5, none⟩)) rfl (by kernel_rfl) (by kernel_rfl) (by kernel_rfl) (fun _ _ _ h => h) (Or.inl ⟨by kernel_rfl, ?_⟩) hS10 ?_
                · intro W hSw
                  obtain ⟨s0, s1⟩ := hSw
                  go_simp
                try simp only [Act.put, List.setIfInBounds_toArray, List.set_cons_zero, List.set_cons_succ]
                refine wpAnyH_ready (rs := [34]) (by kernel_rfl) (by simp) ?_
                refine AllReadyH.cons rfl (fun K hK => ?_) (AllReadyH.nil)
                · go_simp
                  have Q11 : Hid (MQ Bl hb hm g nb (.slice (some ⟨ga, 0, none⟩) O.length cv) half base w (putW Xk nx (rawB W z)) (nx + (1 + mn)) (t0 + 1) (w10.setCell ⟨hb, 5, none⟩ (.int .i64 ((nx : Int) + (1 + (mn : Int)))))) := by
                    have := Q10.out.nxt (nx + (1 + mn))
                    rwa [show ((nx + (1 + mn) : Nat) : Int) = (nx : Int) + (1 + (mn : Int)) by omega] at this
                  have I11 : Hid (IRow (w10.setCell ⟨hb, 5, none⟩ (.int .i64 ((nx : Int) + (1 + (mn : Int))))) (w.heap.size + 1) (.slice a5 (k + 1) cv5) (mvL W b1 O (k + 1))) := ⟨own_same I10.out.1 fun q hq => Below.heap_setCell _ _ _ _ (by have := (I10.out.lt q hq).1; have := LIM.out; show q ≠ hb; omega), I10.out.2⟩
                  have hS11 : (fun X : World => X.cell? ⟨hb, 3, none⟩ = some (.slice (some ⟨g, 0, none⟩) xl xl) ∧ X.cell? ⟨g, z, none⟩ = some (.int .i64 x)) (w10.setCell ⟨hb, 5, none⟩ (.int .i64 ((nx : Int) + (1 + (mn : Int))))) := ⟨by have := Q11.out.hp.c3; rw [putW_length, ← HXLL.out.1] at this; exact this, cell_setQ _ hS10.2 (fun e => Q10.out.hp.ne.2.1 e)⟩
                  refine hK.out _ _ hS11 (fun _ => ?_)
                  clear hK K
                  refine wpAnyH_done (by kernel_rfl) ?_ _
                  try simp only [Act.put, List.getElem_toArray, List.getElem?_toArray, List.getElem_cons_succ, List.getElem_cons_zero, List.getElem?_cons_succ, List.getElem?_cons_zero, List.setIfInBounds_toArray, List.set_cons_succ, List.set_cons_zero]
                  refine NoPanic.normal ?_
                  clear hS7 hS8 hS9 hS10 hS11 y5 yf n5c m5 HSRC
                  generalize w10.setCell ⟨hb, 5, none⟩ (.int .i64 ((nx : Int) + (1 + (mn : Int)))) = w11 at *
                  go_wp2
                  exact ⟨⟨k + 1, by have := HKL1.out; omega, by first | rfl | go_num, by show MQ _ _ _ _ _ _ _ _ _ _ _ _ _; rw [HXN.out, HFN.out.1]; exact Q11.out, I11⟩, by have := HKL1.out; simp only [intOf]; omega⟩

      · go_simp
        go_at_call 48
        refine (hcw _).mono ?_
        rintro e w8 ⟨rfl, hb8⟩
        have Q8 : Hid (MQ Bl hb hm g nb (.slice (some ⟨ga, 0, none⟩) O.length cv) half base w Xk nx (t0 + 1) w8) := (Q7.out.drewN 1).on hb8
        have I8 : Hid (IRow w8 (w.heap.size + 1) (.slice a5 (k + 1) cv5) (mvL W b1 O (k + 1))) := (show IRow w7.drew (w.heap.size + 1) (.slice a5 (k + 1) cv5) (mvL W b1 O (k + 1)) from I7.out).keep hb8
        have m5 : w8.cell? ⟨hb, 5, none⟩ = some (.int .i64 nx) := Q8.out.hp.c5
        have hS8 : (fun X : World => X.cell? ⟨hb, 3, none⟩ = some (.slice (some ⟨g, 0, none⟩) xl xl) ∧ X.cell? ⟨g, z, none⟩ = some (.int .i64 x)) w8 := ⟨by rw [HXLL.out.1]; exact Q8.out.hp.c3, HCX.out Q8.out.hp.wds⟩
        clear hb8
        refine hK.out _ _ hS8 (fun _ => ?_)
        clear hK K
        try simp only [Act.put, List.setIfInBounds_toArray, List.set_cons_zero, List.set_cons_succ]
        refine wpAnyH_ready (rs := [3, 11, 27]) (by kernel_rfl) (by simp) ?_
        refine AllReadyH.cons rfl (fun K hK => ?_) (AllReadyH.cons rfl (fun K hK => ?_) (AllReadyH.cons rfl (fun K hK => ?_) (AllReadyH.nil)))
        · go_simp
          refine hK.out _ _ hS8 (fun _ => ?_)
          clear hK K
          try simp only [Act.put, List.setIfInBounds_toArray, List.set_cons_zero, List.set_cons_succ]
          refine wpAnyH_ready (rs := [11, 27]) (by kernel_rfl) (by simp) ?_
          refine AllReadyH.cons rfl (fun K hK => ?_) (AllReadyH.cons rfl (fun K hK => ?_) (AllReadyH.nil))
          · go_simp
            refine hK.out _ _ hS8 (fun _ => ?_)
            clear hK K
            try simp only [Act.put, List.setIfInBounds_toArray, List.set_cons_zero, List.set_cons_succ]
            refine wpAnyH_take (i := 12) (v := .slice (some ⟨g, nx, none⟩) (xl - nx) (xl - nx)) rfl (by kernel_rfl) (by kernel_rfl) (by kernel_rfl) (fun _ _ _ h => h) (Or.inl ⟨by kernel_rfl, ?_⟩) hS8 ?_
            · intro W hSw
              obtain ⟨s0, s1⟩ := hSw
              go_simp
              omega
            try simp only [Act.put, List.setIfInBounds_toArray, List.set_cons_zero, List.set_cons_succ]
            refine wpAnyH_ready (rs := [27]) (by kernel_rfl) (by simp) ?_
            refine AllReadyH.cons rfl (fun K hK => ?_) (AllReadyH.nil)
            · go_simp
              go_at_call 49
              refine (hcs _).mono ?_
              rintro e w9 ⟨rfl, hb9⟩
              have Q9 : Hid (MQ Bl hb hm g nb (.slice (some ⟨ga, 0, none⟩) O.length cv) half base w Xk nx (t0 + 1) w9) := Q8.out.on hb9
              have I9 : Hid (IRow w9 (w.heap.size + 1) (.slice a5 (k + 1) cv5) (mvL W b1 O (k + 1))) := I8.out.keep hb9
              have HSRC : Hid (∀ j v, ((rawB W z).map (Value.int .i64))[j]? = some v → w9.cell? ((⟨g, z, none⟩ : Addr).add j) = some v) := fun j v hj => HSRC9.out Q9.out.hp.wds j v hj
              have n5c : w9.cell? ⟨hb, 5, none⟩ = some (.int .i64 nx) := Q9.out.hp.c5
              have hS9 : (fun X : World => X.cell? ⟨hb, 3, none⟩ = some (.slice (some ⟨g, 0, none⟩) xl xl) ∧ X.cell? ⟨g, z, none⟩ = some (.int .i64 x)) w9 := ⟨by rw [HXLL.out.1]; exact Q9.out.hp.c3, HCX.out Q9.out.hp.wds⟩
              clear hb9
              refine hK.out _ _ hS9 (fun _ => ?_)
              clear hK K
              try simp only [Act.put, List.setIfInBounds_toArray, List.set_cons_zero, List.set_cons_succ]
              refine wpAnyH_take (i := 28) (v := .int .i64 ((z : Int) + (1 + (mn : Int)))) rfl (by kernel_rfl) (by kernel_rfl) (by kernel_rfl) (fun _ _ _ h => h) (Or.inl ⟨by kernel_rfl, ?_⟩) hS9 ?_
              · intro W hSw
                obtain ⟨s0, s1⟩ := hSw
                go_simp
              try simp only [Act.put, List.setIfInBounds_toArray, List.set_cons_zero, List.set_cons_succ]
              refine wpAnyH_take (i := 29) (v := .slice (some ⟨g, z, none⟩) (1 + mn) (xl - z)) rfl (by kernel_rfl) (by kernel_rfl) (by kernel_rfl) (fun _ _ _ h => h) (Or.inl ⟨by kernel_rfl, ?_⟩) hS9 ?_
              · intro W hSw
                obtain ⟨s0, s1⟩ := hSw
                go_simp
                omega
              try simp only [Act.put, List.setIfInBounds_toArray, List.set_cons_zero, List.set_cons_succ]
              refine wpAnyH_ready (rs := [30]) (by kernel_rfl) (by simp) ?_
              refine AllReadyH.cons rfl (fun K hK => ?_) (AllReadyH.nil)
              · refine step_copy_exact rfl (.tmp 72) (.tmp 89) 24 24 rfl 3 Tryz.underlying24 sizeP_int ⟨g, z, none⟩ (xl - nx) (xl - nx) (1 + mn) (xl - z) g nx rfl rfl (Xk.map (Value.int .i64)) 3 Q9.out.hp.wds.1 ((rawB W z).map (Value.int .i64)) HCL.out HSRC.out HCF.out (fun v hv => by obtain ⟨y, _, rfl⟩ := List.mem_map.1 hv; rfl) ?_
                intro w10 HA10 HO10 HE10
                have hwl10 := Q9.out.lt
                have O10 : OW g (putW Xk nx (rawB W z)) w10 := OW.splice Q9.out.hp.wds HRW.out.1 HRW.out.2 HA10.out
                have Q10 : Hid (MQ Bl hb hm g nb (.slice (some ⟨ga, 0, none⟩) O.length cv) half base w (putW Xk nx (rawB W z)) nx (t0 + 1) w10) := Q9.out.words O10 (putW_length _ _ _) (fun q _ hq => HO10.out q hq) HE10.out
                have I10 : Hid (IRow w10 (w.heap.size + 1) (.slice a5 (k + 1) cv5) (mvL W b1 O (k + 1))) := ⟨own_same I9.out.1 fun q hq => HO10.out q (by have := (I9.out.lt q hq).1; have := LIM.out; omega), I9.out.2⟩
                have y5 : w10.cell? ⟨hb, 5, none⟩ = some (.int .i64 nx) := Q10.out.hp.c5
                have yf : w10.frozen? ⟨hb, 5, none⟩ = false := Q10.out.hp.frz 5
                have hS10 : (fun X : World => X.cell? ⟨hb, 3, none⟩ = some (.slice (some ⟨g, 0, none⟩) xl xl) ∧ X.cell? ⟨g, z, none⟩ = some (.int .i64 x)) w10 := ⟨by have := Q10.out.hp.c3; rw [putW_length, ← HXLL.out.1] at this; exact this, HCX2.out O10⟩
                rw [HCN.out]
                clear O10 HA10 HO10 HE10 hwl10
                refine hK.out _ _ hS10 (fun _ => ?_)
                clear hK K
                try simp only [Act.put, List.setIfInBounds_toArray, List.set_cons_zero, List.set_cons_succ]
                refine wpAnyH_take (i := 31) (v := .int .i64 ((nx : Int) + ((1 + mn : Nat) : Int))) rfl (by kernel_rfl) (by kernel_rfl) (by kernel_rfl) (fun _ _ _ h => h) (Or.inl ⟨by kernel_rfl, ?_⟩) hS10 ?_
                · intro W hSw
                  obtain ⟨s0, s1⟩ := hSw
                  go_simp
                  rw [IntKind.wrap_i64]; have := HXLL.out; omega
                try simp only [Act.put, List.setIfInBounds_toArray, List.set_cons_zero, List.set_cons_succ]
                refine wpAnyH_take (i := 32) (v := .pointer (some ⟨hb, 0, none⟩)) rfl (by kernel_rfl) (by kernel_rfl) (by kernel_rfl) (fun _ _ _ h => h) (Or.inl ⟨by kernel_rfl, ?_⟩) hS10 ?_
                · intro W hSw
                  obtain ⟨s0, s1⟩ := hSw
                  go_simp
                try simp only [Act.put, List.setIfInBounds_toArray, List.set_cons_zero, List.set_cons_succ]
                refine wpAnyH_take (i := 33) (v := .pointer (some ⟨hb, 5, none⟩)) rfl (by kernel_rfl) (by kernel_rfl) (by kernel_rfl) (fun _ _ _ h => h) (Or.inl ⟨by kernel_rfl, ?_⟩) hS10 ?_
                · intro W hSw
                  obtain ⟨s0, s1⟩ := hSw
                  go_simp
                try simp only [Act.put, List.setIfInBounds_toArray, List.set_cons_zero, List.set_cons_succ]
                refine wpAnyH_ready (rs := [34]) (by kernel_rfl) (by simp) ?_
                refine AllReadyH.cons rfl (fun K hK => ?_) (AllReadyH.nil)
                · go_simp
                  have Q11 : Hid (MQ Bl hb hm g nb (.slice (some ⟨ga, 0, none⟩) O.length cv) half base w (putW Xk nx (rawB W z)) (nx + (1 + mn)) (t0 + 1) (w10.setCell ⟨hb, 5, none⟩ (.int .i64 ((nx : Int) + (1 + (mn : Int)))))) := by
                    have := Q10.out.nxt (nx + (1 + mn))
                    rwa [show ((nx + (1 + mn) : Nat) : Int) = (nx : Int) + (1 + (mn : Int)) by omega] at this
                  have I11 : Hid (IRow (w10.setCell ⟨hb, 5, none⟩ (.int .i64 ((nx : Int) + (1 + (mn : Int))))) (w.heap.size + 1) (.slice a5 (k + 1) cv5) (mvL W b1 O (k + 1))) := ⟨own_same I10.out.1 fun q hq => Below.heap_setCell _ _ _ _ (by have := (I10.out.lt q hq).1; have := LIM.out; show q ≠ hb; omega), I10.out.2⟩
                  have hS11 : (fun X : World => X.cell? ⟨hb, 3, none⟩ = some (.slice (some ⟨g, 0, none⟩) xl xl) ∧ X.cell? ⟨g, z, none⟩ = some (.int .i64 x)) (w10.setCell ⟨hb, 5, none⟩ (.int .i64 ((nx : Int) + (1 + (mn : Int))))) := ⟨by have := Q11.out.hp.c3; rw [putW_length, ← HXLL.out.1] at this; exact this, cell_setQ _ hS10.2 (fun e => Q10.out.hp.ne.2.1 e)⟩
                  refine hK.out _ _ hS11 (fun _ => ?_)
                  clear hK K
                  refine wpAnyH_done (by kernel_rfl) ?_ _
                  try simp only [Act.put, List.getElem_toArray, List.getElem?_toArray, List.getElem_cons_succ, List.getElem_cons_zero, List.getElem?_cons_succ, List.getElem?_cons_zero, List.setIfInBounds_toArray, List.set_cons_succ, List.set_cons_zero]
                  refine NoPanic.normal ?_
                  clear hS7 hS8 hS9 hS10 hS11 y5 yf n5c m5 HSRC
                  generalize w10.setCell ⟨hb, 5, none⟩ (.int .i64 ((nx : Int) + (1 + (mn : Int)))) = w11 at *
                  go_wp2
                  exact ⟨⟨k + 1, by have := HKL1.out; omega, by first | rfl | go_num, by show MQ _ _ _ _ _ _ _ _ _ _ _ _ _; rw [HXN.out, HFN.out.1]; exact Q11.out, I11⟩, by have := HKL1.out; simp only [intOf]; omega⟩

          · go_simp
            go_at_call 49
            refine (hcs _).mono ?_
            rintro e w9 ⟨rfl, hb9⟩
            have Q9 : Hid (MQ Bl hb hm g nb (.slice (some ⟨ga, 0, none⟩) O.length cv) half base w Xk nx (t0 + 1) w9) := Q8.out.on hb9
            have I9 : Hid (IRow w9 (w.heap.size + 1) (.slice a5 (k + 1) cv5) (mvL W b1 O (k + 1))) := I8.out.keep hb9
            have HSRC : Hid (∀ j v, ((rawB W z).map (Value.int .i64))[j]? = some v → w9.cell? ((⟨g, z, none⟩ : Addr).add j) = some v) := fun j v hj => HSRC9.out Q9.out.hp.wds j v hj
            have n5c : w9.cell? ⟨hb, 5, none⟩ = some (.int .i64 nx) := Q9.out.hp.c5
            have hS9 : (fun X : World => X.cell? ⟨hb, 3, none⟩ = some (.slice (some ⟨g, 0, none⟩) xl xl) ∧ X.cell? ⟨g, z, none⟩ = some (.int .i64 x)) w9 := ⟨by rw [HXLL.out.1]; exact Q9.out.hp.c3, HCX.out Q9.out.hp.wds⟩
            clear hb9
            refine hK.out _ _ hS9 (fun _ => ?_)
            clear hK K
            try simp only [Act.put, List.setIfInBounds_toArray, List.set_cons_zero, List.set_cons_succ]
            refine wpAnyH_take (i := 28) (v := .int .i64 ((z : Int) + (1 + (mn : Int)))) rfl (by kernel_rfl) (by kernel_rfl) (by kernel_rfl) (fun _ _ _ h => h) (Or.inl ⟨by kernel_rfl, ?_⟩) hS9 ?_
            · intro W hSw
              obtain ⟨s0, s1⟩ := hSw
              go_simp
            try simp only [Act.put, List.setIfInBounds_toArray, List.set_cons_zero, List.set_cons_succ]
            refine wpAnyH_take (i := 29) (v := .slice (some ⟨g, z, none⟩) (1 + mn) (xl - z)) rfl (by kernel_rfl) (by kernel_rfl) (by kernel_rfl) (fun _ _ _ h => h) (Or.inl ⟨by kernel_rfl, ?_⟩) hS9 ?_
            · intro W hSw
              obtain ⟨s0, s1⟩ := hSw
              go_simp
              omega
            try simp only [Act.put, List.setIfInBounds_toArray, List.set_cons_zero, List.set_cons_succ]
            refine wpAnyH_ready (rs := [11]) (by kernel_rfl) (by simp) ?_
            refine AllReadyH.cons rfl (fun K hK => ?_) (AllReadyH.nil)
            · go_simp
              refine hK.out _ _ hS9 (fun _ => ?_)
              clear hK K
              try simp only [Act.put, List.setIfInBounds_toArray, List.set_cons_zero, List.set_cons_succ]
              refine wpAnyH_take (i := 12) (v := .slice (some ⟨g, nx, none⟩) (xl - nx) (xl - nx)) rfl (by kernel_rfl) (by kernel_rfl) (by kernel_rfl) (fun _ _ _ h => h) (Or.inl ⟨by kernel_rfl, ?_⟩) hS9 ?_
              · intro W hSw
                obtain ⟨s0, s1⟩ := hSw
                go_simp
                omega
              try simp only [Act.put, List.setIfInBounds_toArray, List.set_cons_zero, List.set_cons_succ]
              refine wpAnyH_ready (rs := [30]) (by kernel_rfl) (by simp) ?_
              refine AllReadyH.cons rfl (fun K hK => ?_) (AllReadyH.nil)
              · refine step_copy_exact rfl (.tmp 72) (.tmp 89) 24 24 rfl 3 Tryz.underlying24 sizeP_int ⟨g, z, none⟩ (xl - nx) (xl - nx) (1 + mn) (xl - z) g nx rfl rfl (Xk.map (Value.int .i64)) 3 Q9.out.hp.wds.1 ((rawB W z).map (Value.int .i64)) HCL.out HSRC.out HCF.out (fun v hv => by obtain ⟨y, _, rfl⟩ := List.mem_map.1 hv; rfl) ?_
                intro w10 HA10 HO10 HE10
                have hwl10 := Q9.out.lt
                have O10 : OW g (putW Xk nx (rawB W z)) w10 := OW.splice Q9.out.hp.wds HRW.out.1 HRW.out.2 HA10.out
                have Q10 : Hid (MQ Bl hb hm g nb (.slice (some ⟨ga, 0, none⟩) O.length cv) half base w (putW Xk nx (rawB W z)) nx (t0 + 1) w10) := Q9.out.words O10 (putW_length _ _ _) (fun q _ hq => HO10.out q hq) HE10.out
                have I10 : Hid (IRow w10 (w.heap.size + 1) (.slice a5 (k + 1) cv5) (mvL W b1 O (k + 1))) := ⟨own_same I9.out.1 fun q hq => HO10.out q (by have := (I9.out.lt q hq).1; have := LIM.out; omega), I9.out.2⟩
                have y5 : w10.cell? ⟨hb, 5, none⟩ = some (.int .i64 nx) := Q10.out.hp.c5
                have yf : w10.frozen? ⟨hb, 5, none⟩ = false := Q10.out.hp.frz 5
                have hS10 : (fun X : World => X.cell? ⟨hb, 3, none⟩ = some (.slice (some ⟨g, 0, none⟩) xl xl) ∧ X.cell? ⟨g, z, none⟩ = some (.int .i64 x)) w10 := ⟨by have := Q10.out.hp.c3; rw [putW_length, ← HXLL.out.1] at this; exact this, HCX2.out O10⟩
                rw [HCN.out]
                clear O10 HA10 HO10 HE10 hwl10
                refine hK.out _ _ hS10 (fun _ => ?_)
                clear hK K
                try simp only [Act.put, List.setIfInBounds_toArray, List.set_cons_zero, List.set_cons_succ]
                refine wpAnyH_take (i := 31) (v := .int .i64 ((nx : Int) + ((1 + mn : Nat) : Int))) rfl (by kernel_rfl) (by kernel_rfl) (by kernel_rfl) (fun _ _ _ h => h) (Or.inl ⟨by kernel_rfl, ?_⟩) hS10 ?_
                · intro W hSw
                  obtain ⟨s0, s1⟩ := hSw
                  go_simp
                  rw [IntKind.wrap_i64]; have := HXLL.out; omega
                try simp only [Act.put, List.setIfInBounds_toArray, List.set_cons_zero, List.set_cons_succ]
                refine wpAnyH_take (i := 32) (v := .pointer (some ⟨hb, 0, none⟩)) rfl (by kernel_rfl) (by kernel_rfl) (by kernel_rfl) (fun _ _ _ h => h) (Or.inl ⟨by kernel_rfl, ?_⟩) hS10 ?_
                · intro W hSw
                  obtain ⟨s0, s1⟩ := hSw
                  go_simp
                try simp only [Act.put, List.setIfInBounds_toArray, List.set_cons_zero, List.set_cons_succ]
                refine wpAnyH_take (i := 33) (v := .pointer (some ⟨hb, 5, none⟩)) rfl (by kernel_rfl) (by kernel_rfl) (by kernel_rfl) (fun _ _ _ h => h) (Or.inl ⟨by kernel_rfl, ?_⟩) hS10 ?_
                · intro W hSw
                  obtain ⟨s0, s1⟩ := hSw
                  go_simp
                try simp only [Act.put, List.setIfInBounds_toArray, List.set_cons_zero, List.set_cons_succ]
                refine wpAnyH_ready (rs := [34]) (by kernel_rfl) (by simp) ?_
                refine AllReadyH.cons rfl (fun K hK => ?_) (AllReadyH.nil)
                · go_simp
                  have Q11 : Hid (MQ Bl hb hm g nb (.slice (some ⟨ga, 0, none⟩) O.length cv) half base w (putW Xk nx (rawB W z)) (nx + (1 + mn)) (t0 + 1) (w10.setCell ⟨hb, 5, none⟩ (.int .i64 ((nx : Int) + (1 + (mn : Int)))))) := by
                    have := Q10.out.nxt (nx + (1 + mn))
                    rwa [show ((nx + (1 + mn) : Nat) : Int) = (nx : Int) + (1 + (mn : Int)) by omega] at this
                  have I11 : Hid (IRow (w10.setCell ⟨hb, 5, none⟩ (.int .i64 ((nx : Int) + (1 + (mn : Int))))) (w.heap.size + 1) (.slice a5 (k + 1) cv5) (mvL W b1 O (k + 1))) := ⟨own_same I10.out.1 fun q hq => Below.heap_setCell _ _ _ _ (by have := (I10.out.lt q hq).1; have := LIM.out; show q ≠ hb; omega), I10.out.2⟩
                  have hS11 : (fun X : World => X.cell? ⟨hb, 3, none⟩ = some (.slice (some ⟨g, 0, none⟩) xl xl) ∧ X.cell? ⟨g, z, none⟩ = some (.int .i64 x)) (w10.setCell ⟨hb, 5, none⟩ (.int .i64 ((nx : Int) + (1 + (mn : Int))))) := ⟨by have := Q11.out.hp.c3; rw [putW_length, ← HXLL.out.1] at this; exact this, cell_setQ _ hS10.2 (fun e => Q10.out.hp.ne.2.1 e)⟩
                  refine hK.out _ _ hS11 (fun _ => ?_)
                  clear hK K
                  refine wpAnyH_done (by kernel_rfl) ?_ _
                  try simp only [Act.put, List.getElem_toArray, List.getElem?_toArray, List.getElem_cons_succ, List.getElem_cons_zero, List.getElem?_cons_succ, List.getElem?_cons_zero, List.setIfInBounds_toArray, List.set_cons_succ, List.set_cons_zero]
                  refine NoPanic.normal ?_
                  clear hS7 hS8 hS9 hS10 hS11 y5 yf n5c m5 HSRC
                  generalize w10.setCell ⟨hb, 5, none⟩ (.int .i64 ((nx : Int) + (1 + (mn : Int)))) = w11 at *
                  go_wp2
                  exact ⟨⟨k + 1, by have := HKL1.out; omega, by first | rfl | go_num, by show MQ _ _ _ _ _ _ _ _ _ _ _ _ _; rw [HXN.out, HFN.out.1]; exact Q11.out, I11⟩, by have := HKL1.out; simp only [intOf]; omega⟩

        · go_simp
          refine hK.out _ _ hS8 (fun _ => ?_)
          clear hK K
          try simp only [Act.put, List.setIfInBounds_toArray, List.set_cons_zero, List.set_cons_succ]
          refine wpAnyH_take (i := 12) (v := .slice (some ⟨g, nx, none⟩) (xl - nx) (xl - nx)) rfl (by kernel_rfl) (by kernel_rfl) (by kernel_rfl) (fun _ _ _ h => h) (Or.inl ⟨by kernel_rfl, ?_⟩) hS8 ?_
          · intro W hSw
            obtain ⟨s0, s1⟩ := hSw
            go_simp
            omega
          try simp only [Act.put, List.setIfInBounds_toArray, List.set_cons_zero, List.set_cons_succ]
          refine wpAnyH_ready (rs := [3, 27]) (by kernel_rfl) (by simp) ?_
          refine AllReadyH.cons rfl (fun K hK => ?_) (AllReadyH.cons rfl (fun K hK => ?_) (AllReadyH.nil))
          · go_simp
            refine hK.out _ _ hS8 (fun _ => ?_)
            clear hK K
            try simp only [Act.put, List.setIfInBounds_toArray, List.set_cons_zero, List.set_cons_succ]
            refine wpAnyH_ready (rs := [27]) (by kernel_rfl) (by simp) ?_
            refine AllReadyH.cons rfl (fun K hK => ?_) (AllReadyH.nil)
            · go_simp
              go_at_call 49
              refine (hcs _).mono ?_
              rintro e w9 ⟨rfl, hb9⟩
              have Q9 : Hid (MQ Bl hb hm g nb (.slice (some ⟨ga, 0, none⟩) O.length cv) half base w Xk nx (t0 + 1) w9) := Q8.out.on hb9
              have I9 : Hid (IRow w9 (w.heap.size + 1) (.slice a5 (k + 1) cv5) (mvL W b1 O (k + 1))) := I8.out.keep hb9
              have HSRC : Hid (∀ j v, ((rawB W z).map (Value.int .i64))[j]? = some v → w9.cell? ((⟨g, z, none⟩ : Addr).add j) = some v) := fun j v hj => HSRC9.out Q9.out.hp.wds j v hj
              have n5c : w9.cell? ⟨hb, 5, none⟩ = some (.int .i64 nx) := Q9.out.hp.c5
              have hS9 : (fun X : World => X.cell? ⟨hb, 3, none⟩ = some (.slice (some ⟨g, 0, none⟩) xl xl) ∧ X.cell? ⟨g, z, none⟩ = some (.int .i64 x)) w9 := ⟨by rw [HXLL.out.1]; exact Q9.out.hp.c3, HCX.out Q9.out.hp.wds⟩
              clear hb9
              refine hK.out _ _ hS9 (fun _ => ?_)
              clear hK K
              try simp only [Act.put, List.setIfInBounds_toArray, List.set_cons_zero, List.set_cons_succ]
              refine wpAnyH_take (i := 28) (v := .int .i64 ((z : Int) + (1 + (mn : Int)))) rfl (by kernel_rfl) (by kernel_rfl) (by kernel_rfl) (fun _ _ _ h => h) (Or.inl ⟨by kernel_rfl, ?_⟩) hS9 ?_
              · intro W hSw
                obtain ⟨s0, s1⟩ := hSw
                go_simp
              try simp only [Act.put, List.setIfInBounds_toArray, List.set_cons_zero, List.set_cons_succ]
              refine wpAnyH_take (i := 29) (v := .slice (some ⟨g, z, none⟩) (1 + mn) (xl - z)) rfl (by kernel_rfl) (by kernel_rfl) (by kernel_rfl) (fun _ _ _ h => h) (Or.inl ⟨by kernel_rfl, ?_⟩) hS9 ?_
              · intro W hSw
                obtain ⟨s0, s1⟩ := hSw
                go_simp
                omega
              try simp only [Act.put, List.setIfInBounds_toArray, List.set_cons_zero, List.set_cons_succ]
              refine wpAnyH_ready (rs := [30]) (by kernel_rfl) (by simp) ?_
              refine AllReadyH.cons rfl (fun K hK => ?_) (AllReadyH.nil)
              · refine step_copy_exact rfl (.tmp 72) (.tmp 89) 24 24 rfl 3 Tryz.underlying24 sizeP_int ⟨g, z, none⟩ (xl - nx) (xl - nx) (1 + mn) (xl - z) g nx rfl rfl (Xk.map (Value.int .i64)) 3 Q9.out.hp.wds.1 ((rawB W z).map (Value.int .i64)) HCL.out HSRC.out HCF.out (fun v hv => by obtain ⟨y, _, rfl⟩ := List.mem_map.1 hv; rfl) ?_
                intro w10 HA10 HO10 HE10
                have hwl10 := Q9.out.lt
                have O10 : OW g (putW Xk nx (rawB W z)) w10 := OW.splice Q9.out.hp.wds HRW.out.1 HRW.out.2 HA10.out
                have Q10 : Hid (MQ Bl hb hm g nb (.slice (some ⟨ga, 0, none⟩) O.length cv) half base w (putW Xk nx (rawB W z)) nx (t0 + 1) w10) := Q9.out.words O10 (putW_length _ _ _) (fun q _ hq => HO10.out q hq) HE10.out
                have I10 : Hid (IRow w10 (w.heap.size + 1) (.slice a5 (k + 1) cv5) (mvL W b1 O (k + 1))) := ⟨own_same I9.out.1 fun q hq => HO10.out q (by have := (I9.out.lt q hq).1; have := LIM.out; omega), I9.out.2⟩
                have y5 : w10.cell? ⟨hb, 5, none⟩ = some (.int .i64 nx) := Q10.out.hp.c5
                have yf : w10.frozen? ⟨hb, 5, none⟩ = false := Q10.out.hp.frz 5
                have hS10 : (fun X : World => X.cell? ⟨hb, 3, none⟩ = some (.slice (some ⟨g, 0, none⟩) xl xl) ∧ X.cell? ⟨g, z, none⟩ = some (.int .i64 x)) w10 := ⟨by have := Q10.out.hp.c3; rw [putW_length, ← HXLL.out.1] at this; exact this, HCX2.out O10⟩
                rw [HCN.out]
                clear O10 HA10 HO10 HE10 hwl10
                refine hK.out _ _ hS10 (fun _ => ?_)
                clear hK K
                try simp only [Act.put, List.setIfInBounds_toArray, List.set_cons_zero, List.set_cons_succ]
                refine wpAnyH_take (i := 31) (v := .int .i64 ((nx : Int) + ((1 + mn : Nat) : Int))) rfl (by kernel_rfl) (by kernel_rfl) (by kernel_rfl) (fun _ _ _ h => h) (Or.inl ⟨by kernel_rfl, ?_⟩) hS10 ?_
                · intro W hSw
                  obtain ⟨s0, s1⟩ := hSw
                  go_simp
                  rw [IntKind.wrap_i64]; have := HXLL.out; omega
                try simp only [Act.put, List.setIfInBounds_toArray, List.set_cons_zero, List.set_cons_succ]
                refine wpAnyH_take (i := 32) (v := .pointer (some ⟨hb, 0, none⟩)) rfl (by kernel_rfl) (by kernel_rfl) (by kernel_rfl) (fun _ _ _ h => h) (Or.inl ⟨by kernel_rfl, ?_⟩) hS10 ?_
                · intro W hSw
                  obtain ⟨s0, s1⟩ := hSw
                  go_simp
                try simp only [Act.put, List.setIfInBounds_toArray, List.set_cons_zero, List.set_cons_succ]
                refine wpAnyH_take (i := 33) (v := .pointer (some ⟨hb, 5, none⟩)) rfl (by kernel_rfl) (by kernel_rfl) (by kernel_rfl) (fun _ _ _ h => h) (Or.inl ⟨by kernel_rfl, ?_⟩) hS10 ?_
                · intro W hSw
                  obtain ⟨s0, s1⟩ := hSw
                  go_simp
                try simp only [Act.put, List.setIfInBounds_toArray, List.set_cons_zero, List.set_cons_succ]
                refine wpAnyH_ready (rs := [34]) (by kernel_rfl) (by simp) ?_
                refine AllReadyH.cons rfl (fun K hK => ?_) (AllReadyH.nil)
                · go_simp
                  have Q11 : Hid (MQ Bl hb hm g nb (.slice (some ⟨ga, 0, none⟩) O.length cv) half base w (putW Xk nx (rawB W z)) (nx + (1 + mn)) (t0 + 1) (w10.setCell ⟨hb, 5, none⟩ (.int .i64 ((nx : Int) + (1 + (mn : Int)))))) := by
                    have := Q10.out.nxt (nx + (1 + mn))
                    rwa [show ((nx + (1 + mn) : Nat) : Int) = (nx : Int) + (1 + (mn : Int)) by omega] at this
                  have I11 : Hid (IRow (w10.setCell ⟨hb, 5, none⟩ (.int .i64 ((nx : Int) + (1 + (mn : Int))))) (w.heap.size + 1) (.slice a5 (k + 1) cv5) (mvL W b1 O (k + 1))) := ⟨own_same I10.out.1 fun q hq => Below.heap_setCell _ _ _ _ (by have := (I10.out.lt q hq).1; have := LIM.out; show q ≠ hb; omega), I10.out.2⟩
                  have hS11 : (fun X : World => X.cell? ⟨hb, 3, none⟩ = some (.slice (some ⟨g, 0, none⟩) xl xl) ∧ X.cell? ⟨g, z, none⟩ = some (.int .i64 x)) (w10.setCell ⟨hb, 5, none⟩ (.int .i64 ((nx : Int) + (1 + (mn : Int))))) := ⟨by have := Q11.out.hp.c3; rw [putW_length, ← HXLL.out.1] at this; exact this, cell_setQ _ hS10.2 (fun e => Q10.out.hp.ne.2.1 e)⟩
                  refine hK.out _ _ hS11 (fun _ => ?_)
                  clear hK K
                  refine wpAnyH_done (by kernel_rfl) ?_ _
                  try simp only [Act.put, List.getElem_toArray, List.getElem?_toArray, List.getElem_cons_succ, List.getElem_cons_zero, List.getElem?_cons_succ, List.getElem?_cons_zero, List.setIfInBounds_toArray, List.set_cons_succ, List.set_cons_zero]
                  refine NoPanic.normal ?_
                  clear hS7 hS8 hS9 hS10 hS11 y5 yf n5c m5 HSRC
                  generalize w10.setCell ⟨hb, 5, none⟩ (.int .i64 ((nx : Int) + (1 + (mn : Int)))) = w11 at *
                  go_wp2
                  exact ⟨⟨k + 1, by have := HKL1.out; omega, by first | rfl | go_num, by show MQ _ _ _ _ _ _ _ _ _ _ _ _ _; rw [HXN.out, HFN.out.1]; exact Q11.out, I11⟩, by have := HKL1.out; simp only [intOf]; omega⟩

          · go_simp
            go_at_call 49
            refine (hcs _).mono ?_
            rintro e w9 ⟨rfl, hb9⟩
            have Q9 : Hid (MQ Bl hb hm g nb (.slice (some ⟨ga, 0, none⟩) O.length cv) half base w Xk nx (t0 + 1) w9) := Q8.out.on hb9
            have I9 : Hid (IRow w9 (w.heap.size + 1) (.slice a5 (k + 1) cv5) (mvL W b1 O (k + 1))) := I8.out.keep hb9
            have HSRC : Hid (∀ j v, ((rawB W z).map (Value.int .i64))[j]? = some v → w9.cell? ((⟨g, z, none⟩ : Addr).add j) = some v) := fun j v hj => HSRC9.out Q9.out.hp.wds j v hj
            have n5c : w9.cell? ⟨hb, 5, none⟩ = some (.int .i64 nx) := Q9.out.hp.c5
            have hS9 : (fun X : World => X.cell? ⟨hb, 3, none⟩ = some (.slice (some ⟨g, 0, none⟩) xl xl) ∧ X.cell? ⟨g, z, none⟩ = some (.int .i64 x)) w9 := ⟨by rw [HXLL.out.1]; exact Q9.out.hp.c3, HCX.out Q9.out.hp.wds⟩
            clear hb9
            refine hK.out _ _ hS9 (fun _ => ?_)
            clear hK K
            try simp only [Act.put, List.setIfInBounds_toArray, List.set_cons_zero, List.set_cons_succ]
            refine wpAnyH_take (i := 28) (v := .int .i64 ((z : Int) + (1 + (mn : Int)))) rfl (by kernel_rfl) (by kernel_rfl) (by kernel_rfl) (fun _ _ _ h => h) (Or.inl ⟨by kernel_rfl, ?_⟩) hS9 ?_
            · intro W hSw
              obtain ⟨s0, s1⟩ := hSw
              go_simp
            try simp only [Act.put, List.setIfInBounds_toArray, List.set_cons_zero, List.set_cons_succ]
            refine wpAnyH_take (i := 29) (v := .slice (some ⟨g, z, none⟩) (1 + mn) (xl - z)) rfl (by kernel_rfl) (by kernel_rfl) (by kernel_rfl) (fun _ _ _ h => h) (Or.inl ⟨by kernel_rfl, ?_⟩) hS9 ?_
            · intro W hSw
              obtain ⟨s0, s1⟩ := hSw
              go_simp
              omega
            try simp only [Act.put, List.setIfInBounds_toArray, List.set_cons_zero, List.set_cons_succ]
            refine wpAnyH_ready (rs := [3, 30]) (by kernel_rfl) (by simp) ?_
            refine AllReadyH.cons rfl (fun K hK => ?_) (AllReadyH.cons rfl (fun K hK => ?_) (AllReadyH.nil))
            · go_simp
              refine hK.out _ _ hS9 (fun _ => ?_)
              clear hK K
              try simp only [Act.put, List.setIfInBounds_toArray, List.set_cons_zero, List.set_cons_succ]
              refine wpAnyH_ready (rs := [30]) (by kernel_rfl) (by simp) ?_
              refine AllReadyH.cons rfl (fun K hK => ?_) (AllReadyH.nil)
              · refine step_copy_exact rfl (.tmp 72) (.tmp 89) 24 24 rfl 3 Tryz.underlying24 sizeP_int ⟨g, z, none⟩ (xl - nx) (xl - nx) (1 + mn) (xl - z) g nx rfl rfl (Xk.map (Value.int .i64)) 3 Q9.out.hp.wds.1 ((rawB W z).map (Value.int .i64)) HCL.out HSRC.out HCF.out (fun v hv => by obtain ⟨y, _, rfl⟩ := List.mem_map.1 hv; rfl) ?_
                intro w10 HA10 HO10 HE10
                have hwl10 := Q9.out.lt
                have O10 : OW g (putW Xk nx (rawB W z)) w10 := OW.splice Q9.out.hp.wds HRW.out.1 HRW.out.2 HA10.out
                have Q10 : Hid (MQ Bl hb hm g nb (.slice (some ⟨ga, 0, none⟩) O.length cv) half base w (putW Xk nx (rawB W z)) nx (t0 + 1) w10) := Q9.out.words O10 (putW_length _ _ _) (fun q _ hq => HO10.out q hq) HE10.out
                have I10 : Hid (IRow w10 (w.heap.size + 1) (.slice a5 (k + 1) cv5) (mvL W b1 O (k + 1))) := ⟨own_same I9.out.1 fun q hq => HO10.out q (by have := (I9.out.lt q hq).1; have := LIM.out; omega), I9.out.2⟩
                have y5 : w10.cell? ⟨hb, 5, none⟩ = some (.int .i64 nx) := Q10.out.hp.c5
                have yf : w10.frozen? ⟨hb, 5, none⟩ = false := Q10.out.hp.frz 5
                have hS10 : (fun X : World => X.cell? ⟨hb, 3, none⟩ = some (.slice (some ⟨g, 0, none⟩) xl xl) ∧ X.cell? ⟨g, z, none⟩ = some (.int .i64 x)) w10 := ⟨by have := Q10.out.hp.c3; rw [putW_length, ← HXLL.out.1] at this; exact this, HCX2.out O10⟩
                rw [HCN.out]
                clear O10 HA10 HO10 HE10 hwl10
                refine hK.out _ _ hS10 (fun _ => ?_)
                clear hK K
                try simp only [Act.put, List.setIfInBounds_toArray, List.set_cons_zero, List.set_cons_succ]
                refine wpAnyH_take (i := 31) (v := .int .i64 ((nx : Int) + ((1 + mn : Nat) : Int))) rfl (by kernel_rfl) (by kernel_rfl) (by kernel_rfl) (fun _ _ _ h => h) (Or.inl ⟨by kernel_rfl, ?_⟩) hS10 ?_
                · intro W hSw
                  obtain ⟨s0, s1⟩ := hSw
                  go_simp
                  rw [IntKind.wrap_i64]; have := HXLL.out; omega
                try simp only [Act.put, List.setIfInBounds_toArray, List.set_cons_zero, List.set_cons_succ]
                refine wpAnyH_take (i := 32) (v := .pointer (some ⟨hb, 0, none⟩)) rfl (by kernel_rfl) (by kernel_rfl) (by kernel_rfl) (fun _ _ _ h => h) (Or.inl ⟨by kernel_rfl, ?_⟩) hS10 ?_
                · intro W hSw
                  obtain ⟨s0, s1⟩ := hSw
                  go_simp
                try simp only [Act.put, List.setIfInBounds_toArray, List.set_cons_zero, List.set_cons_succ]
                refine wpAnyH_take (i := 33) (v := .pointer (some ⟨hb, 5, none⟩)) rfl (by kernel_rfl) (by kernel_rfl) (by kernel_rfl) (fun _ _ _ h => h) (Or.inl ⟨by kernel_rfl, ?_⟩) hS10 ?_
                · intro W hSw
                  obtain ⟨s0, s1⟩ := hSw
                  go_simp
                try simp only [Act.put, List.setIfInBounds_toArray, List.set_cons_zero, List.set_cons_succ]
                refine wpAnyH_ready (rs := [34]) (by kernel_rfl) (by simp) ?_
                refine AllReadyH.cons rfl (fun K hK => ?_) (AllReadyH.nil)
                · go_simp
                  have Q11 : Hid (MQ Bl hb hm g nb (.slice (some ⟨ga, 0, none⟩) O.length cv) half base w (putW Xk nx (rawB W z)) (nx + (1 + mn)) (t0 + 1) (w10.setCell ⟨hb, 5, none⟩ (.int .i64 ((nx : Int) + (1 + (mn : Int)))))) := by
                    have := Q10.out.nxt (nx + (1 + mn))
                    rwa [show ((nx + (1 + mn) : Nat) : Int) = (nx : Int) + (1 + (mn : Int)) by omega] at this
                  have I11 : Hid (IRow (w10.setCell ⟨hb, 5, none⟩ (.int .i64 ((nx : Int) + (1 + (mn : Int))))) (w.heap.size + 1) (.slice a5 (k + 1) cv5) (mvL W b1 O (k + 1))) := ⟨own_same I10.out.1 fun q hq => Below.heap_setCell _ _ _ _ (by have := (I10.out.lt q hq).1; have := LIM.out; show q ≠ hb; omega), I10.out.2⟩
                  have hS11 : (fun X : World => X.cell? ⟨hb, 3, none⟩ = some (.slice (some ⟨g, 0, none⟩) xl xl) ∧ X.cell? ⟨g, z, none⟩ = some (.int .i64 x)) (w10.setCell ⟨hb, 5, none⟩ (.int .i64 ((nx : Int) + (1 + (mn : Int))))) := ⟨by have := Q11.out.hp.c3; rw [putW_length, ← HXLL.out.1] at this; exact this, cell_setQ _ hS10.2 (fun e => Q10.out.hp.ne.2.1 e)⟩
                  refine hK.out _ _ hS11 (fun _ => ?_)
                  clear hK K
                  refine wpAnyH_done (by kernel_rfl) ?_ _
                  try simp only [Act.put, List.getElem_toArray, List.getElem?_toArray, List.getElem_cons_succ, List.getElem_cons_zero, List.getElem?_cons_succ, List.getElem?_cons_zero, List.setIfInBounds_toArray, List.set_cons_succ, List.set_cons_zero]
                  refine NoPanic.normal ?_
                  clear hS7 hS8 hS9 hS10 hS11 y5 yf n5c m5 HSRC
                  generalize w10.setCell ⟨hb, 5, none⟩ (.int .i64 ((nx : Int) + (1 + (mn : Int)))) = w11 at *
                  go_wp2
                  exact ⟨⟨k + 1, by have := HKL1.out; omega, by first | rfl | go_num, by show MQ _ _ _ _ _ _ _ _ _ _ _ _ _; rw [HXN.out, HFN.out.1]; exact Q11.out, I11⟩, by have := HKL1.out; simp only [intOf]; omega⟩

            · refine step_copy_exact rfl (.tmp 72) (.tmp 89) 24 24 rfl 3 Tryz.underlying24 sizeP_int ⟨g, z, none⟩ (xl - nx) (xl - nx) (1 + mn) (xl - z) g nx rfl rfl (Xk.map (Value.int .i64)) 3 Q9.out.hp.wds.1 ((rawB W z).map (Value.int .i64)) HCL.out HSRC.out HCF.out (fun v hv => by obtain ⟨y, _, rfl⟩ := List.mem_map.1 hv; rfl) ?_
              intro w10 HA10 HO10 HE10
              have hwl10 := Q9.out.lt
              have O10 : OW g (putW Xk nx (rawB W z)) w10 := OW.splice Q9.out.hp.wds HRW.out.1 HRW.out.2 HA10.out
              have Q10 : Hid (MQ Bl hb hm g nb (.slice (some ⟨ga, 0, none⟩) O.length cv) half base w (putW Xk nx (rawB W z)) nx (t0 + 1) w10) := Q9.out.words O10 (putW_length _ _ _) (fun q _ hq => HO10.out q hq) HE10.out
              have I10 : Hid (IRow w10 (w.heap.size + 1) (.slice a5 (k + 1) cv5) (mvL W b1 O (k + 1))) := ⟨own_same I9.out.1 fun q hq => HO10.out q (by have := (I9.out.lt q hq).1; have := LIM.out; omega), I9.out.2⟩
              have y5 : w10.cell? ⟨hb, 5, none⟩ = some (.int .i64 nx) := Q10.out.hp.c5
              have yf : w10.frozen? ⟨hb, 5, none⟩ = false := Q10.out.hp.frz 5
              have hS10 : (fun X : World => X.cell? ⟨hb, 3, none⟩ = some (.slice (some ⟨g, 0, none⟩) xl xl) ∧ X.cell? ⟨g, z, none⟩ = some (.int .i64 x)) w10 := ⟨by have := Q10.out.hp.c3; rw [putW_length, ← HXLL.out.1] at this; exact this, HCX2.out O10⟩
              rw [HCN.out]
              clear O10 HA10 HO10 HE10 hwl10
              refine hK.out _ _ hS10 (fun _ => ?_)
              clear hK K
              try simp only [Act.put, List.setIfInBounds_toArray, List.set_cons_zero, List.set_cons_succ]
              refine wpAnyH_ready (rs := [3]) (by kernel_rfl) (by simp) ?_
              refine AllReadyH.cons rfl (fun K hK => ?_) (AllReadyH.nil)
              · go_simp
                refine hK.out _ _ hS10 (fun _ => ?_)
                clear hK K
                try simp only [Act.put, List.setIfInBounds_toArray, List.set_cons_zero, List.set_cons_succ]
                refine wpAnyH_take (i := 31) (v := .int .i64 ((nx : Int) + ((1 + mn : Nat) : Int))) rfl (by kernel_rfl) (by kernel_rfl) (by kernel_rfl) (fun _ _ _ h => h) (Or.inl ⟨by kernel_rfl, ?_⟩) hS10 ?_
                · intro W hSw
                  obtain ⟨s0, s1⟩ := hSw
                  go_simp
                  rw [IntKind.wrap_i64]; have := HXLL.out; omega
                try simp only [Act.put, List.setIfInBounds_toArray, List.set_cons_zero, List.set_cons_succ]
                refine wpAnyH_take (i := 32) (v := .pointer (some ⟨hb, 0, none⟩)) rfl (by kernel_rfl) (by kernel_rfl) (by kernel_rfl) (fun _ _ _ h => h) (Or.inl ⟨by kernel_rfl, ?_⟩) hS10 ?_
                · intro W hSw
                  obtain ⟨s0, s1⟩ := hSw
                  go_simp
                try simp only [Act.put, List.setIfInBounds_toArray, List.set_cons_zero, List.set_cons_succ]
                refine wpAnyH_take (i := 33) (v := .pointer (some ⟨hb, 5, none⟩)) rfl (by kernel_rfl) (by kernel_rfl) (by kernel_rfl) (fun _ _ _ h => h) (Or.inl ⟨by kernel_rfl, ?_⟩) hS10 ?_
                · intro W hSw
                  obtain ⟨s0, s1⟩ := hSw
                  go_simp
                try simp only [Act.put, List.setIfInBounds_toArray, List.set_cons_zero, List.set_cons_succ]
                refine wpAnyH_ready (rs := [34]) (by kernel_rfl) (by simp) ?_
                refine AllReadyH.cons rfl (fun K hK => ?_) (AllReadyH.nil)
                · go_simp
                  have Q11 : Hid (MQ Bl hb hm g nb (.slice (some ⟨ga, 0, none⟩) O.length cv) half base w (putW Xk nx (rawB W z)) (nx + (1 + mn)) (t0 + 1) (w10.setCell ⟨hb, 5, none⟩ (.int .i64 ((nx : Int) + (1 + (mn : Int)))))) := by
                    have := Q10.out.nxt (nx + (1 + mn))
                    rwa [show ((nx + (1 + mn) : Nat) : Int) = (nx : Int) + (1 + (mn : Int)) by omega] at this
                  have I11 : Hid (IRow (w10.setCell ⟨hb, 5, none⟩ (.int .i64 ((nx : Int) + (1 + (mn : Int))))) (w.heap.size + 1) (.slice a5 (k + 1) cv5) (mvL W b1 O (k + 1))) := ⟨own_same I10.out.1 fun q hq => Below.heap_setCell _ _ _ _ (by have := (I10.out.lt q hq).1; have := LIM.out; show q ≠ hb; omega), I10.out.2⟩
                  have hS11 : (fun X : World => X.cell? ⟨hb, 3, none⟩ = some (.slice (some ⟨g, 0, none⟩) xl xl) ∧ X.cell? ⟨g, z, none⟩ = some (.int .i64 x)) (w10.setCell ⟨hb, 5, none⟩ (.int .i64 ((nx : Int) + (1 + (mn : Int))))) := ⟨by have := Q11.out.hp.c3; rw [putW_length, ← HXLL.out.1] at this; exact this, cell_setQ _ hS10.2 (fun e => Q10.out.hp.ne.2.1 e)⟩
                  refine hK.out _ _ hS11 (fun _ => ?_)
                  clear hK K
                  refine wpAnyH_done (by kernel_rfl) ?_ _
                  try simp only [Act.put, List.getElem_toArray, List.getElem?_toArray, List.getElem_cons_succ, List.getElem_cons_zero, List.getElem?_cons_succ, List.getElem?_cons_zero, List.setIfInBounds_toArray, List.set_cons_succ, List.set_cons_zero]
                  refine NoPanic.normal ?_
                  clear hS7 hS8 hS9 hS10 hS11 y5 yf n5c m5 HSRC
                  generalize w10.setCell ⟨hb, 5, none⟩ (.int .i64 ((nx : Int) + (1 + (mn : Int)))) = w11 at *
                  go_wp2
                  exact ⟨⟨k + 1, by have := HKL1.out; omega, by first | rfl | go_num, by show MQ _ _ _ _ _ _ _ _ _ _ _ _ _; rw [HXN.out, HFN.out.1]; exact Q11.out, I11⟩, by have := HKL1.out; simp only [intOf]; omega⟩

        · go_simp
          go_at_call 49
          refine (hcs _).mono ?_
          rintro e w9 ⟨rfl, hb9⟩
          have Q9 : Hid (MQ Bl hb hm g nb (.slice (some ⟨ga, 0, none⟩) O.length cv) half base w Xk nx (t0 + 1) w9) := Q8.out.on hb9
          have I9 : Hid (IRow w9 (w.heap.size + 1) (.slice a5 (k + 1) cv5) (mvL W b1 O (k + 1))) := I8.out.keep hb9
          have HSRC : Hid (∀ j v, ((rawB W z).map (Value.int .i64))[j]? = some v → w9.cell? ((⟨g, z, none⟩ : Addr).add j) = some v) := fun j v hj => HSRC9.out Q9.out.hp.wds j v hj
          have n5c : w9.cell? ⟨hb, 5, none⟩ = some (.int .i64 nx) := Q9.out.hp.c5
          have hS9 : (fun X : World => X.cell? ⟨hb, 3, none⟩ = some (.slice (some ⟨g, 0, none⟩) xl xl) ∧ X.cell? ⟨g, z, none⟩ = some (.int .i64 x)) w9 := ⟨by rw [HXLL.out.1]; exact Q9.out.hp.c3, HCX.out Q9.out.hp.wds⟩
          clear hb9
          refine hK.out _ _ hS9 (fun _ => ?_)
          clear hK K
          try simp only [Act.put, List.setIfInBounds_toArray, List.set_cons_zero, List.set_cons_succ]
          refine wpAnyH_take (i := 28) (v := .int .i64 ((z : Int) + (1 + (mn : Int)))) rfl (by kernel_rfl) (by kernel_rfl) (by kernel_rfl) (fun _ _ _ h => h) (Or.inl ⟨by kernel_rfl, ?_⟩) hS9 ?_
          · intro W hSw
            obtain ⟨s0, s1⟩ := hSw
            go_simp
          try simp only [Act.put, List.setIfInBounds_toArray, List.set_cons_zero, List.set_cons_succ]
          refine wpAnyH_take (i := 29) (v := .slice (some ⟨g, z, none⟩) (1 + mn) (xl - z)) rfl (by kernel_rfl) (by kernel_rfl) (by kernel_rfl) (fun _ _ _ h => h) (Or.inl ⟨by kernel_rfl, ?_⟩) hS9 ?_
          · intro W hSw
            obtain ⟨s0, s1⟩ := hSw
            go_simp
            omega
          try simp only [Act.put, List.setIfInBounds_toArray, List.set_cons_zero, List.set_cons_succ]
          refine wpAnyH_ready (rs := [3, 11]) (by kernel_rfl) (by simp) ?_
          refine AllReadyH.cons rfl (fun K hK => ?_) (AllReadyH.cons rfl (fun K hK => ?_) (AllReadyH.nil))
          · go_simp
            refine hK.out _ _ hS9 (fun _ => ?_)
            clear hK K
            try simp only [Act.put, List.setIfInBounds_toArray, List.set_cons_zero, List.set_cons_succ]
            refine wpAnyH_ready (rs := [11]) (by kernel_rfl) (by simp) ?_
            refine AllReadyH.cons rfl (fun K hK => ?_) (AllReadyH.nil)
            · go_simp
              refine hK.out _ _ hS9 (fun _ => ?_)
              clear hK K
              try simp only [Act.put, List.setIfInBounds_toArray, List.set_cons_zero, List.set_cons_succ]
              refine wpAnyH_take (i := 12) (v := .slice (some ⟨g, nx, none⟩) (xl - nx) (xl - nx)) rfl (by kernel_rfl) (by kernel_rfl) (by kernel_rfl) (fun _ _ _ h => h) (Or.inl ⟨by kernel_rfl, ?_⟩) hS9 ?_
              · intro W hSw
                obtain ⟨s0, s1⟩ := hSw
                go_simp
                omega
              try simp only [Act.put, List.setIfInBounds_toArray, List.set_cons_zero, List.set_cons_succ]
              refine wpAnyH_ready (rs := [30]) (by kernel_rfl) (by simp) ?_
              refine AllReadyH.cons rfl (fun K hK => ?_) (AllReadyH.nil)
              · refine step_copy_exact rfl (.tmp 72) (.tmp 89) 24 24 rfl 3 Tryz.underlying24 sizeP_int ⟨g, z, none⟩ (xl - nx) (xl - nx) (1 + mn) (xl - z) g nx rfl rfl (Xk.map (Value.int .i64)) 3 Q9.out.hp.wds.1 ((rawB W z).map (Value.int .i64)) HCL.out HSRC.out HCF.out (fun v hv => by obtain ⟨y, _, rfl⟩ := List.mem_map.1 hv; rfl) ?_
                intro w10 HA10 HO10 HE10
                have hwl10 := Q9.out.lt
                have O10 : OW g (putW Xk nx (rawB W z)) w10 := OW.splice Q9.out.hp.wds HRW.out.1 HRW.out.2 HA10.out
                have Q10 : Hid (MQ Bl hb hm g nb (.slice (some ⟨ga, 0, none⟩) O.length cv) half base w (putW Xk nx (rawB W z)) nx (t0 + 1) w10) := Q9.out.words O10 (putW_length _ _ _) (fun q _ hq => HO10.out q hq) HE10.out
                have I10 : Hid (IRow w10 (w.heap.size + 1) (.slice a5 (k + 1) cv5) (mvL W b1 O (k + 1))) := ⟨own_same I9.out.1 fun q hq => HO10.out q (by have := (I9.out.lt q hq).1; have := LIM.out; omega), I9.out.2⟩
                have y5 : w10.cell? ⟨hb, 5, none⟩ = some (.int .i64 nx) := Q10.out.hp.c5
                have yf : w10.frozen? ⟨hb, 5, none⟩ = false := Q10.out.hp.frz 5
                have hS10 : (fun X : World => X.cell? ⟨hb, 3, none⟩ = some (.slice (some ⟨g, 0, none⟩) xl xl) ∧ X.cell? ⟨g, z, none⟩ = some (.int .i64 x)) w10 := ⟨by have := Q10.out.hp.c3; rw [putW_length, ← HXLL.out.1] at this; exact this, HCX2.out O10⟩
                rw [HCN.out]
                clear O10 HA10 HO10 HE10 hwl10
                refine hK.out _ _ hS10 (fun _ => ?_)
                clear hK K
                try simp only [Act.put, List.setIfInBounds_toArray, List.set_cons_zero, List.set_cons_succ]
                refine wpAnyH_take (i := 31) (v := .int .i64 ((nx : Int) + ((1 + mn : Nat) : Int))) rfl (by kernel_rfl) (by kernel_rfl) (by kernel_rfl) (fun _ _ _ h => h) (Or.inl ⟨by kernel_rfl, ?_⟩) hS10 ?_
                · intro W hSw
                  obtain ⟨s0, s1⟩ := hSw
                  go_simp
                  rw [IntKind.wrap_i64]; have := HXLL.out; omega
                try simp only [Act.put, List.setIfInBounds_toArray, List.set_cons_zero, List.set_cons_succ]
                refine wpAnyH_take (i := 32) (v := .pointer (some ⟨hb, 0, none⟩)) rfl (by kernel_rfl) (by kernel_rfl) (by kernel_rfl) (fun _ _ _ h => h) (Or.inl ⟨by kernel_rfl, ?_⟩) hS10 ?_
                · intro W hSw
                  obtain ⟨s0, s1⟩ := hSw
                  go_simp
                try simp only [Act.put, List.setIfInBounds_toArray, List.set_cons_zero, List.set_cons_succ]
                refine wpAnyH_take (i := 33) (v := .pointer (some ⟨hb, 5, none⟩)) rfl (by kernel_rfl) (by kernel_rfl) (by kernel_rfl) (fun _ _ _ h => h) (Or.inl ⟨by kernel_rfl, ?_⟩) hS10 ?_
                · intro W hSw
                  obtain ⟨s0, s1⟩ := hSw
                  go_simp
                try simp only [Act.put, List.setIfInBounds_toArray, List.set_cons_zero, List.set_cons_succ]
                refine wpAnyH_ready (rs := [34]) (by kernel_rfl) (by simp) ?_
                refine AllReadyH.cons rfl (fun K hK => ?_) (AllReadyH.nil)
                · go_simp
                  have Q11 : Hid (MQ Bl hb hm g nb (.slice (some ⟨ga, 0, none⟩) O.length cv) half base w (putW Xk nx (rawB W z)) (nx + (1 + mn)) (t0 + 1) (w10.setCell ⟨hb, 5, none⟩ (.int .i64 ((nx : Int) + (1 + (mn : Int)))))) := by
                    have := Q10.out.nxt (nx + (1 + mn))
                    rwa [show ((nx + (1 + mn) : Nat) : Int) = (nx : Int) + (1 + (mn : Int)) by omega] at this
                  have I11 : Hid (IRow (w10.setCell ⟨hb, 5, none⟩ (.int .i64 ((nx : Int) + (1 + (mn : Int))))) (w.heap.size + 1) (.slice a5 (k + 1) cv5) (mvL W b1 O (k + 1))) := ⟨own_same I10.out.1 fun q hq => Below.heap_setCell _ _ _ _ (by have := (I10.out.lt q hq).1; have := LIM.out; show q ≠ hb; omega), I10.out.2⟩
                  have hS11 : (fun X : World => X.cell? ⟨hb, 3, none⟩ = some (.slice (some ⟨g, 0, none⟩) xl xl) ∧ X.cell? ⟨g, z, none⟩ = some (.int .i64 x)) (w10.setCell ⟨hb, 5, none⟩ (.int .i64 ((nx : Int) + (1 + (mn : Int))))) := ⟨by have := Q11.out.hp.c3; rw [putW_length, ← HXLL.out.1] at this; exact this, cell_setQ _ hS10.2 (fun e => Q10.out.hp.ne.2.1 e)⟩
                  refine hK.out _ _ hS11 (fun _ => ?_)
                  clear hK K
                  refine wpAnyH_done (by kernel_rfl) ?_ _
                  try simp only [Act.put, List.getElem_toArray, List.getElem?_toArray, List.getElem_cons_succ, List.getElem_cons_zero, List.getElem?_cons_succ, List.getElem?_cons_zero, List.setIfInBounds_toArray, List.set_cons_succ, List.set_cons_zero]
                  refine NoPanic.normal ?_
                  clear hS7 hS8 hS9 hS10 hS11 y5 yf n5c m5 HSRC
                  generalize w10.setCell ⟨hb, 5, none⟩ (.int .i64 ((nx : Int) + (1 + (mn : Int)))) = w11 at *
                  go_wp2
                  exact ⟨⟨k + 1, by have := HKL1.out; omega, by first | rfl | go_num, by show MQ _ _ _ _ _ _ _ _ _ _ _ _ _; rw [HXN.out, HFN.out.1]; exact Q11.out, I11⟩, by have := HKL1.out; simp only [intOf]; omega⟩

          · go_simp
            refine hK.out _ _ hS9 (fun _ => ?_)
            clear hK K
            try simp only [Act.put, List.setIfInBounds_toArray, List.set_cons_zero, List.set_cons_succ]
            refine wpAnyH_take (i := 12) (v := .slice (some ⟨g, nx, none⟩) (xl - nx) (xl - nx)) rfl (by kernel_rfl) (by kernel_rfl) (by kernel_rfl) (fun _ _ _ h => h) (Or.inl ⟨by kernel_rfl, ?_⟩) hS9 ?_
            · intro W hSw
              obtain ⟨s0, s1⟩ := hSw
              go_simp
              omega
            try simp only [Act.put, List.setIfInBounds_toArray, List.set_cons_zero, List.set_cons_succ]
            refine wpAnyH_ready (rs := [3, 30]) (by kernel_rfl) (by simp) ?_
            refine AllReadyH.cons rfl (fun K hK => ?_) (AllReadyH.cons rfl (fun K hK => ?_) (AllReadyH.nil))
            · go_simp
              refine hK.out _ _ hS9 (fun _ => ?_)
              clear hK K
              try simp only [Act.put, List.setIfInBounds_toArray, List.set_cons_zero, List.set_cons_succ]
              refine wpAnyH_ready (rs := [30]) (by kernel_rfl) (by simp) ?_
              refine AllReadyH.cons rfl (fun K hK => ?_) (AllReadyH.nil)
              · refine step_copy_exact rfl (.tmp 72) (.tmp 89) 24 24 rfl 3 Tryz.underlying24 sizeP_int ⟨g, z, none⟩ (xl - nx) (xl - nx) (1 + mn) (xl - z) g nx rfl rfl (Xk.map (Value.int .i64)) 3 Q9.out.hp.wds.1 ((rawB W z).map (Value.int .i64)) HCL.out HSRC.out HCF.out (fun v hv => by obtain ⟨y, _, rfl⟩ := List.mem_map.1 hv; rfl) ?_
                intro w10 HA10 HO10 HE10
                have hwl10 := Q9.out.lt
                have O10 : OW g (putW Xk nx (rawB W z)) w10 := OW.splice Q9.out.hp.wds HRW.out.1 HRW.out.2 HA10.out
                have Q10 : Hid (MQ Bl hb hm g nb (.slice (some ⟨ga, 0, none⟩) O.length cv) half base w (putW Xk nx (rawB W z)) nx (t0 + 1) w10) := Q9.out.words O10 (putW_length _ _ _) (fun q _ hq => HO10.out q hq) HE10.out
                have I10 : Hid (IRow w10 (w.heap.size + 1) (.slice a5 (k + 1) cv5) (mvL W b1 O (k + 1))) := ⟨own_same I9.out.1 fun q hq => HO10.out q (by have := (I9.out.lt q hq).1; have := LIM.out; omega), I9.out.2⟩
                have y5 : w10.cell? ⟨hb, 5, none⟩ = some (.int .i64 nx) := Q10.out.hp.c5
                have yf : w10.frozen? ⟨hb, 5, none⟩ = false := Q10.out.hp.frz 5
                have hS10 : (fun X : World => X.cell? ⟨hb, 3, none⟩ = some (.slice (some ⟨g, 0, none⟩) xl xl) ∧ X.cell? ⟨g, z, none⟩ = some (.int .i64 x)) w10 := ⟨by have := Q10.out.hp.c3; rw [putW_length, ← HXLL.out.1] at this; exact this, HCX2.out O10⟩
                rw [HCN.out]
                clear O10 HA10 HO10 HE10 hwl10
                refine hK.out _ _ hS10 (fun _ => ?_)
                clear hK K
                try simp only [Act.put, List.setIfInBounds_toArray, List.set_cons_zero, List.set_cons_succ]
                refine wpAnyH_take (i := 31) (v := .int .i64 ((nx : Int) + ((1 + mn : Nat) : Int))) rfl (by kernel_rfl) (by kernel_rfl) (by kernel_rfl) (fun _ _ _ h => h) (Or.inl ⟨by kernel_rfl, ?_⟩) hS10 ?_
                · intro W hSw
                  obtain ⟨s0, s1⟩ := hSw
                  go_simp
                  rw [IntKind.wrap_i64]; have := HXLL.out; omega
                try simp only [Act.put, List.setIfInBounds_toArray, List.set_cons_zero, List.set_cons_succ]
                refine wpAnyH_take (i := 32) (v := .pointer (some ⟨hb, 0, none⟩)) rfl (by kernel_rfl) (by kernel_rfl) (by kernel_rfl) (fun _ _ _ h => h) (Or.inl ⟨by kernel_rfl, ?_⟩) hS10 ?_
                · intro W hSw
                  obtain ⟨s0, s1⟩ := hSw
                  go_simp
                try simp only [Act.put, List.setIfInBounds_toArray, List.set_cons_zero, List.set_cons_succ]
                refine wpAnyH_take (i := 33) (v := .pointer (some ⟨hb, 5, none⟩)) rfl (by kernel_rfl) (by kernel_rfl) (by kernel_rfl) (fun _ _ _ h => h) (Or.inl ⟨by kernel_rfl, ?_⟩) hS10 ?_
                · intro W hSw
                  obtain ⟨s0, s1⟩ := hSw
                  go_simp
                try simp only [Act.put, List.setIfInBounds_toArray, List.set_cons_zero, List.set_cons_succ]
                refine wpAnyH_ready (rs := [34]) (by kernel_rfl) (by simp) ?_
                refine AllReadyH.cons rfl (fun K hK => ?_) (AllReadyH.nil)
                · go_simp
                  have Q11 : Hid (MQ Bl hb hm g nb (.slice (some ⟨ga, 0, none⟩) O.length cv) half base w (putW Xk nx (rawB W z)) (nx + (1 + mn)) (t0 + 1) (w10.setCell ⟨hb, 5, none⟩ (.int .i64 ((nx : Int) + (1 + (mn : Int)))))) := by
                    have := Q10.out.nxt (nx + (1 + mn))
                    rwa [show ((nx + (1 + mn) : Nat) : Int) = (nx : Int) + (1 + (mn : Int)) by omega] at this
                  have I11 : Hid (IRow (w10.setCell ⟨hb, 5, none⟩ (.int .i64 ((nx : Int) + (1 + (mn : Int))))) (w.heap.size + 1) (.slice a5 (k + 1) cv5) (mvL W b1 O (k + 1))) := ⟨own_same I10.out.1 fun q hq => Below.heap_setCell _ _ _ _ (by have := (I10.out.lt q hq).1; have := LIM.out; show q ≠ hb; omega), I10.out.2⟩
                  have hS11 : (fun X : World => X.cell? ⟨hb, 3, none⟩ = some (.slice (some ⟨g, 0, none⟩) xl xl) ∧ X.cell? ⟨g, z, none⟩ = some (.int .i64 x)) (w10.setCell ⟨hb, 5, none⟩ (.int .i64 ((nx : Int) + (1 + (mn : Int))))) := ⟨by have := Q11.out.hp.c3; rw [putW_length, ← HXLL.out.1] at this; exact this, cell_setQ _ hS10.2 (fun e => Q10.out.hp.ne.2.1 e)⟩
                  refine hK.out _ _ hS11 (fun _ => ?_)
                  clear hK K
                  refine wpAnyH_done (by kernel_rfl) ?_ _
                  try simp only [Act.put, List.getElem_toArray, List.getElem?_toArray, List.getElem_cons_succ, List.getElem_cons_zero, List.getElem?_cons_succ, List.getElem?_cons_zero, List.setIfInBounds_toArray, List.set_cons_succ, List.set_cons_zero]
                  refine NoPanic.normal ?_
                  clear hS7 hS8 hS9 hS10 hS11 y5 yf n5c m5 HSRC
                  generalize w10.setCell ⟨hb, 5, none⟩ (.int .i64 ((nx : Int) + (1 + (mn : Int)))) = w11 at *
                  go_wp2
                  exact ⟨⟨k + 1, by have := HKL1.out; omega, by first | rfl | go_num, by show MQ _ _ _ _ _ _ _ _ _ _ _ _ _; rw [HXN.out, HFN.out.1]; exact Q11.out, I11⟩, by have := HKL1.out; simp only [intOf]; omega⟩

            · refine step_copy_exact rfl (.tmp 72) (.tmp 89) 24 24 rfl 3 Tryz.underlying24 sizeP_int ⟨g, z, none⟩ (xl - nx) (xl - nx) (1 + mn) (xl - z) g nx rfl rfl (Xk.map (Value.int .i64)) 3 Q9.out.hp.wds.1 ((rawB W z).map (Value.int .i64)) HCL.out HSRC.out HCF.out (fun v hv => by obtain ⟨y, _, rfl⟩ := List.mem_map.1 hv; rfl) ?_
              intro w10 HA10 HO10 HE10
              have hwl10 := Q9.out.lt
              have O10 : OW g (putW Xk nx (rawB W z)) w10 := OW.splice Q9.out.hp.wds HRW.out.1 HRW.out.2 HA10.out
              have Q10 : Hid (MQ Bl hb hm g nb (.slice (some ⟨ga, 0, none⟩) O.length cv) half base w (putW Xk nx (rawB W z)) nx (t0 + 1) w10) := Q9.out.words O10 (putW_length _ _ _) (fun q _ hq => HO10.out q hq) HE10.out
              have I10 : Hid (IRow w10 (w.heap.size + 1) (.slice a5 (k + 1) cv5) (mvL W b1 O (k + 1))) := ⟨own_same I9.out.1 fun q hq => HO10.out q (by have := (I9.out.lt q hq).1; have := LIM.out; omega), I9.out.2⟩
              have y5 : w10.cell? ⟨hb, 5, none⟩ = some (.int .i64 nx) := Q10.out.hp.c5
              have yf : w10.frozen? ⟨hb, 5, none⟩ = false := Q10.out.hp.frz 5
              have hS10 : (fun X : World => X.cell? ⟨hb, 3, none⟩ = some (.slice (some ⟨g, 0, none⟩) xl xl) ∧ X.cell? ⟨g, z, none⟩ = some (.int .i64 x)) w10 := ⟨by have := Q10.out.hp.c3; rw [putW_length, ← HXLL.out.1] at this; exact this, HCX2.out O10⟩
              rw [HCN.out]
              clear O10 HA10 HO10 HE10 hwl10
              refine hK.out _ _ hS10 (fun _ => ?_)
              clear hK K
              try simp only [Act.put, List.setIfInBounds_toArray, List.set_cons_zero, List.set_cons_succ]
              refine wpAnyH_ready (rs := [3]) (by kernel_rfl) (by simp) ?_
              refine AllReadyH.cons rfl (fun K hK => ?_) (AllReadyH.nil)
              · go_simp
                refine hK.out _ _ hS10 (fun _ => ?_)
                clear hK K
                try simp only [Act.put, List.setIfInBounds_toArray, List.set_cons_zero, List.set_cons_succ]
                refine wpAnyH_take (i := 31) (v := .int .i64 ((nx : Int) + ((1 + mn : Nat) : Int))) rfl (by kernel_rfl) (by kernel_rfl) (by kernel_rfl) (fun _ _ _ h => h) (Or.inl ⟨by kernel_rfl, ?_⟩) hS10 ?_
                · intro W hSw
                  obtain ⟨s0, s1⟩ := hSw
                  go_simp
                  rw [IntKind.wrap_i64]; have := HXLL.out; omega
                try simp only [Act.put, List.setIfInBounds_toArray, List.set_cons_zero, List.set_cons_succ]
                refine wpAnyH_take (i := 32) (v := .pointer (some ⟨hb, 0, none⟩)) rfl (by kernel_rfl) (by kernel_rfl) (by kernel_rfl) (fun _ _ _ h => h) (Or.inl ⟨by kernel_rfl, ?_⟩) hS10 ?_
                · intro W hSw
                  obtain ⟨s0, s1⟩ := hSw
                  go_simp
                try simp only [Act.put, List.setIfInBounds_toArray, List.set_cons_zero, List.set_cons_succ]
                refine wpAnyH_take (i := 33) (v := .pointer (some ⟨hb, 5, none⟩)) rfl (by kernel_rfl) (by kernel_rfl) (by kernel_rfl) (fun _ _ _ h => h) (Or.inl ⟨by kernel_rfl, ?_⟩) hS10 ?_
                · intro W hSw
                  obtain ⟨s0, s1⟩ := hSw
                  go_simp
                try simp only [Act.put, List.setIfInBounds_toArray, List.set_cons_zero, List.set_cons_succ]
                refine wpAnyH_ready (rs := [34]) (by kernel_rfl) (by simp) ?_
                refine AllReadyH.cons rfl (fun K hK => ?_) (AllReadyH.nil)
                · go_simp
                  have Q11 : Hid (MQ Bl hb hm g nb (.slice (some ⟨ga, 0, none⟩) O.length cv) half base w (putW Xk nx (rawB W z)) (nx + (1 + mn)) (t0 + 1) (w10.setCell ⟨hb, 5, none⟩ (.int .i64 ((nx : Int) + (1 + (mn : Int)))))) := by
                    have := Q10.out.nxt (nx + (1 + mn))
                    rwa [show ((nx + (1 + mn) : Nat) : Int) = (nx : Int) + (1 + (mn : Int)) by omega] at this
                  have I11 : Hid (IRow (w10.setCell ⟨hb, 5, none⟩ (.int .i64 ((nx : Int) + (1 + (mn : Int))))) (w.heap.size + 1) (.slice a5 (k + 1) cv5) (mvL W b1 O (k + 1))) := ⟨own_same I10.out.1 fun q hq => Below.heap_setCell _ _ _ _ (by have := (I10.out.lt q hq).1; have := LIM.out; show q ≠ hb; omega), I10.out.2⟩
                  have hS11 : (fun X : World => X.cell? ⟨hb, 3, none⟩ = some (.slice (some ⟨g, 0, none⟩) xl xl) ∧ X.cell? ⟨g, z, none⟩ = some (.int .i64 x)) (w10.setCell ⟨hb, 5, none⟩ (.int .i64 ((nx : Int) + (1 + (mn : Int))))) := ⟨by have := Q11.out.hp.c3; rw [putW_length, ← HXLL.out.1] at this; exact this, cell_setQ _ hS10.2 (fun e => Q10.out.hp.ne.2.1 e)⟩
                  refine hK.out _ _ hS11 (fun _ => ?_)
                  clear hK K
                  refine wpAnyH_done (by kernel_rfl) ?_ _
                  try simp only [Act.put, List.getElem_toArray, List.getElem?_toArray, List.getElem_cons_succ, List.getElem_cons_zero, List.getElem?_cons_succ, List.getElem?_cons_zero, List.setIfInBounds_toArray, List.set_cons_succ, List.set_cons_zero]
                  refine NoPanic.normal ?_
                  clear hS7 hS8 hS9 hS10 hS11 y5 yf n5c m5 HSRC
                  generalize w10.setCell ⟨hb, 5, none⟩ (.int .i64 ((nx : Int) + (1 + (mn : Int)))) = w11 at *
                  go_wp2
                  exact ⟨⟨k + 1, by have := HKL1.out; omega, by first | rfl | go_num, by show MQ _ _ _ _ _ _ _ _ _ _ _ _ _; rw [HXN.out, HFN.out.1]; exact Q11.out, I11⟩, by have := HKL1.out; simp only [intOf]; omega⟩

    · obtain rfl : k = O.length := by omega
      have hkk : ¬ ((O.length : Nat) : Int) < ((O.length : Nat) : Int) := by omega
      obtain ⟨am, cm, hvm⟩ := own_form HI.out.1
      rw [mvL_len] at hvm
      subst hvm
      have HPN : Hid (posO W b1 O O.length ≤ b1 + half) := by have := HDN.out.1; rw [← HB1.out.2.1] at this; exact this
      have HMET : Hid ((∀ y ∈ rs, metO O y) ∧ ∀ k (hk : k < O.length) m, m ≠ 0 → m < szP W O[k] → metO O (W.getD ((O[k]).toNat + m) 0)) := by
        have := order_met HWW.out.2 HTT.out
        show _ ∧ _
        rw [HOO.out]
        exact this
      have HMV : Hid (∀ x ∈ mvL W b1 O O.length, 0 ≤ x ∧ x ≤ 6000) := fun x hx => by
        unfold mvL at hx
        obtain ⟨i, hi, rfl⟩ := List.mem_map.1 hx
        have h1 := posO_le (W := W) (b := b1) (O := O) (i := i) (j := O.length) (by have := List.mem_range.1 hi; omega) (Nat.le_refl _)
        have h2 := HPN.out
        have h3 := HSZ.out
        have h4 := HB1.out.2.2
        omega
      go_wp2
      go_loopw [97] (fun v97 wr => ∃ (k : Nat), k ≤ O.length ∧ v97 = .int .i64 k ∧ Hid (MQ Bl hb hm g nb (.slice av O.length cv) half base w (tnW (turnM O (mvL W b1 O O.length)) W b1 O (cpW W b1 O O.length) k) (posO W b1 O O.length) (t0 + 1) wr) ∧ Hid (IRow wr (w.heap.size + 1) (.slice am O.length cm) (mvL W b1 O O.length))) (fun v97 _ => O.length - (intOf v97).toNat)
      case atStart => exact ⟨0, Nat.zero_le _, rfl, HQ, HI⟩
      case round =>
        obtain ⟨k, hk, rfl, HQ2, HI2⟩ := hrel
        by_cases hlt : k < O.length
        · obtain ⟨z, hz, hz1, hz2⟩ := HPI.out _ (List.getElem_mem hlt)
          obtain ⟨mn, hmn⟩ : ∃ t : Nat, (manyF (W.getD z 0)).toNat = t := ⟨_, rfl⟩
          have HMN : Hid ((manyF (W.getD z 0)).toNat = mn) := hmn
          have hpn := HPN.out
          have hsz := HSZ.out
          have hbb := HB1.out.2.2
          have hszk : szP W O[k] = 1 + mn := by unfold szP; rw [hz, Int.toNat_natCast, hmn]
          have hps := posO_succ (W := W) (b := b1) (O := O) hlt
          have hple := posO_le (W := W) (b := b1) (O := O) (i := k + 1) (j := O.length) (by omega) (Nat.le_refl _)
          have hXl : (tnW (turnM O (mvL W b1 O O.length)) W b1 O (cpW W b1 O O.length) k).length = W.length := by rw [tnW_len, cpW_len]
          have hcpl : posO W b1 O O.length ≤ (cpW W b1 O O.length).length := by rw [cpW_len]; omega
          have hget : ∀ m, m < 1 + mn → (tnW (turnM O (mvL W b1 O O.length)) W b1 O (cpW W b1 O O.length) k).getD (posO W b1 O k + m) 0 = W.getD (z + m) 0 := fun m hm => by
            rw [tn_get hcpl (by omega) k hlt m (by rw [hszk]; exact hm), if_neg (by omega), cp_new (by omega) (Nat.le_refl _) k hlt hlt m (by rw [hszk]; exact hm), hz, Int.toNat_natCast]
          have hmet : ∀ m, m ≠ 0 → m < 1 + mn → metO O (W.getD (z + m) 0) := fun m h0 hm => by
            have := HMET.out.2 k hlt m h0 (by rw [hszk]; exact hm)
            rwa [hz, Int.toNat_natCast] at this
          rw [hszk] at hps
          obtain ⟨p, hp⟩ : ∃ p, p = posO W b1 O k := ⟨_, rfl⟩
          rw [← hp] at hget hps
          have hnext : tnW (turnM O (mvL W b1 O O.length)) W b1 O (cpW W b1 O O.length) (k + 1) = turnsX (turnM O (mvL W b1 O O.length)) (tnW (turnM O (mvL W b1 O O.length)) W b1 O (cpW W b1 O O.length) k) (p + 1) mn := by
            rw [tnW, ← hp, getD_O hlt, hz, Int.toNat_natCast, hmn]
          obtain ⟨Xk, hXk⟩ : ∃ Xk, Xk = tnW (turnM O (mvL W b1 O O.length)) W b1 O (cpW W b1 O O.length) k := ⟨_, rfl⟩
          rw [← hXk] at HQ2 hXl hget hnext
          have HNXT : Hid _ := hnext
          have hp6 : p + (1 + mn) ≤ Xk.length := by rw [hXl]; omega
          have hX6 : Xk.length ≤ 6000 := by rw [hXl]; omega
          rcases HI2.out.open with ⟨-, h0⟩ | ⟨gm, cpm, hv, hg1, hg2, -, -, hcl, -⟩
          · have := mvL_len W b1 O O.length
            rw [h0] at this
            simp at this
            omega
          rw [mvL_len] at hv
          obtain ⟨rfl, rfl⟩ : am = some ⟨gm, 0, none⟩ ∧ cm = cpm := by simp only [Value.slice.injEq] at hv; exact ⟨hv.1, hv.2.2⟩
          have e0 : wr.cell? ⟨gm, k, none⟩ = some (.int .i64 p) := by
            have h1 := hcl k (by rw [mvL_len]; exact hlt)
            have h2 := mvL_get (W := W) (b := b1) (O := O) (k := O.length) (i := k) hlt
            rw [List.getD_eq_getElem?_getD, List.getElem?_eq_getElem (by rw [mvL_len]; exact hlt)] at h2
            rw [h1]
            simp only [Option.getD_some] at h2
            rw [h2, ← hp]
          have hx0 := hget 0 (by omega)
          rw [Nat.add_zero, Nat.add_zero] at hx0
          have hmk : (manyF (Xk.getD p 0)).toNat = mn := by rw [hx0]; exact hmn
          have hka := hkids_is (HQ2.out.drewN 1).hp p mn hmk (by omega)
          have HGM : Hid (w.heap.size + 1 ≤ gm ∧ gm < wr.heap.size) := ⟨hg1, hg2⟩
          have HGT : Hid (∀ m, m < 1 + mn → Xk.getD (p + m) 0 = W.getD (z + m) 0) := hget
          have HME2 : Hid (∀ m, m ≠ 0 → m < 1 + mn → metO O (W.getD (z + m) 0)) := hmet
          have HPX : Hid (p + (1 + mn) ≤ Xk.length ∧ Xk.length ≤ 6000 ∧ Xk.length = W.length) := ⟨hp6, hX6, hXl⟩
          have kI : (k : Int) < (O.length : Int) := by omega
          have k0 : (0 : Int) ≤ (k : Int) := by omega
          have q0 := HQ2.out.b0
          have q1 := HQ2.out.b1
          have q2 := HQ2.out.b2
          have q0n : wr.drew.cell? ⟨w.heap.size, 0, none⟩ = some (.int .i64 base) := q0
          have q1n : wr.drew.cell? ⟨w.heap.size, 1, none⟩ = some (.slice av O.length cv) := q1
          have q2n : wr.drew.cell? ⟨w.heap.size, 2, none⟩ = some (.slice (some ⟨nb, 0, none⟩) half half) := q2
          have HKLT : Hid (k < O.length) := hlt
          have hk3 : k ≤ 3000 := by have := NN.out.siz; omega
          have HTURN : Hid (∀ (X : World) (ok ck : Nat), MQ Bl hb hm g nb (.slice av O.length cv) half base w Xk (posO W b1 O O.length) (t0 + 1) X → IRow X (w.heap.size + 1) (.slice (some ⟨gm, 0, none⟩) O.length cm) (mvL W b1 O O.length) → (mn = 0 ∨ ok = p + 1) → ok + mn ≤ Xk.length →
              Calls Tryz.prog 50 #[.agg #[.int .i64 base, .slice av O.length cv, .slice (some ⟨nb, 0, none⟩) half half], .slice (some ⟨g, ok, none⟩) mn ck, .slice (some ⟨gm, 0, none⟩) O.length cm] X fun e w' => e = .returned (.tuple #[]) ∧ OW g (turnsX (turnM O (mvL W b1 O O.length)) Xk ok mn) w' ∧ (∀ k, k < X.heap.size → k ≠ g → w'.heap[k]? = X.heap[k]?) ∧ Below g X w') := fun X ok ck R2 J2 hok hol => by
            have hd0 := HD.out
            have hn0 := NN.out.lo
            have NM2 : Met B2 nb (.slice av O.length cv) base half O X := NN.out.other (R2.oth nb NN.out.lt (by omega) (by omega) (by omega)) fun q hq => R2.oth q (NN.out.plc.lt q hq).2 (by have := (NN.out.plc.lt q hq).1; omega) (by have := (NN.out.plc.lt q hq).1; omega) (by have := (NN.out.plc.lt q hq).1; omega)
            have hgmg : (Value.slice (some ⟨gm, 0, none⟩) O.length cm).ownBlock ≠ some g := by
              intro e
              simp only [Value.ownBlock, Option.some.injEq] at e
              have := HGM.out; have := LIM.out; omega
            refine turn_is NM2 R2.hp.wds (by omega) ⟨own_base J2.1 (Nat.zero_le _), J2.2⟩ hgmg (mvL_len _ _ _ _) HMV.out ok mn ck hol (by have := HPX.out; omega) (fun j hj he => ?_)
            have hok' : ok = p + 1 := by rcases hok with h | h; omega; exact h
            subst hok'
            have h1 := HGT.out (1 + j) (by omega)
            rw [show p + (1 + j) = p + 1 + j by omega] at h1
            rw [h1] at he ⊢
            exact (HME2.out (1 + j) (by omega) (by omega)).resolve_left (by omega)
          clear hz hz1 hz2 hmn hpn hsz hbb hszk hps hple hXl hcpl hget hmet hp hnext hXk hp6 hX6 hv hcl hx0 hmk
          go_wp2
          go_region_held3 (fun X => X.cell? ⟨w.heap.size, 0, none⟩ = some (.int .i64 base) ∧ X.cell? ⟨w.heap.size, 1, none⟩ = some (.slice av O.length cv) ∧ X.cell? ⟨w.heap.size, 2, none⟩ = some (.slice (some ⟨nb, 0, none⟩) half half))
            (exact ⟨(by first | with_reducible exact q0 | with_reducible exact q0n), (by first | with_reducible exact q1 | with_reducible exact q1n), (by first | with_reducible exact q2 | with_reducible exact q2n)⟩)
            (first
              | (go_at_call 51; refine hka.mono ?_; rintro e w2' ⟨⟨ok, ck, rfl, hok, hol⟩, hB2⟩
                 have R2 : Hid (MQ Bl hb hm g nb (.slice av O.length cv) half base w Xk (posO W b1 O O.length) (t0 + 1) w2') := (HQ2.out.drewN 1).on hB2
                 have J2 : Hid (IRow w2' (w.heap.size + 1) (.slice (some ⟨gm, 0, none⟩) O.length cm) (mvL W b1 O O.length)) := (show IRow (wr.drewN 1) (w.heap.size + 1) (.slice (some ⟨gm, 0, none⟩) O.length cm) (mvL W b1 O O.length) from HI2.out).keep hB2
                 have htn := HTURN.out w2' ok ck R2.out J2.out hok hol
                 have HOK : Hid (mn = 0 ∨ ok = p + 1) := hok
                 replace q0 := R2.out.b0
                 replace q1 := R2.out.b1
                 replace q2 := R2.out.b2
                 clear hB2 hok hol)
              | (go_at_call 50; refine htn.mono ?_; rintro e w3' ⟨rfl, hO3, hot3, hbe3⟩
                 have hXN : turnsX (turnM O (mvL W b1 O O.length)) Xk ok mn = tnW (turnM O (mvL W b1 O O.length)) W b1 O (cpW W b1 O O.length) (k + 1) := by
                   rw [HNXT.out]
                   rcases HOK.out with h | h
                   · subst h; rfl
                   · rw [h]
                 rw [hXN] at hO3
                 have R3 : Hid (MQ Bl hb hm g nb (.slice av O.length cv) half base w (tnW (turnM O (mvL W b1 O O.length)) W b1 O (cpW W b1 O O.length) (k + 1)) (posO W b1 O O.length) (t0 + 1) w3') := R2.out.words hO3 (by rw [tnW_len, cpW_len]; exact HPX.out.2.2.symm) hot3 hbe3
                 have J3 : Hid (IRow w3' (w.heap.size + 1) (.slice (some ⟨gm, 0, none⟩) O.length cm) (mvL W b1 O O.length)) := ⟨own_same J2.out.1 fun q hq => hot3 q (J2.out.lt q hq).2 (by have := (J2.out.lt q hq).1; have := LIM.out; omega), J2.out.2⟩
                 replace q0 := R3.out.b0
                 replace q1 := R3.out.b1
                 replace q2 := R3.out.b2
                 clear hO3 hot3 hbe3 hXN))
          go_wp2
          go_round
          case rel => exact ⟨k + 1, by have := HKLT.out; omega, by go_num, R3, J3⟩
          case measure => have := HKLT.out; simp [intOf]; omega
        · obtain rfl : k = O.length := by omega
          have hd0 := HD.out
          have hn0 := NN.out.lo
          have hlm := LIM.out
          have NM : Met B2 nb (.slice av O.length cv) base half O wr := NN.out.other (HQ2.out.oth nb NN.out.lt (by omega) (by omega) (by omega)) fun q hq => HQ2.out.oth q (NN.out.plc.lt q hq).2 (by have := (NN.out.plc.lt q hq).1; omega) (by have := (NN.out.plc.lt q hq).1; omega) (by have := (NN.out.plc.lt q hq).1; omega)
          have hgrl := RR.out.lt
          have RW : OW gr rs wr := RR.out.on (HQ2.out.oth gr hgrl (by omega) (by omega) (by omega))
          have hvg : (Value.slice am O.length cm).ownBlock ≠ some gr := by
            intro e
            have := (HI2.out.lt gr e).1
            omega
          have htn := turn_is NM RW (by omega) ⟨own_base HI2.out.1 (Nat.zero_le _), HI2.out.2⟩ hvg (mvL_len _ _ _ _) HMV.out 0 rs.length rs.length (by omega) hrl (fun j hj he => by
            rw [Nat.zero_add] at he ⊢
            have e1 : rs.getD j 0 = rs[j] := by rw [List.getD_eq_getElem?_getD, List.getElem?_eq_getElem hj]; rfl
            rw [e1] at he ⊢
            exact (HMET.out.1 _ (List.getElem_mem hj)).resolve_left (by omega))
          rw [turnsX_all] at htn
          obtain ⟨XT, hXT⟩ : ∃ XT, XT = tnW (turnM O (mvL W b1 O O.length)) W b1 O (cpW W b1 O O.length) O.length := ⟨_, rfl⟩
          have HXT : Hid (XT = tnW (turnM O (mvL W b1 O O.length)) W b1 O (cpW W b1 O O.length) O.length ∧ XT.length = W.length) := ⟨hXT, by rw [hXT, tnW_len, cpW_len]⟩
          rw [← hXT] at HQ2
          obtain ⟨nn, hnn⟩ : ∃ nn, nn = posO W b1 O O.length := ⟨_, rfl⟩
          have HNN : Hid (nn = posO W b1 O O.length ∧ b1 ≤ nn ∧ nn ≤ b1 + half) := by
            have h1 := posO_le (W := W) (b := b1) (O := O) (i := 0) (j := O.length) (Nat.zero_le _) (Nat.le_refl _)
            rw [posO_zero] at h1
            exact ⟨hnn, by omega, by rw [hnn]; exact HPN.out⟩
          rw [← hnn] at HQ2
          have q0 := HQ2.out.b0
          have q1 := HQ2.out.b1
          have q2 := HQ2.out.b2
          have hkk2 : ¬ ((O.length : Nat) : Int) < ((O.length : Nat) : Int) := by omega
          clear hXT hnn NM RW hvg
          go_wp2_with fail
          refine htn.mono ?_
          rintro e w5 ⟨rfl, hO5, hot5, hbe5⟩
          have hwl := HQ2.out.lt
          have H5 : Hid (HM hb hm g XT half nn (t0 + 1) 1 w5) := by
            obtain ⟨M5, hlM, hM5⟩ := HQ2.out.hp.mks
            exact ⟨HQ2.out.hp.ne, (hot5 hb (by omega) (by omega)).trans HQ2.out.hp.blk, ⟨M5, hlM, (hot5 hm (by omega) (by omega)).trans hM5⟩, HQ2.out.hp.wds.on (hot5 g (by omega) (by omega)), HQ2.out.hp.siz⟩
          have O5 : Hid (OW gr (rs.map (turnM O (mvL W b1 O O.length))) w5) := hO5
          have B5 : Hid (Below Bl w w5) := HQ2.out.bel.trans (hbe5.mono hd0.2.1)
          clear htn hO5 hot5 hbe5 q0 q1 q2 hwl
          have hsz := HSZ.out
          have hxl5 : XT.length = 2 * half := by rw [HXT.out.2]; exact hsz.1
          have hh1' : 1 ≤ half := hsz.2.2.1
          have hcl1 : ∀ ty, (Builtin.clear_ #[24] ty #[.slice (some ⟨g, base, none⟩) half (W.length - base)]).run Tryz.prog w5 = .ok (.tuple #[]) (w5.setCells g base (List.replicate half (.int .i64 0))) := fun ty =>
            Lib.run_clear_slice _ 24 3 ty (.int .i64 0) Tryz.underlying24 zero_int rfl rfl g base half (W.length - base) hh1' (fun j hj => by rw [H5.out.wds.cell (by omega)]; rfl) (fun j hj => H5.out.wds.frz _)
          have O6 : OW g (putW XT base (List.replicate half 0)) (w5.setCells g base (List.replicate half (.int .i64 0))) := by
            have := OW.cells (List.replicate half 0) (fun x hx => by have := List.eq_of_mem_replicate hx; subst this; unfold InR; decide) base H5.out.wds
            rwa [List.map_replicate] at this
          have H6 : Hid (HM hb hm g (putW XT base (List.replicate half 0)) half nn (t0 + 1) 1 (w5.setCells g base (List.replicate half (.int .i64 0)))) := H5.out.words O6 (putW_length _ _ _) fun k _ hk => cells_other _ _ _ _ k hk
          have R6 : Hid (OW gr (rs.map (turnM O (mvL W b1 O O.length))) (w5.setCells g base (List.replicate half (.int .i64 0)))) := O5.out.on (cells_other _ _ _ _ _ (by omega))
          have B6 : Hid (Below Bl w (w5.setCells g base (List.replicate half (.int .i64 0)))) := cells_below hd0.1 _ _ _ B5.out
          clear O6 hsz hxl5 hh1' hd0 hn0 hlm hgrl
          go_wp2_with (simp only [hcl1])
          clear hcl1
          generalize w5.setCells g base (List.replicate half (.int .i64 0)) = w6 at *
          obtain ⟨X6, hX6⟩ : ∃ X6, X6 = putW XT base (List.replicate half 0) := ⟨_, rfl⟩
          rw [← hX6] at H6
          obtain ⟨xl, hxl⟩ : ∃ xl, xl = X6.length := ⟨_, rfl⟩
          have HXL6 : Hid (xl = X6.length ∧ xl = 2 * half ∧ half ≤ 3000 ∧ X6 = putW XT base (List.replicate half 0)) := by
            have h1 := HSZ.out
            have h2 := HXT.out.2
            refine ⟨hxl, ?_, h1.2.2.2.1, hX6⟩
            rw [hxl, hX6, putW_length, h2]; exact h1.1
          have hiu : ∀ X : World, X.heap = w6.heap → Calls Tryz.prog 45 #[.pointer (some ⟨hb, 0, none⟩)] X fun e w' => e = .returned (.slice (some ⟨g, b1, none⟩) half (xl - b1)) ∧ ∃ n, w' = X.drewN n := fun X hX => by
            have := hinUse_is (H6.out.other (w' := X) fun k _ => by rw [hX])
            rwa [HB1.out.1, ← hxl] at this
          have hbs : ∀ X : World, X.heap = w6.heap → Calls Tryz.prog 47 #[.pointer (some ⟨hb, 0, none⟩)] X fun e w' => e = .returned (.int .i64 b1) ∧ ∃ n, w' = X.drewN n := fun X hX => by
            have := hbase_is (H6.out.other (w' := X) fun k _ => by rw [hX])
            rwa [HB1.out.1] at this
          have c5 := H6.out.c5
          have c5n : w6.drew.cell? ⟨hb, 5, none⟩ = some (.int .i64 nn) := c5
          have c5m : ∀ n, (w6.drewN n).cell? ⟨hb, 5, none⟩ = some (.int .i64 nn) := fun _ => c5
          obtain ⟨dn, hdn⟩ : ∃ dn : Nat, nn = b1 + dn := ⟨nn - b1, by have := HNN.out; omega⟩
          have HDN2 : Hid (nn = b1 + dn ∧ dn ≤ half ∧ b1 ≤ half) := ⟨hdn, by have := HNN.out; omega, by have := HB1.out.2.2; omega⟩
          have d1 : IntKind.i64.wrap ((nn : Int) - (b1 : Int)) = (dn : Int) := by have := HDN2.out; have := HXL6.out; rw [IntKind.wrap_i64]; omega
          have d2 : (nn : Int) - (b1 : Int) = (dn : Int) := by omega
          have d3 : IntKind.i64.wrap (dn : Int) = (dn : Int) := by have := HDN2.out; have := HXL6.out; rw [IntKind.wrap_i64]; omega
          have d4 : (dn : Int) ≤ (half : Int) := by have := HDN2.out; omega
          have d5 : (0 : Int) ≤ (dn : Int) := by omega
          have hne6 := HXL6.out.2.1
          clear hX6 hxl hdn hne6
          by_cases hfull : dn = half
          · have hempty : ∀ (ad : Addr) (cc : Nat) (X : World), ∀ ty, (Builtin.clear_ #[24] ty #[.slice (some ad) 0 cc]).run Tryz.prog X = .ok (.tuple #[]) X := fun ad cc X ty => by simp [Builtin.clear_, run_underlying Tryz.underlying24]
            have HFULL : Hid (dn = half) := hfull
            have g7 : half - dn = 0 := by omega
            by_cases hcap : b1 + dn = xl
            · have g8 : xl - b1 = dn := by omega
              have g9 : xl - b1 - dn = 0 := by omega
              clear hfull hcap
              refine wp_region_noPanic ?_
              go_region_law
                (first
                  | (refine step_call rfl 45 entU _ _ rfl _ _ (hiu _ rfl) (by first | (simp [Act.eval]; done) | (simp [Act.eval, Act.put]; done)) ?_; rintro e wu ⟨rfl, nu, rfl⟩
                     refine ⟨_, rfl, ?_⟩)
                  | (refine step_call rfl 47 entB2 _ _ rfl _ _ (hbs _ rfl) (by first | (simp [Act.eval]; done) | (simp [Act.eval, Act.put]; done)) ?_; rintro e wv ⟨rfl, nv, rfl⟩
                     refine ⟨_, rfl, ?_⟩)
                  | (refine step_clear rfl (.tmp 122) 24 rfl (.slice (some ⟨g, b1, none⟩) 0 0) (by simp [Act.eval, Act.put]; try omega) (hempty _ _ _) ?_))
              all_goals
                refine NoPanic.normal ?_
                have hlm := LIM.out
                have hd0 := HD.out
                have H7 : HM hb hm g (X6) half nn (t0 + 1) 1 (w6.drewN (1 + nu + nv)) := H6.out.drewN _
                have R7 : OW gr (rs.map (turnM O (mvL W b1 O O.length))) (w6.drewN (1 + nu + nv)) := R6.out.on rfl
                have B7 : Below Bl w (w6.drewN (1 + nu + nv)) := drewN_bel B6.out _
                clear c5 c5n c5m hiu hbs
                generalize w6.drewN (1 + nu + nv) = w9 at *
                try go_wp2
                refine leaves_cons (f := 44) (args := #[.pointer (some ⟨hb, 0, none⟩)]) (by simp) (by simp [go_sem]) ?_
                refine (Go.MuLone.unlock_deferred lock.muLib ⟨hb, 0, none⟩ .returning _ H7.c0 (H7.frz 0)).mono ?_
                rintro e u' w'' ⟨rfl, rfl, rfl⟩
                have hdone : doneW W half base b1 O = X6 := by have hf := HFULL.out; unfold doneW; rw [← HXT.out.1, ← HXL6.out.2.2.2, ← HNN.out.1, HDN2.out.1, show b1 + half - (b1 + dn) = 0 by omega]; rfl
                refine ⟨.tuple #[], results_none rfl _ _ _, by first | rfl | trivial, ⟨t0 + 1, HB1.out.1.trans HB1.out.2.1, ?_⟩, ?_, B7.setCell hlm.1 _⟩
                · rw [← HB1.out.2.1, hdone, ← HNN.out.1]; exact H7.set.1 0
                · rw [← HB1.out.2.1]; exact R7.on (Below.heap_setCell _ _ _ _ (by show gr ≠ hb; omega))
            · have g8 : dn < xl - b1 := by have := HXL6.out; have := HDN2.out; omega
              clear hfull
              refine wp_region_noPanic ?_
              go_region_law
                (first
                  | (refine step_call rfl 45 entU _ _ rfl _ _ (hiu _ rfl) (by first | (simp [Act.eval]; done) | (simp [Act.eval, Act.put]; done)) ?_; rintro e wu ⟨rfl, nu, rfl⟩
                     refine ⟨_, rfl, ?_⟩)
                  | (refine step_call rfl 47 entB2 _ _ rfl _ _ (hbs _ rfl) (by first | (simp [Act.eval]; done) | (simp [Act.eval, Act.put]; done)) ?_; rintro e wv ⟨rfl, nv, rfl⟩
                     refine ⟨_, rfl, ?_⟩)
                  | (refine step_clear rfl (.tmp 122) 24 rfl (.slice (some ⟨g, b1 + dn, none⟩) 0 (xl - b1 - dn)) (by simp [Act.eval, Act.put]; try omega) (hempty _ _ _) ?_))
              all_goals
                refine NoPanic.normal ?_
                have hlm := LIM.out
                have hd0 := HD.out
                have H7 : HM hb hm g (X6) half nn (t0 + 1) 1 (w6.drewN (1 + nu + nv)) := H6.out.drewN _
                have R7 : OW gr (rs.map (turnM O (mvL W b1 O O.length))) (w6.drewN (1 + nu + nv)) := R6.out.on rfl
                have B7 : Below Bl w (w6.drewN (1 + nu + nv)) := drewN_bel B6.out _
                clear c5 c5n c5m hiu hbs
                generalize w6.drewN (1 + nu + nv) = w9 at *
                try go_wp2
                refine leaves_cons (f := 44) (args := #[.pointer (some ⟨hb, 0, none⟩)]) (by simp) (by simp [go_sem]) ?_
                refine (Go.MuLone.unlock_deferred lock.muLib ⟨hb, 0, none⟩ .returning _ H7.c0 (H7.frz 0)).mono ?_
                rintro e u' w'' ⟨rfl, rfl, rfl⟩
                have hdone : doneW W half base b1 O = X6 := by have hf := HFULL.out; unfold doneW; rw [← HXT.out.1, ← HXL6.out.2.2.2, ← HNN.out.1, HDN2.out.1, show b1 + half - (b1 + dn) = 0 by omega]; rfl
                refine ⟨.tuple #[], results_none rfl _ _ _, by first | rfl | trivial, ⟨t0 + 1, HB1.out.1.trans HB1.out.2.1, ?_⟩, ?_, B7.setCell hlm.1 _⟩
                · rw [← HB1.out.2.1, hdone, ← HNN.out.1]; exact H7.set.1 0
                · rw [← HB1.out.2.1]; exact R7.on (Below.heap_setCell _ _ _ _ (by show gr ≠ hb; omega))
          · have hlt2 : dn < half := by have := HDN2.out; omega
            have g8 : dn < xl - b1 := by have := HDN2.out; have := HXL6.out; omega
            have hcl2 : ∀ X : World, X.heap = w6.heap → ∀ ty, (Builtin.clear_ #[24] ty #[.slice (some ⟨g, b1 + dn, none⟩) (half - dn) (xl - b1 - dn)]).run Tryz.prog X = .ok (.tuple #[]) (X.setCells g (b1 + dn) (List.replicate (half - dn) (.int .i64 0))) := fun X hX ty =>
              Lib.run_clear_slice _ 24 3 ty (.int .i64 0) Tryz.underlying24 zero_int rfl rfl g (b1 + dn) (half - dn) (xl - b1 - dn) (by omega) (fun j hj => by
                have hX6 := H6.out.wds.on (w' := X) (by rw [hX])
                rw [hX6.cell (by have := HXL6.out; have := HDN2.out; omega)]; rfl) (fun j hj => (H6.out.wds.on (w' := X) (by rw [hX])).frz _)
            refine wp_region_noPanic ?_
            go_region_law
              (first
                | (refine step_call rfl 45 entU _ _ rfl _ _ (hiu _ rfl) (by first | (simp [Act.eval]; done) | (simp [Act.eval, Act.put]; done)) ?_; rintro e wu ⟨rfl, nu, rfl⟩
                   refine ⟨_, rfl, ?_⟩)
                | (refine step_call rfl 47 entB2 _ _ rfl _ _ (hbs _ rfl) (by first | (simp [Act.eval]; done) | (simp [Act.eval, Act.put]; done)) ?_; rintro e wv ⟨rfl, nv, rfl⟩
                   refine ⟨_, rfl, ?_⟩)
                | (refine step_clear rfl (.tmp 122) 24 rfl (.slice (some ⟨g, b1 + dn, none⟩) (half - dn) (xl - b1 - dn)) (by simp [Act.eval, Act.put]; try omega) (hcl2 _ rfl) ?_))
            all_goals
              refine NoPanic.normal ?_
              have hlm := LIM.out
              have hd0 := HD.out
              have H7 : HM hb hm g (putW X6 (b1 + dn) (List.replicate (half - dn) 0)) half nn (t0 + 1) 1 ((w6.drewN (1 + nu + nv)).setCells g (b1 + dn) (List.replicate (half - dn) (Value.int .i64 0))) := by
                have h1 := OW.cells (List.replicate (half - dn) 0) (fun x hx => by have := List.eq_of_mem_replicate hx; subst this; unfold InR; decide) (b1 + dn) (H6.out.drewN (1 + nu + nv)).wds
                rw [List.map_replicate] at h1
                exact (H6.out.drewN (1 + nu + nv)).words h1 (putW_length _ _ _) fun k _ hk => cells_other _ _ _ _ k hk
              have R7 : OW gr (rs.map (turnM O (mvL W b1 O O.length))) ((w6.drewN (1 + nu + nv)).setCells g (b1 + dn) (List.replicate (half - dn) (Value.int .i64 0))) := R6.out.on (cells_other _ _ _ _ _ (by omega))
              have B7 : Below Bl w ((w6.drewN (1 + nu + nv)).setCells g (b1 + dn) (List.replicate (half - dn) (Value.int .i64 0))) := cells_below hd0.1 _ _ _ (drewN_bel B6.out _)
              clear c5 c5n c5m hiu hbs
              generalize (w6.drewN (1 + nu + nv)).setCells g (b1 + dn) (List.replicate (half - dn) (Value.int .i64 0)) = w9 at *
              try go_wp2
              refine leaves_cons (f := 44) (args := #[.pointer (some ⟨hb, 0, none⟩)]) (by simp) (by simp [go_sem]) ?_
              refine (Go.MuLone.unlock_deferred lock.muLib ⟨hb, 0, none⟩ .returning _ H7.c0 (H7.frz 0)).mono ?_
              rintro e u' w'' ⟨rfl, rfl, rfl⟩
              have hdone : doneW W half base b1 O = putW X6 (b1 + dn) (List.replicate (half - dn) 0) := by unfold doneW; rw [← HXT.out.1, ← HXL6.out.2.2.2, ← HNN.out.1, HDN2.out.1, show b1 + half - (b1 + dn) = half - dn by omega]
              refine ⟨.tuple #[], results_none rfl _ _ _, by first | rfl | trivial, ⟨t0 + 1, HB1.out.1.trans HB1.out.2.1, ?_⟩, ?_, B7.setCell hlm.1 _⟩
              · rw [← HB1.out.2.1, hdone, ← HNN.out.1]; exact H7.set.1 0
              · rw [← HB1.out.2.1]; exact R7.on (Below.heap_setCell _ _ _ _ (by show gr ≠ hb; omega))

end Go.Proofs.YthpdkjenadngoaaGreatDoor.heap
