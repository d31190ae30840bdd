/-
  A block is put into a heap at work (put), under its lock: its words are the call's own.
-/
import Derived.Laws.CopyOwn
import Derived.Test.YtigcpigmfcgaoaaB1
import Derived.Test.YtigcpigmfcgaoaaB2
import Derived.Test.YtigcpigmfcgaoaaB3
import Derived.Test.YtigcpigmfcgaoaaB4
import Derived.Test.YtigcpigmfcgaoaaB5
import Derived.Test.YtigcpigmfcgaoaaB6
import Derived.Test.YtigcpigmfcgaoaaB7
import Derived.Test.YtigcpigmfcgaoaaB8
import Derived.Test.YtigcpigmfcgaoaaB9
import Derived.Test.YtigcpigmfcgaoaaB10
import Derived.Test.YtigcpigmfcgaoaaB11
import Derived.Test.YtigcpigmfcgaoaaB12
import Derived.Test.YtigcpigmfcgaoaaB13
import Derived.Test.YtigcpigmfcgaoaaB14
import Derived.Test.YtigcpigmfcgaoaaB15
import Derived.Test.YtigcpigmfcgaoaaB16
import Derived.Test.YtigcpigmfcgaoaaB17
import Derived.Test.YtigcpigmfcgaoaaB18
import Derived.Test.YtigcpigmfcgaoaaB19
import Derived.Test.YtigcpigmfcgaoaaB20
import Derived.Test.YtigcpigmfcgaoaaB21
import Derived.Test.YtigcpigmfcgaoaaB22
import Derived.Test.YtigcpigmfcgaoaaB23
import Derived.Test.YtigcpigmfcgaoaaB24
import Derived.Test.YtigcpigmfcgaoaaB25
import Derived.Test.YtigcpigmfcgaoaaB26
import Derived.Test.YtigcpigmfcgaoaaB27
import Derived.Test.YtigcpigmfcgaoaaB28
import Derived.Test.YtigcpigmfcgaoaaB29
import Derived.Test.YtigcpigmfcgaoaaB30
import Derived.Test.YtigcpigmfcgaoaaB31
namespace Go.Proofs.Ytigcpigmfcgaoaa.heap
open Go Go.RowKit Go.Deep Go.Proofs.Ytigcpigmfcgaoaa.rose Go.Proofs.Ytigcpigmfcgaoaa Go.Proofs.Ytigcpigmfcgaoaa.fun Go.Proofs.Ytigcpigmfcgaoaa.words Go.Proofs.Ytigcpigmfcgaoaa.ints
set_option linter.unusedVariables false
set_option linter.unusedSimpArgs false

/-- The words in a block of the call's own, R the room behind them. -/
structure WB (g c : Nat) (X : List Int) (R : List Value) (w : World) : Prop where
  blk : w.heap[g]? = some (.cells (X.map (Value.int .i64) ++ R).toArray 3)
  siz : X.length + R.length = c ∧ c ≤ maxLen
  rng : ∀ x ∈ X, InR x
theorem WB.of_row {w : World} {base g c : Nat} {X : List Int} (h : IRow w base (.slice (some ⟨g, 0, none⟩) X.length c) X) : ∃ R, WB g c X R w := by
  rcases h.1.2 with ⟨h0, -⟩ | ⟨g', cap, cur, e, h2, h3, h4, h5, h6, h7⟩
  · cases h0
  · cases e
    refine ⟨cur.toList.drop X.length, ?_, ⟨by simp [h6]; omega, h5⟩, h.2⟩
    rw [h3, ← h7, Nat.mul_one, List.take_append_drop]
theorem WB.row {w : World} {base g c : Nat} {X : List Int} {R : List Value} (h : WB g c X R w) (hb : base ≤ g) : IRow w base (.slice (some ⟨g, 0, none⟩) X.length c) X := by
  have hs := h.siz
  refine ⟨⟨by simp, Or.inr ⟨g, c, _, rfl, hb, h.blk, by omega, hs.2, by simp; omega, ?_⟩⟩, h.rng⟩
  simp
theorem WB.rep {w : World} {g c : Nat} {X : List Int} {R : List Value} (h : WB g c X R w) {S : Nat → Prop} (hS : S g) : intsSh.rep w S [.slice (some ⟨g, 0, none⟩) X.length c] X := by
  have hr := (h.row (Nat.le_refl g)).sp
  have hs := h.siz
  refine intsp_rep (show intsSp.rep w S _ _ from ?_)
  refine ⟨some ⟨g, 0, none⟩, c, fun i => [.int .i64 (X.getD i 0)], fun _ _ => False, rfl, by omega, hs.2, (fun h => by cases h), fun h0 => ⟨g, 0, _, _, rfl, hS, h.blk, fun _ _ h => h, fun i hi q u hq => ?_⟩, fun i hi b h => h.elim, fun i j hi hj hne b h => h.elim, fun i hi => ⟨by simp [List.getD, hi], h.rng _ (List.getElem_mem hi)⟩⟩
  match q, hq with
  | 0, hq =>
    simp at hq; subst hq
    have : w.cell? ⟨g, i, none⟩ = some (.int .i64 X[i]) := by simp [World.cell?, h.blk, List.getElem?_append_left, hi]
    simpa [Sh.int, List.getD, hi] using this
  | _ + 1, hq => simp at hq
theorem WB.on {w w' : World} {g c : Nat} {X : List Int} {R : List Value} (h : WB g c X R w) (hb : Below w.heap.size w w') : WB g c X R w' := ⟨(hb.block g (Array.getElem?_eq_some_iff.1 h.blk).1).trans h.blk, h.siz, h.rng⟩
theorem WB.same {w w' : World} {g c : Nat} {X : List Int} {R : List Value} (h : WB g c X R w) (e : w'.heap[g]? = w.heap[g]?) : WB g c X R w' := ⟨e.trans h.blk, h.siz, h.rng⟩
theorem WB.set {w : World} {g c : Nat} {X : List Int} {R : List Value} (h : WB g c X R w) {j : Nat} (hj : j < X.length) {x : Int} (hx : InR x) : WB g c (X.set j x) R (w.setCell ⟨g, j, none⟩ (.int .i64 x)) := by
  have hs := h.siz
  refine ⟨?_, by rw [List.length_set]; exact hs, fun y hy => ?_⟩
  · simp [World.setCell, Array.getElem?_modify, h.blk, List.set_append_left, hj, List.map_set]
  · rcases List.mem_or_eq_of_mem_set hy with q | rfl
    · exact h.rng y q
    · exact hx
theorem putW_splice {xs : List Int} : ∀ {X : List Int} {p : Nat}, p + xs.length ≤ X.length → putW X p xs = splice X p xs := by
  induction xs with
  | nil => intro X p h; simp [putW, splice]
  | cons x xs ih =>
    intro X p h
    rw [List.length_cons] at h
    rw [putW, ih (by rw [List.length_set]; omega)]
    have e1 : (X.set p x).take (p + 1) = X.take p ++ [x] := by
      rw [List.take_succ_eq_append_getElem (by rw [List.length_set]; omega), List.take_set_of_le (Nat.le_refl _)]
      simp
    have e2 : (X.set p x).drop (p + 1 + xs.length) = X.drop (p + 1 + xs.length) := List.drop_set_of_lt (by omega)
    unfold Go.splice
    rw [e1, e2, List.length_cons, show p + (xs.length + 1) = p + 1 + xs.length by omega]
    simp
theorem splice_more {α : Type} {A R k : List α} {p : Nat} (h : p + k.length ≤ A.length) : splice (A ++ R) p k = splice A p k ++ R := by
  unfold splice
  rw [List.take_append_of_le_length (by omega), List.drop_append_of_le_length (by omega)]
  simp
theorem splice_map {α β : Type} (f : α → β) (A k : List α) (p : Nat) : splice (A.map f) p (k.map f) = (splice A p k).map f := by
  unfold splice
  simp [List.map_take, List.map_drop]
/-- Words are written into it. -/
theorem WB.splice {w : World} {g c p : Nat} {X kids : List Int} {R : List Value} (h : WB g c X R w) (hp : p + kids.length ≤ X.length) (hk : ∀ x ∈ kids, InR x) {w' : World} (hb : w'.heap[g]? = some (.cells (Go.splice (X.map (Value.int .i64) ++ R) p (kids.map (Value.int .i64))).toArray 3 (0, 0))) : WB g c (putW X p kids) R w' := by
  refine ⟨?_, by rw [putW_length]; exact h.siz, fun y hy => ?_⟩
  · rw [hb, splice_more (by simpa using hp), splice_map, putW_splice hp]
  · rcases putW_mem hy with q | q
    · exact h.rng y q
    · exact hk y q

/-- THE CONTRACTS -/
theorem HH.words {B hb hm : Nat} {wv : Value} {W W' : List Int} {half base next : Nat} {lk : Int} {M : List Bool} {w w' : World} (h : HH B hb hm wv W half base next lk M w) (e1 : w'.heap[hb]? = w.heap[hb]?) (e2 : w'.heap[hm]? = w.heap[hm]?) (hl : W'.length = W.length) (hr : intsSh.rep w' (· < B) [wv] W') : HH B hb hm wv W' half base next lk M w' :=
  ⟨h.lo, e1.trans h.blk, e2.trans h.mks, h.len, hr, by rw [hl]; exact h.siz⟩
theorem HH.nextw {B hb hm : Nat} {wv : Value} {W : List Int} {half base next : Nat} {lk : Int} {M : List Bool} {w : World} (h : HH B hb hm wv W half base next lk M w) (n : Nat) (h1 : base ≤ n ∧ n ≤ base + half) : HH B hb hm wv W half base n lk M (w.setCell ⟨hb, 5, none⟩ (.int .i64 n)) := by
  have hlo := h.lo
  have hs := h.siz
  refine ⟨h.lo, by simp [World.setCell, Array.getElem?_modify, h.blk], (Below.heap_setCell _ _ _ _ (by show hm ≠ hb; omega)).trans h.mks, h.len, intsSh.on h.wds fun b hb' => Below.heap_setCell _ _ _ _ (by show b ≠ hb; omega), ⟨hs.1, hs.2.1, hs.2.2.1, hs.2.2.2.1, h1.1, h1.2⟩⟩
theorem sizeP_int : (Try.prog.info? 3).map (·.size) = some 1 := by kernel_rfl
/-- A copy into a row of one's own: all else is as it was. -/
theorem copy_exact {P : Program} {w : World} {ops : Array Oper} {rest : List Oper} {o : Oper} {a : Act} {Q : Exit → Act → World → Prop} (hgd : o.guard = none) (d s : Operand) (dT sT : TypeId)
    (ho : o.op = .call { callee := .builtin .copy, args := #[d, s], argTypes := #[dT, sT] }) (elem : TypeId) (hu : P.underlying dT = some (.slice elem)) (hsz : (P.info? elem).map (·.size) = some 1)
    (dp sp : Option Addr) (dLen dCap sLen sCap : Nat) (hd : a.eval d = .slice dp dLen dCap) (hs : a.eval s = .slice sp sLen sCap)
    (g off : Nat) (cur : List Value) (t : TypeId) (hg : w.heap[g]? = some (.cells cur.toArray t (0, 0))) (cs : List Value) (hn : cs.length = Nat.min sLen dLen)
    (hpos : 0 < cs.length → dp = some ⟨g, off, none⟩ ∧ ∃ ad, sp = some ad ∧ ∀ j v, cs[j]? = some v → w.cell? (ad.add j) = some v)
    (hfit : off + cs.length ≤ cur.length) (h1 : ∀ v ∈ cs, v.oneCell' = true)
    (h : ∀ w', Hid (w'.heap[g]? = some (.cells (Go.splice cur off cs).toArray t (0, 0))) → Hid (∀ k, k ≠ g → w'.heap[k]? = w.heap[k]?) → Hid (Below g w w') → wpList P ops Q rest (a.put o.dst (goInt cs.length)) w') :
    wpList P ops Q (o :: rest) a w := by
  by_cases h0 : cs.length = 0
  · obtain rfl : cs = [] := List.eq_nil_of_length_eq_zero h0
    refine wpList_copy_nothing hgd d s dT sT ho elem hu hsz dp sp dLen dCap sLen sCap hd hs (by simpa using hn.symm) ?_
    exact h w (show _ = _ by simpa [Go.splice] using hg) (fun _ _ => rfl) (Below.refl _ _)
  · obtain ⟨rfl, ad, rfl, hsrc⟩ := hpos (by omega)
    refine wpList_copy_own hgd d s dT sT ho elem hu hsz g off dLen dCap ad sLen sCap hd hs cur.toArray t hg cs hn hsrc (by simpa using hfit) h1 ?_
    exact h _ (show _ = _ by simpa [Go.splice] using setRow_heap w g _ _ t _ hg) (fun k hk => setRow_other w g k _ hk) (below_setRow (Below.refl _ _) (Nat.le_refl _) _)

set_option maxRecDepth 100000 in
set_option maxHeartbeats 8000000 in
theorem put_no1 {B hb hm : Nat} {wv : Value} {W : List Int} {half base next : Nat} {M : List Bool} {w : World} (h : HH B hb hm wv W half base next 0 M w) (fn : Bool) (tag : Int) (ak : Option Addr) (ck : Nat) (kids : List Int) (S : Nat → Prop) (hk : intsSh.rep w S [.slice ak kids.length ck] kids) (hS : ∀ b, S b → b < B) (hl : kids.length ≤ 1048576) (q1 : okHdr tag kids.length = false) :
    Calls Try.prog 27 #[.pointer (some ⟨hb, 0, none⟩), .agg #[.bool fn, .int .i64 tag, .int .i64 kids.length], .slice ak kids.length ck] w fun e w' => e = .returned (.tuple #[.int .i64 0, .bool false]) ∧ HH B hb hm wv W half base next 0 M w' ∧ Below B w w' := by
  have hw0 : HH B hb hm wv W half base next 0 M (w.alloc (.cells #[.bool fn, .int .i64 tag, .int .i64 kids.length] 56)) := h.on ((Below.refl _ _).alloc (Nat.le_refl _) _)
  have hB0 : Below B w (w.alloc (.cells #[.bool fn, .int .i64 tag, .int .i64 kids.length] 56)) := ((Below.refl _ _).alloc (Nat.le_refl _) _).mono (by have := h.lo; have := h.lt; omega)
  have hBB : Below w.heap.size w (w.alloc (.cells #[.bool fn, .int .i64 tag, .int .i64 kids.length] 56)) := (Below.refl _ _).alloc (Nat.le_refl _) _
  have hne : ¬ w.heap.size = hb ∧ ¬ w.heap.size = hm ∧ B ≤ w.heap.size := by have := h.lt; have := h.lo; omega
  have HNE : Hid _ := hne
  have T0 := alloc_top w (.cells #[.bool fn, .int .i64 tag, .int .i64 kids.length] 56)
  have hnz0 : w.heap.size < (w.alloc (.cells #[.bool fn, .int .i64 tag, .int .i64 kids.length] 56)).heap.size := by simp
  have LO : Hid (B ≤ hb ∧ B ≤ hm ∧ hb ≠ hm) := h.lo
  have HKR : Hid (∀ X : World, (∀ b, b < B → X.heap[b]? = w.heap[b]?) → intsSh.rep X S [.slice ak kids.length ck] kids) := fun X hX => intsSh.on hk fun b hb' => hX b (hS b hb')
  have hs6 : next ≤ 6000 ∧ half ≤ 3000 ∧ base ≤ 3000 := by have := h.siz; omega
  have hkI : (kids.length : Int) ≤ 1048576 := by omega
  generalize hwa : w.alloc (.cells #[.bool fn, .int .i64 tag, .int .i64 kids.length] 56) = wa at *
  have c0 := hw0.c0
  have z0 := hw0.frz 0
  have H1 : Hid (HH B hb hm wv W half base next 1 M (wa.setCell ⟨hb, 0, none⟩ (.int .i32 1))) := hw0.lockw 1
  have B1 : Hid (Below B w (wa.setCell ⟨hb, 0, none⟩ (.int .i32 1))) := hB0.setCell h.lo.1 _
  have T1 : (wa.setCell ⟨hb, 0, none⟩ (.int .i32 1)).heap[w.heap.size]? = some (.cells #[.bool fn, .int .i64 tag, .int .i64 kids.length] 56) := (Below.heap_setCell _ _ _ _ (by show w.heap.size ≠ hb; omega)).trans T0
  have hnz : w.heap.size < (wa.setCell ⟨hb, 0, none⟩ (.int .i32 1)).heap.size := (Array.getElem?_eq_some_iff.1 T1).1
  have g0 : (wa.setCell ⟨hb, 0, none⟩ (.int .i32 1)).cell? ⟨w.heap.size, 0, none⟩ = some (.bool fn) := by simp [World.cell?, T1]
  have g1 : (wa.setCell ⟨hb, 0, none⟩ (.int .i32 1)).cell? ⟨w.heap.size, 1, none⟩ = some (.int .i64 tag) := by simp [World.cell?, T1]
  have g2 : (wa.setCell ⟨hb, 0, none⟩ (.int .i32 1)).cell? ⟨w.heap.size, 2, none⟩ = some (.int .i64 kids.length) := by simp [World.cell?, T1]
  clear h hw0 hB0 hBB T0 hnz0 hk hS hl hne T1
  go_enter_defers Try.func27, Try.ntmps27
  go_wp2_with (go_at_call 47; refine (Go.MuLone.lock_free lock.muLib ⟨hb, 0, none⟩ _ c0 z0).mono ?_; rintro e w' ⟨rfl, rfl⟩)
  clear hwa c0 z0
  go_wp2_with fail
  refine (okb_is q1 _).mono ?_
  rintro e w2 ⟨rfl, hB⟩
  have H2 : Hid (HH B hb hm wv W half base next 1 M w2) := H1.out.on hB
  have B2 : Hid (Below B w w2) := B1.out.trans (hB.mono (by have := HNE.out; omega))
  replace g0 : w2.cell? ⟨w.heap.size, 0, none⟩ = some (.bool fn) := (hB.cell (p := ⟨w.heap.size, 0, none⟩) hnz).trans g0
  replace g1 : w2.cell? ⟨w.heap.size, 1, none⟩ = some (.int .i64 tag) := (hB.cell (p := ⟨w.heap.size, 1, none⟩) hnz).trans g1
  replace g2 : w2.cell? ⟨w.heap.size, 2, none⟩ = some (.int .i64 kids.length) := (hB.cell (p := ⟨w.heap.size, 2, none⟩) hnz).trans g2
  have hnz2 : w.heap.size < w2.heap.size := Nat.lt_of_lt_of_le hnz hB.size
  clear hB
  go_wp2
  refine leaves_cons (f := 48) (args := #[.pointer (some ⟨hb, 0, none⟩)]) (by simp) (by simp [go_sem]) ?_
  refine (Go.MuLone.unlock_deferred lock.muLib ⟨hb, 0, none⟩ .returning _ H2.out.c0 (H2.out.frz 0)).mono ?_
  rintro e u' w'' ⟨rfl, rfl, rfl⟩
  exact ⟨.tuple #[.int .i64 0, .bool false], by simp [results, Try.f27, go_sem], rfl, H2.out.lockw 0, B2.out.setCell LO.out.1 _⟩

set_option maxRecDepth 100000 in
set_option maxHeartbeats 8000000 in
theorem put_no2 {B hb hm : Nat} {wv : Value} {W : List Int} {half base next : Nat} {M : List Bool} {w : World} (h : HH B hb hm wv W half base next 0 M w) (fn : Bool) (tag : Int) (ak : Option Addr) (ck : Nat) (kids : List Int) (S : Nat → Prop) (hk : intsSh.rep w S [.slice ak kids.length ck] kids) (hS : ∀ b, S b → b < B) (hl : kids.length ≤ 1048576) (q1 : okHdr tag kids.length = true) (q2 : (base : Int) + half - next < 1 + (kids.length : Int)) :
    Calls Try.prog 27 #[.pointer (some ⟨hb, 0, none⟩), .agg #[.bool fn, .int .i64 tag, .int .i64 kids.length], .slice ak kids.length ck] w fun e w' => e = .returned (.tuple #[.int .i64 0, .bool false]) ∧ HH B hb hm wv W half base next 0 M w' ∧ Below B w w' := by
  have hw0 : HH B hb hm wv W half base next 0 M (w.alloc (.cells #[.bool fn, .int .i64 tag, .int .i64 kids.length] 56)) := h.on ((Below.refl _ _).alloc (Nat.le_refl _) _)
  have hB0 : Below B w (w.alloc (.cells #[.bool fn, .int .i64 tag, .int .i64 kids.length] 56)) := ((Below.refl _ _).alloc (Nat.le_refl _) _).mono (by have := h.lo; have := h.lt; omega)
  have hBB : Below w.heap.size w (w.alloc (.cells #[.bool fn, .int .i64 tag, .int .i64 kids.length] 56)) := (Below.refl _ _).alloc (Nat.le_refl _) _
  have hne : ¬ w.heap.size = hb ∧ ¬ w.heap.size = hm ∧ B ≤ w.heap.size := by have := h.lt; have := h.lo; omega
  have HNE : Hid _ := hne
  have T0 := alloc_top w (.cells #[.bool fn, .int .i64 tag, .int .i64 kids.length] 56)
  have hnz0 : w.heap.size < (w.alloc (.cells #[.bool fn, .int .i64 tag, .int .i64 kids.length] 56)).heap.size := by simp
  have LO : Hid (B ≤ hb ∧ B ≤ hm ∧ hb ≠ hm) := h.lo
  have HKR : Hid (∀ X : World, (∀ b, b < B → X.heap[b]? = w.heap[b]?) → intsSh.rep X S [.slice ak kids.length ck] kids) := fun X hX => intsSh.on hk fun b hb' => hX b (hS b hb')
  have hs6 : next ≤ 6000 ∧ half ≤ 3000 ∧ base ≤ 3000 := by have := h.siz; omega
  have hkI : (kids.length : Int) ≤ 1048576 := by omega
  generalize hwa : w.alloc (.cells #[.bool fn, .int .i64 tag, .int .i64 kids.length] 56) = wa at *
  have c0 := hw0.c0
  have z0 := hw0.frz 0
  have H1 : Hid (HH B hb hm wv W half base next 1 M (wa.setCell ⟨hb, 0, none⟩ (.int .i32 1))) := hw0.lockw 1
  have B1 : Hid (Below B w (wa.setCell ⟨hb, 0, none⟩ (.int .i32 1))) := hB0.setCell h.lo.1 _
  have T1 : (wa.setCell ⟨hb, 0, none⟩ (.int .i32 1)).heap[w.heap.size]? = some (.cells #[.bool fn, .int .i64 tag, .int .i64 kids.length] 56) := (Below.heap_setCell _ _ _ _ (by show w.heap.size ≠ hb; omega)).trans T0
  have hnz : w.heap.size < (wa.setCell ⟨hb, 0, none⟩ (.int .i32 1)).heap.size := (Array.getElem?_eq_some_iff.1 T1).1
  have g0 : (wa.setCell ⟨hb, 0, none⟩ (.int .i32 1)).cell? ⟨w.heap.size, 0, none⟩ = some (.bool fn) := by simp [World.cell?, T1]
  have g1 : (wa.setCell ⟨hb, 0, none⟩ (.int .i32 1)).cell? ⟨w.heap.size, 1, none⟩ = some (.int .i64 tag) := by simp [World.cell?, T1]
  have g2 : (wa.setCell ⟨hb, 0, none⟩ (.int .i32 1)).cell? ⟨w.heap.size, 2, none⟩ = some (.int .i64 kids.length) := by simp [World.cell?, T1]
  have t2 : decide ((base : Int) + half - next < 1 + (kids.length : Int)) = true := decide_eq_true q2
  clear h hw0 hB0 hBB T0 hnz0 hk hS hl hne T1
  go_enter_defers Try.func27, Try.ntmps27
  go_wp2_with (go_at_call 47; refine (Go.MuLone.lock_free lock.muLib ⟨hb, 0, none⟩ _ c0 z0).mono ?_; rintro e w' ⟨rfl, rfl⟩)
  clear hwa c0 z0
  go_wp2_with fail
  refine (okb_is q1 _).mono ?_
  rintro e w2 ⟨rfl, hB⟩
  have H2 : Hid (HH B hb hm wv W half base next 1 M w2) := H1.out.on hB
  have B2 : Hid (Below B w w2) := B1.out.trans (hB.mono (by have := HNE.out; omega))
  replace g0 : w2.cell? ⟨w.heap.size, 0, none⟩ = some (.bool fn) := (hB.cell (p := ⟨w.heap.size, 0, none⟩) hnz).trans g0
  replace g1 : w2.cell? ⟨w.heap.size, 1, none⟩ = some (.int .i64 tag) := (hB.cell (p := ⟨w.heap.size, 1, none⟩) hnz).trans g1
  replace g2 : w2.cell? ⟨w.heap.size, 2, none⟩ = some (.int .i64 kids.length) := (hB.cell (p := ⟨w.heap.size, 2, none⟩) hnz).trans g2
  have hnz2 : w.heap.size < w2.heap.size := Nat.lt_of_lt_of_le hnz hB.size
  clear hB
  go_wp2_with fail
  refine (hdrSize_is _ _ _ _ (by omega) (by omega)).mono ?_
  rintro e w3 ⟨rfl, hB⟩
  have H3 : Hid (HH B hb hm wv W half base next 1 M w3) := H2.out.on hB
  have B3 : Hid (Below B w w3) := B2.out.trans (hB.mono (by have := HNE.out; omega))
  replace g0 : w3.cell? ⟨w.heap.size, 0, none⟩ = some (.bool fn) := (hB.cell (p := ⟨w.heap.size, 0, none⟩) hnz2).trans g0
  replace g1 : w3.cell? ⟨w.heap.size, 1, none⟩ = some (.int .i64 tag) := (hB.cell (p := ⟨w.heap.size, 1, none⟩) hnz2).trans g1
  replace g2 : w3.cell? ⟨w.heap.size, 2, none⟩ = some (.int .i64 kids.length) := (hB.cell (p := ⟨w.heap.size, 2, none⟩) hnz2).trans g2
  have hnz3 : w.heap.size < w3.heap.size := Nat.lt_of_lt_of_le hnz2 hB.size
  have hlf := left_is H3.out
  clear hB
  go_wp2_with fail
  refine hlf.mono ?_
  rintro e w4' ⟨rfl, n4, rfl⟩
  have H4 : Hid (HH B hb hm wv W half base next 1 M (w3.drewN n4)) := H3.out.drewN n4
  have B4 : Hid (Below B w (w3.drewN n4)) := drewN_bel B3.out n4
  clear hlf
  go_wp2
  refine leaves_cons (f := 48) (args := #[.pointer (some ⟨hb, 0, none⟩)]) (by simp) (by simp [go_sem]) ?_
  refine (Go.MuLone.unlock_deferred lock.muLib ⟨hb, 0, none⟩ .returning _ H4.out.c0 (H4.out.frz 0)).mono ?_
  rintro e u' w'' ⟨rfl, rfl, rfl⟩
  exact ⟨.tuple #[.int .i64 0, .bool false], by simp [results, Try.f27, go_sem], rfl, H4.out.lockw 0, B4.out.setCell LO.out.1 _⟩

set_option maxRecDepth 100000 in
set_option maxHeartbeats 8000000 in
theorem put_no3 {B hb hm : Nat} {wv : Value} {W : List Int} {half base next : Nat} {M : List Bool} {w : World} (h : HH B hb hm wv W half base next 0 M w) (fn : Bool) (tag : Int) (ak : Option Addr) (ck : Nat) (kids : List Int) (S : Nat → Prop) (hk : intsSh.rep w S [.slice ak kids.length ck] kids) (hS : ∀ b, S b → b < B) (hl : kids.length ≤ 1048576) (q1 : okHdr tag kids.length = true) (q2 : ¬ (base : Int) + half - next < 1 + (kids.length : Int)) (q3 : kids.all (keepB base next M) = false) :
    Calls Try.prog 27 #[.pointer (some ⟨hb, 0, none⟩), .agg #[.bool fn, .int .i64 tag, .int .i64 kids.length], .slice ak kids.length ck] w fun e w' => e = .returned (.tuple #[.int .i64 0, .bool false]) ∧ HH B hb hm wv W half base next 0 M w' ∧ Below B w w' := by
  have hw0 : HH B hb hm wv W half base next 0 M (w.alloc (.cells #[.bool fn, .int .i64 tag, .int .i64 kids.length] 56)) := h.on ((Below.refl _ _).alloc (Nat.le_refl _) _)
  have hB0 : Below B w (w.alloc (.cells #[.bool fn, .int .i64 tag, .int .i64 kids.length] 56)) := ((Below.refl _ _).alloc (Nat.le_refl _) _).mono (by have := h.lo; have := h.lt; omega)
  have hBB : Below w.heap.size w (w.alloc (.cells #[.bool fn, .int .i64 tag, .int .i64 kids.length] 56)) := (Below.refl _ _).alloc (Nat.le_refl _) _
  have hne : ¬ w.heap.size = hb ∧ ¬ w.heap.size = hm ∧ B ≤ w.heap.size := by have := h.lt; have := h.lo; omega
  have HNE : Hid _ := hne
  have T0 := alloc_top w (.cells #[.bool fn, .int .i64 tag, .int .i64 kids.length] 56)
  have hnz0 : w.heap.size < (w.alloc (.cells #[.bool fn, .int .i64 tag, .int .i64 kids.length] 56)).heap.size := by simp
  have LO : Hid (B ≤ hb ∧ B ≤ hm ∧ hb ≠ hm) := h.lo
  have HKR : Hid (∀ X : World, (∀ b, b < B → X.heap[b]? = w.heap[b]?) → intsSh.rep X S [.slice ak kids.length ck] kids) := fun X hX => intsSh.on hk fun b hb' => hX b (hS b hb')
  have hs6 : next ≤ 6000 ∧ half ≤ 3000 ∧ base ≤ 3000 := by have := h.siz; omega
  have hkI : (kids.length : Int) ≤ 1048576 := by omega
  generalize hwa : w.alloc (.cells #[.bool fn, .int .i64 tag, .int .i64 kids.length] 56) = wa at *
  have c0 := hw0.c0
  have z0 := hw0.frz 0
  have H1 : Hid (HH B hb hm wv W half base next 1 M (wa.setCell ⟨hb, 0, none⟩ (.int .i32 1))) := hw0.lockw 1
  have B1 : Hid (Below B w (wa.setCell ⟨hb, 0, none⟩ (.int .i32 1))) := hB0.setCell h.lo.1 _
  have T1 : (wa.setCell ⟨hb, 0, none⟩ (.int .i32 1)).heap[w.heap.size]? = some (.cells #[.bool fn, .int .i64 tag, .int .i64 kids.length] 56) := (Below.heap_setCell _ _ _ _ (by show w.heap.size ≠ hb; omega)).trans T0
  have hnz : w.heap.size < (wa.setCell ⟨hb, 0, none⟩ (.int .i32 1)).heap.size := (Array.getElem?_eq_some_iff.1 T1).1
  have g0 : (wa.setCell ⟨hb, 0, none⟩ (.int .i32 1)).cell? ⟨w.heap.size, 0, none⟩ = some (.bool fn) := by simp [World.cell?, T1]
  have g1 : (wa.setCell ⟨hb, 0, none⟩ (.int .i32 1)).cell? ⟨w.heap.size, 1, none⟩ = some (.int .i64 tag) := by simp [World.cell?, T1]
  have g2 : (wa.setCell ⟨hb, 0, none⟩ (.int .i32 1)).cell? ⟨w.heap.size, 2, none⟩ = some (.int .i64 kids.length) := by simp [World.cell?, T1]
  have t2 : decide ((base : Int) + half - next < 1 + (kids.length : Int)) = false := decide_eq_false q2
  clear h hw0 hB0 hBB T0 hnz0 hk hS hl hne T1
  go_enter_defers Try.func27, Try.ntmps27
  go_wp2_with (go_at_call 47; refine (Go.MuLone.lock_free lock.muLib ⟨hb, 0, none⟩ _ c0 z0).mono ?_; rintro e w' ⟨rfl, rfl⟩)
  clear hwa c0 z0
  go_wp2_with fail
  refine (okb_is q1 _).mono ?_
  rintro e w2 ⟨rfl, hB⟩
  have H2 : Hid (HH B hb hm wv W half base next 1 M w2) := H1.out.on hB
  have B2 : Hid (Below B w w2) := B1.out.trans (hB.mono (by have := HNE.out; omega))
  replace g0 : w2.cell? ⟨w.heap.size, 0, none⟩ = some (.bool fn) := (hB.cell (p := ⟨w.heap.size, 0, none⟩) hnz).trans g0
  replace g1 : w2.cell? ⟨w.heap.size, 1, none⟩ = some (.int .i64 tag) := (hB.cell (p := ⟨w.heap.size, 1, none⟩) hnz).trans g1
  replace g2 : w2.cell? ⟨w.heap.size, 2, none⟩ = some (.int .i64 kids.length) := (hB.cell (p := ⟨w.heap.size, 2, none⟩) hnz).trans g2
  have hnz2 : w.heap.size < w2.heap.size := Nat.lt_of_lt_of_le hnz hB.size
  clear hB
  go_wp2_with fail
  refine (hdrSize_is _ _ _ _ (by omega) (by omega)).mono ?_
  rintro e w3 ⟨rfl, hB⟩
  have H3 : Hid (HH B hb hm wv W half base next 1 M w3) := H2.out.on hB
  have B3 : Hid (Below B w w3) := B2.out.trans (hB.mono (by have := HNE.out; omega))
  replace g0 : w3.cell? ⟨w.heap.size, 0, none⟩ = some (.bool fn) := (hB.cell (p := ⟨w.heap.size, 0, none⟩) hnz2).trans g0
  replace g1 : w3.cell? ⟨w.heap.size, 1, none⟩ = some (.int .i64 tag) := (hB.cell (p := ⟨w.heap.size, 1, none⟩) hnz2).trans g1
  replace g2 : w3.cell? ⟨w.heap.size, 2, none⟩ = some (.int .i64 kids.length) := (hB.cell (p := ⟨w.heap.size, 2, none⟩) hnz2).trans g2
  have hnz3 : w.heap.size < w3.heap.size := Nat.lt_of_lt_of_le hnz2 hB.size
  have hlf := left_is H3.out
  clear hB
  go_wp2_with fail
  refine hlf.mono ?_
  rintro e w4' ⟨rfl, n4, rfl⟩
  have H4 : Hid (HH B hb hm wv W half base next 1 M (w3.drewN n4)) := H3.out.drewN n4
  have B4 : Hid (Below B w (w3.drewN n4)) := drewN_bel B3.out n4
  clear hlf
  have hmk := mayKeep_is H4.out ak ck kids S (HKR.out _ B4.out.block)
  rw [q3] at hmk
  go_wp2_with fail
  refine hmk.mono ?_
  rintro e w5' ⟨rfl, n5, rfl⟩
  have H5 : Hid (HH B hb hm wv W half base next 1 M (w3.drewN (n4 + n5))) := H3.out.drewN (n4 + n5)
  have B5 : Hid (Below B w (w3.drewN (n4 + n5))) := drewN_bel B3.out (n4 + n5)
  clear hmk
  go_wp2
  refine leaves_cons (f := 48) (args := #[.pointer (some ⟨hb, 0, none⟩)]) (by simp) (by simp [go_sem]) ?_
  refine (Go.MuLone.unlock_deferred lock.muLib ⟨hb, 0, none⟩ .returning _ H5.out.c0 (H5.out.frz 0)).mono ?_
  rintro e u' w'' ⟨rfl, rfl, rfl⟩
  exact ⟨.tuple #[.int .i64 0, .bool false], by simp [results, Try.f27, go_sem], rfl, H5.out.lockw 0, B5.out.setCell LO.out.1 _⟩


end Go.Proofs.Ytigcpigmfcgaoaa.heap
