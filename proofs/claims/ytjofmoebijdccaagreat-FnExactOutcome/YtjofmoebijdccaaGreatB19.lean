/-
  The model's l20Back: what is known on the way; where nothing stands within a word.
  The model's l20Back, each way in which nothing stands within a word.
-/
import Derived.Deep.RegionHeld3
import Derived.Test.YtjofmoebijdccaaGreatB1
import Derived.Test.YtjofmoebijdccaaGreatB2
import Derived.Test.YtjofmoebijdccaaGreatB3
import Derived.Test.YtjofmoebijdccaaGreatB4
import Derived.Test.YtjofmoebijdccaaGreatB5
import Derived.Test.YtjofmoebijdccaaGreatB6
import Derived.Test.YtjofmoebijdccaaGreatB7
import Derived.Test.YtjofmoebijdccaaGreatB8
import Derived.Test.YtjofmoebijdccaaGreatB9
import Derived.Test.YtjofmoebijdccaaGreatB10
import Derived.Test.YtjofmoebijdccaaGreatB11
import Derived.Test.YtjofmoebijdccaaGreatB12
import Derived.Test.YtjofmoebijdccaaGreatB13
import Derived.Test.YtjofmoebijdccaaGreatB14
import Derived.Test.YtjofmoebijdccaaGreatB15
import Derived.Test.YtjofmoebijdccaaGreatB16
import Derived.Test.YtjofmoebijdccaaGreatB17
import Derived.Test.YtjofmoebijdccaaGreatB18
namespace Go.Proofs.YtjofmoebijdccaaGreat.back
open Go Go.RowKit Go.Proofs.YtjofmoebijdccaaGreat.rose Go.Proofs.YtjofmoebijdccaaGreat Go.Proofs.YtjofmoebijdccaaGreat.heap Go.Proofs.YtjofmoebijdccaaGreat.words
set_option linter.unusedVariables false
set_option linter.unusedSimpArgs false

abbrev zcs : List Value := [.int .i64 0, .int .i64 0, .string ⟨#[]⟩, .slice none 0 0]
theorem blk_cell {w : World} {b i : Nat} {cur : Array Value} {t : TypeId} {v : Value} (h : w.heap[b]? = some (.cells cur t)) (hi : cur[i]? = some v) : w.cell? ⟨b, i, none⟩ = some v := by simp [World.cell?, h, hi]
theorem blk_free {w : World} {b i : Nat} {cur : Array Value} {t : TypeId} (h : w.heap[b]? = some (.cells cur t)) : w.frozen? ⟨b, i, none⟩ = false := by simp [World.frozen?, h]
theorem set4_blk {wr : World} {b : Nat} {t : TypeId} {p0 p1 p2 p3 n0 n1 n2 n3 : Value} (h : wr.heap[b]? = some (.cells #[p0, p1, p2, p3] t)) :
    ((((wr.setCell ⟨b, 0, none⟩ n0).setCell ⟨b, 1, none⟩ n1).setCell ⟨b, 2, none⟩ n2).setCell ⟨b, 3, none⟩ n3).heap[b]? = some (.cells #[n0, n1, n2, n3] t) := by
  simp [World.setCell, Array.getElem?_modify, h]
theorem set4_other {wr : World} {b k : Nat} {n0 n1 n2 n3 : Value} (h : k ≠ b) :
    ((((wr.setCell ⟨b, 0, none⟩ n0).setCell ⟨b, 1, none⟩ n1).setCell ⟨b, 2, none⟩ n2).setCell ⟨b, 3, none⟩ n3).heap[k]? = wr.heap[k]? := by
  repeat rw [Below.heap_setCell _ _ _ _ h]
theorem only4 {S : Nat → Prop} {w wr : World} (h : Only S w wr) (b : Nat) (n0 n1 n2 n3 : Value) (hb : b < w.heap.size → S b) :
    Only S w ((((wr.setCell ⟨b, 0, none⟩ n0).setCell ⟨b, 1, none⟩ n1).setCell ⟨b, 2, none⟩ n2).setCell ⟨b, 3, none⟩ n3) :=
  (((h.set b 0 n0 hb).set b 1 n1 hb).set b 2 n2 hb).set b 3 n3 hb
theorem nil_slice (w : World) (F : Nat → Prop) : value.valueSp.sslice.rep w F [.slice none 0 0] [] :=
  ⟨none, 0, fun _ => [], fun _ _ => False, rfl, Nat.le_refl _, Nat.zero_le _, fun _ => rfl, fun h => absurd h (Nat.lt_irrefl _), fun i hi => absurd hi (Nat.not_lt_zero _), fun i j hi => absurd hi (Nat.not_lt_zero _), fun i hi => absurd hi (Nat.not_lt_zero _)⟩
theorem leaf_rep (w : World) (F : Nat → Prop) {x0 x1 : Int} {s : ByteArray} (h0 : -9223372036854775808 ≤ x0 ∧ x0 ≤ 9223372036854775807) (h1 : -9223372036854775808 ≤ x1 ∧ x1 ≤ 9223372036854775807) (h2 : s.size ≤ maxLen) : value.valueSp.rep w F [.int .i64 x0, .int .i64 x1, .string s, .slice none 0 0] (.mk (x0, x1, s) []) :=
  value.valuep_shutv h0 h1 h2 (nil_slice w F)

/-- What lies where no call writes. -/
structure SE (L : Nat) (w : World) (vl vp : Value) (cs : List Value) (ks : List data.DataD) (T : HeapD) : Prop where
  list : data.dataSh.slice.rep w (· < L) [vl] ks
  heap : heapSh.rep w (· < L) cs T
  plcs : ints.intsSh.rep w (· < L) [vp] (plT T).1
theorem SE.on {L : Nat} {w w' : World} {vl vp : Value} {cs : List Value} {ks : List data.DataD} {T : HeapD} (h : SE L w vl vp cs ks T) (hb : ∀ b, b < L → w'.heap[b]? = w.heap[b]?) : SE L w' vl vp cs ks T :=
  ⟨data.dataSh.slice.on h.list hb, heapSh.on h.heap hb, ints.intsSh.on h.plcs hb⟩

/-- What l20Back leaves: k's block is the work's. -/
structure SpecOut (k : Nat) (w : World) (o : Option (VD × Nat)) (e : Ending) (w' : World) : Prop where
  only : Only (· = k) w w'
  no : o = none → e = .returned (.tuple #[.agg zcs.toArray, .bool false])
  yes : ∀ V q, o = some (V, q) → (∃ cs' : List Value, e = .returned (.tuple #[.agg cs'.toArray, .bool true]) ∧ value.valueSp.rep w' (fun b => w.heap.size ≤ b ∧ b < w'.heap.size) cs' V) ∧ w'.heap[k]? = some (.cells #[.int .i64 (q : Nat)] 92)

def SpecSays (L : Nat) (ks : List data.DataD) (T : HeapD) (vl vp : Value) (cs : List Value) (d : Nat) : Prop := ∀ (r : Nat) (x : Int) (k : Nat) (w : World), r ≤ 4000 → -9223372036854775808 ≤ x → x ≤ 9223372036854775807 → L ≤ k → w.heap[k]? = some (.cells #[.int .i64 (r : Nat)] 92) → SE L w vl vp cs ks T →
  Calls Tryz.prog 47 #[.pointer (some ⟨k, 0, none⟩), vl, .agg cs.toArray, vp, .int .i64 x, .int .i64 (d : Nat)] w fun e w' => SpecOut k w (backD (topB ks T) d r x) e w'

/-- Where a call stands: its argument's box and its result lie behind w, the work holds r. -/
structure SK (w wr : World) (cs : List Value) (k : Nat) (r : Int) : Prop where
  only : Only (· = k) w wr
  box : wr.heap[w.heap.size]? = some (.cells cs.toArray 40)
  res : wr.heap[w.heap.size + 1]? = some (.cells #[.int .i64 0, .int .i64 0, .string ⟨#[]⟩, .slice none 0 0] 34)
  work : wr.heap[k]? = some (.cells #[.int .i64 r] 92)
  klt : k < w.heap.size

theorem sk_two {w : World} {cs : List Value} {k : Nat} {r : Int} (hk : w.heap[k]? = some (.cells #[.int .i64 r] 92)) : SK w ((w.alloc (.cells cs.toArray 40)).alloc (.cells #[.int .i64 0, .int .i64 0, .string ⟨#[]⟩, .slice none 0 0] 34)) cs k r := by
  have hlt : k < w.heap.size := (Array.getElem?_eq_some_iff.1 hk).1
  refine ⟨((Only.refl _ w).alloc _).alloc _, ?_, ?_, ?_, hlt⟩
  · rw [Below.heap_alloc _ _ _ (by simp)]; exact alloc_top _ _
  · have := alloc_top (w.alloc (.cells cs.toArray 40)) (.cells #[.int .i64 0, .int .i64 0, .string ⟨#[]⟩, .slice none 0 0] 34)
    rwa [World.size_alloc] at this
  · rw [Below.heap_alloc _ _ _ (by simp; omega), Below.heap_alloc _ _ _ hlt]; exact hk
theorem SK.put {w wr : World} {cs : List Value} {k : Nat} {r : Int} (h : SK w wr cs k r) (q : Int) : SK w (wr.setCell ⟨k, 0, none⟩ (.int .i64 q)) cs k q := by
  have hk := h.klt
  refine ⟨h.only.set k 0 _ (fun _ => rfl), (Below.heap_setCell _ _ _ _ (by show w.heap.size ≠ k; omega)).trans h.box, (Below.heap_setCell _ _ _ _ (by show w.heap.size + 1 ≠ k; omega)).trans h.res, ?_, hk⟩
  simp [World.setCell, Array.getElem?_modify, h.work]
theorem SK.on {w wr w' : World} {cs : List Value} {k : Nat} {r : Int} (h : SK w wr cs k r) (hb : Below wr.heap.size wr w') : SK w w' cs k r := by
  have h1 := (Array.getElem?_eq_some_iff.1 h.box).1
  have h2 := (Array.getElem?_eq_some_iff.1 h.res).1
  have h3 := (Array.getElem?_eq_some_iff.1 h.work).1
  exact ⟨h.only.bel hb, (hb.block _ h1).trans h.box, (hb.block _ h2).trans h.res, (hb.block _ h3).trans h.work, h.klt⟩
theorem SK.env {L : Nat} {w wr : World} {cs : List Value} {k : Nat} {r : Int} {vl vp : Value} {ks : List data.DataD} {T : HeapD} (h : SK w wr cs k r) (hL : L ≤ k) (he : SE L w vl vp cs ks T) : SE L wr vl vp cs ks T :=
  he.on fun b hb => h.only.block b (by have := h.klt; omega) (by omega)
theorem SK.le {w wr : World} {cs : List Value} {k : Nat} {r : Int} (h : SK w wr cs k r) : w.heap.size + 2 ≤ wr.heap.size := (Array.getElem?_eq_some_iff.1 h.res).1
theorem SK.k1 {w wr : World} {cs : List Value} {k : Nat} {r : Int} (h : SK w wr cs k r) : wr.cell? ⟨k, 0, none⟩ = some (.int .i64 r) := blk_cell h.work rfl
theorem SK.rfree {w wr : World} {cs : List Value} {k : Nat} {r : Int} (h : SK w wr cs k r) (o : Nat) : wr.frozen? ⟨w.heap.size + 1, o, none⟩ = false := blk_free h.res

theorem SK.r0 {w wr : World} {cs : List Value} {k : Nat} {r : Int} (h : SK w wr cs k r) : wr.cell? ⟨w.heap.size + 1, 0, none⟩ = some (.int .i64 0) := blk_cell (i := 0) h.res rfl
theorem SK.r1 {w wr : World} {cs : List Value} {k : Nat} {r : Int} (h : SK w wr cs k r) : wr.cell? ⟨w.heap.size + 1, 1, none⟩ = some (.int .i64 0) := blk_cell (i := 1) h.res rfl
theorem SK.r2 {w wr : World} {cs : List Value} {k : Nat} {r : Int} (h : SK w wr cs k r) : wr.cell? ⟨w.heap.size + 1, 2, none⟩ = some (.string ⟨#[]⟩) := blk_cell (i := 2) h.res rfl
theorem SK.r3 {w wr : World} {cs : List Value} {k : Nat} {r : Int} (h : SK w wr cs k r) : wr.cell? ⟨w.heap.size + 1, 3, none⟩ = some (.slice none 0 0) := blk_cell (i := 3) h.res rfl

/-- What is answered where nothing comes out. -/
theorem sk_no {w wr : World} {cs : List Value} {k : Nat} {r : Int} {o : Option (VD × Nat)} (h : SK w wr cs k r) (ho : o = none) {e : Ending} (he : e = .returned (.tuple #[.agg zcs.toArray, .bool false])) (n0 n1 n2 n3 : Value) :
    SpecOut k w o e ((((wr.setCell ⟨w.heap.size + 1, 0, none⟩ n0).setCell ⟨w.heap.size + 1, 1, none⟩ n1).setCell ⟨w.heap.size + 1, 2, none⟩ n2).setCell ⟨w.heap.size + 1, 3, none⟩ n3) :=
  ⟨only4 h.only _ _ _ _ _ (fun hl => by omega), fun _ => he, fun V q hq => by rw [ho] at hq; cases hq⟩
/-- .. and where a value without kids does. -/
theorem sk_leaf {w wr : World} {cs : List Value} {k r : Nat} {q : Int} {o : Option (VD × Nat)} {x0 x1 : Int} (h : SK w wr cs k q) (hqr : q = (r : Int)) (ho : o = some (.mk (x0, x1, ⟨#[]⟩) [], r)) (h0 : -9223372036854775808 ≤ x0 ∧ x0 ≤ 9223372036854775807) (h1 : -9223372036854775808 ≤ x1 ∧ x1 ≤ 9223372036854775807) {e : Ending}
    (he : e = .returned (.tuple #[.agg #[.int .i64 x0, .int .i64 x1, .string ⟨#[]⟩, .slice none 0 0], .bool true])) (n0 n1 n2 n3 : Value) :
    SpecOut k w o e ((((wr.setCell ⟨w.heap.size + 1, 0, none⟩ n0).setCell ⟨w.heap.size + 1, 1, none⟩ n1).setCell ⟨w.heap.size + 1, 2, none⟩ n2).setCell ⟨w.heap.size + 1, 3, none⟩ n3) := by
  have hk := h.klt
  subst hqr
  refine ⟨only4 h.only _ _ _ _ _ (fun hl => by omega), fun hn => (by rw [ho] at hn; cases hn), fun V q hq => ?_⟩
  rw [ho] at hq
  simp only [Option.some.injEq, Prod.mk.injEq] at hq
  obtain ⟨rfl, rfl⟩ := hq
  refine ⟨⟨[.int .i64 x0, .int .i64 x1, .string ⟨#[]⟩, .slice none 0 0], he, leaf_rep _ _ h0 h1 (by simp [ByteArray.size])⟩, ?_⟩
  rw [set4_other (by omega)]
  exact h.work

theorem words_rep {w : World} {S : Nat → Prop} {a0 : Option Addr} {c0 : Nat} {W : List Int} {half base next : Int} (h : heapSh.rep w S [.slice a0 W.length c0, .int .i64 half, .int .i64 base, .int .i64 next] (W, half, base, next)) : ints.intsSh.rep w S [.slice a0 W.length c0] W := by
  obtain ⟨W', a', c', hf', bs', nx', eT, eC, g0, -⟩ := heap_open h
  simp only [Prod.mk.injEq] at eT
  obtain ⟨rfl, rfl, rfl, rfl⟩ := eT
  simp only [List.cons.injEq] at eC
  rw [eC.1]; exact g0
theorem tag_in {X : Int} (h1 : -9223372036854775808 ≤ X) (h2 : X ≤ 9223372036854775807) : -9223372036854775808 ≤ tagF X ∧ tagF X ≤ 9223372036854775807 := by
  unfold tagF
  have := Int.tdiv_eq_ediv (a := X / 2 / 2) (b := 64)
  rw [this]
  have h64 : Int.sign 64 = 1 := rfl
  rw [h64]
  split <;> omega

set_option maxRecDepth 100000 in
set_option maxHeartbeats 4000000 in
/-- Too many within each other. -/
theorem spec_zero (L : Nat) (ks : List data.DataD) (T : HeapD) (vl vp : Value) (cs : List Value) : SpecSays L ks T vl vp cs 0 := by
  intro r x k w hr hx1 hx2 hL hk he
  obtain ⟨W, a0, c0, half, base, next, rfl, rfl, f0, f1, f2, f3⟩ := heap_open he.heap
  have H0 : Hid (SK w _ [.slice a0 W.length c0, .int .i64 half, .int .i64 base, .int .i64 next] k (r : Int)) := sk_two hk
  have H1 : Hid (SK w _ [.slice a0 W.length c0, .int .i64 half, .int .i64 base, .int .i64 next] k ((r : Int) - 1)) := H0.out.put _
  have c1 := H0.out.k1
  have z1 := blk_free (i := 0) H0.out.work
  have fr := H1.out.rfree
  have r0 := H1.out.r0
  have r1 := H1.out.r1
  have r2 := H1.out.r2
  have r3 := H1.out.r3

  have o0 := data.dataSh.slice.one he.list vl (by simp)
  have o1 := ints.intsSh.one he.plcs vp (by simp)
  clear he f0 f1 f2 f3 hk
  go_enter Tryz.func47, Tryz.ntmps47
  go_wp2_with fail
  refine bodyPost_ret (v := .tuple #[.agg #[.int .i64 0, .int .i64 0, .string ⟨#[]⟩, .slice none 0 0], .bool false]) (by simp [results, Tryz.f47, go_sem, r0, r1, r2, r3]) rfl ?_
  exact sk_no H1.out rfl rfl _ _ _ _

end Go.Proofs.YtjofmoebijdccaaGreat.back

namespace Go.Proofs.YtjofmoebijdccaaGreat.back
open Go Go.RowKit Go.Proofs.YtjofmoebijdccaaGreat.rose Go.Proofs.YtjofmoebijdccaaGreat Go.Proofs.YtjofmoebijdccaaGreat.heap Go.Proofs.YtjofmoebijdccaaGreat.words
set_option linter.unusedVariables false
set_option linter.unusedSimpArgs false

set_option maxRecDepth 100000 in
set_option maxHeartbeats 8000000 in
/-- None is left. -/
theorem spec_full (L : Nat) (ks : List data.DataD) (T : HeapD) (vl vp : Value) (cs : List Value) (d n k : Nat) (D ρ x : Int) (w : World) (hD1 : 1 ≤ D) (hD2 : D ≤ 200) (hn : n < 4000) (hρ : ρ = 0) (hx1 : -9223372036854775808 ≤ x) (hx2 : x ≤ 9223372036854775807) (hL : L ≤ k)
    (hk : w.heap[k]? = some (.cells #[.int .i64 ρ] 92)) (he : SE L w vl vp cs ks T) :
    Calls Tryz.prog 47 #[.pointer (some ⟨k, 0, none⟩), vl, .agg cs.toArray, vp, .int .i64 x, .int .i64 D] w fun e w' => SpecOut k w (backD (topB ks T) (d + 1) (0) x) e w' := by
  obtain ⟨W, a0, c0, half, base, next, rfl, rfl, f0, f1, f2, f3⟩ := heap_open he.heap
  have H0 : Hid (SK w _ [.slice a0 W.length c0, .int .i64 half, .int .i64 base, .int .i64 next] k ρ) := sk_two hk
  have H1 : Hid (SK w _ [.slice a0 W.length c0, .int .i64 half, .int .i64 base, .int .i64 next] k (ρ - 1)) := H0.out.put _
  have c1 := H0.out.k1
  have z1 := blk_free (i := 0) H0.out.work
  have c2 := H1.out.k1
  have fr := H1.out.rfree
  have r0 := H1.out.r0
  have r1 := H1.out.r1
  have r2 := H1.out.r2
  have r3 := H1.out.r3
  have o0 := data.dataSh.slice.one he.list vl (by simp)
  have o1 := ints.intsSh.one he.plcs vp (by simp)
  have t0 : (D == 0) = false := by simp; omega
  have p1 : 0 ≤ ρ ∧ ρ ≤ 4000 := by omega
  have t1 : decide (ρ - 1 < 0) = true := by simp; omega
  have HN : Hid (backD (topB ks (W, half, base, next)) (d + 1) 0 x = none) := back_full _ _ _
  clear he f0 f1 f2 f3 hk hρ
  go_enter Tryz.func47, Tryz.ntmps47
  go_wp2_with fail
  refine bodyPost_ret (v := .tuple #[.agg #[.int .i64 0, .int .i64 0, .string ⟨#[]⟩, .slice none 0 0], .bool false]) (by simp [results, Tryz.f47, go_sem, r0, r1, r2, r3]) rfl ?_
  exact sk_no H1.out HN.out rfl _ _ _ _

set_option maxRecDepth 100000 in
set_option maxHeartbeats 8000000 in
/-- An int. -/
theorem spec_int (L : Nat) (ks : List data.DataD) (T : HeapD) (vl vp : Value) (cs : List Value) (d n k : Nat) (D ρ x : Int) (w : World) (hD1 : 1 ≤ D) (hD2 : D ≤ 200) (hn : n < 4000) (hρ : ρ = (n : Int) + 1) (hx1 : -9223372036854775808 ≤ x) (hx2 : x ≤ 9223372036854775807) (hL : L ≤ k)
    (hk : w.heap[k]? = some (.cells #[.int .i64 ρ] 92)) (he : SE L w vl vp cs ks T) (hx : decide (x % 2 = 0) = false) :
    Calls Tryz.prog 47 #[.pointer (some ⟨k, 0, none⟩), vl, .agg cs.toArray, vp, .int .i64 x, .int .i64 D] w fun e w' => SpecOut k w (backD (topB ks T) (d + 1) (n + 1) x) e w' := by
  obtain ⟨W, a0, c0, half, base, next, rfl, rfl, f0, f1, f2, f3⟩ := heap_open he.heap
  have H0 : Hid (SK w _ [.slice a0 W.length c0, .int .i64 half, .int .i64 base, .int .i64 next] k ρ) := sk_two hk
  have H1 : Hid (SK w _ [.slice a0 W.length c0, .int .i64 half, .int .i64 base, .int .i64 next] k (ρ - 1)) := H0.out.put _
  have c1 := H0.out.k1
  have z1 := blk_free (i := 0) H0.out.work
  have c2 := H1.out.k1
  have fr := H1.out.rfree
  have r0 := H1.out.r0
  have r1 := H1.out.r1
  have r2 := H1.out.r2
  have r3 := H1.out.r3
  have o0 := data.dataSh.slice.one he.list vl (by simp)
  have o1 := ints.intsSh.one he.plcs vp (by simp)
  have t0 : (D == 0) = false := by simp; omega
  have p1 : 0 ≤ ρ ∧ ρ ≤ 4000 := by omega
  have t1 : decide (ρ - 1 < 0) = false := by simp; omega
  have HR : Hid (ρ - 1 = (n : Int)) := by show _ = _; omega
  have HN : Hid (backD (topB ks (W, half, base, next)) (d + 1) (n + 1) x = some (.mk (1, x / 2, ⟨#[]⟩) [], n)) := back_leaf (top_int (of_decide_eq_false hx))
  clear he f0 f1 f2 f3 hk hρ
  go_enter Tryz.func47, Tryz.ntmps47
  go_wp2_with (first | (go_at_call 65; refine (isref_is hx).mono ?_; rintro e w' ⟨rfl, hxx⟩; subst w') | (go_at_call 66; refine (wordint_is _ _).mono ?_; rintro e w' ⟨rfl, hxx⟩; subst w'))
  refine bodyPost_ret (v := .tuple #[.agg #[.int .i64 1, .int .i64 (x / 2), .string ⟨#[]⟩, .slice none 0 0], .bool true]) (by simp [results, Tryz.f47, go_sem, r0, r1, r2, r3]) rfl ?_
  exact sk_leaf H1.out HR.out HN.out (by omega) (by omega) rfl _ _ _ _

set_option maxRecDepth 100000 in
set_option maxHeartbeats 8000000 in
/-- A place of no block. -/
theorem spec_nowhere (L : Nat) (ks : List data.DataD) (T : HeapD) (vl vp : Value) (cs : List Value) (d n k : Nat) (D ρ x : Int) (w : World) (hD1 : 1 ≤ D) (hD2 : D ≤ 200) (hn : n < 4000) (hρ : ρ = (n : Int) + 1) (hx1 : -9223372036854775808 ≤ x) (hx2 : x ≤ 9223372036854775807) (hL : L ≤ k)
    (hk : w.heap[k]? = some (.cells #[.int .i64 ρ] 92)) (he : SE L w vl vp cs ks T) (hx : decide (x % 2 = 0) = true) (hp : decide (x / 2 ∈ (plT T).1) = false) :
    Calls Tryz.prog 47 #[.pointer (some ⟨k, 0, none⟩), vl, .agg cs.toArray, vp, .int .i64 x, .int .i64 D] w fun e w' => SpecOut k w (backD (topB ks T) (d + 1) (n + 1) x) e w' := by
  obtain ⟨W, a0, c0, half, base, next, rfl, rfl, f0, f1, f2, f3⟩ := heap_open he.heap
  have H0 : Hid (SK w _ [.slice a0 W.length c0, .int .i64 half, .int .i64 base, .int .i64 next] k ρ) := sk_two hk
  have H1 : Hid (SK w _ [.slice a0 W.length c0, .int .i64 half, .int .i64 base, .int .i64 next] k (ρ - 1)) := H0.out.put _
  have c1 := H0.out.k1
  have z1 := blk_free (i := 0) H0.out.work
  have c2 := H1.out.k1
  have fr := H1.out.rfree
  have r0 := H1.out.r0
  have r1 := H1.out.r1
  have r2 := H1.out.r2
  have r3 := H1.out.r3
  have o0 := data.dataSh.slice.one he.list vl (by simp)
  have o1 := ints.intsSh.one he.plcs vp (by simp)
  have t0 : (D == 0) = false := by simp; omega
  have p1 : 0 ≤ ρ ∧ ρ ≤ 4000 := by omega
  have t1 : decide (ρ - 1 < 0) = false := by simp; omega
  have HR : Hid (ρ - 1 = (n : Int)) := by show _ = _; omega
  have HN : Hid (backD (topB ks (W, half, base, next)) (d + 1) (n + 1) x = none) := back_none (top_nowhere (of_decide_eq_true hx) (of_decide_eq_false hp))
  have hin := in7_is vp _ hp (ints.intsSh.mono (H1.out.env hL he).plcs fun b hb => by have := H1.out.klt; have := H1.out.le; omega)
  clear he f0 f1 f2 f3 hk hρ
  go_enter Tryz.func47, Tryz.ntmps47
  go_wp2_with (first | (go_at_call 65; refine (isref_is hx).mono ?_; rintro e w' ⟨rfl, hxx⟩; subst w') | (go_at_call 67; refine (wordref_is _ _).mono ?_; rintro e w' ⟨rfl, hxx⟩; subst w') | (go_at_call 68; refine hin.mono ?_; rintro e w' ⟨rfl, hxx⟩; subst w'))
  refine bodyPost_ret (v := .tuple #[.agg #[.int .i64 0, .int .i64 0, .string ⟨#[]⟩, .slice none 0 0], .bool false]) (by simp [results, Tryz.f47, go_sem, r0, r1, r2, r3]) rfl ?_
  exact sk_no H1.out HN.out rfl _ _ _ _

set_option maxRecDepth 100000 in
set_option maxHeartbeats 8000000 in
/-- A function. -/
theorem spec_fun (L : Nat) (ks : List data.DataD) (T : HeapD) (vl vp : Value) (cs : List Value) (d n k : Nat) (D ρ x : Int) (w : World) (hD1 : 1 ≤ D) (hD2 : D ≤ 200) (hn : n < 4000) (hρ : ρ = (n : Int) + 1) (hx1 : -9223372036854775808 ≤ x) (hx2 : x ≤ 9223372036854775807) (hL : L ≤ k)
    (hk : w.heap[k]? = some (.cells #[.int .i64 ρ] 92)) (he : SE L w vl vp cs ks T) (hx : decide (x % 2 = 0) = true) (hp : decide (x / 2 ∈ (plT T).1) = true) (z : Nat) (hz : x / 2 = (z : Int)) (hzl : z < T.1.length) (hf : funF (T.1.getD z 0) = true) :
    Calls Tryz.prog 47 #[.pointer (some ⟨k, 0, none⟩), vl, .agg cs.toArray, vp, .int .i64 x, .int .i64 D] w fun e w' => SpecOut k w (backD (topB ks T) (d + 1) (n + 1) x) e w' := by
  obtain ⟨W, a0, c0, half, base, next, rfl, rfl, f0, f1, f2, f3⟩ := heap_open he.heap
  have H0 : Hid (SK w _ [.slice a0 W.length c0, .int .i64 half, .int .i64 base, .int .i64 next] k ρ) := sk_two hk
  have H1 : Hid (SK w _ [.slice a0 W.length c0, .int .i64 half, .int .i64 base, .int .i64 next] k (ρ - 1)) := H0.out.put _
  have c1 := H0.out.k1
  have z1 := blk_free (i := 0) H0.out.work
  have c2 := H1.out.k1
  have fr := H1.out.rfree
  have r0 := H1.out.r0
  have r1 := H1.out.r1
  have r2 := H1.out.r2
  have r3 := H1.out.r3
  have o0 := data.dataSh.slice.one he.list vl (by simp)
  have o1 := ints.intsSh.one he.plcs vp (by simp)
  have t0 : (D == 0) = false := by simp; omega
  have p1 : 0 ≤ ρ ∧ ρ ≤ 4000 := by omega
  have t1 : decide (ρ - 1 < 0) = false := by simp; omega
  have HR : Hid (ρ - 1 = (n : Int)) := by show _ = _; omega
  have HN : Hid (backD (topB ks (W, half, base, next)) (d + 1) (n + 1) x = some (.mk (3, 0, ⟨#[]⟩) [], n)) := back_leaf (top_fun (of_decide_eq_true hx) (of_decide_eq_true hp) (by rw [hz, Int.toNat_natCast]; exact hf))
  obtain ⟨a, cap, ea, hcap, hmax, hat⟩ := ints.ints_open (words_rep (H1.out.env hL he).heap)
  cases ea
  obtain ⟨b, o, rfl, hS, hc, q1, q2⟩ := hat z hzl
  have hgd := getD_at hzl
  rw [← hgd] at hc q1 q2
  obtain ⟨X, hX⟩ : ∃ X, X = W.getD z 0 := ⟨_, rfl⟩
  rw [← hX] at hc q1 q2
  have b0 := blk_cell (i := 0) H1.out.box rfl
  have zI : (z : Int) < (W.length : Int) := by have hzl2 : z < W.length := hzl; omega
  have z0 : (0 : Int) ≤ (z : Int) := by omega
  have hin := in7_is vp _ hp (ints.intsSh.mono (H1.out.env hL he).plcs fun b hb => by have := H1.out.klt; have := H1.out.le; omega)
  have hfx : funF X = true := by rw [hX]; exact hf
  rw [hz] at hin
  have hwr : ∀ W' : World, Calls Tryz.prog 67 #[.int .i64 x] W' fun e w' => e = .returned (.int .i64 (z : Int)) ∧ w' = W' := fun W' => by rw [← hz]; exact wordref_is x W'
  clear he f0 f1 f2 f3 hk hρ hX hgd hat hcap hmax hz hp hf
  go_enter Tryz.func47, Tryz.ntmps47
  go_wp2_with (first | (go_at_call 65; refine (isref_is hx).mono ?_; rintro e w' ⟨rfl, hxx⟩; subst w') | (go_at_call 67; refine (hwr _).mono ?_; rintro e w' ⟨rfl, hxx⟩; subst w') | (go_at_call 68; refine hin.mono ?_; rintro e w' ⟨rfl, hxx⟩; subst w') | (go_at_call 63; refine (of_is X _ q1 q2).mono ?_; rintro e w' ⟨rfl, hxx⟩; subst w'))
  refine bodyPost_ret (v := .tuple #[.agg #[.int .i64 3, .int .i64 0, .string ⟨#[]⟩, .slice none 0 0], .bool true]) (by simp [results, Tryz.f47, go_sem, r0, r1, r2, r3]) rfl ?_
  exact sk_leaf H1.out HR.out HN.out (by omega) (by omega) rfl _ _ _ _

set_option maxRecDepth 100000 in
set_option maxHeartbeats 8000000 in
/-- No con. -/
theorem spec_nocon (L : Nat) (ks : List data.DataD) (T : HeapD) (vl vp : Value) (cs : List Value) (d n k : Nat) (D ρ x : Int) (w : World) (hD1 : 1 ≤ D) (hD2 : D ≤ 200) (hn : n < 4000) (hρ : ρ = (n : Int) + 1) (hx1 : -9223372036854775808 ≤ x) (hx2 : x ≤ 9223372036854775807) (hL : L ≤ k)
    (hk : w.heap[k]? = some (.cells #[.int .i64 ρ] 92)) (he : SE L w vl vp cs ks T) (hx : decide (x % 2 = 0) = true) (hp : decide (x / 2 ∈ (plT T).1) = true) (z : Nat) (hz : x / 2 = (z : Int)) (hzl : z < T.1.length) (hf : funF (T.1.getD z 0) = false) (hw : ks.length + data.wts ks ≤ 1048576) (hcn : conAt ks (tagF (T.1.getD z 0)) = none) :
    Calls Tryz.prog 47 #[.pointer (some ⟨k, 0, none⟩), vl, .agg cs.toArray, vp, .int .i64 x, .int .i64 D] w fun e w' => SpecOut k w (backD (topB ks T) (d + 1) (n + 1) x) e w' := by
  obtain ⟨W, a0, c0, half, base, next, rfl, rfl, f0, f1, f2, f3⟩ := heap_open he.heap
  have H0 : Hid (SK w _ [.slice a0 W.length c0, .int .i64 half, .int .i64 base, .int .i64 next] k ρ) := sk_two hk
  have H1 : Hid (SK w _ [.slice a0 W.length c0, .int .i64 half, .int .i64 base, .int .i64 next] k (ρ - 1)) := H0.out.put _
  have c1 := H0.out.k1
  have z1 := blk_free (i := 0) H0.out.work
  have c2 := H1.out.k1
  have fr := H1.out.rfree
  have r0 := H1.out.r0
  have r1 := H1.out.r1
  have r2 := H1.out.r2
  have r3 := H1.out.r3
  have o0 := data.dataSh.slice.one he.list vl (by simp)
  have o1 := ints.intsSh.one he.plcs vp (by simp)
  have t0 : (D == 0) = false := by simp; omega
  have p1 : 0 ≤ ρ ∧ ρ ≤ 4000 := by omega
  have t1 : decide (ρ - 1 < 0) = false := by simp; omega
  have HR : Hid (ρ - 1 = (n : Int)) := by show _ = _; omega
  have HN : Hid (backD (topB ks (W, half, base, next)) (d + 1) (n + 1) x = none) := back_none (top_nocon (of_decide_eq_true hx) (of_decide_eq_true hp) (by rw [hz, Int.toNat_natCast]; exact hf) (by rw [hz, Int.toNat_natCast]; exact hcn))
  obtain ⟨a, cap, ea, hcap, hmax, hat⟩ := ints.ints_open (words_rep (H1.out.env hL he).heap)
  cases ea
  obtain ⟨b, o, rfl, hS, hc, q1, q2⟩ := hat z hzl
  have hgd := getD_at hzl
  rw [← hgd] at hc q1 q2
  obtain ⟨X, hX⟩ : ∃ X, X = W.getD z 0 := ⟨_, rfl⟩
  rw [← hX] at hc q1 q2
  have b0 := blk_cell (i := 0) H1.out.box rfl
  have zI : (z : Int) < (W.length : Int) := by have hzl2 : z < W.length := hzl; omega
  have z0 : (0 : Int) ≤ (z : Int) := by omega
  have hin := in7_is vp _ hp (ints.intsSh.mono (H1.out.env hL he).plcs fun b hb => by have := H1.out.klt; have := H1.out.le; omega)
  have hfx : funF X = false := by rw [hX]; exact hf
  have htg : -9223372036854775808 ≤ tagF X ∧ tagF X ≤ 9223372036854775807 := tag_in q1 q2
  have hcall := data.specTagCon ks vl (tagF X) _ htg.1 htg.2 hw (data.dataSh.slice.mono (H1.out.env hL he).list fun b hb => by have := H1.out.klt; have := H1.out.le; omega)
  rw [con_nowhere (by rw [hX]; exact hcn)] at hcall
  dsimp only at hcall
  clear he
  rw [hz] at hin
  have hwr : ∀ W' : World, Calls Tryz.prog 67 #[.int .i64 x] W' fun e w' => e = .returned (.int .i64 (z : Int)) ∧ w' = W' := fun W' => by rw [← hz]; exact wordref_is x W'
  clear f0 f1 f2 f3 hk hρ hX hgd hat hcap hmax hz hp hf
  go_enter Tryz.func47, Tryz.ntmps47
  go_wp2_with (first | (go_at_call 65; refine (isref_is hx).mono ?_; rintro e w' ⟨rfl, hxx⟩; subst w') | (go_at_call 67; refine (hwr _).mono ?_; rintro e w' ⟨rfl, hxx⟩; subst w') | (go_at_call 68; refine hin.mono ?_; rintro e w' ⟨rfl, hxx⟩; subst w') | (go_at_call 63; refine (of_is X _ q1 q2).mono ?_; rintro e w' ⟨rfl, hxx⟩; subst w'))
  refine hcall.mono ?_
  rintro e w2 ⟨rfl, hb2⟩
  have H2 : Hid (SK w w2 [.slice (some ⟨b, o, none⟩) W.length c0, .int .i64 half, .int .i64 base, .int .i64 next] k (ρ - 1)) := H1.out.on hb2
  clear hcall hb2 c1 z1 c2 fr r0 r1 r2 r3 b0 hc
  have fr := H2.out.rfree
  have r0 := H2.out.r0
  have r1 := H2.out.r1
  have r2 := H2.out.r2
  have r3 := H2.out.r3
  go_wp2
  refine bodyPost_ret (v := .tuple #[.agg #[.int .i64 0, .int .i64 0, .string ⟨#[]⟩, .slice none 0 0], .bool false]) (by simp [results, Tryz.f47, go_sem, r0, r1, r2, r3]) rfl ?_
  exact sk_no H2.out HN.out rfl _ _ _ _

set_option maxRecDepth 100000 in
set_option maxHeartbeats 8000000 in
/-- Other than its kids. -/
theorem spec_other (L : Nat) (ks : List data.DataD) (T : HeapD) (vl vp : Value) (cs : List Value) (d n k : Nat) (D ρ x : Int) (w : World) (hD1 : 1 ≤ D) (hD2 : D ≤ 200) (hn : n < 4000) (hρ : ρ = (n : Int) + 1) (hx1 : -9223372036854775808 ≤ x) (hx2 : x ≤ 9223372036854775807) (hL : L ≤ k)
    (hk : w.heap[k]? = some (.cells #[.int .i64 ρ] 92)) (he : SE L w vl vp cs ks T) (hx : decide (x % 2 = 0) = true) (hp : decide (x / 2 ∈ (plT T).1) = true) (z : Nat) (hz : x / 2 = (z : Int)) (hzl : z < T.1.length) (hf : funF (T.1.getD z 0) = false) (hw : ks.length + data.wts ks ≤ 1048576) (s : data.Spot) (hcn : conAt ks (tagF (T.1.getD z 0)) = some s) (hm : ¬ (s.c.2.length : Int) = manyF (T.1.getD z 0)) :
    Calls Tryz.prog 47 #[.pointer (some ⟨k, 0, none⟩), vl, .agg cs.toArray, vp, .int .i64 x, .int .i64 D] w fun e w' => SpecOut k w (backD (topB ks T) (d + 1) (n + 1) x) e w' := by
  obtain ⟨W, a0, c0, half, base, next, rfl, rfl, f0, f1, f2, f3⟩ := heap_open he.heap
  have H0 : Hid (SK w _ [.slice a0 W.length c0, .int .i64 half, .int .i64 base, .int .i64 next] k ρ) := sk_two hk
  have H1 : Hid (SK w _ [.slice a0 W.length c0, .int .i64 half, .int .i64 base, .int .i64 next] k (ρ - 1)) := H0.out.put _
  have c1 := H0.out.k1
  have z1 := blk_free (i := 0) H0.out.work
  have c2 := H1.out.k1
  have fr := H1.out.rfree
  have r0 := H1.out.r0
  have r1 := H1.out.r1
  have r2 := H1.out.r2
  have r3 := H1.out.r3
  have o0 := data.dataSh.slice.one he.list vl (by simp)
  have o1 := ints.intsSh.one he.plcs vp (by simp)
  have t0 : (D == 0) = false := by simp; omega
  have p1 : 0 ≤ ρ ∧ ρ ≤ 4000 := by omega
  have t1 : decide (ρ - 1 < 0) = false := by simp; omega
  have HR : Hid (ρ - 1 = (n : Int)) := by show _ = _; omega
  have HN : Hid (backD (topB ks (W, half, base, next)) (d + 1) (n + 1) x = none) := back_none (top_other (of_decide_eq_true hx) (of_decide_eq_true hp) (by rw [hz, Int.toNat_natCast]; exact hf) (by rw [hz, Int.toNat_natCast]; exact hcn) (by rw [hz, Int.toNat_natCast]; exact hm))
  obtain ⟨a, cap, ea, hcap, hmax, hat⟩ := ints.ints_open (words_rep (H1.out.env hL he).heap)
  cases ea
  obtain ⟨b, o, rfl, hS, hc, q1, q2⟩ := hat z hzl
  have hgd := getD_at hzl
  rw [← hgd] at hc q1 q2
  obtain ⟨X, hX⟩ : ∃ X, X = W.getD z 0 := ⟨_, rfl⟩
  rw [← hX] at hc q1 q2
  have b0 := blk_cell (i := 0) H1.out.box rfl
  have zI : (z : Int) < (W.length : Int) := by have hzl2 : z < W.length := hzl; omega
  have z0 : (0 : Int) ≤ (z : Int) := by omega
  have hin := in7_is vp _ hp (ints.intsSh.mono (H1.out.env hL he).plcs fun b hb => by have := H1.out.klt; have := H1.out.le; omega)
  have hfx : funF X = false := by rw [hX]; exact hf
  have htg : -9223372036854775808 ≤ tagF X ∧ tagF X ≤ 9223372036854775807 := tag_in q1 q2
  have hcall := data.specTagCon ks vl (tagF X) _ htg.1 htg.2 hw (data.dataSh.slice.mono (H1.out.env hL he).list fun b hb => by have := H1.out.klt; have := H1.out.le; omega)
  obtain ⟨hsp, hsi, hsj, hsc⟩ := con_spot (show conAt ks (tagF X) = some s by rw [hX]; exact hcn)
  rw [hsp] at hcall
  dsimp only at hcall
  have hmx : ¬ (s.c.2.length : Int) = manyF X := by rw [hX]; exact hm
  rw [hz] at hin
  have hwr : ∀ W' : World, Calls Tryz.prog 67 #[.int .i64 x] W' fun e w' => e = .returned (.int .i64 (z : Int)) ∧ w' = W' := fun W' => by rw [← hz]; exact wordref_is x W'
  clear f0 f1 f2 f3 hk hρ hX hgd hat hcap hmax hz hp hf
  go_enter Tryz.func47, Tryz.ntmps47
  go_wp2_with (first | (go_at_call 65; refine (isref_is hx).mono ?_; rintro e w' ⟨rfl, hxx⟩; subst w') | (go_at_call 67; refine (hwr _).mono ?_; rintro e w' ⟨rfl, hxx⟩; subst w') | (go_at_call 68; refine hin.mono ?_; rintro e w' ⟨rfl, hxx⟩; subst w') | (go_at_call 63; refine (of_is X _ q1 q2).mono ?_; rintro e w' ⟨rfl, hxx⟩; subst w'))
  refine hcall.mono ?_
  rintro e w2 ⟨rfl, hb2⟩
  have H2 : Hid (SK w w2 [.slice (some ⟨b, o, none⟩) W.length c0, .int .i64 half, .int .i64 base, .int .i64 next] k (ρ - 1)) := H1.out.on hb2
  clear hcall hb2 c1 z1 c2 fr r0 r1 r2 r3 b0 hc
  have fr := H2.out.rfree
  have r0 := H2.out.r0
  have r1 := H2.out.r1
  have r2 := H2.out.r2
  have r3 := H2.out.r3
  have E2 : Hid (SE L w2 vl vp [.slice (some ⟨b, o, none⟩) W.length c0, .int .i64 half, .int .i64 base, .int .i64 next] ks (W, half, base, next)) := H2.out.env hL he
  obtain ⟨al, capl, cssl, rfl, hcl, hml, hrl, hkl⟩ := data.datas_open E2.out.list
  obtain ⟨bl, ol, rfl, hSl, hcd⟩ := hrl s.i hsi
  obtain ⟨y0, y1, y2, a2, cc2, hT, hcs, g0, g1, g2⟩ := data.data_open (hkl s.i hsi)
  rw [hcs] at hcd
  have d2 := hcd 2 _ rfl
  obtain ⟨a1, cap1, cs1, e1, -, -, hrow, hk1⟩ := con.cons_open g2
  cases e1
  have hsj' : s.j < y2.length := by rw [hT] at hsj; exact hsj
  obtain ⟨bc, oc, rfl, hSc, hcc⟩ := hrow s.j hsj'
  obtain ⟨u0, u1, a3, c3, hT2, hcs2, g3, g4⟩ := con.con_open (hk1 s.j hsj')
  rw [hcs2] at hcc
  have hu : s.c = (u0, u1) := by rw [← hsc, ← hT2]; simp only [hT]
  have n0 : w2.cell? ⟨bc, oc + s.j * 2, none⟩ = some (.string u0) := hcc 0 _ rfl
  have n1 := hcc 1 _ rfl
  have iI : (s.i : Int) < (ks.length : Int) := by omega
  have i0 : (0 : Int) ≤ (s.i : Int) := by omega
  have i1 : decide ((s.i : Int) < 0) = false := by simp
  have jI : (s.j : Int) < (y2.length : Int) := by omega
  have j0 : (0 : Int) ≤ (s.j : Int) := by omega
  have tm : ((u1.length : Int) != manyF X) = true := by rw [hu] at hmx; simpa using hmx
  clear he hcl hml hrl hkl hSl hcd hT hcs g0 g1 g2 hrow hk1 hSc hcc hT2 hcs2 g3 g4 hu hsc hsj hsp hm hmx E2
  go_wp2
  refine bodyPost_ret (v := .tuple #[.agg #[.int .i64 0, .int .i64 0, .string ⟨#[]⟩, .slice none 0 0], .bool false]) (by simp [results, Tryz.f47, go_sem, r0, r1, r2, r3]) rfl ?_
  exact sk_no H2.out HN.out rfl _ _ _ _

end Go.Proofs.YtjofmoebijdccaaGreat.back
