/-
  A row that the call itself owns: its last element taken off, its cells read; a kind of data that is one cell; data that lie at one place are one.
  The program's consByTag, at every list of datas: a new row in which the con with tag i stands at place i; nothing that was there is turned.
  The contract of internal/stringslite.Clone (what strings.Clone calls) at this program (the shelf's, proved once over any program, applied here); no condition of our own.
  The program's isBelow; nothing is turned.
-/
import Derived.Laws.AppendOwn
import Derived.Laws.AppendOwnNone
import Derived.OwnWalkIn
import Derived.Maps.OwnIn
import Derived.Shelf.LaysM
import Derived.Shelf.Strconv.Clone
import Derived.Test.YtjofmoebijdccaaChecked
import Derived.WalkKit
import Derived.WalkLawsBesides
import Derived.Test.YtjofmoebijdccaaB1
import Derived.Test.YtjofmoebijdccaaB2
import Derived.Test.YtjofmoebijdccaaB3
import Derived.Test.YtjofmoebijdccaaB4
import Derived.Test.YtjofmoebijdccaaB5
import Derived.Test.YtjofmoebijdccaaB6
import Derived.Test.YtjofmoebijdccaaB7
import Derived.Test.YtjofmoebijdccaaB8
import Derived.Test.YtjofmoebijdccaaB9
import Derived.Test.YtjofmoebijdccaaB10
import Derived.Test.YtjofmoebijdccaaB11
import Derived.Test.YtjofmoebijdccaaB12
import Derived.Test.YtjofmoebijdccaaB13
import Derived.Test.YtjofmoebijdccaaB14
import Derived.Test.YtjofmoebijdccaaB15
import Derived.Test.YtjofmoebijdccaaB16
import Derived.Test.YtjofmoebijdccaaB17
import Derived.Test.YtjofmoebijdccaaB18
import Derived.Test.YtjofmoebijdccaaB19
import Derived.Test.YtjofmoebijdccaaB20
import Derived.Test.YtjofmoebijdccaaB21
import Derived.Test.YtjofmoebijdccaaB22
import Derived.Test.YtjofmoebijdccaaB23
import Derived.Test.YtjofmoebijdccaaB24
import Derived.Test.YtjofmoebijdccaaB25
namespace Go.Proofs.Ytjofmoebijdccaa.rose
open Go Go.RowKit
set_option linter.unusedVariables false

theorem shrink {w : World} {base : Nat} {t : TypeId} {k j cap g : Nat} {xs : List Value} (h : w.ownsRow base t k (.slice (some ⟨g, 0, none⟩) (j + 1) cap) (j + 1) xs) : w.ownsRow base t k (.slice (some ⟨g, 0, none⟩) j cap) j (xs.take (j * k)) := by
  obtain ⟨hl, hv⟩ := h
  have hle : j * k ≤ (j + 1) * k := Nat.mul_le_mul_right _ (by omega)
  refine ⟨by rw [List.length_take, hl]; omega, Or.inr ?_⟩
  rcases hv with ⟨h, _⟩ | ⟨g', cap', cur, h1, h2, h3, h4, h5, h6, h7⟩
  · cases h
  · cases h1
    exact ⟨g, cap, cur, rfl, h2, h3, by omega, h5, h6, by rw [← h7, List.take_take, Nat.min_eq_left hle]⟩

theorem flat_take (css : Nat → List Value) (n : Nat) {k : Nat} (h : ∀ i, i < n + 1 → (css i).length = k) : (flat css (n + 1)).take (n * k) = flat css n := by
  rw [flat_succ, List.take_left' (flat_length fun i hi => h i (by omega))]

theorem own_cell {w : World} {base : Nat} {t : TypeId} {k g n cap : Nat} {css : Nat → List Value} (h : w.ownsRow base t k (.slice (some ⟨g, 0, none⟩) n cap) n (flat css n)) (hl : ∀ i, i < n → (css i).length = k) {i q : Nat} {v : Value} (hi : i < n) (hq : (css i)[q]? = some v) : w.cell? ⟨g, i * k + q, none⟩ = some v := by
  rcases h.2 with ⟨h, _⟩ | ⟨g', cap', cur, h1, h2, h3, h4, h5, h6, h7⟩
  · cases h
  · cases h1
    have hqk : q < k := by
      rcases Nat.lt_or_ge q k with h' | h'
      · exact h'
      · rw [List.getElem?_eq_none (by rw [hl i hi]; exact h')] at hq; cases hq
    have hf := flat_get (css := css) (n := n) (k := k) hl hi hqk
    rw [hq, ← h7, List.getElem?_take] at hf
    have hlt : i * k + q < n * k := by
      have := Nat.mul_le_mul_right k (show i + 1 ≤ n by omega)
      rw [Nat.succ_mul] at this; omega
    rw [if_pos hlt] at hf
    simp only [World.cell?, h3]
    rw [Array.getElem?_toList] at hf
    exact hf

theorem row_on {w w' : World} {base : Nat} {t : TypeId} {k n : Nat} {v : Value} {xs : List Value} (h : w.ownsRow base t k v n xs) (hb : ∀ g, base ≤ g → g < w.heap.size → w'.heap[g]? = w.heap[g]?) : w'.ownsRow base t k v n xs := by
  obtain ⟨hl, hv⟩ := h
  refine ⟨hl, ?_⟩
  rcases hv with h0 | ⟨g, cap, cur, h1, h2, h3, h4⟩
  · exact Or.inl h0
  · have hg : g < w.heap.size := by
      rcases Nat.lt_or_ge g w.heap.size with h' | h'
      · exact h'
      · rw [Array.getElem?_eq_none h'] at h3; cases h3
    exact Or.inr ⟨g, cap, cur, h1, h2, by rw [hb g h2 hg]; exact h3, h4⟩

/-- An append of one cell to the call's own row, inside a fence: what comes of it is a slice. -/
theorem append_oneIn {F : Fence} {nF : Nat} {P : Program} (w : World) {ops : Array Oper} {rest : List Oper} {o : Oper} {a : Act} {Q : Exit → Act → World → Prop} (hgd : o.guard = none) (s x : Operand) (t : TypeId)
    (ho : o.op = .call { callee := .builtin .append, args := #[s, x], argTypes := #[t, t] })
    (base : Nat) (e : TypeId) (i : TypeInfo) (z : Value) (bytes : Nat) (ht : P.underlying t = some (.slice e)) (hi : P.info? e = some i) (hz : i.zero = some z)
    (hsize : i.size = 1) (hby : i.bytes = bytes) (hzs : z.cells.size = 1)
    (v : Value) (n : Nat) (xs : List Value) (hs : a.eval s = v) (hown : w.ownsRow base e 1 v n xs)
    (ad : Addr) (c : Nat) (y : Value) (hx : a.eval x = .slice (some ad) 1 c) (hnews : ∀ j u, [y][j]? = some u → w.cell? (ad.add j) = some u) (h1 : y.oneCell' = true)
    (h63 : n + 1 ≤ maxLen) (hbytes : (n + 1) * bytes ≤ 140737488355328) (hbase : base ≤ w.heap.size)
    (h : ∀ a' l' c' w', w'.ownsRow base e 1 (.slice a' l' c') (n + 1) (xs ++ [y]) → w.grownBy w' v.ownBlock → wpListIn F nF P ops Q rest (a.put o.dst (.slice a' l' c')) w') :
    wpListIn F nF P ops Q (o :: rest) a w :=
  wpListIn_append_own_at w hgd s x t ho base e i z 1 bytes ht hi hz hsize hby hzs (by decide) v n xs hs hown ad 1 c [y] hx rfl hnews (by simp [h1]) h63 hbytes hbase fun v' w' hown' hg _ _ => by
    obtain ⟨a', l', c', rfl⟩ : ∃ a' l' c', v' = .slice a' l' c' := by
      rcases hown'.2 with ⟨rfl, _⟩ | ⟨_, _, _, rfl, _⟩
      · exact ⟨_, _, _, rfl⟩
      · exact ⟨_, _, _, rfl⟩
    exact h a' l' c' w' hown' hg

/-- One cell, whatever it is. -/
def valSh : Sh Value where
  k := 1
  rep := fun _ _ cs v => cs = [v] ∧ v.oneCell' = true
  len := by rintro _ _ _ _ ⟨rfl, _⟩; rfl
  on := fun h _ => h
  mono := fun h _ => h
  one := by rintro _ _ _ _ ⟨rfl, h⟩ v hv; simp at hv; subst hv; exact h

/-- A kind of data of which cells tell one alone. -/
def Sh.Sole {α : Type} (A : Sh α) : Prop := ∀ w S S' cs x x', A.rep w S cs x → A.rep w S' cs x' → x = x'

theorem Sh.int_sole : Sh.int.Sole := by
  rintro w S S' cs x x' ⟨rfl, _⟩ ⟨h, _⟩
  simpa using h
theorem Sh.str_sole : Sh.str.Sole := by
  rintro w S S' cs x x' ⟨rfl, _⟩ ⟨h, _⟩
  simpa using h
theorem Sh.Sole.pair {α β : Type} {A : Sh α} {B : Sh β} (hA : A.Sole) (hB : B.Sole) : (A.pair B).Sole := by
  rintro w S S' cs ⟨x1, x2⟩ ⟨y1, y2⟩ ⟨c1, c2, rfl, h1, h2⟩ ⟨d1, d2, e, g1, g2⟩
  have hl : c1.length = d1.length := by rw [A.len h1, A.len g1]
  obtain ⟨rfl, rfl⟩ := List.append_inj e hl
  have e1 : x1 = y1 := hA _ _ _ _ _ _ h1 g1
  have e2 : x2 = y2 := hB _ _ _ _ _ _ h2 g2
  rw [e1, e2]

theorem cells_eq {w : World} {b o : Nat} {cs cs' : List Value} (h : CellsAt w b o cs) (h' : CellsAt w b o cs') (hl : cs.length = cs'.length) : cs = cs' := by
  apply List.ext_getElem hl
  intro j h1 h2
  have e1 := h j _ (List.getElem?_eq_getElem h1)
  have e2 := h' j _ (List.getElem?_eq_getElem h2)
  rw [e1] at e2
  exact Option.some.inj e2

theorem Sh.Sole.rose {α : Type} {A : Sh α} (hA : A.Sole) : A.rose.Sole := by
  intro w S S' cs x x' h
  induction h generalizing x' with
  | @mk ps x a cap kids css hp hcap hmax hnone hat hk ih =>
    intro h'
    obtain ⟨y, kids'⟩ := x'
    obtain ⟨ps', kc, e, hp', a', cap', css', rfl, hcap', hmax', hnone', hat', hk'⟩ := rose_iff.1 h'
    have hl : ps.length = ps'.length := by rw [A.len hp, A.len hp']
    obtain ⟨rfl, e2⟩ := List.append_inj e hl
    simp only [List.cons.injEq, Value.slice.injEq, and_true] at e2
    obtain ⟨rfl, hlen, rfl⟩ := e2
    have e1 : x = y := hA _ _ _ _ _ _ hp hp'
    have e3 : kids = kids' := by
      apply List.ext_getElem hlen
      intro j h1 h2
      obtain ⟨b, o, ea, _, hc⟩ := hat j h1
      obtain ⟨b', o', ea', _, hc'⟩ := hat' j h2
      rw [ea] at ea'
      cases ea'
      have he := cells_eq hc hc' (by rw [A.rose.len (hk j h1), A.rose.len (hk' j h2)])
      exact ih j h1 _ (by rw [he]; exact hk' j h2)
    rw [e1, e3]

theorem Sh.Sole.take {α : Type} {A : Sh α} (hA : A.Sole) {w : World} {S S' : Nat → Prop} {a : Addr} {n n' c c' : Nat} {xs xs' : List α} (h : A.slice.rep w S [.slice (some a) n c] xs) (h' : A.slice.rep w S' [.slice (some a) n' c'] xs') (hn : n ≤ n') : xs = xs'.take n := by
  obtain ⟨a1, c1, css, e, hcap, hmax, hnone, hat, hk⟩ := h
  obtain ⟨a2, c2, css', e', hcap', hmax', hnone', hat', hk'⟩ := h'
  simp only [List.cons.injEq, Value.slice.injEq, and_true] at e e'
  obtain ⟨rfl, hl, rfl⟩ := e
  obtain ⟨ea, hl', rfl⟩ := e'
  subst ea
  apply List.ext_getElem (by rw [List.length_take]; omega)
  intro j h1 h2
  rw [List.getElem_take]
  obtain ⟨b, o, ea, _, hc⟩ := hat j h1
  obtain ⟨b', o', ea', _, hc'⟩ := hat' j (by omega)
  rw [ea] at ea'
  cases ea'
  have he := cells_eq hc hc' (by rw [A.len (hk j h1), A.len (hk' j (by omega))])
  exact hA _ _ _ _ _ _ (hk j h1) (by rw [he]; exact hk' j (by omega))

end Go.Proofs.Ytjofmoebijdccaa.rose

namespace Go.Proofs.Ytjofmoebijdccaa.data
open Go.RowKit Go.Shelf Go.Proofs.Ytjofmoebijdccaa.rose Go.Proofs.Ytjofmoebijdccaa.rangeb Go.Proofs.Ytjofmoebijdccaa
set_option linter.unusedVariables false
set_option linter.unusedSimpArgs false
attribute [local go_sem] Oper.semAt_some

/-- The row's cells of a con. -/
def two2 {w : World} {S : Nat → Prop} (x : CPartA w S) : List Value := [.string x.s.c.1, .slice x.a x.s.c.2.length x.c]
theorem two2_get {w : World} {S : Nat → Prop} (l : List (CPartA w S)) (i j : Nat) (hi : i < l.length) (hj : j < 2) : (l.flatMap two2)[i * 2 + j]? = (two2 l[i])[j]? := by
  induction l generalizing i with
  | nil => simp at hi
  | cons x l ih =>
    rw [List.flatMap_cons]
    cases i with
    | zero =>
      rw [List.getElem?_append_left (by simp [two2]; omega)]
      simp
    | succ i =>
      rw [List.getElem?_append_right (by simp [two2]; omega)]
      have e : (i + 1) * 2 + j - (two2 x).length = i * 2 + j := by simp [two2]; omega
      rw [e, ih i (by simpa using hi)]
      simp
theorem two2_len {w : World} {S : Nat → Prop} (l : List (CPartA w S)) : (l.flatMap two2).length = l.length * 2 := by
  induction l with
  | nil => rfl
  | cons x l ih => rw [List.flatMap_cons, List.length_append, ih]; simp [two2]; omega

theorem twoA (w : World) (A B : Obj) (WL : World) (h : WL = (w.alloc A).alloc B) : WL.heap.size = w.heap.size + 2 ∧ Below w.heap.size w WL ∧ WL.heap[w.heap.size]? = some A ∧ WL.heap[w.heap.size + 1]? = some B := by
  subst h
  refine ⟨by simp, ((Below.refl _ w).alloc (Nat.le_refl _) _).alloc (by simp) _, ?_, ?_⟩
  · exact (Below.heap_alloc _ _ _ (by simp)).trans (alloc_top _ _)
  · have := alloc_top (w.alloc A) B
    rwa [World.size_alloc] at this

/-- A row of cons, by their tags: their names, and how many types each has. -/
structure CRow (w : World) (lo : Nat) (v : Value) (l : List Spot) : Prop where
  form : ∃ a cap, v = .slice a l.length cap ∧ ∀ j (h : j < l.length), ∃ g, a = some ⟨g, 0, none⟩ ∧ lo ≤ g ∧ g < w.heap.size ∧ w.cell? ⟨g, j * 2, none⟩ = some (.string l[j].c.1) ∧ ∃ a' c', w.cell? ⟨g, j * 2 + 1, none⟩ = some (.slice a' l[j].c.2.length c')
  names : ∀ j (h : j < l.length), l[j].c.1.size ≤ maxLen
  own : ∀ g, v.ownBlock = some g → lo ≤ g ∧ g < w.heap.size
theorem CRow.on {w w' : World} {lo : Nat} {v : Value} {l : List Spot} (h : CRow w lo v l) (hs : w.heap.size ≤ w'.heap.size) (hb : ∀ b, lo ≤ b → b < w.heap.size → v.ownBlock = some b → w'.heap[b]? = w.heap[b]?) : CRow w' lo v l := by
  obtain ⟨⟨a, cap, rfl, hc⟩, hn, hw⟩ := h
  refine ⟨⟨a, cap, rfl, fun j hj => ?_⟩, hn, fun g hg => ⟨(hw g hg).1, Nat.lt_of_lt_of_le (hw g hg).2 hs⟩⟩
  obtain ⟨g, rfl, h1, h2, h3, a', c', h4⟩ := hc j hj
  have e := hb g h1 h2 rfl
  exact ⟨g, rfl, h1, Nat.lt_of_lt_of_le h2 hs, (World.cell?_of_block (w := w) (a := ⟨g, j * 2, none⟩) e).trans h3, a', c', (World.cell?_of_block (w := w) (a := ⟨g, j * 2 + 1, none⟩) e).trans h4⟩

theorem info_con : (Try.prog.info? 87).map (fun i => (i.zero, i.size, i.bytes)) = some (some (.agg #[.string ⟨#[]⟩, .slice none 0 0]), 2, 40) := by kernel_rfl

set_option maxRecDepth 100000 in
set_option maxHeartbeats 4000000 in
theorem consByTag_any (ks : List DataD) (v : Value) (w : World) (S : Nat → Prop) (hS : ∀ b, S b → b < w.heap.size) (hw : ks.length + wts ks ≤ 1048576) (h : dataSh.slice.rep w S [v] ks) :
    Calls Try.prog 26 #[v] w fun e w' => (∃ u, e = .returned u ∧ CRow w' w.heap.size u (spots 0 0 ks)) ∧ Below w.heap.size w w' := by
  refine (callsIn_wide (n := 6)).1 ?_
  have htl := total_le ks
  obtain ⟨ti, hti, hzz⟩ := Option.map_eq_some_iff.1 info_con
  simp only [Prod.mk.injEq] at hzz
  obtain ⟨hz0, hz1, hz2⟩ := hzz
  have TI : Hid (Try.prog.info? 87 = some ti ∧ ti.zero = some (.agg #[.string ⟨#[]⟩, .slice none 0 0]) ∧ ti.size = 2 ∧ ti.bytes = 40) := ⟨hti, hz0, hz1, hz2⟩
  clear hti hz0 hz1 hz2
  have o0 := dataSh.slice.one h v (by simp)
  have HREP : Hid (dataSh.slice.rep w S [v] ks) := h
  clear h
  refine callsIn_of_wp_marks Try.func26 rfl trivial ?_ rfl
  simp only [Try.ntmps26, List.size_toArray, List.length_cons, List.length_nil, Nat.reduceAdd, Nat.reduceSub, Array.replicate_succ, Array.replicate_zero, List.push_toArray, List.append_toArray, List.nil_append, List.cons_append]
  gi_wp2_with (refine ⟨trivial, ?_⟩; gi_at_call 50; refine (consOf_in Fence.wide _ trivial rfl v _ o0).mono ?_; rintro e w' ⟨rfl, rfl⟩)
  obtain ⟨WL, hWL⟩ : ∃ WL, WL = (w.alloc (.cells #[.slice none 0 0] 56)).alloc (.cells #[v] 33) := ⟨_, rfl⟩
  obtain ⟨zL, bL, k0, k1⟩ := twoA w _ _ WL hWL
  rw [← hWL]
  clear hWL
  refine wpIn_rangeFunc_Ax (n₀ := w.heap.size) (N := total ks) rfl (by omega) (gf := 70) (lb := #[.pointer (some ⟨w.heap.size + 1, 0, none⟩)]) rfl trivial (enters_of Try.func70 (by kernel_rfl) rfl) (by omega)
    (consOf_stopsA Fence.wide _ trivial rfl (by omega) (w.heap.size + 1) w.heap.size S hS ks v WL (by omega) (by omega) (blk_cell k1 rfl) (dataSh.slice.on HREP.out fun b hb => bL.block b (hS b hb)) hw) (fun _ => rfl)
    (fun (pre : List (CPartA WL S)) W' => (∃ u, W'.heap[w.heap.size]? = some (.cells #[u] 56) ∧ W'.ownsRow (w.heap.size + 4) 87 2 u pre.length (pre.flatMap two2)) ∧ Below w.heap.size w W' ∧ w.heap.size + 2 ≤ W'.heap.size)
    (fun c pre W' => False)
    (fun s A B hs hb => by
      obtain ⟨⟨u, h1, h2⟩, h3, h5⟩ := hs
      exact ⟨⟨u, (hb.other _ (by omega) (by omega)).trans h1, row_on h2 fun g hg hlt => hb.other g hlt (by omega)⟩, h3.trans (hb.below _ (by omega) (by omega)), Nat.le_trans h5 hb.size⟩)
    (fun c s A B hs hb => hs)
    ⟨⟨_, k0, World.ownsRow_nil _ _ _ _⟩, bL, by omega⟩
    (fun x a' W' => ∃ (By : Nat) (y0 y1 y2 y4 y6 y7 y8 y9 y10 y11 y12 y13 y14 : Value), w.heap.size + 4 ≤ By ∧ W'.heap[By]? = some (.cells #[.string x.s.c.1, .slice x.a x.s.c.2.length x.c] 87) ∧ a' = { tmps := #[y0, y1, y2, .pointer (some ⟨w.heap.size, 0, none⟩), y4, .pointer (some ⟨By, 0, none⟩), y6, y7, y8, y9, y10, y11, y12, y13, y14], defers := [] })
    (fun x a' A B hA hb => by
      obtain ⟨By, y0, y1, y2, y4, y6, y7, y8, y9, y10, y11, y12, y13, y14, h2, h4, h5⟩ := hA
      exact ⟨By, _, _, _, _, _, _, _, _, _, _, _, _, _, h2, (hb By (by omega)).trans h4, h5⟩) ?assign ?body ?done ?stop
  case assign =>
    intro l pre x W' K hi hz hK
    simp only [encsA, encPA, encCA]
    gi_wp2
    obtain ⟨⟨u, h1, h2⟩, h3, h5⟩ := hi
    have hb : Below W'.heap.size W' (W'.alloc (.cells #[.string x.s.c.1, .slice x.a x.s.c.2.length x.c] 87)) := (Below.refl _ _).alloc (Nat.le_refl _) _
    exact hK _ _ ⟨hb.size, fun k hk => hb.block k (by omega), hb.block _ (by omega), hb.block _ (by omega)⟩ ⟨⟨u, (hb.block _ (by omega)).trans h1, row_on h2 fun g hg hlt => hb.block g hlt⟩, h3.trans (hb.mono (by omega)), Nat.le_trans h5 hb.size⟩ ⟨W'.heap.size, _, _, _, _, _, _, _, _, _, _, _, _, _, by omega, alloc_top _ _, rfl⟩
  case body =>
    rintro l pre x a' W' ⟨⟨u, h1, h2⟩, h3, h5⟩ hlen hz ⟨By, y0, y1, y2, y4, y6, y7, y8, y9, y10, y11, y12, y13, y14, hBy, ey, rfl⟩
    have g0 := blk_cell ey (i := 0) rfl
    have g1 := blk_cell ey (i := 1) rfl
    have m0 := blk_cell h1 (i := 0) rfl
    have p0 := blk_free (i := 0) h1
    have H1 : Hid _ := h1
    have H3 : Hid (Below w.heap.size w W') := h3
    have H2 : Hid (W'.ownsRow (w.heap.size + 4) 87 2 u pre.length (pre.flatMap two2)) := h2
    have HOB : Hid (∀ g, u.ownBlock = some g → w.heap.size + 4 ≤ g) := fun g hg => by
      rcases h2.2 with ⟨rfl, _⟩ | ⟨g', cap, cur, rfl, h, _⟩
      · cases hg
      · simp only [Value.ownBlock, Option.some.injEq] at hg; omega
    have h2a : (W'.alloc (.cells #[.string x.s.c.1, .slice x.a x.s.c.2.length x.c] 87)).ownsRow (w.heap.size + 4) 87 2 u pre.length (pre.flatMap two2) := row_on h2 fun g hg hlt => Below.heap_alloc _ _ _ hlt
    have H2A : Hid _ := h2a
    clear h1 h2 h3 ey h2a
    gi_wp2_with (gi_at_builtin; refine wpListIn_append_own_at _ rfl _ _ 56 rfl (w.heap.size + 4) 87 ti _ 2 40 Try.underlying56 TI.out.1 TI.out.2.1 TI.out.2.2.1 TI.out.2.2.2 rfl (by decide) u pre.length _ rfl H2A.out ⟨W'.heap.size, 0, none⟩ 1 1 [.string x.s.c.1, .slice x.a x.s.c.2.length x.c] rfl rfl (cells_new _ _ _ _ rfl) (by simp [Value.oneCell']) (by unfold maxLen; omega) (by omega) (by simp; omega) ?_; intro u6 w1 hown1 hgrow1 hn1 hat1
                 obtain ⟨ua, ul, uc, rfl⟩ : ∃ ua ul uc, u6 = .slice ua ul uc := by
                   rcases hown1.2 with ⟨rfl, _⟩ | ⟨_, _, _, rfl, _⟩
                   · exact ⟨_, _, _, rfl⟩
                   · exact ⟨_, _, _, rfl⟩
                 have hZ : w1.heap[w.heap.size]? = some (.cells #[u] 56) := (hgrow1.block w.heap.size (by simp; omega) (fun e => by have := HOB.out _ e.symm; omega)).trans ((Below.heap_alloc _ _ _ (by omega)).trans H1.out)
                 have y0 := blk_cell (i := 0) hZ rfl
                 have y1 := blk_free (i := 0) hZ)
    have ha : Below W'.heap.size W' (W'.alloc (.cells #[.string x.s.c.1, .slice x.a x.s.c.2.length x.c] 87)) := (Below.refl _ _).alloc (Nat.le_refl _) _
    have hblk : ∀ g, g < W'.heap.size → g < w.heap.size + 4 → w1.heap[g]? = W'.heap[g]? := fun g h1 h2 => (hgrow1.block g (by simp; omega) (fun e => by have := HOB.out _ e.symm; omega)).trans (ha.block g h1)
    have hb1 : Below w.heap.size W' w1 := (ha.mono (by omega)).grown hgrow1 (by simp; omega) (fun g hg => by have := HOB.out _ hg; omega)
    have hz1 : W'.heap.size ≤ w1.heap.size := Nat.le_trans (by simp) hgrow1.size
    refine ⟨⟨by rw [World.size_setCell]; exact hz1, fun k hk => ?_, ?_, ?_⟩, ⟨.slice ua ul uc, ?_, ?_⟩, ?_, by rw [World.size_setCell]; omega⟩
    · rw [Below.heap_setCell _ _ _ _ (by simp; omega)]; exact hblk k (by omega) (by omega)
    · rw [Below.heap_setCell _ _ _ _ (by simp; omega)]; exact hblk _ (by omega) (by omega)
    · rw [Below.heap_setCell _ _ _ _ (by simp; omega)]; exact hblk _ (by omega) (by omega)
    · simp [World.setCell, Array.getElem?_modify, hZ]
    · rw [List.length_append, List.flatMap_append]
      exact row_on (by simpa [two2] using hown1) fun g hg hlt => Below.heap_setCell _ _ _ _ (by simp; omega)
    · exact H3.out.trans (hb1.setCell (p := ⟨w.heap.size, 0, none⟩) (by simp) _)
  case done =>
    rintro D ys W' hD hY ⟨⟨u, h1, h2⟩, h3, h5⟩ hK
    have hDW : D < W'.heap.size := (Array.getElem?_eq_some_iff.1 hK).1
    obtain ⟨ua, ul, uc, rfl⟩ : ∃ ua ul uc, u = .slice ua ul uc := by
      rcases h2.2 with ⟨rfl, _⟩ | ⟨_, _, _, rfl, _⟩
      · exact ⟨_, _, _, rfl⟩
      · exact ⟨_, _, _, rfl⟩
    have m0 : W'.cell? ⟨w.heap.size, 0, none⟩ = some (.slice ua ul uc) := blk_cell h1 (i := 0) rfl
    have GV : Hid (CRow (W'.putObj D (.deferred none)) w.heap.size (.slice ua ul uc) (spots 0 0 ks) ∧ Below w.heap.size w (W'.putObj D (.deferred none))) := by
      refine ⟨?_, h3.trans (put_below _ _ hK (by omega))⟩
      rw [← hY]
      refine ⟨?_, fun j hj => ?_, fun g hg => ?_⟩
      · rcases h2.2 with ⟨h0, hl⟩ | ⟨g, cap, cur, q1, q2, q3, q4, q5, q6, q7⟩
        · simp only [Value.slice.injEq] at h0
          obtain ⟨rfl, rfl, rfl⟩ := h0
          exact ⟨none, 0, by simp [hl], fun j hj => by rw [List.length_map] at hj; omega⟩
        · simp only [Value.slice.injEq] at q1
          obtain ⟨rfl, rfl, rfl⟩ := q1
          refine ⟨some ⟨g, 0, none⟩, uc, by rw [List.length_map], fun j hj => ?_⟩
          rw [List.length_map] at hj
          have hg : g ≠ D := fun e => by rw [e, hK] at q3; cases q3
          have hgl := (Array.getElem?_eq_some_iff.1 q3).1
          have hat : ∀ i, i < 2 → (W'.putObj D (.deferred none)).cell? ⟨g, j * 2 + i, none⟩ = (two2 ys[j])[i]? := fun i hi => by
            have e : (W'.putObj D (.deferred none)).heap[g]? = some (.cells cur 87) := (World.putObj_heap_other hg).trans q3
            rw [← two2_get ys j i hj hi, ← q7, List.getElem?_take, if_pos (by omega), Array.getElem?_toList]
            simp [World.cell?, e]
          refine ⟨g, rfl, by omega, by simp [World.putObj]; exact hgl, ?_, ys[j].a, ys[j].c, ?_⟩
          · have := hat 0 (by omega)
            rw [Nat.add_zero] at this
            rw [this]; simp [two2]
          · rw [hat 1 (by omega)]; simp [two2]
      · rw [List.length_map] at hj
        obtain ⟨y0, y1, a1, c1, hT, hcs, hn, hr⟩ := con.con_open ys[j].rep
        rw [List.getElem_map, hT]
        exact hn
      · rcases h2.2 with ⟨h0, hl⟩ | ⟨g', cap, cur, q1, q2, q3, q4⟩
        · rw [h0] at hg; cases hg
        · rw [q1] at hg
          simp only [Value.ownBlock, Option.some.injEq] at hg
          subst hg
          exact ⟨by omega, by simp [World.putObj]; exact (Array.getElem?_eq_some_iff.1 q3).1⟩
    have hK2 : W'.heap[D]? = some (.deferred (some [])) := hK
    clear h1 h2 h3 hY
    gi_wp2
    refine ⟨by simp, .inl ⟨_, _, rfl, run_takeDeferred hK2, ?_⟩⟩
    exact ⟨_, results_tmp (t := 2) rfl _ _ _, ⟨_, rfl, GV.out.1⟩, GV.out.2⟩
  case stop =>
    rintro D c pre W _ _ h _
    exact h.elim

end Go.Proofs.Ytjofmoebijdccaa.data

namespace Go.Proofs
open Go.Shelf
def Try.laysM316_ren : Go.Shelf.Ren := ⟨fun | 316 => 74 | n => n, fun | 9 => 9 | 3 => 3 | 4 => 4 | 37 => 118 | 0 => 0 | 127 => 140 | 5 => 5 | n => n, fun | n => n⟩
theorem Try.laysM316 : Go.Proofs.LaysM.n316 Try.prog Try.laysM316_ren := {
  mixed := by kernel_rfl
  f316 := Try.func74.trans (congrArg some (by kernel_rfl))
  t0 := Try.underlying0
  a0 := Try.isAgg0
  z0 := Try.sizeOf0
  v0 := Try.zeroValue0
  t3 := Try.underlying3
  a3 := Try.isAgg3
  z3 := Try.sizeOf3
  v3 := Try.zeroValue3
  t4 := Try.underlying4
  a4 := Try.isAgg4
  z4 := Try.sizeOf4
  v4 := Try.zeroValue4
  t9 := Try.underlying9
  a9 := Try.isAgg9
  z9 := Try.sizeOf9
  v9 := Try.zeroValue9
  t37 := Try.underlying118
  a37 := Try.isAgg118
  z37 := Try.sizeOf118
  v37 := Try.zeroValue118
  t127 := Try.underlying140
  a127 := Try.isAgg140
  z127 := Try.sizeOf140
  v127 := Try.zeroValue140
  t5 := Try.underlying5
  a5 := Try.isAgg5
  z5 := Try.sizeOf5
  v5 := Try.zeroValue5
  i0 := by kernel_rfl
  i3 := by kernel_rfl
  i4 := by kernel_rfl
  i5 := by kernel_rfl
  i9 := by kernel_rfl
  i37 := by kernel_rfl
  i127 := by kernel_rfl }
open Go.RowKit in
/-- The same bytes; of what was there nothing has turned. -/
theorem Try.stringslite_Clone (s : ByteArray) (w : World) (hlim : s.size ≤ 281474976710656) :
    Calls Try.prog 74 #[.string s] w fun e w' => e = .returned (.string s) ∧ Below w.heap.size w w' := Any.stringslite_Clone Try.laysM316 s w hlim
open Go.RowKit in
theorem Try.strings_Clone (s : ByteArray) (w : World) (hlim : s.size ≤ 281474976710656) :
    Calls Try.prog 56 #[.string s] w fun e w' => e = .returned (.string s) ∧ Below w.heap.size w w' := by
  go_enter Try.func56, Try.ntmps56
  go_wp2_with fail
  refine (Try.stringslite_Clone s w hlim).mono ?_
  rintro e w1 ⟨rfl, hb⟩
  go_wp2
  go_ret
  exact ⟨rfl, hb⟩
end Go.Proofs

namespace Go.Proofs.Ytjofmoebijdccaa.fun
open Go.RowKit Go.Proofs.Ytjofmoebijdccaa
set_option linter.unusedVariables false
set_option linter.unusedSimpArgs false

theorem ret_boolI {a b : Bool} (h : a = b) : Ending.returned (.bool a) = Ending.returned (.bool b) := by rw [h]

set_option maxHeartbeats 1000000 in
theorem bel_is {n e f : Int} {b : Bool} {w : World} (h : inB n 0 f = b) (he : e = f + 1) :
    Calls Try.prog 55 #[.int .i64 n, .int .i64 e] w fun e w' => e = .returned (.bool b) ∧ w' = w := by
  subst he
  by_cases h1 : 0 ≤ n
  · have h6 : decide (0 ≤ n) = true := decide_eq_true h1
    rcases h4 : decide (n < f + 1) with _ | _
    · have h5 : decide (n ≤ f) = false := decide_eq_false (by have := of_decide_eq_false h4; omega)
      have h7 : inB n 0 f = false := by simp only [inB, h5, Bool.and_false]
      obtain rfl : b = false := by rw [← h, h7]
      go_enter Try.func55, Try.ntmps55
      go_wp2
      go_ret
      exact ⟨ret_boolI (by first | rfl | exact h4), rfl⟩
    · have h5 : decide (n ≤ f) = true := decide_eq_true (by have := of_decide_eq_true h4; omega)
      have h7 : inB n 0 f = true := by simp only [inB, h5, h6, Bool.and_true]
      obtain rfl : b = true := by rw [← h, h7]
      go_enter Try.func55, Try.ntmps55
      go_wp2
      go_ret
      exact ⟨ret_boolI (by first | rfl | exact h4), rfl⟩
  · have h2 : decide (0 ≤ n) = false := decide_eq_false h1
    go_enter Try.func55, Try.ntmps55
    go_wp2
    go_ret
    exact ⟨ret_boolI (by rw [← h]; simp only [inB, h2, Bool.false_and]), rfl⟩

end Go.Proofs.Ytjofmoebijdccaa.fun
