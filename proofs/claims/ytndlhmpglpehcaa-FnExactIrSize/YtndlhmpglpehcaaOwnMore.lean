/-
  A row that the call itself owns: its last element taken off, its cells read; a kind of data that is one cell; data that lie at one place are one.
-/
import Derived.Test.YtndlhmpglpehcaaRose
import Derived.Laws.AppendOwn
import Derived.Laws.AppendOwnNone
import Derived.OwnWalkIn
import Derived.Maps.OwnIn
namespace Go.Proofs.Ytndlhmpglpehcaa.rose
open Go Go.RowKit
set_option linter.unusedVariables false

theorem shrink {w : World} {base : Nat} {t : TypeId} {k j cap g : Nat} {xs : List Value} (h : w.ownsRow base t k (.slice (some ⟨g, 0, none⟩) (j + 1) cap) (j + 1) xs) : w.ownsRow base t k (.slice (some ⟨g, 0, none⟩) j cap) j (xs.take (j * k)) := by
  obtain ⟨hl, hv⟩ := h
  have hle : j * k ≤ (j + 1) * k := Nat.mul_le_mul_right _ (by omega)
  refine ⟨by rw [List.length_take, hl]; omega, Or.inr ?_⟩
  rcases hv with ⟨h, _⟩ | ⟨g', cap', cur, h1, h2, h3, h4, h5, h6, h7⟩
  · cases h
  · cases h1
    exact ⟨g, cap, cur, rfl, h2, h3, by omega, h5, h6, by rw [← h7, List.take_take, Nat.min_eq_left hle]⟩

theorem flat_take (css : Nat → List Value) (n : Nat) {k : Nat} (h : ∀ i, i < n + 1 → (css i).length = k) : (flat css (n + 1)).take (n * k) = flat css n := by
  rw [flat_succ, List.take_left' (flat_length fun i hi => h i (by omega))]

theorem own_cell {w : World} {base : Nat} {t : TypeId} {k g n cap : Nat} {css : Nat → List Value} (h : w.ownsRow base t k (.slice (some ⟨g, 0, none⟩) n cap) n (flat css n)) (hl : ∀ i, i < n → (css i).length = k) {i q : Nat} {v : Value} (hi : i < n) (hq : (css i)[q]? = some v) : w.cell? ⟨g, i * k + q, none⟩ = some v := by
  rcases h.2 with ⟨h, _⟩ | ⟨g', cap', cur, h1, h2, h3, h4, h5, h6, h7⟩
  · cases h
  · cases h1
    have hqk : q < k := by
      rcases Nat.lt_or_ge q k with h' | h'
      · exact h'
      · rw [List.getElem?_eq_none (by rw [hl i hi]; exact h')] at hq; cases hq
    have hf := flat_get (css := css) (n := n) (k := k) hl hi hqk
    rw [hq, ← h7, List.getElem?_take] at hf
    have hlt : i * k + q < n * k := by
      have := Nat.mul_le_mul_right k (show i + 1 ≤ n by omega)
      rw [Nat.succ_mul] at this; omega
    rw [if_pos hlt] at hf
    simp only [World.cell?, h3]
    rw [Array.getElem?_toList] at hf
    exact hf

theorem row_on {w w' : World} {base : Nat} {t : TypeId} {k n : Nat} {v : Value} {xs : List Value} (h : w.ownsRow base t k v n xs) (hb : ∀ g, base ≤ g → g < w.heap.size → w'.heap[g]? = w.heap[g]?) : w'.ownsRow base t k v n xs := by
  obtain ⟨hl, hv⟩ := h
  refine ⟨hl, ?_⟩
  rcases hv with h0 | ⟨g, cap, cur, h1, h2, h3, h4⟩
  · exact Or.inl h0
  · have hg : g < w.heap.size := by
      rcases Nat.lt_or_ge g w.heap.size with h' | h'
      · exact h'
      · rw [Array.getElem?_eq_none h'] at h3; cases h3
    exact Or.inr ⟨g, cap, cur, h1, h2, by rw [hb g h2 hg]; exact h3, h4⟩

/-- An append of one cell to the call's own row, inside a fence: what comes of it is a slice. -/
theorem append_oneIn {F : Fence} {nF : Nat} {P : Program} (w : World) {ops : Array Oper} {rest : List Oper} {o : Oper} {a : Act} {Q : Exit → Act → World → Prop} (hgd : o.guard = none) (s x : Operand) (t : TypeId)
    (ho : o.op = .call { callee := .builtin .append, args := #[s, x], argTypes := #[t, t] })
    (base : Nat) (e : TypeId) (i : TypeInfo) (z : Value) (bytes : Nat) (ht : P.underlying t = some (.slice e)) (hi : P.info? e = some i) (hz : i.zero = some z)
    (hsize : i.size = 1) (hby : i.bytes = bytes) (hzs : z.cells.size = 1)
    (v : Value) (n : Nat) (xs : List Value) (hs : a.eval s = v) (hown : w.ownsRow base e 1 v n xs)
    (ad : Addr) (c : Nat) (y : Value) (hx : a.eval x = .slice (some ad) 1 c) (hnews : ∀ j u, [y][j]? = some u → w.cell? (ad.add j) = some u) (h1 : y.oneCell' = true)
    (h63 : n + 1 ≤ maxLen) (hbytes : (n + 1) * bytes ≤ 140737488355328) (hbase : base ≤ w.heap.size)
    (h : ∀ a' l' c' w', w'.ownsRow base e 1 (.slice a' l' c') (n + 1) (xs ++ [y]) → w.grownBy w' v.ownBlock → wpListIn F nF P ops Q rest (a.put o.dst (.slice a' l' c')) w') :
    wpListIn F nF P ops Q (o :: rest) a w :=
  wpListIn_append_own_at w hgd s x t ho base e i z 1 bytes ht hi hz hsize hby hzs (by decide) v n xs hs hown ad 1 c [y] hx rfl hnews (by simp [h1]) h63 hbytes hbase fun v' w' hown' hg _ _ => by
    obtain ⟨a', l', c', rfl⟩ : ∃ a' l' c', v' = .slice a' l' c' := by
      rcases hown'.2 with ⟨rfl, _⟩ | ⟨_, _, _, rfl, _⟩
      · exact ⟨_, _, _, rfl⟩
      · exact ⟨_, _, _, rfl⟩
    exact h a' l' c' w' hown' hg

/-- One cell, whatever it is. -/
def valSh : Sh Value where
  k := 1
  rep := fun _ _ cs v => cs = [v] ∧ v.oneCell' = true
  len := by rintro _ _ _ _ ⟨rfl, _⟩; rfl
  on := fun h _ => h
  mono := fun h _ => h
  one := by rintro _ _ _ _ ⟨rfl, h⟩ v hv; simp at hv; subst hv; exact h

/-- A kind of data of which cells tell one alone. -/
def Sh.Sole {α : Type} (A : Sh α) : Prop := ∀ w S S' cs x x', A.rep w S cs x → A.rep w S' cs x' → x = x'

theorem Sh.int_sole : Sh.int.Sole := by
  rintro w S S' cs x x' ⟨rfl, _⟩ ⟨h, _⟩
  simpa using h
theorem Sh.str_sole : Sh.str.Sole := by
  rintro w S S' cs x x' ⟨rfl, _⟩ ⟨h, _⟩
  simpa using h
theorem Sh.Sole.pair {α β : Type} {A : Sh α} {B : Sh β} (hA : A.Sole) (hB : B.Sole) : (A.pair B).Sole := by
  rintro w S S' cs ⟨x1, x2⟩ ⟨y1, y2⟩ ⟨c1, c2, rfl, h1, h2⟩ ⟨d1, d2, e, g1, g2⟩
  have hl : c1.length = d1.length := by rw [A.len h1, A.len g1]
  obtain ⟨rfl, rfl⟩ := List.append_inj e hl
  have e1 : x1 = y1 := hA _ _ _ _ _ _ h1 g1
  have e2 : x2 = y2 := hB _ _ _ _ _ _ h2 g2
  rw [e1, e2]

theorem cells_eq {w : World} {b o : Nat} {cs cs' : List Value} (h : CellsAt w b o cs) (h' : CellsAt w b o cs') (hl : cs.length = cs'.length) : cs = cs' := by
  apply List.ext_getElem hl
  intro j h1 h2
  have e1 := h j _ (List.getElem?_eq_getElem h1)
  have e2 := h' j _ (List.getElem?_eq_getElem h2)
  rw [e1] at e2
  exact Option.some.inj e2

theorem Sh.Sole.rose {α : Type} {A : Sh α} (hA : A.Sole) : A.rose.Sole := by
  intro w S S' cs x x' h
  induction h generalizing x' with
  | @mk ps x a cap kids css hp hcap hmax hnone hat hk ih =>
    intro h'
    obtain ⟨y, kids'⟩ := x'
    obtain ⟨ps', kc, e, hp', a', cap', css', rfl, hcap', hmax', hnone', hat', hk'⟩ := rose_iff.1 h'
    have hl : ps.length = ps'.length := by rw [A.len hp, A.len hp']
    obtain ⟨rfl, e2⟩ := List.append_inj e hl
    simp only [List.cons.injEq, Value.slice.injEq, and_true] at e2
    obtain ⟨rfl, hlen, rfl⟩ := e2
    have e1 : x = y := hA _ _ _ _ _ _ hp hp'
    have e3 : kids = kids' := by
      apply List.ext_getElem hlen
      intro j h1 h2
      obtain ⟨b, o, ea, _, hc⟩ := hat j h1
      obtain ⟨b', o', ea', _, hc'⟩ := hat' j h2
      rw [ea] at ea'
      cases ea'
      have he := cells_eq hc hc' (by rw [A.rose.len (hk j h1), A.rose.len (hk' j h2)])
      exact ih j h1 _ (by rw [he]; exact hk' j h2)
    rw [e1, e3]

theorem Sh.Sole.take {α : Type} {A : Sh α} (hA : A.Sole) {w : World} {S S' : Nat → Prop} {a : Addr} {n n' c c' : Nat} {xs xs' : List α} (h : A.slice.rep w S [.slice (some a) n c] xs) (h' : A.slice.rep w S' [.slice (some a) n' c'] xs') (hn : n ≤ n') : xs = xs'.take n := by
  obtain ⟨a1, c1, css, e, hcap, hmax, hnone, hat, hk⟩ := h
  obtain ⟨a2, c2, css', e', hcap', hmax', hnone', hat', hk'⟩ := h'
  simp only [List.cons.injEq, Value.slice.injEq, and_true] at e e'
  obtain ⟨rfl, hl, rfl⟩ := e
  obtain ⟨ea, hl', rfl⟩ := e'
  subst ea
  apply List.ext_getElem (by rw [List.length_take]; omega)
  intro j h1 h2
  rw [List.getElem_take]
  obtain ⟨b, o, ea, _, hc⟩ := hat j h1
  obtain ⟨b', o', ea', _, hc'⟩ := hat' j (by omega)
  rw [ea] at ea'
  cases ea'
  have he := cells_eq hc hc' (by rw [A.len (hk j h1), A.len (hk' j (by omega))])
  exact hA _ _ _ _ _ _ (hk j h1) (by rw [he]; exact hk' j (by omega))

end Go.Proofs.Ytndlhmpglpehcaa.rose
