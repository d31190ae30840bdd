/-
  The program's okStorey, at every row of lists of values: whether all of them are right, kids aside; and the lists of their kids, in a new row.
-/
import Derived.Test.YtpdmdcoaaboikaaGreatDoorOkValue
import Derived.Test.YtpdmdcoaaboikaaGreatDoorRoseQ
import Derived.Deep.OwnRows
import Derived.Test.YtpdmdcoaaboikaaGreatDoorOwnMore
import Derived.Test.YtpdmdcoaaboikaaGreatDoorPtrMap
import Derived.OwnWalk
import Derived.Maps.AppendAt
import Derived.Laws.AppendOwn
namespace Go.Proofs.YtpdmdcoaaboikaaGreatDoor.value
open Go Go.RowKit Go.Maps Go.Proofs.YtpdmdcoaaboikaaGreatDoor.rose Go.Proofs.YtpdmdcoaaboikaaGreatDoor
set_option linter.unusedVariables false
set_option linter.unusedSimpArgs false

theorem value_sole : valueSh.Sole := (Sh.Sole.pair Sh.int_sole (Sh.Sole.pair Sh.int_sole Sh.str_sole)).rose

/-- A list of values, and where it lies. -/
abbrev AtD := Option Addr × Nat × List ValueD
def atSh : Sh AtD where
  k := 1
  rep := fun w S cs x => cs = [.slice x.1 x.2.2.length x.2.1] ∧ valueSh.slice.rep w S cs x.2.2
  len := by rintro _ _ _ _ ⟨rfl, _⟩; rfl
  on := fun h hb => ⟨h.1, valueSh.slice.on h.2 hb⟩
  mono := fun h hb => ⟨h.1, valueSh.slice.mono h.2 hb⟩
  one := by rintro _ _ _ _ ⟨rfl, _⟩ v hv; simp at hv; subst hv; rfl

/-- How much is within lists. -/
def mass : List AtD → Nat
  | [] => 0
  | p :: st => (allS p.2.2).length + mass st
theorem mass_append (a b : List AtD) : mass (a ++ b) = mass a + mass b := by
  induction a with
  | nil => simp [mass]
  | cons p a ih => simp [mass, ih]; omega
theorem mass_len (st : List AtD) (h : ∀ p ∈ st, 0 < p.2.2.length) : st.length ≤ mass st := by
  induction st with
  | nil => simp [mass]
  | cons q st ih =>
    have h1 := h q (by simp)
    have h2 := ih fun p hp => h p (by simp [hp])
    have := len_all q.2.2
    simp [mass]; omega
theorem mass_take {st : List AtD} {i : Nat} (h : i < st.length) : mass (st.take (i + 1)) = mass (st.take i) + (allS st[i].2.2).length := by
  rw [List.take_succ_eq_append_getElem h, mass_append]; simp [mass]
theorem mass_take_le (st : List AtD) (i : Nat) : mass (st.take i) ≤ mass st := by
  conv => rhs; rw [← List.take_append_drop i st, mass_append]
  omega
theorem allS_take {l : List ValueD} {i : Nat} (h : i < l.length) : (allS (l.take (i + 1))).length = (allS (l.take i)).length + (allS l[i].kids).length + 1 := by
  rw [List.take_succ_eq_append_getElem h, allS_append]
  simp only [allS, List.append_nil, List.length_append]
  rw [allT_kids]; omega

/-- The kids of a value are among lists. -/
def Cov (B : List AtD) (x : ValueD) : Prop := x.kids = [] ∨ ∃ p ∈ B, x.kids <+: p.2.2
theorem Cov.more {B B' : List AtD} {x : ValueD} (h : Cov B x) (hs : ∀ p ∈ B, p ∈ B') : Cov B' x := by
  rcases h with h | ⟨p, hp, h⟩
  · exact .inl h
  · exact .inr ⟨p, hs p hp, h⟩

/-- A look-up in a map of places, in whichever draw. -/
theorem _root_.Go.Proofs.YtpdmdcoaaboikaaGreatDoor.rose.PMap.lookN {P : Program} {k e pe : TypeId} {w : World} {t : TypeId} {i : TypeInfo} {b : Nat} {m : List (Addr × Int)} (h : PMap w b m) (ht : P.underlying t = some (.map k e)) (hp : P.underlying k = some (.pointer pe)) (hte : P.info? pe = some i) (hsz : i.size ≠ 0) (hz : ∀ w, (zeroValue e).run P w = .ok (.int .i64 0) w) {a : Addr} (ha : Plain w a.block) (hm : ∀ p ∈ m, Plain w p.1.block) :
    ∃ n : Int, (∀ q, (Instr.lookup t (.map (some b)) (.pointer (some a)) false).run P (w.drewN q) = .ok (.int .i64 n) (w.drewN q)) ∧ (n = 0 ∨ (a, n) ∈ m) := by
  obtain ⟨es, clock, h1, h2⟩ := h
  have hf : ∀ q, _ := fun q => run_find (w := w.drewN q) hp hte hsz ha es.toList m h2 hm
  have hg : ∀ q, (getObj b).run P (w.drewN q) = .ok (.map es clock) (w.drewN q) := fun q => by
    simp [getObj, Sem.run, h1]
  cases hq : seek a m 0 with
  | none =>
    rw [hq] at hf
    refine ⟨0, fun q => ?_, .inl rfl⟩
    simp [Instr.lookup, run_underlying ht, hg q, check_ptr _ hp, hf q, hz]
  | some r =>
    rw [hq] at hf
    refine ⟨r.2, fun q => ?_, .inr (seek_mem hq).1⟩
    simp [Instr.lookup, run_underlying ht, hg q, check_ptr _ hp, hf q]

/-- WHAT HOLDS BETWEEN TWO STEPS: B are the lists that were laid, v the slice of these; w is the world at the call, n its end: the map of what was met lies there. -/
structure TInv (t : TypeId) (w : World) (n : Nat) (wr : World) (B : List AtD) (v : Value) : Prop where
  size : n + 1 ≤ wr.heap.size
  low : ∀ b, b < n → wr.heap[b]? = w.heap[b]?
  rep : ∀ p ∈ B, valueSh.slice.rep w (fun b => b < n ∧ Plain w b) [.slice p.1 p.2.2.length p.2.1] p.2.2
  len : ∀ p ∈ B, 0 < p.2.2.length
  map : ∃ m, PMap wr n m ∧ ∀ e ∈ m, ∃ p ∈ B, p.1 = some e.1 ∧ e.2 = p.2.2.length
  row : rose.Own atSh t wr (n + 1) (fun b => b < n ∧ Plain w b) v B

section
variable {t : TypeId} {w wr : World} {n : Nat} {B : List AtD} {v : Value}

theorem TInv.on {w' : World} (h : TInv t w n wr B v) (hb : Below wr.heap.size wr w') : TInv t w n w' B v where
  size := Nat.le_trans h.size hb.size
  low := fun b h1 => (hb.block b (by have := h.size; omega)).trans (h.low b h1)
  rep := h.rep
  len := h.len
  map := by
    obtain ⟨m, h1, h2⟩ := h.map
    exact ⟨m, h1.on (hb.block n (by have := h.size; omega)), h2⟩
  row := h.row.on fun b hh => by
    rcases hh with hh | hh
    · exact hb.block b (by have := h.size; omega)
    · exact hb.block b hh

theorem TInv.plain (h : TInv t w n wr B v) {p : AtD} (hp : p ∈ B) {a1 : Addr} (e1 : p.1 = some a1) : Plain wr a1.block := by
  have r1 := h.rep p hp
  have hl0 := h.len p hp
  rw [e1] at r1
  obtain ⟨_, _, css, e, -, -, hr, -⟩ := values_open r1
  cases e
  obtain ⟨b, o, e, hS, -⟩ := hr 0 hl0
  cases e
  exact hS.2.on (h.low b hS.1)

/-- A list is met: the map has it, and it is laid behind the others. -/
theorem TInv.meet {w' w'' : World} {p : AtD} {v' : Value} (h : TInv t w n wr B v) (hr : valueSh.slice.rep w (fun b => b < n ∧ Plain w b) [.slice p.1 p.2.2.length p.2.1] p.2.2)
    (hl : 0 < p.2.2.length) {a1 : Addr} (e1 : p.1 = some a1) {m m' : List (Addr × Int)} (hm : ∀ e ∈ m, ∃ p ∈ B, p.1 = some e.1 ∧ e.2 = p.2.2.length)
    (hm' : PMap w' n m') (hmm : ∀ e ∈ m', e ∈ m ∨ e = (a1, (p.2.2.length : Int))) (hg : wr.grownBy w' (some n))
    (hY : Below w'.heap.size w' w'') {W : World} {css : Nat → List Value} (hv : w''.ownsRow (n + 1) t 1 v B.length (flat css B.length)) (hcr : ∀ i (h : i < B.length), atSh.rep w'' (fun b => b < n ∧ Plain w b) (css i) B[i])
    (hv' : W.ownsRow (n + 1) t 1 v' (B.length + 1) (flat css B.length ++ [.slice p.1 p.2.2.length p.2.1])) (hgr : w''.grownBy W v.ownBlock) : TInv t w n W (B ++ [p]) v' := by
  have hz : wr.heap.size ≤ w'.heap.size := hg.size
  have hbk : ∀ b, b < wr.heap.size → b ≠ n → w'.heap[b]? = wr.heap[b]? := fun b h1 h2 => hg.block b h1 fun e => h2 (Option.some.inj e)
  have hown : ∀ b, b < n + 1 → v.ownBlock ≠ some b := fun b hb e => by
    have := (World.ownsRow.lt hv b e).1
    omega
  have s1 := h.size
  have hW : ∀ b, b < n + 1 → W.heap[b]? = w''.heap[b]? := fun b h1 => hgr.block b (by have := hY.size; omega) fun e => hown b h1 e.symm
  have hlow : ∀ b, b < n → W.heap[b]? = w.heap[b]? := fun b h1 => ((hW b (by omega)).trans (hY.block b (by omega))).trans ((hbk b (by omega) (by omega)).trans (h.low b h1))
  refine ⟨?_, hlow, ?_, ?_, ⟨m', hm'.on ((hW n (by omega)).trans (hY.block n (by omega))), ?_⟩, ?_⟩
  · have h1 := hgr.size; have h2 := hY.size; omega
  · intro q hq
    rcases List.mem_append.1 hq with hq | hq
    · exact h.rep q hq
    · simp only [List.mem_singleton] at hq; subst hq; exact hr
  · intro q hq
    rcases List.mem_append.1 hq with hq | hq
    · exact h.len q hq
    · simp only [List.mem_singleton] at hq; subst hq; exact hl
  · intro e he
    rcases hmm e he with he | rfl
    · obtain ⟨q, hq, h'⟩ := hm e he
      exact ⟨q, by simp [hq], h'⟩
    · exact ⟨p, by simp, e1, rfl⟩
  · have hrp : atSh.rep w'' (fun b => b < n ∧ Plain w b) [.slice p.1 p.2.2.length p.2.1] p := ⟨rfl, valueSh.slice.on hr fun b hS => (hY.block b (by omega)).trans ((hbk b (by omega) (by omega)).trans (h.low b hS.1))⟩
    have := Own.more (A := atSh) (t := t) (xs := B) (ys := [p]) (css := css) (css2 := fun _ => [.slice p.1 p.2.2.length p.2.1]) hv hcr
      (fun i hi => by have : i = 0 := by simp at hi; omega
                      subst this; exact hrp) (fun b hS => by have := hS.1; omega) (by have := hY.size; omega) (v' := v') (w' := W) (by rw [show flat (fun _ => [Value.slice p.1 p.2.2.length p.2.1]) [p].length = [.slice p.1 p.2.2.length p.2.1] by simp [flat]]; exact hv') hgr
    exact this

/-- What was met where a list lies, at least as long: it covers it. -/
theorem TInv.cov {a1 : Addr} {L : Int} {x : ValueD} {c1 : Nat} {m : List (Addr × Int)} (h : TInv t w n wr B v) (hm : ∀ e ∈ m, ∃ p ∈ B, p.1 = some e.1 ∧ e.2 = p.2.2.length)
    (hL : (a1, L) ∈ m) (h1 : valueSh.slice.rep w (fun b => b < n ∧ Plain w b) [.slice (some a1) x.kids.length c1] x.kids) (hle : (x.kids.length : Int) ≤ L) : Cov B x := by
  obtain ⟨p, hp, e1, e3⟩ := hm _ hL
  have r1 := h.rep p hp
  simp only at e1 e3
  rw [e1] at r1
  refine .inr ⟨p, hp, ?_⟩
  rw [value_sole.take h1 r1 (by omega)]; exact List.take_prefix _ _

/-- The row as a slice, in blocks that are rows of cells. -/
theorem TInv.slice (h : TInv t w n wr B v) : atSh.slice.rep wr (fun b => b < wr.heap.size ∧ Plain wr b) [v] B := by
  obtain ⟨css, ⟨hl, hv⟩, hr⟩ := h.row
  have s1 := h.size
  have hmon : ∀ b, b < n ∧ Plain w b → b < wr.heap.size ∧ Plain wr b := fun b hb => ⟨by omega, hb.2.on (h.low b hb.1)⟩
  rcases hv with ⟨rfl, h0⟩ | ⟨g, cap, cur, rfl, h2, h3, h4, h5, h6, h7⟩
  · have : B = [] := List.eq_nil_of_length_eq_zero h0
    subst this
    exact ⟨none, 0, fun _ => [], rfl, Nat.le_refl _, Nat.zero_le _, fun _ => rfl, fun i hi => absurd hi (Nat.not_lt_zero _), fun i hi => absurd hi (Nat.not_lt_zero _)⟩
  · have hg : g < wr.heap.size := (Array.getElem?_eq_some_iff.1 h3).1
    refine ⟨some ⟨g, 0, none⟩, cap, css, rfl, h4, h5, (fun h => by cases h), fun i hi => ⟨g, 0, rfl, ⟨hg, _, _, h3⟩, fun j u hj => ?_⟩, fun i hi => atSh.mono (hr i hi) hmon⟩
    have hjk : j < atSh.k := by
      rcases Nat.lt_or_ge j atSh.k with h' | h'
      · exact h'
      · rw [List.getElem?_eq_none (by rw [atSh.len (hr i hi)]; exact h')] at hj; cases hj
    have hf := flat_get (css := css) (n := B.length) (k := atSh.k) (fun i hi => atSh.len (hr i hi)) hi hjk
    rw [hj, ← h7, List.getElem?_take] at hf
    have hlt : i * atSh.k + j < B.length * atSh.k := by
      have := Nat.mul_le_mul_right atSh.k (show i + 1 ≤ B.length by omega)
      rw [Nat.succ_mul] at this; omega
    rw [if_pos hlt] at hf
    simp only [World.cell?, h3, Nat.zero_add]
    rw [Array.getElem?_toList] at hf
    exact hf
end

end Go.Proofs.YtpdmdcoaaboikaaGreatDoor.value
