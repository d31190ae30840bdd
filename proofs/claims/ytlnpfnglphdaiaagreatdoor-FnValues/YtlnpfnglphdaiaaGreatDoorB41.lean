/-
  The program's okStorey, at every row of lists of values: whether all of them are right, kids aside; and the lists of their kids, in a new row.
  The program's okStorey walked.
-/
import Derived.Deep.OwnRows
import Derived.OwnWalk
import Derived.Maps.AppendAt
import Derived.Laws.AppendOwn
import Derived.Test.YtlnpfnglphdaiaaGreatDoorB1
import Derived.Test.YtlnpfnglphdaiaaGreatDoorB2
import Derived.Test.YtlnpfnglphdaiaaGreatDoorB3
import Derived.Test.YtlnpfnglphdaiaaGreatDoorB4
import Derived.Test.YtlnpfnglphdaiaaGreatDoorB5
import Derived.Test.YtlnpfnglphdaiaaGreatDoorB6
import Derived.Test.YtlnpfnglphdaiaaGreatDoorB7
import Derived.Test.YtlnpfnglphdaiaaGreatDoorB8
import Derived.Test.YtlnpfnglphdaiaaGreatDoorB9
import Derived.Test.YtlnpfnglphdaiaaGreatDoorB10
import Derived.Test.YtlnpfnglphdaiaaGreatDoorB11
import Derived.Test.YtlnpfnglphdaiaaGreatDoorB12
import Derived.Test.YtlnpfnglphdaiaaGreatDoorB13
import Derived.Test.YtlnpfnglphdaiaaGreatDoorB14
import Derived.Test.YtlnpfnglphdaiaaGreatDoorB15
import Derived.Test.YtlnpfnglphdaiaaGreatDoorB16
import Derived.Test.YtlnpfnglphdaiaaGreatDoorB17
import Derived.Test.YtlnpfnglphdaiaaGreatDoorB18
import Derived.Test.YtlnpfnglphdaiaaGreatDoorB19
import Derived.Test.YtlnpfnglphdaiaaGreatDoorB20
import Derived.Test.YtlnpfnglphdaiaaGreatDoorB21
import Derived.Test.YtlnpfnglphdaiaaGreatDoorB22
import Derived.Test.YtlnpfnglphdaiaaGreatDoorB23
import Derived.Test.YtlnpfnglphdaiaaGreatDoorB24
import Derived.Test.YtlnpfnglphdaiaaGreatDoorB25
import Derived.Test.YtlnpfnglphdaiaaGreatDoorB26
import Derived.Test.YtlnpfnglphdaiaaGreatDoorB27
import Derived.Test.YtlnpfnglphdaiaaGreatDoorB28
import Derived.Test.YtlnpfnglphdaiaaGreatDoorB29
import Derived.Test.YtlnpfnglphdaiaaGreatDoorB30
import Derived.Test.YtlnpfnglphdaiaaGreatDoorB31
import Derived.Test.YtlnpfnglphdaiaaGreatDoorB32
import Derived.Test.YtlnpfnglphdaiaaGreatDoorB33
import Derived.Test.YtlnpfnglphdaiaaGreatDoorB34
import Derived.Test.YtlnpfnglphdaiaaGreatDoorB35
import Derived.Test.YtlnpfnglphdaiaaGreatDoorB36
import Derived.Test.YtlnpfnglphdaiaaGreatDoorB37
import Derived.Test.YtlnpfnglphdaiaaGreatDoorB38
import Derived.Test.YtlnpfnglphdaiaaGreatDoorB39
import Derived.Test.YtlnpfnglphdaiaaGreatDoorB40
namespace Go.Proofs.YtlnpfnglphdaiaaGreatDoor.value
open Go Go.RowKit Go.Maps Go.Proofs.YtlnpfnglphdaiaaGreatDoor.rose Go.Proofs.YtlnpfnglphdaiaaGreatDoor
set_option linter.unusedVariables false
set_option linter.unusedSimpArgs false

theorem value_sole : valueSh.Sole := (Sh.Sole.pair Sh.int_sole (Sh.Sole.pair Sh.int_sole Sh.str_sole)).rose

/-- A list of values, and where it lies. -/
abbrev AtD := Option Addr × Nat × List ValueD
def atSh : Sh AtD where
  k := 1
  rep := fun w S cs x => cs = [.slice x.1 x.2.2.length x.2.1] ∧ valueSh.slice.rep w S cs x.2.2
  len := by rintro _ _ _ _ ⟨rfl, _⟩; rfl
  on := fun h hb => ⟨h.1, valueSh.slice.on h.2 hb⟩
  mono := fun h hb => ⟨h.1, valueSh.slice.mono h.2 hb⟩
  one := by rintro _ _ _ _ ⟨rfl, _⟩ v hv; simp at hv; subst hv; rfl

/-- How much is within lists. -/
def mass : List AtD → Nat
  | [] => 0
  | p :: st => (allS p.2.2).length + mass st
theorem mass_append (a b : List AtD) : mass (a ++ b) = mass a + mass b := by
  induction a with
  | nil => simp [mass]
  | cons p a ih => simp [mass, ih]; omega
theorem mass_len (st : List AtD) (h : ∀ p ∈ st, 0 < p.2.2.length) : st.length ≤ mass st := by
  induction st with
  | nil => simp [mass]
  | cons q st ih =>
    have h1 := h q (by simp)
    have h2 := ih fun p hp => h p (by simp [hp])
    have := len_all q.2.2
    simp [mass]; omega
theorem mass_take {st : List AtD} {i : Nat} (h : i < st.length) : mass (st.take (i + 1)) = mass (st.take i) + (allS st[i].2.2).length := by
  rw [List.take_succ_eq_append_getElem h, mass_append]; simp [mass]
theorem mass_take_le (st : List AtD) (i : Nat) : mass (st.take i) ≤ mass st := by
  conv => rhs; rw [← List.take_append_drop i st, mass_append]
  omega
theorem allS_take {l : List ValueD} {i : Nat} (h : i < l.length) : (allS (l.take (i + 1))).length = (allS (l.take i)).length + (allS l[i].kids).length + 1 := by
  rw [List.take_succ_eq_append_getElem h, allS_append]
  simp only [allS, List.append_nil, List.length_append]
  rw [allT_kids]; omega

/-- The kids of a value are among lists. -/
def Cov (B : List AtD) (x : ValueD) : Prop := x.kids = [] ∨ ∃ p ∈ B, x.kids <+: p.2.2
theorem Cov.more {B B' : List AtD} {x : ValueD} (h : Cov B x) (hs : ∀ p ∈ B, p ∈ B') : Cov B' x := by
  rcases h with h | ⟨p, hp, h⟩
  · exact .inl h
  · exact .inr ⟨p, hs p hp, h⟩

/-- A look-up in a map of places, in whichever draw. -/
theorem _root_.Go.Proofs.YtlnpfnglphdaiaaGreatDoor.rose.PMap.lookN {P : Program} {k e pe : TypeId} {w : World} {t : TypeId} {i : TypeInfo} {b : Nat} {m : List (Addr × Int)} (h : PMap w b m) (ht : P.underlying t = some (.map k e)) (hp : P.underlying k = some (.pointer pe)) (hte : P.info? pe = some i) (hsz : i.size ≠ 0) (hz : ∀ w, (zeroValue e).run P w = .ok (.int .i64 0) w) {a : Addr} (ha : Plain w a.block) (hm : ∀ p ∈ m, Plain w p.1.block) :
    ∃ n : Int, (∀ q, (Instr.lookup t (.map (some b)) (.pointer (some a)) false).run P (w.drewN q) = .ok (.int .i64 n) (w.drewN q)) ∧ (n = 0 ∨ (a, n) ∈ m) := by
  obtain ⟨es, clock, h1, h2⟩ := h
  have hf : ∀ q, _ := fun q => run_find (w := w.drewN q) hp hte hsz ha es.toList m h2 hm
  have hg : ∀ q, (getObj b).run P (w.drewN q) = .ok (.map es clock) (w.drewN q) := fun q => by
    simp [getObj, Sem.run, h1]
  cases hq : seek a m 0 with
  | none =>
    rw [hq] at hf
    refine ⟨0, fun q => ?_, .inl rfl⟩
    simp [Instr.lookup, run_underlying ht, hg q, check_ptr _ hp, hf q, hz]
  | some r =>
    rw [hq] at hf
    refine ⟨r.2, fun q => ?_, .inr (seek_mem hq).1⟩
    simp [Instr.lookup, run_underlying ht, hg q, check_ptr _ hp, hf q]

/-- WHAT HOLDS BETWEEN TWO STEPS: B are the lists that were laid, v the slice of these; w is the world at the call, n its end: the map of what was met lies there. -/
structure TInv (t : TypeId) (w : World) (n : Nat) (wr : World) (B : List AtD) (v : Value) : Prop where
  size : n + 1 ≤ wr.heap.size
  low : ∀ b, b < n → wr.heap[b]? = w.heap[b]?
  rep : ∀ p ∈ B, valueSh.slice.rep w (fun b => b < n ∧ Plain w b) [.slice p.1 p.2.2.length p.2.1] p.2.2
  len : ∀ p ∈ B, 0 < p.2.2.length
  map : ∃ m, PMap wr n m ∧ ∀ e ∈ m, ∃ p ∈ B, p.1 = some e.1 ∧ e.2 = p.2.2.length
  row : rose.Own atSh t wr (n + 1) (fun b => b < n ∧ Plain w b) v B

section
variable {t : TypeId} {w wr : World} {n : Nat} {B : List AtD} {v : Value}

theorem TInv.on {w' : World} (h : TInv t w n wr B v) (hb : Below wr.heap.size wr w') : TInv t w n w' B v where
  size := Nat.le_trans h.size hb.size
  low := fun b h1 => (hb.block b (by have := h.size; omega)).trans (h.low b h1)
  rep := h.rep
  len := h.len
  map := by
    obtain ⟨m, h1, h2⟩ := h.map
    exact ⟨m, h1.on (hb.block n (by have := h.size; omega)), h2⟩
  row := h.row.on fun b hh => by
    rcases hh with hh | hh
    · exact hb.block b (by have := h.size; omega)
    · exact hb.block b hh

theorem TInv.plain (h : TInv t w n wr B v) {p : AtD} (hp : p ∈ B) {a1 : Addr} (e1 : p.1 = some a1) : Plain wr a1.block := by
  have r1 := h.rep p hp
  have hl0 := h.len p hp
  rw [e1] at r1
  obtain ⟨_, _, css, e, -, -, hr, -⟩ := values_open r1
  cases e
  obtain ⟨b, o, e, hS, -⟩ := hr 0 hl0
  cases e
  exact hS.2.on (h.low b hS.1)

/-- A list is met: the map has it, and it is laid behind the others. -/
theorem TInv.meet {w' w'' : World} {p : AtD} {v' : Value} (h : TInv t w n wr B v) (hr : valueSh.slice.rep w (fun b => b < n ∧ Plain w b) [.slice p.1 p.2.2.length p.2.1] p.2.2)
    (hl : 0 < p.2.2.length) {a1 : Addr} (e1 : p.1 = some a1) {m m' : List (Addr × Int)} (hm : ∀ e ∈ m, ∃ p ∈ B, p.1 = some e.1 ∧ e.2 = p.2.2.length)
    (hm' : PMap w' n m') (hmm : ∀ e ∈ m', e ∈ m ∨ e = (a1, (p.2.2.length : Int))) (hg : wr.grownBy w' (some n))
    (hY : Below w'.heap.size w' w'') {W : World} {css : Nat → List Value} (hv : w''.ownsRow (n + 1) t 1 v B.length (flat css B.length)) (hcr : ∀ i (h : i < B.length), atSh.rep w'' (fun b => b < n ∧ Plain w b) (css i) B[i])
    (hv' : W.ownsRow (n + 1) t 1 v' (B.length + 1) (flat css B.length ++ [.slice p.1 p.2.2.length p.2.1])) (hgr : w''.grownBy W v.ownBlock) : TInv t w n W (B ++ [p]) v' := by
  have hz : wr.heap.size ≤ w'.heap.size := hg.size
  have hbk : ∀ b, b < wr.heap.size → b ≠ n → w'.heap[b]? = wr.heap[b]? := fun b h1 h2 => hg.block b h1 fun e => h2 (Option.some.inj e)
  have hown : ∀ b, b < n + 1 → v.ownBlock ≠ some b := fun b hb e => by
    have := (World.ownsRow.lt hv b e).1
    omega
  have s1 := h.size
  have hW : ∀ b, b < n + 1 → W.heap[b]? = w''.heap[b]? := fun b h1 => hgr.block b (by have := hY.size; omega) fun e => hown b h1 e.symm
  have hlow : ∀ b, b < n → W.heap[b]? = w.heap[b]? := fun b h1 => ((hW b (by omega)).trans (hY.block b (by omega))).trans ((hbk b (by omega) (by omega)).trans (h.low b h1))
  refine ⟨?_, hlow, ?_, ?_, ⟨m', hm'.on ((hW n (by omega)).trans (hY.block n (by omega))), ?_⟩, ?_⟩
  · have h1 := hgr.size; have h2 := hY.size; omega
  · intro q hq
    rcases List.mem_append.1 hq with hq | hq
    · exact h.rep q hq
    · simp only [List.mem_singleton] at hq; subst hq; exact hr
  · intro q hq
    rcases List.mem_append.1 hq with hq | hq
    · exact h.len q hq
    · simp only [List.mem_singleton] at hq; subst hq; exact hl
  · intro e he
    rcases hmm e he with he | rfl
    · obtain ⟨q, hq, h'⟩ := hm e he
      exact ⟨q, by simp [hq], h'⟩
    · exact ⟨p, by simp, e1, rfl⟩
  · have hrp : atSh.rep w'' (fun b => b < n ∧ Plain w b) [.slice p.1 p.2.2.length p.2.1] p := ⟨rfl, valueSh.slice.on hr fun b hS => (hY.block b (by omega)).trans ((hbk b (by omega) (by omega)).trans (h.low b hS.1))⟩
    have := Own.more (A := atSh) (t := t) (xs := B) (ys := [p]) (css := css) (css2 := fun _ => [.slice p.1 p.2.2.length p.2.1]) hv hcr
      (fun i hi => by have : i = 0 := by simp at hi; omega
                      subst this; exact hrp) (fun b hS => by have := hS.1; omega) (by have := hY.size; omega) (v' := v') (w' := W) (by rw [show flat (fun _ => [Value.slice p.1 p.2.2.length p.2.1]) [p].length = [.slice p.1 p.2.2.length p.2.1] by simp [flat]]; exact hv') hgr
    exact this

/-- What was met where a list lies, at least as long: it covers it. -/
theorem TInv.cov {a1 : Addr} {L : Int} {x : ValueD} {c1 : Nat} {m : List (Addr × Int)} (h : TInv t w n wr B v) (hm : ∀ e ∈ m, ∃ p ∈ B, p.1 = some e.1 ∧ e.2 = p.2.2.length)
    (hL : (a1, L) ∈ m) (h1 : valueSh.slice.rep w (fun b => b < n ∧ Plain w b) [.slice (some a1) x.kids.length c1] x.kids) (hle : (x.kids.length : Int) ≤ L) : Cov B x := by
  obtain ⟨p, hp, e1, e3⟩ := hm _ hL
  have r1 := h.rep p hp
  simp only at e1 e3
  rw [e1] at r1
  refine .inr ⟨p, hp, ?_⟩
  rw [value_sole.take h1 r1 (by omega)]; exact List.take_prefix _ _

/-- The row as a slice, in blocks that are rows of cells. -/
theorem TInv.slice (h : TInv t w n wr B v) : atSh.slice.rep wr (fun b => b < wr.heap.size ∧ Plain wr b) [v] B := by
  obtain ⟨css, ⟨hl, hv⟩, hr⟩ := h.row
  have s1 := h.size
  have hmon : ∀ b, b < n ∧ Plain w b → b < wr.heap.size ∧ Plain wr b := fun b hb => ⟨by omega, hb.2.on (h.low b hb.1)⟩
  rcases hv with ⟨rfl, h0⟩ | ⟨g, cap, cur, rfl, h2, h3, h4, h5, h6, h7⟩
  · have : B = [] := List.eq_nil_of_length_eq_zero h0
    subst this
    exact ⟨none, 0, fun _ => [], rfl, Nat.le_refl _, Nat.zero_le _, fun _ => rfl, fun i hi => absurd hi (Nat.not_lt_zero _), fun i hi => absurd hi (Nat.not_lt_zero _)⟩
  · have hg : g < wr.heap.size := (Array.getElem?_eq_some_iff.1 h3).1
    refine ⟨some ⟨g, 0, none⟩, cap, css, rfl, h4, h5, (fun h => by cases h), fun i hi => ⟨g, 0, rfl, ⟨hg, _, _, h3⟩, fun j u hj => ?_⟩, fun i hi => atSh.mono (hr i hi) hmon⟩
    have hjk : j < atSh.k := by
      rcases Nat.lt_or_ge j atSh.k with h' | h'
      · exact h'
      · rw [List.getElem?_eq_none (by rw [atSh.len (hr i hi)]; exact h')] at hj; cases hj
    have hf := flat_get (css := css) (n := B.length) (k := atSh.k) (fun i hi => atSh.len (hr i hi)) hi hjk
    rw [hj, ← h7, List.getElem?_take] at hf
    have hlt : i * atSh.k + j < B.length * atSh.k := by
      have := Nat.mul_le_mul_right atSh.k (show i + 1 ≤ B.length by omega)
      rw [Nat.succ_mul] at this; omega
    rw [if_pos hlt] at hf
    simp only [World.cell?, h3, Nat.zero_add]
    rw [Array.getElem?_toList] at hf
    exact hf
end

end Go.Proofs.YtlnpfnglphdaiaaGreatDoor.value

namespace Go.Proofs.YtlnpfnglphdaiaaGreatDoor.value
open Go Go.RowKit Go.Maps Go.Deep Go.Proofs.YtlnpfnglphdaiaaGreatDoor.rose Go.Proofs.YtlnpfnglphdaiaaGreatDoor
set_option linter.unusedVariables false
set_option linter.unusedSimpArgs false

theorem cells_new (w : World) (cs : List Value) (t : TypeId) (arr : Array Value) (ha : arr = cs.toArray) : ∀ j u, cs[j]? = some u → (w.alloc (.cells arr t)).cell? ((⟨w.heap.size, 0, none⟩ : Addr).add j) = some u := by
  subst ha
  intro j u hj
  have hh : (w.alloc (.cells cs.toArray t)).heap[w.heap.size]? = some (.cells cs.toArray t) := alloc_top w (.cells cs.toArray t)
  rw [add_plain, Nat.zero_add]
  simp only [World.cell?, hh]
  simpa using hj

set_option maxRecDepth 100000 in
theorem info_value2 : (Tryz.prog.info? 26).map (fun i => i.size) = some 4 := by kernel_rfl
set_option maxRecDepth 100000 in
theorem info_values : (Tryz.prog.info? 24).map (fun i => (i.zero, i.size, i.bytes)) = some (some (.slice none 0 0), 1, 24) := by kernel_rfl

theorem drewN_belowV {B : Nat} {w w' : World} (h : Below B w w') (n : Nat) : Below B w (w'.drewN n) := by
  induction n with
  | zero => exact h
  | succ n ih => exact ih.drew

set_option maxRecDepth 100000 in
set_option maxHeartbeats 4000000 in
theorem okStorey_any (ds : List DataD) (ST : List AtD) (sv : Value) (mb nm : Nat) (D : DataW Unit) (w : World) (hM : w.ownsMap Tryz.prog 9 (plainElem Tryz.prog 3) mb nm D) (hA : data.Arity D (data.spots 0 0 ds)) (hmb : mb < w.heap.size)
    (hlen : ∀ p ∈ ST, 0 < p.2.2.length) (hmass : mass ST ≤ 1048577) (hST : atSh.slice.rep w (fun b => b < w.heap.size ∧ Plain w b) [sv] ST) :
    Calls Tryz.prog 18 #[sv, .map (some mb)] w fun e w' => Below w.heap.size w w' ∧ ((e = .returned (.tuple #[.slice none 0 0, .bool false]) ∧ ∃ p ∈ ST, ∃ x ∈ p.2.2, ¬ OkL ds x) ∨
      (∃ v' B, e = .returned (.tuple #[v', .bool true]) ∧ (∀ p ∈ ST, ∀ x ∈ p.2.2, OkL ds x ∧ Cov B x) ∧ (∀ q ∈ B, ∃ p ∈ ST, ∃ x ∈ p.2.2, q.2.2 = x.kids) ∧ (∀ q ∈ B, 0 < q.2.2.length) ∧ mass B ≤ mass ST ∧ atSh.slice.rep w' (fun b => b < w'.heap.size ∧ Plain w' b) [v'] B)) := by
  obtain ⟨ti, hti, hzz⟩ := Option.map_eq_some_iff.1 info_values
  simp only [Prod.mk.injEq] at hzz
  obtain ⟨hz0, hz1, hz2⟩ := hzz
  have TI : Hid (Tryz.prog.info? 24 = some ti ∧ ti.zero = some (.slice none 0 0) ∧ ti.size = 1 ∧ ti.bytes = 24) := ⟨hti, hz0, hz1, hz2⟩
  obtain ⟨tv, htv, hsv⟩ := Option.map_eq_some_iff.1 info_value2
  have TV : Hid (Tryz.prog.info? 26 = some tv ∧ tv.size = 4) := ⟨htv, hsv⟩
  clear hti hz0 hz1 hz2 htv hsv
  have hmm := @run_makeMap Tryz.prog
  obtain ⟨sa, sc, csS, e, hcap, hmax, -, hrow, hk⟩ := hST
  simp only [List.cons.injEq, and_true] at e
  subst e
  have hsl : (ST.length : Int) ≤ 9223372036854775807 := by unfold maxLen at hmax; omega
  obtain ⟨n, hn⟩ : ∃ n, n = w.heap.size := ⟨_, rfl⟩
  rw [← hn] at hmb
  have HM : Hid (w.ownsMap Tryz.prog 9 (plainElem Tryz.prog 3) mb nm D ∧ data.Arity D (data.spots 0 0 ds)) := ⟨hM, hA⟩
  have HR : Hid (RowAt w (fun b => b < n ∧ Plain w b) 1 sa ST.length csS ∧ ∀ i (h : i < ST.length), atSh.rep w (fun b => b < n ∧ Plain w b) (csS i) ST[i]) := by rw [hn]; exact ⟨hrow, hk⟩
  have HL : Hid (∀ p ∈ ST, 0 < p.2.2.length) := hlen
  have HN : Hid (n = w.heap.size) := hn
  have I0 : Hid (TInv 24 w n (w.alloc (.map #[] 0)) [] (.slice none 0 0)) := by
    refine ⟨by rw [World.size_alloc, hn]; exact Nat.le_refl _, fun b hb => Below.heap_alloc _ _ _ (by omega), by simp, by simp, ⟨[], ?_, by simp⟩, Own.nil _ _ _ _ _⟩
    rw [hn]; exact PMap.made w
  have B0 : Hid (Below n w (w.alloc (.map #[] 0))) := by show Below _ _ _; rw [hn]; exact (Below.refl _ _).alloc (Nat.le_refl _) _
  clear hM hA hrow hk hlen hcap hmax hn
  go_enter Tryz.func18, Tryz.ntmps18
  go_wp2
  rw [← HN.out]
  go_loopw [6, 15] (fun v6 v15 wr => ∃ (B : List AtD) (i : Nat), i ≤ ST.length ∧ v15 = .int .i64 i ∧ Hid (TInv 24 w n wr B v6 ∧ Below n w wr ∧ (∀ j (h : j < ST.length), j < i → ∀ x ∈ ST[j].2.2, OkL ds x ∧ Cov B x) ∧ (∀ q ∈ B, ∃ p ∈ ST, ∃ x ∈ p.2.2, q.2.2 = x.kids) ∧ mass B ≤ mass (ST.take i))) (fun _ v15 _ => ST.length - (intOf v15).toNat)
  case atStart => exact ⟨[], 0, Nat.zero_le _, rfl, I0.out, B0.out, fun j _ hj => absurd hj (Nat.not_lt_zero _), by simp, by simp [mass]⟩
  case round =>
    obtain ⟨B, i, hi, rfl, HI⟩ := hrel
    by_cases hlt : i < ST.length
    · obtain ⟨b, o, rfl, hS, hc⟩ := HR.out.1 i hlt
      obtain ⟨hcs, hlist⟩ := HR.out.2 i hlt
      rw [hcs] at hc hlist
      obtain ⟨⟨la, lc, ls⟩, hP⟩ : ∃ P, P = ST[i] := ⟨_, rfl⟩
      rw [← hP] at hc hlist
      dsimp only at hc hlist
      have HP : Hid (ST[i] = (la, lc, ls)) := hP.symm
      have hlp : 0 < ls.length := by
        have := HL.out ST[i] (List.getElem_mem hlt)
        rw [← hP] at this
        exact this
      have e0 : wr.cell? ⟨b, o + i * 1, none⟩ = some (.slice la ls.length lc) := (World.cell?_of_block (w := w) (a := ⟨b, o + i * 1, none⟩) (HI.out.1.low b hS.1)).trans (hc 0 _ rfl)
      rw [Nat.mul_one] at e0
      have hlm : (ls.length : Int) ≤ 9223372036854775807 := by
        obtain ⟨_, _, _, _, h1, h2, -⟩ := hlist
        unfold maxLen at h2
        omega
      have HLS : Hid (valueSh.slice.rep w (fun b => b < n ∧ Plain w b) [.slice la ls.length lc] ls) := hlist
      have HMT : Hid (mass (ST.take (i + 1)) = mass (ST.take i) + (allS ls).length ∧ mass (ST.take (i + 1)) ≤ mass ST) := by
        refine ⟨?_, mass_take_le _ _⟩
        rw [mass_take hlt, HP.out]
      clear hc hlist hcs hP hS
      go_wp2
      rename World => wo
      go_loopw [6, 21] (fun v6 v21 wi => ∃ (B : List AtD) (j : Nat), j ≤ ls.length ∧ v21 = .int .i64 j ∧ Hid (TInv 24 w n wi B v6 ∧ Below n w wi ∧ (∀ k (h : k < ST.length), k < i → ∀ x ∈ ST[k].2.2, OkL ds x ∧ Cov B x) ∧ (∀ q ∈ B, ∃ p ∈ ST, ∃ x ∈ p.2.2, q.2.2 = x.kids) ∧ mass B ≤ mass (ST.take i) + (allS (ls.take j)).length ∧ ∀ k (h : k < ls.length), k < j → OkL ds ls[k] ∧ Cov B ls[k])) (fun _ v21 _ => ls.length - (intOf v21).toNat)
      case atStart => exact ⟨B, 0, Nat.zero_le _, rfl, HI.out.1, HI.out.2.1, HI.out.2.2.1, HI.out.2.2.2.1, by have := HI.out.2.2.2.2; simp [allS]; exact this, fun k _ hk => absurd hk (Nat.not_lt_zero _)⟩
      case round =>
        clear HI
        obtain ⟨B, j, hj, rfl, HJ⟩ := hrel
        by_cases hlj : j < ls.length
        · obtain ⟨a, c, css, e, -, -, hrow, hk⟩ := values_open HLS.out
          cases e
          obtain ⟨b', o', rfl, hS', hc'⟩ := hrow j hlj
          have hrep' := hk j hlj
          obtain ⟨y0, y1, y2, js, aj, cj, hT', hcs', -, -, gs, gk⟩ := value_open hrep'
          rw [hcs'] at hc'
          have low := HJ.out.1.low b' hS'.1
          have e0' : wr.cell? ⟨b', o' + j * 4, none⟩ = some (.int .i64 y0) := (World.cell?_of_block (w := w) (a := ⟨b', o' + j * 4, none⟩) low).trans (hc' 0 _ rfl)
          have e1' : wr.cell? ⟨b', o' + j * 4 + 1, none⟩ = some (.int .i64 y1) := (World.cell?_of_block (w := w) (a := ⟨b', o' + j * 4 + 1, none⟩) low).trans (hc' 1 _ rfl)
          have e2' : wr.cell? ⟨b', o' + j * 4 + 2, none⟩ = some (.string y2) := (World.cell?_of_block (w := w) (a := ⟨b', o' + j * 4 + 2, none⟩) low).trans (hc' 2 _ rfl)
          have e3' : wr.cell? ⟨b', o' + j * 4 + 3, none⟩ = some (.slice aj js.length cj) := (World.cell?_of_block (w := w) (a := ⟨b', o' + j * 4 + 3, none⟩) low).trans (hc' 3 _ rfl)
          have hjm2 : (js.length : Int) ≤ 9223372036854775807 := by
            obtain ⟨_, _, _, _, h1, h2, -⟩ := gk
            unfold maxLen at h2
            omega
          have hbw : b' < wr.heap.size := by have h1 := HJ.out.1.size; have h2 := hS'.1; omega
          have GK : Hid (valueSh.slice.rep w (fun b => b < n ∧ Plain w b) [.slice aj js.length cj] js) := gk
          have HTT : Hid (ls[j] = .mk (y0, y1, y2) js) := hT'
          have hn1 : n + 1 ≤ wr.heap.size := HJ.out.1.size
          have BA : Hid (Below wr.heap.size wr (wr.alloc (.cells #[.int .i64 y0, .int .i64 y1, .string y2, .slice aj js.length cj] 26))) := (Below.refl _ _).alloc (Nat.le_refl _) _
          have Y1 : Hid ((wr.alloc (.cells #[.int .i64 y0, .int .i64 y1, .string y2, .slice aj js.length cj] 26)).heap[wr.heap.size]? = some (.cells #[.int .i64 y0, .int .i64 y1, .string y2, .slice aj js.length cj] 26)) := alloc_top _ _
          have Y3 : Hid ((wr.alloc (.cells #[.int .i64 y0, .int .i64 y1, .string y2, .slice aj js.length cj] 26)).heap.size = wr.heap.size + 1) := by show _ = _; simp
          have hcall := okValue_any ds y0 y1 y2 js aj cj mb nm D (wr.alloc (.cells #[.int .i64 y0, .int .i64 y1, .string y2, .slice aj js.length cj] 26)) gs hjm2 (data.owns_low HM.out.1 (HJ.out.2.1.trans (BA.out.mono (by omega))) hmb) HM.out.2
          obtain ⟨r, hr⟩ : ∃ r, r = locB ds (.mk (y0, y1, y2) js) := ⟨_, rfl⟩
          rw [← hr] at hcall
          have HRB : Hid (r = locB ds (.mk (y0, y1, y2) js)) := hr
          clear hrow hk hrep' hcs' hc' low gk hT' hS' hr
          go_wp2_with fail
          refine hcall.mono ?_
          rintro e w1 ⟨rfl, hb⟩
          have A1 : Hid (Below wr.heap.size wr w1) := BA.out.trans (hb.mono (by rw [Y3.out]; omega))
          have X1 : Hid (w1.heap[wr.heap.size]? = some (.cells #[.int .i64 y0, .int .i64 y1, .string y2, .slice aj js.length cj] 26)) := (hb.block _ (by rw [Y3.out]; omega)).trans Y1.out
          have Z1 : Hid (wr.heap.size + 1 ≤ w1.heap.size) := by have := hb.size; rw [Y3.out] at this; exact this
          clear hcall hb e0' e1' e2' e3' BA Y1 Y3
          cases r with
          | false =>
            have Q : Hid (∃ p ∈ ST, ∃ x ∈ p.2.2, ¬ OkL ds x) := by
              refine ⟨ST[i], List.getElem_mem hlt, ls[j], by rw [HP.out]; exact List.getElem_mem hlj, fun q => ?_⟩
              rw [HTT.out] at q
              rw [locB_true q] at HRB
              cases HRB.out
            go_wp2
            go_ret2
            exact ⟨by rw [← HN.out]; exact HJ.out.2.1.trans (A1.out.mono (by omega)), .inl ⟨rfl, Q.out⟩⟩
          | true =>
          have OKJ : Hid (OkL ds ls[j]) := by
            show OkL _ _
            rw [HTT.out]
            exact locB_iff.1 HRB.out.symm
          have HAS : Hid ((allS (ls.take (j + 1))).length = (allS (ls.take j)).length + (allS js).length + 1) := by
            have := allS_take hlj
            rw [HTT.out] at this
            exact this
          have HONE : Hid (∀ B', (∀ q ∈ B, q ∈ B') → Cov B' ls[j] → ∀ k (h : k < ls.length), k < j + 1 → OkL ds ls[k] ∧ Cov B' ls[k]) := fun B' hsub hcov k h1 hk => by
            by_cases hkj : k = j
            · subst hkj; exact ⟨OKJ.out, hcov⟩
            · have := HJ.out.2.2.2.2.2 k h1 (by omega)
              exact ⟨this.1, this.2.more hsub⟩
          have d3 : w1.cell? ⟨wr.heap.size, 3, none⟩ = some (.slice aj js.length cj) := by simp [World.cell?, X1.out]
          have I1 : Hid (TInv 24 w n w1 B u6) := HJ.out.1.on A1.out
          have B1 : Hid (Below n w w1) := HJ.out.2.1.trans (A1.out.mono (by omega))
          by_cases hj0 : js.length = 0
          · have hjs : js = [] := List.eq_nil_of_length_eq_zero hj0
            have g0 : decide ((js.length : Int) > 0) = false := by simp; omega
            have g1 : decide ((0 : Int) < (js.length : Int)) = false := by simp; omega
            have g2 : ¬ (0 : Int) < (js.length : Int) := by omega
            have HC : Hid (Cov B ls[j]) := .inl (by rw [HTT.out]; exact hjs)
            clear hjs
            go_wp2
            go_quiet (fail)
            go_wp2
            go_round
            case rel =>
              refine ⟨B, j + 1, by omega, by go_num, I1.out.on (drewN_belowV (Below.refl _ _) _), drewN_belowV B1.out _, HJ.out.2.2.1, HJ.out.2.2.2.1, ?_, HONE.out B (fun _ h => h) HC.out⟩
              have h1 := HJ.out.2.2.2.2.1
              have h2 := HAS.out
              omega
            case measure => simp [intOf]; omega
          · have hjp : 0 < js.length := by omega
            have g0 : decide ((js.length : Int) > 0) = true := by simp; omega
            have g1 : decide ((0 : Int) < (js.length : Int)) = true := by simp; omega
            have g2 : (0 : Int) < (js.length : Int) := by omega
            obtain ⟨q1', q2', csj, e, hjc, hjm, hrj, -⟩ := values_open GK.out
            cases e
            obtain ⟨bj, oj, rfl, hSj, -⟩ := hrj 0 hjp
            have SK : Hid (Plain w1 bj) := hSj.2.on (I1.out.low bj hSj.1)
            clear hrj hSj hjc hjm
            obtain ⟨m, hmap, hmet⟩ := I1.out.map
            have hokm : ∀ e ∈ m, Plain w1 e.1.block := fun e he => by
              obtain ⟨q, hq, e1, -⟩ := hmet e he
              exact I1.out.plain hq e1
            obtain ⟨L, hlook, hL⟩ := hmap.lookN (t := 88) Tryz.underlying88 Tryz.underlying90 TV.out.1 (by rw [TV.out.2]; decide) (fun w => data.zeroInt w) (a := ⟨bj, oj, none⟩) SK.out hokm
            have HLL : Hid (L = 0 ∨ ((⟨bj, oj, none⟩ : Addr), L) ∈ m) := hL
            have HME : Hid (∀ e ∈ m, ∃ p ∈ B, p.1 = some e.1 ∧ e.2 = p.2.2.length) := hmet
            have HMP : Hid (PMap w1 n m ∧ ∀ e ∈ m, Plain w1 e.1.block) := ⟨hmap, hokm⟩
            clear hL hmet hmap hokm
            by_cases hLk : L < (js.length : Int)
            case neg =>
              have HC : Hid (Cov B ls[j]) := by
                have hm := HLL.out.resolve_left (by omega)
                refine I1.out.cov HME.out hm (c1 := cj) ?_ ?_
                · rw [HTT.out]; exact GK.out
                · rw [HTT.out]; show (js.length : Int) ≤ L; omega
              go_wp2
              go_quiet (fail)
              go_wp2
              go_round
              case rel =>
                refine ⟨B, j + 1, by omega, by go_num, I1.out.on (drewN_belowV (Below.refl _ _) _), drewN_belowV B1.out _, HJ.out.2.2.1, HJ.out.2.2.2.1, ?_, HONE.out B (fun _ h => h) HC.out⟩
                have h1 := HJ.out.2.2.2.2.1
                have h2 := HAS.out
                omega
              case measure => simp [intOf]; omega
            go_wp2
            go_quiet (fail)
            go_wp2
            obtain ⟨X, hX⟩ : ∃ X, X = w1.drewN nq := ⟨_, rfl⟩
            rw [← hX]
            have BX : Hid (Below w1.heap.size w1 X.drew) := by show Below _ _ _; rw [hX]; exact (drewN_belowV (Below.refl _ _) _).drew
            have SX : Hid (X.drew.heap.size = w1.heap.size) := by show _ = _; rw [hX]; rfl
            have I2 : Hid (TInv 24 w n X.drew B u6) := I1.out.on BX.out
            have B2 : Hid (Below n w X.drew) := B1.out.trans (BX.out.mono (by have := I1.out.size; omega))
            have f3 : X.cell? ⟨wr.heap.size, 3, none⟩ = some (.slice (some ⟨bj, oj, none⟩) js.length cj) := by rw [hX]; exact d3
            have HMX : Hid (PMap X.drew n m ∧ (∀ e ∈ m, Plain X.drew e.1.block) ∧ Plain X.drew bj) := by rw [hX]; exact ⟨HMP.out.1, HMP.out.2, SK.out⟩
            clear hX hlook d3 BX
            obtain ⟨w5, m3, hst0, hmap3, hm3, hg3⟩ := HMX.out.1.store (t := 88) Tryz.underlying88 Tryz.underlying90 TV.out.1 (by rw [TV.out.2]; decide) (a := ⟨bj, oj, none⟩) HMX.out.2.2 HMX.out.2.1 (js.length : Int)
            have HM3 : Hid (PMap w5 n m3 ∧ (∀ e ∈ m3, e ∈ m ∨ e = ((⟨bj, oj, none⟩ : Addr), (js.length : Int))) ∧ X.drew.grownBy w5 (some n)) := ⟨hmap3, hm3, hg3⟩
            clear hmap3 hm3 hg3
            have hb5 : ∀ q, q < X.drew.heap.size → q ≠ n → w5.heap[q]? = X.drew.heap[q]? := fun q h1 h2 => HM3.out.2.2.block q h1 fun e => h2 (Option.some.inj e)
            have s3 : wr.heap.size < w5.heap.size := by have h1 := HM3.out.2.2.size; have h2 := SX.out; have h3 := Z1.out; omega
            have g10 : w5.cell? ⟨wr.heap.size, 3, none⟩ = some (.slice (some ⟨bj, oj, none⟩) js.length cj) := (World.cell?_of_block (w := X.drew) (a := ⟨wr.heap.size, 3, none⟩) (hb5 _ (by rw [SX.out]; have := Z1.out; show wr.heap.size < _; omega) (by show wr.heap.size ≠ _; omega))).trans f3
            have B5 : Hid (Below n w w5) := B2.out.grown HM3.out.2.2 (by rw [SX.out]; have := Z1.out; omega) (fun q e => by cases e; omega)
            obtain ⟨Y, hY⟩ : ∃ Y, Y = w5.alloc (.cells #[.slice (some ⟨bj, oj, none⟩) js.length cj] 24) := ⟨_, rfl⟩
            have BY : Below w5.heap.size w5 Y := by rw [hY]; exact (Below.refl _ _).alloc (Nat.le_refl _) _
            obtain ⟨cs4, hrow4, hcr4⟩ := I2.out.row
            have low5 : ∀ q, q < X.drew.heap.size → q ≠ n → Y.heap[q]? = X.drew.heap[q]? := fun q h1 h2 => (BY.block q (Nat.lt_of_lt_of_le h1 HM3.out.2.2.size)).trans (hb5 q h1 h2)
            have HROW4 : Hid (Y.ownsRow (n + 1) 24 1 u6 B.length (flat cs4 B.length)) := row_on hrow4 fun q h1 h2 => low5 q h2 (by omega)
            have HCR : Hid (∀ i (h : i < B.length), atSh.rep Y (fun b => b < n ∧ Plain w b) (cs4 i) B[i]) := fun i h => atSh.on (hcr4 i h) fun q hq => low5 q (by rw [SX.out]; have := Z1.out; have := hq.1; omega) (by have := hq.1; omega)
            have hbl : B.length ≤ 1048577 := by
              have h1 := mass_len B HJ.out.1.len
              have h2 := HJ.out.2.2.2.2.1
              have h3 := HMT.out
              have h4 : (allS (ls.take j)).length ≤ (allS ls).length := by
                conv => rhs; rw [← List.take_append_drop j ls, allS_append, List.length_append]
                omega
              omega
            have hnews := cells_new w5 [.slice (some ⟨bj, oj, none⟩) js.length cj] 24 _ rfl
            rw [show (#[.slice (some ⟨bj, oj, none⟩) js.length cj] : Array Value) = [.slice (some ⟨bj, oj, none⟩) js.length cj].toArray from rfl] at hY
            rw [← hY] at hnews
            have HNEW : Hid _ := hnews
            have HYY : Hid (Y = w5.alloc (.cells #[.slice (some ⟨bj, oj, none⟩) js.length cj] 24)) := hY
            have BYY : Hid (Below w5.heap.size w5 Y) := BY
            have SY : Hid (n + 1 ≤ Y.heap.size) := by show _ ≤ _; have h1 := BY.size; omega
            clear hnews hrow4 hcr4 hY BY low5 hb5
            go_region
            go_wp2_with (first
              | (at_builtin
                 rw [← HYY.out]
                 refine wpList_append_own_at _ rfl _ _ 48 rfl (n + 1) 24 ti _ 1 24 Tryz.underlying48 TI.out.1 TI.out.2.1 TI.out.2.2.1 TI.out.2.2.2 rfl (by decide) u6 B.length _ rfl HROW4.out ⟨w5.heap.size, 0, none⟩ 1 1 _ rfl rfl HNEW.out (by simp [Value.oneCell']) (by unfold maxLen; omega) (by omega) SY.out ?_
                 intro v' w6 hown5 hgrow5 _ hat5)
              | fail)
            have GR5 : Hid (Y.grownBy w6 u6.ownBlock) := hgrow5
            refine ⟨⟨B ++ [(some ⟨bj, oj, none⟩, cj, js)], j + 1, by omega, by go_num, ?_, ?_, ?_, ?_, ?_, ?_⟩, by simp [intOf]; omega⟩
            · exact I2.out.meet (p := (some ⟨bj, oj, none⟩, cj, js)) GK.out hjp rfl HME.out HM3.out.1 HM3.out.2.1 HM3.out.2.2 BYY.out HROW4.out HCR.out hown5 hgrow5
            · refine (B5.out.trans (BYY.out.mono (by omega))).grown GR5.out (by have := SY.out; omega) fun q e => ?_
              have := (World.ownsRow.lt HROW4.out q e).1
              omega
            · intro k h1 hk x hx
              have := HJ.out.2.2.1 k h1 hk x hx
              exact ⟨this.1, this.2.more fun q hq => by simp [hq]⟩
            · intro q hq
              rcases List.mem_append.1 hq with hq | hq
              · exact HJ.out.2.2.2.1 q hq
              · simp only [List.mem_singleton] at hq
                subst hq
                exact ⟨ST[i], List.getElem_mem hlt, ls[j], by rw [HP.out]; exact List.getElem_mem hlj, by rw [HTT.out]; rfl⟩
            · rw [mass_append]
              have h1 := HJ.out.2.2.2.2.1
              have h2 := HAS.out
              simp only [mass]
              omega
            · exact HONE.out _ (fun x hx => by simp [hx]) (.inr ⟨_, List.mem_append_right _ (List.mem_singleton.2 rfl), by rw [HTT.out]; exact List.prefix_refl _⟩)
        · obtain rfl : j = ls.length := by omega
          go_wp2
          go_round
          case rel =>
            refine ⟨B, i + 1, by omega, by go_num, HJ.out.1, HJ.out.2.1, fun k h1 hk => ?_, HJ.out.2.2.2.1, ?_⟩
            · by_cases hki : k = i
              · subst hki
                intro x hx
                rw [HP.out] at hx
                obtain ⟨q, hq, rfl⟩ := List.getElem_of_mem hx
                exact HJ.out.2.2.2.2.2 q hq hq
              · exact HJ.out.2.2.1 k h1 (by omega)
            · have h1 := HJ.out.2.2.2.2.1
              rw [List.take_length] at h1
              rw [HMT.out.1]
              exact h1
          case measure => simp [intOf]; omega
    · obtain rfl : i = ST.length := by omega
      have Q := HI.out.1.slice
      have QQ : Hid (atSh.slice.rep wr (fun b => b < wr.heap.size ∧ Plain wr b) [u6] B) := Q
      clear Q
      go_wp2
      go_ret2
      refine ⟨by rw [← HN.out]; exact HI.out.2.1, .inr ⟨_, B, rfl, fun p hp => ?_, HI.out.2.2.2.1, HI.out.1.len, ?_, QQ.out⟩⟩
      · obtain ⟨q, hq, rfl⟩ := List.getElem_of_mem hp
        exact HI.out.2.2.1 q hq hq
      · have := HI.out.2.2.2.2
        rw [List.take_length] at this
        exact this

end Go.Proofs.YtlnpfnglphdaiaaGreatDoor.value
