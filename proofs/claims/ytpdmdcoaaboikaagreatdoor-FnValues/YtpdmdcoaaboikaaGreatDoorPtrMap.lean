/-
  A map from places to numbers: what a look-up and a store do, where each place lies in a row of cells that nothing froze.
-/
import Derived.Test.YtpdmdcoaaboikaaGreatDoorRoseQ
import Derived.LaidEqlPtr
import Derived.RangeFuncNested
import Derived.RangeFuncBound
import Derived.RangeFuncCalls
import Derived.MapKept
import Derived.Maps.OwnIn
namespace Go.Proofs.YtpdmdcoaaboikaaGreatDoor.rose
open Go Go.RowKit
set_option linter.unusedVariables false
set_option linter.unusedSimpArgs false

/-- Block b is a map with those entries. -/
def PMap (w : World) (b : Nat) (m : List (Addr × Int)) : Prop :=
  ∃ es clock, w.heap[b]? = some (.map es clock) ∧ es.toList.map (fun e => (e.key, e.val)) = m.map fun p => (Value.pointer (some p.1), Value.int .i64 p.2)

theorem PMap.made (w : World) : PMap (w.alloc (.map #[] 0)) w.heap.size [] := ⟨#[], 0, by show (w.heap.push _)[w.heap.size]? = _; simp, rfl⟩
theorem PMap.on {w w' : World} {b : Nat} {m : List (Addr × Int)} (h : PMap w b m) (hb : w'.heap[b]? = w.heap[b]?) : PMap w' b m := by
  obtain ⟨es, clock, h1, h2⟩ := h
  exact ⟨es, clock, hb.trans h1, h2⟩
theorem PMap.lt {w : World} {b : Nat} {m : List (Addr × Int)} (h : PMap w b m) : b < w.heap.size := by
  obtain ⟨es, clock, h1, -⟩ := h
  exact (Array.getElem?_eq_some_iff.1 h1).1

section
variable {P : Program} {w : World} {k e pe : TypeId}

theorem equal_ptr {i : TypeInfo} (hp : P.underlying k = some (.pointer pe)) (hte : P.info? pe = some i) (hsz : i.size ≠ 0) {a b : Addr} (ha : Plain w a.block) (hb : Plain w b.block) :
    (Op.equal k (.pointer (some a)) (.pointer (some b))).run P w = .ok (decide (a = b)) w := by
  obtain ⟨ca, ta, ha⟩ := ha
  obtain ⟨cb, tb, hb⟩ := hb
  have h : ∀ d : Nat, (Op.equalIn (d + 1) k (.pointer (some a)) (.pointer (some b))).run P w = .ok (decide (a = b)) w := fun d => by
    by_cases hab : a = b
    · subst hab
      simp [Op.equalIn, run_underlying hp, sizeOf, typeInfo, hte, run_sameAddr_same]
    · simp [Op.equalIn, run_underlying hp, sizeOf, typeInfo, hte, hsz, run_sameAddr_other w hab ha hb, hab]
  exact h 9999
theorem check_ptr (b : Bool) (hp : P.underlying k = some (.pointer pe)) (v : Value) : (Instr.checkKey b 10000 k v).run P w = .ok () w := by
  have h : ∀ d : Nat, (Instr.checkKey b (d + 1) k v).run P w = .ok () w := fun d => by
    simp [Instr.checkKey, run_underlying hp]
  exact h 9999

/-- The first entry at that place. -/
def seek (a : Addr) : List (Addr × Int) → Nat → Option (Nat × Int)
  | [], _ => none
  | p :: m, i => if a = p.1 then some (i, p.2) else seek a m (i + 1)

theorem run_seek {i : TypeInfo} (hp : P.underlying k = some (.pointer pe)) (hte : P.info? pe = some i) (hsz : i.size ≠ 0) {a : Addr} (ha : Plain w a.block) : ∀ (es : List MapEntry) (m : List (Addr × Int)) (n : Nat), es.map (fun e => (e.key, e.val)) = m.map (fun p => (Value.pointer (some p.1), Value.int .i64 p.2)) → (∀ p ∈ m, Plain w p.1.block) →
    (Instr.findAsking k (.pointer (some a)) es n).run P w = .ok ((seek a m n).map fun q => (q.1, Value.int .i64 q.2)) w
  | [], [], n, _, _ => by simp [Instr.findAsking, seek]
  | [], p :: m, n, h, _ => by simp at h
  | x :: es, [], n, h, _ => by simp at h
  | x :: es, p :: m, n, h, hm => by
    simp only [List.map_cons, List.cons.injEq, Prod.mk.injEq] at h
    obtain ⟨⟨h1, h2⟩, h3⟩ := h
    have he := equal_ptr (w := w) hp hte hsz ha (hm p (by simp))
    by_cases hap : a = p.1
    · simp [Instr.findAsking, h1, he, seek, hap, h2]
      rw [← hap] at he ⊢
      simp [he]
    · simp [Instr.findAsking, h1, he, seek, hap]
      exact run_seek hp hte hsz ha es m (n + 1) h3 fun q hq => hm q (by simp [hq])

theorem run_find {i : TypeInfo} (hp : P.underlying k = some (.pointer pe)) (hte : P.info? pe = some i) (hsz : i.size ≠ 0) {a : Addr} (ha : Plain w a.block) (es : List MapEntry) (m : List (Addr × Int)) (h : es.map (fun e => (e.key, e.val)) = m.map (fun p => (Value.pointer (some p.1), Value.int .i64 p.2))) (hm : ∀ p ∈ m, Plain w p.1.block) :
    (Instr.findKey k (.pointer (some a)) es).run P w = .ok ((seek a m 0).map fun q => (q.1, Value.int .i64 q.2)) w := by
  match es, m, h with
  | [], [], _ => simp [Instr.findKey, run_underlying hp, Instr.findNow, seek]
  | [], p :: m, h => simp at h
  | x :: es, [], h => simp at h
  | x :: es, p :: m, h =>
    have h1 := run_seek (w := w) hp hte hsz ha (x :: es) (p :: m) 0 h hm
    simp [Instr.findKey, run_underlying hp, Instr.findNow, Instr.sameNow, h1]

theorem seek_mem {a : Addr} : ∀ {m : List (Addr × Int)} {n : Nat} {q : Nat × Int}, seek a m n = some q → (a, q.2) ∈ m ∧ n ≤ q.1 ∧ m[q.1 - n]? = some (a, q.2)
  | [], n, q, h => by simp [seek] at h
  | p :: m, n, q, h => by
    unfold seek at h
    split at h
    · rename_i e
      cases h
      subst e
      simp
    · obtain ⟨h1, h2, h3⟩ := seek_mem h
      refine ⟨by simp [h1], by omega, ?_⟩
      rw [show q.1 - n = (q.1 - (n + 1)) + 1 by omega, List.getElem?_cons_succ]
      exact h3

/-- A LOOK-UP. -/
theorem PMap.look {t : TypeId} {i : TypeInfo} {b : Nat} {m : List (Addr × Int)} (h : PMap w b m) (ht : P.underlying t = some (.map k e)) (hp : P.underlying k = some (.pointer pe)) (hte : P.info? pe = some i) (hsz : i.size ≠ 0) (hz : (zeroValue e).run P w = .ok (.int .i64 0) w) {a : Addr} (ha : Plain w a.block) (hm : ∀ p ∈ m, Plain w p.1.block) :
    ∃ n : Int, (Instr.lookup t (.map (some b)) (.pointer (some a)) false).run P w = .ok (.int .i64 n) w ∧ (n = 0 ∨ (a, n) ∈ m) := by
  obtain ⟨es, clock, h1, h2⟩ := h
  have hf := run_find (w := w) hp hte hsz ha es.toList m h2 hm
  have hg : (getObj b).run P w = .ok (.map es clock) w := by simp [getObj, Sem.run, h1]
  cases hq : seek a m 0 with
  | none =>
    rw [hq] at hf
    refine ⟨0, ?_, .inl rfl⟩
    simp [Instr.lookup, run_underlying ht, hg, check_ptr _ hp, hf, hz]
  | some q =>
    rw [hq] at hf
    refine ⟨q.2, ?_, .inr (seek_mem hq).1⟩
    simp [Instr.lookup, run_underlying ht, hg, check_ptr _ hp, hf]

/-- A STORE. -/
theorem PMap.store {t : TypeId} {i : TypeInfo} {b : Nat} {m : List (Addr × Int)} (h : PMap w b m) (ht : P.underlying t = some (.map k e)) (hp : P.underlying k = some (.pointer pe)) (hte : P.info? pe = some i) (hsz : i.size ≠ 0) {a : Addr} (ha : Plain w a.block) (hm : ∀ p ∈ m, Plain w p.1.block) (n : Int) :
    ∃ w' m', (Instr.mapUpdate t (.map (some b)) (.pointer (some a)) (.int .i64 n)).run P w = .ok () w' ∧ PMap w' b m' ∧ (∀ p ∈ m', p ∈ m ∨ p = (a, n)) ∧ w.grownBy w' (some b) := by
  obtain ⟨es, clock, h1, h2⟩ := h
  have hf := run_find (w := w) hp hte hsz ha es.toList m h2 hm
  have hg : (getObj b).run P w = .ok (.map es clock) w := by simp [getObj, Sem.run, h1]
  have hb : b < w.heap.size := (Array.getElem?_eq_some_iff.1 h1).1
  have hs : ∀ o, (setObj b o).run P w = .ok () (w.putObj b o) := fun o => by simp [setObj, Sem.run, World.putObj, h1]
  cases hq : seek a m 0 with
  | none =>
    rw [hq] at hf
    refine ⟨w.putObj b (.map (es.push { key := .pointer (some a), val := .int .i64 n, born := clock }) (clock + 1)), m ++ [(a, n)], ?_, ⟨_, _, World.putObj_heap_same hb, ?_⟩, ?_, grownBy_putObj' w b _⟩
    · simp [Instr.mapUpdate, run_underlying ht, hg, check_ptr _ hp, hf, hs]
    · simp [h2]
    · intro p hp; simpa using hp
  | some q =>
    rw [hq] at hf
    obtain ⟨hmem, -, hget⟩ := seek_mem hq
    rw [Nat.sub_zero] at hget
    have hql : q.1 < m.length := (List.getElem?_eq_some_iff.1 hget).1
    have hel : es.toList.length = m.length := by have := congrArg List.length h2; simpa using this
    have hes : q.1 < es.size := by simpa using (by rw [← hel] at hql; simpa using hql : q.1 < es.size)
    have hkey : (es[q.1]).key = .pointer (some a) := by
      have := congrArg (fun l => l[q.1]?) h2
      simp only [List.getElem?_map, hget] at this
      rw [List.getElem?_eq_getElem (by simpa using hes)] at this
      simp at this
      exact this.1
    refine ⟨w.putObj b (.map (es.modify q.1 fun e => { e with key := .pointer (some a), val := .int .i64 n }) clock), m.set q.1 (a, n), ?_, ⟨_, _, World.putObj_heap_same hb, ?_⟩, ?_, grownBy_putObj' w b _⟩
    · simp [Instr.mapUpdate, run_underlying ht, hg, check_ptr _ hp, hf, hs, Instr.keyThatStays, hes, hkey, Instr.sameBits]
    · apply List.ext_getElem?
      intro j
      have hj := congrArg (fun l => l[j]?) h2
      simp only [List.getElem?_map] at hj ⊢
      simp only [Array.toList_modify, List.getElem?_modify, List.getElem?_set]
      by_cases e : q.1 = j
      · subst e
        simp [hql, hes]
      · simp [e]
        simpa using hj
    · intro p hp
      rcases List.mem_or_eq_of_mem_set hp with h | h
      · exact .inl h
      · exact .inr h
end

/-! ### At the operation, inside a fence -/
section
variable {F : Fence} {nF : Nat} {P : Program} {ops : Array Oper} {rest : List Oper} {o : Oper} {a : Act} {Q : Exit → Act → World → Prop}

theorem stepIn_plook {w : World} {K : Act → World → Prop} (m x : Operand) (t : TypeId) (hop : o.op = Op.lookup t m x false) (vm vx : Value) (hm : a.eval m = vm) (hx : a.eval x = vx) (v : Value) (hrun : (Instr.lookup t vm vx false).run P w = .ok v w)
    (hK : K (a.put o.dst v) w) : Oper.wpIn F nF P o a w K Q := by
  unfold Oper.wpIn
  refine ⟨by simp [Oper.about, hop], ?_⟩
  rw [Oper.semAt_plain F _ _ (by rw [hop]; intro c hc'; cases hc')]
  simp [execOp, hop, hm, hx, hrun, Result.andThen]
  exact hK
theorem wpListIn_pstore (w : World) (hg : o.guard = none) (m x v : Operand) (t : TypeId) (hop : o.op = Op.mapUpdate t m x v) (vm vx vv : Value) (hm : a.eval m = vm) (hx : a.eval x = vx) (hv : a.eval v = vv) (w' : World) (hrun : (Instr.mapUpdate t vm vx vv).run P w = .ok () w')
    (hK : wpListIn F nF P ops Q rest (a.put o.dst undef) w') : wpListIn F nF P ops Q (o :: rest) a w := by
  refine wpListIn_plain hg fun K' hK' => ?_
  unfold Oper.wpIn
  refine ⟨by simp [Oper.about, hop], ?_⟩
  rw [Oper.semAt_plain F _ _ (by rw [hop]; intro c hc'; cases hc')]
  simp [execOp, hop, hm, hx, hv, hrun, Result.andThen]
  exact hK' _ _ hK
end

end Go.Proofs.YtpdmdcoaaboikaaGreatDoor.rose
