/-
  A map whose keys are held against each other by asking (structs, places): what a look-up and a store do, where each key may be asked for.
-/
import Derived.Test.YtndlhmpglpehcaaRoseQ
import Derived.LaidEqlPtr
import Derived.Laws.StructEq
import Derived.RangeFuncNested
import Derived.RangeFuncBound
import Derived.RangeFuncCalls
import Derived.MapKept
import Derived.Maps.OwnIn
namespace Go.Proofs.Ytndlhmpglpehcaa.rose
open Go Go.RowKit
set_option linter.unusedVariables false
set_option linter.unusedSimpArgs false

/-- How keys of a type lie, and when one may be held against another. -/
structure KeyKind (P : Program) (k : TypeId) (κ : Type) where
  dec : DecidableEq κ
  enc : κ → Value
  ok : World → κ → Prop
  equal : ∀ {w p q}, ok w p → ok w q → (Op.equal k (enc p) (enc q)).run P w = .ok (@decide (p = q) (dec p q)) w
  check : ∀ {w p} (b : Bool), ok w p → (Instr.checkKey b 10000 k (enc p)).run P w = .ok () w
  desc : TypeDesc
  isDesc : P.underlying k = some desc
  now : ∀ p q, Instr.sameNow desc (enc p) (enc q) = none
  bits : ∀ p, Instr.sameBits 10000 (enc p) (enc p) = true

/-- Block b is a map with those entries. -/
def KMap {P : Program} {k : TypeId} {κ : Type} (K : KeyKind P k κ) (w : World) (b : Nat) (m : List (κ × Value)) : Prop :=
  ∃ es clock, w.heap[b]? = some (.map es clock) ∧ es.toList.map (fun e => (e.key, e.val)) = m.map fun p => (K.enc p.1, p.2)

section
variable {P : Program} {k : TypeId} {κ : Type} {K : KeyKind P k κ} {w : World} {e : TypeId}

theorem KMap.made (K : KeyKind P k κ) (w : World) : KMap K (w.alloc (.map #[] 0)) w.heap.size [] := ⟨#[], 0, by show (w.heap.push _)[w.heap.size]? = _; simp, rfl⟩
theorem KMap.on {w' : World} {b : Nat} {m : List (κ × Value)} (h : KMap K w b m) (hb : w'.heap[b]? = w.heap[b]?) : KMap K w' b m := by
  obtain ⟨es, clock, h1, h2⟩ := h
  exact ⟨es, clock, hb.trans h1, h2⟩
theorem KMap.lt {b : Nat} {m : List (κ × Value)} (h : KMap K w b m) : b < w.heap.size := by
  obtain ⟨es, clock, h1, -⟩ := h
  exact (Array.getElem?_eq_some_iff.1 h1).1

/-- The first entry of that key. -/
def kseek (K : KeyKind P k κ) (a : κ) : List (κ × Value) → Nat → Option (Nat × Value)
  | [], _ => none
  | p :: m, i => if @decide (a = p.1) (K.dec a p.1) then some (i, p.2) else kseek K a m (i + 1)

theorem run_kseek {a : κ} (ha : K.ok w a) : ∀ (es : List MapEntry) (m : List (κ × Value)) (n : Nat), es.map (fun e => (e.key, e.val)) = m.map (fun p => (K.enc p.1, p.2)) → (∀ p ∈ m, K.ok w p.1) →
    (Instr.findAsking k (K.enc a) es n).run P w = .ok (kseek K a m n) w
  | [], [], n, _, _ => by simp [Instr.findAsking, kseek]
  | [], p :: m, n, h, _ => by simp at h
  | x :: es, [], n, h, _ => by simp at h
  | x :: es, p :: m, n, h, hm => by
    simp only [List.map_cons, List.cons.injEq, Prod.mk.injEq] at h
    obtain ⟨⟨h1, h2⟩, h3⟩ := h
    have he := K.equal ha (hm p (by simp))
    by_cases hap : @decide (a = p.1) (K.dec a p.1) = true
    · rw [hap] at he
      simp [Instr.findAsking, h1, he, kseek, hap, h2]
    · have hap' : @decide (a = p.1) (K.dec a p.1) = false := by simpa using hap
      rw [hap'] at he
      simp only [Instr.findAsking, h1, Sem.run_bind, he, Result.andThen_ok, kseek, hap', Bool.false_eq_true, if_false]
      exact run_kseek ha es m (n + 1) h3 fun q hq => hm q (by simp [hq])

theorem run_kfind {a : κ} (ha : K.ok w a) (es : List MapEntry) (m : List (κ × Value)) (h : es.map (fun e => (e.key, e.val)) = m.map (fun p => (K.enc p.1, p.2))) (hm : ∀ p ∈ m, K.ok w p.1) :
    (Instr.findKey k (K.enc a) es).run P w = .ok (kseek K a m 0) w := by
  match es, m, h with
  | [], [], _ => simp [Instr.findKey, run_underlying K.isDesc, Instr.findNow, kseek]
  | [], p :: m, h => simp at h
  | x :: es, [], h => simp at h
  | x :: es, p :: m, h =>
    have h1 := run_kseek (w := w) ha (x :: es) (p :: m) 0 h hm
    have hx : x.key = K.enc p.1 := by simp only [List.map_cons, List.cons.injEq, Prod.mk.injEq] at h; exact h.1.1
    simp [Instr.findKey, run_underlying K.isDesc, Instr.findNow, hx, K.now, h1]

theorem kseek_mem {a : κ} : ∀ {m : List (κ × Value)} {n : Nat} {q : Nat × Value}, kseek K a m n = some q → (a, q.2) ∈ m ∧ n ≤ q.1 ∧ m[q.1 - n]? = some (a, q.2)
  | [], n, q, h => by simp [kseek] at h
  | p :: m, n, q, h => by
    unfold kseek at h
    split at h
    · rename_i e
      have e' : a = p.1 := of_decide_eq_true (inst := K.dec a p.1) e
      cases h
      subst e'
      simp
    · obtain ⟨h1, h2, h3⟩ := kseek_mem h
      refine ⟨by simp [h1], by omega, ?_⟩
      rw [show q.1 - n = (q.1 - (n + 1)) + 1 by omega, List.getElem?_cons_succ]
      exact h3

/-- A LOOK-UP. -/
theorem KMap.look {t : TypeId} {b : Nat} {m : List (κ × Value)} (h : KMap K w b m) (ht : P.underlying t = some (.map k e)) {z : Value} (hz : (zeroValue e).run P w = .ok z w) {a : κ} (ha : K.ok w a) (hm : ∀ p ∈ m, K.ok w p.1) :
    ∃ v : Value, (Instr.lookup t (.map (some b)) (K.enc a) false).run P w = .ok v w ∧ (v = z ∨ (a, v) ∈ m) := by
  obtain ⟨es, clock, h1, h2⟩ := h
  have hf := run_kfind (w := w) ha es.toList m h2 hm
  have hg : (getObj b).run P w = .ok (.map es clock) w := by simp [getObj, Sem.run, h1]
  cases hq : kseek K a m 0 with
  | none =>
    rw [hq] at hf
    refine ⟨z, ?_, .inl rfl⟩
    simp [Instr.lookup, run_underlying ht, hg, K.check _ ha, hf, hz]
  | some q =>
    rw [hq] at hf
    refine ⟨q.2, ?_, .inr (kseek_mem hq).1⟩
    simp [Instr.lookup, run_underlying ht, hg, K.check _ ha, hf]

/-- A STORE. -/
theorem KMap.store {t : TypeId} {b : Nat} {m : List (κ × Value)} (h : KMap K w b m) (ht : P.underlying t = some (.map k e)) {a : κ} (ha : K.ok w a) (hm : ∀ p ∈ m, K.ok w p.1) (v : Value) :
    ∃ w' m', (Instr.mapUpdate t (.map (some b)) (K.enc a) v).run P w = .ok () w' ∧ KMap K w' b m' ∧ (∀ p ∈ m', p ∈ m ∨ p = (a, v)) ∧ w.grownBy w' (some b) := by
  obtain ⟨es, clock, h1, h2⟩ := h
  have hf := run_kfind (w := w) ha es.toList m h2 hm
  have hg : (getObj b).run P w = .ok (.map es clock) w := by simp [getObj, Sem.run, h1]
  have hb : b < w.heap.size := (Array.getElem?_eq_some_iff.1 h1).1
  have hs : ∀ o, (setObj b o).run P w = .ok () (w.putObj b o) := fun o => by simp [setObj, Sem.run, World.putObj, h1]
  cases hq : kseek K a m 0 with
  | none =>
    rw [hq] at hf
    refine ⟨w.putObj b (.map (es.push { key := K.enc a, val := v, born := clock }) (clock + 1)), m ++ [(a, v)], ?_, ⟨_, _, World.putObj_heap_same hb, ?_⟩, ?_, grownBy_putObj' w b _⟩
    · simp [Instr.mapUpdate, run_underlying ht, hg, K.check _ ha, hf, hs]
    · simp [h2]
    · intro p hp; simpa using hp
  | some q =>
    rw [hq] at hf
    obtain ⟨hmem, -, hget⟩ := kseek_mem hq
    rw [Nat.sub_zero] at hget
    have hql : q.1 < m.length := (List.getElem?_eq_some_iff.1 hget).1
    have hel : es.toList.length = m.length := by have := congrArg List.length h2; simpa using this
    have hes : q.1 < es.size := by simpa using (by rw [← hel] at hql; simpa using hql : q.1 < es.size)
    have hkey : (es[q.1]).key = K.enc a := by
      have := congrArg (fun l => l[q.1]?) h2
      simp only [List.getElem?_map, hget] at this
      rw [List.getElem?_eq_getElem (by simpa using hes)] at this
      simp at this
      exact this.1
    refine ⟨w.putObj b (.map (es.modify q.1 fun e => { e with key := K.enc a, val := v }) clock), m.set q.1 (a, v), ?_, ⟨_, _, World.putObj_heap_same hb, ?_⟩, ?_, grownBy_putObj' w b _⟩
    · simp [Instr.mapUpdate, run_underlying ht, hg, K.check _ ha, hf, hs, Instr.keyThatStays, hes, hkey, K.bits]
    · apply List.ext_getElem?
      intro j
      have hj := congrArg (fun l => l[j]?) h2
      simp only [List.getElem?_map] at hj ⊢
      simp only [Array.toList_modify, List.getElem?_modify, List.getElem?_set]
      by_cases e : q.1 = j
      · subst e
        simp [hql, hes]
      · simp [e]
        simpa using hj
    · intro p hp
      rcases List.mem_or_eq_of_mem_set hp with h | h
      · exact .inl h
      · exact .inr h
end

/-! ### Keys that are two places -/
section
variable {P : Program} {k pt pe : TypeId}

theorem equalIn_ptr {w : World} {i : TypeInfo} (hp : P.underlying pt = some (.pointer pe)) (hte : P.info? pe = some i) (hsz : i.size ≠ 0) {a b : Addr} (ha : Plain w a.block) (hb : Plain w b.block) (d : Nat) :
    (Op.equalIn (d + 1) pt (.pointer (some a)) (.pointer (some b))).run P w = .ok (decide (a = b)) w := by
  obtain ⟨ca, ta, ha⟩ := ha
  obtain ⟨cb, tb, hb⟩ := hb
  by_cases hab : a = b
  · subst hab
    simp [Op.equalIn, run_underlying hp, sizeOf, typeInfo, hte, run_sameAddr_same]
  · simp [Op.equalIn, run_underlying hp, sizeOf, typeInfo, hte, hsz, run_sameAddr_other w hab ha hb, hab]

/-- A pair of places. -/
def pairEnc (p : Addr × Addr) : Value := .agg #[.pointer (some p.1), .pointer (some p.2)]

theorem two_fields {n1 n2 : String} {fs : Array Field} (hfs : fs.toList.map (fun f => (f.name, f.type, f.offset)) = [(n1, pt, 0), (n2, pt, 1)]) :
    ∃ f1 f2, fs = #[f1, f2] ∧ f1.name = n1 ∧ f1.type = pt ∧ f1.offset = 0 ∧ f2.name = n2 ∧ f2.type = pt ∧ f2.offset = 1 := by
  obtain ⟨l⟩ := fs
  rcases l with _ | ⟨f1, _ | ⟨f2, _ | ⟨f3, r⟩⟩⟩
  · simp at hfs
  · simp at hfs
  · simp only [List.map_cons, List.map_nil, List.cons.injEq, Prod.mk.injEq, and_true] at hfs
    exact ⟨f1, f2, rfl, hfs.1.1, hfs.1.2.1, hfs.1.2.2, hfs.2.1, hfs.2.2.1, hfs.2.2.2⟩
  · simp at hfs

theorem part_ptr {w : World} (hp : P.underlying pt = some (.pointer pe)) (xs : Array Value) (o : Nat) (v : Value) (hx : xs[o]? = some v) : (part pt xs o).run P w = .ok v w := by
  simp [part, isAgg, run_underlying hp, hx]

theorem equal_pair {w : World} {n1 n2 : String} {i : TypeInfo} (fs : Array Field) (hk : P.underlying k = some (.struct fs)) (hfs : fs.toList.map (fun f => (f.name, f.type, f.offset)) = [(n1, pt, 0), (n2, pt, 1)]) (h1 : n1 ≠ "_") (h2 : n2 ≠ "_") (hst : P.stoodInHeld k = false)
    (hp : P.underlying pt = some (.pointer pe)) (hte : P.info? pe = some i) (hsz : i.size ≠ 0) (d : Nat) (p q : Addr × Addr) (a1 : Plain w p.1.block) (a2 : Plain w p.2.block) (b1 : Plain w q.1.block) (b2 : Plain w q.2.block) :
    (Op.equalIn (d + 1 + 1) k (pairEnc p) (pairEnc q)).run P w = .ok (decide (p = q)) w := by
  obtain ⟨f1, f2, rfl, e1, e2, e3, e4, e5, e6⟩ := two_fields hfs
  have hfo : P.fieldsOf k = #[f1, f2] := by simp [Program.fieldsOf, hk]
  rw [pairEnc, pairEnc, run_equalIn_struct w (d + 1) k _ _ (by rw [hk, hfo]) hst, hfo]
  have q1 := equalIn_ptr (w := w) hp hte hsz a1 b1 d
  have q2 := equalIn_ptr (w := w) hp hte hsz a2 b2 d
  have z1 := part_ptr (w := w) hp #[Value.pointer (some p.1), Value.pointer (some p.2)] 0 _ rfl
  have z2 := part_ptr (w := w) hp #[Value.pointer (some p.1), Value.pointer (some p.2)] 1 _ rfl
  have z3 := part_ptr (w := w) hp #[Value.pointer (some q.1), Value.pointer (some q.2)] 0 _ rfl
  have z4 := part_ptr (w := w) hp #[Value.pointer (some q.1), Value.pointer (some q.2)] 1 _ rfl
  obtain ⟨p1, p2⟩ := p
  obtain ⟨r1, r2⟩ := q
  by_cases c1 : p1 = r1 <;> by_cases c2 : p2 = r2 <;> simp_all [Op.eqFields]

theorem check_pair {w : World} {n1 n2 : String} (fs : Array Field) (hk : P.underlying k = some (.struct fs)) (hfs : fs.toList.map (fun f => (f.name, f.type, f.offset)) = [(n1, pt, 0), (n2, pt, 1)])
    (hp : P.underlying pt = some (.pointer pe)) (b : Bool) (d : Nat) (p : Addr × Addr) : (Instr.checkKey b (d + 1 + 1) k (pairEnc p)).run P w = .ok () w := by
  obtain ⟨f1, f2, rfl, e1, e2, e3, e4, e5, e6⟩ := two_fields hfs
  have z1 := part_ptr (w := w) hp #[Value.pointer (some p.1), Value.pointer (some p.2)] 0 _ rfl
  have z2 := part_ptr (w := w) hp #[Value.pointer (some p.1), Value.pointer (some p.2)] 1 _ rfl
  have hc : ∀ v : Value, (Instr.checkKey b (d + 1) pt v).run P w = .ok () w := fun v => by simp [Instr.checkKey, run_underlying hp]
  rw [Instr.checkKey]
  generalize Instr.checkKey b (d + 1) = ck at hc
  simp [run_underlying hk, pairEnc, e1, e2, e3, e4, e5, e6, z1, z2, hc]

def pairKind {n1 n2 : String} {i : TypeInfo} (fs : Array Field) (hk : P.underlying k = some (.struct fs)) (hfs : fs.toList.map (fun f => (f.name, f.type, f.offset)) = [(n1, pt, 0), (n2, pt, 1)]) (h1 : n1 ≠ "_") (h2 : n2 ≠ "_") (hst : P.stoodInHeld k = false)
    (hp : P.underlying pt = some (.pointer pe)) (hte : P.info? pe = some i) (hsz : i.size ≠ 0) : KeyKind P k (Addr × Addr) where
  dec := inferInstance
  enc := pairEnc
  ok := fun w p => Plain w p.1.block ∧ Plain w p.2.block
  equal := fun {w p q} a b => equal_pair fs hk hfs h1 h2 hst hp hte hsz 9998 p q a.1 a.2 b.1 b.2
  check := fun {w p} b _ => check_pair fs hk hfs hp b 9998 p
  desc := .struct fs
  isDesc := hk
  now := fun _ _ => rfl
  bits := fun p => by
    have : ∀ d, Instr.sameBits (d + 1 + 1) (pairEnc p) (pairEnc p) = true := fun d => by simp [pairEnc, Instr.sameBits]
    exact this 9998
end

end Go.Proofs.Ytndlhmpglpehcaa.rose
