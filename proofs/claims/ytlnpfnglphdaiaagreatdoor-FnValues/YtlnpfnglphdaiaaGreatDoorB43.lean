/-
  A map whose keys are held against each other by asking (structs, places): what a look-up and a store do, where each key may be asked for.
  Keys of a map that are two places of two types.
  A pattern held against a value list by list: which pairs of lists were met, and why it fits where all of them are done. How a pair of lists lies; the map of what was met.
-/
import Derived.LaidEqlPtr
import Derived.Laws.StructEq
import Derived.RangeFuncNested
import Derived.RangeFuncBound
import Derived.RangeFuncCalls
import Derived.MapKept
import Derived.Maps.OwnIn
import Derived.Test.YtlnpfnglphdaiaaGreatDoorB1
import Derived.Test.YtlnpfnglphdaiaaGreatDoorB2
import Derived.Test.YtlnpfnglphdaiaaGreatDoorB3
import Derived.Test.YtlnpfnglphdaiaaGreatDoorB4
import Derived.Test.YtlnpfnglphdaiaaGreatDoorB5
import Derived.Test.YtlnpfnglphdaiaaGreatDoorB6
import Derived.Test.YtlnpfnglphdaiaaGreatDoorB7
import Derived.Test.YtlnpfnglphdaiaaGreatDoorB8
import Derived.Test.YtlnpfnglphdaiaaGreatDoorB9
import Derived.Test.YtlnpfnglphdaiaaGreatDoorB10
import Derived.Test.YtlnpfnglphdaiaaGreatDoorB11
import Derived.Test.YtlnpfnglphdaiaaGreatDoorB12
import Derived.Test.YtlnpfnglphdaiaaGreatDoorB13
import Derived.Test.YtlnpfnglphdaiaaGreatDoorB14
import Derived.Test.YtlnpfnglphdaiaaGreatDoorB15
import Derived.Test.YtlnpfnglphdaiaaGreatDoorB16
import Derived.Test.YtlnpfnglphdaiaaGreatDoorB17
import Derived.Test.YtlnpfnglphdaiaaGreatDoorB18
import Derived.Test.YtlnpfnglphdaiaaGreatDoorB19
import Derived.Test.YtlnpfnglphdaiaaGreatDoorB20
import Derived.Test.YtlnpfnglphdaiaaGreatDoorB21
import Derived.Test.YtlnpfnglphdaiaaGreatDoorB22
import Derived.Test.YtlnpfnglphdaiaaGreatDoorB23
import Derived.Test.YtlnpfnglphdaiaaGreatDoorB24
import Derived.Test.YtlnpfnglphdaiaaGreatDoorB25
import Derived.Test.YtlnpfnglphdaiaaGreatDoorB26
import Derived.Test.YtlnpfnglphdaiaaGreatDoorB27
import Derived.Test.YtlnpfnglphdaiaaGreatDoorB28
import Derived.Test.YtlnpfnglphdaiaaGreatDoorB29
import Derived.Test.YtlnpfnglphdaiaaGreatDoorB30
import Derived.Test.YtlnpfnglphdaiaaGreatDoorB31
import Derived.Test.YtlnpfnglphdaiaaGreatDoorB32
import Derived.Test.YtlnpfnglphdaiaaGreatDoorB33
import Derived.Test.YtlnpfnglphdaiaaGreatDoorB34
import Derived.Test.YtlnpfnglphdaiaaGreatDoorB35
import Derived.Test.YtlnpfnglphdaiaaGreatDoorB36
import Derived.Test.YtlnpfnglphdaiaaGreatDoorB37
import Derived.Test.YtlnpfnglphdaiaaGreatDoorB38
import Derived.Test.YtlnpfnglphdaiaaGreatDoorB39
import Derived.Test.YtlnpfnglphdaiaaGreatDoorB40
import Derived.Test.YtlnpfnglphdaiaaGreatDoorB41
import Derived.Test.YtlnpfnglphdaiaaGreatDoorB42
namespace Go.Proofs.YtlnpfnglphdaiaaGreatDoor.rose
open Go Go.RowKit
set_option linter.unusedVariables false
set_option linter.unusedSimpArgs false

/-- How keys of a type lie, and when one may be held against another. -/
structure KeyKind (P : Program) (k : TypeId) (κ : Type) where
  dec : DecidableEq κ
  enc : κ → Value
  ok : World → κ → Prop
  equal : ∀ {w p q}, ok w p → ok w q → (Op.equal k (enc p) (enc q)).run P w = .ok (@decide (p = q) (dec p q)) w
  check : ∀ {w p} (b : Bool), ok w p → (Instr.checkKey b 10000 k (enc p)).run P w = .ok () w
  desc : TypeDesc
  isDesc : P.underlying k = some desc
  now : ∀ p q, Instr.sameNow desc (enc p) (enc q) = none
  bits : ∀ p, Instr.sameBits 10000 (enc p) (enc p) = true

/-- Block b is a map with those entries. -/
def KMap {P : Program} {k : TypeId} {κ : Type} (K : KeyKind P k κ) (w : World) (b : Nat) (m : List (κ × Value)) : Prop :=
  ∃ es clock, w.heap[b]? = some (.map es clock) ∧ es.toList.map (fun e => (e.key, e.val)) = m.map fun p => (K.enc p.1, p.2)

section
variable {P : Program} {k : TypeId} {κ : Type} {K : KeyKind P k κ} {w : World} {e : TypeId}

theorem KMap.made (K : KeyKind P k κ) (w : World) : KMap K (w.alloc (.map #[] 0)) w.heap.size [] := ⟨#[], 0, by show (w.heap.push _)[w.heap.size]? = _; simp, rfl⟩
theorem KMap.on {w' : World} {b : Nat} {m : List (κ × Value)} (h : KMap K w b m) (hb : w'.heap[b]? = w.heap[b]?) : KMap K w' b m := by
  obtain ⟨es, clock, h1, h2⟩ := h
  exact ⟨es, clock, hb.trans h1, h2⟩
theorem KMap.lt {b : Nat} {m : List (κ × Value)} (h : KMap K w b m) : b < w.heap.size := by
  obtain ⟨es, clock, h1, -⟩ := h
  exact (Array.getElem?_eq_some_iff.1 h1).1

/-- The first entry of that key. -/
def kseek (K : KeyKind P k κ) (a : κ) : List (κ × Value) → Nat → Option (Nat × Value)
  | [], _ => none
  | p :: m, i => if @decide (a = p.1) (K.dec a p.1) then some (i, p.2) else kseek K a m (i + 1)

theorem run_kseek {a : κ} (ha : K.ok w a) : ∀ (es : List MapEntry) (m : List (κ × Value)) (n : Nat), es.map (fun e => (e.key, e.val)) = m.map (fun p => (K.enc p.1, p.2)) → (∀ p ∈ m, K.ok w p.1) →
    (Instr.findAsking k (K.enc a) es n).run P w = .ok (kseek K a m n) w
  | [], [], n, _, _ => by simp [Instr.findAsking, kseek]
  | [], p :: m, n, h, _ => by simp at h
  | x :: es, [], n, h, _ => by simp at h
  | x :: es, p :: m, n, h, hm => by
    simp only [List.map_cons, List.cons.injEq, Prod.mk.injEq] at h
    obtain ⟨⟨h1, h2⟩, h3⟩ := h
    have he := K.equal ha (hm p (by simp))
    by_cases hap : @decide (a = p.1) (K.dec a p.1) = true
    · rw [hap] at he
      simp [Instr.findAsking, h1, he, kseek, hap, h2]
    · have hap' : @decide (a = p.1) (K.dec a p.1) = false := by simpa using hap
      rw [hap'] at he
      simp only [Instr.findAsking, h1, Sem.run_bind, he, Result.andThen_ok, kseek, hap', Bool.false_eq_true, if_false]
      exact run_kseek ha es m (n + 1) h3 fun q hq => hm q (by simp [hq])

theorem run_kfind {a : κ} (ha : K.ok w a) (es : List MapEntry) (m : List (κ × Value)) (h : es.map (fun e => (e.key, e.val)) = m.map (fun p => (K.enc p.1, p.2))) (hm : ∀ p ∈ m, K.ok w p.1) :
    (Instr.findKey k (K.enc a) es).run P w = .ok (kseek K a m 0) w := by
  match es, m, h with
  | [], [], _ => simp [Instr.findKey, run_underlying K.isDesc, Instr.findNow, kseek]
  | [], p :: m, h => simp at h
  | x :: es, [], h => simp at h
  | x :: es, p :: m, h =>
    have h1 := run_kseek (w := w) ha (x :: es) (p :: m) 0 h hm
    have hx : x.key = K.enc p.1 := by simp only [List.map_cons, List.cons.injEq, Prod.mk.injEq] at h; exact h.1.1
    simp [Instr.findKey, run_underlying K.isDesc, Instr.findNow, hx, K.now, h1]

theorem kseek_mem {a : κ} : ∀ {m : List (κ × Value)} {n : Nat} {q : Nat × Value}, kseek K a m n = some q → (a, q.2) ∈ m ∧ n ≤ q.1 ∧ m[q.1 - n]? = some (a, q.2)
  | [], n, q, h => by simp [kseek] at h
  | p :: m, n, q, h => by
    unfold kseek at h
    split at h
    · rename_i e
      have e' : a = p.1 := of_decide_eq_true (inst := K.dec a p.1) e
      cases h
      subst e'
      simp
    · obtain ⟨h1, h2, h3⟩ := kseek_mem h
      refine ⟨by simp [h1], by omega, ?_⟩
      rw [show q.1 - n = (q.1 - (n + 1)) + 1 by omega, List.getElem?_cons_succ]
      exact h3

/-- A LOOK-UP. -/
theorem KMap.look {t : TypeId} {b : Nat} {m : List (κ × Value)} (h : KMap K w b m) (ht : P.underlying t = some (.map k e)) {z : Value} (hz : (zeroValue e).run P w = .ok z w) {a : κ} (ha : K.ok w a) (hm : ∀ p ∈ m, K.ok w p.1) :
    ∃ v : Value, (Instr.lookup t (.map (some b)) (K.enc a) false).run P w = .ok v w ∧ (v = z ∨ (a, v) ∈ m) := by
  obtain ⟨es, clock, h1, h2⟩ := h
  have hf := run_kfind (w := w) ha es.toList m h2 hm
  have hg : (getObj b).run P w = .ok (.map es clock) w := by simp [getObj, Sem.run, h1]
  cases hq : kseek K a m 0 with
  | none =>
    rw [hq] at hf
    refine ⟨z, ?_, .inl rfl⟩
    simp [Instr.lookup, run_underlying ht, hg, K.check _ ha, hf, hz]
  | some q =>
    rw [hq] at hf
    refine ⟨q.2, ?_, .inr (kseek_mem hq).1⟩
    simp [Instr.lookup, run_underlying ht, hg, K.check _ ha, hf]

/-- A STORE. -/
theorem KMap.store {t : TypeId} {b : Nat} {m : List (κ × Value)} (h : KMap K w b m) (ht : P.underlying t = some (.map k e)) {a : κ} (ha : K.ok w a) (hm : ∀ p ∈ m, K.ok w p.1) (v : Value) :
    ∃ w' m', (Instr.mapUpdate t (.map (some b)) (K.enc a) v).run P w = .ok () w' ∧ KMap K w' b m' ∧ (∀ p ∈ m', p ∈ m ∨ p = (a, v)) ∧ w.grownBy w' (some b) := by
  obtain ⟨es, clock, h1, h2⟩ := h
  have hf := run_kfind (w := w) ha es.toList m h2 hm
  have hg : (getObj b).run P w = .ok (.map es clock) w := by simp [getObj, Sem.run, h1]
  have hb : b < w.heap.size := (Array.getElem?_eq_some_iff.1 h1).1
  have hs : ∀ o, (setObj b o).run P w = .ok () (w.putObj b o) := fun o => by simp [setObj, Sem.run, World.putObj, h1]
  cases hq : kseek K a m 0 with
  | none =>
    rw [hq] at hf
    refine ⟨w.putObj b (.map (es.push { key := K.enc a, val := v, born := clock }) (clock + 1)), m ++ [(a, v)], ?_, ⟨_, _, World.putObj_heap_same hb, ?_⟩, ?_, grownBy_putObj' w b _⟩
    · simp [Instr.mapUpdate, run_underlying ht, hg, K.check _ ha, hf, hs]
    · simp [h2]
    · intro p hp; simpa using hp
  | some q =>
    rw [hq] at hf
    obtain ⟨hmem, -, hget⟩ := kseek_mem hq
    rw [Nat.sub_zero] at hget
    have hql : q.1 < m.length := (List.getElem?_eq_some_iff.1 hget).1
    have hel : es.toList.length = m.length := by have := congrArg List.length h2; simpa using this
    have hes : q.1 < es.size := by simpa using (by rw [← hel] at hql; simpa using hql : q.1 < es.size)
    have hkey : (es[q.1]).key = K.enc a := by
      have := congrArg (fun l => l[q.1]?) h2
      simp only [List.getElem?_map, hget] at this
      rw [List.getElem?_eq_getElem (by simpa using hes)] at this
      simp at this
      exact this.1
    refine ⟨w.putObj b (.map (es.modify q.1 fun e => { e with key := K.enc a, val := v }) clock), m.set q.1 (a, v), ?_, ⟨_, _, World.putObj_heap_same hb, ?_⟩, ?_, grownBy_putObj' w b _⟩
    · simp [Instr.mapUpdate, run_underlying ht, hg, K.check _ ha, hf, hs, Instr.keyThatStays, hes, hkey, K.bits]
    · apply List.ext_getElem?
      intro j
      have hj := congrArg (fun l => l[j]?) h2
      simp only [List.getElem?_map] at hj ⊢
      simp only [Array.toList_modify, List.getElem?_modify, List.getElem?_set]
      by_cases e : q.1 = j
      · subst e
        simp [hql, hes]
      · simp [e]
        simpa using hj
    · intro p hp
      rcases List.mem_or_eq_of_mem_set hp with h | h
      · exact .inl h
      · exact .inr h
end

/-! ### Keys that are two places -/
section
variable {P : Program} {k pt pe : TypeId}

theorem equalIn_ptr {w : World} {i : TypeInfo} (hp : P.underlying pt = some (.pointer pe)) (hte : P.info? pe = some i) (hsz : i.size ≠ 0) {a b : Addr} (ha : Plain w a.block) (hb : Plain w b.block) (d : Nat) :
    (Op.equalIn (d + 1) pt (.pointer (some a)) (.pointer (some b))).run P w = .ok (decide (a = b)) w := by
  obtain ⟨ca, ta, ha⟩ := ha
  obtain ⟨cb, tb, hb⟩ := hb
  by_cases hab : a = b
  · subst hab
    simp [Op.equalIn, run_underlying hp, sizeOf, typeInfo, hte, run_sameAddr_same]
  · simp [Op.equalIn, run_underlying hp, sizeOf, typeInfo, hte, hsz, run_sameAddr_other w hab ha hb, hab]

/-- A pair of places. -/
def pairEnc (p : Addr × Addr) : Value := .agg #[.pointer (some p.1), .pointer (some p.2)]

theorem two_fields {n1 n2 : String} {fs : Array Field} (hfs : fs.toList.map (fun f => (f.name, f.type, f.offset)) = [(n1, pt, 0), (n2, pt, 1)]) :
    ∃ f1 f2, fs = #[f1, f2] ∧ f1.name = n1 ∧ f1.type = pt ∧ f1.offset = 0 ∧ f2.name = n2 ∧ f2.type = pt ∧ f2.offset = 1 := by
  obtain ⟨l⟩ := fs
  rcases l with _ | ⟨f1, _ | ⟨f2, _ | ⟨f3, r⟩⟩⟩
  · simp at hfs
  · simp at hfs
  · simp only [List.map_cons, List.map_nil, List.cons.injEq, Prod.mk.injEq, and_true] at hfs
    exact ⟨f1, f2, rfl, hfs.1.1, hfs.1.2.1, hfs.1.2.2, hfs.2.1, hfs.2.2.1, hfs.2.2.2⟩
  · simp at hfs

theorem part_ptr {w : World} (hp : P.underlying pt = some (.pointer pe)) (xs : Array Value) (o : Nat) (v : Value) (hx : xs[o]? = some v) : (part pt xs o).run P w = .ok v w := by
  simp [part, isAgg, run_underlying hp, hx]

theorem equal_pair {w : World} {n1 n2 : String} {i : TypeInfo} (fs : Array Field) (hk : P.underlying k = some (.struct fs)) (hfs : fs.toList.map (fun f => (f.name, f.type, f.offset)) = [(n1, pt, 0), (n2, pt, 1)]) (h1 : n1 ≠ "_") (h2 : n2 ≠ "_") (hst : P.stoodInHeld k = false)
    (hp : P.underlying pt = some (.pointer pe)) (hte : P.info? pe = some i) (hsz : i.size ≠ 0) (d : Nat) (p q : Addr × Addr) (a1 : Plain w p.1.block) (a2 : Plain w p.2.block) (b1 : Plain w q.1.block) (b2 : Plain w q.2.block) :
    (Op.equalIn (d + 1 + 1) k (pairEnc p) (pairEnc q)).run P w = .ok (decide (p = q)) w := by
  obtain ⟨f1, f2, rfl, e1, e2, e3, e4, e5, e6⟩ := two_fields hfs
  have hfo : P.fieldsOf k = #[f1, f2] := by simp [Program.fieldsOf, hk]
  rw [pairEnc, pairEnc, run_equalIn_struct w (d + 1) k _ _ (by rw [hk, hfo]) hst, hfo]
  have q1 := equalIn_ptr (w := w) hp hte hsz a1 b1 d
  have q2 := equalIn_ptr (w := w) hp hte hsz a2 b2 d
  have z1 := part_ptr (w := w) hp #[Value.pointer (some p.1), Value.pointer (some p.2)] 0 _ rfl
  have z2 := part_ptr (w := w) hp #[Value.pointer (some p.1), Value.pointer (some p.2)] 1 _ rfl
  have z3 := part_ptr (w := w) hp #[Value.pointer (some q.1), Value.pointer (some q.2)] 0 _ rfl
  have z4 := part_ptr (w := w) hp #[Value.pointer (some q.1), Value.pointer (some q.2)] 1 _ rfl
  obtain ⟨p1, p2⟩ := p
  obtain ⟨r1, r2⟩ := q
  by_cases c1 : p1 = r1 <;> by_cases c2 : p2 = r2 <;> simp_all [Op.eqFields]

theorem check_pair {w : World} {n1 n2 : String} (fs : Array Field) (hk : P.underlying k = some (.struct fs)) (hfs : fs.toList.map (fun f => (f.name, f.type, f.offset)) = [(n1, pt, 0), (n2, pt, 1)])
    (hp : P.underlying pt = some (.pointer pe)) (b : Bool) (d : Nat) (p : Addr × Addr) : (Instr.checkKey b (d + 1 + 1) k (pairEnc p)).run P w = .ok () w := by
  obtain ⟨f1, f2, rfl, e1, e2, e3, e4, e5, e6⟩ := two_fields hfs
  have z1 := part_ptr (w := w) hp #[Value.pointer (some p.1), Value.pointer (some p.2)] 0 _ rfl
  have z2 := part_ptr (w := w) hp #[Value.pointer (some p.1), Value.pointer (some p.2)] 1 _ rfl
  have hc : ∀ v : Value, (Instr.checkKey b (d + 1) pt v).run P w = .ok () w := fun v => by simp [Instr.checkKey, run_underlying hp]
  rw [Instr.checkKey]
  generalize Instr.checkKey b (d + 1) = ck at hc
  simp [run_underlying hk, pairEnc, e1, e2, e3, e4, e5, e6, z1, z2, hc]

def pairKind {n1 n2 : String} {i : TypeInfo} (fs : Array Field) (hk : P.underlying k = some (.struct fs)) (hfs : fs.toList.map (fun f => (f.name, f.type, f.offset)) = [(n1, pt, 0), (n2, pt, 1)]) (h1 : n1 ≠ "_") (h2 : n2 ≠ "_") (hst : P.stoodInHeld k = false)
    (hp : P.underlying pt = some (.pointer pe)) (hte : P.info? pe = some i) (hsz : i.size ≠ 0) : KeyKind P k (Addr × Addr) where
  dec := inferInstance
  enc := pairEnc
  ok := fun w p => Plain w p.1.block ∧ Plain w p.2.block
  equal := fun {w p q} a b => equal_pair fs hk hfs h1 h2 hst hp hte hsz 9998 p q a.1 a.2 b.1 b.2
  check := fun {w p} b _ => check_pair fs hk hfs hp b 9998 p
  desc := .struct fs
  isDesc := hk
  now := fun _ _ => rfl
  bits := fun p => by
    have : ∀ d, Instr.sameBits (d + 1 + 1) (pairEnc p) (pairEnc p) = true := fun d => by simp [pairEnc, Instr.sameBits]
    exact this 9998
end

end Go.Proofs.YtlnpfnglphdaiaaGreatDoor.rose

namespace Go.Proofs.YtlnpfnglphdaiaaGreatDoor.rose
open Go Go.RowKit
set_option linter.unusedVariables false
set_option linter.unusedSimpArgs false

section
variable {P : Program} {k pt pe pu pf : TypeId}

theorem two_fields2 {n1 n2 : String} {fs : Array Field} (hfs : fs.toList.map (fun f => (f.name, f.type, f.offset)) = [(n1, pt, 0), (n2, pu, 1)]) :
    ∃ f1 f2, fs = #[f1, f2] ∧ f1.name = n1 ∧ f1.type = pt ∧ f1.offset = 0 ∧ f2.name = n2 ∧ f2.type = pu ∧ f2.offset = 1 := by
  obtain ⟨l⟩ := fs
  rcases l with _ | ⟨f1, _ | ⟨f2, _ | ⟨f3, r⟩⟩⟩
  · simp at hfs
  · simp at hfs
  · simp only [List.map_cons, List.map_nil, List.cons.injEq, Prod.mk.injEq, and_true] at hfs
    exact ⟨f1, f2, rfl, hfs.1.1, hfs.1.2.1, hfs.1.2.2, hfs.2.1, hfs.2.2.1, hfs.2.2.2⟩
  · simp at hfs

theorem equal_pair2 {w : World} {n1 n2 : String} {i i' : TypeInfo} (fs : Array Field) (hk : P.underlying k = some (.struct fs)) (hfs : fs.toList.map (fun f => (f.name, f.type, f.offset)) = [(n1, pt, 0), (n2, pu, 1)]) (h1 : n1 ≠ "_") (h2 : n2 ≠ "_") (hst : P.stoodInHeld k = false)
    (hp : P.underlying pt = some (.pointer pe)) (hte : P.info? pe = some i) (hsz : i.size ≠ 0) (hp' : P.underlying pu = some (.pointer pf)) (hte' : P.info? pf = some i') (hsz' : i'.size ≠ 0) (d : Nat) (p q : Addr × Addr) (a1 : Plain w p.1.block) (a2 : Plain w p.2.block) (b1 : Plain w q.1.block) (b2 : Plain w q.2.block) :
    (Op.equalIn (d + 1 + 1) k (pairEnc p) (pairEnc q)).run P w = .ok (decide (p = q)) w := by
  obtain ⟨f1, f2, rfl, e1, e2, e3, e4, e5, e6⟩ := two_fields2 hfs
  have hfo : P.fieldsOf k = #[f1, f2] := by simp [Program.fieldsOf, hk]
  rw [pairEnc, pairEnc, run_equalIn_struct w (d + 1) k _ _ (by rw [hk, hfo]) hst, hfo]
  have q1 := equalIn_ptr (w := w) hp hte hsz a1 b1 d
  have q2 := equalIn_ptr (w := w) hp' hte' hsz' a2 b2 d
  have z1 := part_ptr (w := w) hp #[Value.pointer (some p.1), Value.pointer (some p.2)] 0 _ rfl
  have z2 := part_ptr (w := w) hp' #[Value.pointer (some p.1), Value.pointer (some p.2)] 1 _ rfl
  have z3 := part_ptr (w := w) hp #[Value.pointer (some q.1), Value.pointer (some q.2)] 0 _ rfl
  have z4 := part_ptr (w := w) hp' #[Value.pointer (some q.1), Value.pointer (some q.2)] 1 _ rfl
  obtain ⟨p1, p2⟩ := p
  obtain ⟨r1, r2⟩ := q
  by_cases c1 : p1 = r1 <;> by_cases c2 : p2 = r2 <;> simp_all [Op.eqFields]

theorem check_pair2 {w : World} {n1 n2 : String} (fs : Array Field) (hk : P.underlying k = some (.struct fs)) (hfs : fs.toList.map (fun f => (f.name, f.type, f.offset)) = [(n1, pt, 0), (n2, pu, 1)])
    (hp : P.underlying pt = some (.pointer pe)) (hp' : P.underlying pu = some (.pointer pf)) (b : Bool) (d : Nat) (p : Addr × Addr) : (Instr.checkKey b (d + 1 + 1) k (pairEnc p)).run P w = .ok () w := by
  obtain ⟨f1, f2, rfl, e1, e2, e3, e4, e5, e6⟩ := two_fields2 hfs
  have z1 := part_ptr (w := w) hp #[Value.pointer (some p.1), Value.pointer (some p.2)] 0 _ rfl
  have z2 := part_ptr (w := w) hp' #[Value.pointer (some p.1), Value.pointer (some p.2)] 1 _ rfl
  have hc : ∀ v : Value, (Instr.checkKey b (d + 1) pt v).run P w = .ok () w := fun v => by simp [Instr.checkKey, run_underlying hp]
  have hc' : ∀ v : Value, (Instr.checkKey b (d + 1) pu v).run P w = .ok () w := fun v => by simp [Instr.checkKey, run_underlying hp']
  rw [Instr.checkKey]
  generalize Instr.checkKey b (d + 1) = ck at hc hc'
  simp [run_underlying hk, pairEnc, e1, e2, e3, e4, e5, e6, z1, z2, hc, hc']

def pairKind2 {n1 n2 : String} {i i' : TypeInfo} (fs : Array Field) (hk : P.underlying k = some (.struct fs)) (hfs : fs.toList.map (fun f => (f.name, f.type, f.offset)) = [(n1, pt, 0), (n2, pu, 1)]) (h1 : n1 ≠ "_") (h2 : n2 ≠ "_") (hst : P.stoodInHeld k = false)
    (hp : P.underlying pt = some (.pointer pe)) (hte : P.info? pe = some i) (hsz : i.size ≠ 0) (hp' : P.underlying pu = some (.pointer pf)) (hte' : P.info? pf = some i') (hsz' : i'.size ≠ 0) : KeyKind P k (Addr × Addr) where
  dec := inferInstance
  enc := pairEnc
  ok := fun w p => Plain w p.1.block ∧ Plain w p.2.block
  equal := fun {w p q} a b => equal_pair2 fs hk hfs h1 h2 hst hp hte hsz hp' hte' hsz' 9998 p q a.1 a.2 b.1 b.2
  check := fun {w p} b _ => check_pair2 fs hk hfs hp hp' b 9998 p
  desc := .struct fs
  isDesc := hk
  now := fun _ _ => rfl
  bits := fun p => by
    have : ∀ d, Instr.sameBits (d + 1 + 1) (pairEnc p) (pairEnc p) = true := fun d => by simp [pairEnc, Instr.sameBits]
    exact this 9998
end

end Go.Proofs.YtlnpfnglphdaiaaGreatDoor.rose

namespace Go.Proofs.YtlnpfnglphdaiaaGreatDoor.fits
open Go Go.RowKit Go.Proofs.YtlnpfnglphdaiaaGreatDoor.rose Go.Proofs.YtlnpfnglphdaiaaGreatDoor
set_option linter.unusedVariables false
set_option linter.unusedSimpArgs false

theorem nd_sole : ndSh.Sole := (Sh.Sole.pair Sh.int_sole (Sh.Sole.pair Sh.int_sole (Sh.Sole.pair Sh.str_sole Sh.str_sole))).rose
theorem value_sole : valueSh.Sole := (Sh.Sole.pair Sh.int_sole (Sh.Sole.pair Sh.int_sole Sh.str_sole)).rose

mutual
/-- A node and all that is within it. -/
def allT : Nd → List Nd
  | .mk x ks => .mk x ks :: allS ks
def allS : List Nd → List Nd
  | [] => []
  | k :: ks => allT k ++ allS ks
end
theorem allS_one (t : Nd) : allS [t] = allT t := by simp [allS]
theorem all_le (T : Nd) : (allT T).length ≤ node.wt T + 1 := by
  induction T using ind with
  | h x ks ih =>
    have : (allS ks).length ≤ ks.length + node.wts ks := by
      clear x
      induction ks with
      | nil => simp [allS]
      | cons k ks ih2 =>
        have h1 := ih k (by simp)
        have h2 := ih2 fun q hq => ih q (by simp [hq])
        simp [allS, node.wts]
        omega
    simp [allT, node.wt]
    omega

/-- A list of data, and where it lies. -/
abbrev AtD (α : Type) := Option Addr × Nat × List α
def atSh {α : Type} (A : Sh α) : Sh (AtD α) where
  k := 1
  rep := fun w S cs x => cs = [.slice x.1 x.2.2.length x.2.1] ∧ A.slice.rep w S cs x.2.2
  len := by rintro _ _ _ _ ⟨rfl, _⟩; rfl
  on := fun h hb => ⟨h.1, A.slice.on h.2 hb⟩
  mono := fun h hb => ⟨h.1, A.slice.mono h.2 hb⟩
  one := by rintro _ _ _ _ ⟨rfl, _⟩ v hv; simp at hv; subst hv; rfl
abbrev PrD := AtD Nd × AtD ValueD
abbrev prSh : Sh PrD := (atSh ndSh).pair (atSh valueSh)

theorem pr_open {w : World} {S : Nat → Prop} {cs : List Value} {p : PrD} (h : prSh.rep w S cs p) :
    cs = [.slice p.1.1 p.1.2.2.length p.1.2.1, .slice p.2.1 p.2.2.2.length p.2.2.1] ∧ ndSh.slice.rep w S [.slice p.1.1 p.1.2.2.length p.1.2.1] p.1.2.2 ∧ valueSh.slice.rep w S [.slice p.2.1 p.2.2.2.length p.2.2.1] p.2.2.2 := by
  obtain ⟨c1, c2, rfl, ⟨rfl, h1⟩, ⟨rfl, h2⟩⟩ := h
  exact ⟨rfl, h1, h2⟩
theorem pr_shut {w : World} {S : Nat → Prop} {p : PrD} (h1 : ndSh.slice.rep w S [.slice p.1.1 p.1.2.2.length p.1.2.1] p.1.2.2) (h2 : valueSh.slice.rep w S [.slice p.2.1 p.2.2.2.length p.2.2.1] p.2.2.2) :
    prSh.rep w S [.slice p.1.1 p.1.2.2.length p.1.2.1, .slice p.2.1 p.2.2.2.length p.2.2.1] p := ⟨[_], [_], rfl, ⟨rfl, h1⟩, ⟨rfl, h2⟩⟩

def Cov (PS : List PrD) (k1 : Nd) (k2 : ValueD) : Prop := k1.x.1 = 20 → k1.kids = [] ∨ ∃ p ∈ PS, k1.kids <+: p.1.2.2 ∧ k2.kids <+: p.2.2.2
/-- A pattern fits a value but for what is in their kids, and these are met. -/
def One (PS : List PrD) (k1 : Nd) (k2 : ValueD) : Prop := (k1.x.1 = 17 ∨ k1.x.1 = 18) ∨ (Loc k1 k2 ∧ Cov PS k1 k2)
def Done (PS : List PrD) (p : PrD) : Prop := ∀ i (h : i < p.1.2.2.length) (h' : i < p.2.2.2.length), One PS p.1.2.2[i] p.2.2.2[i]
theorem One.more {PS PS' : List PrD} {k1 : Nd} {k2 : ValueD} (h : One PS k1 k2) (hs : ∀ p ∈ PS, p ∈ PS') : One PS' k1 k2 := by
  rcases h with h | ⟨h2, h3⟩
  · exact .inl h
  · refine .inr ⟨h2, fun e => ?_⟩
    rcases h3 e with h | ⟨p, hp, h⟩
    · exact .inl h
    · exact .inr ⟨p, hs p hp, h⟩
theorem Done.more {PS PS' : List PrD} {p : PrD} (h : Done PS p) (hs : ∀ p ∈ PS, p ∈ PS') : Done PS' p := fun i h1 h2 => (h i h1 h2).more hs

theorem pre_get {α : Type} {a b : List α} (h : a <+: b) {j : Nat} (hj : j < a.length) : ∃ hb : j < b.length, b[j] = a[j] := by
  obtain ⟨c, rfl⟩ := h
  exact ⟨by simp; omega, List.getElem_append_left hj⟩

/-- What fits is alike at its head; its kids fit. -/
theorem fits_loc {T : Nd} {V : ValueD} (h : FitsP T V) (h17 : ¬ (T.x.1 = 17 ∨ T.x.1 = 18)) : Loc T V := by
  obtain ⟨x, ks⟩ := T
  obtain ⟨y, vs⟩ := V
  simp only [Rose.x] at h17
  rcases fitsP_iff.1 h with h | h | h | h
  · exact absurd (.inl h) h17
  · exact absurd (.inr h) h17
  · exact .inl h
  · exact .inr ⟨h.1, h.2.1, h.2.2.1, h.2.2.2.1⟩
theorem fits_kids {T : Nd} {V : ValueD} (h : FitsP T V) (h20 : T.x.1 = 20) : ∀ i (h : i < T.kids.length) (h' : i < V.kids.length), FitsP T.kids[i] V.kids[i] := by
  obtain ⟨x, ks⟩ := T
  obtain ⟨y, vs⟩ := V
  simp only [Rose.x] at h20
  rcases fitsP_iff.1 h with h | h | h | h
  · omega
  · omega
  · omega
  · exact h.2.2.2.2

theorem all_fit {PS : List PrD} (h : ∀ p ∈ PS, Done PS p) (T : Nd) : ∀ p ∈ PS, ∀ i (h1 : i < p.1.2.2.length) (h2 : i < p.2.2.2.length), p.1.2.2[i] = T → FitsP T p.2.2.2[i] := by
  induction T using ind with
  | h x ks ih =>
    intro p hp i h1 h2 e
    have d := h p hp i h1 h2
    rw [e] at d
    generalize p.2.2.2[i] = V at d
    obtain ⟨y, vs⟩ := V
    rw [fitsP_iff]
    rcases d with d | ⟨d1, d2⟩
    · simp only [Rose.x] at d
      rcases d with d | d
      · exact .inl d
      · exact .inr (.inl d)
    · rcases d1 with d1 | d1
      · exact .inr (.inr (.inl d1))
      · simp only [Rose.x, Rose.kids] at d1
        refine .inr (.inr (.inr ⟨d1.1, d1.2.1, d1.2.2.1, d1.2.2.2, fun j hj1 hj2 => ?_⟩))
        rcases d2 d1.1 with hnil | ⟨q, hq, q1, q2⟩
        · simp only [Rose.kids] at hnil
          subst hnil
          simp at hj1
        · simp only [Rose.kids] at q1 q2
          obtain ⟨r1, e1⟩ := pre_get q1 hj1
          obtain ⟨r2, e2⟩ := pre_get q2 hj2
          have := ih ks[j] (List.getElem_mem hj1) q hq j r1 r2 e1
          rw [e2] at this
          exact this

/-- How much is still within a row of pairs. -/
def mu : List PrD → Nat
  | [] => 0
  | p :: st => (allS p.1.2.2).length + mu st
theorem mu_snoc (st : List PrD) (p : PrD) : mu (st ++ [p]) = mu st + (allS p.1.2.2).length := by
  induction st with
  | nil => simp [mu]
  | cons q st ih => simp [mu, ih]; omega
theorem mu_len (st : List PrD) (h : ∀ p ∈ st, 0 < p.1.2.2.length) : st.length ≤ mu st := by
  induction st with
  | nil => simp [mu]
  | cons q st ih =>
    have h1 := h q (by simp)
    have h2 := ih fun p hp => h p (by simp [hp])
    have : q.1.2.2.length ≤ (allS q.1.2.2).length := by
      have hst : ∀ l : List Nd, l.length ≤ (allS l).length := fun l => by
        induction l with
        | nil => simp [allS]
        | cons k ks ih => cases k with | mk x q => simp [allS, allT]; omega
      exact hst _
    simp [mu]; omega
theorem allS_drop {us : List Nd} {i : Nat} (h : i < us.length) : (allS (us.drop i)).length = (allS us[i].kids).length + 1 + (allS (us.drop (i + 1))).length := by
  rw [List.drop_eq_getElem_cons h]
  cases hk : us[i] with
  | mk x q => simp [allS, allT, Rose.kids]; omega

section
variable {P : Program} {kt : TypeId}

/-- WHAT HOLDS BETWEEN TWO STEPS: PS are the pairs that were met, st those that are still to be looked at, v the slice of these; W0 is the world in which all of them lie. -/
structure SInv (K : KeyKind P kt (Addr × Addr)) (t : TypeId) (W0 : World) (mb base : Nat) (A : Nd) (B : ValueD) (wr : World) (PS st : List PrD) (v : Value) : Prop where
  size : base ≤ wr.heap.size
  low : ∀ b, b < base → b ≠ mb → wr.heap[b]? = W0.heap[b]?
  rep : ∀ p ∈ PS, prSh.rep W0 (fun b => b < base ∧ b ≠ mb ∧ Plain W0 b) [.slice p.1.1 p.1.2.2.length p.1.2.1, .slice p.2.1 p.2.2.2.length p.2.2.1] p
  len : ∀ p ∈ PS, p.1.2.2.length = p.2.2.2.length ∧ 0 < p.1.2.2.length
  same : FitsP A B → ∀ p ∈ PS, ∀ i (h : i < p.1.2.2.length) (h' : i < p.2.2.2.length), FitsP p.1.2.2[i] p.2.2.2[i]
  first : ∃ p ∈ PS, p.1.2.2 = [A] ∧ p.2.2.2 = [B]
  map : ∃ m, KMap K wr mb m ∧ ∀ e ∈ m, ∃ p ∈ PS, p.1.1 = some e.1.1 ∧ p.2.1 = some e.1.2 ∧ e.2 = .int .i64 p.1.2.2.length
  row : rose.Own prSh t wr base (fun b => b < base ∧ b ≠ mb ∧ Plain W0 b) v st
  sub : ∀ p ∈ st, p ∈ PS

variable {K : KeyKind P kt (Addr × Addr)} {t : TypeId} {W0 wr : World} {mb base : Nat} {A : Nd} {B : ValueD} {PS st : List PrD} {v : Value}

theorem SInv.on {w' : World} (h : SInv K t W0 mb base A B wr PS st v) (hmb : mb < base) (hb : Below wr.heap.size wr w') : SInv K t W0 mb base A B w' PS st v where
  size := Nat.le_trans h.size hb.size
  low := fun b h1 h2 => (hb.block b (Nat.lt_of_lt_of_le h1 h.size)).trans (h.low b h1 h2)
  rep := h.rep
  len := h.len
  same := h.same
  first := h.first
  map := by
    obtain ⟨m, h1, h2⟩ := h.map
    exact ⟨m, h1.on (hb.block mb (Nat.lt_of_lt_of_le hmb h.size)), h2⟩
  row := h.row.on fun b hh => by
    rcases hh with hh | hh
    · exact hb.block b (Nat.lt_of_lt_of_le hh.1 h.size)
    · exact hb.block b hh
  sub := h.sub

/-- Where a pair that was met lies. -/
theorem SInv.plain (h : SInv K t W0 mb base A B wr PS st v) {p : PrD} (hp : p ∈ PS) {a1 a2 : Addr} (e1 : p.1.1 = some a1) (e2 : p.2.1 = some a2) : Plain wr a1.block ∧ Plain wr a2.block := by
  obtain ⟨-, r1, r2⟩ := pr_open (h.rep p hp)
  obtain ⟨hl, hl0⟩ := h.len p hp
  rw [e1] at r1
  rw [e2] at r2
  obtain ⟨_, _, css, e, -, -, hr, -⟩ := node.nds_open r1
  cases e
  obtain ⟨_, _, css', e, -, -, hr', -⟩ := value.values_open r2
  cases e
  obtain ⟨b, o, e, hS, -⟩ := hr 0 hl0
  cases e
  obtain ⟨b', o', e, hS', -⟩ := hr' 0 (by omega)
  cases e
  exact ⟨hS.2.2.on (h.low b hS.1 hS.2.1), hS'.2.2.on (h.low b' hS'.1 hS'.2.1)⟩

/-- The last pair is taken off the row. -/
theorem SInv.pop {p : PrD} {g cap : Nat} (h : SInv K t W0 mb base A B wr PS (st ++ [p]) (.slice (some ⟨g, 0, none⟩) (st.length + 1) cap)) : SInv K t W0 mb base A B wr PS st (.slice (some ⟨g, 0, none⟩) st.length cap) := by
  refine ⟨h.size, h.low, h.rep, h.len, h.same, h.first, h.map, ?_, fun q hq => h.sub q (by simp [hq])⟩
  obtain ⟨css, hown, hr⟩ := h.row
  simp only [List.length_append, List.length_cons, List.length_nil, Nat.zero_add] at hown hr
  have hcl : ∀ i, i < st.length + 1 → (css i).length = 2 := fun i hi => prSh.len (hr i hi)
  refine ⟨css, ?_, fun i hi => ?_⟩
  · have := shrink hown
    rwa [show prSh.k = 2 from rfl, rose.flat_take css st.length hcl] at this
  · have := hr i (by omega)
    rwa [List.getElem_append_left hi] at this

/-- What a slice of pairs looks like. -/
theorem SInv.top {p : PrD} (h : SInv K t W0 mb base A B wr PS (st ++ [p]) v) : ∃ g cap, v = .slice (some ⟨g, 0, none⟩) (st.length + 1) cap ∧ base ≤ g ∧ g < wr.heap.size ∧ st.length + 1 ≤ cap ∧ cap ≤ maxLen ∧
    wr.cell? ⟨g, st.length * 2, none⟩ = some (.slice p.1.1 p.1.2.2.length p.1.2.1) ∧ wr.cell? ⟨g, st.length * 2 + 1, none⟩ = some (.slice p.2.1 p.2.2.2.length p.2.2.1) := by
  obtain ⟨css, hown, hr⟩ := h.row
  simp only [List.length_append, List.length_cons, List.length_nil, Nat.zero_add] at hown hr
  have hcl : ∀ i, i < st.length + 1 → (css i).length = 2 := fun i hi => prSh.len (hr i hi)
  have hrt := hr st.length (by omega)
  rw [List.getElem_append_right (Nat.le_refl _)] at hrt
  simp only [Nat.sub_self, List.getElem_cons_zero] at hrt
  obtain ⟨hcs, -, -⟩ := pr_open hrt
  rcases hown.2 with ⟨_, h0⟩ | ⟨g, cap, cur, h1, h2, h3, h4, h5, h6, h7⟩
  · omega
  · subst h1
    have hg : g < wr.heap.size := (Array.getElem?_eq_some_iff.1 h3).1
    have e0 := own_cell hown hcl (i := st.length) (q := 0) (v := .slice p.1.1 p.1.2.2.length p.1.2.1) (by omega) (by rw [hcs]; rfl)
    have e1 := own_cell hown hcl (i := st.length) (q := 1) (v := .slice p.2.1 p.2.2.2.length p.2.2.1) (by omega) (by rw [hcs]; rfl)
    exact ⟨g, cap, rfl, h2, hg, h4, h5, e0, e1⟩
theorem SInv.bot (h : SInv K t W0 mb base A B wr PS [] v) : ∃ a c, v = .slice a 0 c := by
  obtain ⟨css, hown, -⟩ := h.row
  rcases hown.2 with ⟨h, _⟩ | ⟨g, c, cur, h, _⟩
  · exact ⟨_, _, h⟩
  · exact ⟨_, _, h⟩

/-- A pair is met: the map has it. -/
theorem SInv.meet {w' : World} {p : PrD} (h : SInv K t W0 mb base A B wr PS st v) (hmb : mb < base) (hr : prSh.rep W0 (fun b => b < base ∧ b ≠ mb ∧ Plain W0 b) [.slice p.1.1 p.1.2.2.length p.1.2.1, .slice p.2.1 p.2.2.2.length p.2.2.1] p)
    (hl : p.1.2.2.length = p.2.2.2.length ∧ 0 < p.1.2.2.length) (hs : FitsP A B → ∀ i (h : i < p.1.2.2.length) (h' : i < p.2.2.2.length), FitsP p.1.2.2[i] p.2.2.2[i]) {a1 a2 : Addr} (e1 : p.1.1 = some a1) (e2 : p.2.1 = some a2) {m m' : List ((Addr × Addr) × Value)} (hm : ∀ e ∈ m, ∃ p ∈ PS, p.1.1 = some e.1.1 ∧ p.2.1 = some e.1.2 ∧ e.2 = .int .i64 p.1.2.2.length)
    (hm' : KMap K w' mb m') (hmm : ∀ e ∈ m', e ∈ m ∨ e = ((a1, a2), .int .i64 p.1.2.2.length)) (hg : wr.grownBy w' (some mb)) : SInv K t W0 mb base A B w' (PS ++ [p]) st v := by
  have hz : wr.heap.size ≤ w'.heap.size := hg.size
  have hbk : ∀ b, b < wr.heap.size → b ≠ mb → w'.heap[b]? = wr.heap[b]? := fun b h1 h2 => hg.block b h1 fun e => h2 (Option.some.inj e)
  refine ⟨Nat.le_trans h.size hz, fun b h1 h2 => (hbk b (Nat.lt_of_lt_of_le h1 h.size) h2).trans (h.low b h1 h2), ?_, ?_, ?_, ?_, ⟨m', hm', ?_⟩, ?_, fun q hq => by simp [h.sub q hq]⟩
  · intro q hq
    rcases List.mem_append.1 hq with hq | hq
    · exact h.rep q hq
    · simp only [List.mem_singleton] at hq; subst hq; exact hr
  · intro q hq
    rcases List.mem_append.1 hq with hq | hq
    · exact h.len q hq
    · simp only [List.mem_singleton] at hq; subst hq; exact hl
  · intro e q hq
    rcases List.mem_append.1 hq with hq | hq
    · exact h.same e q hq
    · simp only [List.mem_singleton] at hq; subst hq; exact hs e
  · obtain ⟨q, hq, h'⟩ := h.first
    exact ⟨q, by simp [hq], h'⟩
  · intro e he
    rcases hmm e he with he | rfl
    · obtain ⟨q, hq, h'⟩ := hm e he
      exact ⟨q, by simp [hq], h'⟩
    · exact ⟨p, by simp, e1, e2, rfl⟩
  · obtain ⟨css, ⟨hl2, hv⟩, hr2⟩ := h.row
    refine ⟨css, ⟨hl2, ?_⟩, fun i hi => prSh.on (hr2 i hi) fun b hS => hbk b (Nat.lt_of_lt_of_le hS.1 h.size) hS.2.1⟩
    rcases hv with h0 | ⟨g, cap, cur, h1, h2, h3, h4⟩
    · exact Or.inl h0
    · have hg : g < wr.heap.size := (Array.getElem?_eq_some_iff.1 h3).1
      exact Or.inr ⟨g, cap, cur, h1, h2, by rw [hbk g hg (by omega)]; exact h3, h4⟩

/-- It is laid behind the others. -/
theorem SInv.push {w' : World} {p : PrD} {v' : Value} (h : SInv K t W0 mb base A B wr PS st v) (hmb : mb < base) (hp : p ∈ PS) {css : Nat → List Value} (hv : wr.ownsRow base t 2 v st.length (flat css st.length)) (hcr : ∀ i (h : i < st.length), prSh.rep wr (fun b => b < base ∧ b ≠ mb ∧ Plain W0 b) (css i) st[i])
    (hv' : w'.ownsRow base t 2 v' (st.length + 1) (flat css st.length ++ [.slice p.1.1 p.1.2.2.length p.1.2.1, .slice p.2.1 p.2.2.2.length p.2.2.1])) (hg : wr.grownBy w' v.ownBlock) : SInv K t W0 mb base A B w' PS (st ++ [p]) v' := by
  have hz : wr.heap.size ≤ w'.heap.size := hg.size
  have hown : ∀ b, b < base → v.ownBlock ≠ some b := fun b hb e => by
    have := (World.ownsRow.lt hv b e).1
    omega
  have hbk : ∀ b, b < base → w'.heap[b]? = wr.heap[b]? := fun b h1 => hg.block b (Nat.lt_of_lt_of_le h1 h.size) fun e => hown b h1 e.symm
  refine ⟨Nat.le_trans h.size hz, fun b h1 h2 => (hbk b h1).trans (h.low b h1 h2), h.rep, h.len, h.same, h.first, ?_, ?_, ?_⟩
  · obtain ⟨m, h1, h2⟩ := h.map
    exact ⟨m, h1.on (hbk mb hmb), h2⟩
  · have hrp : prSh.rep wr (fun b => b < base ∧ b ≠ mb ∧ Plain W0 b) [.slice p.1.1 p.1.2.2.length p.1.2.1, .slice p.2.1 p.2.2.2.length p.2.2.1] p := prSh.on (h.rep p hp) fun b hS => h.low b hS.1 hS.2.1
    have := Own.more (A := prSh) (t := t) (xs := st) (ys := [p]) (css := css) (css2 := fun _ => [.slice p.1.1 p.1.2.2.length p.1.2.1, .slice p.2.1 p.2.2.2.length p.2.2.1]) hv hcr
      (fun i hi => by have : i = 0 := by simp at hi; omega
                      subst this; exact hrp) (fun b hS => hS.1) h.size (v' := v') (w' := w') (by rw [show flat (fun _ => [Value.slice p.1.1 p.1.2.2.length p.1.2.1, .slice p.2.1 p.2.2.2.length p.2.2.1]) [p].length = [.slice p.1.1 p.1.2.2.length p.1.2.1, .slice p.2.1 p.2.2.2.length p.2.2.1] by simp [flat]]; exact hv') hg
    exact this
  · intro q hq
    rcases List.mem_append.1 hq with hq | hq
    · exact h.sub q hq
    · simp only [List.mem_singleton] at hq; subst hq; exact hp

/-- All that was met is done: it fits. -/
theorem SInv.fin (h : SInv K t W0 mb base A B wr PS [] v) (hd : ∀ p ∈ PS, Done PS p) : FitsP A B := by
  obtain ⟨p, hp, h1, h2⟩ := h.first
  have := all_fit hd A p hp 0 (by rw [h1]; simp) (by rw [h2]; simp) (by simp [h1])
  simpa only [h2, List.getElem_cons_zero] using this

/-- What was met where two lists lie, at least as long: it covers them. -/
theorem SInv.cov {a1 a2 : Addr} {L : Int} {k1 : Nd} {k2 : ValueD} {c1 c2 : Nat} {m : List ((Addr × Addr) × Value)} (h : SInv K t W0 mb base A B wr PS st v) (hm : ∀ e ∈ m, ∃ p ∈ PS, p.1.1 = some e.1.1 ∧ p.2.1 = some e.1.2 ∧ e.2 = .int .i64 p.1.2.2.length)
    (hL : ((a1, a2), .int .i64 L) ∈ m) (h1 : ndSh.slice.rep W0 (fun b => b < base ∧ b ≠ mb ∧ Plain W0 b) [.slice (some a1) k1.kids.length c1] k1.kids) (h2 : valueSh.slice.rep W0 (fun b => b < base ∧ b ≠ mb ∧ Plain W0 b) [.slice (some a2) k2.kids.length c2] k2.kids)
    (hl : k1.kids.length = k2.kids.length) (hle : (k1.kids.length : Int) ≤ L) : Cov PS k1 k2 := by
  obtain ⟨p, hp, e1, e2, e3⟩ := hm _ hL
  simp only [Value.int.injEq, true_and] at e3
  obtain ⟨-, r1, r2⟩ := pr_open (h.rep p hp)
  have hpl := (h.len p hp).1
  rw [e1] at r1
  rw [e2] at r2
  refine fun _ => .inr ⟨p, hp, ?_, ?_⟩
  · rw [nd_sole.take h1 r1 (by omega)]; exact List.take_prefix _ _
  · rw [value_sole.take h2 r2 (by omega)]; exact List.take_prefix _ _
end

end Go.Proofs.YtlnpfnglphdaiaaGreatDoor.fits
