/-
  A map whose keys are held against each other by asking: what is found there, told exactly; keys that are a place (or none) and a number.
-/
import Derived.Test.YtndlhmpglpehcaaKeyMap
import Derived.Test.YtndlhmpglpehcaaPairKey
namespace Go.Proofs.Ytndlhmpglpehcaa.rose
open Go Go.RowKit
set_option linter.unusedVariables false
set_option linter.unusedSimpArgs false

section
variable {P : Program} {k : TypeId} {κ : Type} {K : KeyKind P k κ} {w : World} {e : TypeId}

/-- What is found at a key. -/
def klook (K : KeyKind P k κ) (a : κ) : List (κ × Value) → Option Value
  | [] => none
  | p :: m => if @decide (a = p.1) (K.dec a p.1) then some p.2 else klook K a m

theorem kseek_klook {a : κ} : ∀ (m : List (κ × Value)) (n : Nat), (kseek K a m n).map Prod.snd = klook K a m
  | [], n => rfl
  | p :: m, n => by
    unfold kseek klook
    split
    · rfl
    · exact kseek_klook m (n + 1)

theorem KMap.look1 {t : TypeId} {b : Nat} {m : List (κ × Value)} (h : KMap K w b m) (ht : P.underlying t = some (.map k e)) {z : Value} (hz : (zeroValue e).run P w = .ok z w) {a : κ} (ha : K.ok w a) (hm : ∀ p ∈ m, K.ok w p.1) :
    (Instr.lookup t (.map (some b)) (K.enc a) false).run P w = .ok ((klook K a m).getD z) w := by
  obtain ⟨es, clock, h1, h2⟩ := h
  have hf := run_kfind (w := w) ha es.toList m h2 hm
  have hg : (getObj b).run P w = .ok (.map es clock) w := by simp [getObj, Sem.run, h1]
  rw [← kseek_klook m 0]
  cases hq : kseek K a m 0 with
  | none =>
    rw [hq] at hf
    simp [Instr.lookup, run_underlying ht, hg, K.check _ ha, hf, hz]
  | some q =>
    rw [hq] at hf
    simp [Instr.lookup, run_underlying ht, hg, K.check _ ha, hf]

theorem KMap.look2 {t : TypeId} {b : Nat} {m : List (κ × Value)} (h : KMap K w b m) (ht : P.underlying t = some (.map k e)) {z : Value} (hz : (zeroValue e).run P w = .ok z w) {a : κ} (ha : K.ok w a) (hm : ∀ p ∈ m, K.ok w p.1) :
    (Instr.lookup t (.map (some b)) (K.enc a) true).run P w = .ok (.tuple #[(klook K a m).getD z, .bool (klook K a m).isSome]) w := by
  obtain ⟨es, clock, h1, h2⟩ := h
  have hf := run_kfind (w := w) ha es.toList m h2 hm
  have hg : (getObj b).run P w = .ok (.map es clock) w := by simp [getObj, Sem.run, h1]
  rw [← kseek_klook m 0]
  cases hq : kseek K a m 0 with
  | none =>
    rw [hq] at hf
    simp [Instr.lookup, run_underlying ht, hg, K.check _ ha, hf, hz]
  | some q =>
    rw [hq] at hf
    simp [Instr.lookup, run_underlying ht, hg, K.check _ ha, hf]

theorem klook_snoc {a x : κ} {v : Value} : ∀ {m : List (κ × Value)}, klook K a m = none → klook K x (m ++ [(a, v)]) = if @decide (x = a) (K.dec x a) then some v else klook K x m
  | [], _ => by simp [klook]
  | p :: m, h => by
    unfold klook at h
    split at h
    · cases h
    · rename_i hap
      have ih := klook_snoc (x := x) (v := v) h
      rw [List.cons_append]
      unfold klook
      by_cases hx : x = p.1
      · subst hx
        have h1 : @decide (p.1 = p.1) (K.dec p.1 p.1) = true := by simp
        have h2 : ¬ p.1 = a := fun e => hap (by simp [← e])
        rw [if_pos h1, if_neg (by simpa using h2), if_pos h1]
      · have hx' : ¬ (@decide (x = p.1) (K.dec x p.1) = true) := by simpa using hx
        rw [if_neg hx', ih, if_neg hx']

theorem klook_set {a x : κ} {v : Value} : ∀ {m : List (κ × Value)} {n : Nat} {q : Nat × Value}, kseek K a m n = some q → klook K x (m.set (q.1 - n) (a, v)) = if @decide (x = a) (K.dec x a) then some v else klook K x m
  | [], n, q, h => by simp [kseek] at h
  | p :: m, n, q, h => by
    have h0 := h
    unfold kseek at h
    split at h
    · rename_i hap
      have e' : a = p.1 := of_decide_eq_true (inst := K.dec a p.1) hap
      cases h
      simp only [Nat.sub_self, List.set_cons_zero]
      unfold klook
      by_cases hx : x = a
      · rw [if_pos (by simpa using hx), if_pos (by simpa using hx)]
      · rw [if_neg (by simpa using hx), if_neg (by simpa using hx), if_neg (by rw [← e']; simpa using hx)]
    · rename_i hap
      have ih := klook_set (x := x) (v := v) h
      have hle := (kseek_mem h).2.1
      rw [show q.1 - n = (q.1 - (n + 1)) + 1 by omega, List.set_cons_succ]
      unfold klook
      by_cases hx : x = p.1
      · subst hx
        have h1 : @decide (p.1 = p.1) (K.dec p.1 p.1) = true := by simp
        have h2 : ¬ p.1 = a := fun e => hap (by simp [← e])
        rw [if_pos h1, if_neg (by simpa using h2), if_pos h1]
      · have hx' : ¬ (@decide (x = p.1) (K.dec x p.1) = true) := by simpa using hx
        rw [if_neg hx', ih, if_neg hx']

/-- A store, told exactly. -/
theorem KMap.store2 {t : TypeId} {b : Nat} {m : List (κ × Value)} (h : KMap K w b m) (ht : P.underlying t = some (.map k e)) {a : κ} (ha : K.ok w a) (hm : ∀ p ∈ m, K.ok w p.1) (v : Value) :
    ∃ w' m', (Instr.mapUpdate t (.map (some b)) (K.enc a) v).run P w = .ok () w' ∧ KMap K w' b m' ∧ (∀ p ∈ m', p ∈ m ∨ p = (a, v)) ∧ (∀ x, klook K x m' = if @decide (x = a) (K.dec x a) then some v else klook K x m) ∧ w.grownBy w' (some b) := by
  obtain ⟨es, clock, h1, h2⟩ := h
  have hf := run_kfind (w := w) ha es.toList m h2 hm
  have hg : (getObj b).run P w = .ok (.map es clock) w := by simp [getObj, Sem.run, h1]
  have hb : b < w.heap.size := (Array.getElem?_eq_some_iff.1 h1).1
  have hs : ∀ o, (setObj b o).run P w = .ok () (w.putObj b o) := fun o => by simp [setObj, Sem.run, World.putObj, h1]
  cases hq : kseek K a m 0 with
  | none =>
    rw [hq] at hf
    have hk : klook K a m = none := by rw [← kseek_klook m 0, hq]; rfl
    refine ⟨w.putObj b (.map (es.push { key := K.enc a, val := v, born := clock }) (clock + 1)), m ++ [(a, v)], ?_, ⟨_, _, World.putObj_heap_same hb, ?_⟩, ?_, fun x => klook_snoc hk, grownBy_putObj' w b _⟩
    · simp [Instr.mapUpdate, run_underlying ht, hg, K.check _ ha, hf, hs]
    · simp [h2]
    · intro p hp; simpa using hp
  | some q =>
    rw [hq] at hf
    obtain ⟨hmem, -, hget⟩ := kseek_mem hq
    rw [Nat.sub_zero] at hget
    have hql : q.1 < m.length := (List.getElem?_eq_some_iff.1 hget).1
    have hel : es.toList.length = m.length := by have := congrArg List.length h2; simpa using this
    have hes : q.1 < es.size := by simpa using (by rw [← hel] at hql; simpa using hql : q.1 < es.size)
    have hkey : (es[q.1]).key = K.enc a := by
      have := congrArg (fun l => l[q.1]?) h2
      simp only [List.getElem?_map, hget] at this
      rw [List.getElem?_eq_getElem (by simpa using hes)] at this
      simp at this
      exact this.1
    refine ⟨w.putObj b (.map (es.modify q.1 fun e => { e with key := K.enc a, val := v }) clock), m.set q.1 (a, v), ?_, ⟨_, _, World.putObj_heap_same hb, ?_⟩, ?_, fun x => by have := klook_set (x := x) (v := v) hq; rwa [Nat.sub_zero] at this, grownBy_putObj' w b _⟩
    · simp [Instr.mapUpdate, run_underlying ht, hg, K.check _ ha, hf, hs, Instr.keyThatStays, hes, hkey, K.bits]
    · apply List.ext_getElem?
      intro j
      have hj := congrArg (fun l => l[j]?) h2
      simp only [List.getElem?_map] at hj ⊢
      simp only [Array.toList_modify, List.getElem?_modify, List.getElem?_set]
      by_cases e : q.1 = j
      · subst e
        simp [hql, hes]
      · simp [e]
        simpa using hj
    · intro p hp
      rcases List.mem_or_eq_of_mem_set hp with h | h
      · exact .inl h
      · exact .inr h
end

/-! ### Keys that are a place, or none, and a number -/
section
variable {P : Program} {k pt pe pu : TypeId}

theorem equalIn_ptrO {w : World} {i : TypeInfo} (hp : P.underlying pt = some (.pointer pe)) (hte : P.info? pe = some i) (hsz : i.size ≠ 0) {a b : Option Addr} (ha : ∀ x, a = some x → Plain w x.block) (hb : ∀ x, b = some x → Plain w x.block) (d : Nat) :
    (Op.equalIn (d + 1) pt (.pointer a) (.pointer b)).run P w = .ok (decide (a = b)) w := by
  cases a with
  | none => cases b <;> simp [Op.equalIn, run_underlying hp]
  | some a =>
    cases b with
    | none => simp [Op.equalIn, run_underlying hp]
    | some b => rw [equalIn_ptr hp hte hsz (ha a rfl) (hb b rfl) d]; simp

theorem equalIn_i64 {w : World} (hu : P.underlying pu = some (.int .i64)) (x y : Int) (d : Nat) : (Op.equalIn (d + 1) pu (.int .i64 x) (.int .i64 y)).run P w = .ok (decide (x = y)) w := by
  simp [Op.equalIn, run_underlying hu]
  by_cases h : x = y <;> simp [h]

theorem part_i64 {w : World} (hu : P.underlying pu = some (.int .i64)) (xs : Array Value) (o : Nat) (v : Value) (hx : xs[o]? = some v) : (part pu xs o).run P w = .ok v w := by
  simp [part, isAgg, run_underlying hu, hx]

/-- A place, or none, and a number. -/
def spotEnc (p : Option Addr × Int) : Value := .agg #[.pointer p.1, .int .i64 p.2]

theorem equal_spot {w : World} {n1 n2 : String} {i : TypeInfo} (fs : Array Field) (hk : P.underlying k = some (.struct fs)) (hfs : fs.toList.map (fun f => (f.name, f.type, f.offset)) = [(n1, pt, 0), (n2, pu, 1)]) (h1 : n1 ≠ "_") (h2 : n2 ≠ "_") (hst : P.stoodInHeld k = false)
    (hp : P.underlying pt = some (.pointer pe)) (hte : P.info? pe = some i) (hsz : i.size ≠ 0) (hu : P.underlying pu = some (.int .i64)) (d : Nat) (p q : Option Addr × Int) (a1 : ∀ x, p.1 = some x → Plain w x.block) (b1 : ∀ x, q.1 = some x → Plain w x.block) :
    (Op.equalIn (d + 1 + 1) k (spotEnc p) (spotEnc q)).run P w = .ok (decide (p = q)) w := by
  obtain ⟨f1, f2, rfl, e1, e2, e3, e4, e5, e6⟩ := two_fields2 hfs
  have hfo : P.fieldsOf k = #[f1, f2] := by simp [Program.fieldsOf, hk]
  rw [spotEnc, spotEnc, run_equalIn_struct w (d + 1) k _ _ (by rw [hk, hfo]) hst, hfo]
  have q1 := equalIn_ptrO (w := w) hp hte hsz a1 b1 d
  have q2 := equalIn_i64 (w := w) hu p.2 q.2 d
  have z1 : (part pt #[Value.pointer p.1, Value.int .i64 p.2] 0).run P w = .ok (.pointer p.1) w := part_ptr (w := w) hp _ 0 _ rfl
  have z2 : (part pu #[Value.pointer p.1, Value.int .i64 p.2] 1).run P w = .ok (.int .i64 p.2) w := part_i64 (w := w) hu _ 1 _ rfl
  have z3 : (part pt #[Value.pointer q.1, Value.int .i64 q.2] 0).run P w = .ok (.pointer q.1) w := part_ptr (w := w) hp _ 0 _ rfl
  have z4 : (part pu #[Value.pointer q.1, Value.int .i64 q.2] 1).run P w = .ok (.int .i64 q.2) w := part_i64 (w := w) hu _ 1 _ rfl
  obtain ⟨p1, p2⟩ := p
  obtain ⟨r1, r2⟩ := q
  by_cases c1 : p1 = r1 <;> by_cases c2 : p2 = r2 <;> simp_all [Op.eqFields]

theorem check_spot {w : World} {n1 n2 : String} (fs : Array Field) (hk : P.underlying k = some (.struct fs)) (hfs : fs.toList.map (fun f => (f.name, f.type, f.offset)) = [(n1, pt, 0), (n2, pu, 1)])
    (hp : P.underlying pt = some (.pointer pe)) (hu : P.underlying pu = some (.int .i64)) (b : Bool) (d : Nat) (p : Option Addr × Int) : (Instr.checkKey b (d + 1 + 1) k (spotEnc p)).run P w = .ok () w := by
  obtain ⟨f1, f2, rfl, e1, e2, e3, e4, e5, e6⟩ := two_fields2 hfs
  have z1 := part_ptr (w := w) hp #[Value.pointer p.1, Value.int .i64 p.2] 0 _ rfl
  have z2 := part_i64 (w := w) hu #[Value.pointer p.1, Value.int .i64 p.2] 1 _ rfl
  have hc : ∀ v : Value, (Instr.checkKey b (d + 1) pt v).run P w = .ok () w := fun v => by simp [Instr.checkKey, run_underlying hp]
  have hc' : ∀ v : Value, (Instr.checkKey b (d + 1) pu v).run P w = .ok () w := fun v => by simp [Instr.checkKey, run_underlying hu]
  rw [Instr.checkKey]
  generalize Instr.checkKey b (d + 1) = ck at hc hc'
  simp [run_underlying hk, spotEnc, e1, e2, e3, e4, e5, e6, z1, z2, hc, hc']

def spotKind {n1 n2 : String} {i : TypeInfo} (fs : Array Field) (hk : P.underlying k = some (.struct fs)) (hfs : fs.toList.map (fun f => (f.name, f.type, f.offset)) = [(n1, pt, 0), (n2, pu, 1)]) (h1 : n1 ≠ "_") (h2 : n2 ≠ "_") (hst : P.stoodInHeld k = false)
    (hp : P.underlying pt = some (.pointer pe)) (hte : P.info? pe = some i) (hsz : i.size ≠ 0) (hu : P.underlying pu = some (.int .i64)) : KeyKind P k (Option Addr × Int) where
  dec := inferInstance
  enc := spotEnc
  ok := fun w p => ∀ x, p.1 = some x → Plain w x.block
  equal := fun {w p q} a b => equal_spot fs hk hfs h1 h2 hst hp hte hsz hu 9998 p q a b
  check := fun {w p} b _ => check_spot fs hk hfs hp hu b 9998 p
  desc := .struct fs
  isDesc := hk
  now := fun _ _ => rfl
  bits := fun p => by
    have : ∀ d, Instr.sameBits (d + 1 + 1) (spotEnc p) (spotEnc p) = true := fun d => by simp [spotEnc, Instr.sameBits]
    exact this 9998
end

end Go.Proofs.Ytndlhmpglpehcaa.rose
