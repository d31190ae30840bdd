/-
  Keys of a map that are two places of two types.
-/
import Derived.Test.YtndlhmpglpehcaaKeyMap
namespace Go.Proofs.Ytndlhmpglpehcaa.rose
open Go Go.RowKit
set_option linter.unusedVariables false
set_option linter.unusedSimpArgs false

section
variable {P : Program} {k pt pe pu pf : TypeId}

theorem two_fields2 {n1 n2 : String} {fs : Array Field} (hfs : fs.toList.map (fun f => (f.name, f.type, f.offset)) = [(n1, pt, 0), (n2, pu, 1)]) :
    ∃ f1 f2, fs = #[f1, f2] ∧ f1.name = n1 ∧ f1.type = pt ∧ f1.offset = 0 ∧ f2.name = n2 ∧ f2.type = pu ∧ f2.offset = 1 := by
  obtain ⟨l⟩ := fs
  rcases l with _ | ⟨f1, _ | ⟨f2, _ | ⟨f3, r⟩⟩⟩
  · simp at hfs
  · simp at hfs
  · simp only [List.map_cons, List.map_nil, List.cons.injEq, Prod.mk.injEq, and_true] at hfs
    exact ⟨f1, f2, rfl, hfs.1.1, hfs.1.2.1, hfs.1.2.2, hfs.2.1, hfs.2.2.1, hfs.2.2.2⟩
  · simp at hfs

theorem equal_pair2 {w : World} {n1 n2 : String} {i i' : TypeInfo} (fs : Array Field) (hk : P.underlying k = some (.struct fs)) (hfs : fs.toList.map (fun f => (f.name, f.type, f.offset)) = [(n1, pt, 0), (n2, pu, 1)]) (h1 : n1 ≠ "_") (h2 : n2 ≠ "_") (hst : P.stoodInHeld k = false)
    (hp : P.underlying pt = some (.pointer pe)) (hte : P.info? pe = some i) (hsz : i.size ≠ 0) (hp' : P.underlying pu = some (.pointer pf)) (hte' : P.info? pf = some i') (hsz' : i'.size ≠ 0) (d : Nat) (p q : Addr × Addr) (a1 : Plain w p.1.block) (a2 : Plain w p.2.block) (b1 : Plain w q.1.block) (b2 : Plain w q.2.block) :
    (Op.equalIn (d + 1 + 1) k (pairEnc p) (pairEnc q)).run P w = .ok (decide (p = q)) w := by
  obtain ⟨f1, f2, rfl, e1, e2, e3, e4, e5, e6⟩ := two_fields2 hfs
  have hfo : P.fieldsOf k = #[f1, f2] := by simp [Program.fieldsOf, hk]
  rw [pairEnc, pairEnc, run_equalIn_struct w (d + 1) k _ _ (by rw [hk, hfo]) hst, hfo]
  have q1 := equalIn_ptr (w := w) hp hte hsz a1 b1 d
  have q2 := equalIn_ptr (w := w) hp' hte' hsz' a2 b2 d
  have z1 := part_ptr (w := w) hp #[Value.pointer (some p.1), Value.pointer (some p.2)] 0 _ rfl
  have z2 := part_ptr (w := w) hp' #[Value.pointer (some p.1), Value.pointer (some p.2)] 1 _ rfl
  have z3 := part_ptr (w := w) hp #[Value.pointer (some q.1), Value.pointer (some q.2)] 0 _ rfl
  have z4 := part_ptr (w := w) hp' #[Value.pointer (some q.1), Value.pointer (some q.2)] 1 _ rfl
  obtain ⟨p1, p2⟩ := p
  obtain ⟨r1, r2⟩ := q
  by_cases c1 : p1 = r1 <;> by_cases c2 : p2 = r2 <;> simp_all [Op.eqFields]

theorem check_pair2 {w : World} {n1 n2 : String} (fs : Array Field) (hk : P.underlying k = some (.struct fs)) (hfs : fs.toList.map (fun f => (f.name, f.type, f.offset)) = [(n1, pt, 0), (n2, pu, 1)])
    (hp : P.underlying pt = some (.pointer pe)) (hp' : P.underlying pu = some (.pointer pf)) (b : Bool) (d : Nat) (p : Addr × Addr) : (Instr.checkKey b (d + 1 + 1) k (pairEnc p)).run P w = .ok () w := by
  obtain ⟨f1, f2, rfl, e1, e2, e3, e4, e5, e6⟩ := two_fields2 hfs
  have z1 := part_ptr (w := w) hp #[Value.pointer (some p.1), Value.pointer (some p.2)] 0 _ rfl
  have z2 := part_ptr (w := w) hp' #[Value.pointer (some p.1), Value.pointer (some p.2)] 1 _ rfl
  have hc : ∀ v : Value, (Instr.checkKey b (d + 1) pt v).run P w = .ok () w := fun v => by simp [Instr.checkKey, run_underlying hp]
  have hc' : ∀ v : Value, (Instr.checkKey b (d + 1) pu v).run P w = .ok () w := fun v => by simp [Instr.checkKey, run_underlying hp']
  rw [Instr.checkKey]
  generalize Instr.checkKey b (d + 1) = ck at hc hc'
  simp [run_underlying hk, pairEnc, e1, e2, e3, e4, e5, e6, z1, z2, hc, hc']

def pairKind2 {n1 n2 : String} {i i' : TypeInfo} (fs : Array Field) (hk : P.underlying k = some (.struct fs)) (hfs : fs.toList.map (fun f => (f.name, f.type, f.offset)) = [(n1, pt, 0), (n2, pu, 1)]) (h1 : n1 ≠ "_") (h2 : n2 ≠ "_") (hst : P.stoodInHeld k = false)
    (hp : P.underlying pt = some (.pointer pe)) (hte : P.info? pe = some i) (hsz : i.size ≠ 0) (hp' : P.underlying pu = some (.pointer pf)) (hte' : P.info? pf = some i') (hsz' : i'.size ≠ 0) : KeyKind P k (Addr × Addr) where
  dec := inferInstance
  enc := pairEnc
  ok := fun w p => Plain w p.1.block ∧ Plain w p.2.block
  equal := fun {w p q} a b => equal_pair2 fs hk hfs h1 h2 hst hp hte hsz hp' hte' hsz' 9998 p q a.1 a.2 b.1 b.2
  check := fun {w p} b _ => check_pair2 fs hk hfs hp hp' b 9998 p
  desc := .struct fs
  isDesc := hk
  now := fun _ _ => rfl
  bits := fun p => by
    have : ∀ d, Instr.sameBits (d + 1 + 1) (pairEnc p) (pairEnc p) = true := fun d => by simp [pairEnc, Instr.sameBits]
    exact this 9998
end

end Go.Proofs.Ytndlhmpglpehcaa.rose
