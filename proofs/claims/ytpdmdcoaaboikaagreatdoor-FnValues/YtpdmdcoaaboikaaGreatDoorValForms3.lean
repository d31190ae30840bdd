/-
  The program's inside and parts, of forms of types.
-/
import Derived.Test.YtpdmdcoaaboikaaGreatDoorValForms2
namespace Go.Proofs.YtpdmdcoaaboikaaGreatDoor.vt
open Go Go.RowKit Go.Deep Go.Proofs.YtpdmdcoaaboikaaGreatDoor.rose Go.Proofs.YtpdmdcoaaboikaaGreatDoor.value Go.Proofs.YtpdmdcoaaboikaaGreatDoor
set_option linter.unusedVariables false
set_option linter.unusedSimpArgs false

theorem FsOwn.mono {w : World} {base : Nat} {S : Nat → Prop} {N N' : Nat} {v : Value} {fs : List Fm} (h : FsOwn w base S N v fs) (hn : N ≤ N') : FsOwn w base S N' v fs := by
  obtain ⟨us, h1, h2, h3⟩ := h
  exact ⟨us, h1, h2, fun i h h' => (h3 i h h').mono hn⟩

/-- A new row of one form. -/
theorem FsOwn.one {w : World} {base : Nat} {S : Nat → Prop} {N : Nat} {t : TypeId} {u : Value} {f : Fm} (h : FV w S N (.iface t u) f) (hb : base ≤ w.heap.size) (hS : ∀ b, S b → b < w.heap.size) (hN : N ≤ w.heap.size) : FsOwn (w.alloc (.cells #[.iface t u] 70)) base S N (.slice (some ⟨w.heap.size, 0, none⟩) 1 1) [f] := by
  refine ⟨[.iface t u], rfl, ⟨rfl, Or.inr ⟨w.heap.size, 1, #[.iface t u], rfl, hb, alloc_top _ _, Nat.le_refl _, by unfold maxLen; omega, rfl, rfl⟩⟩, fun i hi hi' => ?_⟩
  have : i = 0 := by simp at hi; omega
  subst this
  exact h.on (Stays.of hS hN ((Below.refl _ _).alloc (Nat.le_refl _) _))

theorem ta_no {P : Program} {t s x : TypeId} {fs : Array Field} {v z : Value} (w : World) (hd : P.underlying s = some (.struct fs)) (hz : ∀ w, (zeroValue s).run P w = .ok z w) (hne : t ≠ s) : (Instr.typeAssert (.iface t v) x s true).run P w = .ok (.tuple #[z, .bool false]) w := by
  simp [Instr.typeAssert, run_underlying hd, hne, hz]
theorem ta_yes {P : Program} {t x : TypeId} {fs : Array Field} {v : Value} (w : World) (hd : P.underlying t = some (.struct fs)) : (Instr.typeAssert (.iface t v) x t true).run P w = .ok (.tuple #[v, .bool true]) w := by
  simp [Instr.typeAssert, run_underlying hd]

/-! ### Whether a form unfolds: an assertion to an interface -/
theorem part_nil {α : Type} (p : α → Bool) (l : List α) (h1 : (l.partition p).1 = []) (h2 : (l.partition p).2 = []) : l = [] := by
  rw [List.partition_eq_filter_filter] at h1 h2
  simp only at h1 h2
  cases l with
  | nil => rfl
  | cons a l =>
    by_cases h : p a = true
    · simp [List.filter, h] at h1
    · simp [List.filter, h] at h2
theorem least_some {l : List String} (h : l ≠ []) : (Instr.least l).isSome = true := by
  cases l with
  | nil => exact absurd rfl h
  | cons a l => rfl
theorem missing_some {want : Array (String × TypeId)} {got : Array Method} (h : (want.toList.filter fun (name, sig) => !got.any fun m => m.name == name && m.sig == sig) ≠ []) : ∃ m, Instr.missingMethod want got = some m := by
  apply Option.isSome_iff_exists.1
  unfold Instr.missingMethod
  have hm : ((want.toList.filter fun (name, sig) => !got.any fun m => m.name == name && m.sig == sig).map (·.1)) ≠ [] := fun e => h (by simpa using e)
  revert hm
  generalize ((want.toList.filter fun (name, sig) => !got.any fun m => m.name == name && m.sig == sig).map (·.1)) = l
  intro hm
  dsimp only
  cases h2 : (l.partition fun x => x.contains '.').2 with
  | cons b r => rfl
  | nil =>
    cases h1 : (l.partition fun x => x.contains '.').1 with
    | nil => exact absurd (part_nil _ _ h1 h2) hm
    | cons b r => rfl

theorem ta_if_yes {P : Program} {t s x : TypeId} {want : Array (String × TypeId)} {i : TypeInfo} {v : Value} (w : World) (hd : P.underlying s = some (.interface want)) (hi : P.info? t = some i) (hm : Instr.missingMethod want i.methods = none) : (Instr.typeAssert (.iface t v) x s true).run P w = .ok (.tuple #[.iface t v, .bool true]) w := by
  simp [Instr.typeAssert, run_underlying hd, typeInfo, hi, hm]
theorem ta_if_no {P : Program} {t s x : TypeId} {want : Array (String × TypeId)} {i : TypeInfo} {v z : Value} {m : String} (w : World) (hd : P.underlying s = some (.interface want)) (hi : P.info? t = some i) (hm : Instr.missingMethod want i.methods = some m) (hz : ∀ w, (zeroValue s).run P w = .ok z w) : (Instr.typeAssert (.iface t v) x s true).run P w = .ok (.tuple #[z, .bool false]) w := by
  simp [Instr.typeAssert, run_underlying hd, typeInfo, hi, hm, hz]

def folds (P : Program) (s t : TypeId) : Option Bool := match P.underlying s, P.info? t with
  | some (.interface want), some i => some (decide ((want.toList.filter fun (name, sig) => !i.methods.any fun m => m.name == name && m.sig == sig) = []))
  | _, _ => none
theorem folds_yes {P : Program} {s t x : TypeId} {v : Value} (h : folds P s t = some true) (w : World) : (Instr.typeAssert (.iface t v) x s true).run P w = .ok (.tuple #[.iface t v, .bool true]) w := by
  unfold folds at h
  split at h
  · rename_i want i hd hi
    refine ta_if_yes w hd hi ?_
    unfold Instr.missingMethod
    rw [of_decide_eq_true (Option.some.inj h)]
    rfl
  · cases h
theorem folds_no {P : Program} {s t x : TypeId} {v z : Value} (h : folds P s t = some false) (hz : ∀ w, (zeroValue s).run P w = .ok z w) (w : World) : (Instr.typeAssert (.iface t v) x s true).run P w = .ok (.tuple #[z, .bool false]) w := by
  unfold folds at h
  split at h
  · rename_i want i hd hi
    obtain ⟨m, hm⟩ := missing_some (of_decide_eq_false (Option.some.inj h))
    exact ta_if_no w hd hi hm hz
  · cases h

set_option maxRecDepth 100000 in
theorem folds_valueForm : folds Tryz.prog 151 43 = some true := by kernel_rfl
set_option maxRecDepth 100000 in
theorem folds_conForm : folds Tryz.prog 151 158 = some false := by kernel_rfl

set_option maxRecDepth 100000 in
set_option maxHeartbeats 4000000 in
theorem insideVal (T : ValueD) (v : Value) (w : World) (S : Nat → Prop) (hS : ∀ b, S b → b < w.heap.size) (hw : wt T ≤ 1048576) (ht : Tab w) (h : TF w S v T) :
    Calls Tryz.prog 50 #[v] w fun e w' => ∃ v', e = .returned v' ∧ FsOwn w' w.heap.size S w'.heap.size v' [shape T] ∧ Below w.heap.size w w' := by
  obtain ⟨cs, rfl, hr⟩ := h
  obtain ⟨x0, x1, x2, xk, ak, ck, hT, rfl, g0, g1, g2, gk⟩ := value_open hr
  have HR : Hid (valueSh.rep w S [.int .i64 x0, .int .i64 x1, .string x2, .slice ak xk.length ck] T) := hr
  clear hr hT gk
  have ta_folded := fun (w : World) => folds_yes (x := 70) (v := .agg #[.int .i64 x0, .int .i64 x1, .string x2, .slice ak xk.length ck]) folds_valueForm w
  have hcall := unfoldedVal T [.int .i64 x0, .int .i64 x1, .string x2, .slice ak xk.length ck] w S hS hw ht HR.out
  go_enter Tryz.func50, Tryz.ntmps50
  go_wp2_with fail
  refine hcall.mono ?_
  rintro e w1 ⟨v1, rfl, hv1, hb1⟩
  obtain ⟨t1, u1, rfl⟩ := hv1.iface
  have HV1 : Hid (FV w1 S w1.heap.size (.iface t1 u1) (shape T)) := hv1
  have B1 : Hid (Below w.heap.size w w1) := hb1
  clear hb1 hv1 hcall
  go_wp2
  go_ret
  refine ⟨_, rfl, (FsOwn.one HV1.out B1.out.size (fun b hb => Nat.lt_of_lt_of_le (hS b hb) B1.out.size) (Nat.le_refl _)).mono (by simp), B1.out.alloc B1.out.size _⟩

/-- What is inside a con's brackets. -/
def conF (s : ByteArray) (ks : List ValueD) : List Fm := .plain s.data.toList :: ks.map Fm.val

theorem TFs.at {w : World} {S : Nat → Prop} {N : Nat} {a : Option Addr} {ks : List ValueD} (h : TFs w S N a ks) : ∃ us : List Value, us.length = ks.length ∧ (∀ j u, us[j]? = some u → ∃ g o, a = some ⟨g, o, none⟩ ∧ w.cell? ⟨g, o + j, none⟩ = some u) ∧ ∀ i (h : i < ks.length) (h' : i < us.length), TF w S us[i] ks[i] := by
  have key : ∀ i, i < ks.length → ∃ u : Value, ∃ g o, a = some ⟨g, o, none⟩ ∧ w.cell? ⟨g, o + i, none⟩ = some u ∧ ∀ (h : i < ks.length), TF w S u ks[i] := fun i hi => by
    obtain ⟨g, o, cur, u, h1, h0, h2, h3, h4⟩ := h i hi
    exact ⟨u, g, o, h1, h3, fun _ => h4⟩
  haveI : Inhabited Value := ⟨.nilIface⟩
  obtain ⟨f, hf⟩ := choose_lt key
  refine ⟨(List.range ks.length).map f, by simp, fun j u hj => ?_, fun i hi hi' => ?_⟩
  · have hjl : j < ks.length := by
      have := (List.getElem?_eq_some_iff.1 hj).1
      simpa using this
    obtain ⟨g, o, h1, h2, _⟩ := hf j hjl
    rw [List.getElem?_map, List.getElem?_range hjl] at hj
    simp at hj
    subst hj
    exact ⟨g, o, h1, h2⟩
  · obtain ⟨g, o, h1, h2, h3⟩ := hf i hi
    simpa using h3 hi

end Go.Proofs.YtpdmdcoaaboikaaGreatDoor.vt
