/-
  The program's inside and parts, of forms of types.
  The program's inside, of a con's form.
  The program's parts, of forms of types.
-/
import Derived.Handy
import Derived.Test.YtlnpfnglphdaiaaGreatDoorB1
import Derived.Test.YtlnpfnglphdaiaaGreatDoorB2
import Derived.Test.YtlnpfnglphdaiaaGreatDoorB3
import Derived.Test.YtlnpfnglphdaiaaGreatDoorB4
import Derived.Test.YtlnpfnglphdaiaaGreatDoorB5
import Derived.Test.YtlnpfnglphdaiaaGreatDoorB6
import Derived.Test.YtlnpfnglphdaiaaGreatDoorB7
import Derived.Test.YtlnpfnglphdaiaaGreatDoorB8
import Derived.Test.YtlnpfnglphdaiaaGreatDoorB9
import Derived.Test.YtlnpfnglphdaiaaGreatDoorB10
import Derived.Test.YtlnpfnglphdaiaaGreatDoorB11
import Derived.Test.YtlnpfnglphdaiaaGreatDoorB12
import Derived.Test.YtlnpfnglphdaiaaGreatDoorB13
import Derived.Test.YtlnpfnglphdaiaaGreatDoorB14
import Derived.Test.YtlnpfnglphdaiaaGreatDoorB15
import Derived.Test.YtlnpfnglphdaiaaGreatDoorB16
import Derived.Test.YtlnpfnglphdaiaaGreatDoorB17
import Derived.Test.YtlnpfnglphdaiaaGreatDoorB18
import Derived.Test.YtlnpfnglphdaiaaGreatDoorB19
import Derived.Test.YtlnpfnglphdaiaaGreatDoorB20
import Derived.Test.YtlnpfnglphdaiaaGreatDoorB21
import Derived.Test.YtlnpfnglphdaiaaGreatDoorB22
import Derived.Test.YtlnpfnglphdaiaaGreatDoorB23
import Derived.Test.YtlnpfnglphdaiaaGreatDoorB24
import Derived.Test.YtlnpfnglphdaiaaGreatDoorB25
import Derived.Test.YtlnpfnglphdaiaaGreatDoorB26
import Derived.Test.YtlnpfnglphdaiaaGreatDoorB27
import Derived.Test.YtlnpfnglphdaiaaGreatDoorB28
import Derived.Test.YtlnpfnglphdaiaaGreatDoorB29
import Derived.Test.YtlnpfnglphdaiaaGreatDoorB30
import Derived.Test.YtlnpfnglphdaiaaGreatDoorB31
import Derived.Test.YtlnpfnglphdaiaaGreatDoorB32
import Derived.Test.YtlnpfnglphdaiaaGreatDoorB33
import Derived.Test.YtlnpfnglphdaiaaGreatDoorB34
namespace Go.Proofs.YtlnpfnglphdaiaaGreatDoor.vt
open Go Go.RowKit Go.Deep Go.Proofs.YtlnpfnglphdaiaaGreatDoor.rose Go.Proofs.YtlnpfnglphdaiaaGreatDoor.value Go.Proofs.YtlnpfnglphdaiaaGreatDoor
set_option linter.unusedVariables false
set_option linter.unusedSimpArgs false

theorem FsOwn.mono {w : World} {base : Nat} {S : Nat → Prop} {N N' : Nat} {v : Value} {fs : List Fm} (h : FsOwn w base S N v fs) (hn : N ≤ N') : FsOwn w base S N' v fs := by
  obtain ⟨us, h1, h2, h3⟩ := h
  exact ⟨us, h1, h2, fun i h h' => (h3 i h h').mono hn⟩

/-- A new row of one form. -/
theorem FsOwn.one {w : World} {base : Nat} {S : Nat → Prop} {N : Nat} {t : TypeId} {u : Value} {f : Fm} (h : FV w S N (.iface t u) f) (hb : base ≤ w.heap.size) (hS : ∀ b, S b → b < w.heap.size) (hN : N ≤ w.heap.size) : FsOwn (w.alloc (.cells #[.iface t u] 70)) base S N (.slice (some ⟨w.heap.size, 0, none⟩) 1 1) [f] := by
  refine ⟨[.iface t u], rfl, ⟨rfl, Or.inr ⟨w.heap.size, 1, #[.iface t u], rfl, hb, alloc_top _ _, Nat.le_refl _, by unfold maxLen; omega, rfl, rfl⟩⟩, fun i hi hi' => ?_⟩
  have : i = 0 := by simp at hi; omega
  subst this
  exact h.on (Stays.of hS hN ((Below.refl _ _).alloc (Nat.le_refl _) _))

theorem ta_no {P : Program} {t s x : TypeId} {fs : Array Field} {v z : Value} (w : World) (hd : P.underlying s = some (.struct fs)) (hz : ∀ w, (zeroValue s).run P w = .ok z w) (hne : t ≠ s) : (Instr.typeAssert (.iface t v) x s true).run P w = .ok (.tuple #[z, .bool false]) w := by
  simp [Instr.typeAssert, run_underlying hd, hne, hz]
theorem ta_yes {P : Program} {t x : TypeId} {fs : Array Field} {v : Value} (w : World) (hd : P.underlying t = some (.struct fs)) : (Instr.typeAssert (.iface t v) x t true).run P w = .ok (.tuple #[v, .bool true]) w := by
  simp [Instr.typeAssert, run_underlying hd]

/-! ### Whether a form unfolds: an assertion to an interface -/
theorem part_nil {α : Type} (p : α → Bool) (l : List α) (h1 : (l.partition p).1 = []) (h2 : (l.partition p).2 = []) : l = [] := by
  rw [List.partition_eq_filter_filter] at h1 h2
  simp only at h1 h2
  cases l with
  | nil => rfl
  | cons a l =>
    by_cases h : p a = true
    · simp [List.filter, h] at h1
    · simp [List.filter, h] at h2
theorem least_some {l : List String} (h : l ≠ []) : (Instr.least l).isSome = true := by
  cases l with
  | nil => exact absurd rfl h
  | cons a l => rfl
theorem missing_some {want : Array (String × TypeId)} {got : Array Method} (h : (want.toList.filter fun (name, sig) => !got.any fun m => m.name == name && m.sig == sig) ≠ []) : ∃ m, Instr.missingMethod want got = some m := by
  apply Option.isSome_iff_exists.1
  unfold Instr.missingMethod
  have hm : ((want.toList.filter fun (name, sig) => !got.any fun m => m.name == name && m.sig == sig).map (·.1)) ≠ [] := fun e => h (by simpa using e)
  revert hm
  generalize ((want.toList.filter fun (name, sig) => !got.any fun m => m.name == name && m.sig == sig).map (·.1)) = l
  intro hm
  dsimp only
  cases h2 : (l.partition fun x => x.contains '.').2 with
  | cons b r => rfl
  | nil =>
    cases h1 : (l.partition fun x => x.contains '.').1 with
    | nil => exact absurd (part_nil _ _ h1 h2) hm
    | cons b r => rfl

theorem ta_if_yes {P : Program} {t s x : TypeId} {want : Array (String × TypeId)} {i : TypeInfo} {v : Value} (w : World) (hd : P.underlying s = some (.interface want)) (hi : P.info? t = some i) (hm : Instr.missingMethod want i.methods = none) : (Instr.typeAssert (.iface t v) x s true).run P w = .ok (.tuple #[.iface t v, .bool true]) w := by
  simp [Instr.typeAssert, run_underlying hd, typeInfo, hi, hm]
theorem ta_if_no {P : Program} {t s x : TypeId} {want : Array (String × TypeId)} {i : TypeInfo} {v z : Value} {m : String} (w : World) (hd : P.underlying s = some (.interface want)) (hi : P.info? t = some i) (hm : Instr.missingMethod want i.methods = some m) (hz : ∀ w, (zeroValue s).run P w = .ok z w) : (Instr.typeAssert (.iface t v) x s true).run P w = .ok (.tuple #[z, .bool false]) w := by
  simp [Instr.typeAssert, run_underlying hd, typeInfo, hi, hm, hz]

def folds (P : Program) (s t : TypeId) : Option Bool := match P.underlying s, P.info? t with
  | some (.interface want), some i => some (decide ((want.toList.filter fun (name, sig) => !i.methods.any fun m => m.name == name && m.sig == sig) = []))
  | _, _ => none
theorem folds_yes {P : Program} {s t x : TypeId} {v : Value} (h : folds P s t = some true) (w : World) : (Instr.typeAssert (.iface t v) x s true).run P w = .ok (.tuple #[.iface t v, .bool true]) w := by
  unfold folds at h
  split at h
  · rename_i want i hd hi
    refine ta_if_yes w hd hi ?_
    unfold Instr.missingMethod
    rw [of_decide_eq_true (Option.some.inj h)]
    rfl
  · cases h
theorem folds_no {P : Program} {s t x : TypeId} {v z : Value} (h : folds P s t = some false) (hz : ∀ w, (zeroValue s).run P w = .ok z w) (w : World) : (Instr.typeAssert (.iface t v) x s true).run P w = .ok (.tuple #[z, .bool false]) w := by
  unfold folds at h
  split at h
  · rename_i want i hd hi
    obtain ⟨m, hm⟩ := missing_some (of_decide_eq_false (Option.some.inj h))
    exact ta_if_no w hd hi hm hz
  · cases h

set_option maxRecDepth 100000 in
theorem folds_valueForm : folds Tryz.prog 151 43 = some true := by kernel_rfl
set_option maxRecDepth 100000 in
theorem folds_conForm : folds Tryz.prog 151 158 = some false := by kernel_rfl

set_option maxRecDepth 100000 in
set_option maxHeartbeats 4000000 in
theorem insideVal (T : ValueD) (v : Value) (w : World) (S : Nat → Prop) (hS : ∀ b, S b → b < w.heap.size) (hw : wt T ≤ 1048576) (ht : Tab w) (h : TF w S v T) :
    Calls Tryz.prog 50 #[v] w fun e w' => ∃ v', e = .returned v' ∧ FsOwn w' w.heap.size S w'.heap.size v' [shape T] ∧ Below w.heap.size w w' := by
  obtain ⟨cs, rfl, hr⟩ := h
  obtain ⟨x0, x1, x2, xk, ak, ck, hT, rfl, g0, g1, g2, gk⟩ := value_open hr
  have HR : Hid (valueSh.rep w S [.int .i64 x0, .int .i64 x1, .string x2, .slice ak xk.length ck] T) := hr
  clear hr hT gk
  have ta_folded := fun (w : World) => folds_yes (x := 70) (v := .agg #[.int .i64 x0, .int .i64 x1, .string x2, .slice ak xk.length ck]) folds_valueForm w
  have hcall := unfoldedVal T [.int .i64 x0, .int .i64 x1, .string x2, .slice ak xk.length ck] w S hS hw ht HR.out
  go_enter Tryz.func50, Tryz.ntmps50
  go_wp2_with fail
  refine hcall.mono ?_
  rintro e w1 ⟨v1, rfl, hv1, hb1⟩
  obtain ⟨t1, u1, rfl⟩ := hv1.iface
  have HV1 : Hid (FV w1 S w1.heap.size (.iface t1 u1) (shape T)) := hv1
  have B1 : Hid (Below w.heap.size w w1) := hb1
  clear hb1 hv1 hcall
  go_wp2
  go_ret
  refine ⟨_, rfl, (FsOwn.one HV1.out B1.out.size (fun b hb => Nat.lt_of_lt_of_le (hS b hb) B1.out.size) (Nat.le_refl _)).mono (by simp), B1.out.alloc B1.out.size _⟩

/-- What is inside a con's brackets. -/
def conF (s : ByteArray) (ks : List ValueD) : List Fm := .plain s.data.toList :: ks.map Fm.val

theorem TFs.at {w : World} {S : Nat → Prop} {N : Nat} {a : Option Addr} {ks : List ValueD} (h : TFs w S N a ks) : ∃ us : List Value, us.length = ks.length ∧ (∀ j u, us[j]? = some u → ∃ g o, a = some ⟨g, o, none⟩ ∧ w.cell? ⟨g, o + j, none⟩ = some u) ∧ ∀ i (h : i < ks.length) (h' : i < us.length), TF w S us[i] ks[i] := by
  have key : ∀ i, i < ks.length → ∃ u : Value, ∃ g o, a = some ⟨g, o, none⟩ ∧ w.cell? ⟨g, o + i, none⟩ = some u ∧ ∀ (h : i < ks.length), TF w S u ks[i] := fun i hi => by
    obtain ⟨g, o, cur, u, h1, h0, h2, h3, h4⟩ := h i hi
    exact ⟨u, g, o, h1, h3, fun _ => h4⟩
  haveI : Inhabited Value := ⟨.nilIface⟩
  obtain ⟨f, hf⟩ := choose_lt key
  refine ⟨(List.range ks.length).map f, by simp, fun j u hj => ?_, fun i hi hi' => ?_⟩
  · have hjl : j < ks.length := by
      have := (List.getElem?_eq_some_iff.1 hj).1
      simpa using this
    obtain ⟨g, o, h1, h2, _⟩ := hf j hjl
    rw [List.getElem?_map, List.getElem?_range hjl] at hj
    simp at hj
    subst hj
    exact ⟨g, o, h1, h2⟩
  · obtain ⟨g, o, h1, h2, h3⟩ := hf i hi
    simpa using h3 hi

end Go.Proofs.YtlnpfnglphdaiaaGreatDoor.vt

namespace Go.Proofs.YtlnpfnglphdaiaaGreatDoor.vt
open Go Go.RowKit Go.Deep Go.Proofs.YtlnpfnglphdaiaaGreatDoor.rose Go.Proofs.YtlnpfnglphdaiaaGreatDoor.value Go.Proofs.YtlnpfnglphdaiaaGreatDoor
set_option linter.unusedVariables false
set_option linter.unusedSimpArgs false

set_option maxRecDepth 100000 in
set_option maxHeartbeats 4000000 in
theorem insideCon_none (s : ByteArray) (w : World) (S : Nat → Prop) (hS : ∀ b, S b → b < w.heap.size) :
    Calls Tryz.prog 50 #[.iface 158 (.agg #[.string s, .slice none 0 0])] w fun e w' => ∃ v', e = .returned v' ∧ FsOwn w' w.heap.size S w'.heap.size v' (joinF (conF s [])) ∧ Below w.heap.size w w' := by
  obtain ⟨ti, hti, hzz⟩ := Option.map_eq_some_iff.1 info_form
  simp only [Prod.mk.injEq] at hzz
  obtain ⟨hz0, hz1, hz2⟩ := hzz
  have TI : Hid (Tryz.prog.info? 70 = some ti ∧ ti.zero = some .nilIface ∧ ti.size = 1 ∧ ti.bytes = 16) := ⟨hti, hz0, hz1, hz2⟩
  have HSTR : Hid (s = str s.data.toList) := str_of s
  clear hti hz0 hz1 hz2
  have hal : Below w.heap.size w (w.alloc (.cells #[.string s, .slice none 0 0] 158)) := (Below.refl _ _).alloc (Nat.le_refl _) _
  have hzw : (w.alloc (.cells #[.string s, .slice none 0 0] 158)).heap.size = w.heap.size + 1 := by simp
  have HV0 : Hid (FsOwn ((w.alloc (.cells #[.string s, .slice none 0 0] 158)).alloc (.cells #[.iface 71 (.string s)] 70)) w.heap.size S w.heap.size (.slice (some ⟨w.heap.size + 1, 0, none⟩) 1 1) [.plain s.data.toList]) := by
    have := FsOwn.one (w := (w.alloc (.cells #[.string s, .slice none 0 0] 158))) (base := w.heap.size) (S := S) (N := w.heap.size) (t := 71) (u := .string s) (f := .plain s.data.toList) (by show _ = _; rw [← HSTR.out]) (by simp) (fun b hb => by have := hS b hb; simp; omega) (by simp)
    rwa [hzw] at this
  have HZ2 : Hid (((w.alloc (.cells #[.string s, .slice none 0 0] 158)).alloc (.cells #[.iface 71 (.string s)] 70)).heap.size = w.heap.size + 2) := by show _ = _; simp
  have HB2 : Hid (Below w.heap.size w ((w.alloc (.cells #[.string s, .slice none 0 0] 158)).alloc (.cells #[.iface 71 (.string s)] 70))) := hal.alloc hal.size _
  obtain ⟨us0, hul0, hrow0, hfs0⟩ := HV0.out
  have HFS0 : Hid _ := hfs0
  have HUL0 : Hid (us0.length = 1) := hul0
  simp only [List.length_cons, List.length_nil, Nat.zero_add] at hrow0
  clear hal hzw hfs0 hul0
  have ta_folded := fun (w : World) => folds_no (x := 70) (v := .agg #[.string s, .slice none 0 0]) folds_conForm Tryz.zeroValue151 w
  have ta_numForm := fun (w : World) => ta_no (P := Tryz.prog) (t := 158) (x := 70) (v := .agg #[.string s, .slice none 0 0]) w Tryz.underlying154 Tryz.zeroValue154 (by decide)
  have ta_nameForm := fun (w : World) => ta_no (P := Tryz.prog) (t := 158) (x := 70) (v := .agg #[.string s, .slice none 0 0]) w Tryz.underlying156 Tryz.zeroValue156 (by decide)
  have ta_conForm := fun (w : World) => ta_yes (P := Tryz.prog) (x := 70) (v := .agg #[.string s, .slice none 0 0]) w Tryz.underlying158
  have HAT : Hid (FsAt ((w.alloc (.cells #[.string s, .slice none 0 0] 158)).alloc (.cells #[.iface 71 (.string s)] 70)) S (w.heap.size + 2) (some ⟨w.heap.size + 1, 0, none⟩) [.plain s.data.toList]) := by
    obtain ⟨a1, c1, e1, _, _, hat⟩ := HV0.out.at (by rw [HZ2.out]; omega)
    simp only [List.length_cons, List.length_nil, Nat.zero_add, Value.slice.injEq, true_and] at e1
    obtain ⟨e1, _⟩ := e1
    subst e1
    rw [HZ2.out] at hat
    exact hat
  go_enter Tryz.func50, Tryz.ntmps50
  go_wp2_with (first
      | (at_builtin; refine wpList_append_own_none rfl _ _ 44 rfl w.heap.size 70 ti 1 Tryz.underlying44 TI.out.1 _ 1 _ rfl hrow0 rfl ?_)
      | fail)
  have hj := joined_any [.plain s.data.toList] (some ⟨w.heap.size + 1, 0, none⟩) 1 ((w.alloc (.cells #[.string s, .slice none 0 0] 158)).alloc (.cells #[.iface 71 (.string s)] 70)) S (fun b hb => by have := hS b hb; rw [HZ2.out]; omega) (by simp) (by rw [HZ2.out]; exact HAT.out)
  refine Calls.mono hj ?_
  rintro e w5 ⟨v5, rfl, h5, hb5⟩
  have F5 : Hid (FsOwn w5 w.heap.size S w5.heap.size v5 (joinF (conF s []))) := by
    obtain ⟨us5, q1, q2, q3⟩ := h5
    refine ⟨us5, q1, ⟨q2.1, ?_⟩, fun i hi hi' => (q3 i hi hi').mono hb5.size⟩
    rcases q2.2 with h | ⟨g, c, cur, r1, r2, r3⟩
    · exact Or.inl h
    · exact Or.inr ⟨g, c, cur, r1, by rw [HZ2.out] at r2; omega, r3⟩
  have B5 : Hid (Below w.heap.size w w5) := HB2.out.trans (hb5.mono (by rw [HZ2.out]; omega))
  clear h5 hb5 hj
  go_wp2
  go_ret
  exact ⟨_, rfl, F5.out, B5.out⟩

set_option maxRecDepth 100000 in
set_option maxHeartbeats 4000000 in
theorem insideCon_some (s : ByteArray) (ks : List ValueD) (ad : Addr) (cap : Nat) (w : World) (S : Nat → Prop) (hS : ∀ b, S b → b < w.heap.size) (hl : ks.length ≤ 1048576) (hf : TFs w S w.heap.size (some ad) ks) :
    Calls Tryz.prog 50 #[.iface 158 (.agg #[.string s, .slice (some ad) ks.length cap])] w fun e w' => ∃ v', e = .returned v' ∧ FsOwn w' w.heap.size S w'.heap.size v' (joinF (conF s ks)) ∧ Below w.heap.size w w' := by
  obtain ⟨us, hul, hcells, hus⟩ := hf.at
  have HUS : Hid _ := hus
  have HUL : Hid (us.length = ks.length) := hul
  have HIN : Hid (0 < ks.length → ad.block < w.heap.size) := fun h => by
    obtain ⟨g', o', cur, u, h1, h0, _⟩ := hf 0 h
    cases h1
    exact h0
  obtain ⟨ti, hti, hzz⟩ := Option.map_eq_some_iff.1 info_form
  simp only [Prod.mk.injEq] at hzz
  obtain ⟨hz0, hz1, hz2⟩ := hzz
  have TI : Hid (Tryz.prog.info? 70 = some ti ∧ ti.zero = some .nilIface ∧ ti.size = 1 ∧ ti.bytes = 16) := ⟨hti, hz0, hz1, hz2⟩
  have HSTR : Hid (s = str s.data.toList) := str_of s
  clear hti hz0 hz1 hz2
  have hal : Below w.heap.size w (w.alloc (.cells #[.string s, .slice (some ad) ks.length cap] 158)) := (Below.refl _ _).alloc (Nat.le_refl _) _
  have hzw : (w.alloc (.cells #[.string s, .slice (some ad) ks.length cap] 158)).heap.size = w.heap.size + 1 := by simp
  have HV0 : Hid (FsOwn ((w.alloc (.cells #[.string s, .slice (some ad) ks.length cap] 158)).alloc (.cells #[.iface 71 (.string s)] 70)) w.heap.size S w.heap.size (.slice (some ⟨w.heap.size + 1, 0, none⟩) 1 1) [.plain s.data.toList]) := by
    have := FsOwn.one (w := (w.alloc (.cells #[.string s, .slice (some ad) ks.length cap] 158))) (base := w.heap.size) (S := S) (N := w.heap.size) (t := 71) (u := .string s) (f := .plain s.data.toList) (by show _ = _; rw [← HSTR.out]) (by simp) (fun b hb => by have := hS b hb; simp; omega) (by simp)
    rwa [hzw] at this
  have HZ2 : Hid (((w.alloc (.cells #[.string s, .slice (some ad) ks.length cap] 158)).alloc (.cells #[.iface 71 (.string s)] 70)).heap.size = w.heap.size + 2) := by show _ = _; simp
  have HB2 : Hid (Below w.heap.size w ((w.alloc (.cells #[.string s, .slice (some ad) ks.length cap] 158)).alloc (.cells #[.iface 71 (.string s)] 70))) := hal.alloc hal.size _
  obtain ⟨us0, hul0, hrow0, hfs0⟩ := HV0.out
  have HFS0 : Hid _ := hfs0
  have HUL0 : Hid (us0.length = 1) := hul0
  simp only [List.length_cons, List.length_nil, Nat.zero_add] at hrow0
  clear hal hzw hfs0 hul0
  have ta_folded := fun (w : World) => folds_no (x := 70) (v := .agg #[.string s, .slice (some ad) ks.length cap]) folds_conForm Tryz.zeroValue151 w
  have ta_numForm := fun (w : World) => ta_no (P := Tryz.prog) (t := 158) (x := 70) (v := .agg #[.string s, .slice (some ad) ks.length cap]) w Tryz.underlying154 Tryz.zeroValue154 (by decide)
  have ta_nameForm := fun (w : World) => ta_no (P := Tryz.prog) (t := 158) (x := 70) (v := .agg #[.string s, .slice (some ad) ks.length cap]) w Tryz.underlying156 Tryz.zeroValue156 (by decide)
  have ta_conForm := fun (w : World) => ta_yes (P := Tryz.prog) (x := 70) (v := .agg #[.string s, .slice (some ad) ks.length cap]) w Tryz.underlying158
  have HC : Hid (∀ j u, us[j]? = some u → ((w.alloc (.cells #[.string s, .slice (some ad) ks.length cap] 158)).alloc (.cells #[.iface 71 (.string s)] 70)).cell? (ad.add j) = some u) := fun j u hj => by
    obtain ⟨g', o', h1, h2⟩ := hcells j u hj
    cases h1
    have hj' : 0 < ks.length := by
      have := (List.getElem?_eq_some_iff.1 hj).1
      omega
    have h3 := (HB2.out.cell (p := ⟨g', o' + j, none⟩) (HIN.out hj')).trans h2
    have h4 : (⟨g', o', none⟩ : Addr).add j = ⟨g', o' + j, none⟩ := by
      unfold Addr.add
      split
      · next h => subst h; rfl
      · rfl
    rw [h4]
    exact h3
  have HO : Hid (∀ u ∈ us, u.oneCell' = true) := fun u hu => by
    obtain ⟨i, hi, rfl⟩ := List.mem_iff_getElem.1 hu
    obtain ⟨cs, h, _⟩ := HUS.out i (by omega) hi
    rw [h]; rfl
  clear hf hus hcells hul
  go_enter Tryz.func50, Tryz.ntmps50
  go_wp2_with (first
      | (at_builtin; go_loud (refine append_many _ rfl _ _ 44 rfl w.heap.size 70 ti _ 16 Tryz.underlying44 TI.out.1 TI.out.2.1 TI.out.2.2.1 TI.out.2.2.2 rfl _ 1 us0 (by decide) rfl hrow0 ad ks.length cap us rfl HUL.out HC.out HO.out (by unfold maxLen; omega) (by omega) (by rw [HZ2.out]; omega) ?_); intro g2 c2 w2 hown2 hgrow2)
      | fail)
  have hb2 : Below w.heap.size w w2 := HB2.out.grown hgrow2 (by rw [HZ2.out]; omega) (fun g hg => by cases hg; exact Nat.le_succ _)
  have hm : ∀ b, S b → w2.heap[b]? = w.heap[b]? := fun b hb => hb2.block b (hS b hb)
  have F2 : FsOwn w2 w.heap.size S w.heap.size (.slice (some ⟨g2, 0, none⟩) (1 + ks.length) c2) (conF s ks) := by
    have hcl : (conF s ks).length = 1 + ks.length := by simp [conF]; omega
    refine ⟨us0 ++ us, by rw [List.length_append, HUL0.out, HUL.out, hcl], by rw [hcl]; exact hown2, fun i hi hi' => ?_⟩
    match i with
    | 0 =>
      rw [List.getElem_append_left (by rw [HUL0.out]; decide)]
      exact HFS0.out 0 (by simp) (by rw [HUL0.out]; decide)
    | i + 1 =>
      rw [List.getElem_append_right (by rw [HUL0.out]; omega)]
      simp only [HUL0.out, Nat.add_sub_cancel, conF, List.getElem_cons_succ, List.getElem_map]
      exact (HUS.out i (by rw [hcl] at hi; omega) (by rw [hcl] at hi; rw [HUL.out]; omega)).on hm
  have HAT : Hid (FsAt w2 S w2.heap.size (some ⟨g2, 0, none⟩) (conF s ks)) := by
    obtain ⟨a1, c1, e1, _, _, hat⟩ := F2.at hb2.size
    simp only [Value.slice.injEq] at e1
    obtain ⟨e1, _⟩ := e1
    subst e1
    exact hat
  have H2 : Hid (Below w.heap.size w w2) := hb2
  have hsz : w.heap.size ≤ w2.heap.size := hb2.size
  clear hb2 hown2 hgrow2 F2 hm hrow0
  have hcl : (conF s ks).length = 1 + ks.length := by simp [conF]; omega
  have hj := joined_any (conF s ks) (some ⟨g2, 0, none⟩) c2 w2 S (fun b hb => Nat.lt_of_lt_of_le (hS b hb) H2.out.size) (by rw [hcl]; omega) HAT.out
  rw [hcl] at hj
  refine Calls.mono hj ?_
  rintro e w5 ⟨v5, rfl, h5, hb5⟩
  have F5 : Hid (FsOwn w5 w.heap.size S w5.heap.size v5 (joinF (conF s ks))) := by
    obtain ⟨us5, q1, q2, q3⟩ := h5
    refine ⟨us5, q1, ⟨q2.1, ?_⟩, fun i hi hi' => (q3 i hi hi').mono hb5.size⟩
    rcases q2.2 with h | ⟨g, c, cur, r1, r2, r3⟩
    · exact Or.inl h
    · exact Or.inr ⟨g, c, cur, r1, by omega, r3⟩
  have B5 : Hid (Below w.heap.size w w5) := H2.out.trans (hb5.mono hsz)
  clear h5 hb5 hj
  go_wp2
  go_ret
  exact ⟨_, rfl, F5.out, B5.out⟩

theorem insideCon (s : ByteArray) (ks : List ValueD) (v : Value) (w : World) (S : Nat → Prop) (hS : ∀ b, S b → b < w.heap.size) (hl : ks.length ≤ 1048576) (h : FV w S w.heap.size v (.con s ks)) :
    Calls Tryz.prog 50 #[v] w fun e w' => ∃ v', e = .returned v' ∧ FsOwn w' w.heap.size S w'.heap.size v' (joinF (conF s ks)) ∧ Below w.heap.size w w' := by
  obtain ⟨a, cap, rfl, hc1, hc2, hs, hna, hf⟩ := h
  cases a with
  | none =>
    obtain rfl := hna rfl
    have hk0 : ks = [] := List.eq_nil_of_length_eq_zero (by omega)
    subst hk0
    exact insideCon_none s w S hS
  | some ad =>
    exact insideCon_some s ks ad cap w S hS hl hf

end Go.Proofs.YtlnpfnglphdaiaaGreatDoor.vt

namespace Go.Proofs.YtlnpfnglphdaiaaGreatDoor.vt
open Go Go.RowKit Go.Deep Go.Proofs.YtlnpfnglphdaiaaGreatDoor.rose Go.Proofs.YtlnpfnglphdaiaaGreatDoor.value Go.Proofs.YtlnpfnglphdaiaaGreatDoor
set_option linter.unusedVariables false
set_option linter.unusedSimpArgs false

/-- What is inside a form. -/
def insF : Fm → List Fm
  | .plain l => [.plain l]
  | .val T => [shape T]
  | .con s ks => joinF (conF s ks)
def fits : Fm → Prop
  | .plain _ => False
  | .val T => wt T ≤ 1048576
  | .con _ ks => ks.length ≤ 1048576
/-- A form's parts. -/
def partsF : Fm → List Fm
  | .plain l => [.plain l]
  | .val T => [shape T]
  | .con s ks => if ks.length = 0 then insF (.con s ks) else .plain [40] :: insF (.con s ks) ++ [.plain [41]]

theorem inside_any (f : Fm) (v : Value) (w : World) (ht : Tab w) (S : Nat → Prop) (hS : ∀ b, S b → b < w.heap.size) (hf : fits f) (h : FV w S w.heap.size v f) :
    Calls Tryz.prog 50 #[v] w fun e w' => ∃ v', e = .returned v' ∧ FsOwn w' w.heap.size S w'.heap.size v' (insF f) ∧ Below w.heap.size w w' := by
  cases f with
  | plain l => exact hf.elim
  | val T => exact insideVal T v w S hS hf ht h
  | con s ks => exact insideCon s ks v w S hS hf h

def low : Fm → Prop
  | .plain _ => True
  | .val _ => True
  | _ => False
theorem FV.low {w w' : World} {S : Nat → Prop} {N N' : Nat} {v : Value} {f : Fm} (h : FV w S N v f) (hl : low f) (hm : ∀ b, S b → w'.heap[b]? = w.heap[b]?) : FV w' S N' v f := by
  cases f with
  | plain l => exact h
  | val T => exact TF.on h hm
  | con s ks => exact hl.elim
theorem low_join {fs : List Fm} (h : ∀ f ∈ fs, low f) : ∀ f ∈ joinF fs, low f := by
  match fs, h with
  | [], _ => simp [joinF]
  | f :: fs, h =>
    intro g hg
    simp only [joinF, List.mem_cons, List.mem_flatMap] at hg
    rcases hg with rfl | ⟨k, hk, hg⟩
    · exact h _ (by simp)
    · simp only [List.mem_nil_iff, or_false] at hg
      rcases hg with rfl | rfl
      · trivial
      · exact h _ (by simp [hk])
theorem low_con (s : ByteArray) (ks : List ValueD) : ∀ f ∈ insF (.con s ks), low f := by
  show ∀ f ∈ joinF (conF s ks), low f
  refine low_join fun f hf => ?_
  simp only [conF, List.mem_cons, List.mem_map] at hf
  rcases hf with rfl | ⟨k, _, rfl⟩ <;> trivial
theorem ins_len (f : Fm) (hf : fits f) : (insF f).length ≤ 4194304 := by
  cases f with
  | plain l => simp [insF]
  | val T => simp [insF]
  | con s ks =>
    have h1 := joinF_length (conF s ks)
    have h2 : (conF s ks).length = ks.length + 1 := by simp [conF]
    have h3 : ks.length ≤ 1048576 := hf
    simp only [insF]
    omega

set_option maxRecDepth 100000 in
set_option maxHeartbeats 4000000 in
theorem partsVal (T : ValueD) (cs : List Value) (w : World) (ht : Tab w) (S : Nat → Prop) (hS : ∀ b, S b → b < w.heap.size) (hw : wt T ≤ 1048576) (h : FV w S w.heap.size (.iface 43 (.agg cs.toArray)) (.val T)) :
    Calls Tryz.prog 29 #[.iface 43 (.agg cs.toArray)] w fun e w' => ∃ v', e = .returned v' ∧ FsOwn w' w.heap.size S w'.heap.size v' (insF (.val T)) ∧ Below w.heap.size w w' := by
  have hal : Below w.heap.size w (w.alloc (.cells cs.toArray 43)) := (Below.refl _ _).alloc (Nat.le_refl _) _
  have HIN := inside_any (.val T) (.iface 43 (.agg cs.toArray)) (w.alloc (.cells cs.toArray 43)) (ht.on hal) S (fun b hb => Nat.lt_of_lt_of_le (hS b hb) hal.size) hw ((h.on (Stays.of hS (Nat.le_refl _) hal)).mono hal.size)
  have HA : Hid (Below w.heap.size w (w.alloc (.cells cs.toArray 43))) := hal
  clear h hal
  go_enter Tryz.func29, Tryz.ntmps29
  go_wp2_with (first
    | (go_at_call 50; refine HIN.mono ?_; rintro e w1 ⟨v1, rfl, hv1, hb1⟩; have HV1 : Hid _ := hv1; have HB1 : Hid _ := hb1; clear hv1 hb1)
    | go_in)
  go_ret
  refine ⟨_, rfl, ?_, HA.out.trans (HB1.out.mono HA.out.size)⟩
  obtain ⟨us, h1, h2, h3⟩ := HV1.out
  refine ⟨us, h1, ⟨h2.1, ?_⟩, h3⟩
  have hsz := HA.out.size
  rcases h2.2 with h | ⟨g, c, cur, r1, r2, r3⟩
  · exact Or.inl h
  · exact Or.inr ⟨g, c, cur, r1, by omega, r3⟩

set_option maxRecDepth 100000 in
set_option maxHeartbeats 4000000 in
theorem partsCon0 (s : ByteArray) (a : Option Addr) (cap : Nat) (w : World) (ht : Tab w) (S : Nat → Prop) (hS : ∀ b, S b → b < w.heap.size)  (h : FV w S w.heap.size (.iface 158 (.agg #[.string s, .slice a 0 cap])) (.con s [])) :
    Calls Tryz.prog 29 #[.iface 158 (.agg #[.string s, .slice a 0 cap])] w fun e w' => ∃ v', e = .returned v' ∧ FsOwn w' w.heap.size S w'.heap.size v' (insF (.con s [])) ∧ Below w.heap.size w w' := by
  have hal : Below w.heap.size w (w.alloc (.cells #[.string s, .slice a 0 cap] 158)) := (Below.refl _ _).alloc (Nat.le_refl _) _
  have HIN := inside_any (.con s []) (.iface 158 (.agg #[.string s, .slice a 0 cap])) (w.alloc (.cells #[.string s, .slice a 0 cap] 158)) (ht.on hal) S (fun b hb => Nat.lt_of_lt_of_le (hS b hb) hal.size) (Nat.zero_le _) ((h.on (Stays.of hS (Nat.le_refl _) hal)).mono hal.size)
  have HA : Hid (Below w.heap.size w (w.alloc (.cells #[.string s, .slice a 0 cap] 158))) := hal
  clear h hal
  go_enter Tryz.func29, Tryz.ntmps29
  go_wp2_with (first
    | (go_at_call 50; refine HIN.mono ?_; rintro e w1 ⟨v1, rfl, hv1, hb1⟩; have HV1 : Hid _ := hv1; have HB1 : Hid _ := hb1; clear hv1 hb1)
    | go_in)
  go_ret
  refine ⟨_, rfl, ?_, HA.out.trans (HB1.out.mono HA.out.size)⟩
  obtain ⟨us, h1, h2, h3⟩ := HV1.out
  refine ⟨us, h1, ⟨h2.1, ?_⟩, h3⟩
  have hsz := HA.out.size
  rcases h2.2 with h | ⟨g, c, cur, r1, r2, r3⟩
  · exact Or.inl h
  · exact Or.inr ⟨g, c, cur, r1, by omega, r3⟩

set_option maxRecDepth 100000 in
set_option maxHeartbeats 4000000 in
theorem partsConK (s : ByteArray) (ks : List ValueD) (a : Option Addr) (cap : Nat) (w : World) (ht : Tab w) (S : Nat → Prop) (hS : ∀ b, S b → b < w.heap.size) (hk : ks.length ≤ 1048576) (hp : 0 < ks.length) (h : FV w S w.heap.size (.iface 158 (.agg #[.string s, .slice a ks.length cap])) (.con s ks)) :
    Calls Tryz.prog 29 #[.iface 158 (.agg #[.string s, .slice a ks.length cap])] w fun e w' => ∃ v', e = .returned v' ∧ FsOwn w' w.heap.size S w'.heap.size v' (.plain [40] :: insF (.con s ks) ++ [.plain [41]]) ∧ Below w.heap.size w w' := by
  have hkz : (((ks.length : Nat) : Int) == 0) = false := by simp only [beq_eq_false_iff_ne, ne_eq]; omega
  obtain ⟨ti, hti, hzz⟩ := Option.map_eq_some_iff.1 info_form
  simp only [Prod.mk.injEq] at hzz
  obtain ⟨hz0, hz1, hz2⟩ := hzz
  have TI : Hid (Tryz.prog.info? 70 = some ti ∧ ti.zero = some .nilIface ∧ ti.size = 1 ∧ ti.bytes = 16) := ⟨hti, hz0, hz1, hz2⟩
  clear hti hz0 hz1 hz2
  have hal : Below w.heap.size w (w.alloc (.cells #[.string s, .slice a ks.length cap] 158)) := (Below.refl _ _).alloc (Nat.le_refl _) _
  have hzw : (w.alloc (.cells #[.string s, .slice a ks.length cap] 158)).heap.size = w.heap.size + 1 := by simp
  have hrow0 := FsOwn.one (w := w.alloc (.cells #[.string s, .slice a ks.length cap] 158)) (base := w.heap.size) (S := S) (N := 0) (t := 71) (u := .string ⟨#[40]⟩) (f := .plain [40]) rfl (by simp) (fun b hb => by have := hS b hb; simp; omega) (by simp)
  rw [hzw] at hrow0
  have hal2 : Below w.heap.size w ((w.alloc (.cells #[.string s, .slice a ks.length cap] 158)).alloc (.cells #[.iface 71 (.string ⟨#[40]⟩)] 70)) := hal.alloc hal.size _
  have hzw2 : ((w.alloc (.cells #[.string s, .slice a ks.length cap] 158)).alloc (.cells #[.iface 71 (.string ⟨#[40]⟩)] 70)).heap.size = w.heap.size + 2 := by simp
  have HIN := inside_any (.con s ks) (.iface 158 (.agg #[.string s, .slice a ks.length cap])) ((w.alloc (.cells #[.string s, .slice a ks.length cap] 158)).alloc (.cells #[.iface 71 (.string ⟨#[40]⟩)] 70)) (ht.on hal2) S (fun b hb => Nat.lt_of_lt_of_le (hS b hb) hal2.size) hk ((h.on (Stays.of hS (Nat.le_refl _) hal2)).mono hal2.size)
  have HA : Hid (Below w.heap.size w ((w.alloc (.cells #[.string s, .slice a ks.length cap] 158)).alloc (.cells #[.iface 71 (.string ⟨#[40]⟩)] 70))) := hal2
  have HLEN : Hid ((insF (.con s ks)).length ≤ 4194304) := ins_len _ hk
  have HROW0 : Hid _ := hrow0
  clear h hal hal2 hrow0 hzw
  generalize hins : insF (.con s ks) = fs at HIN HLEN
  have HLOW : Hid (∀ f ∈ fs, low f) := by show ∀ f ∈ fs, low f; rw [← hins]; exact low_con s ks
  go_enter Tryz.func29, Tryz.ntmps29
  go_wp2_with (first
    | (go_at_call 50; refine HIN.mono ?_)
    | go_in)
  rintro e w1 ⟨v1, rfl, hv1, hb1⟩
  rw [hzw2] at hv1 hb1
  have hsz1 : w.heap.size + 2 ≤ w1.heap.size := by have := hb1.size; rw [hzw2] at this; exact this
  obtain ⟨us, hul, hown1, hfv1⟩ := hv1
  have HFV1 : Hid _ := hfv1
  have HUL : Hid (us.length = fs.length) := hul
  have HO : Hid (∀ u ∈ us, u.oneCell' = true) := fun u hu => by
    obtain ⟨i, hi, rfl⟩ := List.mem_iff_getElem.1 hu
    exact (hfv1 i (by omega) hi).one
  have hne : fs.length ≠ 0 := by
    rw [← hins]; simp [insF, joinF, conF]
  obtain ⟨us0, hul0, hr0, hfs0⟩ := HROW0.out
  simp only [List.length_cons, List.length_nil, Nat.zero_add] at hr0 hul0
  have hrow1 : w1.ownsRow w.heap.size 70 1 (.slice (some ⟨w.heap.size + 1, 0, none⟩) 1 1) 1 us0 := row_stays hr0 fun g hg hlt => hb1.block g (by omega)
  have hB1 : Below w.heap.size w w1 := HA.out.trans (hb1.mono (by omega))
  obtain ⟨g1, k1, hv1⟩ : ∃ g1 k1, v1 = .slice (some ⟨g1, 0, none⟩) fs.length k1 := by
    rcases hown1.2 with ⟨_, h0⟩ | ⟨g1, k1, _, h0, _⟩
    · exact absurd h0 hne
    · exact ⟨g1, k1, h0⟩
  subst hv1
  have HC : Hid (∀ j u, us[j]? = some u → w1.cell? ((⟨g1, 0, none⟩ : Addr).add j) = some u) := fun j u hj => by
    have h3 := (row_cell hown1 hj).1
    have h4 : (⟨g1, 0, none⟩ : Addr).add j = ⟨g1, j, none⟩ := by
      unfold Addr.add
      split
      · next h => subst h; rfl
      · simp
    rw [h4]
    exact h3
  have HB1 : Hid (Below w.heap.size w w1) := hB1
  have HE0 : Hid (us0 = [.iface 71 (.string ⟨#[40]⟩)]) := by
    match us0, hul0, hfs0 with
    | [u], _, h => have := h 0 (by simp) (by simp); exact congrArg (fun x => [x]) this
  have hl1 := HLEN.out
  clear hown1 hfv1 hb1 hB1 hr0 hul0 hul hfs0 hne
  go_wp2_with (first
    | (at_builtin; (refine append_many _ rfl _ _ 44 rfl w.heap.size 70 ti _ 16 Tryz.underlying44 TI.out.1 TI.out.2.1 TI.out.2.2.1 TI.out.2.2.2 rfl (.slice (some ⟨w.heap.size + 1, 0, none⟩) 1 1) 1 us0 (by decide) rfl hrow1 ⟨g1, 0, none⟩ fs.length k1 us rfl HUL.out HC.out HO.out (by unfold maxLen; omega) (by omega) (by omega) ?_); intro g2 c2 w2 hown2 hgrow2
       have h2b : (w2.alloc (.cells #[.iface 71 (.string ⟨#[41]⟩)] 70)).ownsRow w.heap.size 70 1 (.slice (some ⟨g2, 0, none⟩) (1 + fs.length) c2) (1 + fs.length) (us0 ++ us) := row_stays hown2 fun g hg hlt' => Below.heap_alloc _ _ _ hlt'
       have hz1 : w.heap.size ≤ w2.heap.size := Nat.le_trans (by omega) hgrow2.size)
    | (at_builtin; go_loud (refine append_one _ rfl _ _ 44 rfl w.heap.size 70 ti _ 16 Tryz.underlying44 TI.out.1 TI.out.2.1 TI.out.2.2.1 TI.out.2.2.2 rfl (.slice (some ⟨g2, 0, none⟩) (1 + fs.length) c2) (1 + fs.length) _ rfl h2b ⟨w2.heap.size, 0, none⟩ 1 (.iface 71 (.string ⟨#[41]⟩)) rfl (cell_one_new _ _ _) rfl (by unfold maxLen; omega) (by omega) (by simp; omega) ?_); intro g3 c3 w3 hown3 hgrow3)
    | go_in)
  have hb2 : Below w.heap.size w w2 := HB1.out.grown hgrow2 (by omega) (fun g hg => by cases hg; exact Nat.le_succ _)
  have hal3 : Below w.heap.size w (w2.alloc (.cells #[.iface 71 (.string ⟨#[41]⟩)] 70)) := hb2.alloc hz1 _
  have hb3 : Below w.heap.size w w3 := hal3.grown hgrow3 (by simp; omega) (fun g hg => by
    rcases hown2.2 with ⟨h, _⟩ | ⟨g', cap, cur, h, hle, _⟩
    · cases h
    · cases h
      cases hg
      exact hle)
  have HF : Hid (FsOwn w3 w.heap.size S w3.heap.size (.slice (some ⟨g3, 0, none⟩) (1 + fs.length + 1) c3) (.plain [40] :: fs ++ [.plain [41]])) := by
    have hlen : (Fm.plain [40] :: fs ++ [Fm.plain [41]]).length = 1 + fs.length + 1 := by simp; omega
    have hE0 := HE0.out
    clear HE0
    subst hE0
    refine ⟨[.iface 71 (.string ⟨#[40]⟩)] ++ us ++ [.iface 71 (.string ⟨#[41]⟩)], by rw [hlen]; simp [HUL.out]; omega, by rw [hlen]; exact hown3, fun i hi hi' => ?_⟩
    have hm : ∀ b, S b → w3.heap[b]? = w1.heap[b]? := fun b hb => (hb3.block b (hS b hb)).trans (HB1.out.block b (hS b hb)).symm
    have hul := HUL.out
    match i with
    | 0 => rfl
    | i + 1 =>
      simp only [List.singleton_append, List.cons_append, List.getElem_cons_succ, List.nil_append]
      by_cases e : i < fs.length
      · have e' : i < us.length := by rw [hul]; exact e
        rw [List.getElem_append_left e', List.getElem_append_left e]
        exact (HFV1.out i e (by omega)).low (HLOW.out _ (List.getElem_mem e)) hm
      · have : i = fs.length := by rw [hlen] at hi; omega
        subst this
        rw [List.getElem_append_right (Nat.le_of_eq hul), List.getElem_append_right (Nat.le_refl _)]
        simp only [hul, Nat.sub_self, List.getElem_cons_zero]
        rfl
  have HB3 : Hid (Below w.heap.size w w3) := hb3
  clear hown2 hgrow2 hown3 hgrow3 hb2 hal3 hb3 h2b hrow1
  go_ret
  exact ⟨_, rfl, HF.out, HB3.out⟩

theorem parts_any (f : Fm) (v : Value) (w : World) (ht : Tab w) (S : Nat → Prop) (hS : ∀ b, S b → b < w.heap.size) (hf : fits f) (h : FV w S w.heap.size v f) :
    Calls Tryz.prog 29 #[v] w fun e w' => ∃ v', e = .returned v' ∧ FsOwn w' w.heap.size S w'.heap.size v' (partsF f) ∧ Below w.heap.size w w' := by
  cases f with
  | plain l => exact hf.elim
  | val T =>
    have h' := h
    obtain ⟨cs, rfl, _⟩ := h'
    exact partsVal T cs w ht S hS hf h
  | con s ks =>
    have h' := h
    obtain ⟨a, cap, rfl, _⟩ := h'
    by_cases hk : ks.length = 0
    · have hk0 : ks = [] := List.eq_nil_of_length_eq_zero hk
      subst hk0
      exact partsCon0 s a cap w ht S hS h
    · simp only [partsF, if_neg hk]
      exact partsConK s ks a cap w ht S hS hf (by omega) h

end Go.Proofs.YtlnpfnglphdaiaaGreatDoor.vt
