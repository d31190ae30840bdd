/-
  The program's inside and parts, of forms of types.
-/
import Derived.Test.YtghkalbhippjgaaDoorTyForms2
namespace Go.Proofs.YtghkalbhippjgaaDoor.ty
open Go.RowKit Go.Deep Go.Proofs.YtghkalbhippjgaaDoor.rose Go.Proofs.YtghkalbhippjgaaDoor
set_option linter.unusedVariables false
set_option linter.unusedSimpArgs false

theorem FsOwn.mono {w : World} {base : Nat} {S : Nat → Prop} {N N' : Nat} {v : Value} {fs : List Fm} (h : FsOwn w base S N v fs) (hn : N ≤ N') : FsOwn w base S N' v fs := by
  obtain ⟨us, h1, h2, h3⟩ := h
  exact ⟨us, h1, h2, fun i h h' => (h3 i h h').mono hn⟩

/-- A new row of one form. -/
theorem FsOwn.one {w : World} {base : Nat} {S : Nat → Prop} {N : Nat} {t : TypeId} {u : Value} {f : Fm} (h : FV w S N (.iface t u) f) (hb : base ≤ w.heap.size) (hS : ∀ b, S b → b < w.heap.size) (hN : N ≤ w.heap.size) : FsOwn (w.alloc (.cells #[.iface t u] 46)) base S N (.slice (some ⟨w.heap.size, 0, none⟩) 1 1) [f] := by
  refine ⟨[.iface t u], rfl, ⟨rfl, Or.inr ⟨w.heap.size, 1, #[.iface t u], rfl, hb, alloc_top _ _, Nat.le_refl _, by unfold maxLen; omega, rfl, rfl⟩⟩, fun i hi hi' => ?_⟩
  have : i = 0 := by simp at hi; omega
  subst this
  exact h.on (Stays.of hS hN ((Below.refl _ _).alloc (Nat.le_refl _) _))

theorem ta_no {P : Program} {t s x : TypeId} {fs : Array Field} {v z : Value} (w : World) (hd : P.underlying s = some (.struct fs)) (hz : ∀ w, (zeroValue s).run P w = .ok z w) (hne : t ≠ s) : (Instr.typeAssert (.iface t v) x s true).run P w = .ok (.tuple #[z, .bool false]) w := by
  simp [Instr.typeAssert, run_underlying hd, hne, hz]
theorem ta_yes {P : Program} {t x : TypeId} {fs : Array Field} {v : Value} (w : World) (hd : P.underlying t = some (.struct fs)) : (Instr.typeAssert (.iface t v) x t true).run P w = .ok (.tuple #[v, .bool true]) w := by
  simp [Instr.typeAssert, run_underlying hd]

set_option maxRecDepth 100000 in
set_option maxHeartbeats 4000000 in
theorem insideTy (T : TyD) (v : Value) (w : World) (S : Nat → Prop) (hS : ∀ b, S b → b < w.heap.size) (hw : wt T ≤ 1048576) (h : TF w S v T) :
    Calls Tryd.prog 17 #[v] w fun e w' => ∃ v', e = .returned v' ∧ FsOwn w' w.heap.size S w'.heap.size v' [shape T] ∧ Below w.heap.size w w' := by
  obtain ⟨cs, rfl, hr⟩ := h
  obtain ⟨x0, x1, x2, xk, ak, ck, hT, rfl, g0, g1, g2, gk⟩ := ty_open hr
  have HR : Hid (tySh.rep w S [.int .i64 x0, .int .i64 x1, .string x2, .slice ak xk.length ck] T) := hr
  clear hr hT gk
  have ta_tyForm := fun (w : World) => ta_yes (P := Tryd.prog) (x := 46) (v := .agg #[.int .i64 x0, .int .i64 x1, .string x2, .slice ak xk.length ck]) w Tryd.underlying38
  go_enter Tryd.func17, Tryd.ntmps17
  go_wp2_with fail
  have hal : Below w.heap.size w (w.alloc (.cells #[.int .i64 x0, .int .i64 x1, .string x2, .slice ak xk.length ck] 38)) := (Below.refl _ _).alloc (Nat.le_refl _) _
  refine (shapeOf_any T [.int .i64 x0, .int .i64 x1, .string x2, .slice ak xk.length ck] _ S (fun b hb => Nat.lt_of_lt_of_le (hS b hb) hal.size) hw (tySh.on HR.out fun b hb => hal.block b (hS b hb))).mono ?_
  rintro e w1 ⟨v1, rfl, hv1, hb1⟩
  obtain ⟨t1, u1, rfl⟩ := hv1.iface
  have HV1 : Hid (FV w1 S w1.heap.size (.iface t1 u1) (shape T)) := hv1
  have B1 : Hid (Below w.heap.size w w1) := hal.trans (hb1.mono hal.size)
  clear hal hb1 hv1
  go_wp2
  go_ret
  refine ⟨_, rfl, (FsOwn.one HV1.out B1.out.size (fun b hb => Nat.lt_of_lt_of_le (hS b hb) B1.out.size) (Nat.le_refl _)).mono (by simp), B1.out.alloc B1.out.size _⟩

set_option maxRecDepth 100000 in
set_option maxHeartbeats 4000000 in
theorem insideSign (l r : TyD) (v : Value) (w : World) (S : Nat → Prop) (hS : ∀ b, S b → b < w.heap.size) (h : FV w S w.heap.size v (.sign l r)) :
    Calls Tryd.prog 17 #[v] w fun e w' => ∃ v', e = .returned v' ∧ FsOwn w' w.heap.size S w'.heap.size v' [.ty l, .plain [32, 45, 62, 32], .ty r] ∧ Below w.heap.size w w' := by
  obtain ⟨u1, u2, rfl, h1, h2⟩ := h
  have H1 : Hid (TF w S u1 l) := h1
  have H2 : Hid (TF w S u2 r) := h2
  obtain ⟨c1, rfl, _⟩ := h1
  obtain ⟨c2, rfl, _⟩ := h2
  have ta_tyForm := fun (w : World) => ta_no (P := Tryd.prog) (t := 84) (x := 46) (v := .agg #[.iface 38 (.agg c1.toArray), .string ⟨#[45, 62]⟩, .iface 38 (.agg c2.toArray)]) w Tryd.underlying38 Tryd.zeroValue38 (by decide)
  have ta_numForm := fun (w : World) => ta_no (P := Tryd.prog) (t := 84) (x := 46) (v := .agg #[.iface 38 (.agg c1.toArray), .string ⟨#[45, 62]⟩, .iface 38 (.agg c2.toArray)]) w Tryd.underlying61 Tryd.zeroValue61 (by decide)
  have ta_nameForm := fun (w : World) => ta_no (P := Tryd.prog) (t := 84) (x := 46) (v := .agg #[.iface 38 (.agg c1.toArray), .string ⟨#[45, 62]⟩, .iface 38 (.agg c2.toArray)]) w Tryd.underlying64 Tryd.zeroValue64 (by decide)
  have ta_conForm := fun (w : World) => ta_no (P := Tryd.prog) (t := 84) (x := 46) (v := .agg #[.iface 38 (.agg c1.toArray), .string ⟨#[45, 62]⟩, .iface 38 (.agg c2.toArray)]) w Tryd.underlying66 Tryd.zeroValue66 (by decide)
  have ta_funForm := fun (w : World) => ta_no (P := Tryd.prog) (t := 84) (x := 46) (v := .agg #[.iface 38 (.agg c1.toArray), .string ⟨#[45, 62]⟩, .iface 38 (.agg c2.toArray)]) w Tryd.underlying69 Tryd.zeroValue69 (by decide)
  have ta_appForm := fun (w : World) => ta_no (P := Tryd.prog) (t := 84) (x := 46) (v := .agg #[.iface 38 (.agg c1.toArray), .string ⟨#[45, 62]⟩, .iface 38 (.agg c2.toArray)]) w Tryd.underlying71 Tryd.zeroValue71 (by decide)
  have ta_letForm := fun (w : World) => ta_no (P := Tryd.prog) (t := 84) (x := 46) (v := .agg #[.iface 38 (.agg c1.toArray), .string ⟨#[45, 62]⟩, .iface 38 (.agg c2.toArray)]) w Tryd.underlying74 Tryd.zeroValue74 (by decide)
  have ta_recForm := fun (w : World) => ta_no (P := Tryd.prog) (t := 84) (x := 46) (v := .agg #[.iface 38 (.agg c1.toArray), .string ⟨#[45, 62]⟩, .iface 38 (.agg c2.toArray)]) w Tryd.underlying76 Tryd.zeroValue76 (by decide)
  have ta_caseForm := fun (w : World) => ta_no (P := Tryd.prog) (t := 84) (x := 46) (v := .agg #[.iface 38 (.agg c1.toArray), .string ⟨#[45, 62]⟩, .iface 38 (.agg c2.toArray)]) w Tryd.underlying78 Tryd.zeroValue78 (by decide)
  have ta_altForm := fun (w : World) => ta_no (P := Tryd.prog) (t := 84) (x := 46) (v := .agg #[.iface 38 (.agg c1.toArray), .string ⟨#[45, 62]⟩, .iface 38 (.agg c2.toArray)]) w Tryd.underlying80 Tryd.zeroValue80 (by decide)
  have ta_ifForm := fun (w : World) => ta_no (P := Tryd.prog) (t := 84) (x := 46) (v := .agg #[.iface 38 (.agg c1.toArray), .string ⟨#[45, 62]⟩, .iface 38 (.agg c2.toArray)]) w Tryd.underlying82 Tryd.zeroValue82 (by decide)
  have ta_signForm := fun (w : World) => ta_yes (P := Tryd.prog) (x := 46) (v := .agg #[.iface 38 (.agg c1.toArray), .string ⟨#[45, 62]⟩, .iface 38 (.agg c2.toArray)]) w Tryd.underlying84
  go_enter Tryd.func17, Tryd.ntmps17
  go_wp2
  go_ret
  have hal : Below w.heap.size w (w.alloc (.cells #[.iface 38 (.agg c1.toArray), .string ⟨#[45, 62]⟩, .iface 38 (.agg c2.toArray)] 84)) := (Below.refl _ _).alloc (Nat.le_refl _) _
  have hz : (w.alloc (.cells #[.iface 38 (.agg c1.toArray), .string ⟨#[45, 62]⟩, .iface 38 (.agg c2.toArray)] 84)).heap.size = w.heap.size + 1 := by simp
  generalize w.alloc (.cells #[.iface 38 (.agg c1.toArray), .string ⟨#[45, 62]⟩, .iface 38 (.agg c2.toArray)] 84) = w0 at hal hz
  have hb2 : Below w.heap.size w (w0.alloc (.cells #[.iface 38 (.agg c1.toArray), .iface 47 (.string (⟨#[32]⟩ ++ ⟨#[45, 62]⟩ ++ ⟨#[32]⟩)), .iface 38 (.agg c2.toArray)] 46)) := hal.alloc hal.size _
  have hm : ∀ b, S b → (w0.alloc (.cells #[.iface 38 (.agg c1.toArray), .iface 47 (.string (⟨#[32]⟩ ++ ⟨#[45, 62]⟩ ++ ⟨#[32]⟩)), .iface 38 (.agg c2.toArray)] 46)).heap[b]? = w.heap[b]? := fun b hb => hb2.block b (hS b hb)
  refine ⟨_, rfl, ⟨[.iface 38 (.agg c1.toArray), .iface 47 (.string (⟨#[32]⟩ ++ ⟨#[45, 62]⟩ ++ ⟨#[32]⟩)), .iface 38 (.agg c2.toArray)], rfl, ⟨rfl, Or.inr ⟨w.heap.size + 1, 3, #[.iface 38 (.agg c1.toArray), .iface 47 (.string (⟨#[32]⟩ ++ ⟨#[45, 62]⟩ ++ ⟨#[32]⟩)), .iface 38 (.agg c2.toArray)], rfl, by omega, ?_, Nat.le_refl _, by unfold maxLen; omega, rfl, rfl⟩⟩, fun i hi hi' => ?_⟩, hb2⟩
  · rw [← hz]; exact alloc_top _ _
  · match i, hi with
    | 0, _ => exact H1.out.on hm
    | 1, _ => rfl
    | 2, _ => exact H2.out.on hm

/-- What is inside a con's brackets. -/
def conF (s : ByteArray) (ks : List TyD) : List Fm := .plain s.data.toList :: ks.map Fm.ty

theorem TFs.at {w : World} {S : Nat → Prop} {N : Nat} {a : Option Addr} {ks : List TyD} (h : TFs w S N a ks) : ∃ us : List Value, us.length = ks.length ∧ (∀ j u, us[j]? = some u → ∃ g o, a = some ⟨g, o, none⟩ ∧ w.cell? ⟨g, o + j, none⟩ = some u) ∧ ∀ i (h : i < ks.length) (h' : i < us.length), TF w S us[i] ks[i] := by
  have key : ∀ i, i < ks.length → ∃ u : Value, ∃ g o, a = some ⟨g, o, none⟩ ∧ w.cell? ⟨g, o + i, none⟩ = some u ∧ ∀ (h : i < ks.length), TF w S u ks[i] := fun i hi => by
    obtain ⟨g, o, cur, u, h1, h0, h2, h3, h4⟩ := h i hi
    exact ⟨u, g, o, h1, h3, fun _ => h4⟩
  haveI : Inhabited Value := ⟨.nilIface⟩
  obtain ⟨f, hf⟩ := choose_lt key
  refine ⟨(List.range ks.length).map f, by simp, fun j u hj => ?_, fun i hi hi' => ?_⟩
  · have hjl : j < ks.length := by
      have := (List.getElem?_eq_some_iff.1 hj).1
      simpa using this
    obtain ⟨g, o, h1, h2, _⟩ := hf j hjl
    rw [List.getElem?_map, List.getElem?_range hjl] at hj
    simp at hj
    subst hj
    exact ⟨g, o, h1, h2⟩
  · obtain ⟨g, o, h1, h2, h3⟩ := hf i hi
    simpa using h3 hi

end Go.Proofs.YtghkalbhippjgaaDoor.ty
