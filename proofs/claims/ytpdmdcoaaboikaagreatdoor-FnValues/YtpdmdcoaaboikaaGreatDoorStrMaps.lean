/-
  Maps whose keys are texts and whose elements are numbers: what a look-up finds where it is known. No function of the program.
-/
import Derived.Test.YtpdmdcoaaboikaaGreatDoorSpots
import Derived.Laws.Strings
import Derived.Maps.OwnIn
import Derived.Maps.RangeWalk
namespace Go.Proofs.YtpdmdcoaaboikaaGreatDoor.data
open Go Go.RowKit Go.Maps Go.Proofs.YtpdmdcoaaboikaaGreatDoor.rose Go.Proofs.YtpdmdcoaaboikaaGreatDoor
set_option linter.unusedVariables false
set_option linter.unusedSimpArgs false

/-- A name as a key. -/
def kl (s : ByteArray) : Lit := .string s.data.toList
theorem kl_ne {s t : ByteArray} (h : (s.toList == t.toList) = false) : kl s ≠ kl t := fun e => by
  unfold kl at e
  injection e with e
  rw [ByteArray.toList_eq, ByteArray.toList_eq, e] at h
  simp at h
theorem kl_eq {s t : ByteArray} (h : (s.toList == t.toList) = true) : kl s = kl t := by
  unfold kl
  rw [ByteArray.toList_eq, ByteArray.toList_eq] at h
  rw [beq_iff_eq.1 h]
theorem kl_key (s : ByteArray) : WideAt.IsKeyLit (kl s) := trivial

theorem strKey : Keyed Tryz.prog 9 := string_keyed Tryz.underlying9
theorem zeroInt (w : World) : (zeroValue 3).run Tryz.prog w = .ok (.int .i64 0) w := by kernel_rfl
theorem wfD {x : Int} (h : -9223372036854775808 ≤ x ∧ x ≤ 9223372036854775807) : (Lit.int .i64 x).wf = true := WalkArith.wf_i64 (by omega)
theorem owns_low {w w' : World} {P : Program} {k : TypeId} {R : Value → Option (DataW Unit × List MemPlace)} {b n B : Nat} {D : DataW Unit} (h : w.ownsMap P k R b n D) (hb : Below B w w') (hB : b < B) : w'.ownsMap P k R b n D := by
  obtain ⟨es, clock, h1, r⟩ := h
  exact ⟨es, clock, (hb.block b hB).trans h1, r⟩

/-- A look-up whose answer is known. -/
theorem lookup_knownIn {F : Fence} {nF : Nat} {P : Program} (w : World) {ops : Array Oper} {rest : List Oper} {o : Oper} {a : Act} {Q : Exit → Act → World → Prop}
    (hg : o.guard = none) (m x : Operand) (t : TypeId) (hop : o.op = Op.lookup t m x false)
    (k e : TypeId) (K : Keyed P k) (ht : P.underlying t = some (.map k e)) (he : P.underlying e = some (.int .i64)) (hz : (zeroValue e).run P w = .ok (.int .i64 0) w) (b n : Nat) (D : DataW Unit)
    (hm : a.eval m = .map (some b)) (hown : w.ownsMap P k (plainElem P e) b n D) (key : Value) (kl : Lit) (hx : a.eval x = key) (hkey : keyOf P k key = some kl) (c : Int) (hat : D.atKey kl (.lit (.int .i64 0)) = .lit (.int .i64 c))
    (hK : wpListIn F nF P ops Q rest (a.put o.dst (.int .i64 c)) w) :
    wpListIn F nF P ops Q (o :: rest) a w :=
  wpListIn_lookup_own_int w hg m x t hop k e .i64 K ht he hz b n D hm hown key kl hx hkey fun c' h _ => by
    rw [hat] at h
    injection h with h
    injection h with _ h
    subst h
    exact hK
theorem lookup_ok_knownIn {F : Fence} {nF : Nat} {P : Program} (w : World) {ops : Array Oper} {rest : List Oper} {o : Oper} {a : Act} {Q : Exit → Act → World → Prop}
    (hg : o.guard = none) (m x : Operand) (t : TypeId) (hop : o.op = Op.lookup t m x true)
    (k e : TypeId) (K : Keyed P k) (ht : P.underlying t = some (.map k e)) (he : P.underlying e = some (.int .i64)) (hz : (zeroValue e).run P w = .ok (.int .i64 0) w) (b n : Nat) (D : DataW Unit)
    (hm : a.eval m = .map (some b)) (hown : w.ownsMap P k (plainElem P e) b n D) (key : Value) (kl : Lit) (hx : a.eval x = key) (hkey : keyOf P k key = some kl) (c : Int) (hat : D.atKey kl (.lit (.int .i64 0)) = .lit (.int .i64 c)) (h : Bool) (hh : Maps.has D kl = h)
    (hK : wpListIn F nF P ops Q rest (a.put o.dst (.tuple #[.int .i64 c, .bool h])) w) :
    wpListIn F nF P ops Q (o :: rest) a w :=
  wpListIn_lookup_own_ok_int w hg m x t hop k e .i64 K ht he hz b n D hm hown key kl hx hkey fun c' h' _ => by
    rw [hat] at h'
    injection h' with h'
    injection h' with _ h'
    subst h' hh
    exact hK

end Go.Proofs.YtpdmdcoaaboikaaGreatDoor.data
