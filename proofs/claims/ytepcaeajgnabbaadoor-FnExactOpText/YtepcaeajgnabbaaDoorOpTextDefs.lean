/-
  What OpText tells (chapter 13), in plain data.
-/
import Derived.Test.YtepcaeajgnabbaaDoorChecked
import Derived.Test.YtepcaeajgnabbaaDoorSpecIn
import Derived.Test.YtepcaeajgnabbaaDoorWalks
import Derived.Below
import Derived.WalkKit
import Derived.WalkLawsBesides
import Derived.Deep.RegionWith
import Derived.Laws.Strings
import Derived.Laws.IdiomStrings
import Derived.Deep.RegionHeld3
import Derived.Sort.AtCall
import Derived.WalkSmall
namespace Go.Proofs.YtepcaeajgnabbaaDoor.fun
open Go.RowKit Go.Proofs.YtepcaeajgnabbaaDoor
set_option linter.unusedVariables false
set_option linter.unusedSimpArgs false

/-- The names. -/
def nmS : List ByteArray := [⟨#[]⟩, ⟨#[110, 117, 109]⟩, ⟨#[108, 111, 99, 97, 108]⟩, ⟨#[102, 114, 101, 101]⟩, ⟨#[115, 101, 108, 102]⟩, ⟨#[99, 108, 111, 115]⟩, ⟨#[99, 97, 108, 108]⟩, ⟨#[114, 101, 116]⟩, ⟨#[99, 111, 110]⟩, ⟨#[102, 105, 101, 108, 100]⟩, ⟨#[105, 115, 99, 111, 110]⟩, ⟨#[105, 115, 110, 117, 109]⟩, ⟨#[97, 100, 100]⟩, ⟨#[115, 117, 98]⟩, ⟨#[109, 117, 108]⟩, ⟨#[108, 101, 115, 115]⟩, ⟨#[115, 97, 109, 101]⟩, ⟨#[112, 117, 116]⟩, ⟨#[122, 101, 114, 111]⟩, ⟨#[106, 117, 109, 112]⟩, ⟨#[115, 108, 105, 100, 101]⟩, ⟨#[102, 97, 105, 108]⟩]
def nameS (i : Nat) : ByteArray := (nmS[i]?).getD ⟨#[]⟩
/-- A number in digits. -/
def dg (n : Int) : ByteArray := ⟨(Lib.itoa n).toArray⟩
/-- What OpText tells. -/
def opTx (c n m : Int) : ByteArray := if inB c 1 21 = true then nameS c.toNat ++ ⟨#[32]⟩ ++ dg n ++ ⟨#[32]⟩ ++ dg m else ⟨#[]⟩

theorem nameS_le (i : Nat) : (nameS i).size ≤ 5 := by
  by_cases h : i < 22
  · have H : ∀ i : Fin 22, (nameS i.val).size ≤ 5 := by decide
    exact H ⟨i, h⟩
  · have : nmS[i]? = none := List.getElem?_eq_none (by show 22 ≤ i; omega)
    rw [nameS, this]; decide
theorem dg_le (n : Int) (h0 : -9223372036854775808 ≤ n) (h1 : n ≤ 9223372036854775807) : (dg n).size ≤ 21 := by
  have e : (dg n).size = (Lib.itoa n).length := by show (Lib.itoa n).toArray.size = _; simp
  rw [e]
  unfold Lib.itoa
  split
  · simp only [List.length_cons, Lib.decDigits_length]
    have := Lib.nDigits_le20 n.natAbs (by omega)
    omega
  · rw [Lib.decDigits_length]
    have := Lib.nDigits_le20 n.toNat (by omega)
    omega

/-- An Op in a block of its own, ahead of whatever is called. -/
structure Opn (w W : World) (c n m : Int) : Prop where
  bel : Below w.heap.size w W
  b0 : W.cell? ⟨w.heap.size, 0, none⟩ = some (.int .i64 c)
  b1 : W.cell? ⟨w.heap.size, 1, none⟩ = some (.int .i64 n)
  b2 : W.cell? ⟨w.heap.size, 2, none⟩ = some (.int .i64 m)
  lt : w.heap.size < W.heap.size
theorem Opn.on {w W W' : World} {c n m : Int} (h : Opn w W c n m) (hb : Below W.heap.size W W') : Opn w W' c n m :=
  ⟨h.bel.trans (hb.mono h.bel.size), (hb.cell (p := ⟨w.heap.size, 0, none⟩) h.lt).trans h.b0, (hb.cell (p := ⟨w.heap.size, 1, none⟩) h.lt).trans h.b1, (hb.cell (p := ⟨w.heap.size, 2, none⟩) h.lt).trans h.b2, Nat.lt_of_lt_of_le h.lt hb.size⟩
theorem Opn.new (w : World) (c n m : Int) (t : TypeId) : Opn w (w.alloc (.cells #[.int .i64 c, .int .i64 n, .int .i64 m] t)) c n m :=
  ⟨(Below.refl _ _).alloc (Nat.le_refl _) _, by simp, by simp, by simp, by simp⟩
theorem Opn.drew {w W : World} {c n m : Int} (h : Opn w W c n m) : Opn w W.drew c n m := ⟨h.bel.drew, h.b0, h.b1, h.b2, h.lt⟩

end Go.Proofs.YtepcaeajgnabbaaDoor.fun
