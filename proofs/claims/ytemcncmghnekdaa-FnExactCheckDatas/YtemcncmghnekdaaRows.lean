/-
  NARROWER THAN 'FOR EVERY INPUT', by the rows' own cells (each row's printed sentence says how): FnExactConOf: loops · FnExactConTag: loops · FnExactTagCon: loops · FnExactCheckDatas: loops.
  DERIVED. THE GIVEN ROWS OF THIS SEAT. 5 by the template 'for every input the law returns true; each argument reads behind the call as it read before'; 0 by the template 'total and deterministic' (their statements: YtemcncmghnekdaaTotals.lean).
  GIVEN WITH THE SEED: the statements are not yours to turn. If you find one false, say at which input.
  Laid BY PROGRAM, IN A SANDBOX (cutbox-rows.mjs): the forced cells as the released guide's own fill.sh prints them over the translation 7bb6a7aebca1c78c… (all of the seat's roots in one cut). By AI agents, Wed Nov 11 2026. No macro, syntax, notation, axiom, sorry.
-/
import Derived.Test.YtemcncmghnekdaaChecked
import GoSem.Claim
import GoSem.ClaimJoined
import GoSem.ClaimMapViews
import Derived.JoinedTies
import Derived.KernelRfl
namespace Go.Proofs.Ytemcncmghnekdaa
/- THE CELL 'sum', in the pinned program and in every row, IS THE sha256 OF THE DUMP (.gsa) THAT YtemcncmghnekdaaProg.lean LOADS. Nothing in Lean hashes anything: it is a label: what it is worth is what the hold of that sum in a sandbox is worth. -/
noncomputable def Try.pinned : Pinned := { name := "ytemcncmghnekdaa", sum := "7bb6a7aebca1c78caba1cc3d2637651c8cd65aff2a939735f42feeac27fcddc6", checked := Try.checked }
namespace Rows
def none {H : Type} : Left H := { results := [], args := [] }

/-- 'laws.FnTags': WHATEVER THE INPUT: true; the input reads as it did. -/
def fnTagsSpec : ChangeSpec := { name := "fnTags", fn := fun _ => fun
  | [d] => { results := [.lit (.bool true)], args := [d] }
  | _ => none }
def fnTagsRow : OpenClaim := { program := "ytemcncmghnekdaa", sum := "7bb6a7aebca1c78caba1cc3d2637651c8cd65aff2a939735f42feeac27fcddc6", func := "loop.example/g00323/laws.FnTags", spec := "fnTags", unfollowed := true, recurses := true, apart := false }
def FnTagsSaid : Prop := fnTagsRow.holds Try.pinned (OpenSpec.ofChange fnTagsSpec)

/-- ITS FALSE NEIGHBOUR: 'it returns false'. Refute it at one input. -/
def fnTagsWrong : ChangeSpec := { name := "fnTags", fn := fun _ => fun
  | [d] => { results := [.lit (.bool false)], args := [d] }
  | _ => none }
def FnTagsWrongFalsely : Prop := fnTagsRow.holds Try.pinned (OpenSpec.ofChange fnTagsWrong)

/-- 'laws.FnExactConOf': WHATEVER THE INPUT: true; the input reads as it did. -/
def fnExactConOfSpec : ChangeSpec := { name := "fnExactConOf", fn := fun _ => fun
  | [d1, d2] => { results := [.lit (.bool true)], args := [d1, d2] }
  | _ => none }
def fnExactConOfRow : OpenClaim := { program := "ytemcncmghnekdaa", sum := "7bb6a7aebca1c78caba1cc3d2637651c8cd65aff2a939735f42feeac27fcddc6", func := "loop.example/g00323/laws.FnExactConOf", spec := "fnExactConOf", unfollowed := true, recurses := true, loops := true, apart := false }
def FnExactConOfSaid : Prop := fnExactConOfRow.holds Try.pinned (OpenSpec.ofChange fnExactConOfSpec)

/-- ITS FALSE NEIGHBOUR: 'it returns false'. Refute it at one input. -/
def fnExactConOfWrong : ChangeSpec := { name := "fnExactConOf", fn := fun _ => fun
  | [d1, d2] => { results := [.lit (.bool false)], args := [d1, d2] }
  | _ => none }
def FnExactConOfWrongFalsely : Prop := fnExactConOfRow.holds Try.pinned (OpenSpec.ofChange fnExactConOfWrong)

/-- 'laws.FnExactConTag': WHATEVER THE INPUT: true; the input reads as it did. -/
def fnExactConTagSpec : ChangeSpec := { name := "fnExactConTag", fn := fun _ => fun
  | [d1, d2] => { results := [.lit (.bool true)], args := [d1, d2] }
  | _ => none }
def fnExactConTagRow : OpenClaim := { program := "ytemcncmghnekdaa", sum := "7bb6a7aebca1c78caba1cc3d2637651c8cd65aff2a939735f42feeac27fcddc6", func := "loop.example/g00323/laws.FnExactConTag", spec := "fnExactConTag", unfollowed := true, recurses := true, loops := true, apart := false }
def FnExactConTagSaid : Prop := fnExactConTagRow.holds Try.pinned (OpenSpec.ofChange fnExactConTagSpec)

/-- ITS FALSE NEIGHBOUR: 'it returns false'. Refute it at one input. -/
def fnExactConTagWrong : ChangeSpec := { name := "fnExactConTag", fn := fun _ => fun
  | [d1, d2] => { results := [.lit (.bool false)], args := [d1, d2] }
  | _ => none }
def FnExactConTagWrongFalsely : Prop := fnExactConTagRow.holds Try.pinned (OpenSpec.ofChange fnExactConTagWrong)

/-- 'laws.FnExactTagCon': WHATEVER THE INPUT: true; the input reads as it did. -/
def fnExactTagConSpec : ChangeSpec := { name := "fnExactTagCon", fn := fun _ => fun
  | [d1, d2] => { results := [.lit (.bool true)], args := [d1, d2] }
  | _ => none }
def fnExactTagConRow : OpenClaim := { program := "ytemcncmghnekdaa", sum := "7bb6a7aebca1c78caba1cc3d2637651c8cd65aff2a939735f42feeac27fcddc6", func := "loop.example/g00323/laws.FnExactTagCon", spec := "fnExactTagCon", unfollowed := true, recurses := true, loops := true, apart := false }
def FnExactTagConSaid : Prop := fnExactTagConRow.holds Try.pinned (OpenSpec.ofChange fnExactTagConSpec)

/-- ITS FALSE NEIGHBOUR: 'it returns false'. Refute it at one input. -/
def fnExactTagConWrong : ChangeSpec := { name := "fnExactTagCon", fn := fun _ => fun
  | [d1, d2] => { results := [.lit (.bool false)], args := [d1, d2] }
  | _ => none }
def FnExactTagConWrongFalsely : Prop := fnExactTagConRow.holds Try.pinned (OpenSpec.ofChange fnExactTagConWrong)

/-- 'laws.FnExactCheckDatas': WHATEVER THE INPUT: true; the input reads as it did. -/
def fnExactCheckDatasSpec : ChangeSpec := { name := "fnExactCheckDatas", fn := fun _ => fun
  | [d] => { results := [.lit (.bool true)], args := [d] }
  | _ => none }
def fnExactCheckDatasRow : OpenClaim := { program := "ytemcncmghnekdaa", sum := "7bb6a7aebca1c78caba1cc3d2637651c8cd65aff2a939735f42feeac27fcddc6", func := "loop.example/g00323/laws.FnExactCheckDatas", spec := "fnExactCheckDatas", unfollowed := true, recurses := true, loops := true, apart := false }
def FnExactCheckDatasSaid : Prop := fnExactCheckDatasRow.holds Try.pinned (OpenSpec.ofChange fnExactCheckDatasSpec)

/-- ITS FALSE NEIGHBOUR: 'it returns false'. Refute it at one input. -/
def fnExactCheckDatasWrong : ChangeSpec := { name := "fnExactCheckDatas", fn := fun _ => fun
  | [d] => { results := [.lit (.bool false)], args := [d] }
  | _ => none }
def FnExactCheckDatasWrongFalsely : Prop := fnExactCheckDatasRow.holds Try.pinned (OpenSpec.ofChange fnExactCheckDatasWrong)

/- THE SECOND FORM. 'bulk': how many values and letters a reading holds, each counted each time it is reached (what is shared counts as often as it is met; a slice's spare places count too). A statement '..UptoSaid' is the law's where the arguments, and the package variables that the reading takes, are together of bulk at most 1048576: NARROWER than '..Said'. Prove '..Said' where nothing that the law and all that it calls make is longer than what came in: it says more and counts as full. Else prove '..UptoSaid'. A law counts once. -/
mutual
def uptoBulk {H : Type} : DataW H → Nat
  | .lit (.string bytes) => bytes.length + 1
  | .lit _ => 1
  | .nil => 1
  | .ptr d => uptoBulk d + 1
  | .slice elems spare => uptoBulkAll elems + uptoBulkAll spare + 1
  | .agg parts => uptoBulkAll parts + 1
  | .iface _ d => uptoBulk d + 1
  | .map entries => uptoBulkEntries entries + 1
  | .held _ => 1
def uptoBulkAll {H : Type} : List (DataW H) → Nat
  | [] => 0
  | d :: r => uptoBulk d + uptoBulkAll r
def uptoBulkEntries {H : Type} : List (Lit × DataW H) → Nat
  | [] => 0
  | x :: r => uptoBulkEntry x + uptoBulkEntries r
def uptoBulkEntry {H : Type} : Lit × DataW H → Nat
  | (.string bytes, d) => bytes.length + uptoBulk d + 1
  | (_, d) => uptoBulk d + 1
 end
def uptoSmall : (H : Type) → List (DataW H) → Bool := fun _ ds => decide (uptoBulkAll ds ≤ 1048576)
def OpenSpec.upto (s : _root_.Go.ChangeSpec) : _root_.Go.OpenSpec := { _root_.Go.OpenSpec.ofChange s with cond := some uptoSmall }

/-- 'laws.FnTags', WHERE WHAT IT READS IS OF BULK AT MOST 1048576: true; the input reads as it did. -/
def fnTagsUptoRow : OpenClaim := { program := "ytemcncmghnekdaa", sum := "7bb6a7aebca1c78caba1cc3d2637651c8cd65aff2a939735f42feeac27fcddc6", func := "loop.example/g00323/laws.FnTags", spec := "fnTags", unfollowed := true, recurses := true, apart := false, narrowed := true }
def FnTagsUptoSaid : Prop := fnTagsUptoRow.holds Try.pinned (OpenSpec.upto fnTagsSpec)

/-- 'laws.FnExactConOf', WHERE WHAT IT READS IS OF BULK AT MOST 1048576: true; the input reads as it did. -/
def fnExactConOfUptoRow : OpenClaim := { program := "ytemcncmghnekdaa", sum := "7bb6a7aebca1c78caba1cc3d2637651c8cd65aff2a939735f42feeac27fcddc6", func := "loop.example/g00323/laws.FnExactConOf", spec := "fnExactConOf", unfollowed := true, recurses := true, loops := true, apart := false, narrowed := true }
def FnExactConOfUptoSaid : Prop := fnExactConOfUptoRow.holds Try.pinned (OpenSpec.upto fnExactConOfSpec)

/-- 'laws.FnExactConTag', WHERE WHAT IT READS IS OF BULK AT MOST 1048576: true; the input reads as it did. -/
def fnExactConTagUptoRow : OpenClaim := { program := "ytemcncmghnekdaa", sum := "7bb6a7aebca1c78caba1cc3d2637651c8cd65aff2a939735f42feeac27fcddc6", func := "loop.example/g00323/laws.FnExactConTag", spec := "fnExactConTag", unfollowed := true, recurses := true, loops := true, apart := false, narrowed := true }
def FnExactConTagUptoSaid : Prop := fnExactConTagUptoRow.holds Try.pinned (OpenSpec.upto fnExactConTagSpec)

/-- 'laws.FnExactTagCon', WHERE WHAT IT READS IS OF BULK AT MOST 1048576: true; the input reads as it did. -/
def fnExactTagConUptoRow : OpenClaim := { program := "ytemcncmghnekdaa", sum := "7bb6a7aebca1c78caba1cc3d2637651c8cd65aff2a939735f42feeac27fcddc6", func := "loop.example/g00323/laws.FnExactTagCon", spec := "fnExactTagCon", unfollowed := true, recurses := true, loops := true, apart := false, narrowed := true }
def FnExactTagConUptoSaid : Prop := fnExactTagConUptoRow.holds Try.pinned (OpenSpec.upto fnExactTagConSpec)

/-- 'laws.FnExactCheckDatas', WHERE WHAT IT READS IS OF BULK AT MOST 1048576: true; the input reads as it did. -/
def fnExactCheckDatasUptoRow : OpenClaim := { program := "ytemcncmghnekdaa", sum := "7bb6a7aebca1c78caba1cc3d2637651c8cd65aff2a939735f42feeac27fcddc6", func := "loop.example/g00323/laws.FnExactCheckDatas", spec := "fnExactCheckDatas", unfollowed := true, recurses := true, loops := true, apart := false, narrowed := true }
def FnExactCheckDatasUptoSaid : Prop := fnExactCheckDatasUptoRow.holds Try.pinned (OpenSpec.upto fnExactCheckDatasSpec)

end Rows
end Go.Proofs.Ytemcncmghnekdaa
