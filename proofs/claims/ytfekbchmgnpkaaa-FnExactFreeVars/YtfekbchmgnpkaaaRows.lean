/-
  NARROWER THAN 'FOR EVERY INPUT', by the rows' own cells (each row's printed sentence says how): FnExactTySize: loops · FnExactTyOk: loops · FnExactSubOk: loops · FnExactFreeVars: loops · FnExactUnify: loops · FnExactCheckDatas: loops.
  DERIVED. THE GIVEN ROWS OF THIS SEAT. 6 by the template 'for every input the law returns true; each argument reads behind the call as it read before'; 0 by the template 'total and deterministic' (their statements: YtfekbchmgnpkaaaTotals.lean).
  GIVEN WITH THE SEED: the statements are not yours to turn. If you find one false, say at which input.
  Laid BY PROGRAM, IN A SANDBOX (cutbox-rows.mjs): the forced cells as the released guide's own fill.sh prints them over the translation 1a94b7a29f933a4a… (all of the seat's roots in one cut). By AI agents, Wed Nov 11 2026. No macro, syntax, notation, axiom, sorry.
-/
import Derived.Test.YtfekbchmgnpkaaaChecked
import GoSem.Claim
import GoSem.ClaimJoined
import GoSem.ClaimMapViews
import Derived.JoinedTies
import Derived.KernelRfl
namespace Go.Proofs.Ytfekbchmgnpkaaa
/- THE CELL 'sum', in the pinned program and in every row, IS THE sha256 OF THE DUMP (.gsa) THAT YtfekbchmgnpkaaaProg.lean LOADS. Nothing in Lean hashes anything: it is a label: what it is worth is what the hold of that sum in a sandbox is worth. -/
noncomputable def Try.pinned : Pinned := { name := "ytfekbchmgnpkaaa", sum := "1a94b7a29f933a4a5eb28c4e5dd2711ebf4fef21782fbc27bfb891096b2b3242", checked := Try.checked }
namespace Rows
def none {H : Type} : Left H := { results := [], args := [] }

/-- 'laws.FnExactTySize': WHATEVER THE INPUT: true; the input reads as it did. -/
def fnExactTySizeSpec : ChangeSpec := { name := "fnExactTySize", fn := fun _ => fun
  | [d] => { results := [.lit (.bool true)], args := [d] }
  | _ => none }
def fnExactTySizeRow : OpenClaim := { program := "ytfekbchmgnpkaaa", sum := "1a94b7a29f933a4a5eb28c4e5dd2711ebf4fef21782fbc27bfb891096b2b3242", func := "loop.example/g00323/laws.FnExactTySize", spec := "fnExactTySize", unfollowed := true, recurses := true, loops := true, apart := false }
def FnExactTySizeSaid : Prop := fnExactTySizeRow.holds Try.pinned (OpenSpec.ofChange fnExactTySizeSpec)

/-- ITS FALSE NEIGHBOUR: 'it returns false'. Refute it at one input. -/
def fnExactTySizeWrong : ChangeSpec := { name := "fnExactTySize", fn := fun _ => fun
  | [d] => { results := [.lit (.bool false)], args := [d] }
  | _ => none }
def FnExactTySizeWrongFalsely : Prop := fnExactTySizeRow.holds Try.pinned (OpenSpec.ofChange fnExactTySizeWrong)

/-- 'laws.FnExactTyOk': WHATEVER THE INPUT: true; the input reads as it did. -/
def fnExactTyOkSpec : ChangeSpec := { name := "fnExactTyOk", fn := fun _ => fun
  | [d] => { results := [.lit (.bool true)], args := [d] }
  | _ => none }
def fnExactTyOkRow : OpenClaim := { program := "ytfekbchmgnpkaaa", sum := "1a94b7a29f933a4a5eb28c4e5dd2711ebf4fef21782fbc27bfb891096b2b3242", func := "loop.example/g00323/laws.FnExactTyOk", spec := "fnExactTyOk", unfollowed := true, recurses := true, loops := true, apart := false }
def FnExactTyOkSaid : Prop := fnExactTyOkRow.holds Try.pinned (OpenSpec.ofChange fnExactTyOkSpec)

/-- ITS FALSE NEIGHBOUR: 'it returns false'. Refute it at one input. -/
def fnExactTyOkWrong : ChangeSpec := { name := "fnExactTyOk", fn := fun _ => fun
  | [d] => { results := [.lit (.bool false)], args := [d] }
  | _ => none }
def FnExactTyOkWrongFalsely : Prop := fnExactTyOkRow.holds Try.pinned (OpenSpec.ofChange fnExactTyOkWrong)

/-- 'laws.FnExactSubOk': WHATEVER THE INPUT: true; the input reads as it did. -/
def fnExactSubOkSpec : ChangeSpec := { name := "fnExactSubOk", fn := fun _ => fun
  | [d] => { results := [.lit (.bool true)], args := [d] }
  | _ => none }
def fnExactSubOkRow : OpenClaim := { program := "ytfekbchmgnpkaaa", sum := "1a94b7a29f933a4a5eb28c4e5dd2711ebf4fef21782fbc27bfb891096b2b3242", func := "loop.example/g00323/laws.FnExactSubOk", spec := "fnExactSubOk", unfollowed := true, recurses := true, loops := true, apart := false }
def FnExactSubOkSaid : Prop := fnExactSubOkRow.holds Try.pinned (OpenSpec.ofChange fnExactSubOkSpec)

/-- ITS FALSE NEIGHBOUR: 'it returns false'. Refute it at one input. -/
def fnExactSubOkWrong : ChangeSpec := { name := "fnExactSubOk", fn := fun _ => fun
  | [d] => { results := [.lit (.bool false)], args := [d] }
  | _ => none }
def FnExactSubOkWrongFalsely : Prop := fnExactSubOkRow.holds Try.pinned (OpenSpec.ofChange fnExactSubOkWrong)

/-- 'laws.FnExactFreeVars': WHATEVER THE INPUT: true; the input reads as it did. -/
def fnExactFreeVarsSpec : ChangeSpec := { name := "fnExactFreeVars", fn := fun _ => fun
  | [d] => { results := [.lit (.bool true)], args := [d] }
  | _ => none }
def fnExactFreeVarsRow : OpenClaim := { program := "ytfekbchmgnpkaaa", sum := "1a94b7a29f933a4a5eb28c4e5dd2711ebf4fef21782fbc27bfb891096b2b3242", func := "loop.example/g00323/laws.FnExactFreeVars", spec := "fnExactFreeVars", unfollowed := true, recurses := true, loops := true, apart := false }
def FnExactFreeVarsSaid : Prop := fnExactFreeVarsRow.holds Try.pinned (OpenSpec.ofChange fnExactFreeVarsSpec)

/-- ITS FALSE NEIGHBOUR: 'it returns false'. Refute it at one input. -/
def fnExactFreeVarsWrong : ChangeSpec := { name := "fnExactFreeVars", fn := fun _ => fun
  | [d] => { results := [.lit (.bool false)], args := [d] }
  | _ => none }
def FnExactFreeVarsWrongFalsely : Prop := fnExactFreeVarsRow.holds Try.pinned (OpenSpec.ofChange fnExactFreeVarsWrong)

/-- 'laws.FnExactUnify': WHATEVER THE INPUT: true; the input reads as it did. -/
def fnExactUnifySpec : ChangeSpec := { name := "fnExactUnify", fn := fun _ => fun
  | [d1, d2, d3] => { results := [.lit (.bool true)], args := [d1, d2, d3] }
  | _ => none }
def fnExactUnifyRow : OpenClaim := { program := "ytfekbchmgnpkaaa", sum := "1a94b7a29f933a4a5eb28c4e5dd2711ebf4fef21782fbc27bfb891096b2b3242", func := "loop.example/g00323/laws.FnExactUnify", spec := "fnExactUnify", unfollowed := true, recurses := true, loops := true, apart := false }
def FnExactUnifySaid : Prop := fnExactUnifyRow.holds Try.pinned (OpenSpec.ofChange fnExactUnifySpec)

/-- ITS FALSE NEIGHBOUR: 'it returns false'. Refute it at one input. -/
def fnExactUnifyWrong : ChangeSpec := { name := "fnExactUnify", fn := fun _ => fun
  | [d1, d2, d3] => { results := [.lit (.bool false)], args := [d1, d2, d3] }
  | _ => none }
def FnExactUnifyWrongFalsely : Prop := fnExactUnifyRow.holds Try.pinned (OpenSpec.ofChange fnExactUnifyWrong)

/-- 'laws.FnExactCheckDatas': WHATEVER THE INPUT: true; the input reads as it did. -/
def fnExactCheckDatasSpec : ChangeSpec := { name := "fnExactCheckDatas", fn := fun _ => fun
  | [d] => { results := [.lit (.bool true)], args := [d] }
  | _ => none }
def fnExactCheckDatasRow : OpenClaim := { program := "ytfekbchmgnpkaaa", sum := "1a94b7a29f933a4a5eb28c4e5dd2711ebf4fef21782fbc27bfb891096b2b3242", func := "loop.example/g00323/laws.FnExactCheckDatas", spec := "fnExactCheckDatas", unfollowed := true, recurses := true, loops := true, apart := false }
def FnExactCheckDatasSaid : Prop := fnExactCheckDatasRow.holds Try.pinned (OpenSpec.ofChange fnExactCheckDatasSpec)

/-- ITS FALSE NEIGHBOUR: 'it returns false'. Refute it at one input. -/
def fnExactCheckDatasWrong : ChangeSpec := { name := "fnExactCheckDatas", fn := fun _ => fun
  | [d] => { results := [.lit (.bool false)], args := [d] }
  | _ => none }
def FnExactCheckDatasWrongFalsely : Prop := fnExactCheckDatasRow.holds Try.pinned (OpenSpec.ofChange fnExactCheckDatasWrong)

/- THE SECOND FORM. 'bulk': how many values and letters a reading holds, each counted each time it is reached (what is shared counts as often as it is met; a slice's spare places count too). A statement '..UptoSaid' is the law's where the arguments, and the package variables that the reading takes, are together of bulk at most 1048576: NARROWER than '..Said'. Prove '..Said' where nothing that the law and all that it calls make is longer than what came in: it says more and counts as full. Else prove '..UptoSaid'. A law counts once. -/
mutual
def uptoBulk {H : Type} : DataW H → Nat
  | .lit (.string bytes) => bytes.length + 1
  | .lit _ => 1
  | .nil => 1
  | .ptr d => uptoBulk d + 1
  | .slice elems spare => uptoBulkAll elems + uptoBulkAll spare + 1
  | .agg parts => uptoBulkAll parts + 1
  | .iface _ d => uptoBulk d + 1
  | .map entries => uptoBulkEntries entries + 1
  | .held _ => 1
def uptoBulkAll {H : Type} : List (DataW H) → Nat
  | [] => 0
  | d :: r => uptoBulk d + uptoBulkAll r
def uptoBulkEntries {H : Type} : List (Lit × DataW H) → Nat
  | [] => 0
  | x :: r => uptoBulkEntry x + uptoBulkEntries r
def uptoBulkEntry {H : Type} : Lit × DataW H → Nat
  | (.string bytes, d) => bytes.length + uptoBulk d + 1
  | (_, d) => uptoBulk d + 1
 end
def uptoSmall : (H : Type) → List (DataW H) → Bool := fun _ ds => decide (uptoBulkAll ds ≤ 1048576)
def OpenSpec.upto (s : _root_.Go.ChangeSpec) : _root_.Go.OpenSpec := { _root_.Go.OpenSpec.ofChange s with cond := some uptoSmall }

/-- 'laws.FnExactTySize', WHERE WHAT IT READS IS OF BULK AT MOST 1048576: true; the input reads as it did. -/
def fnExactTySizeUptoRow : OpenClaim := { program := "ytfekbchmgnpkaaa", sum := "1a94b7a29f933a4a5eb28c4e5dd2711ebf4fef21782fbc27bfb891096b2b3242", func := "loop.example/g00323/laws.FnExactTySize", spec := "fnExactTySize", unfollowed := true, recurses := true, loops := true, apart := false, narrowed := true }
def FnExactTySizeUptoSaid : Prop := fnExactTySizeUptoRow.holds Try.pinned (OpenSpec.upto fnExactTySizeSpec)

/-- 'laws.FnExactTyOk', WHERE WHAT IT READS IS OF BULK AT MOST 1048576: true; the input reads as it did. -/
def fnExactTyOkUptoRow : OpenClaim := { program := "ytfekbchmgnpkaaa", sum := "1a94b7a29f933a4a5eb28c4e5dd2711ebf4fef21782fbc27bfb891096b2b3242", func := "loop.example/g00323/laws.FnExactTyOk", spec := "fnExactTyOk", unfollowed := true, recurses := true, loops := true, apart := false, narrowed := true }
def FnExactTyOkUptoSaid : Prop := fnExactTyOkUptoRow.holds Try.pinned (OpenSpec.upto fnExactTyOkSpec)

/-- 'laws.FnExactSubOk', WHERE WHAT IT READS IS OF BULK AT MOST 1048576: true; the input reads as it did. -/
def fnExactSubOkUptoRow : OpenClaim := { program := "ytfekbchmgnpkaaa", sum := "1a94b7a29f933a4a5eb28c4e5dd2711ebf4fef21782fbc27bfb891096b2b3242", func := "loop.example/g00323/laws.FnExactSubOk", spec := "fnExactSubOk", unfollowed := true, recurses := true, loops := true, apart := false, narrowed := true }
def FnExactSubOkUptoSaid : Prop := fnExactSubOkUptoRow.holds Try.pinned (OpenSpec.upto fnExactSubOkSpec)

/-- 'laws.FnExactFreeVars', WHERE WHAT IT READS IS OF BULK AT MOST 1048576: true; the input reads as it did. -/
def fnExactFreeVarsUptoRow : OpenClaim := { program := "ytfekbchmgnpkaaa", sum := "1a94b7a29f933a4a5eb28c4e5dd2711ebf4fef21782fbc27bfb891096b2b3242", func := "loop.example/g00323/laws.FnExactFreeVars", spec := "fnExactFreeVars", unfollowed := true, recurses := true, loops := true, apart := false, narrowed := true }
def FnExactFreeVarsUptoSaid : Prop := fnExactFreeVarsUptoRow.holds Try.pinned (OpenSpec.upto fnExactFreeVarsSpec)

/-- 'laws.FnExactUnify', WHERE WHAT IT READS IS OF BULK AT MOST 1048576: true; the input reads as it did. -/
def fnExactUnifyUptoRow : OpenClaim := { program := "ytfekbchmgnpkaaa", sum := "1a94b7a29f933a4a5eb28c4e5dd2711ebf4fef21782fbc27bfb891096b2b3242", func := "loop.example/g00323/laws.FnExactUnify", spec := "fnExactUnify", unfollowed := true, recurses := true, loops := true, apart := false, narrowed := true }
def FnExactUnifyUptoSaid : Prop := fnExactUnifyUptoRow.holds Try.pinned (OpenSpec.upto fnExactUnifySpec)

/-- 'laws.FnExactCheckDatas', WHERE WHAT IT READS IS OF BULK AT MOST 1048576: true; the input reads as it did. -/
def fnExactCheckDatasUptoRow : OpenClaim := { program := "ytfekbchmgnpkaaa", sum := "1a94b7a29f933a4a5eb28c4e5dd2711ebf4fef21782fbc27bfb891096b2b3242", func := "loop.example/g00323/laws.FnExactCheckDatas", spec := "fnExactCheckDatas", unfollowed := true, recurses := true, loops := true, apart := false, narrowed := true }
def FnExactCheckDatasUptoSaid : Prop := fnExactCheckDatasUptoRow.holds Try.pinned (OpenSpec.upto fnExactCheckDatasSpec)

end Rows
end Go.Proofs.Ytfekbchmgnpkaaa
