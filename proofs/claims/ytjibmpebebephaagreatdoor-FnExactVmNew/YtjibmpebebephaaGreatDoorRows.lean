/-
  NARROWER THAN 'FOR EVERY INPUT', by the rows' own cells (each row's printed sentence says how): FnExactVmOk: laid · FnExactVmNew: laid.
  DERIVED. THE GIVEN ROWS OF THIS SEAT. 2 by the template 'for every input the law returns true; each argument reads behind the call as it read before'; 0 by the template 'total and deterministic' (their statements: YtjibmpebebephaaGreatDoorTotals.lean).
  GIVEN WITH THE SEED: the statements are not yours to turn. If you find one false, say at which input.
  Laid BY PROGRAM, IN A SANDBOX (cutbox-rows.mjs): the forced cells as the released guide's own fill.sh prints them over the translation afe8f17a40e3dc0c… (all of the seat's roots in one cut). By AI agents, Wed Nov 11 2026. No macro, syntax, notation, axiom, sorry.
-/
import Derived.Test.YtjibmpebebephaaGreatDoorChecked
import GoSem.Claim
import GoSem.ClaimJoined
import GoSem.ClaimMapViews
import Derived.JoinedTies
import Derived.KernelRfl
namespace Go.Proofs.YtjibmpebebephaaGreatDoor
/- THE CELL 'sum', in the pinned program and in every row, IS THE sha256 OF THE DUMP (.gsa) THAT YtjibmpebebephaaGreatDoorProg.lean LOADS. Nothing in Lean hashes anything: it is a label: what it is worth is what the hold of that sum in a sandbox is worth. -/
noncomputable def Tryz.pinned : Pinned := { name := "ytjibmpebebephaagreatdoor", sum := "afe8f17a40e3dc0c3fc4a0a17367121405a326eff0a034caf5993ded0f5dc575", checked := Tryz.checked }
namespace Rows
def none {H : Type} : Left H := { results := [], args := [] }

/- WHAT THE LISTED PACKAGE-LEVEL VARIABLES READ AS WHEN THE CALL BEGINS. Each datum BY PROGRAM (the guide's laid-datum.mjs) off the statement by which the dump's own 'gosem.cut.vars' lays the variable. In a bare row this is a premise. The card (YtjibmpebebephaaGreatDoorCards.lean) ties it to the program's text. -/
def laid_loop_example_g00323_impl_opNames {H : Type} : DataW H := .agg [.agg [.lit (.int .u8 0), .lit (.int .u8 0), .lit (.int .u8 0), .lit (.int .u8 0), .lit (.int .u8 0)], .agg [.lit (.int .u8 110), .lit (.int .u8 117), .lit (.int .u8 109), .lit (.int .u8 0), .lit (.int .u8 0)], .agg [.lit (.int .u8 108), .lit (.int .u8 111), .lit (.int .u8 99), .lit (.int .u8 97), .lit (.int .u8 108)], .agg [.lit (.int .u8 102), .lit (.int .u8 114), .lit (.int .u8 101), .lit (.int .u8 101), .lit (.int .u8 0)], .agg [.lit (.int .u8 115), .lit (.int .u8 101), .lit (.int .u8 108), .lit (.int .u8 102), .lit (.int .u8 0)], .agg [.lit (.int .u8 99), .lit (.int .u8 108), .lit (.int .u8 111), .lit (.int .u8 115), .lit (.int .u8 0)], .agg [.lit (.int .u8 99), .lit (.int .u8 97), .lit (.int .u8 108), .lit (.int .u8 108), .lit (.int .u8 0)], .agg [.lit (.int .u8 114), .lit (.int .u8 101), .lit (.int .u8 116), .lit (.int .u8 0), .lit (.int .u8 0)], .agg [.lit (.int .u8 99), .lit (.int .u8 111), .lit (.int .u8 110), .lit (.int .u8 0), .lit (.int .u8 0)], .agg [.lit (.int .u8 102), .lit (.int .u8 105), .lit (.int .u8 101), .lit (.int .u8 108), .lit (.int .u8 100)], .agg [.lit (.int .u8 105), .lit (.int .u8 115), .lit (.int .u8 99), .lit (.int .u8 111), .lit (.int .u8 110)], .agg [.lit (.int .u8 105), .lit (.int .u8 115), .lit (.int .u8 110), .lit (.int .u8 117), .lit (.int .u8 109)], .agg [.lit (.int .u8 97), .lit (.int .u8 100), .lit (.int .u8 100), .lit (.int .u8 0), .lit (.int .u8 0)], .agg [.lit (.int .u8 115), .lit (.int .u8 117), .lit (.int .u8 98), .lit (.int .u8 0), .lit (.int .u8 0)], .agg [.lit (.int .u8 109), .lit (.int .u8 117), .lit (.int .u8 108), .lit (.int .u8 0), .lit (.int .u8 0)], .agg [.lit (.int .u8 108), .lit (.int .u8 101), .lit (.int .u8 115), .lit (.int .u8 115), .lit (.int .u8 0)], .agg [.lit (.int .u8 115), .lit (.int .u8 97), .lit (.int .u8 109), .lit (.int .u8 101), .lit (.int .u8 0)], .agg [.lit (.int .u8 112), .lit (.int .u8 117), .lit (.int .u8 116), .lit (.int .u8 0), .lit (.int .u8 0)], .agg [.lit (.int .u8 122), .lit (.int .u8 101), .lit (.int .u8 114), .lit (.int .u8 111), .lit (.int .u8 0)], .agg [.lit (.int .u8 106), .lit (.int .u8 117), .lit (.int .u8 109), .lit (.int .u8 112), .lit (.int .u8 0)], .agg [.lit (.int .u8 115), .lit (.int .u8 108), .lit (.int .u8 105), .lit (.int .u8 100), .lit (.int .u8 101)], .agg [.lit (.int .u8 102), .lit (.int .u8 97), .lit (.int .u8 105), .lit (.int .u8 108), .lit (.int .u8 0)]]

/-- 'laws.FnExactVmOk': WHATEVER THE INPUT: true; the input reads as it did. -/
def fnExactVmOkSpec : ChangeSpec := { name := "fnExactVmOk", vars := ["loop.example/g00323/impl.opNames"], fn := fun _ => fun
  | [d, g1] => { results := [.lit (.bool true)], args := [d], vars := [g1] }
  | _ => none }
def fnExactVmOkRow : OpenClaim := { program := "ytjibmpebebephaagreatdoor", sum := "afe8f17a40e3dc0c3fc4a0a17367121405a326eff0a034caf5993ded0f5dc575", func := "loop.example/g00323/laws.FnExactVmOk", spec := "fnExactVmOk", inPlace := ["sync/atomic.AddInt64", "sync/atomic.LoadInt64", "(*internal/sync.Mutex).Lock", "internal/race.Disable", "sync/atomic.CompareAndSwapInt32", "internal/race.Enable", "internal/race.Acquire", "(*internal/sync.Mutex).lockSlow", "internal/sync.runtime_canSpin", "internal/sync.runtime_doSpin", "internal/sync.throw", "internal/sync.runtime_nanotime", "internal/sync.runtime_SemacquireMutex", "sync/atomic.AddInt32", "(*internal/sync.Mutex).Unlock", "internal/race.ReleaseMerge", "(*internal/sync.Mutex).unlockSlow", "internal/sync.fatal", "internal/sync.runtime_Semrelease"], unfollowed := true, recurses := true, named := ["loop.example/g00323/impl.opNames"], apart := false, laid := [("loop.example/g00323/impl.opNames", laid_loop_example_g00323_impl_opNames)] }
def FnExactVmOkSaid : Prop := fnExactVmOkRow.holds Tryz.pinned (OpenSpec.ofChange fnExactVmOkSpec)

/-- ITS FALSE NEIGHBOUR: 'it returns false'. Refute it at one input. -/
def fnExactVmOkWrong : ChangeSpec := { name := "fnExactVmOk", vars := ["loop.example/g00323/impl.opNames"], fn := fun _ => fun
  | [d, g1] => { results := [.lit (.bool false)], args := [d], vars := [g1] }
  | _ => none }
def FnExactVmOkWrongFalsely : Prop := fnExactVmOkRow.holds Tryz.pinned (OpenSpec.ofChange fnExactVmOkWrong)

/-- 'laws.FnExactVmNew': WHATEVER THE INPUT: true; the input reads as it did. -/
def fnExactVmNewSpec : ChangeSpec := { name := "fnExactVmNew", vars := ["loop.example/g00323/impl.opNames"], fn := fun _ => fun
  | [d1, d2, d3, g1] => { results := [.lit (.bool true)], args := [d1, d2, d3], vars := [g1] }
  | _ => none }
def fnExactVmNewRow : OpenClaim := { program := "ytjibmpebebephaagreatdoor", sum := "afe8f17a40e3dc0c3fc4a0a17367121405a326eff0a034caf5993ded0f5dc575", func := "loop.example/g00323/laws.FnExactVmNew", spec := "fnExactVmNew", inPlace := ["sync/atomic.AddInt64", "sync/atomic.LoadInt64", "(*internal/sync.Mutex).Lock", "internal/race.Disable", "sync/atomic.CompareAndSwapInt32", "internal/race.Enable", "internal/race.Acquire", "(*internal/sync.Mutex).lockSlow", "internal/sync.runtime_canSpin", "internal/sync.runtime_doSpin", "internal/sync.throw", "internal/sync.runtime_nanotime", "internal/sync.runtime_SemacquireMutex", "sync/atomic.AddInt32", "(*internal/sync.Mutex).Unlock", "internal/race.ReleaseMerge", "(*internal/sync.Mutex).unlockSlow", "internal/sync.fatal", "internal/sync.runtime_Semrelease"], unfollowed := true, recurses := true, named := ["loop.example/g00323/impl.opNames"], apart := false, laid := [("loop.example/g00323/impl.opNames", laid_loop_example_g00323_impl_opNames)] }
def FnExactVmNewSaid : Prop := fnExactVmNewRow.holds Tryz.pinned (OpenSpec.ofChange fnExactVmNewSpec)

/-- ITS FALSE NEIGHBOUR: 'it returns false'. Refute it at one input. -/
def fnExactVmNewWrong : ChangeSpec := { name := "fnExactVmNew", vars := ["loop.example/g00323/impl.opNames"], fn := fun _ => fun
  | [d1, d2, d3, g1] => { results := [.lit (.bool false)], args := [d1, d2, d3], vars := [g1] }
  | _ => none }
def FnExactVmNewWrongFalsely : Prop := fnExactVmNewRow.holds Tryz.pinned (OpenSpec.ofChange fnExactVmNewWrong)

/- THE SECOND FORM. 'bulk': how many values and letters a reading holds, each counted each time it is reached (what is shared counts as often as it is met; a slice's spare places count too). A statement '..UptoSaid' is the law's where the arguments, and the package variables that the reading takes, are together of bulk at most 1048576: NARROWER than '..Said'. Prove '..Said' where nothing that the law and all that it calls make is longer than what came in: it says more and counts as full. Else prove '..UptoSaid'. A law counts once. -/
mutual
def uptoBulk {H : Type} : DataW H → Nat
  | .lit (.string bytes) => bytes.length + 1
  | .lit _ => 1
  | .nil => 1
  | .ptr d => uptoBulk d + 1
  | .slice elems spare => uptoBulkAll elems + uptoBulkAll spare + 1
  | .agg parts => uptoBulkAll parts + 1
  | .iface _ d => uptoBulk d + 1
  | .map entries => uptoBulkEntries entries + 1
  | .held _ => 1
def uptoBulkAll {H : Type} : List (DataW H) → Nat
  | [] => 0
  | d :: r => uptoBulk d + uptoBulkAll r
def uptoBulkEntries {H : Type} : List (Lit × DataW H) → Nat
  | [] => 0
  | x :: r => uptoBulkEntry x + uptoBulkEntries r
def uptoBulkEntry {H : Type} : Lit × DataW H → Nat
  | (.string bytes, d) => bytes.length + uptoBulk d + 1
  | (_, d) => uptoBulk d + 1
 end
def uptoSmall : (H : Type) → List (DataW H) → Bool := fun _ ds => decide (uptoBulkAll ds ≤ 1048576)
def OpenSpec.upto (s : _root_.Go.ChangeSpec) : _root_.Go.OpenSpec := { _root_.Go.OpenSpec.ofChange s with cond := some uptoSmall }

/-- 'laws.FnExactVmOk', WHERE WHAT IT READS IS OF BULK AT MOST 1048576: true; the input reads as it did. -/
def fnExactVmOkUptoRow : OpenClaim := { program := "ytjibmpebebephaagreatdoor", sum := "afe8f17a40e3dc0c3fc4a0a17367121405a326eff0a034caf5993ded0f5dc575", func := "loop.example/g00323/laws.FnExactVmOk", spec := "fnExactVmOk", inPlace := ["sync/atomic.AddInt64", "sync/atomic.LoadInt64", "(*internal/sync.Mutex).Lock", "internal/race.Disable", "sync/atomic.CompareAndSwapInt32", "internal/race.Enable", "internal/race.Acquire", "(*internal/sync.Mutex).lockSlow", "internal/sync.runtime_canSpin", "internal/sync.runtime_doSpin", "internal/sync.throw", "internal/sync.runtime_nanotime", "internal/sync.runtime_SemacquireMutex", "sync/atomic.AddInt32", "(*internal/sync.Mutex).Unlock", "internal/race.ReleaseMerge", "(*internal/sync.Mutex).unlockSlow", "internal/sync.fatal", "internal/sync.runtime_Semrelease"], unfollowed := true, recurses := true, named := ["loop.example/g00323/impl.opNames"], apart := false, laid := [("loop.example/g00323/impl.opNames", laid_loop_example_g00323_impl_opNames)], narrowed := true }
def FnExactVmOkUptoSaid : Prop := fnExactVmOkUptoRow.holds Tryz.pinned (OpenSpec.upto fnExactVmOkSpec)

/-- 'laws.FnExactVmNew', WHERE WHAT IT READS IS OF BULK AT MOST 1048576: true; the input reads as it did. -/
def fnExactVmNewUptoRow : OpenClaim := { program := "ytjibmpebebephaagreatdoor", sum := "afe8f17a40e3dc0c3fc4a0a17367121405a326eff0a034caf5993ded0f5dc575", func := "loop.example/g00323/laws.FnExactVmNew", spec := "fnExactVmNew", inPlace := ["sync/atomic.AddInt64", "sync/atomic.LoadInt64", "(*internal/sync.Mutex).Lock", "internal/race.Disable", "sync/atomic.CompareAndSwapInt32", "internal/race.Enable", "internal/race.Acquire", "(*internal/sync.Mutex).lockSlow", "internal/sync.runtime_canSpin", "internal/sync.runtime_doSpin", "internal/sync.throw", "internal/sync.runtime_nanotime", "internal/sync.runtime_SemacquireMutex", "sync/atomic.AddInt32", "(*internal/sync.Mutex).Unlock", "internal/race.ReleaseMerge", "(*internal/sync.Mutex).unlockSlow", "internal/sync.fatal", "internal/sync.runtime_Semrelease"], unfollowed := true, recurses := true, named := ["loop.example/g00323/impl.opNames"], apart := false, laid := [("loop.example/g00323/impl.opNames", laid_loop_example_g00323_impl_opNames)], narrowed := true }
def FnExactVmNewUptoSaid : Prop := fnExactVmNewUptoRow.holds Tryz.pinned (OpenSpec.upto fnExactVmNewSpec)

end Rows
end Go.Proofs.YtjibmpebebephaaGreatDoor
