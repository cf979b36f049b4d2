/-
  No cell of these rows narrows 'for every input' (looked for: loops, veiled, ifaces, maps, wideKeys, modest, calm, conditions, laid).
  DERIVED. THE GIVEN ROWS OF THIS SEAT. 4 by the template 'for every input the law returns true; each argument reads behind the call as it read before'; 0 by the template 'total and deterministic' (their statements: YtjocbmoelkobaaaTotals.lean).
  GIVEN WITH THE SEED: the statements are not yours to turn. If you find one false, say at which input.
  Laid BY PROGRAM, IN A SANDBOX (cutbox-rows.mjs): the forced cells as the released guide's own fill.sh prints them over the translation c88713292ed8c32f… (all of the seat's roots in one cut). By AI agents, Wed Nov 11 2026. No macro, syntax, notation, axiom, sorry.
-/
import Derived.Test.YtjocbmoelkobaaaChecked
import GoSem.Claim
import GoSem.ClaimJoined
import GoSem.ClaimMapViews
import Derived.JoinedTies
import Derived.KernelRfl
namespace Go.Proofs.Ytjocbmoelkobaaa
/- THE CELL 'sum', in the pinned program and in every row, IS THE sha256 OF THE DUMP (.gsa) THAT YtjocbmoelkobaaaProg.lean LOADS. Nothing in Lean hashes anything: it is a label: what it is worth is what the hold of that sum in a sandbox is worth. -/
noncomputable def Try.pinned : Pinned := { name := "ytjocbmoelkobaaa", sum := "c88713292ed8c32f5ef40fa44c7e9b6bbdc2aed5134d94e40883b6c5aa5aaa03", checked := Try.checked }
namespace Rows
def none {H : Type} : Left H := { results := [], args := [] }

/-- 'leapfroglaw13.LatchSteps': WHATEVER THE INPUT: true; the input reads as it did. -/
def latchStepsSpec : ChangeSpec := { name := "latchSteps", fn := fun _ => fun
  | [d1, d2] => { results := [.lit (.bool true)], args := [d1, d2] }
  | _ => none }
def latchStepsRow : OpenClaim := { program := "ytjocbmoelkobaaa", sum := "c88713292ed8c32f5ef40fa44c7e9b6bbdc2aed5134d94e40883b6c5aa5aaa03", func := "leapfrog/leapfroglaw13.LatchSteps", spec := "latchSteps", inPlace := ["sync/atomic.StoreUint64", "sync/atomic.LoadUint64", "sync/atomic.CompareAndSwapUint64", "sync/atomic.SwapUint64"], unfollowed := true, recurses := true, apart := false }
def LatchStepsSaid : Prop := latchStepsRow.holds Try.pinned (OpenSpec.ofChange latchStepsSpec)

/-- ITS FALSE NEIGHBOUR: 'it returns false'. Refute it at one input. -/
def latchStepsWrong : ChangeSpec := { name := "latchSteps", fn := fun _ => fun
  | [d1, d2] => { results := [.lit (.bool false)], args := [d1, d2] }
  | _ => none }
def LatchStepsWrongFalsely : Prop := latchStepsRow.holds Try.pinned (OpenSpec.ofChange latchStepsWrong)

/-- 'leapfroglaw13.LatchExamples': WHATEVER THE INPUT: true; the input reads as it did. -/
def latchExamplesSpec : ChangeSpec := { name := "latchExamples", fn := fun _ => fun
  | [] => { results := [.lit (.bool true)], args := [] }
  | _ => none }
def latchExamplesRow : OpenClaim := { program := "ytjocbmoelkobaaa", sum := "c88713292ed8c32f5ef40fa44c7e9b6bbdc2aed5134d94e40883b6c5aa5aaa03", func := "leapfrog/leapfroglaw13.LatchExamples", spec := "latchExamples", inPlace := ["sync/atomic.StoreUint64", "sync/atomic.LoadUint64", "sync/atomic.CompareAndSwapUint64", "sync/atomic.SwapUint64"], unfollowed := true, recurses := true, apart := false }
def LatchExamplesSaid : Prop := latchExamplesRow.holds Try.pinned (OpenSpec.ofChange latchExamplesSpec)

/-- ITS FALSE NEIGHBOUR: 'it returns false'. Refute it at one input. -/
def latchExamplesWrong : ChangeSpec := { name := "latchExamples", fn := fun _ => fun
  | [] => { results := [.lit (.bool false)], args := [] }
  | _ => none }
def LatchExamplesWrongFalsely : Prop := latchExamplesRow.holds Try.pinned (OpenSpec.ofChange latchExamplesWrong)

/-- 'leapfroglaw13.LatchExcludes': WHATEVER THE INPUT: true; the input reads as it did. -/
def latchExcludesSpec : ChangeSpec := { name := "latchExcludes", fn := fun _ => fun
  | [d1, d2] => { results := [.lit (.bool true)], args := [d1, d2] }
  | _ => none }
def latchExcludesRow : OpenClaim := { program := "ytjocbmoelkobaaa", sum := "c88713292ed8c32f5ef40fa44c7e9b6bbdc2aed5134d94e40883b6c5aa5aaa03", func := "leapfrog/leapfroglaw13.LatchExcludes", spec := "latchExcludes", inPlace := ["sync/atomic.StoreUint64", "sync/atomic.LoadUint64", "sync/atomic.SwapUint64", "sync/atomic.CompareAndSwapUint64"], unfollowed := true, recurses := true, apart := false }
def LatchExcludesSaid : Prop := latchExcludesRow.holds Try.pinned (OpenSpec.ofChange latchExcludesSpec)

/-- ITS FALSE NEIGHBOUR: 'it returns false'. Refute it at one input. -/
def latchExcludesWrong : ChangeSpec := { name := "latchExcludes", fn := fun _ => fun
  | [d1, d2] => { results := [.lit (.bool false)], args := [d1, d2] }
  | _ => none }
def LatchExcludesWrongFalsely : Prop := latchExcludesRow.holds Try.pinned (OpenSpec.ofChange latchExcludesWrong)

/-- 'leapfroglaw13.LatchTries': WHATEVER THE INPUT: true; the input reads as it did. -/
def latchTriesSpec : ChangeSpec := { name := "latchTries", fn := fun _ => fun
  | [d1, d2, d3] => { results := [.lit (.bool true)], args := [d1, d2, d3] }
  | _ => none }
def latchTriesRow : OpenClaim := { program := "ytjocbmoelkobaaa", sum := "c88713292ed8c32f5ef40fa44c7e9b6bbdc2aed5134d94e40883b6c5aa5aaa03", func := "leapfrog/leapfroglaw13.LatchTries", spec := "latchTries", inPlace := ["sync/atomic.StoreUint64", "sync/atomic.LoadUint64", "sync/atomic.CompareAndSwapUint64"], unfollowed := true, recurses := true, apart := false }
def LatchTriesSaid : Prop := latchTriesRow.holds Try.pinned (OpenSpec.ofChange latchTriesSpec)

/-- ITS FALSE NEIGHBOUR: 'it returns false'. Refute it at one input. -/
def latchTriesWrong : ChangeSpec := { name := "latchTries", fn := fun _ => fun
  | [d1, d2, d3] => { results := [.lit (.bool false)], args := [d1, d2, d3] }
  | _ => none }
def LatchTriesWrongFalsely : Prop := latchTriesRow.holds Try.pinned (OpenSpec.ofChange latchTriesWrong)

/- THE SECOND FORM. 'bulk': how many values and letters a reading holds, each counted each time it is reached (what is shared counts as often as it is met; a slice's spare places count too). A statement '..UptoSaid' is the law's where the arguments, and the package variables that the reading takes, are together of bulk at most 1048576: NARROWER than '..Said'. Prove '..Said' where nothing that the law and all that it calls make is longer than what came in: it says more and counts as full. Else prove '..UptoSaid'. A law counts once. -/
mutual
def uptoBulk {H : Type} : DataW H → Nat
  | .lit (.string bytes) => bytes.length + 1
  | .lit _ => 1
  | .nil => 1
  | .ptr d => uptoBulk d + 1
  | .slice elems spare => uptoBulkAll elems + uptoBulkAll spare + 1
  | .agg parts => uptoBulkAll parts + 1
  | .iface _ d => uptoBulk d + 1
  | .map entries => uptoBulkEntries entries + 1
  | .held _ => 1
def uptoBulkAll {H : Type} : List (DataW H) → Nat
  | [] => 0
  | d :: r => uptoBulk d + uptoBulkAll r
def uptoBulkEntries {H : Type} : List (Lit × DataW H) → Nat
  | [] => 0
  | x :: r => uptoBulkEntry x + uptoBulkEntries r
def uptoBulkEntry {H : Type} : Lit × DataW H → Nat
  | (.string bytes, d) => bytes.length + uptoBulk d + 1
  | (_, d) => uptoBulk d + 1
 end
def uptoSmall : (H : Type) → List (DataW H) → Bool := fun _ ds => decide (uptoBulkAll ds ≤ 1048576)
def OpenSpec.upto (s : _root_.Go.ChangeSpec) : _root_.Go.OpenSpec := { _root_.Go.OpenSpec.ofChange s with cond := some uptoSmall }

/-- 'leapfroglaw13.LatchSteps', WHERE WHAT IT READS IS OF BULK AT MOST 1048576: true; the input reads as it did. -/
def latchStepsUptoRow : OpenClaim := { program := "ytjocbmoelkobaaa", sum := "c88713292ed8c32f5ef40fa44c7e9b6bbdc2aed5134d94e40883b6c5aa5aaa03", func := "leapfrog/leapfroglaw13.LatchSteps", spec := "latchSteps", inPlace := ["sync/atomic.StoreUint64", "sync/atomic.LoadUint64", "sync/atomic.CompareAndSwapUint64", "sync/atomic.SwapUint64"], unfollowed := true, recurses := true, apart := false, narrowed := true }
def LatchStepsUptoSaid : Prop := latchStepsUptoRow.holds Try.pinned (OpenSpec.upto latchStepsSpec)

/-- 'leapfroglaw13.LatchExamples', WHERE WHAT IT READS IS OF BULK AT MOST 1048576: true; the input reads as it did. -/
def latchExamplesUptoRow : OpenClaim := { program := "ytjocbmoelkobaaa", sum := "c88713292ed8c32f5ef40fa44c7e9b6bbdc2aed5134d94e40883b6c5aa5aaa03", func := "leapfrog/leapfroglaw13.LatchExamples", spec := "latchExamples", inPlace := ["sync/atomic.StoreUint64", "sync/atomic.LoadUint64", "sync/atomic.CompareAndSwapUint64", "sync/atomic.SwapUint64"], unfollowed := true, recurses := true, apart := false, narrowed := true }
def LatchExamplesUptoSaid : Prop := latchExamplesUptoRow.holds Try.pinned (OpenSpec.upto latchExamplesSpec)

/-- 'leapfroglaw13.LatchExcludes', WHERE WHAT IT READS IS OF BULK AT MOST 1048576: true; the input reads as it did. -/
def latchExcludesUptoRow : OpenClaim := { program := "ytjocbmoelkobaaa", sum := "c88713292ed8c32f5ef40fa44c7e9b6bbdc2aed5134d94e40883b6c5aa5aaa03", func := "leapfrog/leapfroglaw13.LatchExcludes", spec := "latchExcludes", inPlace := ["sync/atomic.StoreUint64", "sync/atomic.LoadUint64", "sync/atomic.SwapUint64", "sync/atomic.CompareAndSwapUint64"], unfollowed := true, recurses := true, apart := false, narrowed := true }
def LatchExcludesUptoSaid : Prop := latchExcludesUptoRow.holds Try.pinned (OpenSpec.upto latchExcludesSpec)

/-- 'leapfroglaw13.LatchTries', WHERE WHAT IT READS IS OF BULK AT MOST 1048576: true; the input reads as it did. -/
def latchTriesUptoRow : OpenClaim := { program := "ytjocbmoelkobaaa", sum := "c88713292ed8c32f5ef40fa44c7e9b6bbdc2aed5134d94e40883b6c5aa5aaa03", func := "leapfrog/leapfroglaw13.LatchTries", spec := "latchTries", inPlace := ["sync/atomic.StoreUint64", "sync/atomic.LoadUint64", "sync/atomic.CompareAndSwapUint64"], unfollowed := true, recurses := true, apart := false, narrowed := true }
def LatchTriesUptoSaid : Prop := latchTriesUptoRow.holds Try.pinned (OpenSpec.upto latchTriesSpec)

end Rows
end Go.Proofs.Ytjocbmoelkobaaa
