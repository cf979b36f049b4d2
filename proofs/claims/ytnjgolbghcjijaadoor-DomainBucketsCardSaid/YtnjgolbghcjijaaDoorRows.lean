/-
  NARROWER THAN 'FOR EVERY INPUT', by the rows' own cells (each row's printed sentence says how): DomainOf: laid · DomainImages: laid · DomainLeast: laid · DomainSets: laid · DomainExamples: laid · DomainImage: laid · DomainParts: laid · DomainMembers: laid · DomainBuckets: laid.
  DERIVED. THE GIVEN ROWS OF THIS SEAT. 9 by the template 'for every input the law returns true; each argument reads behind the call as it read before'; 0 by the template 'total and deterministic' (their statements: YtnjgolbghcjijaaDoorTotals.lean).
  GIVEN WITH THE SEED: the statements are not yours to turn. If you find one false, say at which input.
  Laid BY PROGRAM, IN A SANDBOX (cutbox-rows.mjs): the forced cells as the released guide's own fill.sh prints them over the translation 022ccad9b07ee54d… (all of the seat's roots in one cut). By AI agents, Wed Nov 11 2026. No macro, syntax, notation, axiom, sorry.
-/
import Derived.Test.YtnjgolbghcjijaaDoorChecked
import GoSem.Claim
import GoSem.ClaimJoined
import GoSem.ClaimMapViews
import Derived.JoinedTies
import Derived.KernelRfl
namespace Go.Proofs.YtnjgolbghcjijaaDoor
/- THE CELL 'sum', in the pinned program and in every row, IS THE sha256 OF THE DUMP (.gsa) THAT YtnjgolbghcjijaaDoorProg.lean LOADS. Nothing in Lean hashes anything: it is a label: what it is worth is what the hold of that sum in a sandbox is worth. -/
noncomputable def Tryd.pinned : Pinned := { name := "ytnjgolbghcjijaadoor", sum := "022ccad9b07ee54da813a0852237da14a648747a18d3a3ce0a47f1d596c91b4d", checked := Tryd.checked }
namespace Rows
def none {H : Type} : Left H := { results := [], args := [] }

/- WHAT THE LISTED PACKAGE-LEVEL VARIABLES READ AS WHEN THE CALL BEGINS. Each datum BY PROGRAM (the guide's laid-datum.mjs) off the statement by which the dump's own 'gosem.cut.vars' lays the variable. In a bare row this is a premise. The card (YtnjgolbghcjijaaDoorCards.lean) ties it to the program's text. -/
def laid_math_bits_deBruijn64tab {H : Type} : DataW H := .agg [.lit (.int .u8 0), .lit (.int .u8 1), .lit (.int .u8 56), .lit (.int .u8 2), .lit (.int .u8 57), .lit (.int .u8 49), .lit (.int .u8 28), .lit (.int .u8 3), .lit (.int .u8 61), .lit (.int .u8 58), .lit (.int .u8 42), .lit (.int .u8 50), .lit (.int .u8 38), .lit (.int .u8 29), .lit (.int .u8 17), .lit (.int .u8 4), .lit (.int .u8 62), .lit (.int .u8 47), .lit (.int .u8 59), .lit (.int .u8 36), .lit (.int .u8 45), .lit (.int .u8 43), .lit (.int .u8 51), .lit (.int .u8 22), .lit (.int .u8 53), .lit (.int .u8 39), .lit (.int .u8 33), .lit (.int .u8 30), .lit (.int .u8 24), .lit (.int .u8 18), .lit (.int .u8 12), .lit (.int .u8 5), .lit (.int .u8 63), .lit (.int .u8 55), .lit (.int .u8 48), .lit (.int .u8 27), .lit (.int .u8 60), .lit (.int .u8 41), .lit (.int .u8 37), .lit (.int .u8 16), .lit (.int .u8 46), .lit (.int .u8 35), .lit (.int .u8 44), .lit (.int .u8 21), .lit (.int .u8 52), .lit (.int .u8 32), .lit (.int .u8 23), .lit (.int .u8 11), .lit (.int .u8 54), .lit (.int .u8 26), .lit (.int .u8 40), .lit (.int .u8 15), .lit (.int .u8 34), .lit (.int .u8 20), .lit (.int .u8 31), .lit (.int .u8 10), .lit (.int .u8 25), .lit (.int .u8 14), .lit (.int .u8 19), .lit (.int .u8 9), .lit (.int .u8 13), .lit (.int .u8 8), .lit (.int .u8 7), .lit (.int .u8 6)]

/-- 'leapfroglaw03.DomainOf': WHATEVER THE INPUT: true; the input reads as it did. -/
def domainOfSpec : ChangeSpec := { name := "domainOf", fn := fun _ => fun
  | [d1, d2] => { results := [.lit (.bool true)], args := [d1, d2] }
  | _ => none }
def domainOfRow : OpenClaim := { program := "ytnjgolbghcjijaadoor", sum := "022ccad9b07ee54da813a0852237da14a648747a18d3a3ce0a47f1d596c91b4d", func := "leapfrog/leapfroglaw03.DomainOf", spec := "domainOf", unfollowed := true, recurses := true, named := ["math/bits.deBruijn64tab"], apart := false, laid := [("math/bits.deBruijn64tab", laid_math_bits_deBruijn64tab)] }
def DomainOfSaid : Prop := domainOfRow.holds Tryd.pinned (OpenSpec.ofChange domainOfSpec)

/-- ITS FALSE NEIGHBOUR: 'it returns false'. Refute it at one input. -/
def domainOfWrong : ChangeSpec := { name := "domainOf", fn := fun _ => fun
  | [d1, d2] => { results := [.lit (.bool false)], args := [d1, d2] }
  | _ => none }
def DomainOfWrongFalsely : Prop := domainOfRow.holds Tryd.pinned (OpenSpec.ofChange domainOfWrong)

/-- 'leapfroglaw03.DomainImages': WHATEVER THE INPUT: true; the input reads as it did. -/
def domainImagesSpec : ChangeSpec := { name := "domainImages", fn := fun _ => fun
  | [d1, d2] => { results := [.lit (.bool true)], args := [d1, d2] }
  | _ => none }
def domainImagesRow : OpenClaim := { program := "ytnjgolbghcjijaadoor", sum := "022ccad9b07ee54da813a0852237da14a648747a18d3a3ce0a47f1d596c91b4d", func := "leapfrog/leapfroglaw03.DomainImages", spec := "domainImages", unfollowed := true, recurses := true, named := ["math/bits.deBruijn64tab"], apart := false, laid := [("math/bits.deBruijn64tab", laid_math_bits_deBruijn64tab)] }
def DomainImagesSaid : Prop := domainImagesRow.holds Tryd.pinned (OpenSpec.ofChange domainImagesSpec)

/-- ITS FALSE NEIGHBOUR: 'it returns false'. Refute it at one input. -/
def domainImagesWrong : ChangeSpec := { name := "domainImages", fn := fun _ => fun
  | [d1, d2] => { results := [.lit (.bool false)], args := [d1, d2] }
  | _ => none }
def DomainImagesWrongFalsely : Prop := domainImagesRow.holds Tryd.pinned (OpenSpec.ofChange domainImagesWrong)

/-- 'leapfroglaw03.DomainLeast': WHATEVER THE INPUT: true; the input reads as it did. -/
def domainLeastSpec : ChangeSpec := { name := "domainLeast", fn := fun _ => fun
  | [d1, d2, d3] => { results := [.lit (.bool true)], args := [d1, d2, d3] }
  | _ => none }
def domainLeastRow : OpenClaim := { program := "ytnjgolbghcjijaadoor", sum := "022ccad9b07ee54da813a0852237da14a648747a18d3a3ce0a47f1d596c91b4d", func := "leapfrog/leapfroglaw03.DomainLeast", spec := "domainLeast", unfollowed := true, recurses := true, named := ["math/bits.deBruijn64tab"], apart := false, laid := [("math/bits.deBruijn64tab", laid_math_bits_deBruijn64tab)] }
def DomainLeastSaid : Prop := domainLeastRow.holds Tryd.pinned (OpenSpec.ofChange domainLeastSpec)

/-- ITS FALSE NEIGHBOUR: 'it returns false'. Refute it at one input. -/
def domainLeastWrong : ChangeSpec := { name := "domainLeast", fn := fun _ => fun
  | [d1, d2, d3] => { results := [.lit (.bool false)], args := [d1, d2, d3] }
  | _ => none }
def DomainLeastWrongFalsely : Prop := domainLeastRow.holds Tryd.pinned (OpenSpec.ofChange domainLeastWrong)

/-- 'leapfroglaw03.DomainSets': WHATEVER THE INPUT: true; the input reads as it did. -/
def domainSetsSpec : ChangeSpec := { name := "domainSets", fn := fun _ => fun
  | [d1, d2, d3] => { results := [.lit (.bool true)], args := [d1, d2, d3] }
  | _ => none }
def domainSetsRow : OpenClaim := { program := "ytnjgolbghcjijaadoor", sum := "022ccad9b07ee54da813a0852237da14a648747a18d3a3ce0a47f1d596c91b4d", func := "leapfrog/leapfroglaw03.DomainSets", spec := "domainSets", unfollowed := true, recurses := true, named := ["math/bits.deBruijn64tab"], apart := false, laid := [("math/bits.deBruijn64tab", laid_math_bits_deBruijn64tab)] }
def DomainSetsSaid : Prop := domainSetsRow.holds Tryd.pinned (OpenSpec.ofChange domainSetsSpec)

/-- ITS FALSE NEIGHBOUR: 'it returns false'. Refute it at one input. -/
def domainSetsWrong : ChangeSpec := { name := "domainSets", fn := fun _ => fun
  | [d1, d2, d3] => { results := [.lit (.bool false)], args := [d1, d2, d3] }
  | _ => none }
def DomainSetsWrongFalsely : Prop := domainSetsRow.holds Tryd.pinned (OpenSpec.ofChange domainSetsWrong)

/-- 'leapfroglaw03.DomainExamples': WHATEVER THE INPUT: true; the input reads as it did. -/
def domainExamplesSpec : ChangeSpec := { name := "domainExamples", fn := fun _ => fun
  | [] => { results := [.lit (.bool true)], args := [] }
  | _ => none }
def domainExamplesRow : OpenClaim := { program := "ytnjgolbghcjijaadoor", sum := "022ccad9b07ee54da813a0852237da14a648747a18d3a3ce0a47f1d596c91b4d", func := "leapfrog/leapfroglaw03.DomainExamples", spec := "domainExamples", unfollowed := true, recurses := true, named := ["math/bits.deBruijn64tab"], apart := false, laid := [("math/bits.deBruijn64tab", laid_math_bits_deBruijn64tab)] }
def DomainExamplesSaid : Prop := domainExamplesRow.holds Tryd.pinned (OpenSpec.ofChange domainExamplesSpec)

/-- ITS FALSE NEIGHBOUR: 'it returns false'. Refute it at one input. -/
def domainExamplesWrong : ChangeSpec := { name := "domainExamples", fn := fun _ => fun
  | [] => { results := [.lit (.bool false)], args := [] }
  | _ => none }
def DomainExamplesWrongFalsely : Prop := domainExamplesRow.holds Tryd.pinned (OpenSpec.ofChange domainExamplesWrong)

/-- 'leapfroglaw03.DomainImage': WHATEVER THE INPUT: true; the input reads as it did. -/
def domainImageSpec : ChangeSpec := { name := "domainImage", fn := fun _ => fun
  | [d1, d2, d3] => { results := [.lit (.bool true)], args := [d1, d2, d3] }
  | _ => none }
def domainImageRow : OpenClaim := { program := "ytnjgolbghcjijaadoor", sum := "022ccad9b07ee54da813a0852237da14a648747a18d3a3ce0a47f1d596c91b4d", func := "leapfrog/leapfroglaw03.DomainImage", spec := "domainImage", unfollowed := true, recurses := true, named := ["math/bits.deBruijn64tab"], apart := false, laid := [("math/bits.deBruijn64tab", laid_math_bits_deBruijn64tab)] }
def DomainImageSaid : Prop := domainImageRow.holds Tryd.pinned (OpenSpec.ofChange domainImageSpec)

/-- ITS FALSE NEIGHBOUR: 'it returns false'. Refute it at one input. -/
def domainImageWrong : ChangeSpec := { name := "domainImage", fn := fun _ => fun
  | [d1, d2, d3] => { results := [.lit (.bool false)], args := [d1, d2, d3] }
  | _ => none }
def DomainImageWrongFalsely : Prop := domainImageRow.holds Tryd.pinned (OpenSpec.ofChange domainImageWrong)

/-- 'leapfroglaw03.DomainParts': WHATEVER THE INPUT: true; the input reads as it did. -/
def domainPartsSpec : ChangeSpec := { name := "domainParts", fn := fun _ => fun
  | [d1, d2, d3] => { results := [.lit (.bool true)], args := [d1, d2, d3] }
  | _ => none }
def domainPartsRow : OpenClaim := { program := "ytnjgolbghcjijaadoor", sum := "022ccad9b07ee54da813a0852237da14a648747a18d3a3ce0a47f1d596c91b4d", func := "leapfrog/leapfroglaw03.DomainParts", spec := "domainParts", unfollowed := true, recurses := true, named := ["math/bits.deBruijn64tab"], apart := false, laid := [("math/bits.deBruijn64tab", laid_math_bits_deBruijn64tab)] }
def DomainPartsSaid : Prop := domainPartsRow.holds Tryd.pinned (OpenSpec.ofChange domainPartsSpec)

/-- ITS FALSE NEIGHBOUR: 'it returns false'. Refute it at one input. -/
def domainPartsWrong : ChangeSpec := { name := "domainParts", fn := fun _ => fun
  | [d1, d2, d3] => { results := [.lit (.bool false)], args := [d1, d2, d3] }
  | _ => none }
def DomainPartsWrongFalsely : Prop := domainPartsRow.holds Tryd.pinned (OpenSpec.ofChange domainPartsWrong)

/-- 'leapfroglaw03.DomainMembers': WHATEVER THE INPUT: true; the input reads as it did. -/
def domainMembersSpec : ChangeSpec := { name := "domainMembers", fn := fun _ => fun
  | [d1, d2] => { results := [.lit (.bool true)], args := [d1, d2] }
  | _ => none }
def domainMembersRow : OpenClaim := { program := "ytnjgolbghcjijaadoor", sum := "022ccad9b07ee54da813a0852237da14a648747a18d3a3ce0a47f1d596c91b4d", func := "leapfrog/leapfroglaw03.DomainMembers", spec := "domainMembers", unfollowed := true, recurses := true, named := ["math/bits.deBruijn64tab"], apart := false, laid := [("math/bits.deBruijn64tab", laid_math_bits_deBruijn64tab)] }
def DomainMembersSaid : Prop := domainMembersRow.holds Tryd.pinned (OpenSpec.ofChange domainMembersSpec)

/-- ITS FALSE NEIGHBOUR: 'it returns false'. Refute it at one input. -/
def domainMembersWrong : ChangeSpec := { name := "domainMembers", fn := fun _ => fun
  | [d1, d2] => { results := [.lit (.bool false)], args := [d1, d2] }
  | _ => none }
def DomainMembersWrongFalsely : Prop := domainMembersRow.holds Tryd.pinned (OpenSpec.ofChange domainMembersWrong)

/-- 'leapfroglaw03.DomainBuckets': WHATEVER THE INPUT: true; the input reads as it did. -/
def domainBucketsSpec : ChangeSpec := { name := "domainBuckets", fn := fun _ => fun
  | [d1, d2, d3] => { results := [.lit (.bool true)], args := [d1, d2, d3] }
  | _ => none }
def domainBucketsRow : OpenClaim := { program := "ytnjgolbghcjijaadoor", sum := "022ccad9b07ee54da813a0852237da14a648747a18d3a3ce0a47f1d596c91b4d", func := "leapfrog/leapfroglaw03.DomainBuckets", spec := "domainBuckets", unfollowed := true, recurses := true, named := ["math/bits.deBruijn64tab"], apart := false, laid := [("math/bits.deBruijn64tab", laid_math_bits_deBruijn64tab)] }
def DomainBucketsSaid : Prop := domainBucketsRow.holds Tryd.pinned (OpenSpec.ofChange domainBucketsSpec)

/-- ITS FALSE NEIGHBOUR: 'it returns false'. Refute it at one input. -/
def domainBucketsWrong : ChangeSpec := { name := "domainBuckets", fn := fun _ => fun
  | [d1, d2, d3] => { results := [.lit (.bool false)], args := [d1, d2, d3] }
  | _ => none }
def DomainBucketsWrongFalsely : Prop := domainBucketsRow.holds Tryd.pinned (OpenSpec.ofChange domainBucketsWrong)

/- THE SECOND FORM. 'bulk': how many values and letters a reading holds, each counted each time it is reached (what is shared counts as often as it is met; a slice's spare places count too). A statement '..UptoSaid' is the law's where the arguments, and the package variables that the reading takes, are together of bulk at most 1048576: NARROWER than '..Said'. Prove '..Said' where nothing that the law and all that it calls make is longer than what came in: it says more and counts as full. Else prove '..UptoSaid'. A law counts once. -/
mutual
def uptoBulk {H : Type} : DataW H → Nat
  | .lit (.string bytes) => bytes.length + 1
  | .lit _ => 1
  | .nil => 1
  | .ptr d => uptoBulk d + 1
  | .slice elems spare => uptoBulkAll elems + uptoBulkAll spare + 1
  | .agg parts => uptoBulkAll parts + 1
  | .iface _ d => uptoBulk d + 1
  | .map entries => uptoBulkEntries entries + 1
  | .held _ => 1
def uptoBulkAll {H : Type} : List (DataW H) → Nat
  | [] => 0
  | d :: r => uptoBulk d + uptoBulkAll r
def uptoBulkEntries {H : Type} : List (Lit × DataW H) → Nat
  | [] => 0
  | x :: r => uptoBulkEntry x + uptoBulkEntries r
def uptoBulkEntry {H : Type} : Lit × DataW H → Nat
  | (.string bytes, d) => bytes.length + uptoBulk d + 1
  | (_, d) => uptoBulk d + 1
 end
def uptoSmall : (H : Type) → List (DataW H) → Bool := fun _ ds => decide (uptoBulkAll ds ≤ 1048576)
def OpenSpec.upto (s : _root_.Go.ChangeSpec) : _root_.Go.OpenSpec := { _root_.Go.OpenSpec.ofChange s with cond := some uptoSmall }

/-- 'leapfroglaw03.DomainOf', WHERE WHAT IT READS IS OF BULK AT MOST 1048576: true; the input reads as it did. -/
def domainOfUptoRow : OpenClaim := { program := "ytnjgolbghcjijaadoor", sum := "022ccad9b07ee54da813a0852237da14a648747a18d3a3ce0a47f1d596c91b4d", func := "leapfrog/leapfroglaw03.DomainOf", spec := "domainOf", unfollowed := true, recurses := true, named := ["math/bits.deBruijn64tab"], apart := false, laid := [("math/bits.deBruijn64tab", laid_math_bits_deBruijn64tab)], narrowed := true }
def DomainOfUptoSaid : Prop := domainOfUptoRow.holds Tryd.pinned (OpenSpec.upto domainOfSpec)

/-- 'leapfroglaw03.DomainImages', WHERE WHAT IT READS IS OF BULK AT MOST 1048576: true; the input reads as it did. -/
def domainImagesUptoRow : OpenClaim := { program := "ytnjgolbghcjijaadoor", sum := "022ccad9b07ee54da813a0852237da14a648747a18d3a3ce0a47f1d596c91b4d", func := "leapfrog/leapfroglaw03.DomainImages", spec := "domainImages", unfollowed := true, recurses := true, named := ["math/bits.deBruijn64tab"], apart := false, laid := [("math/bits.deBruijn64tab", laid_math_bits_deBruijn64tab)], narrowed := true }
def DomainImagesUptoSaid : Prop := domainImagesUptoRow.holds Tryd.pinned (OpenSpec.upto domainImagesSpec)

/-- 'leapfroglaw03.DomainLeast', WHERE WHAT IT READS IS OF BULK AT MOST 1048576: true; the input reads as it did. -/
def domainLeastUptoRow : OpenClaim := { program := "ytnjgolbghcjijaadoor", sum := "022ccad9b07ee54da813a0852237da14a648747a18d3a3ce0a47f1d596c91b4d", func := "leapfrog/leapfroglaw03.DomainLeast", spec := "domainLeast", unfollowed := true, recurses := true, named := ["math/bits.deBruijn64tab"], apart := false, laid := [("math/bits.deBruijn64tab", laid_math_bits_deBruijn64tab)], narrowed := true }
def DomainLeastUptoSaid : Prop := domainLeastUptoRow.holds Tryd.pinned (OpenSpec.upto domainLeastSpec)

/-- 'leapfroglaw03.DomainSets', WHERE WHAT IT READS IS OF BULK AT MOST 1048576: true; the input reads as it did. -/
def domainSetsUptoRow : OpenClaim := { program := "ytnjgolbghcjijaadoor", sum := "022ccad9b07ee54da813a0852237da14a648747a18d3a3ce0a47f1d596c91b4d", func := "leapfrog/leapfroglaw03.DomainSets", spec := "domainSets", unfollowed := true, recurses := true, named := ["math/bits.deBruijn64tab"], apart := false, laid := [("math/bits.deBruijn64tab", laid_math_bits_deBruijn64tab)], narrowed := true }
def DomainSetsUptoSaid : Prop := domainSetsUptoRow.holds Tryd.pinned (OpenSpec.upto domainSetsSpec)

/-- 'leapfroglaw03.DomainExamples', WHERE WHAT IT READS IS OF BULK AT MOST 1048576: true; the input reads as it did. -/
def domainExamplesUptoRow : OpenClaim := { program := "ytnjgolbghcjijaadoor", sum := "022ccad9b07ee54da813a0852237da14a648747a18d3a3ce0a47f1d596c91b4d", func := "leapfrog/leapfroglaw03.DomainExamples", spec := "domainExamples", unfollowed := true, recurses := true, named := ["math/bits.deBruijn64tab"], apart := false, laid := [("math/bits.deBruijn64tab", laid_math_bits_deBruijn64tab)], narrowed := true }
def DomainExamplesUptoSaid : Prop := domainExamplesUptoRow.holds Tryd.pinned (OpenSpec.upto domainExamplesSpec)

/-- 'leapfroglaw03.DomainImage', WHERE WHAT IT READS IS OF BULK AT MOST 1048576: true; the input reads as it did. -/
def domainImageUptoRow : OpenClaim := { program := "ytnjgolbghcjijaadoor", sum := "022ccad9b07ee54da813a0852237da14a648747a18d3a3ce0a47f1d596c91b4d", func := "leapfrog/leapfroglaw03.DomainImage", spec := "domainImage", unfollowed := true, recurses := true, named := ["math/bits.deBruijn64tab"], apart := false, laid := [("math/bits.deBruijn64tab", laid_math_bits_deBruijn64tab)], narrowed := true }
def DomainImageUptoSaid : Prop := domainImageUptoRow.holds Tryd.pinned (OpenSpec.upto domainImageSpec)

/-- 'leapfroglaw03.DomainParts', WHERE WHAT IT READS IS OF BULK AT MOST 1048576: true; the input reads as it did. -/
def domainPartsUptoRow : OpenClaim := { program := "ytnjgolbghcjijaadoor", sum := "022ccad9b07ee54da813a0852237da14a648747a18d3a3ce0a47f1d596c91b4d", func := "leapfrog/leapfroglaw03.DomainParts", spec := "domainParts", unfollowed := true, recurses := true, named := ["math/bits.deBruijn64tab"], apart := false, laid := [("math/bits.deBruijn64tab", laid_math_bits_deBruijn64tab)], narrowed := true }
def DomainPartsUptoSaid : Prop := domainPartsUptoRow.holds Tryd.pinned (OpenSpec.upto domainPartsSpec)

/-- 'leapfroglaw03.DomainMembers', WHERE WHAT IT READS IS OF BULK AT MOST 1048576: true; the input reads as it did. -/
def domainMembersUptoRow : OpenClaim := { program := "ytnjgolbghcjijaadoor", sum := "022ccad9b07ee54da813a0852237da14a648747a18d3a3ce0a47f1d596c91b4d", func := "leapfrog/leapfroglaw03.DomainMembers", spec := "domainMembers", unfollowed := true, recurses := true, named := ["math/bits.deBruijn64tab"], apart := false, laid := [("math/bits.deBruijn64tab", laid_math_bits_deBruijn64tab)], narrowed := true }
def DomainMembersUptoSaid : Prop := domainMembersUptoRow.holds Tryd.pinned (OpenSpec.upto domainMembersSpec)

/-- 'leapfroglaw03.DomainBuckets', WHERE WHAT IT READS IS OF BULK AT MOST 1048576: true; the input reads as it did. -/
def domainBucketsUptoRow : OpenClaim := { program := "ytnjgolbghcjijaadoor", sum := "022ccad9b07ee54da813a0852237da14a648747a18d3a3ce0a47f1d596c91b4d", func := "leapfrog/leapfroglaw03.DomainBuckets", spec := "domainBuckets", unfollowed := true, recurses := true, named := ["math/bits.deBruijn64tab"], apart := false, laid := [("math/bits.deBruijn64tab", laid_math_bits_deBruijn64tab)], narrowed := true }
def DomainBucketsUptoSaid : Prop := domainBucketsUptoRow.holds Tryd.pinned (OpenSpec.upto domainBucketsSpec)

end Rows
end Go.Proofs.YtnjgolbghcjijaaDoor
