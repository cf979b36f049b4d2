/-
  NARROWER THAN 'FOR EVERY INPUT', by the rows' own cells (each row's printed sentence says how): DrawHeights: laid · DrawMany: laid · DrawTallies: laid · DrawExamples: laid · DrawBits: laid · DrawSeeds: laid · DrawCounts: laid.
  DERIVED. THE GIVEN ROWS OF THIS SEAT. 7 by the template 'for every input the law returns true; each argument reads behind the call as it read before'; 0 by the template 'total and deterministic' (their statements: YtfogcapgadfbfaaDoorTotals.lean).
  GIVEN WITH THE SEED: the statements are not yours to turn. If you find one false, say at which input.
  Laid BY PROGRAM, IN A SANDBOX (cutbox-rows.mjs): the forced cells as the released guide's own fill.sh prints them over the translation 2c67ca5f3b4a4ba2… (all of the seat's roots in one cut). By AI agents, Wed Nov 11 2026. No macro, syntax, notation, axiom, sorry.
-/
import Derived.Test.YtfogcapgadfbfaaDoorChecked
import GoSem.Claim
import GoSem.ClaimJoined
import GoSem.ClaimMapViews
import Derived.JoinedTies
import Derived.KernelRfl
namespace Go.Proofs.YtfogcapgadfbfaaDoor
/- THE CELL 'sum', in the pinned program and in every row, IS THE sha256 OF THE DUMP (.gsa) THAT YtfogcapgadfbfaaDoorProg.lean LOADS. Nothing in Lean hashes anything: it is a label: what it is worth is what the hold of that sum in a sandbox is worth. -/
noncomputable def Tryd.pinned : Pinned := { name := "ytfogcapgadfbfaadoor", sum := "2c67ca5f3b4a4ba24c4b6721c4653579b9fa1c18b8c0dda1c5d6d6dbd701f056", checked := Tryd.checked }
namespace Rows
def none {H : Type} : Left H := { results := [], args := [] }

/- WHAT THE LISTED PACKAGE-LEVEL VARIABLES READ AS WHEN THE CALL BEGINS. Each datum BY PROGRAM (the guide's laid-datum.mjs) off the statement by which the dump's own 'gosem.cut.vars' lays the variable. In a bare row this is a premise. The card (YtfogcapgadfbfaaDoorCards.lean) ties it to the program's text. -/
def laid_math_bits_deBruijn64tab {H : Type} : DataW H := .agg [.lit (.int .u8 0), .lit (.int .u8 1), .lit (.int .u8 56), .lit (.int .u8 2), .lit (.int .u8 57), .lit (.int .u8 49), .lit (.int .u8 28), .lit (.int .u8 3), .lit (.int .u8 61), .lit (.int .u8 58), .lit (.int .u8 42), .lit (.int .u8 50), .lit (.int .u8 38), .lit (.int .u8 29), .lit (.int .u8 17), .lit (.int .u8 4), .lit (.int .u8 62), .lit (.int .u8 47), .lit (.int .u8 59), .lit (.int .u8 36), .lit (.int .u8 45), .lit (.int .u8 43), .lit (.int .u8 51), .lit (.int .u8 22), .lit (.int .u8 53), .lit (.int .u8 39), .lit (.int .u8 33), .lit (.int .u8 30), .lit (.int .u8 24), .lit (.int .u8 18), .lit (.int .u8 12), .lit (.int .u8 5), .lit (.int .u8 63), .lit (.int .u8 55), .lit (.int .u8 48), .lit (.int .u8 27), .lit (.int .u8 60), .lit (.int .u8 41), .lit (.int .u8 37), .lit (.int .u8 16), .lit (.int .u8 46), .lit (.int .u8 35), .lit (.int .u8 44), .lit (.int .u8 21), .lit (.int .u8 52), .lit (.int .u8 32), .lit (.int .u8 23), .lit (.int .u8 11), .lit (.int .u8 54), .lit (.int .u8 26), .lit (.int .u8 40), .lit (.int .u8 15), .lit (.int .u8 34), .lit (.int .u8 20), .lit (.int .u8 31), .lit (.int .u8 10), .lit (.int .u8 25), .lit (.int .u8 14), .lit (.int .u8 19), .lit (.int .u8 9), .lit (.int .u8 13), .lit (.int .u8 8), .lit (.int .u8 7), .lit (.int .u8 6)]

/-- 'leapfroglaw04.DrawHeights': WHATEVER THE INPUT: true; the input reads as it did. -/
def drawHeightsSpec : ChangeSpec := { name := "drawHeights", fn := fun _ => fun
  | [d1, d2] => { results := [.lit (.bool true)], args := [d1, d2] }
  | _ => none }
def drawHeightsRow : OpenClaim := { program := "ytfogcapgadfbfaadoor", sum := "2c67ca5f3b4a4ba24c4b6721c4653579b9fa1c18b8c0dda1c5d6d6dbd701f056", func := "leapfrog/leapfroglaw04.DrawHeights", spec := "drawHeights", named := ["math/bits.deBruijn64tab"], apart := false, laid := [("math/bits.deBruijn64tab", laid_math_bits_deBruijn64tab)] }
def DrawHeightsSaid : Prop := drawHeightsRow.holds Tryd.pinned (OpenSpec.ofChange drawHeightsSpec)

/-- ITS FALSE NEIGHBOUR: 'it returns false'. Refute it at one input. -/
def drawHeightsWrong : ChangeSpec := { name := "drawHeights", fn := fun _ => fun
  | [d1, d2] => { results := [.lit (.bool false)], args := [d1, d2] }
  | _ => none }
def DrawHeightsWrongFalsely : Prop := drawHeightsRow.holds Tryd.pinned (OpenSpec.ofChange drawHeightsWrong)

/-- 'leapfroglaw04.DrawMany': WHATEVER THE INPUT: true; the input reads as it did. -/
def drawManySpec : ChangeSpec := { name := "drawMany", fn := fun _ => fun
  | [d1, d2] => { results := [.lit (.bool true)], args := [d1, d2] }
  | _ => none }
def drawManyRow : OpenClaim := { program := "ytfogcapgadfbfaadoor", sum := "2c67ca5f3b4a4ba24c4b6721c4653579b9fa1c18b8c0dda1c5d6d6dbd701f056", func := "leapfrog/leapfroglaw04.DrawMany", spec := "drawMany", named := ["math/bits.deBruijn64tab"], apart := false, laid := [("math/bits.deBruijn64tab", laid_math_bits_deBruijn64tab)] }
def DrawManySaid : Prop := drawManyRow.holds Tryd.pinned (OpenSpec.ofChange drawManySpec)

/-- ITS FALSE NEIGHBOUR: 'it returns false'. Refute it at one input. -/
def drawManyWrong : ChangeSpec := { name := "drawMany", fn := fun _ => fun
  | [d1, d2] => { results := [.lit (.bool false)], args := [d1, d2] }
  | _ => none }
def DrawManyWrongFalsely : Prop := drawManyRow.holds Tryd.pinned (OpenSpec.ofChange drawManyWrong)

/-- 'leapfroglaw04.DrawTallies': WHATEVER THE INPUT: true; the input reads as it did. -/
def drawTalliesSpec : ChangeSpec := { name := "drawTallies", fn := fun _ => fun
  | [d] => { results := [.lit (.bool true)], args := [d] }
  | _ => none }
def drawTalliesRow : OpenClaim := { program := "ytfogcapgadfbfaadoor", sum := "2c67ca5f3b4a4ba24c4b6721c4653579b9fa1c18b8c0dda1c5d6d6dbd701f056", func := "leapfrog/leapfroglaw04.DrawTallies", spec := "drawTallies", named := ["math/bits.deBruijn64tab"], apart := false, laid := [("math/bits.deBruijn64tab", laid_math_bits_deBruijn64tab)] }
def DrawTalliesSaid : Prop := drawTalliesRow.holds Tryd.pinned (OpenSpec.ofChange drawTalliesSpec)

/-- ITS FALSE NEIGHBOUR: 'it returns false'. Refute it at one input. -/
def drawTalliesWrong : ChangeSpec := { name := "drawTallies", fn := fun _ => fun
  | [d] => { results := [.lit (.bool false)], args := [d] }
  | _ => none }
def DrawTalliesWrongFalsely : Prop := drawTalliesRow.holds Tryd.pinned (OpenSpec.ofChange drawTalliesWrong)

/-- 'leapfroglaw04.DrawExamples': WHATEVER THE INPUT: true; the input reads as it did. -/
def drawExamplesSpec : ChangeSpec := { name := "drawExamples", fn := fun _ => fun
  | [] => { results := [.lit (.bool true)], args := [] }
  | _ => none }
def drawExamplesRow : OpenClaim := { program := "ytfogcapgadfbfaadoor", sum := "2c67ca5f3b4a4ba24c4b6721c4653579b9fa1c18b8c0dda1c5d6d6dbd701f056", func := "leapfrog/leapfroglaw04.DrawExamples", spec := "drawExamples", named := ["math/bits.deBruijn64tab"], apart := false, laid := [("math/bits.deBruijn64tab", laid_math_bits_deBruijn64tab)] }
def DrawExamplesSaid : Prop := drawExamplesRow.holds Tryd.pinned (OpenSpec.ofChange drawExamplesSpec)

/-- ITS FALSE NEIGHBOUR: 'it returns false'. Refute it at one input. -/
def drawExamplesWrong : ChangeSpec := { name := "drawExamples", fn := fun _ => fun
  | [] => { results := [.lit (.bool false)], args := [] }
  | _ => none }
def DrawExamplesWrongFalsely : Prop := drawExamplesRow.holds Tryd.pinned (OpenSpec.ofChange drawExamplesWrong)

/-- 'leapfroglaw04.DrawBits': WHATEVER THE INPUT: true; the input reads as it did. -/
def drawBitsSpec : ChangeSpec := { name := "drawBits", fn := fun _ => fun
  | [d1, d2] => { results := [.lit (.bool true)], args := [d1, d2] }
  | _ => none }
def drawBitsRow : OpenClaim := { program := "ytfogcapgadfbfaadoor", sum := "2c67ca5f3b4a4ba24c4b6721c4653579b9fa1c18b8c0dda1c5d6d6dbd701f056", func := "leapfrog/leapfroglaw04.DrawBits", spec := "drawBits", named := ["math/bits.deBruijn64tab"], apart := false, laid := [("math/bits.deBruijn64tab", laid_math_bits_deBruijn64tab)] }
def DrawBitsSaid : Prop := drawBitsRow.holds Tryd.pinned (OpenSpec.ofChange drawBitsSpec)

/-- ITS FALSE NEIGHBOUR: 'it returns false'. Refute it at one input. -/
def drawBitsWrong : ChangeSpec := { name := "drawBits", fn := fun _ => fun
  | [d1, d2] => { results := [.lit (.bool false)], args := [d1, d2] }
  | _ => none }
def DrawBitsWrongFalsely : Prop := drawBitsRow.holds Tryd.pinned (OpenSpec.ofChange drawBitsWrong)

/-- 'leapfroglaw04.DrawSeeds': WHATEVER THE INPUT: true; the input reads as it did. -/
def drawSeedsSpec : ChangeSpec := { name := "drawSeeds", fn := fun _ => fun
  | [d1, d2, d3] => { results := [.lit (.bool true)], args := [d1, d2, d3] }
  | _ => none }
def drawSeedsRow : OpenClaim := { program := "ytfogcapgadfbfaadoor", sum := "2c67ca5f3b4a4ba24c4b6721c4653579b9fa1c18b8c0dda1c5d6d6dbd701f056", func := "leapfrog/leapfroglaw04.DrawSeeds", spec := "drawSeeds", named := ["math/bits.deBruijn64tab"], apart := false, laid := [("math/bits.deBruijn64tab", laid_math_bits_deBruijn64tab)] }
def DrawSeedsSaid : Prop := drawSeedsRow.holds Tryd.pinned (OpenSpec.ofChange drawSeedsSpec)

/-- ITS FALSE NEIGHBOUR: 'it returns false'. Refute it at one input. -/
def drawSeedsWrong : ChangeSpec := { name := "drawSeeds", fn := fun _ => fun
  | [d1, d2, d3] => { results := [.lit (.bool false)], args := [d1, d2, d3] }
  | _ => none }
def DrawSeedsWrongFalsely : Prop := drawSeedsRow.holds Tryd.pinned (OpenSpec.ofChange drawSeedsWrong)

/-- 'leapfroglaw04.DrawCounts': WHATEVER THE INPUT: true; the input reads as it did. -/
def drawCountsSpec : ChangeSpec := { name := "drawCounts", fn := fun _ => fun
  | [d1, d2] => { results := [.lit (.bool true)], args := [d1, d2] }
  | _ => none }
def drawCountsRow : OpenClaim := { program := "ytfogcapgadfbfaadoor", sum := "2c67ca5f3b4a4ba24c4b6721c4653579b9fa1c18b8c0dda1c5d6d6dbd701f056", func := "leapfrog/leapfroglaw04.DrawCounts", spec := "drawCounts", named := ["math/bits.deBruijn64tab"], apart := false, laid := [("math/bits.deBruijn64tab", laid_math_bits_deBruijn64tab)] }
def DrawCountsSaid : Prop := drawCountsRow.holds Tryd.pinned (OpenSpec.ofChange drawCountsSpec)

/-- ITS FALSE NEIGHBOUR: 'it returns false'. Refute it at one input. -/
def drawCountsWrong : ChangeSpec := { name := "drawCounts", fn := fun _ => fun
  | [d1, d2] => { results := [.lit (.bool false)], args := [d1, d2] }
  | _ => none }
def DrawCountsWrongFalsely : Prop := drawCountsRow.holds Tryd.pinned (OpenSpec.ofChange drawCountsWrong)

/- THE SECOND FORM. 'bulk': how many values and letters a reading holds, each counted each time it is reached (what is shared counts as often as it is met; a slice's spare places count too). A statement '..UptoSaid' is the law's where the arguments, and the package variables that the reading takes, are together of bulk at most 1048576: NARROWER than '..Said'. Prove '..Said' where nothing that the law and all that it calls make is longer than what came in: it says more and counts as full. Else prove '..UptoSaid'. A law counts once. -/
mutual
def uptoBulk {H : Type} : DataW H → Nat
  | .lit (.string bytes) => bytes.length + 1
  | .lit _ => 1
  | .nil => 1
  | .ptr d => uptoBulk d + 1
  | .slice elems spare => uptoBulkAll elems + uptoBulkAll spare + 1
  | .agg parts => uptoBulkAll parts + 1
  | .iface _ d => uptoBulk d + 1
  | .map entries => uptoBulkEntries entries + 1
  | .held _ => 1
def uptoBulkAll {H : Type} : List (DataW H) → Nat
  | [] => 0
  | d :: r => uptoBulk d + uptoBulkAll r
def uptoBulkEntries {H : Type} : List (Lit × DataW H) → Nat
  | [] => 0
  | x :: r => uptoBulkEntry x + uptoBulkEntries r
def uptoBulkEntry {H : Type} : Lit × DataW H → Nat
  | (.string bytes, d) => bytes.length + uptoBulk d + 1
  | (_, d) => uptoBulk d + 1
 end
def uptoSmall : (H : Type) → List (DataW H) → Bool := fun _ ds => decide (uptoBulkAll ds ≤ 1048576)
def OpenSpec.upto (s : _root_.Go.ChangeSpec) : _root_.Go.OpenSpec := { _root_.Go.OpenSpec.ofChange s with cond := some uptoSmall }

/-- 'leapfroglaw04.DrawHeights', WHERE WHAT IT READS IS OF BULK AT MOST 1048576: true; the input reads as it did. -/
def drawHeightsUptoRow : OpenClaim := { program := "ytfogcapgadfbfaadoor", sum := "2c67ca5f3b4a4ba24c4b6721c4653579b9fa1c18b8c0dda1c5d6d6dbd701f056", func := "leapfrog/leapfroglaw04.DrawHeights", spec := "drawHeights", named := ["math/bits.deBruijn64tab"], apart := false, laid := [("math/bits.deBruijn64tab", laid_math_bits_deBruijn64tab)], narrowed := true }
def DrawHeightsUptoSaid : Prop := drawHeightsUptoRow.holds Tryd.pinned (OpenSpec.upto drawHeightsSpec)

/-- 'leapfroglaw04.DrawMany', WHERE WHAT IT READS IS OF BULK AT MOST 1048576: true; the input reads as it did. -/
def drawManyUptoRow : OpenClaim := { program := "ytfogcapgadfbfaadoor", sum := "2c67ca5f3b4a4ba24c4b6721c4653579b9fa1c18b8c0dda1c5d6d6dbd701f056", func := "leapfrog/leapfroglaw04.DrawMany", spec := "drawMany", named := ["math/bits.deBruijn64tab"], apart := false, laid := [("math/bits.deBruijn64tab", laid_math_bits_deBruijn64tab)], narrowed := true }
def DrawManyUptoSaid : Prop := drawManyUptoRow.holds Tryd.pinned (OpenSpec.upto drawManySpec)

/-- 'leapfroglaw04.DrawTallies', WHERE WHAT IT READS IS OF BULK AT MOST 1048576: true; the input reads as it did. -/
def drawTalliesUptoRow : OpenClaim := { program := "ytfogcapgadfbfaadoor", sum := "2c67ca5f3b4a4ba24c4b6721c4653579b9fa1c18b8c0dda1c5d6d6dbd701f056", func := "leapfrog/leapfroglaw04.DrawTallies", spec := "drawTallies", named := ["math/bits.deBruijn64tab"], apart := false, laid := [("math/bits.deBruijn64tab", laid_math_bits_deBruijn64tab)], narrowed := true }
def DrawTalliesUptoSaid : Prop := drawTalliesUptoRow.holds Tryd.pinned (OpenSpec.upto drawTalliesSpec)

/-- 'leapfroglaw04.DrawExamples', WHERE WHAT IT READS IS OF BULK AT MOST 1048576: true; the input reads as it did. -/
def drawExamplesUptoRow : OpenClaim := { program := "ytfogcapgadfbfaadoor", sum := "2c67ca5f3b4a4ba24c4b6721c4653579b9fa1c18b8c0dda1c5d6d6dbd701f056", func := "leapfrog/leapfroglaw04.DrawExamples", spec := "drawExamples", named := ["math/bits.deBruijn64tab"], apart := false, laid := [("math/bits.deBruijn64tab", laid_math_bits_deBruijn64tab)], narrowed := true }
def DrawExamplesUptoSaid : Prop := drawExamplesUptoRow.holds Tryd.pinned (OpenSpec.upto drawExamplesSpec)

/-- 'leapfroglaw04.DrawBits', WHERE WHAT IT READS IS OF BULK AT MOST 1048576: true; the input reads as it did. -/
def drawBitsUptoRow : OpenClaim := { program := "ytfogcapgadfbfaadoor", sum := "2c67ca5f3b4a4ba24c4b6721c4653579b9fa1c18b8c0dda1c5d6d6dbd701f056", func := "leapfrog/leapfroglaw04.DrawBits", spec := "drawBits", named := ["math/bits.deBruijn64tab"], apart := false, laid := [("math/bits.deBruijn64tab", laid_math_bits_deBruijn64tab)], narrowed := true }
def DrawBitsUptoSaid : Prop := drawBitsUptoRow.holds Tryd.pinned (OpenSpec.upto drawBitsSpec)

/-- 'leapfroglaw04.DrawSeeds', WHERE WHAT IT READS IS OF BULK AT MOST 1048576: true; the input reads as it did. -/
def drawSeedsUptoRow : OpenClaim := { program := "ytfogcapgadfbfaadoor", sum := "2c67ca5f3b4a4ba24c4b6721c4653579b9fa1c18b8c0dda1c5d6d6dbd701f056", func := "leapfrog/leapfroglaw04.DrawSeeds", spec := "drawSeeds", named := ["math/bits.deBruijn64tab"], apart := false, laid := [("math/bits.deBruijn64tab", laid_math_bits_deBruijn64tab)], narrowed := true }
def DrawSeedsUptoSaid : Prop := drawSeedsUptoRow.holds Tryd.pinned (OpenSpec.upto drawSeedsSpec)

/-- 'leapfroglaw04.DrawCounts', WHERE WHAT IT READS IS OF BULK AT MOST 1048576: true; the input reads as it did. -/
def drawCountsUptoRow : OpenClaim := { program := "ytfogcapgadfbfaadoor", sum := "2c67ca5f3b4a4ba24c4b6721c4653579b9fa1c18b8c0dda1c5d6d6dbd701f056", func := "leapfrog/leapfroglaw04.DrawCounts", spec := "drawCounts", named := ["math/bits.deBruijn64tab"], apart := false, laid := [("math/bits.deBruijn64tab", laid_math_bits_deBruijn64tab)], narrowed := true }
def DrawCountsUptoSaid : Prop := drawCountsUptoRow.holds Tryd.pinned (OpenSpec.upto drawCountsSpec)

end Rows
end Go.Proofs.YtfogcapgadfbfaaDoor
