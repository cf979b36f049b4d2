/-
  DERIVED. GIVEN WITH THE SEED: THE CARDS: each row of YtbndgbjenmknmaaDoorRows.lean that lists a variable, with what it lists TIED to the program's text (the seventh form; the later family's looks); each row that meets fmt, with fmt's text TOLD by the authors' own Lean function (tested against real Go, not proved from fmt's source: count such statements apart). THE CARD IS WHAT COUNTS. Prove the row's statement (the work); the ties are given (YtbndgbjenmknmaaDoorTie.lean); close each card by the builder's one call (the guide's Derived/Test/ToyasCard.lean, 'card_holds'). Laid BY PROGRAM, IN A SANDBOX (cutbox-door.mjs). By AI agents, Wed Nov 11 2026. No macro, syntax, notation, axiom, sorry.
-/
import Derived.Test.YtbndgbjenmknmaaDoorRows
import GoSem.ClaimSeven
namespace Go.Proofs.YtbndgbjenmknmaaDoor
namespace Rows

/-- THE TIED CARD OF 'leapfroglaw07.MergeDoes'. -/
def mergeDoesCard : Claim7 := { stood := { row := mergeDoesRow, standIns := [], harness := (true, "9af95b70b39427b9a025fd103e08471c02c385b1682eee4e10b4619c5f644c7c"), looks := true }, kinds := [], alts := [], laidByText := true, laidKinds := [.data], laidTests := true, laidLooks := .later }
def MergeDoesCardSaid : Prop := Claim7.holds Tryd.pinned (.plain (OpenSpec.ofChange mergeDoesSpec)) mergeDoesCard

/-- THE TIED CARD OF 'leapfroglaw07.MergeExamples'. -/
def mergeExamplesCard : Claim7 := { stood := { row := mergeExamplesRow, standIns := [], harness := (true, "9af95b70b39427b9a025fd103e08471c02c385b1682eee4e10b4619c5f644c7c"), looks := true }, kinds := [], alts := [], laidByText := true, laidKinds := [.data], laidTests := true, laidLooks := .later }
def MergeExamplesCardSaid : Prop := Claim7.holds Tryd.pinned (.plain (OpenSpec.ofChange mergeExamplesSpec)) mergeExamplesCard

/-- THE TIED CARD OF 'leapfroglaw07.MergeSorts'. -/
def mergeSortsCard : Claim7 := { stood := { row := mergeSortsRow, standIns := [], harness := (true, "9af95b70b39427b9a025fd103e08471c02c385b1682eee4e10b4619c5f644c7c"), looks := true }, kinds := [], alts := [], laidByText := true, laidKinds := [.data], laidTests := true, laidLooks := .later }
def MergeSortsCardSaid : Prop := Claim7.holds Tryd.pinned (.plain (OpenSpec.ofChange mergeSortsSpec)) mergeSortsCard

/-- THE TIED CARD OF 'leapfroglaw07.MergeSkips'. -/
def mergeSkipsCard : Claim7 := { stood := { row := mergeSkipsRow, standIns := [], harness := (true, "9af95b70b39427b9a025fd103e08471c02c385b1682eee4e10b4619c5f644c7c"), looks := true }, kinds := [], alts := [], laidByText := true, laidKinds := [.data], laidTests := true, laidLooks := .later }
def MergeSkipsCardSaid : Prop := Claim7.holds Tryd.pinned (.plain (OpenSpec.ofChange mergeSkipsSpec)) mergeSkipsCard

/-- THE TIED CARD OF 'leapfroglaw07.MergeCounts'. -/
def mergeCountsCard : Claim7 := { stood := { row := mergeCountsRow, standIns := [], harness := (true, "9af95b70b39427b9a025fd103e08471c02c385b1682eee4e10b4619c5f644c7c"), looks := true }, kinds := [], alts := [], laidByText := true, laidKinds := [.data], laidTests := true, laidLooks := .later }
def MergeCountsCardSaid : Prop := Claim7.holds Tryd.pinned (.plain (OpenSpec.ofChange mergeCountsSpec)) mergeCountsCard

/-- THE SECOND FORM's CARD OF 'leapfroglaw07.MergeDoes'. -/
def mergeDoesUptoCard : Claim7 := { stood := { row := mergeDoesUptoRow, standIns := [], harness := (true, "9af95b70b39427b9a025fd103e08471c02c385b1682eee4e10b4619c5f644c7c"), looks := true }, kinds := [], alts := [], laidByText := true, laidKinds := [.data], laidTests := true, laidLooks := .later }
def MergeDoesUptoCardSaid : Prop := Claim7.holds Tryd.pinned (.plain (OpenSpec.upto mergeDoesSpec)) mergeDoesUptoCard

/-- THE SECOND FORM's CARD OF 'leapfroglaw07.MergeExamples'. -/
def mergeExamplesUptoCard : Claim7 := { stood := { row := mergeExamplesUptoRow, standIns := [], harness := (true, "9af95b70b39427b9a025fd103e08471c02c385b1682eee4e10b4619c5f644c7c"), looks := true }, kinds := [], alts := [], laidByText := true, laidKinds := [.data], laidTests := true, laidLooks := .later }
def MergeExamplesUptoCardSaid : Prop := Claim7.holds Tryd.pinned (.plain (OpenSpec.upto mergeExamplesSpec)) mergeExamplesUptoCard

/-- THE SECOND FORM's CARD OF 'leapfroglaw07.MergeSorts'. -/
def mergeSortsUptoCard : Claim7 := { stood := { row := mergeSortsUptoRow, standIns := [], harness := (true, "9af95b70b39427b9a025fd103e08471c02c385b1682eee4e10b4619c5f644c7c"), looks := true }, kinds := [], alts := [], laidByText := true, laidKinds := [.data], laidTests := true, laidLooks := .later }
def MergeSortsUptoCardSaid : Prop := Claim7.holds Tryd.pinned (.plain (OpenSpec.upto mergeSortsSpec)) mergeSortsUptoCard

/-- THE SECOND FORM's CARD OF 'leapfroglaw07.MergeSkips'. -/
def mergeSkipsUptoCard : Claim7 := { stood := { row := mergeSkipsUptoRow, standIns := [], harness := (true, "9af95b70b39427b9a025fd103e08471c02c385b1682eee4e10b4619c5f644c7c"), looks := true }, kinds := [], alts := [], laidByText := true, laidKinds := [.data], laidTests := true, laidLooks := .later }
def MergeSkipsUptoCardSaid : Prop := Claim7.holds Tryd.pinned (.plain (OpenSpec.upto mergeSkipsSpec)) mergeSkipsUptoCard

/-- THE SECOND FORM's CARD OF 'leapfroglaw07.MergeCounts'. -/
def mergeCountsUptoCard : Claim7 := { stood := { row := mergeCountsUptoRow, standIns := [], harness := (true, "9af95b70b39427b9a025fd103e08471c02c385b1682eee4e10b4619c5f644c7c"), looks := true }, kinds := [], alts := [], laidByText := true, laidKinds := [.data], laidTests := true, laidLooks := .later }
def MergeCountsUptoCardSaid : Prop := Claim7.holds Tryd.pinned (.plain (OpenSpec.upto mergeCountsSpec)) mergeCountsUptoCard
end Rows
end Go.Proofs.YtbndgbjenmknmaaDoor
