/-
  DERIVED. GIVEN WITH THE SEED: THE CARDS: each row of YtnjgolbghcjijaaDoorRows.lean that lists a variable, with what it lists TIED to the program's text (the seventh form; the later family's looks); each row that meets fmt, with fmt's text TOLD by the authors' own Lean function (tested against real Go, not proved from fmt's source: count such statements apart). THE CARD IS WHAT COUNTS. Prove the row's statement (the work); the ties are given (YtnjgolbghcjijaaDoorTie.lean); close each card by the builder's one call (the guide's Derived/Test/ToyasCard.lean, 'card_holds'). Laid BY PROGRAM, IN A SANDBOX (cutbox-door.mjs). By AI agents, Wed Nov 11 2026. No macro, syntax, notation, axiom, sorry.
-/
import Derived.Test.YtnjgolbghcjijaaDoorRows
import GoSem.ClaimSeven
namespace Go.Proofs.YtnjgolbghcjijaaDoor
namespace Rows

/-- THE TIED CARD OF 'leapfroglaw03.DomainOf'. -/
def domainOfCard : Claim7 := { stood := { row := domainOfRow, standIns := [], harness := (true, "73c05d4cc3781551ba8a2e3eda799677e3e0fe488e9789da3a358584bb0eddef"), looks := false }, kinds := [], alts := [], laidByText := true, laidKinds := [.data], laidTests := true, laidLooks := .later }
def DomainOfCardSaid : Prop := Claim7.holds Tryd.pinned (.plain (OpenSpec.ofChange domainOfSpec)) domainOfCard

/-- THE TIED CARD OF 'leapfroglaw03.DomainImages'. -/
def domainImagesCard : Claim7 := { stood := { row := domainImagesRow, standIns := [], harness := (true, "73c05d4cc3781551ba8a2e3eda799677e3e0fe488e9789da3a358584bb0eddef"), looks := false }, kinds := [], alts := [], laidByText := true, laidKinds := [.data], laidTests := true, laidLooks := .later }
def DomainImagesCardSaid : Prop := Claim7.holds Tryd.pinned (.plain (OpenSpec.ofChange domainImagesSpec)) domainImagesCard

/-- THE TIED CARD OF 'leapfroglaw03.DomainLeast'. -/
def domainLeastCard : Claim7 := { stood := { row := domainLeastRow, standIns := [], harness := (true, "73c05d4cc3781551ba8a2e3eda799677e3e0fe488e9789da3a358584bb0eddef"), looks := false }, kinds := [], alts := [], laidByText := true, laidKinds := [.data], laidTests := true, laidLooks := .later }
def DomainLeastCardSaid : Prop := Claim7.holds Tryd.pinned (.plain (OpenSpec.ofChange domainLeastSpec)) domainLeastCard

/-- THE TIED CARD OF 'leapfroglaw03.DomainSets'. -/
def domainSetsCard : Claim7 := { stood := { row := domainSetsRow, standIns := [], harness := (true, "73c05d4cc3781551ba8a2e3eda799677e3e0fe488e9789da3a358584bb0eddef"), looks := false }, kinds := [], alts := [], laidByText := true, laidKinds := [.data], laidTests := true, laidLooks := .later }
def DomainSetsCardSaid : Prop := Claim7.holds Tryd.pinned (.plain (OpenSpec.ofChange domainSetsSpec)) domainSetsCard

/-- THE TIED CARD OF 'leapfroglaw03.DomainExamples'. -/
def domainExamplesCard : Claim7 := { stood := { row := domainExamplesRow, standIns := [], harness := (true, "73c05d4cc3781551ba8a2e3eda799677e3e0fe488e9789da3a358584bb0eddef"), looks := false }, kinds := [], alts := [], laidByText := true, laidKinds := [.data], laidTests := true, laidLooks := .later }
def DomainExamplesCardSaid : Prop := Claim7.holds Tryd.pinned (.plain (OpenSpec.ofChange domainExamplesSpec)) domainExamplesCard

/-- THE TIED CARD OF 'leapfroglaw03.DomainImage'. -/
def domainImageCard : Claim7 := { stood := { row := domainImageRow, standIns := [], harness := (true, "73c05d4cc3781551ba8a2e3eda799677e3e0fe488e9789da3a358584bb0eddef"), looks := false }, kinds := [], alts := [], laidByText := true, laidKinds := [.data], laidTests := true, laidLooks := .later }
def DomainImageCardSaid : Prop := Claim7.holds Tryd.pinned (.plain (OpenSpec.ofChange domainImageSpec)) domainImageCard

/-- THE TIED CARD OF 'leapfroglaw03.DomainParts'. -/
def domainPartsCard : Claim7 := { stood := { row := domainPartsRow, standIns := [], harness := (true, "73c05d4cc3781551ba8a2e3eda799677e3e0fe488e9789da3a358584bb0eddef"), looks := false }, kinds := [], alts := [], laidByText := true, laidKinds := [.data], laidTests := true, laidLooks := .later }
def DomainPartsCardSaid : Prop := Claim7.holds Tryd.pinned (.plain (OpenSpec.ofChange domainPartsSpec)) domainPartsCard

/-- THE TIED CARD OF 'leapfroglaw03.DomainMembers'. -/
def domainMembersCard : Claim7 := { stood := { row := domainMembersRow, standIns := [], harness := (true, "73c05d4cc3781551ba8a2e3eda799677e3e0fe488e9789da3a358584bb0eddef"), looks := false }, kinds := [], alts := [], laidByText := true, laidKinds := [.data], laidTests := true, laidLooks := .later }
def DomainMembersCardSaid : Prop := Claim7.holds Tryd.pinned (.plain (OpenSpec.ofChange domainMembersSpec)) domainMembersCard

/-- THE TIED CARD OF 'leapfroglaw03.DomainBuckets'. -/
def domainBucketsCard : Claim7 := { stood := { row := domainBucketsRow, standIns := [], harness := (true, "73c05d4cc3781551ba8a2e3eda799677e3e0fe488e9789da3a358584bb0eddef"), looks := false }, kinds := [], alts := [], laidByText := true, laidKinds := [.data], laidTests := true, laidLooks := .later }
def DomainBucketsCardSaid : Prop := Claim7.holds Tryd.pinned (.plain (OpenSpec.ofChange domainBucketsSpec)) domainBucketsCard

/-- THE SECOND FORM's CARD OF 'leapfroglaw03.DomainOf'. -/
def domainOfUptoCard : Claim7 := { stood := { row := domainOfUptoRow, standIns := [], harness := (true, "73c05d4cc3781551ba8a2e3eda799677e3e0fe488e9789da3a358584bb0eddef"), looks := false }, kinds := [], alts := [], laidByText := true, laidKinds := [.data], laidTests := true, laidLooks := .later }
def DomainOfUptoCardSaid : Prop := Claim7.holds Tryd.pinned (.plain (OpenSpec.upto domainOfSpec)) domainOfUptoCard

/-- THE SECOND FORM's CARD OF 'leapfroglaw03.DomainImages'. -/
def domainImagesUptoCard : Claim7 := { stood := { row := domainImagesUptoRow, standIns := [], harness := (true, "73c05d4cc3781551ba8a2e3eda799677e3e0fe488e9789da3a358584bb0eddef"), looks := false }, kinds := [], alts := [], laidByText := true, laidKinds := [.data], laidTests := true, laidLooks := .later }
def DomainImagesUptoCardSaid : Prop := Claim7.holds Tryd.pinned (.plain (OpenSpec.upto domainImagesSpec)) domainImagesUptoCard

/-- THE SECOND FORM's CARD OF 'leapfroglaw03.DomainLeast'. -/
def domainLeastUptoCard : Claim7 := { stood := { row := domainLeastUptoRow, standIns := [], harness := (true, "73c05d4cc3781551ba8a2e3eda799677e3e0fe488e9789da3a358584bb0eddef"), looks := false }, kinds := [], alts := [], laidByText := true, laidKinds := [.data], laidTests := true, laidLooks := .later }
def DomainLeastUptoCardSaid : Prop := Claim7.holds Tryd.pinned (.plain (OpenSpec.upto domainLeastSpec)) domainLeastUptoCard

/-- THE SECOND FORM's CARD OF 'leapfroglaw03.DomainSets'. -/
def domainSetsUptoCard : Claim7 := { stood := { row := domainSetsUptoRow, standIns := [], harness := (true, "73c05d4cc3781551ba8a2e3eda799677e3e0fe488e9789da3a358584bb0eddef"), looks := false }, kinds := [], alts := [], laidByText := true, laidKinds := [.data], laidTests := true, laidLooks := .later }
def DomainSetsUptoCardSaid : Prop := Claim7.holds Tryd.pinned (.plain (OpenSpec.upto domainSetsSpec)) domainSetsUptoCard

/-- THE SECOND FORM's CARD OF 'leapfroglaw03.DomainExamples'. -/
def domainExamplesUptoCard : Claim7 := { stood := { row := domainExamplesUptoRow, standIns := [], harness := (true, "73c05d4cc3781551ba8a2e3eda799677e3e0fe488e9789da3a358584bb0eddef"), looks := false }, kinds := [], alts := [], laidByText := true, laidKinds := [.data], laidTests := true, laidLooks := .later }
def DomainExamplesUptoCardSaid : Prop := Claim7.holds Tryd.pinned (.plain (OpenSpec.upto domainExamplesSpec)) domainExamplesUptoCard

/-- THE SECOND FORM's CARD OF 'leapfroglaw03.DomainImage'. -/
def domainImageUptoCard : Claim7 := { stood := { row := domainImageUptoRow, standIns := [], harness := (true, "73c05d4cc3781551ba8a2e3eda799677e3e0fe488e9789da3a358584bb0eddef"), looks := false }, kinds := [], alts := [], laidByText := true, laidKinds := [.data], laidTests := true, laidLooks := .later }
def DomainImageUptoCardSaid : Prop := Claim7.holds Tryd.pinned (.plain (OpenSpec.upto domainImageSpec)) domainImageUptoCard

/-- THE SECOND FORM's CARD OF 'leapfroglaw03.DomainParts'. -/
def domainPartsUptoCard : Claim7 := { stood := { row := domainPartsUptoRow, standIns := [], harness := (true, "73c05d4cc3781551ba8a2e3eda799677e3e0fe488e9789da3a358584bb0eddef"), looks := false }, kinds := [], alts := [], laidByText := true, laidKinds := [.data], laidTests := true, laidLooks := .later }
def DomainPartsUptoCardSaid : Prop := Claim7.holds Tryd.pinned (.plain (OpenSpec.upto domainPartsSpec)) domainPartsUptoCard

/-- THE SECOND FORM's CARD OF 'leapfroglaw03.DomainMembers'. -/
def domainMembersUptoCard : Claim7 := { stood := { row := domainMembersUptoRow, standIns := [], harness := (true, "73c05d4cc3781551ba8a2e3eda799677e3e0fe488e9789da3a358584bb0eddef"), looks := false }, kinds := [], alts := [], laidByText := true, laidKinds := [.data], laidTests := true, laidLooks := .later }
def DomainMembersUptoCardSaid : Prop := Claim7.holds Tryd.pinned (.plain (OpenSpec.upto domainMembersSpec)) domainMembersUptoCard

/-- THE SECOND FORM's CARD OF 'leapfroglaw03.DomainBuckets'. -/
def domainBucketsUptoCard : Claim7 := { stood := { row := domainBucketsUptoRow, standIns := [], harness := (true, "73c05d4cc3781551ba8a2e3eda799677e3e0fe488e9789da3a358584bb0eddef"), looks := false }, kinds := [], alts := [], laidByText := true, laidKinds := [.data], laidTests := true, laidLooks := .later }
def DomainBucketsUptoCardSaid : Prop := Claim7.holds Tryd.pinned (.plain (OpenSpec.upto domainBucketsSpec)) domainBucketsUptoCard
end Rows
end Go.Proofs.YtnjgolbghcjijaaDoor
