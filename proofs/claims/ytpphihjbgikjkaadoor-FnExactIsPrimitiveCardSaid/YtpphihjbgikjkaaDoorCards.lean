/-
  DERIVED. GIVEN WITH THE SEED: THE CARDS: each row of YtpphihjbgikjkaaDoorRows.lean that lists a variable, with what it lists TIED to the program's text (the seventh form; the later family's looks); each row that meets fmt, with fmt's text TOLD by the authors' own Lean function (tested against real Go, not proved from fmt's source: count such statements apart). THE CARD IS WHAT COUNTS. Prove the row's statement (the work); the ties are given (YtpphihjbgikjkaaDoorTie.lean); close each card by the builder's one call (the guide's Derived/Test/ToyasCard.lean, 'card_holds'). Laid BY PROGRAM, IN A SANDBOX (cutbox-door.mjs). By AI agents, Wed Nov 11 2026. No macro, syntax, notation, axiom, sorry.
-/
import Derived.Test.YtpphihjbgikjkaaDoorRows
import GoSem.ClaimSeven
namespace Go.Proofs.YtpphihjbgikjkaaDoor
namespace Rows

/-- THE TIED CARD OF 'laws.FnExactStrongParts'. -/
def fnExactStrongPartsCard : Claim7 := { stood := { row := fnExactStrongPartsRow, standIns := [], harness := (true, "d19c0342450526ed463509eeb24b822f397c30cd38a5511434cb41adffc051ed"), looks := true }, kinds := [], alts := [], laidByText := true, laidKinds := [.sentinel], laidTests := true, laidLooks := .later }
def FnExactStrongPartsCardSaid : Prop := Claim7.holds Tryd.pinned (.plain (OpenSpec.ofChange fnExactStrongPartsSpec)) fnExactStrongPartsCard

/-- THE TIED CARD OF 'laws.FnExactIsTransitive'. -/
def fnExactIsTransitiveCard : Claim7 := { stood := { row := fnExactIsTransitiveRow, standIns := [], harness := (true, "d19c0342450526ed463509eeb24b822f397c30cd38a5511434cb41adffc051ed"), looks := true }, kinds := [], alts := [], laidByText := true, laidKinds := [.sentinel], laidTests := true, laidLooks := .later }
def FnExactIsTransitiveCardSaid : Prop := Claim7.holds Tryd.pinned (.plain (OpenSpec.ofChange fnExactIsTransitiveSpec)) fnExactIsTransitiveCard

/-- THE TIED CARD OF 'laws.FnExactIsInvariantPartition'. -/
def fnExactIsInvariantPartitionCard : Claim7 := { stood := { row := fnExactIsInvariantPartitionRow, standIns := [], harness := (true, "d19c0342450526ed463509eeb24b822f397c30cd38a5511434cb41adffc051ed"), looks := true }, kinds := [], alts := [], laidByText := true, laidKinds := [.sentinel], laidTests := true, laidLooks := .later }
def FnExactIsInvariantPartitionCardSaid : Prop := Claim7.holds Tryd.pinned (.plain (OpenSpec.ofChange fnExactIsInvariantPartitionSpec)) fnExactIsInvariantPartitionCard

/-- THE TIED CARD OF 'laws.FnExactInvariantPartitions'. -/
def fnExactInvariantPartitionsCard : Claim7 := { stood := { row := fnExactInvariantPartitionsRow, standIns := [], harness := (true, "d19c0342450526ed463509eeb24b822f397c30cd38a5511434cb41adffc051ed"), looks := true }, kinds := [], alts := [], laidByText := true, laidKinds := [.sentinel], laidTests := true, laidLooks := .later }
def FnExactInvariantPartitionsCardSaid : Prop := Claim7.holds Tryd.pinned (.plain (OpenSpec.ofChange fnExactInvariantPartitionsSpec)) fnExactInvariantPartitionsCard

/-- THE TIED CARD OF 'laws.FnExactIsPrimitive'. -/
def fnExactIsPrimitiveCard : Claim7 := { stood := { row := fnExactIsPrimitiveRow, standIns := [], harness := (true, "d19c0342450526ed463509eeb24b822f397c30cd38a5511434cb41adffc051ed"), looks := true }, kinds := [], alts := [], laidByText := true, laidKinds := [.sentinel], laidTests := true, laidLooks := .later }
def FnExactIsPrimitiveCardSaid : Prop := Claim7.holds Tryd.pinned (.plain (OpenSpec.ofChange fnExactIsPrimitiveSpec)) fnExactIsPrimitiveCard

/-- THE TIED CARD OF 'laws.FnExactListOfClasses'. -/
def fnExactListOfClassesCard : Claim7 := { stood := { row := fnExactListOfClassesRow, standIns := [], harness := (true, "d19c0342450526ed463509eeb24b822f397c30cd38a5511434cb41adffc051ed"), looks := true }, kinds := [], alts := [], laidByText := true, laidKinds := [.sentinel], laidTests := true, laidLooks := .later }
def FnExactListOfClassesCardSaid : Prop := Claim7.holds Tryd.pinned (.plain (OpenSpec.ofChange fnExactListOfClassesSpec)) fnExactListOfClassesCard

/-- THE SECOND FORM's CARD OF 'laws.FnExactStrongParts'. -/
def fnExactStrongPartsUptoCard : Claim7 := { stood := { row := fnExactStrongPartsUptoRow, standIns := [], harness := (true, "d19c0342450526ed463509eeb24b822f397c30cd38a5511434cb41adffc051ed"), looks := true }, kinds := [], alts := [], laidByText := true, laidKinds := [.sentinel], laidTests := true, laidLooks := .later }
def FnExactStrongPartsUptoCardSaid : Prop := Claim7.holds Tryd.pinned (.plain (OpenSpec.upto fnExactStrongPartsSpec)) fnExactStrongPartsUptoCard

/-- THE SECOND FORM's CARD OF 'laws.FnExactIsTransitive'. -/
def fnExactIsTransitiveUptoCard : Claim7 := { stood := { row := fnExactIsTransitiveUptoRow, standIns := [], harness := (true, "d19c0342450526ed463509eeb24b822f397c30cd38a5511434cb41adffc051ed"), looks := true }, kinds := [], alts := [], laidByText := true, laidKinds := [.sentinel], laidTests := true, laidLooks := .later }
def FnExactIsTransitiveUptoCardSaid : Prop := Claim7.holds Tryd.pinned (.plain (OpenSpec.upto fnExactIsTransitiveSpec)) fnExactIsTransitiveUptoCard

/-- THE SECOND FORM's CARD OF 'laws.FnExactIsInvariantPartition'. -/
def fnExactIsInvariantPartitionUptoCard : Claim7 := { stood := { row := fnExactIsInvariantPartitionUptoRow, standIns := [], harness := (true, "d19c0342450526ed463509eeb24b822f397c30cd38a5511434cb41adffc051ed"), looks := true }, kinds := [], alts := [], laidByText := true, laidKinds := [.sentinel], laidTests := true, laidLooks := .later }
def FnExactIsInvariantPartitionUptoCardSaid : Prop := Claim7.holds Tryd.pinned (.plain (OpenSpec.upto fnExactIsInvariantPartitionSpec)) fnExactIsInvariantPartitionUptoCard

/-- THE SECOND FORM's CARD OF 'laws.FnExactInvariantPartitions'. -/
def fnExactInvariantPartitionsUptoCard : Claim7 := { stood := { row := fnExactInvariantPartitionsUptoRow, standIns := [], harness := (true, "d19c0342450526ed463509eeb24b822f397c30cd38a5511434cb41adffc051ed"), looks := true }, kinds := [], alts := [], laidByText := true, laidKinds := [.sentinel], laidTests := true, laidLooks := .later }
def FnExactInvariantPartitionsUptoCardSaid : Prop := Claim7.holds Tryd.pinned (.plain (OpenSpec.upto fnExactInvariantPartitionsSpec)) fnExactInvariantPartitionsUptoCard

/-- THE SECOND FORM's CARD OF 'laws.FnExactIsPrimitive'. -/
def fnExactIsPrimitiveUptoCard : Claim7 := { stood := { row := fnExactIsPrimitiveUptoRow, standIns := [], harness := (true, "d19c0342450526ed463509eeb24b822f397c30cd38a5511434cb41adffc051ed"), looks := true }, kinds := [], alts := [], laidByText := true, laidKinds := [.sentinel], laidTests := true, laidLooks := .later }
def FnExactIsPrimitiveUptoCardSaid : Prop := Claim7.holds Tryd.pinned (.plain (OpenSpec.upto fnExactIsPrimitiveSpec)) fnExactIsPrimitiveUptoCard

/-- THE SECOND FORM's CARD OF 'laws.FnExactListOfClasses'. -/
def fnExactListOfClassesUptoCard : Claim7 := { stood := { row := fnExactListOfClassesUptoRow, standIns := [], harness := (true, "d19c0342450526ed463509eeb24b822f397c30cd38a5511434cb41adffc051ed"), looks := true }, kinds := [], alts := [], laidByText := true, laidKinds := [.sentinel], laidTests := true, laidLooks := .later }
def FnExactListOfClassesUptoCardSaid : Prop := Claim7.holds Tryd.pinned (.plain (OpenSpec.upto fnExactListOfClassesSpec)) fnExactListOfClassesUptoCard
end Rows
end Go.Proofs.YtpphihjbgikjkaaDoor
