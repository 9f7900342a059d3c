/-
  DERIVED. GIVEN WITH THE SEED: THE CARDS: each row of YthdjajelbpccpaaDoorRows.lean that lists a variable, with what it lists TIED to the program's text (the seventh form; the later family's looks); each row that meets fmt, with fmt's text TOLD by the authors' own Lean function (tested against real Go, not proved from fmt's source: count such statements apart). THE CARD IS WHAT COUNTS. Prove the row's statement (the work); the ties are given (YthdjajelbpccpaaDoorTie.lean); close each card by the builder's one call (the guide's Derived/Test/ToyasCard.lean, 'card_holds'). Laid BY PROGRAM, IN A SANDBOX (cutbox-door.mjs). By AI agents, Wed Nov 11 2026. No macro, syntax, notation, axiom, sorry.
-/
import Derived.Test.YthdjajelbpccpaaDoorRows
import GoSem.ClaimSeven
namespace Go.Proofs.YthdjajelbpccpaaDoor
namespace Rows

/-- THE TIED CARD OF 'laws.FnExactLeadPoint'. -/
def fnExactLeadPointCard : Claim7 := { stood := { row := fnExactLeadPointRow, standIns := [], harness := (true, "df2164004144463f1ba4cfc5367fdfb95ad30849028cfe22e60d57c6481e1cb5"), looks := true }, kinds := [], alts := [], laidByText := true, laidKinds := [.sentinel], laidTests := true, laidLooks := .later }
def FnExactLeadPointCardSaid : Prop := Claim7.holds Tryd.pinned (.plain (OpenSpec.ofChange fnExactLeadPointSpec)) fnExactLeadPointCard

/-- THE TIED CARD OF 'laws.FnExactRankOfWord'. -/
def fnExactRankOfWordCard : Claim7 := { stood := { row := fnExactRankOfWordRow, standIns := [], harness := (true, "df2164004144463f1ba4cfc5367fdfb95ad30849028cfe22e60d57c6481e1cb5"), looks := true }, kinds := [], alts := [], laidByText := true, laidKinds := [.sentinel], laidTests := true, laidLooks := .later }
def FnExactRankOfWordCardSaid : Prop := Claim7.holds Tryd.pinned (.plain (OpenSpec.ofChange fnExactRankOfWordSpec)) fnExactRankOfWordCard

/-- THE TIED CARD OF 'laws.FnExactImageAlong'. -/
def fnExactImageAlongCard : Claim7 := { stood := { row := fnExactImageAlongRow, standIns := [], harness := (true, "df2164004144463f1ba4cfc5367fdfb95ad30849028cfe22e60d57c6481e1cb5"), looks := true }, kinds := [], alts := [], laidByText := true, laidKinds := [.sentinel], laidTests := true, laidLooks := .later }
def FnExactImageAlongCardSaid : Prop := Claim7.holds Tryd.pinned (.plain (OpenSpec.ofChange fnExactImageAlongSpec)) fnExactImageAlongCard

/-- THE TIED CARD OF 'laws.FnExactFixedByWord'. -/
def fnExactFixedByWordCard : Claim7 := { stood := { row := fnExactFixedByWordRow, standIns := [], harness := (true, "df2164004144463f1ba4cfc5367fdfb95ad30849028cfe22e60d57c6481e1cb5"), looks := true }, kinds := [], alts := [], laidByText := true, laidKinds := [.sentinel], laidTests := true, laidLooks := .later }
def FnExactFixedByWordCardSaid : Prop := Claim7.holds Tryd.pinned (.plain (OpenSpec.ofChange fnExactFixedByWordSpec)) fnExactFixedByWordCard

/-- THE TIED CARD OF 'laws.FnExactAccepts'. -/
def fnExactAcceptsCard : Claim7 := { stood := { row := fnExactAcceptsRow, standIns := [], harness := (true, "df2164004144463f1ba4cfc5367fdfb95ad30849028cfe22e60d57c6481e1cb5"), looks := true }, kinds := [], alts := [], laidByText := true, laidKinds := [.sentinel], laidTests := true, laidLooks := .later }
def FnExactAcceptsCardSaid : Prop := Claim7.holds Tryd.pinned (.plain (OpenSpec.ofChange fnExactAcceptsSpec)) fnExactAcceptsCard

/-- THE SECOND FORM's CARD OF 'laws.FnExactLeadPoint'. -/
def fnExactLeadPointUptoCard : Claim7 := { stood := { row := fnExactLeadPointUptoRow, standIns := [], harness := (true, "df2164004144463f1ba4cfc5367fdfb95ad30849028cfe22e60d57c6481e1cb5"), looks := true }, kinds := [], alts := [], laidByText := true, laidKinds := [.sentinel], laidTests := true, laidLooks := .later }
def FnExactLeadPointUptoCardSaid : Prop := Claim7.holds Tryd.pinned (.plain (OpenSpec.upto fnExactLeadPointSpec)) fnExactLeadPointUptoCard

/-- THE SECOND FORM's CARD OF 'laws.FnExactRankOfWord'. -/
def fnExactRankOfWordUptoCard : Claim7 := { stood := { row := fnExactRankOfWordUptoRow, standIns := [], harness := (true, "df2164004144463f1ba4cfc5367fdfb95ad30849028cfe22e60d57c6481e1cb5"), looks := true }, kinds := [], alts := [], laidByText := true, laidKinds := [.sentinel], laidTests := true, laidLooks := .later }
def FnExactRankOfWordUptoCardSaid : Prop := Claim7.holds Tryd.pinned (.plain (OpenSpec.upto fnExactRankOfWordSpec)) fnExactRankOfWordUptoCard

/-- THE SECOND FORM's CARD OF 'laws.FnExactImageAlong'. -/
def fnExactImageAlongUptoCard : Claim7 := { stood := { row := fnExactImageAlongUptoRow, standIns := [], harness := (true, "df2164004144463f1ba4cfc5367fdfb95ad30849028cfe22e60d57c6481e1cb5"), looks := true }, kinds := [], alts := [], laidByText := true, laidKinds := [.sentinel], laidTests := true, laidLooks := .later }
def FnExactImageAlongUptoCardSaid : Prop := Claim7.holds Tryd.pinned (.plain (OpenSpec.upto fnExactImageAlongSpec)) fnExactImageAlongUptoCard

/-- THE SECOND FORM's CARD OF 'laws.FnExactFixedByWord'. -/
def fnExactFixedByWordUptoCard : Claim7 := { stood := { row := fnExactFixedByWordUptoRow, standIns := [], harness := (true, "df2164004144463f1ba4cfc5367fdfb95ad30849028cfe22e60d57c6481e1cb5"), looks := true }, kinds := [], alts := [], laidByText := true, laidKinds := [.sentinel], laidTests := true, laidLooks := .later }
def FnExactFixedByWordUptoCardSaid : Prop := Claim7.holds Tryd.pinned (.plain (OpenSpec.upto fnExactFixedByWordSpec)) fnExactFixedByWordUptoCard

/-- THE SECOND FORM's CARD OF 'laws.FnExactAccepts'. -/
def fnExactAcceptsUptoCard : Claim7 := { stood := { row := fnExactAcceptsUptoRow, standIns := [], harness := (true, "df2164004144463f1ba4cfc5367fdfb95ad30849028cfe22e60d57c6481e1cb5"), looks := true }, kinds := [], alts := [], laidByText := true, laidKinds := [.sentinel], laidTests := true, laidLooks := .later }
def FnExactAcceptsUptoCardSaid : Prop := Claim7.holds Tryd.pinned (.plain (OpenSpec.upto fnExactAcceptsSpec)) fnExactAcceptsUptoCard
end Rows
end Go.Proofs.YthdjajelbpccpaaDoor
