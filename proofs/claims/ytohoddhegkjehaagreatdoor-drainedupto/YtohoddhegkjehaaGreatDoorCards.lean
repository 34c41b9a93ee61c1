/-
  DERIVED. GIVEN WITH THE SEED: THE CARDS: each row of YtohoddhegkjehaaGreatDoorRows.lean that lists a variable, with what it lists TIED to the program's text (the seventh form; the later family's looks); each row that meets fmt, with fmt's text TOLD by the authors' own Lean function (tested against real Go, not proved from fmt's source: count such statements apart). THE CARD IS WHAT COUNTS. Prove the row's statement (the work); the ties are given (YtohoddhegkjehaaGreatDoorTie.lean); close each card by the builder's one call (the guide's Derived/Test/ToyasCard.lean, 'card_holds'). Laid BY PROGRAM, IN A SANDBOX (cutbox-door.mjs). By AI agents, Wed Nov 11 2026. No macro, syntax, notation, axiom, sorry.
-/
import Derived.Test.YtohoddhegkjehaaGreatDoorRows
import GoSem.ClaimSeven
namespace Go.Proofs.YtohoddhegkjehaaGreatDoor
namespace Rows

/-- THE TIED CARD OF 'hearthlaw.Cut'. -/
def cutCard : Claim7 := { stood := { row := cutRow, standIns := [], harness := (true, "bc2f775bd8d7278a694dc3b8db00a6fd1530184f3678f86a456c361bbd827575"), looks := true }, kinds := [], alts := [], laidByText := true, laidKinds := [.data, .data, .data], laidTests := true, laidLooks := .later }
def CutCardSaid : Prop := Claim7.holds Tryz.pinned (.plain (OpenSpec.ofChange cutSpec)) cutCard

/-- THE TIED CARD OF 'hearthlaw.Prefix'. -/
def prefixCard : Claim7 := { stood := { row := prefixRow, standIns := [], harness := (true, "bc2f775bd8d7278a694dc3b8db00a6fd1530184f3678f86a456c361bbd827575"), looks := true }, kinds := [], alts := [], laidByText := true, laidKinds := [.data, .data, .data], laidTests := true, laidLooks := .later }
def PrefixCardSaid : Prop := Claim7.holds Tryz.pinned (.plain (OpenSpec.ofChange prefixSpec)) prefixCard

/-- THE TIED CARD OF 'hearthlaw.Others'. -/
def othersCard : Claim7 := { stood := { row := othersRow, standIns := [], harness := (true, "bc2f775bd8d7278a694dc3b8db00a6fd1530184f3678f86a456c361bbd827575"), looks := true }, kinds := [], alts := [], laidByText := true, laidKinds := [.data, .data, .data], laidTests := true, laidLooks := .later }
def OthersCardSaid : Prop := Claim7.holds Tryz.pinned (.plain (OpenSpec.ofChange othersSpec)) othersCard

/-- THE TIED CARD OF 'hearthlaw.Drained'. -/
def drainedCard : Claim7 := { stood := { row := drainedRow, standIns := [], harness := (true, "bc2f775bd8d7278a694dc3b8db00a6fd1530184f3678f86a456c361bbd827575"), looks := true }, kinds := [], alts := [], laidByText := true, laidKinds := [.data, .data, .data], laidTests := true, laidLooks := .later }
def DrainedCardSaid : Prop := Claim7.holds Tryz.pinned (.plain (OpenSpec.ofChange drainedSpec)) drainedCard

/-- THE SECOND FORM's CARD OF 'hearthlaw.Cut'. -/
def cutUptoCard : Claim7 := { stood := { row := cutUptoRow, standIns := [], harness := (true, "bc2f775bd8d7278a694dc3b8db00a6fd1530184f3678f86a456c361bbd827575"), looks := true }, kinds := [], alts := [], laidByText := true, laidKinds := [.data, .data, .data], laidTests := true, laidLooks := .later }
def CutUptoCardSaid : Prop := Claim7.holds Tryz.pinned (.plain (OpenSpec.upto cutSpec)) cutUptoCard

/-- THE SECOND FORM's CARD OF 'hearthlaw.Prefix'. -/
def prefixUptoCard : Claim7 := { stood := { row := prefixUptoRow, standIns := [], harness := (true, "bc2f775bd8d7278a694dc3b8db00a6fd1530184f3678f86a456c361bbd827575"), looks := true }, kinds := [], alts := [], laidByText := true, laidKinds := [.data, .data, .data], laidTests := true, laidLooks := .later }
def PrefixUptoCardSaid : Prop := Claim7.holds Tryz.pinned (.plain (OpenSpec.upto prefixSpec)) prefixUptoCard

/-- THE SECOND FORM's CARD OF 'hearthlaw.Others'. -/
def othersUptoCard : Claim7 := { stood := { row := othersUptoRow, standIns := [], harness := (true, "bc2f775bd8d7278a694dc3b8db00a6fd1530184f3678f86a456c361bbd827575"), looks := true }, kinds := [], alts := [], laidByText := true, laidKinds := [.data, .data, .data], laidTests := true, laidLooks := .later }
def OthersUptoCardSaid : Prop := Claim7.holds Tryz.pinned (.plain (OpenSpec.upto othersSpec)) othersUptoCard

/-- THE SECOND FORM's CARD OF 'hearthlaw.Drained'. -/
def drainedUptoCard : Claim7 := { stood := { row := drainedUptoRow, standIns := [], harness := (true, "bc2f775bd8d7278a694dc3b8db00a6fd1530184f3678f86a456c361bbd827575"), looks := true }, kinds := [], alts := [], laidByText := true, laidKinds := [.data, .data, .data], laidTests := true, laidLooks := .later }
def DrainedUptoCardSaid : Prop := Claim7.holds Tryz.pinned (.plain (OpenSpec.upto drainedSpec)) drainedUptoCard
end Rows
end Go.Proofs.YtohoddhegkjehaaGreatDoor
