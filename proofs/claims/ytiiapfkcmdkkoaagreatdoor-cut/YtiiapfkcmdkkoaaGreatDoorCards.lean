/-
  DERIVED. GIVEN WITH THE SEED: THE CARDS: each row of YtiiapfkcmdkkoaaGreatDoorRows.lean that lists a variable, with what it lists TIED to the program's text (the seventh form; the later family's looks); each row that meets fmt, with fmt's text TOLD by the authors' own Lean function (tested against real Go, not proved from fmt's source: count such statements apart). THE CARD IS WHAT COUNTS. Prove the row's statement (the work); the ties are given (YtiiapfkcmdkkoaaGreatDoorTie.lean); close each card by the builder's one call (the guide's Derived/Test/ToyasCard.lean, 'card_holds'). Laid BY PROGRAM, IN A SANDBOX (cutbox-door.mjs). By AI agents, Wed Nov 11 2026. No macro, syntax, notation, axiom, sorry.
-/
import Derived.Test.YtiiapfkcmdkkoaaGreatDoorRows
import GoSem.ClaimSeven
namespace Go.Proofs.YtiiapfkcmdkkoaaGreatDoor
namespace Rows

/-- THE TIED CARD OF 'hearthlaw.Serves'. -/
def servesCard : Claim7 := { stood := { row := servesRow, standIns := [], harness := (true, "65798de3721b6a9a1ae7d3d8e922982c17ceb590e921d1c7ca8abcdb1d2b99a7"), looks := true }, kinds := [], alts := [], goes := true, laidByText := true, laidKinds := [.data, .data, .data, .data], laidTests := true, laidLooks := .later }
def ServesCardSaid : Prop := Claim7.holds Tryz.pinned (.plain (OpenSpec.ofChange servesSpec)) servesCard

/-- THE TIED CARD OF 'hearthlaw.Cut'. -/
def cutCard : Claim7 := { stood := { row := cutRow, standIns := [], harness := (true, "65798de3721b6a9a1ae7d3d8e922982c17ceb590e921d1c7ca8abcdb1d2b99a7"), looks := true }, kinds := [], alts := [], goes := true, laidByText := true, laidKinds := [.data, .data, .data, .data], laidTests := true, laidLooks := .later }
def CutCardSaid : Prop := Claim7.holds Tryz.pinned (.plain (OpenSpec.ofChange cutSpec)) cutCard

/-- THE TIED CARD OF 'hearthlaw.Prefix'. -/
def prefixCard : Claim7 := { stood := { row := prefixRow, standIns := [], harness := (true, "65798de3721b6a9a1ae7d3d8e922982c17ceb590e921d1c7ca8abcdb1d2b99a7"), looks := true }, kinds := [], alts := [], goes := true, laidByText := true, laidKinds := [.data, .data, .data, .data], laidTests := true, laidLooks := .later }
def PrefixCardSaid : Prop := Claim7.holds Tryz.pinned (.plain (OpenSpec.ofChange prefixSpec)) prefixCard

/-- THE TIED CARD OF 'hearthlaw.Others'. -/
def othersCard : Claim7 := { stood := { row := othersRow, standIns := [], harness := (true, "65798de3721b6a9a1ae7d3d8e922982c17ceb590e921d1c7ca8abcdb1d2b99a7"), looks := true }, kinds := [], alts := [], goes := true, laidByText := true, laidKinds := [.data, .data, .data, .data], laidTests := true, laidLooks := .later }
def OthersCardSaid : Prop := Claim7.holds Tryz.pinned (.plain (OpenSpec.ofChange othersSpec)) othersCard

/-- THE TIED CARD OF 'hearthlaw.Bounded'. -/
def boundedCard : Claim7 := { stood := { row := boundedRow, standIns := [], harness := (true, "65798de3721b6a9a1ae7d3d8e922982c17ceb590e921d1c7ca8abcdb1d2b99a7"), looks := true }, kinds := [], alts := [], goes := true, laidByText := true, laidKinds := [.data, .data, .data, .data], laidTests := true, laidLooks := .later }
def BoundedCardSaid : Prop := Claim7.holds Tryz.pinned (.plain (OpenSpec.ofChange boundedSpec)) boundedCard

/-- THE TIED CARD OF 'hearthlaw.Drained'. -/
def drainedCard : Claim7 := { stood := { row := drainedRow, standIns := [], harness := (true, "65798de3721b6a9a1ae7d3d8e922982c17ceb590e921d1c7ca8abcdb1d2b99a7"), looks := true }, kinds := [], alts := [], goes := true, laidByText := true, laidKinds := [.data, .data, .data, .data], laidTests := true, laidLooks := .later }
def DrainedCardSaid : Prop := Claim7.holds Tryz.pinned (.plain (OpenSpec.ofChange drainedSpec)) drainedCard

/-- THE SECOND FORM's CARD OF 'hearthlaw.Serves'. -/
def servesUptoCard : Claim7 := { stood := { row := servesUptoRow, standIns := [], harness := (true, "65798de3721b6a9a1ae7d3d8e922982c17ceb590e921d1c7ca8abcdb1d2b99a7"), looks := true }, kinds := [], alts := [], goes := true, laidByText := true, laidKinds := [.data, .data, .data, .data], laidTests := true, laidLooks := .later }
def ServesUptoCardSaid : Prop := Claim7.holds Tryz.pinned (.plain (OpenSpec.upto servesSpec)) servesUptoCard

/-- THE SECOND FORM's CARD OF 'hearthlaw.Cut'. -/
def cutUptoCard : Claim7 := { stood := { row := cutUptoRow, standIns := [], harness := (true, "65798de3721b6a9a1ae7d3d8e922982c17ceb590e921d1c7ca8abcdb1d2b99a7"), looks := true }, kinds := [], alts := [], goes := true, laidByText := true, laidKinds := [.data, .data, .data, .data], laidTests := true, laidLooks := .later }
def CutUptoCardSaid : Prop := Claim7.holds Tryz.pinned (.plain (OpenSpec.upto cutSpec)) cutUptoCard

/-- THE SECOND FORM's CARD OF 'hearthlaw.Prefix'. -/
def prefixUptoCard : Claim7 := { stood := { row := prefixUptoRow, standIns := [], harness := (true, "65798de3721b6a9a1ae7d3d8e922982c17ceb590e921d1c7ca8abcdb1d2b99a7"), looks := true }, kinds := [], alts := [], goes := true, laidByText := true, laidKinds := [.data, .data, .data, .data], laidTests := true, laidLooks := .later }
def PrefixUptoCardSaid : Prop := Claim7.holds Tryz.pinned (.plain (OpenSpec.upto prefixSpec)) prefixUptoCard

/-- THE SECOND FORM's CARD OF 'hearthlaw.Others'. -/
def othersUptoCard : Claim7 := { stood := { row := othersUptoRow, standIns := [], harness := (true, "65798de3721b6a9a1ae7d3d8e922982c17ceb590e921d1c7ca8abcdb1d2b99a7"), looks := true }, kinds := [], alts := [], goes := true, laidByText := true, laidKinds := [.data, .data, .data, .data], laidTests := true, laidLooks := .later }
def OthersUptoCardSaid : Prop := Claim7.holds Tryz.pinned (.plain (OpenSpec.upto othersSpec)) othersUptoCard

/-- THE SECOND FORM's CARD OF 'hearthlaw.Bounded'. -/
def boundedUptoCard : Claim7 := { stood := { row := boundedUptoRow, standIns := [], harness := (true, "65798de3721b6a9a1ae7d3d8e922982c17ceb590e921d1c7ca8abcdb1d2b99a7"), looks := true }, kinds := [], alts := [], goes := true, laidByText := true, laidKinds := [.data, .data, .data, .data], laidTests := true, laidLooks := .later }
def BoundedUptoCardSaid : Prop := Claim7.holds Tryz.pinned (.plain (OpenSpec.upto boundedSpec)) boundedUptoCard

/-- THE SECOND FORM's CARD OF 'hearthlaw.Drained'. -/
def drainedUptoCard : Claim7 := { stood := { row := drainedUptoRow, standIns := [], harness := (true, "65798de3721b6a9a1ae7d3d8e922982c17ceb590e921d1c7ca8abcdb1d2b99a7"), looks := true }, kinds := [], alts := [], goes := true, laidByText := true, laidKinds := [.data, .data, .data, .data], laidTests := true, laidLooks := .later }
def DrainedUptoCardSaid : Prop := Claim7.holds Tryz.pinned (.plain (OpenSpec.upto drainedSpec)) drainedUptoCard
end Rows
end Go.Proofs.YtiiapfkcmdkkoaaGreatDoor
