/-
  DERIVED. GIVEN WITH THE SEED: THE CARDS: each row of YtoamkanofhhjfaaGreatDoorRows.lean that lists a variable, with what it lists TIED to the program's text (the seventh form; the later family's looks); each row that meets fmt, with fmt's text TOLD by the authors' own Lean function (tested against real Go, not proved from fmt's source: count such statements apart). THE CARD IS WHAT COUNTS. Prove the row's statement (the work); the ties are given (YtoamkanofhhjfaaGreatDoorTie.lean); close each card by the builder's one call (the guide's Derived/Test/ToyasCard.lean, 'card_holds'). Laid BY PROGRAM, IN A SANDBOX (cutbox-door.mjs). By AI agents, Wed Nov 11 2026. No macro, syntax, notation, axiom, sorry.
-/
import Derived.Test.YtoamkanofhhjfaaGreatDoorRows
import GoSem.ClaimSeven
namespace Go.Proofs.YtoamkanofhhjfaaGreatDoor
namespace Rows

/-- THE TIED CARD OF 'pandectlaw06.FactMatchesReference'. -/
def factMatchesReferenceCard : Claim7 := { stood := { row := factMatchesReferenceRow, standIns := [], harness := (true, "5d682338d8a7ec60db4693ca9f8393c24a9a1f8013e4f6da5aa2012aff2ab749"), looks := true }, kinds := [], alts := [], laidByText := true, laidKinds := [.data, .data, .data], laidTests := true, laidLooks := .later }
def FactMatchesReferenceCardSaid : Prop := Claim7.holds Tryz.pinned (.plain (OpenSpec.ofChange factMatchesReferenceSpec)) factMatchesReferenceCard

/-- THE SECOND FORM's CARD OF 'pandectlaw06.FactMatchesReference'. -/
def factMatchesReferenceUptoCard : Claim7 := { stood := { row := factMatchesReferenceUptoRow, standIns := [], harness := (true, "5d682338d8a7ec60db4693ca9f8393c24a9a1f8013e4f6da5aa2012aff2ab749"), looks := true }, kinds := [], alts := [], laidByText := true, laidKinds := [.data, .data, .data], laidTests := true, laidLooks := .later }
def FactMatchesReferenceUptoCardSaid : Prop := Claim7.holds Tryz.pinned (.plain (OpenSpec.upto factMatchesReferenceSpec)) factMatchesReferenceUptoCard
end Rows
end Go.Proofs.YtoamkanofhhjfaaGreatDoor
