/-
  DERIVED. GIVEN WITH THE SEED: THE CARDS: each row of YthjddpkegooobacGreatDoorRows.lean that lists a variable, with what it lists TIED to the program's text (the seventh form; the later family's looks); each row that meets fmt, with fmt's text TOLD by the authors' own Lean function (tested against real Go, not proved from fmt's source: count such statements apart). THE CARD IS WHAT COUNTS. Prove the row's statement (the work); the ties are given (YthjddpkegooobacGreatDoorTie.lean); close each card by the builder's one call (the guide's Derived/Test/ToyasCard.lean, 'card_holds'). Laid BY PROGRAM, IN A SANDBOX (cutbox-door.mjs). By AI agents, Wed Nov 11 2026. No macro, syntax, notation, axiom, sorry.
-/
import Derived.Test.YthjddpkegooobacGreatDoorRows
import GoSem.ClaimSeven
namespace Go.Proofs.YthjddpkegooobacGreatDoor
namespace Rows

/-- THE TIED CARD OF 'laws.FnExactTake'. -/
def fnExactTakeCard : Claim7 := { stood := { row := fnExactTakeRow, standIns := [], harness := (true, "79f80a209d3db358829380292b781817fe38d943028dc76762a4740bab2bf752"), looks := true }, kinds := [], alts := [], laidByText := true, laidKinds := [.handle], laidTests := true, laidLooks := .later }
def FnExactTakeCardSaid : Prop := Claim7.holds Tryz.pinned (.plain (OpenSpec.ofChange fnExactTakeSpec)) fnExactTakeCard

/-- THE TIED CARD OF 'laws.FnExactPlay'. -/
def fnExactPlayCard : Claim7 := { stood := { row := fnExactPlayRow, standIns := [], harness := (true, "79f80a209d3db358829380292b781817fe38d943028dc76762a4740bab2bf752"), looks := true }, kinds := [], alts := [], laidByText := true, laidKinds := [.handle], laidTests := true, laidLooks := .later }
def FnExactPlayCardSaid : Prop := Claim7.holds Tryz.pinned (.plain (OpenSpec.ofChange fnExactPlaySpec)) fnExactPlayCard

/-- THE SECOND FORM's CARD OF 'laws.FnExactTake'. -/
def fnExactTakeUptoCard : Claim7 := { stood := { row := fnExactTakeUptoRow, standIns := [], harness := (true, "79f80a209d3db358829380292b781817fe38d943028dc76762a4740bab2bf752"), looks := true }, kinds := [], alts := [], laidByText := true, laidKinds := [.handle], laidTests := true, laidLooks := .later }
def FnExactTakeUptoCardSaid : Prop := Claim7.holds Tryz.pinned (.plain (OpenSpec.upto fnExactTakeSpec)) fnExactTakeUptoCard

/-- THE SECOND FORM's CARD OF 'laws.FnExactPlay'. -/
def fnExactPlayUptoCard : Claim7 := { stood := { row := fnExactPlayUptoRow, standIns := [], harness := (true, "79f80a209d3db358829380292b781817fe38d943028dc76762a4740bab2bf752"), looks := true }, kinds := [], alts := [], laidByText := true, laidKinds := [.handle], laidTests := true, laidLooks := .later }
def FnExactPlayUptoCardSaid : Prop := Claim7.holds Tryz.pinned (.plain (OpenSpec.upto fnExactPlaySpec)) fnExactPlayUptoCard
end Rows
end Go.Proofs.YthjddpkegooobacGreatDoor
