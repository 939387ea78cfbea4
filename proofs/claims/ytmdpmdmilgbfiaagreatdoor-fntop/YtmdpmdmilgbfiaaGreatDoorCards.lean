/-
  DERIVED. GIVEN WITH THE SEED: THE CARDS: each row of YtmdpmdmilgbfiaaGreatDoorRows.lean that lists a variable, with what it lists TIED to the program's text (the seventh form; the later family's looks); each row that meets fmt, with fmt's text TOLD by the authors' own Lean function (tested against real Go, not proved from fmt's source: count such statements apart). THE CARD IS WHAT COUNTS. Prove the row's statement (the work); the ties are given (YtmdpmdmilgbfiaaGreatDoorTie.lean); close each card by the builder's one call (the guide's Derived/Test/ToyasCard.lean, 'card_holds'). Laid BY PROGRAM, IN A SANDBOX (cutbox-door.mjs). By AI agents, Wed Nov 11 2026. No macro, syntax, notation, axiom, sorry.
-/
import Derived.Test.YtmdpmdmilgbfiaaGreatDoorRows
import GoSem.ClaimSeven
namespace Go.Proofs.YtmdpmdmilgbfiaaGreatDoor
namespace Rows

/-- THE TIED CARD OF 'laws.FnTop'. -/
def fnTopCard : Claim7 := { stood := { row := fnTopRow, standIns := [], harness := (true, "1122c4521b4eb49c195f2a71b28a6187aad3023b8f243094791693b81cd3fd14"), looks := true }, kinds := [], alts := [], laidByText := true, laidKinds := [.handle], laidTests := true, laidLooks := .later }
def FnTopCardSaid : Prop := Claim7.holds Tryz.pinned (.plain (OpenSpec.ofChange fnTopSpec)) fnTopCard

/-- THE TIED CARD OF 'laws.FnCrash'. -/
def fnCrashCard : Claim7 := { stood := { row := fnCrashRow, standIns := [], harness := (true, "1122c4521b4eb49c195f2a71b28a6187aad3023b8f243094791693b81cd3fd14"), looks := true }, kinds := [], alts := [], laidByText := true, laidKinds := [.handle], laidTests := true, laidLooks := .later }
def FnCrashCardSaid : Prop := Claim7.holds Tryz.pinned (.plain (OpenSpec.ofChange fnCrashSpec)) fnCrashCard

/-- THE TIED CARD OF 'laws.FnKeeps'. -/
def fnKeepsCard : Claim7 := { stood := { row := fnKeepsRow, standIns := [], harness := (true, "1122c4521b4eb49c195f2a71b28a6187aad3023b8f243094791693b81cd3fd14"), looks := true }, kinds := [], alts := [], laidByText := true, laidKinds := [.handle], laidTests := true, laidLooks := .later }
def FnKeepsCardSaid : Prop := Claim7.holds Tryz.pinned (.plain (OpenSpec.ofChange fnKeepsSpec)) fnKeepsCard

/-- THE TIED CARD OF 'laws.FnFlip'. -/
def fnFlipCard : Claim7 := { stood := { row := fnFlipRow, standIns := [], harness := (true, "1122c4521b4eb49c195f2a71b28a6187aad3023b8f243094791693b81cd3fd14"), looks := true }, kinds := [], alts := [], laidByText := true, laidKinds := [.handle], laidTests := true, laidLooks := .later }
def FnFlipCardSaid : Prop := Claim7.holds Tryz.pinned (.plain (OpenSpec.ofChange fnFlipSpec)) fnFlipCard

/-- THE SECOND FORM's CARD OF 'laws.FnTop'. -/
def fnTopUptoCard : Claim7 := { stood := { row := fnTopUptoRow, standIns := [], harness := (true, "1122c4521b4eb49c195f2a71b28a6187aad3023b8f243094791693b81cd3fd14"), looks := true }, kinds := [], alts := [], laidByText := true, laidKinds := [.handle], laidTests := true, laidLooks := .later }
def FnTopUptoCardSaid : Prop := Claim7.holds Tryz.pinned (.plain (OpenSpec.upto fnTopSpec)) fnTopUptoCard

/-- THE SECOND FORM's CARD OF 'laws.FnCrash'. -/
def fnCrashUptoCard : Claim7 := { stood := { row := fnCrashUptoRow, standIns := [], harness := (true, "1122c4521b4eb49c195f2a71b28a6187aad3023b8f243094791693b81cd3fd14"), looks := true }, kinds := [], alts := [], laidByText := true, laidKinds := [.handle], laidTests := true, laidLooks := .later }
def FnCrashUptoCardSaid : Prop := Claim7.holds Tryz.pinned (.plain (OpenSpec.upto fnCrashSpec)) fnCrashUptoCard

/-- THE SECOND FORM's CARD OF 'laws.FnKeeps'. -/
def fnKeepsUptoCard : Claim7 := { stood := { row := fnKeepsUptoRow, standIns := [], harness := (true, "1122c4521b4eb49c195f2a71b28a6187aad3023b8f243094791693b81cd3fd14"), looks := true }, kinds := [], alts := [], laidByText := true, laidKinds := [.handle], laidTests := true, laidLooks := .later }
def FnKeepsUptoCardSaid : Prop := Claim7.holds Tryz.pinned (.plain (OpenSpec.upto fnKeepsSpec)) fnKeepsUptoCard

/-- THE SECOND FORM's CARD OF 'laws.FnFlip'. -/
def fnFlipUptoCard : Claim7 := { stood := { row := fnFlipUptoRow, standIns := [], harness := (true, "1122c4521b4eb49c195f2a71b28a6187aad3023b8f243094791693b81cd3fd14"), looks := true }, kinds := [], alts := [], laidByText := true, laidKinds := [.handle], laidTests := true, laidLooks := .later }
def FnFlipUptoCardSaid : Prop := Claim7.holds Tryz.pinned (.plain (OpenSpec.upto fnFlipSpec)) fnFlipUptoCard
end Rows
end Go.Proofs.YtmdpmdmilgbfiaaGreatDoor
