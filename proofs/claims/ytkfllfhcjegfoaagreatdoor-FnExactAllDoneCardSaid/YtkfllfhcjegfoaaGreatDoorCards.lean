/-
  DERIVED. GIVEN WITH THE SEED: THE CARDS: each row of YtkfllfhcjegfoaaGreatDoorRows.lean that lists a variable, with what it lists TIED to the program's text (the seventh form; the later family's looks); each row that meets fmt, with fmt's text TOLD by the authors' own Lean function (tested against real Go, not proved from fmt's source: count such statements apart). THE CARD IS WHAT COUNTS. Prove the row's statement (the work); the ties are given (YtkfllfhcjegfoaaGreatDoorTie.lean); close each card by the builder's one call (the guide's Derived/Test/ToyasCard.lean, 'card_holds'). Laid BY PROGRAM, IN A SANDBOX (cutbox-door.mjs). By AI agents, Wed Nov 11 2026. No macro, syntax, notation, axiom, sorry.
-/
import Derived.Test.YtkfllfhcjegfoaaGreatDoorRows
import GoSem.ClaimSeven
namespace Go.Proofs.YtkfllfhcjegfoaaGreatDoor
namespace Rows

/-- THE TIED CARD OF 'laws.FnExactAllDone'. -/
def fnExactAllDoneCard : Claim7 := { stood := { row := fnExactAllDoneRow, standIns := [], harness := (true, "740c8ec921fdfd7f32852cee8121848cfcda66d5b70699f762a0d664b993acd7"), looks := true }, kinds := [], alts := [], laidByText := true, laidKinds := [.data], laidTests := true, laidLooks := .later }
def FnExactAllDoneCardSaid : Prop := Claim7.holds Tryz.pinned (.plain (OpenSpec.ofChange fnExactAllDoneSpec)) fnExactAllDoneCard

/-- THE SECOND FORM's CARD OF 'laws.FnExactAllDone'. -/
def fnExactAllDoneUptoCard : Claim7 := { stood := { row := fnExactAllDoneUptoRow, standIns := [], harness := (true, "740c8ec921fdfd7f32852cee8121848cfcda66d5b70699f762a0d664b993acd7"), looks := true }, kinds := [], alts := [], laidByText := true, laidKinds := [.data], laidTests := true, laidLooks := .later }
def FnExactAllDoneUptoCardSaid : Prop := Claim7.holds Tryz.pinned (.plain (OpenSpec.upto fnExactAllDoneSpec)) fnExactAllDoneUptoCard
end Rows
end Go.Proofs.YtkfllfhcjegfoaaGreatDoor
