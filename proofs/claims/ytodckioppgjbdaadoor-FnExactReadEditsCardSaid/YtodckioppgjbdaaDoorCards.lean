/-
  DERIVED. GIVEN WITH THE SEED: THE CARDS: each row of YtodckioppgjbdaaDoorRows.lean that lists a variable, with what it lists TIED to the program's text (the seventh form; the later family's looks); each row that meets fmt, with fmt's text TOLD by the authors' own Lean function (tested against real Go, not proved from fmt's source: count such statements apart). THE CARD IS WHAT COUNTS. Prove the row's statement (the work); the ties are given (YtodckioppgjbdaaDoorTie.lean); close each card by the builder's one call (the guide's Derived/Test/ToyasCard.lean, 'card_holds'). Laid BY PROGRAM, IN A SANDBOX (cutbox-door.mjs). By AI agents, Wed Nov 11 2026. No macro, syntax, notation, axiom, sorry.
-/
import Derived.Test.YtodckioppgjbdaaDoorRows
import GoSem.ClaimSeven
namespace Go.Proofs.YtodckioppgjbdaaDoor
namespace Rows

/-- THE TIED CARD OF 'laws.FnExactMapText'. -/
def fnExactMapTextCard : Claim7 := { stood := { row := fnExactMapTextRow, standIns := [], harness := (true, "d5a27441acc4731a009262b16b132f2a731ec7539060f7e902309978251c4259"), looks := true }, kinds := [], alts := [], laidByText := true, laidKinds := [.data, .data, .data], laidTests := true, laidLooks := .later }
def FnExactMapTextCardSaid : Prop := Claim7.holds Tryd.pinned (.plain (OpenSpec.ofChange fnExactMapTextSpec)) fnExactMapTextCard

/-- THE TIED CARD OF 'laws.FnExactReadMap'. -/
def fnExactReadMapCard : Claim7 := { stood := { row := fnExactReadMapRow, standIns := [], harness := (true, "d5a27441acc4731a009262b16b132f2a731ec7539060f7e902309978251c4259"), looks := true }, kinds := [], alts := [], laidByText := true, laidKinds := [.data, .data, .data, .data, .sentinel, .sentinel, .pinned], laidTests := true, laidLooks := .later }
def FnExactReadMapCardSaid : Prop := Claim7.holds Tryd.pinned (.plain (OpenSpec.ofChange fnExactReadMapSpec)) fnExactReadMapCard

/-- THE TIED CARD OF 'laws.FnExactEditsText'. -/
def fnExactEditsTextCard : Claim7 := { stood := { row := fnExactEditsTextRow, standIns := [], harness := (true, "d5a27441acc4731a009262b16b132f2a731ec7539060f7e902309978251c4259"), looks := true }, kinds := [], alts := [], laidByText := true, laidKinds := [.data, .data, .data], laidTests := true, laidLooks := .later }
def FnExactEditsTextCardSaid : Prop := Claim7.holds Tryd.pinned (.plain (OpenSpec.ofChange fnExactEditsTextSpec)) fnExactEditsTextCard

/-- THE TIED CARD OF 'laws.FnExactReadEdits'. -/
def fnExactReadEditsCard : Claim7 := { stood := { row := fnExactReadEditsRow, standIns := [], harness := (true, "d5a27441acc4731a009262b16b132f2a731ec7539060f7e902309978251c4259"), looks := true }, kinds := [], alts := [], laidByText := true, laidKinds := [.data, .data, .data, .data, .sentinel, .sentinel, .pinned], laidTests := true, laidLooks := .later }
def FnExactReadEditsCardSaid : Prop := Claim7.holds Tryd.pinned (.plain (OpenSpec.ofChange fnExactReadEditsSpec)) fnExactReadEditsCard

/-- THE TIED CARD OF 'laws.FnExactResultText'. -/
def fnExactResultTextCard : Claim7 := { stood := { row := fnExactResultTextRow, standIns := [], harness := (true, "d5a27441acc4731a009262b16b132f2a731ec7539060f7e902309978251c4259"), looks := true }, kinds := [], alts := [], laidByText := true, laidKinds := [.data, .data, .data, .data], laidTests := true, laidLooks := .later }
def FnExactResultTextCardSaid : Prop := Claim7.holds Tryd.pinned (.plain (OpenSpec.ofChange fnExactResultTextSpec)) fnExactResultTextCard

/-- THE TIED CARD OF 'laws.FnExactBaseLines'. -/
def fnExactBaseLinesCard : Claim7 := { stood := { row := fnExactBaseLinesRow, standIns := [], harness := (true, "d5a27441acc4731a009262b16b132f2a731ec7539060f7e902309978251c4259"), looks := true }, kinds := [], alts := [], laidByText := true, laidKinds := [.data, .data, .data], laidTests := true, laidLooks := .later }
def FnExactBaseLinesCardSaid : Prop := Claim7.holds Tryd.pinned (.plain (OpenSpec.ofChange fnExactBaseLinesSpec)) fnExactBaseLinesCard

/-- THE TIED CARD OF 'laws.FnExactMomentText'. -/
def fnExactMomentTextCard : Claim7 := { stood := { row := fnExactMomentTextRow, standIns := [], harness := (true, "d5a27441acc4731a009262b16b132f2a731ec7539060f7e902309978251c4259"), looks := true }, kinds := [], alts := [], laidByText := true, laidKinds := [.data, .data, .data, .data, .data], laidTests := true, laidLooks := .later }
def FnExactMomentTextCardSaid : Prop := Claim7.holds Tryd.pinned (.plain (OpenSpec.ofChange fnExactMomentTextSpec)) fnExactMomentTextCard

/-- THE SECOND FORM's CARD OF 'laws.FnExactMapText'. -/
def fnExactMapTextUptoCard : Claim7 := { stood := { row := fnExactMapTextUptoRow, standIns := [], harness := (true, "d5a27441acc4731a009262b16b132f2a731ec7539060f7e902309978251c4259"), looks := true }, kinds := [], alts := [], laidByText := true, laidKinds := [.data, .data, .data], laidTests := true, laidLooks := .later }
def FnExactMapTextUptoCardSaid : Prop := Claim7.holds Tryd.pinned (.plain (OpenSpec.upto fnExactMapTextSpec)) fnExactMapTextUptoCard

/-- THE SECOND FORM's CARD OF 'laws.FnExactReadMap'. -/
def fnExactReadMapUptoCard : Claim7 := { stood := { row := fnExactReadMapUptoRow, standIns := [], harness := (true, "d5a27441acc4731a009262b16b132f2a731ec7539060f7e902309978251c4259"), looks := true }, kinds := [], alts := [], laidByText := true, laidKinds := [.data, .data, .data, .data, .sentinel, .sentinel, .pinned], laidTests := true, laidLooks := .later }
def FnExactReadMapUptoCardSaid : Prop := Claim7.holds Tryd.pinned (.plain (OpenSpec.upto fnExactReadMapSpec)) fnExactReadMapUptoCard

/-- THE SECOND FORM's CARD OF 'laws.FnExactEditsText'. -/
def fnExactEditsTextUptoCard : Claim7 := { stood := { row := fnExactEditsTextUptoRow, standIns := [], harness := (true, "d5a27441acc4731a009262b16b132f2a731ec7539060f7e902309978251c4259"), looks := true }, kinds := [], alts := [], laidByText := true, laidKinds := [.data, .data, .data], laidTests := true, laidLooks := .later }
def FnExactEditsTextUptoCardSaid : Prop := Claim7.holds Tryd.pinned (.plain (OpenSpec.upto fnExactEditsTextSpec)) fnExactEditsTextUptoCard

/-- THE SECOND FORM's CARD OF 'laws.FnExactReadEdits'. -/
def fnExactReadEditsUptoCard : Claim7 := { stood := { row := fnExactReadEditsUptoRow, standIns := [], harness := (true, "d5a27441acc4731a009262b16b132f2a731ec7539060f7e902309978251c4259"), looks := true }, kinds := [], alts := [], laidByText := true, laidKinds := [.data, .data, .data, .data, .sentinel, .sentinel, .pinned], laidTests := true, laidLooks := .later }
def FnExactReadEditsUptoCardSaid : Prop := Claim7.holds Tryd.pinned (.plain (OpenSpec.upto fnExactReadEditsSpec)) fnExactReadEditsUptoCard

/-- THE SECOND FORM's CARD OF 'laws.FnExactResultText'. -/
def fnExactResultTextUptoCard : Claim7 := { stood := { row := fnExactResultTextUptoRow, standIns := [], harness := (true, "d5a27441acc4731a009262b16b132f2a731ec7539060f7e902309978251c4259"), looks := true }, kinds := [], alts := [], laidByText := true, laidKinds := [.data, .data, .data, .data], laidTests := true, laidLooks := .later }
def FnExactResultTextUptoCardSaid : Prop := Claim7.holds Tryd.pinned (.plain (OpenSpec.upto fnExactResultTextSpec)) fnExactResultTextUptoCard

/-- THE SECOND FORM's CARD OF 'laws.FnExactBaseLines'. -/
def fnExactBaseLinesUptoCard : Claim7 := { stood := { row := fnExactBaseLinesUptoRow, standIns := [], harness := (true, "d5a27441acc4731a009262b16b132f2a731ec7539060f7e902309978251c4259"), looks := true }, kinds := [], alts := [], laidByText := true, laidKinds := [.data, .data, .data], laidTests := true, laidLooks := .later }
def FnExactBaseLinesUptoCardSaid : Prop := Claim7.holds Tryd.pinned (.plain (OpenSpec.upto fnExactBaseLinesSpec)) fnExactBaseLinesUptoCard

/-- THE SECOND FORM's CARD OF 'laws.FnExactMomentText'. -/
def fnExactMomentTextUptoCard : Claim7 := { stood := { row := fnExactMomentTextUptoRow, standIns := [], harness := (true, "d5a27441acc4731a009262b16b132f2a731ec7539060f7e902309978251c4259"), looks := true }, kinds := [], alts := [], laidByText := true, laidKinds := [.data, .data, .data, .data, .data], laidTests := true, laidLooks := .later }
def FnExactMomentTextUptoCardSaid : Prop := Claim7.holds Tryd.pinned (.plain (OpenSpec.upto fnExactMomentTextSpec)) fnExactMomentTextUptoCard
end Rows
end Go.Proofs.YtodckioppgjbdaaDoor
