/-
  DERIVED. GIVEN WITH THE SEED: THE CARDS: each row of YtodckioppgjbdaaGreatDoorRows.lean that lists a variable, with what it lists TIED to the program's text (the seventh form; the later family's looks); each row that meets fmt, with fmt's text TOLD by the authors' own Lean function (tested against real Go, not proved from fmt's source: count such statements apart). THE CARD IS WHAT COUNTS. Prove the row's statement (the work); the ties are given (YtodckioppgjbdaaGreatDoorTie.lean); close each card by the builder's one call (the guide's Derived/Test/ToyasCard.lean, 'card_holds'). Laid BY PROGRAM, IN A SANDBOX (cutbox-door.mjs). By AI agents, Wed Nov 11 2026. No macro, syntax, notation, axiom, sorry.
-/
import Derived.Test.YtodckioppgjbdaaGreatDoorRows
import GoSem.ClaimSeven
namespace Go.Proofs.YtodckioppgjbdaaGreatDoor
namespace Rows

/-- THE TIED CARD OF 'laws.FnExactWishText'. -/
def fnExactWishTextCard : Claim7 := { stood := { row := fnExactWishTextRow, standIns := [], harness := (true, "486dc8f1c2743077f1b60f3aae7daaccd56a154ddc07cf55bc807d255d6b0bec"), looks := true }, kinds := [], alts := [], laidByText := true, laidKinds := [.data, .data, .data, .data, .sentinel, .sentinel, .data, .pinned], laidTests := true, laidLooks := .later }
def FnExactWishTextCardSaid : Prop := Claim7.holds Tryz.pinned (.plain (OpenSpec.ofChange fnExactWishTextSpec)) fnExactWishTextCard

/-- THE TIED CARD OF 'laws.FnExactReadWish'. -/
def fnExactReadWishCard : Claim7 := { stood := { row := fnExactReadWishRow, standIns := [], harness := (true, "486dc8f1c2743077f1b60f3aae7daaccd56a154ddc07cf55bc807d255d6b0bec"), looks := true }, kinds := [], alts := [], laidByText := true, laidKinds := [.data, .data, .data, .data, .sentinel, .sentinel, .data, .pinned], laidTests := true, laidLooks := .later }
def FnExactReadWishCardSaid : Prop := Claim7.holds Tryz.pinned (.plain (OpenSpec.ofChange fnExactReadWishSpec)) fnExactReadWishCard

/-- THE TIED CARD OF 'laws.FnTexts'. -/
def fnTextsCard : Claim7 := { stood := { row := fnTextsRow, standIns := [], harness := (true, "486dc8f1c2743077f1b60f3aae7daaccd56a154ddc07cf55bc807d255d6b0bec"), looks := true }, kinds := [], alts := [], laidByText := true, laidKinds := [.data, .data, .data, .data, .sentinel, .sentinel, .data, .pinned], laidTests := true, laidLooks := .later }
def FnTextsCardSaid : Prop := Claim7.holds Tryz.pinned (.plain (OpenSpec.ofChange fnTextsSpec)) fnTextsCard

/-- THE TIED CARD OF 'laws.FnLists'. -/
def fnListsCard : Claim7 := { stood := { row := fnListsRow, standIns := [], harness := (true, "486dc8f1c2743077f1b60f3aae7daaccd56a154ddc07cf55bc807d255d6b0bec"), looks := true }, kinds := [], alts := [], laidByText := true, laidKinds := [.data, .data, .data, .data, .data], laidTests := true, laidLooks := .later }
def FnListsCardSaid : Prop := Claim7.holds Tryz.pinned (.plain (OpenSpec.ofChange fnListsSpec)) fnListsCard

/-- THE SECOND FORM's CARD OF 'laws.FnExactWishText'. -/
def fnExactWishTextUptoCard : Claim7 := { stood := { row := fnExactWishTextUptoRow, standIns := [], harness := (true, "486dc8f1c2743077f1b60f3aae7daaccd56a154ddc07cf55bc807d255d6b0bec"), looks := true }, kinds := [], alts := [], laidByText := true, laidKinds := [.data, .data, .data, .data, .sentinel, .sentinel, .data, .pinned], laidTests := true, laidLooks := .later }
def FnExactWishTextUptoCardSaid : Prop := Claim7.holds Tryz.pinned (.plain (OpenSpec.upto fnExactWishTextSpec)) fnExactWishTextUptoCard

/-- THE SECOND FORM's CARD OF 'laws.FnExactReadWish'. -/
def fnExactReadWishUptoCard : Claim7 := { stood := { row := fnExactReadWishUptoRow, standIns := [], harness := (true, "486dc8f1c2743077f1b60f3aae7daaccd56a154ddc07cf55bc807d255d6b0bec"), looks := true }, kinds := [], alts := [], laidByText := true, laidKinds := [.data, .data, .data, .data, .sentinel, .sentinel, .data, .pinned], laidTests := true, laidLooks := .later }
def FnExactReadWishUptoCardSaid : Prop := Claim7.holds Tryz.pinned (.plain (OpenSpec.upto fnExactReadWishSpec)) fnExactReadWishUptoCard

/-- THE SECOND FORM's CARD OF 'laws.FnTexts'. -/
def fnTextsUptoCard : Claim7 := { stood := { row := fnTextsUptoRow, standIns := [], harness := (true, "486dc8f1c2743077f1b60f3aae7daaccd56a154ddc07cf55bc807d255d6b0bec"), looks := true }, kinds := [], alts := [], laidByText := true, laidKinds := [.data, .data, .data, .data, .sentinel, .sentinel, .data, .pinned], laidTests := true, laidLooks := .later }
def FnTextsUptoCardSaid : Prop := Claim7.holds Tryz.pinned (.plain (OpenSpec.upto fnTextsSpec)) fnTextsUptoCard

/-- THE SECOND FORM's CARD OF 'laws.FnLists'. -/
def fnListsUptoCard : Claim7 := { stood := { row := fnListsUptoRow, standIns := [], harness := (true, "486dc8f1c2743077f1b60f3aae7daaccd56a154ddc07cf55bc807d255d6b0bec"), looks := true }, kinds := [], alts := [], laidByText := true, laidKinds := [.data, .data, .data, .data, .data], laidTests := true, laidLooks := .later }
def FnListsUptoCardSaid : Prop := Claim7.holds Tryz.pinned (.plain (OpenSpec.upto fnListsSpec)) fnListsUptoCard
end Rows
end Go.Proofs.YtodckioppgjbdaaGreatDoor
