/-
  DERIVED. GIVEN WITH THE SEED: THE CARDS: each row of YtoaifonjemlfcaaDoorRows.lean that lists a variable, with what it lists TIED to the program's text (the seventh form; the later family's looks); each row that meets fmt, with fmt's text TOLD by the authors' own Lean function (tested against real Go, not proved from fmt's source: count such statements apart). THE CARD IS WHAT COUNTS. Prove the row's statement (the work); the ties are given (YtoaifonjemlfcaaDoorTie.lean); close each card by the builder's one call (the guide's Derived/Test/ToyasCard.lean, 'card_holds'). Laid BY PROGRAM, IN A SANDBOX (cutbox-door.mjs). By AI agents, Wed Nov 11 2026. No macro, syntax, notation, axiom, sorry.
-/
import Derived.Test.YtoaifonjemlfcaaDoorRows
import GoSem.ClaimSeven
namespace Go.Proofs.YtoaifonjemlfcaaDoor
namespace Rows

/-- THE TIED CARD OF 'laws.FnExactTakeNumber'. -/
def fnExactTakeNumberCard : Claim7 := { stood := { row := fnExactTakeNumberRow, standIns := [], harness := (true, "21398bb151937122c5481e68e9e2c204f2cfbc6b61794af4e85b5068bbd2ebed"), looks := false }, kinds := [], alts := [], laidByText := true, laidKinds := [.data], laidTests := true, laidLooks := .later }
def FnExactTakeNumberCardSaid : Prop := Claim7.holds Tryd.pinned (.plain (OpenSpec.ofChange fnExactTakeNumberSpec)) fnExactTakeNumberCard

/-- THE TIED CARD OF 'laws.FnExactDecodeCommit'. -/
def fnExactDecodeCommitCard : Claim7 := { stood := { row := fnExactDecodeCommitRow, standIns := [], harness := (true, "21398bb151937122c5481e68e9e2c204f2cfbc6b61794af4e85b5068bbd2ebed"), looks := false }, kinds := [], alts := [], laidByText := true, laidKinds := [.data], laidTests := true, laidLooks := .later }
def FnExactDecodeCommitCardSaid : Prop := Claim7.holds Tryd.pinned (.plain (OpenSpec.ofChange fnExactDecodeCommitSpec)) fnExactDecodeCommitCard

/-- THE TIED CARD OF 'laws.FnExactDecodeBase'. -/
def fnExactDecodeBaseCard : Claim7 := { stood := { row := fnExactDecodeBaseRow, standIns := [], harness := (true, "21398bb151937122c5481e68e9e2c204f2cfbc6b61794af4e85b5068bbd2ebed"), looks := false }, kinds := [], alts := [], laidByText := true, laidKinds := [.data], laidTests := true, laidLooks := .later }
def FnExactDecodeBaseCardSaid : Prop := Claim7.holds Tryd.pinned (.plain (OpenSpec.ofChange fnExactDecodeBaseSpec)) fnExactDecodeBaseCard

/-- THE SECOND FORM's CARD OF 'laws.FnExactTakeNumber'. -/
def fnExactTakeNumberUptoCard : Claim7 := { stood := { row := fnExactTakeNumberUptoRow, standIns := [], harness := (true, "21398bb151937122c5481e68e9e2c204f2cfbc6b61794af4e85b5068bbd2ebed"), looks := false }, kinds := [], alts := [], laidByText := true, laidKinds := [.data], laidTests := true, laidLooks := .later }
def FnExactTakeNumberUptoCardSaid : Prop := Claim7.holds Tryd.pinned (.plain (OpenSpec.upto fnExactTakeNumberSpec)) fnExactTakeNumberUptoCard

/-- THE SECOND FORM's CARD OF 'laws.FnExactDecodeCommit'. -/
def fnExactDecodeCommitUptoCard : Claim7 := { stood := { row := fnExactDecodeCommitUptoRow, standIns := [], harness := (true, "21398bb151937122c5481e68e9e2c204f2cfbc6b61794af4e85b5068bbd2ebed"), looks := false }, kinds := [], alts := [], laidByText := true, laidKinds := [.data], laidTests := true, laidLooks := .later }
def FnExactDecodeCommitUptoCardSaid : Prop := Claim7.holds Tryd.pinned (.plain (OpenSpec.upto fnExactDecodeCommitSpec)) fnExactDecodeCommitUptoCard

/-- THE SECOND FORM's CARD OF 'laws.FnExactDecodeBase'. -/
def fnExactDecodeBaseUptoCard : Claim7 := { stood := { row := fnExactDecodeBaseUptoRow, standIns := [], harness := (true, "21398bb151937122c5481e68e9e2c204f2cfbc6b61794af4e85b5068bbd2ebed"), looks := false }, kinds := [], alts := [], laidByText := true, laidKinds := [.data], laidTests := true, laidLooks := .later }
def FnExactDecodeBaseUptoCardSaid : Prop := Claim7.holds Tryd.pinned (.plain (OpenSpec.upto fnExactDecodeBaseSpec)) fnExactDecodeBaseUptoCard
end Rows
end Go.Proofs.YtoaifonjemlfcaaDoor
