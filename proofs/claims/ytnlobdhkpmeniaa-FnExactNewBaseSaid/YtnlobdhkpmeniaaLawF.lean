/- The law's helpers on edits: size, copy, equality. -/
import Derived.Test.YtnlobdhkpmeniaaLawE2
namespace Go.Proofs.Ytnlobdhkpmeniaa
open Go.RowKit

instance edt_dec : DecidableEq Edt := fun a b => decidable_of_iff (a.key = b.key ∧ a.val = b.val ∧ a.gone = b.gone) ⟨fun ⟨h1, h2, h3⟩ => by cases a; cases b; simp at *; exact ⟨h1, h2, h3⟩, fun h => by subst h; exact ⟨rfl, rfl, rfl⟩⟩
end Go.Proofs.Ytnlobdhkpmeniaa
