/- Edits compared as structs; a struct's comparison over data. -/
import Derived.Test.YtnlobdhkpmeniaaA2
import Derived.Laws.StructEq
namespace Go.Proofs.Ytnlobdhkpmeniaa.AM
open Go Go.RowKit
set_option linter.unusedVariables false
set_option linter.unusedSimpArgs false
set_option maxRecDepth 100000
section
variable {P : Program} {Θ : Tab} {s : St} {d : Option Tmp} {ty : TypeId} {pos : String} {after : Array Edge} {g : Option (Nat × Bool)}
end
section
variable {s : St} {Θ : Tab}
end
end Go.Proofs.Ytnlobdhkpmeniaa.AM
