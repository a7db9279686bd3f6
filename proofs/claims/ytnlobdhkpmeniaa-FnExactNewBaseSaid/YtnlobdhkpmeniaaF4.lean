/- RefsOK of the document, over data. -/
import Derived.Test.YtnlobdhkpmeniaaF3
namespace Go.Proofs.Ytnlobdhkpmeniaa.AM
open Go Go.RowKit
set_option linter.unusedVariables false
set_option linter.unusedSimpArgs false
set_option maxRecDepth 100000
attribute [local irreducible] ACode AOps AOps2 RetG RetM Pre ACG
end Go.Proofs.Ytnlobdhkpmeniaa.AM
