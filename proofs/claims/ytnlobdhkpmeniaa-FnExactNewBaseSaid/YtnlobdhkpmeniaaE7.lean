/- The machine over data (E6, E7). -/
import Derived.Test.YtnlobdhkpmeniaaE5
import Derived.Test.YtnlobdhkpmeniaaS6
/- Two stores compared, on both sides; the law of SameStore over data. -/
namespace Go.Proofs.Ytnlobdhkpmeniaa.AM
open Go Go.RowKit
set_option linter.unusedVariables false
set_option linter.unusedSimpArgs false
set_option maxRecDepth 100000
attribute [local irreducible] ACode AOps AOps2 RetG RetM Pre ACG
end Go.Proofs.Ytnlobdhkpmeniaa.AM
/- The law of SameStore over data. -/
namespace Go.Proofs.Ytnlobdhkpmeniaa.AM
open Go Go.RowKit
set_option linter.unusedVariables false
set_option linter.unusedSimpArgs false
set_option maxRecDepth 100000
attribute [local irreducible] ACode AOps AOps2 RetG RetM Pre ACG
end Go.Proofs.Ytnlobdhkpmeniaa.AM
