/- SameMap, the document's and the program's. -/
import Derived.Test.YtnlobdhkpmeniaaM3
import Derived.Test.YtnlobdhkpmeniaaLawE2
import Derived.Laws.StructEq
namespace Go.Proofs.Ytnlobdhkpmeniaa
open Go.RowKit

end Go.Proofs.Ytnlobdhkpmeniaa
