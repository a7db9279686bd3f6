/- Diff, the document's and the program's: both go through the two maps side by side. -/
import Derived.Test.YtnlobdhkpmeniaaLawN
import Derived.Test.YtnlobdhkpmeniaaBase2
import Derived.Test.YtnlobdhkpmeniaaM3
namespace Go.Proofs.Ytnlobdhkpmeniaa
open Go.RowKit

end Go.Proofs.Ytnlobdhkpmeniaa
