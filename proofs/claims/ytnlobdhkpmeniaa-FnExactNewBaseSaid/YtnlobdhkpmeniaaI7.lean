/- The program's way through two maps side by side. -/
import Derived.Test.YtnlobdhkpmeniaaS7
namespace Go.Proofs.Ytnlobdhkpmeniaa
open Go.RowKit

end Go.Proofs.Ytnlobdhkpmeniaa
