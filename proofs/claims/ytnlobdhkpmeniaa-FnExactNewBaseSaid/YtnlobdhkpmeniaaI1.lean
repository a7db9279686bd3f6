/- The program's side of Get: keyedMapCode, place, find, Get. -/
import Derived.Test.YtnlobdhkpmeniaaS1
namespace Go.Proofs.Ytnlobdhkpmeniaa
open Go.RowKit

end Go.Proofs.Ytnlobdhkpmeniaa
