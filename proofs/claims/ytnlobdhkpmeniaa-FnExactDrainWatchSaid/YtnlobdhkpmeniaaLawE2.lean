/- The machine over data (LawE, LawE2). -/
import Derived.Test.YtnlobdhkpmeniaaBase
/- The law's helpers on entries: size, copy, equality. -/
namespace Go.Proofs.Ytnlobdhkpmeniaa
open Go.RowKit

end Go.Proofs.Ytnlobdhkpmeniaa
namespace Go.Proofs.Ytnlobdhkpmeniaa
open Go.RowKit

end Go.Proofs.Ytnlobdhkpmeniaa
