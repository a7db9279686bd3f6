/- The document's side of Get: l01Ask, l01At, Get; and the program's keyedMapCode. -/
import Derived.Test.YtnlobdhkpmeniaaM3
import Derived.Test.YtnlobdhkpmeniaaMdl3
namespace Go.Proofs.Ytnlobdhkpmeniaa
open Go.RowKit

end Go.Proofs.Ytnlobdhkpmeniaa
