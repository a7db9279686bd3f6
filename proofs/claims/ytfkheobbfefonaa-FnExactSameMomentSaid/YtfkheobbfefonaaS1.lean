/- The document's side of Get: l01Ask, l01At, Get; and the program's keyedMapCode. -/
import Derived.Test.YtfkheobbfefonaaM3
import Derived.Test.YtfkheobbfefonaaMdl3
namespace Go.Proofs.Ytfkheobbfefonaa
open Go.RowKit

end Go.Proofs.Ytfkheobbfefonaa
