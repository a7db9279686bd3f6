/- Diff, the document's and the program's: both go through the two maps side by side. -/
import Derived.Test.YtfkheobbfefonaaLawN
import Derived.Test.YtfkheobbfefonaaBase2
import Derived.Test.YtfkheobbfefonaaM3
namespace Go.Proofs.Ytfkheobbfefonaa
open Go.RowKit

end Go.Proofs.Ytfkheobbfefonaa
