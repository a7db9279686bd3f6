/- The program's way through two maps side by side. -/
import Derived.Test.YtfkheobbfefonaaS7
namespace Go.Proofs.Ytfkheobbfefonaa
open Go.RowKit

end Go.Proofs.Ytfkheobbfefonaa
