/- The program's side of Get: keyedMapCode, place, find, Get. -/
import Derived.Test.YtfkheobbfefonaaS1
namespace Go.Proofs.Ytfkheobbfefonaa
open Go.RowKit

end Go.Proofs.Ytfkheobbfefonaa
