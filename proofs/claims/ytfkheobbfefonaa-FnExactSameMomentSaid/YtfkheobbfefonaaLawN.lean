/- The law's helpers on edits: a row of edits is marked and held against its marks. -/
import Derived.Test.YtfkheobbfefonaaLawF
import Derived.Test.YtfkheobbfefonaaLawM
namespace Go.Proofs.Ytfkheobbfefonaa
open Go.RowKit

end Go.Proofs.Ytfkheobbfefonaa
