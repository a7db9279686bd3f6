/- The law's helpers on edits: a row of edits is marked and held against its marks. -/
import Derived.Test.YtnlobdhkpmeniaaLawF
import Derived.Test.YtnlobdhkpmeniaaLawM
namespace Go.Proofs.Ytnlobdhkpmeniaa
open Go.RowKit

end Go.Proofs.Ytnlobdhkpmeniaa
