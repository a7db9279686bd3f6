/- The law's helpers on edits: a row of edits is marked and held against its marks. -/
import Derived.Test.YtjhimcddgkoghaaLawF
import Derived.Test.YtjhimcddgkoghaaLawM
namespace Go.Proofs.Ytjhimcddgkoghaa
open Go.RowKit

end Go.Proofs.Ytjhimcddgkoghaa
