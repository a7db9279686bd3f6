import Derived.Test.YtnlobdhkpmeniaaM2
namespace Go.Proofs.Ytnlobdhkpmeniaa
open Go.RowKit

end Go.Proofs.Ytnlobdhkpmeniaa
