import Derived.Test.YtnlobdhkpmeniaaMdl3
namespace Go.Proofs.Ytnlobdhkpmeniaa
open Go.RowKit

end Go.Proofs.Ytnlobdhkpmeniaa
