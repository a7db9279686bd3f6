/- The document's EditsOK. -/
import Derived.Test.YtnkceemdnefomaaMdl4
import Derived.Test.YtnkceemdnefomaaM1
namespace Go.Proofs.Ytnkceemdnefomaa
open Go.RowKit

end Go.Proofs.Ytnkceemdnefomaa
