/- The document's side of Get: l01Ask, l01At, Get; and the program's keyedMapCode. -/
import Derived.Test.YtjhimcddgkoghaaM3
import Derived.Test.YtjhimcddgkoghaaMdl3
namespace Go.Proofs.Ytjhimcddgkoghaa
open Go.RowKit

end Go.Proofs.Ytjhimcddgkoghaa
