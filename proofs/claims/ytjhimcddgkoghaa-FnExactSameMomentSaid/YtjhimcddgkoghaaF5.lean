/- A law's arguments opened: references. -/
import Derived.Test.YtjhimcddgkoghaaAmP
import Derived.Test.YtjhimcddgkoghaaF1
import Derived.Test.YtjhimcddgkoghaaOpen
namespace Go.Proofs.Ytjhimcddgkoghaa.AM
open Go Go.RowKit Go.ChangeShapes Go.WideShapes Go.Deep
set_option linter.unusedVariables false
set_option linter.unusedSimpArgs false
section
variable {S : Nat → Prop} {w : World}
end
section
variable {H : Type} {enc : TypeId × Value → H} {P : Program} {w : World} {base : Nat} {held : Bool}
end
end Go.Proofs.Ytjhimcddgkoghaa.AM
