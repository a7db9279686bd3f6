/- A law's arguments opened: slices of edits. -/
import Derived.Test.YtjhimcddgkoghaaOpen
namespace Go.Proofs.Ytjhimcddgkoghaa
open Go.RowKit Go.ChangeShapes Go.WideShapes Go.Deep

section
variable {H : Type} {enc : TypeId × Value → H} {P : Program} {w : World} {base : Nat} {held : Bool}
end
end Go.Proofs.Ytjhimcddgkoghaa
