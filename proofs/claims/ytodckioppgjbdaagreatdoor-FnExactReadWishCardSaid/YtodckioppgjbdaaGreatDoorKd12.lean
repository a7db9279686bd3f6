/- Texts of the machine over data, folded. -/
import Derived.Test.YtodckioppgjbdaaGreatDoorKd5
import Derived.Test.YtodckioppgjbdaaGreatDoorKd8
set_option linter.unusedVariables false
set_option linter.unusedSimpArgs false
set_option maxRecDepth 100000
namespace Go.Proofs.YtodckioppgjbdaaGreatDoor.AM
open Go Go.RowKit
attribute [local irreducible] xD xJ xQ yD yJ Pre ACG
end Go.Proofs.YtodckioppgjbdaaGreatDoor.AM
