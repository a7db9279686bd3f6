/- SameMap, the document's and the program's. -/
import Derived.Test.YtnlobdhkpmeniaaM3
import Derived.Test.YtnlobdhkpmeniaaLawE2
import Derived.Laws.StructEq
namespace Go.Proofs.Ytnlobdhkpmeniaa
open Go.RowKit

theorem held_Entry : Try.prog.stoodInHeld 114 = false := by kernel_rfl
theorem guard_Entry : Try.prog.eqGuardType Try.prog.depth 114 = false := by kernel_rfl

theorem sameM_eq (a b c : Bool) : (if a = true then (if b = true then c else false) else false) = (a && (b && c)) := by cases a <;> cases b <;> rfl
def sameM (es es' : List Ent) : Bool := mapOK es && (mapOK es' && decide (es = es'))

end Go.Proofs.Ytnlobdhkpmeniaa
