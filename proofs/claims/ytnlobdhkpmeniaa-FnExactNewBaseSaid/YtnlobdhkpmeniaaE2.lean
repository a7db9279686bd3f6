/- Whether a store is valid, on both sides. -/
import Derived.Test.YtnlobdhkpmeniaaE1
import Derived.Test.YtnlobdhkpmeniaaA3
namespace Go.Proofs.Ytnlobdhkpmeniaa.AM
open Go Go.RowKit
set_option linter.unusedVariables false
set_option linter.unusedSimpArgs false
set_option maxRecDepth 100000

theorem run_beqIn {P : Program} {w : World} {t : TypeId} {a b : Bool} (d : Nat) (h : P.underlying t = some .bool) : (Op.equalIn (d + 1) t (.bool a) (.bool b)).run P w = .ok (a == b) w := by
  simp [Op.equalIn, run_underlying h]
theorem run_beq {P : Program} {w : World} {t : TypeId} {a b : Bool} (h : P.underlying t = some .bool) : (Op.equal t (.bool a) (.bool b)).run P w = .ok (a == b) w := by
  exact run_beqIn 9999 h
theorem b_bne {P : Program} {t : TypeId} {x y : Operand} {a b : Bool} (h : P.underlying t = some .bool) : BinOK P .neq t x y (.bool a) (.bool b) (.bool (a != b)) := fun w => by
  simp [eqGuard, binOp, run_beq h]; cases a <;> cases b <;> rfl
attribute [local irreducible] ACode AOps AOps2 RetG RetM Pre ACG

end Go.Proofs.Ytnlobdhkpmeniaa.AM
