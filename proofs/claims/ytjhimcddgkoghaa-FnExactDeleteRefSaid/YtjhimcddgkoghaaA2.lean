/- The laws' helpers over data: lists of strings compared, marked, held; edits' sizes. -/
import Derived.Test.YtjhimcddgkoghaaA1
namespace Go.Proofs.Ytjhimcddgkoghaa.AM
open Go Go.RowKit
set_option linter.unusedVariables false
set_option maxRecDepth 100000

section
variable {P : Program} {t : TypeId} {x y : Operand} {a b : ByteArray}
theorem b_sne_f (h : a = b) : BinOK P .neq t x y (.string a) (.string b) (.bool false) := b_str fun w => by simp [Op.stringOp, h]
theorem b_seq_t (h : a = b) : BinOK P .eql t x y (.string a) (.string b) (.bool true) := b_str fun w => by simp [Op.stringOp, h]
theorem b_seq_f (h : a ≠ b) : BinOK P .eql t x y (.string a) (.string b) (.bool false) := b_str fun w => by simp [Op.stringOp, toList_beq, h]
end
attribute [local irreducible] ACode AOps AOps2 RetG RetM Pre ACG

end Go.Proofs.Ytjhimcddgkoghaa.AM
