/- The laws' helpers over data: lists of strings compared, marked, held; edits' sizes. -/
import Derived.Test.YtnlobdhkpmeniaaA1
namespace Go.Proofs.Ytnlobdhkpmeniaa.AM
open Go Go.RowKit
set_option linter.unusedVariables false
set_option maxRecDepth 100000

section
variable {P : Program} {t : TypeId} {x y : Operand} {a b : ByteArray}
theorem b_sne_t (h : a ≠ b) : BinOK P .neq t x y (.string a) (.string b) (.bool true) := b_str fun w => by simp [Op.stringOp, toList_beq, h]
theorem b_sne_f (h : a = b) : BinOK P .neq t x y (.string a) (.string b) (.bool false) := b_str fun w => by simp [Op.stringOp, h]
theorem b_seq_t (h : a = b) : BinOK P .eql t x y (.string a) (.string b) (.bool true) := b_str fun w => by simp [Op.stringOp, h]
theorem b_seq_f (h : a ≠ b) : BinOK P .eql t x y (.string a) (.string b) (.bool false) := b_str fun w => by simp [Op.stringOp, toList_beq, h]
end
attribute [local irreducible] ACode AOps AOps2 RetG RetM Pre ACG

def markedS : Nat → Int → List ByteArray
  | 0, _ => []
  | n + 1, k => markB k :: markedS n (k + 1)
theorem markedS_length : ∀ (n : Nat) (k : Int), (markedS n k).length = n
  | 0, _ => rfl
  | n + 1, k => by simp [markedS, markedS_length n (k + 1)]
theorem markedS_get : ∀ (n : Nat) (k0 : Int) (k : Nat) (h : k < n), (markedS n k0)[k]'(by rw [markedS_length]; exact h) = markB (k0 + k)
  | n + 1, k0, 0, h => by simp [markedS]
  | n + 1, k0, k + 1, h => by
    have := markedS_get n (k0 + 1) k (by omega)
    simp only [markedS, List.getElem_cons_succ]
    rw [this]; congr 1; omega
theorem markedS_snoc : ∀ (n : Nat) (k : Int), markedS (n + 1) k = markedS n k ++ [markB (k + n)]
  | 0, k => by simp [markedS]
  | n + 1, k => by
    rw [markedS, markedS_snoc n (k + 1), markedS]
    have e : k + 1 + (n : Int) = k + ((n + 1 : Nat) : Int) := by omega
    rw [e]; rfl

end Go.Proofs.Ytnlobdhkpmeniaa.AM
