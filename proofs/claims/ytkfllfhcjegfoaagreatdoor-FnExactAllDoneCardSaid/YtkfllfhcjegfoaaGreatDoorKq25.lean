/- Texts of the machine over data, folded. -/
import Derived.Test.YtkfllfhcjegfoaaGreatDoorKq24
set_option linter.unusedVariables false
set_option linter.unusedSimpArgs false
set_option maxRecDepth 100000
namespace Go.Proofs.YtkfllfhcjegfoaaGreatDoor.AM
open Go Go.RowKit
theorem qM {o : Opr} : aC4 o zop = (decide (o.kind = 0) && (decide (o.name = eB) && (decide (o.frm = 0) && (decide (o.key = eB) && decide (o.edits.length = 0))))) := by
 unfold aC4 zop
 simp only
 have e : decide (o.edits = []) = decide (o.edits.length = 0) := by simp [List.length_eq_zero_iff]
 rw [e]
 cases decide (o.kind = 0) <;> cases decide (o.frm = 0) <;> cases decide (o.name = eB) <;> cases decide (o.key = eB) <;> simp
def aHy (c : Cli) : Bool := decide (0 ≤ c.dn ∧ c.dn ≤ (c.ws.length : Int) ∧ c.ws.length ≤ 6) && aH8 c
theorem aKV (c : Cli) : aA5 c (aHy c) := by
 refine ⟨fun h => ?_, fun h => ?_⟩
 · unfold aHy aH8
   by_cases h6 : c.ws.length ≤ 6
   · rw [decide_eq_true (show 0 ≤ c.dn ∧ c.dn ≤ (c.ws.length : Int) ∧ c.ws.length ≤ 6 by omega), Bool.true_and]
   · rw [decide_eq_false h6, Bool.false_and, Bool.and_false]
 · unfold aHy at h
   simp only [Bool.and_eq_true, decide_eq_true_eq] at h
   exact h.1
theorem aNP {o : Opr} (h : opB o = true) : o.kind ≠ 0 := fun e => by
 unfold opB at h
 rw [if_neg (by omega), if_neg (by omega), if_neg (by omega), if_neg (by omega), Bool.and_false] at h
 cases h
end Go.Proofs.YtkfllfhcjegfoaaGreatDoor.AM
