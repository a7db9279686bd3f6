/- The law of StoreOK, over data. -/
import Derived.Test.YtnlobdhkpmeniaaE3
namespace Go.Proofs.Ytnlobdhkpmeniaa.AM
open Go Go.RowKit
set_option linter.unusedVariables false
set_option linter.unusedSimpArgs false
set_option maxRecDepth 100000
attribute [local irreducible] ACode AOps AOps2 RetG RetM Pre ACG
def comOK (N : Nat) (cs : List Cmt) : Prop := ∀ c ∈ cs, c.1.length ≤ N ∧ c.2.length ≤ N ∧ ∀ e ∈ c.2, e.1.size ≤ N
theorem comOK.le {N M : Nat} {cs : List Cmt} (h : comOK N cs) (k : N ≤ M) : comOK M cs := fun c hc => ⟨Nat.le_trans (h c hc).1 k, Nat.le_trans (h c hc).2.1 k, fun e he => Nat.le_trans ((h c hc).2.2 e he) k⟩
theorem comOK_sz {cs : List Cmt} (h : 0 ≤ szCS cs 1048576) : cs.length ≤ 1048576 ∧ comOK 1048576 cs := by
  obtain ⟨h1, h2⟩ := szCS_le h
  exact ⟨by omega, fun c hc => by obtain ⟨q1, q2, q3⟩ := h2 c hc; exact ⟨by omega, by omega, fun e he => by have := q3 e he; omega⟩⟩
end Go.Proofs.Ytnlobdhkpmeniaa.AM
