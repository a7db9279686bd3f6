/- The machine over data (E4, E5). -/
import Derived.Test.YtfkheobbfefonaaE3
import Derived.Test.YtfkheobbfefonaaAmP
import Derived.Test.YtfkheobbfefonaaOpen
/- The law of StoreOK, over data. -/
namespace Go.Proofs.Ytfkheobbfefonaa.AM
open Go Go.RowKit
set_option linter.unusedVariables false
set_option linter.unusedSimpArgs false
set_option maxRecDepth 100000
attribute [local irreducible] ACode AOps AOps2 RetG RetM Pre ACG
def comOK (N : Nat) (cs : List Cmt) : Prop := ∀ c ∈ cs, c.1.length ≤ N ∧ c.2.length ≤ N ∧ ∀ e ∈ c.2, e.1.size ≤ N
theorem comOK.le {N M : Nat} {cs : List Cmt} (h : comOK N cs) (k : N ≤ M) : comOK M cs := fun c hc => ⟨Nat.le_trans (h c hc).1 k, Nat.le_trans (h c hc).2.1 k, fun e he => Nat.le_trans ((h c hc).2.2 e he) k⟩
end Go.Proofs.Ytfkheobbfefonaa.AM
/- A law's arguments opened: commits. -/
namespace Go.Proofs.Ytfkheobbfefonaa.AM
open Go Go.RowKit Go.ChangeShapes Go.WideShapes Go.Deep
set_option linter.unusedVariables false
set_option linter.unusedSimpArgs false

section
variable {S : Nat → Prop} {w : World}
end
section
variable {H : Type} {enc : TypeId × Value → H} {P : Program} {w : World} {base : Nat} {held : Bool}
theorem one_slice {t e : TypeId} {v : Value} {k : Nat} {y : DataW H × List MemPlace} (ht : P.underlying t = some (.slice e)) (h : DataW.trod enc P w base (fun _ => true) held k t [v] = some y) : ∃ A n c, v = .slice A n c := by
  rcases open_slice ht h with ⟨hcs, _⟩ | ⟨a, len, cap, m, n, D, Pl, hcs, _⟩
  · simp at hcs; exact ⟨_, _, _, hcs⟩
  · simp at hcs; exact ⟨_, _, _, hcs⟩
end
end Go.Proofs.Ytfkheobbfefonaa.AM
