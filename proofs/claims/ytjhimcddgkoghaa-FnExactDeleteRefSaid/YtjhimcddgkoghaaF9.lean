/- LiveRefs on both sides, and its law. -/
import Derived.Test.YtjhimcddgkoghaaF8
namespace Go.Proofs.Ytjhimcddgkoghaa.AM
open Go Go.RowKit
set_option linter.unusedVariables false
set_option linter.unusedSimpArgs false
set_option maxRecDepth 100000
theorem askF_len {l : List Rf} {x : ByteArray} (h : askF l x = 0) : l.length ≤ 8 ∧ x.size ≤ 65536 ∧ refsB l = true := by
  unfold askF at h
  split at h
  · cases h
  · split at h
    · rename_i h1 h2
      exact ⟨(refsB_of h2).1, by omega, h2⟩
    · cases h
attribute [local irreducible] ACode AOps AOps2 RetG RetM Pre ACG
end Go.Proofs.Ytjhimcddgkoghaa.AM
