/- The machine over data (E6, E7). -/
import Derived.Test.YtnlobdhkpmeniaaE4
import Derived.Test.YtnlobdhkpmeniaaS6
/- Two stores compared, on both sides; the law of SameStore over data. -/
namespace Go.Proofs.Ytnlobdhkpmeniaa.AM
open Go Go.RowKit
set_option linter.unusedVariables false
set_option linter.unusedSimpArgs false
set_option maxRecDepth 100000
attribute [local irreducible] ACode AOps AOps2 RetG RetM Pre ACG
theorem ext_to {α : Type} {a b : List α} (h : a.length = b.length) (he : ∀ i, i < a.length → ∃ (h1 : i < a.length) (h2 : i < b.length), a[i] = b[i]) : a = b :=
  List.ext_getElem h fun i h1 h2 => (he i h1).2.2
def Agree {α : Type} (a b : List α) (k : Nat) : Prop := ∀ i, i < k → ∃ (h1 : i < a.length) (h2 : i < b.length), a[i] = b[i]
theorem Agree.snoc {α : Type} {a b : List α} {k : Nat} (h : Agree a b k) (h1 : k < a.length) (h2 : k < b.length) (he : a[k] = b[k]) : Agree a b (k + 1) := fun i hi => by
  rcases Nat.lt_or_ge i k with h' | h'
  · exact h i h'
  · have : i = k := by omega
    subst this; exact ⟨h1, h2, he⟩
theorem com_ext {a b : Cmt} : a = b ↔ a.1 = b.1 ∧ a.2 = b.2 := ⟨fun h => by subst h; exact ⟨rfl, rfl⟩, fun ⟨h1, h2⟩ => Prod.ext h1 h2⟩
noncomputable def samB (a b : List Cmt) : Bool := stoB a && (stoB b && decide (a = b))
theorem stoB_len {a : List Cmt} (h : ¬ a.length ≤ 4096) : stoB a = false := by
  unfold stoB
  have : decide (1 ≤ a.length ∧ a.length ≤ 60) = false := by simp; omega
  rw [this, Bool.false_and]
end Go.Proofs.Ytnlobdhkpmeniaa.AM
/- The law of SameStore over data. -/
namespace Go.Proofs.Ytnlobdhkpmeniaa.AM
open Go Go.RowKit
set_option linter.unusedVariables false
set_option linter.unusedSimpArgs false
set_option maxRecDepth 100000
attribute [local irreducible] ACode AOps AOps2 RetG RetM Pre ACG
theorem comOK_sz' {cs : List Cmt} {l : Int} (h : 0 ≤ szCS cs l) (h1 : l ≤ 1048576) : szCS cs l ≤ l ∧ cs.length ≤ 1048576 ∧ comOK 1048576 cs := by
  obtain ⟨k1, k2⟩ := szCS_le h
  refine ⟨?_, by omega, fun c hc => by obtain ⟨q1, q2, q3⟩ := k2 c hc; exact ⟨by omega, by omega, fun e he => by have := q3 e he; omega⟩⟩
  unfold szCS at h ⊢
  split
  · omega
  · rename_i hn
    rw [if_neg hn] at h
    have := (szG_le h).1
    omega
end Go.Proofs.Ytnlobdhkpmeniaa.AM
