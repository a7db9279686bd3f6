/- The laws' helpers over data: how much an argument holds, lists of strings compared, marked, held. -/
import Derived.Test.YtjhimcddgkoghaaAd
import Derived.Test.YtjhimcddgkoghaaN16
namespace Go.Proofs.Ytjhimcddgkoghaa.AM
open Go Go.RowKit
set_option linter.unusedVariables false
set_option maxRecDepth 100000

def szF {α : Type} (g : α → Nat) : List α → Int → Int
  | [], l => l
  | e :: es, l => if l - g e < 0 then -1 else szF g es (l - g e)
def szL {α : Type} (g : α → Nat) (es : List α) (l : Int) : Int := if l - es.length < 0 then -1 else szF g es (l - es.length)
theorem szF_le {α : Type} {g : α → Nat} : ∀ {es : List α} {l : Int}, 0 ≤ szF g es l → szF g es l ≤ l ∧ ∀ e ∈ es, (g e : Int) ≤ l
  | [], l, h => ⟨Int.le_refl _, by simp⟩
  | e :: es, l, h => by
    unfold szF at h ⊢
    split at h
    · omega
    · rename_i hn
      rw [if_neg hn]
      obtain ⟨h1, h2⟩ := szF_le h
      refine ⟨by omega, fun x hx => ?_⟩
      rcases List.mem_cons.1 hx with rfl | hx
      · omega
      · have := h2 x hx; omega
theorem szL_le {α : Type} {g : α → Nat} {es : List α} {l : Int} (h : 0 ≤ szL g es l) : szL g es l ≤ l ∧ (es.length : Int) ≤ l ∧ ∀ e ∈ es, (g e : Int) ≤ l := by
  unfold szL at h ⊢
  split at h
  · omega
  · rename_i hn
    rw [if_neg hn]
    obtain ⟨h1, h2⟩ := szF_le h
    exact ⟨by omega, by omega, fun e he => by have := h2 e he; omega⟩
attribute [local irreducible] ACode AOps AOps2 RetG RetM Pre ACG

theorem szF_drop {α : Type} {g : α → Nat} {es : List α} {k : Nat} {l : Int} (h : k < es.length) : szF g (es.drop k) l = if l - g es[k] < 0 then -1 else szF g (es.drop (k + 1)) (l - g es[k]) := by
  rw [List.drop_eq_getElem_cons h, szF]
end Go.Proofs.Ytjhimcddgkoghaa.AM
