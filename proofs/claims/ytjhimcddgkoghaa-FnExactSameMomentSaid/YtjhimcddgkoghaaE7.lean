/- The machine over data (E6, E7). -/
import Derived.Test.YtjhimcddgkoghaaE5
import Derived.Test.YtjhimcddgkoghaaS6
/- Two stores compared, on both sides; the law of SameStore over data. -/
namespace Go.Proofs.Ytjhimcddgkoghaa.AM
open Go Go.RowKit
set_option linter.unusedVariables false
set_option linter.unusedSimpArgs false
set_option maxRecDepth 100000
attribute [local irreducible] ACode AOps AOps2 RetG RetM Pre ACG
theorem ent_212 : ∀ vs w, (callFunc 212 vs).run Try.prog w = .ok (.enter 212 vs) w := ent_of Try.func212 (by kernel_rfl) (by kernel_rfl)
theorem ent_128 : ∀ vs w, (callFunc 128 vs).run Try.prog w = .ok (.enter 128 vs) w := ent_of Try.func128 (by kernel_rfl) (by kernel_rfl)
theorem ac_l01Same {es es' : List Ent} (hm : es.length ≤ maxLen) (hm' : es'.length ≤ maxLen) : AC Try.prog 212 [.lst 2 (es.map entA), .lst 2 (es'.map entA)] ⟨.v (.bool (decide (es = es'))), []⟩ :=
  ac_val ent_212 rfl fun w S0 vs hS hv => by
    obtain ⟨u, us, rfl, h1, hv⟩ := rvsc hv
    obtain ⟨u', rfl, h2⟩ := rvs1 hv
    obtain ⟨A, c, rfl, _, _, hr⟩ := arg_ents hS h1
    obtain ⟨A', c', rfl, _, _, hr'⟩ := arg_ents hS h2
    exact l01Same_any A _ c es A' _ c' es' w hr hr' hm hm'
theorem ac_eqlEnts {es es' : List Ent} (hm : es.length ≤ maxLen) (hm' : es'.length ≤ maxLen) : AC Try.prog 128 [.lst 2 (es.map entA), .lst 2 (es'.map entA)] ⟨.v (.bool (decide (es = es'))), []⟩ :=
  ac_val ent_128 rfl fun w S0 vs hS hv => by
    obtain ⟨u, us, rfl, h1, hv⟩ := rvsc hv
    obtain ⟨u', rfl, h2⟩ := rvs1 hv
    obtain ⟨A, c, rfl, _, _, hr⟩ := arg_ents hS h1
    obtain ⟨A', c', rfl, _, _, hr'⟩ := arg_ents hS h2
    exact slicesEqual_any A _ c es A' _ c' es' w hr hr' hm hm'
theorem ext_to {α : Type} {a b : List α} (h : a.length = b.length) (he : ∀ i, i < a.length → ∃ (h1 : i < a.length) (h2 : i < b.length), a[i] = b[i]) : a = b :=
  List.ext_getElem h fun i h1 h2 => (he i h1).2.2
def Agree {α : Type} (a b : List α) (k : Nat) : Prop := ∀ i, i < k → ∃ (h1 : i < a.length) (h2 : i < b.length), a[i] = b[i]
theorem Agree.snoc {α : Type} {a b : List α} {k : Nat} (h : Agree a b k) (h1 : k < a.length) (h2 : k < b.length) (he : a[k] = b[k]) : Agree a b (k + 1) := fun i hi => by
  rcases Nat.lt_or_ge i k with h' | h'
  · exact h i h'
  · have : i = k := by omega
    subst this; exact ⟨h1, h2, he⟩
end Go.Proofs.Ytjhimcddgkoghaa.AM
/- The law of SameStore over data. -/
namespace Go.Proofs.Ytjhimcddgkoghaa.AM
open Go Go.RowKit
set_option linter.unusedVariables false
set_option linter.unusedSimpArgs false
set_option maxRecDepth 100000
attribute [local irreducible] ACode AOps AOps2 RetG RetM Pre ACG
end Go.Proofs.Ytjhimcddgkoghaa.AM
