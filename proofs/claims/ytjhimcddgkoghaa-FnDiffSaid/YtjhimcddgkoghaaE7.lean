/- The machine over data (E6, E7). -/
import Derived.Test.YtjhimcddgkoghaaE5
import Derived.Test.YtjhimcddgkoghaaS6
/- Two stores compared, on both sides; the law of SameStore over data. -/
namespace Go.Proofs.Ytjhimcddgkoghaa.AM
open Go Go.RowKit
set_option linter.unusedVariables false
set_option linter.unusedSimpArgs false
set_option maxRecDepth 100000
attribute [local irreducible] ACode AOps AOps2 RetG RetM Pre ACG
theorem ent_128 : ∀ vs w, (callFunc 128 vs).run Try.prog w = .ok (.enter 128 vs) w := ent_of Try.func128 (by kernel_rfl) (by kernel_rfl)
theorem ac_eqlEnts {es es' : List Ent} (hm : es.length ≤ maxLen) (hm' : es'.length ≤ maxLen) : AC Try.prog 128 [.lst 2 (es.map entA), .lst 2 (es'.map entA)] ⟨.v (.bool (decide (es = es'))), []⟩ :=
  ac_val ent_128 rfl fun w S0 vs hS hv => by
    obtain ⟨u, us, rfl, h1, hv⟩ := rvsc hv
    obtain ⟨u', rfl, h2⟩ := rvs1 hv
    obtain ⟨A, c, rfl, _, _, hr⟩ := arg_ents hS h1
    obtain ⟨A', c', rfl, _, _, hr'⟩ := arg_ents hS h2
    exact slicesEqual_any A _ c es A' _ c' es' w hr hr' hm hm'
end Go.Proofs.Ytjhimcddgkoghaa.AM
/- The law of SameStore over data. -/
namespace Go.Proofs.Ytjhimcddgkoghaa.AM
open Go Go.RowKit
set_option linter.unusedVariables false
set_option linter.unusedSimpArgs false
set_option maxRecDepth 100000
attribute [local irreducible] ACode AOps AOps2 RetG RetM Pre ACG
end Go.Proofs.Ytjhimcddgkoghaa.AM
