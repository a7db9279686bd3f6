/- slices.Clone over data: entries, ints, references. -/
import Derived.Test.YtnlobdhkpmeniaaG8
import Derived.Test.YtnlobdhkpmeniaaE5
import Derived.Test.YtnlobdhkpmeniaaF5
namespace Go.Proofs.Ytnlobdhkpmeniaa.AM
open Go Go.RowKit
set_option linter.unusedVariables false
set_option linter.unusedSimpArgs false
section
variable {w : World}
end
theorem ent_92 : ∀ vs w, (callFunc 92 vs).run Try.prog w = .ok (.enter 92 vs) w := ent_of Try.func92 (by kernel_rfl) (by kernel_rfl)
theorem ac_cloneEnt {es : List Ent} (hm : es.length ≤ 1048576) : AC Try.prog 92 [.lst 2 (es.map entA)] ⟨.own 0, [⟨114, 2, es.map entA⟩]⟩ :=
  ac_own (cs := entsC es) ent_92 (all_ent _) (by omega) (fun S w => rl_entA.2 rfl) fun w S0 vs hS hv => by
    obtain ⟨u, rfl, h1⟩ := rvs1 hv
    obtain ⟨A, c, rfl, _, _, hr⟩ := arg_ents hS h1
    refine (cloneEnt_any A es.length c (entsC es) w hr (entsC_one es) (by omega)).mono ?_
    rintro e w' ⟨v, rfl, ho, hb⟩
    exact ⟨v, rfl, by rw [List.length_map]; exact ho, hb⟩
end Go.Proofs.Ytnlobdhkpmeniaa.AM
