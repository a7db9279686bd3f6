/- Commits as data: sizes, copies, comparisons of the laws. -/
import Derived.Test.YtjhimcddgkoghaaA1
import Derived.Test.YtjhimcddgkoghaaA2
import Derived.Test.YtjhimcddgkoghaaB1
namespace Go.Proofs.Ytjhimcddgkoghaa.AM
open Go Go.RowKit
set_option linter.unusedVariables false
set_option linter.unusedSimpArgs false
set_option maxRecDepth 100000

abbrev Cmt := List Int × List Ent
theorem all_int (cs : List Int) : ∀ x ∈ cs.map intA, asz x = 1 := fun x hx => by obtain ⟨e, _, rfl⟩ := List.mem_map.1 hx; rfl
theorem flat_int (e : Int) : flatA (intA e) := by unfold intA; simp [flatA]
theorem r_cell1 {s : St} {a t l : Nat} {ob : OB} {x : AV} {Θ : Tab} (h1 : s.sl a = .optr l 0 [] 0) (ho : s.hp l = some ob) (hx : ob.xs[0]? = some x) (hk : ((Θ.look t).known && (Bool.xor (isAggA x) (Θ.look t).isAgg).not && Nat.beq (asz x) (Θ.look t).size) = true) (hd : (match x with | .v _ | .agg _ | .lst _ _ | .any => True | _ => False)) (hop : ob.e.open_ = true := by rfl) :
    RetQ Θ [.cell a t] ⟨x, []⟩ .ret s := by
  have hr : rvA s (.cell a t) = x := by
    simp only [rvA, h1, ho, hop, hx, cond_true, Option.getD_some]
  simp only [Bool.and_eq_true] at hk
  refine ⟨trivial, [], by simp, trivial, ⟨⟨hk.1.1, by rw [hr]; exact xor_not hk.1.2, by rw [hr]; exact Nat.eq_of_beq_eq_true hk.2, .inl ⟨l, ob, x, h1, ho, .inl ⟨hop, hx⟩⟩⟩, trivial⟩, trivial, ⟨.inl ?_, trivial⟩⟩
  rw [hr]
  cases x <;> first | exact ⟨rfl, rfl⟩ | exact hd.elim
attribute [local irreducible] ACode AOps AOps2 RetG RetM Pre ACG

end Go.Proofs.Ytjhimcddgkoghaa.AM
