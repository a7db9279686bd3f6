/- Texts of the machine over data, folded. -/
import Derived.Test.YtkfllfhcjegfoaaGreatDoorKq6
import Derived.Test.YtkfllfhcjegfoaaGreatDoorKq25
set_option linter.unusedVariables false
set_option linter.unusedSimpArgs false
set_option maxRecDepth 100000
namespace Go.Proofs.YtkfllfhcjegfoaaGreatDoor.AM
open Go Go.RowKit
attribute [local irreducible] xM xN xW yF yL Pre ACG
section
variable {B : Bas} {cs : List Cli} {wt : List Wat} {ms : List Mom} {sp : Int}
theorem aQM {m : Mom} (hm : cs.length ≤ 1048576) (hsm : B.store.length ≤ 1048576) (hk : m.ok) (h1 : ¬ (1 ≤ m.client ∧ m.client ≤ (cs.length : Int))) : AC Tryz.prog 37 [zf B cs wt ms sp, momA m] ⟨.v (.bool (uf B cs m && decide (1 ≤ m.step ∧ m.step ≤ sp))), []⟩ := by
 have c2 := aAR hk.1
 have c3 := ji hk.2.2.2.1 hk.2.2.2.2
 have hkl := hk.2.1
 have hel := hk.1.2.2.1
 unfold maxLen at hkl hel
 unfold uf aCL
 rw [qM]
 rw [decide_eq_false h1, Bool.false_and, Bool.false_and]
 refine qO Tryz.func37 Tryz.ntmps37 Tryz.results37 ?_
 repeat (first | refine qla ?_ | refine qlb ?_ | refine qx ?_ | refine yA rfl rfl (zP rfl rfl) (fun e => by cases e) ?_ | refine yA rfl rfl (zP rfl rfl) (fun e => by first | exact .inl rfl | contradiction | exact .inr (.inl (by kernel_rfl))) ?_ | refine aD0 (xS rfl rfl rfl rfl rfl (by conv => lhs; whnf) rfl) rfl rfl (fun e => by first | exact .inl rfl | contradiction | exact .inr (.inl (by kernel_rfl))) ?_)
 repeat ((first | refine qz ?_ | refine qst ?_ | refine qdr ?_ | refine qc (y9 h1) ?_); conv => whnf)
 repeat (first | refine qla ?_ | refine qlb ?_ | refine qx ?_)
 exact qe
theorem aQx {m : Mom} (hm : cs.length ≤ 1048576) (hsm : B.store.length ≤ 1048576) (hk : m.ok) {j : Nat} (hj : m.client = (j : Int) + 1) (hjl : j < cs.length) (h1 : 1 ≤ m.client ∧ m.client ≤ (cs.length : Int)) (h2 : ¬ (1 ≤ m.wish ∧ m.wish ≤ (cs[j]).dn)) : AC Tryz.prog 37 [zf B cs wt ms sp, momA m] ⟨.v (.bool (uf B cs m && decide (1 ≤ m.step ∧ m.step ≤ sp))), []⟩ := by
 have c2 := aAR hk.1
 have c3 := ji hk.2.2.2.1 hk.2.2.2.2
 have hkl := hk.2.1
 have hel := hk.1.2.2.1
 unfold maxLen at hkl hel
 unfold uf aCL
 rw [qM]
 rw [decide_eq_true h1, Bool.true_and, aBA hjl hj, decide_eq_false h2, Bool.false_and, Bool.false_and]
 refine qO Tryz.func37 Tryz.ntmps37 Tryz.results37 ?_
 repeat (first | refine qla ?_ | refine qlb ?_ | refine qx ?_ | refine yA rfl rfl (zP rfl rfl) (fun e => by cases e) ?_ | refine yA rfl rfl (zP rfl rfl) (fun e => by first | exact .inl rfl | contradiction | exact .inr (.inl (by kernel_rfl))) ?_ | refine aD0 (xS rfl rfl rfl rfl rfl (by conv => lhs; whnf) rfl) rfl rfl (fun e => by first | exact .inl rfl | contradiction | exact .inr (.inl (by kernel_rfl))) ?_)
 repeat ((first | refine qp (xB (xZ (c := (j : Int)) (by omega) (by omega) (by omega)) rfl rfl rfl) ?_ | refine qz ?_ | refine qst ?_ | refine qdr ?_ | refine qc (xC h1.1 h1.2) ?_ | refine qc (y9 h2) ?_); conv => whnf)
 repeat (first | refine qla ?_ | refine qlb ?_ | refine qx ?_)
 exact qe
theorem aQR {m : Mom} (hm : cs.length ≤ 1048576) (hsm : B.store.length ≤ 1048576) (hk : m.ok) {j : Nat} (hj : m.client = (j : Int) + 1) (hjl : j < cs.length) (h1 : 1 ≤ m.client ∧ m.client ≤ (cs.length : Int)) (h2 : 1 ≤ m.wish ∧ m.wish ≤ (cs[j]).dn) (h3 : ¬ (1 ≤ m.step ∧ m.step ≤ sp)) : AC Tryz.prog 37 [zf B cs wt ms sp, momA m] ⟨.v (.bool (uf B cs m && decide (1 ≤ m.step ∧ m.step ≤ sp))), []⟩ := by
 have c2 := aAR hk.1
 have c3 := ji hk.2.2.2.1 hk.2.2.2.2
 have hkl := hk.2.1
 have hel := hk.1.2.2.1
 unfold maxLen at hkl hel
 unfold uf aCL
 rw [qM]
 rw [decide_eq_true h1, Bool.true_and, aBA hjl hj, decide_eq_true h2, Bool.true_and, decide_eq_false h3, Bool.and_false]
 refine qO Tryz.func37 Tryz.ntmps37 Tryz.results37 ?_
 repeat (first | refine qla ?_ | refine qlb ?_ | refine qx ?_ | refine yA rfl rfl (zP rfl rfl) (fun e => by cases e) ?_ | refine yA rfl rfl (zP rfl rfl) (fun e => by first | exact .inl rfl | contradiction | exact .inr (.inl (by kernel_rfl))) ?_ | refine aD0 (xS rfl rfl rfl rfl rfl (by conv => lhs; whnf) rfl) rfl rfl (fun e => by first | exact .inl rfl | contradiction | exact .inr (.inl (by kernel_rfl))) ?_)
 repeat ((first | refine qp (xB (xZ (c := (j : Int)) (by omega) (by omega) (by omega)) rfl rfl rfl) ?_ | refine qz ?_ | refine qst ?_ | refine qdr ?_ | refine qc (xC h1.1 h1.2) ?_ | refine qc (xC h2.1 h2.2) ?_ | refine qc (y9 h3) ?_); conv => whnf)
 repeat (first | refine qla ?_ | refine qlb ?_ | refine qx ?_)
 exact qe
end
end Go.Proofs.YtkfllfhcjegfoaaGreatDoor.AM
