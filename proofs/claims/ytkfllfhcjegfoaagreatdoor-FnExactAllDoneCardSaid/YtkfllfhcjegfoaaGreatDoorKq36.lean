/- Texts of the machine over data, folded. -/
import Derived.Test.YtkfllfhcjegfoaaGreatDoorKq6
import Derived.Test.YtkfllfhcjegfoaaGreatDoorKq25
set_option linter.unusedVariables false
set_option linter.unusedSimpArgs false
set_option maxRecDepth 100000
namespace Go.Proofs.YtkfllfhcjegfoaaGreatDoor.AM
open Go Go.RowKit
attribute [local irreducible] xM xN xW yF yL Pre ACG
section
variable {B : Bas} {cs : List Cli} {wt : List Wat} {ms : List Mom} {sp : Int}
set_option maxHeartbeats 16000000 in
theorem mom_B1 {m : Mom} (hm : cs.length ≤ 1048576) (hsm : B.store.length ≤ 1048576) (hk : m.ok) {j : Nat} (hj : m.client = (j : Int) + 1) (hjl : j < cs.length) (h1 : 1 ≤ m.client ∧ m.client ≤ (cs.length : Int)) (h2 : 1 ≤ m.wish ∧ m.wish ≤ (cs[j]).dn) (h3 : 1 ≤ m.step ∧ m.step ≤ sp) (hop : opB m.op = true) (hx : ¬ ((0 ≤ m.res.code ∧ m.res.code < 19) ∧ (0 ≤ m.res.com ∧ m.res.com ≤ (B.store.length : Int)) ∧ (-1000000 ≤ m.res.val ∧ m.res.val ≤ 1000000))) : AC Tryz.prog 37 [zf B cs wt ms sp, momA m] ⟨.v (.bool (uf B cs m && decide (1 ≤ m.step ∧ m.step ≤ sp))), []⟩ := by
 have c2 := aAR hk.1
 have c3 := ji hk.2.2.2.1 hk.2.2.2.2
 have hkl := hk.2.1
 have hel := hk.1.2.2.1
 unfold maxLen at hkl hel
 unfold uf aCL
 rw [qM]
 rw [decide_eq_true h1, Bool.true_and, aBA hjl hj, decide_eq_true h2, Bool.true_and, decide_eq_true h3, Bool.and_true]
 have hk0 := aNP hop
 rw [hop] at c2
 rw [hop, Bool.true_or, Bool.true_and]
 refine qO Tryz.func37 Tryz.ntmps37 Tryz.results37 ?_
 repeat (first | refine qla ?_ | refine qlb ?_ | refine qx ?_ | refine yA rfl rfl (zP rfl rfl) (fun e => by cases e) ?_ | refine yA rfl rfl (zP rfl rfl) (fun e => by first | exact .inl rfl | contradiction | exact .inr (.inl (by kernel_rfl))) ?_ | refine aD0 (xS rfl rfl rfl rfl rfl (by conv => lhs; whnf) rfl) rfl rfl (fun e => by first | exact .inl rfl | contradiction | exact .inr (.inl (by kernel_rfl))) ?_)
 by_cases r1 : 0 ≤ m.res.code ∧ m.res.code < 19
 case neg =>
  rw [decide_eq_false r1, Bool.false_and]
  have r1' : ¬ (0 ≤ m.res.code ∧ m.res.code ≤ 18) := by omega
  as_aux_lemma =>
   repeat ((first | refine qp (xB (xZ (c := (j : Int)) (by omega) (by omega) (by omega)) rfl rfl rfl) ?_ | refine qz ?_ | refine qst ?_ | refine qdr ?_ | refine qc (xC h1.1 h1.2) ?_ | refine qc (xC h2.1 h2.2) ?_ | refine qc (xC h3.1 h3.2) ?_ | refine qc (c2) ?_ | refine qc (y9 r1') ?_); conv => whnf)
   repeat (first | refine qla ?_ | refine qlb ?_ | refine qx ?_)
   exact qe
 rw [decide_eq_true r1, Bool.true_and]
 have r1' : m.res.code ≤ 18 := by omega
 by_cases r2 : 0 ≤ m.res.com ∧ m.res.com ≤ (B.store.length : Int)
 case neg =>
  rw [decide_eq_false r2, Bool.false_and]
  as_aux_lemma =>
   repeat ((first | refine qp (xB (xZ (c := (j : Int)) (by omega) (by omega) (by omega)) rfl rfl rfl) ?_ | refine qz ?_ | refine qst ?_ | refine qdr ?_ | refine qc (xC h1.1 h1.2) ?_ | refine qc (xC h2.1 h2.2) ?_ | refine qc (xC h3.1 h3.2) ?_ | refine qc (c2) ?_ | refine qc (xC r1.1 r1') ?_ | refine qc (y9 r2) ?_); conv => whnf)
   repeat (first | refine qla ?_ | refine qlb ?_ | refine qx ?_)
   exact qe
 rw [decide_eq_true r2, Bool.true_and]
 have r3 : ¬ (-1000000 ≤ m.res.val ∧ m.res.val ≤ 1000000) := fun h => hx ⟨r1, r2, h⟩
 rw [decide_eq_false r3, Bool.false_and]
 as_aux_lemma =>
  repeat ((first | refine qp (xB (xZ (c := (j : Int)) (by omega) (by omega) (by omega)) rfl rfl rfl) ?_ | refine qz ?_ | refine qst ?_ | refine qdr ?_ | refine qc (xC h1.1 h1.2) ?_ | refine qc (xC h2.1 h2.2) ?_ | refine qc (xC h3.1 h3.2) ?_ | refine qc (c2) ?_ | refine qc (xC r1.1 r1') ?_ | refine qc (xC r2.1 r2.2) ?_ | refine qc (y9 r3) ?_); conv => whnf)
  repeat (first | refine qla ?_ | refine qlb ?_ | refine qx ?_)
  exact qe
end
end Go.Proofs.YtkfllfhcjegfoaaGreatDoor.AM
