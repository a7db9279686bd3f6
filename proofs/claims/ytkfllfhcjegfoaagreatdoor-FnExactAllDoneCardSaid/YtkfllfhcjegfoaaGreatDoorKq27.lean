/- Texts of the machine over data, folded. -/
import Derived.Test.YtkfllfhcjegfoaaGreatDoorKq6
import Derived.Test.YtkfllfhcjegfoaaGreatDoorKq25
import Derived.Test.YtkfllfhcjegfoaaGreatDoorKq36
set_option linter.unusedVariables false
set_option linter.unusedSimpArgs false
set_option maxRecDepth 100000
namespace Go.Proofs.YtkfllfhcjegfoaaGreatDoor.AM
open Go Go.RowKit
attribute [local irreducible] xM xN xW yF yL Pre ACG
section
variable {B : Bas} {cs : List Cli} {wt : List Wat} {ms : List Mom} {sp : Int}
set_option maxHeartbeats 16000000 in
theorem aRN {m : Mom} (hm : cs.length ≤ 1048576) (hsm : B.store.length ≤ 1048576) (hk : m.ok) {j : Nat} (hj : m.client = (j : Int) + 1) (hjl : j < cs.length) (h1 : 1 ≤ m.client ∧ m.client ≤ (cs.length : Int)) (h2 : 1 ≤ m.wish ∧ m.wish ≤ (cs[j]).dn) (h3 : 1 ≤ m.step ∧ m.step ≤ sp) (hop : opB m.op = true) : AC Tryz.prog 37 [zf B cs wt ms sp, momA m] ⟨.v (.bool (uf B cs m && decide (1 ≤ m.step ∧ m.step ≤ sp))), []⟩ := by
 by_cases hx : ((0 ≤ m.res.code ∧ m.res.code < 19) ∧ (0 ≤ m.res.com ∧ m.res.com ≤ (B.store.length : Int)) ∧ (-1000000 ≤ m.res.val ∧ m.res.val ≤ 1000000))
 case neg => exact mom_B1 hm hsm hk hj hjl h1 h2 h3 hop hx
 obtain ⟨r1, r2, r3⟩ := hx
 have c2 := aAR hk.1
 have c3 := ji hk.2.2.2.1 hk.2.2.2.2
 have hkl := hk.2.1
 have hel := hk.1.2.2.1
 unfold maxLen at hkl hel
 unfold uf aCL
 rw [qM]
 rw [decide_eq_true h1, Bool.true_and, aBA hjl hj, decide_eq_true h2, Bool.true_and, decide_eq_true h3, Bool.and_true]
 have hk0 := aNP hop
 rw [hop] at c2
 rw [hop, Bool.true_or, Bool.true_and]
 refine qO Tryz.func37 Tryz.ntmps37 Tryz.results37 ?_
 repeat (first | refine qla ?_ | refine qlb ?_ | refine qx ?_ | refine yA rfl rfl (zP rfl rfl) (fun e => by cases e) ?_ | refine yA rfl rfl (zP rfl rfl) (fun e => by first | exact .inl rfl | contradiction | exact .inr (.inl (by kernel_rfl))) ?_ | refine aD0 (xS rfl rfl rfl rfl rfl (by conv => lhs; whnf) rfl) rfl rfl (fun e => by first | exact .inl rfl | contradiction | exact .inr (.inl (by kernel_rfl))) ?_)
 rw [decide_eq_true r1, Bool.true_and]
 have r1' : m.res.code ≤ 18 := by omega
 rw [decide_eq_true r2, Bool.true_and]
 rw [decide_eq_true r3, Bool.true_and]
 by_cases r4 : m.res.keys.length ≤ 24
 case neg =>
  rw [decide_eq_false r4, Bool.false_and]
  as_aux_lemma =>
   repeat ((first | refine qp (xB (xZ (c := (j : Int)) (by omega) (by omega) (by omega)) rfl rfl rfl) ?_ | refine qz ?_ | refine qst ?_ | refine qdr ?_ | refine qc (xC h1.1 h1.2) ?_ | refine qc (xC h2.1 h2.2) ?_ | refine qc (xC h3.1 h3.2) ?_ | refine qc (c2) ?_ | refine qc (xC r1.1 r1') ?_ | refine qc (xC r2.1 r2.2) ?_ | refine qc (xC r3.1 r3.2) ?_); conv => whnf)
   repeat (first | refine qla ?_ | refine qlb ?_ | refine qx ?_)
   exact qe
 rw [decide_eq_true r4, Bool.true_and]
 cases r5 : zC m.res.map <;> rw [r5] at c3
 all_goals
  as_aux_lemma =>
   repeat ((first | refine qp (xB (xZ (c := (j : Int)) (by omega) (by omega) (by omega)) rfl rfl rfl) ?_ | refine qz ?_ | refine qst ?_ | refine qdr ?_ | refine qc (xC h1.1 h1.2) ?_ | refine qc (xC h2.1 h2.2) ?_ | refine qc (xC h3.1 h3.2) ?_ | refine qc (c2) ?_ | refine qc (xC r1.1 r1') ?_ | refine qc (xC r2.1 r2.2) ?_ | refine qc (xC r3.1 r3.2) ?_ | refine qc (c3) ?_); conv => whnf)
   repeat (first | refine qla ?_ | refine qlb ?_ | refine qx ?_)
   exact qe
end
end Go.Proofs.YtkfllfhcjegfoaaGreatDoor.AM
