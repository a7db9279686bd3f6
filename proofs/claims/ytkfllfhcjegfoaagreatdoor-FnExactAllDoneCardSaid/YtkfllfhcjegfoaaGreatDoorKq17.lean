/- Texts of the machine over data, folded. -/
import Derived.Test.YtkfllfhcjegfoaaGreatDoorKq6
import Derived.Test.YtkfllfhcjegfoaaGreatDoorKq15
set_option linter.unusedVariables false
set_option linter.unusedSimpArgs false
set_option maxRecDepth 100000
namespace Go.Proofs.YtkfllfhcjegfoaaGreatDoor.AM
open Go Go.RowKit
attribute [local irreducible] xM xN xW yF yL Pre ACG
set_option maxHeartbeats 4000000 in
theorem aAR {o : Opr} (ho : o.ok maxLen) : AC Tryz.prog 67 [jl o] ⟨.v (.bool (opB o)), []⟩ := by
 obtain ⟨kind, frm, nm, key, es⟩ := o
 obtain ⟨q1, q2, q3, q4⟩ := ho
 simp only at q1 q2 q3 q4
 have q3' := q3
 unfold maxLen at q3'
 show AC Tryz.prog 67 [.agg [.v (.int .i64 kind), .v (.int .i64 frm), .v (.string nm), .v (.string key), .lst 3 (es.map xg)]] _
 cases hn : okN nm with
 | false =>
  rw [show opB _ = false from by simp [opB, hn]]
  as_aux_lemma =>
   refine qO Tryz.func67 Tryz.ntmps67 Tryz.results67 ?_
   repeat (first | refine qla ?_ | refine qC (xE q1 hn) ?_ | refine qlb ?_ | refine qx ?_)
   exact qe
 | true =>
 by_cases hr : 1 ≤ kind ∧ kind ≤ 6
 case neg =>
  have k1 : kind ≠ 1 := by omega
  have k2 : kind ≠ 2 := by omega
  have k3 : kind ≠ 3 := by omega
  have k4 : kind ≠ 4 := by omega
  have k5 : kind ≠ 5 := by omega
  have k6 : kind ≠ 6 := by omega
  rw [show opB _ = false from by simp [opB, hn, k1, k2, k3, k4, k5, k6]]
  as_aux_lemma =>
   refine qO Tryz.func67 Tryz.ntmps67 Tryz.results67 ?_
   repeat (first | refine qla ?_ | refine qC (xE q1 hn) ?_ | refine qC (y9 hr) ?_ | refine qlb ?_ | refine qx ?_)
   exact qe
 cases hes : xw es with
 | false =>
  have hne : es.length ≠ 0 := fun h => by rw [aEC h] at hes; cases hes
  rw [show opB _ = false from by simp [opB, hn, hes, hne]]
  as_aux_lemma =>
   refine qO Tryz.func67 Tryz.ntmps67 Tryz.results67 ?_
   repeat (first | refine qla ?_ | refine qC (xE q1 hn) ?_ | refine qC (xC hr.1 hr.2) ?_ | refine qC (xu hes q3 q4) ?_ | refine qlb ?_ | refine qx ?_)
   exact qe
 | true =>
 by_cases k3 : kind = 3
 case pos =>
  subst k3
  by_cases hk : key = eB
  case neg =>
   rw [show opB _ = false from by simp [opB, hn, hk]]
   as_aux_lemma =>
    refine qO Tryz.func67 Tryz.ntmps67 Tryz.results67 ?_
    repeat (first | refine qla ?_ | refine qC (xE q1 hn) ?_ | refine qC (xC hr.1 hr.2) ?_ | refine qC (xu hes q3 q4) ?_ | refine qlb ?_ | refine qx ?_)
    exact qe
  by_cases hf : 0 ≤ frm ∧ frm ≤ 60
  case neg =>
   rw [show opB _ = false from by simp [opB, hn, hk, hf]]
   as_aux_lemma =>
    refine qO Tryz.func67 Tryz.ntmps67 Tryz.results67 ?_
    repeat (first | refine qla ?_ | refine qC (xE q1 hn) ?_ | refine qC (xC hr.1 hr.2) ?_ | refine qC (xu hes q3 q4) ?_ | refine qC (y9 hf) ?_ | refine qlb ?_ | refine qx ?_)
    exact qe
  rw [show opB _ = true from by simp [opB, hn, hk, hf, hes]]
  as_aux_lemma =>
   refine qO Tryz.func67 Tryz.ntmps67 Tryz.results67 ?_
   repeat (first | refine qla ?_ | refine qC (xE q1 hn) ?_ | refine qC (xC hr.1 hr.2) ?_ | refine qC (xu hes q3 q4) ?_ | refine qC (xC hf.1 hf.2) ?_ | refine qlb ?_ | refine qx ?_)
   exact qe
 by_cases he : es.length = 0
 case neg =>
  rw [show opB _ = false from by simp [opB, hn, he, k3]]
  as_aux_lemma =>
   refine qO Tryz.func67 Tryz.ntmps67 Tryz.results67 ?_
   repeat (first | refine qla ?_ | refine qC (xE q1 hn) ?_ | refine qC (xC hr.1 hr.2) ?_ | refine qC (xu hes q3 q4) ?_ | refine qlb ?_ | refine qx ?_)
   exact qe
 by_cases k5 : kind = 5
 case pos =>
  subst k5
  cases hk : okN key with
  | false =>
   rw [show opB _ = false from by simp [opB, hn, hk]]
   as_aux_lemma =>
    refine qO Tryz.func67 Tryz.ntmps67 Tryz.results67 ?_
    repeat (first | refine qla ?_ | refine qC (xE q1 hn) ?_ | refine qC (xC hr.1 hr.2) ?_ | refine qC (xu hes q3 q4) ?_ | refine qC (xE q2 hk) ?_ | refine qlb ?_ | refine qx ?_)
    exact qe
  | true =>
   by_cases h0 : frm = 0
   case neg =>
    rw [show opB _ = false from by simp [opB, hn, hk, h0]]
    as_aux_lemma =>
     refine qO Tryz.func67 Tryz.ntmps67 Tryz.results67 ?_
     repeat (first | refine qla ?_ | refine qC (xE q1 hn) ?_ | refine qC (xC hr.1 hr.2) ?_ | refine qC (xu hes q3 q4) ?_ | refine qC (xE q2 hk) ?_ | refine qlb ?_ | refine qx ?_)
     exact qe
   rw [show opB _ = true from by simp [opB, hn, hk, h0, he]]
   as_aux_lemma =>
    refine qO Tryz.func67 Tryz.ntmps67 Tryz.results67 ?_
    repeat (first | refine qla ?_ | refine qC (xE q1 hn) ?_ | refine qC (xC hr.1 hr.2) ?_ | refine qC (xu hes q3 q4) ?_ | refine qC (xE q2 hk) ?_ | refine qlb ?_ | refine qx ?_)
    exact qe
 by_cases hk : key = eB
 case neg =>
  rw [show opB _ = false from by simp [opB, hn, hk, k3, k5]]
  as_aux_lemma =>
   refine qO Tryz.func67 Tryz.ntmps67 Tryz.results67 ?_
   repeat (first | refine qla ?_ | refine qC (xE q1 hn) ?_ | refine qC (xC hr.1 hr.2) ?_ | refine qC (xu hes q3 q4) ?_ | refine qlb ?_ | refine qx ?_)
   exact qe
 by_cases k1 : kind = 1
 case pos =>
  subst k1
  by_cases hf : 1 ≤ frm ∧ frm ≤ 60
  case neg =>
   rw [show opB _ = false from by simp [opB, hn, hk, hf]]
   as_aux_lemma =>
    refine qO Tryz.func67 Tryz.ntmps67 Tryz.results67 ?_
    repeat (first | refine qla ?_ | refine qC (xE q1 hn) ?_ | refine qC (xC hr.1 hr.2) ?_ | refine qC (xu hes q3 q4) ?_ | refine qC (y9 hf) ?_ | refine qlb ?_ | refine qx ?_)
    exact qe
  rw [show opB _ = true from by simp [opB, hn, hk, hf, he]]
  as_aux_lemma =>
   refine qO Tryz.func67 Tryz.ntmps67 Tryz.results67 ?_
   repeat (first | refine qla ?_ | refine qC (xE q1 hn) ?_ | refine qC (xC hr.1 hr.2) ?_ | refine qC (xu hes q3 q4) ?_ | refine qC (xC hf.1 hf.2) ?_ | refine qlb ?_ | refine qx ?_)
   exact qe
 by_cases k4 : kind = 4
 case pos =>
  subst k4
  by_cases hf : 1 ≤ frm ∧ frm ≤ 60
  case neg =>
   rw [show opB _ = false from by simp [opB, hn, hk, hf]]
   as_aux_lemma =>
    refine qO Tryz.func67 Tryz.ntmps67 Tryz.results67 ?_
    repeat (first | refine qla ?_ | refine qC (xE q1 hn) ?_ | refine qC (xC hr.1 hr.2) ?_ | refine qC (xu hes q3 q4) ?_ | refine qC (y9 hf) ?_ | refine qlb ?_ | refine qx ?_)
    exact qe
  rw [show opB _ = true from by simp [opB, hn, hk, hf, he]]
  as_aux_lemma =>
   refine qO Tryz.func67 Tryz.ntmps67 Tryz.results67 ?_
   repeat (first | refine qla ?_ | refine qC (xE q1 hn) ?_ | refine qC (xC hr.1 hr.2) ?_ | refine qC (xu hes q3 q4) ?_ | refine qC (xC hf.1 hf.2) ?_ | refine qlb ?_ | refine qx ?_)
   exact qe
 have k26 : kind = 2 ∨ kind = 6 := by omega
 by_cases h0 : frm = 0
 case neg =>
  rw [show opB _ = false from by simp [opB, hn, hk, h0, k1, k3, k4, k5]]
  as_aux_lemma =>
   refine qO Tryz.func67 Tryz.ntmps67 Tryz.results67 ?_
   repeat (first | refine qla ?_ | refine qC (xE q1 hn) ?_ | refine qC (xC hr.1 hr.2) ?_ | refine qC (xu hes q3 q4) ?_ | refine qlb ?_ | refine qx ?_)
   exact qe
 rw [show opB _ = true from by simp [opB, hn, hk, h0, he, k1, k3, k4, k5, k26]]
 as_aux_lemma =>
  refine qO Tryz.func67 Tryz.ntmps67 Tryz.results67 ?_
  repeat (first | refine qla ?_ | refine qC (xE q1 hn) ?_ | refine qC (xC hr.1 hr.2) ?_ | refine qC (xu hes q3 q4) ?_ | refine qlb ?_ | refine qx ?_)
  exact qe
end Go.Proofs.YtkfllfhcjegfoaaGreatDoor.AM
