/- Texts of the machine over data, folded. -/
import Derived.Test.YtodckioppgjbdaaGreatDoorKd5
import Derived.Test.YtodckioppgjbdaaGreatDoorKd11
import Derived.Test.YtodckioppgjbdaaGreatDoorKd12
set_option linter.unusedVariables false
set_option linter.unusedSimpArgs false
set_option maxRecDepth 100000
namespace Go.Proofs.YtodckioppgjbdaaGreatDoor.AM
open Go Go.RowKit
attribute [local irreducible] xD xJ xQ yD yJ Pre ACG
set_option maxHeartbeats 4000000 in
theorem aJU {frm : Int} {nm key : ByteArray} {es : List Edt} (q1 : nm.size ≤ maxLen) (q2 : key.size ≤ maxLen) (q3 : es.length ≤ maxLen) (q4 : ∀ e ∈ es, e.key.size ≤ maxLen) (hn : okN nm = true) : AC Tryz.prog 96 [.agg [.v (.int .i64 5), .v (.int .i64 frm), .v (.string nm), .v (.string key), .lst 3 (es.map x9)]] ⟨.v (.bool (opB ⟨5, frm, nm, key, es⟩)), []⟩ := by
 have q3' := q3
 unfold maxLen at q3'
 by_cases h0 : frm = 0
 case neg =>
  rw [show opB _ = false from by simp [opB, hn, h0]]
  as_aux_lemma =>
   refine qO Tryz.func96 Tryz.ntmps96 Tryz.results96 ?_
   repeat (first | refine qla ?_ | refine qC (xM q1 hn) ?_ | refine qlb ?_ | refine qx ?_)
   exact qe
 cases hk : okN key with
 | false =>
  rw [show opB _ = false from by simp [opB, hn, h0, hk]]
  as_aux_lemma =>
   refine qO Tryz.func96 Tryz.ntmps96 Tryz.results96 ?_
   repeat (first | refine qla ?_ | refine qC (xM q1 hn) ?_ | refine qC (xM q2 hk) ?_ | refine qlb ?_ | refine qx ?_)
   exact qe
 | true =>
  by_cases he : es.length = 0
  case neg =>
   rw [show opB _ = false from by simp [opB, hn, h0, hk, he]]
   as_aux_lemma =>
    refine qO Tryz.func96 Tryz.ntmps96 Tryz.results96 ?_
    repeat (first | refine qla ?_ | refine qC (xM q1 hn) ?_ | refine qC (xM q2 hk) ?_ | refine qlb ?_ | refine qx ?_)
    exact qe
  rw [show opB _ = true from by simp [opB, hn, h0, hk, he]]
  as_aux_lemma =>
   refine qO Tryz.func96 Tryz.ntmps96 Tryz.results96 ?_
   repeat (first | refine qla ?_ | refine qC (xM q1 hn) ?_ | refine qC (xM q2 hk) ?_ | refine qlb ?_ | refine qx ?_)
   exact qe
set_option maxHeartbeats 4000000 in
theorem aJR {frm : Int} {nm key : ByteArray} {es : List Edt} (q1 : nm.size ≤ maxLen) (q2 : key.size ≤ maxLen) (q3 : es.length ≤ maxLen) (q4 : ∀ e ∈ es, e.key.size ≤ maxLen) (hn : okN nm = true) : AC Tryz.prog 96 [.agg [.v (.int .i64 2), .v (.int .i64 frm), .v (.string nm), .v (.string key), .lst 3 (es.map x9)]] ⟨.v (.bool (opB ⟨2, frm, nm, key, es⟩)), []⟩ := by
 have q3' := q3
 unfold maxLen at q3'
 by_cases h0 : frm = 0
 case neg =>
  rw [show opB _ = false from by simp [opB, hn, h0]]
  as_aux_lemma =>
   refine qO Tryz.func96 Tryz.ntmps96 Tryz.results96 ?_
   repeat (first | refine qla ?_ | refine qC (xM q1 hn) ?_ | refine qlb ?_ | refine qx ?_)
   exact qe
 by_cases hk : key = eB
 case neg =>
  rw [show opB _ = false from by simp [opB, hn, h0, hk]]
  as_aux_lemma =>
   refine qO Tryz.func96 Tryz.ntmps96 Tryz.results96 ?_
   repeat (first | refine qla ?_ | refine qC (xM q1 hn) ?_ | refine qlb ?_ | refine qx ?_)
   exact qe
 by_cases he : es.length = 0
 case neg =>
  rw [show opB _ = false from by simp [opB, hn, h0, hk, he]]
  as_aux_lemma =>
   refine qO Tryz.func96 Tryz.ntmps96 Tryz.results96 ?_
   repeat (first | refine qla ?_ | refine qC (xM q1 hn) ?_ | refine qlb ?_ | refine qx ?_)
   exact qe
 rw [show opB _ = true from by simp [opB, hn, h0, hk, he]]
 as_aux_lemma =>
  refine qO Tryz.func96 Tryz.ntmps96 Tryz.results96 ?_
  repeat (first | refine qla ?_ | refine qC (xM q1 hn) ?_ | refine qlb ?_ | refine qx ?_)
  exact qe
set_option maxHeartbeats 4000000 in
theorem aJV {frm : Int} {nm key : ByteArray} {es : List Edt} (q1 : nm.size ≤ maxLen) (q2 : key.size ≤ maxLen) (q3 : es.length ≤ maxLen) (q4 : ∀ e ∈ es, e.key.size ≤ maxLen) (hn : okN nm = true) : AC Tryz.prog 96 [.agg [.v (.int .i64 6), .v (.int .i64 frm), .v (.string nm), .v (.string key), .lst 3 (es.map x9)]] ⟨.v (.bool (opB ⟨6, frm, nm, key, es⟩)), []⟩ := by
 have q3' := q3
 unfold maxLen at q3'
 by_cases h0 : frm = 0
 case neg =>
  rw [show opB _ = false from by simp [opB, hn, h0]]
  as_aux_lemma =>
   refine qO Tryz.func96 Tryz.ntmps96 Tryz.results96 ?_
   repeat (first | refine qla ?_ | refine qC (xM q1 hn) ?_ | refine qlb ?_ | refine qx ?_)
   exact qe
 by_cases hk : key = eB
 case neg =>
  rw [show opB _ = false from by simp [opB, hn, h0, hk]]
  as_aux_lemma =>
   refine qO Tryz.func96 Tryz.ntmps96 Tryz.results96 ?_
   repeat (first | refine qla ?_ | refine qC (xM q1 hn) ?_ | refine qlb ?_ | refine qx ?_)
   exact qe
 by_cases he : es.length = 0
 case neg =>
  rw [show opB _ = false from by simp [opB, hn, h0, hk, he]]
  as_aux_lemma =>
   refine qO Tryz.func96 Tryz.ntmps96 Tryz.results96 ?_
   repeat (first | refine qla ?_ | refine qC (xM q1 hn) ?_ | refine qlb ?_ | refine qx ?_)
   exact qe
 rw [show opB _ = true from by simp [opB, hn, h0, hk, he]]
 as_aux_lemma =>
  refine qO Tryz.func96 Tryz.ntmps96 Tryz.results96 ?_
  repeat (first | refine qla ?_ | refine qC (xM q1 hn) ?_ | refine qlb ?_ | refine qx ?_)
  exact qe
set_option maxHeartbeats 4000000 in
theorem aDw {o : Opr} (ho : o.ok maxLen) : AC Tryz.prog 96 [aIi o] ⟨.v (.bool (opB o)), []⟩ := by
 obtain ⟨kind, frm, nm, key, es⟩ := o
 obtain ⟨q1, q2, q3, q4⟩ := ho
 simp only at q1 q2 q3 q4
 have q3' := q3
 unfold maxLen at q3'
 show AC Tryz.prog 96 [.agg [.v (.int .i64 kind), .v (.int .i64 frm), .v (.string nm), .v (.string key), .lst 3 (es.map x9)]] _
 cases hn : okN nm with
 | false =>
  rw [show opB _ = false from by simp [opB, hn]]
  as_aux_lemma =>
   refine qO Tryz.func96 Tryz.ntmps96 Tryz.results96 ?_
   repeat (first | refine qla ?_ | refine qC (xM q1 hn) ?_ | refine qlb ?_ | refine qx ?_)
   exact qe
 | true =>
 by_cases k1 : kind = 1
 case pos =>
  subst k1
  exact aJQ q1 q2 q3 q4 hn
 by_cases k2 : kind = 2
 case pos =>
  subst k2
  exact aJR q1 q2 q3 q4 hn
 by_cases k3 : kind = 3
 case pos =>
  subst k3
  exact aJS q1 q2 q3 q4 hn
 by_cases k4 : kind = 4
 case pos =>
  subst k4
  exact aJT q1 q2 q3 q4 hn
 by_cases k5 : kind = 5
 case pos =>
  subst k5
  exact aJU q1 q2 q3 q4 hn
 by_cases k6 : kind = 6
 case pos =>
  subst k6
  exact aJV q1 q2 q3 q4 hn
 rw [show opB _ = false from by simp [opB, hn, k1, k2, k3, k4, k5, k6]]
 as_aux_lemma =>
  refine qO Tryz.func96 Tryz.ntmps96 Tryz.results96 ?_
  repeat (first | refine qla ?_ | refine qC (xM q1 hn) ?_ | refine qlb ?_ | refine qx ?_)
  exact qe
end Go.Proofs.YtodckioppgjbdaaGreatDoor.AM
