/- Texts of the machine over data, folded. -/
import Derived.Test.YtodckioppgjbdaaGreatDoorKd5
import Derived.Test.YtodckioppgjbdaaGreatDoorKd14
set_option linter.unusedVariables false
set_option linter.unusedSimpArgs false
set_option maxRecDepth 100000
namespace Go.Proofs.YtodckioppgjbdaaGreatDoor.AM
open Go Go.RowKit
attribute [local irreducible] xD xJ xQ yD yJ Pre ACG
set_option maxHeartbeats 4000000 in
theorem aHD {nm src key : ByteArray} {es : List Edt} (q1 : nm.size ≤ maxLen) (q2 : src.size ≤ maxLen) (q3 : key.size ≤ maxLen) (q4 : es.length ≤ maxLen) (q5 : ∀ e ∈ es, e.key.size ≤ maxLen) (hn : okN nm = true) (hes : xO es = true) : AC Tryz.prog 39 [.agg [.v (.int .i64 1), .v (.string nm), .v (.string src), .v (.string key), .lst 3 (es.map x9)]] ⟨.v (.bool (xN ⟨1, nm, src, key, es⟩)), []⟩ := by
 have q4' := q4
 unfold maxLen at q4'
 by_cases he : es.length = 0
 case neg =>
  rw [show xN _ = false from by simp [xN, opB, hn, he]]
  as_aux_lemma =>
   refine qO Tryz.func39 Tryz.ntmps39 Tryz.results39 ?_
   repeat (first | refine qla ?_ | refine qC (xL q1 hn) ?_ | refine qC (yV (by omega : (1 : Int) ≤ 1) (by omega : (1 : Int) ≤ 6)) ?_ | refine qC (yK hes q4 q5) ?_ | refine qlb ?_ | refine qx ?_)
   exact qe
 cases hs : okN src with
 | false =>
  rw [show xN _ = false from by simp [xN, opB, hn, hs]]
  as_aux_lemma =>
   refine qO Tryz.func39 Tryz.ntmps39 Tryz.results39 ?_
   repeat (first | refine qla ?_ | refine qC (xL q1 hn) ?_ | refine qC (yV (by omega : (1 : Int) ≤ 1) (by omega : (1 : Int) ≤ 6)) ?_ | refine qC (yK hes q4 q5) ?_ | refine qC (xL q2 hs) ?_ | refine qlb ?_ | refine qx ?_)
   exact qe
 | true =>
  by_cases hk : key = eB
  case neg =>
   rw [show xN _ = false from by simp [xN, opB, hn, hs, hk]]
   as_aux_lemma =>
    refine qO Tryz.func39 Tryz.ntmps39 Tryz.results39 ?_
    repeat (first | refine qla ?_ | refine qC (xL q1 hn) ?_ | refine qC (yV (by omega : (1 : Int) ≤ 1) (by omega : (1 : Int) ≤ 6)) ?_ | refine qC (yK hes q4 q5) ?_ | refine qC (xL q2 hs) ?_ | refine qlb ?_ | refine qx ?_)
    exact qe
  rw [show xN _ = true from by simp [xN, opB, hn, hs, hk, he]]
  as_aux_lemma =>
   refine qO Tryz.func39 Tryz.ntmps39 Tryz.results39 ?_
   repeat (first | refine qla ?_ | refine qC (xL q1 hn) ?_ | refine qC (yV (by omega : (1 : Int) ≤ 1) (by omega : (1 : Int) ≤ 6)) ?_ | refine qC (yK hes q4 q5) ?_ | refine qC (xL q2 hs) ?_ | refine qlb ?_ | refine qx ?_)
   exact qe
set_option maxHeartbeats 4000000 in
theorem aHG {nm src key : ByteArray} {es : List Edt} (q1 : nm.size ≤ maxLen) (q2 : src.size ≤ maxLen) (q3 : key.size ≤ maxLen) (q4 : es.length ≤ maxLen) (q5 : ∀ e ∈ es, e.key.size ≤ maxLen) (hn : okN nm = true) (hes : xO es = true) : AC Tryz.prog 39 [.agg [.v (.int .i64 4), .v (.string nm), .v (.string src), .v (.string key), .lst 3 (es.map x9)]] ⟨.v (.bool (xN ⟨4, nm, src, key, es⟩)), []⟩ := by
 have q4' := q4
 unfold maxLen at q4'
 by_cases he : es.length = 0
 case neg =>
  rw [show xN _ = false from by simp [xN, opB, hn, he]]
  as_aux_lemma =>
   refine qO Tryz.func39 Tryz.ntmps39 Tryz.results39 ?_
   repeat (first | refine qla ?_ | refine qC (xL q1 hn) ?_ | refine qC (yV (by omega : (1 : Int) ≤ 4) (by omega : (4 : Int) ≤ 6)) ?_ | refine qC (yK hes q4 q5) ?_ | refine qlb ?_ | refine qx ?_)
   exact qe
 cases hs : okN src with
 | false =>
  rw [show xN _ = false from by simp [xN, opB, hn, hs]]
  as_aux_lemma =>
   refine qO Tryz.func39 Tryz.ntmps39 Tryz.results39 ?_
   repeat (first | refine qla ?_ | refine qC (xL q1 hn) ?_ | refine qC (yV (by omega : (1 : Int) ≤ 4) (by omega : (4 : Int) ≤ 6)) ?_ | refine qC (yK hes q4 q5) ?_ | refine qC (xL q2 hs) ?_ | refine qlb ?_ | refine qx ?_)
   exact qe
 | true =>
  by_cases hk : key = eB
  case neg =>
   rw [show xN _ = false from by simp [xN, opB, hn, hs, hk]]
   as_aux_lemma =>
    refine qO Tryz.func39 Tryz.ntmps39 Tryz.results39 ?_
    repeat (first | refine qla ?_ | refine qC (xL q1 hn) ?_ | refine qC (yV (by omega : (1 : Int) ≤ 4) (by omega : (4 : Int) ≤ 6)) ?_ | refine qC (yK hes q4 q5) ?_ | refine qC (xL q2 hs) ?_ | refine qlb ?_ | refine qx ?_)
    exact qe
  rw [show xN _ = true from by simp [xN, opB, hn, hs, hk, he]]
  as_aux_lemma =>
   refine qO Tryz.func39 Tryz.ntmps39 Tryz.results39 ?_
   repeat (first | refine qla ?_ | refine qC (xL q1 hn) ?_ | refine qC (yV (by omega : (1 : Int) ≤ 4) (by omega : (4 : Int) ≤ 6)) ?_ | refine qC (yK hes q4 q5) ?_ | refine qC (xL q2 hs) ?_ | refine qlb ?_ | refine qx ?_)
   exact qe
set_option maxHeartbeats 4000000 in
theorem aHE {nm src key : ByteArray} {es : List Edt} (q1 : nm.size ≤ maxLen) (q2 : src.size ≤ maxLen) (q3 : key.size ≤ maxLen) (q4 : es.length ≤ maxLen) (q5 : ∀ e ∈ es, e.key.size ≤ maxLen) (hn : okN nm = true) (hes : xO es = true) : AC Tryz.prog 39 [.agg [.v (.int .i64 2), .v (.string nm), .v (.string src), .v (.string key), .lst 3 (es.map x9)]] ⟨.v (.bool (xN ⟨2, nm, src, key, es⟩)), []⟩ := by
 have q4' := q4
 unfold maxLen at q4'
 by_cases he : es.length = 0
 case neg =>
  rw [show xN _ = false from by simp [xN, opB, hn, he]]
  as_aux_lemma =>
   refine qO Tryz.func39 Tryz.ntmps39 Tryz.results39 ?_
   repeat (first | refine qla ?_ | refine qC (xL q1 hn) ?_ | refine qC (yV (by omega : (1 : Int) ≤ 2) (by omega : (2 : Int) ≤ 6)) ?_ | refine qC (yK hes q4 q5) ?_ | refine qlb ?_ | refine qx ?_)
   exact qe
 by_cases hs : src = eB
 case neg =>
  rw [show xN _ = false from by simp [xN, opB, hn, hs]]
  as_aux_lemma =>
   refine qO Tryz.func39 Tryz.ntmps39 Tryz.results39 ?_
   repeat (first | refine qla ?_ | refine qC (xL q1 hn) ?_ | refine qC (yV (by omega : (1 : Int) ≤ 2) (by omega : (2 : Int) ≤ 6)) ?_ | refine qC (yK hes q4 q5) ?_ | refine qlb ?_ | refine qx ?_)
   exact qe
 by_cases hk : key = eB
 case neg =>
  rw [show xN _ = false from by simp [xN, opB, hn, hs, hk]]
  as_aux_lemma =>
   refine qO Tryz.func39 Tryz.ntmps39 Tryz.results39 ?_
   repeat (first | refine qla ?_ | refine qC (xL q1 hn) ?_ | refine qC (yV (by omega : (1 : Int) ≤ 2) (by omega : (2 : Int) ≤ 6)) ?_ | refine qC (yK hes q4 q5) ?_ | refine qlb ?_ | refine qx ?_)
   exact qe
 rw [show xN _ = true from by simp [xN, opB, hn, hs, hk, he]]
 as_aux_lemma =>
  refine qO Tryz.func39 Tryz.ntmps39 Tryz.results39 ?_
  repeat (first | refine qla ?_ | refine qC (xL q1 hn) ?_ | refine qC (yV (by omega : (1 : Int) ≤ 2) (by omega : (2 : Int) ≤ 6)) ?_ | refine qC (yK hes q4 q5) ?_ | refine qlb ?_ | refine qx ?_)
  exact qe
set_option maxHeartbeats 4000000 in
theorem aHI {nm src key : ByteArray} {es : List Edt} (q1 : nm.size ≤ maxLen) (q2 : src.size ≤ maxLen) (q3 : key.size ≤ maxLen) (q4 : es.length ≤ maxLen) (q5 : ∀ e ∈ es, e.key.size ≤ maxLen) (hn : okN nm = true) (hes : xO es = true) : AC Tryz.prog 39 [.agg [.v (.int .i64 6), .v (.string nm), .v (.string src), .v (.string key), .lst 3 (es.map x9)]] ⟨.v (.bool (xN ⟨6, nm, src, key, es⟩)), []⟩ := by
 have q4' := q4
 unfold maxLen at q4'
 by_cases he : es.length = 0
 case neg =>
  rw [show xN _ = false from by simp [xN, opB, hn, he]]
  as_aux_lemma =>
   refine qO Tryz.func39 Tryz.ntmps39 Tryz.results39 ?_
   repeat (first | refine qla ?_ | refine qC (xL q1 hn) ?_ | refine qC (yV (by omega : (1 : Int) ≤ 6) (by omega : (6 : Int) ≤ 6)) ?_ | refine qC (yK hes q4 q5) ?_ | refine qlb ?_ | refine qx ?_)
   exact qe
 by_cases hs : src = eB
 case neg =>
  rw [show xN _ = false from by simp [xN, opB, hn, hs]]
  as_aux_lemma =>
   refine qO Tryz.func39 Tryz.ntmps39 Tryz.results39 ?_
   repeat (first | refine qla ?_ | refine qC (xL q1 hn) ?_ | refine qC (yV (by omega : (1 : Int) ≤ 6) (by omega : (6 : Int) ≤ 6)) ?_ | refine qC (yK hes q4 q5) ?_ | refine qlb ?_ | refine qx ?_)
   exact qe
 by_cases hk : key = eB
 case neg =>
  rw [show xN _ = false from by simp [xN, opB, hn, hs, hk]]
  as_aux_lemma =>
   refine qO Tryz.func39 Tryz.ntmps39 Tryz.results39 ?_
   repeat (first | refine qla ?_ | refine qC (xL q1 hn) ?_ | refine qC (yV (by omega : (1 : Int) ≤ 6) (by omega : (6 : Int) ≤ 6)) ?_ | refine qC (yK hes q4 q5) ?_ | refine qlb ?_ | refine qx ?_)
   exact qe
 rw [show xN _ = true from by simp [xN, opB, hn, hs, hk, he]]
 as_aux_lemma =>
  refine qO Tryz.func39 Tryz.ntmps39 Tryz.results39 ?_
  repeat (first | refine qla ?_ | refine qC (xL q1 hn) ?_ | refine qC (yV (by omega : (1 : Int) ≤ 6) (by omega : (6 : Int) ≤ 6)) ?_ | refine qC (yK hes q4 q5) ?_ | refine qlb ?_ | refine qx ?_)
  exact qe
set_option maxHeartbeats 4000000 in
theorem aHH {nm src key : ByteArray} {es : List Edt} (q1 : nm.size ≤ maxLen) (q2 : src.size ≤ maxLen) (q3 : key.size ≤ maxLen) (q4 : es.length ≤ maxLen) (q5 : ∀ e ∈ es, e.key.size ≤ maxLen) (hn : okN nm = true) (hes : xO es = true) : AC Tryz.prog 39 [.agg [.v (.int .i64 5), .v (.string nm), .v (.string src), .v (.string key), .lst 3 (es.map x9)]] ⟨.v (.bool (xN ⟨5, nm, src, key, es⟩)), []⟩ := by
 have q4' := q4
 unfold maxLen at q4'
 by_cases he : es.length = 0
 case neg =>
  rw [show xN _ = false from by simp [xN, opB, hn, he]]
  as_aux_lemma =>
   refine qO Tryz.func39 Tryz.ntmps39 Tryz.results39 ?_
   repeat (first | refine qla ?_ | refine qC (xL q1 hn) ?_ | refine qC (yV (by omega : (1 : Int) ≤ 5) (by omega : (5 : Int) ≤ 6)) ?_ | refine qC (yK hes q4 q5) ?_ | refine qlb ?_ | refine qx ?_)
   exact qe
 by_cases hs : src = eB
 case neg =>
  rw [show xN _ = false from by simp [xN, opB, hn, hs]]
  as_aux_lemma =>
   refine qO Tryz.func39 Tryz.ntmps39 Tryz.results39 ?_
   repeat (first | refine qla ?_ | refine qC (xL q1 hn) ?_ | refine qC (yV (by omega : (1 : Int) ≤ 5) (by omega : (5 : Int) ≤ 6)) ?_ | refine qC (yK hes q4 q5) ?_ | refine qlb ?_ | refine qx ?_)
   exact qe
 cases hk : okN key with
 | false =>
  rw [show xN _ = false from by simp [xN, opB, hn, hs, hk]]
  as_aux_lemma =>
   refine qO Tryz.func39 Tryz.ntmps39 Tryz.results39 ?_
   repeat (first | refine qla ?_ | refine qC (xL q1 hn) ?_ | refine qC (yV (by omega : (1 : Int) ≤ 5) (by omega : (5 : Int) ≤ 6)) ?_ | refine qC (yK hes q4 q5) ?_ | refine qC (xL q3 hk) ?_ | refine qlb ?_ | refine qx ?_)
   exact qe
 | true =>
  rw [show xN _ = true from by simp [xN, opB, hn, hs, hk, he]]
  as_aux_lemma =>
   refine qO Tryz.func39 Tryz.ntmps39 Tryz.results39 ?_
   repeat (first | refine qla ?_ | refine qC (xL q1 hn) ?_ | refine qC (yV (by omega : (1 : Int) ≤ 5) (by omega : (5 : Int) ≤ 6)) ?_ | refine qC (yK hes q4 q5) ?_ | refine qC (xL q3 hk) ?_ | refine qlb ?_ | refine qx ?_)
   exact qe
set_option maxHeartbeats 4000000 in
theorem aHF {nm src key : ByteArray} {es : List Edt} (q1 : nm.size ≤ maxLen) (q2 : src.size ≤ maxLen) (q3 : key.size ≤ maxLen) (q4 : es.length ≤ maxLen) (q5 : ∀ e ∈ es, e.key.size ≤ maxLen) (hn : okN nm = true) (hes : xO es = true) : AC Tryz.prog 39 [.agg [.v (.int .i64 3), .v (.string nm), .v (.string src), .v (.string key), .lst 3 (es.map x9)]] ⟨.v (.bool (xN ⟨3, nm, src, key, es⟩)), []⟩ := by
 have q4' := q4
 unfold maxLen at q4'
 by_cases hs : src = eB
 case neg =>
  rw [show xN _ = false from by simp [xN, opB, hn, hs]]
  as_aux_lemma =>
   refine qO Tryz.func39 Tryz.ntmps39 Tryz.results39 ?_
   repeat (first | refine qla ?_ | refine qC (xL q1 hn) ?_ | refine qC (yV (by omega : (1 : Int) ≤ 3) (by omega : (3 : Int) ≤ 6)) ?_ | refine qC (yK hes q4 q5) ?_ | refine qlb ?_ | refine qx ?_)
   exact qe
 by_cases hk : key = eB
 case neg =>
  rw [show xN _ = false from by simp [xN, opB, hn, hs, hk]]
  as_aux_lemma =>
   refine qO Tryz.func39 Tryz.ntmps39 Tryz.results39 ?_
   repeat (first | refine qla ?_ | refine qC (xL q1 hn) ?_ | refine qC (yV (by omega : (1 : Int) ≤ 3) (by omega : (3 : Int) ≤ 6)) ?_ | refine qC (yK hes q4 q5) ?_ | refine qlb ?_ | refine qx ?_)
   exact qe
 rw [show xN _ = true from by simp [xN, opB, hn, hs, hk, hes]]
 as_aux_lemma =>
  refine qO Tryz.func39 Tryz.ntmps39 Tryz.results39 ?_
  repeat (first | refine qla ?_ | refine qC (xL q1 hn) ?_ | refine qC (yV (by omega : (1 : Int) ≤ 3) (by omega : (3 : Int) ≤ 6)) ?_ | refine qC (yK hes q4 q5) ?_ | refine qlb ?_ | refine qx ?_)
  exact qe
set_option maxHeartbeats 4000000 in
theorem vG {o : Wsh} (ho : o.ok maxLen) : AC Tryz.prog 39 [uP o] ⟨.v (.bool (xN o)), []⟩ := by
 obtain ⟨kind, nm, src, key, es⟩ := o
 obtain ⟨q1, q2, q3, q4, q5⟩ := ho
 simp only at q1 q2 q3 q4 q5
 have q4' := q4
 unfold maxLen at q4'
 show AC Tryz.prog 39 [.agg [.v (.int .i64 kind), .v (.string nm), .v (.string src), .v (.string key), .lst 3 (es.map x9)]] ⟨.v (.bool (xN ⟨kind, nm, src, key, es⟩)), []⟩
 cases hn : okN nm with
 | false =>
  rw [show xN _ = false from by simp [xN, opB, hn]]
  as_aux_lemma =>
   refine qO Tryz.func39 Tryz.ntmps39 Tryz.results39 ?_
   repeat (first | refine qla ?_ | refine qC (xL q1 hn) ?_ | refine qlb ?_ | refine qx ?_)
   exact qe
 | true =>
 by_cases hr : 1 ≤ kind ∧ kind ≤ 6
 case neg =>
  have k1 : kind ≠ 1 := by omega
  have k2 : kind ≠ 2 := by omega
  have k3 : kind ≠ 3 := by omega
  have k4 : kind ≠ 4 := by omega
  have k5 : kind ≠ 5 := by omega
  have k6 : kind ≠ 6 := by omega
  rw [show xN _ = false from by simp [xN, opB, hn, k1, k2, k3, k4, k5, k6]]
  as_aux_lemma =>
   refine qO Tryz.func39 Tryz.ntmps39 Tryz.results39 ?_
   repeat (first | refine qla ?_ | refine qC (xL q1 hn) ?_ | refine qC (aJW hr) ?_ | refine qlb ?_ | refine qx ?_)
   exact qe
 cases hes : xO es with
 | false =>
  have hne : es.length ≠ 0 := fun h => by rw [aFR h] at hes; cases hes
  rw [show xN _ = false from by simp [xN, opB, hn, hes, hne]]
  as_aux_lemma =>
   refine qO Tryz.func39 Tryz.ntmps39 Tryz.results39 ?_
   repeat (first | refine qla ?_ | refine qC (xL q1 hn) ?_ | refine qC (yV hr.1 hr.2) ?_ | refine qC (yK hes q4 q5) ?_ | refine qlb ?_ | refine qx ?_)
   exact qe
 | true =>
 by_cases k1 : kind = 1
 case pos =>
  subst k1
  exact aHD q1 q2 q3 q4 q5 hn hes
 by_cases k2 : kind = 2
 case pos =>
  subst k2
  exact aHE q1 q2 q3 q4 q5 hn hes
 by_cases k3 : kind = 3
 case pos =>
  subst k3
  exact aHF q1 q2 q3 q4 q5 hn hes
 by_cases k4 : kind = 4
 case pos =>
  subst k4
  exact aHG q1 q2 q3 q4 q5 hn hes
 by_cases k5 : kind = 5
 case pos =>
  subst k5
  exact aHH q1 q2 q3 q4 q5 hn hes
 obtain rfl : kind = 6 := by omega
 exact aHI q1 q2 q3 q4 q5 hn hes
end Go.Proofs.YtodckioppgjbdaaGreatDoor.AM
