/- Texts of the machine over data, folded. -/
import Derived.Test.YtodckioppgjbdaaGreatDoorKd5
import Derived.Test.YtodckioppgjbdaaGreatDoorKd8
set_option linter.unusedVariables false
set_option linter.unusedSimpArgs false
set_option maxRecDepth 100000
namespace Go.Proofs.YtodckioppgjbdaaGreatDoor.AM
open Go Go.RowKit
attribute [local irreducible] xD xJ xQ yD yJ Pre ACG
set_option maxHeartbeats 4000000 in
theorem aJQ {frm : Int} {nm key : ByteArray} {es : List Edt} (q1 : nm.size ≤ maxLen) (q2 : key.size ≤ maxLen) (q3 : es.length ≤ maxLen) (q4 : ∀ e ∈ es, e.key.size ≤ maxLen) (hn : okN nm = true) : AC Tryz.prog 96 [.agg [.v (.int .i64 1), .v (.int .i64 frm), .v (.string nm), .v (.string key), .lst 3 (es.map x9)]] ⟨.v (.bool (opB ⟨1, frm, nm, key, es⟩)), []⟩ := by
 have q3' := q3
 unfold maxLen at q3'
 refine qrf Tryz.func96 Tryz.ntmps96 Tryz.results96 ?_; conv => whnf
 repeat ((first | refine qc (xM q1 hn) ?_ | refine qz ?_); conv => whnf)
 (refine qdr ?_; conv => whnf)
 by_cases hf : 1 ≤ frm ∧ frm ≤ 60
 case neg =>
  rw [show opB _ = false from by simp [opB, hn, hf]]
  as_aux_lemma =>
   repeat ((first | refine qc (xM q1 hn) ?_ | refine qc (qV hf) ?_ | refine qp (xA (zR (by assumption)) rfl rfl rfl) ?_ | refine qp (xA (zK (by assumption)) rfl rfl rfl) ?_ | refine qp (xA (yh (by assumption)) rfl rfl rfl) ?_ | refine qp (xA (yg (by assumption)) rfl rfl rfl) ?_ | refine qz ?_ | refine qp (xA uy rfl rfl rfl) ?_ | refine qp (xA uI rfl rfl rfl) ?_); conv => whnf)
   exact yE rfl trivial
 by_cases hk : key = eB
 case neg =>
  rw [show opB _ = false from by simp [opB, hn, hf, hk]]
  as_aux_lemma =>
   repeat ((first | refine qc (xM q1 hn) ?_ | refine qc (za hf.1 hf.2) ?_ | refine qp (xA (zR (by assumption)) rfl rfl rfl) ?_ | refine qp (xA (zK (by assumption)) rfl rfl rfl) ?_ | refine qp (xA (yh (by assumption)) rfl rfl rfl) ?_ | refine qp (xA (yg (by assumption)) rfl rfl rfl) ?_ | refine qz ?_ | refine qp (xA uy rfl rfl rfl) ?_ | refine qp (xA uI rfl rfl rfl) ?_); conv => whnf)
   exact yE rfl trivial
 by_cases he : es.length = 0
 case neg =>
  rw [show opB _ = false from by simp [opB, hn, hf, hk, he]]
  as_aux_lemma =>
   repeat ((first | refine qc (xM q1 hn) ?_ | refine qc (za hf.1 hf.2) ?_ | refine qp (xA (zR (by assumption)) rfl rfl rfl) ?_ | refine qp (xA (zK (by assumption)) rfl rfl rfl) ?_ | refine qp (xA (yh (by assumption)) rfl rfl rfl) ?_ | refine qp (xA (yg (by assumption)) rfl rfl rfl) ?_ | refine qz ?_ | refine qp (xA uy rfl rfl rfl) ?_ | refine qp (xA uI rfl rfl rfl) ?_); conv => whnf)
   exact yE rfl trivial
 rw [show opB _ = true from by simp [opB, hn, hf, hk, he]]
 as_aux_lemma =>
  repeat ((first | refine qc (xM q1 hn) ?_ | refine qc (za hf.1 hf.2) ?_ | refine qp (xA (zR (by assumption)) rfl rfl rfl) ?_ | refine qp (xA (zK (by assumption)) rfl rfl rfl) ?_ | refine qp (xA (yh (by assumption)) rfl rfl rfl) ?_ | refine qp (xA (yg (by assumption)) rfl rfl rfl) ?_ | refine qz ?_ | refine qp (xA uy rfl rfl rfl) ?_ | refine qp (xA uI rfl rfl rfl) ?_); conv => whnf)
  exact yE rfl trivial
set_option maxHeartbeats 4000000 in
theorem aJT {frm : Int} {nm key : ByteArray} {es : List Edt} (q1 : nm.size ≤ maxLen) (q2 : key.size ≤ maxLen) (q3 : es.length ≤ maxLen) (q4 : ∀ e ∈ es, e.key.size ≤ maxLen) (hn : okN nm = true) : AC Tryz.prog 96 [.agg [.v (.int .i64 4), .v (.int .i64 frm), .v (.string nm), .v (.string key), .lst 3 (es.map x9)]] ⟨.v (.bool (opB ⟨4, frm, nm, key, es⟩)), []⟩ := by
 have q3' := q3
 unfold maxLen at q3'
 refine qrf Tryz.func96 Tryz.ntmps96 Tryz.results96 ?_; conv => whnf
 repeat ((first | refine qc (xM q1 hn) ?_ | refine qz ?_); conv => whnf)
 (refine qdr ?_; conv => whnf)
 by_cases hf : 1 ≤ frm ∧ frm ≤ 60
 case neg =>
  rw [show opB _ = false from by simp [opB, hn, hf]]
  as_aux_lemma =>
   repeat ((first | refine qc (xM q1 hn) ?_ | refine qc (qV hf) ?_ | refine qp (xA (zR (by assumption)) rfl rfl rfl) ?_ | refine qp (xA (zK (by assumption)) rfl rfl rfl) ?_ | refine qp (xA (yh (by assumption)) rfl rfl rfl) ?_ | refine qp (xA (yg (by assumption)) rfl rfl rfl) ?_ | refine qz ?_ | refine qp (xA uy rfl rfl rfl) ?_ | refine qp (xA uI rfl rfl rfl) ?_); conv => whnf)
   exact yE rfl trivial
 by_cases hk : key = eB
 case neg =>
  rw [show opB _ = false from by simp [opB, hn, hf, hk]]
  as_aux_lemma =>
   repeat ((first | refine qc (xM q1 hn) ?_ | refine qc (za hf.1 hf.2) ?_ | refine qp (xA (zR (by assumption)) rfl rfl rfl) ?_ | refine qp (xA (zK (by assumption)) rfl rfl rfl) ?_ | refine qp (xA (yh (by assumption)) rfl rfl rfl) ?_ | refine qp (xA (yg (by assumption)) rfl rfl rfl) ?_ | refine qz ?_ | refine qp (xA uy rfl rfl rfl) ?_ | refine qp (xA uI rfl rfl rfl) ?_); conv => whnf)
   exact yE rfl trivial
 by_cases he : es.length = 0
 case neg =>
  rw [show opB _ = false from by simp [opB, hn, hf, hk, he]]
  as_aux_lemma =>
   repeat ((first | refine qc (xM q1 hn) ?_ | refine qc (za hf.1 hf.2) ?_ | refine qp (xA (zR (by assumption)) rfl rfl rfl) ?_ | refine qp (xA (zK (by assumption)) rfl rfl rfl) ?_ | refine qp (xA (yh (by assumption)) rfl rfl rfl) ?_ | refine qp (xA (yg (by assumption)) rfl rfl rfl) ?_ | refine qz ?_ | refine qp (xA uy rfl rfl rfl) ?_ | refine qp (xA uI rfl rfl rfl) ?_); conv => whnf)
   exact yE rfl trivial
 rw [show opB _ = true from by simp [opB, hn, hf, hk, he]]
 as_aux_lemma =>
  repeat ((first | refine qc (xM q1 hn) ?_ | refine qc (za hf.1 hf.2) ?_ | refine qp (xA (zR (by assumption)) rfl rfl rfl) ?_ | refine qp (xA (zK (by assumption)) rfl rfl rfl) ?_ | refine qp (xA (yh (by assumption)) rfl rfl rfl) ?_ | refine qp (xA (yg (by assumption)) rfl rfl rfl) ?_ | refine qz ?_ | refine qp (xA uy rfl rfl rfl) ?_ | refine qp (xA uI rfl rfl rfl) ?_); conv => whnf)
  exact yE rfl trivial
set_option maxHeartbeats 4000000 in
theorem aJS {frm : Int} {nm key : ByteArray} {es : List Edt} (q1 : nm.size ≤ maxLen) (q2 : key.size ≤ maxLen) (q3 : es.length ≤ maxLen) (q4 : ∀ e ∈ es, e.key.size ≤ maxLen) (hn : okN nm = true) : AC Tryz.prog 96 [.agg [.v (.int .i64 3), .v (.int .i64 frm), .v (.string nm), .v (.string key), .lst 3 (es.map x9)]] ⟨.v (.bool (opB ⟨3, frm, nm, key, es⟩)), []⟩ := by
 have q3' := q3
 unfold maxLen at q3'
 refine qrf Tryz.func96 Tryz.ntmps96 Tryz.results96 ?_; conv => whnf
 repeat ((first | refine qc (xM q1 hn) ?_ | refine qz ?_); conv => whnf)
 (refine qdr ?_; conv => whnf)
 by_cases h0 : frm = 0
 case pos =>
  subst h0
  by_cases hk : key = eB
  case neg =>
   rw [show opB _ = false from by simp [opB, hn, hk]]
   as_aux_lemma =>
    repeat ((first | refine qc (xM q1 hn) ?_ | refine qp (xA (zR (by assumption)) rfl rfl rfl) ?_ | refine qp (xA (zK (by assumption)) rfl rfl rfl) ?_ | refine qp (xA (yh (by assumption)) rfl rfl rfl) ?_ | refine qp (xA (yg (by assumption)) rfl rfl rfl) ?_ | refine qz ?_ | refine qp (xA uy rfl rfl rfl) ?_ | refine qp (xA uI rfl rfl rfl) ?_); conv => whnf)
    exact yE rfl trivial
  cases he : xO es with
  | false =>
   rw [show opB _ = false from by simp [opB, hn, hk, he]]
   as_aux_lemma =>
    repeat ((first | refine qc (xM q1 hn) ?_ | refine qc (aAG he q3 q4) ?_ | refine qp (xA (zR (by assumption)) rfl rfl rfl) ?_ | refine qp (xA (zK (by assumption)) rfl rfl rfl) ?_ | refine qp (xA (yh (by assumption)) rfl rfl rfl) ?_ | refine qp (xA (yg (by assumption)) rfl rfl rfl) ?_ | refine qz ?_ | refine qp (xA uy rfl rfl rfl) ?_ | refine qp (xA uI rfl rfl rfl) ?_); conv => whnf)
    exact yE rfl trivial
  | true =>
   rw [show opB _ = true from by simp [opB, hn, hk, he]]
   as_aux_lemma =>
    repeat ((first | refine qc (xM q1 hn) ?_ | refine qc (aAG he q3 q4) ?_ | refine qp (xA (zR (by assumption)) rfl rfl rfl) ?_ | refine qp (xA (zK (by assumption)) rfl rfl rfl) ?_ | refine qp (xA (yh (by assumption)) rfl rfl rfl) ?_ | refine qp (xA (yg (by assumption)) rfl rfl rfl) ?_ | refine qz ?_ | refine qp (xA uy rfl rfl rfl) ?_ | refine qp (xA uI rfl rfl rfl) ?_); conv => whnf)
    exact yE rfl trivial
 by_cases hf : 1 ≤ frm ∧ frm ≤ 60
 case neg =>
  have hf2 : ¬ (0 ≤ frm ∧ frm ≤ 60) := by omega
  rw [show opB _ = false from by simp [opB, hn, hf2]]
  as_aux_lemma =>
   repeat ((first | refine qc (xM q1 hn) ?_ | refine qc (qV hf) ?_ | refine qp (xA (zR (by assumption)) rfl rfl rfl) ?_ | refine qp (xA (zK (by assumption)) rfl rfl rfl) ?_ | refine qp (xA (yh (by assumption)) rfl rfl rfl) ?_ | refine qp (xA (yg (by assumption)) rfl rfl rfl) ?_ | refine qz ?_ | refine qp (xA uy rfl rfl rfl) ?_ | refine qp (xA uI rfl rfl rfl) ?_); conv => whnf)
   exact yE rfl trivial
 have hf2 : 0 ≤ frm ∧ frm ≤ 60 := by omega
 by_cases hk : key = eB
 case neg =>
  rw [show opB _ = false from by simp [opB, hn, hf2, hk]]
  as_aux_lemma =>
   repeat ((first | refine qc (xM q1 hn) ?_ | refine qc (za hf.1 hf.2) ?_ | refine qp (xA (zR (by assumption)) rfl rfl rfl) ?_ | refine qp (xA (zK (by assumption)) rfl rfl rfl) ?_ | refine qp (xA (yh (by assumption)) rfl rfl rfl) ?_ | refine qp (xA (yg (by assumption)) rfl rfl rfl) ?_ | refine qz ?_ | refine qp (xA uy rfl rfl rfl) ?_ | refine qp (xA uI rfl rfl rfl) ?_); conv => whnf)
   exact yE rfl trivial
 cases he : xO es with
 | false =>
  rw [show opB _ = false from by simp [opB, hn, hf2, hk, he]]
  as_aux_lemma =>
   repeat ((first | refine qc (xM q1 hn) ?_ | refine qc (za hf.1 hf.2) ?_ | refine qc (aAG he q3 q4) ?_ | refine qp (xA (zR (by assumption)) rfl rfl rfl) ?_ | refine qp (xA (zK (by assumption)) rfl rfl rfl) ?_ | refine qp (xA (yh (by assumption)) rfl rfl rfl) ?_ | refine qp (xA (yg (by assumption)) rfl rfl rfl) ?_ | refine qz ?_ | refine qp (xA uy rfl rfl rfl) ?_ | refine qp (xA uI rfl rfl rfl) ?_); conv => whnf)
   exact yE rfl trivial
 | true =>
  rw [show opB _ = true from by simp [opB, hn, hf2, hk, he]]
  as_aux_lemma =>
   repeat ((first | refine qc (xM q1 hn) ?_ | refine qc (za hf.1 hf.2) ?_ | refine qc (aAG he q3 q4) ?_ | refine qp (xA (zR (by assumption)) rfl rfl rfl) ?_ | refine qp (xA (zK (by assumption)) rfl rfl rfl) ?_ | refine qp (xA (yh (by assumption)) rfl rfl rfl) ?_ | refine qp (xA (yg (by assumption)) rfl rfl rfl) ?_ | refine qz ?_ | refine qp (xA uy rfl rfl rfl) ?_ | refine qp (xA uI rfl rfl rfl) ?_); conv => whnf)
   exact yE rfl trivial
end Go.Proofs.YtodckioppgjbdaaGreatDoor.AM
