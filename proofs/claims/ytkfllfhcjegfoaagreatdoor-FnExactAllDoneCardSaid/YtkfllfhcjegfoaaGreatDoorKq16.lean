/- Texts of the machine over data, folded. -/
import Derived.Test.YtkfllfhcjegfoaaGreatDoorKq6
import Derived.Test.YtkfllfhcjegfoaaGreatDoorKq14
import Derived.Test.YtkfllfhcjegfoaaGreatDoorKq15
import Derived.Test.YtkfllfhcjegfoaaGreatDoorKq10
import Derived.Test.YtkfllfhcjegfoaaGreatDoorKq7
import Derived.WalkSpells
import Derived.Test.YtkfllfhcjegfoaaGreatDoorKq12
set_option linter.unusedVariables false
set_option linter.unusedSimpArgs false
set_option maxRecDepth 100000
namespace Go.Proofs.YtkfllfhcjegfoaaGreatDoor.AM
open Go Go.RowKit
instance : DecidableEq Edt := fun a b => decidable_of_iff _ aKM.symm
def szM (m : Mom) (l : Int) : Int := if szO m.op l < 0 then -1 else if szR m.res (szO m.op l) < 0 then -1 else szR m.res (szO m.op l)
theorem aKD {o : Opr} {l : Int} (h : 0 ≤ szO o l) : szO o l ≤ l ∧ o.edits.length ≤ l := by
 unfold szO at h ⊢
 split at h
 · omega
 split at h
 · omega
 split at h
 · omega
 · rename_i a b c
   rw [if_neg a, if_neg b, if_neg c]
   obtain ⟨k1, l1, _⟩ := aAa h
   omega
attribute [local irreducible] xM xN xW yF yL Pre ACG
theorem aDw {m : Mom} {l : Int} (ho : m.op.ok maxLen) (hr : m.res.ok maxLen) (h0 : 0 ≤ l) (h1 : l ≤ 1048576) : AC Tryz.prog 31 [momA m, .v (.int .i64 l)] ⟨.v (.int .i64 (szM m l)), []⟩ := by
 have z1 := aP1 ho h0 h1
 unfold szM
 by_cases ha : szO m.op l < 0
 · rw [if_pos ha]
   refine qrf Tryz.func31 Tryz.ntmps31 Tryz.results31 ?_; conv => whnf
   repeat ((first | refine qz ?_ | refine qc (z1) ?_ | refine qst ?_); conv => whnf)
   exact xA rfl trivial
 rw [if_neg ha]
 have hle := aKD (by omega : 0 ≤ szO m.op l)
 have z2 := aJ7 hr (l := szO m.op l) (by omega) (by omega)
 by_cases hn : szR m.res (szO m.op l) < 0
 · rw [if_pos hn]
   refine qrf Tryz.func31 Tryz.ntmps31 Tryz.results31 ?_; conv => whnf
   repeat ((first | refine qz ?_ | refine qc (z1) ?_ | refine qc (z2) ?_ | refine qst ?_); conv => whnf)
   exact xA rfl trivial
 · rw [if_neg hn]
   refine qrf Tryz.func31 Tryz.ntmps31 Tryz.results31 ?_; conv => whnf
   repeat ((first | refine qz ?_ | refine qc (z1) ?_ | refine qc (z2) ?_ | refine qst ?_); conv => whnf)
   exact xA rfl trivial
theorem aQ7 {m : Mom} {l : Int} (h : 0 ≤ szM m l) (h1 : l ≤ 1048576) : szM m l ≤ 1048576 ∧ m.op.edits.length ≤ 1048576 ∧ m.res.keys.length ≤ 1048576 ∧ m.res.map.length ≤ 1048576 := by
 unfold szM at h ⊢
 by_cases ha : szO m.op l < 0
 · rw [if_pos ha] at h; omega
 rw [if_neg ha] at h ⊢
 obtain ⟨k1, k2⟩ := aKD (by omega : 0 ≤ szO m.op l)
 by_cases hn : szR m.res (szO m.op l) < 0
 · rw [if_pos hn] at h; omega
 rw [if_neg hn] at h ⊢
 obtain ⟨j1, j2, j3⟩ := aQt h (by omega)
 exact ⟨by omega, by omega, j2, j3⟩
theorem aJL {m : Mom} (h1 : m.op.edits.length ≤ 1048576) (h2 : m.res.keys.length ≤ 1048576) (h3 : m.res.map.length ≤ 1048576) : AC Tryz.prog 42 [momA m] ⟨momA m, []⟩ := by
 have t1 := aPu h1
 have t2 := aJ8 h2 h3
 refine qrf Tryz.func42 Tryz.ntmps42 Tryz.results42 ?_; conv => whnf
 repeat (first | (refine qz ?_; conv => whnf) | (refine qc (t1) ?_; conv => whnf) | (refine qc (t2) ?_; conv => whnf) | (refine qr (wQ rfl rfl rfl rfl rfl rfl rfl rfl) ?_; conv => whnf) | (refine qr (xS rfl rfl rfl rfl rfl (by conv => lhs; whnf) rfl) ?_; conv => whnf))
 exact uX (x := momA m) rfl rfl rfl rfl trivial
theorem aJV {m : Mom} (h1 : m.op.edits.length ≤ maxLen) (h2 : m.res.keys.length ≤ maxLen) (h3 : m.res.map.length ≤ maxLen) : AC Tryz.prog 52 [momA m, momA m] ⟨.v (.bool true), []⟩ := by
 have e1 := aPw h1
 have e2 := aJT h2 h3
 refine qrf Tryz.func52 Tryz.ntmps52 Tryz.results52 ?_; conv => whnf
 repeat ((first | refine qp (xB (kT rfl) rfl rfl rfl) ?_ | refine qz ?_ | refine qc (e1) ?_ | refine qc (e2) ?_); conv => whnf)
 exact xA rfl trivial
theorem aME {a b : List Edt} (hm : a.length ≤ maxLen) (hm' : b.length ≤ maxLen) : AC Tryz.prog 143 [.lst 3 (a.map xg), .lst 3 (b.map xg)] ⟨.v (.bool (decide (a = b))), []⟩ := by
 unfold maxLen at hm hm'
 by_cases hl : a.length = b.length
 case neg =>
  rw [decide_eq_false (fun e => hl (by rw [e]))]
  refine qrf Tryz.func143 Tryz.ntmps143 Tryz.results143 ?_; conv => whnf
  repeat ((refine qz ?_; conv => whnf))
  exact xA rfl trivial
 refine qrf Tryz.func143 Tryz.ntmps143 Tryz.results143 ?_; conv => whnf
 repeat ((refine qz ?_; conv => whnf))
 refine xX (ι := { k : Nat // k ≤ a.length ∧ Agree a b k }) (fun k => ⟨[(0, .lst 3 (a.map xg)), (1, .lst 3 (b.map xg)), (12, .v (.int .i64 (a.length : Int))), (13, .v (.int .i64 (k.1 : Int)))], []⟩) (fun k => a.length - k.1) ⟨0, Nat.zero_le _, fun i h => by omega⟩ (by exact qle) ?_
 rintro ⟨k, hk, hg⟩
 dsimp only at hk hg ⊢
 conv => whnf
 by_cases hlt : k < a.length
 case neg =>
  rw [decide_eq_true (aQ2 hl (fun i hi => hg i (by omega)))]
  repeat ((refine qz ?_; conv => whnf))
  exact xA rfl trivial
 have hlt' : k < b.length := by omega
 by_cases he : a[k] = b[k]
 · repeat ((refine qz ?_; conv => whnf))
   refine .inl ⟨by kernel_rfl, ?_⟩
   conv => whnf
   repeat ((first | refine qz ?_ | refine qp (aCD (aAE (a := a[k]) (b := b[k]) (r := false) (by simp [he])) rfl rfl rfl) ?_); conv => whnf)
   exact ⟨⟨k + 1, hlt, hg.snoc hlt hlt' he⟩, by exact qle, by simp; omega⟩
 · rw [decide_eq_false (fun e => he (by subst e; rfl))]
   repeat ((refine qz ?_; conv => whnf))
   refine .inl ⟨by kernel_rfl, ?_⟩
   conv => whnf
   repeat ((first | refine qz ?_ | refine qp (aCD (aAE (a := a[k]) (b := b[k]) (r := true) (by simp [he])) rfl rfl rfl) ?_); conv => whnf)
   exact xA rfl trivial
def aC4 (a b : Opr) : Bool := decide (a.kind = b.kind) && (decide (a.frm = b.frm) && (decide (a.name = b.name) && (decide (a.key = b.key) && decide (a.edits = b.edits))))
set_option maxHeartbeats 4000000 in
theorem aOA {a b : Opr} (hm : a.edits.length ≤ maxLen) (hm' : b.edits.length ≤ maxLen) : AC Tryz.prog 118 [jl a, jl b] ⟨.v (.bool (aC4 a b)), []⟩ := by
 have h9 := aME hm hm'
 unfold aC4
 by_cases h_k : a.kind = b.kind
 case neg =>
  rw [decide_eq_false h_k, Bool.false_and]
  as_aux_lemma =>
   refine qO Tryz.func118 Tryz.ntmps118 Tryz.results118 ?_
   repeat (first | refine qla ?_ | refine qC (h9) ?_ | refine qlb ?_ | refine qx ?_ | refine yA rfl rfl (zP rfl rfl) (fun e => by cases e) ?_ | refine yA rfl rfl (xS rfl rfl rfl rfl rfl (by conv => lhs; whnf) rfl) (fun e => by cases e) ?_)
   exact qe
 rw [decide_eq_true h_k, Bool.true_and]
 by_cases h_f : a.frm = b.frm
 case neg =>
  rw [decide_eq_false h_f, Bool.false_and]
  as_aux_lemma =>
   refine qO Tryz.func118 Tryz.ntmps118 Tryz.results118 ?_
   repeat (first | refine qla ?_ | refine qC (h9) ?_ | refine qlb ?_ | refine qx ?_ | refine yA rfl rfl (zP rfl rfl) (fun e => by cases e) ?_ | refine yA rfl rfl (xS rfl rfl rfl rfl rfl (by conv => lhs; whnf) rfl) (fun e => by cases e) ?_)
   exact qe
 rw [decide_eq_true h_f, Bool.true_and]
 by_cases h_n : a.name = b.name
 case neg =>
  rw [decide_eq_false h_n, Bool.false_and]
  as_aux_lemma =>
   refine qO Tryz.func118 Tryz.ntmps118 Tryz.results118 ?_
   repeat (first | refine qla ?_ | refine qC (h9) ?_ | refine qlb ?_ | refine qx ?_ | refine yA rfl rfl (zP rfl rfl) (fun e => by cases e) ?_ | refine yA rfl rfl (xS rfl rfl rfl rfl rfl (by conv => lhs; whnf) rfl) (fun e => by cases e) ?_)
   exact qe
 rw [decide_eq_true h_n, Bool.true_and]
 by_cases h_y : a.key = b.key
 case neg =>
  rw [decide_eq_false h_y, Bool.false_and]
  as_aux_lemma =>
   refine qO Tryz.func118 Tryz.ntmps118 Tryz.results118 ?_
   repeat (first | refine qla ?_ | refine qC (h9) ?_ | refine qlb ?_ | refine qx ?_ | refine yA rfl rfl (zP rfl rfl) (fun e => by cases e) ?_ | refine yA rfl rfl (xS rfl rfl rfl rfl rfl (by conv => lhs; whnf) rfl) (fun e => by cases e) ?_)
   exact qe
 rw [decide_eq_true h_y, Bool.true_and]
 as_aux_lemma =>
  refine qO Tryz.func118 Tryz.ntmps118 Tryz.results118 ?_
  repeat (first | refine qla ?_ | refine qC (h9) ?_ | refine qlb ?_ | refine qx ?_)
  exact qe
end Go.Proofs.YtkfllfhcjegfoaaGreatDoor.AM
namespace Go.Proofs.YtkfllfhcjegfoaaGreatDoor
open Go.RowKit
end Go.Proofs.YtkfllfhcjegfoaaGreatDoor
namespace Go.Proofs.YtkfllfhcjegfoaaGreatDoor
open Go Go.RowKit
end Go.Proofs.YtkfllfhcjegfoaaGreatDoor
namespace Go.Proofs.YtkfllfhcjegfoaaGreatDoor.AM
open Go Go.RowKit
section
variable {w : World}
end
attribute [local irreducible] xM xN xW yF yL Pre ACG
set_option maxHeartbeats 4000000 in
theorem aPy {frm : Int} {nm key : ByteArray} {es : List Edt} (q1 : nm.size ≤ maxLen) (q2 : key.size ≤ maxLen) (q3 : es.length ≤ maxLen) (q4 : ∀ e ∈ es, e.key.size ≤ maxLen) (hn : okN nm = true) : AC Tryz.prog 117 [.agg [.v (.int .i64 1), .v (.int .i64 frm), .v (.string nm), .v (.string key), .lst 3 (es.map xg)]] ⟨.v (.bool (opB ⟨1, frm, nm, key, es⟩)), []⟩ := by
 have q3' := q3
 unfold maxLen at q3'
 refine qrf Tryz.func117 Tryz.ntmps117 Tryz.results117 ?_; conv => whnf
 repeat ((first | refine qc (xU q1 hn) ?_ | refine qz ?_); conv => whnf)
 (refine qdr ?_; conv => whnf)
 by_cases hf : 1 ≤ frm ∧ frm ≤ 60
 case neg =>
  rw [show opB _ = false from by simp [opB, hn, hf]]
  as_aux_lemma =>
   repeat ((first | refine qc (xU q1 hn) ?_ | refine qc (j4 hf) ?_ | refine qp (xB (uU (by assumption)) rfl rfl rfl) ?_ | refine qp (xB (z8 (by assumption)) rfl rfl rfl) ?_ | refine qp (xB (yJ (by assumption)) rfl rfl rfl) ?_ | refine qp (xB (yo (by assumption)) rfl rfl rfl) ?_ | refine qz ?_ | refine qp (xB wE rfl rfl rfl) ?_ | refine qp (xB vB rfl rfl rfl) ?_); conv => whnf)
   exact xA rfl trivial
 by_cases hk : key = eB
 case neg =>
  rw [show opB _ = false from by simp [opB, hn, hf, hk]]
  as_aux_lemma =>
   repeat ((first | refine qc (xU q1 hn) ?_ | refine qc (uF hf.1 hf.2) ?_ | refine qp (xB (uU (by assumption)) rfl rfl rfl) ?_ | refine qp (xB (z8 (by assumption)) rfl rfl rfl) ?_ | refine qp (xB (yJ (by assumption)) rfl rfl rfl) ?_ | refine qp (xB (yo (by assumption)) rfl rfl rfl) ?_ | refine qz ?_ | refine qp (xB wE rfl rfl rfl) ?_ | refine qp (xB vB rfl rfl rfl) ?_); conv => whnf)
   exact xA rfl trivial
 by_cases he : es.length = 0
 case neg =>
  rw [show opB _ = false from by simp [opB, hn, hf, hk, he]]
  as_aux_lemma =>
   repeat ((first | refine qc (xU q1 hn) ?_ | refine qc (uF hf.1 hf.2) ?_ | refine qp (xB (uU (by assumption)) rfl rfl rfl) ?_ | refine qp (xB (z8 (by assumption)) rfl rfl rfl) ?_ | refine qp (xB (yJ (by assumption)) rfl rfl rfl) ?_ | refine qp (xB (yo (by assumption)) rfl rfl rfl) ?_ | refine qz ?_ | refine qp (xB wE rfl rfl rfl) ?_ | refine qp (xB vB rfl rfl rfl) ?_); conv => whnf)
   exact xA rfl trivial
 rw [show opB _ = true from by simp [opB, hn, hf, hk, he]]
 as_aux_lemma =>
  repeat ((first | refine qc (xU q1 hn) ?_ | refine qc (uF hf.1 hf.2) ?_ | refine qp (xB (uU (by assumption)) rfl rfl rfl) ?_ | refine qp (xB (z8 (by assumption)) rfl rfl rfl) ?_ | refine qp (xB (yJ (by assumption)) rfl rfl rfl) ?_ | refine qp (xB (yo (by assumption)) rfl rfl rfl) ?_ | refine qz ?_ | refine qp (xB wE rfl rfl rfl) ?_ | refine qp (xB vB rfl rfl rfl) ?_); conv => whnf)
  exact xA rfl trivial
set_option maxHeartbeats 4000000 in
theorem aPZ {frm : Int} {nm key : ByteArray} {es : List Edt} (q1 : nm.size ≤ maxLen) (q2 : key.size ≤ maxLen) (q3 : es.length ≤ maxLen) (q4 : ∀ e ∈ es, e.key.size ≤ maxLen) (hn : okN nm = true) : AC Tryz.prog 117 [.agg [.v (.int .i64 4), .v (.int .i64 frm), .v (.string nm), .v (.string key), .lst 3 (es.map xg)]] ⟨.v (.bool (opB ⟨4, frm, nm, key, es⟩)), []⟩ := by
 have q3' := q3
 unfold maxLen at q3'
 refine qrf Tryz.func117 Tryz.ntmps117 Tryz.results117 ?_; conv => whnf
 repeat ((first | refine qc (xU q1 hn) ?_ | refine qz ?_); conv => whnf)
 (refine qdr ?_; conv => whnf)
 by_cases hf : 1 ≤ frm ∧ frm ≤ 60
 case neg =>
  rw [show opB _ = false from by simp [opB, hn, hf]]
  as_aux_lemma =>
   repeat ((first | refine qc (xU q1 hn) ?_ | refine qc (j4 hf) ?_ | refine qp (xB (uU (by assumption)) rfl rfl rfl) ?_ | refine qp (xB (z8 (by assumption)) rfl rfl rfl) ?_ | refine qp (xB (yJ (by assumption)) rfl rfl rfl) ?_ | refine qp (xB (yo (by assumption)) rfl rfl rfl) ?_ | refine qz ?_ | refine qp (xB wE rfl rfl rfl) ?_ | refine qp (xB vB rfl rfl rfl) ?_); conv => whnf)
   exact xA rfl trivial
 by_cases hk : key = eB
 case neg =>
  rw [show opB _ = false from by simp [opB, hn, hf, hk]]
  as_aux_lemma =>
   repeat ((first | refine qc (xU q1 hn) ?_ | refine qc (uF hf.1 hf.2) ?_ | refine qp (xB (uU (by assumption)) rfl rfl rfl) ?_ | refine qp (xB (z8 (by assumption)) rfl rfl rfl) ?_ | refine qp (xB (yJ (by assumption)) rfl rfl rfl) ?_ | refine qp (xB (yo (by assumption)) rfl rfl rfl) ?_ | refine qz ?_ | refine qp (xB wE rfl rfl rfl) ?_ | refine qp (xB vB rfl rfl rfl) ?_); conv => whnf)
   exact xA rfl trivial
 by_cases he : es.length = 0
 case neg =>
  rw [show opB _ = false from by simp [opB, hn, hf, hk, he]]
  as_aux_lemma =>
   repeat ((first | refine qc (xU q1 hn) ?_ | refine qc (uF hf.1 hf.2) ?_ | refine qp (xB (uU (by assumption)) rfl rfl rfl) ?_ | refine qp (xB (z8 (by assumption)) rfl rfl rfl) ?_ | refine qp (xB (yJ (by assumption)) rfl rfl rfl) ?_ | refine qp (xB (yo (by assumption)) rfl rfl rfl) ?_ | refine qz ?_ | refine qp (xB wE rfl rfl rfl) ?_ | refine qp (xB vB rfl rfl rfl) ?_); conv => whnf)
   exact xA rfl trivial
 rw [show opB _ = true from by simp [opB, hn, hf, hk, he]]
 as_aux_lemma =>
  repeat ((first | refine qc (xU q1 hn) ?_ | refine qc (uF hf.1 hf.2) ?_ | refine qp (xB (uU (by assumption)) rfl rfl rfl) ?_ | refine qp (xB (z8 (by assumption)) rfl rfl rfl) ?_ | refine qp (xB (yJ (by assumption)) rfl rfl rfl) ?_ | refine qp (xB (yo (by assumption)) rfl rfl rfl) ?_ | refine qz ?_ | refine qp (xB wE rfl rfl rfl) ?_ | refine qp (xB vB rfl rfl rfl) ?_); conv => whnf)
  exact xA rfl trivial
set_option maxHeartbeats 4000000 in
theorem aQC {frm : Int} {nm key : ByteArray} {es : List Edt} (q1 : nm.size ≤ maxLen) (q2 : key.size ≤ maxLen) (q3 : es.length ≤ maxLen) (q4 : ∀ e ∈ es, e.key.size ≤ maxLen) (hn : okN nm = true) : AC Tryz.prog 117 [.agg [.v (.int .i64 3), .v (.int .i64 frm), .v (.string nm), .v (.string key), .lst 3 (es.map xg)]] ⟨.v (.bool (opB ⟨3, frm, nm, key, es⟩)), []⟩ := by
 have q3' := q3
 unfold maxLen at q3'
 refine qrf Tryz.func117 Tryz.ntmps117 Tryz.results117 ?_; conv => whnf
 repeat ((first | refine qc (xU q1 hn) ?_ | refine qz ?_); conv => whnf)
 (refine qdr ?_; conv => whnf)
 by_cases h0 : frm = 0
 case pos =>
  subst h0
  by_cases hk : key = eB
  case neg =>
   rw [show opB _ = false from by simp [opB, hn, hk]]
   as_aux_lemma =>
    repeat ((first | refine qc (xU q1 hn) ?_ | refine qp (xB (uU (by assumption)) rfl rfl rfl) ?_ | refine qp (xB (z8 (by assumption)) rfl rfl rfl) ?_ | refine qp (xB (yJ (by assumption)) rfl rfl rfl) ?_ | refine qp (xB (yo (by assumption)) rfl rfl rfl) ?_ | refine qz ?_ | refine qp (xB wE rfl rfl rfl) ?_ | refine qp (xB vB rfl rfl rfl) ?_); conv => whnf)
    exact xA rfl trivial
  cases he : xw es with
  | false =>
   rw [show opB _ = false from by simp [opB, hn, hk, he]]
   as_aux_lemma =>
    repeat ((first | refine qc (xU q1 hn) ?_ | refine qc (aCh he q3 q4) ?_ | refine qp (xB (uU (by assumption)) rfl rfl rfl) ?_ | refine qp (xB (z8 (by assumption)) rfl rfl rfl) ?_ | refine qp (xB (yJ (by assumption)) rfl rfl rfl) ?_ | refine qp (xB (yo (by assumption)) rfl rfl rfl) ?_ | refine qz ?_ | refine qp (xB wE rfl rfl rfl) ?_ | refine qp (xB vB rfl rfl rfl) ?_); conv => whnf)
    exact xA rfl trivial
  | true =>
   rw [show opB _ = true from by simp [opB, hn, hk, he]]
   as_aux_lemma =>
    repeat ((first | refine qc (xU q1 hn) ?_ | refine qc (aCh he q3 q4) ?_ | refine qp (xB (uU (by assumption)) rfl rfl rfl) ?_ | refine qp (xB (z8 (by assumption)) rfl rfl rfl) ?_ | refine qp (xB (yJ (by assumption)) rfl rfl rfl) ?_ | refine qp (xB (yo (by assumption)) rfl rfl rfl) ?_ | refine qz ?_ | refine qp (xB wE rfl rfl rfl) ?_ | refine qp (xB vB rfl rfl rfl) ?_); conv => whnf)
    exact xA rfl trivial
 by_cases hf : 1 ≤ frm ∧ frm ≤ 60
 case neg =>
  have hf2 : ¬ (0 ≤ frm ∧ frm ≤ 60) := by omega
  rw [show opB _ = false from by simp [opB, hn, hf2]]
  as_aux_lemma =>
   repeat ((first | refine qc (xU q1 hn) ?_ | refine qc (j4 hf) ?_ | refine qp (xB (uU (by assumption)) rfl rfl rfl) ?_ | refine qp (xB (z8 (by assumption)) rfl rfl rfl) ?_ | refine qp (xB (yJ (by assumption)) rfl rfl rfl) ?_ | refine qp (xB (yo (by assumption)) rfl rfl rfl) ?_ | refine qz ?_ | refine qp (xB wE rfl rfl rfl) ?_ | refine qp (xB vB rfl rfl rfl) ?_); conv => whnf)
   exact xA rfl trivial
 have hf2 : 0 ≤ frm ∧ frm ≤ 60 := by omega
 by_cases hk : key = eB
 case neg =>
  rw [show opB _ = false from by simp [opB, hn, hf2, hk]]
  as_aux_lemma =>
   repeat ((first | refine qc (xU q1 hn) ?_ | refine qc (uF hf.1 hf.2) ?_ | refine qp (xB (uU (by assumption)) rfl rfl rfl) ?_ | refine qp (xB (z8 (by assumption)) rfl rfl rfl) ?_ | refine qp (xB (yJ (by assumption)) rfl rfl rfl) ?_ | refine qp (xB (yo (by assumption)) rfl rfl rfl) ?_ | refine qz ?_ | refine qp (xB wE rfl rfl rfl) ?_ | refine qp (xB vB rfl rfl rfl) ?_); conv => whnf)
   exact xA rfl trivial
 cases he : xw es with
 | false =>
  rw [show opB _ = false from by simp [opB, hn, hf2, hk, he]]
  as_aux_lemma =>
   repeat ((first | refine qc (xU q1 hn) ?_ | refine qc (uF hf.1 hf.2) ?_ | refine qc (aCh he q3 q4) ?_ | refine qp (xB (uU (by assumption)) rfl rfl rfl) ?_ | refine qp (xB (z8 (by assumption)) rfl rfl rfl) ?_ | refine qp (xB (yJ (by assumption)) rfl rfl rfl) ?_ | refine qp (xB (yo (by assumption)) rfl rfl rfl) ?_ | refine qz ?_ | refine qp (xB wE rfl rfl rfl) ?_ | refine qp (xB vB rfl rfl rfl) ?_); conv => whnf)
   exact xA rfl trivial
 | true =>
  rw [show opB _ = true from by simp [opB, hn, hf2, hk, he]]
  as_aux_lemma =>
   repeat ((first | refine qc (xU q1 hn) ?_ | refine qc (uF hf.1 hf.2) ?_ | refine qc (aCh he q3 q4) ?_ | refine qp (xB (uU (by assumption)) rfl rfl rfl) ?_ | refine qp (xB (z8 (by assumption)) rfl rfl rfl) ?_ | refine qp (xB (yJ (by assumption)) rfl rfl rfl) ?_ | refine qp (xB (yo (by assumption)) rfl rfl rfl) ?_ | refine qz ?_ | refine qp (xB wE rfl rfl rfl) ?_ | refine qp (xB vB rfl rfl rfl) ?_); conv => whnf)
   exact xA rfl trivial
end Go.Proofs.YtkfllfhcjegfoaaGreatDoor.AM
