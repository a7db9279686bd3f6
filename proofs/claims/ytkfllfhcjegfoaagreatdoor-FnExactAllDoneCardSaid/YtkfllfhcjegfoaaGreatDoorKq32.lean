/- Texts of the machine over data, folded. -/
import Derived.Test.YtkfllfhcjegfoaaGreatDoorKq6
import Derived.Test.YtkfllfhcjegfoaaGreatDoorKq31
set_option linter.unusedVariables false
set_option linter.unusedSimpArgs false
set_option maxRecDepth 100000
namespace Go.Proofs.YtkfllfhcjegfoaaGreatDoor.AM
open Go Go.RowKit
attribute [local irreducible] xM xN xW yF yL Pre ACG
theorem aOE {ws : List Wsh} (hl : ws.length ≤ maxLen) (hc : ∀ c ∈ ws, c.ok maxLen) : AC Tryz.prog 62 [.lst 5 (ws.map wshA)] ⟨.v (.bool (decide (ws.length ≤ 6) && aCc ws)), []⟩ := by
 by_cases h : ws.length ≤ 6
 · rw [decide_eq_true h, Bool.true_and]; exact aIh h hc
 · rw [decide_eq_false h, Bool.false_and]
   unfold maxLen at hl
   refine qrf Tryz.func62 Tryz.ntmps62 Tryz.results62 ?_; conv => whnf
   repeat ((refine qz ?_; conv => whnf))
   exact xA rfl trivial
set_option maxHeartbeats 8000000 in
theorem aM0 {B : Bas} {c : Cli} (hb : yx B.store = true) (h1 : c.ws.length ≤ maxLen) (h2 : ∀ w ∈ c.ws, w.ok maxLen) (h3 : c.mp.length ≤ maxLen) : ∃ b, AC Tryz.prog 34 [uh B, cliA c] ⟨.v (.bool b), []⟩ ∧ aA5 c b := by
 obtain ⟨ws, dn, ph, fr, hd, vr, tr, fa, mp⟩ := c
 unfold aA5 aH8
 simp only at h1 h2 h3 ⊢
 change ∃ b, AC Tryz.prog 34 [uh B, clA (ws.map wshA) dn ph fr hd vr tr fa (mp.map xP)] ⟨.v (.bool b), []⟩ ∧ _
 have hW := aOE (ws := ws) h1 h2
 have h1' := h1
 unfold maxLen at h1'
 cases hw6 : (decide (ws.length ≤ 6) && aCc ws) with
 | false =>
  rw [hw6] at hW
  refine ⟨false, ?_, fun _ => by rw [← Bool.and_assoc, hw6]; rfl, fun h => by cases h⟩
  as_aux_lemma =>
   refine qO Tryz.func34 Tryz.ntmps34 Tryz.results34 ?_
   repeat (first | refine qla ?_ | refine qC (hW) ?_ | refine qlb ?_ | refine qx ?_ | refine yA rfl rfl (zP rfl rfl) (fun e => by cases e) ?_ | refine yA rfl rfl (xS rfl rfl rfl rfl rfl (by conv => lhs; whnf) rfl) (fun e => by cases e) ?_)
   exact qe
 | true =>
  rw [hw6] at hW
  rw [← Bool.and_assoc, hw6, Bool.true_and]
  simp only [Bool.and_eq_true, decide_eq_true_eq] at hw6
  obtain ⟨l6, hwb⟩ := hw6
  by_cases n1 : 0 ≤ dn ∧ dn ≤ (ws.length : Int)
  case neg =>
   refine ⟨false, ?_, fun h => by omega, fun h => by cases h⟩
   have c2 := y9 (x := dn) (lo := 0) (hi := (ws.length : Int)) n1
   as_aux_lemma =>
    refine qO Tryz.func34 Tryz.ntmps34 Tryz.results34 ?_
    repeat (first | refine qla ?_ | refine qC (hW) ?_ | refine qC (c2) ?_ | refine qlb ?_ | refine qx ?_ | refine yA rfl rfl (zP rfl rfl) (fun e => by cases e) ?_ | refine yA rfl rfl (xS rfl rfl rfl rfl rfl (by conv => lhs; whnf) rfl) (fun e => by cases e) ?_)
    exact qe
  have c2 := xC (x := dn) (lo := 0) (hi := (ws.length : Int)) n1.1 n1.2
  by_cases n2 : 0 ≤ ph ∧ ph ≤ 2
  case neg =>
   have c3 := y9 (x := ph) (lo := 0) (hi := 2) n2
   refine ⟨false, ?_, fun _ => by rw [decide_eq_false (show ¬ ph = 0 by omega)]; rfl, fun h => by cases h⟩
   as_aux_lemma =>
    refine qO Tryz.func34 Tryz.ntmps34 Tryz.results34 ?_
    repeat (first | refine qla ?_ | refine qC (hW) ?_ | refine qC (c2) ?_ | refine qC (c3) ?_ | refine qlb ?_ | refine qx ?_ | refine yA rfl rfl (zP rfl rfl) (fun e => by cases e) ?_ | refine yA rfl rfl (xS rfl rfl rfl rfl rfl (by conv => lhs; whnf) rfl) (fun e => by cases e) ?_)
    exact qe
  have c3 := xC (x := ph) (lo := 0) (hi := 2) n2.1 n2.2
  by_cases n3 : ph = 0
  · have c4 := aHs (B := B) (ws := ws) (dn := dn) (ph := ph) (fr := fr) (hd := hd) (vr := vr) (tr := tr) (fa := fa) (mp := mp) n3 h3
    refine ⟨huB hd vr fa mp.length && (decide (fr = 0) && decide (tr = 0)), ?_, fun _ => by rw [decide_eq_true n3, Bool.true_and]; cases huB hd vr fa mp.length <;> cases decide (fr = 0) <;> cases decide (tr = 0) <;> rfl, fun _ => ⟨n1.1, n1.2, l6⟩⟩
    by_cases n4 : dn = (ws.length : Int)
    all_goals
     as_aux_lemma =>
      refine qO Tryz.func34 Tryz.ntmps34 Tryz.results34 ?_
      repeat (first | refine qla ?_ | refine qC (hW) ?_ | refine qC (c2) ?_ | refine qC (c3) ?_ | refine qC (c4) ?_ | refine qlb ?_ | refine qx ?_ | refine yA rfl rfl (zP rfl rfl) (fun e => by cases e) ?_ | refine yA rfl rfl (xS rfl rfl rfl rfl rfl (by conv => lhs; whnf) rfl) (fun e => by cases e) ?_)
      exact qe
  · by_cases n4 : dn = (ws.length : Int)
    · refine ⟨false, ?_, fun _ => by rw [decide_eq_false n3]; rfl, fun h => by cases h⟩
      as_aux_lemma =>
       refine qO Tryz.func34 Tryz.ntmps34 Tryz.results34 ?_
       repeat (first | refine qla ?_ | refine qC (hW) ?_ | refine qC (c2) ?_ | refine qC (c3) ?_ | refine qlb ?_ | refine qx ?_ | refine yA rfl rfl (zP rfl rfl) (fun e => by cases e) ?_ | refine yA rfl rfl (xS rfl rfl rfl rfl rfl (by conv => lhs; whnf) rfl) (fun e => by cases e) ?_)
       exact qe
    · obtain ⟨d, rfl⟩ : ∃ d : Nat, dn = (d : Int) := ⟨dn.toNat, by omega⟩
      have hdl : d < ws.length := by omega
      obtain ⟨b, c4⟩ := aHb (B := B) (ws := ws) (ph := ph) (fr := fr) (hd := hd) (vr := vr) (tr := tr) (fa := fa) (mp := mp) hb hdl (List.all_eq_true.1 hwb _ (List.getElem_mem hdl)) n3 h3
      refine ⟨b, ?_, fun h => absurd h n4, fun _ => ⟨n1.1, n1.2, l6⟩⟩
      as_aux_lemma =>
       refine qO Tryz.func34 Tryz.ntmps34 Tryz.results34 ?_
       repeat (first | refine qla ?_ | refine qC (hW) ?_ | refine qC (c2) ?_ | refine qC (c3) ?_ | refine qC (c4) ?_ | refine qlb ?_ | refine qx ?_ | refine yA rfl rfl (zP rfl rfl) (fun e => by cases e) ?_ | refine yA rfl rfl (xS rfl rfl rfl rfl rfl (by conv => lhs; whnf) rfl) (fun e => by cases e) ?_)
       exact qe
end Go.Proofs.YtkfllfhcjegfoaaGreatDoor.AM
