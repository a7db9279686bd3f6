/- Texts of the machine over data, folded. -/
import Derived.Test.YtkfllfhcjegfoaaGreatDoorKq6
import Derived.Test.YtkfllfhcjegfoaaGreatDoorKq30
import Derived.Test.YtkfllfhcjegfoaaGreatDoorKq21
set_option linter.unusedVariables false
set_option linter.unusedSimpArgs false
set_option maxRecDepth 100000
namespace Go.Proofs.YtkfllfhcjegfoaaGreatDoor.AM
open Go Go.RowKit
theorem aCJ {P : Program} {t : TypeId} {x y : Operand} {a b r : Bool} (h : P.underlying t = some .bool) (hr : (a == b) = r) : zk P .eql t x y (.bool a) (.bool b) (.bool r) := hr ▸ aRX h
theorem aNJ {hd vr fa : Int} {n : Nat} (h : hd ≠ 0) : huB hd vr fa n = false := decide_eq_false (by omega)
theorem aM5 {hd vr fa : Int} {n : Nat} (h : vr ≠ 0) : huB hd vr fa n = false := decide_eq_false (by omega)
theorem aMR {hd vr fa : Int} {n : Nat} (h : fa ≠ 0) : huB hd vr fa n = false := decide_eq_false (by omega)
theorem aOz {hd vr fa : Int} {n : Nat} (h : n ≠ 0) : huB hd vr fa n = false := decide_eq_false (by omega)
theorem aPD {hd vr fa : Int} {n : Nat} (h : hd = 0) (h2 : vr = 0) (h3 : fa = 0) (h4 : n = 0) : huB hd vr fa n = true := decide_eq_true ⟨h, h2, h3, h4⟩
attribute [local irreducible] xM xN xW yF yL Pre ACG
section
variable {B : Bas} {ws : List Wsh} {mp : List Ent} {dn ph fr hd vr tr fa : Int}
set_option maxHeartbeats 4000000 in
theorem aHs (hp : ph = 0) (hm : mp.length ≤ maxLen) : AC Tryz.prog 63 [uh B, clA (ws.map wshA) dn ph fr hd vr tr fa (mp.map xP)] ⟨.v (.bool (huB hd vr fa mp.length && (decide (fr = 0) && decide (tr = 0)))), []⟩ := by
 unfold maxLen at hm
 refine qO Tryz.func63 Tryz.ntmps63 Tryz.results63 ?_
 refine vZ ?_
 refine xI _ _ _ ?_
 conv => whnf
 refine jc (ι := Unit) (fun _ => ⟨[(2, .optr 3 0 [] 0), (3, .optr 4 0 [] 0), (5, .v (.bool (huB hd vr fa mp.length)))], [(3, ⟨.s 36, 2, [uh B]⟩), (4, ⟨.s 53, 9, [clA (ws.map wshA) dn ph fr hd vr tr fa (mp.map xP)]⟩)], []⟩) ?_ (fun _ => ?_)
 · by_cases a1 : hd = 0
   · by_cases a2 : vr = 0
     · by_cases a3 : fa = 0
       · by_cases a4 : mp.length = 0
         · rw [aPD a1 a2 a3 a4]
           refine xI _ _ _ ?_
           conv => whnf
           repeat ((refine qz ?_; conv => whnf))
           exact ⟨(), ⟨by exact qle, trivial⟩⟩
         · rw [aOz a4]
           refine xI _ _ _ ?_
           conv => whnf
           repeat ((refine qz ?_; conv => whnf))
           exact ⟨(), ⟨by exact qle, trivial⟩⟩
       · rw [aMR a3]
         refine xI _ _ _ ?_
         conv => whnf
         repeat ((refine qz ?_; conv => whnf))
         exact ⟨(), ⟨by exact qle, trivial⟩⟩
     · rw [aM5 a2]
       refine xI _ _ _ ?_
       conv => whnf
       repeat ((refine qz ?_; conv => whnf))
       exact ⟨(), ⟨by exact qle, trivial⟩⟩
   · rw [aNJ a1]
     refine xI _ _ _ ?_
     conv => whnf
     repeat ((refine qz ?_; conv => whnf))
     exact ⟨(), ⟨by exact qle, trivial⟩⟩
 refine xI _ _ _ ?_
 generalize huB hd vr fa mp.length = nb
 cases nb with
 | false =>
  rw [Bool.false_and]
  conv => whnf
  repeat ((refine qz ?_; conv => whnf))
  exact xA rfl trivial
 | true =>
  rw [Bool.true_and]
  by_cases h1 : fr = 0
  · rw [decide_eq_true h1, Bool.true_and]
    by_cases h2 : tr = 0
    · rw [decide_eq_true h2]
      conv => whnf
      repeat ((refine qz ?_; conv => whnf))
      exact xA rfl trivial
    · rw [decide_eq_false h2]
      conv => whnf
      repeat ((refine qz ?_; conv => whnf))
      exact xA rfl trivial
  · rw [decide_eq_false h1, Bool.false_and]
    conv => whnf
    repeat ((refine qz ?_; conv => whnf))
    exact xA rfl trivial
def phN (nb : Bool) (kind tr fr hd vr ph : Int) (len : Nat) (pl : Bool) : Bool :=
 if kind > 4 ∨ kind = 2 ∨ ¬ (1 ≤ fr ∧ fr ≤ (len : Int)) ∨ ¬ (0 ≤ tr ∧ tr ≤ 3) then false
 else if ph = 1 then nb && ((decide (tr > 0) || decide (kind ≠ 3)) && (decide (tr = 0) || decide (kind ≠ 1)))
 else if ph ≠ 2 ∨ kind = 1 ∨ ¬ (1 ≤ hd ∧ hd ≤ (len : Int)) ∨ ¬ (1 ≤ vr ∧ vr ≤ 1000000) then false
 else pl
theorem aHZ {nb : Bool} {kind tr fr hd vr ph : Int} {len : Nat} {pl : Bool} (h : kind > 4 ∨ kind = 2 ∨ ¬ (1 ≤ fr ∧ fr ≤ (len : Int)) ∨ ¬ (0 ≤ tr ∧ tr ≤ 3)) : phN nb kind tr fr hd vr ph len pl = false := by unfold phN; rw [if_pos h]
theorem aRZ {nb : Bool} {kind tr fr hd vr ph : Int} {len : Nat} {pl : Bool} (h : ¬ (kind > 4 ∨ kind = 2 ∨ ¬ (1 ≤ fr ∧ fr ≤ (len : Int)) ∨ ¬ (0 ≤ tr ∧ tr ≤ 3))) (h1 : ph = 1) : phN nb kind tr fr hd vr ph len pl = (nb && ((decide (tr > 0) || decide (kind ≠ 3)) && (decide (tr = 0) || decide (kind ≠ 1)))) := by unfold phN; rw [if_neg h, if_pos h1]
theorem aHV {nb : Bool} {kind tr fr hd vr ph : Int} {len : Nat} {pl : Bool} (h : ¬ (kind > 4 ∨ kind = 2 ∨ ¬ (1 ≤ fr ∧ fr ≤ (len : Int)) ∨ ¬ (0 ≤ tr ∧ tr ≤ 3))) (h1 : ph ≠ 1) (h2 : ph ≠ 2 ∨ kind = 1 ∨ ¬ (1 ≤ hd ∧ hd ≤ (len : Int)) ∨ ¬ (1 ≤ vr ∧ vr ≤ 1000000)) : phN nb kind tr fr hd vr ph len pl = false := by unfold phN; rw [if_neg h, if_neg h1, if_pos h2]
theorem aRS {nb : Bool} {kind tr fr hd vr ph : Int} {len : Nat} {pl : Bool} (h : ¬ (kind > 4 ∨ kind = 2 ∨ ¬ (1 ≤ fr ∧ fr ≤ (len : Int)) ∨ ¬ (0 ≤ tr ∧ tr ≤ 3))) (h1 : ph ≠ 1) (h2 : ¬ (ph ≠ 2 ∨ kind = 1 ∨ ¬ (1 ≤ hd ∧ hd ≤ (len : Int)) ∨ ¬ (1 ≤ vr ∧ vr ≤ 1000000))) : phN nb kind tr fr hd vr ph len pl = pl := by unfold phN; rw [if_neg h, if_neg h1, if_neg h2]
theorem aQo {w : Wsh} (hwb : yC w = true) : w.edits.length ≤ 6 := by
 have hO : ∀ f, opB ⟨w.kind, f, w.name, w.key, w.edits⟩ = true → w.edits.length ≤ 6 := fun f h => by
  unfold opB at h
  simp only [Bool.and_eq_true] at h
  obtain ⟨_, h⟩ := h
  split at h
  · simp only [Bool.and_eq_true, decide_eq_true_eq] at h; omega
  · split at h
    · simp only [Bool.and_eq_true] at h; exact AM.editsOK_le h.2.2
    · split at h
      · simp only [Bool.and_eq_true, decide_eq_true_eq] at h; omega
      · split at h
        · simp only [Bool.and_eq_true, decide_eq_true_eq] at h; omega
        · cases h
 unfold yC at hwb
 split at hwb <;> simp only [Bool.and_eq_true] at hwb
 · exact hO _ hwb.2
 · exact hO _ hwb.2
set_option maxHeartbeats 16000000 in
theorem aHb {d : Nat} (hb : yx B.store = true) (hd0 : d < ws.length) (hwb : yC ws[d] = true) (hp : ph ≠ 0) (hm : mp.length ≤ maxLen) : ∃ b, AC Tryz.prog 63 [uh B, clA (ws.map wshA) (d : Int) ph fr hd vr tr fa (mp.map xP)] ⟨.v (.bool b), []⟩ := by
 have hm0 := hm
 unfold maxLen at hm
 obtain ⟨_, hl6⟩ := vX hb
 obtain ⟨w, hwe⟩ : ∃ w, w = ws[d] := ⟨_, rfl⟩
 rw [← hwe] at hwb
 have hw' : (ws.map wshA)[d]? = some (.agg [.v (.int .i64 w.kind), .v (.string w.name), .v (.string w.source), .v (.string w.key), .lst 3 (w.edits.map xg)]) := by rw [List.getElem?_map, List.getElem?_eq_getElem hd0, hwe]; rfl
 have he := aQo hwb
 clear hwb hwe hd0
 have hpl : ∃ (fast : Bool) (m : List Ent) (c : Int) (ks : AV), m.length ≤ maxLen ∧ (ks = aAm ∨ ∃ l, ks = .lst 1 l) ∧ ((1 ≤ fr ∧ fr ≤ (B.store.length : Int)) → (1 ≤ hd ∧ hd ≤ (B.store.length : Int)) → AC Tryz.prog 96 [.lst 2 (B.store.map yI), wshA w, .v (.int .i64 fr), .v (.int .i64 hd)] ⟨.tup [.v (.bool fast), .lst 2 (m.map xP), qY c ks], []⟩) := by
  by_cases h1 : 1 ≤ fr ∧ fr ≤ (B.store.length : Int)
  · by_cases h2 : 1 ≤ hd ∧ hd ≤ (B.store.length : Int)
    · obtain ⟨f, rfl⟩ : ∃ f : Nat, fr = (f : Int) + 1 := ⟨(fr - 1).toNat, by omega⟩
      obtain ⟨h, rfl⟩ : ∃ h : Nat, hd = (h : Int) + 1 := ⟨(hd - 1).toNat, by omega⟩
      obtain ⟨fast, m, c, ks, q1, q2, q3⟩ := aJM (st := B.store) (f := f) (h := h) (w := w) hb (by omega) (by omega) he
      exact ⟨fast, m, c, ks, q1, q2, fun _ _ => q3⟩
    · exact ⟨false, [], 0, aAm, by simp, .inl rfl, fun _ q => absurd q h2⟩
  · exact ⟨false, [], 0, aAm, by simp, .inl rfl, fun q => absurd q h1⟩
 obtain ⟨fast, m, c, ks, hml, hks, hP⟩ := hpl
 refine ⟨phN (huB hd vr fa mp.length) w.kind tr fr hd vr ph B.store.length (decide (c = 0) && ((decide (fa = 1) == fast) && (decide (0 ≤ fa ∧ fa ≤ 1) && decide (m = mp)))), ?_⟩
 refine qO Tryz.func63 Tryz.ntmps63 Tryz.results63 ?_
 refine vZ ?_
 refine xI _ _ _ ?_
 conv => whnf
 refine jc (ι := Unit) (fun _ => ⟨[(2, .optr 3 0 [] 0), (3, .optr 4 0 [] 0), (5, .v (.bool (huB hd vr fa mp.length)))], [(3, ⟨.s 36, 2, [uh B]⟩), (4, ⟨.s 53, 9, [clA (ws.map wshA) (d : Int) ph fr hd vr tr fa (mp.map xP)]⟩)], []⟩) ?_ (fun _ => ?_)
 · by_cases a1 : hd = 0
   · by_cases a2 : vr = 0
     · by_cases a3 : fa = 0
       · by_cases a4 : mp.length = 0
         · rw [aPD a1 a2 a3 a4]
           refine xI _ _ _ ?_
           conv => whnf
           repeat ((refine qz ?_; conv => whnf))
           exact ⟨(), ⟨by exact qle, trivial⟩⟩
         · rw [aOz a4]
           refine xI _ _ _ ?_
           conv => whnf
           repeat ((refine qz ?_; conv => whnf))
           exact ⟨(), ⟨by exact qle, trivial⟩⟩
       · rw [aMR a3]
         refine xI _ _ _ ?_
         conv => whnf
         repeat ((refine qz ?_; conv => whnf))
         exact ⟨(), ⟨by exact qle, trivial⟩⟩
     · rw [aM5 a2]
       refine xI _ _ _ ?_
       conv => whnf
       repeat ((refine qz ?_; conv => whnf))
       exact ⟨(), ⟨by exact qle, trivial⟩⟩
   · rw [aNJ a1]
     refine xI _ _ _ ?_
     conv => whnf
     repeat ((refine qz ?_; conv => whnf))
     exact ⟨(), ⟨by exact qle, trivial⟩⟩
 generalize huB hd vr fa mp.length = nb
 refine jc (ι := Unit) (fun _ => ⟨[(2, .optr 3 0 [] 0), (3, .optr 4 0 [] 0), (5, .v (.bool nb))], [(3, ⟨.s 36, 2, [uh B]⟩), (4, ⟨.s 53, 9, [clA (ws.map wshA) (d : Int) ph fr hd vr tr fa (mp.map xP)]⟩)], []⟩) ?_ (fun _ => ?_)
 · refine xI _ _ _ ?_
   conv => whnf
   repeat ((first | refine qz ?_ | refine qst ?_ | refine qp (xk hw' rfl rfl rfl) ?_); conv => whnf)
   exact ⟨(), ⟨by exact qle, trivial⟩⟩
 refine jc (ι := Unit) (fun _ => ⟨[(2, .optr 3 0 [] 0), (3, .optr 4 0 [] 0), (5, .v (.bool nb)), (6, .optr 7 0 [] 0)], [(3, ⟨.s 36, 2, [uh B]⟩), (4, ⟨.s 53, 9, [clA (ws.map wshA) (d : Int) ph fr hd vr tr fa (mp.map xP)]⟩), (7, ⟨.s 162, 5, [.agg [.v (.int .i64 w.kind), .v (.string w.name), .v (.string w.source), .v (.string w.key), .lst 3 (w.edits.map xg)]]⟩)], []⟩) ?_ (fun _ => ?_)
 · refine xI _ _ _ ?_
   conv => whnf
   repeat ((first | refine qz ?_ | refine qst ?_ | refine qp (xk hw' rfl rfl rfl) ?_); conv => whnf)
   exact ⟨(), ⟨by exact qle, trivial⟩⟩
 by_cases p1 : w.kind > 4
 case pos =>
  rw [aHZ (.inl p1)]
  as_aux_lemma =>
   refine xI _ _ _ ?_
   conv => whnf
   repeat ((first | refine qz ?_ | refine qst ?_ | refine qp (xk hw' rfl rfl rfl) ?_); conv => whnf)
   exact xA rfl trivial
 by_cases p2 : w.kind = 2
 case pos =>
  rw [aHZ (.inr (.inl p2))]
  as_aux_lemma =>
   refine xI _ _ _ ?_
   conv => whnf
   repeat ((first | refine qz ?_ | refine qst ?_ | refine qp (xk hw' rfl rfl rfl) ?_); conv => whnf)
   exact xA rfl trivial
 by_cases n3 : 1 ≤ fr ∧ fr ≤ (B.store.length : Int)
 case neg =>
  rw [aHZ (.inr (.inr (.inl n3)))]
  as_aux_lemma =>
   refine xI _ _ _ ?_
   conv => whnf
   repeat ((first | refine qz ?_ | refine qst ?_ | refine qp (xk hw' rfl rfl rfl) ?_ | refine qc (y9 n3) ?_); conv => whnf)
   exact xA rfl trivial
 by_cases n4 : 0 ≤ tr ∧ tr ≤ 3
 case neg =>
  rw [aHZ (.inr (.inr (.inr n4)))]
  as_aux_lemma =>
   refine xI _ _ _ ?_
   conv => whnf
   repeat ((first | refine qz ?_ | refine qst ?_ | refine qp (xk hw' rfl rfl rfl) ?_ | refine qc (xC n3.1 n3.2) ?_ | refine qc (y9 n4) ?_); conv => whnf)
   exact xA rfl trivial
 have hk : ¬ (w.kind > 4 ∨ w.kind = 2 ∨ ¬ (1 ≤ fr ∧ fr ≤ (B.store.length : Int)) ∨ ¬ (0 ≤ tr ∧ tr ≤ 3)) := by omega
 refine jc (ι := Unit) (fun _ => ⟨[(2, .optr 3 0 [] 0), (3, .optr 4 0 [] 0), (5, .v (.bool nb)), (6, .optr 7 0 [] 0)], [(3, ⟨.s 36, 2, [uh B]⟩), (4, ⟨.s 53, 9, [clA (ws.map wshA) (d : Int) ph fr hd vr tr fa (mp.map xP)]⟩), (7, ⟨.s 162, 5, [.agg [.v (.int .i64 w.kind), .v (.string w.name), .v (.string w.source), .v (.string w.key), .lst 3 (w.edits.map xg)]]⟩)], []⟩) ?_ (fun _ => ?_)
 · refine xI _ _ _ ?_
   conv => whnf
   repeat ((first | refine qz ?_ | refine qst ?_ | refine qp (xk hw' rfl rfl rfl) ?_ | refine qc (xC n3.1 n3.2) ?_ | refine qc (xC n4.1 n4.2) ?_); conv => whnf)
   exact ⟨(), ⟨by exact qle, trivial⟩⟩
 by_cases h1 : ph = 1
 · rw [aRZ hk h1]
   cases nb with
   | false =>
    rw [Bool.false_and]
    as_aux_lemma =>
     refine xI _ _ _ ?_
     conv => whnf
     repeat ((first | refine qz ?_ | refine qst ?_ | refine qp (xk hw' rfl rfl rfl) ?_); conv => whnf)
     exact xA rfl trivial
   | true =>
    rw [Bool.true_and]
    by_cases t0 : tr > 0
    · rw [decide_eq_true t0, Bool.true_or, Bool.true_and, decide_eq_false (by omega), Bool.false_or]
      by_cases k1 : w.kind = 1
      · rw [decide_eq_false (by omega)]
        as_aux_lemma =>
         refine xI _ _ _ ?_
         conv => whnf
         repeat ((first | refine qz ?_ | refine qst ?_ | refine qp (xk hw' rfl rfl rfl) ?_); conv => whnf)
         exact xA rfl trivial
      · rw [decide_eq_true k1]
        as_aux_lemma =>
         refine xI _ _ _ ?_
         conv => whnf
         repeat ((first | refine qz ?_ | refine qst ?_ | refine qp (xk hw' rfl rfl rfl) ?_); conv => whnf)
         exact xA rfl trivial
    · rw [decide_eq_false t0, Bool.false_or, decide_eq_true (show tr = 0 by omega), Bool.true_or, Bool.and_true]
      by_cases k3 : w.kind = 3
      · rw [decide_eq_false (by omega)]
        as_aux_lemma =>
         refine xI _ _ _ ?_
         conv => whnf
         repeat ((first | refine qz ?_ | refine qst ?_ | refine qp (xk hw' rfl rfl rfl) ?_); conv => whnf)
         exact xA rfl trivial
      · rw [decide_eq_true k3]
        as_aux_lemma =>
         refine xI _ _ _ ?_
         conv => whnf
         repeat ((first | refine qz ?_ | refine qst ?_ | refine qp (xk hw' rfl rfl rfl) ?_); conv => whnf)
         exact xA rfl trivial
 refine jc (ι := Unit) (fun _ => ⟨[(2, .optr 3 0 [] 0), (3, .optr 4 0 [] 0), (5, .v (.bool nb)), (6, .optr 7 0 [] 0)], [(3, ⟨.s 36, 2, [uh B]⟩), (4, ⟨.s 53, 9, [clA (ws.map wshA) (d : Int) ph fr hd vr tr fa (mp.map xP)]⟩), (7, ⟨.s 162, 5, [.agg [.v (.int .i64 w.kind), .v (.string w.name), .v (.string w.source), .v (.string w.key), .lst 3 (w.edits.map xg)]]⟩)], []⟩) ?_ (fun _ => ?_)
 · refine xI _ _ _ ?_
   conv => whnf
   repeat ((first | refine qz ?_ | refine qst ?_ | refine qp (xk hw' rfl rfl rfl) ?_); conv => whnf)
   exact ⟨(), ⟨by exact qle, trivial⟩⟩
 by_cases n5 : ph = 2
 case neg =>
  rw [aHV hk h1 (.inl n5)]
  as_aux_lemma =>
   refine xI _ _ _ ?_
   conv => whnf
   repeat ((first | refine qz ?_ | refine qst ?_ | refine qp (xk hw' rfl rfl rfl) ?_); conv => whnf)
   exact xA rfl trivial
 by_cases p6 : w.kind = 1
 case pos =>
  rw [aHV hk h1 (.inr (.inl p6))]
  as_aux_lemma =>
   refine xI _ _ _ ?_
   conv => whnf
   repeat ((first | refine qz ?_ | refine qst ?_ | refine qp (xk hw' rfl rfl rfl) ?_); conv => whnf)
   exact xA rfl trivial
 by_cases n7 : 1 ≤ hd ∧ hd ≤ (B.store.length : Int)
 case neg =>
  rw [aHV hk h1 (.inr (.inr (.inl n7)))]
  as_aux_lemma =>
   refine xI _ _ _ ?_
   conv => whnf
   repeat ((first | refine qz ?_ | refine qst ?_ | refine qp (xk hw' rfl rfl rfl) ?_ | refine qc (y9 n7) ?_); conv => whnf)
   exact xA rfl trivial
 by_cases n8 : 1 ≤ vr ∧ vr ≤ 1000000
 case neg =>
  rw [aHV hk h1 (.inr (.inr (.inr n8)))]
  as_aux_lemma =>
   refine xI _ _ _ ?_
   conv => whnf
   repeat ((first | refine qz ?_ | refine qst ?_ | refine qp (xk hw' rfl rfl rfl) ?_ | refine qc (xC n7.1 n7.2) ?_ | refine qc (y9 n8) ?_); conv => whnf)
   exact xA rfl trivial
 refine jc (ι := Unit) (fun _ => ⟨[(2, .optr 3 0 [] 0), (3, .optr 4 0 [] 0), (5, .v (.bool nb)), (6, .optr 7 0 [] 0)], [(3, ⟨.s 36, 2, [uh B]⟩), (4, ⟨.s 53, 9, [clA (ws.map wshA) (d : Int) ph fr hd vr tr fa (mp.map xP)]⟩), (7, ⟨.s 162, 5, [.agg [.v (.int .i64 w.kind), .v (.string w.name), .v (.string w.source), .v (.string w.key), .lst 3 (w.edits.map xg)]]⟩)], []⟩) ?_ (fun _ => ?_)
 · refine xI _ _ _ ?_
   conv => whnf
   repeat ((first | refine qz ?_ | refine qst ?_ | refine qp (xk hw' rfl rfl rfl) ?_ | refine qc (xC n7.1 n7.2) ?_ | refine qc (xC n8.1 n8.2) ?_); conv => whnf)
   exact ⟨(), ⟨by exact qle, trivial⟩⟩
 rw [aRS hk h1 (by omega)]
 replace hP := hP n3 n7
 have hF := aLh (c := ⟨ws, (d : Int), ph, fr, hd, vr, tr, fa, mp⟩)
 have hS := aEb (es := m) (es' := mp) hml hm0
 rcases hks with rfl | ⟨l, rfl⟩
 · refine jc (ι := Unit) (fun _ => ⟨[(3, .optr 4 0 [] 0), (7, .v (.bool fast)), (8, .lst 2 (m.map xP)), (9, .optr 10 0 [] 0)], [(4, ⟨.s 53, 9, [clA (ws.map wshA) (d : Int) ph fr hd vr tr fa (mp.map xP)]⟩), (10, ⟨.s 96, 5, [qY c aAm]⟩)], []⟩) ?_ (fun _ => ?_)
   · refine xI _ _ _ ?_
     conv => whnf
     repeat ((first | refine qz ?_ | refine qst ?_ | refine qp (xk hw' rfl rfl rfl) ?_ | refine qc (hP) ?_); conv => whnf)
     exact ⟨(), ⟨by exact qle, trivial⟩⟩
   by_cases c0 : c = 0
   case neg =>
    rw [decide_eq_false c0, Bool.false_and]
    as_aux_lemma =>
     refine xI _ _ _ ?_
     conv => whnf
     repeat ((first | refine qz ?_ | refine qst ?_ | refine qp (xk hw' rfl rfl rfl) ?_); conv => whnf)
     exact xA rfl trivial
   rw [decide_eq_true c0, Bool.true_and]
   cases hq : (decide (fa = 1) == fast) with
   | false =>
    rw [Bool.false_and]
    as_aux_lemma =>
     refine xI _ _ _ ?_
     conv => whnf
     repeat ((first | refine qz ?_ | refine qst ?_ | refine qp (xk hw' rfl rfl rfl) ?_ | refine qc (hF) ?_ | refine qp (xB (aCJ (r := false) Tryz.underlying4 hq) rfl rfl rfl) ?_); conv => whnf)
     exact xA rfl trivial
   | true =>
    rw [Bool.true_and]
    by_cases f1 : 0 ≤ fa ∧ fa ≤ 1
    case neg =>
     rw [decide_eq_false f1, Bool.false_and]
     as_aux_lemma =>
      refine xI _ _ _ ?_
      conv => whnf
      repeat ((first | refine qz ?_ | refine qst ?_ | refine qp (xk hw' rfl rfl rfl) ?_ | refine qc (hF) ?_ | refine qp (xB (aCJ (r := true) Tryz.underlying4 hq) rfl rfl rfl) ?_ | refine qc (y9 f1) ?_); conv => whnf)
      exact xA rfl trivial
    rw [decide_eq_true f1, Bool.true_and]
    cases hz : decide (m = mp) <;> rw [hz] at hS
    all_goals
     as_aux_lemma =>
      refine xI _ _ _ ?_
      conv => whnf
      repeat ((first | refine qz ?_ | refine qst ?_ | refine qp (xk hw' rfl rfl rfl) ?_ | refine qc (hF) ?_ | refine qp (xB (aCJ (r := true) Tryz.underlying4 hq) rfl rfl rfl) ?_ | refine qc (xC f1.1 f1.2) ?_ | refine qc (hS) ?_); conv => whnf)
      exact xA rfl trivial
 · refine jc (ι := Unit) (fun _ => ⟨[(3, .optr 4 0 [] 0), (7, .v (.bool fast)), (8, .lst 2 (m.map xP)), (9, .optr 10 0 [] 0)], [(4, ⟨.s 53, 9, [clA (ws.map wshA) (d : Int) ph fr hd vr tr fa (mp.map xP)]⟩), (10, ⟨.s 96, 5, [qY c (.lst 1 l)]⟩)], []⟩) ?_ (fun _ => ?_)
   · refine xI _ _ _ ?_
     conv => whnf
     repeat ((first | refine qz ?_ | refine qst ?_ | refine qp (xk hw' rfl rfl rfl) ?_ | refine qc (hP) ?_); conv => whnf)
     exact ⟨(), ⟨by exact qle, trivial⟩⟩
   by_cases c0 : c = 0
   case neg =>
    rw [decide_eq_false c0, Bool.false_and]
    as_aux_lemma =>
     refine xI _ _ _ ?_
     conv => whnf
     repeat ((first | refine qz ?_ | refine qst ?_ | refine qp (xk hw' rfl rfl rfl) ?_); conv => whnf)
     exact xA rfl trivial
   rw [decide_eq_true c0, Bool.true_and]
   cases hq : (decide (fa = 1) == fast) with
   | false =>
    rw [Bool.false_and]
    as_aux_lemma =>
     refine xI _ _ _ ?_
     conv => whnf
     repeat ((first | refine qz ?_ | refine qst ?_ | refine qp (xk hw' rfl rfl rfl) ?_ | refine qc (hF) ?_ | refine qp (xB (aCJ (r := false) Tryz.underlying4 hq) rfl rfl rfl) ?_); conv => whnf)
     exact xA rfl trivial
   | true =>
    rw [Bool.true_and]
    by_cases f1 : 0 ≤ fa ∧ fa ≤ 1
    case neg =>
     rw [decide_eq_false f1, Bool.false_and]
     as_aux_lemma =>
      refine xI _ _ _ ?_
      conv => whnf
      repeat ((first | refine qz ?_ | refine qst ?_ | refine qp (xk hw' rfl rfl rfl) ?_ | refine qc (hF) ?_ | refine qp (xB (aCJ (r := true) Tryz.underlying4 hq) rfl rfl rfl) ?_ | refine qc (y9 f1) ?_); conv => whnf)
      exact xA rfl trivial
    rw [decide_eq_true f1, Bool.true_and]
    cases hz : decide (m = mp) <;> rw [hz] at hS
    all_goals
     as_aux_lemma =>
      refine xI _ _ _ ?_
      conv => whnf
      repeat ((first | refine qz ?_ | refine qst ?_ | refine qp (xk hw' rfl rfl rfl) ?_ | refine qc (hF) ?_ | refine qp (xB (aCJ (r := true) Tryz.underlying4 hq) rfl rfl rfl) ?_ | refine qc (xC f1.1 f1.2) ?_ | refine qc (hS) ?_); conv => whnf)
      exact xA rfl trivial
end
end Go.Proofs.YtkfllfhcjegfoaaGreatDoor.AM
