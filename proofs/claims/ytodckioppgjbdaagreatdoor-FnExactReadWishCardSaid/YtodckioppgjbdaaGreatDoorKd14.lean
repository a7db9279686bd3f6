/- Texts of the machine over data, folded. -/
import Derived.Test.YtodckioppgjbdaaGreatDoorKd5
import Derived.Test.YtodckioppgjbdaaGreatDoorKd8
import Derived.Test.YtodckioppgjbdaaGreatDoorKd13
set_option linter.unusedVariables false
set_option linter.unusedSimpArgs false
set_option maxRecDepth 100000
namespace Go.Proofs.YtodckioppgjbdaaGreatDoor.AM
open Go Go.RowKit
def aI9 (k : Int) : Bool := decide (k = 1 ∨ k = 4)
def xN (w : Wsh) : Bool := if w.kind = 1 ∨ w.kind = 4 then okN w.source && opB ⟨w.kind, 1, w.name, w.key, w.edits⟩ else decide (w.source = eB) && opB ⟨w.kind, 0, w.name, w.key, w.edits⟩
attribute [local irreducible] xD xJ xQ yD yJ Pre ACG
theorem aDI {o : Wsh} (hm : o.edits.length ≤ maxLen) : AC Tryz.prog 11 [uP o, uP o] ⟨.v (.bool true), []⟩ := by
 refine qrf Tryz.func11 Tryz.ntmps11 Tryz.results11 ?_; conv => whnf
 repeat ((first | refine qp (xA (zK rfl) rfl rfl rfl) ?_ | refine qp (xA (qi rfl) rfl rfl rfl) ?_ | refine qz ?_ | refine qc (aGL hm) ?_); conv => whnf)
 exact yE rfl trivial
theorem aJP {k : Int} : AC Tryz.prog 95 [.v (.int .i64 k)] ⟨.v (.bool (aI9 k)), []⟩ := by
 unfold aI9
 by_cases h1 : k = 1
 · rw [decide_eq_true (by omega : k = 1 ∨ k = 4)]
   refine qO Tryz.func95 Tryz.ntmps95 Tryz.results95 ?_
   repeat (first | refine qy ?_)
   exact qe
 by_cases h4 : k = 4
 · rw [decide_eq_true (by omega : k = 1 ∨ k = 4)]
   refine qO Tryz.func95 Tryz.ntmps95 Tryz.results95 ?_
   repeat (first | refine qy ?_)
   exact qe
 rw [decide_eq_false (by omega : ¬ (k = 1 ∨ k = 4))]
 refine qO Tryz.func95 Tryz.ntmps95 Tryz.results95 ?_
 repeat (first | refine qy ?_)
 exact qe
theorem aF4 {o : Wsh} {f : Int} : AC Tryz.prog 97 [uP o, .v (.int .i64 f)] ⟨aIi ⟨o.kind, f, o.name, o.key, o.edits⟩, []⟩ := by
 refine qrf Tryz.func97 Tryz.ntmps97 Tryz.results97 ?_; conv => whnf
 repeat ((first | refine qz ?_ | refine qst ?_); conv => whnf)
 exact aJs (x := aIi ⟨o.kind, f, o.name, o.key, o.edits⟩) rfl rfl rfl rfl trivial
theorem wu {o : Wsh} (ho : o.ok maxLen) : AC Tryz.prog 42 [uP o] ⟨.v (.bool (xN o)), []⟩ := by
 obtain ⟨q1, q2, q3, q4, q5⟩ := ho
 have hs := aJP (k := o.kind)
 have o0 := aF4 (o := o) (f := 0)
 have o1 := aF4 (o := o) (f := 1)
 have b0 := aDw (o := ⟨o.kind, 0, o.name, o.key, o.edits⟩) ⟨q1, q3, q4, q5⟩
 have b1 := aDw (o := ⟨o.kind, 1, o.name, o.key, o.edits⟩) ⟨q1, q3, q4, q5⟩
 unfold aI9 at hs
 unfold xN
 by_cases hk : o.kind = 1 ∨ o.kind = 4
 · rw [if_pos hk]
   rw [decide_eq_true hk] at hs
   cases hn : okN o.source with
   | false =>
    rw [Bool.false_and]
    refine qrf Tryz.func42 Tryz.ntmps42 Tryz.results42 ?_; conv => whnf
    repeat ((first | refine qz ?_ | refine qst ?_ | refine qc (hs) ?_ | refine qc (xM q2 hn) ?_); conv => whnf)
    exact yE rfl trivial
   | true =>
    rw [Bool.true_and]
    refine qrf Tryz.func42 Tryz.ntmps42 Tryz.results42 ?_; conv => whnf
    repeat ((first | refine qz ?_ | refine qst ?_ | refine qc (hs) ?_ | refine qc (xM q2 hn) ?_ | refine qc (o1) ?_ | refine qc (b1) ?_); conv => whnf)
    exact yE rfl trivial
 · rw [if_neg hk]
   rw [decide_eq_false hk] at hs
   by_cases hs0 : o.source = eB
   · rw [decide_eq_true hs0, Bool.true_and]
     refine qrf Tryz.func42 Tryz.ntmps42 Tryz.results42 ?_; conv => whnf
     repeat ((first | refine qp (xA (yh hs0) rfl rfl rfl) ?_ | refine qz ?_ | refine qst ?_ | refine qc (hs) ?_ | refine qc (o0) ?_ | refine qc (b0) ?_); conv => whnf)
     exact yE rfl trivial
   · rw [decide_eq_false hs0, Bool.false_and]
     refine qrf Tryz.func42 Tryz.ntmps42 Tryz.results42 ?_; conv => whnf
     repeat ((first | refine qp (xA (yg hs0) rfl rfl rfl) ?_ | refine qz ?_ | refine qst ?_ | refine qc (hs) ?_); conv => whnf)
     exact yE rfl trivial
end Go.Proofs.YtodckioppgjbdaaGreatDoor.AM
