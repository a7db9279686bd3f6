/- Texts of the machine over data, folded. -/
import Derived.Test.YtkfllfhcjegfoaaGreatDoorKq6
import Derived.Test.YtkfllfhcjegfoaaGreatDoorKq21
set_option linter.unusedVariables false
set_option linter.unusedSimpArgs false
set_option maxRecDepth 100000
namespace Go.Proofs.YtkfllfhcjegfoaaGreatDoor.AM
open Go Go.RowKit
section
variable {s : St} {Θ : Tab}
theorem aKO {a t l : Nat} {ob : OB} {t' : Option Nat} {xs : List AV} {y : AV} (h1 : s.sl a = .optr l 0 [] 0) (ho : s.hp l = some ob) (hoe : zM ob.e ob.xs 0 = some (.o t' 0 (.mix xs))) (hd : xR s (.mix xs) = true) (hy : s.dat (.mix xs) = y) (hw : ((yt (.mix xs)).all fun l => okL l && !([] : List Nat).contains l) = true) (hof : ofO (.mix xs) = some (.mix xs) := by rfl) (hk : ((Θ.look t).known && (Θ.look t).isAgg && Nat.beq (xL xs) (Θ.look t).size) = true := by rfl) (hop : ob.e.open_ = false := by rfl) :
 vU Θ [.cell a t] ⟨y, []⟩ .ret s := by
 obtain ⟨c1, c2⟩ := aPJ (Θ := Θ) (t := t) h1 ho hop hoe hof hk
 exact ⟨trivial, [], by simp, trivial, ⟨c2, trivial⟩, trivial, ⟨by rw [c1]; exact .inr ⟨hd, hw, hy.symm⟩, trivial⟩⟩
end
section
variable {P : Program} {Θ : Tab} {s : St} {ty : TypeId} {pos : String} {after : Array Edge} {g : Option (Nat × Bool)}
end
attribute [local irreducible] xM xN xW yF yL Pre ACG
theorem aL9 {l : List Rf} {x : ByteArray} (hm : l.length ≤ maxLen) : AC Tryz.prog 36 [.lst 4 (l.map zH), .v (.string x)] ⟨watA (aQU l x), []⟩ := by
 have h2 := aIQ (x := x) hm
 unfold aQU
 by_cases hp : rAt l x 0 < 0
 · rw [aIp hp]
   refine qrf Tryz.func36 Tryz.ntmps36 Tryz.results36 ?_; conv => whnf
   refine qr (aCf rfl ⟨⟨_, _, rfl, rfl, rfl⟩, ⟨_, _, rfl, rfl, rfl⟩, trivial⟩ rfl) ?_
   conv => whnf
   repeat ((first | refine qz ?_ | refine qdr ?_ | refine qc (h2) ?_ | refine qst ?_ | refine qr (aA9 rfl rfl rfl rfl rfl rfl) ?_); conv => whnf)
   exact aKO rfl rfl rfl rfl rfl rfl
 · obtain ⟨j, hj, e, e2⟩ := aMy (by omega : 0 ≤ rAt l x 0)
   rw [aHx hj e]
   rw [e] at h2
   refine qrf Tryz.func36 Tryz.ntmps36 Tryz.results36 ?_; conv => whnf
   refine qr (aCf rfl ⟨⟨_, _, rfl, rfl, rfl⟩, ⟨_, _, rfl, rfl, rfl⟩, trivial⟩ rfl) ?_
   conv => whnf
   repeat ((first | refine qz ?_ | refine qdr ?_ | refine qc (h2) ?_ | refine qst ?_ | refine qr (aA9 rfl rfl rfl rfl rfl rfl) ?_); conv => whnf)
   exact aKO rfl rfl rfl rfl rfl rfl
end Go.Proofs.YtkfllfhcjegfoaaGreatDoor.AM
