/- The machine over data (K6, K7, K8, K9). -/
import Derived.Test.YtnlobdhkpmeniaaKB
/- Rules for regions in which several operations change rows (AOps2): evidence by reckoning; what reads, calls, new lists, append. -/
namespace Go.Proofs.Ytnlobdhkpmeniaa.AM
open Go Go.RowKit
set_option linter.unusedVariables false
set_option linter.unusedSimpArgs false
set_option maxRecDepth 100000
mutual
/-- the labels that a datum names -/
def labs : AV → List Nat
  | .own l => [l]
  | .optr l _ _ _ => [l]
  | .mapv l => [l]
  | .tup xs => labsL xs
  | .mix xs => labsL xs
  | .fn _ xs ys => labsL xs ++ labsL ys
  | .ifc _ x => labs x
  | _ => []
def labsL : List AV → List Nat
  | [] => []
  | x :: xs => labs x ++ labsL xs
end
mutual
theorem names_labs {l : Nat} : ∀ x : AV, x.names l = true → l ∈ labs x
  | .own l', h => by simp only [AV.names] at h; simp [labs, Nat.eq_of_beq_eq_true h]
  | .optr l' _ _ _, h => by simp only [AV.names] at h; simp [labs, Nat.eq_of_beq_eq_true h]
  | .mapv l', h => by simp only [AV.names] at h; simp [labs, Nat.eq_of_beq_eq_true h]
  | .tup xs, h => by simp only [AV.names] at h; unfold labs; exact names_labsL xs h
  | .mix xs, h => by simp only [AV.names] at h; unfold labs; exact names_labsL xs h
  | .fn _ xs ys, h => by
    simp only [AV.names, Bool.or_eq_true] at h; unfold labs
    exact List.mem_append.2 (h.imp (names_labsL xs) (names_labsL ys))
  | .ifc _ x, h => by simp only [AV.names] at h; unfold labs; exact names_labs x h
  | .any, h => by simp [AV.names] at h
  | .v _, h => by simp [AV.names] at h
  | .agg _, h => by simp [AV.names] at h
  | .lst _ _, h => by simp [AV.names] at h
  | .ptr _, h => by simp [AV.names] at h
  | .rd _, h => by simp [AV.names] at h
theorem names_labsL {l : Nat} : ∀ xs : List AV, namesL l xs = true → l ∈ labsL xs
  | [], h => by simp [namesL] at h
  | x :: xs, h => by
    simp only [namesL, Bool.or_eq_true] at h; unfold labsL
    exact List.mem_append.2 (h.imp (names_labs x) (names_labsL xs))
end
section
variable {P : Program} {Θ : Tab} {n : Nat} {ops : Array Oper} {k : Nat} {s : St} {o : Oper} {u : AV} {ks : List Nat} {nu : List (Nat × Option OB)}
end
end Go.Proofs.Ytnlobdhkpmeniaa.AM
/- Evidence of operations that change rows (AOps2): a call over data, a list without elements, append of a list that is read. -/
namespace Go.Proofs.Ytnlobdhkpmeniaa.AM
open Go Go.RowKit
set_option linter.unusedVariables false
set_option linter.unusedSimpArgs false
set_option maxRecDepth 100000
abbrev noLab (x : AV) : Bool := x.within (fun _ => false)
mutual
theorem dat_nolab (s s' : St) : ∀ x : AV, noLab x = true → s'.dat x = s.dat x
  | .own l, h => by simp [noLab, AV.within] at h
  | .optr l _ _ _, h => by simp [noLab, AV.within] at h
  | .mix xs, h => by unfold St.dat; rw [datL_nolab s s' xs (by simpa [noLab, AV.within] using h)]
  | .ifc t x, h => by unfold St.dat; rw [dat_nolab s s' x (by simpa [noLab, AV.within] using h)]
  | .mapv l, h => by simp [noLab, AV.within] at h
  | .tup xs, h => by simp [St.dat]
  | .fn _ xs ys, h => by simp [St.dat]
  | .any, h => by simp [St.dat]
  | .v _, h => by simp [St.dat]
  | .agg _, h => by simp [St.dat]
  | .lst _ _, h => by simp [St.dat]
  | .ptr _, h => by simp [St.dat]
  | .rd _, h => by simp [St.dat]
theorem datL_nolab (s s' : St) : ∀ xs : List AV, withinL (fun _ => false) xs = true → s'.datL xs = s.datL xs
  | [], _ => by simp [St.datL]
  | x :: xs, h => by
    simp only [withinL, Bool.and_eq_true] at h
    simp only [St.datL]; rw [dat_nolab s s' x h.1, datL_nolab s s' xs h.2]
end
mutual
theorem isData_nolab (s s' : St) : ∀ x : AV, noLab x = true → isDataA s' x = isDataA s x
  | .own l, h => by simp [noLab, AV.within] at h
  | .optr l _ _ _, h => by simp [noLab, AV.within] at h
  | .mix xs, h => by unfold isDataA; rw [isDataL_nolab s s' xs (by simpa [noLab, AV.within] using h)]
  | .ifc t x, h => by simp [isDataA]
  | .mapv l, h => by simp [noLab, AV.within] at h
  | .tup xs, h => by simp [isDataA]
  | .fn _ xs ys, h => by simp [isDataA]
  | .any, h => by simp [isDataA]
  | .v _, h => by simp [isDataA]
  | .agg _, h => by simp [isDataA]
  | .lst _ _, h => by simp [isDataA]
  | .ptr _, h => by simp [isDataA]
  | .rd _, h => by simp [isDataA]
theorem isDataL_nolab (s s' : St) : ∀ xs : List AV, withinL (fun _ => false) xs = true → isDataL s' xs = isDataL s xs
  | [], _ => by simp [isDataL]
  | x :: xs, h => by
    simp only [withinL, Bool.and_eq_true] at h
    simp only [isDataL]; rw [isData_nolab s s' x h.1, isDataL_nolab s s' xs h.2]
end
section
variable {P : Program} {Θ : Tab} {s : St} {ty : TypeId} {pos : String} {after : Array Edge} {g : Option (Nat × Bool)}
end
end Go.Proofs.Ytnlobdhkpmeniaa.AM
/- Evidence of operations that change rows (AOps2): a list without elements; append of a list that is read. -/
namespace Go.Proofs.Ytnlobdhkpmeniaa.AM
open Go Go.RowKit
set_option linter.unusedVariables false
set_option linter.unusedSimpArgs false
set_option maxRecDepth 100000
section
variable {P : Program} {Θ : Tab} {s : St} {ty : TypeId} {pos : String} {after : Array Edge} {g : Option (Nat × Bool)}
end
end Go.Proofs.Ytnlobdhkpmeniaa.AM
/- Evidence of operations that change rows (AOps2): a list of one struct with own lists, folded; append in depth. -/
namespace Go.Proofs.Ytnlobdhkpmeniaa.AM
open Go Go.RowKit
set_option linter.unusedVariables false
set_option linter.unusedSimpArgs false
set_option maxRecDepth 100000
section
variable {P : Program} {Θ : Tab} {s : St} {ty : TypeId} {pos : String} {after : Array Edge} {g : Option (Nat × Bool)}
end
end Go.Proofs.Ytnlobdhkpmeniaa.AM
