/- The machine over data (GO, G1). -/
import Derived.Test.YtnlobdhkpmeniaaN16
import Derived.Test.YtnlobdhkpmeniaaE5
import Derived.Test.YtnlobdhkpmeniaaF5
import Derived.Test.YtnlobdhkpmeniaaOpen2
import Derived.Test.YtnlobdhkpmeniaaAmP
/- Rules of the machine: a function entered without a run. -/
namespace Go.Proofs.Ytnlobdhkpmeniaa.AM
open Go Go.RowKit
set_option linter.unusedVariables false
end Go.Proofs.Ytnlobdhkpmeniaa.AM
/- A law's arguments opened: structs (an operation, a repository, a result, a commit). -/
namespace Go.Proofs.Ytnlobdhkpmeniaa.AM
open Go Go.RowKit Go.ChangeShapes Go.WideShapes Go.Deep
set_option linter.unusedVariables false
set_option linter.unusedSimpArgs false
structure Opr where
  kind : Int
  frm : Int
  name : ByteArray
  key : ByteArray
  edits : List Edt
structure Bas where
  store : List Cmt
  refs : List Rf
structure Rst where
  code : Int
  com : Int
  val : Int
  keys : List ByteArray
  map : List Ent
def basA (b : Bas) : AV := .agg [.lst 2 (b.store.map comA), .lst 4 (b.refs.map refA)]
def Opr.ok (o : Opr) (N : Nat) : Prop := o.name.size ≤ N ∧ o.key.size ≤ N ∧ o.edits.length ≤ N ∧ ∀ e ∈ o.edits, e.key.size ≤ N
def Rst.ok (r : Rst) (N : Nat) : Prop := r.keys.length ≤ N ∧ (∀ k ∈ r.keys, k.size ≤ N) ∧ r.map.length ≤ N ∧ ∀ e ∈ r.map, e.1.size ≤ N
section
variable {S : Nat → Prop} {w : World}
end
section
variable {H : Type} {enc : TypeId × Value → H} {P : Program} {w : World} {base : Nat} {held : Bool}
end
end Go.Proofs.Ytnlobdhkpmeniaa.AM
