/- The machine over data (GO, G1). -/
import Derived.Test.YtjhimcddgkoghaaN16
import Derived.Test.YtjhimcddgkoghaaE5
import Derived.Test.YtjhimcddgkoghaaF5
import Derived.Test.YtjhimcddgkoghaaOpen2
import Derived.Test.YtjhimcddgkoghaaAmP
/- Rules of the machine: a function entered without a run. -/
namespace Go.Proofs.Ytjhimcddgkoghaa.AM
open Go Go.RowKit
set_option linter.unusedVariables false
theorem o_of {P : Program} {Θ : Tab} (hΘ : TabOK P Θ) (hm : P.follows .mixedOrders = true) {f : FuncId} {fn : Func} {c : Code} {n : Nat} {rs : List ResultVar} (hf : P.funcs[f]? = some fn) (hb : fn.body = some c) (hnt : fn.ntmps = n) (hrs : fn.results = rs.toArray) (hnm : (fn.name == "runtime.NumGoroutine") = false)
    {args : List AV} {out : Out} (hlen : Nat.ble args.length n = true) (h : ACode P Θ n c (RetQ Θ rs out) (St.init args)) : AC P f args out :=
  acg_of hΘ hm hf hb hnt (by rw [hrs]) hnm (Nat.le_of_ble_eq_true hlen) rfl rfl h
end Go.Proofs.Ytjhimcddgkoghaa.AM
/- A law's arguments opened: structs (an operation, a repository, a result, a commit). -/
namespace Go.Proofs.Ytjhimcddgkoghaa.AM
open Go Go.RowKit Go.ChangeShapes Go.WideShapes Go.Deep
set_option linter.unusedVariables false
set_option linter.unusedSimpArgs false
structure Opr where
  kind : Int
  frm : Int
  name : ByteArray
  key : ByteArray
  edits : List Edt
structure Bas where
  store : List Cmt
  refs : List Rf
structure Rst where
  code : Int
  com : Int
  val : Int
  keys : List ByteArray
  map : List Ent
def Opr.ok (o : Opr) (N : Nat) : Prop := o.name.size ≤ N ∧ o.key.size ≤ N ∧ o.edits.length ≤ N ∧ ∀ e ∈ o.edits, e.key.size ≤ N
def Rst.ok (r : Rst) (N : Nat) : Prop := r.keys.length ≤ N ∧ (∀ k ∈ r.keys, k.size ≤ N) ∧ r.map.length ≤ N ∧ ∀ e ∈ r.map, e.1.size ≤ N
section
variable {S : Nat → Prop} {w : World}
end
section
variable {H : Type} {enc : TypeId × Value → H} {P : Program} {w : World} {base : Nat} {held : Bool}
end
end Go.Proofs.Ytjhimcddgkoghaa.AM
