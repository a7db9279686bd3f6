/- The machine over data (GO, G1). -/
import Derived.Test.YtnlobdhkpmeniaaN16
import Derived.Test.YtnlobdhkpmeniaaE5
import Derived.Test.YtnlobdhkpmeniaaF5
import Derived.Test.YtnlobdhkpmeniaaOpen2
import Derived.Test.YtnlobdhkpmeniaaAmP
/- Rules of the machine: a function entered without a run. -/
namespace Go.Proofs.Ytnlobdhkpmeniaa.AM
open Go Go.RowKit
set_option linter.unusedVariables false
theorem o_of {P : Program} {Θ : Tab} (hΘ : TabOK P Θ) (hm : P.follows .mixedOrders = true) {f : FuncId} {fn : Func} {c : Code} {n : Nat} {rs : List ResultVar} (hf : P.funcs[f]? = some fn) (hb : fn.body = some c) (hnt : fn.ntmps = n) (hrs : fn.results = rs.toArray) (hnm : (fn.name == "runtime.NumGoroutine") = false)
    {args : List AV} {out : Out} (hlen : Nat.ble args.length n = true) (h : ACode P Θ n c (RetQ Θ rs out) (St.init args)) : AC P f args out :=
  acg_of hΘ hm hf hb hnt (by rw [hrs]) hnm (Nat.le_of_ble_eq_true hlen) rfl rfl h
end Go.Proofs.Ytnlobdhkpmeniaa.AM
/- A law's arguments opened: structs (an operation, a repository, a result, a commit). -/
namespace Go.Proofs.Ytnlobdhkpmeniaa.AM
open Go Go.RowKit Go.ChangeShapes Go.WideShapes Go.Deep
set_option linter.unusedVariables false
set_option linter.unusedSimpArgs false
structure Opr where
  kind : Int
  frm : Int
  name : ByteArray
  key : ByteArray
  edits : List Edt
structure Bas where
  store : List Cmt
  refs : List Rf
structure Rst where
  code : Int
  com : Int
  val : Int
  keys : List ByteArray
  map : List Ent
def Opr.ok (o : Opr) (N : Nat) : Prop := o.name.size ≤ N ∧ o.key.size ≤ N ∧ o.edits.length ≤ N ∧ ∀ e ∈ o.edits, e.key.size ≤ N
def Rst.ok (r : Rst) (N : Nat) : Prop := r.keys.length ≤ N ∧ (∀ k ∈ r.keys, k.size ≤ N) ∧ r.map.length ≤ N ∧ ∀ e ∈ r.map, e.1.size ≤ N
section
variable {S : Nat → Prop} {w : World}
end
section
variable {H : Type} {enc : TypeId × Value → H} {P : Program} {w : World} {base : Nat} {held : Bool}
theorem open_agg {t : TypeId} {fs : Array Field} {cs : Array Value} {d : DataW H} {p : List MemPlace} (ht : P.underlying t = some (.struct fs)) (hone : oneCellFields P fs = true) (hC : P.cellsOf t = fs.size) (h : DataW.Trod enc P w base (fun _ => true) held t (.agg cs) d p) :
    cs.toList.length = fs.size ∧ ∃ k, ∀ (j : Nat) (f : Field), fs[j]? = some f → ∃ (v : Value) (y : DataW H × List MemPlace), cs.toList[j]? = some v ∧ DataW.trod enc P w base (fun _ => true) held k f.type [v] = some y := by
  obtain ⟨fuel, hf⟩ := h
  obtain ⟨ys, n', hn', hy, hlen, hyl, hf⟩ := DataW.trod_struct ht hf
  rw [hC] at hlen
  have hlen' : cs.toList.length = fs.size := by simpa [Value.cells] using hlen
  refine ⟨hlen', n', fun j f hj => ?_⟩
  obtain ⟨ho, hk⟩ := hone_of hone j f hj
  have hjl : j < fs.size := (Array.getElem?_eq_some_iff.1 hj).1
  have hv : cs.toList[j]? = some (cs.toList[j]'(by omega)) := List.getElem?_eq_getElem (by omega)
  have h1 := hf j f hj
  rw [ho, hk] at h1
  have hone' : ((Value.cells (.agg cs)).toList.drop j).take 1 = [cs.toList[j]'(by omega)] := by
    show (cs.toList.drop j).take 1 = _
    rw [List.drop_eq_getElem_cons (by omega)]
    rfl
  rw [hone'] at h1
  have hys : ys[j]? = some (ys[j]'(by omega)) := List.getElem?_eq_getElem (by omega)
  exact ⟨_, _, hv, h1.trans hys⟩
theorem trod_of {t : TypeId} {v : Value} {k : Nat} {y : DataW H × List MemPlace} (hv : (Value.cells v).toList = [v]) (h : DataW.trod enc P w base (fun _ => true) held k t [v] = some y) : DataW.Trod enc P w base (fun _ => true) held t v y.1 y.2 := ⟨k, by rw [hv]; exact h⟩
theorem rv_agg {hp : Nat → Option OB} {B : Nat → Nat} {V : Nat → Value} {xs : List AV} {cs : Array Value} {l : List Value} (h : cs.toList = l) (hr : RL (InW w) w xs l) : RV (InW w) w hp B V (.agg xs) (.agg cs) := by
  unfold RV; exact ⟨l, by rw [← h], hr⟩
end
end Go.Proofs.Ytnlobdhkpmeniaa.AM
