/- Rules of the machine: a function entered without a run. -/
import Derived.Test.YtlihobpedkldpaaN16
namespace Go.Proofs.Ytlihobpedkldpaa.AM
open Go Go.RowKit
set_option linter.unusedVariables false
theorem o_of {P : Program} {Θ : Tab} (hΘ : TabOK P Θ) (hm : P.follows .mixedOrders = true) {f : FuncId} {fn : Func} {c : Code} {n : Nat} {rs : List ResultVar} (hf : P.funcs[f]? = some fn) (hb : fn.body = some c) (hnt : fn.ntmps = n) (hrs : fn.results = rs.toArray) (hnm : (fn.name == "runtime.NumGoroutine") = false)
    {args : List AV} {out : Out} (hlen : Nat.ble args.length n = true) (h : ACode P Θ n c (RetQ Θ rs out) (St.init args)) : AC P f args out :=
  acg_of hΘ hm hf hb hnt (by rw [hrs]) hnm (Nat.le_of_ble_eq_true hlen) rfl rfl h
end Go.Proofs.Ytlihobpedkldpaa.AM
