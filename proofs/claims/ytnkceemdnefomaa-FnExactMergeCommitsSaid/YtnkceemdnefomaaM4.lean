/- The program's EditsOK. -/
import Derived.Test.YtnkceemdnefomaaS8
import Derived.Test.YtnkceemdnefomaaM3
namespace Go.Proofs.Ytnkceemdnefomaa
open Go.RowKit

theorem method_keyE (a : ByteArray) (x : Int) (g : Bool) (w : World) : (method 303 161 (.agg #[.string a, .int .i64 x, .bool g]) "loop.example/g00737/impl.key").run Try.prog w = .ok (179, .agg #[.string a, .int .i64 x, .bool g]) w := by kernel_rfl
theorem keyOfE_any (key : ByteArray) (v : Int) (g : Bool) (w : World) :
    Calls Try.prog 179 #[.agg #[.string key, .int .i64 v, .bool g]] w fun e w' => e = .returned (.string key) ∧ Below w.heap.size w w' := by
  go_enter Try.func179, Try.ntmps179
  go_wp2
  go_ret
  exact ⟨rfl, (Below.refl _ _).alloc (Nat.le_refl _) _⟩
theorem nameOK_edt (es : List Edt) (k : Nat) (hke : k < es.length) (hs : es[k].key.size ≤ maxLen) (W : World) :
    Calls Try.prog 81 #[.string es[k].key] W fun e w' => e = .returned (.bool (nm es[k].key)) ∧ W = w' := nameOK_any _ W hs
theorem valueOK_edt (es : List Edt) (k : Nat) (hke : k < es.length) (W : World) :
    Calls Try.prog 150 #[.int .i64 es[k].val] W fun e w' => e = .returned (.bool (valB es[k].val)) ∧ W = w' := valueOK_any _ _

end Go.Proofs.Ytnkceemdnefomaa
