/- The machine over data (H1, H2, H3, H4). -/
import Derived.Test.YtnlobdhkpmeniaaK9
import Derived.Test.YtnlobdhkpmeniaaG9
import Derived.Test.YtnlobdhkpmeniaaE17
import Derived.Test.YtnlobdhkpmeniaaG1
import Derived.Test.YtnlobdhkpmeniaaE3
import Derived.Test.YtnlobdhkpmeniaaE2
/- Commits copied, on both sides (AOps2). -/
namespace Go.Proofs.Ytnlobdhkpmeniaa.AM
open Go Go.RowKit
set_option linter.unusedVariables false
set_option linter.unusedSimpArgs false
set_option maxRecDepth 100000
attribute [local irreducible] ACode AOps AOps2 RetG RetM Pre ACG
end Go.Proofs.Ytnlobdhkpmeniaa.AM
/- Stores copied, on both sides. -/
namespace Go.Proofs.Ytnlobdhkpmeniaa.AM
open Go Go.RowKit
set_option linter.unusedVariables false
set_option linter.unusedSimpArgs false
set_option maxRecDepth 100000
section
variable {P : Program} {Θ : Tab} {s : St} {ty : TypeId} {pos : String} {after : Array Edge} {g : Option (Nat × Bool)}
theorem p_bslm {d : Nat} {t : TypeId} {x : Operand} {el sz b : Nat} {z y : AV} (hf : s.hp (d + 1) = none) (ht : Θ.look t = .slice el sz b z) (hx : toO (s.ev x) = some y) (hz : Nat.beq (asz y) sz = true) (hsz : Nat.ble sz 65536 = true) (hc : cOK x = true := by rfl) (hok : okL (d + 1) = true := by rfl) :
    Pre P Θ ⟨some d, .buildSlice t 1 #[(0, x)], ty, pos, after, g⟩ s ⟨.own (d + 1), some fun s' => s'.set (d + 1) (some ⟨.o (some el) 0 y, sz, [y]⟩)⟩ :=
  ⟨d, el, sz, b, z, rfl, hf, hok, ht, by rw [Nat.one_mul]; exact Nat.le_of_ble_eq_true hsz, .inr ⟨x, y, rfl, rfl, cOK_spec hc, hx, Nat.eq_of_beq_eq_true hz, rfl⟩⟩
end
attribute [local irreducible] ACode AOps AOps2 RetG RetM Pre ACG
end Go.Proofs.Ytnlobdhkpmeniaa.AM
/- AddCommit of the program, over data. -/
namespace Go.Proofs.Ytnlobdhkpmeniaa.AM
open Go Go.RowKit
set_option linter.unusedVariables false
set_option linter.unusedSimpArgs false
set_option maxRecDepth 100000
attribute [local irreducible] ACode AOps AOps2 RetG RetM Pre ACG
end Go.Proofs.Ytnlobdhkpmeniaa.AM
/- AddCommit of the document, over data. -/
namespace Go.Proofs.Ytnlobdhkpmeniaa.AM
open Go Go.RowKit
set_option linter.unusedVariables false
set_option linter.unusedSimpArgs false
set_option maxRecDepth 100000
section
variable {P : Program} {Θ : Tab} {s : St} {ty : TypeId} {pos : String} {after : Array Edge} {g : Option (Nat × Bool)}
end
attribute [local irreducible] ACode AOps AOps2 RetG RetM Pre ACG
end Go.Proofs.Ytnlobdhkpmeniaa.AM
