/- Diff, the document's and the program's. -/
import Derived.Test.YtfkheobbfefonaaI7
namespace Go.Proofs.Ytfkheobbfefonaa
open Go.RowKit

def TupE (e : TypeId) (r : List Edt × Int) (w : World) (e' : Ending) (w' : World) : Prop := ∃ v, e' = .returned (.tuple #[v, .int .i64 r.2]) ∧ w'.ownsRow w.heap.size e 3 v r.1.length (edtsC r.1) ∧ Below w.heap.size w w'
theorem TupE.mk {e : TypeId} {r : List Edt × Int} {l : List Edt} {c : Int} {v : Value} {w w' : World} (h : r = (l, c)) (ho : w'.ownsRow w.heap.size e 3 v l.length (edtsC l)) (hb : Below w.heap.size w w') : TupE e r w (.returned (.tuple #[v, .int .i64 c])) w' := ⟨v, by rw [h], by rw [h]; exact ho, hb⟩
end Go.Proofs.Ytfkheobbfefonaa
