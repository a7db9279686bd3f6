/- The machine over data (S2, S3). -/
import Derived.Test.YtfkheobbfefonaaMdl3
import Derived.Test.YtfkheobbfefonaaBase2
import Derived.Test.YtfkheobbfefonaaLawE2
import Derived.Test.YtfkheobbfefonaaI1
/- The document's l01Put: what it gathers, round by round. -/
namespace Go.Proofs.Ytfkheobbfefonaa
open Go.RowKit

end Go.Proofs.Ytfkheobbfefonaa
/- The document's Put, l01Remove, Remove, Scan. -/
namespace Go.Proofs.Ytfkheobbfefonaa
open Go.RowKit

def TupPost (e : TypeId) (r : List Ent × Int) (w : World) (e' : Ending) (w' : World) : Prop := ∃ v, e' = .returned (.tuple #[v, .int .i64 r.2]) ∧ w'.ownsRow w.heap.size e 2 v r.1.length (entsC r.1) ∧ Below w.heap.size w w'
theorem TupPost.mk {e : TypeId} {r : List Ent × Int} {l : List Ent} {c : Int} {v : Value} {w w' : World} (h : r = (l, c)) (ho : w'.ownsRow w.heap.size e 2 v l.length (entsC l)) (hb : Below w.heap.size w w') : TupPost e r w (.returned (.tuple #[v, .int .i64 c])) w' := ⟨v, by rw [h], by rw [h]; exact ho, hb⟩
end Go.Proofs.Ytfkheobbfefonaa
