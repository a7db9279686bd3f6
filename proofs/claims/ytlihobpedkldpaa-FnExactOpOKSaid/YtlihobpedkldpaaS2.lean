/- The document's l01Put: what it gathers, round by round. -/
import Derived.Test.YtlihobpedkldpaaMdl3
import Derived.Test.YtlihobpedkldpaaBase2
import Derived.Test.YtlihobpedkldpaaLawE2
namespace Go.Proofs.Ytlihobpedkldpaa
open Go.RowKit

theorem entsC_snoc (es : List Ent) (k : ByteArray) (v : Int) : entsC (es ++ [(k, v)]) = entsC es ++ #[Value.string k, Value.int .i64 v].toList := by rw [entsC_append]; rfl
theorem ent_cells (k : ByteArray) (v : Int) : ∀ u ∈ #[Value.string k, Value.int .i64 v].toList, u.oneCell' = true := by
  intro u hu
  simp at hu
  rcases hu with rfl | rfl <;> rfl

def OwnPost (e : TypeId) (es : List Ent) (w : World) (e' : Ending) (w' : World) : Prop := ∃ v, e' = .returned v ∧ w'.ownsRow w.heap.size e 2 v es.length (entsC es) ∧ Below w.heap.size w w'

end Go.Proofs.Ytlihobpedkldpaa
