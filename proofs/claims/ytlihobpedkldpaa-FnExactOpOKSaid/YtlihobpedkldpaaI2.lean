/- The program's part, with, without, Put, Remove, Scan. -/
import Derived.Test.YtlihobpedkldpaaS3
namespace Go.Proofs.Ytlihobpedkldpaa
open Go.RowKit

theorem entsC_one (es : List Ent) : ∀ u ∈ entsC es, u.oneCell' = true := by
  intro u hu
  rw [entsC, List.mem_flatMap] at hu
  obtain ⟨e, _, h⟩ := hu
  simp [entC] at h
  rcases h with rfl | rfl <;> rfl
theorem piece_entsC (es : List Ent) (i m : Nat) : ((entsC es).drop (i * 2)).take (m * 2) = entsC ((es.drop i).take m) := by rw [entsC_drop, entsC_take]

theorem splice_full {α : Type} (L cs : List α) (h : L.length = cs.length) : splice L 0 cs = cs := by
  rw [splice, List.take_zero, List.nil_append, Nat.zero_add, ← h, List.drop_length, List.append_nil]

end Go.Proofs.Ytlihobpedkldpaa
