/- The program's without: an entry taken out, into new memory. -/
import Derived.Test.YtlihobpedkldpaaI3
namespace Go.Proofs.Ytlihobpedkldpaa
open Go.RowKit

theorem del_cells (L0 : List Value) (a b : List Ent) (h : L0.length = (a.length + b.length) * 2) :
    splice (splice L0 0 (entsC a)) (a.length * 2) (entsC b) = entsC (a ++ b) := by
  have hla := entsC_length a
  have hlb := entsC_length b
  have e1 : splice L0 0 (entsC a) = entsC a ++ L0.drop (a.length * 2) := by rw [splice, List.take_zero, List.nil_append, Nat.zero_add, hla]
  have hd : (L0.drop (a.length * 2)).length = b.length * 2 := by rw [List.length_drop, h]; omega
  rw [e1, splice, hlb]
  have e3 : (entsC a ++ L0.drop (a.length * 2)).take (a.length * 2) = entsC a := by rw [← hla]; exact List.take_left
  have e4 : (entsC a ++ L0.drop (a.length * 2)).drop (a.length * 2 + b.length * 2) = [] := List.drop_eq_nil_of_le (by simp [hla]; omega)
  rw [e3, e4, List.append_nil, entsC_append]

end Go.Proofs.Ytlihobpedkldpaa
