/- The machine over data (S2, S3). -/
import Derived.Test.YtnlobdhkpmeniaaMdl3
import Derived.Test.YtnlobdhkpmeniaaBase2
import Derived.Test.YtnlobdhkpmeniaaLawE2
import Derived.Test.YtnlobdhkpmeniaaI1
/- The document's l01Put: what it gathers, round by round. -/
namespace Go.Proofs.Ytnlobdhkpmeniaa
open Go.RowKit

theorem entsC_snoc (es : List Ent) (k : ByteArray) (v : Int) : entsC (es ++ [(k, v)]) = entsC es ++ #[Value.string k, Value.int .i64 v].toList := by rw [entsC_append]; rfl
theorem ent_cells (k : ByteArray) (v : Int) : ∀ u ∈ #[Value.string k, Value.int .i64 v].toList, u.oneCell' = true := by
  intro u hu
  simp at hu
  rcases hu with rfl | rfl <;> rfl

def OwnPost (e : TypeId) (es : List Ent) (w : World) (e' : Ending) (w' : World) : Prop := ∃ v, e' = .returned v ∧ w'.ownsRow w.heap.size e 2 v es.length (entsC es) ∧ Below w.heap.size w w'

end Go.Proofs.Ytnlobdhkpmeniaa
/- The document's Put, l01Remove, Remove, Scan. -/
namespace Go.Proofs.Ytnlobdhkpmeniaa
open Go.RowKit

theorem filter_snoc (q : Ent → Bool) (es : List Ent) (k : Nat) (h : k < es.length) : (es.take (k + 1)).filter q = (es.take k).filter q ++ (if q es[k] then [es[k]] else []) := by
  rw [List.take_succ_eq_append_getElem h, List.filter_append]
  congr 1
  cases hq : q es[k] <;> simp [hq]
theorem filter_take_len (q : Ent → Bool) (es : List Ent) (k : Nat) : ((es.take k).filter q).length ≤ k := Nat.le_trans (List.length_filter_le _ _) (List.length_take_le _ _)

def TupPost (e : TypeId) (r : List Ent × Int) (w : World) (e' : Ending) (w' : World) : Prop := ∃ v, e' = .returned (.tuple #[v, .int .i64 r.2]) ∧ w'.ownsRow w.heap.size e 2 v r.1.length (entsC r.1) ∧ Below w.heap.size w w'
theorem TupPost.mk {e : TypeId} {r : List Ent × Int} {l : List Ent} {c : Int} {v : Value} {w w' : World} (h : r = (l, c)) (ho : w'.ownsRow w.heap.size e 2 v l.length (entsC l)) (hb : Below w.heap.size w w') : TupPost e r w (.returned (.tuple #[v, .int .i64 c])) w' := ⟨v, by rw [h], by rw [h]; exact ho, hb⟩
theorem own_empty {w1 : World} {base : Nat} (e : TypeId) (h : base ≤ w1.heap.size) : (w1.alloc (.cells #[] e)).ownsRow base e 2 (.slice (some ⟨w1.heap.size, 0, none⟩) 0 0) 0 [] := World.ownsRow_made w1 #[] 0 h (by simp) (by simp)

theorem putM_bad {es : List Ent} {k : ByteArray} {v : Int} (h : keyCode es k ≠ 0) : putM es k v = ([], keyCode es k) := by rw [putM, if_neg h]
theorem putM_range {es : List Ent} {k : ByteArray} {v : Int} (h : keyCode es k = 0) (h2 : valB v = false) : putM es k v = ([], 4) := by rw [putM, if_pos h, if_neg (by rw [h2]; simp)]
theorem putM_full {es : List Ent} {k : ByteArray} {v : Int} (h : keyCode es k = 0) (h2 : valB v = true) (h3 : 12 < (putL es k v).length) : putM es k v = ([], 7) := by rw [putM, if_pos h, if_pos h2, if_neg (by omega)]
theorem putM_ok {es : List Ent} {k : ByteArray} {v : Int} (h : keyCode es k = 0) (h2 : valB v = true) (h3 : (putL es k v).length ≤ 12) : putM es k v = (putL es k v, 0) := by rw [putM, if_pos h, if_pos h2, if_pos h3]

end Go.Proofs.Ytnlobdhkpmeniaa
