/- Diff, the document's and the program's. -/
import Derived.Test.YtnlobdhkpmeniaaI7
namespace Go.Proofs.Ytnlobdhkpmeniaa
open Go.RowKit

def diffR (a b : List Ent) : List Edt × Int := if 4096 < a.length ∨ 4096 < b.length then ([], 2) else if mapOK a = true ∧ mapOK b = true then (diffM a b, 0) else ([], 1)
theorem diffR_long {a b : List Ent} (h : 4096 < a.length ∨ 4096 < b.length) : diffR a b = ([], 2) := by rw [diffR, if_pos h]
theorem diffR_bad {a b : List Ent} (h : ¬(4096 < a.length ∨ 4096 < b.length)) (h2 : mapOK a = false ∨ mapOK b = false) : diffR a b = ([], 1) := by
  rw [diffR, if_neg h, if_neg]
  rintro ⟨x, y⟩
  rcases h2 with h | h
  · rw [h] at x; cases x
  · rw [h] at y; cases y
theorem diffR_ok {a b : List Ent} (h : ¬(4096 < a.length ∨ 4096 < b.length)) (h1 : mapOK a = true) (h2 : mapOK b = true) : diffR a b = (diffM a b, 0) := by rw [diffR, if_neg h, if_pos ⟨h1, h2⟩]
def TupE (e : TypeId) (r : List Edt × Int) (w : World) (e' : Ending) (w' : World) : Prop := ∃ v, e' = .returned (.tuple #[v, .int .i64 r.2]) ∧ w'.ownsRow w.heap.size e 3 v r.1.length (edtsC r.1) ∧ Below w.heap.size w w'
theorem TupE.mk {e : TypeId} {r : List Edt × Int} {l : List Edt} {c : Int} {v : Value} {w w' : World} (h : r = (l, c)) (ho : w'.ownsRow w.heap.size e 3 v l.length (edtsC l)) (hb : Below w.heap.size w w') : TupE e r w (.returned (.tuple #[v, .int .i64 c])) w' := ⟨v, by rw [h], by rw [h]; exact ho, hb⟩
theorem own_emptyE {w1 : World} {base : Nat} (e : TypeId) (h : base ≤ w1.heap.size) : (w1.alloc (.cells #[] e)).ownsRow base e 3 (.slice (some ⟨w1.heap.size, 0, none⟩) 0 0) 0 [] := World.ownsRow_made w1 #[] 0 h (by simp) (by simp)

end Go.Proofs.Ytnlobdhkpmeniaa
