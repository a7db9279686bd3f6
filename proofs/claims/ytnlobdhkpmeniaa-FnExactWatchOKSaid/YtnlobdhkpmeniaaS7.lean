/- Diff, the document's and the program's: both go through the two maps side by side. -/
import Derived.Test.YtnlobdhkpmeniaaLawN
import Derived.Test.YtnlobdhkpmeniaaBase2
import Derived.Test.YtnlobdhkpmeniaaM3
namespace Go.Proofs.Ytnlobdhkpmeniaa
open Go.RowKit

def diffL : Nat → List Ent → List Ent → List Edt
  | 0, _, _ => []
  | _ + 1, [], [] => []
  | f + 1, x :: a, [] => ⟨x.1, 0, true⟩ :: diffL f a []
  | f + 1, [], y :: b => ⟨y.1, y.2, false⟩ :: diffL f [] b
  | f + 1, x :: a, y :: b => if klt x.1 y.1 then ⟨x.1, 0, true⟩ :: diffL f a (y :: b) else if klt y.1 x.1 then ⟨y.1, y.2, false⟩ :: diffL f (x :: a) b else (if x.2 = y.2 then [] else [⟨y.1, y.2, false⟩]) ++ diffL f a b
def diffM (a b : List Ent) : List Edt := diffL (a.length + b.length) a b
theorem diffL_end (f : Nat) (a b : List Ent) (ha : a = []) (hb : b = []) : diffL f a b = [] := by subst ha; subst hb; cases f <;> rfl
theorem diffL_gone {f : Nat} {a b : List Ent} {p q : Nat} (hp : p < a.length) (h : b.length ≤ q ∨ ∃ hq : q < b.length, klt a[p].1 b[q].1 = true) : diffL (f + 1) (a.drop p) (b.drop q) = ⟨a[p].1, 0, true⟩ :: diffL f (a.drop (p + 1)) (b.drop q) := by
  rw [List.drop_eq_getElem_cons hp]
  rcases h with h | ⟨hq, h⟩
  · rw [List.drop_eq_nil_of_le h]; rfl
  · rw [List.drop_eq_getElem_cons hq, diffL, if_pos h]
theorem diffL_set {f : Nat} {a b : List Ent} {p q : Nat} (hq : q < b.length) (h : a.length ≤ p ∨ ∃ hp : p < a.length, klt b[q].1 a[p].1 = true) : diffL (f + 1) (a.drop p) (b.drop q) = ⟨b[q].1, b[q].2, false⟩ :: diffL f (a.drop p) (b.drop (q + 1)) := by
  rw [List.drop_eq_getElem_cons hq]
  rcases h with h | ⟨hp, h⟩
  · rw [List.drop_eq_nil_of_le h]; rfl
  · rw [List.drop_eq_getElem_cons hp, diffL, if_neg (by rw [klt_asymm h]; simp), if_pos h]
theorem diffL_both {f : Nat} {a b : List Ent} {p q : Nat} (hp : p < a.length) (hq : q < b.length) (h1 : klt a[p].1 b[q].1 = false) (h2 : klt b[q].1 a[p].1 = false) : diffL (f + 1) (a.drop p) (b.drop q) = (if a[p].2 = b[q].2 then [] else [⟨b[q].1, b[q].2, false⟩]) ++ diffL f (a.drop (p + 1)) (b.drop (q + 1)) := by
  rw [List.drop_eq_getElem_cons hp, List.drop_eq_getElem_cons hq, diffL, if_neg (by rw [h1]; simp), if_neg (by rw [h2]; simp)]

def EdtPost (e : TypeId) (l : List Edt) (w : World) (e' : Ending) (w' : World) : Prop := ∃ v, e' = .returned v ∧ w'.ownsRow w.heap.size e 3 v l.length (edtsC l) ∧ Below w.heap.size w w'
theorem edtsC_snoc (es : List Edt) (k : ByteArray) (v : Int) (g : Bool) : edtsC (es ++ [⟨k, v, g⟩]) = edtsC es ++ #[Value.string k, Value.int .i64 v, Value.bool g].toList := by rw [edtsC_append]; rfl
theorem edt_cells (k : ByteArray) (v : Int) (g : Bool) : ∀ u ∈ #[Value.string k, Value.int .i64 v, Value.bool g].toList, u.oneCell' = true := by
  intro u hu
  simp at hu
  rcases hu with rfl | rfl | rfl <;> rfl

end Go.Proofs.Ytnlobdhkpmeniaa
