/- The law's helpers on edits: size, copy, equality. -/
import Derived.Test.YtnlobdhkpmeniaaLawE2
namespace Go.Proofs.Ytnlobdhkpmeniaa
open Go.RowKit

def SzEdts (es : List Edt) (left r : Int) : Prop := r < 0 ∨ (0 ≤ r ∧ r ≤ left ∧ es.length ≤ 1048576 ∧ ∀ e ∈ es, e.key.size ≤ 1048576)

instance edt_dec : DecidableEq Edt := fun a b => decidable_of_iff (a.key = b.key ∧ a.val = b.val ∧ a.gone = b.gone) ⟨fun ⟨h1, h2, h3⟩ => by cases a; cases b; simp at *; exact ⟨h1, h2, h3⟩, fun h => by subst h; exact ⟨rfl, rfl, rfl⟩⟩
def EqD (a b : Edt) : Bool := decide (a.key = b.key) && (decide (a.val = b.val) && decide (a.gone = b.gone))
theorem EqD_iff (a b : Edt) : EqD a b = decide (a = b) := by
  obtain ⟨a1, a2, a3⟩ := a
  obtain ⟨b1, b2, b3⟩ := b
  rw [Bool.eq_iff_iff]; simp [EqD]
theorem Blk.three {w : World} {g : Nat} {t : TypeId} {cs : Array Value} (h : Blk w g t cs) {k : Nat} (hk : k * 3 + 2 < cs.size) :
    ∃ y0 y1 y2, w.cell? ⟨g, k * 3, none⟩ = some y0 ∧ w.cell? ⟨g, k * 3 + 1, none⟩ = some y1 ∧ w.cell? ⟨g, k * 3 + 2, none⟩ = some y2 ∧ w.frozen? ⟨g, k * 3, none⟩ = false ∧ w.frozen? ⟨g, k * 3 + 1, none⟩ = false ∧ w.frozen? ⟨g, k * 3 + 2, none⟩ = false :=
  ⟨_, _, _, (h.cell _).trans (Array.getElem?_eq_getElem (by omega)), (h.cell _).trans (Array.getElem?_eq_getElem (by omega)), (h.cell _).trans (Array.getElem?_eq_getElem hk), h.frozen _, h.frozen _, h.frozen _⟩

end Go.Proofs.Ytnlobdhkpmeniaa
