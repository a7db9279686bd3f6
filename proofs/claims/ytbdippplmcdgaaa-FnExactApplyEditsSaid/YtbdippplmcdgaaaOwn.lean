/- A row of the call's own within a stretch of blocks: carried over calls that make new memory, and over the marking of another row. -/
import Derived.Test.YtbdippplmcdgaaaLawM
namespace Go.Proofs.Ytbdippplmcdgaaa
open Go.RowKit

theorem below_of_grown {B : Nat} {a w w' : World} {v : Value} {base : Nat} {e : TypeId} {sz n : Nat} {xs : List Value} (h : Below B a w) (hg : w.grownBy w' v.ownBlock) (ho : w.ownsRow base e sz v n xs) (hB : B ≤ w.heap.size) (hBb : B ≤ base) : Below B a w' :=
  h.grown hg hB fun k hk => Nat.le_trans hBb (ho.lt k hk).1

structure Own (w : World) (lo hi : Nat) (e : TypeId) (sz : Nat) (v : Value) (n : Nat) (xs : List Value) : Prop where
  row : w.ownsRow lo e sz v n xs
  top : ∀ k, v.ownBlock = some k → k < hi
  le : hi ≤ w.heap.size

section
variable {w w' : World} {lo hi : Nat} {e : TypeId} {sz : Nat} {v : Value} {n : Nat} {xs : List Value}
theorem Own.of (h : w.ownsRow lo e sz v n xs) : Own w lo w.heap.size e sz v n xs := ⟨h, fun k hk => (h.lt k hk).2, Nat.le_refl _⟩
theorem Own.keep (h : Own w lo hi e sz v n xs) (hb : Below w.heap.size w w') : Own w' lo hi e sz v n xs := ⟨ownsRow_below h.row hb (Nat.le_refl _), h.top, Nat.le_trans h.le hb.size⟩
theorem Own.form (h : Own w lo hi e sz v n xs) : ∃ A c, v = .slice A n c ∧ n ≤ c ∧ c ≤ maxLen ∧ Rd w sz A n xs := Rd.of_own h.row
/-- another row, in another stretch, has been written -/
theorem Own.apart {lo' hi' : Nat} {e' : TypeId} {sz' n' : Nat} {v' : Value} {xs' : List Value} (h : Own w lo hi e sz v n xs) (hg : w.grownBy w' v'.ownBlock) (ho : Own w lo' hi' e' sz' v' n' xs') (hd : hi ≤ lo' ∨ hi' ≤ lo) : Own w' lo hi e sz v n xs := by
  refine ⟨h.row.kept hg ?_, h.top, Nat.le_trans h.le hg.size⟩
  cases hv : v.ownBlock with
  | none => exact .inl rfl
  | some k =>
    refine .inr (fun heq => ?_)
    have h1 := h.top k hv
    have h2 := (h.row.lt k hv).1
    have h3 := ho.top k heq.symm
    have h4 := (ho.row.lt k heq.symm).1
    omega
theorem Own.below {B : Nat} {a : World} (h : Own w lo hi e sz v n xs) (hg : w.grownBy w' v.ownBlock) (hb : Below B a w) (hB : B ≤ w.heap.size) (hl : B ≤ lo) : Below B a w' := below_of_grown hb hg h.row hB hl
theorem Own.again {xs' : List Value} (h : Own w lo hi e sz v n xs) (hg : w.grownBy w' v.ownBlock) (ho : w'.ownsRow lo e sz v n xs') : Own w' lo hi e sz v n xs' := ⟨ho, h.top, Nat.le_trans h.le hg.size⟩
end
end Go.Proofs.Ytbdippplmcdgaaa
