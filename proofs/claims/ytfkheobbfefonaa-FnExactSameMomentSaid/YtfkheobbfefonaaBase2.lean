/- More words on memory: append of a literal, copy of rows whose elements have several cells. Nothing of the program is used. -/
import Derived.Test.YtfkheobbfefonaaBase
import Derived.Laws.CopyOwn
namespace Go.Proofs.Ytfkheobbfefonaa
open Go.RowKit

/-! ### append of what a literal slice has just laid -/
/-! ### copy between rows whose elements have several cells -/
/-- a piece of a slice that reads as cells, as copy wants it: from place i on, m elements -/
theorem Rd.piece {w : World} {sz n : Nat} {A : Option Addr} {xs : List Value} (h : Rd w sz A n xs) {i m : Nat} (hm : i + m ≤ n) (hpos : 0 < ((xs.drop (i * sz)).take (m * sz)).length) :
    ∃ b off, A = some ⟨b, off, none⟩ ∧ ∀ j v, ((xs.drop (i * sz)).take (m * sz))[j]? = some v → w.cell? ((⟨b, off + i * sz, none⟩ : Addr).add j) = some v := by
  have hn : 0 < n := by
    rcases Nat.eq_zero_or_pos n with h0 | h0
    · subst h0
      have : m = 0 := by omega
      subst this
      simp at hpos
    · exact h0
  obtain ⟨b, off, rfl, _, hc⟩ := h.2 hn
  refine ⟨b, off, rfl, fun j v hj => ?_⟩
  have hadd : (⟨b, off + i * sz, none⟩ : Addr).add j = ⟨b, off + (i * sz + j), none⟩ := by unfold Addr.add; split <;> simp_all [Nat.add_assoc]
  rw [hadd]
  refine hc _ _ ?_
  rw [List.getElem?_take] at hj
  split at hj
  · rw [List.getElem?_drop] at hj; exact hj
  · cases hj
/-- the same, in the walk's own spelling of 's[i:j]' below the capacity -/
theorem Rd.cut {w : World} {sz n : Nat} {A : Option Addr} {xs : List Value} (h : Rd w sz A n xs) {i m : Nat} (hm : i + m ≤ n) (hpos : 0 < ((xs.drop (i * sz)).take (m * sz)).length) :
    ∃ ad, Option.map (fun x => x.add (i * sz)) A = some ad ∧ ∀ j v, ((xs.drop (i * sz)).take (m * sz))[j]? = some v → w.cell? (ad.add j) = some v := by
  obtain ⟨b, off, rfl, hc⟩ := h.piece hm hpos
  have hadd : (⟨b, off, none⟩ : Addr).add (i * sz) = ⟨b, off + i * sz, none⟩ := by unfold Addr.add; split <;> simp_all
  exact ⟨_, rfl, fun j v hj => by
    show w.cell? (((⟨b, off, none⟩ : Addr).add (i * sz)).add j) = some v
    rw [hadd]; exact hc j v hj⟩

end Go.Proofs.Ytfkheobbfefonaa
