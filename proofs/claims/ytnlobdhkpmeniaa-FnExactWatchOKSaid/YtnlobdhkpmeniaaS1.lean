/- The document's side of Get: l01Ask, l01At, Get; and the program's keyedMapCode. -/
import Derived.Test.YtnlobdhkpmeniaaM3
import Derived.Test.YtnlobdhkpmeniaaMdl3
namespace Go.Proofs.Ytnlobdhkpmeniaa
open Go.RowKit

theorem keyCode_long {es : List Ent} {k : ByteArray} (h : 4096 < es.length ∨ 65536 < k.size) : keyCode es k = 2 := by rw [keyCode, if_pos h]
theorem keyCode_ok {es : List Ent} {k : ByteArray} (h1 : es.length ≤ 4096) (h2 : k.size ≤ 65536) (h3 : mapOK es = true) (h4 : nm k = true) : keyCode es k = 0 := by rw [keyCode, if_neg (by omega), if_pos ⟨h3, h4⟩]
theorem keyCode_bad {es : List Ent} {k : ByteArray} (h1 : es.length ≤ 4096) (h2 : k.size ≤ 65536) (h3 : mapOK es = false ∨ nm k = false) : keyCode es k = 1 := by
  rw [keyCode, if_neg (by omega), if_neg]
  rintro ⟨a, b⟩
  rcases h3 with h | h
  · rw [h] at a; cases a
  · rw [h] at b; cases b

theorem atI_yes {es : List Ent} {k : ByteArray} {i : Nat} (hi : i < es.length) (h : es[i].1 = k) (hb : ∀ j, (hj : j < es.length) → j < i → es[j].1 ≠ k) : atI es k = i := by
  rw [atI, fnd_some hi h (fun j hj => hb j (by omega) hj)]
theorem atI_no {es : List Ent} {k : ByteArray} (h : ∀ j, (hj : j < es.length) → es[j].1 ≠ k) : atI es k = -1 := by rw [atI, fnd_none h]

end Go.Proofs.Ytnlobdhkpmeniaa
