/- The program's side of Get: keyedMapCode, place, find, Get. -/
import Derived.Test.YtnlobdhkpmeniaaS1
namespace Go.Proofs.Ytnlobdhkpmeniaa
open Go.RowKit

def PlcPost (es : List Ent) (key : ByteArray) (w : World) (e : Ending) (w' : World) : Prop := ∃ p : Nat, e = .returned (.int .i64 p) ∧ IsPlc es key p ∧ Below w.heap.size w w'
theorem plc_end {es : List Ent} {key : ByteArray} {k : Nat} (h : k ≤ es.length) (hall : ∀ j, (hj : j < es.length) → j < k → klt es[j].1 key = true) (hn : (hk : k < es.length) → klt es[k].1 key = false) : IsPlc es key k := ⟨h, hall, hn⟩

def FndPost (es : List Ent) (key : ByteArray) (w : World) (e : Ending) (w' : World) : Prop :=
  ∃ (p : Nat) (f : Bool), e = .returned (.tuple #[.int .i64 p, .bool f]) ∧ IsPlc es key p ∧ (f = true → ∃ h : p < es.length, es[p].1 = key) ∧ (f = false → ∀ h : p < es.length, es[p].1 ≠ key) ∧ Below w.heap.size w w'

theorem getM_bad {es : List Ent} {k : ByteArray} (h : keyCode es k ≠ 0) : getM es k = (0, keyCode es k) := by rw [getM, if_neg h]
theorem getM_none {es : List Ent} {k : ByteArray} (h : keyCode es k = 0) (h2 : fnd es k = none) : getM es k = (0, 5) := by rw [getM, if_pos h, h2]
theorem getM_some {es : List Ent} {k : ByteArray} {i : Nat} (h : keyCode es k = 0) (h2 : fnd es k = some i) (hi : i < es.length) : getM es k = (es[i].2, 0) := by rw [getM, if_pos h, h2]; simp [hi]
theorem ret_two {a b c d : Int} (h : (a, b) = (c, d)) : Ending.returned (.tuple #[.int .i64 a, .int .i64 b]) = .returned (.tuple #[.int .i64 c, .int .i64 d]) := by cases h; rfl

end Go.Proofs.Ytnlobdhkpmeniaa
