/- The law's helpers on edits: a row of edits is marked and held against its marks. -/
import Derived.Test.YtnlobdhkpmeniaaLawF
import Derived.Test.YtnlobdhkpmeniaaLawM
namespace Go.Proofs.Ytnlobdhkpmeniaa
open Go.RowKit

/-- what a row of edits holds behind its marking, from mark k on -/
def markedE : Nat → Int → List Edt
  | 0, _ => []
  | n + 1, k => ⟨markB k, k + 1, (k + 2) % 3 == 0⟩ :: markedE n (k + 3)
theorem markedE_length (n : Nat) (k : Int) : (markedE n k).length = n := by
  induction n generalizing k with
  | zero => rfl
  | succ n ih => simp [markedE, ih]
theorem markedE_snoc (n : Nat) (k : Int) : markedE (n + 1) k = markedE n k ++ [⟨markB (k + 3 * n), k + 3 * n + 1, (k + 3 * n + 2) % 3 == 0⟩] := by
  induction n generalizing k with
  | zero => simp [markedE]
  | succ n ih =>
    rw [markedE, ih, markedE, List.cons_append]
    have e : k + 3 + 3 * (n : Int) = k + 3 * ((n + 1 : Nat) : Int) := by omega
    rw [e]
theorem markedE_get (n : Nat) (k0 : Int) (k : Nat) (h : k < n) : (markedE n k0)[k]'(by rw [markedE_length]; exact h) = ⟨markB (k0 + 3 * k), k0 + 3 * k + 1, (k0 + 3 * k + 2) % 3 == 0⟩ := by
  induction n generalizing k0 k with
  | zero => omega
  | succ n ih =>
    cases k with
    | zero => simp [markedE]
    | succ k =>
      have := ih (k0 + 3) k (by omega)
      have e : k0 + 3 * ((k + 1 : Nat) : Int) = k0 + 3 + 3 * (k : Int) := by omega
      rw [e, ← this]; simp [markedE]

end Go.Proofs.Ytnlobdhkpmeniaa
