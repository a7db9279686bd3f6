/- Chapter 3 over data: keys of edits; Changed. -/
import Derived.Test.YtnlobdhkpmeniaaA2
import Derived.Test.YtnlobdhkpmeniaaI8
namespace Go.Proofs.Ytnlobdhkpmeniaa.AM
open Go Go.RowKit
set_option linter.unusedVariables false
set_option linter.unusedSimpArgs false
set_option maxRecDepth 100000
attribute [local irreducible] ACode AOps AOps2 RetG RetM Pre ACG
def keysL (es : List Edt) : List ByteArray := es.map fun e => e.key
theorem keysL_snoc (es : List Edt) (k : Nat) (h : k < es.length) : keysL (es.take k) ++ [es[k].key] = keysL (es.take (k + 1)) := by
  unfold keysL
  rw [List.take_succ_eq_append_getElem h, List.map_append]; rfl
theorem keysL_length (es : List Edt) : (keysL es).length = es.length := by simp [keysL]

def changedR (a b : List Ent) : List ByteArray × Int := (keysL (diffR a b).1, (diffR a b).2)
theorem diffL_le (f : Nat) (a b : List Ent) : (diffL f a b).length ≤ a.length + b.length := by
  induction f generalizing a b with
  | zero => simp [diffL]
  | succ f ih =>
    match a, b with
    | [], [] => simp [diffL]
    | x :: a, [] =>
      have := ih a []
      simp only [diffL, List.length_cons]; simp at *; omega
    | [], y :: b =>
      have := ih [] b
      simp only [diffL, List.length_cons]; simp at *; omega
    | x :: a, y :: b =>
      rw [diffL]
      split
      · have := ih a (y :: b); simp at *; omega
      · split
        · have := ih (x :: a) b; simp at *; omega
        · have := ih a b
          split <;> simp at * <;> omega
theorem diffM_len (a b : List Ent) : (diffM a b).length ≤ a.length + b.length := by
  unfold diffM; exact diffL_le _ _ _
theorem diffR_le (a b : List Ent) : (diffR a b).1.length ≤ 8192 := by
  unfold diffR
  split
  · simp
  · split
    · have := diffM_len a b
      show (diffM a b).length ≤ 8192
      omega
    · simp
theorem fill_set {α : Type} (l : List α) (z : α) (k : Nat) (h : k < l.length) : (l.take k ++ List.replicate (l.length - k) z).set k l[k] = l.take (k + 1) ++ List.replicate (l.length - (k + 1)) z := by
  have h1 : l.length - k = (l.length - (k + 1)) + 1 := by omega
  rw [h1, List.replicate_succ, List.set_append_right _ _ (by simp; omega), List.take_succ_eq_append_getElem h, List.append_assoc]
  have : k - (l.take k).length = 0 := by simp; omega
  rw [this]; rfl
theorem diffR_ne {a b : List Ent} (h : ¬ (diffR a b).2 = 0) : (diffR a b).1 = [] := by
  unfold diffR at *
  split
  · rfl
  · rename_i h1
    rw [if_neg h1] at h
    split
    · rename_i h2; rw [if_pos h2] at h; exact absurd rfl h
    · rfl
end Go.Proofs.Ytnlobdhkpmeniaa.AM
