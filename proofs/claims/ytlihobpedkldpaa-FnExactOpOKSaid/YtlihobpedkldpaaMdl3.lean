/- The document's way of putting in, step by step, comes to 'putL'. -/
import Derived.Test.YtlihobpedkldpaaMdl2
namespace Go.Proofs.Ytlihobpedkldpaa

def putStep (k : ByteArray) (v : Int) (s : List Ent × Bool) (e : Ent) : List Ent × Bool :=
  if s.2 = false ∧ klt e.1 k = false then (if e.1 = k then s.1 ++ [(k, v)] else s.1 ++ [(k, v)] ++ [e], true) else (if e.1 = k then s.1 else s.1 ++ [e], s.2)
def putTo (es : List Ent) (k : ByteArray) (v : Int) (i : Nat) : List Ent × Bool := (es.take i).foldl (putStep k v) ([], false)
theorem putTo_zero (es : List Ent) (k : ByteArray) (v : Int) : putTo es k v 0 = ([], false) := by simp [putTo]
theorem putTo_succ (es : List Ent) (k : ByteArray) (v : Int) (i : Nat) (h : i < es.length) : putTo es k v (i + 1) = putStep k v (putTo es k v i) es[i] := by
  rw [putTo, List.take_succ_eq_append_getElem h, List.foldl_append]; rfl
theorem putFold_true (k : ByteArray) (v : Int) (es acc : List Ent) : es.foldl (putStep k v) (acc, true) = (acc ++ es.filter (fun e => decide (e.1 ≠ k)), true) := by
  induction es generalizing acc with
  | nil => simp
  | cons e r ih =>
    rw [List.foldl_cons]
    by_cases he : e.1 = k
    · rw [show putStep k v (acc, true) e = (acc, true) by simp [putStep, he], ih, List.filter_cons_of_neg (by simpa using he)]
    · rw [show putStep k v (acc, true) e = (acc ++ [e], true) by simp [putStep, he], ih, List.filter_cons_of_pos (by simpa using he)]; simp
theorem putFold (k : ByteArray) (v : Int) (es acc : List Ent) : (if (es.foldl (putStep k v) (acc, false)).2 then (es.foldl (putStep k v) (acc, false)).1 else (es.foldl (putStep k v) (acc, false)).1 ++ [(k, v)]) = acc ++ putL es k v := by
  induction es generalizing acc with
  | nil => simp [putL]
  | cons e r ih =>
    rw [List.foldl_cons]
    cases hk : klt e.1 k with
    | true =>
      have hne := klt_ne hk
      rw [show putStep k v (acc, false) e = (acc ++ [e], false) by simp [putStep, hk, hne], ih]
      simp [putL, hk]
    | false =>
      by_cases he : e.1 = k
      · subst he
        rw [show putStep e.1 v (acc, false) e = (acc ++ [(e.1, v)], true) by simp [putStep, klt_irrefl], putFold_true]
        simp [putL, klt_irrefl]
      · rw [show putStep k v (acc, false) e = (acc ++ [(k, v)] ++ [e], true) by simp [putStep, hk, he], putFold_true]
        simp [putL, hk, he]
theorem putTo_end (es : List Ent) (k : ByteArray) (v : Int) : (if (putTo es k v es.length).2 then (putTo es k v es.length).1 else (putTo es k v es.length).1 ++ [(k, v)]) = putL es k v := by
  have := putFold k v es []
  rw [putTo, List.take_length]
  rw [List.nil_append] at this; exact this
theorem putTo_len (es : List Ent) (k : ByteArray) (v : Int) (i : Nat) (h : i ≤ es.length) : (putTo es k v i).1.length ≤ i + (if (putTo es k v i).2 then 1 else 0) := by
  induction i with
  | zero => simp [putTo_zero]
  | succ i ih =>
    have ih := ih (by omega)
    rw [putTo_succ es k v i (by omega)]
    generalize putTo es k v i = s at *
    obtain ⟨s1, s2⟩ := s
    unfold putStep
    cases s2 <;> simp at ih ⊢ <;> (repeat' split) <;> simp at * <;> omega
theorem putTo_len2 (es : List Ent) (k : ByteArray) (v : Int) (i : Nat) (h : i ≤ es.length) : (putTo es k v i).1.length ≤ i + 1 := by
  have := putTo_len es k v i h
  split at this <;> omega
theorem putStep_old {k : ByteArray} {v : Int} {s : List Ent × Bool} {e : Ent} (h : s.2 = true ∨ klt e.1 k = true) : putStep k v s e = (if e.1 = k then s.1 else s.1 ++ [e], s.2) := by
  rw [putStep, if_neg]
  rintro ⟨a, b⟩
  rcases h with h | h
  · rw [h] at a; cases a
  · rw [h] at b; cases b
theorem putStep_new {k : ByteArray} {v : Int} {s : List Ent × Bool} {e : Ent} (h : s.2 = false) (h2 : klt e.1 k = false) : putStep k v s e = (if e.1 = k then s.1 ++ [(k, v)] else s.1 ++ [(k, v)] ++ [e], true) := by
  rw [putStep, if_pos ⟨h, h2⟩]

end Go.Proofs.Ytlihobpedkldpaa
