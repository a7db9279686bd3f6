/- The plain side of ApplyEdits: a list of edits done one after the other. -/
import Derived.Test.YtjhimcddgkoghaaMdl4
namespace Go.Proofs.Ytjhimcddgkoghaa

def applyOne (m : List Ent) (e : Edt) : List Ent := if e.gone then delL m e.key else putL m e.key e.val
def applyL (es : List Ent) (xs : List Edt) : List Ent := xs.foldl applyOne es
theorem applyL_succ (es : List Ent) (xs : List Edt) (k : Nat) (h : k < xs.length) : applyL es (xs.take (k + 1)) = applyOne (applyL es (xs.take k)) xs[k] := by
  rw [applyL, List.take_succ_eq_append_getElem h, List.foldl_append]; rfl
theorem applyL_gone (es : List Ent) (xs : List Edt) (k : Nat) (h : k < xs.length) (hg : xs[k].gone = true) : applyL es (xs.take (k + 1)) = delL (applyL es (xs.take k)) xs[k].key := by
  rw [applyL_succ es xs k h, applyOne, hg]; rfl
theorem applyL_put (es : List Ent) (xs : List Edt) (k : Nat) (h : k < xs.length) (hg : xs[k].gone = false) : applyL es (xs.take (k + 1)) = putL (applyL es (xs.take k)) xs[k].key xs[k].val := by
  rw [applyL_succ es xs k h, applyOne, hg]; rfl
theorem putL_length (es : List Ent) (k : ByteArray) (v : Int) : (putL es k v).length ≤ es.length + 1 := by
  have h1 : es.length = (es.takeWhile fun e => klt e.1 k).length + (es.dropWhile fun e => klt e.1 k).length := by
    rw [← List.length_append, List.takeWhile_append_dropWhile]
  rw [putL, List.length_append, List.length_cons]
  exact Nat.le_trans (Nat.add_le_add_left (Nat.succ_le_succ (List.length_filter_le _ _)) _) (by omega)
theorem delL_length (es : List Ent) (k : ByteArray) : (delL es k).length ≤ es.length := List.length_filter_le _ _
theorem applyL_length (es : List Ent) (xs : List Edt) : (applyL es xs).length ≤ es.length + xs.length := by
  induction xs generalizing es with
  | nil => exact Nat.le_refl _
  | cons x r ih =>
    have h := ih (applyOne es x)
    have h1 : (applyOne es x).length ≤ es.length + 1 := by
      unfold applyOne
      split
      · have := delL_length es x.key; omega
      · exact putL_length _ _ _
    show (applyL (applyOne es x) r).length ≤ es.length + (r.length + 1)
    omega
theorem putL_cons_lt (e : Ent) (r : List Ent) (k : ByteArray) (v : Int) (h : klt e.1 k = true) : putL (e :: r) k v = e :: putL r k v := by simp [putL, h]
theorem putL_cons_ge (e : Ent) (r : List Ent) (k : ByteArray) (v : Int) (h : klt e.1 k = false) : putL (e :: r) k v = (k, v) :: (e :: r).filter (fun e => decide (e.1 ≠ k)) := by
  rw [putL, List.takeWhile_cons_of_neg (by simp [h]), List.dropWhile_cons_of_neg (by simp [h])]; rfl
theorem mem_putL {es : List Ent} {k : ByteArray} {v : Int} {x : Ent} (h : x ∈ putL es k v) : x = (k, v) ∨ x ∈ es := by
  rw [putL, List.mem_append, List.mem_cons] at h
  rcases h with h | h | h
  · exact .inr ((List.takeWhile_sublist _).mem h)
  · exact .inl h
  · exact .inr ((List.dropWhile_sublist _).mem (List.mem_filter.1 h).1)
theorem srt_putL {es : List Ent} (h : Srt es) (k : ByteArray) (v : Int) : Srt (putL es k v) := by
  induction es with
  | nil => simp [putL, Srt]
  | cons e r ih =>
    rw [Srt, List.pairwise_cons] at h
    cases hk : klt e.1 k with
    | true =>
      rw [putL_cons_lt e r k v hk, Srt, List.pairwise_cons]
      refine ⟨fun x hx => ?_, ih h.2⟩
      rcases mem_putL hx with rfl | hx
      · exact hk
      · exact h.1 x hx
    | false =>
      rw [putL_cons_ge e r k v hk, Srt, List.pairwise_cons]
      refine ⟨fun x hx => ?_, (List.pairwise_cons.2 h).filter _⟩
      rw [List.mem_filter, List.mem_cons] at hx
      obtain ⟨hx, hne⟩ := hx
      rcases hx with rfl | hx
      · exact klt_tri hk (by simpa using hne)
      · exact klt_of_le hk (h.1 x hx)
theorem srt_delL {es : List Ent} (h : Srt es) (k : ByteArray) : Srt (delL es k) := List.Pairwise.filter _ h
theorem srt_applyL {es : List Ent} (h : Srt es) (xs : List Edt) : Srt (applyL es xs) := by
  induction xs generalizing es with
  | nil => exact h
  | cons x r ih =>
    refine ih (es := applyOne es x) ?_
    unfold applyOne
    split
    · exact srt_delL h _
    · exact srt_putL h _ _
theorem mapOK_le {es : List Ent} (h : mapOK es = true) : es.length ≤ 12 := by
  rcases Nat.lt_or_ge 12 es.length with h2 | h2
  · rw [mapOK_long h2] at h; cases h
  · exact h2
theorem editsOK_le {es : List Edt} (h : editsOK es = true) : es.length ≤ 6 := by
  rcases Nat.lt_or_ge 6 es.length with h2 | h2
  · rw [editsOK_long h2] at h; cases h
  · exact h2

end Go.Proofs.Ytjhimcddgkoghaa
