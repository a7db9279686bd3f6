/- Drawn maps and edits, the plain side: drawn keys, in order, small values. -/
import Derived.Test.YtjhimcddgkoghaaMdl5
namespace Go.Proofs.Ytjhimcddgkoghaa.AM
open Go Go.RowKit
set_option linter.unusedVariables false
def keys8 : List ByteArray := [⟨#[97]⟩, ⟨#[98]⟩, ⟨#[99]⟩, ⟨#[100]⟩, ⟨#[101]⟩, ⟨#[107, 49]⟩, ⟨#[107, 50]⟩, ⟨#[122, 122]⟩]
theorem keys8_nm : (keys8.all fun k => nm k && decide (k.size ≤ 12)) = true := by kernel_rfl
theorem keys8_ok {k : ByteArray} (h : k ∈ keys8) : nm k = true ∧ k.size ≤ 12 := by
  have := List.all_eq_true.1 keys8_nm k h
  simpa using this
/-- a map as the draws make one -/
def Good (es : List Ent) : Prop := Srt es ∧ ∀ e ∈ es, e.1 ∈ keys8 ∧ 0 ≤ e.2 ∧ e.2 < 9
theorem Good.nil : Good [] := ⟨List.Pairwise.nil, by simp⟩
theorem Good.put {es : List Ent} (h : Good es) {k : ByteArray} (hk : k ∈ keys8) {v : Int} (h0 : 0 ≤ v) (h1 : v < 9) : Good (putL es k v) :=
  ⟨srt_putL h.1 k v, fun e he => by
    rcases mem_putL he with rfl | he
    · exact ⟨hk, h0, h1⟩
    · exact h.2 e he⟩
theorem Good.del {es : List Ent} (h : Good es) (k : ByteArray) : Good (delL es k) := ⟨srt_delL h.1 k, fun e he => h.2 e (List.mem_filter.1 he).1⟩
theorem ordM_of_srt {es : List Ent} (h : Srt es) (hn : ∀ e ∈ es, nm e.1 = true) : ordM es = true := ordM_of fun i hi => by
  rw [ordAt, kAt_eq es i hi, hn _ (List.getElem_mem hi), Bool.true_and]
  rcases Nat.eq_zero_or_pos i with h0 | h0
  · rw [decide_eq_true h0]; rfl
  · have h2 := (List.pairwise_iff_getElem.1 h) (i - 1) i (by omega) hi (by omega)
    rw [kAt_eq es (i - 1) (by omega), h2, Bool.or_true]
theorem Good.ok {es : List Ent} (h : Good es) (hl : es.length ≤ 12) : mapOK es = true :=
  mapOK_of hl fun i hi => by
    have he := h.2 _ (List.getElem_mem hi)
    refine ⟨ordM_at (ordM_of_srt h.1 fun e he => (keys8_ok (h.2 e he).1).1) hi, ?_⟩
    have e1 : valAt es i = valB es[i].2 := by simp [valAt, hi]
    rw [e1, valB, decide_eq_true (by omega), decide_eq_true (by omega)]; rfl
theorem Good.small {es : List Ent} (h : Good es) : ∀ e ∈ es, e.1.size ≤ maxLen := fun e he => by
  have := (keys8_ok (h.2 e he).1).2
  unfold maxLen; omega
/-- edits as the draws make them -/
def GoodE (xs : List Edt) : Prop := xs.Pairwise (fun a b => klt a.key b.key = true) ∧ ∀ e ∈ xs, e.key ∈ keys8 ∧ 0 ≤ e.val ∧ e.val < 9 ∧ (e.gone = true → e.val = 0)
theorem GoodE.nil : GoodE [] := ⟨List.Pairwise.nil, by simp⟩
theorem GoodE.small {xs : List Edt} (h : GoodE xs) : ∀ e ∈ xs, e.key.size ≤ maxLen := fun e he => by
  have := (keys8_ok (h.2 e he).1).2
  unfold maxLen; omega
theorem Good.apply : ∀ (xs : List Edt) {es : List Ent}, Good es → (∀ e ∈ xs, e.key ∈ keys8 ∧ 0 ≤ e.val ∧ e.val < 9) → Good (applyL es xs)
  | [], _, h, _ => h
  | e :: xs, es, h, hx => by
    show Good (applyL (applyOne es e) xs)
    refine Good.apply xs ?_ (fun x hx' => hx x (by simp [hx']))
    obtain ⟨h1, h2, h3⟩ := hx e (by simp)
    unfold applyOne
    split
    · exact h.del _
    · exact h.put h1 h2 h3
theorem Good.applyE {xs : List Edt} {es : List Ent} (h : Good es) (hx : GoodE xs) : Good (applyL es xs) := h.apply xs fun e he => ⟨(hx.2 e he).1, (hx.2 e he).2.1, (hx.2 e he).2.2.1⟩
end Go.Proofs.Ytjhimcddgkoghaa.AM
