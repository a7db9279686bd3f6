/- The plain side of the law on maps: what was put is found, what was taken out is not, the rest stays. -/
import Derived.Test.YtbdippplmcdgaaaD3
namespace Go.Proofs.Ytbdippplmcdgaaa

def Good (es : List Ent) : Prop := Srt es ∧ ∀ e ∈ es, e.1 ∈ keys8 ∧ 0 ≤ e.2 ∧ e.2 < 1000
theorem Drawn.good {es : List Ent} (h : Drawn es) : Good es := ⟨h.1, fun e he => ⟨(h.2 e he).1, (h.2 e he).2.1, by have := (h.2 e he).2.2; omega⟩⟩
theorem Good.put {es : List Ent} (h : Good es) {k : ByteArray} (hk : k ∈ keys8) {v : Int} (h0 : 0 ≤ v) (h1 : v < 1000) : Good (putL es k v) :=
  ⟨srt_putL h.1 k v, fun e he => by
    rcases mem_putL he with rfl | he
    · exact ⟨hk, h0, h1⟩
    · exact h.2 e he⟩
theorem Good.del {es : List Ent} (h : Good es) (k : ByteArray) : Good (delL es k) := ⟨srt_delL h.1 k, fun e he => h.2 e (List.mem_filter.1 he).1⟩
theorem Good.ok {es : List Ent} (h : Good es) (hl : es.length ≤ 12) : mapOK es = true :=
  mapOK_of hl fun i hi => by
    have he := h.2 _ (List.getElem_mem hi)
    refine ⟨ordM_at (ordM_of_srt h.1 fun e he => (keys8_ok (h.2 e he).1).1) hi, ?_⟩
    have e1 : valAt es i = valB es[i].2 := by simp [valAt, hi]
    rw [e1, valB, decide_eq_true (by omega), decide_eq_true (by omega)]; rfl
theorem Good.code {es : List Ent} (h : Good es) (hl : es.length ≤ 12) {k : ByteArray} (hk : k ∈ keys8) : keyCode es k = 0 := by
  have h1 := keys8_ok hk
  rw [keyCode, if_neg (by omega), if_pos ⟨h.ok hl, h1.1⟩]
theorem Good.small {es : List Ent} (h : Good es) : ∀ e ∈ es, e.1.size ≤ maxLen := fun e he => by
  have := (keys8_ok (h.2 e he).1).2
  unfold maxLen; omega
theorem mem_put_self (es : List Ent) (k : ByteArray) (v : Int) : (k, v) ∈ putL es k v := by rw [putL]; simp
theorem mem_put_other {es : List Ent} {k : ByteArray} {v : Int} {e : Ent} (h : e ∈ es) (hne : e.1 ≠ k) : e ∈ putL es k v := by
  have h2 : e ∈ es.takeWhile (fun e => klt e.1 k) ++ es.dropWhile (fun e => klt e.1 k) := by rw [List.takeWhile_append_dropWhile]; exact h
  rw [List.mem_append] at h2
  rw [putL, List.mem_append, List.mem_cons]
  rcases h2 with h2 | h2
  · exact .inl h2
  · exact .inr (.inr (List.mem_filter.2 ⟨h2, by simpa using hne⟩))
theorem mem_del_other {es : List Ent} {k : ByteArray} {e : Ent} (h : e ∈ es) (hne : e.1 ≠ k) : e ∈ delL es k := List.mem_filter.2 ⟨h, by simpa using hne⟩
theorem fnd_mem {es : List Ent} (hs : Srt es) {k : ByteArray} {v : Int} (h : (k, v) ∈ es) : ∃ i, ∃ hi : i < es.length, fnd es k = some i ∧ es[i] = (k, v) := by
  obtain ⟨i, hi, he⟩ := List.getElem_of_mem h
  refine ⟨i, hi, fnd_some hi (by rw [he]) fun j hj => ?_, he⟩
  have h1 := (List.pairwise_iff_getElem.1 hs) j i (by omega) hi hj
  rw [he] at h1
  exact klt_ne h1
theorem getM_mem {es : List Ent} {k : ByteArray} {v : Int} (hc : keyCode es k = 0) (hs : Srt es) (h : (k, v) ∈ es) : getM es k = (v, 0) := by
  obtain ⟨i, hi, hf, he⟩ := fnd_mem hs h
  rw [getM, if_pos hc, hf]
  simp [hi, he]
theorem getM_gone {es : List Ent} {k : ByteArray} (hc : keyCode (delL es k) k = 0) : getM (delL es k) k = (0, 5) := by
  have hf : fnd (delL es k) k = none := by
    rw [fnd, List.findIdx?_eq_none_iff]
    intro e he
    have := (List.mem_filter.1 he).2
    simpa using this
  rw [getM, if_pos hc, hf]
theorem delM_mem {es : List Ent} {k : ByteArray} {v : Int} (hc : keyCode es k = 0) (hs : Srt es) (h : (k, v) ∈ es) : delM es k = (delL es k, 0) := by
  obtain ⟨i, hi, hf, he⟩ := fnd_mem hs h
  rw [delM, if_pos hc, hf]
theorem putM_good {es : List Ent} {k : ByteArray} {v : Int} (hc : keyCode es k = 0) (hl : (putL es k v).length ≤ 12) (h0 : 0 ≤ v) (h1 : v < 1000) : putM es k v = (putL es k v, 0) := by
  rw [putM, if_pos hc, if_pos (by rw [valB, decide_eq_true (by omega), decide_eq_true (by omega)]; rfl), if_pos hl]

end Go.Proofs.Ytbdippplmcdgaaa
