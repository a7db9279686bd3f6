/- A law's arguments opened: slices of edits. -/
import Derived.Test.YtjhimcddgkoghaaOpen
namespace Go.Proofs.Ytjhimcddgkoghaa
open Go.RowKit Go.ChangeShapes Go.WideShapes Go.Deep

section
variable {H : Type} {enc : TypeId × Value → H} {P : Program} {w : World} {base : Nat} {held : Bool}
theorem open_edts {t e : TypeId} {f0 f1 f2 : Field} {A : Option Addr} {n c : Nat} {d : DataW H} {p : List MemPlace} (ht : P.underlying t = some (.slice e)) (he : P.underlying e = some (.struct #[f0, f1, f2]))
    (hone : oneCellFields P #[f0, f1, f2] = true) (hC : P.cellsOf e = 3) (h0 : P.underlying f0.type = some .string) (h1 : P.underlying f1.type = some (.int .i64)) (h2 : P.underlying f2.type = some .bool) (h : DataW.Trod enc P w base (fun _ => true) held t (.slice A n c) d p) :
    ∃ es : List Edt, Rd w 3 A n (edtsC es) ∧ n ≤ maxLen ∧ ∀ e ∈ es, e.key.size ≤ maxLen := by
  obtain ⟨hn, hf⟩ := open_fields ht he hone hC (by simp) h
  rcases Nat.eq_zero_or_pos n with h | hpos
  · subst h
    exact ⟨[], ⟨by simp [edtsC], fun h => absurd h (by omega)⟩, hn, by simp⟩
  obtain ⟨b, off, rfl, hlt, hi⟩ := hf hpos
  obtain ⟨es, hl, hes⟩ := list_of (α := Edt) n (fun i x => w.cell? ⟨b, off + (i * 3 + 0), none⟩ = some (.string x.key) ∧ w.cell? ⟨b, off + (i * 3 + 1), none⟩ = some (.int .i64 x.val) ∧ w.cell? ⟨b, off + (i * 3 + 2), none⟩ = some (.bool x.gone) ∧ x.key.size ≤ maxLen) (fun i hin => by
    obtain ⟨k, hk⟩ := hi i hin
    obtain ⟨v0, y0, c0, t0⟩ := hk 0 f0 rfl
    obtain ⟨v1, y1, c1, t1⟩ := hk 1 f1 rfl
    obtain ⟨v2, y2, c2, t2⟩ := hk 2 f2 rfl
    obtain ⟨s, hs, _, hsz⟩ := DataW.trod_string h0 t0
    obtain ⟨x, hx, _, _⟩ := DataW.trod_int h1 t1
    obtain ⟨g, hg, _⟩ := DataW.trod_bool h2 t2
    simp at hs hx hg
    subst hs; subst hx; subst hg
    exact ⟨⟨s, x, g⟩, c0, c1, c2, hsz⟩)
  refine ⟨es, ⟨by rw [edtsC_length, hl], fun _ => ⟨b, off, rfl, hlt, fun j u hj => ?_⟩⟩, hn, fun e he => ?_⟩
  · have hjl : j < es.length * 3 := by
      rcases Nat.lt_or_ge j (es.length * 3) with h | h
      · exact h
      · rw [List.getElem?_eq_none (by rw [edtsC_length]; exact h)] at hj; cases hj
    have hq : j / 3 < es.length := by omega
    obtain ⟨a0, a1, a2, _⟩ := hes (j / 3) hq
    obtain ⟨e0, e1, e2⟩ := edtsC_at es (j / 3) hq
    have hm : j = j / 3 * 3 + j % 3 := by omega
    have h3 : j % 3 = 0 ∨ j % 3 = 1 ∨ j % 3 = 2 := by omega
    rcases h3 with h2 | h2 | h2
    · rw [h2, Nat.add_zero] at hm
      rw [hm, e0] at hj
      simp at hj
      rw [Nat.add_zero] at a0
      rw [hm, ← hj]; exact a0
    · rw [h2] at hm
      rw [hm, e1] at hj
      simp at hj
      rw [hm, ← hj]; exact a1
    · rw [h2] at hm
      rw [hm, e2] at hj
      simp at hj
      rw [hm, ← hj]; exact a2
  · obtain ⟨i, hi', rfl⟩ := List.getElem_of_mem he
    exact (hes i hi').2.2.2
end
end Go.Proofs.Ytjhimcddgkoghaa
