/- Chapter 3 over data: bounds of the results. -/
import Derived.Test.YtmafbodblpgcjaaB5
namespace Go.Proofs.Ytmafbodblpgcjaa.AM
open Go Go.RowKit
set_option linter.unusedVariables false
theorem ac_eqEntryS' {es : List Ent} (hm : es.length ≤ maxLen) : AC Try.prog 57 [.lst 2 (es.map entA), .lst 2 (es.map entA)] ⟨.v (.bool true), []⟩ := by
  have := ac_eqEntryS hm hm
  simpa using this
theorem toldR_bd (m : List Ent) {c : List ByteArray} (h : c.length ≤ 100) : (toldR m c).1.length ≤ 12 ∧ (toldR m c).2.1.length ≤ 100 := by
  unfold toldR
  split
  · exact ⟨by simp, h⟩
  · split
    · exact ⟨by simp, by simp⟩
    · rename_i h2; exact ⟨by show m.length ≤ 12; omega, by simp⟩
theorem merge3R_bd (base a b : List Ent) : (merge3R base a b).1.length ≤ 12 ∧ (merge3R base a b).2.1.length ≤ 100 := by
  unfold merge3R
  split
  · exact ⟨by simp, by simp⟩
  · split
    · rename_i h
      have h0 := mapOK_le h.1
      have h1 := mapOK_le h.2.2
      have := clsL_length base a b
      exact toldR_bd _ (by omega)
    · exact ⟨by simp, by simp⟩
theorem mergeER_bd (base : List Ent) (a b : List Edt) : (mergeER base a b).1.length ≤ 12 ∧ (mergeER base a b).2.1.length ≤ 100 := by
  unfold mergeER
  split
  · exact ⟨by simp, by simp⟩
  · split
    · rename_i h
      have h0 := mapOK_le h.1
      have h1 := editsOK_le h.2.2
      have h2 := applyL_length base b
      have := clsL_length base (applyL base a) (applyL base b)
      exact toldR_bd _ (by omega)
    · exact ⟨by simp, by simp⟩
theorem rebaseR_bd (base a b : List Ent) : (rebaseR base a b).1.length ≤ 24 ∧ (rebaseR base a b).2.1.length ≤ 100 := by
  by_cases h : (merge3R base a b).2.2 = 0
  · obtain ⟨_, k1, k2, k3⟩ := merge3R_ok h
    have b2 := mapOK_le k3
    have := diffM_len b (merge3R base a b).1
    rw [rebaseR, if_pos h]
    exact ⟨by show (diffM _ _).length ≤ 24; omega, by simp⟩
  · rw [rebaseR_no h]
    exact ⟨by simp, (merge3R_bd base a b).2⟩
end Go.Proofs.Ytmafbodblpgcjaa.AM
