/- The law FnExactEditsOK, walked: for every slice of edits it answers true and writes nothing that was there. -/
import Derived.Test.YtbdippplmcdgaaaM4
import Derived.Test.YtbdippplmcdgaaaLawN
namespace Go.Proofs.Ytbdippplmcdgaaa
open Go.RowKit

set_option maxHeartbeats 1000000 in
set_option maxRecDepth 100000 in
/-- For every slice of edits the law FnExactEditsOK answers true and writes nothing that was there. -/
theorem lawEditsOK_any (A : Option Addr) (n c : Nat) (es : List Edt) (w : World) (hr : Rd w 3 A n (edtsC es)) (hm : n ≤ maxLen) (hks : ∀ e ∈ es, e.key.size ≤ maxLen) :
    Calls Try.prog 9 #[.slice A n c] w fun e w' => e = .returned (.bool true) ∧ Below w.heap.size w w' := by
  have hlen := hr.elen
  go_enter Try.func9, Try.ntmps9
  go_wp2_with fail
  refine (szEditS_any A n c es _ w hr hm hks (by omega) (by omega)).mono ?_
  rintro e w1 ⟨r, rfl, hP, hb1⟩
  by_cases hneg : r < 0
  · clear hP
    go_wp2
    go_ret
    exact ⟨rfl, hb1⟩
  obtain ⟨hr0, _, hn, hks'⟩ : 0 ≤ r ∧ r ≤ 1048576 ∧ es.length ≤ 1048576 ∧ ∀ e ∈ es, e.key.size ≤ 1048576 := by
    rcases hP with h | h
    · exact absurd h hneg
    · exact h
  have hn' : n ≤ 1048576 := by omega
  clear hP hneg hks' hn
  have Hlen := Lib.hid hlen; clear hlen
  go_wp2_with fail
  refine (toEditS_any A n c es _ (hr.below hb1 (Nat.le_refl _)) hn').mono ?_
  rintro e w2 ⟨v2, rfl, ho2, hb2⟩
  have hb02 := keepS hb1 hb2
  obtain ⟨A2, c2, rfl, _, _, hrd2⟩ := Rd.of_own ho2
  have HO2 := Lib.hid ho2; clear ho2
  go_wp2_with fail
  refine (specEditsOK_any A2 n c2 es _ hrd2 hm hks).mono ?_
  rintro e w3 ⟨rfl, hb3⟩
  have hb03 := keepS hb02 hb3
  go_wp2_with fail
  refine (toEditS_any A n c es _ (hr.below hb03 (Nat.le_refl _)) hn').mono ?_
  rintro e w4 ⟨v4, rfl, ho4, hb4⟩
  have hb04 := keepS hb03 hb4
  obtain ⟨A4, c4, rfl, _, _, hrd4⟩ := Rd.of_own ho4
  have HO4 := Lib.hid ho4; clear ho4
  go_wp2_with fail
  refine (implEditsOK_any A4 n c4 es _ hrd4 hm hks).mono ?_
  rintro e w5 ⟨rfl, hb5⟩
  have hb05 := keepS hb04 hb5
  go_wp2_with fail
  refine (toEditS_any A n c es _ (hr.below hb05 (Nat.le_refl _)) hn').mono ?_
  rintro e w6 ⟨v6, rfl, ho6, hb6⟩
  have hb06 := keepS hb05 hb6
  obtain ⟨A6, c6, rfl, _, _, hrd6⟩ := Rd.of_own ho6
  have HO6 := Lib.hid ho6; clear ho6
  go_wp2_with fail
  refine (eqEditS_any A4 n c4 es A6 n c6 es _ ((hrd4.below hb5 (Nat.le_refl _)).below hb6 (Nat.le_refl _)) hrd6 hm hm rfl).mono ?_
  rintro e w7 ⟨rfl, hb7⟩
  have hb07 := keepS hb06 hb7
  go_wp2
  go_ret
  exact ⟨rfl, hb07⟩

end Go.Proofs.Ytbdippplmcdgaaa
