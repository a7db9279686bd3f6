/- The law FnExactSameMap, walked: for every two slices of entries it answers true and writes nothing that was there. -/
import Derived.Test.YtbdippplmcdgaaaS6
import Derived.Test.YtbdippplmcdgaaaLawM
namespace Go.Proofs.Ytbdippplmcdgaaa
open Go.RowKit

set_option maxHeartbeats 1000000 in
theorem specSameMap_any (A : Option Addr) (n c : Nat) (es : List Ent) (A' : Option Addr) (n' c' : Nat) (es' : List Ent) (w : World) (hr : Rd w 2 A n (entsC es)) (hr' : Rd w 2 A' n' (entsC es')) (hm : n ≤ maxLen) (hm' : n' ≤ maxLen) (hks : ∀ e ∈ es, e.1.size ≤ maxLen) (hks' : ∀ e ∈ es', e.1.size ≤ maxLen) :
    Calls Try.prog 46 #[.slice A n c, .slice A' n' c'] w fun e w' => e = .returned (.bool (sameM es es')) ∧ Below w.heap.size w w' := by
  have hlen := hr.len
  have hlen' := hr'.len
  by_cases hl : 4096 < n ∨ 4096 < n'
  · have hfin := Lib.hid (show sameM es es' = false by
      unfold sameM
      rcases hl with h | h
      · rw [mapOK_long (es := es) (by omega)]; rfl
      · rw [mapOK_long (es := es') (by omega)]; cases mapOK es <;> rfl)
    clear hlen hlen'
    rcases hl with h | h
    all_goals
      go_enter Try.func46, Try.ntmps46
      go_wp2
      all_goals
        go_ret
        exact ⟨ret_bool hfin.out.symm, Below.refl _ _⟩
  have hl1 : n ≤ 4096 := by omega
  have hl2 : n' ≤ 4096 := by omega
  clear hl hlen hlen'
  have h1 := l01OK_any A n c es w hr hm hks
  have h2 := fun W (hW : Below w.heap.size w W) => l01OK_any A' n' c' es' W (hr'.below hW (Nat.le_refl _)) hm' hks'
  have h3 := fun W (hW : Below w.heap.size w W) => l01Same_any A n c es A' n' c' es' W (hr.below hW (Nat.le_refl _)) (hr'.below hW (Nat.le_refl _)) hm hm'
  have hfin : Hid (sameM es es' = (mapOK es && (mapOK es' && decide (es = es')))) := rfl
  generalize sameM es es' = res at *
  generalize mapOK es = b1 at *
  generalize mapOK es' = b2 at *
  generalize decide (es = es') = b3 at *
  have H1 := Lib.hid h1
  have H2 := Lib.hid h2
  have H3 := Lib.hid h3
  clear h1 h2 h3
  cases b1 <;> cases b2
  all_goals
    go_enter Try.func46, Try.ntmps46
    go_wp2_with fail
    refine H1.out.mono ?_
    rintro e w1 ⟨rfl, hb1⟩
    go_wp2_with fail
  · go_ret
    exact ⟨ret_bool (by rw [hfin.out]; rfl), hb1⟩
  · go_ret
    exact ⟨ret_bool (by rw [hfin.out]; rfl), hb1⟩
  · refine (H2.out _ hb1).mono ?_
    rintro e w2 ⟨rfl, hb2⟩
    have hb02 := keepS hb1 hb2
    go_wp2
    go_ret
    exact ⟨ret_bool (by rw [hfin.out]; rfl), hb02⟩
  · refine (H2.out _ hb1).mono ?_
    rintro e w2 ⟨rfl, hb2⟩
    have hb02 := keepS hb1 hb2
    go_wp2_with fail
    refine (H3.out _ hb02).mono ?_
    rintro e w3 ⟨rfl, hb3⟩
    have hb03 := keepS hb02 hb3
    go_wp2
    go_ret
    exact ⟨ret_bool (by rw [hfin.out]; rfl), hb03⟩

set_option maxHeartbeats 1000000 in
set_option maxRecDepth 100000 in
theorem lawSameMap_any (A : Option Addr) (n c : Nat) (es : List Ent) (A' : Option Addr) (n' c' : Nat) (es' : List Ent) (w : World) (hr : Rd w 2 A n (entsC es)) (hm : n ≤ maxLen) (hks : ∀ e ∈ es, e.1.size ≤ maxLen) (hr' : Rd w 2 A' n' (entsC es')) (hm' : n' ≤ maxLen) (hks' : ∀ e ∈ es', e.1.size ≤ maxLen) :
    Calls Try.prog 13 #[.slice A n c, .slice A' n' c'] w fun e w' => e = .returned (.bool true) ∧ Below w.heap.size w w' := by
  have hlen := hr.len
  have hlen' := hr'.len
  go_enter Try.func13, Try.ntmps13
  go_wp2_with fail
  refine (szEntryS_any A n c es _ w hr hm hks (by omega) (by omega)).mono ?_
  rintro e w1 ⟨r, rfl, hP, hb01⟩
  by_cases hneg : r < 0
  · clear hP
    go_wp2
    go_ret
    exact ⟨rfl, hb01⟩
  obtain ⟨hr0, hr1, hn, _⟩ : 0 ≤ r ∧ r ≤ 1048576 ∧ es.length ≤ 1048576 ∧ ∀ e ∈ es, e.1.size ≤ 1048576 := by
    rcases hP with h | h
    · exact absurd h hneg
    · exact h
  have hn1 : n ≤ 1048576 := by omega
  clear hP hneg hn
  go_wp2_with fail
  refine (szEntryS_any A' n' c' es' _ _ (hr'.below hb01 (Nat.le_refl _)) hm' hks' (by omega) (by omega)).mono ?_
  rintro e w2 ⟨r2, rfl, hP, hb2⟩
  have hb02 := keepS hb01 hb2
  by_cases hneg : r2 < 0
  · clear hP
    go_wp2
    go_ret
    exact ⟨rfl, hb02⟩
  obtain ⟨hr20, _, hn, _⟩ : 0 ≤ r2 ∧ r2 ≤ r ∧ es'.length ≤ 1048576 ∧ ∀ e ∈ es', e.1.size ≤ 1048576 := by
    rcases hP with h | h
    · exact absurd h hneg
    · exact h
  have hn2 : n' ≤ 1048576 := by omega
  clear hP hneg hn
  have Hlen := Lib.hid hlen; clear hlen
  have Hlen' := Lib.hid hlen'; clear hlen'
  go_wp2_with fail
  refine (toEntryS_any A n c es _ (hr.below hb02 (Nat.le_refl _)) hn1).mono ?_
  rintro e w3 ⟨v3, rfl, ho3, hb3⟩
  have hb03 := keepS hb02 hb3
  obtain ⟨A3, c3, rfl, _, _, hrd3⟩ := Rd.of_own ho3
  clear ho3
  go_wp2_with fail
  refine (toEntryS_any A' n' c' es' _ (hr'.below hb03 (Nat.le_refl _)) hn2).mono ?_
  rintro e w4 ⟨v4, rfl, ho4, hb4⟩
  have hb04 := keepS hb03 hb4
  obtain ⟨A4, c4, rfl, _, _, hrd4⟩ := Rd.of_own ho4
  clear ho4
  go_wp2_with fail
  refine (specSameMap_any A3 n c3 es A4 n' c4 es' _ (hrd3.below hb4 (Nat.le_refl _)) hrd4 hm hm' hks hks').mono ?_
  rintro e w5 ⟨rfl, hb5⟩
  have hb05 := keepS hb04 hb5
  generalize hres : sameM es es' = res at *
  have Hres := Lib.hid hres; clear hres
  clear hrd3 hrd4
  go_wp2_with fail
  refine (toEntryS_any A n c es _ (hr.below hb05 (Nat.le_refl _)) hn1).mono ?_
  rintro e w6 ⟨v6, rfl, ho6, hb6⟩
  have hb06 := keepS hb05 hb6
  obtain ⟨A6, c6, rfl, _, _, hrd6⟩ := Rd.of_own ho6
  clear ho6
  go_wp2_with fail
  refine (toEntryS_any A' n' c' es' _ (hr'.below hb06 (Nat.le_refl _)) hn2).mono ?_
  rintro e w7 ⟨v7, rfl, ho7, hb7⟩
  have hb07 := keepS hb06 hb7
  have hrd67 := hrd6.below hb7 (Nat.le_refl _)
  obtain ⟨A7, c7, rfl, _, _, hrd7⟩ := Rd.of_own ho7
  clear ho7 hrd6
  go_wp2_with fail
  refine (implSameMap_any A6 n c6 es A7 n' c7 es' _ hrd67 hrd7 hm hm' hks hks').mono ?_
  rw [Hres.out]
  rintro e w8 ⟨rfl, hb8⟩
  have hb08 := keepS hb07 hb8
  have hrd68 := hrd67.below hb8 (Nat.le_refl _)
  have hrd78 := hrd7.below hb8 (Nat.le_refl _)
  clear hrd67 hrd7
  go_wp2_with fail
  refine (toEntryS_any A n c es _ (hr.below hb08 (Nat.le_refl _)) hn1).mono ?_
  rintro e w9 ⟨v9, rfl, ho9, hb9⟩
  have hb09 := keepS hb08 hb9
  obtain ⟨A9, c9, rfl, _, _, hrd9⟩ := Rd.of_own ho9
  clear ho9
  go_wp2_with fail
  refine (eqEntryS_any A6 n c6 es A9 n c9 es _ (hrd68.below hb9 (Nat.le_refl _)) hrd9 hm hm).mono ?_
  rintro e w10 ⟨rfl, hb10⟩
  have hb010 := keepS hb09 hb10
  have hrd710 := (hrd78.below hb9 (Nat.le_refl _)).below hb10 (Nat.le_refl _)
  rw [decide_eq_true (rfl : es = es)]
  clear hrd68 hrd9 hrd78
  go_wp2_with fail
  refine (toEntryS_any A' n' c' es' _ (hr'.below hb010 (Nat.le_refl _)) hn2).mono ?_
  rintro e w11 ⟨v11, rfl, ho11, hb11⟩
  have hb011 := keepS hb010 hb11
  obtain ⟨A11, c11, rfl, _, _, hrd11⟩ := Rd.of_own ho11
  clear ho11
  go_wp2_with fail
  refine (eqEntryS_any A7 n' c7 es' A11 n' c11 es' _ (hrd710.below hb11 (Nat.le_refl _)) hrd11 hm' hm').mono ?_
  rintro e w12 ⟨rfl, hb12⟩
  have hb012 := keepS hb011 hb12
  rw [decide_eq_true (rfl : es' = es')]
  clear hrd710 hrd11
  go_wp2
  go_ret
  exact ⟨rfl, hb012⟩

end Go.Proofs.Ytbdippplmcdgaaa
