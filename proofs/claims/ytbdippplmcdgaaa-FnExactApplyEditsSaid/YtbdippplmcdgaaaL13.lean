/- The law FnExactApplyEdits, walked: for every slice of entries and every slice of edits it answers true and writes nothing that was there. -/
import Derived.Test.YtbdippplmcdgaaaI9
import Derived.Test.YtbdippplmcdgaaaOwn
import Derived.Test.YtbdippplmcdgaaaLawN
namespace Go.Proofs.Ytbdippplmcdgaaa
open Go.RowKit

set_option maxHeartbeats 4000000 in
set_option maxRecDepth 100000 in
theorem lawApplyEdits_any (A : Option Addr) (n c : Nat) (es : List Ent) (A' : Option Addr) (n' c' : Nat) (es' : List Edt) (w : World) (hr : Rd w 2 A n (entsC es)) (hm : n ≤ maxLen) (hks : ∀ e ∈ es, e.1.size ≤ maxLen) (hr' : Rd w 3 A' n' (edtsC es')) (hm' : n' ≤ maxLen) (hks' : ∀ e ∈ es', e.key.size ≤ maxLen) :
    Calls Try.prog 10 #[.slice A n c, .slice A' n' c'] w fun e w' => e = .returned (.bool true) ∧ Below w.heap.size w w' := by
  have hlen := hr.len
  have hlen' := hr'.elen
  go_enter Try.func10, Try.ntmps10
  go_wp2_with fail
  refine (szEntryS_any A n c es _ w hr hm hks (by omega) (by omega)).mono ?_
  rintro e w1 ⟨r, rfl, hP, hb01⟩
  by_cases hneg : r < 0
  · clear hP
    go_wp2
    go_ret
    exact ⟨rfl, hb01⟩
  obtain ⟨hr0, hr1, hn, _⟩ : 0 ≤ r ∧ r ≤ 1048576 ∧ es.length ≤ 1048576 ∧ ∀ e ∈ es, e.1.size ≤ 1048576 := by
    rcases hP with h | h
    · exact absurd h hneg
    · exact h
  have hn1 : n ≤ 1048576 := by omega
  clear hP hneg hn
  go_wp2_with fail
  refine (szEditS_any A' n' c' es' _ _ (hr'.below hb01 (Nat.le_refl _)) hm' hks' (by omega) (by omega)).mono ?_
  rintro e w2 ⟨r2, rfl, hP, hb2⟩
  have hb02 := keepS hb01 hb2
  by_cases hneg : r2 < 0
  · clear hP
    go_wp2
    go_ret
    exact ⟨rfl, hb02⟩
  obtain ⟨hr20, _, hn, _⟩ : 0 ≤ r2 ∧ r2 ≤ r ∧ es'.length ≤ 1048576 ∧ ∀ e ∈ es', e.key.size ≤ 1048576 := by
    rcases hP with h | h
    · exact absurd h hneg
    · exact h
  have hn2 : n' ≤ 1048576 := by omega
  clear hP hneg hn
  have Hlen := Lib.hid hlen; clear hlen
  have Hlen' := Lib.hid hlen'; clear hlen'
  go_wp2_with fail
  refine (toEntryS_any A n c es _ (hr.below hb02 (Nat.le_refl _)) hn1).mono ?_
  rintro e w3 ⟨v3, rfl, ho3, hb3⟩
  have hb03 := keepS hb02 hb3
  obtain ⟨A3, c3, rfl, _, _, hrd3⟩ := Rd.of_own ho3
  clear ho3
  go_wp2_with fail
  refine (toEditS_any A' n' c' es' _ (hr'.below hb03 (Nat.le_refl _)) hn2).mono ?_
  rintro e w4 ⟨v4, rfl, ho4, hb4⟩
  have hb04 := keepS hb03 hb4
  obtain ⟨A4, c4, rfl, _, _, hrd4⟩ := Rd.of_own ho4
  clear ho4
  go_wp2_with fail
  refine (specApplyEdits_any A3 n c3 es A4 n' c4 es' _ (hrd3.below hb4 (Nat.le_refl _)) hrd4 hm hm' hks hks').mono ?_
  rintro e w5 ⟨vW, rfl, hoW, hb5⟩
  have hb05 := keepS hb04 hb5
  have hrl := appM_len es es'
  generalize hres : appM es es' = res at *
  obtain ⟨rl, rc⟩ := res
  have Hres := Lib.hid hres; clear hres
  simp only at hoW hrl ⊢
  have hrlm : rl.length ≤ maxLen := by unfold maxLen; omega
  have HW5 := Lib.hid (Own.of hoW)
  obtain ⟨AW, cW, rfl, _, _, hrdW⟩ := Rd.of_own hoW
  clear hoW hrdW hrd3 hrd4
  go_wp2_with fail
  refine (toEntryS_any A n c es _ (hr.below hb05 (Nat.le_refl _)) hn1).mono ?_
  rintro e w6 ⟨v6, rfl, ho6, hb6⟩
  have hb06 := keepS hb05 hb6
  have HX6 := Lib.hid (Own.of ho6)
  have HW6 := Lib.hid (HW5.out.keep hb6); clear HW5
  obtain ⟨A6, c6, rfl, _, _, hrd6⟩ := Rd.of_own ho6
  clear ho6 hrd6
  go_wp2_with fail
  refine (toEditS_any A' n' c' es' _ (hr'.below hb06 (Nat.le_refl _)) hn2).mono ?_
  rintro e w7 ⟨v7, rfl, ho7, hb7⟩
  have hb07 := keepS hb06 hb7
  have HY7 := Lib.hid (Own.of ho7)
  have HW7 := Lib.hid (HW6.out.keep hb7); clear HW6
  have HX7 := Lib.hid (HX6.out.keep hb7); clear HX6
  obtain ⟨A7, c7, rfl, _, _, hrd7⟩ := Rd.of_own ho7
  clear ho7
  go_wp2_with fail
  obtain ⟨_, _, hq, hnc6, hc6, hrd6⟩ := HX7.out.form
  cases hq
  refine (implApplyEdits_any A6 n c6 es A7 n' c7 es' _ hrd6 hrd7 hnc6 hc6 hm' hks hks').mono ?_
  rw [Hres.out]
  rintro e w8 ⟨vG, rfl, hoG, hb8⟩
  simp only at hoG ⊢
  have hb08 := keepS hb07 hb8
  have HG8 := Lib.hid (Own.of hoG)
  have HW8 := Lib.hid (HW7.out.keep hb8); clear HW7
  have HX8 := Lib.hid (HX7.out.keep hb8); clear HX7
  have HY8 := Lib.hid (HY7.out.keep hb8); clear HY7
  obtain ⟨AG, cG, rfl, _, _, hrdG⟩ := Rd.of_own hoG
  clear hoG hrdG hrd6 hrd7
  go_wp2_with fail
  obtain ⟨_, _, hq, _, _, hrdG⟩ := HG8.out.form
  cases hq
  obtain ⟨_, _, hq, _, _, hrdW⟩ := HW8.out.form
  cases hq
  refine (eqEntryS_any AG rl.length cG rl AW rl.length cW rl _ hrdG hrdW hrlm hrlm).mono ?_
  rintro e w9 ⟨rfl, hb9⟩
  have hb09 := keepS hb08 hb9
  rw [decide_eq_true (rfl : rl = rl)]
  clear hrdG hrdW
  have HG9 := Lib.hid (HG8.out.keep hb9); clear HG8
  have HW9 := Lib.hid (HW8.out.keep hb9); clear HW8
  have HX9 := Lib.hid (HX8.out.keep hb9); clear HX8
  have HY9 := Lib.hid (HY8.out.keep hb9); clear HY8
  go_wp2_with fail
  refine (toEntryS_any A n c es _ (hr.below hb09 (Nat.le_refl _)) hn1).mono ?_
  rintro e w10 ⟨v10, rfl, ho10, hb10⟩
  have hb010 := keepS hb09 hb10
  obtain ⟨A10, c10, rfl, _, _, hrd10⟩ := Rd.of_own ho10
  clear ho10
  have HG10 := Lib.hid (HG9.out.keep hb10); clear HG9
  have HW10 := Lib.hid (HW9.out.keep hb10); clear HW9
  have HX10 := Lib.hid (HX9.out.keep hb10); clear HX9
  have HY10 := Lib.hid (HY9.out.keep hb10); clear HY9
  go_wp2_with fail
  obtain ⟨_, _, hq, _, _, hrdX⟩ := HX10.out.form
  cases hq
  refine (eqEntryS_any A6 n c6 es A10 n c10 es _ hrdX hrd10 hm hm).mono ?_
  rintro e w11 ⟨rfl, hb11⟩
  have hb011 := keepS hb010 hb11
  rw [decide_eq_true (rfl : es = es)]
  clear hrdX hrd10
  have HG11 := Lib.hid (HG10.out.keep hb11); clear HG10
  have HW11 := Lib.hid (HW10.out.keep hb11); clear HW10
  have HX11 := Lib.hid (HX10.out.keep hb11); clear HX10
  have HY11 := Lib.hid (HY10.out.keep hb11); clear HY10
  go_wp2_with fail
  refine (toEditS_any A' n' c' es' _ (hr'.below hb011 (Nat.le_refl _)) hn2).mono ?_
  rintro e w12 ⟨v12, rfl, ho12, hb12⟩
  have hb012 := keepS hb011 hb12
  obtain ⟨A12, c12, rfl, _, _, hrd12⟩ := Rd.of_own ho12
  clear ho12
  have HG12 := Lib.hid (HG11.out.keep hb12); clear HG11
  have HW12 := Lib.hid (HW11.out.keep hb12); clear HW11
  have HX12 := Lib.hid (HX11.out.keep hb12); clear HX11
  have HY12 := Lib.hid (HY11.out.keep hb12); clear HY11
  go_wp2_with fail
  obtain ⟨_, _, hq, _, _, hrdX⟩ := HY12.out.form
  cases hq
  refine (eqEditS_any A7 n' c7 es' A12 n' c12 es' _ hrdX hrd12 hm' hm' rfl).mono ?_
  rintro e w13 ⟨rfl, hb13⟩
  have hb013 := keepS hb012 hb13
  clear hrdX hrd12
  have HG13 := Lib.hid (HG12.out.keep hb13); clear HG12
  have HW13 := Lib.hid (HW12.out.keep hb13); clear HW12
  have HX13 := Lib.hid (HX12.out.keep hb13); clear HX12
  have HY13 := Lib.hid (HY12.out.keep hb13); clear HY12
  go_wp2_with fail
  refine (markEntryS_any _ n _ _ _ _ HX13.out.row (by omega) (by omega) (by omega)).mono ?_
  rintro e w14 ⟨rfl, _, hg14⟩
  have hb014 := HX13.out.below hg14 hb013 hb013.size hb05.size
  have HG14 := Lib.hid (HG13.out.apart hg14 HX13.out (.inr hb7.size)); clear HG13
  have HW14 := Lib.hid (HW13.out.apart hg14 HX13.out (.inl (Nat.le_refl _))); clear HW13
  have HY14 := Lib.hid (HY13.out.apart hg14 HX13.out (.inr (Nat.le_refl _))); clear HY13 HX13
  go_wp2_with fail
  refine (markEditS_any _ n' _ _ _ _ HY14.out.row (by omega) (by omega) (by omega)).mono ?_
  rintro e w15 ⟨rfl, _, hg15⟩
  have hb015 := HY14.out.below hg15 hb014 hb014.size hb06.size
  have HG15 := Lib.hid (HG14.out.apart hg15 HY14.out (.inr (Nat.le_refl _))); clear HG14
  have HW15 := Lib.hid (HW14.out.apart hg15 HY14.out (.inl (by have := hb6.size; omega))); clear HW14 HY14
  go_wp2_with fail
  obtain ⟨_, _, hq, _, _, hrdG⟩ := HG15.out.form
  cases hq
  obtain ⟨_, _, hq, _, _, hrdW⟩ := HW15.out.form
  cases hq
  refine (eqEntryS_any AG rl.length cG rl AW rl.length cW rl _ hrdG hrdW hrlm hrlm).mono ?_
  rintro e w16 ⟨rfl, hb16⟩
  have hb016 := keepS hb015 hb16
  rw [decide_eq_true (rfl : rl = rl)]
  clear hrdG hrdW
  have HG16 := Lib.hid (HG15.out.keep hb16); clear HG15
  have HW16 := Lib.hid (HW15.out.keep hb16); clear HW15
  go_wp2_with fail
  refine (markEntryS_any _ rl.length _ _ _ _ HG16.out.row (by omega) (by omega) (by omega)).mono ?_
  rintro e w17 ⟨rfl, hog17, hg17⟩
  have hb017 := HG16.out.below hg17 hb016 hb016.size hb07.size
  have HW17 := Lib.hid (HW16.out.apart hg17 HG16.out (.inl (by have := hb6.size; have := hb7.size; omega))); clear HW16
  have HG17 := Lib.hid (HG16.out.again hg17 hog17); clear HG16 hog17
  go_wp2_with fail
  obtain ⟨_, _, hq, _, _, hrdG⟩ := HG17.out.form
  cases hq
  refine (heldEntryS_any AG rl.length cG _ _ hrdG (by omega) (by omega) (by omega)).mono ?_
  rintro e w18 ⟨rfl, hb18⟩
  have hb018 := keepS hb017 hb18
  clear hrdG
  have HG18 := Lib.hid (HG17.out.keep hb18); clear HG17
  have HW18 := Lib.hid (HW17.out.keep hb18); clear HW17
  go_wp2_with fail
  refine (toEntryS_any A n c es _ (hr.below hb018 (Nat.le_refl _)) hn1).mono ?_
  rintro e w19 ⟨v19, rfl, ho19, hb19⟩
  have hb019 := keepS hb018 hb19
  obtain ⟨A19, c19, rfl, hnc19, hc19, hrd19⟩ := Rd.of_own ho19
  clear ho19
  have HG19 := Lib.hid (HG18.out.keep hb19); clear HG18
  have HW19 := Lib.hid (HW18.out.keep hb19); clear HW18
  go_wp2_with fail
  refine (toEditS_any A' n' c' es' _ (hr'.below hb019 (Nat.le_refl _)) hn2).mono ?_
  rintro e w20 ⟨v20, rfl, ho20, hb20⟩
  have hb020 := keepS hb019 hb20
  obtain ⟨A20, c20, rfl, _, _, hrd20⟩ := Rd.of_own ho20
  clear ho20
  have HG20 := Lib.hid (HG19.out.keep hb20); clear HG19
  have HW20 := Lib.hid (HW19.out.keep hb20); clear HW19
  go_wp2_with fail
  refine (implApplyEdits_any A19 n c19 es A20 n' c20 es' _ (hrd19.below hb20 (Nat.le_refl _)) hrd20 hnc19 hc19 hm' hks hks').mono ?_
  rw [Hres.out]
  rintro e w21 ⟨vH, rfl, hoH, hb21⟩
  simp only at hoH ⊢
  have hb021 := keepS hb020 hb21
  have HG21 := Lib.hid (HG20.out.keep hb21); clear HG20
  have HW21 := Lib.hid (HW20.out.keep hb21); clear HW20
  obtain ⟨AH, cH, rfl, _, _, hrdH⟩ := Rd.of_own hoH
  clear hoH hrd19 hrd20
  go_wp2_with fail
  obtain ⟨_, _, hq, _, _, hrdW⟩ := HW21.out.form
  cases hq
  refine (eqEntryS_any AH rl.length cH rl AW rl.length cW rl _ hrdH hrdW hrlm hrlm).mono ?_
  rintro e w22 ⟨rfl, hb22⟩
  have hb022 := keepS hb021 hb22
  rw [decide_eq_true (rfl : rl = rl)]
  clear hrdH hrdW HW21
  have HG22 := Lib.hid (HG21.out.keep hb22); clear HG21
  go_wp2_with fail
  obtain ⟨_, _, hq, _, _, hrdG⟩ := HG22.out.form
  cases hq
  refine (heldEntryS_any AG rl.length cG _ _ hrdG (by omega) (by omega) (by omega)).mono ?_
  rintro e w23 ⟨rfl, hb23⟩
  have hb023 := keepS hb022 hb23
  clear hrdG
  go_wp2
  go_ret
  exact ⟨rfl, hb023⟩

end Go.Proofs.Ytbdippplmcdgaaa
