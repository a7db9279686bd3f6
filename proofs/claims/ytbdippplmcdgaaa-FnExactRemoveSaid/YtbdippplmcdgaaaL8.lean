/- The law FnExactRemove, walked: for every slice of entries and every key it answers true and writes nothing that was there. -/
import Derived.Test.YtbdippplmcdgaaaI6
import Derived.Test.YtbdippplmcdgaaaOwn
namespace Go.Proofs.Ytbdippplmcdgaaa
open Go.RowKit

theorem delM_len (es : List Ent) (k : ByteArray) (h : es.length ≤ 1048576) : (delM es k).1.length ≤ 1048600 := by
  unfold delM
  split
  · split
    · have := List.length_filter_le (fun e : Ent => decide (e.1 ≠ k)) es
      show (delL es k).length ≤ 1048600
      unfold delL; omega
    · show es.length ≤ 1048600; omega
  · simp

set_option maxHeartbeats 2000000 in
set_option maxRecDepth 100000 in
theorem lawRemove_any (A : Option Addr) (n c : Nat) (es : List Ent) (key : ByteArray) (w : World) (hr : Rd w 2 A n (entsC es)) (hm : n ≤ maxLen) (hks : ∀ e ∈ es, e.1.size ≤ maxLen) (hkey : key.size ≤ maxLen) :
    Calls Try.prog 8 #[.slice A n c, .string key] w fun e w' => e = .returned (.bool true) ∧ Below w.heap.size w w' := by
  have hlen := hr.len
  by_cases hbig : 1048576 < key.size
  · go_enter Try.func8, Try.ntmps8
    go_wp2
    go_ret
    exact ⟨rfl, Below.refl _ _⟩
  have hbig' : key.size ≤ 1048576 := by omega
  clear hbig
  go_enter Try.func8, Try.ntmps8
  go_wp2_with fail
  refine (szEntryS_any A n c es _ w hr hm hks (by omega) (by omega)).mono ?_
  rintro e w1 ⟨r, rfl, hP, hb01⟩
  by_cases hneg : r < 0
  · clear hP
    go_wp2
    go_ret
    exact ⟨rfl, hb01⟩
  obtain ⟨hr0, _, hn, _⟩ : 0 ≤ r ∧ r ≤ 1048576 ∧ es.length ≤ 1048576 ∧ ∀ e ∈ es, e.1.size ≤ 1048576 := by
    rcases hP with h | h
    · exact absurd h hneg
    · exact h
  have hn' : n ≤ 1048576 := by omega
  clear hP hneg hn
  have Hlen := Lib.hid hlen; clear hlen
  go_wp2_with fail
  refine (toEntryS_any A n c es _ (hr.below hb01 (Nat.le_refl _)) hn').mono ?_
  rintro e w2 ⟨v2, rfl, ho2, hb2⟩
  have hb02 := keepS hb01 hb2
  obtain ⟨A2, c2, rfl, hnc2, hc2, hrd2⟩ := Rd.of_own ho2
  clear ho2
  go_wp2_with fail
  refine (specRemove_any A2 n c2 es key _ hrd2 hm hks hkey).mono ?_
  rintro e w3 ⟨vW, rfl, hoW, hb3⟩
  have hb03 := keepS hb02 hb3
  have hrl := delM_len es key (by rw [Hlen.out]; exact hn')
  generalize hres : delM es key = res at *
  obtain ⟨rl, rc⟩ := res
  have Hres := Lib.hid hres; clear hres
  simp only at hoW hrl ⊢
  have hrlm : rl.length ≤ maxLen := by unfold maxLen; omega
  have HW := Lib.hid (Own.of hoW)
  obtain ⟨AW, cW, rfl, _, _, hrdW⟩ := Rd.of_own hoW
  clear hoW hrdW
  go_wp2_with fail
  refine (toEntryS_any A n c es _ (hr.below hb03 (Nat.le_refl _)) hn').mono ?_
  rintro e w4 ⟨v4, rfl, ho4, hb4⟩
  have hb04 := keepS hb03 hb4
  have HX := Lib.hid (Own.of ho4)
  have HW4 := Lib.hid (HW.out.keep hb4); clear HW
  obtain ⟨A4, c4, rfl, hnc4, hc4, hrd4⟩ := Rd.of_own ho4
  clear ho4
  go_wp2_with fail
  refine (implRemove_any A4 n c4 es key _ hrd4 hnc4 hc4 hks hkey).mono ?_
  rw [Hres.out]
  rintro e w5 ⟨vG, rfl, hoG, hb5⟩
  simp only at hoG ⊢
  have hb05 := keepS hb04 hb5
  have HG := Lib.hid (Own.of hoG)
  have HX5 := Lib.hid (HX.out.keep hb5); clear HX
  have HW5 := Lib.hid (HW4.out.keep hb5); clear HW4
  obtain ⟨AG, cG, rfl, _, _, hrdG⟩ := Rd.of_own hoG
  clear hoG hrdG hrd4
  go_wp2_with fail
  obtain ⟨_, _, hq, _, _, hrdG⟩ := HG.out.form
  cases hq
  obtain ⟨_, _, hq, _, _, hrdW⟩ := HW5.out.form
  cases hq
  refine (eqEntryS_any AG rl.length cG rl AW rl.length cW rl _ hrdG hrdW hrlm hrlm).mono ?_
  rintro e w6 ⟨rfl, hb6⟩
  have hb06 := keepS hb05 hb6
  have HG6 := Lib.hid (HG.out.keep hb6); clear HG
  have HX6 := Lib.hid (HX5.out.keep hb6); clear HX5
  have HW6 := Lib.hid (HW5.out.keep hb6); clear HW5
  rw [decide_eq_true (rfl : rl = rl)]
  clear hrdG hrdW
  go_wp2_with fail
  refine (toEntryS_any A n c es _ (hr.below hb06 (Nat.le_refl _)) hn').mono ?_
  rintro e w7 ⟨v7, rfl, ho7, hb7⟩
  have hb07 := keepS hb06 hb7
  obtain ⟨A7, c7, rfl, hnc7, hc7, hrd7⟩ := Rd.of_own ho7
  clear ho7
  have HG7 := Lib.hid (HG6.out.keep hb7); clear HG6
  have HX7 := Lib.hid (HX6.out.keep hb7); clear HX6
  have HW7 := Lib.hid (HW6.out.keep hb7); clear HW6
  go_wp2_with fail
  obtain ⟨_, _, hq, _, _, hrdX⟩ := HX7.out.form
  cases hq
  refine (eqEntryS_any A4 n c4 es A7 n c7 es _ hrdX hrd7 hm hm).mono ?_
  rintro e w8 ⟨rfl, hb8⟩
  have hb08 := keepS hb07 hb8
  have HG8 := Lib.hid (HG7.out.keep hb8); clear HG7
  have HX8 := Lib.hid (HX7.out.keep hb8); clear HX7
  have HW8 := Lib.hid (HW7.out.keep hb8); clear HW7
  rw [decide_eq_true (rfl : es = es)]
  clear hrdX hrd7
  go_wp2_with fail
  refine (markEntryS_any _ n _ _ _ _ HX8.out.row (by omega) (by omega) (by omega)).mono ?_
  rintro e w9 ⟨rfl, _, hg9⟩
  have hb09 := HX8.out.below hg9 hb08 hb08.size (by have := hb03.size; omega)
  have HG9 := Lib.hid (HG8.out.apart hg9 HX8.out (.inr (Nat.le_refl _))); clear HG8
  have HW9 := Lib.hid (HW8.out.apart hg9 HX8.out (.inl (Nat.le_refl _))); clear HW8 HX8
  go_wp2_with fail
  obtain ⟨_, _, hq, _, _, hrdG⟩ := HG9.out.form
  cases hq
  obtain ⟨_, _, hq, _, _, hrdW⟩ := HW9.out.form
  cases hq
  refine (eqEntryS_any AG rl.length cG rl AW rl.length cW rl _ hrdG hrdW hrlm hrlm).mono ?_
  rintro e w10 ⟨rfl, hb10⟩
  have hb010 := keepS hb09 hb10
  have HG10 := Lib.hid (HG9.out.keep hb10); clear HG9
  have HW10 := Lib.hid (HW9.out.keep hb10); clear HW9
  rw [decide_eq_true (rfl : rl = rl)]
  clear hrdG hrdW
  go_wp2_with fail
  refine (markEntryS_any _ rl.length _ _ _ _ HG10.out.row (by omega) (by omega) (by omega)).mono ?_
  rintro e w11 ⟨rfl, hog11, hg11⟩
  have hb011 := HG10.out.below hg11 hb010 hb010.size hb04.size
  have HW11 := Lib.hid (HW10.out.apart hg11 HG10.out (.inl (by have := hb4.size; omega))); clear HW10
  have HG11 := Lib.hid (HG10.out.again hg11 hog11); clear HG10 hog11
  go_wp2_with fail
  obtain ⟨_, _, hq, _, _, hrdG⟩ := HG11.out.form
  cases hq
  refine (heldEntryS_any AG rl.length cG _ _ hrdG (by omega) (by omega) (by omega)).mono ?_
  rintro e w12 ⟨rfl, hb12⟩
  have hb012 := keepS hb011 hb12
  have HG12 := Lib.hid (HG11.out.keep hb12); clear HG11
  have HW12 := Lib.hid (HW11.out.keep hb12); clear HW11
  clear hrdG
  go_wp2_with fail
  refine (toEntryS_any A n c es _ (hr.below hb012 (Nat.le_refl _)) hn').mono ?_
  rintro e w13 ⟨v13, rfl, ho13, hb13⟩
  have hb013 := keepS hb012 hb13
  have HG13 := Lib.hid (HG12.out.keep hb13); clear HG12
  have HW13 := Lib.hid (HW12.out.keep hb13); clear HW12
  obtain ⟨A13, c13, rfl, hnc13, hc13, hrd13⟩ := Rd.of_own ho13
  clear ho13
  go_wp2_with fail
  refine (implRemove_any A13 n c13 es key _ hrd13 hnc13 hc13 hks hkey).mono ?_
  rw [Hres.out]
  rintro e w14 ⟨vH, rfl, hoH, hb14⟩
  simp only at hoH ⊢
  have hb014 := keepS hb013 hb14
  have HG14 := Lib.hid (HG13.out.keep hb14); clear HG13
  have HW14 := Lib.hid (HW13.out.keep hb14); clear HW13
  obtain ⟨AH, cH, rfl, _, _, hrdH⟩ := Rd.of_own hoH
  clear hoH hrd13
  go_wp2_with fail
  obtain ⟨_, _, hq, _, _, hrdW⟩ := HW14.out.form
  cases hq
  refine (eqEntryS_any AH rl.length cH rl AW rl.length cW rl _ hrdH hrdW hrlm hrlm).mono ?_
  rintro e w15 ⟨rfl, hb15⟩
  have hb015 := keepS hb014 hb15
  have HG15 := Lib.hid (HG14.out.keep hb15); clear HG14
  rw [decide_eq_true (rfl : rl = rl)]
  clear hrdH hrdW HW14
  go_wp2_with fail
  obtain ⟨_, _, hq, _, _, hrdG⟩ := HG15.out.form
  cases hq
  refine (heldEntryS_any AG rl.length cG _ _ hrdG (by omega) (by omega) (by omega)).mono ?_
  rintro e w16 ⟨rfl, hb16⟩
  have hb016 := keepS hb015 hb16
  clear hrdG HG15
  go_wp2
  go_ret
  exact ⟨rfl, hb016⟩

end Go.Proofs.Ytbdippplmcdgaaa
