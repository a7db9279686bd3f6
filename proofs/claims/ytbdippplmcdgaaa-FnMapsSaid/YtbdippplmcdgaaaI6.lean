/- The program's Scan. -/
import Derived.Test.YtbdippplmcdgaaaS5
namespace Go.Proofs.Ytbdippplmcdgaaa
open Go.RowKit

set_option maxHeartbeats 2000000 in
set_option maxRecDepth 100000 in
theorem implScan_any (A : Option Addr) (n c : Nat) (es : List Ent) (a b : ByteArray) (w : World) (hr : Rd w 2 A n (entsC es)) (hnc : n ≤ c) (hc : c ≤ maxLen) (hks : ∀ e ∈ es, e.1.size ≤ maxLen) :
    Calls Try.prog 24 #[.slice A n c, .string a, .string b] w (TupPost 35 (scanM es a b) w) := by
  have hlen := hr.len
  have hm : n ≤ maxLen := by omega
  by_cases hl : 4096 < n ∨ 65536 < a.size ∨ 65536 < b.size
  · have hfin := Lib.hid (scanM_long (es := es) (a := a) (b := b) (by rw [hlen]; exact hl))
    clear hlen
    rcases hl with h | h | h
    all_goals
      go_enter Try.func24, Try.ntmps24
      go_wp2
      all_goals
        go_ret2
        exact TupPost.mk hfin.out (World.ownsRow_nil _ _ _ _) (Below.refl _ _)
  have hl1 : n ≤ 4096 := by omega
  have hl2 : a.size ≤ 65536 := by omega
  have hl3 : b.size ≤ 65536 := by omega
  have hlE : ¬(4096 < es.length ∨ 65536 < a.size ∨ 65536 < b.size) := by rw [hlen]; exact hl
  have HlE := Lib.hid hlE
  clear hl hlE
  have Hlen := Lib.hid hlen; clear hlen
  have hmap := implMapOK_any A n c es w hr hm hks
  cases hmo : mapOK es with
  | false =>
    have hfin := Lib.hid (scanM_bad HlE.out hmo)
    rw [hmo] at hmap
    have Hmap := Lib.hid hmap
    clear hmap hmo
    go_enter Try.func24, Try.ntmps24
    go_wp2_with (go_at_call 23; refine Hmap.out.mono ?_; rintro e w1 ⟨rfl, hb1⟩)
    go_ret2
    exact TupPost.mk hfin.out (World.ownsRow_nil _ _ _ _) hb1
  | true =>
    have hfin := Lib.hid (scanM_ok HlE.out hmo)
    have hs := srt_of_mapOK hmo
    rw [hmo] at hmap
    have Hmap := Lib.hid hmap
    clear hmap hmo
    by_cases hbe : b.size = 0
    · have hbt := (toList_nil_iff b).2 hbe
      have Hbe := Lib.hid hbe; clear hbe
      go_enter Try.func24, Try.ntmps24
      go_wp2_with (go_at_call 23; refine Hmap.out.mono ?_; rintro e w1 ⟨rfl, hb1⟩)
      refine (place_any A n c es a _ (hr.below hb1 (Nat.le_refl _)) hm).mono ?_
      rintro e w2 ⟨p, rfl, hp, hb2⟩
      have hb02 := keepS hb1 hb2
      have hple : p ≤ n := by have := hp.1; rw [Hlen.out] at this; exact this
      have hsc := Lib.hid (scan_open (b := b) hs hp Hbe.out)
      clear hp
      go_wp2_with (go_at_call 57; refine (part_any A n c es p n _ (hr.below hb02 (Nat.le_refl _)) hple (Nat.le_refl _) hnc hc hl1).mono ?_; rintro e w3 ⟨v3, rfl, ho3, hb3⟩; have HO3 := Lib.hid ho3; clear ho3)
      go_ret2
      refine TupPost.mk hfin.out ?_ (keepS hb02 hb3)
      rw [hsc.out, Hlen.out]; exact ownsRow_base HO3.out hb02.size
    · have hbt : b.toList.isEmpty = false := by
        cases h : b.toList with
        | nil => exact absurd ((toList_nil_iff b).1 h) hbe
        | cons x r => rfl
      have Hbe := Lib.hid hbe; clear hbe
      go_enter Try.func24, Try.ntmps24
      go_wp2_with (go_at_call 23; refine Hmap.out.mono ?_; rintro e w1 ⟨rfl, hb1⟩)
      refine (place_any A n c es a _ (hr.below hb1 (Nat.le_refl _)) hm).mono ?_
      rintro e w2 ⟨p, rfl, hp, hb2⟩
      have hb02 := keepS hb1 hb2
      have hple : p ≤ n := by have := hp.1; rw [Hlen.out] at this; exact this
      have HP := Lib.hid hp; clear hp
      go_wp2_with fail
      refine (place_any A n c es b _ (hr.below hb02 (Nat.le_refl _)) hm).mono ?_
      rintro e w3 ⟨r, rfl, hr3, hb3⟩
      have hb03 := keepS hb02 hb3
      have hrle : r ≤ n := by have := hr3.1; rw [Hlen.out] at this; exact this
      by_cases hpr : p < r
      · have hsc := Lib.hid (scan_to hs HP.out hr3 Hbe.out)
        have hmx := Lib.hid (show max p r = r from Nat.max_eq_right (by omega))
        clear hr3
        go_wp2_with (go_at_call 57; refine (part_any A n c es p r _ (hr.below hb03 (Nat.le_refl _)) (by omega) hrle hnc hc hl1).mono ?_; rintro e w4 ⟨v4, rfl, ho4, hb4⟩; have HO4 := Lib.hid ho4; clear ho4)
        go_ret2
        refine TupPost.mk hfin.out ?_ (keepS hb03 hb4)
        rw [hsc.out, hmx.out]; exact ownsRow_base HO4.out hb03.size
      · have hsc := Lib.hid (scan_to hs HP.out hr3 Hbe.out)
        have hmx := Lib.hid (show max p r = p from Nat.max_eq_left (by omega))
        clear hr3
        go_wp2_with (go_at_call 57; refine (part_any A n c es p p _ (hr.below hb03 (Nat.le_refl _)) (Nat.le_refl _) hple hnc hc hl1).mono ?_; rintro e w4 ⟨v4, rfl, ho4, hb4⟩; have HO4 := Lib.hid ho4; clear ho4)
        go_ret2
        refine TupPost.mk hfin.out ?_ (keepS hb03 hb4)
        rw [hsc.out, hmx.out]; exact ownsRow_base HO4.out hb03.size

end Go.Proofs.Ytbdippplmcdgaaa
