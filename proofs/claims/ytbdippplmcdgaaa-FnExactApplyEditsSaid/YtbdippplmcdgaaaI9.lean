/- The program's ApplyEdits. -/
import Derived.Test.YtbdippplmcdgaaaS9
namespace Go.Proofs.Ytbdippplmcdgaaa
open Go.RowKit

set_option maxHeartbeats 2000000 in
set_option maxRecDepth 100000 in
theorem edited_any (A : Option Addr) (n c : Nat) (es : List Ent) (A' : Option Addr) (n' c' : Nat) (xs : List Edt) (w : World) (hr : Rd w 2 A n (entsC es)) (hs : Srt es) (hnc : n ≤ c) (hc : c ≤ maxLen) (hr' : Rd w 3 A' n' (edtsC xs)) (hm : n ≤ 12) (hm' : n' ≤ 6) :
    Calls Try.prog 78 #[.slice A n c, .slice A' n' c'] w (OwnPost 35 (applyL es xs) w) := by
  have hlen := hr.len
  have Hlen := Lib.hid hlen; clear hlen
  have hlen' := hr'.elen
  have Hlen' := Lib.hid hlen'; clear hlen'
  have hpart := Lib.hid (part_any A n c es 0 n w hr (by omega) (by omega) hnc hc (by omega))
  have htk := Lib.hid (show (es.drop 0).take (n - 0) = es by rw [List.drop_zero, List.take_of_length_le (by rw [Hlen.out]; omega)])
  clear hc
  go_enter Try.func78, Try.ntmps78
  go_wp2_with (go_at_call 57; refine hpart.out.mono ?_; rintro e w4 ⟨v4, rfl, ho4, hb4⟩; rw [htk.out] at ho4; have HO4 := Lib.hid ho4; clear ho4)
  have Hb4 := Lib.hid hb4; clear hb4
  go_loopw [5, 14] (fun mv i wr => ∃ k : Nat, k ≤ n' ∧ i = .int .i64 k ∧ wr.ownsRow w.heap.size 35 2 mv (applyL es (xs.take k)).length (entsC (applyL es (xs.take k))) ∧ Below w.heap.size w wr) (fun _ i _ => n' - (intOf i).toNat)
  case atStart => exact ⟨0, Nat.zero_le _, rfl, HO4.out, Hb4.out⟩
  case round =>
    obtain ⟨k, hk, rfl, hown, hb⟩ := hrel
    have hlL := applyL_length es (xs.take k)
    rw [List.length_take, Hlen.out, Hlen'.out] at hlL
    have hsrt := srt_applyL hs (xs.take k)
    by_cases hlt : k < n'
    · have hke : k < xs.length := by rw [Hlen'.out]; exact hlt
      obtain ⟨b, off, rfl, hbl, hbl2, hc1, hc2, hc3⟩ := hr'.edt hb hke
      have hg1 := applyL_gone es xs k hke
      have hg2 := applyL_put es xs k hke
      generalize xs[k] = ek at *
      obtain ⟨k1, v1, g1⟩ := ek
      simp only at hc1 hc2 hc3 hg1 hg2
      obtain ⟨A2, c2, rfl, hnc2, hcm2, hrd2⟩ := Rd.of_own hown
      generalize applyL es (xs.take k) = cur at *
      have Hcm2 := Lib.hid hcm2; clear hcm2
      have hb' := hb.size
      cases g1 with
      | true =>
        have hstep := Lib.hid (hg1 rfl)
        clear hg1 hg2 hown
        go_wp2_with (go_at_call 58; refine (without_any A2 _ c2 cur k1 _ (hrd2.alloc _) hsrt hnc2 Hcm2.out (by omega)).mono ?_; rintro e w5 ⟨v5, rfl, ho5, hb5⟩; have HO5 := Lib.hid ho5; clear ho5)
        go_roundw
        case rel => exact ⟨k + 1, by omega, by go_num, by rw [hstep.out]; exact ownsRow_base HO5.out (hb.alloc hb' _).size, keepS (hb.alloc hb' _) hb5⟩
        case measure => simp [intOf]; omega
      | false =>
        have hstep := Lib.hid (hg2 rfl)
        clear hg1 hg2 hown
        go_wp2_with (go_at_call 52; refine (with_any A2 _ c2 cur k1 v1 _ (hrd2.alloc _) hsrt hnc2 (by omega)).mono ?_; rintro e w5 ⟨v5, rfl, ho5, hb5⟩; have HO5 := Lib.hid ho5; clear ho5)
        go_roundw
        case rel => exact ⟨k + 1, by omega, by go_num, by rw [hstep.out]; exact ownsRow_base HO5.out (hb.alloc hb' _).size, keepS (hb.alloc hb' _) hb5⟩
        case measure => simp [intOf]; omega
    · have hkn : k = n' := by omega
      subst hkn
      rw [List.take_of_length_le (by rw [Hlen'.out]; exact Nat.le_refl _)] at hown
      have HO := Lib.hid hown
      clear hown hlL hsrt
      go_wp2
      go_ret
      exact ⟨_, rfl, HO.out, hb⟩

set_option maxHeartbeats 2000000 in
set_option maxRecDepth 100000 in
theorem implApplyEdits_any (A : Option Addr) (n c : Nat) (es : List Ent) (A' : Option Addr) (n' c' : Nat) (xs : List Edt) (w : World) (hr : Rd w 2 A n (entsC es)) (hr' : Rd w 3 A' n' (edtsC xs)) (hnc : n ≤ c) (hc : c ≤ maxLen) (hm' : n' ≤ maxLen) (hks : ∀ e ∈ es, e.1.size ≤ maxLen) (hks' : ∀ e ∈ xs, e.key.size ≤ maxLen) :
    Calls Try.prog 41 #[.slice A n c, .slice A' n' c'] w (TupPost 35 (appM es xs) w) := by
  have hm : n ≤ maxLen := by omega
  have hlen := hr.len
  have hlen' := hr'.elen
  by_cases hl : 4096 < n ∨ 4096 < n'
  · have hfin := Lib.hid (appM_long (es := es) (xs := xs) (by rw [hlen, hlen']; exact hl))
    clear hlen hlen'
    rcases hl with h | h
    all_goals
      go_enter Try.func41, Try.ntmps41
      go_wp2
      all_goals
        go_ret2
        exact TupPost.mk hfin.out (World.ownsRow_nil _ _ _ _) (Below.refl _ _)
  have hl1 : n ≤ 4096 := by omega
  have hl2 : n' ≤ 4096 := by omega
  have HL := Lib.hid (show ¬(4096 < es.length ∨ 4096 < xs.length) by rw [hlen, hlen']; exact hl)
  clear hl
  have Hlen := Lib.hid hlen; clear hlen
  have Hlen' := Lib.hid hlen'; clear hlen'
  have hmap := implMapOK_any A n c es w hr hm hks
  cases hmo : mapOK es with
  | false =>
    have hfin := Lib.hid (appM_bad HL.out (.inl hmo))
    rw [hmo] at hmap
    have Hmap := Lib.hid hmap
    clear hmap hmo
    go_enter Try.func41, Try.ntmps41
    go_wp2_with (go_at_call 23; refine Hmap.out.mono ?_; rintro e w1 ⟨rfl, hb1⟩)
    go_ret2
    exact TupPost.mk hfin.out (World.ownsRow_nil _ _ _ _) hb1
  | true =>
    rw [hmo] at hmap
    have Hmap := Lib.hid hmap
    have Hmo := Lib.hid hmo
    have hs := srt_of_mapOK hmo
    have hn12 : n ≤ 12 := by have := mapOK_le hmo; rw [Hlen.out] at this; exact this
    clear hmap hmo
    cases heo : editsOK xs with
    | false =>
      have hfin := Lib.hid (appM_bad (es := es) HL.out (.inr heo))
      have Heo := Lib.hid heo
      clear heo
      go_enter Try.func41, Try.ntmps41
      go_wp2_with (first | (go_at_call 23; refine Hmap.out.mono ?_; rintro e w1 ⟨rfl, hb1⟩) | (go_at_call 38; refine (implEditsOK_any A' n' c' xs _ (hr'.below hb1 (Nat.le_refl _)) hm' hks').mono ?_; rw [Heo.out]; rintro e w2 ⟨rfl, hb2⟩))
      go_ret2
      exact TupPost.mk hfin.out (World.ownsRow_nil _ _ _ _) (keepS hb1 hb2)
    | true =>
      have Heo := Lib.hid heo
      have hn6 : n' ≤ 6 := by have := editsOK_le heo; rw [Hlen'.out] at this; exact this
      clear heo
      go_enter Try.func41, Try.ntmps41
      go_wp2_with (first | (go_at_call 23; refine Hmap.out.mono ?_; rintro e w1 ⟨rfl, hb1⟩) | (go_at_call 38; refine (implEditsOK_any A' n' c' xs _ (hr'.below hb1 (Nat.le_refl _)) hm' hks').mono ?_; rw [Heo.out]; rintro e w2 ⟨rfl, hb2⟩) | (go_at_call 78; refine (edited_any A n c es A' n' c' xs _ ((hr.below hb1 (Nat.le_refl _)).below hb2 (Nat.le_refl _)) hs hnc hc ((hr'.below hb1 (Nat.le_refl _)).below hb2 (Nat.le_refl _)) hn12 hn6).mono ?_; rintro e w3 ⟨v3, rfl, ho3, hb3⟩; obtain ⟨A3, c3, rfl, hc3, hm3, hrd3⟩ := Rd.of_own ho3; have HO := Lib.hid ho3; clear ho3; unfold maxLen at hm3; have hpl := applyL_length es xs; rw [Hlen.out, Hlen'.out] at hpl; generalize hq : (applyL es xs).length = pl at *; have Hpl := Lib.hid hq; clear hq))
      · have hfin := Lib.hid (appM_full HL.out Hmo.out Heo.out (by have := Hpl.out; omega))
        go_ret2
        exact TupPost.mk hfin.out (World.ownsRow_nil _ _ _ _) (keepS (keepS hb1 hb2) hb3)
      · have hfin := Lib.hid (appM_ok HL.out Hmo.out Heo.out (by have := Hpl.out; omega))
        go_ret2
        exact TupPost.mk hfin.out (by rw [Hpl.out]; exact ownsRow_base HO.out (keepS hb1 hb2).size) (keepS (keepS hb1 hb2) hb3)

end Go.Proofs.Ytbdippplmcdgaaa
