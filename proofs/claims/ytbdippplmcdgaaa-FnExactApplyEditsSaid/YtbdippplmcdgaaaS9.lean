/- The document's ApplyEdits. -/
import Derived.Test.YtbdippplmcdgaaaMdl5
import Derived.Test.YtbdippplmcdgaaaM4
import Derived.Test.YtbdippplmcdgaaaS5
namespace Go.Proofs.Ytbdippplmcdgaaa
open Go.RowKit

set_option maxHeartbeats 2000000 in
set_option maxRecDepth 100000 in
theorem l01Apply_any (A : Option Addr) (n c : Nat) (es : List Ent) (A' : Option Addr) (n' c' : Nat) (xs : List Edt) (w : World) (hr : Rd w 2 A n (entsC es)) (hr' : Rd w 3 A' n' (edtsC xs)) (hm : n ≤ 12) (hm' : n' ≤ 6) :
    Calls Try.prog 77 #[.slice A n c, .slice A' n' c'] w (OwnPost 35 (applyL es xs) w) := by
  have hlen := hr.len
  have Hlen := Lib.hid hlen; clear hlen
  have hlen' := hr'.elen
  have Hlen' := Lib.hid hlen'; clear hlen'
  obtain ⟨i0, hi, hz0, hz1, hz2⟩ := info_parts info_Entry
  have Hi := Lib.hid hi; clear hi
  have Hz0 := Lib.hid hz0; clear hz0
  have Hz1 := Lib.hid hz1; clear hz1
  have Hz2 := Lib.hid hz2; clear hz2
  have hst := Lib.hid (World.ownsRow_made (base := w.heap.size) (e := 35) (size := 2) w #[] 0 (Nat.le_refl _) (by simp) (by simp))
  have hb3 := Lib.hid ((Below.refl w.heap.size w).alloc (Nat.le_refl _) (.cells #[] 35))
  have hrd3 := Lib.hid (hr.below hb3.out (Nat.le_refl _))
  have hbs3 := hb3.out.size
  go_enter Try.func77, Try.ntmps77
  go_wp2_with (at_builtin; refine wpList_append_rd (w.alloc (.cells #[] 35)) rfl _ _ 23 rfl w.heap.size 35 i0 _ 2 24 Try.underlying23 Hi.out Hz0.out Hz1.out Hz2.out rfl (by decide) (.slice (some ⟨w.heap.size, 0, none⟩) 0 0) 0 [] rfl hst.out A n c (entsC es) rfl hrd3.out (entsC_one es) (by omega) (by decide) hbs3 ?_; intro v4 w4 hown4 hgrow4; have HO4 := Lib.hid hown4; clear hown4)
  have hb4 := Lib.hid (below_grown hb3.out hgrow4 hst.out hbs3 (Nat.le_refl _))
  clear hgrow4
  go_loopw [0, 5] (fun mv i wr => ∃ k : Nat, k ≤ n' ∧ i = .int .i64 k ∧ wr.ownsRow w.heap.size 35 2 mv (applyL es (xs.take k)).length (entsC (applyL es (xs.take k))) ∧ Below w.heap.size w wr) (fun _ i _ => n' - (intOf i).toNat)
  case atStart =>
    have h := HO4.out
    rw [Nat.zero_add, List.nil_append, ← Hlen.out] at h
    exact ⟨0, Nat.zero_le _, rfl, h, hb4.out⟩
  case round =>
    obtain ⟨k, hk, rfl, hown, hb⟩ := hrel
    have hlL := applyL_length es (xs.take k)
    rw [List.length_take, Hlen.out, Hlen'.out] at hlL
    by_cases hlt : k < n'
    · have hke : k < xs.length := by rw [Hlen'.out]; exact hlt
      obtain ⟨b, off, rfl, hbl, hbl2, hc1, hc2, hc3⟩ := hr'.edt hb hke
      have hg1 := applyL_gone es xs k hke
      have hg2 := applyL_put es xs k hke
      generalize xs[k] = ek at *
      obtain ⟨k1, v1, g1⟩ := ek
      simp only at hc1 hc2 hc3 hg1 hg2
      obtain ⟨A2, c2, rfl, _, _, hrd2⟩ := Rd.of_own hown
      generalize applyL es (xs.take k) = cur at *
      have hb' := hb.size
      cases g1 with
      | true =>
        have hstep := Lib.hid (hg1 rfl)
        clear hg1 hg2 hown
        go_wp2_with (go_at_call 60; refine (l01Remove_any A2 _ c2 cur k1 _ hrd2 (by omega)).mono ?_; rintro e w5 ⟨v5, rfl, ho5, hb5⟩; have HO5 := Lib.hid ho5; clear ho5)
        go_roundw
        case rel => exact ⟨k + 1, by omega, by go_num, by rw [hstep.out]; exact ownsRow_base HO5.out hb', keepS hb hb5⟩
        case measure => simp [intOf]; omega
      | false =>
        have hstep := Lib.hid (hg2 rfl)
        clear hg1 hg2 hown
        go_wp2
        go_still_tail 11, (by kernel_rfl)
        change wpList _ _ _ _ _ wr.drew
        generalize hw6 : wr.drew = w6
        have hb6 : Below w.heap.size w w6 := by rw [← hw6]; exact hb.drew
        have hrd6 : Rd w6 2 A2 cur.length (entsC cur) := by rw [← hw6]; exact hrd2.drew
        clear hw6 hb hb' hrd2
        have hb' := hb6.size
        go_wp2_with (go_at_call 55; refine (l01Put_any A2 _ c2 cur k1 v1 _ hrd6 (by omega)).mono ?_; rintro e w5 ⟨v5, rfl, ho5, hb5⟩; have HO5 := Lib.hid ho5; clear ho5)
        go_roundw
        case rel => exact ⟨k + 1, by omega, by go_num, by rw [hstep.out]; exact ownsRow_base HO5.out hb', keepS hb6 hb5⟩
        case measure => simp [intOf]; omega
    · have hkn : k = n' := by omega
      subst hkn
      rw [List.take_of_length_le (by rw [Hlen'.out]; exact Nat.le_refl _)] at hown
      have HO := Lib.hid hown
      clear hown hlL
      go_wp2
      go_ret
      exact ⟨_, rfl, HO.out, hb⟩

set_option maxHeartbeats 2000000 in
set_option maxRecDepth 100000 in
theorem specApplyEdits_any (A : Option Addr) (n c : Nat) (es : List Ent) (A' : Option Addr) (n' c' : Nat) (xs : List Edt) (w : World) (hr : Rd w 2 A n (entsC es)) (hr' : Rd w 3 A' n' (edtsC xs)) (hm : n ≤ maxLen) (hm' : n' ≤ maxLen) (hks : ∀ e ∈ es, e.1.size ≤ maxLen) (hks' : ∀ e ∈ xs, e.key.size ≤ maxLen) :
    Calls Try.prog 40 #[.slice A n c, .slice A' n' c'] w (TupPost 35 (appM es xs) w) := by
  have hlen := hr.len
  have hlen' := hr'.elen
  by_cases hl : 4096 < n ∨ 4096 < n'
  · have hfin := Lib.hid (appM_long (es := es) (xs := xs) (by rw [hlen, hlen']; exact hl))
    clear hlen hlen'
    rcases hl with h | h
    all_goals
      go_enter Try.func40, Try.ntmps40
      go_wp2
      all_goals
        go_ret2
        exact TupPost.mk hfin.out (own_empty _ (Nat.le_refl _)) ((Below.refl _ _).alloc (Nat.le_refl _) _)
  have hl1 : n ≤ 4096 := by omega
  have hl2 : n' ≤ 4096 := by omega
  have HL := Lib.hid (show ¬(4096 < es.length ∨ 4096 < xs.length) by rw [hlen, hlen']; exact hl)
  clear hl
  have Hlen := Lib.hid hlen; clear hlen
  have Hlen' := Lib.hid hlen'; clear hlen'
  have hmap := l01OK_any A n c es w hr hm hks
  cases hmo : mapOK es with
  | false =>
    have hfin := Lib.hid (appM_bad HL.out (.inl hmo))
    rw [hmo] at hmap
    have Hmap := Lib.hid hmap
    clear hmap hmo
    go_enter Try.func40, Try.ntmps40
    go_wp2_with (go_at_call 64; refine Hmap.out.mono ?_; rintro e w1 ⟨rfl, hb1⟩)
    go_ret2
    exact TupPost.mk hfin.out (own_empty _ hb1.size) (hb1.alloc hb1.size _)
  | true =>
    rw [hmo] at hmap
    have Hmap := Lib.hid hmap
    have Hmo := Lib.hid hmo
    have hn12 : n ≤ 12 := by have := mapOK_le hmo; rw [Hlen.out] at this; exact this
    clear hmap hmo
    cases heo : editsOK xs with
    | false =>
      have hfin := Lib.hid (appM_bad (es := es) HL.out (.inr heo))
      have Heo := Lib.hid heo
      clear heo
      go_enter Try.func40, Try.ntmps40
      go_wp2_with (first | (go_at_call 64; refine Hmap.out.mono ?_; rintro e w1 ⟨rfl, hb1⟩) | (go_at_call 73; refine (l01Edits_any A' n' c' xs _ (hr'.below hb1 (Nat.le_refl _)) hm' hks').mono ?_; rw [Heo.out]; rintro e w2 ⟨rfl, hb2⟩))
      go_ret2
      exact TupPost.mk hfin.out (own_empty _ (keepS hb1 hb2).size) ((keepS hb1 hb2).alloc (keepS hb1 hb2).size _)
    | true =>
      have Heo := Lib.hid heo
      have hn6 : n' ≤ 6 := by have := editsOK_le heo; rw [Hlen'.out] at this; exact this
      clear heo
      go_enter Try.func40, Try.ntmps40
      go_wp2_with (first | (go_at_call 64; refine Hmap.out.mono ?_; rintro e w1 ⟨rfl, hb1⟩) | (go_at_call 73; refine (l01Edits_any A' n' c' xs _ (hr'.below hb1 (Nat.le_refl _)) hm' hks').mono ?_; rw [Heo.out]; rintro e w2 ⟨rfl, hb2⟩) | (go_at_call 77; refine (l01Apply_any A n c es A' n' c' xs _ ((hr.below hb1 (Nat.le_refl _)).below hb2 (Nat.le_refl _)) ((hr'.below hb1 (Nat.le_refl _)).below hb2 (Nat.le_refl _)) hn12 hn6).mono ?_; rintro e w3 ⟨v3, rfl, ho3, hb3⟩; obtain ⟨A3, c3, rfl, hc3, hm3, hrd3⟩ := Rd.of_own ho3; have HO := Lib.hid ho3; clear ho3; unfold maxLen at hm3; have hpl := applyL_length es xs; rw [Hlen.out, Hlen'.out] at hpl; generalize hq : (applyL es xs).length = pl at *; have Hpl := Lib.hid hq; clear hq))
      · have hfin := Lib.hid (appM_full HL.out Hmo.out Heo.out (by have := Hpl.out; omega))
        go_ret2
        have hbb := keepS (keepS hb1 hb2) hb3
        exact TupPost.mk hfin.out (own_empty _ hbb.size) (hbb.alloc hbb.size _)
      · have hfin := Lib.hid (appM_ok HL.out Hmo.out Heo.out (by have := Hpl.out; omega))
        go_ret2
        exact TupPost.mk hfin.out (by rw [Hpl.out]; exact ownsRow_base HO.out (keepS hb1 hb2).size) (keepS (keepS hb1 hb2) hb3)

end Go.Proofs.Ytbdippplmcdgaaa
