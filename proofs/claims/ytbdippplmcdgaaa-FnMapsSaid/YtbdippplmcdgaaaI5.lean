/- The program's Put and Remove. -/
import Derived.Test.YtbdippplmcdgaaaI4
namespace Go.Proofs.Ytbdippplmcdgaaa
open Go.RowKit

theorem valueOK_val (v : Int) (W : World) : Calls Try.prog 51 #[.int .i64 v] W fun e w' => e = .returned (.bool (valB v)) ∧ W = w' := valueOK_any v W

set_option maxHeartbeats 1000000 in
theorem implPut_any (A : Option Addr) (n c : Nat) (es : List Ent) (key : ByteArray) (v : Int) (w : World) (hr : Rd w 2 A n (entsC es)) (hnc : n ≤ c) (hc : c ≤ maxLen) (hks : ∀ e ∈ es, e.1.size ≤ maxLen) (hkey : key.size ≤ maxLen) :
    Calls Try.prog 17 #[.slice A n c, .string key, .int .i64 v] w (TupPost 35 (putM es key v) w) := by
  have hlen := hr.len
  have Hlen := Lib.hid hlen; clear hlen
  have hm : n ≤ maxLen := by omega
  have hcode := keyedMapCode_any A n c es key w hr hm hks hkey
  by_cases h0 : keyCode es key = 0
  case neg =>
    have hfin := Lib.hid (putM_bad (v := v) h0)
    have ht : (keyCode es key != 0) = true := bne_iff_ne.2 h0
    generalize keyCode es key = kc at *
    have Hcode := Lib.hid hcode
    clear h0 hcode
    go_enter Try.func17, Try.ntmps17
    go_wp2_with (go_at_call 50; refine Hcode.out.mono ?_; rintro e w1 ⟨rfl, hb1⟩)
    go_ret2
    exact TupPost.mk hfin.out (World.ownsRow_nil _ _ _ _) hb1
  obtain ⟨hn4, _, hmap, _⟩ := keyCode_zero h0
  rw [Hlen.out] at hn4
  have hs := srt_of_mapOK hmap
  rw [h0] at hcode
  have Hcode := Lib.hid hcode
  have H0 := Lib.hid h0
  clear hcode h0 hmap
  have hval := fun W => valueOK_val v W
  cases hv : valB v with
  | false =>
    have hfin := Lib.hid (putM_range (v := v) H0.out hv)
    rw [hv] at hval
    have Hval := Lib.hid hval
    clear hv hval
    go_enter Try.func17, Try.ntmps17
    go_wp2_with (first | (go_at_call 50; refine Hcode.out.mono ?_; rintro e w1 ⟨rfl, hb1⟩) | (go_at_call 51; refine (Hval.out _).mono ?_; rintro e w2 ⟨rfl, rfl⟩))
    go_ret2
    exact TupPost.mk hfin.out (World.ownsRow_nil _ _ _ _) hb1
  | true =>
    rw [hv] at hval
    have Hval := Lib.hid hval
    have Hv := Lib.hid hv
    clear hv hval
    go_enter Try.func17, Try.ntmps17
    go_wp2_with (first | (go_at_call 50; refine Hcode.out.mono ?_; rintro e w1 ⟨rfl, hb1⟩) | (go_at_call 51; refine (Hval.out _).mono ?_; rintro e w2 ⟨rfl, rfl⟩) | (go_at_call 52; refine (with_any A n c es key v _ (hr.below hb1 (Nat.le_refl _)) hs hnc hn4).mono ?_; rintro e w3 ⟨v3, rfl, ho3, hb3⟩; obtain ⟨A3, c3, rfl, hc3, hm3, hrd3⟩ := Rd.of_own ho3; have HO := Lib.hid ho3; clear ho3; unfold maxLen at hm3; generalize hpl : (putL es key v).length = pl at *; have Hpl := Lib.hid hpl; clear hpl))
    · have hfin := Lib.hid (putM_full H0.out Hv.out (by have := Hpl.out; omega))
      go_ret2
      exact TupPost.mk hfin.out (World.ownsRow_nil _ _ _ _) (keepS hb1 hb3)
    · have hfin := Lib.hid (putM_ok H0.out Hv.out (by have := Hpl.out; omega))
      go_ret2
      exact TupPost.mk hfin.out (by rw [Hpl.out]; exact ownsRow_base HO.out hb1.size) (keepS hb1 hb3)

theorem delM_bad {es : List Ent} {k : ByteArray} (h : keyCode es k ≠ 0) : delM es k = ([], keyCode es k) := by rw [delM, if_neg h]
theorem delM_none {es : List Ent} {k : ByteArray} (h : keyCode es k = 0) (h2 : fnd es k = none) : delM es k = (es, 5) := by rw [delM, if_pos h, h2]
theorem delM_some {es : List Ent} {k : ByteArray} {i : Nat} (h : keyCode es k = 0) (h2 : fnd es k = some i) : delM es k = (delL es k, 0) := by rw [delM, if_pos h, h2]

set_option maxHeartbeats 1000000 in
theorem implRemove_any (A : Option Addr) (n c : Nat) (es : List Ent) (key : ByteArray) (w : World) (hr : Rd w 2 A n (entsC es)) (hnc : n ≤ c) (hc : c ≤ maxLen) (hks : ∀ e ∈ es, e.1.size ≤ maxLen) (hkey : key.size ≤ maxLen) :
    Calls Try.prog 20 #[.slice A n c, .string key] w (TupPost 35 (delM es key) w) := by
  have hlen := hr.len
  have Hlen := Lib.hid hlen; clear hlen
  have hm : n ≤ maxLen := by omega
  have hcode := keyedMapCode_any A n c es key w hr hm hks hkey
  by_cases h0 : keyCode es key = 0
  case neg =>
    have hfin := Lib.hid (delM_bad h0)
    have ht : (keyCode es key != 0) = true := bne_iff_ne.2 h0
    generalize keyCode es key = kc at *
    have Hcode := Lib.hid hcode
    clear h0 hcode
    go_enter Try.func20, Try.ntmps20
    go_wp2_with (go_at_call 50; refine Hcode.out.mono ?_; rintro e w1 ⟨rfl, hb1⟩)
    go_ret2
    exact TupPost.mk hfin.out (World.ownsRow_nil _ _ _ _) hb1
  obtain ⟨hn4, _, hmap, _⟩ := keyCode_zero h0
  rw [Hlen.out] at hn4
  have hs := srt_of_mapOK hmap
  rw [h0] at hcode
  have Hcode := Lib.hid hcode
  have H0 := Lib.hid h0
  clear hcode h0 hmap
  go_enter Try.func20, Try.ntmps20
  go_wp2_with (go_at_call 50; refine Hcode.out.mono ?_; rintro e w1 ⟨rfl, hb1⟩)
  refine (find_any A n c es key _ (hr.below hb1 (Nat.le_refl _)) hm).mono ?_
  rintro e w2 ⟨p, f, rfl, hp, hy, hn, hb2⟩
  have hb02 := keepS hb1 hb2
  cases f with
  | false =>
    have hfin := Lib.hid (delM_none H0.out (hp.fnd_no hs (hn rfl)))
    have htk := Lib.hid (show (es.drop 0).take (n - 0) = es by rw [List.drop_zero, List.take_of_length_le (by rw [Hlen.out]; omega)])
    clear hp hy hn
    go_wp2_with (go_at_call 57; refine (part_any A n c es 0 n _ (hr.below hb02 (Nat.le_refl _)) (by omega) (by omega) hnc hc hn4).mono ?_; rintro e w3 ⟨v3, rfl, ho3, hb3⟩; rw [htk.out] at ho3; have HO3 := Lib.hid ho3; clear ho3)
    go_ret2
    exact TupPost.mk hfin.out (ownsRow_base HO3.out hb02.size) (keepS hb02 hb3)
  | true =>
    obtain ⟨hlt, he⟩ := hy rfl
    have hfin := Lib.hid (delM_some H0.out (hp.fnd_yes hlt he))
    clear hp hy hn he hlt
    go_wp2_with (go_at_call 58; refine (without_any A n c es key _ (hr.below hb02 (Nat.le_refl _)) hs hnc hc hn4).mono ?_; rintro e w3 ⟨v3, rfl, ho3, hb3⟩; have HO3 := Lib.hid ho3; clear ho3)
    go_ret2
    exact TupPost.mk hfin.out (ownsRow_base HO3.out hb02.size) (keepS hb02 hb3)

end Go.Proofs.Ytbdippplmcdgaaa
