/- The document's Remove and Scan. -/
import Derived.Test.YtbdippplmcdgaaaI5
import Derived.Test.YtbdippplmcdgaaaBase3
namespace Go.Proofs.Ytbdippplmcdgaaa
open Go.RowKit

theorem fnd_lt {es : List Ent} {k : ByteArray} {i : Nat} (h : fnd es k = some i) : i < es.length := by
  rw [fnd, List.findIdx?_eq_some_iff_getElem] at h; exact h.1

set_option maxHeartbeats 1000000 in
set_option maxRecDepth 100000 in
theorem specRemove_any (A : Option Addr) (n c : Nat) (es : List Ent) (key : ByteArray) (w : World) (hr : Rd w 2 A n (entsC es)) (hm : n ≤ maxLen) (hks : ∀ e ∈ es, e.1.size ≤ maxLen) (hkey : key.size ≤ maxLen) :
    Calls Try.prog 21 #[.slice A n c, .string key] w (TupPost 35 (delM es key) w) := by
  have hlen := hr.len
  by_cases hl : 4096 < n ∨ 65536 < key.size
  · have hk2 := keyCode_long (es := es) (k := key) (by rw [hlen]; exact hl)
    have hfin := Lib.hid (delM_bad (es := es) (k := key) (by rw [hk2]; omega))
    have Hk2 := Lib.hid hk2
    clear hlen hk2
    rcases hl with h | h
    all_goals
      go_enter Try.func21, Try.ntmps21
      go_wp2
      all_goals
        go_ret2
        exact TupPost.mk (hfin.out.trans (by rw [Hk2.out])) (own_empty _ (Nat.le_refl _)) ((Below.refl _ _).alloc (Nat.le_refl _) _)
  have hl1 : n ≤ 4096 := by omega
  have hl2 : key.size ≤ 65536 := by omega
  clear hl
  have Hlen := Lib.hid hlen; clear hlen
  have hcode := l01Ask_any A n c es key w hr hm hks hkey
  by_cases h0 : keyCode es key = 0
  case neg =>
    have hfin := Lib.hid (delM_bad h0)
    have ht : (keyCode es key != 0) = true := bne_iff_ne.2 h0
    generalize keyCode es key = kc at *
    have Hcode := Lib.hid hcode
    clear h0 hcode
    go_enter Try.func21, Try.ntmps21
    go_wp2_with (go_at_call 53; refine Hcode.out.mono ?_; rintro e w1 ⟨rfl, hb1⟩)
    go_ret2
    exact TupPost.mk hfin.out (own_empty _ hb1.size) (hb1.alloc hb1.size _)
  rw [h0] at hcode
  have Hcode := Lib.hid hcode
  have H0 := Lib.hid h0
  clear hcode h0
  obtain ⟨i0, hi, hz0, hz1, hz2⟩ := info_parts info_Entry
  have Hi := Lib.hid hi; clear hi
  have Hz0 := Lib.hid hz0; clear hz0
  have Hz1 := Lib.hid hz1; clear hz1
  have Hz2 := Lib.hid hz2; clear hz2
  go_enter Try.func21, Try.ntmps21
  go_wp2_with (go_at_call 53; refine Hcode.out.mono ?_; rintro e w1 ⟨rfl, hb1⟩)
  refine (l01At_any A n c es key _ (hr.below hb1 (Nat.le_refl _)) hm).mono ?_
  rintro e w2 ⟨rfl, hb2⟩
  have hb02 := keepS hb1 hb2
  have hbs := hb02.size
  cases hf : fnd es key with
  | none =>
    have hfin := Lib.hid (delM_none H0.out hf)
    have he : atI es key = -1 := by rw [atI, hf]
    rw [he]
    clear he hf
    have hst := Lib.hid (World.ownsRow_made (base := w.heap.size) (e := 35) (size := 2) w2 #[] 0 hbs (by simp) (by simp))
    have hb3 := Lib.hid (hb02.alloc hbs (.cells #[] 35))
    have hrd3 := Lib.hid (hr.below hb3.out (Nat.le_refl _))
    have hbs3 := hb3.out.size
    go_wp2_with (at_builtin; refine wpList_append_rd (w2.alloc (.cells #[] 35)) rfl _ _ 23 rfl w.heap.size 35 i0 _ 2 24 Try.underlying23 Hi.out Hz0.out Hz1.out Hz2.out rfl (by decide) (.slice (some ⟨w2.heap.size, 0, none⟩) 0 0) 0 [] rfl hst.out A n c (entsC es) rfl hrd3.out (entsC_one es) (by omega) (by decide) hbs3 ?_; intro v4 w4 hown4 hgrow4; have HO4 := Lib.hid hown4; clear hown4)
    go_ret2
    refine TupPost.mk hfin.out ?_ (below_grown hb3.out hgrow4 hst.out hbs3 (Nat.le_refl _))
    have h := HO4.out
    rw [Nat.zero_add, List.nil_append] at h
    rw [Hlen.out]; exact h
  | some i =>
    have hlt := fnd_lt hf
    have hfin := Lib.hid (delM_some H0.out hf)
    have he : atI es key = i := by rw [atI, hf]
    rw [he]
    clear he hf
    go_wp2_with (go_at_call 60; refine (l01Remove_any A n c es key _ (hr.below hb02 (Nat.le_refl _)) hl1).mono ?_; rintro e w3 ⟨v3, rfl, ho3, hb3⟩; have HO3 := Lib.hid ho3; clear ho3)
    go_ret2
    exact TupPost.mk hfin.out (ownsRow_base HO3.out hb02.size) (keepS hb02 hb3)

end Go.Proofs.Ytbdippplmcdgaaa
