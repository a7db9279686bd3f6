/- The program's side of Get: keyedMapCode, place, find, Get. -/
import Derived.Test.YtbdippplmcdgaaaS1
namespace Go.Proofs.Ytbdippplmcdgaaa
open Go.RowKit

theorem keyedMapCode_any (A : Option Addr) (n c : Nat) (es : List Ent) (key : ByteArray) (w : World) (hr : Rd w 2 A n (entsC es)) (hm : n ≤ maxLen) (hks : ∀ e ∈ es, e.1.size ≤ maxLen) (hkey : key.size ≤ maxLen) :
    Calls Try.prog 50 #[.slice A n c, .string key] w fun e w' => e = .returned (.int .i64 (keyCode es key)) ∧ Below w.heap.size w w' := by
  have hlen := hr.len
  by_cases h1 : 4096 < n
  · have hfin := Lib.hid (keyCode_long (es := es) (k := key) (.inl (by omega)))
    clear hlen
    go_enter Try.func50, Try.ntmps50
    go_wp2
    go_ret
    exact ⟨ret_int hfin.out.symm, Below.refl _ _⟩
  have h1' : n ≤ 4096 := by omega
  by_cases h2 : 65536 < key.size
  · have hfin := Lib.hid (keyCode_long (es := es) (k := key) (.inr h2))
    clear hlen
    go_enter Try.func50, Try.ntmps50
    go_wp2
    go_ret
    exact ⟨ret_int hfin.out.symm, Below.refl _ _⟩
  have h2' : key.size ≤ 65536 := by omega
  have hmap := implMapOK_any A n c es w hr hm hks
  have hnm := fun W => nameOK_any key W hkey
  have hnn : Nm.nameOK key.data.toList = nm key := rfl
  rw [hnn] at hnm
  clear h1 h2 hnn
  cases hm1 : mapOK es with
  | false =>
    have hfin := Lib.hid (keyCode_bad (es := es) (k := key) (by omega) h2' (.inl hm1))
    rw [hm1] at hmap
    have Hmap := Lib.hid hmap
    clear hlen hm1 hmap hnm
    go_enter Try.func50, Try.ntmps50
    go_wp2_with (go_at_call 23; refine Hmap.out.mono ?_; rintro e w1 ⟨rfl, hb1⟩)
    go_ret
    exact ⟨ret_int hfin.out.symm, hb1⟩
  | true =>
  rw [hm1] at hmap
  have Hmap := Lib.hid hmap
  cases hn1 : nm key with
  | false =>
    have hfin := Lib.hid (keyCode_bad (es := es) (k := key) (by omega) h2' (.inr hn1))
    rw [hn1] at hnm
    have Hnm := Lib.hid hnm
    clear hlen hm1 hmap hnm hn1
    go_enter Try.func50, Try.ntmps50
    go_wp2_with (first | (go_at_call 23; refine Hmap.out.mono ?_; rintro e w1 ⟨rfl, hb1⟩) | (go_at_call 27; refine (Hnm.out _).mono ?_; rintro e w2 ⟨rfl, rfl⟩))
    go_ret
    exact ⟨ret_int hfin.out.symm, hb1⟩
  | true =>
    have hfin := Lib.hid (keyCode_ok (es := es) (k := key) (by omega) h2' hm1 hn1)
    rw [hn1] at hnm
    have Hnm := Lib.hid hnm
    clear hlen hm1 hmap hnm hn1
    go_enter Try.func50, Try.ntmps50
    go_wp2_with (first | (go_at_call 23; refine Hmap.out.mono ?_; rintro e w1 ⟨rfl, hb1⟩) | (go_at_call 27; refine (Hnm.out _).mono ?_; rintro e w2 ⟨rfl, rfl⟩))
    go_ret
    exact ⟨ret_int hfin.out.symm, hb1⟩


def PlcPost (es : List Ent) (key : ByteArray) (w : World) (e : Ending) (w' : World) : Prop := ∃ p : Nat, e = .returned (.int .i64 p) ∧ IsPlc es key p ∧ Below w.heap.size w w'
theorem plc_end {es : List Ent} {key : ByteArray} {k : Nat} (h : k ≤ es.length) (hall : ∀ j, (hj : j < es.length) → j < k → klt es[j].1 key = true) (hn : (hk : k < es.length) → klt es[k].1 key = false) : IsPlc es key k := ⟨h, hall, hn⟩

theorem place_any (A : Option Addr) (n c : Nat) (es : List Ent) (key : ByteArray) (w : World) (hr : Rd w 2 A n (entsC es)) (hm : n ≤ maxLen) :
    Calls Try.prog 63 #[.slice A n c, .string key] w (PlcPost es key w) := by
  unfold maxLen at hm
  have hlen := hr.len
  have Hlen := Lib.hid hlen; clear hlen
  have hmeth := method_key
  go_enter Try.func63, Try.ntmps63
  go_wp2
  go_loopw [5] (fun i wr => ∃ k : Nat, k ≤ n ∧ i = .int .i64 k ∧ (∀ j, (hj : j < es.length) → j < k → klt es[j].1 key = true) ∧ Below w.heap.size w wr) (fun i _ => n - (intOf i).toNat)
  case atStart => exact ⟨0, Nat.zero_le _, rfl, fun j _ hj => absurd hj (by omega), Below.refl _ _⟩
  case round =>
    obtain ⟨k, hk, rfl, hall, hb⟩ := hrel
    have Hall := Lib.hid hall; clear hall
    by_cases hlt : k < n
    · have hke : k < es.length := by rw [Hlen.out]; exact hlt
      obtain ⟨b, off, rfl, hbl, hbl2, hc1, hc2⟩ := hr.ent hb hke
      cases hq : klt es[k].1 key with
      | true =>
        have ht : Op.bytesLess es[k].1.toList key.toList = true := hq
        have hstep : Hid (∀ j, (hj : j < es.length) → j < k + 1 → klt es[j].1 key = true) := fun j hj hjk => by
          rcases Nat.lt_or_ge j k with h | h
          · exact Hall.out j hj h
          · have : j = k := by omega
            subst this; exact hq
        clear hq
        go_wp2_with (go_at_call 102; refine (keyOf_any _ _ _).mono ?_; rintro e w1 ⟨rfl, hb1⟩)
        go_roundw
        case rel => exact ⟨k + 1, by omega, by go_num, hstep.out, keepS hb hb1⟩
        case measure => simp [intOf]; omega
      | false =>
        have ht : Op.bytesLess es[k].1.toList key.toList = false := hq
        have hfin : Hid (IsPlc es key k) := plc_end (by omega) Hall.out (fun _ => hq)
        clear hq
        go_wp2_with (go_at_call 102; refine (keyOf_any _ _ _).mono ?_; rintro e w1 ⟨rfl, hb1⟩)
        go_ret
        exact ⟨k, rfl, hfin.out, keepS hb hb1⟩
    · have hfin : Hid (IsPlc es key k) := plc_end (by rw [Hlen.out]; omega) Hall.out (fun h => absurd h (by rw [Hlen.out]; omega))
      go_wp2
      go_ret
      exact ⟨k, rfl, hfin.out, hb⟩

def FndPost (es : List Ent) (key : ByteArray) (w : World) (e : Ending) (w' : World) : Prop :=
  ∃ (p : Nat) (f : Bool), e = .returned (.tuple #[.int .i64 p, .bool f]) ∧ IsPlc es key p ∧ (f = true → ∃ h : p < es.length, es[p].1 = key) ∧ (f = false → ∀ h : p < es.length, es[p].1 ≠ key) ∧ Below w.heap.size w w'

theorem find_any (A : Option Addr) (n c : Nat) (es : List Ent) (key : ByteArray) (w : World) (hr : Rd w 2 A n (entsC es)) (hm : n ≤ maxLen) :
    Calls Try.prog 56 #[.slice A n c, .string key] w (FndPost es key w) := by
  have hlen := hr.len
  have Hlen := Lib.hid hlen; clear hlen
  have hmeth := method_key
  go_enter Try.func56, Try.ntmps56
  go_wp2_with fail
  refine (place_any A n c es key w hr hm).mono ?_
  rintro e w1 ⟨p, rfl, hp, hb⟩
  unfold maxLen at hm
  have hple := hp.1
  rw [Hlen.out] at hple
  have HP := Lib.hid hp; clear hp
  by_cases hlt : p < n
  · have hke : p < es.length := by rw [Hlen.out]; exact hlt
    obtain ⟨b, off, rfl, hbl, hbl2, hc1, hc2⟩ := hr.ent hb hke
    by_cases he : es[p].1 = key
    · have ht : (es[p].1.toList == key.toList) = true := by rw [he]; simp
      have HE := Lib.hid he; clear he
      go_wp2_with (go_at_call 102; refine (keyOf_any _ _ _).mono ?_; rintro e w2 ⟨rfl, hb1⟩)
      go_ret2
      exact ⟨p, true, rfl, HP.out, (fun _ => ⟨hke, HE.out⟩), (fun h => by cases h), keepS hb hb1⟩
    · have ht : (es[p].1.toList == key.toList) = false := by rw [toList_beq]; exact decide_eq_false he
      have HE := Lib.hid he; clear he
      go_wp2_with (go_at_call 102; refine (keyOf_any _ _ _).mono ?_; rintro e w2 ⟨rfl, hb1⟩)
      go_ret2
      exact ⟨p, false, rfl, HP.out, (fun h => by cases h), (fun _ _ => HE.out), keepS hb hb1⟩
  · go_wp2
    go_ret2
    exact ⟨p, false, rfl, HP.out, (fun h => by cases h), (fun _ h => absurd h (by rw [Hlen.out]; omega)), hb⟩

theorem getM_bad {es : List Ent} {k : ByteArray} (h : keyCode es k ≠ 0) : getM es k = (0, keyCode es k) := by rw [getM, if_neg h]
theorem getM_none {es : List Ent} {k : ByteArray} (h : keyCode es k = 0) (h2 : fnd es k = none) : getM es k = (0, 5) := by rw [getM, if_pos h, h2]
theorem getM_some {es : List Ent} {k : ByteArray} {i : Nat} (h : keyCode es k = 0) (h2 : fnd es k = some i) (hi : i < es.length) : getM es k = (es[i].2, 0) := by rw [getM, if_pos h, h2]; simp [hi]
theorem ret_two {a b c d : Int} (h : (a, b) = (c, d)) : Ending.returned (.tuple #[.int .i64 a, .int .i64 b]) = .returned (.tuple #[.int .i64 c, .int .i64 d]) := by cases h; rfl

theorem implGet_any (A : Option Addr) (n c : Nat) (es : List Ent) (key : ByteArray) (w : World) (hr : Rd w 2 A n (entsC es)) (hm : n ≤ maxLen) (hks : ∀ e ∈ es, e.1.size ≤ maxLen) (hkey : key.size ≤ maxLen) :
    Calls Try.prog 19 #[.slice A n c, .string key] w fun e w' => e = .returned (.tuple #[.int .i64 (getM es key).1, .int .i64 (getM es key).2]) ∧ Below w.heap.size w w' := by
  have hlen := hr.len
  have Hlen := Lib.hid hlen; clear hlen
  have hcode := keyedMapCode_any A n c es key w hr hm hks hkey
  by_cases h0 : keyCode es key = 0
  case neg =>
    have hfin := Lib.hid (getM_bad h0)
    have ht : (keyCode es key != 0) = true := bne_iff_ne.2 h0
    generalize keyCode es key = kc at *
    have Hcode := Lib.hid hcode
    clear h0 hcode
    go_enter Try.func19, Try.ntmps19
    go_wp2_with (go_at_call 50; refine Hcode.out.mono ?_; rintro e w1 ⟨rfl, hb1⟩)
    go_ret2
    exact ⟨ret_two (by rw [hfin.out]), hb1⟩
  obtain ⟨_, _, hmap, _⟩ := keyCode_zero h0
  have hs := srt_of_mapOK hmap
  rw [h0] at hcode
  have Hcode := Lib.hid hcode
  have H0 := Lib.hid h0
  clear hcode h0 hmap
  go_enter Try.func19, Try.ntmps19
  go_wp2_with (go_at_call 50; refine Hcode.out.mono ?_; rintro e w1 ⟨rfl, hb1⟩)
  refine (find_any A n c es key _ (hr.below hb1 (Nat.le_refl _)) hm).mono ?_
  rintro e w2 ⟨p, f, rfl, hp, hy, hn, hb2⟩
  have hb02 := keepS hb1 hb2
  cases f with
  | false =>
    have hfin := Lib.hid (getM_none H0.out (hp.fnd_no hs (hn rfl)))
    clear hp hy hn
    go_wp2
    go_ret2
    exact ⟨ret_two (by rw [hfin.out]), hb02⟩
  | true =>
    obtain ⟨hlt, he⟩ := hy rfl
    have hfin := Lib.hid (getM_some H0.out (hp.fnd_yes hlt he) hlt)
    obtain ⟨b, off, rfl, hbl, hbl2, hc1, hc2⟩ := hr.ent hb02 hlt
    have hltn : p < n := by rw [Hlen.out] at hlt; exact hlt
    clear hp hy hn he
    go_wp2
    go_ret2
    exact ⟨ret_two (by rw [hfin.out]), hb02⟩

theorem specGet_any (A : Option Addr) (n c : Nat) (es : List Ent) (key : ByteArray) (w : World) (hr : Rd w 2 A n (entsC es)) (hm : n ≤ maxLen) (hks : ∀ e ∈ es, e.1.size ≤ maxLen) (hkey : key.size ≤ maxLen) :
    Calls Try.prog 32 #[.slice A n c, .string key] w fun e w' => e = .returned (.tuple #[.int .i64 (getM es key).1, .int .i64 (getM es key).2]) ∧ Below w.heap.size w w' := by
  have hlen := hr.len
  by_cases hl : 4096 < n ∨ 65536 < key.size
  · have hfin := Lib.hid (getM_bad (es := es) (k := key) (by rw [keyCode_long (by rw [hlen]; exact hl)]; omega))
    have hk2 := Lib.hid (keyCode_long (es := es) (k := key) (by rw [hlen]; exact hl))
    clear hlen
    rcases hl with h | h
    all_goals
      go_enter Try.func32, Try.ntmps32
      go_wp2
      all_goals
        go_ret2
        exact ⟨ret_two (by rw [hfin.out, hk2.out]), Below.refl _ _⟩
  have hl1 : n ≤ 4096 := by omega
  have hl2 : key.size ≤ 65536 := by omega
  clear hl
  have Hlen := Lib.hid hlen; clear hlen
  have hcode := l01Ask_any A n c es key w hr hm hks hkey
  by_cases h0 : keyCode es key = 0
  case neg =>
    have hfin := Lib.hid (getM_bad h0)
    have ht : (keyCode es key != 0) = true := bne_iff_ne.2 h0
    generalize keyCode es key = kc at *
    have Hcode := Lib.hid hcode
    clear h0 hcode
    go_enter Try.func32, Try.ntmps32
    go_wp2_with (go_at_call 53; refine Hcode.out.mono ?_; rintro e w1 ⟨rfl, hb1⟩)
    go_ret2
    exact ⟨ret_two (by rw [hfin.out]), hb1⟩
  rw [h0] at hcode
  have Hcode := Lib.hid hcode
  have H0 := Lib.hid h0
  clear hcode h0
  go_enter Try.func32, Try.ntmps32
  go_wp2_with (go_at_call 53; refine Hcode.out.mono ?_; rintro e w1 ⟨rfl, hb1⟩)
  refine (l01At_any A n c es key _ (hr.below hb1 (Nat.le_refl _)) hm).mono ?_
  rintro e w2 ⟨rfl, hb2⟩
  have hb02 := keepS hb1 hb2
  cases hf : fnd es key with
  | none =>
    have hfin := Lib.hid (getM_none H0.out hf)
    have he : atI es key = -1 := by rw [atI, hf]
    rw [he]
    clear he hf
    go_wp2
    go_ret2
    exact ⟨ret_two (by rw [hfin.out]), hb02⟩
  | some i =>
    have hlt : i < es.length := by have h := hf; rw [fnd, List.findIdx?_eq_some_iff_getElem] at h; exact h.1
    have hfin := Lib.hid (getM_some H0.out hf hlt)
    have he : atI es key = i := by rw [atI, hf]
    rw [he]
    obtain ⟨b, off, rfl, hbl, hbl2, hc1, hc2⟩ := hr.ent hb02 hlt
    have hltn : i < n := by rw [Hlen.out] at hlt; exact hlt
    clear he hf
    go_wp2
    go_ret2
    exact ⟨ret_two (by rw [hfin.out]), hb02⟩

end Go.Proofs.Ytbdippplmcdgaaa
