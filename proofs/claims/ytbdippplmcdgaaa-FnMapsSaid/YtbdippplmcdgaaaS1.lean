/- The document's side of Get: l01Ask, l01At, Get; and the program's keyedMapCode. -/
import Derived.Test.YtbdippplmcdgaaaM3
import Derived.Test.YtbdippplmcdgaaaMdl2
namespace Go.Proofs.Ytbdippplmcdgaaa
open Go.RowKit

theorem keyCode_long {es : List Ent} {k : ByteArray} (h : 4096 < es.length ∨ 65536 < k.size) : keyCode es k = 2 := by rw [keyCode, if_pos h]
theorem keyCode_ok {es : List Ent} {k : ByteArray} (h1 : es.length ≤ 4096) (h2 : k.size ≤ 65536) (h3 : mapOK es = true) (h4 : nm k = true) : keyCode es k = 0 := by rw [keyCode, if_neg (by omega), if_pos ⟨h3, h4⟩]
theorem keyCode_bad {es : List Ent} {k : ByteArray} (h1 : es.length ≤ 4096) (h2 : k.size ≤ 65536) (h3 : mapOK es = false ∨ nm k = false) : keyCode es k = 1 := by
  rw [keyCode, if_neg (by omega), if_neg]
  rintro ⟨a, b⟩
  rcases h3 with h | h
  · rw [h] at a; cases a
  · rw [h] at b; cases b

theorem l01Ask_any (A : Option Addr) (n c : Nat) (es : List Ent) (key : ByteArray) (w : World) (hr : Rd w 2 A n (entsC es)) (hm : n ≤ maxLen) (hks : ∀ e ∈ es, e.1.size ≤ maxLen) (hkey : key.size ≤ maxLen) :
    Calls Try.prog 53 #[.slice A n c, .string key] w fun e w' => e = .returned (.int .i64 (keyCode es key)) ∧ Below w.heap.size w w' := by
  have hlen := hr.len
  by_cases h1 : 4096 < n
  · have hfin := Lib.hid (keyCode_long (es := es) (k := key) (.inl (by omega)))
    clear hlen
    go_enter Try.func53, Try.ntmps53
    go_wp2
    go_ret
    exact ⟨ret_int hfin.out.symm, Below.refl _ _⟩
  have h1' : n ≤ 4096 := by omega
  by_cases h2 : 65536 < key.size
  · have hfin := Lib.hid (keyCode_long (es := es) (k := key) (.inr h2))
    clear hlen
    go_enter Try.func53, Try.ntmps53
    go_wp2
    go_ret
    exact ⟨ret_int hfin.out.symm, Below.refl _ _⟩
  have h2' : key.size ≤ 65536 := by omega
  have hmap := l01OK_any A n c es w hr hm hks
  have hnm := fun W => l00Word_any key W hkey
  have hnn : Nm.nameOK key.data.toList = nm key := rfl
  rw [hnn] at hnm
  clear h1 h2 hnn
  cases hm1 : mapOK es with
  | false =>
    have hfin := Lib.hid (keyCode_bad (es := es) (k := key) (by omega) h2' (.inl hm1))
    rw [hm1] at hmap
    have Hmap := Lib.hid hmap
    clear hlen hm1 hmap hnm
    go_enter Try.func53, Try.ntmps53
    go_wp2_with (go_at_call 64; refine Hmap.out.mono ?_; rintro e w1 ⟨rfl, hb1⟩)
    go_ret
    exact ⟨ret_int hfin.out.symm, hb1⟩
  | true =>
  rw [hm1] at hmap
  have Hmap := Lib.hid hmap
  cases hn1 : nm key with
  | false =>
    have hfin := Lib.hid (keyCode_bad (es := es) (k := key) (by omega) h2' (.inr hn1))
    rw [hn1] at hnm
    have Hnm := Lib.hid hnm
    clear hlen hm1 hmap hnm hn1
    go_enter Try.func53, Try.ntmps53
    go_wp2_with (first | (go_at_call 64; refine Hmap.out.mono ?_; rintro e w1 ⟨rfl, hb1⟩) | (go_at_call 65; refine (Hnm.out _).mono ?_; rintro e w2 ⟨rfl, rfl⟩))
    go_ret
    exact ⟨ret_int hfin.out.symm, hb1⟩
  | true =>
    have hfin := Lib.hid (keyCode_ok (es := es) (k := key) (by omega) h2' hm1 hn1)
    rw [hn1] at hnm
    have Hnm := Lib.hid hnm
    clear hlen hm1 hmap hnm hn1
    go_enter Try.func53, Try.ntmps53
    go_wp2_with (first | (go_at_call 64; refine Hmap.out.mono ?_; rintro e w1 ⟨rfl, hb1⟩) | (go_at_call 65; refine (Hnm.out _).mono ?_; rintro e w2 ⟨rfl, rfl⟩))
    go_ret
    exact ⟨ret_int hfin.out.symm, hb1⟩

theorem atI_yes {es : List Ent} {k : ByteArray} {i : Nat} (hi : i < es.length) (h : es[i].1 = k) (hb : ∀ j, (hj : j < es.length) → j < i → es[j].1 ≠ k) : atI es k = i := by
  rw [atI, fnd_some hi h (fun j hj => hb j (by omega) hj)]
theorem atI_no {es : List Ent} {k : ByteArray} (h : ∀ j, (hj : j < es.length) → es[j].1 ≠ k) : atI es k = -1 := by rw [atI, fnd_none h]

theorem l01At_any (A : Option Addr) (n c : Nat) (es : List Ent) (key : ByteArray) (w : World) (hr : Rd w 2 A n (entsC es)) (hm : n ≤ maxLen) :
    Calls Try.prog 59 #[.slice A n c, .string key] w fun e w' => e = .returned (.int .i64 (atI es key)) ∧ Below w.heap.size w w' := by
  unfold maxLen at hm
  have hlen := hr.len
  have Hlen := Lib.hid hlen; clear hlen
  go_enter Try.func59, Try.ntmps59
  go_wp2
  go_loop [5] (fun i => ∃ k : Nat, k ≤ n ∧ i = .int .i64 k ∧ ∀ j, (hj : j < es.length) → j < k → es[j].1 ≠ key) (fun i => n - (intOf i).toNat)
  case atStart => exact ⟨0, Nat.zero_le _, rfl, fun j _ hj => absurd hj (by omega)⟩
  case round =>
    obtain ⟨k, hk, rfl, hall⟩ := hrel
    have Hall := Lib.hid hall; clear hall
    by_cases hlt : k < n
    · have hke : k < es.length := by rw [Hlen.out]; exact hlt
      obtain ⟨b, off, rfl, hbl, _, hc1, _⟩ := hr.ent (Below.refl _ _) hke
      by_cases he : es[k].1 = key
      · have hfin := Lib.hid (atI_yes hke he Hall.out)
        have ht : (es[k].1.toList == key.toList) = true := by rw [he]; simp
        clear he
        go_wp2
        go_ret
        exact ⟨ret_int hfin.out.symm, Below.refl _ _⟩
      · have ht : (es[k].1.toList == key.toList) = false := by rw [toList_beq]; exact decide_eq_false he
        have hstep : Hid (∀ j, (hj : j < es.length) → j < k + 1 → es[j].1 ≠ key) := fun j hj hjk => by
          rcases Nat.lt_or_ge j k with h | h
          · exact Hall.out j hj h
          · have : j = k := by omega
            subst this; exact he
        clear he
        go_wp2
        go_round
        case rel => exact ⟨k + 1, by omega, by go_num, hstep.out⟩
        case measure => simp [intOf]; omega
    · have hfin := Lib.hid (atI_no (es := es) (k := key) fun j hj => Hall.out j hj (by rw [Hlen.out] at hj; omega))
      go_wp2
      go_ret
      exact ⟨ret_int hfin.out.symm, Below.refl _ _⟩

end Go.Proofs.Ytbdippplmcdgaaa
