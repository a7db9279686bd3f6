import Derived.Test.YtjhimcddgkoghaaMdl3
namespace Go.Proofs.Ytjhimcddgkoghaa
open Go.RowKit

theorem valueOK_any (x : Int) (w : World) :
    Calls Try.prog 173 #[.int .i64 x] w fun e w' => e = .returned (.bool (decide (-1000000 ≤ x) && decide (x ≤ 1000000))) ∧ w = w' := by
  go_enter Try.func173, Try.ntmps173
  go_wp2
  all_goals (go_ret; exact ⟨ret_bool (by rw [Bool.eq_iff_iff]; simp; try omega), rfl⟩)

theorem l01In_any (x a b : Int) (w : World) :
    Calls Try.prog 155 #[.int .i64 x, .int .i64 a, .int .i64 b] w fun e w' => e = .returned (.bool (decide (a ≤ x) && decide (x ≤ b))) ∧ w = w' := by
  go_enter Try.func155, Try.ntmps155
  go_wp2
  all_goals (go_ret; exact ⟨ret_bool (by rw [Bool.eq_iff_iff]; simp; try omega), rfl⟩)

theorem keyOf_any (key : ByteArray) (v : Int) (w : World) :
    Calls Try.prog 289 #[.agg #[.string key, .int .i64 v]] w fun e w' => e = .returned (.string key) ∧ Below w.heap.size w w' := by
  go_enter Try.func289, Try.ntmps289
  go_wp2
  go_ret
  exact ⟨rfl, (Below.refl _ _).alloc (Nat.le_refl _) _⟩

theorem l00Word_ent (es : List Ent) (k : Nat) (hke : k < es.length) (hs : es[k].1.size ≤ maxLen) (W : World) :
    Calls Try.prog 154 #[.string es[k].1] W fun e w' => e = .returned (.bool (nm (kAt es k))) ∧ W = w' := by
  rw [kAt_eq es k hke]; exact l00Word_any _ W hs

theorem l01In_ent (es : List Ent) (k : Nat) (hke : k < es.length) (W : World) :
    Calls Try.prog 155 #[.int .i64 es[k].2, .int .i64 (-1000000), .int .i64 1000000] W fun e w' => e = .returned (.bool (valAt es k)) ∧ W = w' := by
  have e : valAt es k = (decide (-1000000 ≤ es[k].2) && decide (es[k].2 ≤ 1000000)) := by simp [valAt, valB, hke]
  rw [e]; exact l01In_any _ _ _ _

set_option maxRecDepth 100000 in
theorem l01OK_any (A : Option Addr) (n c : Nat) (es : List Ent) (w : World) (hr : Rd w 2 A n (entsC es)) (hm : n ≤ maxLen) (hks : ∀ e ∈ es, e.1.size ≤ maxLen) :
    Calls Try.prog 122 #[.slice A n c] w fun e w' => e = .returned (.bool (mapOK es)) ∧ Below w.heap.size w w' := by
  unfold maxLen at hm
  have hlen := hr.len
  have Hlen := Lib.hid hlen; clear hlen
  by_cases hbig : 12 < n
  · have hfin : Hid (mapOK es = false) := mapOK_long (by rw [Hlen.out]; exact hbig)
    go_enter Try.func122, Try.ntmps122
    go_wp2
    go_ret
    exact ⟨ret_bool hfin.out.symm, Below.refl _ _⟩
  have hn12 : n ≤ 12 := by omega
  clear hbig
  go_enter Try.func122, Try.ntmps122
  go_wp2
  go_loopw [3] (fun i wr => ∃ k : Nat, k ≤ n ∧ i = .int .i64 k ∧ (∀ j, j < k → ordAt es j = true ∧ valAt es j = true) ∧ Below w.heap.size w wr) (fun i _ => n - (intOf i).toNat)
  case atStart => exact ⟨0, Nat.zero_le _, rfl, fun j hj => absurd hj (by omega), Below.refl _ _⟩
  case round =>
    obtain ⟨k, hk, rfl, hall, hb⟩ := hrel
    have Hall := Lib.hid hall; clear hall
    by_cases hlt : k < n
    · have hke : k < es.length := by rw [Hlen.out]; exact hlt
      obtain ⟨b, off, rfl, hbl, hbl2, hc1, hc2⟩ := hr.ent hb hke
      have hcall := l00Word_ent es k hke (hks _ (List.getElem_mem hke))
      have hcall2 := l01In_ent es k hke
      cases hw : nm (kAt es k) with
      | false =>
        have hfin : Hid (mapOK es = false) := mapOK_noOrd hke (by rw [ordAt, hw]; rfl)
        rw [hw] at hcall
        have Hcall := Lib.hid hcall
        clear hw hcall hcall2
        go_wp2
        go_quiet ((first | (go_at_call 154; exact Calls.quiet_of_same ((Hcall.out _).mono (fun _ _ h => ⟨h.1, h.2.symm⟩)))))
        go_wp2
        go_ret
        exact ⟨ret_bool hfin.out.symm, hb.drewN _⟩
      | true =>
      cases hv : valAt es k with
      | false =>
        have hfin : Hid (mapOK es = false) := mapOK_noVal hke hv
        rw [hw] at hcall
        rw [hv] at hcall2
        have Hcall := Lib.hid hcall
        have Hcall2 := Lib.hid hcall2
        clear hw hv hcall hcall2
        go_wp2
        go_quiet ((first | (go_at_call 154; exact Calls.quiet_of_same ((Hcall.out _).mono (fun _ _ h => ⟨h.1, h.2.symm⟩))) | (go_at_call 155; exact Calls.quiet_of_same ((Hcall2.out _).mono (fun _ _ h => ⟨h.1, h.2.symm⟩)))))
        go_wp2
        go_ret
        exact ⟨ret_bool hfin.out.symm, hb.drewN _⟩
      | true =>
      by_cases hk0 : k = 0
      · subst hk0
        have hstep : Hid (∀ j, j < 0 + 1 → ordAt es j = true ∧ valAt es j = true) := fun j hj => by
          have : j = 0 := by omega
          subst this; exact ⟨ordAt_zero hw, hv⟩
        rw [hw] at hcall
        rw [hv] at hcall2
        have Hcall := Lib.hid hcall
        have Hcall2 := Lib.hid hcall2
        clear hw hv hcall hcall2
        simp only [Nat.zero_mul, Nat.add_zero] at hc1 hc2
        go_wp2
        go_quiet ((first | (go_at_call 154; exact Calls.quiet_of_same ((Hcall.out _).mono (fun _ _ h => ⟨h.1, h.2.symm⟩))) | (go_at_call 155; exact Calls.quiet_of_same ((Hcall2.out _).mono (fun _ _ h => ⟨h.1, h.2.symm⟩)))))
        go_wp2
        go_roundw
        case rel => exact ⟨0 + 1, by omega, by go_num, hstep.out, hb.drewN _⟩
        case measure => simp [intOf]; omega
      · have hkp : 0 < k := by omega
        have hor := ordAt_pos hkp hke hw
        obtain ⟨b', off', he, _, _, hc3, _⟩ := hr.ent hb (show k - 1 < es.length by omega)
        obtain ⟨rfl, rfl⟩ : b = b' ∧ off = off' := by simpa using he
        have ht : (Op.bytesLess es[k].1.toList (es[k - 1]'(by omega)).1.toList || es[k].1.toList == (es[k - 1]'(by omega)).1.toList) = !ordAt es k := by rw [kle_eq, hor]
        have hi0 : 0 ≤ (k : Int) - 1 := by omega
        have hi1 : ((k : Int) - 1).toNat = k - 1 := by omega
        have hi2 : (0 : Int) < (k : Int) := by omega
        rw [hw] at hcall
        rw [hv] at hcall2
        have Hcall := Lib.hid hcall
        have Hcall2 := Lib.hid hcall2
        clear hcall hcall2 hk0 he hor
        cases ho : ordAt es k with
        | false =>
          have hfin : Hid (mapOK es = false) := mapOK_noOrd hke ho
          rw [ho] at ht
          clear hw hv ho
          go_wp2
          go_quiet ((first | (go_at_call 154; exact Calls.quiet_of_same ((Hcall.out _).mono (fun _ _ h => ⟨h.1, h.2.symm⟩))) | (go_at_call 155; exact Calls.quiet_of_same ((Hcall2.out _).mono (fun _ _ h => ⟨h.1, h.2.symm⟩)))))
          go_wp2
          go_ret
          exact ⟨ret_bool hfin.out.symm, hb.drewN _⟩
        | true =>
          have hstep : Hid (∀ j, j < k + 1 → ordAt es j = true ∧ valAt es j = true) := fun j hj => by
            rcases Nat.lt_or_ge j k with h | h
            · exact Hall.out j h
            · have : j = k := by omega
              subst this; exact ⟨ho, hv⟩
          rw [ho] at ht
          clear hw hv ho
          go_wp2
          go_quiet ((first | (go_at_call 154; exact Calls.quiet_of_same ((Hcall.out _).mono (fun _ _ h => ⟨h.1, h.2.symm⟩))) | (go_at_call 155; exact Calls.quiet_of_same ((Hcall2.out _).mono (fun _ _ h => ⟨h.1, h.2.symm⟩)))))
          go_wp2
          go_roundw
          case rel => exact ⟨k + 1, by omega, by go_num, hstep.out, hb.drewN _⟩
          case measure => simp [intOf]; omega
    · have hfin : Hid (mapOK es = true) := mapOK_of (by rw [Hlen.out]; exact hn12) (fun i hi => Hall.out i (by rw [Hlen.out] at hi; omega))
      go_wp2
      go_ret
      exact ⟨ret_bool hfin.out.symm, hb⟩

end Go.Proofs.Ytjhimcddgkoghaa
