import Derived.Test.YtjhimcddgkoghaaM2
namespace Go.Proofs.Ytjhimcddgkoghaa
open Go.RowKit

theorem valueOK_ent (es : List Ent) (k : Nat) (hke : k < es.length) (W : World) :
    Calls Try.prog 173 #[.int .i64 es[k].2] W fun e w' => e = .returned (.bool (valAt es k)) ∧ W = w' := by
  have e : valAt es k = (decide (-1000000 ≤ es[k].2) && decide (es[k].2 ≤ 1000000)) := by simp [valAt, valB, hke]
  rw [e]; exact valueOK_any _ _

set_option maxHeartbeats 1000000 in
set_option maxRecDepth 100000 in
theorem implMapOK_any (A : Option Addr) (n c : Nat) (es : List Ent) (w : World) (hr : Rd w 2 A n (entsC es)) (hm : n ≤ maxLen) (hks : ∀ e ∈ es, e.1.size ≤ maxLen) :
    Calls Try.prog 125 #[.slice A n c] w fun e w' => e = .returned (.bool (mapOK es)) ∧ Below w.heap.size w w' := by
  have hm' := hm
  unfold maxLen at hm
  have hlen := hr.len
  have Hlen := Lib.hid hlen; clear hlen
  by_cases hbig : 12 < n
  · have hfin : Hid (mapOK es = false) := mapOK_long (by rw [Hlen.out]; exact hbig)
    go_enter Try.func125, Try.ntmps125
    go_wp2
    go_ret
    exact ⟨ret_bool hfin.out.symm, Below.refl _ _⟩
  have hn12 : n ≤ 12 := by omega
  clear hbig
  cases ho : ordM es with
  | false =>
    have hfin : Hid (mapOK es = false) := by show mapOK es = false; rw [mapOK, ho]; simp
    have hcall := inOrder_any A n c es w hr hm' hks
    rw [ho] at hcall
    have Hcall := Lib.hid hcall
    clear ho hcall
    go_enter Try.func125, Try.ntmps125
    go_wp2_with (go_at_call 215; refine Hcall.out.mono ?_; rintro e w1 ⟨rfl, hb1⟩)
    go_ret
    exact ⟨ret_bool hfin.out.symm, hb1⟩
  | true =>
    have hcall := inOrder_any A n c es w hr hm' hks
    rw [ho] at hcall
    have Hcall := Lib.hid hcall
    have Ho := Lib.hid ho
    clear ho hcall
    go_enter Try.func125, Try.ntmps125
    go_wp2_with (go_at_call 215; refine Hcall.out.mono ?_; rintro e w1 ⟨rfl, hb1⟩)
    go_loopw [15] (fun i wr => ∃ k : Nat, k ≤ n ∧ i = .int .i64 k ∧ (∀ j, j < k → valAt es j = true) ∧ Below w.heap.size w wr) (fun i _ => n - (intOf i).toNat)
    case atStart => exact ⟨0, Nat.zero_le _, rfl, fun j hj => absurd hj (by omega), hb1⟩
    case round =>
      obtain ⟨k, hk, rfl, hall, hb⟩ := hrel
      have Hall := Lib.hid hall; clear hall
      by_cases hlt : k < n
      · have hke : k < es.length := by rw [Hlen.out]; exact hlt
        obtain ⟨b, off, rfl, hbl, hbl2, hc1, hc2⟩ := hr.ent hb hke
        have hcall := valueOK_ent es k hke
        cases hv : valAt es k with
        | false =>
          have hfin : Hid (mapOK es = false) := mapOK_noVal hke hv
          rw [hv] at hcall
          have Hcall := Lib.hid hcall
          clear hv hcall
          go_wp2_with (go_at_call 173; refine (Hcall.out _).mono ?_; rintro e w1 ⟨rfl, rfl⟩)
          go_ret
          exact ⟨ret_bool hfin.out.symm, hb.alloc hb.size _⟩
        | true =>
          have hstep : Hid (∀ j, j < k + 1 → valAt es j = true) := fun j hj => by
            rcases Nat.lt_or_ge j k with h | h
            · exact Hall.out j h
            · have : j = k := by omega
              subst this; exact hv
          rw [hv] at hcall
          have Hcall := Lib.hid hcall
          clear hv hcall
          go_wp2_with (go_at_call 173; refine (Hcall.out _).mono ?_; rintro e w1 ⟨rfl, rfl⟩)
          go_roundw
          case rel => exact ⟨k + 1, by omega, by go_num, hstep.out, hb.alloc hb.size _⟩
          case measure => simp [intOf]; omega
      · have hfin : Hid (mapOK es = true) := mapOK_of (by rw [Hlen.out]; exact hn12) (fun i hi => ⟨ordM_at Ho.out hi, Hall.out i (by rw [Hlen.out] at hi; omega)⟩)
        go_wp2
        go_ret
        exact ⟨ret_bool hfin.out.symm, hb⟩

end Go.Proofs.Ytjhimcddgkoghaa
