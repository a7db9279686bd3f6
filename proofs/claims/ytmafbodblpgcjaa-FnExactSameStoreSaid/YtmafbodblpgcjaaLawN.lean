/- The law's helpers on edits: a row of edits is marked and held against its marks. -/
import Derived.Test.YtmafbodblpgcjaaLawF
import Derived.Test.YtmafbodblpgcjaaLawM
namespace Go.Proofs.Ytmafbodblpgcjaa
open Go.RowKit

/-- what a row of edits holds behind its marking, from mark k on -/
def markedE : Nat → Int → List Edt
  | 0, _ => []
  | n + 1, k => ⟨markB k, k + 1, (k + 2) % 3 == 0⟩ :: markedE n (k + 3)
theorem markedE_length (n : Nat) (k : Int) : (markedE n k).length = n := by
  induction n generalizing k with
  | zero => rfl
  | succ n ih => simp [markedE, ih]
theorem markedE_snoc (n : Nat) (k : Int) : markedE (n + 1) k = markedE n k ++ [⟨markB (k + 3 * n), k + 3 * n + 1, (k + 3 * n + 2) % 3 == 0⟩] := by
  induction n generalizing k with
  | zero => simp [markedE]
  | succ n ih =>
    rw [markedE, ih, markedE, List.cons_append]
    have e : k + 3 + 3 * (n : Int) = k + 3 * ((n + 1 : Nat) : Int) := by omega
    rw [e]
theorem markedE_get (n : Nat) (k0 : Int) (k : Nat) (h : k < n) : (markedE n k0)[k]'(by rw [markedE_length]; exact h) = ⟨markB (k0 + 3 * k), k0 + 3 * k + 1, (k0 + 3 * k + 2) % 3 == 0⟩ := by
  induction n generalizing k0 k with
  | zero => omega
  | succ n ih =>
    cases k with
    | zero => simp [markedE]
    | succ k =>
      have := ih (k0 + 3) k (by omega)
      have e : k0 + 3 * ((k + 1 : Nat) : Int) = k0 + 3 + 3 * (k : Int) := by omega
      rw [e, ← this]; simp [markedE]

set_option maxHeartbeats 1000000 in
set_option maxRecDepth 100000 in
theorem markEditS_any (base n : Nat) (v : Value) (xs : List Value) (k0 : Int) (w : World) (ho : w.ownsRow base 41 3 v n xs) (hm : n ≤ 1048600) (h0 : 0 ≤ k0) (h1 : k0 ≤ 8388608) :
    Calls Try.prog 61 #[v, .int .i64 k0] w fun e w' => e = .returned (.int .i64 (k0 + 3 * n)) ∧ w'.ownsRow base 41 3 v n (edtsC (markedE n k0)) ∧ w.grownBy w' v.ownBlock := by
  rcases own_blk ho with ⟨rfl, rfl, rfl⟩ | ⟨g, cap, cs, rfl, hbg, hblk, hc, hcm, hsz, _⟩
  · go_enter Try.func61, Try.ntmps61
    go_wp2
    go_loopw [1, 5] (fun k i wr => k = .int .i64 k0 ∧ i = .int .i64 0 ∧ wr = w) (fun _ i _ => 1)
    case atStart => exact ⟨rfl, rfl, rfl⟩
    case round =>
      obtain ⟨rfl, rfl, rfl⟩ := hrel
      go_wp2
      go_ret
      exact ⟨ret_int (by simp), ho, grown_of_below (Below.refl _ _) _⟩
  have Ho := Lib.hid ho; clear ho
  have HSZ := Lib.hid hsz; clear hsz
  have HB0 := Lib.hid hblk; clear hblk
  clear hcm hbg
  go_enter Try.func61, Try.ntmps61
  go_wp2
  go_loopw [1, 5] (fun kk i wr => ∃ (k : Nat) (cs : Array Value), k ≤ n ∧ i = .int .i64 k ∧ kk = .int .i64 (k0 + 3 * k) ∧ Blk wr g 41 cs ∧ cs.size = cap * 3 ∧ cs.toList.take (k * 3) = edtsC (markedE k k0) ∧ w.grownBy wr (some g)) (fun _ i _ => n - (intOf i).toNat)
  case atStart => exact ⟨0, cs, Nat.zero_le _, rfl, by simp, HB0.out, HSZ.out, by simp [edtsC, markedE], grown_of_below (Below.refl _ _) _⟩
  case round =>
    obtain ⟨k, cs, hk, rfl, rfl, hblk, hsz, htk, hg⟩ := hrel
    have HT := Lib.hid htk; clear htk
    have HS := Lib.hid hsz; clear hsz
    have HB := Lib.hid hblk; clear hblk
    by_cases hlt : k < n
    · go_wp2_with fail
      refine (markText_any _ _ (by omega) (by omega)).mono ?_
      rintro e w1 ⟨rfl, hb1⟩
      have hblk1 : Blk w1 g 41 cs := HB.out.kept hb1
      obtain ⟨y0, y1, y2, hx0, hx1, hx2, hf0, hf1, hf2⟩ := hblk1.three (k := k) (by have := HS.out; omega)
      generalize hmb : markB (k0 + 3 * (k : Int)) = mb
      have HMB := Lib.hid hmb; clear hmb
      have HB1 := Lib.hid hblk1; clear hblk1
      have hpos3 : 0 ≤ k0 + 3 * (k : Int) + 1 + 1 := by omega
      go_wp2
      go_roundw
      case rel =>
        refine ⟨k + 1, _, by omega, by go_num, ?_, ((HB1.out.set_ _ _).set_ _ _).set_ _ _, by simpa using HS.out, ?_, ?_⟩
        · rw [show k0 + 3 * (k : Int) + 1 + 1 + 1 = k0 + 3 * ((k + 1 : Nat) : Int) from by omega]
        · rw [take_set3 _ _ _ _ _ (by have := HS.out; omega), HT.out, markedE_snoc, edtsC_append, HMB.out, show k0 + 3 * (k : Int) + 1 + 1 = k0 + 3 * (k : Int) + 2 from by omega]; rfl
        · exact grown_setCell (grown_setCell (grown_setCell (grown_then hg hb1) rfl _) rfl _) rfl _
      case measure => simp [intOf]; omega
    · have hkn : k = n := by omega
      have HKN := Lib.hid hkn; clear hkn
      go_wp2
      go_ret
      refine ⟨ret_int (by rw [HKN.out]), HB.out.own ?_ hc ?_ HS.out ?_, hg⟩
      · exact (Ho.out.lt g rfl).1
      · rcases own_blk Ho.out with ⟨h, _⟩ | ⟨g', cap', cs', h, _, _, _, h2, _⟩
        · cases h
        · cases h; exact h2
      · rw [← HKN.out]; exact HT.out

set_option maxHeartbeats 1000000 in
set_option maxRecDepth 100000 in
theorem heldEditS_any (A : Option Addr) (n c : Nat) (k0 : Int) (w : World) (hr : Rd w 3 A n (edtsC (markedE n k0))) (hm : n ≤ 1048600) (h0 : 0 ≤ k0) (h1 : k0 ≤ 8388608) :
    Calls Try.prog 65 #[.slice A n c, .int .i64 k0] w fun e w' => e = .returned (.int .i64 (k0 + 3 * n)) ∧ Below w.heap.size w w' := by
  have hlen := hr.elen
  have Hlen := Lib.hid hlen; clear hlen
  go_enter Try.func65, Try.ntmps65
  go_wp2
  go_loopw [1, 5] (fun kk i wr => ∃ (k : Nat), k ≤ n ∧ i = .int .i64 k ∧ kk = .int .i64 (k0 + 3 * k) ∧ Below w.heap.size w wr) (fun _ i _ => n - (intOf i).toNat)
  case atStart => exact ⟨0, Nat.zero_le _, rfl, by simp, Below.refl _ _⟩
  case round =>
    obtain ⟨k, hk, rfl, rfl, hb⟩ := hrel
    by_cases hlt : k < n
    · have hke : k < (markedE n k0).length := by rw [markedE_length]; exact hlt
      obtain ⟨b, off, rfl, hbl, hbl2, hc1, hc2, hc3⟩ := hr.edt hb hke
      rw [markedE_get n k0 k hlt] at hc1 hc2 hc3
      have hcW2 := cellW hb hbl hc2
      have hcW3 := cellW hb hbl hc3
      simp only at hc1 hcW2 hcW3
      clear hc2 hc3
      have hA0 := fun y : Aft wr => y.cell hbl2 hc1
      have hcall : Hid (∀ W : World, Calls Try.prog 123 #[.int .i64 (k0 + 3 * (k : Int))] W fun e w' => e = .returned (.string (markB (k0 + 3 * (k : Int)))) ∧ Below W.heap.size W w') := fun W => markText_any _ W (by omega) (by omega)
      generalize markB (k0 + 3 * (k : Int)) = mb at *
      have ht : (!(mb.toList == mb.toList)) = false := by simp
      have hpos3 : 0 ≤ k0 + 3 * (k : Int) + 1 + 1 := by omega
      have he2 : k0 + 3 * (k : Int) + 2 = k0 + 3 * (k : Int) + 1 + 1 := by omega
      rw [he2] at hcW3
      clear he2
      go_wp2
      refine wp_region_after (by kernel_rfl) (by kernel_rfl) ?_
      repeat (go_big_quiet_step ((first | (go_at_call 123; exact Aft.call (hcall.out _)))))
      refine wpQuiet_nil ?_
      rintro _ ⟨y, rfl⟩
      have hbb := keepS hb y.below
      generalize y.at_ = w3 at *
      have hc2' := cellS hbb hbl hcW2
      have hc3' := cellS hbb hbl hcW3
      go_wp2
      go_roundw
      case rel =>
        refine ⟨k + 1, by omega, by go_num, ?_, hbb⟩
        rw [show k0 + 3 * (k : Int) + 1 + 1 + 1 = k0 + 3 * ((k + 1 : Nat) : Int) from by omega]
      case measure => simp [intOf]; omega
    · go_wp2
      go_ret
      exact ⟨ret_int (by omega), hb⟩

end Go.Proofs.Ytmafbodblpgcjaa
