/- The program's side of Get: keyedMapCode, place, find, Get. -/
import Derived.Test.YtjhimcddgkoghaaS1
namespace Go.Proofs.Ytjhimcddgkoghaa
open Go.RowKit

def PlcPost (es : List Ent) (key : ByteArray) (w : World) (e : Ending) (w' : World) : Prop := ∃ p : Nat, e = .returned (.int .i64 p) ∧ IsPlc es key p ∧ Below w.heap.size w w'
theorem plc_end {es : List Ent} {key : ByteArray} {k : Nat} (h : k ≤ es.length) (hall : ∀ j, (hj : j < es.length) → j < k → klt es[j].1 key = true) (hn : (hk : k < es.length) → klt es[k].1 key = false) : IsPlc es key k := ⟨h, hall, hn⟩

theorem place_any (A : Option Addr) (n c : Nat) (es : List Ent) (key : ByteArray) (w : World) (hr : Rd w 2 A n (entsC es)) (hm : n ≤ maxLen) :
    Calls Try.prog 270 #[.slice A n c, .string key] w (PlcPost es key w) := by
  unfold maxLen at hm
  have hlen := hr.len
  have Hlen := Lib.hid hlen; clear hlen
  have hmeth := method_key
  go_enter Try.func270, Try.ntmps270
  go_wp2
  go_loopw [5] (fun i wr => ∃ k : Nat, k ≤ n ∧ i = .int .i64 k ∧ (∀ j, (hj : j < es.length) → j < k → klt es[j].1 key = true) ∧ Below w.heap.size w wr) (fun i _ => n - (intOf i).toNat)
  case atStart => exact ⟨0, Nat.zero_le _, rfl, fun j _ hj => absurd hj (by omega), Below.refl _ _⟩
  case round =>
    obtain ⟨k, hk, rfl, hall, hb⟩ := hrel
    have Hall := Lib.hid hall; clear hall
    by_cases hlt : k < n
    · have hke : k < es.length := by rw [Hlen.out]; exact hlt
      obtain ⟨b, off, rfl, hbl, hbl2, hc1, hc2⟩ := hr.ent hb hke
      cases hq : klt es[k].1 key with
      | true =>
        have ht : Op.bytesLess es[k].1.toList key.toList = true := hq
        have hstep : Hid (∀ j, (hj : j < es.length) → j < k + 1 → klt es[j].1 key = true) := fun j hj hjk => by
          rcases Nat.lt_or_ge j k with h | h
          · exact Hall.out j hj h
          · have : j = k := by omega
            subst this; exact hq
        clear hq
        go_wp2_with (go_at_call 289; refine (keyOf_any _ _ _).mono ?_; rintro e w1 ⟨rfl, hb1⟩)
        go_roundw
        case rel => exact ⟨k + 1, by omega, by go_num, hstep.out, keepS hb hb1⟩
        case measure => simp [intOf]; omega
      | false =>
        have ht : Op.bytesLess es[k].1.toList key.toList = false := hq
        have hfin : Hid (IsPlc es key k) := plc_end (by omega) Hall.out (fun _ => hq)
        clear hq
        go_wp2_with (go_at_call 289; refine (keyOf_any _ _ _).mono ?_; rintro e w1 ⟨rfl, hb1⟩)
        go_ret
        exact ⟨k, rfl, hfin.out, keepS hb hb1⟩
    · have hfin : Hid (IsPlc es key k) := plc_end (by rw [Hlen.out]; omega) Hall.out (fun h => absurd h (by rw [Hlen.out]; omega))
      go_wp2
      go_ret
      exact ⟨k, rfl, hfin.out, hb⟩

def FndPost (es : List Ent) (key : ByteArray) (w : World) (e : Ending) (w' : World) : Prop :=
  ∃ (p : Nat) (f : Bool), e = .returned (.tuple #[.int .i64 p, .bool f]) ∧ IsPlc es key p ∧ (f = true → ∃ h : p < es.length, es[p].1 = key) ∧ (f = false → ∀ h : p < es.length, es[p].1 ≠ key) ∧ Below w.heap.size w w'

theorem find_any (A : Option Addr) (n c : Nat) (es : List Ent) (key : ByteArray) (w : World) (hr : Rd w 2 A n (entsC es)) (hm : n ≤ maxLen) :
    Calls Try.prog 262 #[.slice A n c, .string key] w (FndPost es key w) := by
  have hlen := hr.len
  have Hlen := Lib.hid hlen; clear hlen
  have hmeth := method_key
  go_enter Try.func262, Try.ntmps262
  go_wp2_with fail
  refine (place_any A n c es key w hr hm).mono ?_
  rintro e w1 ⟨p, rfl, hp, hb⟩
  unfold maxLen at hm
  have hple := hp.1
  rw [Hlen.out] at hple
  have HP := Lib.hid hp; clear hp
  by_cases hlt : p < n
  · have hke : p < es.length := by rw [Hlen.out]; exact hlt
    obtain ⟨b, off, rfl, hbl, hbl2, hc1, hc2⟩ := hr.ent hb hke
    by_cases he : es[p].1 = key
    · have ht : (es[p].1.toList == key.toList) = true := by rw [he]; simp
      have HE := Lib.hid he; clear he
      go_wp2_with (go_at_call 289; refine (keyOf_any _ _ _).mono ?_; rintro e w2 ⟨rfl, hb1⟩)
      go_ret2
      exact ⟨p, true, rfl, HP.out, (fun _ => ⟨hke, HE.out⟩), (fun h => by cases h), keepS hb hb1⟩
    · have ht : (es[p].1.toList == key.toList) = false := by rw [toList_beq]; exact decide_eq_false he
      have HE := Lib.hid he; clear he
      go_wp2_with (go_at_call 289; refine (keyOf_any _ _ _).mono ?_; rintro e w2 ⟨rfl, hb1⟩)
      go_ret2
      exact ⟨p, false, rfl, HP.out, (fun h => by cases h), (fun _ _ => HE.out), keepS hb hb1⟩
  · go_wp2
    go_ret2
    exact ⟨p, false, rfl, HP.out, (fun h => by cases h), (fun _ h => absurd h (by rw [Hlen.out]; omega)), hb⟩

end Go.Proofs.Ytjhimcddgkoghaa
