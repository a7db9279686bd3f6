/- The law's helpers on entries: size, copy, equality. -/
import Derived.Test.YtlihobpedkldpaaBase
namespace Go.Proofs.Ytlihobpedkldpaa
open Go.RowKit

def SzPost (P : Int → Prop) (w : World) (e : Ending) (w' : World) : Prop := ∃ r : Int, e = .returned (.int .i64 r) ∧ P r ∧ Below w.heap.size w w'

theorem szEntry_any (key : ByteArray) (v left : Int) (w : World) (hk : key.size ≤ maxLen) (h0 : 0 ≤ left) (h1 : left ≤ 1048576) :
    Calls Try.prog 81 #[.agg #[.string key, .int .i64 v], .int .i64 left] w (SzPost (fun r => r = -1 ∨ (0 ≤ r ∧ r ≤ left ∧ key.size ≤ 1048576)) w) := by
  unfold maxLen at hk
  by_cases h : left - key.size < 0
  · go_enter Try.func81, Try.ntmps81
    go_wp2
    go_ret
    exact ⟨_, rfl, .inl rfl, (Below.refl _ _).alloc (Nat.le_refl _) _⟩
  · go_enter Try.func81, Try.ntmps81
    go_wp2
    go_ret
    exact ⟨_, rfl, .inr ⟨by omega, by omega, by omega⟩, (Below.refl _ _).alloc (Nat.le_refl _) _⟩

def SzEnts (es : List Ent) (left r : Int) : Prop := r < 0 ∨ (0 ≤ r ∧ r ≤ left ∧ es.length ≤ 1048576 ∧ ∀ e ∈ es, e.1.size ≤ 1048576)

theorem szEntryS_any (A : Option Addr) (n c : Nat) (es : List Ent) (left : Int) (w : World) (hr : Rd w 2 A n (entsC es)) (hm : n ≤ maxLen) (hks : ∀ e ∈ es, e.1.size ≤ maxLen) (h0 : 0 ≤ left) (h1 : left ≤ 1048576) :
    Calls Try.prog 29 #[.slice A n c, .int .i64 left] w (SzPost (SzEnts es left) w) := by
  unfold maxLen at hm
  have hlen := hr.len
  have Hlen := Lib.hid hlen; clear hlen
  by_cases hbig : left - n < 0
  · go_enter Try.func29, Try.ntmps29
    go_wp2
    go_ret
    exact ⟨_, rfl, .inl (by omega), Below.refl _ _⟩
  have hbig' : 0 ≤ left - n := by omega
  clear hbig
  go_enter Try.func29, Try.ntmps29
  go_wp2
  go_loopw [1, 5] (fun l i wr => ∃ k : Nat, k ≤ n ∧ i = .int .i64 k ∧ (∃ x : Int, l = .int .i64 x ∧ 0 ≤ x ∧ x ≤ left - n) ∧ (∀ e ∈ es.take k, e.1.size ≤ 1048576) ∧ Below w.heap.size w wr) (fun _ i _ => n - (intOf i).toNat)
  case atStart => exact ⟨0, Nat.zero_le _, rfl, ⟨_, rfl, hbig', Int.le_refl _⟩, by simp, Below.refl _ _⟩
  case round =>
    obtain ⟨k, hk, rfl, ⟨x, rfl, hx0, hx1⟩, hall, hb⟩ := hrel
    by_cases hlt : k < n
    · have hke : k < es.length := by rw [Hlen.out]; exact hlt
      obtain ⟨b, off, rfl, hbl, hbl2, hc1, hc2⟩ := hr.ent hb hke
      have hks' := hks es[k] (List.getElem_mem hke)
      have Hall := Lib.hid hall; clear hall
      have hstep : Hid (es[k].1.size ≤ 1048576 → ∀ e ∈ es.take (k + 1), e.1.size ≤ 1048576) := by
        intro h e he
        rw [List.take_succ_eq_append_getElem hke, List.mem_append] at he
        rcases he with he | he
        · exact Hall.out e he
        · rw [List.mem_singleton] at he; rw [he]; exact h
      generalize es[k] = ek at *
      have Hks := Lib.hid hks; clear hks
      go_wp2_with fail
      refine (szEntry_any _ _ _ _ hks' (by omega) (by omega)).mono ?_
      rintro e w1 ⟨r, rfl, (rfl | ⟨hr0, hr1, hr2⟩), hb1⟩
      · go_wp2
        go_ret
        exact ⟨_, rfl, .inl (by omega), hb.trans (hb1.mono hb.size)⟩
      · go_wp2
        go_roundw
        case rel => exact ⟨k + 1, by omega, by go_num, ⟨_, rfl, hr0, by omega⟩, hstep.out hr2, hb.trans (hb1.mono hb.size)⟩
        case measure => simp [intOf]; omega
    · go_wp2
      go_ret
      exact ⟨_, rfl, .inr ⟨hx0, by omega, by rw [Hlen.out]; omega, by rw [List.take_of_length_le (by rw [Hlen.out]; omega)] at hall; exact hall⟩, hb⟩

theorem toEntry_any (key : ByteArray) (v : Int) (w : World) :
    Calls Try.prog 83 #[.agg #[.string key, .int .i64 v]] w fun e w' => e = .returned (.agg #[.string key, .int .i64 v]) ∧ Below w.heap.size w w' := by
  go_enter Try.func83, Try.ntmps83
  go_wp2
  exact bodyPost_ret (v := .agg #[.string key, .int .i64 v]) (by simp [results, Try.results83, go_sem]) rfl ⟨rfl, by
    refine ((((((((((Below.refl _ _).alloc (Nat.le_refl _) _).alloc (by simp) _).alloc (by simp; omega) _)))))))⟩

def EqE (a b : Ent) : Bool := decide (a.1 = b.1) && decide (a.2 = b.2)
theorem eqEntry_any (k1 k2 : ByteArray) (v1 v2 : Int) (w : World) :
    Calls Try.prog 85 #[.agg #[.string k1, .int .i64 v1], .agg #[.string k2, .int .i64 v2]] w fun e w' => e = .returned (.bool (EqE (k1, v1) (k2, v2))) ∧ Below w.heap.size w w' := by
  have hk := toList_beq k1 k2
  by_cases h1 : k1 = k2 <;> by_cases h2 : v1 = v2
  all_goals
    go_enter Try.func85, Try.ntmps85
    go_wp2
    go_ret
    exact ⟨ret_bool (by simp [EqE, h1, h2]), ((Below.refl _ _).alloc (Nat.le_refl _) _).alloc (by simp) _⟩

end Go.Proofs.Ytlihobpedkldpaa
