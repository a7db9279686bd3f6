/- The code words: the document's and the program's functions, walked. -/
import Derived.Test.YtbdippplmcdgaaaDoorBase
namespace Go.Proofs.YtbdippplmcdgaaaDoor
open Go.RowKit

def words : List ByteArray := [⟨#[111, 107]⟩, ⟨#[98, 97, 100]⟩, ⟨#[108, 111, 110, 103]⟩, ⟨#[102, 111, 114, 109]⟩, ⟨#[114, 97, 110, 103, 101]⟩, ⟨#[110, 111, 110, 101]⟩, ⟨#[109, 97, 110, 121]⟩, ⟨#[102, 117, 108, 108]⟩, ⟨#[115, 105, 122, 101]⟩, ⟨#[107, 105, 110, 100]⟩, ⟨#[110, 97, 109, 101]⟩, ⟨#[99, 111, 110, 102, 108, 105, 99, 116]⟩, ⟨#[114, 101, 116, 114, 105, 101, 115]⟩, ⟨#[115, 116, 97, 108, 101]⟩, ⟨#[101, 120, 105, 115, 116, 115]⟩, ⟨#[100, 111, 110, 101]⟩, ⟨#[111, 114, 100, 101, 114]⟩, ⟨#[108, 97, 103]⟩, ⟨#[115, 97, 109, 101]⟩]
def wordOf (x : Int) : ByteArray := if 0 ≤ x ∧ x < 19 then words.getD x.toNat ByteArray.empty else ByteArray.empty
def wAt (k : Nat) : ByteArray := words.getD k ByteArray.empty
theorem wordOf_at (k : Nat) (h : k < 19) : wordOf (k : Int) = wAt k := by
  rw [wordOf, if_pos (by omega), Int.toNat_natCast]; rfl
theorem wordOf_out (x : Int) (h : x < 0 ∨ 19 ≤ x) : wordOf x = ByteArray.empty := by rw [wordOf, if_neg (by omega)]
def rowW : Array Value := (words.map Value.string).toArray
theorem rowW_at (k : Nat) (h : k < 19) : rowW[k]? = some (.string (wAt k)) := by
  have : k < words.length := h
  simp [rowW, wAt, this]
def codeOfL (b : ByteArray) : Int := match words.findIdx? (fun x => decide (x = b)) with | some i => i | none => -1
theorem codeOfL_some {b : ByteArray} {i : Nat} (hi : i < 19) (h : wAt i = b) (hb : ∀ j, j < i → wAt j ≠ b) : codeOfL b = i := by
  have hl : words.length = 19 := rfl
  have : words.findIdx? (fun x => decide (x = b)) = some i := by
    rw [List.findIdx?_eq_some_iff_getElem]
    refine ⟨by omega, ?_, fun j hj => ?_⟩
    · have h1 : wAt i = words[i] := by rw [wAt, List.getD_eq_getElem?_getD, List.getElem?_eq_getElem (by omega)]; rfl
      exact decide_eq_true (h1.symm.trans h)
    · have h1 : wAt j = words[j]'(by omega) := by rw [wAt, List.getD_eq_getElem?_getD, List.getElem?_eq_getElem (by omega)]; rfl
      have h2 := hb j hj
      rw [h1] at h2; simpa using h2
  rw [codeOfL, this]
theorem codeOfL_none {b : ByteArray} (h : ∀ j, j < 19 → wAt j ≠ b) : codeOfL b = -1 := by
  have : words.findIdx? (fun x => decide (x = b)) = none := by
    rw [List.findIdx?_eq_none_iff]
    intro e he
    obtain ⟨j, hj, rfl⟩ := List.getElem_of_mem he
    have h1 : wAt j = words[j] := by rw [wAt, List.getD_eq_getElem?_getD, List.getElem?_eq_getElem hj]; rfl
    have h2 := h j hj
    rw [h1] at h2; simpa using h2
  rw [codeOfL, this]
/-- the table, as a world holds it -/
def Tab (w : World) : Prop := 0 < w.heap.size ∧ ∀ k, k < 19 → w.cell? ⟨0, k, none⟩ = some (.string (wAt k))
theorem Tab.below {w w' : World} (h : Tab w) (hb : Below w.heap.size w w') : Tab w' := ⟨Nat.lt_of_lt_of_le h.1 hb.size, fun k hk => cellS hb h.1 (h.2 k hk)⟩

set_option maxRecDepth 100000 in
theorem specCodeWord_any (x : Int) (w : World) : Calls Tryd.prog 5 #[.int .i64 x] w fun e w' => e = .returned (.string (wordOf x)) ∧ Below w.heap.size w w' := by
  by_cases hx : x < 0 ∨ 19 ≤ x
  · have ho := Lib.hid (wordOf_out x hx)
    rcases hx with h | h
    all_goals
      go_enter Tryd.func5, Tryd.ntmps5
      go_wp2
      go_ret
      exact ⟨by rw [ho.out]; rfl, (Below.refl _ _).alloc (Nat.le_refl _) _⟩
  · obtain ⟨k, rfl⟩ : ∃ k : Nat, x = k := ⟨x.toNat, by omega⟩
    have hk : k < 19 := by omega
    have ho := Lib.hid (wordOf_at k hk)
    have hc : (w.alloc (Obj.cells rowW 9)).cell? ⟨w.heap.size, k, none⟩ = some (.string (wAt k)) := (cell_of_row _ _ _ _ _ (0, 0) (heap_alloc_new w _)).trans (rowW_at k hk)
    rw [show rowW = #[.string ⟨#[111, 107]⟩, .string ⟨#[98, 97, 100]⟩, .string ⟨#[108, 111, 110, 103]⟩, .string ⟨#[102, 111, 114, 109]⟩, .string ⟨#[114, 97, 110, 103, 101]⟩, .string ⟨#[110, 111, 110, 101]⟩, .string ⟨#[109, 97, 110, 121]⟩, .string ⟨#[102, 117, 108, 108]⟩, .string ⟨#[115, 105, 122, 101]⟩, .string ⟨#[107, 105, 110, 100]⟩, .string ⟨#[110, 97, 109, 101]⟩, .string ⟨#[99, 111, 110, 102, 108, 105, 99, 116]⟩, .string ⟨#[114, 101, 116, 114, 105, 101, 115]⟩, .string ⟨#[115, 116, 97, 108, 101]⟩, .string ⟨#[101, 120, 105, 115, 116, 115]⟩, .string ⟨#[100, 111, 110, 101]⟩, .string ⟨#[111, 114, 100, 101, 114]⟩, .string ⟨#[108, 97, 103]⟩, .string ⟨#[115, 97, 109, 101]⟩] from rfl] at hc
    clear hx
    go_enter Tryd.func5, Tryd.ntmps5
    go_wp2
    go_ret
    exact ⟨by rw [ho.out]; rfl, (Below.refl _ _).alloc (Nat.le_refl _) _⟩

set_option maxRecDepth 100000 in
theorem implCodeWord_any (x : Int) (w : World) (hT : Tab w) : Calls Tryd.prog 6 #[.int .i64 x] w fun e w' => e = .returned (.string (wordOf x)) ∧ Below w.heap.size w w' := by
  by_cases hx : x < 0 ∨ 19 ≤ x
  · have ho := Lib.hid (wordOf_out x hx)
    rcases hx with h | h
    all_goals
      go_enter Tryd.func6, Tryd.ntmps6
      go_wp2
      go_ret
      exact ⟨by rw [ho.out]; rfl, Below.refl _ _⟩
  · obtain ⟨k, rfl⟩ : ∃ k : Nat, x = k := ⟨x.toNat, by omega⟩
    have hk : k < 19 := by omega
    have ho := Lib.hid (wordOf_at k hk)
    have hc := hT.2 k hk
    clear hx
    go_enter Tryd.func6, Tryd.ntmps6
    go_wp2
    go_ret
    exact ⟨by rw [ho.out]; rfl, Below.refl _ _⟩

set_option maxRecDepth 100000 in
theorem specCodeOf_any (b : ByteArray) (w : World) : Calls Tryd.prog 7 #[.string b] w fun e w' => e = .returned (.int .i64 (codeOfL b)) ∧ Below w.heap.size w w' := by
  go_enter Tryd.func7, Tryd.ntmps7
  go_wp2
  go_loopw [3] (fun i wr => ∃ k : Nat, k ≤ 19 ∧ i = .int .i64 k ∧ (∀ j, j < k → wAt j ≠ b) ∧ Below w.heap.size w wr) (fun i _ => 19 - (intOf i).toNat)
  case atStart => exact ⟨0, by omega, rfl, fun j hj => absurd hj (by omega), Below.refl _ _⟩
  case round =>
    obtain ⟨k, hk, rfl, hall, hb⟩ := hrel
    have Hall := Lib.hid hall; clear hall
    by_cases hlt : k < 19
    · have ho := Lib.hid (wordOf_at k hlt)
      by_cases he : wAt k = b
      · have hfin := Lib.hid (codeOfL_some hlt he Hall.out)
        have ht : ((wAt k).toList == b.toList) = true := by rw [toList_beq, decide_eq_true he]
        clear he
        go_wp2_with (go_at_call 5; refine (specCodeWord_any _ _).mono ?_; rintro e w1 ⟨rfl, hb1⟩; rw [ho.out])
        go_ret
        exact ⟨ret_int hfin.out.symm, keepS hb hb1⟩
      · have hstep : Hid (∀ j, j < k + 1 → wAt j ≠ b) := fun j hj => by
          rcases Nat.lt_or_ge j k with h | h
          · exact Hall.out j h
          · have : j = k := by omega
            subst this; exact he
        have ht : ((wAt k).toList == b.toList) = false := by rw [toList_beq, decide_eq_false he]
        clear he
        go_wp2_with (go_at_call 5; refine (specCodeWord_any _ _).mono ?_; rintro e w1 ⟨rfl, hb1⟩; rw [ho.out])
        go_roundw
        case rel => exact ⟨k + 1, by omega, by go_num, hstep.out, keepS hb hb1⟩
        case measure => simp [intOf]; omega
    · have hfin := Lib.hid (codeOfL_none (b := b) fun j hj => Hall.out j (by omega))
      go_wp2
      go_ret
      exact ⟨ret_int hfin.out.symm, hb⟩

set_option maxRecDepth 100000 in
theorem implCodeOf_any (b : ByteArray) (w : World) (hT : Tab w) : Calls Tryd.prog 8 #[.string b] w fun e w' => e = .returned (.int .i64 (codeOfL b)) ∧ Below w.heap.size w w' := by
  go_enter Tryd.func8, Tryd.ntmps8
  go_wp2
  go_loopw [4] (fun i wr => ∃ k : Nat, k ≤ 19 ∧ i = .int .i64 k ∧ (∀ j, j < k → wAt j ≠ b) ∧ Below w.heap.size w wr) (fun i _ => 19 - (intOf i).toNat)
  case atStart => exact ⟨0, by omega, rfl, fun j hj => absurd hj (by omega), Below.refl _ _⟩
  case round =>
    obtain ⟨k, hk, rfl, hall, hb⟩ := hrel
    have Hall := Lib.hid hall; clear hall
    by_cases hlt : k < 19
    · have hc := cellS hb hT.1 (hT.2 k hlt)
      by_cases he : wAt k = b
      · have hfin := Lib.hid (codeOfL_some hlt he Hall.out)
        have ht : ((wAt k).toList == b.toList) = true := by rw [toList_beq, decide_eq_true he]
        clear he
        go_wp2
        go_ret
        exact ⟨ret_int hfin.out.symm, hb⟩
      · have hstep : Hid (∀ j, j < k + 1 → wAt j ≠ b) := fun j hj => by
          rcases Nat.lt_or_ge j k with h | h
          · exact Hall.out j h
          · have : j = k := by omega
            subst this; exact he
        have ht : ((wAt k).toList == b.toList) = false := by rw [toList_beq, decide_eq_false he]
        clear he
        go_wp2
        go_roundw
        case rel => exact ⟨k + 1, by omega, by go_num, hstep.out, hb⟩
        case measure => simp [intOf]; omega
    · have hfin := Lib.hid (codeOfL_none (b := b) fun j hj => Hall.out j (by omega))
      go_wp2
      go_ret
      exact ⟨ret_int hfin.out.symm, hb⟩

theorem lawCodeWord_any (x : Int) (w : World) (hT : Tab w) : Calls Tryd.prog 3 #[.int .i64 x] w fun e w' => e = .returned (.bool true) ∧ Below w.heap.size w w' := by
  have ht : (!((wordOf x).toList == (wordOf x).toList)) = false := by simp
  go_enter Tryd.func3, Tryd.ntmps3
  go_wp2_with fail
  refine (specCodeWord_any x w).mono ?_
  rintro e w1 ⟨rfl, hb1⟩
  go_wp2_with fail
  refine (implCodeWord_any x w1 (hT.below hb1)).mono ?_
  rintro e w2 ⟨rfl, hb2⟩
  go_wp2
  go_ret
  exact ⟨rfl, keepS hb1 hb2⟩

theorem lawCodeOf_any (b : ByteArray) (w : World) (hb : b.size ≤ maxLen) (hT : Tab w) : Calls Tryd.prog 4 #[.string b] w fun e w' => e = .returned (.bool true) ∧ Below w.heap.size w w' := by
  unfold maxLen at hb
  by_cases h : 1048576 < b.size
  · go_enter Tryd.func4, Tryd.ntmps4
    go_wp2
    go_ret
    exact ⟨rfl, Below.refl _ _⟩
  go_enter Tryd.func4, Tryd.ntmps4
  go_wp2_with fail
  refine (specCodeOf_any b w).mono ?_
  rintro e w1 ⟨rfl, hb1⟩
  go_wp2_with fail
  refine (implCodeOf_any b w1 (hT.below hb1)).mono ?_
  rintro e w2 ⟨rfl, hb2⟩
  go_wp2
  go_ret
  exact ⟨rfl, keepS hb1 hb2⟩

end Go.Proofs.YtbdippplmcdgaaaDoor
