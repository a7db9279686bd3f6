/- The law's helpers that mark: markText; a row of entries is marked and held against its marks. -/
import Derived.Test.YtjhimcddgkoghaaLawE2
namespace Go.Proofs.Ytjhimcddgkoghaa
open Go.RowKit

def digs : Nat → Int → ByteArray → ByteArray
  | 0, _, t => t
  | f + 1, j, t => if 0 < j then digs f (j / 10) (strOfNums [48 + j % 10] ++ t) else t
def markB (k : Int) : ByteArray := if 0 < k then ⟨#[109]⟩ ++ digs k.toNat k ⟨#[]⟩ else ⟨#[109, 48]⟩
theorem digs_zero (f : Nat) (t : ByteArray) : digs f 0 t = t := by cases f <;> simp [digs]
theorem ret_str {a b : ByteArray} (h : a = b) : Ending.returned (.string a) = .returned (.string b) := by rw [h]

set_option maxRecDepth 100000 in
theorem markText_any (k : Int) (w : World) (h0 : 0 ≤ k) (h1 : k ≤ 1099511627776) :
    Calls Try.prog 116 #[.int .i64 k] w fun e w' => e = .returned (.string (markB k)) ∧ Below w.heap.size w w' := by
  by_cases hk : k ≤ 0
  · have hfin : Hid (markB k = ⟨#[109, 48]⟩) := by show markB k = _; unfold markB; rw [if_neg (by omega)]
    go_enter Try.func116, Try.ntmps116
    go_wp2
    go_ret
    exact ⟨ret_str hfin.out.symm, Below.refl _ _⟩
  have hk' : 0 < k := by omega
  have hfin : Hid (markB k = ⟨#[109]⟩ ++ digs k.toNat k ⟨#[]⟩) := by show markB k = _; unfold markB; rw [if_pos hk']
  have hcv := run_one_byte (P := Try.prog) 101 9 5 Try.underlying101 Try.underlying5 Try.underlying9
  clear hk
  go_enter Try.func116, Try.ntmps116
  go_wp2
  go_loopw [0, 3] (fun x out wr => ∃ (j : Int) (t : ByteArray) (f : Nat), x = .int .i64 j ∧ out = .string t ∧ 0 ≤ j ∧ (t.size : Int) + j ≤ k ∧ j ≤ f ∧ digs f j t = digs k.toNat k ⟨#[]⟩ ∧ Below w.heap.size w wr) (fun x _ _ => (intOf x).toNat)
  case atStart => exact ⟨k, ⟨#[]⟩, k.toNat, rfl, rfl, by omega, by show ((0 : Nat) : Int) + k ≤ k; omega, by omega, rfl, Below.refl _ _⟩
  case round =>
    obtain ⟨j, t, f, rfl, rfl, hj0, hj1, hjf, hd, hb⟩ := hrel
    have HD := Lib.hid hd; clear hd
    by_cases hlt : 0 < j
    · have hone : (strOfNums [48 + j % 10]).size ≤ 1 := Nat.le_refl 1
      obtain ⟨f', hf'⟩ : ∃ f', f = f' + 1 := ⟨f - 1, by omega⟩
      have hst : Hid (digs f' (j / 10) (strOfNums [48 + j % 10] ++ t) = digs k.toNat k ⟨#[]⟩) := by
        have h := HD.out
        rw [hf', digs, if_pos hlt] at h; exact h
      have hsz : Hid ((strOfNums [48 + j % 10] ++ t).size = 1 + t.size) := by
        show (strOfNums [48 + j % 10] ++ t).size = 1 + t.size
        rw [ByteArray.size_append]; rfl
      have hfj : j ≤ (f' : Int) + 1 := by omega
      clear hf' hjf
      go_wp2
      go_roundw
      case rel => exact ⟨_, _, f', rfl, rfl, by omega, by rw [hsz.out]; omega, by omega, hst.out, hb.alloc hb.size _⟩
      case measure => simp [intOf]; omega
    · have hz : j = 0 := by omega
      subst hz
      have hone : t.size ≤ 1099511627776 := by omega
      go_wp2
      go_ret
      exact ⟨ret_str (by rw [hfin.out, ← HD.out, digs_zero]), hb⟩

/-- what a row of entries holds behind its marking, from mark k on -/
def marked : Nat → Int → List Ent
  | 0, _ => []
  | n + 1, k => (markB k, k + 1) :: marked n (k + 2)
end Go.Proofs.Ytjhimcddgkoghaa
