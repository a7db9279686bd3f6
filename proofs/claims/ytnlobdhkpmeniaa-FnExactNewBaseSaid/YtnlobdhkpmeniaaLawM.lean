/- The law's helpers that mark: markText; a row of entries is marked and held against its marks. -/
import Derived.Test.YtnlobdhkpmeniaaLawE2
namespace Go.Proofs.Ytnlobdhkpmeniaa
open Go.RowKit

def digs : Nat → Int → ByteArray → ByteArray
  | 0, _, t => t
  | f + 1, j, t => if 0 < j then digs f (j / 10) (strOfNums [48 + j % 10] ++ t) else t
def markB (k : Int) : ByteArray := if 0 < k then ⟨#[109]⟩ ++ digs k.toNat k ⟨#[]⟩ else ⟨#[109, 48]⟩
theorem digs_zero (f : Nat) (t : ByteArray) : digs f 0 t = t := by cases f <;> simp [digs]
theorem ret_str {a b : ByteArray} (h : a = b) : Ending.returned (.string a) = .returned (.string b) := by rw [h]

set_option maxRecDepth 100000 in
theorem markText_any (k : Int) (w : World) (h0 : 0 ≤ k) (h1 : k ≤ 1099511627776) :
    Calls Try.prog 94 #[.int .i64 k] w fun e w' => e = .returned (.string (markB k)) ∧ Below w.heap.size w w' := by
  by_cases hk : k ≤ 0
  · have hfin : Hid (markB k = ⟨#[109, 48]⟩) := by show markB k = _; unfold markB; rw [if_neg (by omega)]
    go_enter Try.func94, Try.ntmps94
    go_wp2
    go_ret
    exact ⟨ret_str hfin.out.symm, Below.refl _ _⟩
  have hk' : 0 < k := by omega
  have hfin : Hid (markB k = ⟨#[109]⟩ ++ digs k.toNat k ⟨#[]⟩) := by show markB k = _; unfold markB; rw [if_pos hk']
  have hcv := run_one_byte (P := Try.prog) 147 9 5 Try.underlying147 Try.underlying5 Try.underlying9
  clear hk
  go_enter Try.func94, Try.ntmps94
  go_wp2
  go_loopw [0, 3] (fun x out wr => ∃ (j : Int) (t : ByteArray) (f : Nat), x = .int .i64 j ∧ out = .string t ∧ 0 ≤ j ∧ (t.size : Int) + j ≤ k ∧ j ≤ f ∧ digs f j t = digs k.toNat k ⟨#[]⟩ ∧ Below w.heap.size w wr) (fun x _ _ => (intOf x).toNat)
  case atStart => exact ⟨k, ⟨#[]⟩, k.toNat, rfl, rfl, by omega, by show ((0 : Nat) : Int) + k ≤ k; omega, by omega, rfl, Below.refl _ _⟩
  case round =>
    obtain ⟨j, t, f, rfl, rfl, hj0, hj1, hjf, hd, hb⟩ := hrel
    have HD := Lib.hid hd; clear hd
    by_cases hlt : 0 < j
    · have hone : (strOfNums [48 + j % 10]).size ≤ 1 := Nat.le_refl 1
      obtain ⟨f', hf'⟩ : ∃ f', f = f' + 1 := ⟨f - 1, by omega⟩
      have hst : Hid (digs f' (j / 10) (strOfNums [48 + j % 10] ++ t) = digs k.toNat k ⟨#[]⟩) := by
        have h := HD.out
        rw [hf', digs, if_pos hlt] at h; exact h
      have hsz : Hid ((strOfNums [48 + j % 10] ++ t).size = 1 + t.size) := by
        show (strOfNums [48 + j % 10] ++ t).size = 1 + t.size
        rw [ByteArray.size_append]; rfl
      have hfj : j ≤ (f' : Int) + 1 := by omega
      clear hf' hjf
      go_wp2
      go_roundw
      case rel => exact ⟨_, _, f', rfl, rfl, by omega, by rw [hsz.out]; omega, by omega, hst.out, hb.alloc hb.size _⟩
      case measure => simp [intOf]; omega
    · have hz : j = 0 := by omega
      subst hz
      have hone : t.size ≤ 1099511627776 := by omega
      go_wp2
      go_ret
      exact ⟨ret_str (by rw [hfin.out, ← HD.out, digs_zero]), hb⟩

/-- what a row of entries holds behind its marking, from mark k on -/
def marked : Nat → Int → List Ent
  | 0, _ => []
  | n + 1, k => (markB k, k + 1) :: marked n (k + 2)
theorem marked_length (n : Nat) (k : Int) : (marked n k).length = n := by
  induction n generalizing k with
  | zero => rfl
  | succ n ih => simp [marked, ih]
theorem marked_snoc (n : Nat) (k : Int) : marked (n + 1) k = marked n k ++ [(markB (k + 2 * n), k + 2 * n + 1)] := by
  induction n generalizing k with
  | zero => simp [marked]
  | succ n ih =>
    rw [marked, ih, marked, List.cons_append]
    have e : k + 2 + 2 * (n : Int) = k + 2 * ((n + 1 : Nat) : Int) := by omega
    rw [e]

theorem marked_get (n : Nat) (k0 : Int) (k : Nat) (h : k < n) : (marked n k0)[k]'(by rw [marked_length]; exact h) = (markB (k0 + 2 * k), k0 + 2 * k + 1) := by
  induction n generalizing k0 k with
  | zero => omega
  | succ n ih =>
    cases k with
    | zero => simp [marked]
    | succ k =>
      have := ih (k0 + 2) k (by omega)
      have e : k0 + 2 * ((k + 1 : Nat) : Int) = k0 + 2 + 2 * (k : Int) := by omega
      rw [e, ← this]; simp [marked]
theorem grown_of_below {w w' : World} (h : Below w.heap.size w w') (row : Option Nat) : w.grownBy w' row := ⟨h.os, h.tape, h.output, h.size, fun i hi _ => h.block i hi⟩
theorem grown_then {a b c : World} {row : Option Nat} (h : a.grownBy b row) (k : Below b.heap.size b c) : a.grownBy c row :=
  ⟨k.os.trans h.os, k.tape.trans h.tape, k.output.trans h.output, Nat.le_trans h.size k.size, fun i hi hne => (k.block i (Nat.lt_of_lt_of_le hi h.size)).trans (h.block i hi hne)⟩
theorem grown_setCell {a w : World} {g : Nat} (h : a.grownBy w (some g)) {p : Addr} (hp : p.block = g) (u : Value) : a.grownBy (w.setCell p u) (some g) :=
  ⟨h.os, h.tape, h.output, by simpa [World.setCell] using h.size, fun i hi hne => (Below.heap_setCell w p u i (by rintro rfl; exact hne (by rw [hp]))).trans (h.block i hi hne)⟩

set_option maxRecDepth 100000 in
theorem markEntryS_any (base n : Nat) (v : Value) (xs : List Value) (k0 : Int) (w : World) (ho : w.ownsRow base 114 2 v n xs) (hm : n ≤ 1048600) (h0 : 0 ≤ k0) (h1 : k0 ≤ 8388608) :
    Calls Try.prog 32 #[v, .int .i64 k0] w fun e w' => e = .returned (.int .i64 (k0 + 2 * n)) ∧ w'.ownsRow base 114 2 v n (entsC (marked n k0)) ∧ w.grownBy w' v.ownBlock := by
  rcases own_blk ho with ⟨rfl, rfl, rfl⟩ | ⟨g, cap, cs, rfl, hbg, hblk, hc, hcm, hsz, _⟩
  · go_enter Try.func32, Try.ntmps32
    go_wp2
    go_loopw [1, 5] (fun k i wr => k = .int .i64 k0 ∧ i = .int .i64 0 ∧ wr = w) (fun _ i _ => 1)
    case atStart => exact ⟨rfl, rfl, rfl⟩
    case round =>
      obtain ⟨rfl, rfl, rfl⟩ := hrel
      go_wp2
      go_ret
      exact ⟨ret_int (by simp), ho, grown_of_below (Below.refl _ _) _⟩
  have Ho := Lib.hid ho; clear ho
  have HSZ := Lib.hid hsz; clear hsz
  have HB0 := Lib.hid hblk; clear hblk
  clear hcm hbg
  go_enter Try.func32, Try.ntmps32
  go_wp2
  go_loopw [1, 5] (fun kk i wr => ∃ (k : Nat) (cs : Array Value), k ≤ n ∧ i = .int .i64 k ∧ kk = .int .i64 (k0 + 2 * k) ∧ Blk wr g 114 cs ∧ cs.size = cap * 2 ∧ cs.toList.take (k * 2) = entsC (marked k k0) ∧ w.grownBy wr (some g)) (fun _ i _ => n - (intOf i).toNat)
  case atStart => exact ⟨0, cs, Nat.zero_le _, rfl, by simp, HB0.out, HSZ.out, by simp [entsC, marked], grown_of_below (Below.refl _ _) _⟩
  case round =>
    obtain ⟨k, cs, hk, rfl, rfl, hblk, hsz, htk, hg⟩ := hrel
    have HT := Lib.hid htk; clear htk
    have HS := Lib.hid hsz; clear hsz
    have HB := Lib.hid hblk; clear hblk
    by_cases hlt : k < n
    · go_wp2_with fail
      refine (markText_any _ _ (by omega) (by omega)).mono ?_
      rintro e w1 ⟨rfl, hb1⟩
      have hblk1 : Blk w1 g 114 cs := HB.out.kept hb1
      have hsz' := HS.out
      have hx0 : w1.cell? ⟨g, k * 2, none⟩ = some (cs[k * 2]'(by omega)) := by rw [hblk1.cell]; exact Array.getElem?_eq_getElem (by omega)
      have hx1 : w1.cell? ⟨g, k * 2 + 1, none⟩ = some (cs[k * 2 + 1]'(by omega)) := by rw [hblk1.cell]; exact Array.getElem?_eq_getElem (by omega)
      have hf0 := hblk1.frozen (k * 2)
      have hf1 := hblk1.frozen (k * 2 + 1)
      generalize cs[k * 2]'(by omega) = y0 at *
      generalize cs[k * 2 + 1]'(by omega) = y1 at *
      generalize hmb : markB (k0 + 2 * (k : Int)) = mb
      have HMB := Lib.hid hmb; clear hmb
      have HB1 := Lib.hid hblk1; clear hblk1 hsz'
      go_wp2
      go_roundw
      case rel =>
        refine ⟨k + 1, _, by omega, by go_num, ?_, (HB1.out.set_ _ _).set_ _ _, by simpa using HS.out, ?_, ?_⟩
        · rw [show k0 + 2 * (k : Int) + 1 + 1 = k0 + 2 * ((k + 1 : Nat) : Int) from by omega]
        · rw [take_set2 _ _ _ _ (by have := HS.out; omega), HT.out, marked_snoc, entsC_append, HMB.out]; rfl
        · exact grown_setCell (grown_setCell (grown_then hg hb1) rfl _) rfl _
      case measure => simp [intOf]; omega
    · have hkn : k = n := by omega
      have HKN := Lib.hid hkn; clear hkn
      go_wp2
      go_ret
      refine ⟨ret_int (by rw [HKN.out]), HB.out.own ?_ hc ?_ HS.out ?_, hg⟩
      · exact (Ho.out.lt g rfl).1
      · rcases own_blk Ho.out with ⟨h, _⟩ | ⟨g', cap', cs', h, _, _, _, h2, _⟩
        · cases h
        · cases h; exact h2
      · rw [← HKN.out]; exact HT.out

set_option maxRecDepth 100000 in
theorem heldEntryS_any (A : Option Addr) (n c : Nat) (k0 : Int) (w : World) (hr : Rd w 2 A n (entsC (marked n k0))) (hm : n ≤ 1048600) (h0 : 0 ≤ k0) (h1 : k0 ≤ 8388608) :
    Calls Try.prog 86 #[.slice A n c, .int .i64 k0] w fun e w' => e = .returned (.int .i64 (k0 + 2 * n)) ∧ Below w.heap.size w w' := by
  have hlen := hr.len
  have Hlen := Lib.hid hlen; clear hlen
  go_enter Try.func86, Try.ntmps86
  go_wp2
  go_loopw [1, 5] (fun kk i wr => ∃ (k : Nat), k ≤ n ∧ i = .int .i64 k ∧ kk = .int .i64 (k0 + 2 * k) ∧ Below w.heap.size w wr) (fun _ i _ => n - (intOf i).toNat)
  case atStart => exact ⟨0, Nat.zero_le _, rfl, by simp, Below.refl _ _⟩
  case round =>
    obtain ⟨k, hk, rfl, rfl, hb⟩ := hrel
    by_cases hlt : k < n
    · have hke : k < (marked n k0).length := by rw [marked_length]; exact hlt
      obtain ⟨b, off, rfl, hbl, hbl2, hc1, hc2⟩ := hr.ent hb hke
      rw [marked_get n k0 k hlt] at hc1 hc2
      have hcW := cellW hb hbl hc1
      have hcW2 := cellW hb hbl hc2
      clear hc2
      have hcall : Hid (∀ W : World, Calls Try.prog 94 #[.int .i64 (k0 + 2 * (k : Int))] W fun e w' => e = .returned (.string (markB (k0 + 2 * (k : Int)))) ∧ Below W.heap.size W w') := fun W => markText_any _ W (by omega) (by omega)
      generalize markB (k0 + 2 * (k : Int)) = mb at *
      have ht : (!(mb.toList == mb.toList)) = false := by simp
      go_wp2
      go_region_held3 (fun w' => Below w.heap.size w w' ∧ w'.cell? ⟨b, off + k * 2, none⟩ = some (.string mb)) (first | exact ⟨hb.drew, hc1⟩ | exact ⟨keepH (by assumption) hb1, cellS (keepH (by assumption) hb1) hbl hcW⟩)
        (first | (go_at_call 94; refine (hcall.out _).mono ?_; rintro e w1 ⟨rfl, hb1⟩))
      rename_i hH
      obtain ⟨hbb, _⟩ := hH
      have hc2' := cellS hbb hbl hcW2
      go_wp2
      go_roundw
      case rel =>
        refine ⟨k + 1, by omega, by go_num, ?_, hbb⟩
        rw [show k0 + 2 * (k : Int) + 1 + 1 = k0 + 2 * ((k + 1 : Nat) : Int) from by omega]
      case measure => simp [intOf]; omega
    · go_wp2
      go_ret
      exact ⟨ret_int (by omega), hb⟩

end Go.Proofs.Ytnlobdhkpmeniaa
