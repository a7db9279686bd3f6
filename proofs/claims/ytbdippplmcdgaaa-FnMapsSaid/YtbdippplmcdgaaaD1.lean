/- The document's source of choices, walked: what a byte, a number below a bound, one of some texts leave behind. -/
import Derived.Test.YtbdippplmcdgaaaLawM
namespace Go.Proofs.Ytbdippplmcdgaaa
open Go.RowKit

theorem grown_trans {a b c : World} {row : Option Nat} (h : a.grownBy b row) (k : b.grownBy c row) : a.grownBy c row :=
  ⟨k.os.trans h.os, k.tape.trans h.tape, k.output.trans h.output, Nat.le_trans h.size k.size, fun i hi hne => (k.block i (Nat.lt_of_lt_of_le hi h.size) hne).trans (h.block i hi hne)⟩

/-- a source at block g: its code, how far it is read, its seed -/
structure Src (w : World) (g : Nat) (A : Option Addr) (n c : Nat) (bs : List UInt8) (at_ seed : Nat) : Prop where
  blk : Blk w g 94 #[.slice A n c, .int .i64 at_, .int .i64 seed]
  code : Rd w 1 A n (bs.map fun b => .int .u8 b.toNat)
  away : 0 < n → ∀ b off, A = some ⟨b, off, none⟩ → b ≠ g
  seed_lt : seed < 2147483648
  len : bs.length = n

theorem tmod_nat (z : Int) (h : 0 ≤ z) : ∃ s' : Nat, z.tmod 2147483648 = s' ∧ s' < 2147483648 :=
  ⟨(z.tmod 2147483648).toNat, by have := Int.tmod_nonneg 2147483648 h; omega, by have := Int.tmod_lt_of_pos z (show (0 : Int) < 2147483648 by omega); have := Int.tmod_nonneg 2147483648 h; omega⟩
theorem Src.below {B : Nat} {w w' : World} {g : Nat} {A : Option Addr} {n c : Nat} {bs : List UInt8} {a s : Nat} (h : Src w g A n c bs a s) (hb : Below B w w') (hB : w.heap.size ≤ B) : Src w' g A n c bs a s :=
  ⟨h.blk.below hb (Nat.lt_of_lt_of_le h.blk.lt hB), h.code.below hb hB, h.away, h.seed_lt, h.len⟩

theorem Rd.grownBy {w w' : World} {sz n b off : Nat} {xs : List Value} {row : Option Nat} (h : Rd w sz (some ⟨b, off, none⟩) n xs) (hg : w.grownBy w' row) (hne : some b ≠ row) : Rd w' sz (some ⟨b, off, none⟩) n xs :=
  ⟨h.1, fun hn => by
    obtain ⟨b', off', e, hlt, hc⟩ := h.2 hn
    obtain ⟨rfl, rfl⟩ : b = b' ∧ off = off' := by simpa using e
    exact ⟨b, off, rfl, Nat.lt_of_lt_of_le hlt hg.size, fun j u hu => hg.cell (hc j u hu) hne⟩⟩

theorem Rd.keepBy {w w' : World} {sz n g : Nat} {A : Option Addr} {xs : List Value} (h : Rd w sz A n xs) (hg : w.grownBy w' (some g)) (hne : 0 < n → ∀ b off, A = some ⟨b, off, none⟩ → b ≠ g) : Rd w' sz A n xs :=
  ⟨h.1, fun hn => by
    obtain ⟨b, off, rfl, hlt, hc⟩ := h.2 hn
    exact ⟨b, off, rfl, Nat.lt_of_lt_of_le hlt hg.size, fun j u hu => hg.cell (hc j u hu) (by simpa using hne hn b off rfl)⟩⟩

/-- what a read of the source leaves -/
def SrcPost (g : Nat) (A : Option Addr) (n c : Nat) (bs : List UInt8) (a more : Nat) (good : Value → Prop) (w : World) (e : Ending) (w' : World) : Prop :=
  ∃ v a' s', e = .returned v ∧ good v ∧ Src w' g A n c bs a' s' ∧ a' ≤ a + more ∧ w.grownBy w' (some g)

set_option maxRecDepth 100000 in
theorem byte_any (g : Nat) (A : Option Addr) (n c : Nat) (bs : List UInt8) (a s : Nat) (w : World) (h : Src w g A n c bs a s) (hn : n ≤ maxLen) (ha : a ≤ 1099511627776) :
    Calls Try.prog 86 #[.pointer (some ⟨g, 0, none⟩)] w (SrcPost g A n c bs a 1 (fun v => ∃ r : Nat, v = .int .i64 r ∧ r < 256) w) := by
  unfold maxLen at hn
  have hblk := h.blk
  have hc0 := hblk.cell 0
  have hc1 := hblk.cell 1
  have hc2 := hblk.cell 2
  have hf0 := hblk.frozen 0
  have hf1 := hblk.frozen 1
  have hf2 := hblk.frozen 2
  change w.cell? ⟨g, 0, none⟩ = some (.slice A n c) at hc0
  change w.cell? ⟨g, 1, none⟩ = some (.int .i64 a) at hc1
  change w.cell? ⟨g, 2, none⟩ = some (.int .i64 s) at hc2
  have hs := h.seed_lt
  have hbl := hblk.lt
  have hblk1 : Blk (w.setCell ⟨g, 1, none⟩ (.int .i64 ((a : Int) + 1))) g 94 #[.slice A n c, .int .i64 ((a : Int) + 1), .int .i64 s] := hblk.set_ 1 _
  have hg1 : w.grownBy (w.setCell ⟨g, 1, none⟩ (.int .i64 ((a : Int) + 1))) (some g) := grown_setCell (grown_of_below (Below.refl _ _) _) rfl _
  have hcode := h.code
  have hne := h.away
  have hlen := h.len
  have Hlen := Lib.hid hlen; clear hlen
  have Hne := Lib.hid hne; clear hne
  clear h
  go_enter Try.func86, Try.ntmps86
  go_wp2
  generalize w.setCell ⟨g, 1, none⟩ (.int .i64 ((a : Int) + 1)) = w2 at *
  clear hblk hc0 hc1 hc2 hf0 hf1 hf2
  have hb0 := Blk.cell hblk1 0
  have hb1 := Blk.cell hblk1 1
  have hb2 := Blk.cell hblk1 2
  change w2.cell? ⟨g, 0, none⟩ = some (.slice A n c) at hb0
  change w2.cell? ⟨g, 1, none⟩ = some (.int .i64 ((a : Int) + 1)) at hb1
  change w2.cell? ⟨g, 2, none⟩ = some (.int .i64 s) at hb2
  have hl2 := hblk1.lt
  have hA0 := fun y : Aft w2 => y.cell hl2 hb0
  have hA1 := fun y : Aft w2 => y.cell hl2 hb1
  have hA2 := fun y : Aft w2 => y.cell hl2 hb2
  by_cases hlt : a < n
  · have hle : (a : Int) + 1 ≤ n := by omega
    refine wp_region_after (by kernel_rfl) (by kernel_rfl) ?_
    repeat (go_big_quiet_step (fail))
    refine wpQuiet_nil ?_
    rintro _ ⟨y, rfl⟩
    have hby := y.below
    generalize y.at_ = w3 at *
    clear hA0 hA1 hA2
    obtain ⟨b, off, rfl, hbl', hc⟩ := hcode.2 (by omega)
    have hbg := Hne.out (by omega) b off rfl
    have hal : a < bs.length := by rw [Hlen.out]; exact hlt
    obtain ⟨x, hx, hxl⟩ : ∃ x : Nat, bs[a].toNat = x ∧ x < 256 := ⟨_, rfl, UInt8.toNat_lt _⟩
    have hcx := hc a (.int .u8 x) (by rw [List.getElem?_map, List.getElem?_eq_getElem hal, ← hx]; rfl)
    have hcx2 := cellS hby (by have := hg1.size; omega) (hg1.cell hcx (by simpa using hbg))
    have hb0 := cellS hby hl2 hb0
    have hb1 := cellS hby hl2 hb1
    have hb2 := cellS hby hl2 hb2
    have hblk3 := hblk1.kept hby
    have hf2 := hblk3.frozen 2
    have hg3 := grown_then hg1 hby
    have hr1 : (0 : Int) ≤ (s : Int) * 31 + x + 7 := by omega
    have hr2 : (s : Int) * 31 + x + 7 < 9223372036854775808 := by omega
    have hi0 : (0 : Int) ≤ (a : Int) + 1 - 1 := by omega
    have hi1 : ((a : Int) + 1 - 1).toNat = a := by omega
    have hw1 : IntKind.i64.wrap ((s : Int) * 31) = (s : Int) * 31 := IntWalk.i64_in _ (by omega)
    have hw2 : IntKind.i64.wrap (a : Int) = (a : Int) := IntWalk.i64_in _ (by omega)
    have hw3 : IntKind.i64.wrap ((s : Int) * 31 + x) = (s : Int) * 31 + x := IntWalk.i64_in _ (by omega)
    have hw4 : IntKind.i64.wrap ((s : Int) * 31 + x + 7) = (s : Int) * 31 + x + 7 := IntWalk.i64_in _ (by omega)
    have hw5 : IntKind.i64.wrap (x : Int) = (x : Int) := IntWalk.i64_in _ (by omega)
    clear hx
    go_wp2
    go_still_tail 23, (by kernel_rfl)
    change wpList _ _ _ _ _ w3.drew
    obtain ⟨s', hs', hsl⟩ := tmod_nat _ hr1
    rw [hs']
    have hblk4 := hblk3.drew
    have hg4 : w.grownBy w3.drew (some g) := ⟨hg3.os, hg3.tape, hg3.output, hg3.size, hg3.block⟩
    change w3.drew.cell? _ = _ at hcx2
    generalize w3.drew = w4 at *
    clear hb0 hb1 hb2 hf2 hw1 hw3 hw4 hs' hr1 hr2
    have hb2 := hblk4.cell 2
    change w4.cell? ⟨g, 2, none⟩ = some (.int .i64 s) at hb2
    have hf2 := hblk4.frozen 2
    go_wp2
    have hblk5 : Blk (w4.setCell ⟨g, 2, none⟩ (.int .i64 s')) g 94 #[.slice (some ⟨b, off, none⟩) n c, .int .i64 ((a : Int) + 1), .int .i64 s'] := hblk4.set_ 2 _
    have hg5 : w.grownBy (w4.setCell ⟨g, 2, none⟩ (.int .i64 s')) (some g) := grown_setCell hg4 rfl _
    have hcx5 := hg5.cell hcx (by simpa using hbg)
    generalize w4.setCell ⟨g, 2, none⟩ (.int .i64 s') = w5 at *
    have hsz5 := hg5.size
    have hl5 : b < w5.heap.size := by omega
    have hb0 := hblk5.cell 0
    have hb1 := hblk5.cell 1
    change w5.cell? ⟨g, 0, none⟩ = some (.slice (some ⟨b, off, none⟩) n c) at hb0
    change w5.cell? ⟨g, 1, none⟩ = some (.int .i64 ((a : Int) + 1)) at hb1
    have hA0 := fun y : Aft w5 => y.cell hblk5.lt hb0
    have hA1 := fun y : Aft w5 => y.cell hblk5.lt hb1
    have hA3 := fun y : Aft w5 => y.cell hl5 hcx5
    refine wp_region_after (by kernel_rfl) (by kernel_rfl) ?_
    repeat (go_big_quiet_step (fail))
    refine wpQuiet_nil ?_
    rintro _ ⟨y, rfl⟩
    have hby6 := y.below
    generalize y.at_ = w6 at *
    clear hA0 hA1 hA3
    go_wp2
    go_ret
    exact ⟨_, a + 1, s', rfl, ⟨x, rfl, hxl⟩, ⟨hblk5.kept hby6, (hcode.grownBy hg5 (by simpa using hbg)).below hby6 (Nat.le_refl _), Hne.out, hsl, Hlen.out⟩, Nat.le_refl _, grown_then hg5 hby6⟩
  · have hle : ¬ (a : Int) + 1 ≤ n := by omega
    refine wp_region_after (by kernel_rfl) (by kernel_rfl) ?_
    repeat (go_big_quiet_step (fail))
    refine wpQuiet_nil ?_
    rintro _ ⟨y, rfl⟩
    have hby := y.below
    generalize y.at_ = w3 at *
    clear hA0 hA1 hA2
    have hblk3 := hblk1.kept hby
    have hg3 := grown_then hg1 hby
    have hcode' : Rd w3 1 A n (bs.map fun b => .int .u8 b.toNat) := hcode.keepBy hg3 Hne.out
    have hb1 := cellS hby hl2 hb1
    have hb2 := cellS hby hl2 hb2
    have hf2 := hblk3.frozen 2
    by_cases h3 : 3000 < a + 1
    · have h3' : (3000 : Int) < (a : Int) + 1 := by omega
      go_wp2
      go_ret
      exact ⟨_, a + 1, s, rfl, ⟨0, rfl, by omega⟩, ⟨hblk3, hcode', Hne.out, hs, Hlen.out⟩, Nat.le_refl _, hg3⟩
    · have h3' : ¬ (3000 : Int) < (a : Int) + 1 := by omega
      have hr1 : (0 : Int) ≤ (s : Int) * 1103515245 + 12345 := by omega
      have hr2 : (s : Int) * 1103515245 + 12345 < 9223372036854775808 := by omega
      obtain ⟨s', hs', hsl⟩ := tmod_nat _ hr1
      have hsp : (s' : Int).tdiv 65536 = ((s' / 65536 : Nat) : Int) := by rw [Int.tdiv_eq_ediv_of_nonneg (by omega)]; rfl
      have hsq : ((s' / 65536 : Nat) : Int).tmod 256 = ((s' / 65536 % 256 : Nat) : Int) := by rw [Int.tmod_eq_emod_of_nonneg (by omega)]; rfl
      have hblk5 : Blk (w3.setCell ⟨g, 2, none⟩ (.int .i64 s')) g 94 #[.slice A n c, .int .i64 ((a : Int) + 1), .int .i64 s'] := hblk3.set_ 2 _
      have hb5 := hblk5.cell 2
      change (w3.setCell ⟨g, 2, none⟩ (.int .i64 s')).cell? ⟨g, 2, none⟩ = some (.int .i64 s') at hb5
      have hg5 : w.grownBy (w3.setCell ⟨g, 2, none⟩ (.int .i64 s')) (some g) := grown_setCell hg3 rfl _
      go_wp2
      go_ret
      exact ⟨_, a + 1, s', rfl, ⟨s' / 65536 % 256, by simp, Nat.mod_lt _ (by omega)⟩, ⟨hblk5, hcode.keepBy hg5 Hne.out, Hne.out, hsl, Hlen.out⟩, Nat.le_refl _, hg5⟩

/-- a number below m -/
def Below_ (m : Nat) (v : Value) : Prop := ∃ r : Nat, v = .int .i64 r ∧ r < m

set_option maxRecDepth 100000 in
theorem next_any (g : Nat) (A : Option Addr) (n c : Nat) (bs : List UInt8) (a s m : Nat) (w : World) (h : Src w g A n c bs a s) (hn : n ≤ maxLen) (ha : a ≤ 1099511627776) (hm : 2 ≤ m) (hm2 : m ≤ 256) :
    Calls Try.prog 82 #[.pointer (some ⟨g, 0, none⟩), .int .i64 m] w (SrcPost g A n c bs a 1 (Below_ m) w) := by
  have hm1 : ¬ (m : Int) ≤ 1 := by omega
  have hm3 : (m : Int) ≤ 256 := by omega
  have hm0 : (m : Int) ≠ 0 := by omega
  go_enter Try.func82, Try.ntmps82
  go_wp2_with fail
  refine (byte_any g A n c bs a s w h hn ha).mono ?_
  rintro e w1 ⟨v, a', s', rfl, ⟨r, rfl, hr⟩, hs1, ha1, hg1⟩
  have hrm : (r : Int).tmod m = ((r % m : Nat) : Int) := by rw [Int.tmod_eq_emod_of_nonneg (by omega)]; rfl
  go_wp2
  go_ret
  exact ⟨_, a', s', rfl, ⟨r % m, by simp, Nat.mod_lt _ (by omega)⟩, hs1, ha1, hg1⟩

/-- one of some texts -/
def OneOf (ls : List ByteArray) (v : Value) : Prop := ∃ t ∈ ls, v = .string t

set_option maxRecDepth 100000 in
theorem pick_any (g : Nat) (A : Option Addr) (n c : Nat) (bs : List UInt8) (a s : Nat) (L : Option Addr) (m cl : Nat) (ls : List ByteArray) (w : World) (h : Src w g A n c bs a s) (hn : n ≤ maxLen) (ha : a ≤ 1099511627776) (hm : 2 ≤ m) (hm2 : m ≤ 256)
    (hL : Rd w 1 L m (ls.map .string)) (hne : 0 < m → ∀ b off, L = some ⟨b, off, none⟩ → b ≠ g) :
    Calls Try.prog 83 #[.pointer (some ⟨g, 0, none⟩), .slice L m cl] w (SrcPost g A n c bs a 1 (OneOf ls) w) := by
  have hm0 : (m : Int) ≠ 0 := by omega
  have hll : ls.length = m := by have := hL.1; simpa using this
  have Hll := Lib.hid hll; clear hll
  go_enter Try.func83, Try.ntmps83
  go_wp2_with fail
  refine (next_any g A n c bs a s m w h hn ha hm hm2).mono ?_
  rintro e w1 ⟨v, a', s', rfl, ⟨r, rfl, hr⟩, hs1, ha1, hg1⟩
  have hL1 := hL.keepBy hg1 hne
  obtain ⟨b, off, rfl, hlt, hc⟩ := hL1.2 (by omega)
  have hrl : r < ls.length := by rw [Hll.out]; exact hr
  have hcr := hc r (.string ls[r]) (by rw [List.getElem?_map, List.getElem?_eq_getElem hrl]; rfl)
  have hmem : ls[r] ∈ ls := List.getElem_mem hrl
  go_wp2
  go_ret
  exact ⟨_, a', s', rfl, ⟨_, hmem, rfl⟩, hs1, ha1, hg1⟩

end Go.Proofs.Ytbdippplmcdgaaa
