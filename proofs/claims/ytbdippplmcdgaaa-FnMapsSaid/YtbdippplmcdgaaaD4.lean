/- The law's own choice out of bytes. -/
import Derived.Test.YtbdippplmcdgaaaMdl6
namespace Go.Proofs.Ytbdippplmcdgaaa
open Go.RowKit

set_option maxRecDepth 100000 in
theorem at_any (A : Option Addr) (n c : Nat) (bs : List UInt8) (i m : Nat) (w : World) (hr : Rd w 1 A n (bs.map fun b => .int .u8 b.toNat)) (hn : n ≤ maxLen) (hi : i ≤ 1000) (hm : 2 ≤ m) (hm2 : m ≤ 100000) :
    Calls Try.prog 16 #[.slice A n c, .int .i64 i, .int .i64 m] w fun e w' => ∃ r : Nat, e = .returned (.int .i64 r) ∧ r < m ∧ Below w.heap.size w w' := by
  unfold maxLen at hn
  have hlen : bs.length = n := by have := hr.1; simpa using this
  have Hlen := Lib.hid hlen; clear hlen
  have hm1 : ¬ (m : Int) ≤ 1 := by omega
  have hm0 : (m : Int) ≠ 0 := by omega
  by_cases h0 : n = 0
  · subst h0
    have hq : ((i : Int) * 7).tmod m = ((i * 7 % m : Nat) : Int) := by rw [Int.tmod_eq_emod_of_nonneg (by omega)]; simp
    go_enter Try.func16, Try.ntmps16
    go_wp2
    go_ret
    exact ⟨i * 7 % m, by simp, Nat.mod_lt _ (by omega), Below.refl _ _⟩
  · have hpos : 0 < n := by omega
    have hn0 : (n : Int) ≠ 0 := by omega
    obtain ⟨b, off, rfl, hlt, hc⟩ := hr.2 hpos
    have hp1 : i % n < n := Nat.mod_lt _ hpos
    have hp2 : (i + 1) % n < n := Nat.mod_lt _ hpos
    have hcell : ∀ j, j < n → ∃ x : Nat, x < 256 ∧ w.cell? ⟨b, off + j, none⟩ = some (.int .u8 x) := fun j hj => by
      have hjl : j < bs.length := by rw [Hlen.out]; exact hj
      exact ⟨bs[j].toNat, UInt8.toNat_lt _, hc j _ (by rw [List.getElem?_map, List.getElem?_eq_getElem hjl]; rfl)⟩
    obtain ⟨x, hx, hcx⟩ := hcell _ hp1
    obtain ⟨z, hz, hcz⟩ := hcell _ hp2
    have ha1 : (i : Int).tmod n = ((i % n : Nat) : Int) := by rw [Int.tmod_eq_emod_of_nonneg (by omega)]; rfl
    have ha2 : ((i : Int) + 1).tmod n = (((i + 1) % n : Nat) : Int) := by rw [Int.tmod_eq_emod_of_nonneg (by omega)]; rfl
    have ha3 : (i : Int).tdiv n = ((i / n : Nat) : Int) := by rw [Int.tdiv_eq_ediv_of_nonneg (by omega)]; rfl
    have hd : i / n ≤ 1000 := Nat.le_trans (Nat.div_le_self _ _) hi
    clear hcell hc hr
    generalize i % n = p1 at *
    generalize (i + 1) % n = p2 at *
    generalize i / n = dd at *
    have hq : ((x : Int) * 31 + z + dd).tmod m = (((x * 31 + z + dd) % m : Nat) : Int) := by rw [Int.tmod_eq_emod_of_nonneg (by omega)]; simp
    go_enter Try.func16, Try.ntmps16
    go_wp2
    have hA0 := fun y : Aft w => y.cell hlt hcx
    have hA1 := fun y : Aft w => y.cell hlt hcz
    have hw1 : IntKind.i64.wrap ((i : Int) + 1) = (i : Int) + 1 := IntWalk.i64_in _ (by omega)
    have hw2 : IntKind.i64.wrap (x : Int) = (x : Int) := IntWalk.i64_in _ (by omega)
    have hw3 : IntKind.i64.wrap (z : Int) = (z : Int) := IntWalk.i64_in _ (by omega)
    have hw4 : IntKind.i64.wrap ((x : Int) * 31) = (x : Int) * 31 := IntWalk.i64_in _ (by omega)
    have hw5 : IntKind.i64.wrap ((x : Int) * 31 + z) = (x : Int) * 31 + z := IntWalk.i64_in _ (by omega)
    have hw6 : IntKind.i64.wrap ((x : Int) * 31 + z + dd) = (x : Int) * 31 + z + dd := IntWalk.i64_in _ (by omega)
    have hw7 : IntKind.i64.wrap (dd : Int) = (dd : Int) := IntWalk.i64_in _ (by omega)
    have hw8 : IntKind.i64.wrap (p1 : Int) = (p1 : Int) := IntWalk.i64_in _ (by omega)
    have hw9 : IntKind.i64.wrap (p2 : Int) = (p2 : Int) := IntWalk.i64_in _ (by omega)
    refine wp_region_after (by kernel_rfl) (by kernel_rfl) ?_
    repeat (go_big_quiet_step (fail))
    refine wpQuiet_nil ?_
    rintro _ ⟨y, rfl⟩
    have hby := y.below
    generalize y.at_ = w3 at *
    go_wp2
    go_ret
    exact ⟨(x * 31 + z + dd) % m, by simp, Nat.mod_lt _ (by omega), hby⟩

end Go.Proofs.Ytbdippplmcdgaaa
