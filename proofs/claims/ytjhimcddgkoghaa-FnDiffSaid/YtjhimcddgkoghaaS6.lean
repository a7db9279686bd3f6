/- SameMap, the document's and the program's. -/
import Derived.Test.YtjhimcddgkoghaaM3
import Derived.Test.YtjhimcddgkoghaaLawE2
import Derived.Laws.StructEq
namespace Go.Proofs.Ytjhimcddgkoghaa
open Go.RowKit

theorem held_Entry : Try.prog.stoodInHeld 167 = false := by kernel_rfl
theorem guard_Entry : Try.prog.eqGuardType Try.prog.depth 167 = false := by kernel_rfl

set_option maxHeartbeats 1000000 in
set_option maxRecDepth 100000 in
theorem slicesEqual_any (A : Option Addr) (n c : Nat) (es : List Ent) (A' : Option Addr) (n' c' : Nat) (es' : List Ent) (w : World) (hr : Rd w 2 A n (entsC es)) (hr' : Rd w 2 A' n' (entsC es')) (hm : n ≤ maxLen) (hm' : n' ≤ maxLen) :
    Calls Try.prog 128 #[.slice A n c, .slice A' n' c'] w fun e w' => e = .returned (.bool (decide (es = es'))) ∧ Below w.heap.size w w' := by
  unfold maxLen at hm hm'
  have hlen := hr.len
  have hlen' := hr'.len
  have Hlen := Lib.hid hlen; clear hlen
  have Hlen' := Lib.hid hlen'; clear hlen'
  by_cases hne : n = n'
  case neg =>
    have hfin : Hid (decide (es = es') = false) := decide_eq_false (fun h => hne (by rw [← Hlen.out, ← Hlen'.out, h]))
    have hb : ((n : Int) != n') = true := by rw [bne_iff_ne]; omega
    go_enter Try.func128, Try.ntmps128
    go_wp2
    go_ret
    exact ⟨ret_bool hfin.out.symm, Below.refl _ _⟩
  subst hne
  go_enter Try.func128, Try.ntmps128
  go_wp2
  go_loopw [5, 13] (fun _ i wr => ∃ k : Nat, k ≤ n ∧ i = .int .i64 k ∧ es.take k = es'.take k ∧ Below w.heap.size w wr) (fun _ i _ => n - (intOf i).toNat)
  case atStart => exact ⟨0, Nat.zero_le _, rfl, rfl, Below.refl _ _⟩
  case round =>
    obtain ⟨k, hk, rfl, heq, hb⟩ := hrel
    have Heq := Lib.hid heq; clear heq
    by_cases hlt : k < n
    · have hke : k < es.length := by rw [Hlen.out]; exact hlt
      have hke' : k < es'.length := by rw [Hlen'.out]; exact hlt
      obtain ⟨b, off, rfl, hbl, hbl2, hc1, hc2⟩ := hr.ent hb hke
      obtain ⟨b', off', rfl, hbl', hbl2', hc1', hc2'⟩ := hr'.ent hb hke'
      have hA0 := fun y : Aft wr => y.cell hbl2 hc1
      have hA1 := fun y : Aft wr => y.cell hbl2 hc2
      have hA2 := fun y : Aft wr => y.cell hbl2' hc1'
      have hA3 := fun y : Aft wr => y.cell hbl2' hc2'
      have hyes : Hid (es[k] = es'[k] → es.take (k + 1) = es'.take (k + 1)) := by
        intro h'
        rw [List.take_succ_eq_append_getElem hke, List.take_succ_eq_append_getElem hke', Heq.out, h']
      have hno : Hid (es[k] ≠ es'[k] → decide (es = es') = false) := by
        intro h
        refine decide_eq_false (fun e => ?_)
        subst e
        exact h rfl
      generalize es[k] = ek at *
      generalize es'[k] = ek' at *
      obtain ⟨k1, v1⟩ := ek
      obtain ⟨k2, v2⟩ := ek'
      have hsh := held_Entry
      have hsg := guard_Entry
      by_cases hkk : k1 = k2
      · subst hkk
        by_cases hvv : v1 = v2
        · subst hvv
          have hyes' := Lib.hid (hyes.out rfl)
          clear hyes hno
          go_wp2
          refine wp_region_after (by kernel_rfl) (by kernel_rfl) ?_
          repeat (go_big_quiet_step (fail))
          refine wpQuiet_nil ?_
          rintro _ ⟨y, rfl⟩
          have hb3 := keepS hb y.below
          generalize y.at_ = w3 at *
          go_wp2
          go_roundw
          case rel => exact ⟨k + 1, by omega, by go_num, hyes'.out, hb3⟩
          case measure => simp [intOf]; omega
        · have hno' := Lib.hid (hno.out (fun h => hvv (by cases h; rfl)))
          clear hyes hno
          go_wp2
          refine wp_region_after (by kernel_rfl) (by kernel_rfl) ?_
          repeat (go_big_quiet_step (fail))
          refine wpQuiet_nil ?_
          rintro _ ⟨y, rfl⟩
          have hb3 := keepS hb y.below
          generalize y.at_ = w3 at *
          go_wp2
          go_ret
          exact ⟨ret_bool hno'.out.symm, hb3⟩
      · have hno' := Lib.hid (hno.out (fun h => hkk (by cases h; rfl)))
        have hkl : ¬ k1.toList = k2.toList := fun h => hkk (toList_inj h)
        clear hyes hno
        go_wp2
        refine wp_region_after (by kernel_rfl) (by kernel_rfl) ?_
        repeat (go_big_quiet_step (fail))
        refine wpQuiet_nil ?_
        rintro _ ⟨y, rfl⟩
        have hb3 := keepS hb y.below
        generalize y.at_ = w3 at *
        go_wp2
        go_ret
        exact ⟨ret_bool hno'.out.symm, hb3⟩
    · have hfin : Hid (decide (es = es') = true) := by
        have h := Heq.out
        rw [List.take_of_length_le (by rw [Hlen.out]; omega), List.take_of_length_le (by rw [Hlen'.out]; omega)] at h
        exact decide_eq_true h
      go_wp2
      go_ret
      exact ⟨ret_bool hfin.out.symm, hb⟩

end Go.Proofs.Ytjhimcddgkoghaa
