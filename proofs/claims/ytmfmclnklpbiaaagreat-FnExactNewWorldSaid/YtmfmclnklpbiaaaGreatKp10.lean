/- Texts of the machine over data, folded. -/
import Derived.Test.YtmfmclnklpbiaaaGreatKp9
import Derived.Test.YtmfmclnklpbiaaaGreatKp7
import Derived.Test.YtmfmclnklpbiaaaGreatKp6
import Derived.Test.YtmfmclnklpbiaaaGreatKp8
namespace Go.Proofs.YtmfmclnklpbiaaaGreat
open Go.RowKit

set_option maxHeartbeats 4000000 in
set_option maxRecDepth 100000 in
theorem l01Edits_any (A : Option Addr) (n c : Nat) (es : List Edt) (w : World) (hr : Rd w 3 A n (edtsC es)) (hm : n ≤ maxLen) (hks : ∀ e ∈ es, e.key.size ≤ maxLen) :
    Calls Tryz.prog 102 #[.slice A n c] w fun e w' => e = .returned (.bool (editsOK es)) ∧ Below w.heap.size w w' := by
  unfold maxLen at hm
  have hlen := hr.elen
  have Hlen := Lib.hid hlen; clear hlen
  by_cases hbig : 6 < n
  · have hfin : Hid (editsOK es = false) := editsOK_long (by rw [Hlen.out]; exact hbig)
    go_enter Tryz.func102, Tryz.ntmps102
    go_wp2
    go_ret
    exact ⟨ret_bool hfin.out.symm, Below.refl _ _⟩
  have hn6 : n ≤ 6 := by omega
  clear hbig
  go_enter Tryz.func102, Tryz.ntmps102
  go_wp2
  go_loopw [3] (fun i wr => ∃ k : Nat, k ≤ n ∧ i = .int .i64 k ∧ (∀ j, j < k → ordAt (kv es) j = true ∧ edtAt es j = true) ∧ Below w.heap.size w wr) (fun i _ => n - (intOf i).toNat)
  case atStart => exact ⟨0, Nat.zero_le _, rfl, fun j hj => absurd hj (by omega), Below.refl _ _⟩
  case round =>
    obtain ⟨k, hk, rfl, hall, hb⟩ := hrel
    have Hall := Lib.hid hall; clear hall
    by_cases hlt : k < n
    · have hke : k < es.length := by rw [Hlen.out]; exact hlt
      obtain ⟨b, off, rfl, hbl, hbl2, hc1, hc2, hc3⟩ := hr.edt hb hke
      have hsz := hks _ (List.getElem_mem hke)
      have hnoO := ordE_no es k hke
      have hE := edtAt_eq es k hke
      have hz0 : k = 0 → nm es[k].key = true → ordAt (kv es) k = true := by rintro rfl h; exact ordE_zero es hke h
      have hp0 : (h : 0 < k) → nm es[k].key = true → ordAt (kv es) k = klt (es[k - 1]'(by omega)).key es[k].key := fun h h2 => ordE_pos es k h hke h2
      generalize es[k] = ek at *
      obtain ⟨k1, v1, g1⟩ := ek
      simp only at hc1 hc2 hc3 hsz hnoO hE hz0 hp0
      have hcall := fun W => l00Word_any k1 W hsz
      have hcall2 := fun W => l01In_any v1 (-1000000) 1000000 W
      change ∀ W, Calls _ _ _ W fun e w' => e = .returned (.bool (nm k1)) ∧ W = w' at hcall
      change ∀ W, Calls _ _ _ W fun e w' => e = .returned (.bool (valB v1)) ∧ W = w' at hcall2
      cases hw : nm k1 with
      | false =>
        have hfin : Hid (editsOK es = false) := editsOK_noOrd hke (hnoO hw)
        rw [hw] at hcall
        have Hcall := Lib.hid hcall
        clear hw hcall hcall2 hE hnoO hz0 hp0
        go_wp2
        have hcL0 : (wr.alloc (Obj.cells #[Value.string k1, Value.int IntKind.i64 v1, Value.bool g1] 155)).cell? ⟨wr.heap.size, 0, none⟩ = some (.string k1) := cell_of_row _ _ _ _ _ (0, 0) (heap_alloc_new wr _)
        have hcL1 : (wr.alloc (Obj.cells #[Value.string k1, Value.int IntKind.i64 v1, Value.bool g1] 155)).cell? ⟨wr.heap.size, 1, none⟩ = some (.int .i64 v1) := cell_of_row _ _ _ _ _ (0, 0) (heap_alloc_new wr _)
        have hcL2 : (wr.alloc (Obj.cells #[Value.string k1, Value.int IntKind.i64 v1, Value.bool g1] 155)).cell? ⟨wr.heap.size, 2, none⟩ = some (.bool g1) := cell_of_row _ _ _ _ _ (0, 0) (heap_alloc_new wr _)
        have hpl : wr.heap.size < (wr.alloc (Obj.cells #[Value.string k1, Value.int IntKind.i64 v1, Value.bool g1] 155)).heap.size := by simp
        have hb2 : Below w.heap.size w (wr.alloc (Obj.cells #[Value.string k1, Value.int IntKind.i64 v1, Value.bool g1] 155)) := hb.alloc hb.size _
        generalize wr.alloc (Obj.cells #[Value.string k1, Value.int IntKind.i64 v1, Value.bool g1] 155) = w2 at *
        generalize wr.heap.size = p at *
        have hA0 := fun y : Aft w2 => y.cell hpl hcL0
        have hA1 := fun y : Aft w2 => y.cell hpl hcL1
        have hA2 := fun y : Aft w2 => y.cell hpl hcL2
        refine wp_region_after (by kernel_rfl) (by kernel_rfl) ?_
        repeat (go_big_quiet_step ((first | (go_at_call 26; exact Aft.same (Hcall.out _)))))
        refine wpQuiet_nil ?_
        rintro _ ⟨y, rfl⟩
        have hb3 := keepS hb2 y.below
        generalize y.at_ = w3 at *
        go_wp2
        go_ret
        exact ⟨ret_bool hfin.out.symm, hb3⟩
      | true =>
      cases hv : valB v1 with
      | false =>
        have hfin : Hid (editsOK es = false) := editsOK_noEdt hke (by rw [hE, hv]; rfl)
        rw [hw] at hcall
        rw [hv] at hcall2
        have Hcall := Lib.hid hcall
        have Hcall2 := Lib.hid hcall2
        clear hw hv hcall hcall2 hE hnoO hz0 hp0
        go_wp2
        have hcL0 : (wr.alloc (Obj.cells #[Value.string k1, Value.int IntKind.i64 v1, Value.bool g1] 155)).cell? ⟨wr.heap.size, 0, none⟩ = some (.string k1) := cell_of_row _ _ _ _ _ (0, 0) (heap_alloc_new wr _)
        have hcL1 : (wr.alloc (Obj.cells #[Value.string k1, Value.int IntKind.i64 v1, Value.bool g1] 155)).cell? ⟨wr.heap.size, 1, none⟩ = some (.int .i64 v1) := cell_of_row _ _ _ _ _ (0, 0) (heap_alloc_new wr _)
        have hcL2 : (wr.alloc (Obj.cells #[Value.string k1, Value.int IntKind.i64 v1, Value.bool g1] 155)).cell? ⟨wr.heap.size, 2, none⟩ = some (.bool g1) := cell_of_row _ _ _ _ _ (0, 0) (heap_alloc_new wr _)
        have hpl : wr.heap.size < (wr.alloc (Obj.cells #[Value.string k1, Value.int IntKind.i64 v1, Value.bool g1] 155)).heap.size := by simp
        have hb2 : Below w.heap.size w (wr.alloc (Obj.cells #[Value.string k1, Value.int IntKind.i64 v1, Value.bool g1] 155)) := hb.alloc hb.size _
        generalize wr.alloc (Obj.cells #[Value.string k1, Value.int IntKind.i64 v1, Value.bool g1] 155) = w2 at *
        generalize wr.heap.size = p at *
        have hA0 := fun y : Aft w2 => y.cell hpl hcL0
        have hA1 := fun y : Aft w2 => y.cell hpl hcL1
        have hA2 := fun y : Aft w2 => y.cell hpl hcL2
        refine wp_region_after (by kernel_rfl) (by kernel_rfl) ?_
        repeat (go_big_quiet_step ((first | (go_at_call 26; exact Aft.same (Hcall.out _)) | (go_at_call 99; exact Aft.same (Hcall2.out _)))))
        refine wpQuiet_nil ?_
        rintro _ ⟨y, rfl⟩
        have hb3 := keepS hb2 y.below
        generalize y.at_ = w3 at *
        go_wp2
        go_ret
        exact ⟨ret_bool hfin.out.symm, hb3⟩
      | true =>
      rw [hw] at hcall
      rw [hv] at hcall2
      rcases gone_three g1 v1 with ⟨rfl, hne⟩ | hgood
      · have hfin : Hid (editsOK es = false) := editsOK_noEdt hke (by rw [hE, hv, decide_eq_false hne]; rfl)
        have hne2 : (v1 != 0) = true := by simpa using hne
        have Hcall := Lib.hid hcall
        have Hcall2 := Lib.hid hcall2
        clear hw hv hcall hcall2 hE hnoO hz0 hp0
        go_wp2
        have hcL0 : (wr.alloc (Obj.cells #[Value.string k1, Value.int IntKind.i64 v1, Value.bool true] 155)).cell? ⟨wr.heap.size, 0, none⟩ = some (.string k1) := cell_of_row _ _ _ _ _ (0, 0) (heap_alloc_new wr _)
        have hcL1 : (wr.alloc (Obj.cells #[Value.string k1, Value.int IntKind.i64 v1, Value.bool true] 155)).cell? ⟨wr.heap.size, 1, none⟩ = some (.int .i64 v1) := cell_of_row _ _ _ _ _ (0, 0) (heap_alloc_new wr _)
        have hcL2 : (wr.alloc (Obj.cells #[Value.string k1, Value.int IntKind.i64 v1, Value.bool true] 155)).cell? ⟨wr.heap.size, 2, none⟩ = some (.bool true) := cell_of_row _ _ _ _ _ (0, 0) (heap_alloc_new wr _)
        have hpl : wr.heap.size < (wr.alloc (Obj.cells #[Value.string k1, Value.int IntKind.i64 v1, Value.bool true] 155)).heap.size := by simp
        have hb2 : Below w.heap.size w (wr.alloc (Obj.cells #[Value.string k1, Value.int IntKind.i64 v1, Value.bool true] 155)) := hb.alloc hb.size _
        generalize wr.alloc (Obj.cells #[Value.string k1, Value.int IntKind.i64 v1, Value.bool true] 155) = w2 at *
        generalize wr.heap.size = p at *
        have hA0 := fun y : Aft w2 => y.cell hpl hcL0
        have hA1 := fun y : Aft w2 => y.cell hpl hcL1
        have hA2 := fun y : Aft w2 => y.cell hpl hcL2
        refine wp_region_after (by kernel_rfl) (by kernel_rfl) ?_
        repeat (go_big_quiet_step ((first | (go_at_call 26; exact Aft.same (Hcall.out _)) | (go_at_call 99; exact Aft.same (Hcall2.out _)))))
        refine wpQuiet_nil ?_
        rintro _ ⟨y, rfl⟩
        have hb3 := keepS hb2 y.below
        generalize y.at_ = w3 at *
        go_wp2
        go_ret
        exact ⟨ret_bool hfin.out.symm, hb3⟩
      have hE1 : Hid (edtAt es k = true) := by
        rcases hgood with rfl | ⟨rfl, rfl⟩
        · show edtAt es k = true; rw [hE, hv]; rfl
        · show edtAt es k = true; rw [hE, hv]; rfl
      clear hE hv hnoO
      by_cases hk0 : k = 0
      · have ho := hz0 hk0 hw
        subst hk0
        have hstep : Hid (∀ j, j < 0 + 1 → ordAt (kv es) j = true ∧ edtAt es j = true) := fun j hj => by
          have : j = 0 := by omega
          subst this; exact ⟨ho, hE1.out⟩
        simp only [Nat.zero_mul, Nat.add_zero] at hc1 hc2 hc3
        clear hz0 hp0 ho hw
        rcases hgood with rfl | ⟨rfl, rfl⟩
        · have Hcall := Lib.hid hcall
          have Hcall2 := Lib.hid hcall2
          clear hcall hcall2
          go_wp2
          have hcL0 : (wr.alloc (Obj.cells #[Value.string k1, Value.int IntKind.i64 v1, Value.bool false] 155)).cell? ⟨wr.heap.size, 0, none⟩ = some (.string k1) := cell_of_row _ _ _ _ _ (0, 0) (heap_alloc_new wr _)
          have hcL1 : (wr.alloc (Obj.cells #[Value.string k1, Value.int IntKind.i64 v1, Value.bool false] 155)).cell? ⟨wr.heap.size, 1, none⟩ = some (.int .i64 v1) := cell_of_row _ _ _ _ _ (0, 0) (heap_alloc_new wr _)
          have hcL2 : (wr.alloc (Obj.cells #[Value.string k1, Value.int IntKind.i64 v1, Value.bool false] 155)).cell? ⟨wr.heap.size, 2, none⟩ = some (.bool false) := cell_of_row _ _ _ _ _ (0, 0) (heap_alloc_new wr _)
          have hpl : wr.heap.size < (wr.alloc (Obj.cells #[Value.string k1, Value.int IntKind.i64 v1, Value.bool false] 155)).heap.size := by simp
          have hb2 : Below w.heap.size w (wr.alloc (Obj.cells #[Value.string k1, Value.int IntKind.i64 v1, Value.bool false] 155)) := hb.alloc hb.size _
          generalize wr.alloc (Obj.cells #[Value.string k1, Value.int IntKind.i64 v1, Value.bool false] 155) = w2 at *
          generalize wr.heap.size = p at *
          have hA0 := fun y : Aft w2 => y.cell hpl hcL0
          have hA1 := fun y : Aft w2 => y.cell hpl hcL1
          have hA2 := fun y : Aft w2 => y.cell hpl hcL2
          refine wp_region_after (by kernel_rfl) (by kernel_rfl) ?_
          repeat (go_big_quiet_step ((first | (go_at_call 26; exact Aft.same (Hcall.out _)) | (go_at_call 99; exact Aft.same (Hcall2.out _)))))
          refine wpQuiet_nil ?_
          rintro _ ⟨y, rfl⟩
          have hb3 := keepS hb2 y.below
          generalize y.at_ = w3 at *
          go_wp2
          go_roundw
          case rel => exact ⟨0 + 1, by omega, by go_num, hstep.out, hb3⟩
          case measure => simp [intOf]; omega
        · have Hcall := Lib.hid hcall
          have Hcall2 := Lib.hid hcall2
          clear hcall hcall2
          go_wp2
          have hcL0 : (wr.alloc (Obj.cells #[Value.string k1, Value.int IntKind.i64 0, Value.bool true] 155)).cell? ⟨wr.heap.size, 0, none⟩ = some (.string k1) := cell_of_row _ _ _ _ _ (0, 0) (heap_alloc_new wr _)
          have hcL1 : (wr.alloc (Obj.cells #[Value.string k1, Value.int IntKind.i64 0, Value.bool true] 155)).cell? ⟨wr.heap.size, 1, none⟩ = some (.int .i64 0) := cell_of_row _ _ _ _ _ (0, 0) (heap_alloc_new wr _)
          have hcL2 : (wr.alloc (Obj.cells #[Value.string k1, Value.int IntKind.i64 0, Value.bool true] 155)).cell? ⟨wr.heap.size, 2, none⟩ = some (.bool true) := cell_of_row _ _ _ _ _ (0, 0) (heap_alloc_new wr _)
          have hpl : wr.heap.size < (wr.alloc (Obj.cells #[Value.string k1, Value.int IntKind.i64 0, Value.bool true] 155)).heap.size := by simp
          have hb2 : Below w.heap.size w (wr.alloc (Obj.cells #[Value.string k1, Value.int IntKind.i64 0, Value.bool true] 155)) := hb.alloc hb.size _
          generalize wr.alloc (Obj.cells #[Value.string k1, Value.int IntKind.i64 0, Value.bool true] 155) = w2 at *
          generalize wr.heap.size = p at *
          have hA0 := fun y : Aft w2 => y.cell hpl hcL0
          have hA1 := fun y : Aft w2 => y.cell hpl hcL1
          have hA2 := fun y : Aft w2 => y.cell hpl hcL2
          refine wp_region_after (by kernel_rfl) (by kernel_rfl) ?_
          repeat (go_big_quiet_step ((first | (go_at_call 26; exact Aft.same (Hcall.out _)) | (go_at_call 99; exact Aft.same (Hcall2.out _)))))
          refine wpQuiet_nil ?_
          rintro _ ⟨y, rfl⟩
          have hb3 := keepS hb2 y.below
          generalize y.at_ = w3 at *
          go_wp2
          go_roundw
          case rel => exact ⟨0 + 1, by omega, by go_num, hstep.out, hb3⟩
          case measure => simp [intOf]; omega
      · have hkp : 0 < k := by omega
        have hor := hp0 hkp hw
        have ht : (Op.bytesLess k1.toList (es[k - 1]'(by omega)).key.toList || k1.toList == (es[k - 1]'(by omega)).key.toList) = !ordAt (kv es) k := by rw [kle_eq, hor]
        have hi0 : 0 ≤ (k : Int) - 1 := by omega
        have hi1 : ((k : Int) - 1).toNat = k - 1 := by omega
        have hi2 : (0 : Int) < (k : Int) := by omega
        clear hk0 hor hw hz0 hp0
        cases ho : ordAt (kv es) k with
        | false =>
          have hfin : Hid (editsOK es = false) := editsOK_noOrd hke ho
          rw [ho] at ht
          clear ho
          rcases hgood with rfl | ⟨rfl, rfl⟩
          · have Hcall := Lib.hid hcall
            have Hcall2 := Lib.hid hcall2
            clear hcall hcall2
            go_wp2
            have hcL0 : (wr.alloc (Obj.cells #[Value.string k1, Value.int IntKind.i64 v1, Value.bool false] 155)).cell? ⟨wr.heap.size, 0, none⟩ = some (.string k1) := cell_of_row _ _ _ _ _ (0, 0) (heap_alloc_new wr _)
            have hcL1 : (wr.alloc (Obj.cells #[Value.string k1, Value.int IntKind.i64 v1, Value.bool false] 155)).cell? ⟨wr.heap.size, 1, none⟩ = some (.int .i64 v1) := cell_of_row _ _ _ _ _ (0, 0) (heap_alloc_new wr _)
            have hcL2 : (wr.alloc (Obj.cells #[Value.string k1, Value.int IntKind.i64 v1, Value.bool false] 155)).cell? ⟨wr.heap.size, 2, none⟩ = some (.bool false) := cell_of_row _ _ _ _ _ (0, 0) (heap_alloc_new wr _)
            have hpl : wr.heap.size < (wr.alloc (Obj.cells #[Value.string k1, Value.int IntKind.i64 v1, Value.bool false] 155)).heap.size := by simp
            have hb2 : Below w.heap.size w (wr.alloc (Obj.cells #[Value.string k1, Value.int IntKind.i64 v1, Value.bool false] 155)) := hb.alloc hb.size _
            obtain ⟨b', off', he, _, _, hc4, _, _⟩ := hr.edt hb2 (show k - 1 < es.length by omega)
            obtain ⟨rfl, rfl⟩ : b = b' ∧ off = off' := by simpa using he
            have hbl4 := Nat.lt_of_lt_of_le hbl hb2.size
            generalize wr.alloc (Obj.cells #[Value.string k1, Value.int IntKind.i64 v1, Value.bool false] 155) = w2 at *
            generalize wr.heap.size = p at *
            have hA0 := fun y : Aft w2 => y.cell hpl hcL0
            have hA1 := fun y : Aft w2 => y.cell hpl hcL1
            have hA2 := fun y : Aft w2 => y.cell hpl hcL2
            have hA4 := fun y : Aft w2 => y.cell hbl4 hc4
            refine wp_region_after (by kernel_rfl) (by kernel_rfl) ?_
            repeat (go_big_quiet_step ((first | (go_at_call 26; exact Aft.same (Hcall.out _)) | (go_at_call 99; exact Aft.same (Hcall2.out _)))))
            refine wpQuiet_nil ?_
            rintro _ ⟨y, rfl⟩
            have hb3 := keepS hb2 y.below
            generalize y.at_ = w3 at *
            go_wp2
            go_ret
            exact ⟨ret_bool hfin.out.symm, hb3⟩
          · have Hcall := Lib.hid hcall
            have Hcall2 := Lib.hid hcall2
            clear hcall hcall2
            go_wp2
            have hcL0 : (wr.alloc (Obj.cells #[Value.string k1, Value.int IntKind.i64 0, Value.bool true] 155)).cell? ⟨wr.heap.size, 0, none⟩ = some (.string k1) := cell_of_row _ _ _ _ _ (0, 0) (heap_alloc_new wr _)
            have hcL1 : (wr.alloc (Obj.cells #[Value.string k1, Value.int IntKind.i64 0, Value.bool true] 155)).cell? ⟨wr.heap.size, 1, none⟩ = some (.int .i64 0) := cell_of_row _ _ _ _ _ (0, 0) (heap_alloc_new wr _)
            have hcL2 : (wr.alloc (Obj.cells #[Value.string k1, Value.int IntKind.i64 0, Value.bool true] 155)).cell? ⟨wr.heap.size, 2, none⟩ = some (.bool true) := cell_of_row _ _ _ _ _ (0, 0) (heap_alloc_new wr _)
            have hpl : wr.heap.size < (wr.alloc (Obj.cells #[Value.string k1, Value.int IntKind.i64 0, Value.bool true] 155)).heap.size := by simp
            have hb2 : Below w.heap.size w (wr.alloc (Obj.cells #[Value.string k1, Value.int IntKind.i64 0, Value.bool true] 155)) := hb.alloc hb.size _
            obtain ⟨b', off', he, _, _, hc4, _, _⟩ := hr.edt hb2 (show k - 1 < es.length by omega)
            obtain ⟨rfl, rfl⟩ : b = b' ∧ off = off' := by simpa using he
            have hbl4 := Nat.lt_of_lt_of_le hbl hb2.size
            generalize wr.alloc (Obj.cells #[Value.string k1, Value.int IntKind.i64 0, Value.bool true] 155) = w2 at *
            generalize wr.heap.size = p at *
            have hA0 := fun y : Aft w2 => y.cell hpl hcL0
            have hA1 := fun y : Aft w2 => y.cell hpl hcL1
            have hA2 := fun y : Aft w2 => y.cell hpl hcL2
            have hA4 := fun y : Aft w2 => y.cell hbl4 hc4
            refine wp_region_after (by kernel_rfl) (by kernel_rfl) ?_
            repeat (go_big_quiet_step ((first | (go_at_call 26; exact Aft.same (Hcall.out _)) | (go_at_call 99; exact Aft.same (Hcall2.out _)))))
            refine wpQuiet_nil ?_
            rintro _ ⟨y, rfl⟩
            have hb3 := keepS hb2 y.below
            generalize y.at_ = w3 at *
            go_wp2
            go_ret
            exact ⟨ret_bool hfin.out.symm, hb3⟩
        | true =>
          have hstep : Hid (∀ j, j < k + 1 → ordAt (kv es) j = true ∧ edtAt es j = true) := fun j hj => by
            rcases Nat.lt_or_ge j k with h | h
            · exact Hall.out j h
            · have : j = k := by omega
              subst this; exact ⟨ho, hE1.out⟩
          rw [ho] at ht
          clear ho
          rcases hgood with rfl | ⟨rfl, rfl⟩
          · have Hcall := Lib.hid hcall
            have Hcall2 := Lib.hid hcall2
            clear hcall hcall2
            go_wp2
            have hcL0 : (wr.alloc (Obj.cells #[Value.string k1, Value.int IntKind.i64 v1, Value.bool false] 155)).cell? ⟨wr.heap.size, 0, none⟩ = some (.string k1) := cell_of_row _ _ _ _ _ (0, 0) (heap_alloc_new wr _)
            have hcL1 : (wr.alloc (Obj.cells #[Value.string k1, Value.int IntKind.i64 v1, Value.bool false] 155)).cell? ⟨wr.heap.size, 1, none⟩ = some (.int .i64 v1) := cell_of_row _ _ _ _ _ (0, 0) (heap_alloc_new wr _)
            have hcL2 : (wr.alloc (Obj.cells #[Value.string k1, Value.int IntKind.i64 v1, Value.bool false] 155)).cell? ⟨wr.heap.size, 2, none⟩ = some (.bool false) := cell_of_row _ _ _ _ _ (0, 0) (heap_alloc_new wr _)
            have hpl : wr.heap.size < (wr.alloc (Obj.cells #[Value.string k1, Value.int IntKind.i64 v1, Value.bool false] 155)).heap.size := by simp
            have hb2 : Below w.heap.size w (wr.alloc (Obj.cells #[Value.string k1, Value.int IntKind.i64 v1, Value.bool false] 155)) := hb.alloc hb.size _
            obtain ⟨b', off', he, _, _, hc4, _, _⟩ := hr.edt hb2 (show k - 1 < es.length by omega)
            obtain ⟨rfl, rfl⟩ : b = b' ∧ off = off' := by simpa using he
            have hbl4 := Nat.lt_of_lt_of_le hbl hb2.size
            generalize wr.alloc (Obj.cells #[Value.string k1, Value.int IntKind.i64 v1, Value.bool false] 155) = w2 at *
            generalize wr.heap.size = p at *
            have hA0 := fun y : Aft w2 => y.cell hpl hcL0
            have hA1 := fun y : Aft w2 => y.cell hpl hcL1
            have hA2 := fun y : Aft w2 => y.cell hpl hcL2
            have hA4 := fun y : Aft w2 => y.cell hbl4 hc4
            refine wp_region_after (by kernel_rfl) (by kernel_rfl) ?_
            repeat (go_big_quiet_step ((first | (go_at_call 26; exact Aft.same (Hcall.out _)) | (go_at_call 99; exact Aft.same (Hcall2.out _)))))
            refine wpQuiet_nil ?_
            rintro _ ⟨y, rfl⟩
            have hb3 := keepS hb2 y.below
            generalize y.at_ = w3 at *
            go_wp2
            go_roundw
            case rel => exact ⟨k + 1, by omega, by go_num, hstep.out, hb3⟩
            case measure => simp [intOf]; omega
          · have Hcall := Lib.hid hcall
            have Hcall2 := Lib.hid hcall2
            clear hcall hcall2
            go_wp2
            have hcL0 : (wr.alloc (Obj.cells #[Value.string k1, Value.int IntKind.i64 0, Value.bool true] 155)).cell? ⟨wr.heap.size, 0, none⟩ = some (.string k1) := cell_of_row _ _ _ _ _ (0, 0) (heap_alloc_new wr _)
            have hcL1 : (wr.alloc (Obj.cells #[Value.string k1, Value.int IntKind.i64 0, Value.bool true] 155)).cell? ⟨wr.heap.size, 1, none⟩ = some (.int .i64 0) := cell_of_row _ _ _ _ _ (0, 0) (heap_alloc_new wr _)
            have hcL2 : (wr.alloc (Obj.cells #[Value.string k1, Value.int IntKind.i64 0, Value.bool true] 155)).cell? ⟨wr.heap.size, 2, none⟩ = some (.bool true) := cell_of_row _ _ _ _ _ (0, 0) (heap_alloc_new wr _)
            have hpl : wr.heap.size < (wr.alloc (Obj.cells #[Value.string k1, Value.int IntKind.i64 0, Value.bool true] 155)).heap.size := by simp
            have hb2 : Below w.heap.size w (wr.alloc (Obj.cells #[Value.string k1, Value.int IntKind.i64 0, Value.bool true] 155)) := hb.alloc hb.size _
            obtain ⟨b', off', he, _, _, hc4, _, _⟩ := hr.edt hb2 (show k - 1 < es.length by omega)
            obtain ⟨rfl, rfl⟩ : b = b' ∧ off = off' := by simpa using he
            have hbl4 := Nat.lt_of_lt_of_le hbl hb2.size
            generalize wr.alloc (Obj.cells #[Value.string k1, Value.int IntKind.i64 0, Value.bool true] 155) = w2 at *
            generalize wr.heap.size = p at *
            have hA0 := fun y : Aft w2 => y.cell hpl hcL0
            have hA1 := fun y : Aft w2 => y.cell hpl hcL1
            have hA2 := fun y : Aft w2 => y.cell hpl hcL2
            have hA4 := fun y : Aft w2 => y.cell hbl4 hc4
            refine wp_region_after (by kernel_rfl) (by kernel_rfl) ?_
            repeat (go_big_quiet_step ((first | (go_at_call 26; exact Aft.same (Hcall.out _)) | (go_at_call 99; exact Aft.same (Hcall2.out _)))))
            refine wpQuiet_nil ?_
            rintro _ ⟨y, rfl⟩
            have hb3 := keepS hb2 y.below
            generalize y.at_ = w3 at *
            go_wp2
            go_roundw
            case rel => exact ⟨k + 1, by omega, by go_num, hstep.out, hb3⟩
            case measure => simp [intOf]; omega
    · have hfin : Hid (editsOK es = true) := editsOK_of (by rw [Hlen.out]; exact hn6) (fun i hi => Hall.out i (by rw [Hlen.out] at hi; omega))
      go_wp2
      go_ret
      exact ⟨ret_bool hfin.out.symm, hb⟩

end Go.Proofs.YtmfmclnklpbiaaaGreat
namespace Go.Proofs.YtmfmclnklpbiaaaGreat
open Go.RowKit

theorem method_keyE (a : ByteArray) (x : Int) (g : Bool) (w : World) : (method 303 155 (.agg #[.string a, .int .i64 x, .bool g]) "loop.example/g00737/impl.key").run Tryz.prog w = .ok (166, .agg #[.string a, .int .i64 x, .bool g]) w := by kernel_rfl
theorem keyOfE_any (key : ByteArray) (v : Int) (g : Bool) (w : World) :
    Calls Tryz.prog 166 #[.agg #[.string key, .int .i64 v, .bool g]] w fun e w' => e = .returned (.string key) ∧ Below w.heap.size w w' := by
  go_enter Tryz.func166, Tryz.ntmps166
  go_wp2
  go_ret
  exact ⟨rfl, (Below.refl _ _).alloc (Nat.le_refl _) _⟩
theorem nameOK_edt (es : List Edt) (k : Nat) (hke : k < es.length) (hs : es[k].key.size ≤ maxLen) (W : World) :
    Calls Tryz.prog 77 #[.string es[k].key] W fun e w' => e = .returned (.bool (nm es[k].key)) ∧ W = w' := nameOK_any _ W hs
set_option maxHeartbeats 2000000 in
set_option maxRecDepth 100000 in
theorem inOrderE_any (A : Option Addr) (n c : Nat) (es : List Edt) (w : World) (hr : Rd w 3 A n (edtsC es)) (hm : n ≤ maxLen) (hks : ∀ e ∈ es, e.key.size ≤ maxLen) :
    Calls Tryz.prog 149 #[.slice A n c] w fun e w' => e = .returned (.bool (ordM (kv es))) ∧ Below w.heap.size w w' := by
  unfold maxLen at hm
  have hlen := hr.elen
  have Hlen := Lib.hid hlen; clear hlen
  have hmeth := method_keyE
  go_enter Tryz.func149, Tryz.ntmps149
  go_wp2
  go_loopw [3, 7] (fun _ i wr => ∃ k : Nat, k ≤ n ∧ i = .int .i64 k ∧ (∀ j, j < k → ordAt (kv es) j = true) ∧ Below w.heap.size w wr) (fun _ i _ => n - (intOf i).toNat)
  case atStart => exact ⟨0, Nat.zero_le _, rfl, fun j hj => absurd hj (by omega), Below.refl _ _⟩
  case round =>
    obtain ⟨k, hk, rfl, hall, hb⟩ := hrel
    have Hall := Lib.hid hall; clear hall
    by_cases hlt : k < n
    · have hke : k < es.length := by rw [Hlen.out]; exact hlt
      obtain ⟨b, off, rfl, hbl, hbl2, hc1, hc2, hc5⟩ := hr.edt hb hke
      have hcall := nameOK_edt es k hke (hks _ (List.getElem_mem hke))
      cases hw : nm es[k].key with
      | false =>
        have hfin : Hid (ordM (kv es) = false) := ordM_not (by rw [kv_length]; exact hke) (ordE_no es k hke hw)
        rw [hw] at hcall
        have Hcall := Lib.hid hcall
        clear hw hcall
        go_wp2
        have hcL0 : (wr.alloc (Obj.cells #[Value.string es[k].key, Value.int IntKind.i64 es[k].val, Value.bool es[k].gone] 155)).cell? ⟨wr.heap.size, 0, none⟩ = some (.string es[k].key) := cell_of_row _ _ _ _ _ (0, 0) (heap_alloc_new wr _)
        have hcL1 : (wr.alloc (Obj.cells #[Value.string es[k].key, Value.int IntKind.i64 es[k].val, Value.bool es[k].gone] 155)).cell? ⟨wr.heap.size, 1, none⟩ = some (.int .i64 es[k].val) := cell_of_row _ _ _ _ _ (0, 0) (heap_alloc_new wr _)
        have hcL2 : (wr.alloc (Obj.cells #[Value.string es[k].key, Value.int IntKind.i64 es[k].val, Value.bool es[k].gone] 155)).cell? ⟨wr.heap.size, 2, none⟩ = some (.bool es[k].gone) := cell_of_row _ _ _ _ _ (0, 0) (heap_alloc_new wr _)
        have hpl : wr.heap.size < (wr.alloc (Obj.cells #[Value.string es[k].key, Value.int IntKind.i64 es[k].val, Value.bool es[k].gone] 155)).heap.size := by simp
        have hb2 : Below w.heap.size w (wr.alloc (Obj.cells #[Value.string es[k].key, Value.int IntKind.i64 es[k].val, Value.bool es[k].gone] 155)) := hb.alloc hb.size _
        generalize wr.alloc (Obj.cells #[Value.string es[k].key, Value.int IntKind.i64 es[k].val, Value.bool es[k].gone] 155) = w2 at *
        generalize wr.heap.size = p at *
        have hA0 := fun y : Aft w2 => y.cell hpl hcL0
        have hA1 := fun y : Aft w2 => y.cell hpl hcL1
        have hA2 := fun y : Aft w2 => y.cell hpl hcL2
        refine wp_region_after (by kernel_rfl) (by kernel_rfl) ?_
        repeat (go_big_quiet_step ((first | (go_at_call 166; exact Aft.call (keyOfE_any _ _ _ _)) | (go_at_call 77; exact Aft.same (Hcall.out _)))))
        refine wpQuiet_nil ?_
        rintro _ ⟨y, rfl⟩
        have hb3 := keepS hb2 y.below
        generalize y.at_ = w3 at *
        go_wp2
        go_ret
        exact ⟨ret_bool hfin.out.symm, hb3⟩
      | true =>
      rw [hw] at hcall
      have Hcall := Lib.hid hcall
      clear hcall
      by_cases hk0 : k = 0
      · subst hk0
        have hstep : Hid (∀ j, j < 0 + 1 → ordAt (kv es) j = true) := fun j hj => by
          have : j = 0 := by omega
          subst this; exact ordE_zero es hke hw
        clear hw
        simp only [Nat.zero_mul, Nat.add_zero] at hc1 hc2 hc5
        go_wp2
        have hcL0 : (wr.alloc (Obj.cells #[Value.string es[0].key, Value.int IntKind.i64 es[0].val, Value.bool es[0].gone] 155)).cell? ⟨wr.heap.size, 0, none⟩ = some (.string es[0].key) := cell_of_row _ _ _ _ _ (0, 0) (heap_alloc_new wr _)
        have hcL1 : (wr.alloc (Obj.cells #[Value.string es[0].key, Value.int IntKind.i64 es[0].val, Value.bool es[0].gone] 155)).cell? ⟨wr.heap.size, 1, none⟩ = some (.int .i64 es[0].val) := cell_of_row _ _ _ _ _ (0, 0) (heap_alloc_new wr _)
        have hcL2 : (wr.alloc (Obj.cells #[Value.string es[0].key, Value.int IntKind.i64 es[0].val, Value.bool es[0].gone] 155)).cell? ⟨wr.heap.size, 2, none⟩ = some (.bool es[0].gone) := cell_of_row _ _ _ _ _ (0, 0) (heap_alloc_new wr _)
        have hpl : wr.heap.size < (wr.alloc (Obj.cells #[Value.string es[0].key, Value.int IntKind.i64 es[0].val, Value.bool es[0].gone] 155)).heap.size := by simp
        have hb2 : Below w.heap.size w (wr.alloc (Obj.cells #[Value.string es[0].key, Value.int IntKind.i64 es[0].val, Value.bool es[0].gone] 155)) := hb.alloc hb.size _
        generalize wr.alloc (Obj.cells #[Value.string es[0].key, Value.int IntKind.i64 es[0].val, Value.bool es[0].gone] 155) = w2 at *
        generalize wr.heap.size = p at *
        have hA0 := fun y : Aft w2 => y.cell hpl hcL0
        have hA1 := fun y : Aft w2 => y.cell hpl hcL1
        have hA2 := fun y : Aft w2 => y.cell hpl hcL2
        refine wp_region_after (by kernel_rfl) (by kernel_rfl) ?_
        repeat (go_big_quiet_step ((first | (go_at_call 166; exact Aft.call (keyOfE_any _ _ _ _)) | (go_at_call 77; exact Aft.same (Hcall.out _)))))
        refine wpQuiet_nil ?_
        rintro _ ⟨y, rfl⟩
        have hb3 := keepS hb2 y.below
        generalize y.at_ = w3 at *
        go_wp2
        go_roundw
        case rel => exact ⟨0 + 1, by omega, by go_num, hstep.out, hb3⟩
        case measure => simp [intOf]; omega
      · have hkp : 0 < k := by omega
        have hor := ordE_pos es k hkp hke hw
        have ht : (!(Op.bytesLess (es[k - 1]'(by omega)).key.toList es[k].key.toList)) = !ordAt (kv es) k := by rw [hor]; rfl
        have hi0 : 0 ≤ (k : Int) - 1 := by omega
        have hi1 : ((k : Int) - 1).toNat = k - 1 := by omega
        have hi2 : (0 : Int) < (k : Int) := by omega
        clear hk0 hor hw
        cases ho : ordAt (kv es) k with
        | false =>
          have hfin : Hid (ordM (kv es) = false) := ordM_not (by rw [kv_length]; exact hke) ho
          rw [ho] at ht
          clear ho
          go_wp2
          have hcL0 : (wr.alloc (Obj.cells #[Value.string es[k].key, Value.int IntKind.i64 es[k].val, Value.bool es[k].gone] 155)).cell? ⟨wr.heap.size, 0, none⟩ = some (.string es[k].key) := cell_of_row _ _ _ _ _ (0, 0) (heap_alloc_new wr _)
          have hcL1 : (wr.alloc (Obj.cells #[Value.string es[k].key, Value.int IntKind.i64 es[k].val, Value.bool es[k].gone] 155)).cell? ⟨wr.heap.size, 1, none⟩ = some (.int .i64 es[k].val) := cell_of_row _ _ _ _ _ (0, 0) (heap_alloc_new wr _)
          have hcL2 : (wr.alloc (Obj.cells #[Value.string es[k].key, Value.int IntKind.i64 es[k].val, Value.bool es[k].gone] 155)).cell? ⟨wr.heap.size, 2, none⟩ = some (.bool es[k].gone) := cell_of_row _ _ _ _ _ (0, 0) (heap_alloc_new wr _)
          have hpl : wr.heap.size < (wr.alloc (Obj.cells #[Value.string es[k].key, Value.int IntKind.i64 es[k].val, Value.bool es[k].gone] 155)).heap.size := by simp
          have hb2 : Below w.heap.size w (wr.alloc (Obj.cells #[Value.string es[k].key, Value.int IntKind.i64 es[k].val, Value.bool es[k].gone] 155)) := hb.alloc hb.size _
          obtain ⟨b', off', he, _, _, hc3, hc4, hc6⟩ := hr.edt hb2 (show k - 1 < es.length by omega)
          obtain ⟨rfl, rfl⟩ : b = b' ∧ off = off' := by simpa using he
          have hbl4 := Nat.lt_of_lt_of_le hbl hb2.size
          generalize wr.alloc (Obj.cells #[Value.string es[k].key, Value.int IntKind.i64 es[k].val, Value.bool es[k].gone] 155) = w2 at *
          generalize wr.heap.size = p at *
          have hA0 := fun y : Aft w2 => y.cell hpl hcL0
          have hA1 := fun y : Aft w2 => y.cell hpl hcL1
          have hA2 := fun y : Aft w2 => y.cell hpl hcL2
          have hA3 := fun y : Aft w2 => y.cell hbl4 hc3
          have hA4 := fun y : Aft w2 => y.cell hbl4 hc4
          have hA5 := fun y : Aft w2 => y.cell hbl4 hc6
          refine wp_region_after (by kernel_rfl) (by kernel_rfl) ?_
          repeat (go_big_quiet_step ((first | (go_at_call 166; exact Aft.call (keyOfE_any _ _ _ _)) | (go_at_call 77; exact Aft.same (Hcall.out _)))))
          refine wpQuiet_nil ?_
          rintro _ ⟨y, rfl⟩
          have hb3 := keepS hb2 y.below
          generalize y.at_ = w3 at *
          go_wp2
          go_ret
          exact ⟨ret_bool hfin.out.symm, hb3⟩
        | true =>
          have hstep : Hid (∀ j, j < k + 1 → ordAt (kv es) j = true) := fun j hj => by
            rcases Nat.lt_or_ge j k with h | h
            · exact Hall.out j h
            · have : j = k := by omega
              subst this; exact ho
          rw [ho] at ht
          clear ho
          go_wp2
          have hcL0 : (wr.alloc (Obj.cells #[Value.string es[k].key, Value.int IntKind.i64 es[k].val, Value.bool es[k].gone] 155)).cell? ⟨wr.heap.size, 0, none⟩ = some (.string es[k].key) := cell_of_row _ _ _ _ _ (0, 0) (heap_alloc_new wr _)
          have hcL1 : (wr.alloc (Obj.cells #[Value.string es[k].key, Value.int IntKind.i64 es[k].val, Value.bool es[k].gone] 155)).cell? ⟨wr.heap.size, 1, none⟩ = some (.int .i64 es[k].val) := cell_of_row _ _ _ _ _ (0, 0) (heap_alloc_new wr _)
          have hcL2 : (wr.alloc (Obj.cells #[Value.string es[k].key, Value.int IntKind.i64 es[k].val, Value.bool es[k].gone] 155)).cell? ⟨wr.heap.size, 2, none⟩ = some (.bool es[k].gone) := cell_of_row _ _ _ _ _ (0, 0) (heap_alloc_new wr _)
          have hpl : wr.heap.size < (wr.alloc (Obj.cells #[Value.string es[k].key, Value.int IntKind.i64 es[k].val, Value.bool es[k].gone] 155)).heap.size := by simp
          have hb2 : Below w.heap.size w (wr.alloc (Obj.cells #[Value.string es[k].key, Value.int IntKind.i64 es[k].val, Value.bool es[k].gone] 155)) := hb.alloc hb.size _
          obtain ⟨b', off', he, _, _, hc3, hc4, hc6⟩ := hr.edt hb2 (show k - 1 < es.length by omega)
          obtain ⟨rfl, rfl⟩ : b = b' ∧ off = off' := by simpa using he
          have hbl4 := Nat.lt_of_lt_of_le hbl hb2.size
          generalize wr.alloc (Obj.cells #[Value.string es[k].key, Value.int IntKind.i64 es[k].val, Value.bool es[k].gone] 155) = w2 at *
          generalize wr.heap.size = p at *
          have hA0 := fun y : Aft w2 => y.cell hpl hcL0
          have hA1 := fun y : Aft w2 => y.cell hpl hcL1
          have hA2 := fun y : Aft w2 => y.cell hpl hcL2
          have hA3 := fun y : Aft w2 => y.cell hbl4 hc3
          have hA4 := fun y : Aft w2 => y.cell hbl4 hc4
          have hA5 := fun y : Aft w2 => y.cell hbl4 hc6
          refine wp_region_after (by kernel_rfl) (by kernel_rfl) ?_
          repeat (go_big_quiet_step ((first | (go_at_call 166; exact Aft.call (keyOfE_any _ _ _ _)) | (go_at_call 77; exact Aft.same (Hcall.out _)))))
          refine wpQuiet_nil ?_
          rintro _ ⟨y, rfl⟩
          have hb3 := keepS hb2 y.below
          generalize y.at_ = w3 at *
          go_wp2
          go_roundw
          case rel => exact ⟨k + 1, by omega, by go_num, hstep.out, hb3⟩
          case measure => simp [intOf]; omega
    · have hfin : Hid (ordM (kv es) = true) := ordM_of (fun i hi => Hall.out i (by rw [kv_length, Hlen.out] at hi; omega))
      go_wp2
      go_ret
      exact ⟨ret_bool hfin.out.symm, hb⟩

set_option maxHeartbeats 2000000 in
set_option maxRecDepth 100000 in
theorem implEditsOK_any (A : Option Addr) (n c : Nat) (es : List Edt) (w : World) (hr : Rd w 3 A n (edtsC es)) (hm : n ≤ maxLen) (hks : ∀ e ∈ es, e.key.size ≤ maxLen) :
    Calls Tryz.prog 145 #[.slice A n c] w fun e w' => e = .returned (.bool (editsOK es)) ∧ Below w.heap.size w w' := by
  have hm' := hm
  unfold maxLen at hm
  have hlen := hr.elen
  have Hlen := Lib.hid hlen; clear hlen
  by_cases hbig : 6 < n
  · have hfin : Hid (editsOK es = false) := editsOK_long (by rw [Hlen.out]; exact hbig)
    go_enter Tryz.func145, Tryz.ntmps145
    go_wp2
    go_ret
    exact ⟨ret_bool hfin.out.symm, Below.refl _ _⟩
  have hn6 : n ≤ 6 := by omega
  clear hbig
  cases ho : ordM (kv es) with
  | false =>
    have hfin : Hid (editsOK es = false) := by show editsOK es = false; rw [editsOK, ho]; simp
    have hcall := inOrderE_any A n c es w hr hm' hks
    rw [ho] at hcall
    have Hcall := Lib.hid hcall
    clear ho hcall
    go_enter Tryz.func145, Tryz.ntmps145
    go_wp2_with (go_at_call 149; refine Hcall.out.mono ?_; rintro e w1 ⟨rfl, hb1⟩)
    go_ret
    exact ⟨ret_bool hfin.out.symm, hb1⟩
  | true =>
    have hcall := inOrderE_any A n c es w hr hm' hks
    rw [ho] at hcall
    have Hcall := Lib.hid hcall
    have Ho := Lib.hid ho
    clear ho hcall
    go_enter Tryz.func145, Tryz.ntmps145
    go_wp2_with (go_at_call 149; refine Hcall.out.mono ?_; rintro e w1 ⟨rfl, hb1⟩)
    go_loopw [15] (fun i wr => ∃ k : Nat, k ≤ n ∧ i = .int .i64 k ∧ (∀ j, j < k → edtAt es j = true) ∧ Below w.heap.size w wr) (fun i _ => n - (intOf i).toNat)
    case atStart => exact ⟨0, Nat.zero_le _, rfl, fun j hj => absurd hj (by omega), hb1⟩
    case round =>
      obtain ⟨k, hk, rfl, hall, hb⟩ := hrel
      have Hall := Lib.hid hall; clear hall
      by_cases hlt : k < n
      · have hke : k < es.length := by rw [Hlen.out]; exact hlt
        obtain ⟨b, off, rfl, hbl, hbl2, hc1, hc2, hc3⟩ := hr.edt hb hke
        have hE := edtAt_eq es k hke
        generalize es[k] = ek at *
        obtain ⟨k1, v1, g1⟩ := ek
        simp only at hc1 hc2 hc3 hE
        have hcall := fun W => valueOK_any v1 W
        change ∀ W, Calls _ _ _ W fun e w' => e = .returned (.bool (valB v1)) ∧ W = w' at hcall
        cases hv : valB v1 with
        | false =>
          have hfin : Hid (editsOK es = false) := editsOK_noEdt hke (by rw [hE, hv]; rfl)
          rw [hv] at hcall
          have Hcall := Lib.hid hcall
          clear hv hcall hE
          go_wp2_with (go_at_call 148; refine (Hcall.out _).mono ?_; rintro e w1 ⟨rfl, rfl⟩)
          go_ret
          exact ⟨ret_bool hfin.out.symm, hb.alloc hb.size _⟩
        | true =>
          rw [hv] at hcall
          rcases gone_three g1 v1 with ⟨rfl, hne⟩ | hgood
          · have hfin : Hid (editsOK es = false) := editsOK_noEdt hke (by rw [hE, hv, decide_eq_false hne]; rfl)
            have hne2 : (v1 != 0) = true := by simpa using hne
            have Hcall := Lib.hid hcall
            clear hv hcall hE
            go_wp2_with (go_at_call 148; refine (Hcall.out _).mono ?_; rintro e w1 ⟨rfl, rfl⟩)
            go_ret
            exact ⟨ret_bool hfin.out.symm, hb.alloc hb.size _⟩
          have hE1 : Hid (edtAt es k = true) := by
            rcases hgood with rfl | ⟨rfl, rfl⟩
            · show edtAt es k = true; rw [hE, hv]; rfl
            · show edtAt es k = true; rw [hE, hv]; rfl
          have hstep : Hid (∀ j, j < k + 1 → edtAt es j = true) := fun j hj => by
            rcases Nat.lt_or_ge j k with h | h
            · exact Hall.out j h
            · have : j = k := by omega
              subst this; exact hE1.out
          clear hE hv
          rcases hgood with rfl | ⟨rfl, rfl⟩
          · have Hcall := Lib.hid hcall
            clear hcall
            go_wp2_with (go_at_call 148; refine (Hcall.out _).mono ?_; rintro e w1 ⟨rfl, rfl⟩)
            go_roundw
            case rel => exact ⟨k + 1, by omega, by go_num, hstep.out, hb.alloc hb.size _⟩
            case measure => simp [intOf]; omega
          · have Hcall := Lib.hid hcall
            clear hcall
            go_wp2_with (go_at_call 148; refine (Hcall.out _).mono ?_; rintro e w1 ⟨rfl, rfl⟩)
            go_roundw
            case rel => exact ⟨k + 1, by omega, by go_num, hstep.out, hb.alloc hb.size _⟩
            case measure => simp [intOf]; omega
      · have hfin : Hid (editsOK es = true) := editsOK_of (by rw [Hlen.out]; exact hn6) (fun i hi => ⟨ordM_at Ho.out (by rw [kv_length]; exact hi), Hall.out i (by rw [Hlen.out] at hi; omega)⟩)
        go_wp2
        go_ret
        exact ⟨ret_bool hfin.out.symm, hb⟩

end Go.Proofs.YtmfmclnklpbiaaaGreat
namespace Go.Proofs.YtmfmclnklpbiaaaGreat.AM
open Go Go.RowKit
set_option linter.unusedVariables false
set_option linter.unusedSimpArgs false
set_option maxRecDepth 100000

abbrev okN (s : ByteArray) : Bool := Nm.nameOK s.data.toList
def refB (r : Rf) : Bool := okN r.name && (decide (1 ≤ r.ver ∧ r.ver ≤ 1000000) && (if r.gone = true then decide (r.head = 0) else decide (1 ≤ r.head ∧ r.head ≤ 60)))
def rAt : List Rf → ByteArray → Nat → Int
  | [], _, _ => -1
  | y :: l, x, k => if y.name = x then k else rAt l x (k + 1)
theorem rAt_drop {l : List Rf} {x : ByteArray} {k : Nat} (h : k < l.length) : rAt (l.drop k) x k = if l[k].name = x then (k : Int) else rAt (l.drop (k + 1)) x (k + 1) := by
  rw [List.drop_eq_getElem_cons h, rAt]
theorem rAt_spec : ∀ (l : List Rf) (x : ByteArray) (k : Nat), (rAt l x k = -1 ∧ ∀ i (h : i < l.length), l[i].name ≠ x) ∨ ∃ j, ∃ h : j < l.length, rAt l x k = ((k + j : Nat) : Int) ∧ l[j].name = x ∧ ∀ i (hi : i < j), (l[i]'(by omega)).name ≠ x
  | [], x, k => .inl ⟨rfl, fun i h => by simp at h⟩
  | y :: l, x, k => by
    unfold rAt
    by_cases e : y.name = x
    · rw [if_pos e]; exact .inr ⟨0, by simp, by simp, e, fun i h => by omega⟩
    · rw [if_neg e]
      rcases rAt_spec l x (k + 1) with ⟨h1, h2⟩ | ⟨j, hj, h1, h2, h3⟩
      · refine .inl ⟨h1, fun i h => ?_⟩
        cases i with
        | zero => exact e
        | succ i => exact h2 i (by simpa using h)
      · refine .inr ⟨j + 1, by simpa using hj, by rw [h1]; omega, h2, fun i h => ?_⟩
        cases i with
        | zero => exact e
        | succ i => exact h3 i (by omega)
theorem rAt_take {l : List Rf} {i : Nat} (h : i < l.length) : rAt l l[i].name 0 = (i : Int) ↔ rAt (l.take i) l[i].name 0 < 0 := by
  rcases rAt_spec (l.take i) l[i].name 0 with ⟨h1, h2⟩ | ⟨j, hj, h1, h2, h3⟩
  · rw [h1]
    refine ⟨fun _ => by omega, fun _ => ?_⟩
    rcases rAt_spec l l[i].name 0 with ⟨k1, k2⟩ | ⟨j, hj, k1, k2, k3⟩
    · exact absurd rfl (k2 i h)
    · rw [k1]
      rcases Nat.lt_trichotomy j i with q | q | q
      · exact absurd (by rw [List.getElem_take]; exact k2) (h2 j (by simp; omega))
      · omega
      · exact absurd rfl (k3 i q)
  · rw [h1]
    have hji : j < i := by simp at hj; omega
    refine ⟨fun e => ?_, fun e => by omega⟩
    rcases rAt_spec l l[i].name 0 with ⟨k1, k2⟩ | ⟨j', hj', k1, k2, k3⟩
    · omega
    · rw [k1] at e
      have : j' = i := by omega
      subst this
      exact absurd (by rw [← h2, List.getElem_take]) (k3 j hji)
theorem rAt_lt {l : List Rf} {x : ByteArray} (h : 0 ≤ rAt l x 0) : ∃ j, ∃ hj : j < l.length, rAt l x 0 = (j : Int) ∧ l[j].name = x := by
  rcases rAt_spec l x 0 with ⟨h1, _⟩ | ⟨j, hj, h1, h2, _⟩
  · omega
  · exact ⟨j, hj, by rw [h1]; simp, h2⟩
def refG (l : List Rf) (i : Nat) : Prop := ∃ h : i < l.length, refB l[i] = true ∧ rAt (l.take i) l[i].name 0 < 0
open Classical in
noncomputable def refsB (l : List Rf) : Bool := decide (l.length ≤ 8 ∧ ∀ i, i < l.length → refG l i)
theorem refsB_f {l : List Rf} (h : ¬ (l.length ≤ 8 ∧ ∀ i, i < l.length → refG l i)) : refsB l = false := by unfold refsB; simpa using h
theorem refsB_t {l : List Rf} (h : l.length ≤ 8 ∧ ∀ i, i < l.length → refG l i) : refsB l = true := by unfold refsB; simpa using h
theorem refsB_of {l : List Rf} (h : refsB l = true) : l.length ≤ 8 ∧ ∀ i, i < l.length → refG l i := by unfold refsB at h; simpa using h
theorem ent_26 : ∀ vs w, (callFunc 26 vs).run Tryz.prog w = .ok (.enter 26 vs) w := ent_of Tryz.func26 (by kernel_rfl) (by kernel_rfl)
theorem ent_77 : ∀ vs w, (callFunc 77 vs).run Tryz.prog w = .ok (.enter 77 vs) w := ent_of Tryz.func77 (by kernel_rfl) (by kernel_rfl)
theorem ac_l00Word {s : ByteArray} {b : Bool} (hs : s.size ≤ maxLen) (hb : okN s = b) : AC Tryz.prog 26 [.v (.string s)] ⟨.v (.bool b), []⟩ :=
  hb ▸ ac_val ent_26 rfl fun w S0 vs hS hv => by
    obtain ⟨u', rfl, h2⟩ := rvs1 hv
    rw [arg_v h2]
    exact (l00Word_any s w hs).mono fun e w' ⟨h1, h2⟩ => ⟨h1, by subst h2; exact Below.refl _ _⟩
theorem ac_nameOK {s : ByteArray} {b : Bool} (hs : s.size ≤ maxLen) (hb : okN s = b) : AC Tryz.prog 77 [.v (.string s)] ⟨.v (.bool b), []⟩ :=
  hb ▸ ac_val ent_77 rfl fun w S0 vs hS hv => by
    obtain ⟨u', rfl, h2⟩ := rvs1 hv
    rw [arg_v h2]
    exact (nameOK_any s w hs).mono fun e w' ⟨h1, h2⟩ => ⟨h1, by subst h2; exact Below.refl _ _⟩
attribute [local irreducible] ACode AOps AOps2 RetG RetM Pre ACG
theorem ac_headOK_t {x : Int} (h : 1 ≤ x) (h' : x ≤ 60) : AC Tryz.prog 132 [.v (.int .i64 x)] ⟨.v (.bool true), []⟩ := by
  refine r_of Th_ok (by kernel_rfl) Tryz.func132 rfl Tryz.ntmps132 Tryz.results132 (by kernel_rfl) rfl ?_; conv => whnf
  repeat (((first | refine qb rfl rfl ?_ | refine qi (by assumption) rfl rfl ?_ | refine ql rfl ?_ | refine qo rfl rfl ?_ | refine qs rfl rfl ?_ | refine qn rfl rfl ?_); conv => whnf))
  exact r_ret1 rfl trivial
theorem ac_headOK_f {x : Int} (h : ¬ (1 ≤ x ∧ x ≤ 60)) : AC Tryz.prog 132 [.v (.int .i64 x)] ⟨.v (.bool false), []⟩ := by
  by_cases h1 : 1 ≤ x
  · refine r_of Th_ok (by kernel_rfl) Tryz.func132 rfl Tryz.ntmps132 Tryz.results132 (by kernel_rfl) rfl ?_; conv => whnf
    repeat (((first | refine qb rfl rfl ?_ | refine qi (by assumption) rfl rfl ?_ | refine ql rfl ?_ | refine qo rfl rfl ?_ | refine qs rfl rfl ?_ | refine qn rfl rfl ?_); conv => whnf))
    exact r_ret1 rfl trivial
  · refine r_of Th_ok (by kernel_rfl) Tryz.func132 rfl Tryz.ntmps132 Tryz.results132 (by kernel_rfl) rfl ?_; conv => whnf
    repeat (((first | refine qb rfl rfl ?_ | refine qi (by assumption) rfl rfl ?_ | refine ql rfl ?_ | refine qo rfl rfl ?_ | refine qs rfl rfl ?_ | refine qn rfl rfl ?_); conv => whnf))
    exact r_ret1 rfl trivial
theorem ac_l04At {l : List Rf} {x : ByteArray} (hm : l.length ≤ maxLen) : AC Tryz.prog 101 [.lst 4 (l.map refA), .v (.string x)] ⟨.v (.int .i64 (rAt l x 0)), []⟩ := by
  unfold maxLen at hm
  refine r_of Th_ok (by kernel_rfl) Tryz.func101 rfl Tryz.ntmps101 Tryz.results101 (by kernel_rfl) rfl ?_; conv => whnf
  refine r_loop (ι := { k : Nat // k ≤ l.length ∧ rAt (l.drop k) x k = rAt l x 0 }) (fun k => ⟨[(0, .lst 4 (l.map refA)), (1, .v (.string x)), (5, .v (.int .i64 (k.1 : Int)))], []⟩) (fun k => l.length - k.1) ⟨0, Nat.zero_le _, rfl⟩ (by refine ⟨?_, ?_⟩ <;> (repeat (first | trivial | exact ⟨rfl, trivial⟩ | refine ⟨rfl, ?_⟩ | refine ⟨.inl ⟨rfl, rfl⟩, ?_⟩ | refine ⟨.inr ⟨_, _, rfl, rfl, rfl, rfl, rfl⟩, ?_⟩))) ?_
  rintro ⟨k, hk, hd⟩
  dsimp only at hk hd ⊢
  conv => whnf
  by_cases hlt : k < l.length
  · rw [rAt_drop hlt] at hd
    by_cases he : l[k].name = x
    · rw [if_pos he] at hd
      rw [← hd]
      repeat (first | ((first | refine qb rfl rfl ?_ | refine qi (by assumption) rfl rfl ?_ | refine ql rfl ?_ | refine qo rfl rfl ?_ | refine qs rfl rfl ?_ | refine qn rfl rfl ?_); conv => whnf) | (refine r_put (p_bin (b_seq_t he) rfl rfl rfl) rfl rfl ?_; conv => whnf))
      exact r_ret1 rfl trivial
    · rw [if_neg he] at hd
      repeat (first | ((first | refine qb rfl rfl ?_ | refine qi (by assumption) rfl rfl ?_ | refine ql rfl ?_ | refine qo rfl rfl ?_ | refine qs rfl rfl ?_ | refine qn rfl rfl ?_); conv => whnf) | (refine r_put (p_bin (b_seq_f he) rfl rfl rfl) rfl rfl ?_; conv => whnf))
      exact ⟨⟨k + 1, hlt, hd⟩, by refine ⟨?_, ?_⟩ <;> (repeat (first | trivial | exact ⟨rfl, trivial⟩ | refine ⟨rfl, ?_⟩ | refine ⟨.inl ⟨rfl, rfl⟩, ?_⟩ | refine ⟨.inr ⟨_, _, rfl, rfl, rfl, rfl, rfl⟩, ?_⟩)), by simp; omega⟩
  · rw [← hd, List.drop_eq_nil_of_le (by omega)]
    repeat (((first | refine qb rfl rfl ?_ | refine qi (by assumption) rfl rfl ?_ | refine ql rfl ?_ | refine qo rfl rfl ?_ | refine qs rfl rfl ?_ | refine qn rfl rfl ?_); conv => whnf))
    exact r_ret1 rfl trivial
theorem ac_placeF {r : Rf} {x : ByteArray} {b : Bool} (hb : decide (r.name = x) = b) : AC Tryz.prog 134 [refA r, .ptr (.v (.string x))] ⟨.v (.bool b), []⟩ := by
  by_cases h : r.name = x
  · rw [← hb, decide_eq_true h]
    refine r_of Th_ok (by kernel_rfl) Tryz.func134 rfl Tryz.ntmps134 Tryz.results134 (by kernel_rfl) rfl ?_; conv => whnf
    repeat (first | ((first | refine qb rfl rfl ?_ | refine qi (by assumption) rfl rfl ?_ | refine ql rfl ?_ | refine qo rfl rfl ?_ | refine qs rfl rfl ?_ | refine qn rfl rfl ?_); conv => whnf) | (refine r_put (p_bin (b_seq_t h) rfl rfl rfl) rfl rfl ?_; conv => whnf))
    exact r_ret1 rfl trivial
  · rw [← hb, decide_eq_false h]
    refine r_of Th_ok (by kernel_rfl) Tryz.func134 rfl Tryz.ntmps134 Tryz.results134 (by kernel_rfl) rfl ?_; conv => whnf
    repeat (first | ((first | refine qb rfl rfl ?_ | refine qi (by assumption) rfl rfl ?_ | refine ql rfl ?_ | refine qo rfl rfl ?_ | refine qs rfl rfl ?_ | refine qn rfl rfl ?_); conv => whnf) | (refine r_put (p_bin (b_seq_f h) rfl rfl rfl) rfl rfl ?_; conv => whnf))
    exact r_ret1 rfl trivial
theorem ac_indexRef {l : List Rf} {x : ByteArray} (hm : l.length ≤ maxLen) : AC Tryz.prog 133 [.lst 4 (l.map refA), .fn 134 [] [.ptr (.v (.string x))]] ⟨.v (.int .i64 (rAt l x 0)), []⟩ := by
  unfold maxLen at hm
  refine r_of Th_ok (by kernel_rfl) Tryz.func133 rfl Tryz.ntmps133 Tryz.results133 (by kernel_rfl) rfl ?_; conv => whnf
  repeat (((first | refine qb rfl rfl ?_ | refine qi (by assumption) rfl rfl ?_ | refine ql rfl ?_ | refine qo rfl rfl ?_ | refine qs rfl rfl ?_ | refine qn rfl rfl ?_); conv => whnf))
  refine r_loop (ι := { k : Nat // k ≤ l.length ∧ rAt (l.drop k) x k = rAt l x 0 }) (fun k => ⟨[(0, .lst 4 (l.map refA)), (1, .fn 134 [] [.ptr (.v (.string x))]), (7, .v (.int .i64 (l.length : Int))), (8, .v (.int .i64 (k.1 : Int)))], []⟩) (fun k => l.length - k.1) ⟨0, Nat.zero_le _, rfl⟩ (by refine ⟨?_, ?_⟩ <;> (repeat (first | trivial | exact ⟨rfl, trivial⟩ | refine ⟨rfl, ?_⟩ | refine ⟨.inl ⟨rfl, rfl⟩, ?_⟩ | refine ⟨.inr ⟨_, _, rfl, rfl, rfl, rfl, rfl⟩, ?_⟩))) ?_
  rintro ⟨k, hk, hd⟩
  dsimp only at hk hd ⊢
  conv => whnf
  by_cases hlt : k < l.length
  · rw [rAt_drop hlt] at hd
    by_cases he : l[k].name = x
    · rw [if_pos he] at hd
      rw [← hd]
      repeat (first | ((first | refine qb rfl rfl ?_ | refine qi (by assumption) rfl rfl ?_ | refine ql rfl ?_ | refine qo rfl rfl ?_ | refine qs rfl rfl ?_ | refine qn rfl rfl ?_); conv => whnf) | (refine r_step (p_callv (ac_placeF (r := l[k]) (decide_eq_true he)) rfl rfl (.inl rfl) trivial rfl rfl) rfl rfl (fun e => by first | exact .inl rfl | contradiction | exact .inr (.inl (by kernel_rfl))) ?_; conv => whnf))
      exact r_ret1 rfl trivial
    · rw [if_neg he] at hd
      repeat (first | ((first | refine qb rfl rfl ?_ | refine qi (by assumption) rfl rfl ?_ | refine ql rfl ?_ | refine qo rfl rfl ?_ | refine qs rfl rfl ?_ | refine qn rfl rfl ?_); conv => whnf) | (refine r_step (p_callv (ac_placeF (r := l[k]) (decide_eq_false he)) rfl rfl (.inl rfl) trivial rfl rfl) rfl rfl (fun e => by first | exact .inl rfl | contradiction | exact .inr (.inl (by kernel_rfl))) ?_; conv => whnf))
      exact ⟨⟨k + 1, hlt, hd⟩, by refine ⟨?_, ?_⟩ <;> (repeat (first | trivial | exact ⟨rfl, trivial⟩ | refine ⟨rfl, ?_⟩ | refine ⟨.inl ⟨rfl, rfl⟩, ?_⟩ | refine ⟨.inr ⟨_, _, rfl, rfl, rfl, rfl, rfl⟩, ?_⟩)), by simp; omega⟩
  · rw [← hd, List.drop_eq_nil_of_le (by omega)]
    repeat (((first | refine qb rfl rfl ?_ | refine qi (by assumption) rfl rfl ?_ | refine ql rfl ?_ | refine qo rfl rfl ?_ | refine qs rfl rfl ?_ | refine qn rfl rfl ?_); conv => whnf))
    exact r_ret1 rfl trivial
theorem ac_placeOfRef {l : List Rf} {x : ByteArray} (hm : l.length ≤ maxLen) : AC Tryz.prog 111 [.lst 4 (l.map refA), .v (.string x)] ⟨.v (.int .i64 (rAt l x 0)), []⟩ := by
  refine r_of Th_ok (by kernel_rfl) Tryz.func111 rfl Tryz.ntmps111 Tryz.results111 (by kernel_rfl) rfl ?_; conv => whnf
  repeat (first | ((first | refine qb rfl rfl ?_ | refine qi (by assumption) rfl rfl ?_ | refine ql rfl ?_ | refine qo rfl rfl ?_ | refine qs rfl rfl ?_ | refine qn rfl rfl ?_); conv => whnf) | (refine r_step (p_box (y := .v _) rfl rfl rfl rfl) rfl rfl (fun e => by first | exact .inl rfl | contradiction | exact .inr (.inl (by kernel_rfl))) ?_; conv => whnf))
  refine r_step (p_callg [] (ac_indexRef hm) rfl rfl trivial rfl rfl trivial rfl rfl rfl (.inr ⟨⟨by simp [flatA], flat_o0⟩, by simp⟩) rfl) rfl rfl (fun e => by first | exact .inl rfl | contradiction | exact .inr (.inl (by kernel_rfl))) ?_
  conv => whnf
  repeat (((first | refine qb rfl rfl ?_ | refine qi (by assumption) rfl rfl ?_ | refine ql rfl ?_ | refine qo rfl rfl ?_ | refine qs rfl rfl ?_ | refine qn rfl rfl ?_); conv => whnf))
  exact r_ret1 rfl trivial
end Go.Proofs.YtmfmclnklpbiaaaGreat.AM
namespace Go.Proofs.YtmfmclnklpbiaaaGreat.AM
open Go Go.RowKit
set_option linter.unusedVariables false
set_option linter.unusedSimpArgs false
set_option maxRecDepth 100000
attribute [local irreducible] ACode AOps AOps2 RetG RetM Pre ACG
theorem refB_n {r : Rf} (h : okN r.name = false) : refB r = false := by simp only [refB, h, Bool.false_and]
theorem refB_v {r : Rf} (h : ¬ (1 ≤ r.ver ∧ r.ver ≤ 1000000)) : refB r = false := by simp only [refB, decide_eq_false h, Bool.false_and, Bool.and_false]
theorem refB_g {r : Rf} (hn : okN r.name = true) (hv : 1 ≤ r.ver ∧ r.ver ≤ 1000000) (hg : r.gone = true) : refB r = decide (r.head = 0) := by simp only [refB, hn, hg, decide_eq_true hv, Bool.true_and, if_true]
theorem refB_h {r : Rf} (hn : okN r.name = true) (hv : 1 ≤ r.ver ∧ r.ver ≤ 1000000) (hg : r.gone = false) : refB r = decide (1 ≤ r.head ∧ r.head ≤ 60) := by
  simp only [refB, hn, hg, decide_eq_true hv, Bool.true_and]; rfl
theorem ac_refOK {r : Rf} (hs : r.name.size ≤ maxLen) : AC Tryz.prog 110 [refA r] ⟨.v (.bool (refB r)), []⟩ := by
  cases hn : okN r.name with
  | false =>
    rw [refB_n hn]
    refine r_of Th_ok (by kernel_rfl) Tryz.func110 rfl Tryz.ntmps110 Tryz.results110 (by kernel_rfl) rfl ?_; conv => whnf
    repeat (first | ((first | refine qb rfl rfl ?_ | refine qi (by assumption) rfl rfl ?_ | refine ql rfl ?_ | refine qo rfl rfl ?_ | refine qs rfl rfl ?_ | refine qn rfl rfl ?_); conv => whnf) | (refine qc (ac_nameOK hs hn) rfl ?_; conv => whnf))
    exact r_ret1 rfl trivial
  | true =>
    by_cases hv : 1 ≤ r.ver ∧ r.ver ≤ 1000000
    case neg =>
      rw [refB_v hv]
      by_cases h1 : 1 ≤ r.ver
      · have h2 : ¬ r.ver ≤ 1000000 := fun e => hv ⟨h1, e⟩
        refine r_of Th_ok (by kernel_rfl) Tryz.func110 rfl Tryz.ntmps110 Tryz.results110 (by kernel_rfl) rfl ?_; conv => whnf
        repeat (first | ((first | refine qb rfl rfl ?_ | refine qi (by assumption) rfl rfl ?_ | refine ql rfl ?_ | refine qo rfl rfl ?_ | refine qs rfl rfl ?_ | refine qn rfl rfl ?_); conv => whnf) | (refine qc (ac_nameOK hs hn) rfl ?_; conv => whnf))
        exact r_ret1 rfl trivial
      · refine r_of Th_ok (by kernel_rfl) Tryz.func110 rfl Tryz.ntmps110 Tryz.results110 (by kernel_rfl) rfl ?_; conv => whnf
        repeat (first | ((first | refine qb rfl rfl ?_ | refine qi (by assumption) rfl rfl ?_ | refine ql rfl ?_ | refine qo rfl rfl ?_ | refine qs rfl rfl ?_ | refine qn rfl rfl ?_); conv => whnf) | (refine qc (ac_nameOK hs hn) rfl ?_; conv => whnf))
        exact r_ret1 rfl trivial
    obtain ⟨v1, v2⟩ := id hv
    cases hg : r.gone with
    | true =>
      rw [refB_g hn hv hg]
      by_cases h0 : r.head = 0
      · rw [decide_eq_true h0]
        refine r_of Th_ok (by kernel_rfl) Tryz.func110 rfl Tryz.ntmps110 Tryz.results110 (by kernel_rfl) rfl ?_; conv => whnf
        repeat (first | ((first | refine qb rfl rfl ?_ | refine qi (by assumption) rfl rfl ?_ | refine ql rfl ?_ | refine qo rfl rfl ?_ | refine qs rfl rfl ?_ | refine qn rfl rfl ?_); conv => whnf) | (refine qc (ac_nameOK hs hn) rfl ?_; conv => whnf) | (rw [hg]; conv => whnf))
        exact r_ret1 rfl trivial
      · rw [decide_eq_false h0]
        refine r_of Th_ok (by kernel_rfl) Tryz.func110 rfl Tryz.ntmps110 Tryz.results110 (by kernel_rfl) rfl ?_; conv => whnf
        repeat (first | ((first | refine qb rfl rfl ?_ | refine qi (by assumption) rfl rfl ?_ | refine ql rfl ?_ | refine qo rfl rfl ?_ | refine qs rfl rfl ?_ | refine qn rfl rfl ?_); conv => whnf) | (refine qc (ac_nameOK hs hn) rfl ?_; conv => whnf) | (rw [hg]; conv => whnf))
        exact r_ret1 rfl trivial
    | false =>
      rw [refB_h hn hv hg]
      by_cases h0 : 1 ≤ r.head ∧ r.head ≤ 60
      · rw [decide_eq_true h0]
        refine r_of Th_ok (by kernel_rfl) Tryz.func110 rfl Tryz.ntmps110 Tryz.results110 (by kernel_rfl) rfl ?_; conv => whnf
        repeat (first | ((first | refine qb rfl rfl ?_ | refine qi (by assumption) rfl rfl ?_ | refine ql rfl ?_ | refine qo rfl rfl ?_ | refine qs rfl rfl ?_ | refine qn rfl rfl ?_); conv => whnf) | (refine qc (ac_nameOK hs hn) rfl ?_; conv => whnf) | (rw [hg]; conv => whnf) | (refine qc (ac_headOK_t h0.1 h0.2) rfl ?_; conv => whnf))
        exact r_ret1 rfl trivial
      · rw [decide_eq_false h0]
        refine r_of Th_ok (by kernel_rfl) Tryz.func110 rfl Tryz.ntmps110 Tryz.results110 (by kernel_rfl) rfl ?_; conv => whnf
        repeat (first | ((first | refine qb rfl rfl ?_ | refine qi (by assumption) rfl rfl ?_ | refine ql rfl ?_ | refine qo rfl rfl ?_ | refine qs rfl rfl ?_ | refine qn rfl rfl ?_); conv => whnf) | (refine qc (ac_nameOK hs hn) rfl ?_; conv => whnf) | (rw [hg]; conv => whnf) | (refine qc (ac_headOK_f h0) rfl ?_; conv => whnf))
        exact r_ret1 rfl trivial
theorem ac_iRefsOK {l : List Rf} (hm : l.length ≤ maxLen) (hk : ∀ e ∈ l, e.name.size ≤ maxLen) : AC Tryz.prog 71 [.lst 4 (l.map refA)] ⟨.v (.bool (refsB l)), []⟩ := by
  have hm' := hm
  unfold maxLen at hm'
  by_cases hin : l.length ≤ 8
  case neg =>
    rw [refsB_f (fun h => hin h.1)]
    refine r_of Th_ok (by kernel_rfl) Tryz.func71 rfl Tryz.ntmps71 Tryz.results71 (by kernel_rfl) rfl ?_; conv => whnf
    repeat (((first | refine qb rfl rfl ?_ | refine qi (by assumption) rfl rfl ?_ | refine ql rfl ?_ | refine qo rfl rfl ?_ | refine qs rfl rfl ?_ | refine qn rfl rfl ?_); conv => whnf))
    exact r_ret1 rfl trivial
  refine r_of Th_ok (by kernel_rfl) Tryz.func71 rfl Tryz.ntmps71 Tryz.results71 (by kernel_rfl) rfl ?_; conv => whnf
  repeat (((first | refine qb rfl rfl ?_ | refine qi (by assumption) rfl rfl ?_ | refine ql rfl ?_ | refine qo rfl rfl ?_ | refine qs rfl rfl ?_ | refine qn rfl rfl ?_); conv => whnf))
  refine r_loop (ι := { k : Nat // k ≤ l.length ∧ ∀ i, i < k → refG l i }) (fun k => ⟨[(0, .lst 4 (l.map refA)), (8, .lst 4 (l.map refA)), (9, .v (.int .i64 (l.length : Int))), (10, .v (.int .i64 (k.1 : Int)))], []⟩) (fun k => l.length - k.1) ⟨0, Nat.zero_le _, fun i h => by omega⟩ (by refine ⟨?_, ?_⟩ <;> (repeat (first | trivial | exact ⟨rfl, trivial⟩ | refine ⟨rfl, ?_⟩ | refine ⟨.inl ⟨rfl, rfl⟩, ?_⟩ | refine ⟨.inr ⟨_, _, rfl, rfl, rfl, rfl, rfl⟩, ?_⟩))) ?_
  rintro ⟨k, hk', hd⟩
  dsimp only at hk' hd ⊢
  conv => whnf
  by_cases hlt : k < l.length
  case neg =>
    rw [refsB_t ⟨hin, fun i hi => hd i (by omega)⟩]
    repeat (((first | refine qb rfl rfl ?_ | refine qi (by assumption) rfl rfl ?_ | refine ql rfl ?_ | refine qo rfl rfl ?_ | refine qs rfl rfl ?_ | refine qn rfl rfl ?_); conv => whnf))
    exact r_ret1 rfl trivial
  have hsz := hk _ (List.getElem_mem hlt)
  have hac := ac_refOK hsz
  have hpl := ac_placeOfRef (l := l.take k) (x := l[k].name) (by unfold maxLen; simp; omega)
  cases hb : refB l[k] with
  | false =>
    rw [hb] at hac
    rw [refsB_f (fun h => by obtain ⟨_, q, _⟩ := h.2 k hlt; rw [hb] at q; cases q)]
    repeat (first | ((first | refine qb rfl rfl ?_ | refine qi (by assumption) rfl rfl ?_ | refine ql rfl ?_ | refine qo rfl rfl ?_ | refine qs rfl rfl ?_ | refine qn rfl rfl ?_); conv => whnf) | (refine qc (hac) rfl ?_; conv => whnf) | (refine r_step (p_ostore rfl rfl rfl rfl rfl (by conv => lhs; whnf) rfl) rfl rfl (fun e => by first | exact .inl rfl | contradiction | exact .inr (.inl (by kernel_rfl))) ?_; conv => whnf) | (refine .inl (And.intro (by kernel_rfl) ?_); conv => whnf))
    exact r_ret1 rfl trivial
  | true =>
    rw [hb] at hac
    by_cases hp : rAt (l.take k) l[k].name 0 < 0
    · repeat (first | ((first | refine qb rfl rfl ?_ | refine qi (by assumption) rfl rfl ?_ | refine ql rfl ?_ | refine qo rfl rfl ?_ | refine qs rfl rfl ?_ | refine qn rfl rfl ?_); conv => whnf) | (refine qc (hac) rfl ?_; conv => whnf) | (refine r_step (p_ostore rfl rfl rfl rfl rfl (by conv => lhs; whnf) rfl) rfl rfl (fun e => by first | exact .inl rfl | contradiction | exact .inr (.inl (by kernel_rfl))) ?_; conv => whnf) | (refine .inl (And.intro (by kernel_rfl) ?_); conv => whnf) | (refine r_put (p_lslm (h := k) (xs := l) (f := refA) (by omega) rfl rfl rfl) rfl rfl ?_; conv => whnf) | (refine qc (hpl) rfl ?_; conv => whnf))
      exact ⟨⟨k + 1, hlt, fun i hi => by
        rcases Nat.lt_or_ge i k with h | h
        · exact hd i h
        · have : i = k := by omega
          subst this; exact ⟨hlt, hb, hp⟩⟩, by refine ⟨?_, ?_⟩ <;> (repeat (first | trivial | exact ⟨rfl, trivial⟩ | refine ⟨rfl, ?_⟩ | refine ⟨.inl ⟨rfl, rfl⟩, ?_⟩ | refine ⟨.inr ⟨_, _, rfl, rfl, rfl, rfl, rfl⟩, ?_⟩)), by simp; omega⟩
    · rw [refsB_f (fun h => by obtain ⟨_, _, q⟩ := h.2 k hlt; exact hp q)]
      repeat (first | ((first | refine qb rfl rfl ?_ | refine qi (by assumption) rfl rfl ?_ | refine ql rfl ?_ | refine qo rfl rfl ?_ | refine qs rfl rfl ?_ | refine qn rfl rfl ?_); conv => whnf) | (refine qc (hac) rfl ?_; conv => whnf) | (refine r_step (p_ostore rfl rfl rfl rfl rfl (by conv => lhs; whnf) rfl) rfl rfl (fun e => by first | exact .inl rfl | contradiction | exact .inr (.inl (by kernel_rfl))) ?_; conv => whnf) | (refine .inl (And.intro (by kernel_rfl) ?_); conv => whnf) | (refine r_put (p_lslm (h := k) (xs := l) (f := refA) (by omega) rfl rfl rfl) rfl rfl ?_; conv => whnf) | (refine qc (hpl) rfl ?_; conv => whnf))
      exact r_ret1 rfl trivial
end Go.Proofs.YtmfmclnklpbiaaaGreat.AM
/- Whether edits are valid, over data, both sides. -/
namespace Go.Proofs.YtmfmclnklpbiaaaGreat.AM
open Go Go.RowKit
set_option linter.unusedVariables false
set_option linter.unusedSimpArgs false
theorem ent_102 : ∀ vs w, (callFunc 102 vs).run Tryz.prog w = .ok (.enter 102 vs) w := ent_of Tryz.func102 (by kernel_rfl) (by kernel_rfl)
theorem ac_sEdts {es : List Edt} {b : Bool} (hb : editsOK es = b) (hm : es.length ≤ maxLen) (hk : ∀ e ∈ es, e.key.size ≤ maxLen) : AC Tryz.prog 102 [.lst 3 (es.map edtA)] ⟨.v (.bool b), []⟩ :=
  hb ▸ ac_val ent_102 rfl fun w S0 vs hS hv => by
    obtain ⟨u, rfl, h1⟩ := rvs1 hv
    obtain ⟨A, c, rfl, _, _, hr⟩ := arg_edts hS h1
    exact l01Edits_any A es.length c es w hr hm hk
theorem ent_145 : ∀ vs w, (callFunc 145 vs).run Tryz.prog w = .ok (.enter 145 vs) w := ent_of Tryz.func145 (by kernel_rfl) (by kernel_rfl)
theorem ac_iEdts {es : List Edt} {b : Bool} (hb : editsOK es = b) (hm : es.length ≤ maxLen) (hk : ∀ e ∈ es, e.key.size ≤ maxLen) : AC Tryz.prog 145 [.lst 3 (es.map edtA)] ⟨.v (.bool b), []⟩ :=
  hb ▸ ac_val ent_145 rfl fun w S0 vs hS hv => by
    obtain ⟨u, rfl, h1⟩ := rvs1 hv
    obtain ⟨A, c, rfl, _, _, hr⟩ := arg_edts hS h1
    exact implEditsOK_any A es.length c es w hr hm hk
end Go.Proofs.YtmfmclnklpbiaaaGreat.AM
/- Operations: sizes, copies, comparison; OpOK on both sides; its law over data. -/
namespace Go.Proofs.YtmfmclnklpbiaaaGreat.AM
open Go Go.RowKit
set_option linter.unusedVariables false
set_option linter.unusedSimpArgs false
set_option maxRecDepth 100000
theorem b_eqd {P : Program} {t : TypeId} {x y : Operand} {k : IntKind} {a b : Int} : BinOK P .eql t x y (.int k a) (.int k b) (.bool (decide (a = b))) := by
  by_cases h : a = b
  · rw [decide_eq_true h]; exact b_eq_t h
  · rw [decide_eq_false h]; exact b_eq_f h
theorem b_seqd {P : Program} {t : TypeId} {x y : Operand} {a b : ByteArray} : BinOK P .eql t x y (.string a) (.string b) (.bool (decide (a = b))) := by
  by_cases h : a = b
  · rw [decide_eq_true h]; exact b_seq_t h
  · rw [decide_eq_false h]; exact b_seq_f h
abbrev eB : ByteArray := ⟨#[]⟩
def opB (o : Opr) : Bool :=
  okN o.name && (if o.kind = 1 ∨ o.kind = 4 then decide (1 ≤ o.frm ∧ o.frm ≤ 60) && (decide (o.key = eB) && decide (o.edits.length = 0))
   else if o.kind = 3 then decide (0 ≤ o.frm ∧ o.frm ≤ 60) && (decide (o.key = eB) && editsOK o.edits)
   else if o.kind = 5 then decide (o.frm = 0) && (okN o.key && decide (o.edits.length = 0))
   else if o.kind = 2 ∨ o.kind = 6 then decide (o.frm = 0) && (decide (o.key = eB) && decide (o.edits.length = 0))
   else false)
theorem editsOK_nil {es : List Edt} (h : es.length = 0) : editsOK es = true := by
  have := List.eq_nil_of_length_eq_zero h
  subst this; rfl
attribute [local irreducible] ACode AOps AOps2 RetG RetM Pre ACG
end Go.Proofs.YtmfmclnklpbiaaaGreat.AM
namespace Go.Proofs.YtmfmclnklpbiaaaGreat.AM
open Go Go.RowKit
set_option linter.unusedVariables false
set_option linter.unusedSimpArgs false
set_option maxRecDepth 100000
attribute [local irreducible] ACode AOps AOps2 RetG RetM Pre ACG
set_option maxHeartbeats 4000000 in
theorem ac_iOp1 {frm : Int} {nm key : ByteArray} {es : List Edt} (q1 : nm.size ≤ maxLen) (q2 : key.size ≤ maxLen) (q3 : es.length ≤ maxLen) (q4 : ∀ e ∈ es, e.key.size ≤ maxLen) (hn : okN nm = true) : AC Tryz.prog 138 [.agg [.v (.int .i64 1), .v (.int .i64 frm), .v (.string nm), .v (.string key), .lst 3 (es.map edtA)]] ⟨.v (.bool (opB ⟨1, frm, nm, key, es⟩)), []⟩ := by
  have q3' := q3
  unfold maxLen at q3'
  refine r_of Th_ok (by kernel_rfl) Tryz.func138 rfl Tryz.ntmps138 Tryz.results138 (by kernel_rfl) rfl ?_; conv => whnf
  repeat (first | (refine qc (ac_nameOK q1 hn) rfl ?_; conv => whnf) | ((first | refine qb rfl rfl ?_ | refine qi (by assumption) rfl rfl ?_ | refine ql rfl ?_ | refine qo rfl rfl ?_ | refine qs rfl rfl ?_ | refine qn rfl rfl ?_); conv => whnf))
  (refine .inl (And.intro (by kernel_rfl) ?_); conv => whnf)
  by_cases hf : 1 ≤ frm ∧ frm ≤ 60
  case neg =>
    rw [show opB _ = false from by simp [opB, hn, hf]]
    as_aux_lemma =>
      repeat (first | (refine qc (ac_nameOK q1 hn) rfl ?_; conv => whnf) | (refine qc (ac_headOK_f hf) rfl ?_; conv => whnf) | (refine r_put (p_bin (b_sne_t (by assumption)) rfl rfl rfl) rfl rfl ?_; conv => whnf) | (refine r_put (p_bin (b_sne_f (by assumption)) rfl rfl rfl) rfl rfl ?_; conv => whnf) | (refine r_put (p_bin (b_seq_t (by assumption)) rfl rfl rfl) rfl rfl ?_; conv => whnf) | (refine r_put (p_bin (b_seq_f (by assumption)) rfl rfl rfl) rfl rfl ?_; conv => whnf) | ((first | refine qb rfl rfl ?_ | refine qi (by assumption) rfl rfl ?_ | refine ql rfl ?_ | refine qo rfl rfl ?_ | refine qs rfl rfl ?_ | refine qn rfl rfl ?_); conv => whnf) | (refine r_put (p_bin b_eqd rfl rfl rfl) rfl rfl ?_; conv => whnf) | (refine r_put (p_bin b_seqd rfl rfl rfl) rfl rfl ?_; conv => whnf))
      exact r_ret1 rfl trivial
  by_cases hk : key = eB
  case neg =>
    rw [show opB _ = false from by simp [opB, hn, hf, hk]]
    as_aux_lemma =>
      repeat (first | (refine qc (ac_nameOK q1 hn) rfl ?_; conv => whnf) | (refine qc (ac_headOK_t hf.1 hf.2) rfl ?_; conv => whnf) | (refine r_put (p_bin (b_sne_t (by assumption)) rfl rfl rfl) rfl rfl ?_; conv => whnf) | (refine r_put (p_bin (b_sne_f (by assumption)) rfl rfl rfl) rfl rfl ?_; conv => whnf) | (refine r_put (p_bin (b_seq_t (by assumption)) rfl rfl rfl) rfl rfl ?_; conv => whnf) | (refine r_put (p_bin (b_seq_f (by assumption)) rfl rfl rfl) rfl rfl ?_; conv => whnf) | ((first | refine qb rfl rfl ?_ | refine qi (by assumption) rfl rfl ?_ | refine ql rfl ?_ | refine qo rfl rfl ?_ | refine qs rfl rfl ?_ | refine qn rfl rfl ?_); conv => whnf) | (refine r_put (p_bin b_eqd rfl rfl rfl) rfl rfl ?_; conv => whnf) | (refine r_put (p_bin b_seqd rfl rfl rfl) rfl rfl ?_; conv => whnf))
      exact r_ret1 rfl trivial
  by_cases he : es.length = 0
  case neg =>
    rw [show opB _ = false from by simp [opB, hn, hf, hk, he]]
    as_aux_lemma =>
      repeat (first | (refine qc (ac_nameOK q1 hn) rfl ?_; conv => whnf) | (refine qc (ac_headOK_t hf.1 hf.2) rfl ?_; conv => whnf) | (refine r_put (p_bin (b_sne_t (by assumption)) rfl rfl rfl) rfl rfl ?_; conv => whnf) | (refine r_put (p_bin (b_sne_f (by assumption)) rfl rfl rfl) rfl rfl ?_; conv => whnf) | (refine r_put (p_bin (b_seq_t (by assumption)) rfl rfl rfl) rfl rfl ?_; conv => whnf) | (refine r_put (p_bin (b_seq_f (by assumption)) rfl rfl rfl) rfl rfl ?_; conv => whnf) | ((first | refine qb rfl rfl ?_ | refine qi (by assumption) rfl rfl ?_ | refine ql rfl ?_ | refine qo rfl rfl ?_ | refine qs rfl rfl ?_ | refine qn rfl rfl ?_); conv => whnf) | (refine r_put (p_bin b_eqd rfl rfl rfl) rfl rfl ?_; conv => whnf) | (refine r_put (p_bin b_seqd rfl rfl rfl) rfl rfl ?_; conv => whnf))
      exact r_ret1 rfl trivial
  rw [show opB _ = true from by simp [opB, hn, hf, hk, he]]
  as_aux_lemma =>
    repeat (first | (refine qc (ac_nameOK q1 hn) rfl ?_; conv => whnf) | (refine qc (ac_headOK_t hf.1 hf.2) rfl ?_; conv => whnf) | (refine r_put (p_bin (b_sne_t (by assumption)) rfl rfl rfl) rfl rfl ?_; conv => whnf) | (refine r_put (p_bin (b_sne_f (by assumption)) rfl rfl rfl) rfl rfl ?_; conv => whnf) | (refine r_put (p_bin (b_seq_t (by assumption)) rfl rfl rfl) rfl rfl ?_; conv => whnf) | (refine r_put (p_bin (b_seq_f (by assumption)) rfl rfl rfl) rfl rfl ?_; conv => whnf) | ((first | refine qb rfl rfl ?_ | refine qi (by assumption) rfl rfl ?_ | refine ql rfl ?_ | refine qo rfl rfl ?_ | refine qs rfl rfl ?_ | refine qn rfl rfl ?_); conv => whnf) | (refine r_put (p_bin b_eqd rfl rfl rfl) rfl rfl ?_; conv => whnf) | (refine r_put (p_bin b_seqd rfl rfl rfl) rfl rfl ?_; conv => whnf))
    exact r_ret1 rfl trivial
set_option maxHeartbeats 4000000 in
theorem ac_iOp4 {frm : Int} {nm key : ByteArray} {es : List Edt} (q1 : nm.size ≤ maxLen) (q2 : key.size ≤ maxLen) (q3 : es.length ≤ maxLen) (q4 : ∀ e ∈ es, e.key.size ≤ maxLen) (hn : okN nm = true) : AC Tryz.prog 138 [.agg [.v (.int .i64 4), .v (.int .i64 frm), .v (.string nm), .v (.string key), .lst 3 (es.map edtA)]] ⟨.v (.bool (opB ⟨4, frm, nm, key, es⟩)), []⟩ := by
  have q3' := q3
  unfold maxLen at q3'
  refine r_of Th_ok (by kernel_rfl) Tryz.func138 rfl Tryz.ntmps138 Tryz.results138 (by kernel_rfl) rfl ?_; conv => whnf
  repeat (first | (refine qc (ac_nameOK q1 hn) rfl ?_; conv => whnf) | ((first | refine qb rfl rfl ?_ | refine qi (by assumption) rfl rfl ?_ | refine ql rfl ?_ | refine qo rfl rfl ?_ | refine qs rfl rfl ?_ | refine qn rfl rfl ?_); conv => whnf))
  (refine .inl (And.intro (by kernel_rfl) ?_); conv => whnf)
  by_cases hf : 1 ≤ frm ∧ frm ≤ 60
  case neg =>
    rw [show opB _ = false from by simp [opB, hn, hf]]
    as_aux_lemma =>
      repeat (first | (refine qc (ac_nameOK q1 hn) rfl ?_; conv => whnf) | (refine qc (ac_headOK_f hf) rfl ?_; conv => whnf) | (refine r_put (p_bin (b_sne_t (by assumption)) rfl rfl rfl) rfl rfl ?_; conv => whnf) | (refine r_put (p_bin (b_sne_f (by assumption)) rfl rfl rfl) rfl rfl ?_; conv => whnf) | (refine r_put (p_bin (b_seq_t (by assumption)) rfl rfl rfl) rfl rfl ?_; conv => whnf) | (refine r_put (p_bin (b_seq_f (by assumption)) rfl rfl rfl) rfl rfl ?_; conv => whnf) | ((first | refine qb rfl rfl ?_ | refine qi (by assumption) rfl rfl ?_ | refine ql rfl ?_ | refine qo rfl rfl ?_ | refine qs rfl rfl ?_ | refine qn rfl rfl ?_); conv => whnf) | (refine r_put (p_bin b_eqd rfl rfl rfl) rfl rfl ?_; conv => whnf) | (refine r_put (p_bin b_seqd rfl rfl rfl) rfl rfl ?_; conv => whnf))
      exact r_ret1 rfl trivial
  by_cases hk : key = eB
  case neg =>
    rw [show opB _ = false from by simp [opB, hn, hf, hk]]
    as_aux_lemma =>
      repeat (first | (refine qc (ac_nameOK q1 hn) rfl ?_; conv => whnf) | (refine qc (ac_headOK_t hf.1 hf.2) rfl ?_; conv => whnf) | (refine r_put (p_bin (b_sne_t (by assumption)) rfl rfl rfl) rfl rfl ?_; conv => whnf) | (refine r_put (p_bin (b_sne_f (by assumption)) rfl rfl rfl) rfl rfl ?_; conv => whnf) | (refine r_put (p_bin (b_seq_t (by assumption)) rfl rfl rfl) rfl rfl ?_; conv => whnf) | (refine r_put (p_bin (b_seq_f (by assumption)) rfl rfl rfl) rfl rfl ?_; conv => whnf) | ((first | refine qb rfl rfl ?_ | refine qi (by assumption) rfl rfl ?_ | refine ql rfl ?_ | refine qo rfl rfl ?_ | refine qs rfl rfl ?_ | refine qn rfl rfl ?_); conv => whnf) | (refine r_put (p_bin b_eqd rfl rfl rfl) rfl rfl ?_; conv => whnf) | (refine r_put (p_bin b_seqd rfl rfl rfl) rfl rfl ?_; conv => whnf))
      exact r_ret1 rfl trivial
  by_cases he : es.length = 0
  case neg =>
    rw [show opB _ = false from by simp [opB, hn, hf, hk, he]]
    as_aux_lemma =>
      repeat (first | (refine qc (ac_nameOK q1 hn) rfl ?_; conv => whnf) | (refine qc (ac_headOK_t hf.1 hf.2) rfl ?_; conv => whnf) | (refine r_put (p_bin (b_sne_t (by assumption)) rfl rfl rfl) rfl rfl ?_; conv => whnf) | (refine r_put (p_bin (b_sne_f (by assumption)) rfl rfl rfl) rfl rfl ?_; conv => whnf) | (refine r_put (p_bin (b_seq_t (by assumption)) rfl rfl rfl) rfl rfl ?_; conv => whnf) | (refine r_put (p_bin (b_seq_f (by assumption)) rfl rfl rfl) rfl rfl ?_; conv => whnf) | ((first | refine qb rfl rfl ?_ | refine qi (by assumption) rfl rfl ?_ | refine ql rfl ?_ | refine qo rfl rfl ?_ | refine qs rfl rfl ?_ | refine qn rfl rfl ?_); conv => whnf) | (refine r_put (p_bin b_eqd rfl rfl rfl) rfl rfl ?_; conv => whnf) | (refine r_put (p_bin b_seqd rfl rfl rfl) rfl rfl ?_; conv => whnf))
      exact r_ret1 rfl trivial
  rw [show opB _ = true from by simp [opB, hn, hf, hk, he]]
  as_aux_lemma =>
    repeat (first | (refine qc (ac_nameOK q1 hn) rfl ?_; conv => whnf) | (refine qc (ac_headOK_t hf.1 hf.2) rfl ?_; conv => whnf) | (refine r_put (p_bin (b_sne_t (by assumption)) rfl rfl rfl) rfl rfl ?_; conv => whnf) | (refine r_put (p_bin (b_sne_f (by assumption)) rfl rfl rfl) rfl rfl ?_; conv => whnf) | (refine r_put (p_bin (b_seq_t (by assumption)) rfl rfl rfl) rfl rfl ?_; conv => whnf) | (refine r_put (p_bin (b_seq_f (by assumption)) rfl rfl rfl) rfl rfl ?_; conv => whnf) | ((first | refine qb rfl rfl ?_ | refine qi (by assumption) rfl rfl ?_ | refine ql rfl ?_ | refine qo rfl rfl ?_ | refine qs rfl rfl ?_ | refine qn rfl rfl ?_); conv => whnf) | (refine r_put (p_bin b_eqd rfl rfl rfl) rfl rfl ?_; conv => whnf) | (refine r_put (p_bin b_seqd rfl rfl rfl) rfl rfl ?_; conv => whnf))
    exact r_ret1 rfl trivial
set_option maxHeartbeats 4000000 in
theorem ac_iOp3 {frm : Int} {nm key : ByteArray} {es : List Edt} (q1 : nm.size ≤ maxLen) (q2 : key.size ≤ maxLen) (q3 : es.length ≤ maxLen) (q4 : ∀ e ∈ es, e.key.size ≤ maxLen) (hn : okN nm = true) : AC Tryz.prog 138 [.agg [.v (.int .i64 3), .v (.int .i64 frm), .v (.string nm), .v (.string key), .lst 3 (es.map edtA)]] ⟨.v (.bool (opB ⟨3, frm, nm, key, es⟩)), []⟩ := by
  have q3' := q3
  unfold maxLen at q3'
  refine r_of Th_ok (by kernel_rfl) Tryz.func138 rfl Tryz.ntmps138 Tryz.results138 (by kernel_rfl) rfl ?_; conv => whnf
  repeat (first | (refine qc (ac_nameOK q1 hn) rfl ?_; conv => whnf) | ((first | refine qb rfl rfl ?_ | refine qi (by assumption) rfl rfl ?_ | refine ql rfl ?_ | refine qo rfl rfl ?_ | refine qs rfl rfl ?_ | refine qn rfl rfl ?_); conv => whnf))
  (refine .inl (And.intro (by kernel_rfl) ?_); conv => whnf)
  by_cases h0 : frm = 0
  case pos =>
    subst h0
    by_cases hk : key = eB
    case neg =>
      rw [show opB _ = false from by simp [opB, hn, hk]]
      as_aux_lemma =>
        repeat (first | (refine qc (ac_nameOK q1 hn) rfl ?_; conv => whnf) | (refine r_put (p_bin (b_sne_t (by assumption)) rfl rfl rfl) rfl rfl ?_; conv => whnf) | (refine r_put (p_bin (b_sne_f (by assumption)) rfl rfl rfl) rfl rfl ?_; conv => whnf) | (refine r_put (p_bin (b_seq_t (by assumption)) rfl rfl rfl) rfl rfl ?_; conv => whnf) | (refine r_put (p_bin (b_seq_f (by assumption)) rfl rfl rfl) rfl rfl ?_; conv => whnf) | ((first | refine qb rfl rfl ?_ | refine qi (by assumption) rfl rfl ?_ | refine ql rfl ?_ | refine qo rfl rfl ?_ | refine qs rfl rfl ?_ | refine qn rfl rfl ?_); conv => whnf) | (refine r_put (p_bin b_eqd rfl rfl rfl) rfl rfl ?_; conv => whnf) | (refine r_put (p_bin b_seqd rfl rfl rfl) rfl rfl ?_; conv => whnf))
        exact r_ret1 rfl trivial
    cases he : editsOK es with
    | false =>
      rw [show opB _ = false from by simp [opB, hn, hk, he]]
      as_aux_lemma =>
        repeat (first | (refine qc (ac_nameOK q1 hn) rfl ?_; conv => whnf) | (refine qc (ac_iEdts he q3 q4) rfl ?_; conv => whnf) | (refine r_put (p_bin (b_sne_t (by assumption)) rfl rfl rfl) rfl rfl ?_; conv => whnf) | (refine r_put (p_bin (b_sne_f (by assumption)) rfl rfl rfl) rfl rfl ?_; conv => whnf) | (refine r_put (p_bin (b_seq_t (by assumption)) rfl rfl rfl) rfl rfl ?_; conv => whnf) | (refine r_put (p_bin (b_seq_f (by assumption)) rfl rfl rfl) rfl rfl ?_; conv => whnf) | ((first | refine qb rfl rfl ?_ | refine qi (by assumption) rfl rfl ?_ | refine ql rfl ?_ | refine qo rfl rfl ?_ | refine qs rfl rfl ?_ | refine qn rfl rfl ?_); conv => whnf) | (refine r_put (p_bin b_eqd rfl rfl rfl) rfl rfl ?_; conv => whnf) | (refine r_put (p_bin b_seqd rfl rfl rfl) rfl rfl ?_; conv => whnf))
        exact r_ret1 rfl trivial
    | true =>
      rw [show opB _ = true from by simp [opB, hn, hk, he]]
      as_aux_lemma =>
        repeat (first | (refine qc (ac_nameOK q1 hn) rfl ?_; conv => whnf) | (refine qc (ac_iEdts he q3 q4) rfl ?_; conv => whnf) | (refine r_put (p_bin (b_sne_t (by assumption)) rfl rfl rfl) rfl rfl ?_; conv => whnf) | (refine r_put (p_bin (b_sne_f (by assumption)) rfl rfl rfl) rfl rfl ?_; conv => whnf) | (refine r_put (p_bin (b_seq_t (by assumption)) rfl rfl rfl) rfl rfl ?_; conv => whnf) | (refine r_put (p_bin (b_seq_f (by assumption)) rfl rfl rfl) rfl rfl ?_; conv => whnf) | ((first | refine qb rfl rfl ?_ | refine qi (by assumption) rfl rfl ?_ | refine ql rfl ?_ | refine qo rfl rfl ?_ | refine qs rfl rfl ?_ | refine qn rfl rfl ?_); conv => whnf) | (refine r_put (p_bin b_eqd rfl rfl rfl) rfl rfl ?_; conv => whnf) | (refine r_put (p_bin b_seqd rfl rfl rfl) rfl rfl ?_; conv => whnf))
        exact r_ret1 rfl trivial
  by_cases hf : 1 ≤ frm ∧ frm ≤ 60
  case neg =>
    have hf2 : ¬ (0 ≤ frm ∧ frm ≤ 60) := by omega
    rw [show opB _ = false from by simp [opB, hn, hf2]]
    as_aux_lemma =>
      repeat (first | (refine qc (ac_nameOK q1 hn) rfl ?_; conv => whnf) | (refine qc (ac_headOK_f hf) rfl ?_; conv => whnf) | (refine r_put (p_bin (b_sne_t (by assumption)) rfl rfl rfl) rfl rfl ?_; conv => whnf) | (refine r_put (p_bin (b_sne_f (by assumption)) rfl rfl rfl) rfl rfl ?_; conv => whnf) | (refine r_put (p_bin (b_seq_t (by assumption)) rfl rfl rfl) rfl rfl ?_; conv => whnf) | (refine r_put (p_bin (b_seq_f (by assumption)) rfl rfl rfl) rfl rfl ?_; conv => whnf) | ((first | refine qb rfl rfl ?_ | refine qi (by assumption) rfl rfl ?_ | refine ql rfl ?_ | refine qo rfl rfl ?_ | refine qs rfl rfl ?_ | refine qn rfl rfl ?_); conv => whnf) | (refine r_put (p_bin b_eqd rfl rfl rfl) rfl rfl ?_; conv => whnf) | (refine r_put (p_bin b_seqd rfl rfl rfl) rfl rfl ?_; conv => whnf))
      exact r_ret1 rfl trivial
  have hf2 : 0 ≤ frm ∧ frm ≤ 60 := by omega
  by_cases hk : key = eB
  case neg =>
    rw [show opB _ = false from by simp [opB, hn, hf2, hk]]
    as_aux_lemma =>
      repeat (first | (refine qc (ac_nameOK q1 hn) rfl ?_; conv => whnf) | (refine qc (ac_headOK_t hf.1 hf.2) rfl ?_; conv => whnf) | (refine r_put (p_bin (b_sne_t (by assumption)) rfl rfl rfl) rfl rfl ?_; conv => whnf) | (refine r_put (p_bin (b_sne_f (by assumption)) rfl rfl rfl) rfl rfl ?_; conv => whnf) | (refine r_put (p_bin (b_seq_t (by assumption)) rfl rfl rfl) rfl rfl ?_; conv => whnf) | (refine r_put (p_bin (b_seq_f (by assumption)) rfl rfl rfl) rfl rfl ?_; conv => whnf) | ((first | refine qb rfl rfl ?_ | refine qi (by assumption) rfl rfl ?_ | refine ql rfl ?_ | refine qo rfl rfl ?_ | refine qs rfl rfl ?_ | refine qn rfl rfl ?_); conv => whnf) | (refine r_put (p_bin b_eqd rfl rfl rfl) rfl rfl ?_; conv => whnf) | (refine r_put (p_bin b_seqd rfl rfl rfl) rfl rfl ?_; conv => whnf))
      exact r_ret1 rfl trivial
  cases he : editsOK es with
  | false =>
    rw [show opB _ = false from by simp [opB, hn, hf2, hk, he]]
    as_aux_lemma =>
      repeat (first | (refine qc (ac_nameOK q1 hn) rfl ?_; conv => whnf) | (refine qc (ac_headOK_t hf.1 hf.2) rfl ?_; conv => whnf) | (refine qc (ac_iEdts he q3 q4) rfl ?_; conv => whnf) | (refine r_put (p_bin (b_sne_t (by assumption)) rfl rfl rfl) rfl rfl ?_; conv => whnf) | (refine r_put (p_bin (b_sne_f (by assumption)) rfl rfl rfl) rfl rfl ?_; conv => whnf) | (refine r_put (p_bin (b_seq_t (by assumption)) rfl rfl rfl) rfl rfl ?_; conv => whnf) | (refine r_put (p_bin (b_seq_f (by assumption)) rfl rfl rfl) rfl rfl ?_; conv => whnf) | ((first | refine qb rfl rfl ?_ | refine qi (by assumption) rfl rfl ?_ | refine ql rfl ?_ | refine qo rfl rfl ?_ | refine qs rfl rfl ?_ | refine qn rfl rfl ?_); conv => whnf) | (refine r_put (p_bin b_eqd rfl rfl rfl) rfl rfl ?_; conv => whnf) | (refine r_put (p_bin b_seqd rfl rfl rfl) rfl rfl ?_; conv => whnf))
      exact r_ret1 rfl trivial
  | true =>
    rw [show opB _ = true from by simp [opB, hn, hf2, hk, he]]
    as_aux_lemma =>
      repeat (first | (refine qc (ac_nameOK q1 hn) rfl ?_; conv => whnf) | (refine qc (ac_headOK_t hf.1 hf.2) rfl ?_; conv => whnf) | (refine qc (ac_iEdts he q3 q4) rfl ?_; conv => whnf) | (refine r_put (p_bin (b_sne_t (by assumption)) rfl rfl rfl) rfl rfl ?_; conv => whnf) | (refine r_put (p_bin (b_sne_f (by assumption)) rfl rfl rfl) rfl rfl ?_; conv => whnf) | (refine r_put (p_bin (b_seq_t (by assumption)) rfl rfl rfl) rfl rfl ?_; conv => whnf) | (refine r_put (p_bin (b_seq_f (by assumption)) rfl rfl rfl) rfl rfl ?_; conv => whnf) | ((first | refine qb rfl rfl ?_ | refine qi (by assumption) rfl rfl ?_ | refine ql rfl ?_ | refine qo rfl rfl ?_ | refine qs rfl rfl ?_ | refine qn rfl rfl ?_); conv => whnf) | (refine r_put (p_bin b_eqd rfl rfl rfl) rfl rfl ?_; conv => whnf) | (refine r_put (p_bin b_seqd rfl rfl rfl) rfl rfl ?_; conv => whnf))
      exact r_ret1 rfl trivial
end Go.Proofs.YtmfmclnklpbiaaaGreat.AM
namespace Go.Proofs.YtmfmclnklpbiaaaGreat.AM
open Go Go.RowKit
set_option linter.unusedVariables false
set_option linter.unusedSimpArgs false
set_option maxRecDepth 100000
attribute [local irreducible] ACode AOps AOps2 RetG RetM Pre ACG
end Go.Proofs.YtmfmclnklpbiaaaGreat.AM
