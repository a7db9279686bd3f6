/- The document's EditsOK. -/
import Derived.Test.YtjhimcddgkoghaaMdl4
import Derived.Test.YtjhimcddgkoghaaM1
namespace Go.Proofs.Ytjhimcddgkoghaa
open Go.RowKit

set_option maxHeartbeats 4000000 in
set_option maxRecDepth 100000 in
theorem l01Edits_any (A : Option Addr) (n c : Nat) (es : List Edt) (w : World) (hr : Rd w 3 A n (edtsC es)) (hm : n ≤ maxLen) (hks : ∀ e ∈ es, e.key.size ≤ maxLen) :
    Calls Try.prog 131 #[.slice A n c] w fun e w' => e = .returned (.bool (editsOK es)) ∧ Below w.heap.size w w' := by
  unfold maxLen at hm
  have hlen := hr.elen
  have Hlen := Lib.hid hlen; clear hlen
  by_cases hbig : 6 < n
  · have hfin : Hid (editsOK es = false) := editsOK_long (by rw [Hlen.out]; exact hbig)
    go_enter Try.func131, Try.ntmps131
    go_wp2
    go_ret
    exact ⟨ret_bool hfin.out.symm, Below.refl _ _⟩
  have hn6 : n ≤ 6 := by omega
  clear hbig
  go_enter Try.func131, Try.ntmps131
  go_wp2
  go_loopw [3] (fun i wr => ∃ k : Nat, k ≤ n ∧ i = .int .i64 k ∧ (∀ j, j < k → ordAt (kv es) j = true ∧ edtAt es j = true) ∧ Below w.heap.size w wr) (fun i _ => n - (intOf i).toNat)
  case atStart => exact ⟨0, Nat.zero_le _, rfl, fun j hj => absurd hj (by omega), Below.refl _ _⟩
  case round =>
    obtain ⟨k, hk, rfl, hall, hb⟩ := hrel
    have Hall := Lib.hid hall; clear hall
    by_cases hlt : k < n
    · have hke : k < es.length := by rw [Hlen.out]; exact hlt
      obtain ⟨b, off, rfl, hbl, hbl2, hc1, hc2, hc3⟩ := hr.edt hb hke
      have hsz := hks _ (List.getElem_mem hke)
      have hnoO := ordE_no es k hke
      have hE := edtAt_eq es k hke
      have hz0 : k = 0 → nm es[k].key = true → ordAt (kv es) k = true := by rintro rfl h; exact ordE_zero es hke h
      have hp0 : (h : 0 < k) → nm es[k].key = true → ordAt (kv es) k = klt (es[k - 1]'(by omega)).key es[k].key := fun h h2 => ordE_pos es k h hke h2
      generalize es[k] = ek at *
      obtain ⟨k1, v1, g1⟩ := ek
      simp only at hc1 hc2 hc3 hsz hnoO hE hz0 hp0
      have hcall := fun W => l00Word_any k1 W hsz
      have hcall2 := fun W => l01In_any v1 (-1000000) 1000000 W
      change ∀ W, Calls _ _ _ W fun e w' => e = .returned (.bool (nm k1)) ∧ W = w' at hcall
      change ∀ W, Calls _ _ _ W fun e w' => e = .returned (.bool (valB v1)) ∧ W = w' at hcall2
      cases hw : nm k1 with
      | false =>
        have hfin : Hid (editsOK es = false) := editsOK_noOrd hke (hnoO hw)
        rw [hw] at hcall
        have Hcall := Lib.hid hcall
        clear hw hcall hcall2 hE hnoO hz0 hp0
        go_wp2
        have hcL0 : (wr.alloc (Obj.cells #[Value.string k1, Value.int IntKind.i64 v1, Value.bool g1] 117)).cell? ⟨wr.heap.size, 0, none⟩ = some (.string k1) := cell_of_row _ _ _ _ _ (0, 0) (heap_alloc_new wr _)
        have hcL1 : (wr.alloc (Obj.cells #[Value.string k1, Value.int IntKind.i64 v1, Value.bool g1] 117)).cell? ⟨wr.heap.size, 1, none⟩ = some (.int .i64 v1) := cell_of_row _ _ _ _ _ (0, 0) (heap_alloc_new wr _)
        have hcL2 : (wr.alloc (Obj.cells #[Value.string k1, Value.int IntKind.i64 v1, Value.bool g1] 117)).cell? ⟨wr.heap.size, 2, none⟩ = some (.bool g1) := cell_of_row _ _ _ _ _ (0, 0) (heap_alloc_new wr _)
        have hpl : wr.heap.size < (wr.alloc (Obj.cells #[Value.string k1, Value.int IntKind.i64 v1, Value.bool g1] 117)).heap.size := by simp
        have hb2 : Below w.heap.size w (wr.alloc (Obj.cells #[Value.string k1, Value.int IntKind.i64 v1, Value.bool g1] 117)) := hb.alloc hb.size _
        generalize wr.alloc (Obj.cells #[Value.string k1, Value.int IntKind.i64 v1, Value.bool g1] 117) = w2 at *
        generalize wr.heap.size = p at *
        have hA0 := fun y : Aft w2 => y.cell hpl hcL0
        have hA1 := fun y : Aft w2 => y.cell hpl hcL1
        have hA2 := fun y : Aft w2 => y.cell hpl hcL2
        refine wp_region_after (by kernel_rfl) (by kernel_rfl) ?_
        repeat (go_big_quiet_step ((first | (go_at_call 154; exact Aft.same (Hcall.out _)))))
        refine wpQuiet_nil ?_
        rintro _ ⟨y, rfl⟩
        have hb3 := keepS hb2 y.below
        generalize y.at_ = w3 at *
        go_wp2
        go_ret
        exact ⟨ret_bool hfin.out.symm, hb3⟩
      | true =>
      cases hv : valB v1 with
      | false =>
        have hfin : Hid (editsOK es = false) := editsOK_noEdt hke (by rw [hE, hv]; rfl)
        rw [hw] at hcall
        rw [hv] at hcall2
        have Hcall := Lib.hid hcall
        have Hcall2 := Lib.hid hcall2
        clear hw hv hcall hcall2 hE hnoO hz0 hp0
        go_wp2
        have hcL0 : (wr.alloc (Obj.cells #[Value.string k1, Value.int IntKind.i64 v1, Value.bool g1] 117)).cell? ⟨wr.heap.size, 0, none⟩ = some (.string k1) := cell_of_row _ _ _ _ _ (0, 0) (heap_alloc_new wr _)
        have hcL1 : (wr.alloc (Obj.cells #[Value.string k1, Value.int IntKind.i64 v1, Value.bool g1] 117)).cell? ⟨wr.heap.size, 1, none⟩ = some (.int .i64 v1) := cell_of_row _ _ _ _ _ (0, 0) (heap_alloc_new wr _)
        have hcL2 : (wr.alloc (Obj.cells #[Value.string k1, Value.int IntKind.i64 v1, Value.bool g1] 117)).cell? ⟨wr.heap.size, 2, none⟩ = some (.bool g1) := cell_of_row _ _ _ _ _ (0, 0) (heap_alloc_new wr _)
        have hpl : wr.heap.size < (wr.alloc (Obj.cells #[Value.string k1, Value.int IntKind.i64 v1, Value.bool g1] 117)).heap.size := by simp
        have hb2 : Below w.heap.size w (wr.alloc (Obj.cells #[Value.string k1, Value.int IntKind.i64 v1, Value.bool g1] 117)) := hb.alloc hb.size _
        generalize wr.alloc (Obj.cells #[Value.string k1, Value.int IntKind.i64 v1, Value.bool g1] 117) = w2 at *
        generalize wr.heap.size = p at *
        have hA0 := fun y : Aft w2 => y.cell hpl hcL0
        have hA1 := fun y : Aft w2 => y.cell hpl hcL1
        have hA2 := fun y : Aft w2 => y.cell hpl hcL2
        refine wp_region_after (by kernel_rfl) (by kernel_rfl) ?_
        repeat (go_big_quiet_step ((first | (go_at_call 154; exact Aft.same (Hcall.out _)) | (go_at_call 155; exact Aft.same (Hcall2.out _)))))
        refine wpQuiet_nil ?_
        rintro _ ⟨y, rfl⟩
        have hb3 := keepS hb2 y.below
        generalize y.at_ = w3 at *
        go_wp2
        go_ret
        exact ⟨ret_bool hfin.out.symm, hb3⟩
      | true =>
      rw [hw] at hcall
      rw [hv] at hcall2
      rcases gone_three g1 v1 with ⟨rfl, hne⟩ | hgood
      · have hfin : Hid (editsOK es = false) := editsOK_noEdt hke (by rw [hE, hv, decide_eq_false hne]; rfl)
        have hne2 : (v1 != 0) = true := by simpa using hne
        have Hcall := Lib.hid hcall
        have Hcall2 := Lib.hid hcall2
        clear hw hv hcall hcall2 hE hnoO hz0 hp0
        go_wp2
        have hcL0 : (wr.alloc (Obj.cells #[Value.string k1, Value.int IntKind.i64 v1, Value.bool true] 117)).cell? ⟨wr.heap.size, 0, none⟩ = some (.string k1) := cell_of_row _ _ _ _ _ (0, 0) (heap_alloc_new wr _)
        have hcL1 : (wr.alloc (Obj.cells #[Value.string k1, Value.int IntKind.i64 v1, Value.bool true] 117)).cell? ⟨wr.heap.size, 1, none⟩ = some (.int .i64 v1) := cell_of_row _ _ _ _ _ (0, 0) (heap_alloc_new wr _)
        have hcL2 : (wr.alloc (Obj.cells #[Value.string k1, Value.int IntKind.i64 v1, Value.bool true] 117)).cell? ⟨wr.heap.size, 2, none⟩ = some (.bool true) := cell_of_row _ _ _ _ _ (0, 0) (heap_alloc_new wr _)
        have hpl : wr.heap.size < (wr.alloc (Obj.cells #[Value.string k1, Value.int IntKind.i64 v1, Value.bool true] 117)).heap.size := by simp
        have hb2 : Below w.heap.size w (wr.alloc (Obj.cells #[Value.string k1, Value.int IntKind.i64 v1, Value.bool true] 117)) := hb.alloc hb.size _
        generalize wr.alloc (Obj.cells #[Value.string k1, Value.int IntKind.i64 v1, Value.bool true] 117) = w2 at *
        generalize wr.heap.size = p at *
        have hA0 := fun y : Aft w2 => y.cell hpl hcL0
        have hA1 := fun y : Aft w2 => y.cell hpl hcL1
        have hA2 := fun y : Aft w2 => y.cell hpl hcL2
        refine wp_region_after (by kernel_rfl) (by kernel_rfl) ?_
        repeat (go_big_quiet_step ((first | (go_at_call 154; exact Aft.same (Hcall.out _)) | (go_at_call 155; exact Aft.same (Hcall2.out _)))))
        refine wpQuiet_nil ?_
        rintro _ ⟨y, rfl⟩
        have hb3 := keepS hb2 y.below
        generalize y.at_ = w3 at *
        go_wp2
        go_ret
        exact ⟨ret_bool hfin.out.symm, hb3⟩
      have hE1 : Hid (edtAt es k = true) := by
        rcases hgood with rfl | ⟨rfl, rfl⟩
        · show edtAt es k = true; rw [hE, hv]; rfl
        · show edtAt es k = true; rw [hE, hv]; rfl
      clear hE hv hnoO
      by_cases hk0 : k = 0
      · have ho := hz0 hk0 hw
        subst hk0
        have hstep : Hid (∀ j, j < 0 + 1 → ordAt (kv es) j = true ∧ edtAt es j = true) := fun j hj => by
          have : j = 0 := by omega
          subst this; exact ⟨ho, hE1.out⟩
        simp only [Nat.zero_mul, Nat.add_zero] at hc1 hc2 hc3
        clear hz0 hp0 ho hw
        rcases hgood with rfl | ⟨rfl, rfl⟩
        · have Hcall := Lib.hid hcall
          have Hcall2 := Lib.hid hcall2
          clear hcall hcall2
          go_wp2
          have hcL0 : (wr.alloc (Obj.cells #[Value.string k1, Value.int IntKind.i64 v1, Value.bool false] 117)).cell? ⟨wr.heap.size, 0, none⟩ = some (.string k1) := cell_of_row _ _ _ _ _ (0, 0) (heap_alloc_new wr _)
          have hcL1 : (wr.alloc (Obj.cells #[Value.string k1, Value.int IntKind.i64 v1, Value.bool false] 117)).cell? ⟨wr.heap.size, 1, none⟩ = some (.int .i64 v1) := cell_of_row _ _ _ _ _ (0, 0) (heap_alloc_new wr _)
          have hcL2 : (wr.alloc (Obj.cells #[Value.string k1, Value.int IntKind.i64 v1, Value.bool false] 117)).cell? ⟨wr.heap.size, 2, none⟩ = some (.bool false) := cell_of_row _ _ _ _ _ (0, 0) (heap_alloc_new wr _)
          have hpl : wr.heap.size < (wr.alloc (Obj.cells #[Value.string k1, Value.int IntKind.i64 v1, Value.bool false] 117)).heap.size := by simp
          have hb2 : Below w.heap.size w (wr.alloc (Obj.cells #[Value.string k1, Value.int IntKind.i64 v1, Value.bool false] 117)) := hb.alloc hb.size _
          generalize wr.alloc (Obj.cells #[Value.string k1, Value.int IntKind.i64 v1, Value.bool false] 117) = w2 at *
          generalize wr.heap.size = p at *
          have hA0 := fun y : Aft w2 => y.cell hpl hcL0
          have hA1 := fun y : Aft w2 => y.cell hpl hcL1
          have hA2 := fun y : Aft w2 => y.cell hpl hcL2
          refine wp_region_after (by kernel_rfl) (by kernel_rfl) ?_
          repeat (go_big_quiet_step ((first | (go_at_call 154; exact Aft.same (Hcall.out _)) | (go_at_call 155; exact Aft.same (Hcall2.out _)))))
          refine wpQuiet_nil ?_
          rintro _ ⟨y, rfl⟩
          have hb3 := keepS hb2 y.below
          generalize y.at_ = w3 at *
          go_wp2
          go_roundw
          case rel => exact ⟨0 + 1, by omega, by go_num, hstep.out, hb3⟩
          case measure => simp [intOf]; omega
        · have Hcall := Lib.hid hcall
          have Hcall2 := Lib.hid hcall2
          clear hcall hcall2
          go_wp2
          have hcL0 : (wr.alloc (Obj.cells #[Value.string k1, Value.int IntKind.i64 0, Value.bool true] 117)).cell? ⟨wr.heap.size, 0, none⟩ = some (.string k1) := cell_of_row _ _ _ _ _ (0, 0) (heap_alloc_new wr _)
          have hcL1 : (wr.alloc (Obj.cells #[Value.string k1, Value.int IntKind.i64 0, Value.bool true] 117)).cell? ⟨wr.heap.size, 1, none⟩ = some (.int .i64 0) := cell_of_row _ _ _ _ _ (0, 0) (heap_alloc_new wr _)
          have hcL2 : (wr.alloc (Obj.cells #[Value.string k1, Value.int IntKind.i64 0, Value.bool true] 117)).cell? ⟨wr.heap.size, 2, none⟩ = some (.bool true) := cell_of_row _ _ _ _ _ (0, 0) (heap_alloc_new wr _)
          have hpl : wr.heap.size < (wr.alloc (Obj.cells #[Value.string k1, Value.int IntKind.i64 0, Value.bool true] 117)).heap.size := by simp
          have hb2 : Below w.heap.size w (wr.alloc (Obj.cells #[Value.string k1, Value.int IntKind.i64 0, Value.bool true] 117)) := hb.alloc hb.size _
          generalize wr.alloc (Obj.cells #[Value.string k1, Value.int IntKind.i64 0, Value.bool true] 117) = w2 at *
          generalize wr.heap.size = p at *
          have hA0 := fun y : Aft w2 => y.cell hpl hcL0
          have hA1 := fun y : Aft w2 => y.cell hpl hcL1
          have hA2 := fun y : Aft w2 => y.cell hpl hcL2
          refine wp_region_after (by kernel_rfl) (by kernel_rfl) ?_
          repeat (go_big_quiet_step ((first | (go_at_call 154; exact Aft.same (Hcall.out _)) | (go_at_call 155; exact Aft.same (Hcall2.out _)))))
          refine wpQuiet_nil ?_
          rintro _ ⟨y, rfl⟩
          have hb3 := keepS hb2 y.below
          generalize y.at_ = w3 at *
          go_wp2
          go_roundw
          case rel => exact ⟨0 + 1, by omega, by go_num, hstep.out, hb3⟩
          case measure => simp [intOf]; omega
      · have hkp : 0 < k := by omega
        have hor := hp0 hkp hw
        have ht : (Op.bytesLess k1.toList (es[k - 1]'(by omega)).key.toList || k1.toList == (es[k - 1]'(by omega)).key.toList) = !ordAt (kv es) k := by rw [kle_eq, hor]
        have hi0 : 0 ≤ (k : Int) - 1 := by omega
        have hi1 : ((k : Int) - 1).toNat = k - 1 := by omega
        have hi2 : (0 : Int) < (k : Int) := by omega
        clear hk0 hor hw hz0 hp0
        cases ho : ordAt (kv es) k with
        | false =>
          have hfin : Hid (editsOK es = false) := editsOK_noOrd hke ho
          rw [ho] at ht
          clear ho
          rcases hgood with rfl | ⟨rfl, rfl⟩
          · have Hcall := Lib.hid hcall
            have Hcall2 := Lib.hid hcall2
            clear hcall hcall2
            go_wp2
            have hcL0 : (wr.alloc (Obj.cells #[Value.string k1, Value.int IntKind.i64 v1, Value.bool false] 117)).cell? ⟨wr.heap.size, 0, none⟩ = some (.string k1) := cell_of_row _ _ _ _ _ (0, 0) (heap_alloc_new wr _)
            have hcL1 : (wr.alloc (Obj.cells #[Value.string k1, Value.int IntKind.i64 v1, Value.bool false] 117)).cell? ⟨wr.heap.size, 1, none⟩ = some (.int .i64 v1) := cell_of_row _ _ _ _ _ (0, 0) (heap_alloc_new wr _)
            have hcL2 : (wr.alloc (Obj.cells #[Value.string k1, Value.int IntKind.i64 v1, Value.bool false] 117)).cell? ⟨wr.heap.size, 2, none⟩ = some (.bool false) := cell_of_row _ _ _ _ _ (0, 0) (heap_alloc_new wr _)
            have hpl : wr.heap.size < (wr.alloc (Obj.cells #[Value.string k1, Value.int IntKind.i64 v1, Value.bool false] 117)).heap.size := by simp
            have hb2 : Below w.heap.size w (wr.alloc (Obj.cells #[Value.string k1, Value.int IntKind.i64 v1, Value.bool false] 117)) := hb.alloc hb.size _
            obtain ⟨b', off', he, _, _, hc4, _, _⟩ := hr.edt hb2 (show k - 1 < es.length by omega)
            obtain ⟨rfl, rfl⟩ : b = b' ∧ off = off' := by simpa using he
            have hbl4 := Nat.lt_of_lt_of_le hbl hb2.size
            generalize wr.alloc (Obj.cells #[Value.string k1, Value.int IntKind.i64 v1, Value.bool false] 117) = w2 at *
            generalize wr.heap.size = p at *
            have hA0 := fun y : Aft w2 => y.cell hpl hcL0
            have hA1 := fun y : Aft w2 => y.cell hpl hcL1
            have hA2 := fun y : Aft w2 => y.cell hpl hcL2
            have hA4 := fun y : Aft w2 => y.cell hbl4 hc4
            refine wp_region_after (by kernel_rfl) (by kernel_rfl) ?_
            repeat (go_big_quiet_step ((first | (go_at_call 154; exact Aft.same (Hcall.out _)) | (go_at_call 155; exact Aft.same (Hcall2.out _)))))
            refine wpQuiet_nil ?_
            rintro _ ⟨y, rfl⟩
            have hb3 := keepS hb2 y.below
            generalize y.at_ = w3 at *
            go_wp2
            go_ret
            exact ⟨ret_bool hfin.out.symm, hb3⟩
          · have Hcall := Lib.hid hcall
            have Hcall2 := Lib.hid hcall2
            clear hcall hcall2
            go_wp2
            have hcL0 : (wr.alloc (Obj.cells #[Value.string k1, Value.int IntKind.i64 0, Value.bool true] 117)).cell? ⟨wr.heap.size, 0, none⟩ = some (.string k1) := cell_of_row _ _ _ _ _ (0, 0) (heap_alloc_new wr _)
            have hcL1 : (wr.alloc (Obj.cells #[Value.string k1, Value.int IntKind.i64 0, Value.bool true] 117)).cell? ⟨wr.heap.size, 1, none⟩ = some (.int .i64 0) := cell_of_row _ _ _ _ _ (0, 0) (heap_alloc_new wr _)
            have hcL2 : (wr.alloc (Obj.cells #[Value.string k1, Value.int IntKind.i64 0, Value.bool true] 117)).cell? ⟨wr.heap.size, 2, none⟩ = some (.bool true) := cell_of_row _ _ _ _ _ (0, 0) (heap_alloc_new wr _)
            have hpl : wr.heap.size < (wr.alloc (Obj.cells #[Value.string k1, Value.int IntKind.i64 0, Value.bool true] 117)).heap.size := by simp
            have hb2 : Below w.heap.size w (wr.alloc (Obj.cells #[Value.string k1, Value.int IntKind.i64 0, Value.bool true] 117)) := hb.alloc hb.size _
            obtain ⟨b', off', he, _, _, hc4, _, _⟩ := hr.edt hb2 (show k - 1 < es.length by omega)
            obtain ⟨rfl, rfl⟩ : b = b' ∧ off = off' := by simpa using he
            have hbl4 := Nat.lt_of_lt_of_le hbl hb2.size
            generalize wr.alloc (Obj.cells #[Value.string k1, Value.int IntKind.i64 0, Value.bool true] 117) = w2 at *
            generalize wr.heap.size = p at *
            have hA0 := fun y : Aft w2 => y.cell hpl hcL0
            have hA1 := fun y : Aft w2 => y.cell hpl hcL1
            have hA2 := fun y : Aft w2 => y.cell hpl hcL2
            have hA4 := fun y : Aft w2 => y.cell hbl4 hc4
            refine wp_region_after (by kernel_rfl) (by kernel_rfl) ?_
            repeat (go_big_quiet_step ((first | (go_at_call 154; exact Aft.same (Hcall.out _)) | (go_at_call 155; exact Aft.same (Hcall2.out _)))))
            refine wpQuiet_nil ?_
            rintro _ ⟨y, rfl⟩
            have hb3 := keepS hb2 y.below
            generalize y.at_ = w3 at *
            go_wp2
            go_ret
            exact ⟨ret_bool hfin.out.symm, hb3⟩
        | true =>
          have hstep : Hid (∀ j, j < k + 1 → ordAt (kv es) j = true ∧ edtAt es j = true) := fun j hj => by
            rcases Nat.lt_or_ge j k with h | h
            · exact Hall.out j h
            · have : j = k := by omega
              subst this; exact ⟨ho, hE1.out⟩
          rw [ho] at ht
          clear ho
          rcases hgood with rfl | ⟨rfl, rfl⟩
          · have Hcall := Lib.hid hcall
            have Hcall2 := Lib.hid hcall2
            clear hcall hcall2
            go_wp2
            have hcL0 : (wr.alloc (Obj.cells #[Value.string k1, Value.int IntKind.i64 v1, Value.bool false] 117)).cell? ⟨wr.heap.size, 0, none⟩ = some (.string k1) := cell_of_row _ _ _ _ _ (0, 0) (heap_alloc_new wr _)
            have hcL1 : (wr.alloc (Obj.cells #[Value.string k1, Value.int IntKind.i64 v1, Value.bool false] 117)).cell? ⟨wr.heap.size, 1, none⟩ = some (.int .i64 v1) := cell_of_row _ _ _ _ _ (0, 0) (heap_alloc_new wr _)
            have hcL2 : (wr.alloc (Obj.cells #[Value.string k1, Value.int IntKind.i64 v1, Value.bool false] 117)).cell? ⟨wr.heap.size, 2, none⟩ = some (.bool false) := cell_of_row _ _ _ _ _ (0, 0) (heap_alloc_new wr _)
            have hpl : wr.heap.size < (wr.alloc (Obj.cells #[Value.string k1, Value.int IntKind.i64 v1, Value.bool false] 117)).heap.size := by simp
            have hb2 : Below w.heap.size w (wr.alloc (Obj.cells #[Value.string k1, Value.int IntKind.i64 v1, Value.bool false] 117)) := hb.alloc hb.size _
            obtain ⟨b', off', he, _, _, hc4, _, _⟩ := hr.edt hb2 (show k - 1 < es.length by omega)
            obtain ⟨rfl, rfl⟩ : b = b' ∧ off = off' := by simpa using he
            have hbl4 := Nat.lt_of_lt_of_le hbl hb2.size
            generalize wr.alloc (Obj.cells #[Value.string k1, Value.int IntKind.i64 v1, Value.bool false] 117) = w2 at *
            generalize wr.heap.size = p at *
            have hA0 := fun y : Aft w2 => y.cell hpl hcL0
            have hA1 := fun y : Aft w2 => y.cell hpl hcL1
            have hA2 := fun y : Aft w2 => y.cell hpl hcL2
            have hA4 := fun y : Aft w2 => y.cell hbl4 hc4
            refine wp_region_after (by kernel_rfl) (by kernel_rfl) ?_
            repeat (go_big_quiet_step ((first | (go_at_call 154; exact Aft.same (Hcall.out _)) | (go_at_call 155; exact Aft.same (Hcall2.out _)))))
            refine wpQuiet_nil ?_
            rintro _ ⟨y, rfl⟩
            have hb3 := keepS hb2 y.below
            generalize y.at_ = w3 at *
            go_wp2
            go_roundw
            case rel => exact ⟨k + 1, by omega, by go_num, hstep.out, hb3⟩
            case measure => simp [intOf]; omega
          · have Hcall := Lib.hid hcall
            have Hcall2 := Lib.hid hcall2
            clear hcall hcall2
            go_wp2
            have hcL0 : (wr.alloc (Obj.cells #[Value.string k1, Value.int IntKind.i64 0, Value.bool true] 117)).cell? ⟨wr.heap.size, 0, none⟩ = some (.string k1) := cell_of_row _ _ _ _ _ (0, 0) (heap_alloc_new wr _)
            have hcL1 : (wr.alloc (Obj.cells #[Value.string k1, Value.int IntKind.i64 0, Value.bool true] 117)).cell? ⟨wr.heap.size, 1, none⟩ = some (.int .i64 0) := cell_of_row _ _ _ _ _ (0, 0) (heap_alloc_new wr _)
            have hcL2 : (wr.alloc (Obj.cells #[Value.string k1, Value.int IntKind.i64 0, Value.bool true] 117)).cell? ⟨wr.heap.size, 2, none⟩ = some (.bool true) := cell_of_row _ _ _ _ _ (0, 0) (heap_alloc_new wr _)
            have hpl : wr.heap.size < (wr.alloc (Obj.cells #[Value.string k1, Value.int IntKind.i64 0, Value.bool true] 117)).heap.size := by simp
            have hb2 : Below w.heap.size w (wr.alloc (Obj.cells #[Value.string k1, Value.int IntKind.i64 0, Value.bool true] 117)) := hb.alloc hb.size _
            obtain ⟨b', off', he, _, _, hc4, _, _⟩ := hr.edt hb2 (show k - 1 < es.length by omega)
            obtain ⟨rfl, rfl⟩ : b = b' ∧ off = off' := by simpa using he
            have hbl4 := Nat.lt_of_lt_of_le hbl hb2.size
            generalize wr.alloc (Obj.cells #[Value.string k1, Value.int IntKind.i64 0, Value.bool true] 117) = w2 at *
            generalize wr.heap.size = p at *
            have hA0 := fun y : Aft w2 => y.cell hpl hcL0
            have hA1 := fun y : Aft w2 => y.cell hpl hcL1
            have hA2 := fun y : Aft w2 => y.cell hpl hcL2
            have hA4 := fun y : Aft w2 => y.cell hbl4 hc4
            refine wp_region_after (by kernel_rfl) (by kernel_rfl) ?_
            repeat (go_big_quiet_step ((first | (go_at_call 154; exact Aft.same (Hcall.out _)) | (go_at_call 155; exact Aft.same (Hcall2.out _)))))
            refine wpQuiet_nil ?_
            rintro _ ⟨y, rfl⟩
            have hb3 := keepS hb2 y.below
            generalize y.at_ = w3 at *
            go_wp2
            go_roundw
            case rel => exact ⟨k + 1, by omega, by go_num, hstep.out, hb3⟩
            case measure => simp [intOf]; omega
    · have hfin : Hid (editsOK es = true) := editsOK_of (by rw [Hlen.out]; exact hn6) (fun i hi => Hall.out i (by rw [Hlen.out] at hi; omega))
      go_wp2
      go_ret
      exact ⟨ret_bool hfin.out.symm, hb⟩

end Go.Proofs.Ytjhimcddgkoghaa
