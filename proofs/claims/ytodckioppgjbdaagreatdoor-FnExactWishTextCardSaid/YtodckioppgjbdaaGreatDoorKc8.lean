/- Texts of the machine over data, folded. -/
import Derived.Test.YtodckioppgjbdaaGreatDoorKc7
import Derived.Test.YtodckioppgjbdaaGreatDoorKc6
import Derived.Test.YtodckioppgjbdaaGreatDoorKc5
import Derived.Shelf.Strings.OnBuilder
import Derived.Shelf.Small.Wraps
import Derived.Shelf.LaysM
import Derived.Shelf.Strconv.Itoa3
import Derived.Shelf.Strconv.Clone
import Derived.Shelf.LaysC
import Derived.Shelf.Strconv.AtoiAll
import Derived.Shelf.Strconv.ErrVarAll
import Derived.Shelf.Strings.Search2
import Derived.Shelf.Strings.Search3
import Derived.Shelf.Strings.Prefix
import Derived.Shelf.Strings.FieldsFuncAny
import Derived.Test.YtodckioppgjbdaaGreatDoorProg
import Derived.Lib.AppendIntMem
set_option linter.unusedVariables false
set_option linter.unusedSimpArgs false
set_option maxRecDepth 100000
namespace Go.Proofs.YtodckioppgjbdaaGreatDoor
open Go.RowKit
set_option maxHeartbeats 4000000 in
set_option maxRecDepth 100000 in
theorem aDJ (A : Option Addr) (n c : Nat) (es : List Edt) (w : World) (hr : Rd w 3 A n (yE es)) (hm : n ≤ maxLen) (hks : ∀ e ∈ es, e.key.size ≤ maxLen) :
 Calls Tryz.prog 64 #[.slice A n c] w fun e w' => e = .returned (.bool (xP es)) ∧ Below w.heap.size w w' := by
 unfold maxLen at hm
 have hlen := hr.elen
 have Hlen := Lib.hid hlen; clear hlen
 by_cases hbig : 6 < n
 · have hfin : Hid (xP es = false) := aAI (by rw [Hlen.out]; exact hbig)
   go_enter Tryz.func64, Tryz.ntmps64
   go_wp2
   go_ret
   exact ⟨xZ hfin.out.symm, Below.refl _ _⟩
 have hn6 : n ≤ 6 := by omega
 clear hbig
 go_enter Tryz.func64, Tryz.ntmps64
 go_wp2
 go_loopw [3] (fun i wr => ∃ k : Nat, k ≤ n ∧ i = .int .i64 k ∧ (∀ j, j < k → yt (kv es) j = true ∧ zi es j = true) ∧ Below w.heap.size w wr) (fun i _ => n - (intOf i).toNat)
 case atStart => exact ⟨0, Nat.zero_le _, rfl, fun j hj => absurd hj (by omega), Below.refl _ _⟩
 case round =>
  obtain ⟨k, hk, rfl, hall, hb⟩ := hrel
  have Hall := Lib.hid hall; clear hall
  by_cases hlt : k < n
  · have hke : k < es.length := by rw [Hlen.out]; exact hlt
    obtain ⟨b, off, rfl, hbl, hbl2, hc1, hc2, hc3⟩ := hr.edt hb hke
    have hsz := hks _ (List.getElem_mem hke)
    have hnoO := aEJ es k hke
    have hE := aAr es k hke
    have hz0 : k = 0 → nm es[k].key = true → yt (kv es) k = true := by rintro rfl h; exact aCZ es hke h
    have hp0 : (h : 0 < k) → nm es[k].key = true → yt (kv es) k = klt (es[k - 1]'(by omega)).key es[k].key := fun h h2 => aDV es k h hke h2
    generalize es[k] = ek at *
    obtain ⟨k1, v1, g1⟩ := ek
    simp only at hc1 hc2 hc3 hsz hnoO hE hz0 hp0
    have hcall := fun W => aAl k1 W hsz
    have hcall2 := fun W => aFi v1 (-1000000) 1000000 W
    change ∀ W, Calls _ _ _ W fun e w' => e = .returned (.bool (nm k1)) ∧ W = w' at hcall
    change ∀ W, Calls _ _ _ W fun e w' => e = .returned (.bool (aAy v1)) ∧ W = w' at hcall2
    cases hw : nm k1 with
    | false =>
     have hfin : Hid (xP es = false) := qw hke (hnoO hw)
     rw [hw] at hcall
     have Hcall := Lib.hid hcall
     clear hw hcall hcall2 hE hnoO hz0 hp0
     go_wp2
     have hcL0 : (wr.alloc (Obj.cells #[Value.string k1, Value.int IntKind.i64 v1, Value.bool g1] 107)).cell? ⟨wr.heap.size, 0, none⟩ = some (.string k1) := cell_of_row _ _ _ _ _ (0, 0) (heap_alloc_new wr _)
     have hcL1 : (wr.alloc (Obj.cells #[Value.string k1, Value.int IntKind.i64 v1, Value.bool g1] 107)).cell? ⟨wr.heap.size, 1, none⟩ = some (.int .i64 v1) := cell_of_row _ _ _ _ _ (0, 0) (heap_alloc_new wr _)
     have hcL2 : (wr.alloc (Obj.cells #[Value.string k1, Value.int IntKind.i64 v1, Value.bool g1] 107)).cell? ⟨wr.heap.size, 2, none⟩ = some (.bool g1) := cell_of_row _ _ _ _ _ (0, 0) (heap_alloc_new wr _)
     have hpl : wr.heap.size < (wr.alloc (Obj.cells #[Value.string k1, Value.int IntKind.i64 v1, Value.bool g1] 107)).heap.size := by simp
     have hb2 : Below w.heap.size w (wr.alloc (Obj.cells #[Value.string k1, Value.int IntKind.i64 v1, Value.bool g1] 107)) := hb.alloc hb.size _
     generalize wr.alloc (Obj.cells #[Value.string k1, Value.int IntKind.i64 v1, Value.bool g1] 107) = w2 at *
     generalize wr.heap.size = p at *
     have hA0 := fun y : Aft w2 => y.cell hpl hcL0
     have hA1 := fun y : Aft w2 => y.cell hpl hcL1
     have hA2 := fun y : Aft w2 => y.cell hpl hcL2
     refine yD (by kernel_rfl) (by kernel_rfl) ?_
     repeat (go_big_quiet_step ((first | (go_at_call 92; exact Aft.same (Hcall.out _)))))
     refine wpQuiet_nil ?_
     rintro _ ⟨y, rfl⟩
     have hb3 := uw hb2 y.below
     generalize y.at_ = w3 at *
     go_wp2
     go_ret
     exact ⟨xZ hfin.out.symm, hb3⟩
    | true =>
    cases hv : aAy v1 with
    | false =>
     have hfin : Hid (xP es = false) := vV hke (by rw [hE, hv]; rfl)
     rw [hw] at hcall
     rw [hv] at hcall2
     have Hcall := Lib.hid hcall
     have Hcall2 := Lib.hid hcall2
     clear hw hv hcall hcall2 hE hnoO hz0 hp0
     go_wp2
     have hcL0 : (wr.alloc (Obj.cells #[Value.string k1, Value.int IntKind.i64 v1, Value.bool g1] 107)).cell? ⟨wr.heap.size, 0, none⟩ = some (.string k1) := cell_of_row _ _ _ _ _ (0, 0) (heap_alloc_new wr _)
     have hcL1 : (wr.alloc (Obj.cells #[Value.string k1, Value.int IntKind.i64 v1, Value.bool g1] 107)).cell? ⟨wr.heap.size, 1, none⟩ = some (.int .i64 v1) := cell_of_row _ _ _ _ _ (0, 0) (heap_alloc_new wr _)
     have hcL2 : (wr.alloc (Obj.cells #[Value.string k1, Value.int IntKind.i64 v1, Value.bool g1] 107)).cell? ⟨wr.heap.size, 2, none⟩ = some (.bool g1) := cell_of_row _ _ _ _ _ (0, 0) (heap_alloc_new wr _)
     have hpl : wr.heap.size < (wr.alloc (Obj.cells #[Value.string k1, Value.int IntKind.i64 v1, Value.bool g1] 107)).heap.size := by simp
     have hb2 : Below w.heap.size w (wr.alloc (Obj.cells #[Value.string k1, Value.int IntKind.i64 v1, Value.bool g1] 107)) := hb.alloc hb.size _
     generalize wr.alloc (Obj.cells #[Value.string k1, Value.int IntKind.i64 v1, Value.bool g1] 107) = w2 at *
     generalize wr.heap.size = p at *
     have hA0 := fun y : Aft w2 => y.cell hpl hcL0
     have hA1 := fun y : Aft w2 => y.cell hpl hcL1
     have hA2 := fun y : Aft w2 => y.cell hpl hcL2
     refine yD (by kernel_rfl) (by kernel_rfl) ?_
     repeat (go_big_quiet_step ((first | (go_at_call 92; exact Aft.same (Hcall.out _)) | (go_at_call 81; exact Aft.same (Hcall2.out _)))))
     refine wpQuiet_nil ?_
     rintro _ ⟨y, rfl⟩
     have hb3 := uw hb2 y.below
     generalize y.at_ = w3 at *
     go_wp2
     go_ret
     exact ⟨xZ hfin.out.symm, hb3⟩
    | true =>
    rw [hw] at hcall
    rw [hv] at hcall2
    rcases aBR g1 v1 with ⟨rfl, hne⟩ | hgood
    · have hfin : Hid (xP es = false) := vV hke (by rw [hE, hv, decide_eq_false hne]; rfl)
      have hne2 : (v1 != 0) = true := by simpa using hne
      have Hcall := Lib.hid hcall
      have Hcall2 := Lib.hid hcall2
      clear hw hv hcall hcall2 hE hnoO hz0 hp0
      go_wp2
      have hcL0 : (wr.alloc (Obj.cells #[Value.string k1, Value.int IntKind.i64 v1, Value.bool true] 107)).cell? ⟨wr.heap.size, 0, none⟩ = some (.string k1) := cell_of_row _ _ _ _ _ (0, 0) (heap_alloc_new wr _)
      have hcL1 : (wr.alloc (Obj.cells #[Value.string k1, Value.int IntKind.i64 v1, Value.bool true] 107)).cell? ⟨wr.heap.size, 1, none⟩ = some (.int .i64 v1) := cell_of_row _ _ _ _ _ (0, 0) (heap_alloc_new wr _)
      have hcL2 : (wr.alloc (Obj.cells #[Value.string k1, Value.int IntKind.i64 v1, Value.bool true] 107)).cell? ⟨wr.heap.size, 2, none⟩ = some (.bool true) := cell_of_row _ _ _ _ _ (0, 0) (heap_alloc_new wr _)
      have hpl : wr.heap.size < (wr.alloc (Obj.cells #[Value.string k1, Value.int IntKind.i64 v1, Value.bool true] 107)).heap.size := by simp
      have hb2 : Below w.heap.size w (wr.alloc (Obj.cells #[Value.string k1, Value.int IntKind.i64 v1, Value.bool true] 107)) := hb.alloc hb.size _
      generalize wr.alloc (Obj.cells #[Value.string k1, Value.int IntKind.i64 v1, Value.bool true] 107) = w2 at *
      generalize wr.heap.size = p at *
      have hA0 := fun y : Aft w2 => y.cell hpl hcL0
      have hA1 := fun y : Aft w2 => y.cell hpl hcL1
      have hA2 := fun y : Aft w2 => y.cell hpl hcL2
      refine yD (by kernel_rfl) (by kernel_rfl) ?_
      repeat (go_big_quiet_step ((first | (go_at_call 92; exact Aft.same (Hcall.out _)) | (go_at_call 81; exact Aft.same (Hcall2.out _)))))
      refine wpQuiet_nil ?_
      rintro _ ⟨y, rfl⟩
      have hb3 := uw hb2 y.below
      generalize y.at_ = w3 at *
      go_wp2
      go_ret
      exact ⟨xZ hfin.out.symm, hb3⟩
    have hE1 : Hid (zi es k = true) := by
     rcases hgood with rfl | ⟨rfl, rfl⟩
     · show zi es k = true; rw [hE, hv]; rfl
     · show zi es k = true; rw [hE, hv]; rfl
    clear hE hv hnoO
    by_cases hk0 : k = 0
    · have ho := hz0 hk0 hw
      subst hk0
      have hstep : Hid (∀ j, j < 0 + 1 → yt (kv es) j = true ∧ zi es j = true) := fun j hj => by
       have : j = 0 := by omega
       subst this; exact ⟨ho, hE1.out⟩
      simp only [Nat.zero_mul, Nat.add_zero] at hc1 hc2 hc3
      clear hz0 hp0 ho hw
      rcases hgood with rfl | ⟨rfl, rfl⟩
      · have Hcall := Lib.hid hcall
        have Hcall2 := Lib.hid hcall2
        clear hcall hcall2
        go_wp2
        have hcL0 : (wr.alloc (Obj.cells #[Value.string k1, Value.int IntKind.i64 v1, Value.bool false] 107)).cell? ⟨wr.heap.size, 0, none⟩ = some (.string k1) := cell_of_row _ _ _ _ _ (0, 0) (heap_alloc_new wr _)
        have hcL1 : (wr.alloc (Obj.cells #[Value.string k1, Value.int IntKind.i64 v1, Value.bool false] 107)).cell? ⟨wr.heap.size, 1, none⟩ = some (.int .i64 v1) := cell_of_row _ _ _ _ _ (0, 0) (heap_alloc_new wr _)
        have hcL2 : (wr.alloc (Obj.cells #[Value.string k1, Value.int IntKind.i64 v1, Value.bool false] 107)).cell? ⟨wr.heap.size, 2, none⟩ = some (.bool false) := cell_of_row _ _ _ _ _ (0, 0) (heap_alloc_new wr _)
        have hpl : wr.heap.size < (wr.alloc (Obj.cells #[Value.string k1, Value.int IntKind.i64 v1, Value.bool false] 107)).heap.size := by simp
        have hb2 : Below w.heap.size w (wr.alloc (Obj.cells #[Value.string k1, Value.int IntKind.i64 v1, Value.bool false] 107)) := hb.alloc hb.size _
        generalize wr.alloc (Obj.cells #[Value.string k1, Value.int IntKind.i64 v1, Value.bool false] 107) = w2 at *
        generalize wr.heap.size = p at *
        have hA0 := fun y : Aft w2 => y.cell hpl hcL0
        have hA1 := fun y : Aft w2 => y.cell hpl hcL1
        have hA2 := fun y : Aft w2 => y.cell hpl hcL2
        refine yD (by kernel_rfl) (by kernel_rfl) ?_
        repeat (go_big_quiet_step ((first | (go_at_call 92; exact Aft.same (Hcall.out _)) | (go_at_call 81; exact Aft.same (Hcall2.out _)))))
        refine wpQuiet_nil ?_
        rintro _ ⟨y, rfl⟩
        have hb3 := uw hb2 y.below
        generalize y.at_ = w3 at *
        go_wp2
        go_roundw
        case rel => exact ⟨0 + 1, by omega, by go_num, hstep.out, hb3⟩
        case measure => simp [intOf]; omega
      · have Hcall := Lib.hid hcall
        have Hcall2 := Lib.hid hcall2
        clear hcall hcall2
        go_wp2
        have hcL0 : (wr.alloc (Obj.cells #[Value.string k1, Value.int IntKind.i64 0, Value.bool true] 107)).cell? ⟨wr.heap.size, 0, none⟩ = some (.string k1) := cell_of_row _ _ _ _ _ (0, 0) (heap_alloc_new wr _)
        have hcL1 : (wr.alloc (Obj.cells #[Value.string k1, Value.int IntKind.i64 0, Value.bool true] 107)).cell? ⟨wr.heap.size, 1, none⟩ = some (.int .i64 0) := cell_of_row _ _ _ _ _ (0, 0) (heap_alloc_new wr _)
        have hcL2 : (wr.alloc (Obj.cells #[Value.string k1, Value.int IntKind.i64 0, Value.bool true] 107)).cell? ⟨wr.heap.size, 2, none⟩ = some (.bool true) := cell_of_row _ _ _ _ _ (0, 0) (heap_alloc_new wr _)
        have hpl : wr.heap.size < (wr.alloc (Obj.cells #[Value.string k1, Value.int IntKind.i64 0, Value.bool true] 107)).heap.size := by simp
        have hb2 : Below w.heap.size w (wr.alloc (Obj.cells #[Value.string k1, Value.int IntKind.i64 0, Value.bool true] 107)) := hb.alloc hb.size _
        generalize wr.alloc (Obj.cells #[Value.string k1, Value.int IntKind.i64 0, Value.bool true] 107) = w2 at *
        generalize wr.heap.size = p at *
        have hA0 := fun y : Aft w2 => y.cell hpl hcL0
        have hA1 := fun y : Aft w2 => y.cell hpl hcL1
        have hA2 := fun y : Aft w2 => y.cell hpl hcL2
        refine yD (by kernel_rfl) (by kernel_rfl) ?_
        repeat (go_big_quiet_step ((first | (go_at_call 92; exact Aft.same (Hcall.out _)) | (go_at_call 81; exact Aft.same (Hcall2.out _)))))
        refine wpQuiet_nil ?_
        rintro _ ⟨y, rfl⟩
        have hb3 := uw hb2 y.below
        generalize y.at_ = w3 at *
        go_wp2
        go_roundw
        case rel => exact ⟨0 + 1, by omega, by go_num, hstep.out, hb3⟩
        case measure => simp [intOf]; omega
    · have hkp : 0 < k := by omega
      have hor := hp0 hkp hw
      have ht : (Op.bytesLess k1.toList (es[k - 1]'(by omega)).key.toList || k1.toList == (es[k - 1]'(by omega)).key.toList) = !yt (kv es) k := by rw [aIN, hor]
      have hi0 : 0 ≤ (k : Int) - 1 := by omega
      have hi1 : ((k : Int) - 1).toNat = k - 1 := by omega
      have hi2 : (0 : Int) < (k : Int) := by omega
      clear hk0 hor hw hz0 hp0
      cases ho : yt (kv es) k with
      | false =>
       have hfin : Hid (xP es = false) := qw hke ho
       rw [ho] at ht
       clear ho
       rcases hgood with rfl | ⟨rfl, rfl⟩
       · have Hcall := Lib.hid hcall
         have Hcall2 := Lib.hid hcall2
         clear hcall hcall2
         go_wp2
         have hcL0 : (wr.alloc (Obj.cells #[Value.string k1, Value.int IntKind.i64 v1, Value.bool false] 107)).cell? ⟨wr.heap.size, 0, none⟩ = some (.string k1) := cell_of_row _ _ _ _ _ (0, 0) (heap_alloc_new wr _)
         have hcL1 : (wr.alloc (Obj.cells #[Value.string k1, Value.int IntKind.i64 v1, Value.bool false] 107)).cell? ⟨wr.heap.size, 1, none⟩ = some (.int .i64 v1) := cell_of_row _ _ _ _ _ (0, 0) (heap_alloc_new wr _)
         have hcL2 : (wr.alloc (Obj.cells #[Value.string k1, Value.int IntKind.i64 v1, Value.bool false] 107)).cell? ⟨wr.heap.size, 2, none⟩ = some (.bool false) := cell_of_row _ _ _ _ _ (0, 0) (heap_alloc_new wr _)
         have hpl : wr.heap.size < (wr.alloc (Obj.cells #[Value.string k1, Value.int IntKind.i64 v1, Value.bool false] 107)).heap.size := by simp
         have hb2 : Below w.heap.size w (wr.alloc (Obj.cells #[Value.string k1, Value.int IntKind.i64 v1, Value.bool false] 107)) := hb.alloc hb.size _
         obtain ⟨b', off', he, _, _, hc4, _, _⟩ := hr.edt hb2 (show k - 1 < es.length by omega)
         obtain ⟨rfl, rfl⟩ : b = b' ∧ off = off' := by simpa using he
         have hbl4 := Nat.lt_of_lt_of_le hbl hb2.size
         generalize wr.alloc (Obj.cells #[Value.string k1, Value.int IntKind.i64 v1, Value.bool false] 107) = w2 at *
         generalize wr.heap.size = p at *
         have hA0 := fun y : Aft w2 => y.cell hpl hcL0
         have hA1 := fun y : Aft w2 => y.cell hpl hcL1
         have hA2 := fun y : Aft w2 => y.cell hpl hcL2
         have hA4 := fun y : Aft w2 => y.cell hbl4 hc4
         refine yD (by kernel_rfl) (by kernel_rfl) ?_
         repeat (go_big_quiet_step ((first | (go_at_call 92; exact Aft.same (Hcall.out _)) | (go_at_call 81; exact Aft.same (Hcall2.out _)))))
         refine wpQuiet_nil ?_
         rintro _ ⟨y, rfl⟩
         have hb3 := uw hb2 y.below
         generalize y.at_ = w3 at *
         go_wp2
         go_ret
         exact ⟨xZ hfin.out.symm, hb3⟩
       · have Hcall := Lib.hid hcall
         have Hcall2 := Lib.hid hcall2
         clear hcall hcall2
         go_wp2
         have hcL0 : (wr.alloc (Obj.cells #[Value.string k1, Value.int IntKind.i64 0, Value.bool true] 107)).cell? ⟨wr.heap.size, 0, none⟩ = some (.string k1) := cell_of_row _ _ _ _ _ (0, 0) (heap_alloc_new wr _)
         have hcL1 : (wr.alloc (Obj.cells #[Value.string k1, Value.int IntKind.i64 0, Value.bool true] 107)).cell? ⟨wr.heap.size, 1, none⟩ = some (.int .i64 0) := cell_of_row _ _ _ _ _ (0, 0) (heap_alloc_new wr _)
         have hcL2 : (wr.alloc (Obj.cells #[Value.string k1, Value.int IntKind.i64 0, Value.bool true] 107)).cell? ⟨wr.heap.size, 2, none⟩ = some (.bool true) := cell_of_row _ _ _ _ _ (0, 0) (heap_alloc_new wr _)
         have hpl : wr.heap.size < (wr.alloc (Obj.cells #[Value.string k1, Value.int IntKind.i64 0, Value.bool true] 107)).heap.size := by simp
         have hb2 : Below w.heap.size w (wr.alloc (Obj.cells #[Value.string k1, Value.int IntKind.i64 0, Value.bool true] 107)) := hb.alloc hb.size _
         obtain ⟨b', off', he, _, _, hc4, _, _⟩ := hr.edt hb2 (show k - 1 < es.length by omega)
         obtain ⟨rfl, rfl⟩ : b = b' ∧ off = off' := by simpa using he
         have hbl4 := Nat.lt_of_lt_of_le hbl hb2.size
         generalize wr.alloc (Obj.cells #[Value.string k1, Value.int IntKind.i64 0, Value.bool true] 107) = w2 at *
         generalize wr.heap.size = p at *
         have hA0 := fun y : Aft w2 => y.cell hpl hcL0
         have hA1 := fun y : Aft w2 => y.cell hpl hcL1
         have hA2 := fun y : Aft w2 => y.cell hpl hcL2
         have hA4 := fun y : Aft w2 => y.cell hbl4 hc4
         refine yD (by kernel_rfl) (by kernel_rfl) ?_
         repeat (go_big_quiet_step ((first | (go_at_call 92; exact Aft.same (Hcall.out _)) | (go_at_call 81; exact Aft.same (Hcall2.out _)))))
         refine wpQuiet_nil ?_
         rintro _ ⟨y, rfl⟩
         have hb3 := uw hb2 y.below
         generalize y.at_ = w3 at *
         go_wp2
         go_ret
         exact ⟨xZ hfin.out.symm, hb3⟩
      | true =>
       have hstep : Hid (∀ j, j < k + 1 → yt (kv es) j = true ∧ zi es j = true) := fun j hj => by
        rcases Nat.lt_or_ge j k with h | h
        · exact Hall.out j h
        · have : j = k := by omega
          subst this; exact ⟨ho, hE1.out⟩
       rw [ho] at ht
       clear ho
       rcases hgood with rfl | ⟨rfl, rfl⟩
       · have Hcall := Lib.hid hcall
         have Hcall2 := Lib.hid hcall2
         clear hcall hcall2
         go_wp2
         have hcL0 : (wr.alloc (Obj.cells #[Value.string k1, Value.int IntKind.i64 v1, Value.bool false] 107)).cell? ⟨wr.heap.size, 0, none⟩ = some (.string k1) := cell_of_row _ _ _ _ _ (0, 0) (heap_alloc_new wr _)
         have hcL1 : (wr.alloc (Obj.cells #[Value.string k1, Value.int IntKind.i64 v1, Value.bool false] 107)).cell? ⟨wr.heap.size, 1, none⟩ = some (.int .i64 v1) := cell_of_row _ _ _ _ _ (0, 0) (heap_alloc_new wr _)
         have hcL2 : (wr.alloc (Obj.cells #[Value.string k1, Value.int IntKind.i64 v1, Value.bool false] 107)).cell? ⟨wr.heap.size, 2, none⟩ = some (.bool false) := cell_of_row _ _ _ _ _ (0, 0) (heap_alloc_new wr _)
         have hpl : wr.heap.size < (wr.alloc (Obj.cells #[Value.string k1, Value.int IntKind.i64 v1, Value.bool false] 107)).heap.size := by simp
         have hb2 : Below w.heap.size w (wr.alloc (Obj.cells #[Value.string k1, Value.int IntKind.i64 v1, Value.bool false] 107)) := hb.alloc hb.size _
         obtain ⟨b', off', he, _, _, hc4, _, _⟩ := hr.edt hb2 (show k - 1 < es.length by omega)
         obtain ⟨rfl, rfl⟩ : b = b' ∧ off = off' := by simpa using he
         have hbl4 := Nat.lt_of_lt_of_le hbl hb2.size
         generalize wr.alloc (Obj.cells #[Value.string k1, Value.int IntKind.i64 v1, Value.bool false] 107) = w2 at *
         generalize wr.heap.size = p at *
         have hA0 := fun y : Aft w2 => y.cell hpl hcL0
         have hA1 := fun y : Aft w2 => y.cell hpl hcL1
         have hA2 := fun y : Aft w2 => y.cell hpl hcL2
         have hA4 := fun y : Aft w2 => y.cell hbl4 hc4
         refine yD (by kernel_rfl) (by kernel_rfl) ?_
         repeat (go_big_quiet_step ((first | (go_at_call 92; exact Aft.same (Hcall.out _)) | (go_at_call 81; exact Aft.same (Hcall2.out _)))))
         refine wpQuiet_nil ?_
         rintro _ ⟨y, rfl⟩
         have hb3 := uw hb2 y.below
         generalize y.at_ = w3 at *
         go_wp2
         go_roundw
         case rel => exact ⟨k + 1, by omega, by go_num, hstep.out, hb3⟩
         case measure => simp [intOf]; omega
       · have Hcall := Lib.hid hcall
         have Hcall2 := Lib.hid hcall2
         clear hcall hcall2
         go_wp2
         have hcL0 : (wr.alloc (Obj.cells #[Value.string k1, Value.int IntKind.i64 0, Value.bool true] 107)).cell? ⟨wr.heap.size, 0, none⟩ = some (.string k1) := cell_of_row _ _ _ _ _ (0, 0) (heap_alloc_new wr _)
         have hcL1 : (wr.alloc (Obj.cells #[Value.string k1, Value.int IntKind.i64 0, Value.bool true] 107)).cell? ⟨wr.heap.size, 1, none⟩ = some (.int .i64 0) := cell_of_row _ _ _ _ _ (0, 0) (heap_alloc_new wr _)
         have hcL2 : (wr.alloc (Obj.cells #[Value.string k1, Value.int IntKind.i64 0, Value.bool true] 107)).cell? ⟨wr.heap.size, 2, none⟩ = some (.bool true) := cell_of_row _ _ _ _ _ (0, 0) (heap_alloc_new wr _)
         have hpl : wr.heap.size < (wr.alloc (Obj.cells #[Value.string k1, Value.int IntKind.i64 0, Value.bool true] 107)).heap.size := by simp
         have hb2 : Below w.heap.size w (wr.alloc (Obj.cells #[Value.string k1, Value.int IntKind.i64 0, Value.bool true] 107)) := hb.alloc hb.size _
         obtain ⟨b', off', he, _, _, hc4, _, _⟩ := hr.edt hb2 (show k - 1 < es.length by omega)
         obtain ⟨rfl, rfl⟩ : b = b' ∧ off = off' := by simpa using he
         have hbl4 := Nat.lt_of_lt_of_le hbl hb2.size
         generalize wr.alloc (Obj.cells #[Value.string k1, Value.int IntKind.i64 0, Value.bool true] 107) = w2 at *
         generalize wr.heap.size = p at *
         have hA0 := fun y : Aft w2 => y.cell hpl hcL0
         have hA1 := fun y : Aft w2 => y.cell hpl hcL1
         have hA2 := fun y : Aft w2 => y.cell hpl hcL2
         have hA4 := fun y : Aft w2 => y.cell hbl4 hc4
         refine yD (by kernel_rfl) (by kernel_rfl) ?_
         repeat (go_big_quiet_step ((first | (go_at_call 92; exact Aft.same (Hcall.out _)) | (go_at_call 81; exact Aft.same (Hcall2.out _)))))
         refine wpQuiet_nil ?_
         rintro _ ⟨y, rfl⟩
         have hb3 := uw hb2 y.below
         generalize y.at_ = w3 at *
         go_wp2
         go_roundw
         case rel => exact ⟨k + 1, by omega, by go_num, hstep.out, hb3⟩
         case measure => simp [intOf]; omega
  · have hfin : Hid (xP es = true) := aBN (by rw [Hlen.out]; exact hn6) (fun i hi => Hall.out i (by rw [Hlen.out] at hi; omega))
    go_wp2
    go_ret
    exact ⟨xZ hfin.out.symm, hb⟩
theorem aDl (a : ByteArray) (x : Int) (g : Bool) (w : World) : (method 425 107 (.agg #[.string a, .int .i64 x, .bool g]) "loop.example/g00737/impl.key").run Tryz.prog w = .ok (282, .agg #[.string a, .int .i64 x, .bool g]) w := by kernel_rfl
theorem kL (key : ByteArray) (v : Int) (g : Bool) (w : World) :
 Calls Tryz.prog 282 #[.agg #[.string key, .int .i64 v, .bool g]] w fun e w' => e = .returned (.string key) ∧ Below w.heap.size w w' := by
 go_enter Tryz.func282, Tryz.ntmps282
 go_wp2
 go_ret
 exact ⟨rfl, (Below.refl _ _).alloc (Nat.le_refl _) _⟩
theorem aEp (es : List Edt) (k : Nat) (hke : k < es.length) (hs : es[k].key.size ≤ maxLen) (W : World) :
 Calls Tryz.prog 98 #[.string es[k].key] W fun e w' => e = .returned (.bool (nm es[k].key)) ∧ W = w' := aB4 _ W hs
set_option maxHeartbeats 2000000 in
set_option maxRecDepth 100000 in
theorem aAO (A : Option Addr) (n c : Nat) (es : List Edt) (w : World) (hr : Rd w 3 A n (yE es)) (hm : n ≤ maxLen) (hks : ∀ e ∈ es, e.key.size ≤ maxLen) :
 Calls Tryz.prog 126 #[.slice A n c] w fun e w' => e = .returned (.bool (jF (kv es))) ∧ Below w.heap.size w w' := by
 unfold maxLen at hm
 have hlen := hr.elen
 have Hlen := Lib.hid hlen; clear hlen
 have hmeth := aDl
 go_enter Tryz.func126, Tryz.ntmps126
 go_wp2
 go_loopw [3, 7] (fun _ i wr => ∃ k : Nat, k ≤ n ∧ i = .int .i64 k ∧ (∀ j, j < k → yt (kv es) j = true) ∧ Below w.heap.size w wr) (fun _ i _ => n - (intOf i).toNat)
 case atStart => exact ⟨0, Nat.zero_le _, rfl, fun j hj => absurd hj (by omega), Below.refl _ _⟩
 case round =>
  obtain ⟨k, hk, rfl, hall, hb⟩ := hrel
  have Hall := Lib.hid hall; clear hall
  by_cases hlt : k < n
  · have hke : k < es.length := by rw [Hlen.out]; exact hlt
    obtain ⟨b, off, rfl, hbl, hbl2, hc1, hc2, hc5⟩ := hr.edt hb hke
    have hcall := aEp es k hke (hks _ (List.getElem_mem hke))
    cases hw : nm es[k].key with
    | false =>
     have hfin : Hid (jF (kv es) = false) := aAu (by rw [vH]; exact hke) (aEJ es k hke hw)
     rw [hw] at hcall
     have Hcall := Lib.hid hcall
     clear hw hcall
     go_wp2
     have hcL0 : (wr.alloc (Obj.cells #[Value.string es[k].key, Value.int IntKind.i64 es[k].val, Value.bool es[k].gone] 107)).cell? ⟨wr.heap.size, 0, none⟩ = some (.string es[k].key) := cell_of_row _ _ _ _ _ (0, 0) (heap_alloc_new wr _)
     have hcL1 : (wr.alloc (Obj.cells #[Value.string es[k].key, Value.int IntKind.i64 es[k].val, Value.bool es[k].gone] 107)).cell? ⟨wr.heap.size, 1, none⟩ = some (.int .i64 es[k].val) := cell_of_row _ _ _ _ _ (0, 0) (heap_alloc_new wr _)
     have hcL2 : (wr.alloc (Obj.cells #[Value.string es[k].key, Value.int IntKind.i64 es[k].val, Value.bool es[k].gone] 107)).cell? ⟨wr.heap.size, 2, none⟩ = some (.bool es[k].gone) := cell_of_row _ _ _ _ _ (0, 0) (heap_alloc_new wr _)
     have hpl : wr.heap.size < (wr.alloc (Obj.cells #[Value.string es[k].key, Value.int IntKind.i64 es[k].val, Value.bool es[k].gone] 107)).heap.size := by simp
     have hb2 : Below w.heap.size w (wr.alloc (Obj.cells #[Value.string es[k].key, Value.int IntKind.i64 es[k].val, Value.bool es[k].gone] 107)) := hb.alloc hb.size _
     generalize wr.alloc (Obj.cells #[Value.string es[k].key, Value.int IntKind.i64 es[k].val, Value.bool es[k].gone] 107) = w2 at *
     generalize wr.heap.size = p at *
     have hA0 := fun y : Aft w2 => y.cell hpl hcL0
     have hA1 := fun y : Aft w2 => y.cell hpl hcL1
     have hA2 := fun y : Aft w2 => y.cell hpl hcL2
     refine yD (by kernel_rfl) (by kernel_rfl) ?_
     repeat (go_big_quiet_step ((first | (go_at_call 282; exact Aft.call (kL _ _ _ _)) | (go_at_call 98; exact Aft.same (Hcall.out _)))))
     refine wpQuiet_nil ?_
     rintro _ ⟨y, rfl⟩
     have hb3 := uw hb2 y.below
     generalize y.at_ = w3 at *
     go_wp2
     go_ret
     exact ⟨xZ hfin.out.symm, hb3⟩
    | true =>
    rw [hw] at hcall
    have Hcall := Lib.hid hcall
    clear hcall
    by_cases hk0 : k = 0
    · subst hk0
      have hstep : Hid (∀ j, j < 0 + 1 → yt (kv es) j = true) := fun j hj => by
       have : j = 0 := by omega
       subst this; exact aCZ es hke hw
      clear hw
      simp only [Nat.zero_mul, Nat.add_zero] at hc1 hc2 hc5
      go_wp2
      have hcL0 : (wr.alloc (Obj.cells #[Value.string es[0].key, Value.int IntKind.i64 es[0].val, Value.bool es[0].gone] 107)).cell? ⟨wr.heap.size, 0, none⟩ = some (.string es[0].key) := cell_of_row _ _ _ _ _ (0, 0) (heap_alloc_new wr _)
      have hcL1 : (wr.alloc (Obj.cells #[Value.string es[0].key, Value.int IntKind.i64 es[0].val, Value.bool es[0].gone] 107)).cell? ⟨wr.heap.size, 1, none⟩ = some (.int .i64 es[0].val) := cell_of_row _ _ _ _ _ (0, 0) (heap_alloc_new wr _)
      have hcL2 : (wr.alloc (Obj.cells #[Value.string es[0].key, Value.int IntKind.i64 es[0].val, Value.bool es[0].gone] 107)).cell? ⟨wr.heap.size, 2, none⟩ = some (.bool es[0].gone) := cell_of_row _ _ _ _ _ (0, 0) (heap_alloc_new wr _)
      have hpl : wr.heap.size < (wr.alloc (Obj.cells #[Value.string es[0].key, Value.int IntKind.i64 es[0].val, Value.bool es[0].gone] 107)).heap.size := by simp
      have hb2 : Below w.heap.size w (wr.alloc (Obj.cells #[Value.string es[0].key, Value.int IntKind.i64 es[0].val, Value.bool es[0].gone] 107)) := hb.alloc hb.size _
      generalize wr.alloc (Obj.cells #[Value.string es[0].key, Value.int IntKind.i64 es[0].val, Value.bool es[0].gone] 107) = w2 at *
      generalize wr.heap.size = p at *
      have hA0 := fun y : Aft w2 => y.cell hpl hcL0
      have hA1 := fun y : Aft w2 => y.cell hpl hcL1
      have hA2 := fun y : Aft w2 => y.cell hpl hcL2
      refine yD (by kernel_rfl) (by kernel_rfl) ?_
      repeat (go_big_quiet_step ((first | (go_at_call 282; exact Aft.call (kL _ _ _ _)) | (go_at_call 98; exact Aft.same (Hcall.out _)))))
      refine wpQuiet_nil ?_
      rintro _ ⟨y, rfl⟩
      have hb3 := uw hb2 y.below
      generalize y.at_ = w3 at *
      go_wp2
      go_roundw
      case rel => exact ⟨0 + 1, by omega, by go_num, hstep.out, hb3⟩
      case measure => simp [intOf]; omega
    · have hkp : 0 < k := by omega
      have hor := aDV es k hkp hke hw
      have ht : (!(Op.bytesLess (es[k - 1]'(by omega)).key.toList es[k].key.toList)) = !yt (kv es) k := by rw [hor]; rfl
      have hi0 : 0 ≤ (k : Int) - 1 := by omega
      have hi1 : ((k : Int) - 1).toNat = k - 1 := by omega
      have hi2 : (0 : Int) < (k : Int) := by omega
      clear hk0 hor hw
      cases ho : yt (kv es) k with
      | false =>
       have hfin : Hid (jF (kv es) = false) := aAu (by rw [vH]; exact hke) ho
       rw [ho] at ht
       clear ho
       go_wp2
       have hcL0 : (wr.alloc (Obj.cells #[Value.string es[k].key, Value.int IntKind.i64 es[k].val, Value.bool es[k].gone] 107)).cell? ⟨wr.heap.size, 0, none⟩ = some (.string es[k].key) := cell_of_row _ _ _ _ _ (0, 0) (heap_alloc_new wr _)
       have hcL1 : (wr.alloc (Obj.cells #[Value.string es[k].key, Value.int IntKind.i64 es[k].val, Value.bool es[k].gone] 107)).cell? ⟨wr.heap.size, 1, none⟩ = some (.int .i64 es[k].val) := cell_of_row _ _ _ _ _ (0, 0) (heap_alloc_new wr _)
       have hcL2 : (wr.alloc (Obj.cells #[Value.string es[k].key, Value.int IntKind.i64 es[k].val, Value.bool es[k].gone] 107)).cell? ⟨wr.heap.size, 2, none⟩ = some (.bool es[k].gone) := cell_of_row _ _ _ _ _ (0, 0) (heap_alloc_new wr _)
       have hpl : wr.heap.size < (wr.alloc (Obj.cells #[Value.string es[k].key, Value.int IntKind.i64 es[k].val, Value.bool es[k].gone] 107)).heap.size := by simp
       have hb2 : Below w.heap.size w (wr.alloc (Obj.cells #[Value.string es[k].key, Value.int IntKind.i64 es[k].val, Value.bool es[k].gone] 107)) := hb.alloc hb.size _
       obtain ⟨b', off', he, _, _, hc3, hc4, hc6⟩ := hr.edt hb2 (show k - 1 < es.length by omega)
       obtain ⟨rfl, rfl⟩ : b = b' ∧ off = off' := by simpa using he
       have hbl4 := Nat.lt_of_lt_of_le hbl hb2.size
       generalize wr.alloc (Obj.cells #[Value.string es[k].key, Value.int IntKind.i64 es[k].val, Value.bool es[k].gone] 107) = w2 at *
       generalize wr.heap.size = p at *
       have hA0 := fun y : Aft w2 => y.cell hpl hcL0
       have hA1 := fun y : Aft w2 => y.cell hpl hcL1
       have hA2 := fun y : Aft w2 => y.cell hpl hcL2
       have hA3 := fun y : Aft w2 => y.cell hbl4 hc3
       have hA4 := fun y : Aft w2 => y.cell hbl4 hc4
       have hA5 := fun y : Aft w2 => y.cell hbl4 hc6
       refine yD (by kernel_rfl) (by kernel_rfl) ?_
       repeat (go_big_quiet_step ((first | (go_at_call 282; exact Aft.call (kL _ _ _ _)) | (go_at_call 98; exact Aft.same (Hcall.out _)))))
       refine wpQuiet_nil ?_
       rintro _ ⟨y, rfl⟩
       have hb3 := uw hb2 y.below
       generalize y.at_ = w3 at *
       go_wp2
       go_ret
       exact ⟨xZ hfin.out.symm, hb3⟩
      | true =>
       have hstep : Hid (∀ j, j < k + 1 → yt (kv es) j = true) := fun j hj => by
        rcases Nat.lt_or_ge j k with h | h
        · exact Hall.out j h
        · have : j = k := by omega
          subst this; exact ho
       rw [ho] at ht
       clear ho
       go_wp2
       have hcL0 : (wr.alloc (Obj.cells #[Value.string es[k].key, Value.int IntKind.i64 es[k].val, Value.bool es[k].gone] 107)).cell? ⟨wr.heap.size, 0, none⟩ = some (.string es[k].key) := cell_of_row _ _ _ _ _ (0, 0) (heap_alloc_new wr _)
       have hcL1 : (wr.alloc (Obj.cells #[Value.string es[k].key, Value.int IntKind.i64 es[k].val, Value.bool es[k].gone] 107)).cell? ⟨wr.heap.size, 1, none⟩ = some (.int .i64 es[k].val) := cell_of_row _ _ _ _ _ (0, 0) (heap_alloc_new wr _)
       have hcL2 : (wr.alloc (Obj.cells #[Value.string es[k].key, Value.int IntKind.i64 es[k].val, Value.bool es[k].gone] 107)).cell? ⟨wr.heap.size, 2, none⟩ = some (.bool es[k].gone) := cell_of_row _ _ _ _ _ (0, 0) (heap_alloc_new wr _)
       have hpl : wr.heap.size < (wr.alloc (Obj.cells #[Value.string es[k].key, Value.int IntKind.i64 es[k].val, Value.bool es[k].gone] 107)).heap.size := by simp
       have hb2 : Below w.heap.size w (wr.alloc (Obj.cells #[Value.string es[k].key, Value.int IntKind.i64 es[k].val, Value.bool es[k].gone] 107)) := hb.alloc hb.size _
       obtain ⟨b', off', he, _, _, hc3, hc4, hc6⟩ := hr.edt hb2 (show k - 1 < es.length by omega)
       obtain ⟨rfl, rfl⟩ : b = b' ∧ off = off' := by simpa using he
       have hbl4 := Nat.lt_of_lt_of_le hbl hb2.size
       generalize wr.alloc (Obj.cells #[Value.string es[k].key, Value.int IntKind.i64 es[k].val, Value.bool es[k].gone] 107) = w2 at *
       generalize wr.heap.size = p at *
       have hA0 := fun y : Aft w2 => y.cell hpl hcL0
       have hA1 := fun y : Aft w2 => y.cell hpl hcL1
       have hA2 := fun y : Aft w2 => y.cell hpl hcL2
       have hA3 := fun y : Aft w2 => y.cell hbl4 hc3
       have hA4 := fun y : Aft w2 => y.cell hbl4 hc4
       have hA5 := fun y : Aft w2 => y.cell hbl4 hc6
       refine yD (by kernel_rfl) (by kernel_rfl) ?_
       repeat (go_big_quiet_step ((first | (go_at_call 282; exact Aft.call (kL _ _ _ _)) | (go_at_call 98; exact Aft.same (Hcall.out _)))))
       refine wpQuiet_nil ?_
       rintro _ ⟨y, rfl⟩
       have hb3 := uw hb2 y.below
       generalize y.at_ = w3 at *
       go_wp2
       go_roundw
       case rel => exact ⟨k + 1, by omega, by go_num, hstep.out, hb3⟩
       case measure => simp [intOf]; omega
  · have hfin : Hid (jF (kv es) = true) := aEL (fun i hi => Hall.out i (by rw [vH, Hlen.out] at hi; omega))
    go_wp2
    go_ret
    exact ⟨xZ hfin.out.symm, hb⟩
set_option maxHeartbeats 2000000 in
set_option maxRecDepth 100000 in
theorem aBT (A : Option Addr) (n c : Nat) (es : List Edt) (w : World) (hr : Rd w 3 A n (yE es)) (hm : n ≤ maxLen) (hks : ∀ e ∈ es, e.key.size ≤ maxLen) :
 Calls Tryz.prog 61 #[.slice A n c] w fun e w' => e = .returned (.bool (xP es)) ∧ Below w.heap.size w w' := by
 have hm' := hm
 unfold maxLen at hm
 have hlen := hr.elen
 have Hlen := Lib.hid hlen; clear hlen
 by_cases hbig : 6 < n
 · have hfin : Hid (xP es = false) := aAI (by rw [Hlen.out]; exact hbig)
   go_enter Tryz.func61, Tryz.ntmps61
   go_wp2
   go_ret
   exact ⟨xZ hfin.out.symm, Below.refl _ _⟩
 have hn6 : n ≤ 6 := by omega
 clear hbig
 cases ho : jF (kv es) with
 | false =>
  have hfin : Hid (xP es = false) := by show xP es = false; rw [xP, ho]; simp
  have hcall := aAO A n c es w hr hm' hks
  rw [ho] at hcall
  have Hcall := Lib.hid hcall
  clear ho hcall
  go_enter Tryz.func61, Tryz.ntmps61
  go_wp2_with (go_at_call 126; refine Hcall.out.mono ?_; rintro e w1 ⟨rfl, hb1⟩)
  go_ret
  exact ⟨xZ hfin.out.symm, hb1⟩
 | true =>
  have hcall := aAO A n c es w hr hm' hks
  rw [ho] at hcall
  have Hcall := Lib.hid hcall
  have Ho := Lib.hid ho
  clear ho hcall
  go_enter Tryz.func61, Tryz.ntmps61
  go_wp2_with (go_at_call 126; refine Hcall.out.mono ?_; rintro e w1 ⟨rfl, hb1⟩)
  go_loopw [15] (fun i wr => ∃ k : Nat, k ≤ n ∧ i = .int .i64 k ∧ (∀ j, j < k → zi es j = true) ∧ Below w.heap.size w wr) (fun i _ => n - (intOf i).toNat)
  case atStart => exact ⟨0, Nat.zero_le _, rfl, fun j hj => absurd hj (by omega), hb1⟩
  case round =>
   obtain ⟨k, hk, rfl, hall, hb⟩ := hrel
   have Hall := Lib.hid hall; clear hall
   by_cases hlt : k < n
   · have hke : k < es.length := by rw [Hlen.out]; exact hlt
     obtain ⟨b, off, rfl, hbl, hbl2, hc1, hc2, hc3⟩ := hr.edt hb hke
     have hE := aAr es k hke
     generalize es[k] = ek at *
     obtain ⟨k1, v1, g1⟩ := ek
     simp only at hc1 hc2 hc3 hE
     have hcall := fun W => aDp v1 W
     change ∀ W, Calls _ _ _ W fun e w' => e = .returned (.bool (aAy v1)) ∧ W = w' at hcall
     cases hv : aAy v1 with
     | false =>
      have hfin : Hid (xP es = false) := vV hke (by rw [hE, hv]; rfl)
      rw [hv] at hcall
      have Hcall := Lib.hid hcall
      clear hv hcall hE
      go_wp2_with (go_at_call 118; refine (Hcall.out _).mono ?_; rintro e w1 ⟨rfl, rfl⟩)
      go_ret
      exact ⟨xZ hfin.out.symm, hb.alloc hb.size _⟩
     | true =>
      rw [hv] at hcall
      rcases aBR g1 v1 with ⟨rfl, hne⟩ | hgood
      · have hfin : Hid (xP es = false) := vV hke (by rw [hE, hv, decide_eq_false hne]; rfl)
        have hne2 : (v1 != 0) = true := by simpa using hne
        have Hcall := Lib.hid hcall
        clear hv hcall hE
        go_wp2_with (go_at_call 118; refine (Hcall.out _).mono ?_; rintro e w1 ⟨rfl, rfl⟩)
        go_ret
        exact ⟨xZ hfin.out.symm, hb.alloc hb.size _⟩
      have hE1 : Hid (zi es k = true) := by
       rcases hgood with rfl | ⟨rfl, rfl⟩
       · show zi es k = true; rw [hE, hv]; rfl
       · show zi es k = true; rw [hE, hv]; rfl
      have hstep : Hid (∀ j, j < k + 1 → zi es j = true) := fun j hj => by
       rcases Nat.lt_or_ge j k with h | h
       · exact Hall.out j h
       · have : j = k := by omega
         subst this; exact hE1.out
      clear hE hv
      rcases hgood with rfl | ⟨rfl, rfl⟩
      · have Hcall := Lib.hid hcall
        clear hcall
        go_wp2_with (go_at_call 118; refine (Hcall.out _).mono ?_; rintro e w1 ⟨rfl, rfl⟩)
        go_roundw
        case rel => exact ⟨k + 1, by omega, by go_num, hstep.out, hb.alloc hb.size _⟩
        case measure => simp [intOf]; omega
      · have Hcall := Lib.hid hcall
        clear hcall
        go_wp2_with (go_at_call 118; refine (Hcall.out _).mono ?_; rintro e w1 ⟨rfl, rfl⟩)
        go_roundw
        case rel => exact ⟨k + 1, by omega, by go_num, hstep.out, hb.alloc hb.size _⟩
        case measure => simp [intOf]; omega
   · have hfin : Hid (xP es = true) := aBN (by rw [Hlen.out]; exact hn6) (fun i hi => ⟨aEK Ho.out (by rw [vH]; exact hi), Hall.out i (by rw [Hlen.out] at hi; omega)⟩)
     go_wp2
     go_ret
     exact ⟨xZ hfin.out.symm, hb⟩
end Go.Proofs.YtodckioppgjbdaaGreatDoor
namespace Go.Proofs.YtodckioppgjbdaaGreatDoor.AM
open Go Go.RowKit
attribute [local irreducible] xM xR xh y9 zF Pre ACG
end Go.Proofs.YtodckioppgjbdaaGreatDoor.AM
namespace Go.Proofs.YtodckioppgjbdaaGreatDoor.AM
open Go Go.RowKit
attribute [local irreducible] xM xR xh y9 zF Pre ACG
end Go.Proofs.YtodckioppgjbdaaGreatDoor.AM
namespace Go.Proofs.YtodckioppgjbdaaGreatDoor.AM
open Go Go.RowKit
attribute [local irreducible] xM xR xh y9 zF Pre ACG
end Go.Proofs.YtodckioppgjbdaaGreatDoor.AM
namespace Go.Proofs.YtodckioppgjbdaaGreatDoor.AM
open Go Go.RowKit
theorem kY (b : UInt8) : (⟨#[b]⟩ : ByteArray).size = 1 := rfl
def jn (sep : ByteArray) (g : Nat → ByteArray) : Nat → ByteArray
 | 0 => ⟨#[]⟩
 | i + 1 => (if i = 0 then ⟨#[]⟩ else jn sep g i ++ sep) ++ g i
theorem aG3 {sep : ByteArray} {g : Nat → ByteArray} : jn sep g 0 = ⟨#[]⟩ := rfl
theorem aG4 {sep : ByteArray} {g : Nat → ByteArray} : jn sep g (0 + 1) = jn sep g 0 ++ g 0 := rfl
theorem aG5 {sep : ByteArray} {g : Nat → ByteArray} {i : Nat} (h : 0 < i) : jn sep g (i + 1) = (jn sep g i ++ sep) ++ g i := by rw [jn, if_neg (by omega)]
theorem aBW {sep : ByteArray} {g : Nat → ByteArray} {A B : Nat} (hs : sep.size ≤ A) : ∀ {n : Nat}, (∀ i, i < n → (g i).size ≤ B) → (jn sep g n).size ≤ n * (A + B)
 | 0, _ => by rw [aG3]; show 0 ≤ _; exact Nat.zero_le _
 | i + 1, h => by
  have h1 := aBW (sep := sep) (g := g) hs (n := i) (fun k hk => h k (by omega))
  have h2 := h i (by omega)
  rw [Nat.succ_mul]
  by_cases hi : i = 0
  · subst hi
    rw [aG4, ByteArray.size_append, aG3]
    have : (⟨#[]⟩ : ByteArray).size = 0 := rfl
    omega
  · rw [aG5 (by omega), ByteArray.size_append, ByteArray.size_append]
    omega
def zEd : Edt := ⟨⟨#[]⟩, 0, false⟩
def aBq (e : Ent) : ByteArray := (e.1 ++ ⟨#[61]⟩) ++ qM e.2
def zG (e : Edt) : ByteArray := if e.gone = true then ⟨#[33]⟩ ++ e.key else aBq (e.key, e.val)
def wK (l : List Edt) : ByteArray := if l.length = 0 then ⟨#[45]⟩ else jn ⟨#[44]⟩ (fun i => zG ((l[i]?).getD zEd)) l.length
theorem aHX {e : Ent} (h : e.1.size ≤ 12) (h1 : -1000000 ≤ e.2) (h2 : e.2 ≤ 1000000) : (aBq e).size ≤ 27 := by
 unfold aBq
 rw [ByteArray.size_append, ByteArray.size_append, kY]
 have := aBt (n := e.2) (by omega) (by omega)
 omega
def aBo (l : List Edt) : Prop := ∀ e ∈ l, e.key.size ≤ 12 ∧ -1000000 ≤ e.val ∧ e.val ≤ 1000000
theorem jR {l : List Edt} (h : xP l = true) : aBo l := by
 intro e he
 obtain ⟨i, hi, rfl⟩ := List.getElem_of_mem he
 unfold xP at h
 simp only [Bool.and_eq_true] at h
 have h1 := aEK h.2.1 (i := i) (by rw [vH]; exact hi)
 have h2 : zi l i = true := by
  have := h.2.2
  rw [aA4, List.all_eq_true] at this
  exact this i (List.mem_range.2 hi)
 unfold yt at h1
 rw [Bool.and_eq_true, aAP _ _ hi] at h1
 rw [aAr _ _ hi] at h2
 unfold aAy at h2
 simp only [Bool.and_eq_true, decide_eq_true_eq] at h2
 exact ⟨jE h1.1, h2.1.1, h2.1.2⟩
theorem jb {l : List Edt} (h : xP l = true) : l.length ≤ 6 := by
 unfold xP at h
 simp only [Bool.and_eq_true, decide_eq_true_eq] at h
 exact h.1
theorem aBp {e : Edt} (h : e.key.size ≤ 12) (h1 : -1000000 ≤ e.val) (h2 : e.val ≤ 1000000) : (zG e).size ≤ 27 := by
 unfold zG
 split
 · rw [ByteArray.size_append, kY]; omega
 · exact aHX (e := (e.key, e.val)) h h1 h2
theorem aEA {m : List Edt} (h : aBo m) : (wK m).size ≤ 1 + m.length * 28 := by
 unfold wK
 split
 · rw [kY]; omega
 · have := aBW (sep := ⟨#[44]⟩) (g := fun i => zG ((m[i]?).getD zEd)) (A := 1) (B := 27) (n := m.length) (Nat.le_of_eq (kY _)) (fun i hi => by
    obtain ⟨k1, k2, k3⟩ := h _ (List.getElem_mem hi)
    simp only [List.getElem?_eq_getElem hi, Option.getD_some]
    exact aBp k1 k2 k3)
   omega
attribute [local irreducible] xM xR xh y9 zF Pre ACG
set_option maxHeartbeats 4000000 in
theorem aDf {m : List Edt} (hm : m.length ≤ 6) (hk : aBo m) : AC Tryz.prog 65 [.lst 3 (m.map xS)] ⟨.v (.string (wK m)), []⟩ := by
 have e1 : ∀ b : UInt8, (⟨#[b]⟩ : ByteArray).size = 1 := kY
 have c44 := e1 44
 have c61 := e1 61
 have c33 := e1 33
 unfold wK
 by_cases h0 : m.length = 0
 · rw [if_pos h0]
   refine qrf Tryz.func65 Tryz.ntmps65 Tryz.results65 ?_; conv => whnf
   repeat ((refine qz ?_; conv => whnf))
   exact xI rfl trivial
 rw [if_neg h0]
 refine qrf Tryz.func65 Tryz.ntmps65 Tryz.results65 ?_; conv => whnf
 repeat ((refine qz ?_; conv => whnf))
 refine aBb (ι := { i : Nat // i ≤ m.length }) (fun i => ⟨[(0, .lst 3 (m.map xS)), (3, .v (.string (jn ⟨#[44]⟩ (fun i => zG ((m[i]?).getD zEd)) i.1))), (4, .v (.int .i64 (i.1 : Int)))], []⟩) (fun i => m.length - i.1) ⟨0, Nat.zero_le _⟩ (by exact qle) ?_
 rintro ⟨i, hi⟩
 dsimp only
 conv => whnf
 by_cases hlt : i < m.length
 case neg =>
  have e : i = m.length := by omega
  subst e
  repeat ((refine qz ?_; conv => whnf))
  exact xI rfl trivial
 obtain ⟨k1, k2, k3⟩ := hk _ (List.getElem_mem hlt)
 have z1 := aBt (n := (m[i]).val) (by omega) (by omega)
 have c1 := aHq (n := (m[i]).val) (by omega) (by omega)
 have z2 := aBW (sep := ⟨#[44]⟩) (g := fun i => zG ((m[i]?).getD zEd)) (A := 1) (B := 27) (n := i) (Nat.le_of_eq (kY _)) (fun j hj => by
  obtain ⟨k1, k2, k3⟩ := hk _ (List.getElem_mem (by omega : j < m.length))
  simp only [List.getElem?_eq_getElem (by omega : j < m.length), Option.getD_some]
  exact aBp k1 k2 k3)
 have hi12 : i * (1 + 27) ≤ 400 := by omega
 have hT : zG ((m[i]?).getD zEd) = if (m[i]).gone = true then ⟨#[33]⟩ ++ (m[i]).key else ((m[i]).key ++ ⟨#[61]⟩) ++ qM (m[i]).val := by
  simp only [List.getElem?_eq_getElem hlt, Option.getD_some]; rfl
 by_cases hz : i = 0
 · subst hz
   have hs : jn ⟨#[44]⟩ (fun i => zG ((m[i]?).getD zEd)) (0 + 1) = jn ⟨#[44]⟩ (fun i => zG ((m[i]?).getD zEd)) 0 ++ zG ((m[0]?).getD zEd) := aG4
   rw [hT] at hs
   generalize jn ⟨#[44]⟩ (fun i => zG ((m[i]?).getD zEd)) 0 = A at hs z2 ⊢
   repeat (first | (refine qz ?_; conv => whnf) | (refine qp (xA (zV (by first | omega | (simp only [ByteArray.size_append]; omega))) rfl rfl rfl) ?_; conv => whnf))
   cases hg : (m[0]).gone
   all_goals
    rw [hg] at hs
    simp only [if_true, if_false, Bool.false_eq_true] at hs
    conv => whnf
    repeat (first | (refine qz ?_; conv => whnf) | (refine qdr ?_; conv => whnf) | (refine qc (c1) ?_; conv => whnf) | (refine qp (xA (zV (by first | omega | (simp only [ByteArray.size_append]; omega))) rfl rfl rfl) ?_; conv => whnf))
    rw [← hs]
    exact ⟨⟨0 + 1, hlt⟩, by exact qle, by simp; omega⟩
 · have hs : jn ⟨#[44]⟩ (fun i => zG ((m[i]?).getD zEd)) (i + 1) = (jn ⟨#[44]⟩ (fun i => zG ((m[i]?).getD zEd)) i ++ ⟨#[44]⟩) ++ zG ((m[i]?).getD zEd) := aG5 (by omega)
   rw [hT] at hs
   generalize jn ⟨#[44]⟩ (fun i => zG ((m[i]?).getD zEd)) i = A at hs z2 ⊢
   repeat (first | (refine qz ?_; conv => whnf) | (refine qp (xA (zV (by first | omega | (simp only [ByteArray.size_append]; omega))) rfl rfl rfl) ?_; conv => whnf))
   cases hg : (m[i]).gone
   all_goals
    rw [hg] at hs
    simp only [if_true, if_false, Bool.false_eq_true] at hs
    conv => whnf
    repeat (first | (refine qz ?_; conv => whnf) | (refine qdr ?_; conv => whnf) | (refine qc (c1) ?_; conv => whnf) | (refine qp (xA (zV (by first | omega | (simp only [ByteArray.size_append]; omega))) rfl rfl rfl) ?_; conv => whnf))
    rw [← hs]
    exact ⟨⟨i + 1, hlt⟩, by exact qle, by simp; omega⟩
end Go.Proofs.YtodckioppgjbdaaGreatDoor.AM
namespace Go.Proofs
open Go.Shelf
def Tryz.lays156_ren : Go.Shelf.Ren := ⟨fun | 156 => 106 | 165 => 163 | 166 => 164 | 169 => 165 | 240 => 198 | 241 => 199 | 276 => 227 | 277 => 228 | n => n, fun | 31 => 63 | 9 => 9 | 3 => 3 | 4 => 4 | 0 => 0 | 20 => 20 | 72 => 194 | 76 => 198 | 70 => 192 | 37 => 38 | 75 => 197 | 127 => 236 | 164 => 263 | 5 => 5 | 80 => 114 | n => n, fun | n => n⟩
theorem Tryz.lays156 : Go.Proofs.Lays.n156 Tryz.prog Tryz.lays156_ren := {
 mixed := by kernel_rfl
 f156 := Tryz.func106.trans (congrArg some (by kernel_rfl))
 f165 := Tryz.func163.trans (congrArg some (by kernel_rfl))
 f166 := Tryz.func164.trans (congrArg some (by kernel_rfl))
 f169 := Tryz.func165.trans (congrArg some (by kernel_rfl))
 f240 := Tryz.func198.trans (congrArg some (by kernel_rfl))
 f241 := Tryz.func199.trans (congrArg some (by kernel_rfl))
 f276 := Tryz.func227.trans (congrArg some (by kernel_rfl))
 f277 := Tryz.func228.trans (congrArg some (by kernel_rfl))
 t0 := Tryz.underlying0
 a0 := Tryz.isAgg0
 z0 := Tryz.sizeOf0
 v0 := Tryz.zeroValue0
 t3 := Tryz.underlying3
 a3 := Tryz.isAgg3
 z3 := Tryz.sizeOf3
 v3 := Tryz.zeroValue3
 t4 := Tryz.underlying4
 a4 := Tryz.isAgg4
 z4 := Tryz.sizeOf4
 v4 := Tryz.zeroValue4
 t9 := Tryz.underlying9
 a9 := Tryz.isAgg9
 z9 := Tryz.sizeOf9
 v9 := Tryz.zeroValue9
 t20 := Tryz.underlying20
 a20 := Tryz.isAgg20
 z20 := Tryz.sizeOf20
 v20 := Tryz.zeroValue20
 t31 := Tryz.underlying63
 a31 := Tryz.isAgg63
 z31 := Tryz.sizeOf63
 v31 := Tryz.zeroValue63
 t37 := Tryz.underlying38
 a37 := Tryz.isAgg38
 z37 := Tryz.sizeOf38
 v37 := Tryz.zeroValue38
 t70 := Tryz.underlying192
 a70 := Tryz.isAgg192
 z70 := Tryz.sizeOf192
 v70 := Tryz.zeroValue192
 t72 := Tryz.underlying194
 a72 := Tryz.isAgg194
 z72 := Tryz.sizeOf194
 v72 := Tryz.zeroValue194
 t75 := Tryz.underlying197
 a75 := Tryz.isAgg197
 z75 := Tryz.sizeOf197
 v75 := Tryz.zeroValue197
 t76 := Tryz.underlying198
 a76 := Tryz.isAgg198
 z76 := Tryz.sizeOf198
 v76 := Tryz.zeroValue198
 t127 := Tryz.underlying236
 a127 := Tryz.isAgg236
 z127 := Tryz.sizeOf236
 v127 := Tryz.zeroValue236
 t164 := Tryz.underlying263
 a164 := Tryz.isAgg263
 z164 := Tryz.sizeOf263
 v164 := Tryz.zeroValue263 }
theorem Tryz.Builder_Extra_156 : Builder.Extra Tryz.prog Tryz.lays156_ren := {
 sizeBuilder := by kernel_rfl
 liesBuilder := by kernel_rfl
 t5 := Tryz.underlying5
 a5 := Tryz.isAgg5
 z5 := Tryz.sizeOf5
 v5 := Tryz.zeroValue5
 infoByte := by kernel_rfl
 cellsByte := by kernel_rfl
 sizeByte := by kernel_rfl
 neB5 := by decide }
open Go.RowKit in
theorem Tryz.strings_Join_none (a : Option Addr) (c : Nat) (sep : ByteArray) (w : World) :
 Calls Tryz.prog 106 #[.slice a 0 c, .string sep] w fun e w' => e = .returned (.string ⟨#[]⟩) ∧ w' = w := Any.strings_Join_none Tryz.lays156 Tryz.Builder_Extra_156 a c sep w
open Go.RowKit in
theorem Tryz.strings_Join (bk o c : Nat) (xs : List ByteArray) (sep : ByteArray) (w : World) (hcells : ∀ (j : Nat) x, xs[j]? = some x → w.cell? ⟨bk, o + j, none⟩ = some (.string x)) (hbk : bk < w.heap.size) (hN : xs.length ≤ 140737488355328) (hcap : xs.length ≤ c) (hlen : (Lib.join (xs.map (·.data.toList)) sep.data.toList).length ≤ 140737488355328) :
 Calls Tryz.prog 106 #[.slice (some ⟨bk, o, none⟩) xs.length c, .string sep] w fun e w' => e = .returned (.string ⟨(Lib.join (xs.map (·.data.toList)) sep.data.toList).toArray⟩) ∧ Below w.heap.size w w' := Any.strings_Join Tryz.lays156 Tryz.Builder_Extra_156 bk o c xs sep w hcells hbk hN hcap hlen
def Tryz.laysM171_ren : Go.Shelf.Ren := ⟨fun | 171 => 78 | 243 => 139 | 246 => 189 | 283 => 218 | 284 => 219 | 285 => 220 | 286 => 221 | 129 => 246 | 317 => 245 | 318 => 247 | 319 => 248 | 320 => 249 | 337 => 261 | 338 => 262 | n => n, fun | 3 => 3 | 9 => 9 | 2 => 2 | 4 => 4 | 171 => 251 | 0 => 0 | 53 => 252 | 37 => 38 | 5 => 5 | 173 => 255 | 212 => 281 | 51 => 282 | 20 => 20 | 213 => 283 | 46 => 267 | 232 => 311 | 233 => 312 | n => n, fun | 17 => 3 | 18 => 8 | 19 => 9 | n => n⟩
theorem Tryz.laysM171 : Go.Proofs.LaysM.n171 Tryz.prog Tryz.laysM171_ren := {
 mixed := by kernel_rfl
 f129 := Tryz.func246.trans (congrArg some (by kernel_rfl))
 f171 := Tryz.func78.trans (congrArg some (by kernel_rfl))
 f243 := Tryz.func139.trans (congrArg some (by kernel_rfl))
 f246 := Tryz.func189.trans (congrArg some (by kernel_rfl))
 f283 := Tryz.func218.trans (congrArg some (by kernel_rfl))
 f284 := Tryz.func219.trans (congrArg some (by kernel_rfl))
 f285 := Tryz.func220.trans (congrArg some (by kernel_rfl))
 f286 := Tryz.func221.trans (congrArg some (by kernel_rfl))
 f317 := Tryz.func245.trans (congrArg some (by kernel_rfl))
 f318 := Tryz.func247.trans (congrArg some (by kernel_rfl))
 f319 := Tryz.func248.trans (congrArg some (by kernel_rfl))
 f320 := Tryz.func249.trans (congrArg some (by kernel_rfl))
 f337 := Tryz.func261.trans (congrArg some (by kernel_rfl))
 f338 := Tryz.func262.trans (congrArg some (by kernel_rfl))
 t0 := Tryz.underlying0
 a0 := Tryz.isAgg0
 z0 := Tryz.sizeOf0
 v0 := Tryz.zeroValue0
 t2 := Tryz.underlying2
 a2 := Tryz.isAgg2
 z2 := Tryz.sizeOf2
 v2 := Tryz.zeroValue2
 t3 := Tryz.underlying3
 a3 := Tryz.isAgg3
 z3 := Tryz.sizeOf3
 v3 := Tryz.zeroValue3
 t4 := Tryz.underlying4
 a4 := Tryz.isAgg4
 z4 := Tryz.sizeOf4
 v4 := Tryz.zeroValue4
 t5 := Tryz.underlying5
 a5 := Tryz.isAgg5
 z5 := Tryz.sizeOf5
 v5 := Tryz.zeroValue5
 t9 := Tryz.underlying9
 a9 := Tryz.isAgg9
 z9 := Tryz.sizeOf9
 v9 := Tryz.zeroValue9
 t20 := Tryz.underlying20
 a20 := Tryz.isAgg20
 z20 := Tryz.sizeOf20
 v20 := Tryz.zeroValue20
 t37 := Tryz.underlying38
 a37 := Tryz.isAgg38
 z37 := Tryz.sizeOf38
 v37 := Tryz.zeroValue38
 t46 := Tryz.underlying267
 a46 := Tryz.isAgg267
 z46 := Tryz.sizeOf267
 v46 := Tryz.zeroValue267
 t51 := Tryz.underlying282
 a51 := Tryz.isAgg282
 z51 := Tryz.sizeOf282
 v51 := Tryz.zeroValue282
 t53 := Tryz.underlying252
 a53 := Tryz.isAgg252
 z53 := Tryz.sizeOf252
 v53 := Tryz.zeroValue252
 t171 := Tryz.underlying251
 a171 := Tryz.isAgg251
 z171 := Tryz.sizeOf251
 v171 := Tryz.zeroValue251
 t173 := Tryz.underlying255
 a173 := Tryz.isAgg255
 z173 := Tryz.sizeOf255
 v173 := Tryz.zeroValue255
 t212 := Tryz.underlying281
 a212 := Tryz.isAgg281
 z212 := Tryz.sizeOf281
 v212 := Tryz.zeroValue281
 t213 := Tryz.underlying283
 a213 := Tryz.isAgg283
 z213 := Tryz.sizeOf283
 t232 := Tryz.underlying311
 a232 := Tryz.isAgg311
 z232 := Tryz.sizeOf311
 v232 := Tryz.zeroValue311
 t233 := Tryz.underlying312
 a233 := Tryz.isAgg312
 z233 := Tryz.sizeOf312
 v233 := Tryz.zeroValue312
 g17 := by kernel_rfl
 g18 := by kernel_rfl
 g19 := by kernel_rfl
 i0 := by kernel_rfl
 i2 := by kernel_rfl
 i3 := by kernel_rfl
 i4 := by kernel_rfl
 i5 := by kernel_rfl
 i9 := by kernel_rfl
 i20 := by kernel_rfl
 i37 := by kernel_rfl
 i46 := by kernel_rfl
 i51 := by kernel_rfl
 i53 := by kernel_rfl
 i171 := by kernel_rfl
 i173 := by kernel_rfl
 i212 := by kernel_rfl
 i232 := by kernel_rfl
 i233 := by kernel_rfl
 m17 := by kernel_rfl
 m18 := by kernel_rfl
 m19 := by kernel_rfl }
open Go.RowKit Go.Sort Go.Lib in
theorem Tryz.strconv_Itoa (n : Int) (h0 : -9223372036854775808 ≤ n) (h1 : n ≤ 9223372036854775807) (w : World) (htab : Lib.TabIs Tryz.prog w "internal/strconv.uint64pow10" .u64 Lib.pow10Tab) :
 Calls Tryz.prog 78 #[.int .i64 n] w fun e w' => e = .returned (.string ⟨(Lib.itoa n).toArray⟩) ∧ ∃ k os, w' = grow (w.drewN k) os := Any.strconv_Itoa Tryz.laysM171 n h0 h1 w htab
end Go.Proofs
namespace Go.Proofs.YtodckioppgjbdaaGreatDoor.AM
open Go Go.RowKit
theorem aDu {P : Program} {f : FuncId} {args : List AV} {v : Value} (hent : ∀ vs w, (callFunc f vs).run P w = .ok (.enter f vs) w) (hv : v.oneCell' = true)
 (h : ∀ (w : World) (S0 : Nat → Prop) (us : List Value), (∀ b, S0 b → b < w.heap.size) → (∀ g y, GT g = some y → RG S0 w g y) → RVs S0 w (fun _ => none) (fun _ => 0) (fun _ => undef) args us → Calls P f us.toArray w fun e w' => e = .returned v ∧ Below w.heap.size w w') : AC P f args ⟨.v v, []⟩ := by
 refine ⟨hent, fun w S0 B0 V0 T0 vs hS hG _ hv' => (h w S0 vs hS hG (qg (fun _ => rfl) hv')).mono fun e w' ⟨he, hb⟩ => ?_⟩
 exact ⟨v, S0, fun _ => 0, fun _ => undef, fun _ => Fa, fun _ => Fa, he, Grown.of hb _, fun _ h => h, fun b hb' => ⟨Nat.lt_of_lt_of_le (hS b hb') hb.size, .inl hb'⟩, (by unfold RV; exact ⟨rfl, hv⟩), wE aA7, wE (fun _ => rfl), fun l l' ob ob' g e => by rw [aA7] at e; cases e⟩
theorem aCp {α : Type} (f : α → Value) : ∀ (l : List α), asz (.agg (l.map fun x => .v (f x))) = l.length
 | [] => rfl
 | x :: l => by
  have h2 : xB (l.map fun x => .v (f x)) = l.length := aCp f l
  rw [List.map_cons]
  show 1 + xB _ = _
  rw [h2, List.length_cons]; omega
theorem aI7 {P : Program} {S0 : Nat → Prop} {w : World} {g : Nat} {name : String} {k : IntKind} {zs : List Int} (hg : P.globalNamed name = some g) (h : RG S0 w g (.agg (zs.map fun x => .v (.int k x)))) : Lib.TabIs P w name k zs := by
 have h1 := h.ra rfl
 obtain ⟨cs, t, p, hb, hn⟩ := h.full
 unfold Lib.TabIs World.var?
 rw [hg]
 simp only [Option.bind_some, hb, Option.some.injEq]
 unfold RA at h1
 obtain ⟨b, off, us, e, _, h2, h3⟩ := h1
 simp only [List.cons.injEq, Value.pointer.injEq, Option.some.injEq, Addr.mk.injEq, and_true] at e
 obtain ⟨rfl, rfl⟩ := e
 unfold RA at h2
 have hus : us = zs.map fun z => Value.int k z := by
  clear h3 hn h
  induction zs generalizing us with
  | nil => unfold List.map RL at h2; exact h2
  | cons z zs ih =>
   rw [List.map_cons] at h2
   unfold RL at h2
   obtain ⟨c1, c2, rfl, k1, k2⟩ := h2
   unfold RA at k1
   rw [k1.1, ih _ k2]; rfl
 subst hus
 have hsz : cs.size = zs.length := by
  have hn' : cs.size = asz (.agg (zs.map fun x => .v (.int k x))) := hn
  rw [hn', aCp]
 apply Array.ext
 · simp [hsz]
 · intro i hi hi2
   have hi3 : i < zs.length := by omega
   have := h3 i (.int k zs[i]) (by rw [List.getElem?_map, List.getElem?_eq_getElem hi3]; rfl)
   rw [Nat.zero_add, Lib.cell_of_heap hb] at this
   rw [Array.getElem?_eq_getElem hi, Option.some.injEq] at this
   rw [this]; simp
theorem aCy : ∀ (n : Nat), Lib.decDigits n = ja n := fun n => by
 induction n using Nat.strongRecOn with
 | _ n ih =>
  rw [Lib.decDigits, ja]
  by_cases h : n < 10
  · rw [dif_pos h, dif_pos h]
  · rw [dif_neg h, dif_neg h, ih (n / 10) (by omega)]
theorem aIK {n : Int} : (⟨(Lib.itoa n).toArray⟩ : ByteArray) = qM n := by
 unfold Lib.itoa qM
 split
 · rw [aCy]
   apply ByteArray.ext
   rw [ByteArray.data_append]
   unfold j6
   have : n.natAbs = (-n).toNat := by omega
   rw [this]; simp
 · rw [aCy]; rfl
theorem aID : ∀ vs w, (callFunc 78 vs).run Tryz.prog w = .ok (.enter 78 vs) w := wm Tryz.func78 (by kernel_rfl) (by kernel_rfl)
theorem aHT {n : Int} (h0 : -1000000000000 ≤ n) (h1 : n ≤ 1000000000000) : AC Tryz.prog 78 [.v (.int .i64 n)] ⟨.v (.string (qM n)), []⟩ := by
 refine aDu aID rfl fun w S0 us hS hG hv => ?_
 obtain ⟨u, rfl, h2⟩ := aAX hv
 unfold RV at h2
 obtain ⟨rfl, _⟩ := h2
 have htab : Lib.TabIs Tryz.prog w "internal/strconv.uint64pow10" .u64 Lib.pow10Tab := by
  rw [show Lib.pow10Tab = p10L from by decide]
  exact aI7 (g := 3) (by kernel_rfl) (hG _ _ rfl)
 refine (Tryz.strconv_Itoa n (by omega) (by omega) w htab).mono ?_
 rintro e w' ⟨rfl, k, os, rfl⟩
 rw [aIK]
 exact ⟨rfl, Lib.below_grow _ w (Nat.le_refl _) k os⟩
theorem aBV {sep : ByteArray} {g g' : Nat → ByteArray} : ∀ {n : Nat}, (∀ i, i < n → g i = g' i) → jn sep g n = jn sep g' n
 | 0, _ => rfl
 | i + 1, h => by
  rw [jn, jn, h i (by omega), aBV (n := i) (fun k hk => h k (by omega))]
theorem inter_snoc {sep : List UInt8} : ∀ {xs : List (List UInt8)} {x : List UInt8}, xs ≠ [] → sep.intercalate (xs ++ [x]) = (sep.intercalate xs ++ sep) ++ x
 | [], x, h => absurd rfl h
 | [y], x, _ => by simp [List.intercalate]
 | y :: z :: r, x, _ => by
  have := inter_snoc (sep := sep) (xs := z :: r) (x := x) (by simp)
  simp only [List.intercalate, List.cons_append, List.intersperse_cons_cons, List.flatten_cons, List.append_assoc] at this ⊢
  rw [this]
theorem aIM {sep : ByteArray} (xs : List ByteArray) : (⟨(Lib.join (xs.map (·.data.toList)) sep.data.toList).toArray⟩ : ByteArray) = jn sep (fun i => (xs[i]?).getD ⟨#[]⟩) xs.length := by
 unfold Lib.join
 induction h : xs.length generalizing xs with
 | zero =>
  obtain rfl := List.eq_nil_of_length_eq_zero h
  rfl
 | succ n ih =>
  obtain ⟨ys, y, rfl⟩ : ∃ ys y, xs = ys ++ [y] := ⟨xs.dropLast, xs.getLast (by intro e; subst e; simp at h), (List.dropLast_concat_getLast _).symm⟩
  have hn : ys.length = n := by simpa using h
  have h1 := ih ys hn
  have h2 : jn sep (fun i => ((ys ++ [y])[i]?).getD ⟨#[]⟩) n = jn sep (fun i => (ys[i]?).getD ⟨#[]⟩) n := aBV fun i hi => by rw [List.getElem?_append_left (by omega)]
  have h3 : ((ys ++ [y])[n]?).getD ⟨#[]⟩ = y := by rw [List.getElem?_append_right (by omega), hn]; simp
  rw [jn, h2, h3, ← h1]
  by_cases h0 : n = 0
  · subst h0
    obtain rfl := List.eq_nil_of_length_eq_zero hn
    rw [if_pos rfl]
    apply ByteArray.ext
    simp [List.intercalate]
  · rw [if_neg h0, List.map_append, List.map_cons, List.map_nil, inter_snoc (by intro e; rw [List.map_eq_nil_iff] at e; subst e; exact h0 hn.symm)]
    apply ByteArray.ext
    simp [ByteArray.data_append]
theorem aEU {S : Nat → Prop} {w : World} : ∀ {l : List ByteArray} {us : List Value}, RL S w (l.map vL) us → us = l.map Value.string
 | [], us, h => by unfold List.map RL at h; exact h
 | x :: l, us, h => by
  rw [List.map_cons] at h
  unfold RL at h
  obtain ⟨c1, c2, rfl, k1, k2⟩ := h
  unfold vL RA at k1
  rw [k1.1, aEU k2]; rfl
theorem aHY : ∀ vs w, (callFunc 106 vs).run Tryz.prog w = .ok (.enter 106 vs) w := wm Tryz.func106 (by kernel_rfl) (by kernel_rfl)
theorem aDt {sep : ByteArray} {xs : List ByteArray} (hx : xs.length ≤ 100000) (hs : (jn sep (fun i => (xs[i]?).getD ⟨#[]⟩) xs.length).size ≤ 100000000000) : AC Tryz.prog 106 [.lst 1 (xs.map vL), .v (.string sep)] ⟨.v (.string (jn sep (fun i => (xs[i]?).getD ⟨#[]⟩) xs.length)), []⟩ := by
 refine aDu aHY rfl fun w S0 us hS hG hv => ?_
 unfold RVs at hv
 obtain ⟨u, us, rfl, h1, hv⟩ := hv
 obtain ⟨u2, rfl, h2⟩ := aAX hv
 unfold RV at h2
 obtain ⟨rfl, _⟩ := h2
 unfold RV RA at h1
 obtain ⟨A, c, e, hc, _, _, _, h4⟩ := h1
 simp only [List.cons.injEq, and_true] at e
 subst e
 rw [List.length_map] at hc ⊢
 rw [← aIM] at hs ⊢
 have hl : (Lib.join (xs.map (·.data.toList)) sep.data.toList).length ≤ 100000000000 := by
  have : (⟨(Lib.join (xs.map (·.data.toList)) sep.data.toList).toArray⟩ : ByteArray).size = (Lib.join (xs.map (·.data.toList)) sep.data.toList).length := by simp [ByteArray.size]
  omega
 by_cases hn : xs = []
 · subst hn
   refine (Tryz.strings_Join_none A c sep w).mono ?_
   rintro e w' ⟨rfl, rfl⟩
   exact ⟨rfl, Below.refl _ _⟩
 · rcases h4 with h4 | ⟨b, off, us, rfl, hb, hr, hcell⟩
   · exact absurd (List.map_eq_nil_iff.1 h4) hn
   · have hus := aEU hr
     subst hus
     refine (Tryz.strings_Join b off c xs sep w (fun j x hj => hcell j _ (by rw [List.getElem?_map, hj]; rfl)) (hS b hb) (by omega) hc (by omega)).mono ?_
     rintro e w' ⟨rfl, hbel⟩
     exact ⟨rfl, hbel⟩
theorem aF9 : ∀ vs w, (callFunc 64 vs).run Tryz.prog w = .ok (.enter 64 vs) w := wm Tryz.func64 (by kernel_rfl) (by kernel_rfl)
theorem yH {es : List Edt} {b : Bool} (hb : xP es = b) (hm : es.length ≤ maxLen) (hk : ∀ e ∈ es, e.key.size ≤ maxLen) : AC Tryz.prog 64 [.lst 3 (es.map xS)] ⟨.v (.bool b), []⟩ :=
 hb ▸ aAF aF9 rfl fun w S0 vs hS hv => by
  obtain ⟨u, rfl, h1⟩ := aAX hv
  obtain ⟨A, c, rfl, _, _, hr⟩ := kX hS h1
  exact aDJ A es.length c es w hr hm hk
theorem aF8 : ∀ vs w, (callFunc 61 vs).run Tryz.prog w = .ok (.enter 61 vs) w := wm Tryz.func61 (by kernel_rfl) (by kernel_rfl)
theorem qE {es : List Edt} {b : Bool} (hb : xP es = b) (hm : es.length ≤ maxLen) (hk : ∀ e ∈ es, e.key.size ≤ maxLen) : AC Tryz.prog 61 [.lst 3 (es.map xS)] ⟨.v (.bool b), []⟩ :=
 hb ▸ aAF aF8 rfl fun w S0 vs hS hv => by
  obtain ⟨u, rfl, h1⟩ := aAX hv
  obtain ⟨A, c, rfl, _, _, hr⟩ := kX hS h1
  exact aBT A es.length c es w hr hm hk
theorem uJ {P : Program} {t : TypeId} {x y : Operand} {k : IntKind} {a b : Int} : yg P .eql t x y (.int k a) (.int k b) (.bool (decide (a = b))) := by
 by_cases h : a = b
 · rw [decide_eq_true h]; exact aBG h
 · rw [decide_eq_false h]; exact aBF h
theorem zb {P : Program} {t : TypeId} {x y : Operand} {a b : ByteArray} : yg P .eql t x y (.string a) (.string b) (.bool (decide (a = b))) := by
 by_cases h : a = b
 · rw [decide_eq_true h]; exact yo h
 · rw [decide_eq_false h]; exact yj h
abbrev eB : ByteArray := ⟨#[]⟩
def opB (o : Opr) : Bool :=
 okN o.name && (if o.kind = 1 ∨ o.kind = 4 then decide (1 ≤ o.frm ∧ o.frm ≤ 60) && (decide (o.key = eB) && decide (o.edits.length = 0))
  else if o.kind = 3 then decide (0 ≤ o.frm ∧ o.frm ≤ 60) && (decide (o.key = eB) && xP o.edits)
  else if o.kind = 5 then decide (o.frm = 0) && (okN o.key && decide (o.edits.length = 0))
  else if o.kind = 2 ∨ o.kind = 6 then decide (o.frm = 0) && (decide (o.key = eB) && decide (o.edits.length = 0))
  else false)
theorem aDi {es : List Edt} (h : es.length = 0) : xP es = true := by
 have := List.eq_nil_of_length_eq_zero h
 subst this; rfl
attribute [local irreducible] xM xR xh y9 zF Pre ACG
theorem aE3 {e : Ent} (h : e.1.size ≤ 12) (h1 : -1000000 ≤ e.2) (h2 : e.2 ≤ 1000000) : AC Tryz.prog 120 [aGW e] ⟨.v (.string (aBq e)), []⟩ := by
 have c1 := aHT (n := e.2) (by omega) (by omega)
 have hs := aBt (n := e.2) (by omega) (by omega)
 have e1 : (⟨#[61]⟩ : ByteArray).size = 1 := rfl
 unfold aBq
 refine qrf Tryz.func120 Tryz.ntmps120 Tryz.results120 ?_; conv => whnf
 repeat (first | (refine qz ?_; conv => whnf) | (refine qc (c1) ?_; conv => whnf) | (refine qp (xA (zV (by first | omega | (simp only [ByteArray.size_append]; omega))) rfl rfl rfl) ?_; conv => whnf) | (refine qdr ?_; conv => whnf))
 exact xI rfl trivial
theorem aE2 {e : Edt} (h : e.key.size ≤ 12) (h1 : -1000000 ≤ e.val) (h2 : e.val ≤ 1000000) : AC Tryz.prog 63 [xS e] ⟨.v (.string (zG e)), []⟩ := by
 have c1 := aE3 (e := (e.key, e.val)) h h1 h2
 have e1 : (⟨#[33]⟩ : ByteArray).size = 1 := rfl
 unfold zG
 cases hg : e.gone with
 | true =>
  have he : xS e = .agg [.v (.string e.key), .v (.int .i64 e.val), .v (.bool true)] := by unfold xS; rw [hg]
  rw [he]
  rw [if_pos rfl]
  refine qrf Tryz.func63 Tryz.ntmps63 Tryz.results63 ?_; conv => whnf
  repeat (first | (refine qz ?_; conv => whnf) | (refine qp (xA (zV (by first | omega | (simp only [ByteArray.size_append]; omega))) rfl rfl rfl) ?_; conv => whnf) | (refine qdr ?_; conv => whnf))
  exact xI rfl trivial
 | false =>
  have he : xS e = .agg [.v (.string e.key), .v (.int .i64 e.val), .v (.bool false)] := by unfold xS; rw [hg]
  rw [he]
  rw [if_neg (by decide)]
  refine qrf Tryz.func63 Tryz.ntmps63 Tryz.results63 ?_; conv => whnf
  repeat ((first | refine qz ?_ | refine qc (c1) ?_ | refine qst ?_ | refine qdr ?_); conv => whnf)
  exact xI rfl trivial
theorem aFe {α : Type} {sep : ByteArray} {f : α → ByteArray} {z : α} (l : List α) : jn sep (fun i => ((l.map f)[i]?).getD ⟨#[]⟩) (l.map f).length = jn sep (fun i => f ((l[i]?).getD z)) l.length := by
 rw [List.length_map]
 exact aBV fun i hi => by rw [List.getElem?_map, List.getElem?_eq_getElem hi]; rfl
theorem aC8 {es : List Edt} (hm : es.length ≤ 4096) (hk : aBo es) : AC Tryz.prog 127 [.lst 3 (es.map xS), .fn 63 [] []] ⟨.v (.string (jn ⟨#[44]⟩ (fun i => zG ((es[i]?).getD zEd)) es.length)), []⟩ := by
 have hsz : (jn ⟨#[44]⟩ (fun i => zG ((es[i]?).getD zEd)) es.length).size ≤ es.length * (1 + 27) := aBW (by rw [kY]; omega) fun i hi => by
  rw [List.getElem?_eq_getElem hi]
  obtain ⟨p1, p2, p3⟩ := hk _ (List.getElem_mem hi)
  exact aBp p1 p2 p3
 have hj := aDt (sep := ⟨#[44]⟩) (xs := es.map zG) (by rw [List.length_map]; omega) (by rw [aFe (z := zEd)]; omega)
 rw [aFe (z := zEd)] at hj
 obtain ⟨hsl⟩ : Nonempty ((es.map zG).length = es.length) := ⟨by rw [List.length_map]⟩
 generalize jn ⟨#[44]⟩ (fun i => zG ((es[i]?).getD zEd)) es.length = R at *
 have hgt : ∀ k (h : k < es.length), (es.map zG)[k]? = some (zG es[k]) := fun k h => by rw [List.getElem?_map, List.getElem?_eq_getElem h]; rfl
 generalize hE : es.map zG = E at *
 refine qrf Tryz.func127 Tryz.ntmps127 Tryz.results127 ?_; conv => whnf
 repeat (first | (refine qz ?_; conv => whnf) | (refine qr (aIS (n := es.length) (by omega) (by omega) (by simp; rfl) (by simp; rfl) rfl rfl) ?_; conv => whnf))
 have hrow : List.replicate es.length (AV.v (.string ByteArray.empty)) = (E.take 0 ++ List.replicate (E.length - 0) ByteArray.empty).map vL := by simp [hsl, vL]
 refine aBb (ι := { k : Nat // k ≤ es.length }) (fun k => ⟨[(0, .lst 3 (es.map xS)), (1, .fn 63 [] []), (5, .own 11), (11, .lst 3 (es.map xS)), (12, .v (.int .i64 (es.length : Int))), (13, .v (.int .i64 (k.1 : Int)))], [(11, ⟨9, 1, (E.take k.1 ++ List.replicate (E.length - k.1) ByteArray.empty).map vL⟩)]⟩) (fun k => es.length - k.1) ⟨0, Nat.zero_le _⟩ ⟨⟨congrArg (fun x => some (OB.mk _ _ x)) hrow, trivial⟩, .inl ⟨rfl, rfl⟩, .inl ⟨rfl, rfl⟩, .inl ⟨rfl, rfl⟩, .inl ⟨rfl, rfl⟩, .inl ⟨rfl, rfl⟩, .inl ⟨rfl, rfl⟩, trivial⟩ ?_
 rintro ⟨k, hk'⟩
 dsimp only
 conv => whnf
 by_cases hlt : k < es.length
 · have hlt' : k < E.length := by omega
   have hlt2 : k < (E.take k ++ List.replicate (E.length - k) ByteArray.empty).length := by simp; omega
   have hset := congrArg (List.map vL) (aGY E ByteArray.empty k hlt')
   have hgk : E[k] = zG es[k] := by have := hgt k hlt; rw [List.getElem?_eq_getElem hlt'] at this; exact Option.some.inj this
   rw [List.map_set, hgk] at hset
   obtain ⟨p1, p2, p3⟩ := hk _ (List.getElem_mem hlt)
   have hac := aE2 p1 p2 p3
   repeat ((first | refine qz ?_ | refine qp (wz (by simpa using hlt2) rfl rfl rfl rfl rfl) ?_ | refine qr (aAv (aGZ _ hlt2) rfl rfl rfl rfl rfl rfl) ?_ | refine qst ?_ | refine qdr ?_ | refine qr (aEN hac rfl rfl (.inl rfl) trivial rfl rfl) ?_); conv => whnf)
   exact ⟨⟨k + 1, hlt⟩, ⟨⟨congrArg (fun x => some (OB.mk _ _ x)) hset, trivial⟩, .inl ⟨rfl, rfl⟩, .inl ⟨rfl, rfl⟩, .inl ⟨rfl, rfl⟩, .inl ⟨rfl, rfl⟩, .inl ⟨rfl, rfl⟩, .inl ⟨rfl, rfl⟩, trivial⟩, by simp; omega⟩
 · have hkk : k = es.length := by omega
   subst hkk
   have hfin : (E.take es.length ++ List.replicate (E.length - es.length) ByteArray.empty).map vL = E.map vL := by rw [← hsl, List.take_length, Nat.sub_self, List.replicate_zero, List.append_nil]
   rw [hfin]
   repeat ((first | refine qz ?_ | refine qc (hj) ?_); conv => whnf)
   exact xI rfl trivial
theorem aBB {es : List Edt} (hm : es.length ≤ 4096) (hk : aBo es) : AC Tryz.prog 62 [.lst 3 (es.map xS), .fn 63 [] []] ⟨.v (.string (wK es)), []⟩ := by
 have hj := aC8 hm hk
 unfold wK
 by_cases h0 : es.length = 0
 · rw [if_pos h0]
   refine qrf Tryz.func62 Tryz.ntmps62 Tryz.results62 ?_; conv => whnf
   repeat ((refine qz ?_; conv => whnf))
   exact xI rfl trivial
 · rw [if_neg h0]
   refine qrf Tryz.func62 Tryz.ntmps62 Tryz.results62 ?_; conv => whnf
   repeat ((first | refine qz ?_ | refine qc (hj) ?_); conv => whnf)
   exact xI rfl trivial
end Go.Proofs.YtodckioppgjbdaaGreatDoor.AM
namespace Go.Proofs.YtodckioppgjbdaaGreatDoor.AM
open Go Go.RowKit Go.ChangeShapes Go.WideShapes Go.Deep
structure Wsh where
 kind : Int
 name : ByteArray
 source : ByteArray
 key : ByteArray
 edits : List Edt
structure Mom where
 client : Int
 wish : Int
 step : Int
 op : Opr
 res : Rst
def uY (w : Wsh) : AV := .agg [.v (.int .i64 w.kind), .v (.string w.name), .v (.string w.source), .v (.string w.key), .lst 3 (w.edits.map xS)]
def Wsh.ok (o : Wsh) (N : Nat) : Prop := o.name.size ≤ N ∧ o.source.size ≤ N ∧ o.key.size ≤ N ∧ o.edits.length ≤ N ∧ ∀ e ∈ o.edits, e.key.size ≤ N
section
variable {S : Nat → Prop} {w : World}
end
section
variable {H : Type} {enc : TypeId × Value → H} {P : Program} {w : World} {base : Nat} {held : Bool}
theorem open_wsh {t : TypeId} {f0 f1 f2 f3 f4 g0 g1 g2 : Field} {ee : TypeId} {cs : Array Value} {d : DataW H} {p : List MemPlace} (ht : P.underlying t = some (.struct #[f0, f1, f2, f3, f4])) (hone : oneCellFields P #[f0, f1, f2, f3, f4] = true) (hC : P.cellsOf t = 5)
 (h0 : P.underlying f0.type = some (.int .i64)) (h1 : P.underlying f1.type = some .string) (h2 : P.underlying f2.type = some .string) (h3 : P.underlying f3.type = some .string) (h4 : P.underlying f4.type = some (.slice ee))
 (he : P.underlying ee = some (.struct #[g0, g1, g2])) (hone1 : oneCellFields P #[g0, g1, g2] = true) (hC1 : P.cellsOf ee = 3) (k0 : P.underlying g0.type = some .string) (k1 : P.underlying g1.type = some (.int .i64)) (k2 : P.underlying g2.type = some .bool)
 (h : DataW.Trod enc P w base (fun _ => true) held t (.agg cs) d p) : ∃ o : Wsh, (∀ hp B V, RV (InW w) w hp B V (uY o) (.agg cs)) ∧ o.ok maxLen := by
 obtain ⟨hl, k, hk⟩ := aG9 ht hone hC h
 obtain ⟨v0, y0, c0, t0⟩ := hk 0 f0 rfl
 obtain ⟨v1, y1, c1, t1⟩ := hk 1 f1 rfl
 obtain ⟨v2, y2, c2, t2⟩ := hk 2 f2 rfl
 obtain ⟨v3, y3, c3, t3⟩ := hk 3 f3 rfl
 obtain ⟨v4, y4, c4, t4⟩ := hk 4 f4 rfl
 obtain ⟨x0, hx0, _, _⟩ := DataW.trod_int h0 t0
 obtain ⟨s1, hs1, _, hz1⟩ := DataW.trod_string h1 t1
 obtain ⟨s2, hs2, _, hz2⟩ := DataW.trod_string h2 t2
 obtain ⟨s3, hs3, _, hz3⟩ := DataW.trod_string h3 t3
 simp at hx0 hs1 hs2 hs3
 subst hx0 hs1 hs2 hs3
 obtain ⟨A1, n1, c1', rfl⟩ := aFo h4 t4
 have T1 := aHm rfl t4
 obtain ⟨es, hrd, hm, hks⟩ := aFq h4 he hone1 hC1 k0 k1 k2 T1
 have hra := aHe (hp := fun _ => none) (B := fun _ => 0) (V := fun _ => undef) (aGa h4 T1) hrd
 unfold RV at hra
 refine ⟨⟨x0, s1, s2, s3, es⟩, fun hp B V => ?_, hz1, hz2, hz3, Nat.le_trans (Nat.le_of_eq hrd.elen) hm, hks⟩
 exact aI0 (aIj (by simpa using hl) c0 c1 c2 c3 c4) (ul (c1 := [_]) (qf rfl) (ul (c1 := [_]) (qf rfl) (ul (c1 := [_]) (qf rfl) (ul (c1 := [_]) (qf rfl) (ul (c1 := [_]) hra aD1)))))
end
end Go.Proofs.YtodckioppgjbdaaGreatDoor.AM
