/- Texts of the machine over data, folded. -/
import Derived.Test.YtodckioppgjbdaaGreatDoorKd7
import Derived.Test.YtodckioppgjbdaaGreatDoorKd6
import Derived.Test.YtodckioppgjbdaaGreatDoorKd5
import Derived.Shelf.Strings.OnBuilder
import Derived.Shelf.Small.Wraps
import Derived.Shelf.LaysM
import Derived.Shelf.Strconv.Itoa3
import Derived.Shelf.Strconv.Clone
import Derived.Shelf.LaysC
import Derived.Shelf.Strconv.AtoiAll
import Derived.Shelf.Strconv.ErrVarAll
import Derived.Shelf.Strings.Search2
import Derived.Shelf.Strings.Search3
import Derived.Shelf.Strings.Prefix
import Derived.Shelf.Strings.FieldsFuncAny
import Derived.Test.YtodckioppgjbdaaGreatDoorProg
import Derived.Lib.AppendIntMem
set_option linter.unusedVariables false
set_option linter.unusedSimpArgs false
set_option maxRecDepth 100000
namespace Go.Proofs.YtodckioppgjbdaaGreatDoor
open Go.RowKit
set_option maxHeartbeats 4000000 in
set_option maxRecDepth 100000 in
theorem aAt (A : Option Addr) (n c : Nat) (es : List Edt) (w : World) (hr : Rd w 3 A n (yI es)) (hm : n ≤ maxLen) (hks : ∀ e ∈ es, e.key.size ≤ maxLen) :
 Calls Tryz.prog 64 #[.slice A n c] w fun e w' => e = .returned (.bool (xO es)) ∧ Below w.heap.size w w' := by
 unfold maxLen at hm
 have hlen := hr.elen
 have Hlen := Lib.hid hlen; clear hlen
 by_cases hbig : 6 < n
 · have hfin : Hid (xO es = false) := aAh (by rw [Hlen.out]; exact hbig)
   go_enter Tryz.func64, Tryz.ntmps64
   go_wp2
   go_ret
   exact ⟨xg hfin.out.symm, Below.refl _ _⟩
 have hn6 : n ≤ 6 := by omega
 clear hbig
 go_enter Tryz.func64, Tryz.ntmps64
 go_wp2
 go_loopw [3] (fun i wr => ∃ k : Nat, k ≤ n ∧ i = .int .i64 k ∧ (∀ j, j < k → zJ (kv es) j = true ∧ uL es j = true) ∧ Below w.heap.size w wr) (fun i _ => n - (intOf i).toNat)
 case atStart => exact ⟨0, Nat.zero_le _, rfl, fun j hj => absurd hj (by omega), Below.refl _ _⟩
 case round =>
  obtain ⟨k, hk, rfl, hall, hb⟩ := hrel
  have Hall := Lib.hid hall; clear hall
  by_cases hlt : k < n
  · have hke : k < es.length := by rw [Hlen.out]; exact hlt
    obtain ⟨b, off, rfl, hbl, hbl2, hc1, hc2, hc3⟩ := hr.edt hb hke
    have hsz := hks _ (List.getElem_mem hke)
    have hnoO := aFn es k hke
    have hE := aBj es k hke
    have hz0 : k = 0 → nm es[k].key = true → zJ (kv es) k = true := by rintro rfl h; exact aD0 es hke h
    have hp0 : (h : 0 < k) → nm es[k].key = true → zJ (kv es) k = klt (es[k - 1]'(by omega)).key es[k].key := fun h h2 => aEi es k h hke h2
    generalize es[k] = ek at *
    obtain ⟨k1, v1, g1⟩ := ek
    simp only at hc1 hc2 hc3 hsz hnoO hE hz0 hp0
    have hcall := fun W => aB9 k1 W hsz
    have hcall2 := fun W => aHc v1 (-1000000) 1000000 W
    change ∀ W, Calls _ _ _ W fun e w' => e = .returned (.bool (nm k1)) ∧ W = w' at hcall
    change ∀ W, Calls _ _ _ W fun e w' => e = .returned (.bool (aBt v1)) ∧ W = w' at hcall2
    cases hw : nm k1 with
    | false =>
     have hfin : Hid (xO es = false) := aA5 hke (hnoO hw)
     rw [hw] at hcall
     have Hcall := Lib.hid hcall
     clear hw hcall hcall2 hE hnoO hz0 hp0
     go_wp2
     have hcL0 : (wr.alloc (Obj.cells #[Value.string k1, Value.int IntKind.i64 v1, Value.bool g1] 107)).cell? ⟨wr.heap.size, 0, none⟩ = some (.string k1) := cell_of_row _ _ _ _ _ (0, 0) (heap_alloc_new wr _)
     have hcL1 : (wr.alloc (Obj.cells #[Value.string k1, Value.int IntKind.i64 v1, Value.bool g1] 107)).cell? ⟨wr.heap.size, 1, none⟩ = some (.int .i64 v1) := cell_of_row _ _ _ _ _ (0, 0) (heap_alloc_new wr _)
     have hcL2 : (wr.alloc (Obj.cells #[Value.string k1, Value.int IntKind.i64 v1, Value.bool g1] 107)).cell? ⟨wr.heap.size, 2, none⟩ = some (.bool g1) := cell_of_row _ _ _ _ _ (0, 0) (heap_alloc_new wr _)
     have hpl : wr.heap.size < (wr.alloc (Obj.cells #[Value.string k1, Value.int IntKind.i64 v1, Value.bool g1] 107)).heap.size := by simp
     have hb2 : Below w.heap.size w (wr.alloc (Obj.cells #[Value.string k1, Value.int IntKind.i64 v1, Value.bool g1] 107)) := hb.alloc hb.size _
     generalize wr.alloc (Obj.cells #[Value.string k1, Value.int IntKind.i64 v1, Value.bool g1] 107) = w2 at *
     generalize wr.heap.size = p at *
     have hA0 := fun y : Aft w2 => y.cell hpl hcL0
     have hA1 := fun y : Aft w2 => y.cell hpl hcL1
     have hA2 := fun y : Aft w2 => y.cell hpl hcL2
     refine yA (by kernel_rfl) (by kernel_rfl) ?_
     repeat (go_big_quiet_step ((first | (go_at_call 92; exact Aft.same (Hcall.out _)))))
     refine wpQuiet_nil ?_
     rintro _ ⟨y, rfl⟩
     have hb3 := vM hb2 y.below
     generalize y.at_ = w3 at *
     go_wp2
     go_ret
     exact ⟨xg hfin.out.symm, hb3⟩
    | true =>
    cases hv : aBt v1 with
    | false =>
     have hfin : Hid (xO es = false) := wQ hke (by rw [hE, hv]; rfl)
     rw [hw] at hcall
     rw [hv] at hcall2
     have Hcall := Lib.hid hcall
     have Hcall2 := Lib.hid hcall2
     clear hw hv hcall hcall2 hE hnoO hz0 hp0
     go_wp2
     have hcL0 : (wr.alloc (Obj.cells #[Value.string k1, Value.int IntKind.i64 v1, Value.bool g1] 107)).cell? ⟨wr.heap.size, 0, none⟩ = some (.string k1) := cell_of_row _ _ _ _ _ (0, 0) (heap_alloc_new wr _)
     have hcL1 : (wr.alloc (Obj.cells #[Value.string k1, Value.int IntKind.i64 v1, Value.bool g1] 107)).cell? ⟨wr.heap.size, 1, none⟩ = some (.int .i64 v1) := cell_of_row _ _ _ _ _ (0, 0) (heap_alloc_new wr _)
     have hcL2 : (wr.alloc (Obj.cells #[Value.string k1, Value.int IntKind.i64 v1, Value.bool g1] 107)).cell? ⟨wr.heap.size, 2, none⟩ = some (.bool g1) := cell_of_row _ _ _ _ _ (0, 0) (heap_alloc_new wr _)
     have hpl : wr.heap.size < (wr.alloc (Obj.cells #[Value.string k1, Value.int IntKind.i64 v1, Value.bool g1] 107)).heap.size := by simp
     have hb2 : Below w.heap.size w (wr.alloc (Obj.cells #[Value.string k1, Value.int IntKind.i64 v1, Value.bool g1] 107)) := hb.alloc hb.size _
     generalize wr.alloc (Obj.cells #[Value.string k1, Value.int IntKind.i64 v1, Value.bool g1] 107) = w2 at *
     generalize wr.heap.size = p at *
     have hA0 := fun y : Aft w2 => y.cell hpl hcL0
     have hA1 := fun y : Aft w2 => y.cell hpl hcL1
     have hA2 := fun y : Aft w2 => y.cell hpl hcL2
     refine yA (by kernel_rfl) (by kernel_rfl) ?_
     repeat (go_big_quiet_step ((first | (go_at_call 92; exact Aft.same (Hcall.out _)) | (go_at_call 81; exact Aft.same (Hcall2.out _)))))
     refine wpQuiet_nil ?_
     rintro _ ⟨y, rfl⟩
     have hb3 := vM hb2 y.below
     generalize y.at_ = w3 at *
     go_wp2
     go_ret
     exact ⟨xg hfin.out.symm, hb3⟩
    | true =>
    rw [hw] at hcall
    rw [hv] at hcall2
    rcases aCO g1 v1 with ⟨rfl, hne⟩ | hgood
    · have hfin : Hid (xO es = false) := wQ hke (by rw [hE, hv, decide_eq_false hne]; rfl)
      have hne2 : (v1 != 0) = true := by simpa using hne
      have Hcall := Lib.hid hcall
      have Hcall2 := Lib.hid hcall2
      clear hw hv hcall hcall2 hE hnoO hz0 hp0
      go_wp2
      have hcL0 : (wr.alloc (Obj.cells #[Value.string k1, Value.int IntKind.i64 v1, Value.bool true] 107)).cell? ⟨wr.heap.size, 0, none⟩ = some (.string k1) := cell_of_row _ _ _ _ _ (0, 0) (heap_alloc_new wr _)
      have hcL1 : (wr.alloc (Obj.cells #[Value.string k1, Value.int IntKind.i64 v1, Value.bool true] 107)).cell? ⟨wr.heap.size, 1, none⟩ = some (.int .i64 v1) := cell_of_row _ _ _ _ _ (0, 0) (heap_alloc_new wr _)
      have hcL2 : (wr.alloc (Obj.cells #[Value.string k1, Value.int IntKind.i64 v1, Value.bool true] 107)).cell? ⟨wr.heap.size, 2, none⟩ = some (.bool true) := cell_of_row _ _ _ _ _ (0, 0) (heap_alloc_new wr _)
      have hpl : wr.heap.size < (wr.alloc (Obj.cells #[Value.string k1, Value.int IntKind.i64 v1, Value.bool true] 107)).heap.size := by simp
      have hb2 : Below w.heap.size w (wr.alloc (Obj.cells #[Value.string k1, Value.int IntKind.i64 v1, Value.bool true] 107)) := hb.alloc hb.size _
      generalize wr.alloc (Obj.cells #[Value.string k1, Value.int IntKind.i64 v1, Value.bool true] 107) = w2 at *
      generalize wr.heap.size = p at *
      have hA0 := fun y : Aft w2 => y.cell hpl hcL0
      have hA1 := fun y : Aft w2 => y.cell hpl hcL1
      have hA2 := fun y : Aft w2 => y.cell hpl hcL2
      refine yA (by kernel_rfl) (by kernel_rfl) ?_
      repeat (go_big_quiet_step ((first | (go_at_call 92; exact Aft.same (Hcall.out _)) | (go_at_call 81; exact Aft.same (Hcall2.out _)))))
      refine wpQuiet_nil ?_
      rintro _ ⟨y, rfl⟩
      have hb3 := vM hb2 y.below
      generalize y.at_ = w3 at *
      go_wp2
      go_ret
      exact ⟨xg hfin.out.symm, hb3⟩
    have hE1 : Hid (uL es k = true) := by
     rcases hgood with rfl | ⟨rfl, rfl⟩
     · show uL es k = true; rw [hE, hv]; rfl
     · show uL es k = true; rw [hE, hv]; rfl
    clear hE hv hnoO
    by_cases hk0 : k = 0
    · have ho := hz0 hk0 hw
      subst hk0
      have hstep : Hid (∀ j, j < 0 + 1 → zJ (kv es) j = true ∧ uL es j = true) := fun j hj => by
       have : j = 0 := by omega
       subst this; exact ⟨ho, hE1.out⟩
      simp only [Nat.zero_mul, Nat.add_zero] at hc1 hc2 hc3
      clear hz0 hp0 ho hw
      rcases hgood with rfl | ⟨rfl, rfl⟩
      · have Hcall := Lib.hid hcall
        have Hcall2 := Lib.hid hcall2
        clear hcall hcall2
        go_wp2
        have hcL0 : (wr.alloc (Obj.cells #[Value.string k1, Value.int IntKind.i64 v1, Value.bool false] 107)).cell? ⟨wr.heap.size, 0, none⟩ = some (.string k1) := cell_of_row _ _ _ _ _ (0, 0) (heap_alloc_new wr _)
        have hcL1 : (wr.alloc (Obj.cells #[Value.string k1, Value.int IntKind.i64 v1, Value.bool false] 107)).cell? ⟨wr.heap.size, 1, none⟩ = some (.int .i64 v1) := cell_of_row _ _ _ _ _ (0, 0) (heap_alloc_new wr _)
        have hcL2 : (wr.alloc (Obj.cells #[Value.string k1, Value.int IntKind.i64 v1, Value.bool false] 107)).cell? ⟨wr.heap.size, 2, none⟩ = some (.bool false) := cell_of_row _ _ _ _ _ (0, 0) (heap_alloc_new wr _)
        have hpl : wr.heap.size < (wr.alloc (Obj.cells #[Value.string k1, Value.int IntKind.i64 v1, Value.bool false] 107)).heap.size := by simp
        have hb2 : Below w.heap.size w (wr.alloc (Obj.cells #[Value.string k1, Value.int IntKind.i64 v1, Value.bool false] 107)) := hb.alloc hb.size _
        generalize wr.alloc (Obj.cells #[Value.string k1, Value.int IntKind.i64 v1, Value.bool false] 107) = w2 at *
        generalize wr.heap.size = p at *
        have hA0 := fun y : Aft w2 => y.cell hpl hcL0
        have hA1 := fun y : Aft w2 => y.cell hpl hcL1
        have hA2 := fun y : Aft w2 => y.cell hpl hcL2
        refine yA (by kernel_rfl) (by kernel_rfl) ?_
        repeat (go_big_quiet_step ((first | (go_at_call 92; exact Aft.same (Hcall.out _)) | (go_at_call 81; exact Aft.same (Hcall2.out _)))))
        refine wpQuiet_nil ?_
        rintro _ ⟨y, rfl⟩
        have hb3 := vM hb2 y.below
        generalize y.at_ = w3 at *
        go_wp2
        go_roundw
        case rel => exact ⟨0 + 1, by omega, by go_num, hstep.out, hb3⟩
        case measure => simp [intOf]; omega
      · have Hcall := Lib.hid hcall
        have Hcall2 := Lib.hid hcall2
        clear hcall hcall2
        go_wp2
        have hcL0 : (wr.alloc (Obj.cells #[Value.string k1, Value.int IntKind.i64 0, Value.bool true] 107)).cell? ⟨wr.heap.size, 0, none⟩ = some (.string k1) := cell_of_row _ _ _ _ _ (0, 0) (heap_alloc_new wr _)
        have hcL1 : (wr.alloc (Obj.cells #[Value.string k1, Value.int IntKind.i64 0, Value.bool true] 107)).cell? ⟨wr.heap.size, 1, none⟩ = some (.int .i64 0) := cell_of_row _ _ _ _ _ (0, 0) (heap_alloc_new wr _)
        have hcL2 : (wr.alloc (Obj.cells #[Value.string k1, Value.int IntKind.i64 0, Value.bool true] 107)).cell? ⟨wr.heap.size, 2, none⟩ = some (.bool true) := cell_of_row _ _ _ _ _ (0, 0) (heap_alloc_new wr _)
        have hpl : wr.heap.size < (wr.alloc (Obj.cells #[Value.string k1, Value.int IntKind.i64 0, Value.bool true] 107)).heap.size := by simp
        have hb2 : Below w.heap.size w (wr.alloc (Obj.cells #[Value.string k1, Value.int IntKind.i64 0, Value.bool true] 107)) := hb.alloc hb.size _
        generalize wr.alloc (Obj.cells #[Value.string k1, Value.int IntKind.i64 0, Value.bool true] 107) = w2 at *
        generalize wr.heap.size = p at *
        have hA0 := fun y : Aft w2 => y.cell hpl hcL0
        have hA1 := fun y : Aft w2 => y.cell hpl hcL1
        have hA2 := fun y : Aft w2 => y.cell hpl hcL2
        refine yA (by kernel_rfl) (by kernel_rfl) ?_
        repeat (go_big_quiet_step ((first | (go_at_call 92; exact Aft.same (Hcall.out _)) | (go_at_call 81; exact Aft.same (Hcall2.out _)))))
        refine wpQuiet_nil ?_
        rintro _ ⟨y, rfl⟩
        have hb3 := vM hb2 y.below
        generalize y.at_ = w3 at *
        go_wp2
        go_roundw
        case rel => exact ⟨0 + 1, by omega, by go_num, hstep.out, hb3⟩
        case measure => simp [intOf]; omega
    · have hkp : 0 < k := by omega
      have hor := hp0 hkp hw
      have ht : (Op.bytesLess k1.toList (es[k - 1]'(by omega)).key.toList || k1.toList == (es[k - 1]'(by omega)).key.toList) = !zJ (kv es) k := by rw [aK5, hor]
      have hi0 : 0 ≤ (k : Int) - 1 := by omega
      have hi1 : ((k : Int) - 1).toNat = k - 1 := by omega
      have hi2 : (0 : Int) < (k : Int) := by omega
      clear hk0 hor hw hz0 hp0
      cases ho : zJ (kv es) k with
      | false =>
       have hfin : Hid (xO es = false) := aA5 hke ho
       rw [ho] at ht
       clear ho
       rcases hgood with rfl | ⟨rfl, rfl⟩
       · have Hcall := Lib.hid hcall
         have Hcall2 := Lib.hid hcall2
         clear hcall hcall2
         go_wp2
         have hcL0 : (wr.alloc (Obj.cells #[Value.string k1, Value.int IntKind.i64 v1, Value.bool false] 107)).cell? ⟨wr.heap.size, 0, none⟩ = some (.string k1) := cell_of_row _ _ _ _ _ (0, 0) (heap_alloc_new wr _)
         have hcL1 : (wr.alloc (Obj.cells #[Value.string k1, Value.int IntKind.i64 v1, Value.bool false] 107)).cell? ⟨wr.heap.size, 1, none⟩ = some (.int .i64 v1) := cell_of_row _ _ _ _ _ (0, 0) (heap_alloc_new wr _)
         have hcL2 : (wr.alloc (Obj.cells #[Value.string k1, Value.int IntKind.i64 v1, Value.bool false] 107)).cell? ⟨wr.heap.size, 2, none⟩ = some (.bool false) := cell_of_row _ _ _ _ _ (0, 0) (heap_alloc_new wr _)
         have hpl : wr.heap.size < (wr.alloc (Obj.cells #[Value.string k1, Value.int IntKind.i64 v1, Value.bool false] 107)).heap.size := by simp
         have hb2 : Below w.heap.size w (wr.alloc (Obj.cells #[Value.string k1, Value.int IntKind.i64 v1, Value.bool false] 107)) := hb.alloc hb.size _
         obtain ⟨b', off', he, _, _, hc4, _, _⟩ := hr.edt hb2 (show k - 1 < es.length by omega)
         obtain ⟨rfl, rfl⟩ : b = b' ∧ off = off' := by simpa using he
         have hbl4 := Nat.lt_of_lt_of_le hbl hb2.size
         generalize wr.alloc (Obj.cells #[Value.string k1, Value.int IntKind.i64 v1, Value.bool false] 107) = w2 at *
         generalize wr.heap.size = p at *
         have hA0 := fun y : Aft w2 => y.cell hpl hcL0
         have hA1 := fun y : Aft w2 => y.cell hpl hcL1
         have hA2 := fun y : Aft w2 => y.cell hpl hcL2
         have hA4 := fun y : Aft w2 => y.cell hbl4 hc4
         refine yA (by kernel_rfl) (by kernel_rfl) ?_
         repeat (go_big_quiet_step ((first | (go_at_call 92; exact Aft.same (Hcall.out _)) | (go_at_call 81; exact Aft.same (Hcall2.out _)))))
         refine wpQuiet_nil ?_
         rintro _ ⟨y, rfl⟩
         have hb3 := vM hb2 y.below
         generalize y.at_ = w3 at *
         go_wp2
         go_ret
         exact ⟨xg hfin.out.symm, hb3⟩
       · have Hcall := Lib.hid hcall
         have Hcall2 := Lib.hid hcall2
         clear hcall hcall2
         go_wp2
         have hcL0 : (wr.alloc (Obj.cells #[Value.string k1, Value.int IntKind.i64 0, Value.bool true] 107)).cell? ⟨wr.heap.size, 0, none⟩ = some (.string k1) := cell_of_row _ _ _ _ _ (0, 0) (heap_alloc_new wr _)
         have hcL1 : (wr.alloc (Obj.cells #[Value.string k1, Value.int IntKind.i64 0, Value.bool true] 107)).cell? ⟨wr.heap.size, 1, none⟩ = some (.int .i64 0) := cell_of_row _ _ _ _ _ (0, 0) (heap_alloc_new wr _)
         have hcL2 : (wr.alloc (Obj.cells #[Value.string k1, Value.int IntKind.i64 0, Value.bool true] 107)).cell? ⟨wr.heap.size, 2, none⟩ = some (.bool true) := cell_of_row _ _ _ _ _ (0, 0) (heap_alloc_new wr _)
         have hpl : wr.heap.size < (wr.alloc (Obj.cells #[Value.string k1, Value.int IntKind.i64 0, Value.bool true] 107)).heap.size := by simp
         have hb2 : Below w.heap.size w (wr.alloc (Obj.cells #[Value.string k1, Value.int IntKind.i64 0, Value.bool true] 107)) := hb.alloc hb.size _
         obtain ⟨b', off', he, _, _, hc4, _, _⟩ := hr.edt hb2 (show k - 1 < es.length by omega)
         obtain ⟨rfl, rfl⟩ : b = b' ∧ off = off' := by simpa using he
         have hbl4 := Nat.lt_of_lt_of_le hbl hb2.size
         generalize wr.alloc (Obj.cells #[Value.string k1, Value.int IntKind.i64 0, Value.bool true] 107) = w2 at *
         generalize wr.heap.size = p at *
         have hA0 := fun y : Aft w2 => y.cell hpl hcL0
         have hA1 := fun y : Aft w2 => y.cell hpl hcL1
         have hA2 := fun y : Aft w2 => y.cell hpl hcL2
         have hA4 := fun y : Aft w2 => y.cell hbl4 hc4
         refine yA (by kernel_rfl) (by kernel_rfl) ?_
         repeat (go_big_quiet_step ((first | (go_at_call 92; exact Aft.same (Hcall.out _)) | (go_at_call 81; exact Aft.same (Hcall2.out _)))))
         refine wpQuiet_nil ?_
         rintro _ ⟨y, rfl⟩
         have hb3 := vM hb2 y.below
         generalize y.at_ = w3 at *
         go_wp2
         go_ret
         exact ⟨xg hfin.out.symm, hb3⟩
      | true =>
       have hstep : Hid (∀ j, j < k + 1 → zJ (kv es) j = true ∧ uL es j = true) := fun j hj => by
        rcases Nat.lt_or_ge j k with h | h
        · exact Hall.out j h
        · have : j = k := by omega
          subst this; exact ⟨ho, hE1.out⟩
       rw [ho] at ht
       clear ho
       rcases hgood with rfl | ⟨rfl, rfl⟩
       · have Hcall := Lib.hid hcall
         have Hcall2 := Lib.hid hcall2
         clear hcall hcall2
         go_wp2
         have hcL0 : (wr.alloc (Obj.cells #[Value.string k1, Value.int IntKind.i64 v1, Value.bool false] 107)).cell? ⟨wr.heap.size, 0, none⟩ = some (.string k1) := cell_of_row _ _ _ _ _ (0, 0) (heap_alloc_new wr _)
         have hcL1 : (wr.alloc (Obj.cells #[Value.string k1, Value.int IntKind.i64 v1, Value.bool false] 107)).cell? ⟨wr.heap.size, 1, none⟩ = some (.int .i64 v1) := cell_of_row _ _ _ _ _ (0, 0) (heap_alloc_new wr _)
         have hcL2 : (wr.alloc (Obj.cells #[Value.string k1, Value.int IntKind.i64 v1, Value.bool false] 107)).cell? ⟨wr.heap.size, 2, none⟩ = some (.bool false) := cell_of_row _ _ _ _ _ (0, 0) (heap_alloc_new wr _)
         have hpl : wr.heap.size < (wr.alloc (Obj.cells #[Value.string k1, Value.int IntKind.i64 v1, Value.bool false] 107)).heap.size := by simp
         have hb2 : Below w.heap.size w (wr.alloc (Obj.cells #[Value.string k1, Value.int IntKind.i64 v1, Value.bool false] 107)) := hb.alloc hb.size _
         obtain ⟨b', off', he, _, _, hc4, _, _⟩ := hr.edt hb2 (show k - 1 < es.length by omega)
         obtain ⟨rfl, rfl⟩ : b = b' ∧ off = off' := by simpa using he
         have hbl4 := Nat.lt_of_lt_of_le hbl hb2.size
         generalize wr.alloc (Obj.cells #[Value.string k1, Value.int IntKind.i64 v1, Value.bool false] 107) = w2 at *
         generalize wr.heap.size = p at *
         have hA0 := fun y : Aft w2 => y.cell hpl hcL0
         have hA1 := fun y : Aft w2 => y.cell hpl hcL1
         have hA2 := fun y : Aft w2 => y.cell hpl hcL2
         have hA4 := fun y : Aft w2 => y.cell hbl4 hc4
         refine yA (by kernel_rfl) (by kernel_rfl) ?_
         repeat (go_big_quiet_step ((first | (go_at_call 92; exact Aft.same (Hcall.out _)) | (go_at_call 81; exact Aft.same (Hcall2.out _)))))
         refine wpQuiet_nil ?_
         rintro _ ⟨y, rfl⟩
         have hb3 := vM hb2 y.below
         generalize y.at_ = w3 at *
         go_wp2
         go_roundw
         case rel => exact ⟨k + 1, by omega, by go_num, hstep.out, hb3⟩
         case measure => simp [intOf]; omega
       · have Hcall := Lib.hid hcall
         have Hcall2 := Lib.hid hcall2
         clear hcall hcall2
         go_wp2
         have hcL0 : (wr.alloc (Obj.cells #[Value.string k1, Value.int IntKind.i64 0, Value.bool true] 107)).cell? ⟨wr.heap.size, 0, none⟩ = some (.string k1) := cell_of_row _ _ _ _ _ (0, 0) (heap_alloc_new wr _)
         have hcL1 : (wr.alloc (Obj.cells #[Value.string k1, Value.int IntKind.i64 0, Value.bool true] 107)).cell? ⟨wr.heap.size, 1, none⟩ = some (.int .i64 0) := cell_of_row _ _ _ _ _ (0, 0) (heap_alloc_new wr _)
         have hcL2 : (wr.alloc (Obj.cells #[Value.string k1, Value.int IntKind.i64 0, Value.bool true] 107)).cell? ⟨wr.heap.size, 2, none⟩ = some (.bool true) := cell_of_row _ _ _ _ _ (0, 0) (heap_alloc_new wr _)
         have hpl : wr.heap.size < (wr.alloc (Obj.cells #[Value.string k1, Value.int IntKind.i64 0, Value.bool true] 107)).heap.size := by simp
         have hb2 : Below w.heap.size w (wr.alloc (Obj.cells #[Value.string k1, Value.int IntKind.i64 0, Value.bool true] 107)) := hb.alloc hb.size _
         obtain ⟨b', off', he, _, _, hc4, _, _⟩ := hr.edt hb2 (show k - 1 < es.length by omega)
         obtain ⟨rfl, rfl⟩ : b = b' ∧ off = off' := by simpa using he
         have hbl4 := Nat.lt_of_lt_of_le hbl hb2.size
         generalize wr.alloc (Obj.cells #[Value.string k1, Value.int IntKind.i64 0, Value.bool true] 107) = w2 at *
         generalize wr.heap.size = p at *
         have hA0 := fun y : Aft w2 => y.cell hpl hcL0
         have hA1 := fun y : Aft w2 => y.cell hpl hcL1
         have hA2 := fun y : Aft w2 => y.cell hpl hcL2
         have hA4 := fun y : Aft w2 => y.cell hbl4 hc4
         refine yA (by kernel_rfl) (by kernel_rfl) ?_
         repeat (go_big_quiet_step ((first | (go_at_call 92; exact Aft.same (Hcall.out _)) | (go_at_call 81; exact Aft.same (Hcall2.out _)))))
         refine wpQuiet_nil ?_
         rintro _ ⟨y, rfl⟩
         have hb3 := vM hb2 y.below
         generalize y.at_ = w3 at *
         go_wp2
         go_roundw
         case rel => exact ⟨k + 1, by omega, by go_num, hstep.out, hb3⟩
         case measure => simp [intOf]; omega
  · have hfin : Hid (xO es = true) := aCK (by rw [Hlen.out]; exact hn6) (fun i hi => Hall.out i (by rw [Hlen.out] at hi; omega))
    go_wp2
    go_ret
    exact ⟨xg hfin.out.symm, hb⟩
theorem aFX (a : ByteArray) (x : Int) (g : Bool) (w : World) : (method 425 107 (.agg #[.string a, .int .i64 x, .bool g]) "loop.example/g00737/impl.key").run Tryz.prog w = .ok (282, .agg #[.string a, .int .i64 x, .bool g]) w := by kernel_rfl
theorem jV (key : ByteArray) (v : Int) (g : Bool) (w : World) :
 Calls Tryz.prog 282 #[.agg #[.string key, .int .i64 v, .bool g]] w fun e w' => e = .returned (.string key) ∧ Below w.heap.size w w' := by
 go_enter Tryz.func282, Tryz.ntmps282
 go_wp2
 go_ret
 exact ⟨rfl, (Below.refl _ _).alloc (Nat.le_refl _) _⟩
theorem aGa (es : List Edt) (k : Nat) (hke : k < es.length) (hs : es[k].key.size ≤ maxLen) (W : World) :
 Calls Tryz.prog 98 #[.string es[k].key] W fun e w' => e = .returned (.bool (nm es[k].key)) ∧ W = w' := aCY _ W hs
set_option maxHeartbeats 2000000 in
set_option maxRecDepth 100000 in
theorem aAp (A : Option Addr) (n c : Nat) (es : List Edt) (w : World) (hr : Rd w 3 A n (yI es)) (hm : n ≤ maxLen) (hks : ∀ e ∈ es, e.key.size ≤ maxLen) :
 Calls Tryz.prog 126 #[.slice A n c] w fun e w' => e = .returned (.bool (qA (kv es))) ∧ Below w.heap.size w w' := by
 unfold maxLen at hm
 have hlen := hr.elen
 have Hlen := Lib.hid hlen; clear hlen
 have hmeth := aFX
 go_enter Tryz.func126, Tryz.ntmps126
 go_wp2
 go_loopw [3, 7] (fun _ i wr => ∃ k : Nat, k ≤ n ∧ i = .int .i64 k ∧ (∀ j, j < k → zJ (kv es) j = true) ∧ Below w.heap.size w wr) (fun _ i _ => n - (intOf i).toNat)
 case atStart => exact ⟨0, Nat.zero_le _, rfl, fun j hj => absurd hj (by omega), Below.refl _ _⟩
 case round =>
  obtain ⟨k, hk, rfl, hall, hb⟩ := hrel
  have Hall := Lib.hid hall; clear hall
  by_cases hlt : k < n
  · have hke : k < es.length := by rw [Hlen.out]; exact hlt
    obtain ⟨b, off, rfl, hbl, hbl2, hc1, hc2, hc5⟩ := hr.edt hb hke
    have hcall := aGa es k hke (hks _ (List.getElem_mem hke))
    cases hw : nm es[k].key with
    | false =>
     have hfin : Hid (qA (kv es) = false) := aBn (by rw [wC]; exact hke) (aFn es k hke hw)
     rw [hw] at hcall
     have Hcall := Lib.hid hcall
     clear hw hcall
     go_wp2
     have hcL0 : (wr.alloc (Obj.cells #[Value.string es[k].key, Value.int IntKind.i64 es[k].val, Value.bool es[k].gone] 107)).cell? ⟨wr.heap.size, 0, none⟩ = some (.string es[k].key) := cell_of_row _ _ _ _ _ (0, 0) (heap_alloc_new wr _)
     have hcL1 : (wr.alloc (Obj.cells #[Value.string es[k].key, Value.int IntKind.i64 es[k].val, Value.bool es[k].gone] 107)).cell? ⟨wr.heap.size, 1, none⟩ = some (.int .i64 es[k].val) := cell_of_row _ _ _ _ _ (0, 0) (heap_alloc_new wr _)
     have hcL2 : (wr.alloc (Obj.cells #[Value.string es[k].key, Value.int IntKind.i64 es[k].val, Value.bool es[k].gone] 107)).cell? ⟨wr.heap.size, 2, none⟩ = some (.bool es[k].gone) := cell_of_row _ _ _ _ _ (0, 0) (heap_alloc_new wr _)
     have hpl : wr.heap.size < (wr.alloc (Obj.cells #[Value.string es[k].key, Value.int IntKind.i64 es[k].val, Value.bool es[k].gone] 107)).heap.size := by simp
     have hb2 : Below w.heap.size w (wr.alloc (Obj.cells #[Value.string es[k].key, Value.int IntKind.i64 es[k].val, Value.bool es[k].gone] 107)) := hb.alloc hb.size _
     generalize wr.alloc (Obj.cells #[Value.string es[k].key, Value.int IntKind.i64 es[k].val, Value.bool es[k].gone] 107) = w2 at *
     generalize wr.heap.size = p at *
     have hA0 := fun y : Aft w2 => y.cell hpl hcL0
     have hA1 := fun y : Aft w2 => y.cell hpl hcL1
     have hA2 := fun y : Aft w2 => y.cell hpl hcL2
     refine yA (by kernel_rfl) (by kernel_rfl) ?_
     repeat (go_big_quiet_step ((first | (go_at_call 282; exact Aft.call (jV _ _ _ _)) | (go_at_call 98; exact Aft.same (Hcall.out _)))))
     refine wpQuiet_nil ?_
     rintro _ ⟨y, rfl⟩
     have hb3 := vM hb2 y.below
     generalize y.at_ = w3 at *
     go_wp2
     go_ret
     exact ⟨xg hfin.out.symm, hb3⟩
    | true =>
    rw [hw] at hcall
    have Hcall := Lib.hid hcall
    clear hcall
    by_cases hk0 : k = 0
    · subst hk0
      have hstep : Hid (∀ j, j < 0 + 1 → zJ (kv es) j = true) := fun j hj => by
       have : j = 0 := by omega
       subst this; exact aD0 es hke hw
      clear hw
      simp only [Nat.zero_mul, Nat.add_zero] at hc1 hc2 hc5
      go_wp2
      have hcL0 : (wr.alloc (Obj.cells #[Value.string es[0].key, Value.int IntKind.i64 es[0].val, Value.bool es[0].gone] 107)).cell? ⟨wr.heap.size, 0, none⟩ = some (.string es[0].key) := cell_of_row _ _ _ _ _ (0, 0) (heap_alloc_new wr _)
      have hcL1 : (wr.alloc (Obj.cells #[Value.string es[0].key, Value.int IntKind.i64 es[0].val, Value.bool es[0].gone] 107)).cell? ⟨wr.heap.size, 1, none⟩ = some (.int .i64 es[0].val) := cell_of_row _ _ _ _ _ (0, 0) (heap_alloc_new wr _)
      have hcL2 : (wr.alloc (Obj.cells #[Value.string es[0].key, Value.int IntKind.i64 es[0].val, Value.bool es[0].gone] 107)).cell? ⟨wr.heap.size, 2, none⟩ = some (.bool es[0].gone) := cell_of_row _ _ _ _ _ (0, 0) (heap_alloc_new wr _)
      have hpl : wr.heap.size < (wr.alloc (Obj.cells #[Value.string es[0].key, Value.int IntKind.i64 es[0].val, Value.bool es[0].gone] 107)).heap.size := by simp
      have hb2 : Below w.heap.size w (wr.alloc (Obj.cells #[Value.string es[0].key, Value.int IntKind.i64 es[0].val, Value.bool es[0].gone] 107)) := hb.alloc hb.size _
      generalize wr.alloc (Obj.cells #[Value.string es[0].key, Value.int IntKind.i64 es[0].val, Value.bool es[0].gone] 107) = w2 at *
      generalize wr.heap.size = p at *
      have hA0 := fun y : Aft w2 => y.cell hpl hcL0
      have hA1 := fun y : Aft w2 => y.cell hpl hcL1
      have hA2 := fun y : Aft w2 => y.cell hpl hcL2
      refine yA (by kernel_rfl) (by kernel_rfl) ?_
      repeat (go_big_quiet_step ((first | (go_at_call 282; exact Aft.call (jV _ _ _ _)) | (go_at_call 98; exact Aft.same (Hcall.out _)))))
      refine wpQuiet_nil ?_
      rintro _ ⟨y, rfl⟩
      have hb3 := vM hb2 y.below
      generalize y.at_ = w3 at *
      go_wp2
      go_roundw
      case rel => exact ⟨0 + 1, by omega, by go_num, hstep.out, hb3⟩
      case measure => simp [intOf]; omega
    · have hkp : 0 < k := by omega
      have hor := aEi es k hkp hke hw
      have ht : (!(Op.bytesLess (es[k - 1]'(by omega)).key.toList es[k].key.toList)) = !zJ (kv es) k := by rw [hor]; rfl
      have hi0 : 0 ≤ (k : Int) - 1 := by omega
      have hi1 : ((k : Int) - 1).toNat = k - 1 := by omega
      have hi2 : (0 : Int) < (k : Int) := by omega
      clear hk0 hor hw
      cases ho : zJ (kv es) k with
      | false =>
       have hfin : Hid (qA (kv es) = false) := aBn (by rw [wC]; exact hke) ho
       rw [ho] at ht
       clear ho
       go_wp2
       have hcL0 : (wr.alloc (Obj.cells #[Value.string es[k].key, Value.int IntKind.i64 es[k].val, Value.bool es[k].gone] 107)).cell? ⟨wr.heap.size, 0, none⟩ = some (.string es[k].key) := cell_of_row _ _ _ _ _ (0, 0) (heap_alloc_new wr _)
       have hcL1 : (wr.alloc (Obj.cells #[Value.string es[k].key, Value.int IntKind.i64 es[k].val, Value.bool es[k].gone] 107)).cell? ⟨wr.heap.size, 1, none⟩ = some (.int .i64 es[k].val) := cell_of_row _ _ _ _ _ (0, 0) (heap_alloc_new wr _)
       have hcL2 : (wr.alloc (Obj.cells #[Value.string es[k].key, Value.int IntKind.i64 es[k].val, Value.bool es[k].gone] 107)).cell? ⟨wr.heap.size, 2, none⟩ = some (.bool es[k].gone) := cell_of_row _ _ _ _ _ (0, 0) (heap_alloc_new wr _)
       have hpl : wr.heap.size < (wr.alloc (Obj.cells #[Value.string es[k].key, Value.int IntKind.i64 es[k].val, Value.bool es[k].gone] 107)).heap.size := by simp
       have hb2 : Below w.heap.size w (wr.alloc (Obj.cells #[Value.string es[k].key, Value.int IntKind.i64 es[k].val, Value.bool es[k].gone] 107)) := hb.alloc hb.size _
       obtain ⟨b', off', he, _, _, hc3, hc4, hc6⟩ := hr.edt hb2 (show k - 1 < es.length by omega)
       obtain ⟨rfl, rfl⟩ : b = b' ∧ off = off' := by simpa using he
       have hbl4 := Nat.lt_of_lt_of_le hbl hb2.size
       generalize wr.alloc (Obj.cells #[Value.string es[k].key, Value.int IntKind.i64 es[k].val, Value.bool es[k].gone] 107) = w2 at *
       generalize wr.heap.size = p at *
       have hA0 := fun y : Aft w2 => y.cell hpl hcL0
       have hA1 := fun y : Aft w2 => y.cell hpl hcL1
       have hA2 := fun y : Aft w2 => y.cell hpl hcL2
       have hA3 := fun y : Aft w2 => y.cell hbl4 hc3
       have hA4 := fun y : Aft w2 => y.cell hbl4 hc4
       have hA5 := fun y : Aft w2 => y.cell hbl4 hc6
       refine yA (by kernel_rfl) (by kernel_rfl) ?_
       repeat (go_big_quiet_step ((first | (go_at_call 282; exact Aft.call (jV _ _ _ _)) | (go_at_call 98; exact Aft.same (Hcall.out _)))))
       refine wpQuiet_nil ?_
       rintro _ ⟨y, rfl⟩
       have hb3 := vM hb2 y.below
       generalize y.at_ = w3 at *
       go_wp2
       go_ret
       exact ⟨xg hfin.out.symm, hb3⟩
      | true =>
       have hstep : Hid (∀ j, j < k + 1 → zJ (kv es) j = true) := fun j hj => by
        rcases Nat.lt_or_ge j k with h | h
        · exact Hall.out j h
        · have : j = k := by omega
          subst this; exact ho
       rw [ho] at ht
       clear ho
       go_wp2
       have hcL0 : (wr.alloc (Obj.cells #[Value.string es[k].key, Value.int IntKind.i64 es[k].val, Value.bool es[k].gone] 107)).cell? ⟨wr.heap.size, 0, none⟩ = some (.string es[k].key) := cell_of_row _ _ _ _ _ (0, 0) (heap_alloc_new wr _)
       have hcL1 : (wr.alloc (Obj.cells #[Value.string es[k].key, Value.int IntKind.i64 es[k].val, Value.bool es[k].gone] 107)).cell? ⟨wr.heap.size, 1, none⟩ = some (.int .i64 es[k].val) := cell_of_row _ _ _ _ _ (0, 0) (heap_alloc_new wr _)
       have hcL2 : (wr.alloc (Obj.cells #[Value.string es[k].key, Value.int IntKind.i64 es[k].val, Value.bool es[k].gone] 107)).cell? ⟨wr.heap.size, 2, none⟩ = some (.bool es[k].gone) := cell_of_row _ _ _ _ _ (0, 0) (heap_alloc_new wr _)
       have hpl : wr.heap.size < (wr.alloc (Obj.cells #[Value.string es[k].key, Value.int IntKind.i64 es[k].val, Value.bool es[k].gone] 107)).heap.size := by simp
       have hb2 : Below w.heap.size w (wr.alloc (Obj.cells #[Value.string es[k].key, Value.int IntKind.i64 es[k].val, Value.bool es[k].gone] 107)) := hb.alloc hb.size _
       obtain ⟨b', off', he, _, _, hc3, hc4, hc6⟩ := hr.edt hb2 (show k - 1 < es.length by omega)
       obtain ⟨rfl, rfl⟩ : b = b' ∧ off = off' := by simpa using he
       have hbl4 := Nat.lt_of_lt_of_le hbl hb2.size
       generalize wr.alloc (Obj.cells #[Value.string es[k].key, Value.int IntKind.i64 es[k].val, Value.bool es[k].gone] 107) = w2 at *
       generalize wr.heap.size = p at *
       have hA0 := fun y : Aft w2 => y.cell hpl hcL0
       have hA1 := fun y : Aft w2 => y.cell hpl hcL1
       have hA2 := fun y : Aft w2 => y.cell hpl hcL2
       have hA3 := fun y : Aft w2 => y.cell hbl4 hc3
       have hA4 := fun y : Aft w2 => y.cell hbl4 hc4
       have hA5 := fun y : Aft w2 => y.cell hbl4 hc6
       refine yA (by kernel_rfl) (by kernel_rfl) ?_
       repeat (go_big_quiet_step ((first | (go_at_call 282; exact Aft.call (jV _ _ _ _)) | (go_at_call 98; exact Aft.same (Hcall.out _)))))
       refine wpQuiet_nil ?_
       rintro _ ⟨y, rfl⟩
       have hb3 := vM hb2 y.below
       generalize y.at_ = w3 at *
       go_wp2
       go_roundw
       case rel => exact ⟨k + 1, by omega, by go_num, hstep.out, hb3⟩
       case measure => simp [intOf]; omega
  · have hfin : Hid (qA (kv es) = true) := aFp (fun i hi => Hall.out i (by rw [wC, Hlen.out] at hi; omega))
    go_wp2
    go_ret
    exact ⟨xg hfin.out.symm, hb⟩
set_option maxHeartbeats 2000000 in
set_option maxRecDepth 100000 in
theorem aCP (A : Option Addr) (n c : Nat) (es : List Edt) (w : World) (hr : Rd w 3 A n (yI es)) (hm : n ≤ maxLen) (hks : ∀ e ∈ es, e.key.size ≤ maxLen) :
 Calls Tryz.prog 61 #[.slice A n c] w fun e w' => e = .returned (.bool (xO es)) ∧ Below w.heap.size w w' := by
 have hm' := hm
 unfold maxLen at hm
 have hlen := hr.elen
 have Hlen := Lib.hid hlen; clear hlen
 by_cases hbig : 6 < n
 · have hfin : Hid (xO es = false) := aAh (by rw [Hlen.out]; exact hbig)
   go_enter Tryz.func61, Tryz.ntmps61
   go_wp2
   go_ret
   exact ⟨xg hfin.out.symm, Below.refl _ _⟩
 have hn6 : n ≤ 6 := by omega
 clear hbig
 cases ho : qA (kv es) with
 | false =>
  have hfin : Hid (xO es = false) := by show xO es = false; rw [xO, ho]; simp
  have hcall := aAp A n c es w hr hm' hks
  rw [ho] at hcall
  have Hcall := Lib.hid hcall
  clear ho hcall
  go_enter Tryz.func61, Tryz.ntmps61
  go_wp2_with (go_at_call 126; refine Hcall.out.mono ?_; rintro e w1 ⟨rfl, hb1⟩)
  go_ret
  exact ⟨xg hfin.out.symm, hb1⟩
 | true =>
  have hcall := aAp A n c es w hr hm' hks
  rw [ho] at hcall
  have Hcall := Lib.hid hcall
  have Ho := Lib.hid ho
  clear ho hcall
  go_enter Tryz.func61, Tryz.ntmps61
  go_wp2_with (go_at_call 126; refine Hcall.out.mono ?_; rintro e w1 ⟨rfl, hb1⟩)
  go_loopw [15] (fun i wr => ∃ k : Nat, k ≤ n ∧ i = .int .i64 k ∧ (∀ j, j < k → uL es j = true) ∧ Below w.heap.size w wr) (fun i _ => n - (intOf i).toNat)
  case atStart => exact ⟨0, Nat.zero_le _, rfl, fun j hj => absurd hj (by omega), hb1⟩
  case round =>
   obtain ⟨k, hk, rfl, hall, hb⟩ := hrel
   have Hall := Lib.hid hall; clear hall
   by_cases hlt : k < n
   · have hke : k < es.length := by rw [Hlen.out]; exact hlt
     obtain ⟨b, off, rfl, hbl, hbl2, hc1, hc2, hc3⟩ := hr.edt hb hke
     have hE := aBj es k hke
     generalize es[k] = ek at *
     obtain ⟨k1, v1, g1⟩ := ek
     simp only at hc1 hc2 hc3 hE
     have hcall := fun W => aF0 v1 W
     change ∀ W, Calls _ _ _ W fun e w' => e = .returned (.bool (aBt v1)) ∧ W = w' at hcall
     cases hv : aBt v1 with
     | false =>
      have hfin : Hid (xO es = false) := wQ hke (by rw [hE, hv]; rfl)
      rw [hv] at hcall
      have Hcall := Lib.hid hcall
      clear hv hcall hE
      go_wp2_with (go_at_call 118; refine (Hcall.out _).mono ?_; rintro e w1 ⟨rfl, rfl⟩)
      go_ret
      exact ⟨xg hfin.out.symm, hb.alloc hb.size _⟩
     | true =>
      rw [hv] at hcall
      rcases aCO g1 v1 with ⟨rfl, hne⟩ | hgood
      · have hfin : Hid (xO es = false) := wQ hke (by rw [hE, hv, decide_eq_false hne]; rfl)
        have hne2 : (v1 != 0) = true := by simpa using hne
        have Hcall := Lib.hid hcall
        clear hv hcall hE
        go_wp2_with (go_at_call 118; refine (Hcall.out _).mono ?_; rintro e w1 ⟨rfl, rfl⟩)
        go_ret
        exact ⟨xg hfin.out.symm, hb.alloc hb.size _⟩
      have hE1 : Hid (uL es k = true) := by
       rcases hgood with rfl | ⟨rfl, rfl⟩
       · show uL es k = true; rw [hE, hv]; rfl
       · show uL es k = true; rw [hE, hv]; rfl
      have hstep : Hid (∀ j, j < k + 1 → uL es j = true) := fun j hj => by
       rcases Nat.lt_or_ge j k with h | h
       · exact Hall.out j h
       · have : j = k := by omega
         subst this; exact hE1.out
      clear hE hv
      rcases hgood with rfl | ⟨rfl, rfl⟩
      · have Hcall := Lib.hid hcall
        clear hcall
        go_wp2_with (go_at_call 118; refine (Hcall.out _).mono ?_; rintro e w1 ⟨rfl, rfl⟩)
        go_roundw
        case rel => exact ⟨k + 1, by omega, by go_num, hstep.out, hb.alloc hb.size _⟩
        case measure => simp [intOf]; omega
      · have Hcall := Lib.hid hcall
        clear hcall
        go_wp2_with (go_at_call 118; refine (Hcall.out _).mono ?_; rintro e w1 ⟨rfl, rfl⟩)
        go_roundw
        case rel => exact ⟨k + 1, by omega, by go_num, hstep.out, hb.alloc hb.size _⟩
        case measure => simp [intOf]; omega
   · have hfin : Hid (xO es = true) := aCK (by rw [Hlen.out]; exact hn6) (fun i hi => ⟨aFo Ho.out (by rw [wC]; exact hi), Hall.out i (by rw [Hlen.out] at hi; omega)⟩)
     go_wp2
     go_ret
     exact ⟨xg hfin.out.symm, hb⟩
end Go.Proofs.YtodckioppgjbdaaGreatDoor
namespace Go.Proofs.YtodckioppgjbdaaGreatDoor.AM
open Go Go.RowKit
attribute [local irreducible] xD xJ xQ yD yJ Pre ACG
end Go.Proofs.YtodckioppgjbdaaGreatDoor.AM
namespace Go.Proofs.YtodckioppgjbdaaGreatDoor.AM
open Go Go.RowKit
attribute [local irreducible] xD xJ xQ yD yJ Pre ACG
theorem aKW : ∀ vs w, (callFunc 64 vs).run Tryz.prog w = .ok (.enter 64 vs) w := uU Tryz.func64 (by kernel_rfl) (by kernel_rfl)
theorem aFN {es : List Edt} {b : Bool} (hb : xO es = b) (hm : es.length ≤ maxLen) (hk : ∀ e ∈ es, e.key.size ≤ maxLen) : AC Tryz.prog 64 [.lst 3 (es.map x9)] ⟨.v (.bool b), []⟩ :=
 hb ▸ jd aKW rfl fun w S0 vs hS hv => by
  obtain ⟨u, rfl, h1⟩ := kL hv
  obtain ⟨A, c, rfl, _, _, hr⟩ := kM hS h1
  exact aAt A es.length c es w hr hm hk
end Go.Proofs.YtodckioppgjbdaaGreatDoor.AM
namespace Go.Proofs.YtodckioppgjbdaaGreatDoor.AM
open Go Go.RowKit
attribute [local irreducible] xD xJ xQ yD yJ Pre ACG
end Go.Proofs.YtodckioppgjbdaaGreatDoor.AM
namespace Go.Proofs.YtodckioppgjbdaaGreatDoor.AM
open Go Go.RowKit
def aLI (l : List Edt) : Prop := ∀ e ∈ l, e.key.size ≤ 12 ∧ -1000000 ≤ e.val ∧ e.val ≤ 1000000
theorem aHZ {l : List Edt} (h : xO l = true) : aLI l := by
 intro e he
 obtain ⟨i, hi, rfl⟩ := List.getElem_of_mem he
 unfold xO at h
 simp only [Bool.and_eq_true] at h
 have h1 := aFo h.2.1 (i := i) (by rw [wC]; exact hi)
 have h2 : uL l i = true := by
  have := h.2.2
  rw [aBK, List.all_eq_true] at this
  exact this i (List.mem_range.2 hi)
 unfold zJ at h1
 rw [Bool.and_eq_true, aAq _ _ hi] at h1
 rw [aBj _ _ hi] at h2
 unfold aBt at h2
 simp only [Bool.and_eq_true, decide_eq_true_eq] at h2
 exact ⟨jy h1.1, h2.1.1, h2.1.2⟩
theorem aB5 {l : List Edt} (h : xO l = true) : l.length ≤ 6 := by
 unfold xO at h
 simp only [Bool.and_eq_true, decide_eq_true_eq] at h
 exact h.1
attribute [local irreducible] xD xJ xQ yD yJ Pre ACG
end Go.Proofs.YtodckioppgjbdaaGreatDoor.AM
namespace Go.Proofs
open Go.Shelf
def Tryz.lays103_ren : Go.Shelf.Ren := ⟨fun | 103 => 128 | 210 => 173 | 206 => 208 | n => n, fun | 9 => 9 | 4 => 4 | 24 => 170 | 3 => 3 | n => n, fun | n => n⟩
theorem Tryz.lays103 : Go.Proofs.Lays.n103 Tryz.prog Tryz.lays103_ren := {
 mixed := by kernel_rfl
 f103 := Tryz.func128.trans (congrArg some (by kernel_rfl))
 f206 := Tryz.func208.trans (congrArg some (by kernel_rfl))
 f210 := Tryz.func173.trans (congrArg some (by kernel_rfl))
 t3 := Tryz.underlying3
 a3 := Tryz.isAgg3
 z3 := Tryz.sizeOf3
 v3 := Tryz.zeroValue3
 t4 := Tryz.underlying4
 a4 := Tryz.isAgg4
 z4 := Tryz.sizeOf4
 v4 := Tryz.zeroValue4
 t9 := Tryz.underlying9
 a9 := Tryz.isAgg9
 z9 := Tryz.sizeOf9
 v9 := Tryz.zeroValue9
 t24 := Tryz.underlying170
 a24 := Tryz.isAgg170
 z24 := Tryz.sizeOf170
 v24 := Tryz.zeroValue170 }
open Go.RowKit in
theorem Tryz.strings_CutPrefix (s p : ByteArray) (w : World) :
 Calls Tryz.prog 128 #[.string s, .string p] w fun e w' => e = .returned (.tuple #[.string ⟨(Lib.trimPrefix s.data.toList p.data.toList).toArray⟩, .bool (Lib.hasPrefix s.data.toList p.data.toList)]) ∧ w' = w := Any.strings_CutPrefix Tryz.lays103 s p w
def Tryz.laysM171_ren : Go.Shelf.Ren := ⟨fun | 171 => 78 | 243 => 139 | 246 => 189 | 283 => 218 | 284 => 219 | 285 => 220 | 286 => 221 | 129 => 246 | 317 => 245 | 318 => 247 | 319 => 248 | 320 => 249 | 337 => 261 | 338 => 262 | n => n, fun | 3 => 3 | 9 => 9 | 2 => 2 | 4 => 4 | 171 => 251 | 0 => 0 | 53 => 252 | 37 => 38 | 5 => 5 | 173 => 255 | 212 => 281 | 51 => 282 | 20 => 20 | 213 => 283 | 46 => 267 | 232 => 311 | 233 => 312 | n => n, fun | 17 => 3 | 18 => 8 | 19 => 9 | n => n⟩
theorem Tryz.laysM171 : Go.Proofs.LaysM.n171 Tryz.prog Tryz.laysM171_ren := {
 mixed := by kernel_rfl
 f129 := Tryz.func246.trans (congrArg some (by kernel_rfl))
 f171 := Tryz.func78.trans (congrArg some (by kernel_rfl))
 f243 := Tryz.func139.trans (congrArg some (by kernel_rfl))
 f246 := Tryz.func189.trans (congrArg some (by kernel_rfl))
 f283 := Tryz.func218.trans (congrArg some (by kernel_rfl))
 f284 := Tryz.func219.trans (congrArg some (by kernel_rfl))
 f285 := Tryz.func220.trans (congrArg some (by kernel_rfl))
 f286 := Tryz.func221.trans (congrArg some (by kernel_rfl))
 f317 := Tryz.func245.trans (congrArg some (by kernel_rfl))
 f318 := Tryz.func247.trans (congrArg some (by kernel_rfl))
 f319 := Tryz.func248.trans (congrArg some (by kernel_rfl))
 f320 := Tryz.func249.trans (congrArg some (by kernel_rfl))
 f337 := Tryz.func261.trans (congrArg some (by kernel_rfl))
 f338 := Tryz.func262.trans (congrArg some (by kernel_rfl))
 t0 := Tryz.underlying0
 a0 := Tryz.isAgg0
 z0 := Tryz.sizeOf0
 v0 := Tryz.zeroValue0
 t2 := Tryz.underlying2
 a2 := Tryz.isAgg2
 z2 := Tryz.sizeOf2
 v2 := Tryz.zeroValue2
 t3 := Tryz.underlying3
 a3 := Tryz.isAgg3
 z3 := Tryz.sizeOf3
 v3 := Tryz.zeroValue3
 t4 := Tryz.underlying4
 a4 := Tryz.isAgg4
 z4 := Tryz.sizeOf4
 v4 := Tryz.zeroValue4
 t5 := Tryz.underlying5
 a5 := Tryz.isAgg5
 z5 := Tryz.sizeOf5
 v5 := Tryz.zeroValue5
 t9 := Tryz.underlying9
 a9 := Tryz.isAgg9
 z9 := Tryz.sizeOf9
 v9 := Tryz.zeroValue9
 t20 := Tryz.underlying20
 a20 := Tryz.isAgg20
 z20 := Tryz.sizeOf20
 v20 := Tryz.zeroValue20
 t37 := Tryz.underlying38
 a37 := Tryz.isAgg38
 z37 := Tryz.sizeOf38
 v37 := Tryz.zeroValue38
 t46 := Tryz.underlying267
 a46 := Tryz.isAgg267
 z46 := Tryz.sizeOf267
 v46 := Tryz.zeroValue267
 t51 := Tryz.underlying282
 a51 := Tryz.isAgg282
 z51 := Tryz.sizeOf282
 v51 := Tryz.zeroValue282
 t53 := Tryz.underlying252
 a53 := Tryz.isAgg252
 z53 := Tryz.sizeOf252
 v53 := Tryz.zeroValue252
 t171 := Tryz.underlying251
 a171 := Tryz.isAgg251
 z171 := Tryz.sizeOf251
 v171 := Tryz.zeroValue251
 t173 := Tryz.underlying255
 a173 := Tryz.isAgg255
 z173 := Tryz.sizeOf255
 v173 := Tryz.zeroValue255
 t212 := Tryz.underlying281
 a212 := Tryz.isAgg281
 z212 := Tryz.sizeOf281
 v212 := Tryz.zeroValue281
 t213 := Tryz.underlying283
 a213 := Tryz.isAgg283
 z213 := Tryz.sizeOf283
 t232 := Tryz.underlying311
 a232 := Tryz.isAgg311
 z232 := Tryz.sizeOf311
 v232 := Tryz.zeroValue311
 t233 := Tryz.underlying312
 a233 := Tryz.isAgg312
 z233 := Tryz.sizeOf312
 v233 := Tryz.zeroValue312
 g17 := by kernel_rfl
 g18 := by kernel_rfl
 g19 := by kernel_rfl
 i0 := by kernel_rfl
 i2 := by kernel_rfl
 i3 := by kernel_rfl
 i4 := by kernel_rfl
 i5 := by kernel_rfl
 i9 := by kernel_rfl
 i20 := by kernel_rfl
 i37 := by kernel_rfl
 i46 := by kernel_rfl
 i51 := by kernel_rfl
 i53 := by kernel_rfl
 i171 := by kernel_rfl
 i173 := by kernel_rfl
 i212 := by kernel_rfl
 i232 := by kernel_rfl
 i233 := by kernel_rfl
 m17 := by kernel_rfl
 m18 := by kernel_rfl
 m19 := by kernel_rfl }
open Go.RowKit Go.Sort Go.Lib in
theorem Tryz.strconv_Itoa (n : Int) (h0 : -9223372036854775808 ≤ n) (h1 : n ≤ 9223372036854775807) (w : World) (htab : Lib.TabIs Tryz.prog w "internal/strconv.uint64pow10" .u64 Lib.pow10Tab) :
 Calls Tryz.prog 78 #[.int .i64 n] w fun e w' => e = .returned (.string ⟨(Lib.itoa n).toArray⟩) ∧ ∃ k os, w' = grow (w.drewN k) os := Any.strconv_Itoa Tryz.laysM171 n h0 h1 w htab
def Tryz.laysM316_ren : Go.Shelf.Ren := ⟨fun | 316 => 162 | n => n, fun | 9 => 9 | 3 => 3 | 4 => 4 | 37 => 38 | 0 => 0 | 127 => 236 | 5 => 5 | n => n, fun | n => n⟩
theorem Tryz.laysM316 : Go.Proofs.LaysM.n316 Tryz.prog Tryz.laysM316_ren := {
 mixed := by kernel_rfl
 f316 := Tryz.func162.trans (congrArg some (by kernel_rfl))
 t0 := Tryz.underlying0
 a0 := Tryz.isAgg0
 z0 := Tryz.sizeOf0
 v0 := Tryz.zeroValue0
 t3 := Tryz.underlying3
 a3 := Tryz.isAgg3
 z3 := Tryz.sizeOf3
 v3 := Tryz.zeroValue3
 t4 := Tryz.underlying4
 a4 := Tryz.isAgg4
 z4 := Tryz.sizeOf4
 v4 := Tryz.zeroValue4
 t9 := Tryz.underlying9
 a9 := Tryz.isAgg9
 z9 := Tryz.sizeOf9
 v9 := Tryz.zeroValue9
 t37 := Tryz.underlying38
 a37 := Tryz.isAgg38
 z37 := Tryz.sizeOf38
 v37 := Tryz.zeroValue38
 t127 := Tryz.underlying236
 a127 := Tryz.isAgg236
 z127 := Tryz.sizeOf236
 v127 := Tryz.zeroValue236
 t5 := Tryz.underlying5
 a5 := Tryz.isAgg5
 z5 := Tryz.sizeOf5
 v5 := Tryz.zeroValue5
 i0 := by kernel_rfl
 i3 := by kernel_rfl
 i4 := by kernel_rfl
 i5 := by kernel_rfl
 i9 := by kernel_rfl
 i37 := by kernel_rfl
 i127 := by kernel_rfl }
open Go.RowKit in
theorem Tryz.stringslite_Clone (s : ByteArray) (w : World) (hlim : s.size ≤ 281474976710656) :
 Calls Tryz.prog 162 #[.string s] w fun e w' => e = .returned (.string s) ∧ Below w.heap.size w w' := Any.stringslite_Clone Tryz.laysM316 s w hlim
def Tryz.laysC172_ren : Go.Shelf.Ren := ⟨fun | 172 => 172 | 244 => 206 | 245 => 207 | 247 => 234 | 279 => 235 | 280 => 236 | 281 => 237 | 282 => 238 | 287 => 256 | 316 => 162 | 171 => 78 | 205 => 257 | 321 => 263 | 322 => 264 | 243 => 139 | 246 => 189 | 283 => 218 | 284 => 219 | 285 => 220 | 286 => 221 | 129 => 246 | 317 => 245 | 318 => 247 | 319 => 248 | 320 => 249 | 337 => 261 | 338 => 262 | n => n, fun | 9 => 9 | 3 => 3 | 75 => 197 | 76 => 198 | 4 => 4 | 5 => 5 | 167 => 268 | 37 => 38 | 0 => 0 | 85 => 269 | 2 => 2 | 168 => 271 | 53 => 252 | 175 => 296 | 46 => 267 | 210 => 299 | 127 => 236 | 145 => 309 | 143 => 307 | 21 => 21 | 171 => 251 | 173 => 255 | 212 => 281 | 51 => 282 | 20 => 20 | 213 => 283 | 232 => 311 | 233 => 312 | 80 => 114 | n => n, fun | 15 => 6 | 16 => 7 | 17 => 3 | 18 => 8 | 19 => 9 | n => n⟩
theorem Tryz.laysC172 : Go.Proofs.LaysC.n172 Tryz.prog Tryz.laysC172_ren := {
 mixed := by kernel_rfl
 f129 := Tryz.func246.trans (congrArg some (by kernel_rfl))
 f171 := Tryz.func78.trans (congrArg some (by kernel_rfl))
 f172 := Tryz.func172.trans (congrArg some (by kernel_rfl))
 f205 := Tryz.func257.trans (congrArg some (by kernel_rfl))
 f243 := Tryz.func139.trans (congrArg some (by kernel_rfl))
 f244 := Tryz.func206.trans (congrArg some (by kernel_rfl))
 f245 := Tryz.func207.trans (congrArg some (by kernel_rfl))
 f246 := Tryz.func189.trans (congrArg some (by kernel_rfl))
 f247 := Tryz.func234.trans (congrArg some (by kernel_rfl))
 f279 := Tryz.func235.trans (congrArg some (by kernel_rfl))
 f280 := Tryz.func236.trans (congrArg some (by kernel_rfl))
 f281 := Tryz.func237.trans (congrArg some (by kernel_rfl))
 f282 := Tryz.func238.trans (congrArg some (by kernel_rfl))
 f283 := Tryz.func218.trans (congrArg some (by kernel_rfl))
 f284 := Tryz.func219.trans (congrArg some (by kernel_rfl))
 f285 := Tryz.func220.trans (congrArg some (by kernel_rfl))
 f286 := Tryz.func221.trans (congrArg some (by kernel_rfl))
 f287 := Tryz.func256.trans (congrArg some (by kernel_rfl))
 f316 := Tryz.func162.trans (congrArg some (by kernel_rfl))
 f317 := Tryz.func245.trans (congrArg some (by kernel_rfl))
 f318 := Tryz.func247.trans (congrArg some (by kernel_rfl))
 f319 := Tryz.func248.trans (congrArg some (by kernel_rfl))
 f320 := Tryz.func249.trans (congrArg some (by kernel_rfl))
 f321 := Tryz.func263.trans (congrArg some (by kernel_rfl))
 f322 := Tryz.func264.trans (congrArg some (by kernel_rfl))
 f337 := Tryz.func261.trans (congrArg some (by kernel_rfl))
 f338 := Tryz.func262.trans (congrArg some (by kernel_rfl))
 t0 := Tryz.underlying0
 a0 := Tryz.isAgg0
 z0 := Tryz.sizeOf0
 v0 := Tryz.zeroValue0
 t2 := Tryz.underlying2
 a2 := Tryz.isAgg2
 z2 := Tryz.sizeOf2
 v2 := Tryz.zeroValue2
 t3 := Tryz.underlying3
 a3 := Tryz.isAgg3
 z3 := Tryz.sizeOf3
 v3 := Tryz.zeroValue3
 t4 := Tryz.underlying4
 a4 := Tryz.isAgg4
 z4 := Tryz.sizeOf4
 v4 := Tryz.zeroValue4
 t5 := Tryz.underlying5
 a5 := Tryz.isAgg5
 z5 := Tryz.sizeOf5
 v5 := Tryz.zeroValue5
 t9 := Tryz.underlying9
 a9 := Tryz.isAgg9
 z9 := Tryz.sizeOf9
 v9 := Tryz.zeroValue9
 t20 := Tryz.underlying20
 a20 := Tryz.isAgg20
 z20 := Tryz.sizeOf20
 v20 := Tryz.zeroValue20
 t21 := Tryz.underlying21
 a21 := Tryz.isAgg21
 z21 := Tryz.sizeOf21
 v21 := Tryz.zeroValue21
 t37 := Tryz.underlying38
 a37 := Tryz.isAgg38
 z37 := Tryz.sizeOf38
 v37 := Tryz.zeroValue38
 t46 := Tryz.underlying267
 a46 := Tryz.isAgg267
 z46 := Tryz.sizeOf267
 v46 := Tryz.zeroValue267
 t51 := Tryz.underlying282
 a51 := Tryz.isAgg282
 z51 := Tryz.sizeOf282
 v51 := Tryz.zeroValue282
 t53 := Tryz.underlying252
 a53 := Tryz.isAgg252
 z53 := Tryz.sizeOf252
 v53 := Tryz.zeroValue252
 t75 := Tryz.underlying197
 a75 := Tryz.isAgg197
 z75 := Tryz.sizeOf197
 v75 := Tryz.zeroValue197
 t76 := Tryz.underlying198
 a76 := Tryz.isAgg198
 z76 := Tryz.sizeOf198
 v76 := Tryz.zeroValue198
 t85 := Tryz.underlying269
 a85 := Tryz.isAgg269
 z85 := Tryz.sizeOf269
 v85 := Tryz.zeroValue269
 t127 := Tryz.underlying236
 a127 := Tryz.isAgg236
 z127 := Tryz.sizeOf236
 v127 := Tryz.zeroValue236
 t143 := Tryz.underlying307
 a143 := Tryz.isAgg307
 z143 := Tryz.sizeOf307
 v143 := Tryz.zeroValue307
 t145 := Tryz.underlying309
 a145 := Tryz.isAgg309
 z145 := Tryz.sizeOf309
 v145 := Tryz.zeroValue309
 t167 := Tryz.underlying268
 a167 := Tryz.isAgg268
 z167 := Tryz.sizeOf268
 v167 := Tryz.zeroValue268
 t168 := Tryz.underlying271
 a168 := Tryz.isAgg271
 z168 := Tryz.sizeOf271
 v168 := Tryz.zeroValue271
 t171 := Tryz.underlying251
 a171 := Tryz.isAgg251
 z171 := Tryz.sizeOf251
 v171 := Tryz.zeroValue251
 t173 := Tryz.underlying255
 a173 := Tryz.isAgg255
 z173 := Tryz.sizeOf255
 v173 := Tryz.zeroValue255
 t175 := Tryz.underlying296
 a175 := Tryz.isAgg296
 z175 := Tryz.sizeOf296
 v175 := Tryz.zeroValue296
 t210 := Tryz.underlying299
 a210 := Tryz.isAgg299
 z210 := Tryz.sizeOf299
 v210 := Tryz.zeroValue299
 t212 := Tryz.underlying281
 a212 := Tryz.isAgg281
 z212 := Tryz.sizeOf281
 v212 := Tryz.zeroValue281
 t213 := Tryz.underlying283
 a213 := Tryz.isAgg283
 z213 := Tryz.sizeOf283
 t232 := Tryz.underlying311
 a232 := Tryz.isAgg311
 z232 := Tryz.sizeOf311
 v232 := Tryz.zeroValue311
 t233 := Tryz.underlying312
 a233 := Tryz.isAgg312
 z233 := Tryz.sizeOf312
 v233 := Tryz.zeroValue312
 g15 := by kernel_rfl
 g16 := by kernel_rfl
 g17 := by kernel_rfl
 g18 := by kernel_rfl
 g19 := by kernel_rfl
 t80 := Tryz.underlying114
 a80 := Tryz.isAgg114
 z80 := Tryz.sizeOf114
 v80 := Tryz.zeroValue114
 i0 := by kernel_rfl
 i2 := by kernel_rfl
 i3 := by kernel_rfl
 i4 := by kernel_rfl
 i5 := by kernel_rfl
 i9 := by kernel_rfl
 i20 := by kernel_rfl
 i21 := by kernel_rfl
 i37 := by kernel_rfl
 i46 := by kernel_rfl
 i51 := by kernel_rfl
 i53 := by kernel_rfl
 i75 := by kernel_rfl
 i76 := by kernel_rfl
 i80 := by kernel_rfl
 i85 := by kernel_rfl
 i127 := by kernel_rfl
 i143 := by kernel_rfl
 i145 := by kernel_rfl
 i167 := by kernel_rfl
 i168 := by kernel_rfl
 i171 := by kernel_rfl
 i173 := by kernel_rfl
 i175 := by kernel_rfl
 i210 := by kernel_rfl
 i212 := by kernel_rfl
 i232 := by kernel_rfl
 i233 := by kernel_rfl
 m15 := by kernel_rfl
 m16 := by kernel_rfl
 m17 := by kernel_rfl
 m18 := by kernel_rfl
 m19 := by kernel_rfl
 c0 := by kernel_rfl
 c2 := by kernel_rfl
 c3 := by kernel_rfl
 c4 := by kernel_rfl
 c5 := by kernel_rfl
 c9 := by kernel_rfl
 c20 := by kernel_rfl
 c21 := by kernel_rfl
 c37 := by kernel_rfl
 c46 := by kernel_rfl
 c51 := by kernel_rfl
 c53 := by kernel_rfl
 c75 := by kernel_rfl
 c76 := by kernel_rfl
 c80 := by kernel_rfl
 c85 := by kernel_rfl
 c127 := by kernel_rfl
 c143 := by kernel_rfl
 c145 := by kernel_rfl
 c167 := by kernel_rfl
 c168 := by kernel_rfl
 c171 := by kernel_rfl
 c173 := by kernel_rfl
 c175 := by kernel_rfl
 c210 := by kernel_rfl
 c212 := by kernel_rfl
 c213 := by kernel_rfl
 c232 := by kernel_rfl
 c233 := by kernel_rfl }
open Go.RowKit in
theorem Tryz.strconv_Atoi_ok (s : ByteArray) (hmax : s.size ≤ 9223372036854775806) (v : Int) (h : Lib.atoiAll s.data.toList = .ok v) (w : World) :
 Calls Tryz.prog 172 #[.string s] w fun e w' => e = .returned (.tuple #[.int .i64 v, .nilIface]) ∧ (w' = w ∨ ∃ t, w' = Lib.bytesWorld w 5 t) := Any.strconv_Atoi_ok Tryz.laysC172 s hmax v h w
open Go.RowKit in
theorem Tryz.strconv_Atoi_syntax_var (s : ByteArray) (hlim : s.size ≤ 281474976710656) (h : Lib.atoiAll s.data.toList = .«syntax») (tp : TypeId) (p : Value) (w : World) (hvar : w.var? Tryz.prog "strconv.ErrSyntax" = some #[.iface tp p]) :
 Calls Tryz.prog 172 #[.string s] w fun e w' => ∃ N, e = .returned (.tuple #[.int .i64 0, .iface 271 (.pointer (some ⟨N, 0, none⟩))]) ∧ w.heap.size ≤ N ∧ w'.heap[N]? = some (.cells #[.string ⟨#[65, 116, 111, 105]⟩, .string s, .iface tp p] 299 (0, 0)) ∧ Below w.heap.size w w' := Any.strconv_Atoi_syntax_var Tryz.laysC172 s hlim h tp p w hvar
def Tryz.lays219_ren : Go.Shelf.Ren := ⟨fun | 219 => 204 | 217 => 230 | 225 => 231 | 224 => 232 | 267 => 233 | 266 => 254 | 314 => 255 | n => n, fun | 9 => 9 | 3 => 3 | 4 => 4 | 5 => 5 | 46 => 267 | 146 => 294 | 51 => 282 | n => n, fun | 1 => 2 | n => n⟩
theorem Tryz.lays219 : Go.Proofs.Lays.n219 Tryz.prog Tryz.lays219_ren := {
 mixed := by kernel_rfl
 f217 := Tryz.func230.trans (congrArg some (by kernel_rfl))
 f219 := Tryz.func204.trans (congrArg some (by kernel_rfl))
 f224 := Tryz.func232.trans (congrArg some (by kernel_rfl))
 f225 := Tryz.func231.trans (congrArg some (by kernel_rfl))
 f266 := Tryz.func254.trans (congrArg some (by kernel_rfl))
 f267 := Tryz.func233.trans (congrArg some (by kernel_rfl))
 f314 := Tryz.func255.trans (congrArg some (by kernel_rfl))
 t3 := Tryz.underlying3
 a3 := Tryz.isAgg3
 z3 := Tryz.sizeOf3
 v3 := Tryz.zeroValue3
 t4 := Tryz.underlying4
 a4 := Tryz.isAgg4
 z4 := Tryz.sizeOf4
 v4 := Tryz.zeroValue4
 t5 := Tryz.underlying5
 a5 := Tryz.isAgg5
 z5 := Tryz.sizeOf5
 v5 := Tryz.zeroValue5
 t9 := Tryz.underlying9
 a9 := Tryz.isAgg9
 z9 := Tryz.sizeOf9
 v9 := Tryz.zeroValue9
 t46 := Tryz.underlying267
 a46 := Tryz.isAgg267
 z46 := Tryz.sizeOf267
 v46 := Tryz.zeroValue267
 t51 := Tryz.underlying282
 a51 := Tryz.isAgg282
 z51 := Tryz.sizeOf282
 v51 := Tryz.zeroValue282
 t146 := Tryz.underlying294
 a146 := Tryz.isAgg294
 z146 := Tryz.sizeOf294
 v146 := Tryz.zeroValue294
 g1 := by kernel_rfl }
open Go.RowKit Go.Lib in
theorem Tryz.stringslite_Index_one (s : ByteArray) (c : UInt8) (w : World) :
 Calls Tryz.prog 204 #[.string s, .string ⟨#[c]⟩] w fun e w' => e = .returned (.int .i64 (Lib.indexByte s.data.toList c)) ∧ w' = w := Any.stringslite_Index_one Tryz.lays219 s c w
def Tryz.lays143_ren : Go.Shelf.Ren := ⟨fun | 143 => 203 | 219 => 204 | 217 => 230 | 225 => 231 | 224 => 232 | 267 => 233 | 266 => 254 | 314 => 255 | n => n, fun | 9 => 9 | 3 => 3 | 4 => 4 | 5 => 5 | 46 => 267 | 146 => 294 | 51 => 282 | n => n, fun | 1 => 2 | n => n⟩
theorem Tryz.lays143 : Go.Proofs.Lays.n143 Tryz.prog Tryz.lays143_ren := {
 mixed := by kernel_rfl
 f143 := Tryz.func203.trans (congrArg some (by kernel_rfl))
 f217 := Tryz.func230.trans (congrArg some (by kernel_rfl))
 f219 := Tryz.func204.trans (congrArg some (by kernel_rfl))
 f224 := Tryz.func232.trans (congrArg some (by kernel_rfl))
 f225 := Tryz.func231.trans (congrArg some (by kernel_rfl))
 f266 := Tryz.func254.trans (congrArg some (by kernel_rfl))
 f267 := Tryz.func233.trans (congrArg some (by kernel_rfl))
 f314 := Tryz.func255.trans (congrArg some (by kernel_rfl))
 t3 := Tryz.underlying3
 a3 := Tryz.isAgg3
 z3 := Tryz.sizeOf3
 v3 := Tryz.zeroValue3
 t4 := Tryz.underlying4
 a4 := Tryz.isAgg4
 z4 := Tryz.sizeOf4
 v4 := Tryz.zeroValue4
 t5 := Tryz.underlying5
 a5 := Tryz.isAgg5
 z5 := Tryz.sizeOf5
 v5 := Tryz.zeroValue5
 t9 := Tryz.underlying9
 a9 := Tryz.isAgg9
 z9 := Tryz.sizeOf9
 v9 := Tryz.zeroValue9
 t46 := Tryz.underlying267
 a46 := Tryz.isAgg267
 z46 := Tryz.sizeOf267
 v46 := Tryz.zeroValue267
 t51 := Tryz.underlying282
 a51 := Tryz.isAgg282
 z51 := Tryz.sizeOf282
 v51 := Tryz.zeroValue282
 t146 := Tryz.underlying294
 a146 := Tryz.isAgg294
 z146 := Tryz.sizeOf294
 v146 := Tryz.zeroValue294
 g1 := by kernel_rfl }
open Go.RowKit Go.Lib in
theorem Tryz.strings_Index_one (s : ByteArray) (c : UInt8) (w : World) :
 Calls Tryz.prog 203 #[.string s, .string ⟨#[c]⟩] w fun e w' => e = .returned (.int .i64 (Lib.indexByte s.data.toList c)) ∧ w' = w := Any.strings_Index_one Tryz.lays143 s c w
def Tryz.lays101_ren : Go.Shelf.Ren := ⟨fun | 101 => 171 | 208 => 205 | 206 => 208 | n => n, fun | 9 => 9 | 4 => 4 | 3 => 3 | n => n, fun | n => n⟩
theorem Tryz.lays101 : Go.Proofs.Lays.n101 Tryz.prog Tryz.lays101_ren := {
 mixed := by kernel_rfl
 f101 := Tryz.func171.trans (congrArg some (by kernel_rfl))
 f206 := Tryz.func208.trans (congrArg some (by kernel_rfl))
 f208 := Tryz.func205.trans (congrArg some (by kernel_rfl))
 t3 := Tryz.underlying3
 a3 := Tryz.isAgg3
 z3 := Tryz.sizeOf3
 v3 := Tryz.zeroValue3
 t4 := Tryz.underlying4
 a4 := Tryz.isAgg4
 z4 := Tryz.sizeOf4
 v4 := Tryz.zeroValue4
 t9 := Tryz.underlying9
 a9 := Tryz.isAgg9
 z9 := Tryz.sizeOf9
 v9 := Tryz.zeroValue9 }
open Go.RowKit Go.Lib in
theorem Tryz.strings_TrimPrefix (s p : ByteArray) (w : World) :
 Calls Tryz.prog 171 #[.string s, .string p] w fun e w' => e = .returned (.string ⟨(Lib.trimPrefix s.data.toList p.data.toList).toArray⟩) ∧ w' = w := Any.strings_TrimPrefix Tryz.lays101 s p w
def Tryz.lays229_ren : Go.Shelf.Ren := ⟨fun | 229 => 111 | n => n, fun | 9 => 9 | 40 => 151 | 31 => 63 | 152 => 203 | 3 => 3 | 0 => 0 | 4 => 4 | 21 => 21 | 154 => 205 | n => n, fun | n => n⟩
theorem Tryz.lays229 : Go.Proofs.Lays.n229 Tryz.prog Tryz.lays229_ren := {
 mixed := by kernel_rfl
 f229 := Tryz.func111.trans (congrArg some (by kernel_rfl))
 t0 := Tryz.underlying0
 a0 := Tryz.isAgg0
 z0 := Tryz.sizeOf0
 v0 := Tryz.zeroValue0
 t3 := Tryz.underlying3
 a3 := Tryz.isAgg3
 z3 := Tryz.sizeOf3
 v3 := Tryz.zeroValue3
 t4 := Tryz.underlying4
 a4 := Tryz.isAgg4
 z4 := Tryz.sizeOf4
 v4 := Tryz.zeroValue4
 t9 := Tryz.underlying9
 a9 := Tryz.isAgg9
 z9 := Tryz.sizeOf9
 v9 := Tryz.zeroValue9
 t21 := Tryz.underlying21
 a21 := Tryz.isAgg21
 z21 := Tryz.sizeOf21
 v21 := Tryz.zeroValue21
 t31 := Tryz.underlying63
 a31 := Tryz.isAgg63
 z31 := Tryz.sizeOf63
 v31 := Tryz.zeroValue63
 t40 := Tryz.underlying151
 a40 := Tryz.isAgg151
 z40 := Tryz.sizeOf151
 v40 := Tryz.zeroValue151
 t152 := Tryz.underlying203
 a152 := Tryz.isAgg203
 z152 := Tryz.sizeOf203
 v152 := Tryz.zeroValue203
 t154 := Tryz.underlying205
 a154 := Tryz.isAgg205
 z154 := Tryz.sizeOf205
 v154 := Tryz.zeroValue205 }
open Go.RowKit Go.Lib in
theorem Tryz.strings_FieldsFunc_runes (g : Nat) (lb : Array Value) (eg : ∀ args w, (callFunc g args).run Tryz.prog w = .ok (.enter g args) w) (p : Nat → Bool) (s : ByteArray) (w : World) (hs : s.size ≤ 4294967296) (hp : PredAtRunes Tryz.prog g lb p w) :
 Calls Tryz.prog 111 #[.string s, .func (.func g) #[] lb] w fun e w' => ∃ A, e = .returned (.slice (some ⟨A, 0, none⟩) (Lib.goFieldsP p s).length (Lib.goFieldsP p s).length) ∧ w.heap.size ≤ A ∧
  w'.ownsRow w.heap.size 9 1 (.slice (some ⟨A, 0, none⟩) (Lib.goFieldsP p s).length (Lib.goFieldsP p s).length) (Lib.goFieldsP p s).length ((Lib.goFieldsP p s).map Value.string) ∧ Below w.heap.size w w' := Any.strings_FieldsFunc_runes Tryz.lays229 g lb eg p s w hs hp (by kernel_rfl) (by kernel_rfl)
end Go.Proofs
namespace Go.Proofs.YtodckioppgjbdaaGreatDoor.AM
open Go Go.RowKit
theorem aF3 {P : Program} {f : FuncId} {args : List AV} {v : Value} (hent : ∀ vs w, (callFunc f vs).run P w = .ok (.enter f vs) w) (hv : v.oneCell' = true)
 (h : ∀ (w : World) (S0 : Nat → Prop) (us : List Value), (∀ b, S0 b → b < w.heap.size) → (∀ g y, GT g = some y → RG S0 w g y) → RVs S0 w (fun _ => none) (fun _ => 0) (fun _ => undef) args us → Calls P f us.toArray w fun e w' => e = .returned v ∧ Below w.heap.size w w') : AC P f args ⟨.v v, []⟩ := by
 refine ⟨hent, fun w S0 B0 V0 T0 vs hS hG _ hv' => (h w S0 vs hS hG (jB (fun _ => rfl) hv')).mono fun e w' ⟨he, hb⟩ => ?_⟩
 exact ⟨v, S0, fun _ => 0, fun _ => undef, fun _ => Fa, fun _ => Fa, he, Grown.of hb _, fun _ h => h, fun b hb' => ⟨Nat.lt_of_lt_of_le (hS b hb') hb.size, .inl hb'⟩, (by unfold RV; exact ⟨rfl, hv⟩), zm wh, zm (fun _ => rfl), fun l l' ob ob' g e => by rw [wh] at e; cases e⟩
theorem aEF {α : Type} (f : α → Value) : ∀ (l : List α), asz (.agg (l.map fun x => .v (f x))) = l.length
 | [] => rfl
 | x :: l => by
  have h2 : xB (l.map fun x => .v (f x)) = l.length := aEF f l
  rw [List.map_cons]
  show 1 + xB _ = _
  rw [h2, List.length_cons]; omega
theorem aKl {P : Program} {S0 : Nat → Prop} {w : World} {g : Nat} {name : String} {k : IntKind} {zs : List Int} (hg : P.globalNamed name = some g) (h : RG S0 w g (.agg (zs.map fun x => .v (.int k x)))) : Lib.TabIs P w name k zs := by
 have h1 := h.ra rfl
 obtain ⟨cs, t, p, hb, hn⟩ := h.full
 unfold Lib.TabIs World.var?
 rw [hg]
 simp only [Option.bind_some, hb, Option.some.injEq]
 unfold RA at h1
 obtain ⟨b, off, us, e, _, h2, h3⟩ := h1
 simp only [List.cons.injEq, Value.pointer.injEq, Option.some.injEq, Addr.mk.injEq, and_true] at e
 obtain ⟨rfl, rfl⟩ := e
 unfold RA at h2
 have hus : us = zs.map fun z => Value.int k z := by
  clear h3 hn h
  induction zs generalizing us with
  | nil => unfold List.map RL at h2; exact h2
  | cons z zs ih =>
   rw [List.map_cons] at h2
   unfold RL at h2
   obtain ⟨c1, c2, rfl, k1, k2⟩ := h2
   unfold RA at k1
   rw [k1.1, ih _ k2]; rfl
 subst hus
 have hsz : cs.size = zs.length := by
  have hn' : cs.size = asz (.agg (zs.map fun x => .v (.int k x))) := hn
  rw [hn', aEF]
 apply Array.ext
 · simp [hsz]
 · intro i hi hi2
   have hi3 : i < zs.length := by omega
   have := h3 i (.int k zs[i]) (by rw [List.getElem?_map, List.getElem?_eq_getElem hi3]; rfl)
   rw [Nat.zero_add, Lib.cell_of_heap hb] at this
   rw [Array.getElem?_eq_getElem hi, Option.some.injEq] at this
   rw [this]; simp
theorem aEQ : ∀ (n : Nat), Lib.decDigits n = vz n := fun n => by
 induction n using Nat.strongRecOn with
 | _ n ih =>
  rw [Lib.decDigits, vz]
  by_cases h : n < 10
  · rw [dif_pos h, dif_pos h]
  · rw [dif_neg h, dif_neg h, ih (n / 10) (by omega)]
theorem aK4 {n : Int} : (⟨(Lib.itoa n).toArray⟩ : ByteArray) = zx n := by
 unfold Lib.itoa zx
 split
 · rw [aEQ]
   apply ByteArray.ext
   rw [ByteArray.data_append]
   unfold zP
   have : n.natAbs = (-n).toNat := by omega
   rw [this]; simp
 · rw [aEQ]; rfl
theorem aH3 : ∀ vs w, (callFunc 64 vs).run Tryz.prog w = .ok (.enter 64 vs) w := uU Tryz.func64 (by kernel_rfl) (by kernel_rfl)
theorem yK {es : List Edt} {b : Bool} (hb : xO es = b) (hm : es.length ≤ maxLen) (hk : ∀ e ∈ es, e.key.size ≤ maxLen) : AC Tryz.prog 64 [.lst 3 (es.map x9)] ⟨.v (.bool b), []⟩ :=
 hb ▸ jd aH3 rfl fun w S0 vs hS hv => by
  obtain ⟨u, rfl, h1⟩ := kL hv
  obtain ⟨A, c, rfl, _, _, hr⟩ := kM hS h1
  exact aAt A es.length c es w hr hm hk
theorem aH2 : ∀ vs w, (callFunc 61 vs).run Tryz.prog w = .ok (.enter 61 vs) w := uU Tryz.func61 (by kernel_rfl) (by kernel_rfl)
theorem aAG {es : List Edt} {b : Bool} (hb : xO es = b) (hm : es.length ≤ maxLen) (hk : ∀ e ∈ es, e.key.size ≤ maxLen) : AC Tryz.prog 61 [.lst 3 (es.map x9)] ⟨.v (.bool b), []⟩ :=
 hb ▸ jd aH2 rfl fun w S0 vs hS hv => by
  obtain ⟨u, rfl, h1⟩ := kL hv
  obtain ⟨A, c, rfl, _, _, hr⟩ := kM hS h1
  exact aCP A es.length c es w hr hm hk
theorem uy {P : Program} {t : TypeId} {x y : Operand} {k : IntKind} {a b : Int} : zG P .eql t x y (.int k a) (.int k b) (.bool (decide (a = b))) := by
 by_cases h : a = b
 · rw [decide_eq_true h]; exact aCD h
 · rw [decide_eq_false h]; exact aCC h
theorem uI {P : Program} {t : TypeId} {x y : Operand} {a b : ByteArray} : zG P .eql t x y (.string a) (.string b) (.bool (decide (a = b))) := by
 by_cases h : a = b
 · rw [decide_eq_true h]; exact yh h
 · rw [decide_eq_false h]; exact yg h
abbrev eB : ByteArray := ⟨#[]⟩
def opB (o : Opr) : Bool :=
 okN o.name && (if o.kind = 1 ∨ o.kind = 4 then decide (1 ≤ o.frm ∧ o.frm ≤ 60) && (decide (o.key = eB) && decide (o.edits.length = 0))
  else if o.kind = 3 then decide (0 ≤ o.frm ∧ o.frm ≤ 60) && (decide (o.key = eB) && xO o.edits)
  else if o.kind = 5 then decide (o.frm = 0) && (okN o.key && decide (o.edits.length = 0))
  else if o.kind = 2 ∨ o.kind = 6 then decide (o.frm = 0) && (decide (o.key = eB) && decide (o.edits.length = 0))
  else false)
theorem aFR {es : List Edt} (h : es.length = 0) : xO es = true := by
 have := List.eq_nil_of_length_eq_zero h
 subst this; rfl
attribute [local irreducible] xD xJ xQ yD yJ Pre ACG
end Go.Proofs.YtodckioppgjbdaaGreatDoor.AM
namespace Go.Proofs.YtodckioppgjbdaaGreatDoor.AM
open Go Go.RowKit Go.ChangeShapes Go.WideShapes Go.Deep
structure Wsh where
 kind : Int
 name : ByteArray
 source : ByteArray
 key : ByteArray
 edits : List Edt
structure Mom where
 client : Int
 wish : Int
 step : Int
 op : Opr
 res : Rst
def uP (w : Wsh) : AV := .agg [.v (.int .i64 w.kind), .v (.string w.name), .v (.string w.source), .v (.string w.key), .lst 3 (w.edits.map x9)]
def Wsh.ok (o : Wsh) (N : Nat) : Prop := o.name.size ≤ N ∧ o.source.size ≤ N ∧ o.key.size ≤ N ∧ o.edits.length ≤ N ∧ ∀ e ∈ o.edits, e.key.size ≤ N
section
variable {S : Nat → Prop} {w : World}
end
section
variable {H : Type} {enc : TypeId × Value → H} {P : Program} {w : World} {base : Nat} {held : Bool}
end
end Go.Proofs.YtodckioppgjbdaaGreatDoor.AM
namespace Go.Proofs.YtodckioppgjbdaaGreatDoor.AM
open Go Go.RowKit
section
variable {P : Program} {Θ : Tab} {s : St} {ty : TypeId} {pos : String} {after : Array Edge} {g : Option (Nat × Bool)} {d : Option Tmp}
theorem aBT {a t t2 l : Nat} {ob : OB} {v : Value} {t' : Option Nat} {xs : List AV} (h1 : s.sl a = .optr l 0 [] 0) (ho : s.hp l = some ob) (hoe : y8 ob.e ob.xs 0 = some (.o t' 0 (.mix xs))) (h2 : s.sl t2 = .v v) (hm : mapA (fun k => ([] : List Nat).getD k 0) (.mix xs) = .mix xs) (hwi : (AV.mix xs).within (fun k => Nat.blt k 0) = true) (hof : ofO (.mix xs) = some (.mix xs) := by rfl) (hk : ((Θ.look t).known && (Θ.look t).isAgg && Nat.beq (xB xs) (Θ.look t).size) = true := by rfl) (hop : ob.e.open_ = false := by rfl) :
 wN Θ [.cell a t, .tmp t2] ⟨.tup [.mix xs, .v v], []⟩ .ret s := by
 have hr : rvA s (.cell a t) = .mix xs := by
  simp only [rvA, h1, ho, hop, hoe, cond_false, hof]; rfl
 simp only [Bool.and_eq_true] at hk
 have c2 : aGu Θ s (.cell a t) := ⟨hk.1.1, by rw [hr]; exact hk.1.2.symm, by rw [hr]; exact Nat.eq_of_beq_eq_true hk.2, .inl ⟨l, ob, _, h1, ho, .inr ⟨hop, _, _, hoe, hof⟩⟩⟩
 exact ⟨trivial, [], by simp, trivial, ⟨c2, trivial, trivial⟩, ⟨_, rfl⟩, ⟨by rw [hr]; exact .inl ⟨hm.symm, hwi⟩, .inl ⟨h2, rfl⟩, trivial⟩⟩
end
theorem aAZ {x : ByteArray} (h : okN x = true) : 0 < x.size := by
 unfold okN Nm.nameOK at h
 have e : x.size = x.data.toList.length := by rw [Array.length_toList]; rfl
 rw [e]
 split at h
 · cases h
 · rename_i c cs hc
   rw [hc]; simp
attribute [local irreducible] xD xJ xQ yD yJ Pre ACG
theorem aA9 : AC Tryz.prog 43 [.v (.string ⟨#[99, 114, 101, 97, 116, 101]⟩)] ⟨.tup [.mix [.fn 99 [] [], .fn 100 [] []], .v (.bool true)], []⟩ := by
 refine qrf Tryz.func43 Tryz.ntmps43 Tryz.results43 ?_; conv => whnf
 repeat ((first | refine qz ?_ | refine qst ?_ | refine qr (yU rfl rfl rfl rfl rfl rfl) ?_ | refine qp (zW rfl rfl rfl rfl rfl rfl rfl rfl) ?_ | refine qdr ?_ | refine qr (kZ rfl ⟨⟨_, _, rfl, rfl, rfl⟩, ⟨_, _, rfl, rfl, rfl⟩, trivial⟩ rfl) ?_ | refine qr (qF rfl rfl) ?_ | refine qr (qE rfl rfl rfl rfl rfl rfl rfl (by rfl)) ?_ | refine qp (qD rfl rfl rfl rfl (by rfl) (by rfl)) ?_); conv => whnf)
 exact aBT rfl rfl rfl rfl rfl rfl
theorem uf : AC Tryz.prog 43 [.v (.string ⟨#[99, 111, 109, 109, 105, 116]⟩)] ⟨.tup [.mix [.fn 104 [] [], .fn 105 [] []], .v (.bool true)], []⟩ := by
 refine qrf Tryz.func43 Tryz.ntmps43 Tryz.results43 ?_; conv => whnf
 repeat ((first | refine qz ?_ | refine qst ?_ | refine qr (yU rfl rfl rfl rfl rfl rfl) ?_ | refine qp (zW rfl rfl rfl rfl rfl rfl rfl rfl) ?_ | refine qdr ?_ | refine qr (kZ rfl ⟨⟨_, _, rfl, rfl, rfl⟩, ⟨_, _, rfl, rfl, rfl⟩, trivial⟩ rfl) ?_ | refine qr (qF rfl rfl) ?_ | refine qr (qE rfl rfl rfl rfl rfl rfl rfl (by rfl)) ?_ | refine qp (qD rfl rfl rfl rfl (by rfl) (by rfl)) ?_); conv => whnf)
 exact aBT rfl rfl rfl rfl rfl rfl
theorem aBZ : AC Tryz.prog 43 [.v (.string ⟨#[109, 101, 114, 103, 101]⟩)] ⟨.tup [.mix [.fn 99 [] [], .fn 100 [] []], .v (.bool true)], []⟩ := by
 refine qrf Tryz.func43 Tryz.ntmps43 Tryz.results43 ?_; conv => whnf
 repeat ((first | refine qz ?_ | refine qst ?_ | refine qr (yU rfl rfl rfl rfl rfl rfl) ?_ | refine qp (zW rfl rfl rfl rfl rfl rfl rfl rfl) ?_ | refine qdr ?_ | refine qr (kZ rfl ⟨⟨_, _, rfl, rfl, rfl⟩, ⟨_, _, rfl, rfl, rfl⟩, trivial⟩ rfl) ?_ | refine qr (qF rfl rfl) ?_ | refine qr (qE rfl rfl rfl rfl rfl rfl rfl (by rfl)) ?_ | refine qp (qD rfl rfl rfl rfl (by rfl) (by rfl)) ?_); conv => whnf)
 exact aBT rfl rfl rfl rfl rfl rfl
theorem aBw : AC Tryz.prog 43 [.v (.string ⟨#[103, 101, 116]⟩)] ⟨.tup [.mix [.fn 102 [] [], .fn 103 [] []], .v (.bool true)], []⟩ := by
 refine qrf Tryz.func43 Tryz.ntmps43 Tryz.results43 ?_; conv => whnf
 repeat ((first | refine qz ?_ | refine qst ?_ | refine qr (yU rfl rfl rfl rfl rfl rfl) ?_ | refine qp (zW rfl rfl rfl rfl rfl rfl rfl rfl) ?_ | refine qdr ?_ | refine qr (kZ rfl ⟨⟨_, _, rfl, rfl, rfl⟩, ⟨_, _, rfl, rfl, rfl⟩, trivial⟩ rfl) ?_ | refine qr (qF rfl rfl) ?_ | refine qr (qE rfl rfl rfl rfl rfl rfl rfl (by rfl)) ?_ | refine qp (qD rfl rfl rfl rfl (by rfl) (by rfl)) ?_); conv => whnf)
 exact aBT rfl rfl rfl rfl rfl rfl
theorem aAT {m : List (ByteArray × AV)} {k q : ByteArray} {v : AV} (h : ¬ q = k) : zY (vE m k v) q = zY m q := by
 induction m with
 | nil => simp [vE, zY, h]
 | cons x m ih =>
  obtain ⟨a, y⟩ := x
  rw [vE]
  split
  · rename_i e; subst e; simp [zY, h]
  · simp only [zY, ih]
theorem aJH {a b c d t : ByteArray} {va vb vc vd : AV} (ha : ¬ t = a) (hb : ¬ t = b) (hc : ¬ t = c) (hd : ¬ t = d) : zY (vE (vE (vE (vE [] a va) b vb) c vc) d vd) t = none := by
 rw [aAT hd, aAT hc, aAT hb, aAT ha]; rfl
theorem aCj {t : ByteArray} (h0 : ¬ t = ⟨#[99, 114, 101, 97, 116, 101]⟩) (h2 : ¬ t = ⟨#[99, 111, 109, 109, 105, 116]⟩) (h3 : ¬ t = ⟨#[109, 101, 114, 103, 101]⟩) (h4 : ¬ t = ⟨#[103, 101, 116]⟩) : AC Tryz.prog 43 [.v (.string t)] ⟨.tup [.agg [.v .nilFunc, .v .nilFunc], .v (.bool false)], []⟩ := by
 refine qrf Tryz.func43 Tryz.ntmps43 Tryz.results43 ?_; conv => whnf
 repeat ((first | refine qz ?_ | refine qst ?_ | refine qr (yU rfl rfl rfl rfl rfl rfl) ?_ | refine qp (zW rfl rfl rfl rfl rfl rfl rfl rfl) ?_ | refine qdr ?_ | refine qr (kZ rfl ⟨⟨_, _, rfl, rfl, rfl⟩, ⟨_, _, rfl, rfl, rfl⟩, trivial⟩ rfl) ?_ | refine qr (qF rfl rfl) ?_ | refine qr (qE rfl rfl rfl rfl rfl rfl rfl (by rfl)) ?_ | refine qp (qD (y := .agg [.v .nilFunc, .v .nilFunc]) (f := false) rfl rfl rfl rfl (congrArg (fun o => Option.getD o (AV.agg [.v .nilFunc, .v .nilFunc])) (aJH h0 h2 h3 h4)) (congrArg Option.isSome (aJH h0 h2 h3 h4))) ?_); conv => whnf)
 exact xS rfl rfl rfl rfl trivial rfl
end Go.Proofs.YtodckioppgjbdaaGreatDoor.AM
namespace Go.Proofs.YtodckioppgjbdaaGreatDoor.AM
open Go Go.RowKit
section
variable {Θ : Tab} {s : St}
theorem aBS {a t t2 l l1 : Nat} {ob o1 : OB} {v : Value} {t' : Option Nat} {xs ys : List AV} (h1 : s.sl a = .optr l 0 [] 0) (ho : s.hp l = some ob) (hoe : y8 ob.e ob.xs 0 = some (.o t' 0 (.mix xs))) (h2 : s.sl t2 = .v v) (ho1 : s.hp l1 = some o1) (hm : mapA (fun k => [l1].getD k 0) (.mix ys) = .mix xs) (hwi : (AV.mix ys).within (fun k => Nat.blt k 1) = true) (hok : okL l1 = true := by rfl) (hs1 : o1.e.shut = true := by rfl) (hof : ofO (.mix xs) = some (.mix xs) := by rfl) (hk : ((Θ.look t).known && (Θ.look t).isAgg && Nat.beq (xB xs) (Θ.look t).size) = true := by rfl) (hop : ob.e.open_ = false := by rfl) :
 wN Θ [.cell a t, .tmp t2] ⟨.tup [.mix ys, .v v], [o1]⟩ .ret s := by
 have hr : rvA s (.cell a t) = .mix xs := by
  simp only [rvA, h1, ho, hop, hoe, cond_false, hof]; rfl
 simp only [Bool.and_eq_true] at hk
 have c2 : aGu Θ s (.cell a t) := ⟨hk.1.1, by rw [hr]; exact hk.1.2.symm, by rw [hr]; exact Nat.eq_of_beq_eq_true hk.2, .inl ⟨l, ob, _, h1, ho, .inr ⟨hop, _, _, hoe, hof⟩⟩⟩
 exact ⟨trivial, [l1], by simp, ⟨⟨ho1, hok, hs1⟩, trivial⟩, ⟨c2, trivial, trivial⟩, ⟨_, rfl⟩, ⟨by rw [hr]; exact .inl ⟨hm.symm, hwi⟩, .inl ⟨h2, rfl⟩, trivial⟩⟩
end
attribute [local irreducible] xD xJ xQ yD yJ Pre ACG
theorem aF5 {f g : FuncId} {ws : List ByteArray} (hm : ws.length ≤ 1000000) (hl : ¬ ws.length = 1) : AC Tryz.prog 109 [.mix [.fn f [] [], .fn g [] []], .lst 1 (ws.map xP)] ⟨.tup [uP ⟨0, eB, eB, eB, []⟩, .v (.bool false)], []⟩ := by
 refine qrf Tryz.func109 Tryz.ntmps109 Tryz.results109 ?_; conv => whnf
 repeat ((first | refine qz ?_ | refine qst ?_ | refine qr (aC4 rfl rfl rfl) ?_ | refine qdr ?_); conv => whnf)
 exact xS rfl rfl rfl rfl trivial rfl
theorem aKv {f g : FuncId} {x : ByteArray} {r : Wsh} {ok : Bool} (hg : AC Tryz.prog g [.v (.string x)] ⟨.tup [uP r, .v (.bool ok)], []⟩) : AC Tryz.prog 109 [.mix [.fn f [] [], .fn g [] []], .lst 1 ([x].map xP)] ⟨.tup [uP r, .v (.bool ok)], []⟩ := by
 refine qrf Tryz.func109 Tryz.ntmps109 Tryz.results109 ?_; conv => whnf
 repeat ((first | refine qp (xA (qi (by simp)) rfl rfl rfl) ?_ | refine qp (zN (j := 0) (y := xP x) rfl rfl rfl rfl) ?_ | refine qr (aFt hg rfl rfl (.inl rfl) trivial rfl rfl) ?_ | refine qz ?_ | refine qst ?_ | refine qr (aC4 rfl rfl rfl) ?_ | refine qdr ?_); conv => whnf)
 exact xS rfl rfl rfl rfl trivial rfl
theorem aCi {t : ByteArray} {es : List Edt} {ok : Bool} (c1 : AC Tryz.prog 66 [.v (.string t), .fn 67 [] []] ⟨.tup [.own 0, .v (.bool ok)], [⟨107, 3, es.map x9⟩]⟩) : AC Tryz.prog 105 [.v (.string t)] ⟨.tup [.mix [.v (.int .i64 0), .v (.string eB), .v (.string eB), .v (.string eB), .own 0], .v (.bool ok)], [⟨107, 3, es.map x9⟩]⟩ := by
 refine qrf Tryz.func105 Tryz.ntmps105 Tryz.results105 ?_; conv => whnf
 repeat ((first | refine qz ?_ | refine qc (c1) ?_ | refine qr (kZ rfl ⟨⟨_, _, rfl, rfl, rfl⟩, trivial⟩ rfl) ?_ | refine qr (yU rfl rfl rfl rfl rfl rfl) ?_ | refine qp (zW rfl rfl rfl rfl rfl rfl rfl rfl) ?_ | refine qdr ?_); conv => whnf)
 exact aBS rfl rfl rfl rfl rfl rfl rfl
theorem aEB {f g : FuncId} {x : ByteArray} {es : List Edt} {ok : Bool} (hg : AC Tryz.prog g [.v (.string x)] ⟨.tup [.mix [.v (.int .i64 0), .v (.string eB), .v (.string eB), .v (.string eB), .own 0], .v (.bool ok)], [⟨107, 3, es.map x9⟩]⟩) : AC Tryz.prog 109 [.mix [.fn f [] [], .fn g [] []], .lst 1 ([x].map xP)] ⟨.tup [.mix [.v (.int .i64 0), .v (.string eB), .v (.string eB), .v (.string eB), .own 0], .v (.bool ok)], [⟨107, 3, es.map x9⟩]⟩ := by
 refine qrf Tryz.func109 Tryz.ntmps109 Tryz.results109 ?_; conv => whnf
 repeat ((first | refine qp (xA (qi (by simp)) rfl rfl rfl) ?_ | refine qp (zN (j := 0) (y := xP x) rfl rfl rfl rfl) ?_ | refine qr (aFt hg rfl rfl (.inl rfl) ⟨⟨rfl, rfl, rfl⟩, trivial⟩ rfl rfl) ?_ | refine qz ?_ | refine qst ?_ | refine qr (aC4 rfl rfl rfl) ?_ | refine qr (yU rfl rfl rfl rfl rfl rfl) ?_ | refine qp (zW rfl rfl rfl rfl rfl rfl rfl rfl) ?_ | refine qdr ?_); conv => whnf)
 exact aBS rfl rfl rfl rfl rfl rfl rfl
end Go.Proofs.YtodckioppgjbdaaGreatDoor.AM
