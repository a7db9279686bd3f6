/- Texts of the machine over data, folded. -/
import Derived.Test.YtodckioppgjbdaaDoorKa7
import Derived.Test.YtodckioppgjbdaaDoorKa6
import Derived.Test.YtodckioppgjbdaaDoorKa5
import Derived.Conc.LoneCalls
import Derived.Conc.LoneSelect
import Derived.Shelf.Strings.OnBuilder
import Derived.Shelf.LaysM
import Derived.Shelf.Strconv.Itoa3
import Derived.Test.YtodckioppgjbdaaDoorProg
set_option linter.unusedVariables false
set_option linter.unusedSimpArgs false
set_option maxRecDepth 100000
namespace Go.Proofs.YtodckioppgjbdaaDoor
open Go.RowKit
set_option maxHeartbeats 4000000 in
set_option maxRecDepth 100000 in
theorem aCT (A : Option Addr) (n c : Nat) (es : List Edt) (w : World) (hr : Rd w 3 A n (xg es)) (hm : n ≤ maxLen) (hks : ∀ e ∈ es, e.key.size ≤ maxLen) :
 Calls Tryd.prog 59 #[.slice A n c] w fun e w' => e = .returned (.bool (xQ es)) ∧ Below w.heap.size w w' := by
 unfold maxLen at hm
 have hlen := hr.elen
 have Hlen := Lib.hid hlen; clear hlen
 by_cases hbig : 6 < n
 · have hfin : Hid (xQ es = false) := jb (by rw [Hlen.out]; exact hbig)
   go_enter Tryd.func59, Tryd.ntmps59
   go_wp2
   go_ret
   exact ⟨xE hfin.out.symm, Below.refl _ _⟩
 have hn6 : n ≤ 6 := by omega
 clear hbig
 go_enter Tryd.func59, Tryd.ntmps59
 go_wp2
 go_loopw [3] (fun i wr => ∃ k : Nat, k ≤ n ∧ i = .int .i64 k ∧ (∀ j, j < k → xS (kv es) j = true ∧ zH es j = true) ∧ Below w.heap.size w wr) (fun i _ => n - (intOf i).toNat)
 case atStart => exact ⟨0, Nat.zero_le _, rfl, fun j hj => absurd hj (by omega), Below.refl _ _⟩
 case round =>
  obtain ⟨k, hk, rfl, hall, hb⟩ := hrel
  have Hall := Lib.hid hall; clear hall
  by_cases hlt : k < n
  · have hke : k < es.length := by rw [Hlen.out]; exact hlt
    obtain ⟨b, off, rfl, hbl, hbl2, hc1, hc2, hc3⟩ := hr.edt hb hke
    have hsz := hks _ (List.getElem_mem hke)
    have hnoO := aDZ es k hke
    have hE := aAC es k hke
    have hz0 : k = 0 → nm es[k].key = true → xS (kv es) k = true := by rintro rfl h; exact aB9 es hke h
    have hp0 : (h : 0 < k) → nm es[k].key = true → xS (kv es) k = klt (es[k - 1]'(by omega)).key es[k].key := fun h h2 => aC4 es k h hke h2
    generalize es[k] = ek at *
    obtain ⟨k1, v1, g1⟩ := ek
    simp only at hc1 hc2 hc3 hsz hnoO hE hz0 hp0
    have hcall := fun W => qh k1 W hsz
    have hcall2 := fun W => aB4 v1 (-1000000) 1000000 W
    change ∀ W, Calls _ _ _ W fun e w' => e = .returned (.bool (nm k1)) ∧ W = w' at hcall
    change ∀ W, Calls _ _ _ W fun e w' => e = .returned (.bool (wZ v1)) ∧ W = w' at hcall2
    cases hw : nm k1 with
    | false =>
     have hfin : Hid (xQ es = false) := jV hke (hnoO hw)
     rw [hw] at hcall
     have Hcall := Lib.hid hcall
     clear hw hcall hcall2 hE hnoO hz0 hp0
     go_wp2
     have hcL0 : (wr.alloc (Obj.cells #[Value.string k1, Value.int IntKind.i64 v1, Value.bool g1] 102)).cell? ⟨wr.heap.size, 0, none⟩ = some (.string k1) := cell_of_row _ _ _ _ _ (0, 0) (heap_alloc_new wr _)
     have hcL1 : (wr.alloc (Obj.cells #[Value.string k1, Value.int IntKind.i64 v1, Value.bool g1] 102)).cell? ⟨wr.heap.size, 1, none⟩ = some (.int .i64 v1) := cell_of_row _ _ _ _ _ (0, 0) (heap_alloc_new wr _)
     have hcL2 : (wr.alloc (Obj.cells #[Value.string k1, Value.int IntKind.i64 v1, Value.bool g1] 102)).cell? ⟨wr.heap.size, 2, none⟩ = some (.bool g1) := cell_of_row _ _ _ _ _ (0, 0) (heap_alloc_new wr _)
     have hpl : wr.heap.size < (wr.alloc (Obj.cells #[Value.string k1, Value.int IntKind.i64 v1, Value.bool g1] 102)).heap.size := by simp
     have hb2 : Below w.heap.size w (wr.alloc (Obj.cells #[Value.string k1, Value.int IntKind.i64 v1, Value.bool g1] 102)) := hb.alloc hb.size _
     generalize wr.alloc (Obj.cells #[Value.string k1, Value.int IntKind.i64 v1, Value.bool g1] 102) = w2 at *
     generalize wr.heap.size = p at *
     have hA0 := fun y : Aft w2 => y.cell hpl hcL0
     have hA1 := fun y : Aft w2 => y.cell hpl hcL1
     have hA2 := fun y : Aft w2 => y.cell hpl hcL2
     refine xM (by kernel_rfl) (by kernel_rfl) ?_
     repeat (go_big_quiet_step ((first | (go_at_call 98; exact Aft.same (Hcall.out _)))))
     refine wpQuiet_nil ?_
     rintro _ ⟨y, rfl⟩
     have hb3 := zT hb2 y.below
     generalize y.at_ = w3 at *
     go_wp2
     go_ret
     exact ⟨xE hfin.out.symm, hb3⟩
    | true =>
    cases hv : wZ v1 with
    | false =>
     have hfin : Hid (xQ es = false) := uh hke (by rw [hE, hv]; rfl)
     rw [hw] at hcall
     rw [hv] at hcall2
     have Hcall := Lib.hid hcall
     have Hcall2 := Lib.hid hcall2
     clear hw hv hcall hcall2 hE hnoO hz0 hp0
     go_wp2
     have hcL0 : (wr.alloc (Obj.cells #[Value.string k1, Value.int IntKind.i64 v1, Value.bool g1] 102)).cell? ⟨wr.heap.size, 0, none⟩ = some (.string k1) := cell_of_row _ _ _ _ _ (0, 0) (heap_alloc_new wr _)
     have hcL1 : (wr.alloc (Obj.cells #[Value.string k1, Value.int IntKind.i64 v1, Value.bool g1] 102)).cell? ⟨wr.heap.size, 1, none⟩ = some (.int .i64 v1) := cell_of_row _ _ _ _ _ (0, 0) (heap_alloc_new wr _)
     have hcL2 : (wr.alloc (Obj.cells #[Value.string k1, Value.int IntKind.i64 v1, Value.bool g1] 102)).cell? ⟨wr.heap.size, 2, none⟩ = some (.bool g1) := cell_of_row _ _ _ _ _ (0, 0) (heap_alloc_new wr _)
     have hpl : wr.heap.size < (wr.alloc (Obj.cells #[Value.string k1, Value.int IntKind.i64 v1, Value.bool g1] 102)).heap.size := by simp
     have hb2 : Below w.heap.size w (wr.alloc (Obj.cells #[Value.string k1, Value.int IntKind.i64 v1, Value.bool g1] 102)) := hb.alloc hb.size _
     generalize wr.alloc (Obj.cells #[Value.string k1, Value.int IntKind.i64 v1, Value.bool g1] 102) = w2 at *
     generalize wr.heap.size = p at *
     have hA0 := fun y : Aft w2 => y.cell hpl hcL0
     have hA1 := fun y : Aft w2 => y.cell hpl hcL1
     have hA2 := fun y : Aft w2 => y.cell hpl hcL2
     refine xM (by kernel_rfl) (by kernel_rfl) ?_
     repeat (go_big_quiet_step ((first | (go_at_call 98; exact Aft.same (Hcall.out _)) | (go_at_call 89; exact Aft.same (Hcall2.out _)))))
     refine wpQuiet_nil ?_
     rintro _ ⟨y, rfl⟩
     have hb3 := zT hb2 y.below
     generalize y.at_ = w3 at *
     go_wp2
     go_ret
     exact ⟨xE hfin.out.symm, hb3⟩
    | true =>
    rw [hw] at hcall
    rw [hv] at hcall2
    rcases aA1 g1 v1 with ⟨rfl, hne⟩ | hgood
    · have hfin : Hid (xQ es = false) := uh hke (by rw [hE, hv, decide_eq_false hne]; rfl)
      have hne2 : (v1 != 0) = true := by simpa using hne
      have Hcall := Lib.hid hcall
      have Hcall2 := Lib.hid hcall2
      clear hw hv hcall hcall2 hE hnoO hz0 hp0
      go_wp2
      have hcL0 : (wr.alloc (Obj.cells #[Value.string k1, Value.int IntKind.i64 v1, Value.bool true] 102)).cell? ⟨wr.heap.size, 0, none⟩ = some (.string k1) := cell_of_row _ _ _ _ _ (0, 0) (heap_alloc_new wr _)
      have hcL1 : (wr.alloc (Obj.cells #[Value.string k1, Value.int IntKind.i64 v1, Value.bool true] 102)).cell? ⟨wr.heap.size, 1, none⟩ = some (.int .i64 v1) := cell_of_row _ _ _ _ _ (0, 0) (heap_alloc_new wr _)
      have hcL2 : (wr.alloc (Obj.cells #[Value.string k1, Value.int IntKind.i64 v1, Value.bool true] 102)).cell? ⟨wr.heap.size, 2, none⟩ = some (.bool true) := cell_of_row _ _ _ _ _ (0, 0) (heap_alloc_new wr _)
      have hpl : wr.heap.size < (wr.alloc (Obj.cells #[Value.string k1, Value.int IntKind.i64 v1, Value.bool true] 102)).heap.size := by simp
      have hb2 : Below w.heap.size w (wr.alloc (Obj.cells #[Value.string k1, Value.int IntKind.i64 v1, Value.bool true] 102)) := hb.alloc hb.size _
      generalize wr.alloc (Obj.cells #[Value.string k1, Value.int IntKind.i64 v1, Value.bool true] 102) = w2 at *
      generalize wr.heap.size = p at *
      have hA0 := fun y : Aft w2 => y.cell hpl hcL0
      have hA1 := fun y : Aft w2 => y.cell hpl hcL1
      have hA2 := fun y : Aft w2 => y.cell hpl hcL2
      refine xM (by kernel_rfl) (by kernel_rfl) ?_
      repeat (go_big_quiet_step ((first | (go_at_call 98; exact Aft.same (Hcall.out _)) | (go_at_call 89; exact Aft.same (Hcall2.out _)))))
      refine wpQuiet_nil ?_
      rintro _ ⟨y, rfl⟩
      have hb3 := zT hb2 y.below
      generalize y.at_ = w3 at *
      go_wp2
      go_ret
      exact ⟨xE hfin.out.symm, hb3⟩
    have hE1 : Hid (zH es k = true) := by
     rcases hgood with rfl | ⟨rfl, rfl⟩
     · show zH es k = true; rw [hE, hv]; rfl
     · show zH es k = true; rw [hE, hv]; rfl
    clear hE hv hnoO
    by_cases hk0 : k = 0
    · have ho := hz0 hk0 hw
      subst hk0
      have hstep : Hid (∀ j, j < 0 + 1 → xS (kv es) j = true ∧ zH es j = true) := fun j hj => by
       have : j = 0 := by omega
       subst this; exact ⟨ho, hE1.out⟩
      simp only [Nat.zero_mul, Nat.add_zero] at hc1 hc2 hc3
      clear hz0 hp0 ho hw
      rcases hgood with rfl | ⟨rfl, rfl⟩
      · have Hcall := Lib.hid hcall
        have Hcall2 := Lib.hid hcall2
        clear hcall hcall2
        go_wp2
        have hcL0 : (wr.alloc (Obj.cells #[Value.string k1, Value.int IntKind.i64 v1, Value.bool false] 102)).cell? ⟨wr.heap.size, 0, none⟩ = some (.string k1) := cell_of_row _ _ _ _ _ (0, 0) (heap_alloc_new wr _)
        have hcL1 : (wr.alloc (Obj.cells #[Value.string k1, Value.int IntKind.i64 v1, Value.bool false] 102)).cell? ⟨wr.heap.size, 1, none⟩ = some (.int .i64 v1) := cell_of_row _ _ _ _ _ (0, 0) (heap_alloc_new wr _)
        have hcL2 : (wr.alloc (Obj.cells #[Value.string k1, Value.int IntKind.i64 v1, Value.bool false] 102)).cell? ⟨wr.heap.size, 2, none⟩ = some (.bool false) := cell_of_row _ _ _ _ _ (0, 0) (heap_alloc_new wr _)
        have hpl : wr.heap.size < (wr.alloc (Obj.cells #[Value.string k1, Value.int IntKind.i64 v1, Value.bool false] 102)).heap.size := by simp
        have hb2 : Below w.heap.size w (wr.alloc (Obj.cells #[Value.string k1, Value.int IntKind.i64 v1, Value.bool false] 102)) := hb.alloc hb.size _
        generalize wr.alloc (Obj.cells #[Value.string k1, Value.int IntKind.i64 v1, Value.bool false] 102) = w2 at *
        generalize wr.heap.size = p at *
        have hA0 := fun y : Aft w2 => y.cell hpl hcL0
        have hA1 := fun y : Aft w2 => y.cell hpl hcL1
        have hA2 := fun y : Aft w2 => y.cell hpl hcL2
        refine xM (by kernel_rfl) (by kernel_rfl) ?_
        repeat (go_big_quiet_step ((first | (go_at_call 98; exact Aft.same (Hcall.out _)) | (go_at_call 89; exact Aft.same (Hcall2.out _)))))
        refine wpQuiet_nil ?_
        rintro _ ⟨y, rfl⟩
        have hb3 := zT hb2 y.below
        generalize y.at_ = w3 at *
        go_wp2
        go_roundw
        case rel => exact ⟨0 + 1, by omega, by go_num, hstep.out, hb3⟩
        case measure => simp [intOf]; omega
      · have Hcall := Lib.hid hcall
        have Hcall2 := Lib.hid hcall2
        clear hcall hcall2
        go_wp2
        have hcL0 : (wr.alloc (Obj.cells #[Value.string k1, Value.int IntKind.i64 0, Value.bool true] 102)).cell? ⟨wr.heap.size, 0, none⟩ = some (.string k1) := cell_of_row _ _ _ _ _ (0, 0) (heap_alloc_new wr _)
        have hcL1 : (wr.alloc (Obj.cells #[Value.string k1, Value.int IntKind.i64 0, Value.bool true] 102)).cell? ⟨wr.heap.size, 1, none⟩ = some (.int .i64 0) := cell_of_row _ _ _ _ _ (0, 0) (heap_alloc_new wr _)
        have hcL2 : (wr.alloc (Obj.cells #[Value.string k1, Value.int IntKind.i64 0, Value.bool true] 102)).cell? ⟨wr.heap.size, 2, none⟩ = some (.bool true) := cell_of_row _ _ _ _ _ (0, 0) (heap_alloc_new wr _)
        have hpl : wr.heap.size < (wr.alloc (Obj.cells #[Value.string k1, Value.int IntKind.i64 0, Value.bool true] 102)).heap.size := by simp
        have hb2 : Below w.heap.size w (wr.alloc (Obj.cells #[Value.string k1, Value.int IntKind.i64 0, Value.bool true] 102)) := hb.alloc hb.size _
        generalize wr.alloc (Obj.cells #[Value.string k1, Value.int IntKind.i64 0, Value.bool true] 102) = w2 at *
        generalize wr.heap.size = p at *
        have hA0 := fun y : Aft w2 => y.cell hpl hcL0
        have hA1 := fun y : Aft w2 => y.cell hpl hcL1
        have hA2 := fun y : Aft w2 => y.cell hpl hcL2
        refine xM (by kernel_rfl) (by kernel_rfl) ?_
        repeat (go_big_quiet_step ((first | (go_at_call 98; exact Aft.same (Hcall.out _)) | (go_at_call 89; exact Aft.same (Hcall2.out _)))))
        refine wpQuiet_nil ?_
        rintro _ ⟨y, rfl⟩
        have hb3 := zT hb2 y.below
        generalize y.at_ = w3 at *
        go_wp2
        go_roundw
        case rel => exact ⟨0 + 1, by omega, by go_num, hstep.out, hb3⟩
        case measure => simp [intOf]; omega
    · have hkp : 0 < k := by omega
      have hor := hp0 hkp hw
      have ht : (Op.bytesLess k1.toList (es[k - 1]'(by omega)).key.toList || k1.toList == (es[k - 1]'(by omega)).key.toList) = !xS (kv es) k := by rw [aE1, hor]
      have hi0 : 0 ≤ (k : Int) - 1 := by omega
      have hi1 : ((k : Int) - 1).toNat = k - 1 := by omega
      have hi2 : (0 : Int) < (k : Int) := by omega
      clear hk0 hor hw hz0 hp0
      cases ho : xS (kv es) k with
      | false =>
       have hfin : Hid (xQ es = false) := jV hke ho
       rw [ho] at ht
       clear ho
       rcases hgood with rfl | ⟨rfl, rfl⟩
       · have Hcall := Lib.hid hcall
         have Hcall2 := Lib.hid hcall2
         clear hcall hcall2
         go_wp2
         have hcL0 : (wr.alloc (Obj.cells #[Value.string k1, Value.int IntKind.i64 v1, Value.bool false] 102)).cell? ⟨wr.heap.size, 0, none⟩ = some (.string k1) := cell_of_row _ _ _ _ _ (0, 0) (heap_alloc_new wr _)
         have hcL1 : (wr.alloc (Obj.cells #[Value.string k1, Value.int IntKind.i64 v1, Value.bool false] 102)).cell? ⟨wr.heap.size, 1, none⟩ = some (.int .i64 v1) := cell_of_row _ _ _ _ _ (0, 0) (heap_alloc_new wr _)
         have hcL2 : (wr.alloc (Obj.cells #[Value.string k1, Value.int IntKind.i64 v1, Value.bool false] 102)).cell? ⟨wr.heap.size, 2, none⟩ = some (.bool false) := cell_of_row _ _ _ _ _ (0, 0) (heap_alloc_new wr _)
         have hpl : wr.heap.size < (wr.alloc (Obj.cells #[Value.string k1, Value.int IntKind.i64 v1, Value.bool false] 102)).heap.size := by simp
         have hb2 : Below w.heap.size w (wr.alloc (Obj.cells #[Value.string k1, Value.int IntKind.i64 v1, Value.bool false] 102)) := hb.alloc hb.size _
         obtain ⟨b', off', he, _, _, hc4, _, _⟩ := hr.edt hb2 (show k - 1 < es.length by omega)
         obtain ⟨rfl, rfl⟩ : b = b' ∧ off = off' := by simpa using he
         have hbl4 := Nat.lt_of_lt_of_le hbl hb2.size
         generalize wr.alloc (Obj.cells #[Value.string k1, Value.int IntKind.i64 v1, Value.bool false] 102) = w2 at *
         generalize wr.heap.size = p at *
         have hA0 := fun y : Aft w2 => y.cell hpl hcL0
         have hA1 := fun y : Aft w2 => y.cell hpl hcL1
         have hA2 := fun y : Aft w2 => y.cell hpl hcL2
         have hA4 := fun y : Aft w2 => y.cell hbl4 hc4
         refine xM (by kernel_rfl) (by kernel_rfl) ?_
         repeat (go_big_quiet_step ((first | (go_at_call 98; exact Aft.same (Hcall.out _)) | (go_at_call 89; exact Aft.same (Hcall2.out _)))))
         refine wpQuiet_nil ?_
         rintro _ ⟨y, rfl⟩
         have hb3 := zT hb2 y.below
         generalize y.at_ = w3 at *
         go_wp2
         go_ret
         exact ⟨xE hfin.out.symm, hb3⟩
       · have Hcall := Lib.hid hcall
         have Hcall2 := Lib.hid hcall2
         clear hcall hcall2
         go_wp2
         have hcL0 : (wr.alloc (Obj.cells #[Value.string k1, Value.int IntKind.i64 0, Value.bool true] 102)).cell? ⟨wr.heap.size, 0, none⟩ = some (.string k1) := cell_of_row _ _ _ _ _ (0, 0) (heap_alloc_new wr _)
         have hcL1 : (wr.alloc (Obj.cells #[Value.string k1, Value.int IntKind.i64 0, Value.bool true] 102)).cell? ⟨wr.heap.size, 1, none⟩ = some (.int .i64 0) := cell_of_row _ _ _ _ _ (0, 0) (heap_alloc_new wr _)
         have hcL2 : (wr.alloc (Obj.cells #[Value.string k1, Value.int IntKind.i64 0, Value.bool true] 102)).cell? ⟨wr.heap.size, 2, none⟩ = some (.bool true) := cell_of_row _ _ _ _ _ (0, 0) (heap_alloc_new wr _)
         have hpl : wr.heap.size < (wr.alloc (Obj.cells #[Value.string k1, Value.int IntKind.i64 0, Value.bool true] 102)).heap.size := by simp
         have hb2 : Below w.heap.size w (wr.alloc (Obj.cells #[Value.string k1, Value.int IntKind.i64 0, Value.bool true] 102)) := hb.alloc hb.size _
         obtain ⟨b', off', he, _, _, hc4, _, _⟩ := hr.edt hb2 (show k - 1 < es.length by omega)
         obtain ⟨rfl, rfl⟩ : b = b' ∧ off = off' := by simpa using he
         have hbl4 := Nat.lt_of_lt_of_le hbl hb2.size
         generalize wr.alloc (Obj.cells #[Value.string k1, Value.int IntKind.i64 0, Value.bool true] 102) = w2 at *
         generalize wr.heap.size = p at *
         have hA0 := fun y : Aft w2 => y.cell hpl hcL0
         have hA1 := fun y : Aft w2 => y.cell hpl hcL1
         have hA2 := fun y : Aft w2 => y.cell hpl hcL2
         have hA4 := fun y : Aft w2 => y.cell hbl4 hc4
         refine xM (by kernel_rfl) (by kernel_rfl) ?_
         repeat (go_big_quiet_step ((first | (go_at_call 98; exact Aft.same (Hcall.out _)) | (go_at_call 89; exact Aft.same (Hcall2.out _)))))
         refine wpQuiet_nil ?_
         rintro _ ⟨y, rfl⟩
         have hb3 := zT hb2 y.below
         generalize y.at_ = w3 at *
         go_wp2
         go_ret
         exact ⟨xE hfin.out.symm, hb3⟩
      | true =>
       have hstep : Hid (∀ j, j < k + 1 → xS (kv es) j = true ∧ zH es j = true) := fun j hj => by
        rcases Nat.lt_or_ge j k with h | h
        · exact Hall.out j h
        · have : j = k := by omega
          subst this; exact ⟨ho, hE1.out⟩
       rw [ho] at ht
       clear ho
       rcases hgood with rfl | ⟨rfl, rfl⟩
       · have Hcall := Lib.hid hcall
         have Hcall2 := Lib.hid hcall2
         clear hcall hcall2
         go_wp2
         have hcL0 : (wr.alloc (Obj.cells #[Value.string k1, Value.int IntKind.i64 v1, Value.bool false] 102)).cell? ⟨wr.heap.size, 0, none⟩ = some (.string k1) := cell_of_row _ _ _ _ _ (0, 0) (heap_alloc_new wr _)
         have hcL1 : (wr.alloc (Obj.cells #[Value.string k1, Value.int IntKind.i64 v1, Value.bool false] 102)).cell? ⟨wr.heap.size, 1, none⟩ = some (.int .i64 v1) := cell_of_row _ _ _ _ _ (0, 0) (heap_alloc_new wr _)
         have hcL2 : (wr.alloc (Obj.cells #[Value.string k1, Value.int IntKind.i64 v1, Value.bool false] 102)).cell? ⟨wr.heap.size, 2, none⟩ = some (.bool false) := cell_of_row _ _ _ _ _ (0, 0) (heap_alloc_new wr _)
         have hpl : wr.heap.size < (wr.alloc (Obj.cells #[Value.string k1, Value.int IntKind.i64 v1, Value.bool false] 102)).heap.size := by simp
         have hb2 : Below w.heap.size w (wr.alloc (Obj.cells #[Value.string k1, Value.int IntKind.i64 v1, Value.bool false] 102)) := hb.alloc hb.size _
         obtain ⟨b', off', he, _, _, hc4, _, _⟩ := hr.edt hb2 (show k - 1 < es.length by omega)
         obtain ⟨rfl, rfl⟩ : b = b' ∧ off = off' := by simpa using he
         have hbl4 := Nat.lt_of_lt_of_le hbl hb2.size
         generalize wr.alloc (Obj.cells #[Value.string k1, Value.int IntKind.i64 v1, Value.bool false] 102) = w2 at *
         generalize wr.heap.size = p at *
         have hA0 := fun y : Aft w2 => y.cell hpl hcL0
         have hA1 := fun y : Aft w2 => y.cell hpl hcL1
         have hA2 := fun y : Aft w2 => y.cell hpl hcL2
         have hA4 := fun y : Aft w2 => y.cell hbl4 hc4
         refine xM (by kernel_rfl) (by kernel_rfl) ?_
         repeat (go_big_quiet_step ((first | (go_at_call 98; exact Aft.same (Hcall.out _)) | (go_at_call 89; exact Aft.same (Hcall2.out _)))))
         refine wpQuiet_nil ?_
         rintro _ ⟨y, rfl⟩
         have hb3 := zT hb2 y.below
         generalize y.at_ = w3 at *
         go_wp2
         go_roundw
         case rel => exact ⟨k + 1, by omega, by go_num, hstep.out, hb3⟩
         case measure => simp [intOf]; omega
       · have Hcall := Lib.hid hcall
         have Hcall2 := Lib.hid hcall2
         clear hcall hcall2
         go_wp2
         have hcL0 : (wr.alloc (Obj.cells #[Value.string k1, Value.int IntKind.i64 0, Value.bool true] 102)).cell? ⟨wr.heap.size, 0, none⟩ = some (.string k1) := cell_of_row _ _ _ _ _ (0, 0) (heap_alloc_new wr _)
         have hcL1 : (wr.alloc (Obj.cells #[Value.string k1, Value.int IntKind.i64 0, Value.bool true] 102)).cell? ⟨wr.heap.size, 1, none⟩ = some (.int .i64 0) := cell_of_row _ _ _ _ _ (0, 0) (heap_alloc_new wr _)
         have hcL2 : (wr.alloc (Obj.cells #[Value.string k1, Value.int IntKind.i64 0, Value.bool true] 102)).cell? ⟨wr.heap.size, 2, none⟩ = some (.bool true) := cell_of_row _ _ _ _ _ (0, 0) (heap_alloc_new wr _)
         have hpl : wr.heap.size < (wr.alloc (Obj.cells #[Value.string k1, Value.int IntKind.i64 0, Value.bool true] 102)).heap.size := by simp
         have hb2 : Below w.heap.size w (wr.alloc (Obj.cells #[Value.string k1, Value.int IntKind.i64 0, Value.bool true] 102)) := hb.alloc hb.size _
         obtain ⟨b', off', he, _, _, hc4, _, _⟩ := hr.edt hb2 (show k - 1 < es.length by omega)
         obtain ⟨rfl, rfl⟩ : b = b' ∧ off = off' := by simpa using he
         have hbl4 := Nat.lt_of_lt_of_le hbl hb2.size
         generalize wr.alloc (Obj.cells #[Value.string k1, Value.int IntKind.i64 0, Value.bool true] 102) = w2 at *
         generalize wr.heap.size = p at *
         have hA0 := fun y : Aft w2 => y.cell hpl hcL0
         have hA1 := fun y : Aft w2 => y.cell hpl hcL1
         have hA2 := fun y : Aft w2 => y.cell hpl hcL2
         have hA4 := fun y : Aft w2 => y.cell hbl4 hc4
         refine xM (by kernel_rfl) (by kernel_rfl) ?_
         repeat (go_big_quiet_step ((first | (go_at_call 98; exact Aft.same (Hcall.out _)) | (go_at_call 89; exact Aft.same (Hcall2.out _)))))
         refine wpQuiet_nil ?_
         rintro _ ⟨y, rfl⟩
         have hb3 := zT hb2 y.below
         generalize y.at_ = w3 at *
         go_wp2
         go_roundw
         case rel => exact ⟨k + 1, by omega, by go_num, hstep.out, hb3⟩
         case measure => simp [intOf]; omega
  · have hfin : Hid (xQ es = true) := aAY (by rw [Hlen.out]; exact hn6) (fun i hi => Hall.out i (by rw [Hlen.out] at hi; omega))
    go_wp2
    go_ret
    exact ⟨xE hfin.out.symm, hb⟩
theorem aDC (a : ByteArray) (x : Int) (g : Bool) (w : World) : (method 362 102 (.agg #[.string a, .int .i64 x, .bool g]) "loop.example/g00737/impl.key").run Tryd.prog w = .ok (224, .agg #[.string a, .int .i64 x, .bool g]) w := by kernel_rfl
theorem wB (key : ByteArray) (v : Int) (g : Bool) (w : World) :
 Calls Tryd.prog 224 #[.agg #[.string key, .int .i64 v, .bool g]] w fun e w' => e = .returned (.string key) ∧ Below w.heap.size w w' := by
 go_enter Tryd.func224, Tryd.ntmps224
 go_wp2
 go_ret
 exact ⟨rfl, (Below.refl _ _).alloc (Nat.le_refl _) _⟩
theorem aEA (es : List Edt) (k : Nat) (hke : k < es.length) (hs : es[k].key.size ≤ maxLen) (W : World) :
 Calls Tryd.prog 118 #[.string es[k].key] W fun e w' => e = .returned (.bool (nm es[k].key)) ∧ W = w' := aAf _ W hs
set_option maxHeartbeats 2000000 in
set_option maxRecDepth 100000 in
theorem ji (A : Option Addr) (n c : Nat) (es : List Edt) (w : World) (hr : Rd w 3 A n (xg es)) (hm : n ≤ maxLen) (hks : ∀ e ∈ es, e.key.size ≤ maxLen) :
 Calls Tryd.prog 110 #[.slice A n c] w fun e w' => e = .returned (.bool (uO (kv es))) ∧ Below w.heap.size w w' := by
 unfold maxLen at hm
 have hlen := hr.elen
 have Hlen := Lib.hid hlen; clear hlen
 have hmeth := aDC
 go_enter Tryd.func110, Tryd.ntmps110
 go_wp2
 go_loopw [3, 7] (fun _ i wr => ∃ k : Nat, k ≤ n ∧ i = .int .i64 k ∧ (∀ j, j < k → xS (kv es) j = true) ∧ Below w.heap.size w wr) (fun _ i _ => n - (intOf i).toNat)
 case atStart => exact ⟨0, Nat.zero_le _, rfl, fun j hj => absurd hj (by omega), Below.refl _ _⟩
 case round =>
  obtain ⟨k, hk, rfl, hall, hb⟩ := hrel
  have Hall := Lib.hid hall; clear hall
  by_cases hlt : k < n
  · have hke : k < es.length := by rw [Hlen.out]; exact hlt
    obtain ⟨b, off, rfl, hbl, hbl2, hc1, hc2, hc5⟩ := hr.edt hb hke
    have hcall := aEA es k hke (hks _ (List.getElem_mem hke))
    cases hw : nm es[k].key with
    | false =>
     have hfin : Hid (uO (kv es) = false) := vM (by rw [uM]; exact hke) (aDZ es k hke hw)
     rw [hw] at hcall
     have Hcall := Lib.hid hcall
     clear hw hcall
     go_wp2
     have hcL0 : (wr.alloc (Obj.cells #[Value.string es[k].key, Value.int IntKind.i64 es[k].val, Value.bool es[k].gone] 102)).cell? ⟨wr.heap.size, 0, none⟩ = some (.string es[k].key) := cell_of_row _ _ _ _ _ (0, 0) (heap_alloc_new wr _)
     have hcL1 : (wr.alloc (Obj.cells #[Value.string es[k].key, Value.int IntKind.i64 es[k].val, Value.bool es[k].gone] 102)).cell? ⟨wr.heap.size, 1, none⟩ = some (.int .i64 es[k].val) := cell_of_row _ _ _ _ _ (0, 0) (heap_alloc_new wr _)
     have hcL2 : (wr.alloc (Obj.cells #[Value.string es[k].key, Value.int IntKind.i64 es[k].val, Value.bool es[k].gone] 102)).cell? ⟨wr.heap.size, 2, none⟩ = some (.bool es[k].gone) := cell_of_row _ _ _ _ _ (0, 0) (heap_alloc_new wr _)
     have hpl : wr.heap.size < (wr.alloc (Obj.cells #[Value.string es[k].key, Value.int IntKind.i64 es[k].val, Value.bool es[k].gone] 102)).heap.size := by simp
     have hb2 : Below w.heap.size w (wr.alloc (Obj.cells #[Value.string es[k].key, Value.int IntKind.i64 es[k].val, Value.bool es[k].gone] 102)) := hb.alloc hb.size _
     generalize wr.alloc (Obj.cells #[Value.string es[k].key, Value.int IntKind.i64 es[k].val, Value.bool es[k].gone] 102) = w2 at *
     generalize wr.heap.size = p at *
     have hA0 := fun y : Aft w2 => y.cell hpl hcL0
     have hA1 := fun y : Aft w2 => y.cell hpl hcL1
     have hA2 := fun y : Aft w2 => y.cell hpl hcL2
     refine xM (by kernel_rfl) (by kernel_rfl) ?_
     repeat (go_big_quiet_step ((first | (go_at_call 224; exact Aft.call (wB _ _ _ _)) | (go_at_call 118; exact Aft.same (Hcall.out _)))))
     refine wpQuiet_nil ?_
     rintro _ ⟨y, rfl⟩
     have hb3 := zT hb2 y.below
     generalize y.at_ = w3 at *
     go_wp2
     go_ret
     exact ⟨xE hfin.out.symm, hb3⟩
    | true =>
    rw [hw] at hcall
    have Hcall := Lib.hid hcall
    clear hcall
    by_cases hk0 : k = 0
    · subst hk0
      have hstep : Hid (∀ j, j < 0 + 1 → xS (kv es) j = true) := fun j hj => by
       have : j = 0 := by omega
       subst this; exact aB9 es hke hw
      clear hw
      simp only [Nat.zero_mul, Nat.add_zero] at hc1 hc2 hc5
      go_wp2
      have hcL0 : (wr.alloc (Obj.cells #[Value.string es[0].key, Value.int IntKind.i64 es[0].val, Value.bool es[0].gone] 102)).cell? ⟨wr.heap.size, 0, none⟩ = some (.string es[0].key) := cell_of_row _ _ _ _ _ (0, 0) (heap_alloc_new wr _)
      have hcL1 : (wr.alloc (Obj.cells #[Value.string es[0].key, Value.int IntKind.i64 es[0].val, Value.bool es[0].gone] 102)).cell? ⟨wr.heap.size, 1, none⟩ = some (.int .i64 es[0].val) := cell_of_row _ _ _ _ _ (0, 0) (heap_alloc_new wr _)
      have hcL2 : (wr.alloc (Obj.cells #[Value.string es[0].key, Value.int IntKind.i64 es[0].val, Value.bool es[0].gone] 102)).cell? ⟨wr.heap.size, 2, none⟩ = some (.bool es[0].gone) := cell_of_row _ _ _ _ _ (0, 0) (heap_alloc_new wr _)
      have hpl : wr.heap.size < (wr.alloc (Obj.cells #[Value.string es[0].key, Value.int IntKind.i64 es[0].val, Value.bool es[0].gone] 102)).heap.size := by simp
      have hb2 : Below w.heap.size w (wr.alloc (Obj.cells #[Value.string es[0].key, Value.int IntKind.i64 es[0].val, Value.bool es[0].gone] 102)) := hb.alloc hb.size _
      generalize wr.alloc (Obj.cells #[Value.string es[0].key, Value.int IntKind.i64 es[0].val, Value.bool es[0].gone] 102) = w2 at *
      generalize wr.heap.size = p at *
      have hA0 := fun y : Aft w2 => y.cell hpl hcL0
      have hA1 := fun y : Aft w2 => y.cell hpl hcL1
      have hA2 := fun y : Aft w2 => y.cell hpl hcL2
      refine xM (by kernel_rfl) (by kernel_rfl) ?_
      repeat (go_big_quiet_step ((first | (go_at_call 224; exact Aft.call (wB _ _ _ _)) | (go_at_call 118; exact Aft.same (Hcall.out _)))))
      refine wpQuiet_nil ?_
      rintro _ ⟨y, rfl⟩
      have hb3 := zT hb2 y.below
      generalize y.at_ = w3 at *
      go_wp2
      go_roundw
      case rel => exact ⟨0 + 1, by omega, by go_num, hstep.out, hb3⟩
      case measure => simp [intOf]; omega
    · have hkp : 0 < k := by omega
      have hor := aC4 es k hkp hke hw
      have ht : (!(Op.bytesLess (es[k - 1]'(by omega)).key.toList es[k].key.toList)) = !xS (kv es) k := by rw [hor]; rfl
      have hi0 : 0 ≤ (k : Int) - 1 := by omega
      have hi1 : ((k : Int) - 1).toNat = k - 1 := by omega
      have hi2 : (0 : Int) < (k : Int) := by omega
      clear hk0 hor hw
      cases ho : xS (kv es) k with
      | false =>
       have hfin : Hid (uO (kv es) = false) := vM (by rw [uM]; exact hke) ho
       rw [ho] at ht
       clear ho
       go_wp2
       have hcL0 : (wr.alloc (Obj.cells #[Value.string es[k].key, Value.int IntKind.i64 es[k].val, Value.bool es[k].gone] 102)).cell? ⟨wr.heap.size, 0, none⟩ = some (.string es[k].key) := cell_of_row _ _ _ _ _ (0, 0) (heap_alloc_new wr _)
       have hcL1 : (wr.alloc (Obj.cells #[Value.string es[k].key, Value.int IntKind.i64 es[k].val, Value.bool es[k].gone] 102)).cell? ⟨wr.heap.size, 1, none⟩ = some (.int .i64 es[k].val) := cell_of_row _ _ _ _ _ (0, 0) (heap_alloc_new wr _)
       have hcL2 : (wr.alloc (Obj.cells #[Value.string es[k].key, Value.int IntKind.i64 es[k].val, Value.bool es[k].gone] 102)).cell? ⟨wr.heap.size, 2, none⟩ = some (.bool es[k].gone) := cell_of_row _ _ _ _ _ (0, 0) (heap_alloc_new wr _)
       have hpl : wr.heap.size < (wr.alloc (Obj.cells #[Value.string es[k].key, Value.int IntKind.i64 es[k].val, Value.bool es[k].gone] 102)).heap.size := by simp
       have hb2 : Below w.heap.size w (wr.alloc (Obj.cells #[Value.string es[k].key, Value.int IntKind.i64 es[k].val, Value.bool es[k].gone] 102)) := hb.alloc hb.size _
       obtain ⟨b', off', he, _, _, hc3, hc4, hc6⟩ := hr.edt hb2 (show k - 1 < es.length by omega)
       obtain ⟨rfl, rfl⟩ : b = b' ∧ off = off' := by simpa using he
       have hbl4 := Nat.lt_of_lt_of_le hbl hb2.size
       generalize wr.alloc (Obj.cells #[Value.string es[k].key, Value.int IntKind.i64 es[k].val, Value.bool es[k].gone] 102) = w2 at *
       generalize wr.heap.size = p at *
       have hA0 := fun y : Aft w2 => y.cell hpl hcL0
       have hA1 := fun y : Aft w2 => y.cell hpl hcL1
       have hA2 := fun y : Aft w2 => y.cell hpl hcL2
       have hA3 := fun y : Aft w2 => y.cell hbl4 hc3
       have hA4 := fun y : Aft w2 => y.cell hbl4 hc4
       have hA5 := fun y : Aft w2 => y.cell hbl4 hc6
       refine xM (by kernel_rfl) (by kernel_rfl) ?_
       repeat (go_big_quiet_step ((first | (go_at_call 224; exact Aft.call (wB _ _ _ _)) | (go_at_call 118; exact Aft.same (Hcall.out _)))))
       refine wpQuiet_nil ?_
       rintro _ ⟨y, rfl⟩
       have hb3 := zT hb2 y.below
       generalize y.at_ = w3 at *
       go_wp2
       go_ret
       exact ⟨xE hfin.out.symm, hb3⟩
      | true =>
       have hstep : Hid (∀ j, j < k + 1 → xS (kv es) j = true) := fun j hj => by
        rcases Nat.lt_or_ge j k with h | h
        · exact Hall.out j h
        · have : j = k := by omega
          subst this; exact ho
       rw [ho] at ht
       clear ho
       go_wp2
       have hcL0 : (wr.alloc (Obj.cells #[Value.string es[k].key, Value.int IntKind.i64 es[k].val, Value.bool es[k].gone] 102)).cell? ⟨wr.heap.size, 0, none⟩ = some (.string es[k].key) := cell_of_row _ _ _ _ _ (0, 0) (heap_alloc_new wr _)
       have hcL1 : (wr.alloc (Obj.cells #[Value.string es[k].key, Value.int IntKind.i64 es[k].val, Value.bool es[k].gone] 102)).cell? ⟨wr.heap.size, 1, none⟩ = some (.int .i64 es[k].val) := cell_of_row _ _ _ _ _ (0, 0) (heap_alloc_new wr _)
       have hcL2 : (wr.alloc (Obj.cells #[Value.string es[k].key, Value.int IntKind.i64 es[k].val, Value.bool es[k].gone] 102)).cell? ⟨wr.heap.size, 2, none⟩ = some (.bool es[k].gone) := cell_of_row _ _ _ _ _ (0, 0) (heap_alloc_new wr _)
       have hpl : wr.heap.size < (wr.alloc (Obj.cells #[Value.string es[k].key, Value.int IntKind.i64 es[k].val, Value.bool es[k].gone] 102)).heap.size := by simp
       have hb2 : Below w.heap.size w (wr.alloc (Obj.cells #[Value.string es[k].key, Value.int IntKind.i64 es[k].val, Value.bool es[k].gone] 102)) := hb.alloc hb.size _
       obtain ⟨b', off', he, _, _, hc3, hc4, hc6⟩ := hr.edt hb2 (show k - 1 < es.length by omega)
       obtain ⟨rfl, rfl⟩ : b = b' ∧ off = off' := by simpa using he
       have hbl4 := Nat.lt_of_lt_of_le hbl hb2.size
       generalize wr.alloc (Obj.cells #[Value.string es[k].key, Value.int IntKind.i64 es[k].val, Value.bool es[k].gone] 102) = w2 at *
       generalize wr.heap.size = p at *
       have hA0 := fun y : Aft w2 => y.cell hpl hcL0
       have hA1 := fun y : Aft w2 => y.cell hpl hcL1
       have hA2 := fun y : Aft w2 => y.cell hpl hcL2
       have hA3 := fun y : Aft w2 => y.cell hbl4 hc3
       have hA4 := fun y : Aft w2 => y.cell hbl4 hc4
       have hA5 := fun y : Aft w2 => y.cell hbl4 hc6
       refine xM (by kernel_rfl) (by kernel_rfl) ?_
       repeat (go_big_quiet_step ((first | (go_at_call 224; exact Aft.call (wB _ _ _ _)) | (go_at_call 118; exact Aft.same (Hcall.out _)))))
       refine wpQuiet_nil ?_
       rintro _ ⟨y, rfl⟩
       have hb3 := zT hb2 y.below
       generalize y.at_ = w3 at *
       go_wp2
       go_roundw
       case rel => exact ⟨k + 1, by omega, by go_num, hstep.out, hb3⟩
       case measure => simp [intOf]; omega
  · have hfin : Hid (uO (kv es) = true) := qO (fun i hi => Hall.out i (by rw [uM, Hlen.out] at hi; omega))
    go_wp2
    go_ret
    exact ⟨xE hfin.out.symm, hb⟩
set_option maxHeartbeats 2000000 in
set_option maxRecDepth 100000 in
theorem aA3 (A : Option Addr) (n c : Nat) (es : List Edt) (w : World) (hr : Rd w 3 A n (xg es)) (hm : n ≤ maxLen) (hks : ∀ e ∈ es, e.key.size ≤ maxLen) :
 Calls Tryd.prog 62 #[.slice A n c] w fun e w' => e = .returned (.bool (xQ es)) ∧ Below w.heap.size w w' := by
 have hm' := hm
 unfold maxLen at hm
 have hlen := hr.elen
 have Hlen := Lib.hid hlen; clear hlen
 by_cases hbig : 6 < n
 · have hfin : Hid (xQ es = false) := jb (by rw [Hlen.out]; exact hbig)
   go_enter Tryd.func62, Tryd.ntmps62
   go_wp2
   go_ret
   exact ⟨xE hfin.out.symm, Below.refl _ _⟩
 have hn6 : n ≤ 6 := by omega
 clear hbig
 cases ho : uO (kv es) with
 | false =>
  have hfin : Hid (xQ es = false) := by show xQ es = false; rw [xQ, ho]; simp
  have hcall := ji A n c es w hr hm' hks
  rw [ho] at hcall
  have Hcall := Lib.hid hcall
  clear ho hcall
  go_enter Tryd.func62, Tryd.ntmps62
  go_wp2_with (go_at_call 110; refine Hcall.out.mono ?_; rintro e w1 ⟨rfl, hb1⟩)
  go_ret
  exact ⟨xE hfin.out.symm, hb1⟩
 | true =>
  have hcall := ji A n c es w hr hm' hks
  rw [ho] at hcall
  have Hcall := Lib.hid hcall
  have Ho := Lib.hid ho
  clear ho hcall
  go_enter Tryd.func62, Tryd.ntmps62
  go_wp2_with (go_at_call 110; refine Hcall.out.mono ?_; rintro e w1 ⟨rfl, hb1⟩)
  go_loopw [15] (fun i wr => ∃ k : Nat, k ≤ n ∧ i = .int .i64 k ∧ (∀ j, j < k → zH es j = true) ∧ Below w.heap.size w wr) (fun i _ => n - (intOf i).toNat)
  case atStart => exact ⟨0, Nat.zero_le _, rfl, fun j hj => absurd hj (by omega), hb1⟩
  case round =>
   obtain ⟨k, hk, rfl, hall, hb⟩ := hrel
   have Hall := Lib.hid hall; clear hall
   by_cases hlt : k < n
   · have hke : k < es.length := by rw [Hlen.out]; exact hlt
     obtain ⟨b, off, rfl, hbl, hbl2, hc1, hc2, hc3⟩ := hr.edt hb hke
     have hE := aAC es k hke
     generalize es[k] = ek at *
     obtain ⟨k1, v1, g1⟩ := ek
     simp only at hc1 hc2 hc3 hE
     have hcall := fun W => qy v1 W
     change ∀ W, Calls _ _ _ W fun e w' => e = .returned (.bool (wZ v1)) ∧ W = w' at hcall
     cases hv : wZ v1 with
     | false =>
      have hfin : Hid (xQ es = false) := uh hke (by rw [hE, hv]; rfl)
      rw [hv] at hcall
      have Hcall := Lib.hid hcall
      clear hv hcall hE
      go_wp2_with (go_at_call 101; refine (Hcall.out _).mono ?_; rintro e w1 ⟨rfl, rfl⟩)
      go_ret
      exact ⟨xE hfin.out.symm, hb.alloc hb.size _⟩
     | true =>
      rw [hv] at hcall
      rcases aA1 g1 v1 with ⟨rfl, hne⟩ | hgood
      · have hfin : Hid (xQ es = false) := uh hke (by rw [hE, hv, decide_eq_false hne]; rfl)
        have hne2 : (v1 != 0) = true := by simpa using hne
        have Hcall := Lib.hid hcall
        clear hv hcall hE
        go_wp2_with (go_at_call 101; refine (Hcall.out _).mono ?_; rintro e w1 ⟨rfl, rfl⟩)
        go_ret
        exact ⟨xE hfin.out.symm, hb.alloc hb.size _⟩
      have hE1 : Hid (zH es k = true) := by
       rcases hgood with rfl | ⟨rfl, rfl⟩
       · show zH es k = true; rw [hE, hv]; rfl
       · show zH es k = true; rw [hE, hv]; rfl
      have hstep : Hid (∀ j, j < k + 1 → zH es j = true) := fun j hj => by
       rcases Nat.lt_or_ge j k with h | h
       · exact Hall.out j h
       · have : j = k := by omega
         subst this; exact hE1.out
      clear hE hv
      rcases hgood with rfl | ⟨rfl, rfl⟩
      · have Hcall := Lib.hid hcall
        clear hcall
        go_wp2_with (go_at_call 101; refine (Hcall.out _).mono ?_; rintro e w1 ⟨rfl, rfl⟩)
        go_roundw
        case rel => exact ⟨k + 1, by omega, by go_num, hstep.out, hb.alloc hb.size _⟩
        case measure => simp [intOf]; omega
      · have Hcall := Lib.hid hcall
        clear hcall
        go_wp2_with (go_at_call 101; refine (Hcall.out _).mono ?_; rintro e w1 ⟨rfl, rfl⟩)
        go_roundw
        case rel => exact ⟨k + 1, by omega, by go_num, hstep.out, hb.alloc hb.size _⟩
        case measure => simp [intOf]; omega
   · have hfin : Hid (xQ es = true) := aAY (by rw [Hlen.out]; exact hn6) (fun i hi => ⟨qN Ho.out (by rw [uM]; exact hi), Hall.out i (by rw [Hlen.out] at hi; omega)⟩)
     go_wp2
     go_ret
     exact ⟨xE hfin.out.symm, hb⟩
end Go.Proofs.YtodckioppgjbdaaDoor
namespace Go.Proofs.YtodckioppgjbdaaDoor.AM
open Go Go.RowKit
attribute [local irreducible] xR xO xX y5 yh Pre ACG
end Go.Proofs.YtodckioppgjbdaaDoor.AM
namespace Go.Proofs.YtodckioppgjbdaaDoor.AM
open Go Go.RowKit
attribute [local irreducible] xR xO xX y5 yh Pre ACG
theorem aG8 : ∀ vs w, (callFunc 59 vs).run Tryd.prog w = .ok (.enter 59 vs) w := u7 Tryd.func59 (by kernel_rfl) (by kernel_rfl)
theorem aCp {es : List Edt} {b : Bool} (hb : xQ es = b) (hm : es.length ≤ maxLen) (hk : ∀ e ∈ es, e.key.size ≤ maxLen) : AC Tryd.prog 59 [.lst 3 (es.map yR)] ⟨.v (.bool b), []⟩ :=
 hb ▸ kP aG8 rfl fun w S0 vs hS hv => by
  obtain ⟨u, rfl, h1⟩ := kL hv
  obtain ⟨A, c, rfl, _, _, hr⟩ := wI hS h1
  exact aCT A es.length c es w hr hm hk
theorem aG9 : ∀ vs w, (callFunc 62 vs).run Tryd.prog w = .ok (.enter 62 vs) w := u7 Tryd.func62 (by kernel_rfl) (by kernel_rfl)
theorem kN {es : List Edt} {b : Bool} (hb : xQ es = b) (hm : es.length ≤ maxLen) (hk : ∀ e ∈ es, e.key.size ≤ maxLen) : AC Tryd.prog 62 [.lst 3 (es.map yR)] ⟨.v (.bool b), []⟩ :=
 hb ▸ kP aG9 rfl fun w S0 vs hS hv => by
  obtain ⟨u, rfl, h1⟩ := kL hv
  obtain ⟨A, c, rfl, _, _, hr⟩ := wI hS h1
  exact aA3 A es.length c es w hr hm hk
end Go.Proofs.YtodckioppgjbdaaDoor.AM
namespace Go.Proofs.YtodckioppgjbdaaDoor.AM
open Go Go.RowKit
theorem aBw {es : List Ent} (hm : es.length ≤ maxLen) : AC Tryd.prog 14 [.lst 2 (es.map yS), .lst 2 (es.map yS)] ⟨.v (.bool true), []⟩ := by
 have := aCn hm hm
 simpa using this
attribute [local irreducible] xR xO xX y5 yh Pre ACG
end Go.Proofs.YtodckioppgjbdaaDoor.AM
namespace Go.Proofs.YtodckioppgjbdaaDoor.AM
open Go Go.RowKit
theorem j4 (b : UInt8) : (⟨#[b]⟩ : ByteArray).size = 1 := rfl
def jn (sep : ByteArray) (g : Nat → ByteArray) : Nat → ByteArray
 | 0 => ⟨#[]⟩
 | i + 1 => (if i = 0 then ⟨#[]⟩ else jn sep g i ++ sep) ++ g i
theorem aGh {sep : ByteArray} {g : Nat → ByteArray} : jn sep g 0 = ⟨#[]⟩ := rfl
theorem aFI {sep : ByteArray} {g : Nat → ByteArray} : jn sep g (0 + 1) = jn sep g 0 ++ g 0 := rfl
theorem aFJ {sep : ByteArray} {g : Nat → ByteArray} {i : Nat} (h : 0 < i) : jn sep g (i + 1) = (jn sep g i ++ sep) ++ g i := by rw [jn, if_neg (by omega)]
theorem aA5 {sep : ByteArray} {g : Nat → ByteArray} {A B : Nat} (hs : sep.size ≤ A) : ∀ {n : Nat}, (∀ i, i < n → (g i).size ≤ B) → (jn sep g n).size ≤ n * (A + B)
 | 0, _ => by rw [aGh]; show 0 ≤ _; exact Nat.zero_le _
 | i + 1, h => by
  have h1 := aA5 (sep := sep) (g := g) hs (n := i) (fun k hk => h k (by omega))
  have h2 := h i (by omega)
  rw [Nat.succ_mul]
  by_cases hi : i = 0
  · subst hi
    rw [aFI, ByteArray.size_append, aGh]
    have : (⟨#[]⟩ : ByteArray).size = 0 := rfl
    omega
  · rw [aFJ (by omega), ByteArray.size_append, ByteArray.size_append]
    omega
def zEn : Ent := (⟨#[]⟩, 0)
def zEd : Edt := ⟨⟨#[]⟩, 0, false⟩
def zO (e : Ent) : ByteArray := (e.1 ++ ⟨#[61]⟩) ++ wO e.2
def aBA (m : List Ent) : ByteArray := if m.length = 0 then ⟨#[45]⟩ else jn ⟨#[44]⟩ (fun i => zO ((m[i]?).getD zEn)) m.length
def yx (e : Edt) : ByteArray := if e.gone = true then ⟨#[33]⟩ ++ e.key else zO (e.key, e.val)
def aCG (l : List Edt) : ByteArray := if l.length = 0 then ⟨#[45]⟩ else jn ⟨#[44]⟩ (fun i => yx ((l[i]?).getD zEd)) l.length
def jJ (m : List Ent) : ByteArray × Int := if 4096 < m.length then (⟨#[]⟩, 2) else if yJ m = true then (aBA m, 0) else (⟨#[]⟩, 1)
def jD (l : List Edt) : ByteArray × Int := if 4096 < l.length then (⟨#[]⟩, 2) else if xQ l = true then (aCG l, 0) else (⟨#[]⟩, 1)
theorem aAy {e : Ent} (h : e.1.size ≤ 12) (h1 : -1000000 ≤ e.2) (h2 : e.2 ≤ 1000000) : (zO e).size ≤ 27 := by
 unfold zO
 rw [ByteArray.size_append, ByteArray.size_append, j4]
 have := qI (n := e.2) (by omega) (by omega)
 omega
def aDm (l : List Edt) : Prop := ∀ e ∈ l, e.key.size ≤ 12 ∧ -1000000 ≤ e.val ∧ e.val ≤ 1000000
theorem aBR {l : List Edt} (h : xQ l = true) : aDm l := by
 intro e he
 obtain ⟨i, hi, rfl⟩ := List.getElem_of_mem he
 unfold xQ at h
 simp only [Bool.and_eq_true] at h
 have h1 := qN h.2.1 (i := i) (by rw [uM]; exact hi)
 have h2 : zH l i = true := by
  have := h.2.2
  rw [qG, List.all_eq_true] at this
  exact this i (List.mem_range.2 hi)
 unfold xS at h1
 rw [Bool.and_eq_true, jl _ _ hi] at h1
 rw [aAC _ _ hi] at h2
 unfold wZ at h2
 simp only [Bool.and_eq_true, decide_eq_true_eq] at h2
 exact ⟨aEa h1.1, h2.1.1, h2.1.2⟩
theorem aCw {l : List Edt} (h : xQ l = true) : l.length ≤ 6 := by
 unfold xQ at h
 simp only [Bool.and_eq_true, decide_eq_true_eq] at h
 exact h.1
theorem aDR {e : Edt} (h : e.key.size ≤ 12) (h1 : -1000000 ≤ e.val) (h2 : e.val ≤ 1000000) : (yx e).size ≤ 27 := by
 unfold yx
 split
 · rw [ByteArray.size_append, j4]; omega
 · exact aAy (e := (e.key, e.val)) h h1 h2
attribute [local irreducible] xR xO xX y5 yh Pre ACG
set_option maxHeartbeats 4000000 in
theorem aES {m : List Ent} (hm : m.length ≤ 12) (hk : aAx m) : AC Tryd.prog 49 [.lst 2 (m.map yS)] ⟨.v (.string (aBA m)), []⟩ := by
 have e1 : ∀ b : UInt8, (⟨#[b]⟩ : ByteArray).size = 1 := j4
 have c44 := e1 44
 have c61 := e1 61
 unfold aBA
 by_cases h0 : m.length = 0
 · rw [if_pos h0]
   refine qrf Tryd.func49 Tryd.ntmps49 Tryd.results49 ?_; conv => whnf
   repeat ((refine qz ?_; conv => whnf))
   exact xk rfl trivial
 rw [if_neg h0]
 refine qrf Tryd.func49 Tryd.ntmps49 Tryd.results49 ?_; conv => whnf
 repeat ((refine qz ?_; conv => whnf))
 refine kW (ι := { i : Nat // i ≤ m.length }) (fun i => ⟨[(0, .lst 2 (m.map yS)), (3, .v (.string (jn ⟨#[44]⟩ (fun i => zO ((m[i]?).getD zEn)) i.1))), (4, .v (.int .i64 (i.1 : Int)))], []⟩) (fun i => m.length - i.1) ⟨0, Nat.zero_le _⟩ (by exact qle) ?_
 rintro ⟨i, hi⟩
 dsimp only
 conv => whnf
 by_cases hlt : i < m.length
 case neg =>
  have e : i = m.length := by omega
  subst e
  repeat ((refine qz ?_; conv => whnf))
  exact xk rfl trivial
 obtain ⟨k1, k2, k3⟩ := hk _ (List.getElem_mem hlt)
 have z1 := qI (n := (m[i]).2) (by omega) (by omega)
 have c1 := aER (n := (m[i]).2) (by omega) (by omega)
 have z2 := aA5 (sep := ⟨#[44]⟩) (g := fun i => zO ((m[i]?).getD zEn)) (A := 1) (B := 27) (n := i) (Nat.le_of_eq (j4 _)) (fun j hj => by
  obtain ⟨k1, k2, k3⟩ := hk _ (List.getElem_mem (by omega : j < m.length))
  simp only [List.getElem?_eq_getElem (by omega : j < m.length), Option.getD_some]
  exact aAy k1 k2 k3)
 have hi12 : i * (1 + 27) ≤ 400 := by omega
 by_cases hz : i = 0
 · subst hz
   have hs : jn ⟨#[44]⟩ (fun i => zO ((m[i]?).getD zEn)) (0 + 1) = jn ⟨#[44]⟩ (fun i => zO ((m[i]?).getD zEn)) 0 ++ ((m[0]).1 ++ ⟨#[61]⟩ ++ wO (m[0]).2) := by
    rw [aFI]; simp only [List.getElem?_eq_getElem hlt, Option.getD_some]; rfl
   generalize jn ⟨#[44]⟩ (fun i => zO ((m[i]?).getD zEn)) 0 = A at hs z2 ⊢
   repeat (first | (refine qz ?_; conv => whnf) | (refine qdr ?_; conv => whnf) | (refine qc (c1) ?_; conv => whnf) | (refine qp (zf (vS (by first | omega | (simp only [ByteArray.size_append]; omega))) rfl rfl rfl) ?_; conv => whnf))
   rw [← hs]
   exact ⟨⟨0 + 1, hlt⟩, by exact qle, by simp; omega⟩
 · have hs : jn ⟨#[44]⟩ (fun i => zO ((m[i]?).getD zEn)) (i + 1) = (jn ⟨#[44]⟩ (fun i => zO ((m[i]?).getD zEn)) i ++ ⟨#[44]⟩) ++ ((m[i]).1 ++ ⟨#[61]⟩ ++ wO (m[i]).2) := by
    rw [aFJ (by omega)]; simp only [List.getElem?_eq_getElem hlt, Option.getD_some]; rfl
   generalize jn ⟨#[44]⟩ (fun i => zO ((m[i]?).getD zEn)) i = A at hs z2 ⊢
   repeat (first | (refine qz ?_; conv => whnf) | (refine qdr ?_; conv => whnf) | (refine qc (c1) ?_; conv => whnf) | (refine qp (zf (vS (by first | omega | (simp only [ByteArray.size_append]; omega))) rfl rfl rfl) ?_; conv => whnf))
   rw [← hs]
   exact ⟨⟨i + 1, hlt⟩, by exact qle, by simp; omega⟩
set_option maxHeartbeats 4000000 in
theorem aCq {m : List Edt} (hm : m.length ≤ 6) (hk : aDm m) : AC Tryd.prog 60 [.lst 3 (m.map yR)] ⟨.v (.string (aCG m)), []⟩ := by
 have e1 : ∀ b : UInt8, (⟨#[b]⟩ : ByteArray).size = 1 := j4
 have c44 := e1 44
 have c61 := e1 61
 have c33 := e1 33
 unfold aCG
 by_cases h0 : m.length = 0
 · rw [if_pos h0]
   refine qrf Tryd.func60 Tryd.ntmps60 Tryd.results60 ?_; conv => whnf
   repeat ((refine qz ?_; conv => whnf))
   exact xk rfl trivial
 rw [if_neg h0]
 refine qrf Tryd.func60 Tryd.ntmps60 Tryd.results60 ?_; conv => whnf
 repeat ((refine qz ?_; conv => whnf))
 refine kW (ι := { i : Nat // i ≤ m.length }) (fun i => ⟨[(0, .lst 3 (m.map yR)), (3, .v (.string (jn ⟨#[44]⟩ (fun i => yx ((m[i]?).getD zEd)) i.1))), (4, .v (.int .i64 (i.1 : Int)))], []⟩) (fun i => m.length - i.1) ⟨0, Nat.zero_le _⟩ (by exact qle) ?_
 rintro ⟨i, hi⟩
 dsimp only
 conv => whnf
 by_cases hlt : i < m.length
 case neg =>
  have e : i = m.length := by omega
  subst e
  repeat ((refine qz ?_; conv => whnf))
  exact xk rfl trivial
 obtain ⟨k1, k2, k3⟩ := hk _ (List.getElem_mem hlt)
 have z1 := qI (n := (m[i]).val) (by omega) (by omega)
 have c1 := aER (n := (m[i]).val) (by omega) (by omega)
 have z2 := aA5 (sep := ⟨#[44]⟩) (g := fun i => yx ((m[i]?).getD zEd)) (A := 1) (B := 27) (n := i) (Nat.le_of_eq (j4 _)) (fun j hj => by
  obtain ⟨k1, k2, k3⟩ := hk _ (List.getElem_mem (by omega : j < m.length))
  simp only [List.getElem?_eq_getElem (by omega : j < m.length), Option.getD_some]
  exact aDR k1 k2 k3)
 have hi12 : i * (1 + 27) ≤ 400 := by omega
 have hT : yx ((m[i]?).getD zEd) = if (m[i]).gone = true then ⟨#[33]⟩ ++ (m[i]).key else ((m[i]).key ++ ⟨#[61]⟩) ++ wO (m[i]).val := by
  simp only [List.getElem?_eq_getElem hlt, Option.getD_some]; rfl
 by_cases hz : i = 0
 · subst hz
   have hs : jn ⟨#[44]⟩ (fun i => yx ((m[i]?).getD zEd)) (0 + 1) = jn ⟨#[44]⟩ (fun i => yx ((m[i]?).getD zEd)) 0 ++ yx ((m[0]?).getD zEd) := aFI
   rw [hT] at hs
   generalize jn ⟨#[44]⟩ (fun i => yx ((m[i]?).getD zEd)) 0 = A at hs z2 ⊢
   repeat (first | (refine qz ?_; conv => whnf) | (refine qp (zf (vS (by first | omega | (simp only [ByteArray.size_append]; omega))) rfl rfl rfl) ?_; conv => whnf))
   cases hg : (m[0]).gone
   all_goals
    rw [hg] at hs
    simp only [if_true, if_false, Bool.false_eq_true] at hs
    conv => whnf
    repeat (first | (refine qz ?_; conv => whnf) | (refine qdr ?_; conv => whnf) | (refine qc (c1) ?_; conv => whnf) | (refine qp (zf (vS (by first | omega | (simp only [ByteArray.size_append]; omega))) rfl rfl rfl) ?_; conv => whnf))
    rw [← hs]
    exact ⟨⟨0 + 1, hlt⟩, by exact qle, by simp; omega⟩
 · have hs : jn ⟨#[44]⟩ (fun i => yx ((m[i]?).getD zEd)) (i + 1) = (jn ⟨#[44]⟩ (fun i => yx ((m[i]?).getD zEd)) i ++ ⟨#[44]⟩) ++ yx ((m[i]?).getD zEd) := aFJ (by omega)
   rw [hT] at hs
   generalize jn ⟨#[44]⟩ (fun i => yx ((m[i]?).getD zEd)) i = A at hs z2 ⊢
   repeat (first | (refine qz ?_; conv => whnf) | (refine qp (zf (vS (by first | omega | (simp only [ByteArray.size_append]; omega))) rfl rfl rfl) ?_; conv => whnf))
   cases hg : (m[i]).gone
   all_goals
    rw [hg] at hs
    simp only [if_true, if_false, Bool.false_eq_true] at hs
    conv => whnf
    repeat (first | (refine qz ?_; conv => whnf) | (refine qdr ?_; conv => whnf) | (refine qc (c1) ?_; conv => whnf) | (refine qp (zf (vS (by first | omega | (simp only [ByteArray.size_append]; omega))) rfl rfl rfl) ?_; conv => whnf))
    rw [← hs]
    exact ⟨⟨i + 1, hlt⟩, by exact qle, by simp; omega⟩
theorem aCr {m : List Ent} (hm : m.length ≤ maxLen) (hk : ∀ e ∈ m, e.1.size ≤ maxLen) : AC Tryd.prog 11 [.lst 2 (m.map yS)] ⟨.tup [.v (.string (jJ m).1), .v (.int .i64 (jJ m).2)], []⟩ := by
 have c1 := aEz hm hk
 unfold maxLen at hm
 unfold jJ
 by_cases h0 : 4096 < m.length
 · rw [if_pos h0]
   refine qrf Tryd.func11 Tryd.ntmps11 Tryd.results11 ?_; conv => whnf
   repeat ((refine qz ?_; conv => whnf))
   exact zW rfl rfl
 rw [if_neg h0]
 cases h1 : yJ m
 case false =>
  rw [h1] at c1
  refine qrf Tryd.func11 Tryd.ntmps11 Tryd.results11 ?_; conv => whnf
  repeat ((first | refine qz ?_ | refine qc (c1) ?_); conv => whnf)
  exact zW rfl rfl
 rw [h1] at c1
 have c2 := aES (aE6 h1) (aAd h1)
 refine qrf Tryd.func11 Tryd.ntmps11 Tryd.results11 ?_; conv => whnf
 repeat ((first | refine qz ?_ | refine qc (c1) ?_ | refine qc (c2) ?_); conv => whnf)
 exact zW rfl rfl
theorem aBk {m : List Edt} (hm : m.length ≤ maxLen) (hk : ∀ e ∈ m, e.key.size ≤ maxLen) : AC Tryd.prog 20 [.lst 3 (m.map yR)] ⟨.tup [.v (.string (jD m).1), .v (.int .i64 (jD m).2)], []⟩ := by
 have c1 := aCp (es := m) rfl hm hk
 unfold maxLen at hm
 unfold jD
 by_cases h0 : 4096 < m.length
 · rw [if_pos h0]
   refine qrf Tryd.func20 Tryd.ntmps20 Tryd.results20 ?_; conv => whnf
   repeat ((refine qz ?_; conv => whnf))
   exact zW rfl rfl
 rw [if_neg h0]
 cases h1 : xQ m
 case false =>
  rw [h1] at c1
  refine qrf Tryd.func20 Tryd.ntmps20 Tryd.results20 ?_; conv => whnf
  repeat ((first | refine qz ?_ | refine qc (c1) ?_); conv => whnf)
  exact zW rfl rfl
 rw [h1] at c1
 have c2 := aCq (aCw h1) (aBR h1)
 refine qrf Tryd.func20 Tryd.ntmps20 Tryd.results20 ?_; conv => whnf
 repeat ((first | refine qz ?_ | refine qc (c1) ?_ | refine qc (c2) ?_); conv => whnf)
 exact zW rfl rfl
end Go.Proofs.YtodckioppgjbdaaDoor.AM
namespace Go.Proofs.YtodckioppgjbdaaDoor.AM
open Go Go.RowKit Go.ChangeShapes Go.WideShapes Go.Deep
structure Wsh where
 kind : Int
 name : ByteArray
 source : ByteArray
 key : ByteArray
 edits : List Edt
structure Mom where
 client : Int
 wish : Int
 step : Int
 op : Opr
 res : Rst
def Wsh.ok (o : Wsh) (N : Nat) : Prop := o.name.size ≤ N ∧ o.source.size ≤ N ∧ o.key.size ≤ N ∧ o.edits.length ≤ N ∧ ∀ e ∈ o.edits, e.key.size ≤ N
section
variable {S : Nat → Prop} {w : World}
end
section
variable {H : Type} {enc : TypeId × Value → H} {P : Program} {w : World} {base : Nat} {held : Bool}
end
end Go.Proofs.YtodckioppgjbdaaDoor.AM
namespace Go.Proofs.YtodckioppgjbdaaDoor.AM
open Go Go.RowKit
abbrev eB : ByteArray := ⟨#[]⟩
attribute [local irreducible] xR xO xX y5 yh Pre ACG
end Go.Proofs.YtodckioppgjbdaaDoor.AM
namespace Go.Proofs.YtodckioppgjbdaaDoor.AM
open Go Go.RowKit
structure Evt where
 ver : Int
 head : Int
 lag : Bool
def aGc (e : Evt) : AV := .agg [.v (.int .i64 e.ver), .v (.int .i64 e.head), .v (.bool e.lag)]
theorem aAF (e : Evt) : xq (aGc e) := by unfold aGc; simp [xq, yX]
theorem aFi {a b : Evt} : a = b ↔ a.ver = b.ver ∧ a.head = b.head ∧ a.lag = b.lag := by
 cases a; cases b; simp
instance : DecidableEq Evt := fun a b => decidable_of_iff _ aFi.symm
structure Wat where
 name : ByteArray
 seen : Int
 queue : List Evt
def Wat.ok (w : Wat) (N : Nat) : Prop := w.name.size ≤ N ∧ w.queue.length ≤ N
attribute [local irreducible] xR xO xX y5 yh Pre ACG
end Go.Proofs.YtodckioppgjbdaaDoor.AM
namespace Go.Proofs.YtodckioppgjbdaaDoor.AM
open Go Go.RowKit
def aHN (cap : Nat) (es : List AV) : AbsR where
 rel w b T := (∀ g, T g ↔ g = b) ∧ ∃ s r buf, w.heap[b]? = some (.chan cap buf false s r false) ∧ buf.toList.map some = es.map xw
 frame := by
  rintro w w' b T h ⟨h1, s, r, buf, h2, h3⟩
  exact ⟨h1, s, r, buf, (h b ((h1 b).2 rfl)).trans h2, h3⟩
abbrev aDl (cap : Nat) (es : List AV) : OB := ⟨.c (aHN cap es), 2, []⟩
section
variable {P : Program} {f : FuncId} {args : List AV} {cap : Nat} {es es' : List AV}
end
end Go.Proofs.YtodckioppgjbdaaDoor.AM
namespace Go.Proofs.YtodckioppgjbdaaDoor.AM
open Go Go.RowKit Go.Conc
section
variable {P : Program} {Θ : Tab} {n : Nat}
end
section
variable {P : Program} {Θ : Tab} {n : Nat} {ops : Array Oper} {K : St → Prop} {s : St} {k : Nat}
variable {W : World} {M : Hand} {S0 : Nat → Prop} {S : Nat → Prop} {B : Nat → Nat} {V : Nat → Value} {T : Nat → Nat → Prop} {tmps : Array Value} {w : World}
theorem SimW.chan (h : SimW W M S0 s tmps w S B V T) {l cap : Nat} {es : List AV} (hl : s.hp l = some (aDl cap es)) :
 ∃ sq rq buf, w.heap[B l]? = some (.chan cap buf false sq rq false) ∧ buf.toList.map some = es.map xw ∧
  ∀ (buf' : Array Value) (s' r' : Nat) (es' : List AV), buf'.toList.map some = es'.map xw → ∃ T', SimW W M S0 (s.set l (some (aDl cap es'))) tmps (w.setChan (B l) cap buf' false s' r' false) S B V T' := by
 obtain ⟨t0, cs, ⟨_, r0⟩, r2, r3, r4, r5, r6⟩ := h.rows.ro l _ hl
 obtain ⟨hT, sq, rq, buf, hc, hq⟩ := r0
 refine ⟨sq, rq, buf, hc, hq, fun buf' s' r' es' he => ?_⟩
 have hlt := (Array.getElem?_eq_some_iff.1 hc).1
 have hTb : T l (B l) := (hT _).2 rfl
 have hoth : ∀ g, g ≠ B l → (w.setChan (B l) cap buf' false s' r' false).heap[g]? = w.heap[g]? := fun g hg => by
  simp [World.setChan, Array.getElem?_setIfInBounds_ne (Ne.symm hg)]
 have hown : ∀ g, ¬ (V l).ownBlock = some g := fun g e => by
  have := r6 g e
  subst this
  exact h.rows.nd l _ _ hl e hTb
 have hgr : Grown w (w.setChan (B l) cap buf' false s' r' false) (Blk V T l) := ⟨rfl, rfl, rfl, by simp [World.setChan], fun g _ hg => hoth g (fun e => hg (by rw [e]; exact .inr hTb))⟩
 refine ⟨_, h.inpl (ob' := aDl cap es') hl rfl hgr ?_ (fun g hg => hg)⟩
 exact ⟨t0, [], ⟨fun t' e => (by cases e), hT, s', r', buf', heap_setChan _ _ _ _ _ _ _ _ hlt, he⟩, ⟨rfl, rfl, fun g hg => by rw [(hT g).1 hg]; simp [World.setChan]; exact hlt⟩, fun x hx => (by cases hx), Nat.succ_pos 1, by
  have := wD (w' := w.setChan (B l) cap buf' false s' r' false) r5 (fun g hg => absurd hg (hown g))
  exact ⟨rfl, this.2.imp id (fun ⟨g, cap1, cur, q1, q2⟩ => absurd (show (V l).ownBlock = some g by rw [q1]; rfl) (hown g))⟩, r6⟩
end
section
variable {P : Program} {Θ : Tab} {n : Nat} {ops : Array Oper} {K : St → Prop} {s : St} {k : Nat} {x y : Operand} {ty : TypeId} {pos : String} {after : Array Edge} {l cap : Nat} {es r : List AV} {u z : Value} {v : AV} {t : Nat} {elem : TypeId}
end
end Go.Proofs.YtodckioppgjbdaaDoor.AM
namespace Go.Proofs.YtodckioppgjbdaaDoor.AM
open Go Go.RowKit
attribute [local irreducible] xR xO xX y5 yh Pre ACG
end Go.Proofs.YtodckioppgjbdaaDoor.AM
namespace Go.Proofs.YtodckioppgjbdaaDoor.AM
open Go Go.RowKit
def aHO (e : Evt) : Bool := decide (1 ≤ e.ver ∧ e.ver ≤ 1000000) && decide (0 ≤ e.head ∧ e.head ≤ 60)
def fB (e b : Evt) : Bool := decide (e.ver = b.ver + 1) || (e.lag && decide (b.ver < e.ver))
def evG (l : List Evt) (i : Nat) : Prop := ∃ h : i < l.length, aHO l[i] = true ∧ ∀ m, (hm : m + 1 = i) → fB l[i] (l[m]'(by omega)) = true
open Classical in
noncomputable def aHb (l : List Evt) : Bool := decide (∀ i, i < l.length → evG l i)
attribute [local irreducible] xR xO xX y5 yh Pre ACG
end Go.Proofs.YtodckioppgjbdaaDoor.AM
namespace Go.Proofs.YtodckioppgjbdaaDoor.AM
open Go Go.RowKit
def aHd (l : List Evt) : Bool := (l.drop 1).any (·.lag)
noncomputable def qB (l : List Evt) (s : Int) : Bool := decide (l.length ≤ 4) && (aHb l && (decide ((l.getLast?.map (·.ver)) = some s) && !aHd l))
attribute [local irreducible] xR xO xX y5 yh Pre ACG
theorem aGF {a b : Wat} : a = b ↔ a.name = b.name ∧ a.seen = b.seen ∧ a.queue = b.queue := by cases a; cases b; simp
instance : DecidableEq Wat := fun a b => decidable_of_iff _ aGF.symm
end Go.Proofs.YtodckioppgjbdaaDoor.AM
namespace Go.Proofs.YtodckioppgjbdaaDoor.AM
open Go Go.RowKit
section
variable {P : Program} {f : FuncId} {args args' : List AV} {rin rout : List OB} {out : Out}
end
section
variable {s : St} {Θ : Tab}
end
section
variable {P : Program} {Θ : Tab} {s : St} {ty : TypeId} {pos : String} {after : Array Edge} {g : Option (Nat × Bool)}
end
attribute [local irreducible] xR xO xX y5 yh Pre ACG
end Go.Proofs.YtodckioppgjbdaaDoor.AM
namespace Go.Proofs.YtodckioppgjbdaaDoor.AM
open Go Go.RowKit
section
variable {s : St} {Θ : Tab}
end
attribute [local irreducible] xR xO xX y5 yh Pre ACG
theorem aDB {m : List Ent} (hm : m.length ≤ maxLen) (hk : ∀ e ∈ m, e.1.size ≤ maxLen) (h2 : AC Tryd.prog 13 [.lst 2 (m.map yS)] ⟨.tup [.v (.string (jJ m).1), .v (.int .i64 (jJ m).2)], []⟩) : AC Tryd.prog 3 [.lst 2 (m.map yS)] ⟨.v (.bool true), []⟩ := by
 have hz := aCs hm hk (l := 1048576) (by omega) (by omega)
 by_cases hsz : szL eSz m 1048576 < 0
 · refine qrf Tryd.func3 Tryd.ntmps3 Tryd.results3 ?_; conv => whnf
   repeat ((first | refine qz ?_ | refine qc (hz) ?_); conv => whnf)
   exact xk rfl trivial
 obtain ⟨_, m1, _⟩ := aEv (es := m) (g := eSz) (l := 1048576) (by omega)
 have t1 := aCt (es := m) (by omega)
 have e1 := aBw hm
 have h1 := aCr hm hk
 generalize jJ m = R at h1 h2
 refine qrf Tryd.func3 Tryd.ntmps3 Tryd.results3 ?_; conv => whnf
 repeat ((first | refine qz ?_ | refine qc (hz) ?_ | refine qc (t1) ?_ | refine qc (h1) ?_ | refine qc (h2) ?_ | refine qc (e1) ?_ | refine qst ?_ | refine qdr ?_ | refine qp (zf (aDO rfl) rfl rfl rfl) ?_); conv => whnf)
 exact xk rfl trivial
theorem aBm {m : List Edt} (hm : m.length ≤ maxLen) (hk : ∀ e ∈ m, e.key.size ≤ maxLen) (h2 : AC Tryd.prog 22 [.lst 3 (m.map yR)] ⟨.tup [.v (.string (jD m).1), .v (.int .i64 (jD m).2)], []⟩) : AC Tryd.prog 5 [.lst 3 (m.map yR)] ⟨.v (.bool true), []⟩ := by
 have hz := aDf hm hk (l := 1048576) (by omega) (by omega)
 by_cases hsz : szL xSz m 1048576 < 0
 · refine qrf Tryd.func5 Tryd.ntmps5 Tryd.results5 ?_; conv => whnf
   repeat ((first | refine qz ?_ | refine qc (hz) ?_); conv => whnf)
   exact xk rfl trivial
 obtain ⟨_, m1, _⟩ := aEv (es := m) (g := xSz) (l := 1048576) (by omega)
 have t1 := aDg (es := m) (by omega)
 have e1 := aDd hm
 have h1 := aBk hm hk
 generalize jD m = R at h1 h2
 refine qrf Tryd.func5 Tryd.ntmps5 Tryd.results5 ?_; conv => whnf
 repeat ((first | refine qz ?_ | refine qc (hz) ?_ | refine qc (t1) ?_ | refine qc (h1) ?_ | refine qc (h2) ?_ | refine qc (e1) ?_ | refine qst ?_ | refine qdr ?_ | refine qp (zf (aDO rfl) rfl rfl rfl) ?_); conv => whnf)
 exact xk rfl trivial
end Go.Proofs.YtodckioppgjbdaaDoor.AM
namespace Go.Proofs
open Go.Shelf
def Tryd.lays156_ren : Go.Shelf.Ren := ⟨fun | 156 => 122 | 165 => 150 | 166 => 151 | 169 => 152 | 240 => 171 | 241 => 172 | 276 => 190 | 277 => 191 | n => n, fun | 31 => 44 | 9 => 9 | 3 => 3 | 4 => 4 | 0 => 0 | 20 => 20 | 72 => 191 | 76 => 185 | 70 => 189 | 37 => 157 | 75 => 184 | 127 => 203 | 164 => 222 | 5 => 5 | 80 => 181 | n => n, fun | n => n⟩
theorem Tryd.lays156 : Go.Proofs.Lays.n156 Tryd.prog Tryd.lays156_ren := {
 mixed := by kernel_rfl
 f156 := Tryd.func122.trans (congrArg some (by kernel_rfl))
 f165 := Tryd.func150.trans (congrArg some (by kernel_rfl))
 f166 := Tryd.func151.trans (congrArg some (by kernel_rfl))
 f169 := Tryd.func152.trans (congrArg some (by kernel_rfl))
 f240 := Tryd.func171.trans (congrArg some (by kernel_rfl))
 f241 := Tryd.func172.trans (congrArg some (by kernel_rfl))
 f276 := Tryd.func190.trans (congrArg some (by kernel_rfl))
 f277 := Tryd.func191.trans (congrArg some (by kernel_rfl))
 t0 := Tryd.underlying0
 a0 := Tryd.isAgg0
 z0 := Tryd.sizeOf0
 v0 := Tryd.zeroValue0
 t3 := Tryd.underlying3
 a3 := Tryd.isAgg3
 z3 := Tryd.sizeOf3
 v3 := Tryd.zeroValue3
 t4 := Tryd.underlying4
 a4 := Tryd.isAgg4
 z4 := Tryd.sizeOf4
 v4 := Tryd.zeroValue4
 t9 := Tryd.underlying9
 a9 := Tryd.isAgg9
 z9 := Tryd.sizeOf9
 v9 := Tryd.zeroValue9
 t20 := Tryd.underlying20
 a20 := Tryd.isAgg20
 z20 := Tryd.sizeOf20
 v20 := Tryd.zeroValue20
 t31 := Tryd.underlying44
 a31 := Tryd.isAgg44
 z31 := Tryd.sizeOf44
 v31 := Tryd.zeroValue44
 t37 := Tryd.underlying157
 a37 := Tryd.isAgg157
 z37 := Tryd.sizeOf157
 v37 := Tryd.zeroValue157
 t70 := Tryd.underlying189
 a70 := Tryd.isAgg189
 z70 := Tryd.sizeOf189
 v70 := Tryd.zeroValue189
 t72 := Tryd.underlying191
 a72 := Tryd.isAgg191
 z72 := Tryd.sizeOf191
 v72 := Tryd.zeroValue191
 t75 := Tryd.underlying184
 a75 := Tryd.isAgg184
 z75 := Tryd.sizeOf184
 v75 := Tryd.zeroValue184
 t76 := Tryd.underlying185
 a76 := Tryd.isAgg185
 z76 := Tryd.sizeOf185
 v76 := Tryd.zeroValue185
 t127 := Tryd.underlying203
 a127 := Tryd.isAgg203
 z127 := Tryd.sizeOf203
 v127 := Tryd.zeroValue203
 t164 := Tryd.underlying222
 a164 := Tryd.isAgg222
 z164 := Tryd.sizeOf222
 v164 := Tryd.zeroValue222 }
theorem Tryd.Builder_Extra_156 : Builder.Extra Tryd.prog Tryd.lays156_ren := {
 sizeBuilder := by kernel_rfl
 liesBuilder := by kernel_rfl
 t5 := Tryd.underlying5
 a5 := Tryd.isAgg5
 z5 := Tryd.sizeOf5
 v5 := Tryd.zeroValue5
 infoByte := by kernel_rfl
 cellsByte := by kernel_rfl
 sizeByte := by kernel_rfl
 neB5 := by decide }
open Go.RowKit in
theorem Tryd.strings_Join_none (a : Option Addr) (c : Nat) (sep : ByteArray) (w : World) :
 Calls Tryd.prog 122 #[.slice a 0 c, .string sep] w fun e w' => e = .returned (.string ⟨#[]⟩) ∧ w' = w := Any.strings_Join_none Tryd.lays156 Tryd.Builder_Extra_156 a c sep w
open Go.RowKit in
theorem Tryd.strings_Join (bk o c : Nat) (xs : List ByteArray) (sep : ByteArray) (w : World) (hcells : ∀ (j : Nat) x, xs[j]? = some x → w.cell? ⟨bk, o + j, none⟩ = some (.string x)) (hbk : bk < w.heap.size) (hN : xs.length ≤ 140737488355328) (hcap : xs.length ≤ c) (hlen : (Lib.join (xs.map (·.data.toList)) sep.data.toList).length ≤ 140737488355328) :
 Calls Tryd.prog 122 #[.slice (some ⟨bk, o, none⟩) xs.length c, .string sep] w fun e w' => e = .returned (.string ⟨(Lib.join (xs.map (·.data.toList)) sep.data.toList).toArray⟩) ∧ Below w.heap.size w w' := Any.strings_Join Tryd.lays156 Tryd.Builder_Extra_156 bk o c xs sep w hcells hbk hN hcap hlen
def Tryd.laysM171_ren : Go.Shelf.Ren := ⟨fun | 171 => 95 | 243 => 137 | 246 => 162 | 283 => 176 | 284 => 177 | 285 => 178 | 286 => 179 | 129 => 194 | 317 => 193 | 318 => 195 | 319 => 196 | 320 => 197 | 337 => 203 | 338 => 204 | n => n, fun | 3 => 3 | 9 => 9 | 2 => 2 | 4 => 4 | 171 => 207 | 0 => 0 | 53 => 208 | 37 => 157 | 5 => 5 | 173 => 211 | 212 => 227 | 51 => 228 | 20 => 20 | 213 => 229 | 46 => 215 | 232 => 247 | 233 => 248 | n => n, fun | 17 => 3 | 18 => 8 | 19 => 9 | n => n⟩
theorem Tryd.laysM171 : Go.Proofs.LaysM.n171 Tryd.prog Tryd.laysM171_ren := {
 mixed := by kernel_rfl
 f129 := Tryd.func194.trans (congrArg some (by kernel_rfl))
 f171 := Tryd.func95.trans (congrArg some (by kernel_rfl))
 f243 := Tryd.func137.trans (congrArg some (by kernel_rfl))
 f246 := Tryd.func162.trans (congrArg some (by kernel_rfl))
 f283 := Tryd.func176.trans (congrArg some (by kernel_rfl))
 f284 := Tryd.func177.trans (congrArg some (by kernel_rfl))
 f285 := Tryd.func178.trans (congrArg some (by kernel_rfl))
 f286 := Tryd.func179.trans (congrArg some (by kernel_rfl))
 f317 := Tryd.func193.trans (congrArg some (by kernel_rfl))
 f318 := Tryd.func195.trans (congrArg some (by kernel_rfl))
 f319 := Tryd.func196.trans (congrArg some (by kernel_rfl))
 f320 := Tryd.func197.trans (congrArg some (by kernel_rfl))
 f337 := Tryd.func203.trans (congrArg some (by kernel_rfl))
 f338 := Tryd.func204.trans (congrArg some (by kernel_rfl))
 t0 := Tryd.underlying0
 a0 := Tryd.isAgg0
 z0 := Tryd.sizeOf0
 v0 := Tryd.zeroValue0
 t2 := Tryd.underlying2
 a2 := Tryd.isAgg2
 z2 := Tryd.sizeOf2
 v2 := Tryd.zeroValue2
 t3 := Tryd.underlying3
 a3 := Tryd.isAgg3
 z3 := Tryd.sizeOf3
 v3 := Tryd.zeroValue3
 t4 := Tryd.underlying4
 a4 := Tryd.isAgg4
 z4 := Tryd.sizeOf4
 v4 := Tryd.zeroValue4
 t5 := Tryd.underlying5
 a5 := Tryd.isAgg5
 z5 := Tryd.sizeOf5
 v5 := Tryd.zeroValue5
 t9 := Tryd.underlying9
 a9 := Tryd.isAgg9
 z9 := Tryd.sizeOf9
 v9 := Tryd.zeroValue9
 t20 := Tryd.underlying20
 a20 := Tryd.isAgg20
 z20 := Tryd.sizeOf20
 v20 := Tryd.zeroValue20
 t37 := Tryd.underlying157
 a37 := Tryd.isAgg157
 z37 := Tryd.sizeOf157
 v37 := Tryd.zeroValue157
 t46 := Tryd.underlying215
 a46 := Tryd.isAgg215
 z46 := Tryd.sizeOf215
 v46 := Tryd.zeroValue215
 t51 := Tryd.underlying228
 a51 := Tryd.isAgg228
 z51 := Tryd.sizeOf228
 v51 := Tryd.zeroValue228
 t53 := Tryd.underlying208
 a53 := Tryd.isAgg208
 z53 := Tryd.sizeOf208
 v53 := Tryd.zeroValue208
 t171 := Tryd.underlying207
 a171 := Tryd.isAgg207
 z171 := Tryd.sizeOf207
 v171 := Tryd.zeroValue207
 t173 := Tryd.underlying211
 a173 := Tryd.isAgg211
 z173 := Tryd.sizeOf211
 v173 := Tryd.zeroValue211
 t212 := Tryd.underlying227
 a212 := Tryd.isAgg227
 z212 := Tryd.sizeOf227
 v212 := Tryd.zeroValue227
 t213 := Tryd.underlying229
 a213 := Tryd.isAgg229
 z213 := Tryd.sizeOf229
 t232 := Tryd.underlying247
 a232 := Tryd.isAgg247
 z232 := Tryd.sizeOf247
 v232 := Tryd.zeroValue247
 t233 := Tryd.underlying248
 a233 := Tryd.isAgg248
 z233 := Tryd.sizeOf248
 v233 := Tryd.zeroValue248
 g17 := by kernel_rfl
 g18 := by kernel_rfl
 g19 := by kernel_rfl
 i0 := by kernel_rfl
 i2 := by kernel_rfl
 i3 := by kernel_rfl
 i4 := by kernel_rfl
 i5 := by kernel_rfl
 i9 := by kernel_rfl
 i20 := by kernel_rfl
 i37 := by kernel_rfl
 i46 := by kernel_rfl
 i51 := by kernel_rfl
 i53 := by kernel_rfl
 i171 := by kernel_rfl
 i173 := by kernel_rfl
 i212 := by kernel_rfl
 i232 := by kernel_rfl
 i233 := by kernel_rfl
 m17 := by kernel_rfl
 m18 := by kernel_rfl
 m19 := by kernel_rfl }
open Go.RowKit Go.Sort Go.Lib in
theorem Tryd.strconv_Itoa (n : Int) (h0 : -9223372036854775808 ≤ n) (h1 : n ≤ 9223372036854775807) (w : World) (htab : Lib.TabIs Tryd.prog w "internal/strconv.uint64pow10" .u64 Lib.pow10Tab) :
 Calls Tryd.prog 95 #[.int .i64 n] w fun e w' => e = .returned (.string ⟨(Lib.itoa n).toArray⟩) ∧ ∃ k os, w' = grow (w.drewN k) os := Any.strconv_Itoa Tryd.laysM171 n h0 h1 w htab
end Go.Proofs
