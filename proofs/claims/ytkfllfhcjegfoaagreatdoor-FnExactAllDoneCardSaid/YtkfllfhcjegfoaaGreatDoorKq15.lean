/- Texts of the machine over data, folded. -/
import Derived.Test.YtkfllfhcjegfoaaGreatDoorKq14
import Derived.Test.YtkfllfhcjegfoaaGreatDoorKq7
import Derived.Test.YtkfllfhcjegfoaaGreatDoorKq6
import Derived.Test.YtkfllfhcjegfoaaGreatDoorKq11
import Derived.Test.YtkfllfhcjegfoaaGreatDoorKq9
import Derived.Test.YtkfllfhcjegfoaaGreatDoorKq12
set_option linter.unusedVariables false
set_option linter.unusedSimpArgs false
set_option maxRecDepth 100000
namespace Go.Proofs.YtkfllfhcjegfoaaGreatDoor
open Go.RowKit
set_option maxHeartbeats 4000000 in
set_option maxRecDepth 100000 in
theorem aJA (A : Option Addr) (n c : Nat) (es : List Edt) (w : World) (hr : Rd w 3 A n (yD es)) (hm : n ≤ maxLen) (hks : ∀ e ∈ es, e.key.size ≤ maxLen) :
 Calls Tryz.prog 101 #[.slice A n c] w fun e w' => e = .returned (.bool (xw es)) ∧ Below w.heap.size w w' := by
 unfold maxLen at hm
 have hlen := hr.elen
 have Hlen := Lib.hid hlen; clear hlen
 by_cases hbig : 6 < n
 · have hfin : Hid (xw es = false) := aBJ (by rw [Hlen.out]; exact hbig)
   go_enter Tryz.func101, Tryz.ntmps101
   go_wp2
   go_ret
   exact ⟨xQ hfin.out.symm, Below.refl _ _⟩
 have hn6 : n ≤ 6 := by omega
 clear hbig
 go_enter Tryz.func101, Tryz.ntmps101
 go_wp2
 go_loopw [3] (fun i wr => ∃ k : Nat, k ≤ n ∧ i = .int .i64 k ∧ (∀ j, j < k → yZ (kv es) j = true ∧ vP es j = true) ∧ Below w.heap.size w wr) (fun i _ => n - (intOf i).toNat)
 case atStart => exact ⟨0, Nat.zero_le _, rfl, fun j hj => absurd hj (by omega), Below.refl _ _⟩
 case round =>
  obtain ⟨k, hk, rfl, hall, hb⟩ := hrel
  have Hall := Lib.hid hall; clear hall
  by_cases hlt : k < n
  · have hke : k < es.length := by rw [Hlen.out]; exact hlt
    obtain ⟨b, off, rfl, hbl, hbl2, hc1, hc2, hc3⟩ := hr.edt hb hke
    have hsz := hks _ (List.getElem_mem hke)
    have hnoO := aKC es k hke
    have hE := aIC es k hke
    have hz0 : k = 0 → nm es[k].key = true → yZ (kv es) k = true := by rintro rfl h; exact aG8 es hke h
    have hp0 : (h : 0 < k) → nm es[k].key = true → yZ (kv es) k = klt (es[k - 1]'(by omega)).key es[k].key := fun h h2 => aIz es k h hke h2
    generalize es[k] = ek at *
    obtain ⟨k1, v1, g1⟩ := ek
    simp only at hc1 hc2 hc3 hsz hnoO hE hz0 hp0
    have hcall := fun W => aBn k1 W hsz
    have hcall2 := fun W => aG9 v1 (-1000000) 1000000 W
    change ∀ W, Calls _ _ _ W fun e w' => e = .returned (.bool (nm k1)) ∧ W = w' at hcall
    change ∀ W, Calls _ _ _ W fun e w' => e = .returned (.bool (aCY v1)) ∧ W = w' at hcall2
    cases hw : nm k1 with
    | false =>
     have hfin : Hid (xw es = false) := aCo hke (hnoO hw)
     rw [hw] at hcall
     have Hcall := Lib.hid hcall
     clear hw hcall hcall2 hE hnoO hz0 hp0
     go_wp2
     have hcL0 : (wr.alloc (Obj.cells #[Value.string k1, Value.int IntKind.i64 v1, Value.bool g1] 191)).cell? ⟨wr.heap.size, 0, none⟩ = some (.string k1) := cell_of_row _ _ _ _ _ (0, 0) (heap_alloc_new wr _)
     have hcL1 : (wr.alloc (Obj.cells #[Value.string k1, Value.int IntKind.i64 v1, Value.bool g1] 191)).cell? ⟨wr.heap.size, 1, none⟩ = some (.int .i64 v1) := cell_of_row _ _ _ _ _ (0, 0) (heap_alloc_new wr _)
     have hcL2 : (wr.alloc (Obj.cells #[Value.string k1, Value.int IntKind.i64 v1, Value.bool g1] 191)).cell? ⟨wr.heap.size, 2, none⟩ = some (.bool g1) := cell_of_row _ _ _ _ _ (0, 0) (heap_alloc_new wr _)
     have hpl : wr.heap.size < (wr.alloc (Obj.cells #[Value.string k1, Value.int IntKind.i64 v1, Value.bool g1] 191)).heap.size := by simp
     have hb2 : Below w.heap.size w (wr.alloc (Obj.cells #[Value.string k1, Value.int IntKind.i64 v1, Value.bool g1] 191)) := hb.alloc hb.size _
     generalize wr.alloc (Obj.cells #[Value.string k1, Value.int IntKind.i64 v1, Value.bool g1] 191) = w2 at *
     generalize wr.heap.size = p at *
     have hA0 := fun y : Aft w2 => y.cell hpl hcL0
     have hA1 := fun y : Aft w2 => y.cell hpl hcL1
     have hA2 := fun y : Aft w2 => y.cell hpl hcL2
     refine xD (by kernel_rfl) (by kernel_rfl) ?_
     repeat (go_big_quiet_step ((first | (go_at_call 64; exact Aft.same (Hcall.out _)))))
     refine wpQuiet_nil ?_
     rintro _ ⟨y, rfl⟩
     have hb3 := yH hb2 y.below
     generalize y.at_ = w3 at *
     go_wp2
     go_ret
     exact ⟨xQ hfin.out.symm, hb3⟩
    | true =>
    cases hv : aCY v1 with
    | false =>
     have hfin : Hid (xw es = false) := je hke (by rw [hE, hv]; rfl)
     rw [hw] at hcall
     rw [hv] at hcall2
     have Hcall := Lib.hid hcall
     have Hcall2 := Lib.hid hcall2
     clear hw hv hcall hcall2 hE hnoO hz0 hp0
     go_wp2
     have hcL0 : (wr.alloc (Obj.cells #[Value.string k1, Value.int IntKind.i64 v1, Value.bool g1] 191)).cell? ⟨wr.heap.size, 0, none⟩ = some (.string k1) := cell_of_row _ _ _ _ _ (0, 0) (heap_alloc_new wr _)
     have hcL1 : (wr.alloc (Obj.cells #[Value.string k1, Value.int IntKind.i64 v1, Value.bool g1] 191)).cell? ⟨wr.heap.size, 1, none⟩ = some (.int .i64 v1) := cell_of_row _ _ _ _ _ (0, 0) (heap_alloc_new wr _)
     have hcL2 : (wr.alloc (Obj.cells #[Value.string k1, Value.int IntKind.i64 v1, Value.bool g1] 191)).cell? ⟨wr.heap.size, 2, none⟩ = some (.bool g1) := cell_of_row _ _ _ _ _ (0, 0) (heap_alloc_new wr _)
     have hpl : wr.heap.size < (wr.alloc (Obj.cells #[Value.string k1, Value.int IntKind.i64 v1, Value.bool g1] 191)).heap.size := by simp
     have hb2 : Below w.heap.size w (wr.alloc (Obj.cells #[Value.string k1, Value.int IntKind.i64 v1, Value.bool g1] 191)) := hb.alloc hb.size _
     generalize wr.alloc (Obj.cells #[Value.string k1, Value.int IntKind.i64 v1, Value.bool g1] 191) = w2 at *
     generalize wr.heap.size = p at *
     have hA0 := fun y : Aft w2 => y.cell hpl hcL0
     have hA1 := fun y : Aft w2 => y.cell hpl hcL1
     have hA2 := fun y : Aft w2 => y.cell hpl hcL2
     refine xD (by kernel_rfl) (by kernel_rfl) ?_
     repeat (go_big_quiet_step ((first | (go_at_call 64; exact Aft.same (Hcall.out _)) | (go_at_call 33; exact Aft.same (Hcall2.out _)))))
     refine wpQuiet_nil ?_
     rintro _ ⟨y, rfl⟩
     have hb3 := yH hb2 y.below
     generalize y.at_ = w3 at *
     go_wp2
     go_ret
     exact ⟨xQ hfin.out.symm, hb3⟩
    | true =>
    rw [hw] at hcall
    rw [hv] at hcall2
    rcases aFQ g1 v1 with ⟨rfl, hne⟩ | hgood
    · have hfin : Hid (xw es = false) := je hke (by rw [hE, hv, decide_eq_false hne]; rfl)
      have hne2 : (v1 != 0) = true := by simpa using hne
      have Hcall := Lib.hid hcall
      have Hcall2 := Lib.hid hcall2
      clear hw hv hcall hcall2 hE hnoO hz0 hp0
      go_wp2
      have hcL0 : (wr.alloc (Obj.cells #[Value.string k1, Value.int IntKind.i64 v1, Value.bool true] 191)).cell? ⟨wr.heap.size, 0, none⟩ = some (.string k1) := cell_of_row _ _ _ _ _ (0, 0) (heap_alloc_new wr _)
      have hcL1 : (wr.alloc (Obj.cells #[Value.string k1, Value.int IntKind.i64 v1, Value.bool true] 191)).cell? ⟨wr.heap.size, 1, none⟩ = some (.int .i64 v1) := cell_of_row _ _ _ _ _ (0, 0) (heap_alloc_new wr _)
      have hcL2 : (wr.alloc (Obj.cells #[Value.string k1, Value.int IntKind.i64 v1, Value.bool true] 191)).cell? ⟨wr.heap.size, 2, none⟩ = some (.bool true) := cell_of_row _ _ _ _ _ (0, 0) (heap_alloc_new wr _)
      have hpl : wr.heap.size < (wr.alloc (Obj.cells #[Value.string k1, Value.int IntKind.i64 v1, Value.bool true] 191)).heap.size := by simp
      have hb2 : Below w.heap.size w (wr.alloc (Obj.cells #[Value.string k1, Value.int IntKind.i64 v1, Value.bool true] 191)) := hb.alloc hb.size _
      generalize wr.alloc (Obj.cells #[Value.string k1, Value.int IntKind.i64 v1, Value.bool true] 191) = w2 at *
      generalize wr.heap.size = p at *
      have hA0 := fun y : Aft w2 => y.cell hpl hcL0
      have hA1 := fun y : Aft w2 => y.cell hpl hcL1
      have hA2 := fun y : Aft w2 => y.cell hpl hcL2
      refine xD (by kernel_rfl) (by kernel_rfl) ?_
      repeat (go_big_quiet_step ((first | (go_at_call 64; exact Aft.same (Hcall.out _)) | (go_at_call 33; exact Aft.same (Hcall2.out _)))))
      refine wpQuiet_nil ?_
      rintro _ ⟨y, rfl⟩
      have hb3 := yH hb2 y.below
      generalize y.at_ = w3 at *
      go_wp2
      go_ret
      exact ⟨xQ hfin.out.symm, hb3⟩
    have hE1 : Hid (vP es k = true) := by
     rcases hgood with rfl | ⟨rfl, rfl⟩
     · show vP es k = true; rw [hE, hv]; rfl
     · show vP es k = true; rw [hE, hv]; rfl
    clear hE hv hnoO
    by_cases hk0 : k = 0
    · have ho := hz0 hk0 hw
      subst hk0
      have hstep : Hid (∀ j, j < 0 + 1 → yZ (kv es) j = true ∧ vP es j = true) := fun j hj => by
       have : j = 0 := by omega
       subst this; exact ⟨ho, hE1.out⟩
      simp only [Nat.zero_mul, Nat.add_zero] at hc1 hc2 hc3
      clear hz0 hp0 ho hw
      rcases hgood with rfl | ⟨rfl, rfl⟩
      · have Hcall := Lib.hid hcall
        have Hcall2 := Lib.hid hcall2
        clear hcall hcall2
        go_wp2
        have hcL0 : (wr.alloc (Obj.cells #[Value.string k1, Value.int IntKind.i64 v1, Value.bool false] 191)).cell? ⟨wr.heap.size, 0, none⟩ = some (.string k1) := cell_of_row _ _ _ _ _ (0, 0) (heap_alloc_new wr _)
        have hcL1 : (wr.alloc (Obj.cells #[Value.string k1, Value.int IntKind.i64 v1, Value.bool false] 191)).cell? ⟨wr.heap.size, 1, none⟩ = some (.int .i64 v1) := cell_of_row _ _ _ _ _ (0, 0) (heap_alloc_new wr _)
        have hcL2 : (wr.alloc (Obj.cells #[Value.string k1, Value.int IntKind.i64 v1, Value.bool false] 191)).cell? ⟨wr.heap.size, 2, none⟩ = some (.bool false) := cell_of_row _ _ _ _ _ (0, 0) (heap_alloc_new wr _)
        have hpl : wr.heap.size < (wr.alloc (Obj.cells #[Value.string k1, Value.int IntKind.i64 v1, Value.bool false] 191)).heap.size := by simp
        have hb2 : Below w.heap.size w (wr.alloc (Obj.cells #[Value.string k1, Value.int IntKind.i64 v1, Value.bool false] 191)) := hb.alloc hb.size _
        generalize wr.alloc (Obj.cells #[Value.string k1, Value.int IntKind.i64 v1, Value.bool false] 191) = w2 at *
        generalize wr.heap.size = p at *
        have hA0 := fun y : Aft w2 => y.cell hpl hcL0
        have hA1 := fun y : Aft w2 => y.cell hpl hcL1
        have hA2 := fun y : Aft w2 => y.cell hpl hcL2
        refine xD (by kernel_rfl) (by kernel_rfl) ?_
        repeat (go_big_quiet_step ((first | (go_at_call 64; exact Aft.same (Hcall.out _)) | (go_at_call 33; exact Aft.same (Hcall2.out _)))))
        refine wpQuiet_nil ?_
        rintro _ ⟨y, rfl⟩
        have hb3 := yH hb2 y.below
        generalize y.at_ = w3 at *
        go_wp2
        go_roundw
        case rel => exact ⟨0 + 1, by omega, by go_num, hstep.out, hb3⟩
        case measure => simp [intOf]; omega
      · have Hcall := Lib.hid hcall
        have Hcall2 := Lib.hid hcall2
        clear hcall hcall2
        go_wp2
        have hcL0 : (wr.alloc (Obj.cells #[Value.string k1, Value.int IntKind.i64 0, Value.bool true] 191)).cell? ⟨wr.heap.size, 0, none⟩ = some (.string k1) := cell_of_row _ _ _ _ _ (0, 0) (heap_alloc_new wr _)
        have hcL1 : (wr.alloc (Obj.cells #[Value.string k1, Value.int IntKind.i64 0, Value.bool true] 191)).cell? ⟨wr.heap.size, 1, none⟩ = some (.int .i64 0) := cell_of_row _ _ _ _ _ (0, 0) (heap_alloc_new wr _)
        have hcL2 : (wr.alloc (Obj.cells #[Value.string k1, Value.int IntKind.i64 0, Value.bool true] 191)).cell? ⟨wr.heap.size, 2, none⟩ = some (.bool true) := cell_of_row _ _ _ _ _ (0, 0) (heap_alloc_new wr _)
        have hpl : wr.heap.size < (wr.alloc (Obj.cells #[Value.string k1, Value.int IntKind.i64 0, Value.bool true] 191)).heap.size := by simp
        have hb2 : Below w.heap.size w (wr.alloc (Obj.cells #[Value.string k1, Value.int IntKind.i64 0, Value.bool true] 191)) := hb.alloc hb.size _
        generalize wr.alloc (Obj.cells #[Value.string k1, Value.int IntKind.i64 0, Value.bool true] 191) = w2 at *
        generalize wr.heap.size = p at *
        have hA0 := fun y : Aft w2 => y.cell hpl hcL0
        have hA1 := fun y : Aft w2 => y.cell hpl hcL1
        have hA2 := fun y : Aft w2 => y.cell hpl hcL2
        refine xD (by kernel_rfl) (by kernel_rfl) ?_
        repeat (go_big_quiet_step ((first | (go_at_call 64; exact Aft.same (Hcall.out _)) | (go_at_call 33; exact Aft.same (Hcall2.out _)))))
        refine wpQuiet_nil ?_
        rintro _ ⟨y, rfl⟩
        have hb3 := yH hb2 y.below
        generalize y.at_ = w3 at *
        go_wp2
        go_roundw
        case rel => exact ⟨0 + 1, by omega, by go_num, hstep.out, hb3⟩
        case measure => simp [intOf]; omega
    · have hkp : 0 < k := by omega
      have hor := hp0 hkp hw
      have ht : (Op.bytesLess k1.toList (es[k - 1]'(by omega)).key.toList || k1.toList == (es[k - 1]'(by omega)).key.toList) = !yZ (kv es) k := by rw [aMw, hor]
      have hi0 : 0 ≤ (k : Int) - 1 := by omega
      have hi1 : ((k : Int) - 1).toNat = k - 1 := by omega
      have hi2 : (0 : Int) < (k : Int) := by omega
      clear hk0 hor hw hz0 hp0
      cases ho : yZ (kv es) k with
      | false =>
       have hfin : Hid (xw es = false) := aCo hke ho
       rw [ho] at ht
       clear ho
       rcases hgood with rfl | ⟨rfl, rfl⟩
       · have Hcall := Lib.hid hcall
         have Hcall2 := Lib.hid hcall2
         clear hcall hcall2
         go_wp2
         have hcL0 : (wr.alloc (Obj.cells #[Value.string k1, Value.int IntKind.i64 v1, Value.bool false] 191)).cell? ⟨wr.heap.size, 0, none⟩ = some (.string k1) := cell_of_row _ _ _ _ _ (0, 0) (heap_alloc_new wr _)
         have hcL1 : (wr.alloc (Obj.cells #[Value.string k1, Value.int IntKind.i64 v1, Value.bool false] 191)).cell? ⟨wr.heap.size, 1, none⟩ = some (.int .i64 v1) := cell_of_row _ _ _ _ _ (0, 0) (heap_alloc_new wr _)
         have hcL2 : (wr.alloc (Obj.cells #[Value.string k1, Value.int IntKind.i64 v1, Value.bool false] 191)).cell? ⟨wr.heap.size, 2, none⟩ = some (.bool false) := cell_of_row _ _ _ _ _ (0, 0) (heap_alloc_new wr _)
         have hpl : wr.heap.size < (wr.alloc (Obj.cells #[Value.string k1, Value.int IntKind.i64 v1, Value.bool false] 191)).heap.size := by simp
         have hb2 : Below w.heap.size w (wr.alloc (Obj.cells #[Value.string k1, Value.int IntKind.i64 v1, Value.bool false] 191)) := hb.alloc hb.size _
         obtain ⟨b', off', he, _, _, hc4, _, _⟩ := hr.edt hb2 (show k - 1 < es.length by omega)
         obtain ⟨rfl, rfl⟩ : b = b' ∧ off = off' := by simpa using he
         have hbl4 := Nat.lt_of_lt_of_le hbl hb2.size
         generalize wr.alloc (Obj.cells #[Value.string k1, Value.int IntKind.i64 v1, Value.bool false] 191) = w2 at *
         generalize wr.heap.size = p at *
         have hA0 := fun y : Aft w2 => y.cell hpl hcL0
         have hA1 := fun y : Aft w2 => y.cell hpl hcL1
         have hA2 := fun y : Aft w2 => y.cell hpl hcL2
         have hA4 := fun y : Aft w2 => y.cell hbl4 hc4
         refine xD (by kernel_rfl) (by kernel_rfl) ?_
         repeat (go_big_quiet_step ((first | (go_at_call 64; exact Aft.same (Hcall.out _)) | (go_at_call 33; exact Aft.same (Hcall2.out _)))))
         refine wpQuiet_nil ?_
         rintro _ ⟨y, rfl⟩
         have hb3 := yH hb2 y.below
         generalize y.at_ = w3 at *
         go_wp2
         go_ret
         exact ⟨xQ hfin.out.symm, hb3⟩
       · have Hcall := Lib.hid hcall
         have Hcall2 := Lib.hid hcall2
         clear hcall hcall2
         go_wp2
         have hcL0 : (wr.alloc (Obj.cells #[Value.string k1, Value.int IntKind.i64 0, Value.bool true] 191)).cell? ⟨wr.heap.size, 0, none⟩ = some (.string k1) := cell_of_row _ _ _ _ _ (0, 0) (heap_alloc_new wr _)
         have hcL1 : (wr.alloc (Obj.cells #[Value.string k1, Value.int IntKind.i64 0, Value.bool true] 191)).cell? ⟨wr.heap.size, 1, none⟩ = some (.int .i64 0) := cell_of_row _ _ _ _ _ (0, 0) (heap_alloc_new wr _)
         have hcL2 : (wr.alloc (Obj.cells #[Value.string k1, Value.int IntKind.i64 0, Value.bool true] 191)).cell? ⟨wr.heap.size, 2, none⟩ = some (.bool true) := cell_of_row _ _ _ _ _ (0, 0) (heap_alloc_new wr _)
         have hpl : wr.heap.size < (wr.alloc (Obj.cells #[Value.string k1, Value.int IntKind.i64 0, Value.bool true] 191)).heap.size := by simp
         have hb2 : Below w.heap.size w (wr.alloc (Obj.cells #[Value.string k1, Value.int IntKind.i64 0, Value.bool true] 191)) := hb.alloc hb.size _
         obtain ⟨b', off', he, _, _, hc4, _, _⟩ := hr.edt hb2 (show k - 1 < es.length by omega)
         obtain ⟨rfl, rfl⟩ : b = b' ∧ off = off' := by simpa using he
         have hbl4 := Nat.lt_of_lt_of_le hbl hb2.size
         generalize wr.alloc (Obj.cells #[Value.string k1, Value.int IntKind.i64 0, Value.bool true] 191) = w2 at *
         generalize wr.heap.size = p at *
         have hA0 := fun y : Aft w2 => y.cell hpl hcL0
         have hA1 := fun y : Aft w2 => y.cell hpl hcL1
         have hA2 := fun y : Aft w2 => y.cell hpl hcL2
         have hA4 := fun y : Aft w2 => y.cell hbl4 hc4
         refine xD (by kernel_rfl) (by kernel_rfl) ?_
         repeat (go_big_quiet_step ((first | (go_at_call 64; exact Aft.same (Hcall.out _)) | (go_at_call 33; exact Aft.same (Hcall2.out _)))))
         refine wpQuiet_nil ?_
         rintro _ ⟨y, rfl⟩
         have hb3 := yH hb2 y.below
         generalize y.at_ = w3 at *
         go_wp2
         go_ret
         exact ⟨xQ hfin.out.symm, hb3⟩
      | true =>
       have hstep : Hid (∀ j, j < k + 1 → yZ (kv es) j = true ∧ vP es j = true) := fun j hj => by
        rcases Nat.lt_or_ge j k with h | h
        · exact Hall.out j h
        · have : j = k := by omega
          subst this; exact ⟨ho, hE1.out⟩
       rw [ho] at ht
       clear ho
       rcases hgood with rfl | ⟨rfl, rfl⟩
       · have Hcall := Lib.hid hcall
         have Hcall2 := Lib.hid hcall2
         clear hcall hcall2
         go_wp2
         have hcL0 : (wr.alloc (Obj.cells #[Value.string k1, Value.int IntKind.i64 v1, Value.bool false] 191)).cell? ⟨wr.heap.size, 0, none⟩ = some (.string k1) := cell_of_row _ _ _ _ _ (0, 0) (heap_alloc_new wr _)
         have hcL1 : (wr.alloc (Obj.cells #[Value.string k1, Value.int IntKind.i64 v1, Value.bool false] 191)).cell? ⟨wr.heap.size, 1, none⟩ = some (.int .i64 v1) := cell_of_row _ _ _ _ _ (0, 0) (heap_alloc_new wr _)
         have hcL2 : (wr.alloc (Obj.cells #[Value.string k1, Value.int IntKind.i64 v1, Value.bool false] 191)).cell? ⟨wr.heap.size, 2, none⟩ = some (.bool false) := cell_of_row _ _ _ _ _ (0, 0) (heap_alloc_new wr _)
         have hpl : wr.heap.size < (wr.alloc (Obj.cells #[Value.string k1, Value.int IntKind.i64 v1, Value.bool false] 191)).heap.size := by simp
         have hb2 : Below w.heap.size w (wr.alloc (Obj.cells #[Value.string k1, Value.int IntKind.i64 v1, Value.bool false] 191)) := hb.alloc hb.size _
         obtain ⟨b', off', he, _, _, hc4, _, _⟩ := hr.edt hb2 (show k - 1 < es.length by omega)
         obtain ⟨rfl, rfl⟩ : b = b' ∧ off = off' := by simpa using he
         have hbl4 := Nat.lt_of_lt_of_le hbl hb2.size
         generalize wr.alloc (Obj.cells #[Value.string k1, Value.int IntKind.i64 v1, Value.bool false] 191) = w2 at *
         generalize wr.heap.size = p at *
         have hA0 := fun y : Aft w2 => y.cell hpl hcL0
         have hA1 := fun y : Aft w2 => y.cell hpl hcL1
         have hA2 := fun y : Aft w2 => y.cell hpl hcL2
         have hA4 := fun y : Aft w2 => y.cell hbl4 hc4
         refine xD (by kernel_rfl) (by kernel_rfl) ?_
         repeat (go_big_quiet_step ((first | (go_at_call 64; exact Aft.same (Hcall.out _)) | (go_at_call 33; exact Aft.same (Hcall2.out _)))))
         refine wpQuiet_nil ?_
         rintro _ ⟨y, rfl⟩
         have hb3 := yH hb2 y.below
         generalize y.at_ = w3 at *
         go_wp2
         go_roundw
         case rel => exact ⟨k + 1, by omega, by go_num, hstep.out, hb3⟩
         case measure => simp [intOf]; omega
       · have Hcall := Lib.hid hcall
         have Hcall2 := Lib.hid hcall2
         clear hcall hcall2
         go_wp2
         have hcL0 : (wr.alloc (Obj.cells #[Value.string k1, Value.int IntKind.i64 0, Value.bool true] 191)).cell? ⟨wr.heap.size, 0, none⟩ = some (.string k1) := cell_of_row _ _ _ _ _ (0, 0) (heap_alloc_new wr _)
         have hcL1 : (wr.alloc (Obj.cells #[Value.string k1, Value.int IntKind.i64 0, Value.bool true] 191)).cell? ⟨wr.heap.size, 1, none⟩ = some (.int .i64 0) := cell_of_row _ _ _ _ _ (0, 0) (heap_alloc_new wr _)
         have hcL2 : (wr.alloc (Obj.cells #[Value.string k1, Value.int IntKind.i64 0, Value.bool true] 191)).cell? ⟨wr.heap.size, 2, none⟩ = some (.bool true) := cell_of_row _ _ _ _ _ (0, 0) (heap_alloc_new wr _)
         have hpl : wr.heap.size < (wr.alloc (Obj.cells #[Value.string k1, Value.int IntKind.i64 0, Value.bool true] 191)).heap.size := by simp
         have hb2 : Below w.heap.size w (wr.alloc (Obj.cells #[Value.string k1, Value.int IntKind.i64 0, Value.bool true] 191)) := hb.alloc hb.size _
         obtain ⟨b', off', he, _, _, hc4, _, _⟩ := hr.edt hb2 (show k - 1 < es.length by omega)
         obtain ⟨rfl, rfl⟩ : b = b' ∧ off = off' := by simpa using he
         have hbl4 := Nat.lt_of_lt_of_le hbl hb2.size
         generalize wr.alloc (Obj.cells #[Value.string k1, Value.int IntKind.i64 0, Value.bool true] 191) = w2 at *
         generalize wr.heap.size = p at *
         have hA0 := fun y : Aft w2 => y.cell hpl hcL0
         have hA1 := fun y : Aft w2 => y.cell hpl hcL1
         have hA2 := fun y : Aft w2 => y.cell hpl hcL2
         have hA4 := fun y : Aft w2 => y.cell hbl4 hc4
         refine xD (by kernel_rfl) (by kernel_rfl) ?_
         repeat (go_big_quiet_step ((first | (go_at_call 64; exact Aft.same (Hcall.out _)) | (go_at_call 33; exact Aft.same (Hcall2.out _)))))
         refine wpQuiet_nil ?_
         rintro _ ⟨y, rfl⟩
         have hb3 := yH hb2 y.below
         generalize y.at_ = w3 at *
         go_wp2
         go_roundw
         case rel => exact ⟨k + 1, by omega, by go_num, hstep.out, hb3⟩
         case measure => simp [intOf]; omega
  · have hfin : Hid (xw es = true) := aFT (by rw [Hlen.out]; exact hn6) (fun i hi => Hall.out i (by rw [Hlen.out] at hi; omega))
    go_wp2
    go_ret
    exact ⟨xQ hfin.out.symm, hb⟩
theorem aJP (a : ByteArray) (x : Int) (g : Bool) (w : World) : (method 396 191 (.agg #[.string a, .int .i64 x, .bool g]) "loop.example/g00737/impl.key").run Tryz.prog w = .ok (187, .agg #[.string a, .int .i64 x, .bool g]) w := by kernel_rfl
theorem aAv (key : ByteArray) (v : Int) (g : Bool) (w : World) :
 Calls Tryz.prog 187 #[.agg #[.string key, .int .i64 v, .bool g]] w fun e w' => e = .returned (.string key) ∧ Below w.heap.size w w' := by
 go_enter Tryz.func187, Tryz.ntmps187
 go_wp2
 go_ret
 exact ⟨rfl, (Below.refl _ _).alloc (Nat.le_refl _) _⟩
theorem aKs (es : List Edt) (k : Nat) (hke : k < es.length) (hs : es[k].key.size ≤ maxLen) (W : World) :
 Calls Tryz.prog 114 #[.string es[k].key] W fun e w' => e = .returned (.bool (nm es[k].key)) ∧ W = w' := aCj _ W hs
set_option maxHeartbeats 2000000 in
set_option maxRecDepth 100000 in
theorem aCu (A : Option Addr) (n c : Nat) (es : List Edt) (w : World) (hr : Rd w 3 A n (yD es)) (hm : n ≤ maxLen) (hks : ∀ e ∈ es, e.key.size ≤ maxLen) :
 Calls Tryz.prog 161 #[.slice A n c] w fun e w' => e = .returned (.bool (kK (kv es))) ∧ Below w.heap.size w w' := by
 unfold maxLen at hm
 have hlen := hr.elen
 have Hlen := Lib.hid hlen; clear hlen
 have hmeth := aJP
 go_enter Tryz.func161, Tryz.ntmps161
 go_wp2
 go_loopw [3, 7] (fun _ i wr => ∃ k : Nat, k ≤ n ∧ i = .int .i64 k ∧ (∀ j, j < k → yZ (kv es) j = true) ∧ Below w.heap.size w wr) (fun _ i _ => n - (intOf i).toNat)
 case atStart => exact ⟨0, Nat.zero_le _, rfl, fun j hj => absurd hj (by omega), Below.refl _ _⟩
 case round =>
  obtain ⟨k, hk, rfl, hall, hb⟩ := hrel
  have Hall := Lib.hid hall; clear hall
  by_cases hlt : k < n
  · have hke : k < es.length := by rw [Hlen.out]; exact hlt
    obtain ⟨b, off, rfl, hbl, hbl2, hc1, hc2, hc5⟩ := hr.edt hb hke
    have hcall := aKs es k hke (hks _ (List.getElem_mem hke))
    cases hw : nm es[k].key with
    | false =>
     have hfin : Hid (kK (kv es) = false) := aAW (by rw [qF]; exact hke) (aKC es k hke hw)
     rw [hw] at hcall
     have Hcall := Lib.hid hcall
     clear hw hcall
     go_wp2
     have hcL0 : (wr.alloc (Obj.cells #[Value.string es[k].key, Value.int IntKind.i64 es[k].val, Value.bool es[k].gone] 191)).cell? ⟨wr.heap.size, 0, none⟩ = some (.string es[k].key) := cell_of_row _ _ _ _ _ (0, 0) (heap_alloc_new wr _)
     have hcL1 : (wr.alloc (Obj.cells #[Value.string es[k].key, Value.int IntKind.i64 es[k].val, Value.bool es[k].gone] 191)).cell? ⟨wr.heap.size, 1, none⟩ = some (.int .i64 es[k].val) := cell_of_row _ _ _ _ _ (0, 0) (heap_alloc_new wr _)
     have hcL2 : (wr.alloc (Obj.cells #[Value.string es[k].key, Value.int IntKind.i64 es[k].val, Value.bool es[k].gone] 191)).cell? ⟨wr.heap.size, 2, none⟩ = some (.bool es[k].gone) := cell_of_row _ _ _ _ _ (0, 0) (heap_alloc_new wr _)
     have hpl : wr.heap.size < (wr.alloc (Obj.cells #[Value.string es[k].key, Value.int IntKind.i64 es[k].val, Value.bool es[k].gone] 191)).heap.size := by simp
     have hb2 : Below w.heap.size w (wr.alloc (Obj.cells #[Value.string es[k].key, Value.int IntKind.i64 es[k].val, Value.bool es[k].gone] 191)) := hb.alloc hb.size _
     generalize wr.alloc (Obj.cells #[Value.string es[k].key, Value.int IntKind.i64 es[k].val, Value.bool es[k].gone] 191) = w2 at *
     generalize wr.heap.size = p at *
     have hA0 := fun y : Aft w2 => y.cell hpl hcL0
     have hA1 := fun y : Aft w2 => y.cell hpl hcL1
     have hA2 := fun y : Aft w2 => y.cell hpl hcL2
     refine xD (by kernel_rfl) (by kernel_rfl) ?_
     repeat (go_big_quiet_step ((first | (go_at_call 187; exact Aft.call (aAv _ _ _ _)) | (go_at_call 114; exact Aft.same (Hcall.out _)))))
     refine wpQuiet_nil ?_
     rintro _ ⟨y, rfl⟩
     have hb3 := yH hb2 y.below
     generalize y.at_ = w3 at *
     go_wp2
     go_ret
     exact ⟨xQ hfin.out.symm, hb3⟩
    | true =>
    rw [hw] at hcall
    have Hcall := Lib.hid hcall
    clear hcall
    by_cases hk0 : k = 0
    · subst hk0
      have hstep : Hid (∀ j, j < 0 + 1 → yZ (kv es) j = true) := fun j hj => by
       have : j = 0 := by omega
       subst this; exact aG8 es hke hw
      clear hw
      simp only [Nat.zero_mul, Nat.add_zero] at hc1 hc2 hc5
      go_wp2
      have hcL0 : (wr.alloc (Obj.cells #[Value.string es[0].key, Value.int IntKind.i64 es[0].val, Value.bool es[0].gone] 191)).cell? ⟨wr.heap.size, 0, none⟩ = some (.string es[0].key) := cell_of_row _ _ _ _ _ (0, 0) (heap_alloc_new wr _)
      have hcL1 : (wr.alloc (Obj.cells #[Value.string es[0].key, Value.int IntKind.i64 es[0].val, Value.bool es[0].gone] 191)).cell? ⟨wr.heap.size, 1, none⟩ = some (.int .i64 es[0].val) := cell_of_row _ _ _ _ _ (0, 0) (heap_alloc_new wr _)
      have hcL2 : (wr.alloc (Obj.cells #[Value.string es[0].key, Value.int IntKind.i64 es[0].val, Value.bool es[0].gone] 191)).cell? ⟨wr.heap.size, 2, none⟩ = some (.bool es[0].gone) := cell_of_row _ _ _ _ _ (0, 0) (heap_alloc_new wr _)
      have hpl : wr.heap.size < (wr.alloc (Obj.cells #[Value.string es[0].key, Value.int IntKind.i64 es[0].val, Value.bool es[0].gone] 191)).heap.size := by simp
      have hb2 : Below w.heap.size w (wr.alloc (Obj.cells #[Value.string es[0].key, Value.int IntKind.i64 es[0].val, Value.bool es[0].gone] 191)) := hb.alloc hb.size _
      generalize wr.alloc (Obj.cells #[Value.string es[0].key, Value.int IntKind.i64 es[0].val, Value.bool es[0].gone] 191) = w2 at *
      generalize wr.heap.size = p at *
      have hA0 := fun y : Aft w2 => y.cell hpl hcL0
      have hA1 := fun y : Aft w2 => y.cell hpl hcL1
      have hA2 := fun y : Aft w2 => y.cell hpl hcL2
      refine xD (by kernel_rfl) (by kernel_rfl) ?_
      repeat (go_big_quiet_step ((first | (go_at_call 187; exact Aft.call (aAv _ _ _ _)) | (go_at_call 114; exact Aft.same (Hcall.out _)))))
      refine wpQuiet_nil ?_
      rintro _ ⟨y, rfl⟩
      have hb3 := yH hb2 y.below
      generalize y.at_ = w3 at *
      go_wp2
      go_roundw
      case rel => exact ⟨0 + 1, by omega, by go_num, hstep.out, hb3⟩
      case measure => simp [intOf]; omega
    · have hkp : 0 < k := by omega
      have hor := aIz es k hkp hke hw
      have ht : (!(Op.bytesLess (es[k - 1]'(by omega)).key.toList es[k].key.toList)) = !yZ (kv es) k := by rw [hor]; rfl
      have hi0 : 0 ≤ (k : Int) - 1 := by omega
      have hi1 : ((k : Int) - 1).toNat = k - 1 := by omega
      have hi2 : (0 : Int) < (k : Int) := by omega
      clear hk0 hor hw
      cases ho : yZ (kv es) k with
      | false =>
       have hfin : Hid (kK (kv es) = false) := aAW (by rw [qF]; exact hke) ho
       rw [ho] at ht
       clear ho
       go_wp2
       have hcL0 : (wr.alloc (Obj.cells #[Value.string es[k].key, Value.int IntKind.i64 es[k].val, Value.bool es[k].gone] 191)).cell? ⟨wr.heap.size, 0, none⟩ = some (.string es[k].key) := cell_of_row _ _ _ _ _ (0, 0) (heap_alloc_new wr _)
       have hcL1 : (wr.alloc (Obj.cells #[Value.string es[k].key, Value.int IntKind.i64 es[k].val, Value.bool es[k].gone] 191)).cell? ⟨wr.heap.size, 1, none⟩ = some (.int .i64 es[k].val) := cell_of_row _ _ _ _ _ (0, 0) (heap_alloc_new wr _)
       have hcL2 : (wr.alloc (Obj.cells #[Value.string es[k].key, Value.int IntKind.i64 es[k].val, Value.bool es[k].gone] 191)).cell? ⟨wr.heap.size, 2, none⟩ = some (.bool es[k].gone) := cell_of_row _ _ _ _ _ (0, 0) (heap_alloc_new wr _)
       have hpl : wr.heap.size < (wr.alloc (Obj.cells #[Value.string es[k].key, Value.int IntKind.i64 es[k].val, Value.bool es[k].gone] 191)).heap.size := by simp
       have hb2 : Below w.heap.size w (wr.alloc (Obj.cells #[Value.string es[k].key, Value.int IntKind.i64 es[k].val, Value.bool es[k].gone] 191)) := hb.alloc hb.size _
       obtain ⟨b', off', he, _, _, hc3, hc4, hc6⟩ := hr.edt hb2 (show k - 1 < es.length by omega)
       obtain ⟨rfl, rfl⟩ : b = b' ∧ off = off' := by simpa using he
       have hbl4 := Nat.lt_of_lt_of_le hbl hb2.size
       generalize wr.alloc (Obj.cells #[Value.string es[k].key, Value.int IntKind.i64 es[k].val, Value.bool es[k].gone] 191) = w2 at *
       generalize wr.heap.size = p at *
       have hA0 := fun y : Aft w2 => y.cell hpl hcL0
       have hA1 := fun y : Aft w2 => y.cell hpl hcL1
       have hA2 := fun y : Aft w2 => y.cell hpl hcL2
       have hA3 := fun y : Aft w2 => y.cell hbl4 hc3
       have hA4 := fun y : Aft w2 => y.cell hbl4 hc4
       have hA5 := fun y : Aft w2 => y.cell hbl4 hc6
       refine xD (by kernel_rfl) (by kernel_rfl) ?_
       repeat (go_big_quiet_step ((first | (go_at_call 187; exact Aft.call (aAv _ _ _ _)) | (go_at_call 114; exact Aft.same (Hcall.out _)))))
       refine wpQuiet_nil ?_
       rintro _ ⟨y, rfl⟩
       have hb3 := yH hb2 y.below
       generalize y.at_ = w3 at *
       go_wp2
       go_ret
       exact ⟨xQ hfin.out.symm, hb3⟩
      | true =>
       have hstep : Hid (∀ j, j < k + 1 → yZ (kv es) j = true) := fun j hj => by
        rcases Nat.lt_or_ge j k with h | h
        · exact Hall.out j h
        · have : j = k := by omega
          subst this; exact ho
       rw [ho] at ht
       clear ho
       go_wp2
       have hcL0 : (wr.alloc (Obj.cells #[Value.string es[k].key, Value.int IntKind.i64 es[k].val, Value.bool es[k].gone] 191)).cell? ⟨wr.heap.size, 0, none⟩ = some (.string es[k].key) := cell_of_row _ _ _ _ _ (0, 0) (heap_alloc_new wr _)
       have hcL1 : (wr.alloc (Obj.cells #[Value.string es[k].key, Value.int IntKind.i64 es[k].val, Value.bool es[k].gone] 191)).cell? ⟨wr.heap.size, 1, none⟩ = some (.int .i64 es[k].val) := cell_of_row _ _ _ _ _ (0, 0) (heap_alloc_new wr _)
       have hcL2 : (wr.alloc (Obj.cells #[Value.string es[k].key, Value.int IntKind.i64 es[k].val, Value.bool es[k].gone] 191)).cell? ⟨wr.heap.size, 2, none⟩ = some (.bool es[k].gone) := cell_of_row _ _ _ _ _ (0, 0) (heap_alloc_new wr _)
       have hpl : wr.heap.size < (wr.alloc (Obj.cells #[Value.string es[k].key, Value.int IntKind.i64 es[k].val, Value.bool es[k].gone] 191)).heap.size := by simp
       have hb2 : Below w.heap.size w (wr.alloc (Obj.cells #[Value.string es[k].key, Value.int IntKind.i64 es[k].val, Value.bool es[k].gone] 191)) := hb.alloc hb.size _
       obtain ⟨b', off', he, _, _, hc3, hc4, hc6⟩ := hr.edt hb2 (show k - 1 < es.length by omega)
       obtain ⟨rfl, rfl⟩ : b = b' ∧ off = off' := by simpa using he
       have hbl4 := Nat.lt_of_lt_of_le hbl hb2.size
       generalize wr.alloc (Obj.cells #[Value.string es[k].key, Value.int IntKind.i64 es[k].val, Value.bool es[k].gone] 191) = w2 at *
       generalize wr.heap.size = p at *
       have hA0 := fun y : Aft w2 => y.cell hpl hcL0
       have hA1 := fun y : Aft w2 => y.cell hpl hcL1
       have hA2 := fun y : Aft w2 => y.cell hpl hcL2
       have hA3 := fun y : Aft w2 => y.cell hbl4 hc3
       have hA4 := fun y : Aft w2 => y.cell hbl4 hc4
       have hA5 := fun y : Aft w2 => y.cell hbl4 hc6
       refine xD (by kernel_rfl) (by kernel_rfl) ?_
       repeat (go_big_quiet_step ((first | (go_at_call 187; exact Aft.call (aAv _ _ _ _)) | (go_at_call 114; exact Aft.same (Hcall.out _)))))
       refine wpQuiet_nil ?_
       rintro _ ⟨y, rfl⟩
       have hb3 := yH hb2 y.below
       generalize y.at_ = w3 at *
       go_wp2
       go_roundw
       case rel => exact ⟨k + 1, by omega, by go_num, hstep.out, hb3⟩
       case measure => simp [intOf]; omega
  · have hfin : Hid (kK (kv es) = true) := aD3 (fun i hi => Hall.out i (by rw [qF, Hlen.out] at hi; omega))
    go_wp2
    go_ret
    exact ⟨xQ hfin.out.symm, hb⟩
set_option maxHeartbeats 2000000 in
set_option maxRecDepth 100000 in
theorem aB5 (A : Option Addr) (n c : Nat) (es : List Edt) (w : World) (hr : Rd w 3 A n (yD es)) (hm : n ≤ maxLen) (hks : ∀ e ∈ es, e.key.size ≤ maxLen) :
 Calls Tryz.prog 142 #[.slice A n c] w fun e w' => e = .returned (.bool (xw es)) ∧ Below w.heap.size w w' := by
 have hm' := hm
 unfold maxLen at hm
 have hlen := hr.elen
 have Hlen := Lib.hid hlen; clear hlen
 by_cases hbig : 6 < n
 · have hfin : Hid (xw es = false) := aBJ (by rw [Hlen.out]; exact hbig)
   go_enter Tryz.func142, Tryz.ntmps142
   go_wp2
   go_ret
   exact ⟨xQ hfin.out.symm, Below.refl _ _⟩
 have hn6 : n ≤ 6 := by omega
 clear hbig
 cases ho : kK (kv es) with
 | false =>
  have hfin : Hid (xw es = false) := by show xw es = false; rw [xw, ho]; simp
  have hcall := aCu A n c es w hr hm' hks
  rw [ho] at hcall
  have Hcall := Lib.hid hcall
  clear ho hcall
  go_enter Tryz.func142, Tryz.ntmps142
  go_wp2_with (go_at_call 161; refine Hcall.out.mono ?_; rintro e w1 ⟨rfl, hb1⟩)
  go_ret
  exact ⟨xQ hfin.out.symm, hb1⟩
 | true =>
  have hcall := aCu A n c es w hr hm' hks
  rw [ho] at hcall
  have Hcall := Lib.hid hcall
  have Ho := Lib.hid ho
  clear ho hcall
  go_enter Tryz.func142, Tryz.ntmps142
  go_wp2_with (go_at_call 161; refine Hcall.out.mono ?_; rintro e w1 ⟨rfl, hb1⟩)
  go_loopw [15] (fun i wr => ∃ k : Nat, k ≤ n ∧ i = .int .i64 k ∧ (∀ j, j < k → vP es j = true) ∧ Below w.heap.size w wr) (fun i _ => n - (intOf i).toNat)
  case atStart => exact ⟨0, Nat.zero_le _, rfl, fun j hj => absurd hj (by omega), hb1⟩
  case round =>
   obtain ⟨k, hk, rfl, hall, hb⟩ := hrel
   have Hall := Lib.hid hall; clear hall
   by_cases hlt : k < n
   · have hke : k < es.length := by rw [Hlen.out]; exact hlt
     obtain ⟨b, off, rfl, hbl, hbl2, hc1, hc2, hc3⟩ := hr.edt hb hke
     have hE := aIC es k hke
     generalize es[k] = ek at *
     obtain ⟨k1, v1, g1⟩ := ek
     simp only at hc1 hc2 hc3 hE
     have hcall := fun W => aDp v1 W
     change ∀ W, Calls _ _ _ W fun e w' => e = .returned (.bool (aCY v1)) ∧ W = w' at hcall
     cases hv : aCY v1 with
     | false =>
      have hfin : Hid (xw es = false) := je hke (by rw [hE, hv]; rfl)
      rw [hv] at hcall
      have Hcall := Lib.hid hcall
      clear hv hcall hE
      go_wp2_with (go_at_call 145; refine (Hcall.out _).mono ?_; rintro e w1 ⟨rfl, rfl⟩)
      go_ret
      exact ⟨xQ hfin.out.symm, hb.alloc hb.size _⟩
     | true =>
      rw [hv] at hcall
      rcases aFQ g1 v1 with ⟨rfl, hne⟩ | hgood
      · have hfin : Hid (xw es = false) := je hke (by rw [hE, hv, decide_eq_false hne]; rfl)
        have hne2 : (v1 != 0) = true := by simpa using hne
        have Hcall := Lib.hid hcall
        clear hv hcall hE
        go_wp2_with (go_at_call 145; refine (Hcall.out _).mono ?_; rintro e w1 ⟨rfl, rfl⟩)
        go_ret
        exact ⟨xQ hfin.out.symm, hb.alloc hb.size _⟩
      have hE1 : Hid (vP es k = true) := by
       rcases hgood with rfl | ⟨rfl, rfl⟩
       · show vP es k = true; rw [hE, hv]; rfl
       · show vP es k = true; rw [hE, hv]; rfl
      have hstep : Hid (∀ j, j < k + 1 → vP es j = true) := fun j hj => by
       rcases Nat.lt_or_ge j k with h | h
       · exact Hall.out j h
       · have : j = k := by omega
         subst this; exact hE1.out
      clear hE hv
      rcases hgood with rfl | ⟨rfl, rfl⟩
      · have Hcall := Lib.hid hcall
        clear hcall
        go_wp2_with (go_at_call 145; refine (Hcall.out _).mono ?_; rintro e w1 ⟨rfl, rfl⟩)
        go_roundw
        case rel => exact ⟨k + 1, by omega, by go_num, hstep.out, hb.alloc hb.size _⟩
        case measure => simp [intOf]; omega
      · have Hcall := Lib.hid hcall
        clear hcall
        go_wp2_with (go_at_call 145; refine (Hcall.out _).mono ?_; rintro e w1 ⟨rfl, rfl⟩)
        go_roundw
        case rel => exact ⟨k + 1, by omega, by go_num, hstep.out, hb.alloc hb.size _⟩
        case measure => simp [intOf]; omega
   · have hfin : Hid (xw es = true) := aFT (by rw [Hlen.out]; exact hn6) (fun i hi => ⟨aGK Ho.out (by rw [qF]; exact hi), Hall.out i (by rw [Hlen.out] at hi; omega)⟩)
     go_wp2
     go_ret
     exact ⟨xQ hfin.out.symm, hb⟩
end Go.Proofs.YtkfllfhcjegfoaaGreatDoor
namespace Go.Proofs.YtkfllfhcjegfoaaGreatDoor.AM
open Go Go.RowKit
abbrev okN (s : ByteArray) : Bool := Nm.nameOK s.data.toList
def qo (r : Rf) : Bool := okN r.name && (decide (1 ≤ r.ver ∧ r.ver ≤ 1000000) && (if r.gone = true then decide (r.head = 0) else decide (1 ≤ r.head ∧ r.head ≤ 60)))
def rAt : List Rf → ByteArray → Nat → Int
 | [], _, _ => -1
 | y :: l, x, k => if y.name = x then k else rAt l x (k + 1)
theorem aH5 {l : List Rf} {x : ByteArray} {k : Nat} (h : k < l.length) : rAt (l.drop k) x k = if l[k].name = x then (k : Int) else rAt (l.drop (k + 1)) x (k + 1) := by
 rw [List.drop_eq_getElem_cons h, rAt]
theorem aBS : ∀ (l : List Rf) (x : ByteArray) (k : Nat), (rAt l x k = -1 ∧ ∀ i (h : i < l.length), l[i].name ≠ x) ∨ ∃ j, ∃ h : j < l.length, rAt l x k = ((k + j : Nat) : Int) ∧ l[j].name = x ∧ ∀ i (hi : i < j), (l[i]'(by omega)).name ≠ x
 | [], x, k => .inl ⟨rfl, fun i h => by simp at h⟩
 | y :: l, x, k => by
  unfold rAt
  by_cases e : y.name = x
  · rw [if_pos e]; exact .inr ⟨0, by simp, by simp, e, fun i h => by omega⟩
  · rw [if_neg e]
    rcases aBS l x (k + 1) with ⟨h1, h2⟩ | ⟨j, hj, h1, h2, h3⟩
    · refine .inl ⟨h1, fun i h => ?_⟩
      cases i with
      | zero => exact e
      | succ i => exact h2 i (by simpa using h)
    · refine .inr ⟨j + 1, by simpa using hj, by rw [h1]; omega, h2, fun i h => ?_⟩
      cases i with
      | zero => exact e
      | succ i => exact h3 i (by omega)
theorem aIx {l : List Rf} {i : Nat} (h : i < l.length) : rAt l l[i].name 0 = (i : Int) ↔ rAt (l.take i) l[i].name 0 < 0 := by
 rcases aBS (l.take i) l[i].name 0 with ⟨h1, h2⟩ | ⟨j, hj, h1, h2, h3⟩
 · rw [h1]
   refine ⟨fun _ => by omega, fun _ => ?_⟩
   rcases aBS l l[i].name 0 with ⟨k1, k2⟩ | ⟨j, hj, k1, k2, k3⟩
   · exact absurd rfl (k2 i h)
   · rw [k1]
     rcases Nat.lt_trichotomy j i with q | q | q
     · exact absurd (by rw [List.getElem_take]; exact k2) (h2 j (by simp; omega))
     · omega
     · exact absurd rfl (k3 i q)
 · rw [h1]
   have hji : j < i := by simp at hj; omega
   refine ⟨fun e => ?_, fun e => by omega⟩
   rcases aBS l l[i].name 0 with ⟨k1, k2⟩ | ⟨j', hj', k1, k2, k3⟩
   · omega
   · rw [k1] at e
     have : j' = i := by omega
     subst this
     exact absurd (by rw [← h2, List.getElem_take]) (k3 j hji)
theorem aMy {l : List Rf} {x : ByteArray} (h : 0 ≤ rAt l x 0) : ∃ j, ∃ hj : j < l.length, rAt l x 0 = (j : Int) ∧ l[j].name = x := by
 rcases aBS l x 0 with ⟨h1, _⟩ | ⟨j, hj, h1, h2, _⟩
 · omega
 · exact ⟨j, hj, by rw [h1]; simp, h2⟩
def aGD (l : List Rf) (i : Nat) : Prop := ∃ h : i < l.length, qo l[i] = true ∧ rAt (l.take i) l[i].name 0 < 0
open Classical in
noncomputable def aA4 (l : List Rf) : Bool := decide (l.length ≤ 8 ∧ ∀ i, i < l.length → aGD l i)
theorem aBy {l : List Rf} (h : ¬ (l.length ≤ 8 ∧ ∀ i, i < l.length → aGD l i)) : aA4 l = false := by unfold aA4; simpa using h
theorem aKS {l : List Rf} (h : l.length ≤ 8 ∧ ∀ i, i < l.length → aGD l i) : aA4 l = true := by unfold aA4; simpa using h
theorem aQm : ∀ vs w, (callFunc 64 vs).run Tryz.prog w = .ok (.enter 64 vs) w := uH Tryz.func64 (by kernel_rfl) (by kernel_rfl)
theorem aQG : ∀ vs w, (callFunc 114 vs).run Tryz.prog w = .ok (.enter 114 vs) w := uH Tryz.func114 (by kernel_rfl) (by kernel_rfl)
theorem xE {s : ByteArray} {b : Bool} (hs : s.size ≤ maxLen) (hb : okN s = b) : AC Tryz.prog 64 [.v (.string s)] ⟨.v (.bool b), []⟩ :=
 hb ▸ kV aQm rfl fun w S0 vs hS hv => by
  obtain ⟨u', rfl, h2⟩ := wL hv
  rw [aB7 h2]
  exact (aBn s w hs).mono fun e w' ⟨h1, h2⟩ => ⟨h1, by subst h2; exact Below.refl _ _⟩
theorem xU {s : ByteArray} {b : Bool} (hs : s.size ≤ maxLen) (hb : okN s = b) : AC Tryz.prog 114 [.v (.string s)] ⟨.v (.bool b), []⟩ :=
 hb ▸ kV aQG rfl fun w S0 vs hS hv => by
  obtain ⟨u', rfl, h2⟩ := wL hv
  rw [aB7 h2]
  exact (aCj s w hs).mono fun e w' ⟨h1, h2⟩ => ⟨h1, by subst h2; exact Below.refl _ _⟩
attribute [local irreducible] xM xN xW yF yL Pre ACG
theorem uF {x : Int} (h : 1 ≤ x) (h' : x ≤ 60) : AC Tryz.prog 131 [.v (.int .i64 x)] ⟨.v (.bool true), []⟩ := by
 refine qrf Tryz.func131 Tryz.ntmps131 Tryz.results131 ?_; conv => whnf
 repeat ((refine qz ?_; conv => whnf))
 exact xA rfl trivial
theorem j4 {x : Int} (h : ¬ (1 ≤ x ∧ x ≤ 60)) : AC Tryz.prog 131 [.v (.int .i64 x)] ⟨.v (.bool false), []⟩ := by
 by_cases h1 : 1 ≤ x
 · refine qrf Tryz.func131 Tryz.ntmps131 Tryz.results131 ?_; conv => whnf
   repeat ((refine qz ?_; conv => whnf))
   exact xA rfl trivial
 · refine qrf Tryz.func131 Tryz.ntmps131 Tryz.results131 ?_; conv => whnf
   repeat ((refine qz ?_; conv => whnf))
   exact xA rfl trivial
theorem aIQ {l : List Rf} {x : ByteArray} (hm : l.length ≤ maxLen) : AC Tryz.prog 66 [.lst 4 (l.map zH), .v (.string x)] ⟨.v (.int .i64 (rAt l x 0)), []⟩ := by
 unfold maxLen at hm
 refine qrf Tryz.func66 Tryz.ntmps66 Tryz.results66 ?_; conv => whnf
 refine xX (ι := { k : Nat // k ≤ l.length ∧ rAt (l.drop k) x k = rAt l x 0 }) (fun k => ⟨[(0, .lst 4 (l.map zH)), (1, .v (.string x)), (5, .v (.int .i64 (k.1 : Int)))], []⟩) (fun k => l.length - k.1) ⟨0, Nat.zero_le _, rfl⟩ (by exact qle) ?_
 rintro ⟨k, hk, hd⟩
 dsimp only at hk hd ⊢
 conv => whnf
 by_cases hlt : k < l.length
 · rw [aH5 hlt] at hd
   by_cases he : l[k].name = x
   · rw [if_pos he] at hd
     rw [← hd]
     repeat ((first | refine qz ?_ | refine qp (xB (yJ he) rfl rfl rfl) ?_); conv => whnf)
     exact xA rfl trivial
   · rw [if_neg he] at hd
     repeat ((first | refine qz ?_ | refine qp (xB (yo he) rfl rfl rfl) ?_); conv => whnf)
     exact ⟨⟨k + 1, hlt, hd⟩, by exact qle, by simp; omega⟩
 · rw [← hd, List.drop_eq_nil_of_le (by omega)]
   repeat ((refine qz ?_; conv => whnf))
   exact xA rfl trivial
theorem aGx {r : Rf} {x : ByteArray} {b : Bool} (hb : decide (r.name = x) = b) : AC Tryz.prog 133 [zH r, .ptr (.v (.string x))] ⟨.v (.bool b), []⟩ := by
 by_cases h : r.name = x
 · rw [← hb, decide_eq_true h]
   refine qrf Tryz.func133 Tryz.ntmps133 Tryz.results133 ?_; conv => whnf
   repeat ((first | refine qz ?_ | refine qp (xB (yJ h) rfl rfl rfl) ?_); conv => whnf)
   exact xA rfl trivial
 · rw [← hb, decide_eq_false h]
   refine qrf Tryz.func133 Tryz.ntmps133 Tryz.results133 ?_; conv => whnf
   repeat ((first | refine qz ?_ | refine qp (xB (yo h) rfl rfl rfl) ?_); conv => whnf)
   exact xA rfl trivial
theorem aJ5 {l : List Rf} {x : ByteArray} (hm : l.length ≤ maxLen) : AC Tryz.prog 132 [.lst 4 (l.map zH), .fn 133 [] [.ptr (.v (.string x))]] ⟨.v (.int .i64 (rAt l x 0)), []⟩ := by
 unfold maxLen at hm
 refine qrf Tryz.func132 Tryz.ntmps132 Tryz.results132 ?_; conv => whnf
 repeat ((refine qz ?_; conv => whnf))
 refine xX (ι := { k : Nat // k ≤ l.length ∧ rAt (l.drop k) x k = rAt l x 0 }) (fun k => ⟨[(0, .lst 4 (l.map zH)), (1, .fn 133 [] [.ptr (.v (.string x))]), (7, .v (.int .i64 (l.length : Int))), (8, .v (.int .i64 (k.1 : Int)))], []⟩) (fun k => l.length - k.1) ⟨0, Nat.zero_le _, rfl⟩ (by exact qle) ?_
 rintro ⟨k, hk, hd⟩
 dsimp only at hk hd ⊢
 conv => whnf
 by_cases hlt : k < l.length
 · rw [aH5 hlt] at hd
   by_cases he : l[k].name = x
   · rw [if_pos he] at hd
     rw [← hd]
     repeat ((first | refine qz ?_ | refine qr (aAz (aGx (r := l[k]) (decide_eq_true he)) rfl rfl (.inl rfl) trivial rfl rfl) ?_); conv => whnf)
     exact xA rfl trivial
   · rw [if_neg he] at hd
     repeat ((first | refine qz ?_ | refine qr (aAz (aGx (r := l[k]) (decide_eq_false he)) rfl rfl (.inl rfl) trivial rfl rfl) ?_); conv => whnf)
     exact ⟨⟨k + 1, hlt, hd⟩, by exact qle, by simp; omega⟩
 · rw [← hd, List.drop_eq_nil_of_le (by omega)]
   repeat ((refine qz ?_; conv => whnf))
   exact xA rfl trivial
theorem aCm {l : List Rf} {x : ByteArray} (hm : l.length ≤ maxLen) : AC Tryz.prog 110 [.lst 4 (l.map zH), .v (.string x)] ⟨.v (.int .i64 (rAt l x 0)), []⟩ := by
 refine qrf Tryz.func110 Tryz.ntmps110 Tryz.results110 ?_; conv => whnf
 repeat ((first | refine qz ?_ | refine qr (aH0 (y := .v _) rfl rfl rfl rfl) ?_); conv => whnf)
 refine qr (aFw [] (aJ5 hm) rfl rfl trivial rfl rfl trivial rfl rfl rfl (.inr ⟨⟨by simp [yu], aGH⟩, by simp⟩) rfl) ?_
 conv => whnf
 repeat ((refine qz ?_; conv => whnf))
 exact xA rfl trivial
theorem aMm {r : Rf} (h : okN r.name = false) : qo r = false := by simp only [qo, h, Bool.false_and]
theorem aMQ {r : Rf} (h : ¬ (1 ≤ r.ver ∧ r.ver ≤ 1000000)) : qo r = false := by simp only [qo, decide_eq_false h, Bool.false_and, Bool.and_false]
theorem aMh {r : Rf} (hn : okN r.name = true) (hv : 1 ≤ r.ver ∧ r.ver ≤ 1000000) (hg : r.gone = true) : qo r = decide (r.head = 0) := by simp only [qo, hn, hg, decide_eq_true hv, Bool.true_and, if_true]
theorem aMv {r : Rf} (hn : okN r.name = true) (hv : 1 ≤ r.ver ∧ r.ver ≤ 1000000) (hg : r.gone = false) : qo r = decide (1 ≤ r.head ∧ r.head ≤ 60) := by
 simp only [qo, hn, hg, decide_eq_true hv, Bool.true_and]; rfl
theorem aON {r : Rf} (hs : r.name.size ≤ maxLen) : AC Tryz.prog 109 [zH r] ⟨.v (.bool (qo r)), []⟩ := by
 cases hn : okN r.name with
 | false =>
  rw [aMm hn]
  refine qrf Tryz.func109 Tryz.ntmps109 Tryz.results109 ?_; conv => whnf
  repeat ((first | refine qz ?_ | refine qc (xU hs hn) ?_); conv => whnf)
  exact xA rfl trivial
 | true =>
  by_cases hv : 1 ≤ r.ver ∧ r.ver ≤ 1000000
  case neg =>
   rw [aMQ hv]
   by_cases h1 : 1 ≤ r.ver
   · have h2 : ¬ r.ver ≤ 1000000 := fun e => hv ⟨h1, e⟩
     refine qrf Tryz.func109 Tryz.ntmps109 Tryz.results109 ?_; conv => whnf
     repeat ((first | refine qz ?_ | refine qc (xU hs hn) ?_); conv => whnf)
     exact xA rfl trivial
   · refine qrf Tryz.func109 Tryz.ntmps109 Tryz.results109 ?_; conv => whnf
     repeat ((first | refine qz ?_ | refine qc (xU hs hn) ?_); conv => whnf)
     exact xA rfl trivial
  obtain ⟨v1, v2⟩ := id hv
  cases hg : r.gone with
  | true =>
   rw [aMh hn hv hg]
   by_cases h0 : r.head = 0
   · rw [decide_eq_true h0]
     refine qrf Tryz.func109 Tryz.ntmps109 Tryz.results109 ?_; conv => whnf
     repeat (first | (refine qz ?_; conv => whnf) | (refine qc (xU hs hn) ?_; conv => whnf) | (rw [hg]; conv => whnf))
     exact xA rfl trivial
   · rw [decide_eq_false h0]
     refine qrf Tryz.func109 Tryz.ntmps109 Tryz.results109 ?_; conv => whnf
     repeat (first | (refine qz ?_; conv => whnf) | (refine qc (xU hs hn) ?_; conv => whnf) | (rw [hg]; conv => whnf))
     exact xA rfl trivial
  | false =>
   rw [aMv hn hv hg]
   by_cases h0 : 1 ≤ r.head ∧ r.head ≤ 60
   · rw [decide_eq_true h0]
     refine qrf Tryz.func109 Tryz.ntmps109 Tryz.results109 ?_; conv => whnf
     repeat (first | (refine qz ?_; conv => whnf) | (refine qc (xU hs hn) ?_; conv => whnf) | (rw [hg]; conv => whnf) | (refine qc (uF h0.1 h0.2) ?_; conv => whnf))
     exact xA rfl trivial
   · rw [decide_eq_false h0]
     refine qrf Tryz.func109 Tryz.ntmps109 Tryz.results109 ?_; conv => whnf
     repeat (first | (refine qz ?_; conv => whnf) | (refine qc (xU hs hn) ?_; conv => whnf) | (rw [hg]; conv => whnf) | (refine qc (j4 h0) ?_; conv => whnf))
     exact xA rfl trivial
theorem aLV {l : List Rf} (hm : l.length ≤ maxLen) (hk : ∀ e ∈ l, e.name.size ≤ maxLen) : AC Tryz.prog 77 [.lst 4 (l.map zH)] ⟨.v (.bool (aA4 l)), []⟩ := by
 have hm' := hm
 unfold maxLen at hm'
 by_cases hin : l.length ≤ 8
 case neg =>
  rw [aBy (fun h => hin h.1)]
  refine qrf Tryz.func77 Tryz.ntmps77 Tryz.results77 ?_; conv => whnf
  repeat ((refine qz ?_; conv => whnf))
  exact xA rfl trivial
 refine qrf Tryz.func77 Tryz.ntmps77 Tryz.results77 ?_; conv => whnf
 repeat ((refine qz ?_; conv => whnf))
 refine xX (ι := { k : Nat // k ≤ l.length ∧ ∀ i, i < k → aGD l i }) (fun k => ⟨[(0, .lst 4 (l.map zH)), (8, .lst 4 (l.map zH)), (9, .v (.int .i64 (l.length : Int))), (10, .v (.int .i64 (k.1 : Int)))], []⟩) (fun k => l.length - k.1) ⟨0, Nat.zero_le _, fun i h => by omega⟩ (by exact qle) ?_
 rintro ⟨k, hk', hd⟩
 dsimp only at hk' hd ⊢
 conv => whnf
 by_cases hlt : k < l.length
 case neg =>
  rw [aKS ⟨hin, fun i hi => hd i (by omega)⟩]
  repeat ((refine qz ?_; conv => whnf))
  exact xA rfl trivial
 have hsz := hk _ (List.getElem_mem hlt)
 have hac := aON hsz
 have hpl := aCm (l := l.take k) (x := l[k].name) (by unfold maxLen; simp; omega)
 cases hb : qo l[k] with
 | false =>
  rw [hb] at hac
  rw [aBy (fun h => by obtain ⟨_, q, _⟩ := h.2 k hlt; rw [hb] at q; cases q)]
  repeat ((first | refine qz ?_ | refine qc (hac) ?_ | refine qst ?_ | refine qdr ?_); conv => whnf)
  exact xA rfl trivial
 | true =>
  rw [hb] at hac
  by_cases hp : rAt (l.take k) l[k].name 0 < 0
  · repeat ((first | refine qz ?_ | refine qc (hac) ?_ | refine qst ?_ | refine qdr ?_ | refine qp (aBI (h := k) (xs := l) (f := zH) (by omega) rfl rfl rfl) ?_ | refine qc (hpl) ?_); conv => whnf)
    exact ⟨⟨k + 1, hlt, fun i hi => by
     rcases Nat.lt_or_ge i k with h | h
     · exact hd i h
     · have : i = k := by omega
       subst this; exact ⟨hlt, hb, hp⟩⟩, by exact qle, by simp; omega⟩
  · rw [aBy (fun h => by obtain ⟨_, _, q⟩ := h.2 k hlt; exact hp q)]
    repeat ((first | refine qz ?_ | refine qc (hac) ?_ | refine qst ?_ | refine qdr ?_ | refine qp (aBI (h := k) (xs := l) (f := zH) (by omega) rfl rfl rfl) ?_ | refine qc (hpl) ?_); conv => whnf)
    exact xA rfl trivial
end Go.Proofs.YtkfllfhcjegfoaaGreatDoor.AM
namespace Go.Proofs.YtkfllfhcjegfoaaGreatDoor.AM
open Go Go.RowKit
theorem aJz : ∀ vs w, (callFunc 101 vs).run Tryz.prog w = .ok (.enter 101 vs) w := uH Tryz.func101 (by kernel_rfl) (by kernel_rfl)
theorem xu {es : List Edt} {b : Bool} (hb : xw es = b) (hm : es.length ≤ maxLen) (hk : ∀ e ∈ es, e.key.size ≤ maxLen) : AC Tryz.prog 101 [.lst 3 (es.map xg)] ⟨.v (.bool b), []⟩ :=
 hb ▸ kV aJz rfl fun w S0 vs hS hv => by
  obtain ⟨u, rfl, h1⟩ := wL hv
  obtain ⟨A, c, rfl, _, _, hr⟩ := aAC hS h1
  exact aJA A es.length c es w hr hm hk
theorem aGG : ∀ vs w, (callFunc 142 vs).run Tryz.prog w = .ok (.enter 142 vs) w := uH Tryz.func142 (by kernel_rfl) (by kernel_rfl)
theorem aCh {es : List Edt} {b : Bool} (hb : xw es = b) (hm : es.length ≤ maxLen) (hk : ∀ e ∈ es, e.key.size ≤ maxLen) : AC Tryz.prog 142 [.lst 3 (es.map xg)] ⟨.v (.bool b), []⟩ :=
 hb ▸ kV aGG rfl fun w S0 vs hS hv => by
  obtain ⟨u, rfl, h1⟩ := wL hv
  obtain ⟨A, c, rfl, _, _, hr⟩ := aAC hS h1
  exact aB5 A es.length c es w hr hm hk
theorem wE {P : Program} {t : TypeId} {x y : Operand} {k : IntKind} {a b : Int} : zk P .eql t x y (.int k a) (.int k b) (.bool (decide (a = b))) := by
 by_cases h : a = b
 · rw [decide_eq_true h]; exact aFG h
 · rw [decide_eq_false h]; exact aFY h
theorem vB {P : Program} {t : TypeId} {x y : Operand} {a b : ByteArray} : zk P .eql t x y (.string a) (.string b) (.bool (decide (a = b))) := by
 by_cases h : a = b
 · rw [decide_eq_true h]; exact yJ h
 · rw [decide_eq_false h]; exact yo h
abbrev eB : ByteArray := ⟨#[]⟩
def szO (o : Opr) (l : Int) : Int := if l - o.name.size < 0 then -1 else if l - o.name.size - o.key.size < 0 then -1 else if szL xSz o.edits (l - o.name.size - o.key.size) < 0 then -1 else szL xSz o.edits (l - o.name.size - o.key.size)
def opB (o : Opr) : Bool :=
 okN o.name && (if o.kind = 1 ∨ o.kind = 4 then decide (1 ≤ o.frm ∧ o.frm ≤ 60) && (decide (o.key = eB) && decide (o.edits.length = 0))
  else if o.kind = 3 then decide (0 ≤ o.frm ∧ o.frm ≤ 60) && (decide (o.key = eB) && xw o.edits)
  else if o.kind = 5 then decide (o.frm = 0) && (okN o.key && decide (o.edits.length = 0))
  else if o.kind = 2 ∨ o.kind = 6 then decide (o.frm = 0) && (decide (o.key = eB) && decide (o.edits.length = 0))
  else false)
theorem aEC {es : List Edt} (h : es.length = 0) : xw es = true := by
 have := List.eq_nil_of_length_eq_zero h
 subst this; rfl
attribute [local irreducible] xM xN xW yF yL Pre ACG
theorem aP1 {o : Opr} {l : Int} (ho : o.ok maxLen) (h0 : 0 ≤ l) (h1 : l ≤ 1048576) : AC Tryz.prog 58 [jl o, .v (.int .i64 l)] ⟨.v (.int .i64 (szO o l)), []⟩ := by
 obtain ⟨q1, q2, q3, q4⟩ := ho
 have q1' := q1
 have q2' := q2
 unfold maxLen at q1' q2'
 unfold szO
 by_cases ha : l - o.name.size < 0
 · rw [if_pos ha]
   refine qrf Tryz.func58 Tryz.ntmps58 Tryz.results58 ?_; conv => whnf
   repeat ((first | refine qz ?_ | refine qst ?_); conv => whnf)
   exact xA rfl trivial
 rw [if_neg ha]
 by_cases hb : l - o.name.size - o.key.size < 0
 · rw [if_pos hb]
   refine qrf Tryz.func58 Tryz.ntmps58 Tryz.results58 ?_; conv => whnf
   repeat ((first | refine qz ?_ | refine qst ?_); conv => whnf)
   exact xA rfl trivial
 rw [if_neg hb]
 have hac := aFF (l := l - o.name.size - o.key.size) q3 q4 (by omega) (by omega)
 by_cases hn : szL xSz o.edits (l - o.name.size - o.key.size) < 0
 · rw [if_pos hn]
   refine qrf Tryz.func58 Tryz.ntmps58 Tryz.results58 ?_; conv => whnf
   repeat ((first | refine qz ?_ | refine qc (hac) ?_ | refine qst ?_); conv => whnf)
   exact xA rfl trivial
 · rw [if_neg hn]
   refine qrf Tryz.func58 Tryz.ntmps58 Tryz.results58 ?_; conv => whnf
   repeat ((first | refine qz ?_ | refine qc (hac) ?_ | refine qst ?_); conv => whnf)
   exact xA rfl trivial
theorem aPu {o : Opr} (hm : o.edits.length ≤ 1048576) : AC Tryz.prog 74 [jl o] ⟨jl o, []⟩ := by
 refine qrf Tryz.func74 Tryz.ntmps74 Tryz.results74 ?_; conv => whnf
 repeat (first | (refine qz ?_; conv => whnf) | (refine qc (aEa hm) ?_; conv => whnf) | (refine qr (wQ rfl rfl rfl rfl rfl rfl rfl rfl) ?_; conv => whnf) | (refine qr (xS rfl rfl rfl rfl rfl (by conv => lhs; whnf) rfl) ?_; conv => whnf))
 exact uX (x := jl o) rfl rfl rfl rfl trivial
theorem aPw {o : Opr} (hm : o.edits.length ≤ maxLen) : AC Tryz.prog 87 [jl o, jl o] ⟨.v (.bool true), []⟩ := by
 refine qrf Tryz.func87 Tryz.ntmps87 Tryz.results87 ?_; conv => whnf
 repeat ((first | refine qp (xB (z8 rfl) rfl rfl rfl) ?_ | refine qp (xB (kT rfl) rfl rfl rfl) ?_ | refine qz ?_ | refine qc (aFZ hm) ?_); conv => whnf)
 exact xA rfl trivial
end Go.Proofs.YtkfllfhcjegfoaaGreatDoor.AM
namespace Go.Proofs.YtkfllfhcjegfoaaGreatDoor.AM
open Go Go.RowKit
abbrev sSz (s : ByteArray) : Nat := s.size
def szR (r : Rst) (l : Int) : Int := if szL sSz r.keys l < 0 then -1 else if szL eSz r.map (szL sSz r.keys l) < 0 then -1 else szL eSz r.map (szL sSz r.keys l)
attribute [local irreducible] xM xN xW yF yL Pre ACG
theorem aHi {es : List ByteArray} {l : Int} (hm : es.length ≤ maxLen) (hk : ∀ e ∈ es, e.size ≤ maxLen) (h0 : 0 ≤ l) (h1 : l ≤ 1048576) : AC Tryz.prog 93 [.lst 1 (es.map strA), .v (.int .i64 l)] ⟨.v (.int .i64 (szL sSz es l)), []⟩ := by
 unfold maxLen at hm hk
 by_cases hn : l - es.length < 0
 · rw [szL, if_pos hn]
   refine qrf Tryz.func93 Tryz.ntmps93 Tryz.results93 ?_; conv => whnf
   repeat ((refine qz ?_; conv => whnf))
   exact xA rfl trivial
 · rw [szL, if_neg hn]
   refine qrf Tryz.func93 Tryz.ntmps93 Tryz.results93 ?_; conv => whnf
   repeat ((refine qz ?_; conv => whnf))
   refine xX (ι := { p : Nat × Int // p.1 ≤ es.length ∧ 0 ≤ p.2 ∧ p.2 ≤ l ∧ szF sSz (es.drop p.1) p.2 = szF sSz es (l - es.length) }) (fun p => ⟨[(0, .lst 1 (es.map strA)), (1, .v (.int .i64 p.1.2)), (5, .v (.int .i64 (p.1.1 : Int)))], []⟩) (fun p => es.length - p.1.1) ⟨(0, l - es.length), by simp, by omega, by omega, rfl⟩ (by exact qle) ?_
   rintro ⟨⟨k, cur⟩, hkl, hc0, hc1, hsz⟩
   simp only at hkl hc0 hc1 hsz ⊢
   conv => whnf
   by_cases hlt : k < es.length
   · have hd := aC1 (g := sSz) (l := cur) hlt
     rw [hsz] at hd
     have hkk := hk _ (List.getElem_mem hlt)
     by_cases hneg : cur - (es[k]).size < 0
     · rw [if_pos hneg] at hd
       rw [hd]
       repeat ((refine qz ?_; conv => whnf))
       exact xA rfl trivial
     · rw [if_neg hneg] at hd
       repeat ((refine qz ?_; conv => whnf))
       exact ⟨⟨(k + 1, cur - (es[k]).size), by simp; omega, by omega, by omega, hd.symm⟩, by exact qle, by simp; omega⟩
   · have hkk : k = es.length := by omega
     rw [hkk, List.drop_length] at hsz
     rw [← hsz]
     repeat ((refine qz ?_; conv => whnf))
     exact xA rfl trivial
theorem aIf {l : List ByteArray} (hm : l.length ≤ 1048576) : AC Tryz.prog 107 [.lst 1 (l.map strA)] ⟨.own 0, [⟨9, 1, l.map strA⟩]⟩ := by
 refine qrf Tryz.func107 Tryz.ntmps107 Tryz.results107 ?_; conv => whnf
 repeat (first | (refine qz ?_; conv => whnf) | (refine qr (jF (n := l.length) (by omega) (by omega) (by simp; rfl) (by simp; rfl) rfl rfl) ?_; conv => whnf))
 have hrow : List.replicate l.length zS = (l.take 0 ++ List.replicate (l.length - 0) ByteArray.empty).map strA := by simp [strA]
 refine xX (ι := { k : Nat // k ≤ l.length }) (fun k => ⟨[(0, .lst 1 (l.map strA)), (3, .own 8), (4, .v (.int .i64 (k.1 : Int)))], [(8, ⟨9, 1, (l.take k.1 ++ List.replicate (l.length - k.1) ByteArray.empty).map strA⟩)]⟩) (fun k => l.length - k.1) ⟨0, Nat.zero_le _⟩ ⟨⟨congrArg (fun x => some (OB.mk _ _ x)) hrow, trivial⟩, .inl ⟨rfl, rfl⟩, .inl ⟨rfl, rfl⟩, .inl ⟨rfl, rfl⟩, trivial⟩ ?_
 rintro ⟨k, hk⟩
 dsimp only
 conv => whnf
 by_cases hlt : k < l.length
 · have hlt2 : k < (l.take k ++ List.replicate (l.length - k) ByteArray.empty).length := by simp; omega
   have hset := congrArg (List.map strA) (wR l ByteArray.empty k hlt)
   rw [List.map_set] at hset
   repeat ((first | refine qz ?_ | refine qp (uK (by simpa using hlt2) rfl rfl rfl rfl rfl) ?_ | refine qr (xS (jh _ hlt2) rfl rfl rfl rfl rfl rfl) ?_); conv => whnf)
   exact ⟨⟨k + 1, hlt⟩, ⟨⟨congrArg (fun x => some (OB.mk _ _ x)) hset, trivial⟩, .inl ⟨rfl, rfl⟩, .inl ⟨rfl, rfl⟩, .inl ⟨rfl, rfl⟩, trivial⟩, by simp; omega⟩
 · have hkk : k = l.length := by omega
   subst hkk
   repeat ((refine qz ?_; conv => whnf))
   exact kD rfl (by show some (OB.mk _ _ _) = _; rw [List.take_length, Nat.sub_self, List.replicate_zero, List.append_nil])
theorem aJ7 {r : Rst} {l : Int} (hr : r.ok maxLen) (h0 : 0 ≤ l) (h1 : l ≤ 1048576) : AC Tryz.prog 59 [aBp r, .v (.int .i64 l)] ⟨.v (.int .i64 (szR r l)), []⟩ := by
 have z1 := aHi hr.1 hr.2.1 h0 h1
 unfold szR
 by_cases ha : szL sSz r.keys l < 0
 · rw [if_pos ha]
   refine qrf Tryz.func59 Tryz.ntmps59 Tryz.results59 ?_; conv => whnf
   repeat ((first | refine qz ?_ | refine qc (z1) ?_ | refine qst ?_); conv => whnf)
   exact xA rfl trivial
 rw [if_neg ha]
 have hle := (aAa (by omega : 0 ≤ szL sSz r.keys l)).1
 have z2 := aAZ (l := szL sSz r.keys l) hr.2.2.1 hr.2.2.2 (by omega) (by omega)
 by_cases hn : szL eSz r.map (szL sSz r.keys l) < 0
 · rw [if_pos hn]
   refine qrf Tryz.func59 Tryz.ntmps59 Tryz.results59 ?_; conv => whnf
   repeat ((first | refine qz ?_ | refine qc (z1) ?_ | refine qc (z2) ?_ | refine qst ?_); conv => whnf)
   exact xA rfl trivial
 · rw [if_neg hn]
   refine qrf Tryz.func59 Tryz.ntmps59 Tryz.results59 ?_; conv => whnf
   repeat ((first | refine qz ?_ | refine qc (z1) ?_ | refine qc (z2) ?_ | refine qst ?_); conv => whnf)
   exact xA rfl trivial
theorem aQt {r : Rst} {l : Int} (h : 0 ≤ szR r l) (h1 : l ≤ 1048576) : szR r l ≤ 1048576 ∧ r.keys.length ≤ 1048576 ∧ r.map.length ≤ 1048576 := by
 unfold szR at h ⊢
 by_cases ha : szL sSz r.keys l < 0
 · rw [if_pos ha] at h; omega
 rw [if_neg ha] at h ⊢
 obtain ⟨k1, k2, _⟩ := aAa (by omega : 0 ≤ szL sSz r.keys l)
 by_cases hn : szL eSz r.map (szL sSz r.keys l) < 0
 · rw [if_pos hn] at h; omega
 rw [if_neg hn] at h ⊢
 obtain ⟨j1, j2, _⟩ := aAa h
 exact ⟨by omega, by omega, by omega⟩
theorem aJ8 {r : Rst} (hm : r.keys.length ≤ 1048576) (hm2 : r.map.length ≤ 1048576) : AC Tryz.prog 75 [aBp r] ⟨aBp r, []⟩ := by
 have h1 := aIf hm
 have h2 := aBm hm2
 refine qrf Tryz.func75 Tryz.ntmps75 Tryz.results75 ?_; conv => whnf
 repeat (first | (refine qz ?_; conv => whnf) | (refine qc (h1) ?_; conv => whnf) | (refine qc (h2) ?_; conv => whnf) | (refine qr (wQ rfl rfl rfl rfl rfl rfl rfl rfl) ?_; conv => whnf) | (refine qr (xS rfl rfl rfl rfl rfl (by conv => lhs; whnf) rfl) ?_; conv => whnf))
 exact uX (x := aBp r) rfl rfl rfl rfl trivial
theorem aJT {r : Rst} (hm : r.keys.length ≤ maxLen) (hm2 : r.map.length ≤ maxLen) : AC Tryz.prog 88 [aBp r, aBp r] ⟨.v (.bool true), []⟩ := by
 have h1 := aIg hm
 have h2 := aBo (es := r.map) (es' := r.map) hm2 hm2
 rw [decide_eq_true rfl] at h2
 refine qrf Tryz.func88 Tryz.ntmps88 Tryz.results88 ?_; conv => whnf
 repeat ((first | refine qp (xB (kT rfl) rfl rfl rfl) ?_ | refine qz ?_ | refine qc (h1) ?_ | refine qc (h2) ?_); conv => whnf)
 exact xA rfl trivial
end Go.Proofs.YtkfllfhcjegfoaaGreatDoor.AM
