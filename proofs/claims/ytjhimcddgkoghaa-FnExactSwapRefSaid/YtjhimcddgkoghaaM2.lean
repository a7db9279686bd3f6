import Derived.Test.YtjhimcddgkoghaaM1
namespace Go.Proofs.Ytjhimcddgkoghaa
open Go.RowKit

theorem method_key (a : ByteArray) (x : Int) (w : World) : (method 418 167 (.agg #[.string a, .int .i64 x]) "loop.example/g00737/impl.key").run Try.prog w = .ok (289, .agg #[.string a, .int .i64 x]) w := by kernel_rfl

theorem nameOK_ent (es : List Ent) (k : Nat) (hke : k < es.length) (hs : es[k].1.size ≤ maxLen) (W : World) :
    Calls Try.prog 109 #[.string es[k].1] W fun e w' => e = .returned (.bool (nm (kAt es k))) ∧ W = w' := by
  rw [kAt_eq es k hke]; exact nameOK_any _ W hs

set_option maxHeartbeats 2000000 in
set_option maxRecDepth 100000 in
theorem inOrder_any (A : Option Addr) (n c : Nat) (es : List Ent) (w : World) (hr : Rd w 2 A n (entsC es)) (hm : n ≤ maxLen) (hks : ∀ e ∈ es, e.1.size ≤ maxLen) :
    Calls Try.prog 215 #[.slice A n c] w fun e w' => e = .returned (.bool (ordM es)) ∧ Below w.heap.size w w' := by
  unfold maxLen at hm
  have hlen := hr.len
  have Hlen := Lib.hid hlen; clear hlen
  have hmeth := method_key
  go_enter Try.func215, Try.ntmps215
  go_wp2
  go_loopw [3, 7] (fun _ i wr => ∃ k : Nat, k ≤ n ∧ i = .int .i64 k ∧ (∀ j, j < k → ordAt es j = true) ∧ Below w.heap.size w wr) (fun _ i _ => n - (intOf i).toNat)
  case atStart => exact ⟨0, Nat.zero_le _, rfl, fun j hj => absurd hj (by omega), Below.refl _ _⟩
  case round =>
    obtain ⟨k, hk, rfl, hall, hb⟩ := hrel
    have Hall := Lib.hid hall; clear hall
    by_cases hlt : k < n
    · have hke : k < es.length := by rw [Hlen.out]; exact hlt
      obtain ⟨b, off, rfl, hbl, hbl2, hc1, hc2⟩ := hr.ent hb hke
      have hcall := nameOK_ent es k hke (hks _ (List.getElem_mem hke))
      cases hw : nm (kAt es k) with
      | false =>
        have hfin : Hid (ordM es = false) := ordM_not hke (by rw [ordAt, hw]; rfl)
        rw [hw] at hcall
        have Hcall := Lib.hid hcall
        clear hw hcall
        go_wp2
        have hcL0 : (wr.alloc (Obj.cells #[Value.string es[k].1, Value.int IntKind.i64 es[k].2] 167)).cell? ⟨wr.heap.size, 0, none⟩ = some (.string es[k].1) := cell_of_row _ _ _ _ _ (0, 0) (heap_alloc_new wr _)
        have hcL1 : (wr.alloc (Obj.cells #[Value.string es[k].1, Value.int IntKind.i64 es[k].2] 167)).cell? ⟨wr.heap.size, 1, none⟩ = some (.int .i64 es[k].2) := cell_of_row _ _ _ _ _ (0, 0) (heap_alloc_new wr _)
        have hpl : wr.heap.size < (wr.alloc (Obj.cells #[Value.string es[k].1, Value.int IntKind.i64 es[k].2] 167)).heap.size := by simp
        have hb2 : Below w.heap.size w (wr.alloc (Obj.cells #[Value.string es[k].1, Value.int IntKind.i64 es[k].2] 167)) := hb.alloc hb.size _
        generalize wr.alloc (Obj.cells #[Value.string es[k].1, Value.int IntKind.i64 es[k].2] 167) = w2 at *
        generalize wr.heap.size = p at *
        have hA0 := fun y : Aft w2 => y.cell hpl hcL0
        have hA1 := fun y : Aft w2 => y.cell hpl hcL1
        refine wp_region_after (by kernel_rfl) (by kernel_rfl) ?_
        repeat (go_big_quiet_step ((first | (go_at_call 289; exact Aft.call (keyOf_any _ _ _)) | (go_at_call 109; exact Aft.same (Hcall.out _)))))
        refine wpQuiet_nil ?_
        rintro _ ⟨y, rfl⟩
        have hb3 := keepS hb2 y.below
        generalize y.at_ = w3 at *
        go_wp2
        go_ret
        exact ⟨ret_bool hfin.out.symm, hb3⟩
      | true =>
      rw [hw] at hcall
      have Hcall := Lib.hid hcall
      clear hcall
      by_cases hk0 : k = 0
      · subst hk0
        have hstep : Hid (∀ j, j < 0 + 1 → ordAt es j = true) := fun j hj => by
          have : j = 0 := by omega
          subst this; exact ordAt_zero hw
        clear hw
        simp only [Nat.zero_mul, Nat.add_zero] at hc1 hc2
        go_wp2
        have hcL0 : (wr.alloc (Obj.cells #[Value.string es[0].1, Value.int IntKind.i64 es[0].2] 167)).cell? ⟨wr.heap.size, 0, none⟩ = some (.string es[0].1) := cell_of_row _ _ _ _ _ (0, 0) (heap_alloc_new wr _)
        have hcL1 : (wr.alloc (Obj.cells #[Value.string es[0].1, Value.int IntKind.i64 es[0].2] 167)).cell? ⟨wr.heap.size, 1, none⟩ = some (.int .i64 es[0].2) := cell_of_row _ _ _ _ _ (0, 0) (heap_alloc_new wr _)
        have hpl : wr.heap.size < (wr.alloc (Obj.cells #[Value.string es[0].1, Value.int IntKind.i64 es[0].2] 167)).heap.size := by simp
        have hb2 : Below w.heap.size w (wr.alloc (Obj.cells #[Value.string es[0].1, Value.int IntKind.i64 es[0].2] 167)) := hb.alloc hb.size _
        generalize wr.alloc (Obj.cells #[Value.string es[0].1, Value.int IntKind.i64 es[0].2] 167) = w2 at *
        generalize wr.heap.size = p at *
        have hA0 := fun y : Aft w2 => y.cell hpl hcL0
        have hA1 := fun y : Aft w2 => y.cell hpl hcL1
        refine wp_region_after (by kernel_rfl) (by kernel_rfl) ?_
        repeat (go_big_quiet_step ((first | (go_at_call 289; exact Aft.call (keyOf_any _ _ _)) | (go_at_call 109; exact Aft.same (Hcall.out _)))))
        refine wpQuiet_nil ?_
        rintro _ ⟨y, rfl⟩
        have hb3 := keepS hb2 y.below
        generalize y.at_ = w3 at *
        go_wp2
        go_roundw
        case rel => exact ⟨0 + 1, by omega, by go_num, hstep.out, hb3⟩
        case measure => simp [intOf]; omega
      · have hkp : 0 < k := by omega
        have hor := ordAt_pos hkp hke hw
        have ht : (!(Op.bytesLess (es[k - 1]'(by omega)).1.toList es[k].1.toList)) = !ordAt es k := by rw [hor]; rfl
        have hi0 : 0 ≤ (k : Int) - 1 := by omega
        have hi1 : ((k : Int) - 1).toNat = k - 1 := by omega
        have hi2 : (0 : Int) < (k : Int) := by omega
        clear hk0 hor hw
        cases ho : ordAt es k with
        | false =>
          have hfin : Hid (ordM es = false) := ordM_not hke ho
          rw [ho] at ht
          clear ho
          go_wp2
          have hcL0 : (wr.alloc (Obj.cells #[Value.string es[k].1, Value.int IntKind.i64 es[k].2] 167)).cell? ⟨wr.heap.size, 0, none⟩ = some (.string es[k].1) := cell_of_row _ _ _ _ _ (0, 0) (heap_alloc_new wr _)
          have hcL1 : (wr.alloc (Obj.cells #[Value.string es[k].1, Value.int IntKind.i64 es[k].2] 167)).cell? ⟨wr.heap.size, 1, none⟩ = some (.int .i64 es[k].2) := cell_of_row _ _ _ _ _ (0, 0) (heap_alloc_new wr _)
          have hpl : wr.heap.size < (wr.alloc (Obj.cells #[Value.string es[k].1, Value.int IntKind.i64 es[k].2] 167)).heap.size := by simp
          have hb2 : Below w.heap.size w (wr.alloc (Obj.cells #[Value.string es[k].1, Value.int IntKind.i64 es[k].2] 167)) := hb.alloc hb.size _
          obtain ⟨b', off', he, _, _, hc3, hc4⟩ := hr.ent hb2 (show k - 1 < es.length by omega)
          obtain ⟨rfl, rfl⟩ : b = b' ∧ off = off' := by simpa using he
          have hbl4 := Nat.lt_of_lt_of_le hbl hb2.size
          generalize wr.alloc (Obj.cells #[Value.string es[k].1, Value.int IntKind.i64 es[k].2] 167) = w2 at *
          generalize wr.heap.size = p at *
          have hA0 := fun y : Aft w2 => y.cell hpl hcL0
          have hA1 := fun y : Aft w2 => y.cell hpl hcL1
          have hA3 := fun y : Aft w2 => y.cell hbl4 hc3
          have hA4 := fun y : Aft w2 => y.cell hbl4 hc4
          refine wp_region_after (by kernel_rfl) (by kernel_rfl) ?_
          repeat (go_big_quiet_step ((first | (go_at_call 289; exact Aft.call (keyOf_any _ _ _)) | (go_at_call 109; exact Aft.same (Hcall.out _)))))
          refine wpQuiet_nil ?_
          rintro _ ⟨y, rfl⟩
          have hb3 := keepS hb2 y.below
          generalize y.at_ = w3 at *
          go_wp2
          go_ret
          exact ⟨ret_bool hfin.out.symm, hb3⟩
        | true =>
          have hstep : Hid (∀ j, j < k + 1 → ordAt es j = true) := fun j hj => by
            rcases Nat.lt_or_ge j k with h | h
            · exact Hall.out j h
            · have : j = k := by omega
              subst this; exact ho
          rw [ho] at ht
          clear ho
          go_wp2
          have hcL0 : (wr.alloc (Obj.cells #[Value.string es[k].1, Value.int IntKind.i64 es[k].2] 167)).cell? ⟨wr.heap.size, 0, none⟩ = some (.string es[k].1) := cell_of_row _ _ _ _ _ (0, 0) (heap_alloc_new wr _)
          have hcL1 : (wr.alloc (Obj.cells #[Value.string es[k].1, Value.int IntKind.i64 es[k].2] 167)).cell? ⟨wr.heap.size, 1, none⟩ = some (.int .i64 es[k].2) := cell_of_row _ _ _ _ _ (0, 0) (heap_alloc_new wr _)
          have hpl : wr.heap.size < (wr.alloc (Obj.cells #[Value.string es[k].1, Value.int IntKind.i64 es[k].2] 167)).heap.size := by simp
          have hb2 : Below w.heap.size w (wr.alloc (Obj.cells #[Value.string es[k].1, Value.int IntKind.i64 es[k].2] 167)) := hb.alloc hb.size _
          obtain ⟨b', off', he, _, _, hc3, hc4⟩ := hr.ent hb2 (show k - 1 < es.length by omega)
          obtain ⟨rfl, rfl⟩ : b = b' ∧ off = off' := by simpa using he
          have hbl4 := Nat.lt_of_lt_of_le hbl hb2.size
          generalize wr.alloc (Obj.cells #[Value.string es[k].1, Value.int IntKind.i64 es[k].2] 167) = w2 at *
          generalize wr.heap.size = p at *
          have hA0 := fun y : Aft w2 => y.cell hpl hcL0
          have hA1 := fun y : Aft w2 => y.cell hpl hcL1
          have hA3 := fun y : Aft w2 => y.cell hbl4 hc3
          have hA4 := fun y : Aft w2 => y.cell hbl4 hc4
          refine wp_region_after (by kernel_rfl) (by kernel_rfl) ?_
          repeat (go_big_quiet_step ((first | (go_at_call 289; exact Aft.call (keyOf_any _ _ _)) | (go_at_call 109; exact Aft.same (Hcall.out _)))))
          refine wpQuiet_nil ?_
          rintro _ ⟨y, rfl⟩
          have hb3 := keepS hb2 y.below
          generalize y.at_ = w3 at *
          go_wp2
          go_roundw
          case rel => exact ⟨k + 1, by omega, by go_num, hstep.out, hb3⟩
          case measure => simp [intOf]; omega
    · have hfin : Hid (ordM es = true) := ordM_of (fun i hi => Hall.out i (by rw [Hlen.out] at hi; omega))
      go_wp2
      go_ret
      exact ⟨ret_bool hfin.out.symm, hb⟩

end Go.Proofs.Ytjhimcddgkoghaa
