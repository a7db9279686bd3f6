/- The program's EditsOK. -/
import Derived.Test.YtjhimcddgkoghaaS8
import Derived.Test.YtjhimcddgkoghaaM3
namespace Go.Proofs.Ytjhimcddgkoghaa
open Go.RowKit

theorem method_keyE (a : ByteArray) (x : Int) (g : Bool) (w : World) : (method 418 117 (.agg #[.string a, .int .i64 x, .bool g]) "loop.example/g00737/impl.key").run Try.prog w = .ok (288, .agg #[.string a, .int .i64 x, .bool g]) w := by kernel_rfl
theorem keyOfE_any (key : ByteArray) (v : Int) (g : Bool) (w : World) :
    Calls Try.prog 288 #[.agg #[.string key, .int .i64 v, .bool g]] w fun e w' => e = .returned (.string key) ∧ Below w.heap.size w w' := by
  go_enter Try.func288, Try.ntmps288
  go_wp2
  go_ret
  exact ⟨rfl, (Below.refl _ _).alloc (Nat.le_refl _) _⟩
theorem nameOK_edt (es : List Edt) (k : Nat) (hke : k < es.length) (hs : es[k].key.size ≤ maxLen) (W : World) :
    Calls Try.prog 109 #[.string es[k].key] W fun e w' => e = .returned (.bool (nm es[k].key)) ∧ W = w' := nameOK_any _ W hs
set_option maxHeartbeats 2000000 in
set_option maxRecDepth 100000 in
theorem inOrderE_any (A : Option Addr) (n c : Nat) (es : List Edt) (w : World) (hr : Rd w 3 A n (edtsC es)) (hm : n ≤ maxLen) (hks : ∀ e ∈ es, e.key.size ≤ maxLen) :
    Calls Try.prog 172 #[.slice A n c] w fun e w' => e = .returned (.bool (ordM (kv es))) ∧ Below w.heap.size w w' := by
  unfold maxLen at hm
  have hlen := hr.elen
  have Hlen := Lib.hid hlen; clear hlen
  have hmeth := method_keyE
  go_enter Try.func172, Try.ntmps172
  go_wp2
  go_loopw [3, 7] (fun _ i wr => ∃ k : Nat, k ≤ n ∧ i = .int .i64 k ∧ (∀ j, j < k → ordAt (kv es) j = true) ∧ Below w.heap.size w wr) (fun _ i _ => n - (intOf i).toNat)
  case atStart => exact ⟨0, Nat.zero_le _, rfl, fun j hj => absurd hj (by omega), Below.refl _ _⟩
  case round =>
    obtain ⟨k, hk, rfl, hall, hb⟩ := hrel
    have Hall := Lib.hid hall; clear hall
    by_cases hlt : k < n
    · have hke : k < es.length := by rw [Hlen.out]; exact hlt
      obtain ⟨b, off, rfl, hbl, hbl2, hc1, hc2, hc5⟩ := hr.edt hb hke
      have hcall := nameOK_edt es k hke (hks _ (List.getElem_mem hke))
      cases hw : nm es[k].key with
      | false =>
        have hfin : Hid (ordM (kv es) = false) := ordM_not (by rw [kv_length]; exact hke) (ordE_no es k hke hw)
        rw [hw] at hcall
        have Hcall := Lib.hid hcall
        clear hw hcall
        go_wp2
        have hcL0 : (wr.alloc (Obj.cells #[Value.string es[k].key, Value.int IntKind.i64 es[k].val, Value.bool es[k].gone] 117)).cell? ⟨wr.heap.size, 0, none⟩ = some (.string es[k].key) := cell_of_row _ _ _ _ _ (0, 0) (heap_alloc_new wr _)
        have hcL1 : (wr.alloc (Obj.cells #[Value.string es[k].key, Value.int IntKind.i64 es[k].val, Value.bool es[k].gone] 117)).cell? ⟨wr.heap.size, 1, none⟩ = some (.int .i64 es[k].val) := cell_of_row _ _ _ _ _ (0, 0) (heap_alloc_new wr _)
        have hcL2 : (wr.alloc (Obj.cells #[Value.string es[k].key, Value.int IntKind.i64 es[k].val, Value.bool es[k].gone] 117)).cell? ⟨wr.heap.size, 2, none⟩ = some (.bool es[k].gone) := cell_of_row _ _ _ _ _ (0, 0) (heap_alloc_new wr _)
        have hpl : wr.heap.size < (wr.alloc (Obj.cells #[Value.string es[k].key, Value.int IntKind.i64 es[k].val, Value.bool es[k].gone] 117)).heap.size := by simp
        have hb2 : Below w.heap.size w (wr.alloc (Obj.cells #[Value.string es[k].key, Value.int IntKind.i64 es[k].val, Value.bool es[k].gone] 117)) := hb.alloc hb.size _
        generalize wr.alloc (Obj.cells #[Value.string es[k].key, Value.int IntKind.i64 es[k].val, Value.bool es[k].gone] 117) = w2 at *
        generalize wr.heap.size = p at *
        have hA0 := fun y : Aft w2 => y.cell hpl hcL0
        have hA1 := fun y : Aft w2 => y.cell hpl hcL1
        have hA2 := fun y : Aft w2 => y.cell hpl hcL2
        refine wp_region_after (by kernel_rfl) (by kernel_rfl) ?_
        repeat (go_big_quiet_step ((first | (go_at_call 288; exact Aft.call (keyOfE_any _ _ _ _)) | (go_at_call 109; exact Aft.same (Hcall.out _)))))
        refine wpQuiet_nil ?_
        rintro _ ⟨y, rfl⟩
        have hb3 := keepS hb2 y.below
        generalize y.at_ = w3 at *
        go_wp2
        go_ret
        exact ⟨ret_bool hfin.out.symm, hb3⟩
      | true =>
      rw [hw] at hcall
      have Hcall := Lib.hid hcall
      clear hcall
      by_cases hk0 : k = 0
      · subst hk0
        have hstep : Hid (∀ j, j < 0 + 1 → ordAt (kv es) j = true) := fun j hj => by
          have : j = 0 := by omega
          subst this; exact ordE_zero es hke hw
        clear hw
        simp only [Nat.zero_mul, Nat.add_zero] at hc1 hc2 hc5
        go_wp2
        have hcL0 : (wr.alloc (Obj.cells #[Value.string es[0].key, Value.int IntKind.i64 es[0].val, Value.bool es[0].gone] 117)).cell? ⟨wr.heap.size, 0, none⟩ = some (.string es[0].key) := cell_of_row _ _ _ _ _ (0, 0) (heap_alloc_new wr _)
        have hcL1 : (wr.alloc (Obj.cells #[Value.string es[0].key, Value.int IntKind.i64 es[0].val, Value.bool es[0].gone] 117)).cell? ⟨wr.heap.size, 1, none⟩ = some (.int .i64 es[0].val) := cell_of_row _ _ _ _ _ (0, 0) (heap_alloc_new wr _)
        have hcL2 : (wr.alloc (Obj.cells #[Value.string es[0].key, Value.int IntKind.i64 es[0].val, Value.bool es[0].gone] 117)).cell? ⟨wr.heap.size, 2, none⟩ = some (.bool es[0].gone) := cell_of_row _ _ _ _ _ (0, 0) (heap_alloc_new wr _)
        have hpl : wr.heap.size < (wr.alloc (Obj.cells #[Value.string es[0].key, Value.int IntKind.i64 es[0].val, Value.bool es[0].gone] 117)).heap.size := by simp
        have hb2 : Below w.heap.size w (wr.alloc (Obj.cells #[Value.string es[0].key, Value.int IntKind.i64 es[0].val, Value.bool es[0].gone] 117)) := hb.alloc hb.size _
        generalize wr.alloc (Obj.cells #[Value.string es[0].key, Value.int IntKind.i64 es[0].val, Value.bool es[0].gone] 117) = w2 at *
        generalize wr.heap.size = p at *
        have hA0 := fun y : Aft w2 => y.cell hpl hcL0
        have hA1 := fun y : Aft w2 => y.cell hpl hcL1
        have hA2 := fun y : Aft w2 => y.cell hpl hcL2
        refine wp_region_after (by kernel_rfl) (by kernel_rfl) ?_
        repeat (go_big_quiet_step ((first | (go_at_call 288; exact Aft.call (keyOfE_any _ _ _ _)) | (go_at_call 109; exact Aft.same (Hcall.out _)))))
        refine wpQuiet_nil ?_
        rintro _ ⟨y, rfl⟩
        have hb3 := keepS hb2 y.below
        generalize y.at_ = w3 at *
        go_wp2
        go_roundw
        case rel => exact ⟨0 + 1, by omega, by go_num, hstep.out, hb3⟩
        case measure => simp [intOf]; omega
      · have hkp : 0 < k := by omega
        have hor := ordE_pos es k hkp hke hw
        have ht : (!(Op.bytesLess (es[k - 1]'(by omega)).key.toList es[k].key.toList)) = !ordAt (kv es) k := by rw [hor]; rfl
        have hi0 : 0 ≤ (k : Int) - 1 := by omega
        have hi1 : ((k : Int) - 1).toNat = k - 1 := by omega
        have hi2 : (0 : Int) < (k : Int) := by omega
        clear hk0 hor hw
        cases ho : ordAt (kv es) k with
        | false =>
          have hfin : Hid (ordM (kv es) = false) := ordM_not (by rw [kv_length]; exact hke) ho
          rw [ho] at ht
          clear ho
          go_wp2
          have hcL0 : (wr.alloc (Obj.cells #[Value.string es[k].key, Value.int IntKind.i64 es[k].val, Value.bool es[k].gone] 117)).cell? ⟨wr.heap.size, 0, none⟩ = some (.string es[k].key) := cell_of_row _ _ _ _ _ (0, 0) (heap_alloc_new wr _)
          have hcL1 : (wr.alloc (Obj.cells #[Value.string es[k].key, Value.int IntKind.i64 es[k].val, Value.bool es[k].gone] 117)).cell? ⟨wr.heap.size, 1, none⟩ = some (.int .i64 es[k].val) := cell_of_row _ _ _ _ _ (0, 0) (heap_alloc_new wr _)
          have hcL2 : (wr.alloc (Obj.cells #[Value.string es[k].key, Value.int IntKind.i64 es[k].val, Value.bool es[k].gone] 117)).cell? ⟨wr.heap.size, 2, none⟩ = some (.bool es[k].gone) := cell_of_row _ _ _ _ _ (0, 0) (heap_alloc_new wr _)
          have hpl : wr.heap.size < (wr.alloc (Obj.cells #[Value.string es[k].key, Value.int IntKind.i64 es[k].val, Value.bool es[k].gone] 117)).heap.size := by simp
          have hb2 : Below w.heap.size w (wr.alloc (Obj.cells #[Value.string es[k].key, Value.int IntKind.i64 es[k].val, Value.bool es[k].gone] 117)) := hb.alloc hb.size _
          obtain ⟨b', off', he, _, _, hc3, hc4, hc6⟩ := hr.edt hb2 (show k - 1 < es.length by omega)
          obtain ⟨rfl, rfl⟩ : b = b' ∧ off = off' := by simpa using he
          have hbl4 := Nat.lt_of_lt_of_le hbl hb2.size
          generalize wr.alloc (Obj.cells #[Value.string es[k].key, Value.int IntKind.i64 es[k].val, Value.bool es[k].gone] 117) = w2 at *
          generalize wr.heap.size = p at *
          have hA0 := fun y : Aft w2 => y.cell hpl hcL0
          have hA1 := fun y : Aft w2 => y.cell hpl hcL1
          have hA2 := fun y : Aft w2 => y.cell hpl hcL2
          have hA3 := fun y : Aft w2 => y.cell hbl4 hc3
          have hA4 := fun y : Aft w2 => y.cell hbl4 hc4
          have hA5 := fun y : Aft w2 => y.cell hbl4 hc6
          refine wp_region_after (by kernel_rfl) (by kernel_rfl) ?_
          repeat (go_big_quiet_step ((first | (go_at_call 288; exact Aft.call (keyOfE_any _ _ _ _)) | (go_at_call 109; exact Aft.same (Hcall.out _)))))
          refine wpQuiet_nil ?_
          rintro _ ⟨y, rfl⟩
          have hb3 := keepS hb2 y.below
          generalize y.at_ = w3 at *
          go_wp2
          go_ret
          exact ⟨ret_bool hfin.out.symm, hb3⟩
        | true =>
          have hstep : Hid (∀ j, j < k + 1 → ordAt (kv es) j = true) := fun j hj => by
            rcases Nat.lt_or_ge j k with h | h
            · exact Hall.out j h
            · have : j = k := by omega
              subst this; exact ho
          rw [ho] at ht
          clear ho
          go_wp2
          have hcL0 : (wr.alloc (Obj.cells #[Value.string es[k].key, Value.int IntKind.i64 es[k].val, Value.bool es[k].gone] 117)).cell? ⟨wr.heap.size, 0, none⟩ = some (.string es[k].key) := cell_of_row _ _ _ _ _ (0, 0) (heap_alloc_new wr _)
          have hcL1 : (wr.alloc (Obj.cells #[Value.string es[k].key, Value.int IntKind.i64 es[k].val, Value.bool es[k].gone] 117)).cell? ⟨wr.heap.size, 1, none⟩ = some (.int .i64 es[k].val) := cell_of_row _ _ _ _ _ (0, 0) (heap_alloc_new wr _)
          have hcL2 : (wr.alloc (Obj.cells #[Value.string es[k].key, Value.int IntKind.i64 es[k].val, Value.bool es[k].gone] 117)).cell? ⟨wr.heap.size, 2, none⟩ = some (.bool es[k].gone) := cell_of_row _ _ _ _ _ (0, 0) (heap_alloc_new wr _)
          have hpl : wr.heap.size < (wr.alloc (Obj.cells #[Value.string es[k].key, Value.int IntKind.i64 es[k].val, Value.bool es[k].gone] 117)).heap.size := by simp
          have hb2 : Below w.heap.size w (wr.alloc (Obj.cells #[Value.string es[k].key, Value.int IntKind.i64 es[k].val, Value.bool es[k].gone] 117)) := hb.alloc hb.size _
          obtain ⟨b', off', he, _, _, hc3, hc4, hc6⟩ := hr.edt hb2 (show k - 1 < es.length by omega)
          obtain ⟨rfl, rfl⟩ : b = b' ∧ off = off' := by simpa using he
          have hbl4 := Nat.lt_of_lt_of_le hbl hb2.size
          generalize wr.alloc (Obj.cells #[Value.string es[k].key, Value.int IntKind.i64 es[k].val, Value.bool es[k].gone] 117) = w2 at *
          generalize wr.heap.size = p at *
          have hA0 := fun y : Aft w2 => y.cell hpl hcL0
          have hA1 := fun y : Aft w2 => y.cell hpl hcL1
          have hA2 := fun y : Aft w2 => y.cell hpl hcL2
          have hA3 := fun y : Aft w2 => y.cell hbl4 hc3
          have hA4 := fun y : Aft w2 => y.cell hbl4 hc4
          have hA5 := fun y : Aft w2 => y.cell hbl4 hc6
          refine wp_region_after (by kernel_rfl) (by kernel_rfl) ?_
          repeat (go_big_quiet_step ((first | (go_at_call 288; exact Aft.call (keyOfE_any _ _ _ _)) | (go_at_call 109; exact Aft.same (Hcall.out _)))))
          refine wpQuiet_nil ?_
          rintro _ ⟨y, rfl⟩
          have hb3 := keepS hb2 y.below
          generalize y.at_ = w3 at *
          go_wp2
          go_roundw
          case rel => exact ⟨k + 1, by omega, by go_num, hstep.out, hb3⟩
          case measure => simp [intOf]; omega
    · have hfin : Hid (ordM (kv es) = true) := ordM_of (fun i hi => Hall.out i (by rw [kv_length, Hlen.out] at hi; omega))
      go_wp2
      go_ret
      exact ⟨ret_bool hfin.out.symm, hb⟩

set_option maxHeartbeats 2000000 in
set_option maxRecDepth 100000 in
theorem implEditsOK_any (A : Option Addr) (n c : Nat) (es : List Edt) (w : World) (hr : Rd w 3 A n (edtsC es)) (hm : n ≤ maxLen) (hks : ∀ e ∈ es, e.key.size ≤ maxLen) :
    Calls Try.prog 68 #[.slice A n c] w fun e w' => e = .returned (.bool (editsOK es)) ∧ Below w.heap.size w w' := by
  have hm' := hm
  unfold maxLen at hm
  have hlen := hr.elen
  have Hlen := Lib.hid hlen; clear hlen
  by_cases hbig : 6 < n
  · have hfin : Hid (editsOK es = false) := editsOK_long (by rw [Hlen.out]; exact hbig)
    go_enter Try.func68, Try.ntmps68
    go_wp2
    go_ret
    exact ⟨ret_bool hfin.out.symm, Below.refl _ _⟩
  have hn6 : n ≤ 6 := by omega
  clear hbig
  cases ho : ordM (kv es) with
  | false =>
    have hfin : Hid (editsOK es = false) := by show editsOK es = false; rw [editsOK, ho]; simp
    have hcall := inOrderE_any A n c es w hr hm' hks
    rw [ho] at hcall
    have Hcall := Lib.hid hcall
    clear ho hcall
    go_enter Try.func68, Try.ntmps68
    go_wp2_with (go_at_call 172; refine Hcall.out.mono ?_; rintro e w1 ⟨rfl, hb1⟩)
    go_ret
    exact ⟨ret_bool hfin.out.symm, hb1⟩
  | true =>
    have hcall := inOrderE_any A n c es w hr hm' hks
    rw [ho] at hcall
    have Hcall := Lib.hid hcall
    have Ho := Lib.hid ho
    clear ho hcall
    go_enter Try.func68, Try.ntmps68
    go_wp2_with (go_at_call 172; refine Hcall.out.mono ?_; rintro e w1 ⟨rfl, hb1⟩)
    go_loopw [15] (fun i wr => ∃ k : Nat, k ≤ n ∧ i = .int .i64 k ∧ (∀ j, j < k → edtAt es j = true) ∧ Below w.heap.size w wr) (fun i _ => n - (intOf i).toNat)
    case atStart => exact ⟨0, Nat.zero_le _, rfl, fun j hj => absurd hj (by omega), hb1⟩
    case round =>
      obtain ⟨k, hk, rfl, hall, hb⟩ := hrel
      have Hall := Lib.hid hall; clear hall
      by_cases hlt : k < n
      · have hke : k < es.length := by rw [Hlen.out]; exact hlt
        obtain ⟨b, off, rfl, hbl, hbl2, hc1, hc2, hc3⟩ := hr.edt hb hke
        have hE := edtAt_eq es k hke
        generalize es[k] = ek at *
        obtain ⟨k1, v1, g1⟩ := ek
        simp only at hc1 hc2 hc3 hE
        have hcall := fun W => valueOK_any v1 W
        change ∀ W, Calls _ _ _ W fun e w' => e = .returned (.bool (valB v1)) ∧ W = w' at hcall
        cases hv : valB v1 with
        | false =>
          have hfin : Hid (editsOK es = false) := editsOK_noEdt hke (by rw [hE, hv]; rfl)
          rw [hv] at hcall
          have Hcall := Lib.hid hcall
          clear hv hcall hE
          go_wp2_with (go_at_call 173; refine (Hcall.out _).mono ?_; rintro e w1 ⟨rfl, rfl⟩)
          go_ret
          exact ⟨ret_bool hfin.out.symm, hb.alloc hb.size _⟩
        | true =>
          rw [hv] at hcall
          rcases gone_three g1 v1 with ⟨rfl, hne⟩ | hgood
          · have hfin : Hid (editsOK es = false) := editsOK_noEdt hke (by rw [hE, hv, decide_eq_false hne]; rfl)
            have hne2 : (v1 != 0) = true := by simpa using hne
            have Hcall := Lib.hid hcall
            clear hv hcall hE
            go_wp2_with (go_at_call 173; refine (Hcall.out _).mono ?_; rintro e w1 ⟨rfl, rfl⟩)
            go_ret
            exact ⟨ret_bool hfin.out.symm, hb.alloc hb.size _⟩
          have hE1 : Hid (edtAt es k = true) := by
            rcases hgood with rfl | ⟨rfl, rfl⟩
            · show edtAt es k = true; rw [hE, hv]; rfl
            · show edtAt es k = true; rw [hE, hv]; rfl
          have hstep : Hid (∀ j, j < k + 1 → edtAt es j = true) := fun j hj => by
            rcases Nat.lt_or_ge j k with h | h
            · exact Hall.out j h
            · have : j = k := by omega
              subst this; exact hE1.out
          clear hE hv
          rcases hgood with rfl | ⟨rfl, rfl⟩
          · have Hcall := Lib.hid hcall
            clear hcall
            go_wp2_with (go_at_call 173; refine (Hcall.out _).mono ?_; rintro e w1 ⟨rfl, rfl⟩)
            go_roundw
            case rel => exact ⟨k + 1, by omega, by go_num, hstep.out, hb.alloc hb.size _⟩
            case measure => simp [intOf]; omega
          · have Hcall := Lib.hid hcall
            clear hcall
            go_wp2_with (go_at_call 173; refine (Hcall.out _).mono ?_; rintro e w1 ⟨rfl, rfl⟩)
            go_roundw
            case rel => exact ⟨k + 1, by omega, by go_num, hstep.out, hb.alloc hb.size _⟩
            case measure => simp [intOf]; omega
      · have hfin : Hid (editsOK es = true) := editsOK_of (by rw [Hlen.out]; exact hn6) (fun i hi => ⟨ordM_at Ho.out (by rw [kv_length]; exact hi), Hall.out i (by rw [Hlen.out] at hi; omega)⟩)
        go_wp2
        go_ret
        exact ⟨ret_bool hfin.out.symm, hb⟩

end Go.Proofs.Ytjhimcddgkoghaa
