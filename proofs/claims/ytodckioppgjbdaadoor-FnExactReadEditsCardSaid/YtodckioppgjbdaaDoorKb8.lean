/- Texts of the machine over data, folded. -/
import Derived.Test.YtodckioppgjbdaaDoorKb7
import Derived.Test.YtodckioppgjbdaaDoorKb6
import Derived.Test.YtodckioppgjbdaaDoorKb5
import Derived.Conc.LoneCalls
import Derived.Conc.LoneSelect
set_option linter.unusedVariables false
set_option linter.unusedSimpArgs false
set_option maxRecDepth 100000
namespace Go.Proofs.YtodckioppgjbdaaDoor
open Go.RowKit
theorem aEY (a : ByteArray) (x : Int) (g : Bool) (w : World) : (method 362 102 (.agg #[.string a, .int .i64 x, .bool g]) "loop.example/g00737/impl.key").run Tryd.prog w = .ok (224, .agg #[.string a, .int .i64 x, .bool g]) w := by kernel_rfl
theorem kE (key : ByteArray) (v : Int) (g : Bool) (w : World) :
 Calls Tryd.prog 224 #[.agg #[.string key, .int .i64 v, .bool g]] w fun e w' => e = .returned (.string key) ∧ Below w.heap.size w w' := by
 go_enter Tryd.func224, Tryd.ntmps224
 go_wp2
 go_ret
 exact ⟨rfl, (Below.refl _ _).alloc (Nat.le_refl _) _⟩
theorem aFS (es : List Edt) (k : Nat) (hke : k < es.length) (hs : es[k].key.size ≤ maxLen) (W : World) :
 Calls Tryd.prog 118 #[.string es[k].key] W fun e w' => e = .returned (.bool (nm es[k].key)) ∧ W = w' := aB6 _ W hs
set_option maxHeartbeats 2000000 in
set_option maxRecDepth 100000 in
theorem qy (A : Option Addr) (n c : Nat) (es : List Edt) (w : World) (hr : Rd w 3 A n (xk es)) (hm : n ≤ maxLen) (hks : ∀ e ∈ es, e.key.size ≤ maxLen) :
 Calls Tryd.prog 110 #[.slice A n c] w fun e w' => e = .returned (.bool (um (kv es))) ∧ Below w.heap.size w w' := by
 unfold maxLen at hm
 have hlen := hr.elen
 have Hlen := Lib.hid hlen; clear hlen
 have hmeth := aEY
 go_enter Tryd.func110, Tryd.ntmps110
 go_wp2
 go_loopw [3, 7] (fun _ i wr => ∃ k : Nat, k ≤ n ∧ i = .int .i64 k ∧ (∀ j, j < k → xX (kv es) j = true) ∧ Below w.heap.size w wr) (fun _ i _ => n - (intOf i).toNat)
 case atStart => exact ⟨0, Nat.zero_le _, rfl, fun j hj => absurd hj (by omega), Below.refl _ _⟩
 case round =>
  obtain ⟨k, hk, rfl, hall, hb⟩ := hrel
  have Hall := Lib.hid hall; clear hall
  by_cases hlt : k < n
  · have hke : k < es.length := by rw [Hlen.out]; exact hlt
    obtain ⟨b, off, rfl, hbl, hbl2, hc1, hc2, hc5⟩ := hr.edt hb hke
    have hcall := aFS es k hke (hks _ (List.getElem_mem hke))
    cases hw : nm es[k].key with
    | false =>
     have hfin : Hid (um (kv es) = false) := wG (by rw [vY]; exact hke) (aEi es k hke hw)
     rw [hw] at hcall
     have Hcall := Lib.hid hcall
     clear hw hcall
     go_wp2
     have hcL0 : (wr.alloc (Obj.cells #[Value.string es[k].key, Value.int IntKind.i64 es[k].val, Value.bool es[k].gone] 102)).cell? ⟨wr.heap.size, 0, none⟩ = some (.string es[k].key) := cell_of_row _ _ _ _ _ (0, 0) (heap_alloc_new wr _)
     have hcL1 : (wr.alloc (Obj.cells #[Value.string es[k].key, Value.int IntKind.i64 es[k].val, Value.bool es[k].gone] 102)).cell? ⟨wr.heap.size, 1, none⟩ = some (.int .i64 es[k].val) := cell_of_row _ _ _ _ _ (0, 0) (heap_alloc_new wr _)
     have hcL2 : (wr.alloc (Obj.cells #[Value.string es[k].key, Value.int IntKind.i64 es[k].val, Value.bool es[k].gone] 102)).cell? ⟨wr.heap.size, 2, none⟩ = some (.bool es[k].gone) := cell_of_row _ _ _ _ _ (0, 0) (heap_alloc_new wr _)
     have hpl : wr.heap.size < (wr.alloc (Obj.cells #[Value.string es[k].key, Value.int IntKind.i64 es[k].val, Value.bool es[k].gone] 102)).heap.size := by simp
     have hb2 : Below w.heap.size w (wr.alloc (Obj.cells #[Value.string es[k].key, Value.int IntKind.i64 es[k].val, Value.bool es[k].gone] 102)) := hb.alloc hb.size _
     generalize wr.alloc (Obj.cells #[Value.string es[k].key, Value.int IntKind.i64 es[k].val, Value.bool es[k].gone] 102) = w2 at *
     generalize wr.heap.size = p at *
     have hA0 := fun y : Aft w2 => y.cell hpl hcL0
     have hA1 := fun y : Aft w2 => y.cell hpl hcL1
     have hA2 := fun y : Aft w2 => y.cell hpl hcL2
     refine xJ (by kernel_rfl) (by kernel_rfl) ?_
     repeat (go_big_quiet_step ((first | (go_at_call 224; exact Aft.call (kE _ _ _ _)) | (go_at_call 118; exact Aft.same (Hcall.out _)))))
     refine wpQuiet_nil ?_
     rintro _ ⟨y, rfl⟩
     have hb3 := zR hb2 y.below
     generalize y.at_ = w3 at *
     go_wp2
     go_ret
     exact ⟨xG hfin.out.symm, hb3⟩
    | true =>
    rw [hw] at hcall
    have Hcall := Lib.hid hcall
    clear hcall
    by_cases hk0 : k = 0
    · subst hk0
      have hstep : Hid (∀ j, j < 0 + 1 → xX (kv es) j = true) := fun j hj => by
       have : j = 0 := by omega
       subst this; exact aC1 es hke hw
      clear hw
      simp only [Nat.zero_mul, Nat.add_zero] at hc1 hc2 hc5
      go_wp2
      have hcL0 : (wr.alloc (Obj.cells #[Value.string es[0].key, Value.int IntKind.i64 es[0].val, Value.bool es[0].gone] 102)).cell? ⟨wr.heap.size, 0, none⟩ = some (.string es[0].key) := cell_of_row _ _ _ _ _ (0, 0) (heap_alloc_new wr _)
      have hcL1 : (wr.alloc (Obj.cells #[Value.string es[0].key, Value.int IntKind.i64 es[0].val, Value.bool es[0].gone] 102)).cell? ⟨wr.heap.size, 1, none⟩ = some (.int .i64 es[0].val) := cell_of_row _ _ _ _ _ (0, 0) (heap_alloc_new wr _)
      have hcL2 : (wr.alloc (Obj.cells #[Value.string es[0].key, Value.int IntKind.i64 es[0].val, Value.bool es[0].gone] 102)).cell? ⟨wr.heap.size, 2, none⟩ = some (.bool es[0].gone) := cell_of_row _ _ _ _ _ (0, 0) (heap_alloc_new wr _)
      have hpl : wr.heap.size < (wr.alloc (Obj.cells #[Value.string es[0].key, Value.int IntKind.i64 es[0].val, Value.bool es[0].gone] 102)).heap.size := by simp
      have hb2 : Below w.heap.size w (wr.alloc (Obj.cells #[Value.string es[0].key, Value.int IntKind.i64 es[0].val, Value.bool es[0].gone] 102)) := hb.alloc hb.size _
      generalize wr.alloc (Obj.cells #[Value.string es[0].key, Value.int IntKind.i64 es[0].val, Value.bool es[0].gone] 102) = w2 at *
      generalize wr.heap.size = p at *
      have hA0 := fun y : Aft w2 => y.cell hpl hcL0
      have hA1 := fun y : Aft w2 => y.cell hpl hcL1
      have hA2 := fun y : Aft w2 => y.cell hpl hcL2
      refine xJ (by kernel_rfl) (by kernel_rfl) ?_
      repeat (go_big_quiet_step ((first | (go_at_call 224; exact Aft.call (kE _ _ _ _)) | (go_at_call 118; exact Aft.same (Hcall.out _)))))
      refine wpQuiet_nil ?_
      rintro _ ⟨y, rfl⟩
      have hb3 := zR hb2 y.below
      generalize y.at_ = w3 at *
      go_wp2
      go_roundw
      case rel => exact ⟨0 + 1, by omega, by go_num, hstep.out, hb3⟩
      case measure => simp [intOf]; omega
    · have hkp : 0 < k := by omega
      have hor := aDm es k hkp hke hw
      have ht : (!(Op.bytesLess (es[k - 1]'(by omega)).key.toList es[k].key.toList)) = !xX (kv es) k := by rw [hor]; rfl
      have hi0 : 0 ≤ (k : Int) - 1 := by omega
      have hi1 : ((k : Int) - 1).toNat = k - 1 := by omega
      have hi2 : (0 : Int) < (k : Int) := by omega
      clear hk0 hor hw
      cases ho : xX (kv es) k with
      | false =>
       have hfin : Hid (um (kv es) = false) := wG (by rw [vY]; exact hke) ho
       rw [ho] at ht
       clear ho
       go_wp2
       have hcL0 : (wr.alloc (Obj.cells #[Value.string es[k].key, Value.int IntKind.i64 es[k].val, Value.bool es[k].gone] 102)).cell? ⟨wr.heap.size, 0, none⟩ = some (.string es[k].key) := cell_of_row _ _ _ _ _ (0, 0) (heap_alloc_new wr _)
       have hcL1 : (wr.alloc (Obj.cells #[Value.string es[k].key, Value.int IntKind.i64 es[k].val, Value.bool es[k].gone] 102)).cell? ⟨wr.heap.size, 1, none⟩ = some (.int .i64 es[k].val) := cell_of_row _ _ _ _ _ (0, 0) (heap_alloc_new wr _)
       have hcL2 : (wr.alloc (Obj.cells #[Value.string es[k].key, Value.int IntKind.i64 es[k].val, Value.bool es[k].gone] 102)).cell? ⟨wr.heap.size, 2, none⟩ = some (.bool es[k].gone) := cell_of_row _ _ _ _ _ (0, 0) (heap_alloc_new wr _)
       have hpl : wr.heap.size < (wr.alloc (Obj.cells #[Value.string es[k].key, Value.int IntKind.i64 es[k].val, Value.bool es[k].gone] 102)).heap.size := by simp
       have hb2 : Below w.heap.size w (wr.alloc (Obj.cells #[Value.string es[k].key, Value.int IntKind.i64 es[k].val, Value.bool es[k].gone] 102)) := hb.alloc hb.size _
       obtain ⟨b', off', he, _, _, hc3, hc4, hc6⟩ := hr.edt hb2 (show k - 1 < es.length by omega)
       obtain ⟨rfl, rfl⟩ : b = b' ∧ off = off' := by simpa using he
       have hbl4 := Nat.lt_of_lt_of_le hbl hb2.size
       generalize wr.alloc (Obj.cells #[Value.string es[k].key, Value.int IntKind.i64 es[k].val, Value.bool es[k].gone] 102) = w2 at *
       generalize wr.heap.size = p at *
       have hA0 := fun y : Aft w2 => y.cell hpl hcL0
       have hA1 := fun y : Aft w2 => y.cell hpl hcL1
       have hA2 := fun y : Aft w2 => y.cell hpl hcL2
       have hA3 := fun y : Aft w2 => y.cell hbl4 hc3
       have hA4 := fun y : Aft w2 => y.cell hbl4 hc4
       have hA5 := fun y : Aft w2 => y.cell hbl4 hc6
       refine xJ (by kernel_rfl) (by kernel_rfl) ?_
       repeat (go_big_quiet_step ((first | (go_at_call 224; exact Aft.call (kE _ _ _ _)) | (go_at_call 118; exact Aft.same (Hcall.out _)))))
       refine wpQuiet_nil ?_
       rintro _ ⟨y, rfl⟩
       have hb3 := zR hb2 y.below
       generalize y.at_ = w3 at *
       go_wp2
       go_ret
       exact ⟨xG hfin.out.symm, hb3⟩
      | true =>
       have hstep : Hid (∀ j, j < k + 1 → xX (kv es) j = true) := fun j hj => by
        rcases Nat.lt_or_ge j k with h | h
        · exact Hall.out j h
        · have : j = k := by omega
          subst this; exact ho
       rw [ho] at ht
       clear ho
       go_wp2
       have hcL0 : (wr.alloc (Obj.cells #[Value.string es[k].key, Value.int IntKind.i64 es[k].val, Value.bool es[k].gone] 102)).cell? ⟨wr.heap.size, 0, none⟩ = some (.string es[k].key) := cell_of_row _ _ _ _ _ (0, 0) (heap_alloc_new wr _)
       have hcL1 : (wr.alloc (Obj.cells #[Value.string es[k].key, Value.int IntKind.i64 es[k].val, Value.bool es[k].gone] 102)).cell? ⟨wr.heap.size, 1, none⟩ = some (.int .i64 es[k].val) := cell_of_row _ _ _ _ _ (0, 0) (heap_alloc_new wr _)
       have hcL2 : (wr.alloc (Obj.cells #[Value.string es[k].key, Value.int IntKind.i64 es[k].val, Value.bool es[k].gone] 102)).cell? ⟨wr.heap.size, 2, none⟩ = some (.bool es[k].gone) := cell_of_row _ _ _ _ _ (0, 0) (heap_alloc_new wr _)
       have hpl : wr.heap.size < (wr.alloc (Obj.cells #[Value.string es[k].key, Value.int IntKind.i64 es[k].val, Value.bool es[k].gone] 102)).heap.size := by simp
       have hb2 : Below w.heap.size w (wr.alloc (Obj.cells #[Value.string es[k].key, Value.int IntKind.i64 es[k].val, Value.bool es[k].gone] 102)) := hb.alloc hb.size _
       obtain ⟨b', off', he, _, _, hc3, hc4, hc6⟩ := hr.edt hb2 (show k - 1 < es.length by omega)
       obtain ⟨rfl, rfl⟩ : b = b' ∧ off = off' := by simpa using he
       have hbl4 := Nat.lt_of_lt_of_le hbl hb2.size
       generalize wr.alloc (Obj.cells #[Value.string es[k].key, Value.int IntKind.i64 es[k].val, Value.bool es[k].gone] 102) = w2 at *
       generalize wr.heap.size = p at *
       have hA0 := fun y : Aft w2 => y.cell hpl hcL0
       have hA1 := fun y : Aft w2 => y.cell hpl hcL1
       have hA2 := fun y : Aft w2 => y.cell hpl hcL2
       have hA3 := fun y : Aft w2 => y.cell hbl4 hc3
       have hA4 := fun y : Aft w2 => y.cell hbl4 hc4
       have hA5 := fun y : Aft w2 => y.cell hbl4 hc6
       refine xJ (by kernel_rfl) (by kernel_rfl) ?_
       repeat (go_big_quiet_step ((first | (go_at_call 224; exact Aft.call (kE _ _ _ _)) | (go_at_call 118; exact Aft.same (Hcall.out _)))))
       refine wpQuiet_nil ?_
       rintro _ ⟨y, rfl⟩
       have hb3 := zR hb2 y.below
       generalize y.at_ = w3 at *
       go_wp2
       go_roundw
       case rel => exact ⟨k + 1, by omega, by go_num, hstep.out, hb3⟩
       case measure => simp [intOf]; omega
  · have hfin : Hid (um (kv es) = true) := aA0 (fun i hi => Hall.out i (by rw [vY, Hlen.out] at hi; omega))
    go_wp2
    go_ret
    exact ⟨xG hfin.out.symm, hb⟩
set_option maxHeartbeats 2000000 in
set_option maxRecDepth 100000 in
theorem aBV (A : Option Addr) (n c : Nat) (es : List Edt) (w : World) (hr : Rd w 3 A n (xk es)) (hm : n ≤ maxLen) (hks : ∀ e ∈ es, e.key.size ≤ maxLen) :
 Calls Tryd.prog 62 #[.slice A n c] w fun e w' => e = .returned (.bool (xU es)) ∧ Below w.heap.size w w' := by
 have hm' := hm
 unfold maxLen at hm
 have hlen := hr.elen
 have Hlen := Lib.hid hlen; clear hlen
 by_cases hbig : 6 < n
 · have hfin : Hid (xU es = false) := ql (by rw [Hlen.out]; exact hbig)
   go_enter Tryd.func62, Tryd.ntmps62
   go_wp2
   go_ret
   exact ⟨xG hfin.out.symm, Below.refl _ _⟩
 have hn6 : n ≤ 6 := by omega
 clear hbig
 cases ho : um (kv es) with
 | false =>
  have hfin : Hid (xU es = false) := by show xU es = false; rw [xU, ho]; simp
  have hcall := qy A n c es w hr hm' hks
  rw [ho] at hcall
  have Hcall := Lib.hid hcall
  clear ho hcall
  go_enter Tryd.func62, Tryd.ntmps62
  go_wp2_with (go_at_call 110; refine Hcall.out.mono ?_; rintro e w1 ⟨rfl, hb1⟩)
  go_ret
  exact ⟨xG hfin.out.symm, hb1⟩
 | true =>
  have hcall := qy A n c es w hr hm' hks
  rw [ho] at hcall
  have Hcall := Lib.hid hcall
  have Ho := Lib.hid ho
  clear ho hcall
  go_enter Tryd.func62, Tryd.ntmps62
  go_wp2_with (go_at_call 110; refine Hcall.out.mono ?_; rintro e w1 ⟨rfl, hb1⟩)
  go_loopw [15] (fun i wr => ∃ k : Nat, k ≤ n ∧ i = .int .i64 k ∧ (∀ j, j < k → zm es j = true) ∧ Below w.heap.size w wr) (fun i _ => n - (intOf i).toNat)
  case atStart => exact ⟨0, Nat.zero_le _, rfl, fun j hj => absurd hj (by omega), hb1⟩
  case round =>
   obtain ⟨k, hk, rfl, hall, hb⟩ := hrel
   have Hall := Lib.hid hall; clear hall
   by_cases hlt : k < n
   · have hke : k < es.length := by rw [Hlen.out]; exact hlt
     obtain ⟨b, off, rfl, hbl, hbl2, hc1, hc2, hc3⟩ := hr.edt hb hke
     have hE := aDR es k hke
     generalize es[k] = ek at *
     obtain ⟨k1, v1, g1⟩ := ek
     simp only at hc1 hc2 hc3 hE
     have hcall := fun W => aAn v1 W
     change ∀ W, Calls _ _ _ W fun e w' => e = .returned (.bool (qW v1)) ∧ W = w' at hcall
     cases hv : qW v1 with
     | false =>
      have hfin : Hid (xU es = false) := vO hke (by rw [hE, hv]; rfl)
      rw [hv] at hcall
      have Hcall := Lib.hid hcall
      clear hv hcall hE
      go_wp2_with (go_at_call 101; refine (Hcall.out _).mono ?_; rintro e w1 ⟨rfl, rfl⟩)
      go_ret
      exact ⟨xG hfin.out.symm, hb.alloc hb.size _⟩
     | true =>
      rw [hv] at hcall
      rcases aBS g1 v1 with ⟨rfl, hne⟩ | hgood
      · have hfin : Hid (xU es = false) := vO hke (by rw [hE, hv, decide_eq_false hne]; rfl)
        have hne2 : (v1 != 0) = true := by simpa using hne
        have Hcall := Lib.hid hcall
        clear hv hcall hE
        go_wp2_with (go_at_call 101; refine (Hcall.out _).mono ?_; rintro e w1 ⟨rfl, rfl⟩)
        go_ret
        exact ⟨xG hfin.out.symm, hb.alloc hb.size _⟩
      have hE1 : Hid (zm es k = true) := by
       rcases hgood with rfl | ⟨rfl, rfl⟩
       · show zm es k = true; rw [hE, hv]; rfl
       · show zm es k = true; rw [hE, hv]; rfl
      have hstep : Hid (∀ j, j < k + 1 → zm es j = true) := fun j hj => by
       rcases Nat.lt_or_ge j k with h | h
       · exact Hall.out j h
       · have : j = k := by omega
         subst this; exact hE1.out
      clear hE hv
      rcases hgood with rfl | ⟨rfl, rfl⟩
      · have Hcall := Lib.hid hcall
        clear hcall
        go_wp2_with (go_at_call 101; refine (Hcall.out _).mono ?_; rintro e w1 ⟨rfl, rfl⟩)
        go_roundw
        case rel => exact ⟨k + 1, by omega, by go_num, hstep.out, hb.alloc hb.size _⟩
        case measure => simp [intOf]; omega
      · have Hcall := Lib.hid hcall
        clear hcall
        go_wp2_with (go_at_call 101; refine (Hcall.out _).mono ?_; rintro e w1 ⟨rfl, rfl⟩)
        go_roundw
        case rel => exact ⟨k + 1, by omega, by go_num, hstep.out, hb.alloc hb.size _⟩
        case measure => simp [intOf]; omega
   · have hfin : Hid (xU es = true) := aBO (by rw [Hlen.out]; exact hn6) (fun i hi => ⟨aEj Ho.out (by rw [vY]; exact hi), Hall.out i (by rw [Hlen.out] at hi; omega)⟩)
     go_wp2
     go_ret
     exact ⟨xG hfin.out.symm, hb⟩
end Go.Proofs.YtodckioppgjbdaaDoor
namespace Go.Proofs.YtodckioppgjbdaaDoor.AM
open Go Go.RowKit
attribute [local irreducible] xN xO xV yX yh Pre ACG
end Go.Proofs.YtodckioppgjbdaaDoor.AM
namespace Go.Proofs.YtodckioppgjbdaaDoor.AM
open Go Go.RowKit
attribute [local irreducible] xN xO xV yX yh Pre ACG
theorem aIO : ∀ vs w, (callFunc 59 vs).run Tryd.prog w = .ok (.enter 59 vs) w := zY Tryd.func59 (by kernel_rfl) (by kernel_rfl)
theorem aEI {es : List Edt} {b : Bool} (hb : xU es = b) (hm : es.length ≤ maxLen) (hk : ∀ e ∈ es, e.key.size ≤ maxLen) : AC Tryd.prog 59 [.lst 3 (es.map zu)] ⟨.v (.bool b), []⟩ :=
 hb ▸ wU aIO rfl fun w S0 vs hS hv => by
  obtain ⟨u, rfl, h1⟩ := vI hv
  obtain ⟨A, c, rfl, _, _, hr⟩ := kR hS h1
  exact aD2 A es.length c es w hr hm hk
theorem aIP : ∀ vs w, (callFunc 62 vs).run Tryd.prog w = .ok (.enter 62 vs) w := zY Tryd.func62 (by kernel_rfl) (by kernel_rfl)
theorem j5 {es : List Edt} {b : Bool} (hb : xU es = b) (hm : es.length ≤ maxLen) (hk : ∀ e ∈ es, e.key.size ≤ maxLen) : AC Tryd.prog 62 [.lst 3 (es.map zu)] ⟨.v (.bool b), []⟩ :=
 hb ▸ wU aIP rfl fun w S0 vs hS hv => by
  obtain ⟨u, rfl, h1⟩ := vI hv
  obtain ⟨A, c, rfl, _, _, hr⟩ := kR hS h1
  exact aBV A es.length c es w hr hm hk
end Go.Proofs.YtodckioppgjbdaaDoor.AM
namespace Go.Proofs.YtodckioppgjbdaaDoor.AM
open Go Go.RowKit
attribute [local irreducible] xN xO xV yX yh Pre ACG
end Go.Proofs.YtodckioppgjbdaaDoor.AM
namespace Go.Proofs.YtodckioppgjbdaaDoor.AM
open Go Go.RowKit
theorem aEO {l : List Edt} (h : xU l = true) : l.length ≤ 6 := by
 unfold xU at h
 simp only [Bool.and_eq_true, decide_eq_true_eq] at h
 exact h.1
attribute [local irreducible] xN xO xV yX yh Pre ACG
end Go.Proofs.YtodckioppgjbdaaDoor.AM
namespace Go.Proofs.YtodckioppgjbdaaDoor.AM
open Go Go.RowKit
theorem jd {t : ByteArray} {i j : Nat} : (t.extract i j).size ≤ t.size := by rw [ByteArray.size_extract]; omega
def y8 (t : ByteArray) (c : Nat) : Nat → List ByteArray × Nat
 | 0 => ([], 0)
 | i + 1 => if h : i < t.size then (if (t[i]).toNat = c then ((y8 t c i).1 ++ [t.extract (y8 t c i).2 i], i + 1) else y8 t c i) else y8 t c i
def xY (t : ByteArray) (c : Nat) : List ByteArray := (y8 t c t.size).1 ++ [t.extract (y8 t c t.size).2 t.size]
theorem jb {t : ByteArray} {c i : Nat} (h : i < t.size) : y8 t c (i + 1) = if (t[i]).toNat = c then ((y8 t c i).1 ++ [t.extract (y8 t c i).2 i], i + 1) else y8 t c i := by rw [y8, dif_pos h]
theorem aAS {t : ByteArray} {c : Nat} : ∀ {i : Nat}, i ≤ t.size → (y8 t c i).2 ≤ i ∧ (y8 t c i).1.length ≤ i ∧ ∀ x ∈ (y8 t c i).1, x.size ≤ t.size
 | 0, _ => ⟨Nat.le_refl _, Nat.le_refl _, fun x hx => by cases hx⟩
 | i + 1, h => by
  obtain ⟨h1, h2, h3⟩ := aAS (t := t) (c := c) (i := i) (by omega)
  rw [jb (by omega)]
  split
  · refine ⟨Nat.le_refl _, by simp; omega, fun x hx => ?_⟩
    simp only [List.mem_append, List.mem_singleton] at hx
    rcases hx with hx | rfl
    · exact h3 x hx
    · exact jd
  · exact ⟨by omega, by omega, h3⟩
theorem kL {t : ByteArray} {c : Nat} : 1 ≤ (xY t c).length ∧ (xY t c).length ≤ t.size + 1 ∧ ∀ x ∈ xY t c, x.size ≤ t.size := by
 obtain ⟨h1, h2, h3⟩ := aAS (t := t) (c := c) (i := t.size) (Nat.le_refl _)
 unfold xY
 refine ⟨by simp, by simp; omega, fun x hx => ?_⟩
 simp only [List.mem_append, List.mem_singleton] at hx
 rcases hx with hx | rfl
 · exact h3 x hx
 · exact jd
def zJ (t : ByteArray) : Nat → Option Nat
 | 0 => some 0
 | i + 1 => if h : i < t.size then (match zJ t i with | none => none | some n => if 48 ≤ (t[i]).toNat ∧ (t[i]).toNat ≤ 57 then some (n * 10 + (t[i]).toNat - 48) else none) else none
def zl (t : ByteArray) : Bool := if h : 0 < t.size then decide ((t[0]).toNat = 45) else false
def xh (t : ByteArray) : ByteArray := if zl t = true then t.extract 1 t.size else t
def yP (t : ByteArray) : Int × Bool :=
 if (xh t).size = 0 ∨ 18 < (xh t).size then (0, false)
 else if (∃ h : 0 < (xh t).size, ((xh t)[0]).toNat = 48) ∧ (1 < (xh t).size ∨ zl t = true) then (0, false)
 else match zJ (xh t) (xh t).size with
  | none => (0, false)
  | some n => (if zl t = true then -(n : Int) else n, true)
theorem aAY {t : ByteArray} : ∀ {i n : Nat}, zJ t i = some n → n < 10 ^ i
 | 0, n, h => by simp [zJ] at h; subst h; simp
 | i + 1, n, h => by
  unfold zJ at h
  split at h
  · rename_i hi
    cases hm : zJ t i with
    | none => rw [hm] at h; cases h
    | some m =>
     rw [hm] at h
     dsimp only at h
     split at h
     · have := aAY hm
       simp only [Option.some.injEq] at h
       rw [Nat.pow_succ]; omega
     · cases h
  · cases h
def yB (t : ByteArray) : ByteArray × Int × Bool := match xY t 61 with
 | [a, b] => (a, (yP b).1, (yP b).2)
 | _ => (⟨#[]⟩, 0, false)
section
variable {Θ : Tab} {s : St} {d : Option Tmp} {ty : TypeId} {pos : String} {after : Array Edge} {g : Option (Nat × Bool)}
theorem jM {x lo : Operand} {a : ByteArray} {k : IntKind} {i : Nat} (hi : i ≤ a.size) (hx : s.ev x = .v (.string a)) (hl : s.ev lo = .v (.int k (i : Int))) : Pre Tryd.prog Θ ⟨d, .slice 9 x (some lo) none none, ty, pos, after, g⟩ s ⟨.v (.string (a.extract i a.size)), none⟩ := by
 refine .inl ⟨.string a, .string (a.extract i a.size), by rw [hx]; rfl, fun y hy => ?_, fun w => ?_, rfl, rfl⟩
 · simp only [Option.toList, List.append_nil, List.mem_cons, List.not_mem_nil, or_false] at hy
   subst hy; rw [hl]; rfl
 · simp only [Option.map_some, Option.map_none, hl, xq, Option.getD_some]
   rw [run_sliceAt_string w _ _ _ _ _ Tryd.underlying9]
   have := run_slice_string_l (P := Tryd.prog) w 9 a Tryd.underlying9 k (i : Int) (by omega) (by omega)
   simpa using this
end
attribute [local irreducible] xN xO xV yX yh Pre ACG
theorem qg {t : ByteArray} {c : Nat} (ht : t.size ≤ 1000000) : AC Tryd.prog 104 [.v (.string t), .v (.int .u8 (c : Int))] ⟨.own 0, [⟨9, 1, (xY t c).map aAM⟩]⟩ := by
 refine qrf Tryd.func104 Tryd.ntmps104 Tryd.results104 ?_; conv => whnf
 repeat ((refine qz ?_; conv => whnf))
 refine jh (ι := { i : Nat // i ≤ t.size }) (fun i => ⟨[(0, .v (.string t)), (1, .v (.int .u8 (c : Int))), (5, .own 9), (6, .v (.int .i64 ((y8 t c i.1).2 : Int))), (7, .v (.int .i64 (i.1 : Int)))], [(9, ⟨9, 1, (y8 t c i.1).1.map aAM⟩)]⟩) (fun i => t.size - i.1) ⟨0, Nat.zero_le _⟩ (by exact qle) ?_
 rintro ⟨i, hi⟩
 dsimp only
 obtain ⟨h1, h2, h3⟩ := aAS (c := c) hi
 by_cases hlt : i < t.size
 · have hs := jb (c := c) hlt
   generalize y8 t c i = S at hs h1 h2 h3 ⊢
   obtain ⟨out, frm⟩ := S
   dsimp only at hs h1 h2 h3 ⊢
   conv => whnf
   by_cases hc : (t[i]).toNat = c
   · rw [if_pos hc] at hs
     repeat ((first | refine qz ?_ | refine qp (xR (yJ 9) rfl rfl hlt) ?_ | refine qp (aJD (i := frm) (j := i) h1 (by omega) rfl rfl rfl) ?_); conv => whnf)
     refine qr (kN (f := aAM) (xs := out) (t.extract frm i) (out ++ [t.extract frm i]) rfl (by omega) rfl rfl rfl rfl rfl rfl rfl) ?_
     conv => whnf
     repeat ((refine qz ?_; conv => whnf))
     exact ⟨⟨i + 1, hlt⟩, by rw [hs]; exact qle, by simp; omega⟩
   · rw [if_neg hc] at hs
     repeat ((first | refine qz ?_ | refine qp (xR (yJ 9) rfl rfl hlt) ?_); conv => whnf)
     exact ⟨⟨i + 1, hlt⟩, by rw [hs]; exact qle, by simp; omega⟩
 · have e : i = t.size := by omega
   subst e
   unfold xY
   generalize y8 t c t.size = S at h1 h2 h3 ⊢
   obtain ⟨out, frm⟩ := S
   dsimp only at h1 h2 h3 ⊢
   conv => whnf
   repeat ((first | refine qz ?_ | refine qp (jM (i := frm) h1 rfl rfl) ?_); conv => whnf)
   refine qr (kN (f := aAM) (xs := out) (t.extract frm t.size) (out ++ [t.extract frm t.size]) rfl (by omega) rfl rfl rfl rfl rfl rfl rfl) ?_
   conv => whnf
   repeat ((refine qz ?_; conv => whnf))
   exact aIb rfl rfl rfl
theorem wY {t : ByteArray} {i : Nat} (hi : i < t.size) : zJ t (i + 1) = (match zJ t i with | none => none | some n => if 48 ≤ (t[i]).toNat ∧ (t[i]).toNat ≤ 57 then some (n * 10 + (t[i]).toNat - 48) else none) := by rw [zJ, dif_pos hi]
theorem ul {t : ByteArray} {i : Nat} (h : zJ t i = none) : ∀ {j : Nat}, i ≤ j → zJ t j = none
 | 0, hj => by
  have : i = 0 := by omega
  subst this; exact h
 | j + 1, hj => by
  by_cases e : i = j + 1
  · subst e; exact h
  · have := ul h (j := j) (by omega)
    unfold zJ
    split
    · rw [this]
    · rfl
theorem aIh {t : ByteArray} (h : t.size = 0) : zl t = false := by unfold zl; rw [dif_neg (by omega)]
theorem jr {t : ByteArray} (h : 0 < t.size) : zl t = decide ((t[0]).toNat = 45) := by unfold zl; rw [dif_pos h]
def nmR (u : ByteArray) (sg : Bool) : Int × Bool :=
 if u.size = 0 ∨ 18 < u.size then (0, false)
 else if (∃ h : 0 < u.size, (u[0]).toNat = 48) ∧ (1 < u.size ∨ sg = true) then (0, false)
 else match zJ u u.size with
  | none => (0, false)
  | some n => (if sg = true then -(n : Int) else n, true)
theorem aEg (t : ByteArray) : yP t = nmR (xh t) (zl t) := rfl
theorem aCv {u : ByteArray} {sg : Bool} {n : Nat} (h0 : ¬ u.size = 0) (h1 : ¬ 18 < u.size) (h2 : ¬ ((∃ h : 0 < u.size, (u[0]).toNat = 48) ∧ (1 < u.size ∨ sg = true))) (h : zJ u u.size = some n) : nmR u sg = (if sg = true then -(n : Int) else n, true) := by
 unfold nmR; rw [if_neg (by omega), if_neg h2, h]
theorem aAX {u : ByteArray} {sg : Bool} (h : zJ u u.size = none) : nmR u sg = (0, false) := by
 unfold nmR; rw [h]
 split
 · rfl
 · split <;> rfl
set_option maxHeartbeats 4000000 in
theorem aCd {t : ByteArray} (ht : t.size ≤ 1000000) (h0 : ¬ t.size = 0) (hsg : ¬ (t[0]'(by omega)).toNat = 45) : AC Tryd.prog 140 [.v (.string t)] ⟨.tup [.v (.int .i64 (nmR t false).1), .v (.bool (nmR t false).2)], []⟩ := by
 have h0' : 0 < t.size := by omega
 have a0 : ¬ t.size = 0 := h0
 have hU : 0 < t.size := h0'
 by_cases a1 : 18 < t.size
 · have : nmR t false = (0, false) := by unfold nmR; rw [if_pos (.inr a1)]
   rw [this]
   refine qrf Tryd.func140 Tryd.ntmps140 Tryd.results140 ?_; conv => whnf
   repeat ((first | refine qz ?_ | refine qp (xR (yJ 9) rfl rfl hU) ?_ | refine qp (xR (yJ 9) rfl rfl h0') ?_); conv => whnf)
   exact zF rfl rfl
 by_cases a2 : ((t[0]'hU).toNat = 48 ∧ (1 < t.size ∨ false = true))
 · have : nmR t false = (0, false) := by unfold nmR; rw [if_neg (by omega), if_pos ⟨⟨hU, a2.1⟩, a2.2⟩]
   rw [this]
   have a3 := a2.1
   have a4 : 1 < t.size := by rcases a2.2 with h | h; exact h; cases h
   refine qrf Tryd.func140 Tryd.ntmps140 Tryd.results140 ?_; conv => whnf
   repeat ((first | refine qz ?_ | refine qp (xR (yJ 9) rfl rfl hU) ?_ | refine qp (xR (yJ 9) rfl rfl h0') ?_); conv => whnf)
   exact zF rfl rfl
 by_cases a3 : ((t[0]'hU).toNat = 48)
 · have a4 : ¬ 1 < t.size := fun h => a2 ⟨a3, .inl h⟩
   refine qrf Tryd.func140 Tryd.ntmps140 Tryd.results140 ?_; conv => whnf
   repeat ((first | refine qz ?_ | refine qp (xR (yJ 9) rfl rfl hU) ?_ | refine qp (xR (yJ 9) rfl rfl h0') ?_); conv => whnf)
   refine jh (ι := { p : Nat × Nat // p.1 ≤ t.size ∧ zJ t p.1 = some p.2 }) (fun p => ⟨[(0, .v (.string t)), (4, .v (.int .i64 (1))), (5, .v (.int .i64 (p.1.2 : Int))), (6, .v (.int .i64 (p.1.1 : Int)))], []⟩) (fun p => t.size - p.1.1) ⟨(0, 0), Nat.zero_le _, rfl⟩ (by exact qle) ?_
   rintro ⟨⟨i, n⟩, hi, hn⟩
   dsimp only at hi hn ⊢
   have hp := aAY hn
   conv => whnf
   by_cases hlt : i < t.size
   case neg =>
    have e : i = t.size := by omega
    subst e
    have hp18 : n < 10 ^ 18 := Nat.lt_of_lt_of_le hp (Nat.pow_le_pow_right (by omega) (by omega))
    rw [aCv a0 a1 (by rintro ⟨⟨_, h1⟩, h2⟩; exact a2 ⟨h1, h2⟩) hn]
    repeat ((first | refine qz ?_ | refine qp (zo (ja (c := (n : Int)) (by omega) (by omega) (by omega)) rfl rfl rfl) ?_); conv => whnf)
    exact zF rfl rfl
   have hp17 : n < 10 ^ 17 := Nat.lt_of_lt_of_le hp (Nat.pow_le_pow_right (by omega) (by omega))
   have hs := wY hlt
   rw [hn] at hs
   dsimp only at hs
   have h8 := (t[i]).toNat_lt
   by_cases d0 : 48 ≤ (t[i]).toNat
   case neg =>
    rw [if_neg (by omega)] at hs
    rw [aAX (ul hs hlt)]
    repeat ((first | refine qz ?_ | refine qp (xR (yJ 9) rfl rfl hlt) ?_); conv => whnf)
    exact zF rfl rfl
   by_cases d1 : (t[i]).toNat ≤ 57
   case neg =>
    rw [if_neg (by omega)] at hs
    rw [aAX (ul hs hlt)]
    repeat ((first | refine qz ?_ | refine qp (xR (yJ 9) rfl rfl hlt) ?_); conv => whnf)
    exact zF rfl rfl
   rw [if_pos ⟨d0, d1⟩] at hs
   repeat ((first | refine qp (zo (ja (c := ((n * 10 : Nat) : Int)) (by omega) (by omega) (by omega)) rfl rfl rfl) ?_ | refine qp (zo (aBK (c := ((n * 10 + (t[i]).toNat : Nat) : Int)) (by omega) (by omega) (by omega)) rfl rfl rfl) ?_ | refine qp (zo (aCr (c := ((n * 10 + (t[i]).toNat - 48 : Nat) : Int)) (by omega) (by omega) (by omega)) rfl rfl rfl) ?_ | refine qz ?_ | refine qp (xR (yJ 9) rfl rfl hlt) ?_ | refine qp (aFW rfl h8) ?_); conv => whnf)
   exact ⟨⟨(i + 1, n * 10 + (t[i]).toNat - 48), hlt, hs⟩, by exact qle, by simp; omega⟩
 · refine qrf Tryd.func140 Tryd.ntmps140 Tryd.results140 ?_; conv => whnf
   repeat ((first | refine qz ?_ | refine qp (xR (yJ 9) rfl rfl hU) ?_ | refine qp (xR (yJ 9) rfl rfl h0') ?_); conv => whnf)
   refine jh (ι := { p : Nat × Nat // p.1 ≤ t.size ∧ zJ t p.1 = some p.2 }) (fun p => ⟨[(0, .v (.string t)), (4, .v (.int .i64 (1))), (5, .v (.int .i64 (p.1.2 : Int))), (6, .v (.int .i64 (p.1.1 : Int)))], []⟩) (fun p => t.size - p.1.1) ⟨(0, 0), Nat.zero_le _, rfl⟩ (by exact qle) ?_
   rintro ⟨⟨i, n⟩, hi, hn⟩
   dsimp only at hi hn ⊢
   have hp := aAY hn
   conv => whnf
   by_cases hlt : i < t.size
   case neg =>
    have e : i = t.size := by omega
    subst e
    have hp18 : n < 10 ^ 18 := Nat.lt_of_lt_of_le hp (Nat.pow_le_pow_right (by omega) (by omega))
    rw [aCv a0 a1 (by rintro ⟨⟨_, h1⟩, h2⟩; exact a2 ⟨h1, h2⟩) hn]
    repeat ((first | refine qz ?_ | refine qp (zo (ja (c := (n : Int)) (by omega) (by omega) (by omega)) rfl rfl rfl) ?_); conv => whnf)
    exact zF rfl rfl
   have hp17 : n < 10 ^ 17 := Nat.lt_of_lt_of_le hp (Nat.pow_le_pow_right (by omega) (by omega))
   have hs := wY hlt
   rw [hn] at hs
   dsimp only at hs
   have h8 := (t[i]).toNat_lt
   by_cases d0 : 48 ≤ (t[i]).toNat
   case neg =>
    rw [if_neg (by omega)] at hs
    rw [aAX (ul hs hlt)]
    repeat ((first | refine qz ?_ | refine qp (xR (yJ 9) rfl rfl hlt) ?_); conv => whnf)
    exact zF rfl rfl
   by_cases d1 : (t[i]).toNat ≤ 57
   case neg =>
    rw [if_neg (by omega)] at hs
    rw [aAX (ul hs hlt)]
    repeat ((first | refine qz ?_ | refine qp (xR (yJ 9) rfl rfl hlt) ?_); conv => whnf)
    exact zF rfl rfl
   rw [if_pos ⟨d0, d1⟩] at hs
   repeat ((first | refine qp (zo (ja (c := ((n * 10 : Nat) : Int)) (by omega) (by omega) (by omega)) rfl rfl rfl) ?_ | refine qp (zo (aBK (c := ((n * 10 + (t[i]).toNat : Nat) : Int)) (by omega) (by omega) (by omega)) rfl rfl rfl) ?_ | refine qp (zo (aCr (c := ((n * 10 + (t[i]).toNat - 48 : Nat) : Int)) (by omega) (by omega) (by omega)) rfl rfl rfl) ?_ | refine qz ?_ | refine qp (xR (yJ 9) rfl rfl hlt) ?_ | refine qp (aFW rfl h8) ?_); conv => whnf)
   exact ⟨⟨(i + 1, n * 10 + (t[i]).toNat - 48), hlt, hs⟩, by exact qle, by simp; omega⟩
set_option maxHeartbeats 4000000 in
theorem aCe {t u : ByteArray} (hb : u = t.extract 1 t.size) (ht : t.size ≤ 1000000) (h0 : ¬ t.size = 0) (hsg : (t[0]'(by omega)).toNat = 45) : AC Tryd.prog 140 [.v (.string t)] ⟨.tup [.v (.int .i64 (nmR u true).1), .v (.bool (nmR u true).2)], []⟩ := by
 have h0' : 0 < t.size := by omega
 have hu : u.size ≤ t.size := by rw [hb]; exact jd
 by_cases a0 : u.size = 0
 · have : nmR u true = (0, false) := by unfold nmR; rw [if_pos (.inl a0)]
   rw [this]
   have hU : 0 < t.size := h0'
   refine qrf Tryd.func140 Tryd.ntmps140 Tryd.results140 ?_; conv => whnf
   repeat (first | (refine qz ?_; conv => whnf) | (refine qp (xR (yJ 9) rfl rfl hU) ?_; conv => whnf) | (refine qp (xR (yJ 9) rfl rfl h0') ?_; conv => whnf) | (refine qp (jM (i := 1) (by omega) rfl rfl) ?_; rw [← hb]; conv => whnf))
   exact zF rfl rfl
 have hU : 0 < u.size := by omega
 by_cases a1 : 18 < u.size
 · have : nmR u true = (0, false) := by unfold nmR; rw [if_pos (.inr a1)]
   rw [this]
   refine qrf Tryd.func140 Tryd.ntmps140 Tryd.results140 ?_; conv => whnf
   repeat (first | (refine qz ?_; conv => whnf) | (refine qp (xR (yJ 9) rfl rfl hU) ?_; conv => whnf) | (refine qp (xR (yJ 9) rfl rfl h0') ?_; conv => whnf) | (refine qp (jM (i := 1) (by omega) rfl rfl) ?_; rw [← hb]; conv => whnf))
   exact zF rfl rfl
 by_cases a2 : ((u[0]'hU).toNat = 48 ∧ (1 < u.size ∨ true = true))
 · have : nmR u true = (0, false) := by unfold nmR; rw [if_neg (by omega), if_pos ⟨⟨hU, a2.1⟩, a2.2⟩]
   rw [this]
   have a3 := a2.1
   by_cases a4 : 1 < u.size
   · refine qrf Tryd.func140 Tryd.ntmps140 Tryd.results140 ?_; conv => whnf
     repeat (first | (refine qz ?_; conv => whnf) | (refine qp (xR (yJ 9) rfl rfl hU) ?_; conv => whnf) | (refine qp (xR (yJ 9) rfl rfl h0') ?_; conv => whnf) | (refine qp (jM (i := 1) (by omega) rfl rfl) ?_; rw [← hb]; conv => whnf))
     exact zF rfl rfl
   · refine qrf Tryd.func140 Tryd.ntmps140 Tryd.results140 ?_; conv => whnf
     repeat (first | (refine qz ?_; conv => whnf) | (refine qp (xR (yJ 9) rfl rfl hU) ?_; conv => whnf) | (refine qp (xR (yJ 9) rfl rfl h0') ?_; conv => whnf) | (refine qp (jM (i := 1) (by omega) rfl rfl) ?_; rw [← hb]; conv => whnf))
     exact zF rfl rfl
 have a3 : ¬ ((u[0]'hU).toNat = 48) := fun h => a2 ⟨h, .inr rfl⟩
 refine qrf Tryd.func140 Tryd.ntmps140 Tryd.results140 ?_; conv => whnf
 repeat (first | (refine qz ?_; conv => whnf) | (refine qp (xR (yJ 9) rfl rfl hU) ?_; conv => whnf) | (refine qp (xR (yJ 9) rfl rfl h0') ?_; conv => whnf) | (refine qp (jM (i := 1) (by omega) rfl rfl) ?_; rw [← hb]; conv => whnf))
 refine jh (ι := { p : Nat × Nat // p.1 ≤ u.size ∧ zJ u p.1 = some p.2 }) (fun p => ⟨[(0, .v (.string u)), (4, .v (.int .i64 (-1))), (5, .v (.int .i64 (p.1.2 : Int))), (6, .v (.int .i64 (p.1.1 : Int)))], []⟩) (fun p => u.size - p.1.1) ⟨(0, 0), Nat.zero_le _, rfl⟩ (by exact qle) ?_
 rintro ⟨⟨i, n⟩, hi, hn⟩
 dsimp only at hi hn ⊢
 have hp := aAY hn
 conv => whnf
 by_cases hlt : i < u.size
 case neg =>
  have e : i = u.size := by omega
  subst e
  have hp18 : n < 10 ^ 18 := Nat.lt_of_lt_of_le hp (Nat.pow_le_pow_right (by omega) (by omega))
  rw [aCv a0 a1 (by rintro ⟨⟨_, h1⟩, h2⟩; exact a2 ⟨h1, h2⟩) hn]
  repeat ((first | refine qz ?_ | refine qp (zo (ja (c := -(n : Int)) (by omega) (by omega) (by omega)) rfl rfl rfl) ?_); conv => whnf)
  exact zF rfl rfl
 have hp17 : n < 10 ^ 17 := Nat.lt_of_lt_of_le hp (Nat.pow_le_pow_right (by omega) (by omega))
 have hs := wY hlt
 rw [hn] at hs
 dsimp only at hs
 have h8 := (u[i]).toNat_lt
 by_cases d0 : 48 ≤ (u[i]).toNat
 case neg =>
  rw [if_neg (by omega)] at hs
  rw [aAX (ul hs hlt)]
  repeat ((first | refine qz ?_ | refine qp (xR (yJ 9) rfl rfl hlt) ?_); conv => whnf)
  exact zF rfl rfl
 by_cases d1 : (u[i]).toNat ≤ 57
 case neg =>
  rw [if_neg (by omega)] at hs
  rw [aAX (ul hs hlt)]
  repeat ((first | refine qz ?_ | refine qp (xR (yJ 9) rfl rfl hlt) ?_); conv => whnf)
  exact zF rfl rfl
 rw [if_pos ⟨d0, d1⟩] at hs
 repeat ((first | refine qp (zo (ja (c := ((n * 10 : Nat) : Int)) (by omega) (by omega) (by omega)) rfl rfl rfl) ?_ | refine qp (zo (aBK (c := ((n * 10 + (u[i]).toNat : Nat) : Int)) (by omega) (by omega) (by omega)) rfl rfl rfl) ?_ | refine qp (zo (aCr (c := ((n * 10 + (u[i]).toNat - 48 : Nat) : Int)) (by omega) (by omega) (by omega)) rfl rfl rfl) ?_ | refine qz ?_ | refine qp (xR (yJ 9) rfl rfl hlt) ?_ | refine qp (aFW rfl h8) ?_); conv => whnf)
 exact ⟨⟨(i + 1, n * 10 + (u[i]).toNat - 48), hlt, hs⟩, by exact qle, by simp; omega⟩
theorem aDC {t : ByteArray} (ht : t.size ≤ 1000000) : AC Tryd.prog 140 [.v (.string t)] ⟨.tup [.v (.int .i64 (yP t).1), .v (.bool (yP t).2)], []⟩ := by
 rw [aEg]
 by_cases h0 : t.size = 0
 · have hb : xh t = t := by unfold xh; rw [aIh h0]; rfl
   have : nmR (xh t) (zl t) = (0, false) := by
    rw [hb]; unfold nmR; exact if_pos (.inl h0)
   rw [this]
   refine qrf Tryd.func140 Tryd.ntmps140 Tryd.results140 ?_; conv => whnf
   repeat ((refine qz ?_; conv => whnf))
   exact zF rfl rfl
 have h1 := jr (t := t) (by omega)
 by_cases hs : (t[0]'(by omega)).toNat = 45
 · rw [decide_eq_true hs] at h1
   have hb : xh t = t.extract 1 t.size := by unfold xh; rw [h1]; rfl
   rw [h1]
   exact aCe hb ht h0 hs
 · rw [decide_eq_false hs] at h1
   have hb : xh t = t := by unfold xh; rw [h1]; rfl
   rw [h1, hb]
   exact aCd ht h0 hs
end Go.Proofs.YtodckioppgjbdaaDoor.AM
namespace Go.Proofs.YtodckioppgjbdaaDoor.AM
open Go Go.RowKit Go.ChangeShapes Go.WideShapes Go.Deep
structure Wsh where
 kind : Int
 name : ByteArray
 source : ByteArray
 key : ByteArray
 edits : List Edt
structure Mom where
 client : Int
 wish : Int
 step : Int
 op : Opr
 res : Rst
def Wsh.ok (o : Wsh) (N : Nat) : Prop := o.name.size ≤ N ∧ o.source.size ≤ N ∧ o.key.size ≤ N ∧ o.edits.length ≤ N ∧ ∀ e ∈ o.edits, e.key.size ≤ N
section
variable {S : Nat → Prop} {w : World}
end
section
variable {H : Type} {enc : TypeId × Value → H} {P : Program} {w : World} {base : Nat} {held : Bool}
end
end Go.Proofs.YtodckioppgjbdaaDoor.AM
namespace Go.Proofs.YtodckioppgjbdaaDoor.AM
open Go Go.RowKit
abbrev eB : ByteArray := ⟨#[]⟩
attribute [local irreducible] xN xO xV yX yh Pre ACG
end Go.Proofs.YtodckioppgjbdaaDoor.AM
namespace Go.Proofs.YtodckioppgjbdaaDoor.AM
open Go Go.RowKit
structure Evt where
 ver : Int
 head : Int
 lag : Bool
def aIS (e : Evt) : AV := .agg [.v (.int .i64 e.ver), .v (.int .i64 e.head), .v (.bool e.lag)]
theorem aAu (e : Evt) : yA (aIS e) := by unfold aIS; simp [yA, yw]
theorem aHR {a b : Evt} : a = b ↔ a.ver = b.ver ∧ a.head = b.head ∧ a.lag = b.lag := by
 cases a; cases b; simp
instance : DecidableEq Evt := fun a b => decidable_of_iff _ aHR.symm
structure Wat where
 name : ByteArray
 seen : Int
 queue : List Evt
def Wat.ok (w : Wat) (N : Nat) : Prop := w.name.size ≤ N ∧ w.queue.length ≤ N
attribute [local irreducible] xN xO xV yX yh Pre ACG
end Go.Proofs.YtodckioppgjbdaaDoor.AM
namespace Go.Proofs.YtodckioppgjbdaaDoor.AM
open Go Go.RowKit
def aIp (cap : Nat) (es : List AV) : AbsR where
 rel w b T := (∀ g, T g ↔ g = b) ∧ ∃ s r buf, w.heap[b]? = some (.chan cap buf false s r false) ∧ buf.toList.map some = es.map xq
 frame := by
  rintro w w' b T h ⟨h1, s, r, buf, h2, h3⟩
  exact ⟨h1, s, r, buf, (h b ((h1 b).2 rfl)).trans h2, h3⟩
abbrev aFC (cap : Nat) (es : List AV) : OB := ⟨.c (aIp cap es), 2, []⟩
section
variable {P : Program} {f : FuncId} {args : List AV} {cap : Nat} {es es' : List AV}
end
end Go.Proofs.YtodckioppgjbdaaDoor.AM
namespace Go.Proofs.YtodckioppgjbdaaDoor.AM
open Go Go.RowKit Go.Conc
section
variable {P : Program} {Θ : Tab} {n : Nat}
end
section
variable {P : Program} {Θ : Tab} {n : Nat} {ops : Array Oper} {K : St → Prop} {s : St} {k : Nat}
variable {W : World} {M : Hand} {S0 : Nat → Prop} {S : Nat → Prop} {B : Nat → Nat} {V : Nat → Value} {T : Nat → Nat → Prop} {tmps : Array Value} {w : World}
theorem SimW.chan (h : SimW W M S0 s tmps w S B V T) {l cap : Nat} {es : List AV} (hl : s.hp l = some (aFC cap es)) :
 ∃ sq rq buf, w.heap[B l]? = some (.chan cap buf false sq rq false) ∧ buf.toList.map some = es.map xq ∧
  ∀ (buf' : Array Value) (s' r' : Nat) (es' : List AV), buf'.toList.map some = es'.map xq → ∃ T', SimW W M S0 (s.set l (some (aFC cap es'))) tmps (w.setChan (B l) cap buf' false s' r' false) S B V T' := by
 obtain ⟨t0, cs, ⟨_, r0⟩, r2, r3, r4, r5, r6⟩ := h.rows.ro l _ hl
 obtain ⟨hT, sq, rq, buf, hc, hq⟩ := r0
 refine ⟨sq, rq, buf, hc, hq, fun buf' s' r' es' he => ?_⟩
 have hlt := (Array.getElem?_eq_some_iff.1 hc).1
 have hTb : T l (B l) := (hT _).2 rfl
 have hoth : ∀ g, g ≠ B l → (w.setChan (B l) cap buf' false s' r' false).heap[g]? = w.heap[g]? := fun g hg => by
  simp [World.setChan, Array.getElem?_setIfInBounds_ne (Ne.symm hg)]
 have hown : ∀ g, ¬ (V l).ownBlock = some g := fun g e => by
  have := r6 g e
  subst this
  exact h.rows.nd l _ _ hl e hTb
 have hgr : Grown w (w.setChan (B l) cap buf' false s' r' false) (Blk V T l) := ⟨rfl, rfl, rfl, by simp [World.setChan], fun g _ hg => hoth g (fun e => hg (by rw [e]; exact .inr hTb))⟩
 refine ⟨_, h.inpl (ob' := aFC cap es') hl rfl hgr ?_ (fun g hg => hg)⟩
 exact ⟨t0, [], ⟨fun t' e => (by cases e), hT, s', r', buf', heap_setChan _ _ _ _ _ _ _ _ hlt, he⟩, ⟨rfl, rfl, fun g hg => by rw [(hT g).1 hg]; simp [World.setChan]; exact hlt⟩, fun x hx => (by cases hx), Nat.succ_pos 1, by
  have := kG (w' := w.setChan (B l) cap buf' false s' r' false) r5 (fun g hg => absurd hg (hown g))
  exact ⟨rfl, this.2.imp id (fun ⟨g, cap1, cur, q1, q2⟩ => absurd (show (V l).ownBlock = some g by rw [q1]; rfl) (hown g))⟩, r6⟩
end
section
variable {P : Program} {Θ : Tab} {n : Nat} {ops : Array Oper} {K : St → Prop} {s : St} {k : Nat} {x y : Operand} {ty : TypeId} {pos : String} {after : Array Edge} {l cap : Nat} {es r : List AV} {u z : Value} {v : AV} {t : Nat} {elem : TypeId}
end
end Go.Proofs.YtodckioppgjbdaaDoor.AM
namespace Go.Proofs.YtodckioppgjbdaaDoor.AM
open Go Go.RowKit
attribute [local irreducible] xN xO xV yX yh Pre ACG
end Go.Proofs.YtodckioppgjbdaaDoor.AM
namespace Go.Proofs.YtodckioppgjbdaaDoor.AM
open Go Go.RowKit
def aIq (e : Evt) : Bool := decide (1 ≤ e.ver ∧ e.ver ≤ 1000000) && decide (0 ≤ e.head ∧ e.head ≤ 60)
def fB (e b : Evt) : Bool := decide (e.ver = b.ver + 1) || (e.lag && decide (b.ver < e.ver))
def evG (l : List Evt) (i : Nat) : Prop := ∃ h : i < l.length, aIq l[i] = true ∧ ∀ m, (hm : m + 1 = i) → fB l[i] (l[m]'(by omega)) = true
open Classical in
noncomputable def aJJ (l : List Evt) : Bool := decide (∀ i, i < l.length → evG l i)
attribute [local irreducible] xN xO xV yX yh Pre ACG
end Go.Proofs.YtodckioppgjbdaaDoor.AM
namespace Go.Proofs.YtodckioppgjbdaaDoor.AM
open Go Go.RowKit
def aJM (l : List Evt) : Bool := (l.drop 1).any (·.lag)
noncomputable def qB (l : List Evt) (s : Int) : Bool := decide (l.length ≤ 4) && (aJJ l && (decide ((l.getLast?.map (·.ver)) = some s) && !aJM l))
attribute [local irreducible] xN xO xV yX yh Pre ACG
theorem aHf {a b : Wat} : a = b ↔ a.name = b.name ∧ a.seen = b.seen ∧ a.queue = b.queue := by cases a; cases b; simp
instance : DecidableEq Wat := fun a b => decidable_of_iff _ aHf.symm
end Go.Proofs.YtodckioppgjbdaaDoor.AM
namespace Go.Proofs.YtodckioppgjbdaaDoor.AM
open Go Go.RowKit
section
variable {P : Program} {f : FuncId} {args args' : List AV} {rin rout : List OB} {out : Out}
end
section
variable {s : St} {Θ : Tab}
end
section
variable {P : Program} {Θ : Tab} {s : St} {ty : TypeId} {pos : String} {after : Array Edge} {g : Option (Nat × Bool)}
end
attribute [local irreducible] xN xO xV yX yh Pre ACG
end Go.Proofs.YtodckioppgjbdaaDoor.AM
namespace Go.Proofs.YtodckioppgjbdaaDoor.AM
open Go Go.RowKit
section
variable {s : St} {Θ : Tab}
end
attribute [local irreducible] xN xO xV yX yh Pre ACG
end Go.Proofs.YtodckioppgjbdaaDoor.AM
namespace Go.Proofs.YtodckioppgjbdaaDoor.AM
open Go Go.RowKit
theorem aEm {t : ByteArray} (h : (xY t 61).length ≠ 2) : yB t = (⟨#[]⟩, 0, false) := by
 unfold yB
 split
 · rename_i e; rw [e] at h; exact absurd rfl h
 · rfl
theorem aEn {t a b : ByteArray} (h : xY t 61 = [a, b]) : yB t = (a, (yP b).1, (yP b).2) := by
 unfold yB; rw [h]
theorem qP {t : ByteArray} : (yB t).1.size ≤ t.size := by
 by_cases h : (xY t 61).length = 2
 · match hL : xY t 61, h with
   | [a, b], _ =>
    rw [aEn hL]
    exact (kL (t := t) (c := 61)).2.2 a (by rw [hL]; simp)
 · rw [aEm h]; exact Nat.zero_le _
def yU : List ByteArray → List Ent → List Ent × Bool
 | [], acc => (acc, true)
 | w :: L, acc => if (yB w).2.2 = true then yU L (acc ++ [((yB w).1, (yB w).2.1)]) else (acc, false)
def aAI (t : ByteArray) : List Ent × Bool := if t = ⟨#[45]⟩ then ([], true) else ((yU (xY t 44) []).1, (yU (xY t 44) []).2 && yQ (yU (xY t 44) []).1)
def wK (t : ByteArray) : List Ent × Int := if 65536 < t.size then ([], 2) else if (aAI t).2 = true then ((aAI t).1, 0) else ([], 3)
theorem aGP {L : List ByteArray} {i : Nat} {acc : List Ent} (h : i < L.length) : yU (L.drop i) acc = if (yB L[i]).2.2 = true then yU (L.drop (i + 1)) (acc ++ [((yB L[i]).1, (yB L[i]).2.1)]) else (acc, false) := by
 rw [List.drop_eq_getElem_cons h, yU]
def exT (t : ByteArray) : Bool := if h : 0 < t.size then decide ((t[0]).toNat = 33) else false
def yF : List ByteArray → List Edt → List Edt × Bool
 | [], acc => (acc, true)
 | w :: L, acc => if exT w = true then yF L (acc ++ [⟨w.extract 1 w.size, 0, true⟩]) else if (yB w).2.2 = true then yF L (acc ++ [⟨(yB w).1, (yB w).2.1, false⟩]) else (acc, false)
def aAH (t : ByteArray) : List Edt × Bool := if t = ⟨#[45]⟩ then ([], true) else ((yF (xY t 44) []).1, (yF (xY t 44) []).2 && xU (yF (xY t 44) []).1)
def wJ (t : ByteArray) : List Edt × Int := if 65536 < t.size then ([], 2) else if (aAH t).2 = true then ((aAH t).1, 0) else ([], 3)
theorem aGO {L : List ByteArray} {i : Nat} {acc : List Edt} (h : i < L.length) : yF (L.drop i) acc = if exT L[i] = true then yF (L.drop (i + 1)) (acc ++ [⟨(L[i]).extract 1 (L[i]).size, 0, true⟩]) else if (yB L[i]).2.2 = true then yF (L.drop (i + 1)) (acc ++ [⟨(yB L[i]).1, (yB L[i]).2.1, false⟩]) else (acc, false) := by
 rw [List.drop_eq_getElem_cons h, yF]
attribute [local irreducible] xN xO xV yX yh Pre ACG
theorem aBF {t : ByteArray} (ht : t.size ≤ 1000000) : AC Tryd.prog 105 [.v (.string t)] ⟨.tup [.v (.string (yB t).1), .v (.int .i64 (yB t).2.1), .v (.bool (yB t).2.2)], []⟩ := by
 have c1 := qg (c := 61) ht
 have hl := kL (t := t) (c := 61)
 by_cases h2 : (xY t 61).length = 2
 · match hL : xY t 61, h2 with
   | [a, b], _ =>
    rw [aEn hL]
    rw [hL] at c1 hl
    have c2 := aDC (t := b) (by have := hl.2.2 b (by simp); omega)
    generalize yP b = R at c2 ⊢
    refine qrf Tryd.func105 Tryd.ntmps105 Tryd.results105 ?_; conv => whnf
    repeat ((first | refine qz ?_ | refine qc (c1) ?_ | refine qc (c2) ?_ | refine qp (aGG (j := 1) (by simp) rfl rfl rfl rfl rfl) ?_ | refine qp (aGG (j := 0) (by simp) rfl rfl rfl rfl rfl) ?_); conv => whnf)
    exact wI rfl rfl rfl
 · rw [aEm h2]
   generalize xY t 61 = L at c1 h2 hl
   refine qrf Tryd.func105 Tryd.ntmps105 Tryd.results105 ?_; conv => whnf
   repeat ((first | refine qz ?_ | refine qc (c1) ?_); conv => whnf)
   exact wI rfl rfl rfl
set_option maxHeartbeats 1000000 in
theorem aCf {t : ByteArray} (ht : t.size ≤ 65536) : AC Tryd.prog 54 [.v (.string t)] ⟨.tup [.own 0, .v (.bool (aAI t).2)], [⟨89, 2, (aAI t).1.map uJ⟩]⟩ := by
 have c1 := qg (t := t) (c := 44) (by omega)
 have hl := kL (t := t) (c := 44)
 unfold aAI
 by_cases h0 : t = ⟨#[45]⟩
 · rw [if_pos h0]
   refine qrf Tryd.func54 Tryd.ntmps54 Tryd.results54 ?_; conv => whnf
   repeat ((first | refine qz ?_ | refine qp (zo (aE8 h0) rfl rfl rfl) ?_); conv => whnf)
   exact y7 rfl rfl rfl
 rw [if_neg h0]
 generalize xY t 44 = L at c1 hl ⊢
 obtain ⟨_, hl1, hl2⟩ := hl
 refine qrf Tryd.func54 Tryd.ntmps54 Tryd.results54 ?_; conv => whnf
 repeat ((first | refine qz ?_ | refine qp (zo (aE7 h0) rfl rfl rfl) ?_ | refine qc (c1) ?_); conv => whnf)
 refine jh (ι := { p : Nat × List Ent // p.1 ≤ L.length ∧ yU (L.drop p.1) p.2 = yU L [] ∧ p.2.length ≤ p.1 ∧ ∀ e ∈ p.2, e.1.size ≤ 65536 }) (fun p => ⟨[(4, .own 11), (5, .lst 1 (L.map aAM)), (6, .v (.int .i64 (p.1.1 : Int)))], [(11, ⟨89, 2, p.1.2.map uJ⟩)]⟩) (fun p => L.length - p.1.1) ⟨(0, []), Nat.zero_le _, rfl, Nat.le_refl _, fun e he => by cases he⟩ (by exact qle) ?_
 rintro ⟨⟨i, acc⟩, hi, hd, ha, hs⟩
 dsimp only at hi hd ha hs ⊢
 conv => whnf
 by_cases hlt : i < L.length
 · rw [aGP hlt] at hd
   have hz := hl2 _ (List.getElem_mem hlt)
   have c2 := aBF (t := L[i]) (by omega)
   have hz2 := qP (t := L[i])
   generalize yB L[i] = R at c2 hd hz2
   obtain ⟨k, v, ok⟩ := R
   dsimp only at c2 hd hz2
   cases ok
   · rw [if_neg (by simp)] at hd
     rw [← hd]
     repeat ((first | refine qz ?_ | refine qc (c2) ?_); conv => whnf)
     exact y7 rfl rfl rfl
   · rw [if_pos rfl] at hd
     repeat ((first | refine qz ?_ | refine qc (c2) ?_); conv => whnf)
     refine qr (kN (f := uJ) (xs := acc) (k, v) (acc ++ [(k, v)]) rfl (by omega) rfl rfl rfl rfl rfl rfl rfl) ?_
     conv => whnf
     repeat ((refine qz ?_; conv => whnf))
     exact ⟨⟨(i + 1, acc ++ [(k, v)]), hlt, hd, by simp; omega, fun e he => by
      simp only [List.mem_append, List.mem_singleton] at he
      rcases he with he | rfl
      · exact hs e he
      · dsimp only; omega⟩, by exact qle, by simp; omega⟩
 · rw [List.drop_eq_nil_of_le (by omega), yU] at hd
   rw [← hd]
   have c3 := aG5 (es := acc) (by unfold maxLen; omega) (fun e he => by have := hs e he; unfold maxLen; omega)
   dsimp only
   rw [Bool.true_and]
   generalize yQ acc = b at c3 ⊢
   repeat ((first | refine qz ?_ | refine qc (c3) ?_); conv => whnf)
   exact y7 rfl rfl rfl
theorem aEJ {t : ByteArray} (ht : t.size ≤ maxLen) : AC Tryd.prog 15 [.v (.string t)] ⟨.tup [.own 0, .v (.int .i64 (wK t).2)], [⟨89, 2, (wK t).1.map uJ⟩]⟩ := by
 unfold maxLen at ht
 unfold wK
 by_cases h0 : 65536 < t.size
 · rw [if_pos h0]
   refine qrf Tryd.func15 Tryd.ntmps15 Tryd.results15 ?_; conv => whnf
   repeat ((refine qz ?_; conv => whnf))
   exact y7 rfl rfl rfl
 rw [if_neg h0]
 have c1 := aCf (t := t) (by omega)
 generalize aAI t = R at c1 ⊢
 obtain ⟨m, ok⟩ := R
 dsimp only at c1 ⊢
 cases ok
 all_goals
  refine qrf Tryd.func15 Tryd.ntmps15 Tryd.results15 ?_; conv => whnf
  repeat ((first | refine qz ?_ | refine qc (c1) ?_); conv => whnf)
  exact y7 rfl rfl rfl
set_option maxHeartbeats 4000000 in
theorem aBG {t : ByteArray} (ht : t.size ≤ 65536) : AC Tryd.prog 66 [.v (.string t)] ⟨.tup [.own 0, .v (.bool (aAH t).2)], [⟨102, 3, (aAH t).1.map zu⟩]⟩ := by
 have c1 := qg (t := t) (c := 44) (by omega)
 have hl := kL (t := t) (c := 44)
 unfold aAH
 by_cases h0 : t = ⟨#[45]⟩
 · rw [if_pos h0]
   refine qrf Tryd.func66 Tryd.ntmps66 Tryd.results66 ?_; conv => whnf
   repeat ((first | refine qz ?_ | refine qp (zo (aE8 h0) rfl rfl rfl) ?_); conv => whnf)
   exact y7 rfl rfl rfl
 rw [if_neg h0]
 generalize xY t 44 = L at c1 hl ⊢
 obtain ⟨_, hl1, hl2⟩ := hl
 refine qrf Tryd.func66 Tryd.ntmps66 Tryd.results66 ?_; conv => whnf
 repeat ((first | refine qz ?_ | refine qp (zo (aE7 h0) rfl rfl rfl) ?_ | refine qc (c1) ?_); conv => whnf)
 refine jh (ι := { p : Nat × List Edt // p.1 ≤ L.length ∧ yF (L.drop p.1) p.2 = yF L [] ∧ p.2.length ≤ p.1 ∧ ∀ e ∈ p.2, e.key.size ≤ 65536 }) (fun p => ⟨[(4, .own 11), (5, .lst 1 (L.map aAM)), (6, .v (.int .i64 (p.1.1 : Int)))], [(11, ⟨102, 3, p.1.2.map zu⟩)]⟩) (fun p => L.length - p.1.1) ⟨(0, []), Nat.zero_le _, rfl, Nat.le_refl _, fun e he => by cases he⟩ (by exact qle) ?_
 rintro ⟨⟨i, acc⟩, hi, hd, ha, hs⟩
 dsimp only at hi hd ha hs ⊢
 conv => whnf
 by_cases hlt : i < L.length
 · rw [aGO hlt] at hd
   have hz := hl2 _ (List.getElem_mem hlt)
   by_cases hx : exT L[i] = true
   · rw [if_pos hx] at hd
     have hx0 : 0 < (L[i]).size := by
      unfold exT at hx
      by_cases q : 0 < (L[i]).size
      · exact q
      · rw [dif_neg q] at hx; cases hx
     have hx1 : ((L[i])[0]'hx0).toNat = 33 := by
      unfold exT at hx
      rw [dif_pos hx0] at hx
      simpa using hx
     have hz3 : ((L[i]).extract 1 (L[i]).size).size ≤ (L[i]).size := jd
     repeat ((first | refine qz ?_ | refine qp (xR (yJ 9) rfl rfl hx0) ?_ | refine qp (jM (i := 1) (by omega) rfl rfl) ?_); conv => whnf)
     refine qr (kN (f := zu) (xs := acc) ⟨(L[i]).extract 1 (L[i]).size, 0, true⟩ (acc ++ [⟨(L[i]).extract 1 (L[i]).size, 0, true⟩]) rfl (by omega) rfl rfl rfl rfl rfl rfl rfl) ?_
     conv => whnf
     repeat ((refine qz ?_; conv => whnf))
     exact ⟨⟨(i + 1, acc ++ [⟨(L[i]).extract 1 (L[i]).size, 0, true⟩]), hlt, hd, by simp; omega, fun e he => by
      simp only [List.mem_append, List.mem_singleton] at he
      rcases he with he | rfl
      · exact hs e he
      · dsimp only; omega⟩, by exact qle, by simp; omega⟩
   rw [if_neg hx] at hd
   have c2 := aBF (t := L[i]) (by omega)
   have hz2 := qP (t := L[i])
   generalize yB L[i] = R at c2 hd hz2
   obtain ⟨k, v, ok⟩ := R
   dsimp only at c2 hd hz2
   have fin : ∀ (b : Bool), ok = b → (if ok = true then yF (L.drop (i + 1)) (acc ++ [⟨k, v, false⟩]) else (acc, false)) = if b = true then yF (L.drop (i + 1)) (acc ++ [⟨k, v, false⟩]) else (acc, false) := fun b hb => by rw [hb]
   by_cases q : 0 < (L[i]).size
   · have hx1 : ¬ ((L[i])[0]'q).toNat = 33 := by
      unfold exT at hx
      rw [dif_pos q] at hx
      simpa using hx
     cases ok
     · rw [if_neg (by simp)] at hd
       rw [← hd]
       repeat ((first | refine qz ?_ | refine qp (xR (yJ 9) rfl rfl q) ?_ | refine qc (c2) ?_); conv => whnf)
       exact y7 rfl rfl rfl
     · rw [if_pos rfl] at hd
       repeat ((first | refine qz ?_ | refine qp (xR (yJ 9) rfl rfl q) ?_ | refine qc (c2) ?_); conv => whnf)
       refine qr (kN (f := zu) (xs := acc) ⟨k, v, false⟩ (acc ++ [⟨k, v, false⟩]) rfl (by omega) rfl rfl rfl rfl rfl rfl rfl) ?_
       conv => whnf
       repeat ((refine qz ?_; conv => whnf))
       exact ⟨⟨(i + 1, acc ++ [⟨k, v, false⟩]), hlt, hd, by simp; omega, fun e he => by
        simp only [List.mem_append, List.mem_singleton] at he
        rcases he with he | rfl
        · exact hs e he
        · dsimp only; omega⟩, by exact qle, by simp; omega⟩
   · cases ok
     · rw [if_neg (by simp)] at hd
       rw [← hd]
       repeat ((first | refine qz ?_ | refine qc (c2) ?_); conv => whnf)
       exact y7 rfl rfl rfl
     · rw [if_pos rfl] at hd
       repeat ((first | refine qz ?_ | refine qc (c2) ?_); conv => whnf)
       refine qr (kN (f := zu) (xs := acc) ⟨k, v, false⟩ (acc ++ [⟨k, v, false⟩]) rfl (by omega) rfl rfl rfl rfl rfl rfl rfl) ?_
       conv => whnf
       repeat ((refine qz ?_; conv => whnf))
       exact ⟨⟨(i + 1, acc ++ [⟨k, v, false⟩]), hlt, hd, by simp; omega, fun e he => by
        simp only [List.mem_append, List.mem_singleton] at he
        rcases he with he | rfl
        · exact hs e he
        · dsimp only; omega⟩, by exact qle, by simp; omega⟩
 · rw [List.drop_eq_nil_of_le (by omega), yF] at hd
   rw [← hd]
   have c3 := aEI (es := acc) rfl (by unfold maxLen; omega) (fun e he => by have := hs e he; unfold maxLen; omega)
   dsimp only
   rw [Bool.true_and]
   generalize xU acc = b at c3 ⊢
   repeat ((first | refine qz ?_ | refine qc (c3) ?_); conv => whnf)
   exact y7 rfl rfl rfl
theorem aCh {t : ByteArray} (ht : t.size ≤ maxLen) : AC Tryd.prog 24 [.v (.string t)] ⟨.tup [.own 0, .v (.int .i64 (wJ t).2)], [⟨102, 3, (wJ t).1.map zu⟩]⟩ := by
 unfold maxLen at ht
 unfold wJ
 by_cases h0 : 65536 < t.size
 · rw [if_pos h0]
   refine qrf Tryd.func24 Tryd.ntmps24 Tryd.results24 ?_; conv => whnf
   repeat ((refine qz ?_; conv => whnf))
   exact y7 rfl rfl rfl
 rw [if_neg h0]
 have c1 := aBG (t := t) (by omega)
 generalize aAH t = R at c1 ⊢
 obtain ⟨m, ok⟩ := R
 dsimp only at c1 ⊢
 cases ok
 all_goals
  refine qrf Tryd.func24 Tryd.ntmps24 Tryd.results24 ?_; conv => whnf
  repeat ((first | refine qz ?_ | refine qc (c1) ?_); conv => whnf)
  exact y7 rfl rfl rfl
end Go.Proofs.YtodckioppgjbdaaDoor.AM
namespace Go.Proofs.YtodckioppgjbdaaDoor.AM
open Go Go.RowKit
def noC (t : ByteArray) (c : Nat) : Prop := ∀ i, ∀ h : i < t.size, (t[i]).toNat ≠ c
theorem aHZ {a b : ByteArray} {c : Nat} (ha : noC a c) (hb : noC b c) : noC (a ++ b) c := by
 intro i h
 by_cases hi : i < a.size
 · rw [ByteArray.getElem_append_left hi]; exact ha i hi
 · rw [ByteArray.getElem_append_right (by omega)]
   exact hb _ _
theorem aDh {l : List UInt8} {c : Nat} (h : ∀ b ∈ l, b.toNat ≠ c) : noC ⟨l.toArray⟩ c := by
 intro i hi
 have e : (⟨l.toArray⟩ : ByteArray).size = l.length := List.size_toArray
 exact h _ (List.getElem_mem (by omega : i < l.length))
theorem aH0 {b : UInt8} {c : Nat} (h : b.toNat ≠ c) : noC ⟨#[b]⟩ c := aDh (l := [b]) (fun x hx => by simp at hx; subst hx; exact h)
theorem aDP : ∀ {n : Nat}, ∀ b ∈ uf n, 48 ≤ b.toNat ∧ b.toNat ≤ 57 := fun {n} => by
 induction n using Nat.strongRecOn with
 | _ n ih =>
  intro b hb
  by_cases h : n < 10
  · rw [kV h] at hb
    simp only [List.mem_singleton] at hb
    subst hb
    rw [aA9 (by omega)]; omega
  · rw [qj h] at hb
    simp only [List.mem_append, List.mem_singleton] at hb
    rcases hb with hb | rfl
    · exact ih (n / 10) (by omega) b hb
    · rw [aA9 (by omega)]; omega
theorem aDN {n c : Nat} (hc : c < 48 ∨ 57 < c) : noC (zC n) c := aDh (fun b hb => by have := aDP b hb; omega)
theorem aGf {n : Int} {c : Nat} (hc : c < 48 ∨ 57 < c) (h45 : c ≠ 45) : noC (zU n) c := by
 unfold zU
 split
 · exact aHZ (aH0 (by show 45 ≠ c; omega)) (aDN hc)
 · exact aDN hc
theorem aDj {a b : ByteArray} : ∀ {i : Nat}, i ≤ a.size → zJ (a ++ b) i = zJ a i
 | 0, _ => rfl
 | i + 1, h => by
  have h1 : i < a.size := by omega
  have h2 : i < (a ++ b).size := by rw [ByteArray.size_append]; omega
  rw [wY h1, wY h2, aDj (by omega), ByteArray.getElem_append_left h1]
theorem aG8 : ∀ {n : Nat}, zJ (zC n) (zC n).size = some n := fun {n} => by
 induction n using Nat.strongRecOn with
 | _ n ih =>
  by_cases h : n < 10
  · rw [aFl h]
    have hs : (⟨[UInt8.ofNat (48 + n)].toArray⟩ : ByteArray).size = 1 := rfl
    rw [hs, wY (by omega)]
    have hb : ((⟨[UInt8.ofNat (48 + n)].toArray⟩ : ByteArray)[0]'(by omega)) = UInt8.ofNat (48 + n) := rfl
    rw [hb, aA9 (by omega)]
    simp only [zJ]
    rw [if_pos (by omega)]
    congr 1; omega
  · have hi := ih (n / 10) (by omega)
    rw [aIC h, ByteArray.size_append]
    have hs : (⟨[UInt8.ofNat (48 + n % 10)].toArray⟩ : ByteArray).size = 1 := rfl
    rw [hs, wY (by rw [ByteArray.size_append, hs]; omega), aDj (Nat.le_refl _), hi]
    have hb : ((zC (n / 10) ++ (⟨[UInt8.ofNat (48 + n % 10)].toArray⟩ : ByteArray))[(zC (n / 10)).size]'(by rw [ByteArray.size_append, hs]; omega)) = UInt8.ofNat (48 + n % 10) := by
     rw [ByteArray.getElem_append_right (by omega)]
     simp only [Nat.sub_self]
     rfl
    dsimp only
    rw [hb, aA9 (by omega), if_pos (by omega)]
    congr 1; omega
theorem aDQ : ∀ {n : Nat}, 0 < (uf n).length := fun {n} => by
 by_cases h : n < 10
 · rw [kV h]; simp
 · rw [qj h]; simp
theorem aFm : ∀ {n : Nat}, 0 < n → ∃ b r, uf n = b :: r ∧ b.toNat ≠ 48 := fun {n} => by
 induction n using Nat.strongRecOn with
 | _ n ih =>
  intro h0
  by_cases h : n < 10
  · exact ⟨_, [], kV h, by rw [aA9 (by omega)]; omega⟩
  · obtain ⟨b, r, e, hb⟩ := ih (n / 10) (by omega) (by omega)
    exact ⟨b, r ++ [UInt8.ofNat (48 + n % 10)], by rw [qj h, e]; rfl, hb⟩
theorem wV {n : Nat} : (zC n).size = (uf n).length := List.size_toArray
theorem aFk {n : Nat} (h : 0 < (zC n).size) : (zC n)[0] = (uf n)[0]'(by rw [← wV]; exact h) := rfl
end Go.Proofs.YtodckioppgjbdaaDoor.AM
