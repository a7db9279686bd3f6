/- Texts of the machine over data, folded. -/
import Derived.Test.YtkfllfhcjegfoaaGreatDoorKq8
import Derived.Test.YtkfllfhcjegfoaaGreatDoorKq7
import Derived.Test.YtkfllfhcjegfoaaGreatDoorKq5
import Derived.Test.YtkfllfhcjegfoaaGreatDoorKq6
set_option linter.unusedVariables false
namespace Go.Proofs.YtkfllfhcjegfoaaGreatDoor
open Go.RowKit
def yR : Nat → List Ent → List Ent → List Edt
 | 0, _, _ => []
 | _ + 1, [], [] => []
 | f + 1, x :: a, [] => ⟨x.1, 0, true⟩ :: yR f a []
 | f + 1, [], y :: b => ⟨y.1, y.2, false⟩ :: yR f [] b
 | f + 1, x :: a, y :: b => if klt x.1 y.1 then ⟨x.1, 0, true⟩ :: yR f a (y :: b) else if klt y.1 x.1 then ⟨y.1, y.2, false⟩ :: yR f (x :: a) b else (if x.2 = y.2 then [] else [⟨y.1, y.2, false⟩]) ++ yR f a b
def yM (a b : List Ent) : List Edt := yR (a.length + b.length) a b
theorem aG3 (f : Nat) (a b : List Ent) (ha : a = []) (hb : b = []) : yR f a b = [] := by subst ha; subst hb; cases f <;> rfl
theorem aAy {f : Nat} {a b : List Ent} {p q : Nat} (hp : p < a.length) (h : b.length ≤ q ∨ ∃ hq : q < b.length, klt a[p].1 b[q].1 = true) : yR (f + 1) (a.drop p) (b.drop q) = ⟨a[p].1, 0, true⟩ :: yR f (a.drop (p + 1)) (b.drop q) := by
 rw [List.drop_eq_getElem_cons hp]
 rcases h with h | ⟨hq, h⟩
 · rw [List.drop_eq_nil_of_le h]; rfl
 · rw [List.drop_eq_getElem_cons hq, yR, if_pos h]
theorem aBe {f : Nat} {a b : List Ent} {p q : Nat} (hq : q < b.length) (h : a.length ≤ p ∨ ∃ hp : p < a.length, klt b[q].1 a[p].1 = true) : yR (f + 1) (a.drop p) (b.drop q) = ⟨b[q].1, b[q].2, false⟩ :: yR f (a.drop p) (b.drop (q + 1)) := by
 rw [List.drop_eq_getElem_cons hq]
 rcases h with h | ⟨hp, h⟩
 · rw [List.drop_eq_nil_of_le h]; rfl
 · rw [List.drop_eq_getElem_cons hp, yR, if_neg (by rw [aCy h]; simp), if_pos h]
theorem aF6 {f : Nat} {a b : List Ent} {p q : Nat} (hp : p < a.length) (hq : q < b.length) (h1 : klt a[p].1 b[q].1 = false) (h2 : klt b[q].1 a[p].1 = false) : yR (f + 1) (a.drop p) (b.drop q) = (if a[p].2 = b[q].2 then [] else [⟨b[q].1, b[q].2, false⟩]) ++ yR f (a.drop (p + 1)) (b.drop (q + 1)) := by
 rw [List.drop_eq_getElem_cons hp, List.drop_eq_getElem_cons hq, yR, if_neg (by rw [h1]; simp), if_neg (by rw [h2]; simp)]
def aKF (e : TypeId) (l : List Edt) (w : World) (e' : Ending) (w' : World) : Prop := ∃ v, e' = .returned v ∧ w'.ownsRow w.heap.size e 3 v l.length (yD l) ∧ Below w.heap.size w w'
theorem uY (es : List Edt) (k : ByteArray) (v : Int) (g : Bool) : yD (es ++ [⟨k, v, g⟩]) = yD es ++ #[Value.string k, Value.int .i64 v, Value.bool g].toList := by rw [aDS]; rfl
theorem aB9 (k : ByteArray) (v : Int) (g : Bool) : ∀ u ∈ #[Value.string k, Value.int .i64 v, Value.bool g].toList, u.oneCell' = true := by
 intro u hu
 simp at hu
 rcases hu with rfl | rfl | rfl <;> rfl
set_option maxHeartbeats 4000000 in
set_option maxRecDepth 100000 in
theorem aJp (A : Option Addr) (n c : Nat) (es : List Ent) (A' : Option Addr) (n' c' : Nat) (es' : List Ent) (w : World) (hr : Rd w 2 A n (xG es)) (hr' : Rd w 2 A' n' (xG es')) (hm : n ≤ 4096) (hm' : n' ≤ 4096) :
 Calls Tryz.prog 164 #[.slice A n c, .slice A' n' c'] w (aKF 191 (yM es es') w) := by
 have hlen := hr.len
 have hlen' := hr'.len
 have Hlen := Lib.hid hlen; clear hlen
 have Hlen' := Lib.hid hlen'; clear hlen'
 obtain ⟨i0, hi, hz0, hz1, hz2⟩ := info_parts aCw
 have Hi := Lib.hid hi; clear hi
 have Hz0 := Lib.hid hz0; clear hz0
 have Hz1 := Lib.hid hz1; clear hz1
 have Hz2 := Lib.hid hz2; clear hz2
 go_enter Tryz.func164, Tryz.ntmps164
 go_wp2
 have hst : Hid ((w.alloc (Obj.cells #[] 191)).ownsRow w.heap.size 191 3 (.slice (some ⟨w.heap.size, 0, none⟩) 0 0) 0 []) := World.ownsRow_made w #[] 0 (Nat.le_refl _) (by simp) (by simp)
 have hbst : Hid (Below w.heap.size w (w.alloc (Obj.cells #[] 191))) := (Below.refl _ _).alloc (Nat.le_refl _) _
 go_loopw [5, 6, 7] (fun out i j wr => ∃ (p q f : Nat) (acc : List Edt), p ≤ n ∧ q ≤ n' ∧ i = .int .i64 p ∧ j = .int .i64 q ∧ (n - p) + (n' - q) ≤ f ∧ acc.length ≤ p + q ∧ acc ++ yR f (es.drop p) (es'.drop q) = yM es es' ∧ wr.ownsRow w.heap.size 191 3 out acc.length (yD acc) ∧ Below w.heap.size w wr) (fun _ i j _ => (n - (intOf i).toNat) + (n' - (intOf j).toNat))
 case atStart => exact ⟨0, 0, es.length + es'.length, [], Nat.zero_le _, Nat.zero_le _, rfl, rfl, by rw [Hlen.out, Hlen'.out]; omega, Nat.le_refl _, by simp [yM], hst.out, hbst.out⟩
 case round =>
  obtain ⟨p, q, f, acc, hp, hq, rfl, rfl, hf, hal, hacc, hown, hb⟩ := hrel
  have Hacc := Lib.hid hacc; clear hacc
  have Hown := Lib.hid hown; clear hown
  have hbs := hb.size
  by_cases hlt : p < n
  · have hpe : p < es.length := by rw [Hlen.out]; exact hlt
    obtain ⟨b1, o1, rfl, hl1, hl1x, hc1, hc2⟩ := hr.ent hb hpe
    have hWc1 := cellW hb hl1 hc1
    have hWc2 := cellW hb hl1 hc2
    obtain ⟨f', hf'⟩ : ∃ f', f = f' + 1 := ⟨f - 1, by omega⟩
    subst hf'
    by_cases hlq : q < n'
    case neg =>
     have hqn : q = n' := by omega
     have hte : ((q : Int) == (n' : Int)) = true := beq_iff_eq.2 (by omega)
     have hnew := Lib.hid (show (acc ++ [⟨es[p].1, 0, true⟩]) ++ yR f' (es.drop (p + 1)) (es'.drop q) = yM es es' by rw [← Hacc.out, aAy hpe (.inl (by rw [Hlen'.out]; omega))]; simp)
     clear hqn Hacc
     generalize es[p] = ek at *
     obtain ⟨k1, v1⟩ := ek
     go_wp2
     have hA_c1 := fun y : Aft wr => y.cell hl1x hc1
     have hA_c2 := fun y : Aft wr => y.cell hl1x hc2
     refine xD (by kernel_rfl) (by kernel_rfl) ?_
     repeat (go_big_quiet_step (fail))
     refine wpQuiet_nil ?_
     rintro _ ⟨y, rfl⟩
     clear hA_c1 hA_c2
     replace hb := yH hb y.below
     replace Hown := Lib.hid (ownsRow_below Hown.out y.below (Nat.le_refl _))
     replace hbs := hb.size
     replace hc1 := cellS hb hl1 hWc1
     replace hc2 := cellS hb hl1 hWc2
     replace hl1x := Nat.lt_of_lt_of_le hl1 hbs
     generalize y.at_ = w3 at *
     go_wp2_with (at_builtin; refine yj w3 rfl _ _ 92 rfl w.heap.size 191 i0 _ 3 32 Tryz.underlying92 Hi.out Hz0.out Hz1.out Hz2.out rfl (by decide) u5 acc.length (yD acc) rfl Hown.out #[.string k1, .int .i64 0, .bool true] 1 1 rfl rfl (aB9 _ _ _) (by omega) (by decide) hbs ?_; intro v' w9 hown' hgrow; have Hown' := Lib.hid hown'; clear hown')
     go_roundw
     case rel => exact ⟨p + 1, q, f', acc ++ [⟨k1, 0, true⟩], by omega, hq, by go_num, rfl, by omega, by rw [List.length_append, List.length_singleton]; omega, hnew.out, by rw [List.length_append, uY]; exact Hown'.out, below_grown hb hgrow Hown.out hbs (Nat.le_refl _)⟩
     case measure => simp [intOf]; omega
    have hqe : q < es'.length := by rw [Hlen'.out]; exact hlq
    obtain ⟨b2, o2, rfl, hl2, hl2x, hc3, hc4⟩ := hr'.ent hb hqe
    have hWc3 := cellW hb hl2 hc3
    have hWc4 := cellW hb hl2 hc4
    have hte : ((q : Int) == (n' : Int)) = false := beq_eq_false_iff_ne.2 (by omega)
    have htp : ((p : Int) == (n : Int)) = false := beq_eq_false_iff_ne.2 (by omega)
    have hpi : (p : Int) < (n : Int) := by omega
    cases hk1 : klt es[p].1 es'[q].1 with
    | true =>
     have ht1 : Op.bytesLess es[p].1.toList es'[q].1.toList = true := hk1
     have hnew := Lib.hid (show (acc ++ [⟨es[p].1, 0, true⟩]) ++ yR f' (es.drop (p + 1)) (es'.drop q) = yM es es' by rw [← Hacc.out, aAy hpe (.inr ⟨hqe, hk1⟩)]; simp)
     clear Hacc hk1
     generalize es[p] = ek at *
     generalize es'[q] = ek2 at *
     obtain ⟨k1, v1⟩ := ek
     obtain ⟨k2, v2⟩ := ek2
     go_wp2
     have hA_c1 := fun y : Aft wr => y.cell hl1x hc1
     have hA_c2 := fun y : Aft wr => y.cell hl1x hc2
     have hA_c3 := fun y : Aft wr => y.cell hl2x hc3
     have hA_c4 := fun y : Aft wr => y.cell hl2x hc4
     refine xD (by kernel_rfl) (by kernel_rfl) ?_
     repeat (go_big_quiet_step (fail))
     refine wpQuiet_nil ?_
     rintro _ ⟨y, rfl⟩
     clear hA_c1 hA_c2 hA_c3 hA_c4
     replace hb := yH hb y.below
     replace Hown := Lib.hid (ownsRow_below Hown.out y.below (Nat.le_refl _))
     replace hbs := hb.size
     replace hc1 := cellS hb hl1 hWc1
     replace hc2 := cellS hb hl1 hWc2
     replace hc3 := cellS hb hl2 hWc3
     replace hc4 := cellS hb hl2 hWc4
     replace hl1x := Nat.lt_of_lt_of_le hl1 hbs
     replace hl2x := Nat.lt_of_lt_of_le hl2 hbs
     generalize y.at_ = w3 at *
     go_wp2_with (at_builtin; refine yj w3 rfl _ _ 92 rfl w.heap.size 191 i0 _ 3 32 Tryz.underlying92 Hi.out Hz0.out Hz1.out Hz2.out rfl (by decide) u5 acc.length (yD acc) rfl Hown.out #[.string k1, .int .i64 0, .bool true] 1 1 rfl rfl (aB9 _ _ _) (by omega) (by decide) hbs ?_; intro v' w9 hown' hgrow; have Hown' := Lib.hid hown'; clear hown')
     go_roundw
     case rel => exact ⟨p + 1, q, f', acc ++ [⟨k1, 0, true⟩], by omega, hq, by go_num, rfl, by omega, by rw [List.length_append, List.length_singleton]; omega, hnew.out, by rw [List.length_append, uY]; exact Hown'.out, below_grown hb hgrow Hown.out hbs (Nat.le_refl _)⟩
     case measure => simp [intOf]; omega
    | false =>
     cases hk2 : klt es'[q].1 es[p].1 with
     | true =>
     have ht1 : Op.bytesLess es[p].1.toList es'[q].1.toList = false := hk1
     have ht2 : Op.bytesLess es'[q].1.toList es[p].1.toList = true := hk2
     have hnew := Lib.hid (show (acc ++ [⟨es'[q].1, es'[q].2, false⟩]) ++ yR f' (es.drop p) (es'.drop (q + 1)) = yM es es' by rw [← Hacc.out, aBe hqe (.inr ⟨hpe, hk2⟩)]; simp)
     clear Hacc hk1 hk2
     generalize es[p] = ek at *
     generalize es'[q] = ek2 at *
     obtain ⟨k1, v1⟩ := ek
     obtain ⟨k2, v2⟩ := ek2
     go_wp2
     have hA_c1 := fun y : Aft wr => y.cell hl1x hc1
     have hA_c2 := fun y : Aft wr => y.cell hl1x hc2
     have hA_c3 := fun y : Aft wr => y.cell hl2x hc3
     have hA_c4 := fun y : Aft wr => y.cell hl2x hc4
     refine xD (by kernel_rfl) (by kernel_rfl) ?_
     repeat (go_big_quiet_step (fail))
     refine wpQuiet_nil ?_
     rintro _ ⟨y, rfl⟩
     clear hA_c1 hA_c2 hA_c3 hA_c4
     replace hb := yH hb y.below
     replace Hown := Lib.hid (ownsRow_below Hown.out y.below (Nat.le_refl _))
     replace hbs := hb.size
     replace hc1 := cellS hb hl1 hWc1
     replace hc2 := cellS hb hl1 hWc2
     replace hc3 := cellS hb hl2 hWc3
     replace hc4 := cellS hb hl2 hWc4
     replace hl1x := Nat.lt_of_lt_of_le hl1 hbs
     replace hl2x := Nat.lt_of_lt_of_le hl2 hbs
     generalize y.at_ = w3 at *
     go_wp2
     have hA_c1 := fun y : Aft w3 => y.cell hl1x hc1
     have hA_c2 := fun y : Aft w3 => y.cell hl1x hc2
     have hA_c3 := fun y : Aft w3 => y.cell hl2x hc3
     have hA_c4 := fun y : Aft w3 => y.cell hl2x hc4
     refine xD (by kernel_rfl) (by kernel_rfl) ?_
     repeat (go_big_quiet_step (fail))
     refine wpQuiet_nil ?_
     rintro _ ⟨y, rfl⟩
     clear hA_c1 hA_c2 hA_c3 hA_c4
     replace hb := yH hb y.below
     replace Hown := Lib.hid (ownsRow_below Hown.out y.below (Nat.le_refl _))
     replace hbs := hb.size
     replace hc1 := cellS hb hl1 hWc1
     replace hc2 := cellS hb hl1 hWc2
     replace hc3 := cellS hb hl2 hWc3
     replace hc4 := cellS hb hl2 hWc4
     replace hl1x := Nat.lt_of_lt_of_le hl1 hbs
     replace hl2x := Nat.lt_of_lt_of_le hl2 hbs
     generalize y.at_ = w4 at *
     go_wp2
     have hc1x := hl1x
     have hq0 : (0 : Int) ≤ (q : Int) := by omega
     have hq1 : (q : Int) < (n' : Int) := by omega
     clear ht1 ht2 hc1 hc2
     go_region_held3 (fun w' => w'.cell? ⟨b2, o2 + q * 2, none⟩ = some (.string k2) ∧ w'.cell? ⟨b2, o2 + q * 2 + 1, none⟩ = some (.int .i64 v2))
     (first | go_keep | (go_split_ands; refine ⟨?_, ?_⟩ <;> (rw [hgrow.cell_far _ (by simp; omega) (fun h => by have h2 : w.heap.size ≤ b2 := (Hown.out.lt _ h.symm).1; omega)]; assumption)))
     ((refine step_append_lies _ (by rfl) _ _ _ (by rfl) w.heap.size 191 i0 _ 3 32 Tryz.underlying92 Hi.out Hz0.out Hz1.out Hz2.out rfl (by omega) u5 acc.length (yD acc) (by rfl) ((Hown.out.alloc _).drew) ⟨w4.heap.size, 0, none⟩ 1 1 [.string k2, .int .i64 v2, .bool false] (by rfl) (by rfl) (World.news_of_block (cs := #[.string k2, .int .i64 v2, .bool false]) (t := 191) (fr := (0, 0)) (heap_alloc_new w4 _)) (by simp [Value.oneCell']) (by omega) (by unfold maxLen; omega) (by omega) (by simp; omega) (w4.heap.size + 1) (by simp) ?_; intro gg cap w9 hown' hgrow hat hlt9))
     have hb9 : Below w.heap.size w w9 := below_grown (hb.alloc hbs _).drew hgrow ((Hown.out.alloc _).drew) (by simp; omega) (Nat.le_refl _)
     have Hown' := Lib.hid hown'
     clear hown' hgrow hat hlt9 hc1x
     go_wp2
     go_roundw
     case rel => exact ⟨p, q + 1, f', acc ++ [⟨k2, v2, false⟩], by omega, by omega, rfl, by go_num, by omega, by rw [List.length_append, List.length_singleton]; omega, hnew.out, by rw [List.length_append, uY]; exact Hown'.out, hb9⟩
     case measure => simp [intOf]; omega
     | false =>
     have ht1 : Op.bytesLess es[p].1.toList es'[q].1.toList = false := hk1
     have ht2 : Op.bytesLess es'[q].1.toList es[p].1.toList = false := hk2
     have hdb := aF6 (f := f') hpe hqe hk1 hk2
     by_cases hvv : es[p].2 = es'[q].2
     · have hnew := Lib.hid (show acc ++ yR f' (es.drop (p + 1)) (es'.drop (q + 1)) = yM es es' by rw [← Hacc.out, hdb, if_pos hvv]; simp)
       have htv : (es[p].2 != es'[q].2) = false := by rw [hvv]; simp
       clear Hacc hk1 hk2 hdb hvv
       generalize es[p] = ek at *
       generalize es'[q] = ek2 at *
       obtain ⟨k1, v1⟩ := ek
       obtain ⟨k2, v2⟩ := ek2
       go_wp2
       have hA_c1 := fun y : Aft wr => y.cell hl1x hc1
       have hA_c2 := fun y : Aft wr => y.cell hl1x hc2
       have hA_c3 := fun y : Aft wr => y.cell hl2x hc3
       have hA_c4 := fun y : Aft wr => y.cell hl2x hc4
       refine xD (by kernel_rfl) (by kernel_rfl) ?_
       repeat (go_big_quiet_step (fail))
       refine wpQuiet_nil ?_
       rintro _ ⟨y, rfl⟩
       clear hA_c1 hA_c2 hA_c3 hA_c4
       replace hb := yH hb y.below
       replace Hown := Lib.hid (ownsRow_below Hown.out y.below (Nat.le_refl _))
       replace hbs := hb.size
       replace hc1 := cellS hb hl1 hWc1
       replace hc2 := cellS hb hl1 hWc2
       replace hc3 := cellS hb hl2 hWc3
       replace hc4 := cellS hb hl2 hWc4
       replace hl1x := Nat.lt_of_lt_of_le hl1 hbs
       replace hl2x := Nat.lt_of_lt_of_le hl2 hbs
       generalize y.at_ = w3 at *
       go_wp2
       have hA_c1 := fun y : Aft w3 => y.cell hl1x hc1
       have hA_c2 := fun y : Aft w3 => y.cell hl1x hc2
       have hA_c3 := fun y : Aft w3 => y.cell hl2x hc3
       have hA_c4 := fun y : Aft w3 => y.cell hl2x hc4
       refine xD (by kernel_rfl) (by kernel_rfl) ?_
       repeat (go_big_quiet_step (fail))
       refine wpQuiet_nil ?_
       rintro _ ⟨y, rfl⟩
       clear hA_c1 hA_c2 hA_c3 hA_c4
       replace hb := yH hb y.below
       replace Hown := Lib.hid (ownsRow_below Hown.out y.below (Nat.le_refl _))
       replace hbs := hb.size
       replace hc1 := cellS hb hl1 hWc1
       replace hc2 := cellS hb hl1 hWc2
       replace hc3 := cellS hb hl2 hWc3
       replace hc4 := cellS hb hl2 hWc4
       replace hl1x := Nat.lt_of_lt_of_le hl1 hbs
       replace hl2x := Nat.lt_of_lt_of_le hl2 hbs
       generalize y.at_ = w4 at *
       go_wp2
       have hA_c1 := fun y : Aft w4 => y.cell hl1x hc1
       have hA_c2 := fun y : Aft w4 => y.cell hl1x hc2
       have hA_c3 := fun y : Aft w4 => y.cell hl2x hc3
       have hA_c4 := fun y : Aft w4 => y.cell hl2x hc4
       refine xD (by kernel_rfl) (by kernel_rfl) ?_
       repeat (go_big_quiet_step (fail))
       refine wpQuiet_nil ?_
       rintro _ ⟨y, rfl⟩
       clear hA_c1 hA_c2 hA_c3 hA_c4
       replace hb := yH hb y.below
       replace Hown := Lib.hid (ownsRow_below Hown.out y.below (Nat.le_refl _))
       replace hbs := hb.size
       replace hc1 := cellS hb hl1 hWc1
       replace hc2 := cellS hb hl1 hWc2
       replace hc3 := cellS hb hl2 hWc3
       replace hc4 := cellS hb hl2 hWc4
       replace hl1x := Nat.lt_of_lt_of_le hl1 hbs
       replace hl2x := Nat.lt_of_lt_of_le hl2 hbs
       generalize y.at_ = w5 at *
       go_wp2
       go_roundw
       case rel => exact ⟨p + 1, q + 1, f', acc, by omega, by omega, by go_num, by go_num, by omega, by omega, hnew.out, Hown.out, hb⟩
       case measure => simp [intOf]; omega
     · have hnew := Lib.hid (show (acc ++ [⟨es'[q].1, es'[q].2, false⟩]) ++ yR f' (es.drop (p + 1)) (es'.drop (q + 1)) = yM es es' by rw [← Hacc.out, hdb, if_neg hvv]; simp)
       have htv : (es[p].2 != es'[q].2) = true := bne_iff_ne.2 hvv
       clear Hacc hk1 hk2 hdb hvv
       generalize es[p] = ek at *
       generalize es'[q] = ek2 at *
       obtain ⟨k1, v1⟩ := ek
       obtain ⟨k2, v2⟩ := ek2
       go_wp2
       have hA_c1 := fun y : Aft wr => y.cell hl1x hc1
       have hA_c2 := fun y : Aft wr => y.cell hl1x hc2
       have hA_c3 := fun y : Aft wr => y.cell hl2x hc3
       have hA_c4 := fun y : Aft wr => y.cell hl2x hc4
       refine xD (by kernel_rfl) (by kernel_rfl) ?_
       repeat (go_big_quiet_step (fail))
       refine wpQuiet_nil ?_
       rintro _ ⟨y, rfl⟩
       clear hA_c1 hA_c2 hA_c3 hA_c4
       replace hb := yH hb y.below
       replace Hown := Lib.hid (ownsRow_below Hown.out y.below (Nat.le_refl _))
       replace hbs := hb.size
       replace hc1 := cellS hb hl1 hWc1
       replace hc2 := cellS hb hl1 hWc2
       replace hc3 := cellS hb hl2 hWc3
       replace hc4 := cellS hb hl2 hWc4
       replace hl1x := Nat.lt_of_lt_of_le hl1 hbs
       replace hl2x := Nat.lt_of_lt_of_le hl2 hbs
       generalize y.at_ = w3 at *
       go_wp2
       have hA_c1 := fun y : Aft w3 => y.cell hl1x hc1
       have hA_c2 := fun y : Aft w3 => y.cell hl1x hc2
       have hA_c3 := fun y : Aft w3 => y.cell hl2x hc3
       have hA_c4 := fun y : Aft w3 => y.cell hl2x hc4
       refine xD (by kernel_rfl) (by kernel_rfl) ?_
       repeat (go_big_quiet_step (fail))
       refine wpQuiet_nil ?_
       rintro _ ⟨y, rfl⟩
       clear hA_c1 hA_c2 hA_c3 hA_c4
       replace hb := yH hb y.below
       replace Hown := Lib.hid (ownsRow_below Hown.out y.below (Nat.le_refl _))
       replace hbs := hb.size
       replace hc1 := cellS hb hl1 hWc1
       replace hc2 := cellS hb hl1 hWc2
       replace hc3 := cellS hb hl2 hWc3
       replace hc4 := cellS hb hl2 hWc4
       replace hl1x := Nat.lt_of_lt_of_le hl1 hbs
       replace hl2x := Nat.lt_of_lt_of_le hl2 hbs
       generalize y.at_ = w4 at *
       go_wp2
       have hA_c1 := fun y : Aft w4 => y.cell hl1x hc1
       have hA_c2 := fun y : Aft w4 => y.cell hl1x hc2
       have hA_c3 := fun y : Aft w4 => y.cell hl2x hc3
       have hA_c4 := fun y : Aft w4 => y.cell hl2x hc4
       refine xD (by kernel_rfl) (by kernel_rfl) ?_
       repeat (go_big_quiet_step (fail))
       refine wpQuiet_nil ?_
       rintro _ ⟨y, rfl⟩
       clear hA_c1 hA_c2 hA_c3 hA_c4
       replace hb := yH hb y.below
       replace Hown := Lib.hid (ownsRow_below Hown.out y.below (Nat.le_refl _))
       replace hbs := hb.size
       replace hc1 := cellS hb hl1 hWc1
       replace hc2 := cellS hb hl1 hWc2
       replace hc3 := cellS hb hl2 hWc3
       replace hc4 := cellS hb hl2 hWc4
       replace hl1x := Nat.lt_of_lt_of_le hl1 hbs
       replace hl2x := Nat.lt_of_lt_of_le hl2 hbs
       generalize y.at_ = w5 at *
       go_wp2
       have hc1x := hl1x
       have hq0 : (0 : Int) ≤ (q : Int) := by omega
       have hq1 : (q : Int) < (n' : Int) := by omega
       clear ht1 ht2 htv hc1 hc2
       go_region_held3 (fun w' => w'.cell? ⟨b2, o2 + q * 2, none⟩ = some (.string k2) ∧ w'.cell? ⟨b2, o2 + q * 2 + 1, none⟩ = some (.int .i64 v2))
       (first | go_keep | (go_split_ands; refine ⟨?_, ?_⟩ <;> (rw [hgrow.cell_far _ (by simp; omega) (fun h => by have h2 : w.heap.size ≤ b2 := (Hown.out.lt _ h.symm).1; omega)]; assumption)))
       ((refine step_append_lies _ (by rfl) _ _ _ (by rfl) w.heap.size 191 i0 _ 3 32 Tryz.underlying92 Hi.out Hz0.out Hz1.out Hz2.out rfl (by omega) u5 acc.length (yD acc) (by rfl) ((Hown.out.alloc _).drew) ⟨w5.heap.size, 0, none⟩ 1 1 [.string k2, .int .i64 v2, .bool false] (by rfl) (by rfl) (World.news_of_block (cs := #[.string k2, .int .i64 v2, .bool false]) (t := 191) (fr := (0, 0)) (heap_alloc_new w5 _)) (by simp [Value.oneCell']) (by omega) (by unfold maxLen; omega) (by omega) (by simp; omega) (w5.heap.size + 1) (by simp) ?_; intro gg cap w9 hown' hgrow hat hlt9))
       have hb9 : Below w.heap.size w w9 := below_grown (hb.alloc hbs _).drew hgrow ((Hown.out.alloc _).drew) (by simp; omega) (Nat.le_refl _)
       have Hown' := Lib.hid hown'
       clear hown' hgrow hat hlt9 hc1x
       go_wp2
       go_roundw
       case rel => exact ⟨p + 1, q + 1, f', acc ++ [⟨k2, v2, false⟩], by omega, by omega, by go_num, by go_num, by omega, by rw [List.length_append, List.length_singleton]; omega, hnew.out, by rw [List.length_append, uY]; exact Hown'.out, hb9⟩
       case measure => simp [intOf]; omega
  · have hpn : p = n := by omega
    have htp : ((p : Int) == (n : Int)) = true := beq_iff_eq.2 (by omega)
    by_cases hlq : q < n'
    · have hqe : q < es'.length := by rw [Hlen'.out]; exact hlq
      obtain ⟨b2, o2, rfl, hl2, hl2x, hc3, hc4⟩ := hr'.ent hb hqe
      have hWc3 := cellW hb hl2 hc3
      have hWc4 := cellW hb hl2 hc4
      obtain ⟨f', hf'⟩ : ∃ f', f = f' + 1 := ⟨f - 1, by omega⟩
      subst hf'
      have hte : ((q : Int) == (n' : Int)) = false := beq_eq_false_iff_ne.2 (by omega)
      have hpi : ¬ (p : Int) < (n : Int) := by omega
      have hnew := Lib.hid (show (acc ++ [⟨es'[q].1, es'[q].2, false⟩]) ++ yR f' (es.drop p) (es'.drop (q + 1)) = yM es es' by rw [← Hacc.out, aBe hqe (.inl (by rw [Hlen.out]; omega))]; simp)
      clear Hacc hpn
      generalize es'[q] = ek2 at *
      obtain ⟨k2, v2⟩ := ek2
      have hdp : decide ((p : Int) < (n : Int)) = false := decide_eq_false hpi
      go_wp2
      have hA_c3 := fun y : Aft wr => y.cell hl2x hc3
      have hA_c4 := fun y : Aft wr => y.cell hl2x hc4
      refine xD (by kernel_rfl) (by kernel_rfl) ?_
      repeat (go_big_quiet_step (fail))
      refine wpQuiet_nil ?_
      rintro _ ⟨y, rfl⟩
      clear hA_c3 hA_c4
      replace hb := yH hb y.below
      replace Hown := Lib.hid (ownsRow_below Hown.out y.below (Nat.le_refl _))
      replace hbs := hb.size
      replace hc3 := cellS hb hl2 hWc3
      replace hc4 := cellS hb hl2 hWc4
      replace hl2x := Nat.lt_of_lt_of_le hl2 hbs
      generalize y.at_ = w3 at *
      go_wp2
      have hA_c3 := fun y : Aft w3 => y.cell hl2x hc3
      have hA_c4 := fun y : Aft w3 => y.cell hl2x hc4
      refine xD (by kernel_rfl) (by kernel_rfl) ?_
      repeat (go_big_quiet_step (fail))
      refine wpQuiet_nil ?_
      rintro _ ⟨y, rfl⟩
      clear hA_c3 hA_c4
      replace hb := yH hb y.below
      replace Hown := Lib.hid (ownsRow_below Hown.out y.below (Nat.le_refl _))
      replace hbs := hb.size
      replace hc3 := cellS hb hl2 hWc3
      replace hc4 := cellS hb hl2 hWc4
      replace hl2x := Nat.lt_of_lt_of_le hl2 hbs
      generalize y.at_ = w4 at *
      go_wp2
      have hc1x := hl2x
      have hq0 : (0 : Int) ≤ (q : Int) := by omega
      have hq1 : (q : Int) < (n' : Int) := by omega
      go_region_held3 (fun w' => w'.cell? ⟨b2, o2 + q * 2, none⟩ = some (.string k2) ∧ w'.cell? ⟨b2, o2 + q * 2 + 1, none⟩ = some (.int .i64 v2))
      (first | go_keep | (go_split_ands; refine ⟨?_, ?_⟩ <;> (rw [hgrow.cell_far _ (by simp; omega) (fun h => by have h2 : w.heap.size ≤ b2 := (Hown.out.lt _ h.symm).1; omega)]; assumption)))
      ((refine step_append_lies _ (by rfl) _ _ _ (by rfl) w.heap.size 191 i0 _ 3 32 Tryz.underlying92 Hi.out Hz0.out Hz1.out Hz2.out rfl (by omega) u5 acc.length (yD acc) (by rfl) ((Hown.out.alloc _).drew) ⟨w4.heap.size, 0, none⟩ 1 1 [.string k2, .int .i64 v2, .bool false] (by rfl) (by rfl) (World.news_of_block (cs := #[.string k2, .int .i64 v2, .bool false]) (t := 191) (fr := (0, 0)) (heap_alloc_new w4 _)) (by simp [Value.oneCell']) (by omega) (by unfold maxLen; omega) (by omega) (by simp; omega) (w4.heap.size + 1) (by simp) ?_; intro gg cap w9 hown' hgrow hat hlt9))
      have hb9 : Below w.heap.size w w9 := below_grown (hb.alloc hbs _).drew hgrow ((Hown.out.alloc _).drew) (by simp; omega) (Nat.le_refl _)
      have Hown' := Lib.hid hown'
      clear hown' hgrow hat hlt9 hc1x
      go_wp2
      go_roundw
      case rel => exact ⟨p, q + 1, f', acc ++ [⟨k2, v2, false⟩], by omega, by omega, rfl, by go_num, by omega, by rw [List.length_append, List.length_singleton]; omega, hnew.out, by rw [List.length_append, uY]; exact Hown'.out, hb9⟩
      case measure => simp [intOf]; omega
    · have hfin := Lib.hid (show acc = yM es es' by rw [← Hacc.out, aG3 _ _ _ (List.drop_eq_nil_of_le (by rw [Hlen.out]; omega)) (List.drop_eq_nil_of_le (by rw [Hlen'.out]; omega)), List.append_nil])
      clear hpn
      go_wp2
      go_ret
      exact ⟨_, rfl, by rw [← hfin.out]; exact Hown.out, hb⟩
set_option maxHeartbeats 4000000 in
set_option maxRecDepth 100000 in
theorem aEs (A : Option Addr) (n c : Nat) (es : List Ent) (A' : Option Addr) (n' c' : Nat) (es' : List Ent) (w : World) (hr : Rd w 2 A n (xG es)) (hr' : Rd w 2 A' n' (xG es')) (hm : n ≤ 4096) (hm' : n' ≤ 4096) :
 Calls Tryz.prog 199 #[.slice A n c, .slice A' n' c'] w (aKF 191 (yM es es') w) := by
 have hlen := hr.len
 have hlen' := hr'.len
 have Hlen := Lib.hid hlen; clear hlen
 have Hlen' := Lib.hid hlen'; clear hlen'
 obtain ⟨i0, hi, hz0, hz1, hz2⟩ := info_parts aCw
 have Hi := Lib.hid hi; clear hi
 have Hz0 := Lib.hid hz0; clear hz0
 have Hz1 := Lib.hid hz1; clear hz1
 have Hz2 := Lib.hid hz2; clear hz2
 go_enter Tryz.func199, Tryz.ntmps199
 go_wp2
 have hst : Hid (w.ownsRow w.heap.size 191 3 (.slice none 0 0) 0 []) := World.ownsRow_nil _ _ _ _
 have hbst : Hid (Below w.heap.size w w) := Below.refl _ _
 go_loopw [5, 6, 7] (fun out i j wr => ∃ (p q f : Nat) (acc : List Edt), p ≤ n ∧ q ≤ n' ∧ i = .int .i64 p ∧ j = .int .i64 q ∧ (n - p) + (n' - q) ≤ f ∧ acc.length ≤ p + q ∧ acc ++ yR f (es.drop p) (es'.drop q) = yM es es' ∧ wr.ownsRow w.heap.size 191 3 out acc.length (yD acc) ∧ Below w.heap.size w wr) (fun _ i j _ => (n - (intOf i).toNat) + (n' - (intOf j).toNat))
 case atStart => exact ⟨0, 0, es.length + es'.length, [], Nat.zero_le _, Nat.zero_le _, rfl, rfl, by rw [Hlen.out, Hlen'.out]; omega, Nat.le_refl _, by simp [yM], hst.out, hbst.out⟩
 case round =>
  obtain ⟨p, q, f, acc, hp, hq, rfl, rfl, hf, hal, hacc, hown, hb⟩ := hrel
  have Hacc := Lib.hid hacc; clear hacc
  have Hown := Lib.hid hown; clear hown
  have hbs := hb.size
  by_cases hlt : p < n
  · have hpe : p < es.length := by rw [Hlen.out]; exact hlt
    obtain ⟨b1, o1, rfl, hl1, hl1x, hc1, hc2⟩ := hr.ent hb hpe
    have hWc1 := cellW hb hl1 hc1
    have hWc2 := cellW hb hl1 hc2
    obtain ⟨f', hf'⟩ : ∃ f', f = f' + 1 := ⟨f - 1, by omega⟩
    subst hf'
    by_cases hlq : q < n'
    case neg =>
     have hqn : q = n' := by omega
     have hte : ((q : Int) == (n' : Int)) = true := beq_iff_eq.2 (by omega)
     have hnew := Lib.hid (show (acc ++ [⟨es[p].1, 0, true⟩]) ++ yR f' (es.drop (p + 1)) (es'.drop q) = yM es es' by rw [← Hacc.out, aAy hpe (.inl (by rw [Hlen'.out]; omega))]; simp)
     clear hqn Hacc
     generalize es[p] = ek at *
     obtain ⟨k1, v1⟩ := ek
     go_wp2
     have hA_c1 := fun y : Aft wr => y.cell hl1x hc1
     have hA_c2 := fun y : Aft wr => y.cell hl1x hc2
     refine xD (by kernel_rfl) (by kernel_rfl) ?_
     repeat (go_big_quiet_step (fail))
     refine wpQuiet_nil ?_
     rintro _ ⟨y, rfl⟩
     clear hA_c1 hA_c2
     replace hb := yH hb y.below
     replace Hown := Lib.hid (ownsRow_below Hown.out y.below (Nat.le_refl _))
     replace hbs := hb.size
     replace hc1 := cellS hb hl1 hWc1
     replace hc2 := cellS hb hl1 hWc2
     replace hl1x := Nat.lt_of_lt_of_le hl1 hbs
     generalize y.at_ = w3 at *
     go_wp2_with (at_builtin; refine yj w3 rfl _ _ 92 rfl w.heap.size 191 i0 _ 3 32 Tryz.underlying92 Hi.out Hz0.out Hz1.out Hz2.out rfl (by decide) u5 acc.length (yD acc) rfl Hown.out #[.string k1, .int .i64 0, .bool true] 1 1 rfl rfl (aB9 _ _ _) (by omega) (by decide) hbs ?_; intro v' w9 hown' hgrow; have Hown' := Lib.hid hown'; clear hown')
     go_roundw
     case rel => exact ⟨p + 1, q, f', acc ++ [⟨k1, 0, true⟩], by omega, hq, by go_num, rfl, by omega, by rw [List.length_append, List.length_singleton]; omega, hnew.out, by rw [List.length_append, uY]; exact Hown'.out, below_grown hb hgrow Hown.out hbs (Nat.le_refl _)⟩
     case measure => simp [intOf]; omega
    have hqe : q < es'.length := by rw [Hlen'.out]; exact hlq
    obtain ⟨b2, o2, rfl, hl2, hl2x, hc3, hc4⟩ := hr'.ent hb hqe
    have hWc3 := cellW hb hl2 hc3
    have hWc4 := cellW hb hl2 hc4
    have hte : ((q : Int) == (n' : Int)) = false := beq_eq_false_iff_ne.2 (by omega)
    have htp : ((p : Int) == (n : Int)) = false := beq_eq_false_iff_ne.2 (by omega)
    have hpi : (p : Int) < (n : Int) := by omega
    cases hk1 : klt es[p].1 es'[q].1 with
    | true =>
     have ht1 : Op.bytesLess es[p].1.toList es'[q].1.toList = true := hk1
     have hnew := Lib.hid (show (acc ++ [⟨es[p].1, 0, true⟩]) ++ yR f' (es.drop (p + 1)) (es'.drop q) = yM es es' by rw [← Hacc.out, aAy hpe (.inr ⟨hqe, hk1⟩)]; simp)
     clear Hacc hk1
     generalize es[p] = ek at *
     generalize es'[q] = ek2 at *
     obtain ⟨k1, v1⟩ := ek
     obtain ⟨k2, v2⟩ := ek2
     go_wp2
     have hA_c1 := fun y : Aft wr => y.cell hl1x hc1
     have hA_c2 := fun y : Aft wr => y.cell hl1x hc2
     have hA_c3 := fun y : Aft wr => y.cell hl2x hc3
     have hA_c4 := fun y : Aft wr => y.cell hl2x hc4
     refine xD (by kernel_rfl) (by kernel_rfl) ?_
     repeat (go_big_quiet_step (fail))
     refine wpQuiet_nil ?_
     rintro _ ⟨y, rfl⟩
     clear hA_c1 hA_c2 hA_c3 hA_c4
     replace hb := yH hb y.below
     replace Hown := Lib.hid (ownsRow_below Hown.out y.below (Nat.le_refl _))
     replace hbs := hb.size
     replace hc1 := cellS hb hl1 hWc1
     replace hc2 := cellS hb hl1 hWc2
     replace hc3 := cellS hb hl2 hWc3
     replace hc4 := cellS hb hl2 hWc4
     replace hl1x := Nat.lt_of_lt_of_le hl1 hbs
     replace hl2x := Nat.lt_of_lt_of_le hl2 hbs
     generalize y.at_ = w3 at *
     go_wp2_with (at_builtin; refine yj w3 rfl _ _ 92 rfl w.heap.size 191 i0 _ 3 32 Tryz.underlying92 Hi.out Hz0.out Hz1.out Hz2.out rfl (by decide) u5 acc.length (yD acc) rfl Hown.out #[.string k1, .int .i64 0, .bool true] 1 1 rfl rfl (aB9 _ _ _) (by omega) (by decide) hbs ?_; intro v' w9 hown' hgrow; have Hown' := Lib.hid hown'; clear hown')
     go_roundw
     case rel => exact ⟨p + 1, q, f', acc ++ [⟨k1, 0, true⟩], by omega, hq, by go_num, rfl, by omega, by rw [List.length_append, List.length_singleton]; omega, hnew.out, by rw [List.length_append, uY]; exact Hown'.out, below_grown hb hgrow Hown.out hbs (Nat.le_refl _)⟩
     case measure => simp [intOf]; omega
    | false =>
     cases hk2 : klt es'[q].1 es[p].1 with
     | true =>
     have ht1 : Op.bytesLess es[p].1.toList es'[q].1.toList = false := hk1
     have ht2 : Op.bytesLess es'[q].1.toList es[p].1.toList = true := hk2
     have hnew := Lib.hid (show (acc ++ [⟨es'[q].1, es'[q].2, false⟩]) ++ yR f' (es.drop p) (es'.drop (q + 1)) = yM es es' by rw [← Hacc.out, aBe hqe (.inr ⟨hpe, hk2⟩)]; simp)
     clear Hacc hk1 hk2
     generalize es[p] = ek at *
     generalize es'[q] = ek2 at *
     obtain ⟨k1, v1⟩ := ek
     obtain ⟨k2, v2⟩ := ek2
     go_wp2
     have hA_c1 := fun y : Aft wr => y.cell hl1x hc1
     have hA_c2 := fun y : Aft wr => y.cell hl1x hc2
     have hA_c3 := fun y : Aft wr => y.cell hl2x hc3
     have hA_c4 := fun y : Aft wr => y.cell hl2x hc4
     refine xD (by kernel_rfl) (by kernel_rfl) ?_
     repeat (go_big_quiet_step (fail))
     refine wpQuiet_nil ?_
     rintro _ ⟨y, rfl⟩
     clear hA_c1 hA_c2 hA_c3 hA_c4
     replace hb := yH hb y.below
     replace Hown := Lib.hid (ownsRow_below Hown.out y.below (Nat.le_refl _))
     replace hbs := hb.size
     replace hc1 := cellS hb hl1 hWc1
     replace hc2 := cellS hb hl1 hWc2
     replace hc3 := cellS hb hl2 hWc3
     replace hc4 := cellS hb hl2 hWc4
     replace hl1x := Nat.lt_of_lt_of_le hl1 hbs
     replace hl2x := Nat.lt_of_lt_of_le hl2 hbs
     generalize y.at_ = w3 at *
     go_wp2
     have hA_c1 := fun y : Aft w3 => y.cell hl1x hc1
     have hA_c2 := fun y : Aft w3 => y.cell hl1x hc2
     have hA_c3 := fun y : Aft w3 => y.cell hl2x hc3
     have hA_c4 := fun y : Aft w3 => y.cell hl2x hc4
     refine xD (by kernel_rfl) (by kernel_rfl) ?_
     repeat (go_big_quiet_step (fail))
     refine wpQuiet_nil ?_
     rintro _ ⟨y, rfl⟩
     clear hA_c1 hA_c2 hA_c3 hA_c4
     replace hb := yH hb y.below
     replace Hown := Lib.hid (ownsRow_below Hown.out y.below (Nat.le_refl _))
     replace hbs := hb.size
     replace hc1 := cellS hb hl1 hWc1
     replace hc2 := cellS hb hl1 hWc2
     replace hc3 := cellS hb hl2 hWc3
     replace hc4 := cellS hb hl2 hWc4
     replace hl1x := Nat.lt_of_lt_of_le hl1 hbs
     replace hl2x := Nat.lt_of_lt_of_le hl2 hbs
     generalize y.at_ = w4 at *
     go_wp2
     have hc1x := hl1x
     have hq0 : (0 : Int) ≤ (q : Int) := by omega
     have hq1 : (q : Int) < (n' : Int) := by omega
     clear ht1 ht2 hc1 hc2
     go_region_held3 (fun w' => w'.cell? ⟨b2, o2 + q * 2, none⟩ = some (.string k2) ∧ w'.cell? ⟨b2, o2 + q * 2 + 1, none⟩ = some (.int .i64 v2))
     (first | go_keep | (go_split_ands; refine ⟨?_, ?_⟩ <;> (rw [hgrow.cell_far _ (by simp; omega) (fun h => by have h2 : w.heap.size ≤ b2 := (Hown.out.lt _ h.symm).1; omega)]; assumption)))
     ((refine step_append_lies _ (by rfl) _ _ _ (by rfl) w.heap.size 191 i0 _ 3 32 Tryz.underlying92 Hi.out Hz0.out Hz1.out Hz2.out rfl (by omega) u5 acc.length (yD acc) (by rfl) ((Hown.out.alloc _).drew) ⟨w4.heap.size, 0, none⟩ 1 1 [.string k2, .int .i64 v2, .bool false] (by rfl) (by rfl) (World.news_of_block (cs := #[.string k2, .int .i64 v2, .bool false]) (t := 191) (fr := (0, 0)) (heap_alloc_new w4 _)) (by simp [Value.oneCell']) (by omega) (by unfold maxLen; omega) (by omega) (by simp; omega) (w4.heap.size + 1) (by simp) ?_; intro gg cap w9 hown' hgrow hat hlt9))
     have hb9 : Below w.heap.size w w9 := below_grown (hb.alloc hbs _).drew hgrow ((Hown.out.alloc _).drew) (by simp; omega) (Nat.le_refl _)
     have Hown' := Lib.hid hown'
     clear hown' hgrow hat hlt9 hc1x
     go_wp2
     go_roundw
     case rel => exact ⟨p, q + 1, f', acc ++ [⟨k2, v2, false⟩], by omega, by omega, rfl, by go_num, by omega, by rw [List.length_append, List.length_singleton]; omega, hnew.out, by rw [List.length_append, uY]; exact Hown'.out, hb9⟩
     case measure => simp [intOf]; omega
     | false =>
     have ht1 : Op.bytesLess es[p].1.toList es'[q].1.toList = false := hk1
     have ht2 : Op.bytesLess es'[q].1.toList es[p].1.toList = false := hk2
     have hdb := aF6 (f := f') hpe hqe hk1 hk2
     by_cases hvv : es[p].2 = es'[q].2
     · have hnew := Lib.hid (show acc ++ yR f' (es.drop (p + 1)) (es'.drop (q + 1)) = yM es es' by rw [← Hacc.out, hdb, if_pos hvv]; simp)
       have htv : (es[p].2 != es'[q].2) = false := by rw [hvv]; simp
       clear Hacc hk1 hk2 hdb hvv
       generalize es[p] = ek at *
       generalize es'[q] = ek2 at *
       obtain ⟨k1, v1⟩ := ek
       obtain ⟨k2, v2⟩ := ek2
       go_wp2
       have hA_c1 := fun y : Aft wr => y.cell hl1x hc1
       have hA_c2 := fun y : Aft wr => y.cell hl1x hc2
       have hA_c3 := fun y : Aft wr => y.cell hl2x hc3
       have hA_c4 := fun y : Aft wr => y.cell hl2x hc4
       refine xD (by kernel_rfl) (by kernel_rfl) ?_
       repeat (go_big_quiet_step (fail))
       refine wpQuiet_nil ?_
       rintro _ ⟨y, rfl⟩
       clear hA_c1 hA_c2 hA_c3 hA_c4
       replace hb := yH hb y.below
       replace Hown := Lib.hid (ownsRow_below Hown.out y.below (Nat.le_refl _))
       replace hbs := hb.size
       replace hc1 := cellS hb hl1 hWc1
       replace hc2 := cellS hb hl1 hWc2
       replace hc3 := cellS hb hl2 hWc3
       replace hc4 := cellS hb hl2 hWc4
       replace hl1x := Nat.lt_of_lt_of_le hl1 hbs
       replace hl2x := Nat.lt_of_lt_of_le hl2 hbs
       generalize y.at_ = w3 at *
       go_wp2
       have hA_c1 := fun y : Aft w3 => y.cell hl1x hc1
       have hA_c2 := fun y : Aft w3 => y.cell hl1x hc2
       have hA_c3 := fun y : Aft w3 => y.cell hl2x hc3
       have hA_c4 := fun y : Aft w3 => y.cell hl2x hc4
       refine xD (by kernel_rfl) (by kernel_rfl) ?_
       repeat (go_big_quiet_step (fail))
       refine wpQuiet_nil ?_
       rintro _ ⟨y, rfl⟩
       clear hA_c1 hA_c2 hA_c3 hA_c4
       replace hb := yH hb y.below
       replace Hown := Lib.hid (ownsRow_below Hown.out y.below (Nat.le_refl _))
       replace hbs := hb.size
       replace hc1 := cellS hb hl1 hWc1
       replace hc2 := cellS hb hl1 hWc2
       replace hc3 := cellS hb hl2 hWc3
       replace hc4 := cellS hb hl2 hWc4
       replace hl1x := Nat.lt_of_lt_of_le hl1 hbs
       replace hl2x := Nat.lt_of_lt_of_le hl2 hbs
       generalize y.at_ = w4 at *
       go_wp2
       have hA_c1 := fun y : Aft w4 => y.cell hl1x hc1
       have hA_c2 := fun y : Aft w4 => y.cell hl1x hc2
       have hA_c3 := fun y : Aft w4 => y.cell hl2x hc3
       have hA_c4 := fun y : Aft w4 => y.cell hl2x hc4
       refine xD (by kernel_rfl) (by kernel_rfl) ?_
       repeat (go_big_quiet_step (fail))
       refine wpQuiet_nil ?_
       rintro _ ⟨y, rfl⟩
       clear hA_c1 hA_c2 hA_c3 hA_c4
       replace hb := yH hb y.below
       replace Hown := Lib.hid (ownsRow_below Hown.out y.below (Nat.le_refl _))
       replace hbs := hb.size
       replace hc1 := cellS hb hl1 hWc1
       replace hc2 := cellS hb hl1 hWc2
       replace hc3 := cellS hb hl2 hWc3
       replace hc4 := cellS hb hl2 hWc4
       replace hl1x := Nat.lt_of_lt_of_le hl1 hbs
       replace hl2x := Nat.lt_of_lt_of_le hl2 hbs
       generalize y.at_ = w5 at *
       go_wp2
       go_roundw
       case rel => exact ⟨p + 1, q + 1, f', acc, by omega, by omega, by go_num, by go_num, by omega, by omega, hnew.out, Hown.out, hb⟩
       case measure => simp [intOf]; omega
     · have hnew := Lib.hid (show (acc ++ [⟨es'[q].1, es'[q].2, false⟩]) ++ yR f' (es.drop (p + 1)) (es'.drop (q + 1)) = yM es es' by rw [← Hacc.out, hdb, if_neg hvv]; simp)
       have htv : (es[p].2 != es'[q].2) = true := bne_iff_ne.2 hvv
       clear Hacc hk1 hk2 hdb hvv
       generalize es[p] = ek at *
       generalize es'[q] = ek2 at *
       obtain ⟨k1, v1⟩ := ek
       obtain ⟨k2, v2⟩ := ek2
       go_wp2
       have hA_c1 := fun y : Aft wr => y.cell hl1x hc1
       have hA_c2 := fun y : Aft wr => y.cell hl1x hc2
       have hA_c3 := fun y : Aft wr => y.cell hl2x hc3
       have hA_c4 := fun y : Aft wr => y.cell hl2x hc4
       refine xD (by kernel_rfl) (by kernel_rfl) ?_
       repeat (go_big_quiet_step (fail))
       refine wpQuiet_nil ?_
       rintro _ ⟨y, rfl⟩
       clear hA_c1 hA_c2 hA_c3 hA_c4
       replace hb := yH hb y.below
       replace Hown := Lib.hid (ownsRow_below Hown.out y.below (Nat.le_refl _))
       replace hbs := hb.size
       replace hc1 := cellS hb hl1 hWc1
       replace hc2 := cellS hb hl1 hWc2
       replace hc3 := cellS hb hl2 hWc3
       replace hc4 := cellS hb hl2 hWc4
       replace hl1x := Nat.lt_of_lt_of_le hl1 hbs
       replace hl2x := Nat.lt_of_lt_of_le hl2 hbs
       generalize y.at_ = w3 at *
       go_wp2
       have hA_c1 := fun y : Aft w3 => y.cell hl1x hc1
       have hA_c2 := fun y : Aft w3 => y.cell hl1x hc2
       have hA_c3 := fun y : Aft w3 => y.cell hl2x hc3
       have hA_c4 := fun y : Aft w3 => y.cell hl2x hc4
       refine xD (by kernel_rfl) (by kernel_rfl) ?_
       repeat (go_big_quiet_step (fail))
       refine wpQuiet_nil ?_
       rintro _ ⟨y, rfl⟩
       clear hA_c1 hA_c2 hA_c3 hA_c4
       replace hb := yH hb y.below
       replace Hown := Lib.hid (ownsRow_below Hown.out y.below (Nat.le_refl _))
       replace hbs := hb.size
       replace hc1 := cellS hb hl1 hWc1
       replace hc2 := cellS hb hl1 hWc2
       replace hc3 := cellS hb hl2 hWc3
       replace hc4 := cellS hb hl2 hWc4
       replace hl1x := Nat.lt_of_lt_of_le hl1 hbs
       replace hl2x := Nat.lt_of_lt_of_le hl2 hbs
       generalize y.at_ = w4 at *
       go_wp2
       have hA_c1 := fun y : Aft w4 => y.cell hl1x hc1
       have hA_c2 := fun y : Aft w4 => y.cell hl1x hc2
       have hA_c3 := fun y : Aft w4 => y.cell hl2x hc3
       have hA_c4 := fun y : Aft w4 => y.cell hl2x hc4
       refine xD (by kernel_rfl) (by kernel_rfl) ?_
       repeat (go_big_quiet_step (fail))
       refine wpQuiet_nil ?_
       rintro _ ⟨y, rfl⟩
       clear hA_c1 hA_c2 hA_c3 hA_c4
       replace hb := yH hb y.below
       replace Hown := Lib.hid (ownsRow_below Hown.out y.below (Nat.le_refl _))
       replace hbs := hb.size
       replace hc1 := cellS hb hl1 hWc1
       replace hc2 := cellS hb hl1 hWc2
       replace hc3 := cellS hb hl2 hWc3
       replace hc4 := cellS hb hl2 hWc4
       replace hl1x := Nat.lt_of_lt_of_le hl1 hbs
       replace hl2x := Nat.lt_of_lt_of_le hl2 hbs
       generalize y.at_ = w5 at *
       go_wp2
       have hc1x := hl1x
       have hq0 : (0 : Int) ≤ (q : Int) := by omega
       have hq1 : (q : Int) < (n' : Int) := by omega
       clear ht1 ht2 htv hc1 hc2
       go_region_held3 (fun w' => w'.cell? ⟨b2, o2 + q * 2, none⟩ = some (.string k2) ∧ w'.cell? ⟨b2, o2 + q * 2 + 1, none⟩ = some (.int .i64 v2))
       (first | go_keep | (go_split_ands; refine ⟨?_, ?_⟩ <;> (rw [hgrow.cell_far _ (by simp; omega) (fun h => by have h2 : w.heap.size ≤ b2 := (Hown.out.lt _ h.symm).1; omega)]; assumption)))
       ((refine step_append_lies _ (by rfl) _ _ _ (by rfl) w.heap.size 191 i0 _ 3 32 Tryz.underlying92 Hi.out Hz0.out Hz1.out Hz2.out rfl (by omega) u5 acc.length (yD acc) (by rfl) ((Hown.out.alloc _).drew) ⟨w5.heap.size, 0, none⟩ 1 1 [.string k2, .int .i64 v2, .bool false] (by rfl) (by rfl) (World.news_of_block (cs := #[.string k2, .int .i64 v2, .bool false]) (t := 191) (fr := (0, 0)) (heap_alloc_new w5 _)) (by simp [Value.oneCell']) (by omega) (by unfold maxLen; omega) (by omega) (by simp; omega) (w5.heap.size + 1) (by simp) ?_; intro gg cap w9 hown' hgrow hat hlt9))
       have hb9 : Below w.heap.size w w9 := below_grown (hb.alloc hbs _).drew hgrow ((Hown.out.alloc _).drew) (by simp; omega) (Nat.le_refl _)
       have Hown' := Lib.hid hown'
       clear hown' hgrow hat hlt9 hc1x
       go_wp2
       go_roundw
       case rel => exact ⟨p + 1, q + 1, f', acc ++ [⟨k2, v2, false⟩], by omega, by omega, by go_num, by go_num, by omega, by rw [List.length_append, List.length_singleton]; omega, hnew.out, by rw [List.length_append, uY]; exact Hown'.out, hb9⟩
       case measure => simp [intOf]; omega
  · have hpn : p = n := by omega
    have htp : ((p : Int) == (n : Int)) = true := beq_iff_eq.2 (by omega)
    by_cases hlq : q < n'
    · have hqe : q < es'.length := by rw [Hlen'.out]; exact hlq
      obtain ⟨b2, o2, rfl, hl2, hl2x, hc3, hc4⟩ := hr'.ent hb hqe
      have hWc3 := cellW hb hl2 hc3
      have hWc4 := cellW hb hl2 hc4
      obtain ⟨f', hf'⟩ : ∃ f', f = f' + 1 := ⟨f - 1, by omega⟩
      subst hf'
      have hte : ((q : Int) == (n' : Int)) = false := beq_eq_false_iff_ne.2 (by omega)
      have hpi : ¬ (p : Int) < (n : Int) := by omega
      have hnew := Lib.hid (show (acc ++ [⟨es'[q].1, es'[q].2, false⟩]) ++ yR f' (es.drop p) (es'.drop (q + 1)) = yM es es' by rw [← Hacc.out, aBe hqe (.inl (by rw [Hlen.out]; omega))]; simp)
      clear Hacc hpn
      generalize es'[q] = ek2 at *
      obtain ⟨k2, v2⟩ := ek2
      have hdp : decide ((p : Int) < (n : Int)) = false := decide_eq_false hpi
      go_wp2
      have hA_c3 := fun y : Aft wr => y.cell hl2x hc3
      have hA_c4 := fun y : Aft wr => y.cell hl2x hc4
      refine xD (by kernel_rfl) (by kernel_rfl) ?_
      repeat (go_big_quiet_step (fail))
      refine wpQuiet_nil ?_
      rintro _ ⟨y, rfl⟩
      clear hA_c3 hA_c4
      replace hb := yH hb y.below
      replace Hown := Lib.hid (ownsRow_below Hown.out y.below (Nat.le_refl _))
      replace hbs := hb.size
      replace hc3 := cellS hb hl2 hWc3
      replace hc4 := cellS hb hl2 hWc4
      replace hl2x := Nat.lt_of_lt_of_le hl2 hbs
      generalize y.at_ = w3 at *
      go_wp2
      have hA_c3 := fun y : Aft w3 => y.cell hl2x hc3
      have hA_c4 := fun y : Aft w3 => y.cell hl2x hc4
      refine xD (by kernel_rfl) (by kernel_rfl) ?_
      repeat (go_big_quiet_step (fail))
      refine wpQuiet_nil ?_
      rintro _ ⟨y, rfl⟩
      clear hA_c3 hA_c4
      replace hb := yH hb y.below
      replace Hown := Lib.hid (ownsRow_below Hown.out y.below (Nat.le_refl _))
      replace hbs := hb.size
      replace hc3 := cellS hb hl2 hWc3
      replace hc4 := cellS hb hl2 hWc4
      replace hl2x := Nat.lt_of_lt_of_le hl2 hbs
      generalize y.at_ = w4 at *
      go_wp2
      have hc1x := hl2x
      have hq0 : (0 : Int) ≤ (q : Int) := by omega
      have hq1 : (q : Int) < (n' : Int) := by omega
      go_region_held3 (fun w' => w'.cell? ⟨b2, o2 + q * 2, none⟩ = some (.string k2) ∧ w'.cell? ⟨b2, o2 + q * 2 + 1, none⟩ = some (.int .i64 v2))
      (first | go_keep | (go_split_ands; refine ⟨?_, ?_⟩ <;> (rw [hgrow.cell_far _ (by simp; omega) (fun h => by have h2 : w.heap.size ≤ b2 := (Hown.out.lt _ h.symm).1; omega)]; assumption)))
      ((refine step_append_lies _ (by rfl) _ _ _ (by rfl) w.heap.size 191 i0 _ 3 32 Tryz.underlying92 Hi.out Hz0.out Hz1.out Hz2.out rfl (by omega) u5 acc.length (yD acc) (by rfl) ((Hown.out.alloc _).drew) ⟨w4.heap.size, 0, none⟩ 1 1 [.string k2, .int .i64 v2, .bool false] (by rfl) (by rfl) (World.news_of_block (cs := #[.string k2, .int .i64 v2, .bool false]) (t := 191) (fr := (0, 0)) (heap_alloc_new w4 _)) (by simp [Value.oneCell']) (by omega) (by unfold maxLen; omega) (by omega) (by simp; omega) (w4.heap.size + 1) (by simp) ?_; intro gg cap w9 hown' hgrow hat hlt9))
      have hb9 : Below w.heap.size w w9 := below_grown (hb.alloc hbs _).drew hgrow ((Hown.out.alloc _).drew) (by simp; omega) (Nat.le_refl _)
      have Hown' := Lib.hid hown'
      clear hown' hgrow hat hlt9 hc1x
      go_wp2
      go_roundw
      case rel => exact ⟨p, q + 1, f', acc ++ [⟨k2, v2, false⟩], by omega, by omega, rfl, by go_num, by omega, by rw [List.length_append, List.length_singleton]; omega, hnew.out, by rw [List.length_append, uY]; exact Hown'.out, hb9⟩
      case measure => simp [intOf]; omega
    · have hfin := Lib.hid (show acc = yM es es' by rw [← Hacc.out, aG3 _ _ _ (List.drop_eq_nil_of_le (by rw [Hlen.out]; omega)) (List.drop_eq_nil_of_le (by rw [Hlen'.out]; omega)), List.append_nil])
      clear hpn
      go_wp2
      go_ret
      exact ⟨_, rfl, by rw [← hfin.out]; exact Hown.out, hb⟩
end Go.Proofs.YtkfllfhcjegfoaaGreatDoor
namespace Go.Proofs.YtkfllfhcjegfoaaGreatDoor.AM
open Go Go.RowKit
def strA (k : ByteArray) : AV := .v (.string k)
def zx (x : Int) : AV := .v (.int .i64 x)
def xP (e : Ent) : AV := .agg [.v (.string e.1), .v (.int .i64 e.2)]
def xg (e : Edt) : AV := .agg [.v (.string e.key), .v (.int .i64 e.val), .v (.bool e.gone)]
theorem yB {α : Type} {f : α → AV} (h : ∀ a, yu (f a)) : ∀ l : List α, uI (l.map f)
 | [] => by simp only [List.map_nil]; unfold uI; trivial
 | a :: l => by simp only [List.map_cons]; unfold uI; exact ⟨h a, yB h l⟩
theorem aGH : ∀ ob ∈ ([] : List OB), qd ob := fun ob h => by cases h
theorem aGA {t sz : Nat} {xs : List AV} (h : uI xs) : ∀ ob ∈ [(⟨.s t, sz, xs⟩ : OB)], qd ob := fun ob hm => by rw [List.mem_singleton] at hm; subst hm; exact h
theorem aKG {t sz t' sz' : Nat} {xs xs' : List AV} (h : uI xs) (h' : uI xs') : ∀ ob ∈ [(⟨.s t, sz, xs⟩ : OB), ⟨.s t', sz', xs'⟩], qd ob := fun ob hm => by
 rcases List.mem_cons.1 hm with rfl | hm
 · exact h
 · exact aGA h' ob hm
theorem aAQ (e : Ent) : yu (xP e) := by unfold xP; simp [yu, uI]
theorem aAD (e : Edt) : yu (xg e) := by unfold xg; simp [yu, uI]
theorem aAX (e : ByteArray) : yu (strA e) := by unfold strA; simp [yu]
section
variable {S : Nat → Prop} {w : World}
theorem kJ : ∀ {es : List Ent} {cs : List Value}, RL S w (es.map xP) cs ↔ cs = xG es
 | [], cs => by simp only [List.map_nil]; unfold RL; simp [xG]
 | e :: es, cs => by
  simp only [List.map_cons]
  constructor
  · intro h
    unfold RL at h
    obtain ⟨c1, c2, rfl, h1, h2⟩ := h
    rw [kJ.1 h2, vG]
    unfold xP at h1
    simp only [RA, RL] at h1
    obtain ⟨a, b, rfl, ⟨rfl, _⟩, d1, d2, rfl, ⟨rfl, _⟩, rfl⟩ := h1
    rfl
  · intro h
    unfold RL
    refine ⟨[.string e.1, .int .i64 e.2], xG es, by rw [h, vG]; rfl, ?_, kJ.2 rfl⟩
    exact ra_agg (xO (c1 := [_]) (zR rfl) (xO (c1 := [_]) (zR rfl) uL))
theorem aAT : ∀ {es : List Edt} {cs : List Value}, RL S w (es.map xg) cs ↔ cs = yD es
 | [], cs => by simp only [List.map_nil]; unfold RL; simp [yD]
 | e :: es, cs => by
  simp only [List.map_cons]
  constructor
  · intro h
    unfold RL at h
    obtain ⟨c1, c2, rfl, h1, h2⟩ := h
    rw [aAT.1 h2, qQ]
    unfold xg at h1
    simp only [RA, RL] at h1
    obtain ⟨a, b, rfl, ⟨rfl, _⟩, d1, d2, rfl, ⟨rfl, _⟩, f1, f2, rfl, ⟨rfl, _⟩, rfl⟩ := h1
    rfl
  · intro h
    unfold RL
    refine ⟨[.string e.key, .int .i64 e.val, .bool e.gone], yD es, by rw [h, qQ]; rfl, ?_, aAT.2 rfl⟩
    exact ra_agg (xO (c1 := [_]) (zR rfl) (xO (c1 := [_]) (zR rfl) (xO (c1 := [_]) (zR rfl) uL)))
theorem aAH (es : List Ent) : ∀ x ∈ es.map xP, asz x = 2 := fun x hx => by obtain ⟨e, _, rfl⟩ := List.mem_map.1 hx; rfl
theorem aD6 (es : List Edt) : ∀ x ∈ es.map xg, asz x = 3 := fun x hx => by obtain ⟨e, _, rfl⟩ := List.mem_map.1 hx; rfl
theorem zb {S0 : Nat → Prop} {hp B V} (hS : ∀ b, S0 b → b < w.heap.size) {es : List Ent} {u : Value} (h : RV S0 w hp B V (.lst 2 (es.map xP)) u) : ∃ A c, u = .slice A es.length c ∧ es.length ≤ c ∧ c ≤ maxLen ∧ Rd w 2 A es.length (xG es) := by
 unfold RV at h
 unfold RA at h
 obtain ⟨A, c, e, h1, h2, _, _, h4⟩ := h
 simp only [List.cons.injEq, and_true, List.length_map] at e h1
 refine ⟨A, c, e, h1, h2, by rw [yU], fun hn => ?_⟩
 rcases h4 with h4 | ⟨b, off, us, rfl, hb, hr, hc⟩
 · have := List.map_eq_nil_iff.1 h4; subst this; simp at hn
 · rw [kJ.1 hr] at hc
   exact ⟨b, off, rfl, hS b hb, hc⟩
theorem aAC {S0 : Nat → Prop} {hp B V} (hS : ∀ b, S0 b → b < w.heap.size) {es : List Edt} {u : Value} (h : RV S0 w hp B V (.lst 3 (es.map xg)) u) : ∃ A c, u = .slice A es.length c ∧ es.length ≤ c ∧ c ≤ maxLen ∧ Rd w 3 A es.length (yD es) := by
 unfold RV at h
 unfold RA at h
 obtain ⟨A, c, e, h1, h2, _, _, h4⟩ := h
 simp only [List.cons.injEq, and_true, List.length_map] at e h1
 refine ⟨A, c, e, h1, h2, by rw [jA], fun hn => ?_⟩
 rcases h4 with h4 | ⟨b, off, us, rfl, hb, hr, hc⟩
 · have := List.map_eq_nil_iff.1 h4; subst this; simp at hn
 · rw [aAT.1 hr] at hc
   exact ⟨b, off, rfl, hS b hb, hc⟩
theorem aB7 {S0 : Nat → Prop} {hp B V} {x u : Value} (h : RV S0 w hp B V (.v x) u) : u = x := by unfold RV at h; exact h.1
theorem wL {S0 : Nat → Prop} {hp B V} {x : AV} {us : List Value} (h : RVs S0 w hp B V [x] us) : ∃ u, us = [u] ∧ RV S0 w hp B V x u := by
 unfold RVs at h; obtain ⟨u, us', rfl, h1, h2⟩ := h; unfold RVs at h2; subst h2; exact ⟨u, rfl, h1⟩
theorem aAK {S0 : Nat → Prop} {hp B V} {x : AV} {xs : List AV} {us : List Value} (h : RVs S0 w hp B V (x :: xs) us) : ∃ u us', us = u :: us' ∧ RV S0 w hp B V x u ∧ RVs S0 w hp B V xs us' := by
 unfold RVs at h; exact h
end
section
variable {P : Program} {f : FuncId} {fn : Func} {args : List AV}
theorem uH (hf : P.funcs[f]? = some fn) (hnm : (fn.name == "runtime.NumGoroutine") = false) (hb : fn.body.isNone = false) : ∀ vs w, (callFunc f vs).run P w = .ok (.enter f vs) w := fun vs w => by
 simp only [callFunc, Sem.run_bind, run_program, Result.andThen_ok, hf, hnm, hb]; rfl
theorem aE7 {S : Nat → Prop} {w : World} {hp hp' : Nat → Option OB} {B B' : Nat → Nat} {V V' : Nat → Value} {xs : List AV} {vs : List Value} (hn : ∀ l, hp l = none) (h : RVs S w hp B V xs vs) : RVs S w hp' B' V' xs vs :=
 RVs.carry (fun _ h => h) (fun _ _ => rfl) _ _ (fun l _ ob e => by rw [hn] at e; cases e) h
theorem aBi {S : Nat → Prop} {w : World} {hp : Nat → Option OB} {B : Nat → Nat} {V : Nat → Value} {T : Nat → Nat → Prop} {lo : Nat → Prop} (hn : ∀ l, hp l = none) : Rows S w hp (fun _ => none) B V T lo :=
 ⟨fun l ob e => (by rw [hn] at e; cases e), fun l ob g e => (by rw [hn] at e; cases e), fun l ob g e => (by rw [hn] at e; cases e), fun l l' o1 o2 g e => (by rw [hn] at e; cases e), fun l es e => (by cases e)⟩
theorem aKH (l : Nat) : u6 [] l = none := by simp [u6]
theorem aOZ {w : World} {b t sz n : Nat} {v : Value} {cs : List Value} (h : w.ownsRow b t sz v n cs) : w.ownsRow 0 t sz v n cs := by
 refine ⟨h.1, ?_⟩
 rcases h.2 with k | ⟨g, cap, cur, e, hb, r⟩
 · exact .inl k
 · exact .inr ⟨g, cap, cur, e, Nat.zero_le _, r⟩
theorem kV {r : Value} (hent : ∀ vs w, (callFunc f vs).run P w = .ok (.enter f vs) w) (h1 : r.oneCell' = true)
 (h : ∀ (w : World) (S0 : Nat → Prop) (vs : List Value), (∀ b, S0 b → b < w.heap.size) → RVs S0 w (fun _ => none) (fun _ => 0) (fun _ => undef) args vs → Calls P f vs.toArray w fun e w' => e = .returned r ∧ Below w.heap.size w w') : AC P f args ⟨.v r, []⟩ :=
 ⟨hent, fun w S0 B0 V0 T0 vs hS _ _ hv => (h w S0 vs hS (aE7 (fun _ => rfl) hv)).mono fun e w' ⟨he, hb⟩ => ⟨r, S0, fun _ => 0, fun _ => undef, fun _ => Fa, fun _ => Fa, he, Grown.of hb _, fun _ h => h, fun b hb' => ⟨Nat.lt_of_lt_of_le (hS b hb') hb.size, .inl hb'⟩, by unfold RV; exact ⟨rfl, h1⟩, aBi aKH, aBi (fun _ => rfl), fun l l' ob ob' g e => (by rw [aKH] at e; cases e)⟩⟩
theorem aOQ {S : Nat → Prop} {w' : World} {base : Nat} {t sz : Nat} {xs : List AV} {v : Value} {cs : List Value} {lo : Nat → Prop} (hlo : ∀ g, base ≤ g → lo g) (hS : ∀ b, S b → b < base) (ho : w'.ownsRow base t sz v xs.length cs) (ha : ∀ x ∈ xs, asz x = sz) (h0 : 0 < sz) (hr : RL S w' xs cs) : Rows S w' (u6 [⟨.s t, sz, xs⟩]) (fun _ => none) (fun _ => (v.ownBlock).getD 0) (fun _ => v) (fun _ => Fa) lo := by
 have h0' : ∀ l ob, u6 [(⟨.s t, sz, xs⟩ : OB)] l = some ob → l = 0 ∧ ob = ⟨.s t, sz, xs⟩ := fun l ob e => by
  cases l with
  | zero => simp [u6] at e; exact ⟨rfl, e.symm⟩
  | succ l => simp [u6] at e
 refine ⟨fun l ob e => ?_, fun l ob g e hb => ?_, fun l ob g e _ hb => hb.elim, fun l l' o1 o2 g e1 e2 _ _ => ?_, fun l es e => by cases e⟩
 · obtain ⟨rfl, rfl⟩ := h0' l ob e
   exact ⟨t, cs, ⟨fun t' e => by cases e; rfl, trivial⟩, hr, ha, h0, aOZ ho, fun g hg => by rw [hg]; rfl⟩
 · rcases hb with hb | hb
   · have := ho.lt g hb
     exact ⟨fun hs => by have := hS g hs; omega, this.2, hlo g this.1⟩
   · exact hb.elim
 · rw [(h0' l o1 e1).1, (h0' l' o2 e2).1]
theorem qX {e : TypeId} {sz : Nat} {xs : List AV} {cs : List Value} (hent : ∀ vs w, (callFunc f vs).run P w = .ok (.enter f vs) w) (ha : ∀ x ∈ xs, asz x = sz) (h0 : 0 < sz) (hr : ∀ S w, RL S w xs cs)
 (h : ∀ (w : World) (S0 : Nat → Prop) (vs : List Value), (∀ b, S0 b → b < w.heap.size) → RVs S0 w (fun _ => none) (fun _ => 0) (fun _ => undef) args vs → Calls P f vs.toArray w fun en w' => ∃ v, en = .returned v ∧ w'.ownsRow w.heap.size e sz v xs.length cs ∧ Below w.heap.size w w') : AC P f args ⟨.own 0, [⟨.s e, sz, xs⟩]⟩ :=
 ⟨hent, fun w S0 B0 V0 T0 vs hS _ _ hv => (h w S0 vs hS (aE7 (fun _ => rfl) hv)).mono fun en w' ⟨v, he, ho, hb⟩ =>
  ⟨v, S0, fun _ => (v.ownBlock).getD 0, fun _ => v, fun _ => Fa, fun _ => Fa, he, Grown.of hb _, fun _ h => h, fun b hb' => ⟨Nat.lt_of_lt_of_le (hS b hb') hb.size, .inl hb'⟩, by unfold RV; exact ⟨⟨_, rfl⟩, rfl⟩, aOQ (fun g hg => .inl hg) hS ho ha h0 (hr _ _), aBi (fun _ => rfl), fun l l' ob ob' g _ e => by cases e⟩⟩
end
theorem aQb : ∀ vs w, (callFunc 68 vs).run Tryz.prog w = .ok (.enter 68 vs) w := uH Tryz.func68 (by kernel_rfl) (by kernel_rfl)
theorem aPg : ∀ vs w, (callFunc 146 vs).run Tryz.prog w = .ok (.enter 146 vs) w := uH Tryz.func146 (by kernel_rfl) (by kernel_rfl)
theorem aPn : ∀ vs w, (callFunc 164 vs).run Tryz.prog w = .ok (.enter 164 vs) w := uH Tryz.func164 (by kernel_rfl) (by kernel_rfl)
theorem aPc : ∀ vs w, (callFunc 199 vs).run Tryz.prog w = .ok (.enter 199 vs) w := uH Tryz.func199 (by kernel_rfl) (by kernel_rfl)
theorem aP5 : ∀ vs w, (callFunc 167 vs).run Tryz.prog w = .ok (.enter 167 vs) w := uH Tryz.func167 (by kernel_rfl) (by kernel_rfl)
theorem aQB : ∀ vs w, (callFunc 166 vs).run Tryz.prog w = .ok (.enter 166 vs) w := uH Tryz.func166 (by kernel_rfl) (by kernel_rfl)
theorem aP4 : ∀ vs w, (callFunc 197 vs).run Tryz.prog w = .ok (.enter 197 vs) w := uH Tryz.func197 (by kernel_rfl) (by kernel_rfl)
theorem aPO : ∀ vs w, (callFunc 196 vs).run Tryz.prog w = .ok (.enter 196 vs) w := uH Tryz.func196 (by kernel_rfl) (by kernel_rfl)
theorem aPz : ∀ vs w, (callFunc 195 vs).run Tryz.prog w = .ok (.enter 195 vs) w := uH Tryz.func195 (by kernel_rfl) (by kernel_rfl)
theorem aQa : ∀ vs w, (callFunc 72 vs).run Tryz.prog w = .ok (.enter 72 vs) w := uH Tryz.func72 (by kernel_rfl) (by kernel_rfl)
theorem aRB : ∀ vs w, (callFunc 85 vs).run Tryz.prog w = .ok (.enter 85 vs) w := uH Tryz.func85 (by kernel_rfl) (by kernel_rfl)
theorem aQD : ∀ vs w, (callFunc 106 vs).run Tryz.prog w = .ok (.enter 106 vs) w := uH Tryz.func106 (by kernel_rfl) (by kernel_rfl)
theorem ji {es : List Ent} (hm : es.length ≤ maxLen) (hk : ∀ e ∈ es, e.1.size ≤ maxLen) : AC Tryz.prog 68 [.lst 2 (es.map xP)] ⟨.v (.bool (zC es)), []⟩ :=
 kV aQb rfl fun w S0 vs hS hv => by
  obtain ⟨u, rfl, h1⟩ := wL hv
  obtain ⟨A, c, rfl, _, _, hr⟩ := zb hS h1
  exact aNF A es.length c es w hr hm hk
theorem aBQ {es : List Ent} (hm : es.length ≤ maxLen) (hk : ∀ e ∈ es, e.1.size ≤ maxLen) : AC Tryz.prog 146 [.lst 2 (es.map xP)] ⟨.v (.bool (zC es)), []⟩ :=
 kV aPg rfl fun w S0 vs hS hv => by
  obtain ⟨u, rfl, h1⟩ := wL hv
  obtain ⟨A, c, rfl, _, _, hr⟩ := zb hS h1
  exact aHP A es.length c es w hr hm hk
theorem qE {es : List Ent} {b : Bool} (hb : zC es = b) (hm : es.length ≤ maxLen) (hk : ∀ e ∈ es, e.1.size ≤ maxLen) : AC Tryz.prog 68 [.lst 2 (es.map xP)] ⟨.v (.bool b), []⟩ := hb ▸ ji hm hk
theorem aCn {es : List Ent} {b : Bool} (hb : zC es = b) (hm : es.length ≤ maxLen) (hk : ∀ e ∈ es, e.1.size ≤ maxLen) : AC Tryz.prog 146 [.lst 2 (es.map xP)] ⟨.v (.bool b), []⟩ := hb ▸ aBQ hm hk
theorem aF0 {es es' : List Ent} (hm : es.length ≤ 4096) (hm' : es'.length ≤ 4096) : AC Tryz.prog 164 [.lst 2 (es.map xP), .lst 2 (es'.map xP)] ⟨.own 0, [⟨191, 3, (yM es es').map xg⟩]⟩ :=
 qX (cs := yD (yM es es')) aPn (aD6 _) (by omega) (fun S w => aAT.2 rfl) fun w S0 vs hS hv => by
  obtain ⟨u, us, rfl, h1, hv⟩ := aAK hv
  obtain ⟨u', rfl, h2⟩ := wL hv
  obtain ⟨A, c, rfl, _, _, hr⟩ := zb hS h1
  obtain ⟨A', c', rfl, _, _, hr'⟩ := zb hS h2
  rw [List.length_map]
  exact aJp A _ c es A' _ c' es' w hr hr' hm hm'
theorem vJ {es es' : List Ent} (hm : es.length ≤ 4096) (hm' : es'.length ≤ 4096) : AC Tryz.prog 199 [.lst 2 (es.map xP), .lst 2 (es'.map xP)] ⟨.own 0, [⟨191, 3, (yM es es').map xg⟩]⟩ :=
 qX (cs := yD (yM es es')) aPc (aD6 _) (by omega) (fun S w => aAT.2 rfl) fun w S0 vs hS hv => by
  obtain ⟨u, us, rfl, h1, hv⟩ := aAK hv
  obtain ⟨u', rfl, h2⟩ := wL hv
  obtain ⟨A, c, rfl, _, _, hr⟩ := zb hS h1
  obtain ⟨A', c', rfl, _, _, hr'⟩ := zb hS h2
  rw [List.length_map]
  exact aEs A _ c es A' _ c' es' w hr hr' hm hm'
theorem aNT {es : List Ent} {k : ByteArray} {v : Int} (hm : es.length ≤ 4096) : AC Tryz.prog 167 [.lst 2 (es.map xP), .v (.string k), .v (.int .i64 v)] ⟨.own 0, [⟨167, 2, (za es k v).map xP⟩]⟩ :=
 qX (cs := xG (za es k v)) aP5 (aAH _) (by omega) (fun S w => kJ.2 rfl) fun w S0 vs hS hv => by
  obtain ⟨u, us, rfl, h1, hv⟩ := aAK hv
  obtain ⟨u2, us, rfl, h2, hv⟩ := aAK hv
  obtain ⟨u3, rfl, h3⟩ := wL hv
  obtain ⟨A, c, rfl, _, _, hr⟩ := zb hS h1
  rw [aB7 h2, aB7 h3, List.length_map]
  exact aLl A _ c es k v w hr hm
theorem aIo {es : List Ent} {k : ByteArray} (hm : es.length ≤ 4096) : AC Tryz.prog 166 [.lst 2 (es.map xP), .v (.string k)] ⟨.own 0, [⟨167, 2, (kM es k).map xP⟩]⟩ :=
 qX (cs := xG (kM es k)) aQB (aAH _) (by omega) (fun S w => kJ.2 rfl) fun w S0 vs hS hv => by
  obtain ⟨u, us, rfl, h1, hv⟩ := aAK hv
  obtain ⟨u2, rfl, h2⟩ := wL hv
  obtain ⟨A, c, rfl, _, _, hr⟩ := zb hS h1
  rw [aB7 h2, List.length_map]
  exact aHL A _ c es k w hr hm
theorem aQE {es : List Ent} {k : ByteArray} {v : Int} (hs : Srt es) (hm : es.length ≤ 4096) : AC Tryz.prog 197 [.lst 2 (es.map xP), .agg [.v (.string k), .v (.int .i64 v)]] ⟨.own 0, [⟨167, 2, (za es k v).map xP⟩]⟩ :=
 qX (cs := xG (za es k v)) aP4 (aAH _) (by omega) (fun S w => kJ.2 rfl) fun w S0 vs hS hv => by
  obtain ⟨u, us, rfl, h1, hv⟩ := aAK hv
  obtain ⟨u2, rfl, h2⟩ := wL hv
  obtain ⟨A, c, rfl, hc, _, hr⟩ := zb hS h1
  unfold RV at h2
  obtain ⟨cs, rfl, h2⟩ := h2
  have hcs : cs = [.string k, .int .i64 v] := aEQ (xs := [.v (.string k), .v (.int .i64 v)]) rfl h2
  rw [hcs, List.length_map]
  exact aOV A _ c es k v w hr hs hc hm
theorem aLA {es : List Ent} {k : ByteArray} (hs : Srt es) (hm : es.length ≤ 4096) : AC Tryz.prog 196 [.lst 2 (es.map xP), .v (.string k)] ⟨.own 0, [⟨167, 2, (kM es k).map xP⟩]⟩ :=
 qX (cs := xG (kM es k)) aPO (aAH _) (by omega) (fun S w => kJ.2 rfl) fun w S0 vs hS hv => by
  obtain ⟨u, us, rfl, h1, hv⟩ := aAK hv
  obtain ⟨u2, rfl, h2⟩ := wL hv
  obtain ⟨A, c, rfl, hc, hc2, hr⟩ := zb hS h1
  rw [aB7 h2, List.length_map]
  exact aJK A _ c es k w hr hs hc hc2 hm
theorem aPx {es : List Ent} {a b : Nat} (hab : a ≤ b) (hbn : b ≤ es.length) (hm : es.length ≤ 4096) : AC Tryz.prog 195 [.lst 2 (es.map xP), .v (.int .i64 a), .v (.int .i64 b)] ⟨.own 0, [⟨167, 2, ((es.drop a).take (b - a)).map xP⟩]⟩ :=
 qX (cs := xG ((es.drop a).take (b - a))) aPz (aAH _) (by omega) (fun S w => kJ.2 rfl) fun w S0 vs hS hv => by
  obtain ⟨u, us, rfl, h1, hv⟩ := aAK hv
  obtain ⟨u2, us, rfl, h2, hv⟩ := aAK hv
  obtain ⟨u3, rfl, h3⟩ := wL hv
  obtain ⟨A, c, rfl, hc, hc2, hr⟩ := zb hS h1
  rw [aB7 h2, aB7 h3, List.length_map]
  exact aIT A _ c es a b w hr hab hbn hc hc2 hm
theorem aBm {es : List Ent} (hm : es.length ≤ 1048576) : AC Tryz.prog 72 [.lst 2 (es.map xP)] ⟨.own 0, [⟨167, 2, es.map xP⟩]⟩ :=
 qX (cs := xG es) aQa (aAH _) (by omega) (fun S w => kJ.2 rfl) fun w S0 vs hS hv => by
  obtain ⟨u, rfl, h1⟩ := wL hv
  obtain ⟨A, c, rfl, _, _, hr⟩ := zb hS h1
  rw [List.length_map]
  exact aIF A _ c es w hr hm
theorem aBo {es es' : List Ent} (hm : es.length ≤ maxLen) (hm' : es'.length ≤ maxLen) : AC Tryz.prog 85 [.lst 2 (es.map xP), .lst 2 (es'.map xP)] ⟨.v (.bool (decide (es = es'))), []⟩ :=
 kV aRB rfl fun w S0 vs hS hv => by
  obtain ⟨u, us, rfl, h1, hv⟩ := aAK hv
  obtain ⟨u', rfl, h2⟩ := wL hv
  obtain ⟨A, c, rfl, _, _, hr⟩ := zb hS h1
  obtain ⟨A', c', rfl, _, _, hr'⟩ := zb hS h2
  exact aHr A _ c es A' _ c' es' w hr hr' hm hm'
theorem aEa {es : List Edt} (hm : es.length ≤ 1048576) : AC Tryz.prog 106 [.lst 3 (es.map xg)] ⟨.own 0, [⟨191, 3, es.map xg⟩]⟩ :=
 qX (cs := yD es) aQD (aD6 _) (by omega) (fun S w => aAT.2 rfl) fun w S0 vs hS hv => by
  obtain ⟨u, rfl, h1⟩ := wL hv
  obtain ⟨A, c, rfl, _, _, hr⟩ := aAC hS h1
  rw [List.length_map]
  exact aJa A _ c es w hr hm
theorem aFZ {es : List Edt} (hm : es.length ≤ maxLen) : AC Tryz.prog 124 [.lst 3 (es.map xg), .lst 3 (es.map xg)] ⟨.v (.bool true), []⟩ :=
 kV (uH Tryz.func124 (by kernel_rfl) (by kernel_rfl)) rfl fun w S0 vs hS hv => by
  obtain ⟨u, us, rfl, h1, hv⟩ := aAK hv
  obtain ⟨u', rfl, h2⟩ := wL hv
  obtain ⟨A, c, rfl, _, _, hr⟩ := aAC hS h1
  obtain ⟨A', c', rfl, _, _, hr'⟩ := aAC hS h2
  exact aJn A _ c es A' _ c' es w hr hr' hm hm rfl
end Go.Proofs.YtkfllfhcjegfoaaGreatDoor.AM
