/- Diff, the document's and the program's: both go through the two maps side by side. -/
import Derived.Test.YtjhimcddgkoghaaLawN
import Derived.Test.YtjhimcddgkoghaaBase2
import Derived.Test.YtjhimcddgkoghaaM3
namespace Go.Proofs.Ytjhimcddgkoghaa
open Go.RowKit

def diffL : Nat → List Ent → List Ent → List Edt
  | 0, _, _ => []
  | _ + 1, [], [] => []
  | f + 1, x :: a, [] => ⟨x.1, 0, true⟩ :: diffL f a []
  | f + 1, [], y :: b => ⟨y.1, y.2, false⟩ :: diffL f [] b
  | f + 1, x :: a, y :: b => if klt x.1 y.1 then ⟨x.1, 0, true⟩ :: diffL f a (y :: b) else if klt y.1 x.1 then ⟨y.1, y.2, false⟩ :: diffL f (x :: a) b else (if x.2 = y.2 then [] else [⟨y.1, y.2, false⟩]) ++ diffL f a b
def diffM (a b : List Ent) : List Edt := diffL (a.length + b.length) a b
theorem diffL_end (f : Nat) (a b : List Ent) (ha : a = []) (hb : b = []) : diffL f a b = [] := by subst ha; subst hb; cases f <;> rfl
theorem diffL_gone {f : Nat} {a b : List Ent} {p q : Nat} (hp : p < a.length) (h : b.length ≤ q ∨ ∃ hq : q < b.length, klt a[p].1 b[q].1 = true) : diffL (f + 1) (a.drop p) (b.drop q) = ⟨a[p].1, 0, true⟩ :: diffL f (a.drop (p + 1)) (b.drop q) := by
  rw [List.drop_eq_getElem_cons hp]
  rcases h with h | ⟨hq, h⟩
  · rw [List.drop_eq_nil_of_le h]; rfl
  · rw [List.drop_eq_getElem_cons hq, diffL, if_pos h]
theorem diffL_set {f : Nat} {a b : List Ent} {p q : Nat} (hq : q < b.length) (h : a.length ≤ p ∨ ∃ hp : p < a.length, klt b[q].1 a[p].1 = true) : diffL (f + 1) (a.drop p) (b.drop q) = ⟨b[q].1, b[q].2, false⟩ :: diffL f (a.drop p) (b.drop (q + 1)) := by
  rw [List.drop_eq_getElem_cons hq]
  rcases h with h | ⟨hp, h⟩
  · rw [List.drop_eq_nil_of_le h]; rfl
  · rw [List.drop_eq_getElem_cons hp, diffL, if_neg (by rw [klt_asymm h]; simp), if_pos h]
theorem diffL_both {f : Nat} {a b : List Ent} {p q : Nat} (hp : p < a.length) (hq : q < b.length) (h1 : klt a[p].1 b[q].1 = false) (h2 : klt b[q].1 a[p].1 = false) : diffL (f + 1) (a.drop p) (b.drop q) = (if a[p].2 = b[q].2 then [] else [⟨b[q].1, b[q].2, false⟩]) ++ diffL f (a.drop (p + 1)) (b.drop (q + 1)) := by
  rw [List.drop_eq_getElem_cons hp, List.drop_eq_getElem_cons hq, diffL, if_neg (by rw [h1]; simp), if_neg (by rw [h2]; simp)]

def EdtPost (e : TypeId) (l : List Edt) (w : World) (e' : Ending) (w' : World) : Prop := ∃ v, e' = .returned v ∧ w'.ownsRow w.heap.size e 3 v l.length (edtsC l) ∧ Below w.heap.size w w'
theorem edtsC_snoc (es : List Edt) (k : ByteArray) (v : Int) (g : Bool) : edtsC (es ++ [⟨k, v, g⟩]) = edtsC es ++ #[Value.string k, Value.int .i64 v, Value.bool g].toList := by rw [edtsC_append]; rfl
theorem edt_cells (k : ByteArray) (v : Int) (g : Bool) : ∀ u ∈ #[Value.string k, Value.int .i64 v, Value.bool g].toList, u.oneCell' = true := by
  intro u hu
  simp at hu
  rcases hu with rfl | rfl | rfl <;> rfl

set_option maxHeartbeats 4000000 in
set_option maxRecDepth 100000 in
theorem l01Diff_any (A : Option Addr) (n c : Nat) (es : List Ent) (A' : Option Addr) (n' c' : Nat) (es' : List Ent) (w : World) (hr : Rd w 2 A n (entsC es)) (hr' : Rd w 2 A' n' (entsC es')) (hm : n ≤ 4096) (hm' : n' ≤ 4096) :
    Calls Try.prog 169 #[.slice A n c, .slice A' n' c'] w (EdtPost 117 (diffM es es') w) := by
  have hlen := hr.len
  have hlen' := hr'.len
  have Hlen := Lib.hid hlen; clear hlen
  have Hlen' := Lib.hid hlen'; clear hlen'
  obtain ⟨i0, hi, hz0, hz1, hz2⟩ := info_parts info_Edit
  have Hi := Lib.hid hi; clear hi
  have Hz0 := Lib.hid hz0; clear hz0
  have Hz1 := Lib.hid hz1; clear hz1
  have Hz2 := Lib.hid hz2; clear hz2
  go_enter Try.func169, Try.ntmps169
  go_wp2
  have hst : Hid ((w.alloc (Obj.cells #[] 117)).ownsRow w.heap.size 117 3 (.slice (some ⟨w.heap.size, 0, none⟩) 0 0) 0 []) := World.ownsRow_made w #[] 0 (Nat.le_refl _) (by simp) (by simp)
  have hbst : Hid (Below w.heap.size w (w.alloc (Obj.cells #[] 117))) := (Below.refl _ _).alloc (Nat.le_refl _) _
  go_loopw [5, 6, 7] (fun out i j wr => ∃ (p q f : Nat) (acc : List Edt), p ≤ n ∧ q ≤ n' ∧ i = .int .i64 p ∧ j = .int .i64 q ∧ (n - p) + (n' - q) ≤ f ∧ acc.length ≤ p + q ∧ acc ++ diffL f (es.drop p) (es'.drop q) = diffM es es' ∧ wr.ownsRow w.heap.size 117 3 out acc.length (edtsC acc) ∧ Below w.heap.size w wr) (fun _ i j _ => (n - (intOf i).toNat) + (n' - (intOf j).toNat))
  case atStart => exact ⟨0, 0, es.length + es'.length, [], Nat.zero_le _, Nat.zero_le _, rfl, rfl, by rw [Hlen.out, Hlen'.out]; omega, Nat.le_refl _, by simp [diffM], hst.out, hbst.out⟩
  case round =>
    obtain ⟨p, q, f, acc, hp, hq, rfl, rfl, hf, hal, hacc, hown, hb⟩ := hrel
    have Hacc := Lib.hid hacc; clear hacc
    have Hown := Lib.hid hown; clear hown
    have hbs := hb.size
    by_cases hlt : p < n
    · have hpe : p < es.length := by rw [Hlen.out]; exact hlt
      obtain ⟨b1, o1, rfl, hl1, hl1x, hc1, hc2⟩ := hr.ent hb hpe
      have hWc1 := cellW hb hl1 hc1
      have hWc2 := cellW hb hl1 hc2
      obtain ⟨f', hf'⟩ : ∃ f', f = f' + 1 := ⟨f - 1, by omega⟩
      subst hf'
      by_cases hlq : q < n'
      case neg =>
        have hqn : q = n' := by omega
        have hte : ((q : Int) == (n' : Int)) = true := beq_iff_eq.2 (by omega)
        have hnew := Lib.hid (show (acc ++ [⟨es[p].1, 0, true⟩]) ++ diffL f' (es.drop (p + 1)) (es'.drop q) = diffM es es' by rw [← Hacc.out, diffL_gone hpe (.inl (by rw [Hlen'.out]; omega))]; simp)
        clear hqn Hacc
        generalize es[p] = ek at *
        obtain ⟨k1, v1⟩ := ek
        go_wp2
        have hA_c1 := fun y : Aft wr => y.cell hl1x hc1
        have hA_c2 := fun y : Aft wr => y.cell hl1x hc2
        refine wp_region_after (by kernel_rfl) (by kernel_rfl) ?_
        repeat (go_big_quiet_step (fail))
        refine wpQuiet_nil ?_
        rintro _ ⟨y, rfl⟩
        clear hA_c1 hA_c2
        replace hb := keepS hb y.below
        replace Hown := Lib.hid (ownsRow_below Hown.out y.below (Nat.le_refl _))
        replace hbs := hb.size
        replace hc1 := cellS hb hl1 hWc1
        replace hc2 := cellS hb hl1 hWc2
        replace hl1x := Nat.lt_of_lt_of_le hl1 hbs
        generalize y.at_ = w3 at *
        go_wp2_with (at_builtin; refine wpList_append_new w3 rfl _ _ 27 rfl w.heap.size 117 i0 _ 3 32 Try.underlying27 Hi.out Hz0.out Hz1.out Hz2.out rfl (by decide) u5 acc.length (edtsC acc) rfl Hown.out #[.string k1, .int .i64 0, .bool true] 1 1 rfl rfl (edt_cells _ _ _) (by omega) (by decide) hbs ?_; intro v' w9 hown' hgrow; have Hown' := Lib.hid hown'; clear hown')
        go_roundw
        case rel => exact ⟨p + 1, q, f', acc ++ [⟨k1, 0, true⟩], by omega, hq, by go_num, rfl, by omega, by rw [List.length_append, List.length_singleton]; omega, hnew.out, by rw [List.length_append, edtsC_snoc]; exact Hown'.out, below_grown hb hgrow Hown.out hbs (Nat.le_refl _)⟩
        case measure => simp [intOf]; omega
      have hqe : q < es'.length := by rw [Hlen'.out]; exact hlq
      obtain ⟨b2, o2, rfl, hl2, hl2x, hc3, hc4⟩ := hr'.ent hb hqe
      have hWc3 := cellW hb hl2 hc3
      have hWc4 := cellW hb hl2 hc4
      have hte : ((q : Int) == (n' : Int)) = false := beq_eq_false_iff_ne.2 (by omega)
      have htp : ((p : Int) == (n : Int)) = false := beq_eq_false_iff_ne.2 (by omega)
      have hpi : (p : Int) < (n : Int) := by omega
      cases hk1 : klt es[p].1 es'[q].1 with
      | true =>
        have ht1 : Op.bytesLess es[p].1.toList es'[q].1.toList = true := hk1
        have hnew := Lib.hid (show (acc ++ [⟨es[p].1, 0, true⟩]) ++ diffL f' (es.drop (p + 1)) (es'.drop q) = diffM es es' by rw [← Hacc.out, diffL_gone hpe (.inr ⟨hqe, hk1⟩)]; simp)
        clear Hacc hk1
        generalize es[p] = ek at *
        generalize es'[q] = ek2 at *
        obtain ⟨k1, v1⟩ := ek
        obtain ⟨k2, v2⟩ := ek2
        go_wp2
        have hA_c1 := fun y : Aft wr => y.cell hl1x hc1
        have hA_c2 := fun y : Aft wr => y.cell hl1x hc2
        have hA_c3 := fun y : Aft wr => y.cell hl2x hc3
        have hA_c4 := fun y : Aft wr => y.cell hl2x hc4
        refine wp_region_after (by kernel_rfl) (by kernel_rfl) ?_
        repeat (go_big_quiet_step (fail))
        refine wpQuiet_nil ?_
        rintro _ ⟨y, rfl⟩
        clear hA_c1 hA_c2 hA_c3 hA_c4
        replace hb := keepS hb y.below
        replace Hown := Lib.hid (ownsRow_below Hown.out y.below (Nat.le_refl _))
        replace hbs := hb.size
        replace hc1 := cellS hb hl1 hWc1
        replace hc2 := cellS hb hl1 hWc2
        replace hc3 := cellS hb hl2 hWc3
        replace hc4 := cellS hb hl2 hWc4
        replace hl1x := Nat.lt_of_lt_of_le hl1 hbs
        replace hl2x := Nat.lt_of_lt_of_le hl2 hbs
        generalize y.at_ = w3 at *
        go_wp2_with (at_builtin; refine wpList_append_new w3 rfl _ _ 27 rfl w.heap.size 117 i0 _ 3 32 Try.underlying27 Hi.out Hz0.out Hz1.out Hz2.out rfl (by decide) u5 acc.length (edtsC acc) rfl Hown.out #[.string k1, .int .i64 0, .bool true] 1 1 rfl rfl (edt_cells _ _ _) (by omega) (by decide) hbs ?_; intro v' w9 hown' hgrow; have Hown' := Lib.hid hown'; clear hown')
        go_roundw
        case rel => exact ⟨p + 1, q, f', acc ++ [⟨k1, 0, true⟩], by omega, hq, by go_num, rfl, by omega, by rw [List.length_append, List.length_singleton]; omega, hnew.out, by rw [List.length_append, edtsC_snoc]; exact Hown'.out, below_grown hb hgrow Hown.out hbs (Nat.le_refl _)⟩
        case measure => simp [intOf]; omega
      | false =>
        cases hk2 : klt es'[q].1 es[p].1 with
        | true =>
        have ht1 : Op.bytesLess es[p].1.toList es'[q].1.toList = false := hk1
        have ht2 : Op.bytesLess es'[q].1.toList es[p].1.toList = true := hk2
        have hnew := Lib.hid (show (acc ++ [⟨es'[q].1, es'[q].2, false⟩]) ++ diffL f' (es.drop p) (es'.drop (q + 1)) = diffM es es' by rw [← Hacc.out, diffL_set hqe (.inr ⟨hpe, hk2⟩)]; simp)
        clear Hacc hk1 hk2
        generalize es[p] = ek at *
        generalize es'[q] = ek2 at *
        obtain ⟨k1, v1⟩ := ek
        obtain ⟨k2, v2⟩ := ek2
        go_wp2
        have hA_c1 := fun y : Aft wr => y.cell hl1x hc1
        have hA_c2 := fun y : Aft wr => y.cell hl1x hc2
        have hA_c3 := fun y : Aft wr => y.cell hl2x hc3
        have hA_c4 := fun y : Aft wr => y.cell hl2x hc4
        refine wp_region_after (by kernel_rfl) (by kernel_rfl) ?_
        repeat (go_big_quiet_step (fail))
        refine wpQuiet_nil ?_
        rintro _ ⟨y, rfl⟩
        clear hA_c1 hA_c2 hA_c3 hA_c4
        replace hb := keepS hb y.below
        replace Hown := Lib.hid (ownsRow_below Hown.out y.below (Nat.le_refl _))
        replace hbs := hb.size
        replace hc1 := cellS hb hl1 hWc1
        replace hc2 := cellS hb hl1 hWc2
        replace hc3 := cellS hb hl2 hWc3
        replace hc4 := cellS hb hl2 hWc4
        replace hl1x := Nat.lt_of_lt_of_le hl1 hbs
        replace hl2x := Nat.lt_of_lt_of_le hl2 hbs
        generalize y.at_ = w3 at *
        go_wp2
        have hA_c1 := fun y : Aft w3 => y.cell hl1x hc1
        have hA_c2 := fun y : Aft w3 => y.cell hl1x hc2
        have hA_c3 := fun y : Aft w3 => y.cell hl2x hc3
        have hA_c4 := fun y : Aft w3 => y.cell hl2x hc4
        refine wp_region_after (by kernel_rfl) (by kernel_rfl) ?_
        repeat (go_big_quiet_step (fail))
        refine wpQuiet_nil ?_
        rintro _ ⟨y, rfl⟩
        clear hA_c1 hA_c2 hA_c3 hA_c4
        replace hb := keepS hb y.below
        replace Hown := Lib.hid (ownsRow_below Hown.out y.below (Nat.le_refl _))
        replace hbs := hb.size
        replace hc1 := cellS hb hl1 hWc1
        replace hc2 := cellS hb hl1 hWc2
        replace hc3 := cellS hb hl2 hWc3
        replace hc4 := cellS hb hl2 hWc4
        replace hl1x := Nat.lt_of_lt_of_le hl1 hbs
        replace hl2x := Nat.lt_of_lt_of_le hl2 hbs
        generalize y.at_ = w4 at *
        go_wp2
        have hc1x := hl1x
        have hq0 : (0 : Int) ≤ (q : Int) := by omega
        have hq1 : (q : Int) < (n' : Int) := by omega
        clear ht1 ht2 hc1 hc2
        go_region_held3 (fun w' => w'.cell? ⟨b2, o2 + q * 2, none⟩ = some (.string k2) ∧ w'.cell? ⟨b2, o2 + q * 2 + 1, none⟩ = some (.int .i64 v2))
        (first | go_keep | (go_split_ands; refine ⟨?_, ?_⟩ <;> (rw [hgrow.cell_far _ (by simp; omega) (fun h => by have h2 : w.heap.size ≤ b2 := (Hown.out.lt _ h.symm).1; omega)]; assumption)))
        ((refine step_append_lies _ (by rfl) _ _ _ (by rfl) w.heap.size 117 i0 _ 3 32 Try.underlying27 Hi.out Hz0.out Hz1.out Hz2.out rfl (by omega) u5 acc.length (edtsC acc) (by rfl) ((Hown.out.alloc _).drew) ⟨w4.heap.size, 0, none⟩ 1 1 [.string k2, .int .i64 v2, .bool false] (by rfl) (by rfl) (World.news_of_block (cs := #[.string k2, .int .i64 v2, .bool false]) (t := 117) (fr := (0, 0)) (heap_alloc_new w4 _)) (by simp [Value.oneCell']) (by omega) (by unfold maxLen; omega) (by omega) (by simp; omega) (w4.heap.size + 1) (by simp) ?_; intro gg cap w9 hown' hgrow hat hlt9))
        have hb9 : Below w.heap.size w w9 := below_grown (hb.alloc hbs _).drew hgrow ((Hown.out.alloc _).drew) (by simp; omega) (Nat.le_refl _)
        have Hown' := Lib.hid hown'
        clear hown' hgrow hat hlt9 hc1x
        go_wp2
        go_roundw
        case rel => exact ⟨p, q + 1, f', acc ++ [⟨k2, v2, false⟩], by omega, by omega, rfl, by go_num, by omega, by rw [List.length_append, List.length_singleton]; omega, hnew.out, by rw [List.length_append, edtsC_snoc]; exact Hown'.out, hb9⟩
        case measure => simp [intOf]; omega
        | false =>
        have ht1 : Op.bytesLess es[p].1.toList es'[q].1.toList = false := hk1
        have ht2 : Op.bytesLess es'[q].1.toList es[p].1.toList = false := hk2
        have hdb := diffL_both (f := f') hpe hqe hk1 hk2
        by_cases hvv : es[p].2 = es'[q].2
        · have hnew := Lib.hid (show acc ++ diffL f' (es.drop (p + 1)) (es'.drop (q + 1)) = diffM es es' by rw [← Hacc.out, hdb, if_pos hvv]; simp)
          have htv : (es[p].2 != es'[q].2) = false := by rw [hvv]; simp
          clear Hacc hk1 hk2 hdb hvv
          generalize es[p] = ek at *
          generalize es'[q] = ek2 at *
          obtain ⟨k1, v1⟩ := ek
          obtain ⟨k2, v2⟩ := ek2
          go_wp2
          have hA_c1 := fun y : Aft wr => y.cell hl1x hc1
          have hA_c2 := fun y : Aft wr => y.cell hl1x hc2
          have hA_c3 := fun y : Aft wr => y.cell hl2x hc3
          have hA_c4 := fun y : Aft wr => y.cell hl2x hc4
          refine wp_region_after (by kernel_rfl) (by kernel_rfl) ?_
          repeat (go_big_quiet_step (fail))
          refine wpQuiet_nil ?_
          rintro _ ⟨y, rfl⟩
          clear hA_c1 hA_c2 hA_c3 hA_c4
          replace hb := keepS hb y.below
          replace Hown := Lib.hid (ownsRow_below Hown.out y.below (Nat.le_refl _))
          replace hbs := hb.size
          replace hc1 := cellS hb hl1 hWc1
          replace hc2 := cellS hb hl1 hWc2
          replace hc3 := cellS hb hl2 hWc3
          replace hc4 := cellS hb hl2 hWc4
          replace hl1x := Nat.lt_of_lt_of_le hl1 hbs
          replace hl2x := Nat.lt_of_lt_of_le hl2 hbs
          generalize y.at_ = w3 at *
          go_wp2
          have hA_c1 := fun y : Aft w3 => y.cell hl1x hc1
          have hA_c2 := fun y : Aft w3 => y.cell hl1x hc2
          have hA_c3 := fun y : Aft w3 => y.cell hl2x hc3
          have hA_c4 := fun y : Aft w3 => y.cell hl2x hc4
          refine wp_region_after (by kernel_rfl) (by kernel_rfl) ?_
          repeat (go_big_quiet_step (fail))
          refine wpQuiet_nil ?_
          rintro _ ⟨y, rfl⟩
          clear hA_c1 hA_c2 hA_c3 hA_c4
          replace hb := keepS hb y.below
          replace Hown := Lib.hid (ownsRow_below Hown.out y.below (Nat.le_refl _))
          replace hbs := hb.size
          replace hc1 := cellS hb hl1 hWc1
          replace hc2 := cellS hb hl1 hWc2
          replace hc3 := cellS hb hl2 hWc3
          replace hc4 := cellS hb hl2 hWc4
          replace hl1x := Nat.lt_of_lt_of_le hl1 hbs
          replace hl2x := Nat.lt_of_lt_of_le hl2 hbs
          generalize y.at_ = w4 at *
          go_wp2
          have hA_c1 := fun y : Aft w4 => y.cell hl1x hc1
          have hA_c2 := fun y : Aft w4 => y.cell hl1x hc2
          have hA_c3 := fun y : Aft w4 => y.cell hl2x hc3
          have hA_c4 := fun y : Aft w4 => y.cell hl2x hc4
          refine wp_region_after (by kernel_rfl) (by kernel_rfl) ?_
          repeat (go_big_quiet_step (fail))
          refine wpQuiet_nil ?_
          rintro _ ⟨y, rfl⟩
          clear hA_c1 hA_c2 hA_c3 hA_c4
          replace hb := keepS hb y.below
          replace Hown := Lib.hid (ownsRow_below Hown.out y.below (Nat.le_refl _))
          replace hbs := hb.size
          replace hc1 := cellS hb hl1 hWc1
          replace hc2 := cellS hb hl1 hWc2
          replace hc3 := cellS hb hl2 hWc3
          replace hc4 := cellS hb hl2 hWc4
          replace hl1x := Nat.lt_of_lt_of_le hl1 hbs
          replace hl2x := Nat.lt_of_lt_of_le hl2 hbs
          generalize y.at_ = w5 at *
          go_wp2
          go_roundw
          case rel => exact ⟨p + 1, q + 1, f', acc, by omega, by omega, by go_num, by go_num, by omega, by omega, hnew.out, Hown.out, hb⟩
          case measure => simp [intOf]; omega
        · have hnew := Lib.hid (show (acc ++ [⟨es'[q].1, es'[q].2, false⟩]) ++ diffL f' (es.drop (p + 1)) (es'.drop (q + 1)) = diffM es es' by rw [← Hacc.out, hdb, if_neg hvv]; simp)
          have htv : (es[p].2 != es'[q].2) = true := bne_iff_ne.2 hvv
          clear Hacc hk1 hk2 hdb hvv
          generalize es[p] = ek at *
          generalize es'[q] = ek2 at *
          obtain ⟨k1, v1⟩ := ek
          obtain ⟨k2, v2⟩ := ek2
          go_wp2
          have hA_c1 := fun y : Aft wr => y.cell hl1x hc1
          have hA_c2 := fun y : Aft wr => y.cell hl1x hc2
          have hA_c3 := fun y : Aft wr => y.cell hl2x hc3
          have hA_c4 := fun y : Aft wr => y.cell hl2x hc4
          refine wp_region_after (by kernel_rfl) (by kernel_rfl) ?_
          repeat (go_big_quiet_step (fail))
          refine wpQuiet_nil ?_
          rintro _ ⟨y, rfl⟩
          clear hA_c1 hA_c2 hA_c3 hA_c4
          replace hb := keepS hb y.below
          replace Hown := Lib.hid (ownsRow_below Hown.out y.below (Nat.le_refl _))
          replace hbs := hb.size
          replace hc1 := cellS hb hl1 hWc1
          replace hc2 := cellS hb hl1 hWc2
          replace hc3 := cellS hb hl2 hWc3
          replace hc4 := cellS hb hl2 hWc4
          replace hl1x := Nat.lt_of_lt_of_le hl1 hbs
          replace hl2x := Nat.lt_of_lt_of_le hl2 hbs
          generalize y.at_ = w3 at *
          go_wp2
          have hA_c1 := fun y : Aft w3 => y.cell hl1x hc1
          have hA_c2 := fun y : Aft w3 => y.cell hl1x hc2
          have hA_c3 := fun y : Aft w3 => y.cell hl2x hc3
          have hA_c4 := fun y : Aft w3 => y.cell hl2x hc4
          refine wp_region_after (by kernel_rfl) (by kernel_rfl) ?_
          repeat (go_big_quiet_step (fail))
          refine wpQuiet_nil ?_
          rintro _ ⟨y, rfl⟩
          clear hA_c1 hA_c2 hA_c3 hA_c4
          replace hb := keepS hb y.below
          replace Hown := Lib.hid (ownsRow_below Hown.out y.below (Nat.le_refl _))
          replace hbs := hb.size
          replace hc1 := cellS hb hl1 hWc1
          replace hc2 := cellS hb hl1 hWc2
          replace hc3 := cellS hb hl2 hWc3
          replace hc4 := cellS hb hl2 hWc4
          replace hl1x := Nat.lt_of_lt_of_le hl1 hbs
          replace hl2x := Nat.lt_of_lt_of_le hl2 hbs
          generalize y.at_ = w4 at *
          go_wp2
          have hA_c1 := fun y : Aft w4 => y.cell hl1x hc1
          have hA_c2 := fun y : Aft w4 => y.cell hl1x hc2
          have hA_c3 := fun y : Aft w4 => y.cell hl2x hc3
          have hA_c4 := fun y : Aft w4 => y.cell hl2x hc4
          refine wp_region_after (by kernel_rfl) (by kernel_rfl) ?_
          repeat (go_big_quiet_step (fail))
          refine wpQuiet_nil ?_
          rintro _ ⟨y, rfl⟩
          clear hA_c1 hA_c2 hA_c3 hA_c4
          replace hb := keepS hb y.below
          replace Hown := Lib.hid (ownsRow_below Hown.out y.below (Nat.le_refl _))
          replace hbs := hb.size
          replace hc1 := cellS hb hl1 hWc1
          replace hc2 := cellS hb hl1 hWc2
          replace hc3 := cellS hb hl2 hWc3
          replace hc4 := cellS hb hl2 hWc4
          replace hl1x := Nat.lt_of_lt_of_le hl1 hbs
          replace hl2x := Nat.lt_of_lt_of_le hl2 hbs
          generalize y.at_ = w5 at *
          go_wp2
          have hc1x := hl1x
          have hq0 : (0 : Int) ≤ (q : Int) := by omega
          have hq1 : (q : Int) < (n' : Int) := by omega
          clear ht1 ht2 htv hc1 hc2
          go_region_held3 (fun w' => w'.cell? ⟨b2, o2 + q * 2, none⟩ = some (.string k2) ∧ w'.cell? ⟨b2, o2 + q * 2 + 1, none⟩ = some (.int .i64 v2))
          (first | go_keep | (go_split_ands; refine ⟨?_, ?_⟩ <;> (rw [hgrow.cell_far _ (by simp; omega) (fun h => by have h2 : w.heap.size ≤ b2 := (Hown.out.lt _ h.symm).1; omega)]; assumption)))
          ((refine step_append_lies _ (by rfl) _ _ _ (by rfl) w.heap.size 117 i0 _ 3 32 Try.underlying27 Hi.out Hz0.out Hz1.out Hz2.out rfl (by omega) u5 acc.length (edtsC acc) (by rfl) ((Hown.out.alloc _).drew) ⟨w5.heap.size, 0, none⟩ 1 1 [.string k2, .int .i64 v2, .bool false] (by rfl) (by rfl) (World.news_of_block (cs := #[.string k2, .int .i64 v2, .bool false]) (t := 117) (fr := (0, 0)) (heap_alloc_new w5 _)) (by simp [Value.oneCell']) (by omega) (by unfold maxLen; omega) (by omega) (by simp; omega) (w5.heap.size + 1) (by simp) ?_; intro gg cap w9 hown' hgrow hat hlt9))
          have hb9 : Below w.heap.size w w9 := below_grown (hb.alloc hbs _).drew hgrow ((Hown.out.alloc _).drew) (by simp; omega) (Nat.le_refl _)
          have Hown' := Lib.hid hown'
          clear hown' hgrow hat hlt9 hc1x
          go_wp2
          go_roundw
          case rel => exact ⟨p + 1, q + 1, f', acc ++ [⟨k2, v2, false⟩], by omega, by omega, by go_num, by go_num, by omega, by rw [List.length_append, List.length_singleton]; omega, hnew.out, by rw [List.length_append, edtsC_snoc]; exact Hown'.out, hb9⟩
          case measure => simp [intOf]; omega
    · have hpn : p = n := by omega
      have htp : ((p : Int) == (n : Int)) = true := beq_iff_eq.2 (by omega)
      by_cases hlq : q < n'
      · have hqe : q < es'.length := by rw [Hlen'.out]; exact hlq
        obtain ⟨b2, o2, rfl, hl2, hl2x, hc3, hc4⟩ := hr'.ent hb hqe
        have hWc3 := cellW hb hl2 hc3
        have hWc4 := cellW hb hl2 hc4
        obtain ⟨f', hf'⟩ : ∃ f', f = f' + 1 := ⟨f - 1, by omega⟩
        subst hf'
        have hte : ((q : Int) == (n' : Int)) = false := beq_eq_false_iff_ne.2 (by omega)
        have hpi : ¬ (p : Int) < (n : Int) := by omega
        have hnew := Lib.hid (show (acc ++ [⟨es'[q].1, es'[q].2, false⟩]) ++ diffL f' (es.drop p) (es'.drop (q + 1)) = diffM es es' by rw [← Hacc.out, diffL_set hqe (.inl (by rw [Hlen.out]; omega))]; simp)
        clear Hacc hpn
        generalize es'[q] = ek2 at *
        obtain ⟨k2, v2⟩ := ek2
        have hdp : decide ((p : Int) < (n : Int)) = false := decide_eq_false hpi
        go_wp2
        have hA_c3 := fun y : Aft wr => y.cell hl2x hc3
        have hA_c4 := fun y : Aft wr => y.cell hl2x hc4
        refine wp_region_after (by kernel_rfl) (by kernel_rfl) ?_
        repeat (go_big_quiet_step (fail))
        refine wpQuiet_nil ?_
        rintro _ ⟨y, rfl⟩
        clear hA_c3 hA_c4
        replace hb := keepS hb y.below
        replace Hown := Lib.hid (ownsRow_below Hown.out y.below (Nat.le_refl _))
        replace hbs := hb.size
        replace hc3 := cellS hb hl2 hWc3
        replace hc4 := cellS hb hl2 hWc4
        replace hl2x := Nat.lt_of_lt_of_le hl2 hbs
        generalize y.at_ = w3 at *
        go_wp2
        have hA_c3 := fun y : Aft w3 => y.cell hl2x hc3
        have hA_c4 := fun y : Aft w3 => y.cell hl2x hc4
        refine wp_region_after (by kernel_rfl) (by kernel_rfl) ?_
        repeat (go_big_quiet_step (fail))
        refine wpQuiet_nil ?_
        rintro _ ⟨y, rfl⟩
        clear hA_c3 hA_c4
        replace hb := keepS hb y.below
        replace Hown := Lib.hid (ownsRow_below Hown.out y.below (Nat.le_refl _))
        replace hbs := hb.size
        replace hc3 := cellS hb hl2 hWc3
        replace hc4 := cellS hb hl2 hWc4
        replace hl2x := Nat.lt_of_lt_of_le hl2 hbs
        generalize y.at_ = w4 at *
        go_wp2
        have hc1x := hl2x
        have hq0 : (0 : Int) ≤ (q : Int) := by omega
        have hq1 : (q : Int) < (n' : Int) := by omega
        go_region_held3 (fun w' => w'.cell? ⟨b2, o2 + q * 2, none⟩ = some (.string k2) ∧ w'.cell? ⟨b2, o2 + q * 2 + 1, none⟩ = some (.int .i64 v2))
        (first | go_keep | (go_split_ands; refine ⟨?_, ?_⟩ <;> (rw [hgrow.cell_far _ (by simp; omega) (fun h => by have h2 : w.heap.size ≤ b2 := (Hown.out.lt _ h.symm).1; omega)]; assumption)))
        ((refine step_append_lies _ (by rfl) _ _ _ (by rfl) w.heap.size 117 i0 _ 3 32 Try.underlying27 Hi.out Hz0.out Hz1.out Hz2.out rfl (by omega) u5 acc.length (edtsC acc) (by rfl) ((Hown.out.alloc _).drew) ⟨w4.heap.size, 0, none⟩ 1 1 [.string k2, .int .i64 v2, .bool false] (by rfl) (by rfl) (World.news_of_block (cs := #[.string k2, .int .i64 v2, .bool false]) (t := 117) (fr := (0, 0)) (heap_alloc_new w4 _)) (by simp [Value.oneCell']) (by omega) (by unfold maxLen; omega) (by omega) (by simp; omega) (w4.heap.size + 1) (by simp) ?_; intro gg cap w9 hown' hgrow hat hlt9))
        have hb9 : Below w.heap.size w w9 := below_grown (hb.alloc hbs _).drew hgrow ((Hown.out.alloc _).drew) (by simp; omega) (Nat.le_refl _)
        have Hown' := Lib.hid hown'
        clear hown' hgrow hat hlt9 hc1x
        go_wp2
        go_roundw
        case rel => exact ⟨p, q + 1, f', acc ++ [⟨k2, v2, false⟩], by omega, by omega, rfl, by go_num, by omega, by rw [List.length_append, List.length_singleton]; omega, hnew.out, by rw [List.length_append, edtsC_snoc]; exact Hown'.out, hb9⟩
        case measure => simp [intOf]; omega
      · have hfin := Lib.hid (show acc = diffM es es' by rw [← Hacc.out, diffL_end _ _ _ (List.drop_eq_nil_of_le (by rw [Hlen.out]; omega)) (List.drop_eq_nil_of_le (by rw [Hlen'.out]; omega)), List.append_nil])
        clear hpn
        go_wp2
        go_ret
        exact ⟨_, rfl, by rw [← hfin.out]; exact Hown.out, hb⟩

end Go.Proofs.Ytjhimcddgkoghaa
