/- Texts of the machine over data, folded. -/
import Derived.Test.YtjhimcddgkoghaaKa7
import Derived.Test.YtjhimcddgkoghaaKa5
import Derived.Test.YtjhimcddgkoghaaKa6
import Derived.ProofKit
import Derived.OpenShut
import Derived.ShutString
import Derived.Laws.StructEq
namespace Go.Proofs.Ytjhimcddgkoghaa
open Go.RowKit

set_option maxHeartbeats 4000000 in
set_option maxRecDepth 100000 in
theorem differences_any (A : Option Addr) (n c : Nat) (es : List Ent) (A' : Option Addr) (n' c' : Nat) (es' : List Ent) (w : World) (hr : Rd w 2 A n (entsC es)) (hr' : Rd w 2 A' n' (entsC es')) (hm : n ≤ 4096) (hm' : n' ≤ 4096) :
    Calls Try.prog 168 #[.slice A n c, .slice A' n' c'] w (EdtPost 117 (diffM es es') w) := by
  have hlen := hr.len
  have hlen' := hr'.len
  have Hlen := Lib.hid hlen; clear hlen
  have Hlen' := Lib.hid hlen'; clear hlen'
  obtain ⟨i0, hi, hz0, hz1, hz2⟩ := info_parts info_Edit
  have Hi := Lib.hid hi; clear hi
  have Hz0 := Lib.hid hz0; clear hz0
  have Hz1 := Lib.hid hz1; clear hz1
  have Hz2 := Lib.hid hz2; clear hz2
  go_enter Try.func168, Try.ntmps168
  go_wp2
  have hst : Hid (w.ownsRow w.heap.size 117 3 (.slice none 0 0) 0 []) := World.ownsRow_nil _ _ _ _
  have hbst : Hid (Below w.heap.size w w) := Below.refl _ _
  go_loopw [5, 6, 7] (fun out i j wr => ∃ (p q f : Nat) (acc : List Edt), p ≤ n ∧ q ≤ n' ∧ i = .int .i64 p ∧ j = .int .i64 q ∧ (n - p) + (n' - q) ≤ f ∧ acc.length ≤ p + q ∧ acc ++ diffL f (es.drop p) (es'.drop q) = diffM es es' ∧ wr.ownsRow w.heap.size 117 3 out acc.length (edtsC acc) ∧ Below w.heap.size w wr) (fun _ i j _ => (n - (intOf i).toNat) + (n' - (intOf j).toNat))
  case atStart => exact ⟨0, 0, es.length + es'.length, [], Nat.zero_le _, Nat.zero_le _, rfl, rfl, by rw [Hlen.out, Hlen'.out]; omega, Nat.le_refl _, by simp [diffM], hst.out, hbst.out⟩
  case round =>
    obtain ⟨p, q, f, acc, hp, hq, rfl, rfl, hf, hal, hacc, hown, hb⟩ := hrel
    have Hacc := Lib.hid hacc; clear hacc
    have Hown := Lib.hid hown; clear hown
    have hbs := hb.size
    by_cases hlt : p < n
    · have hpe : p < es.length := by rw [Hlen.out]; exact hlt
      obtain ⟨b1, o1, rfl, hl1, hl1x, hc1, hc2⟩ := hr.ent hb hpe
      have hWc1 := cellW hb hl1 hc1
      have hWc2 := cellW hb hl1 hc2
      obtain ⟨f', hf'⟩ : ∃ f', f = f' + 1 := ⟨f - 1, by omega⟩
      subst hf'
      by_cases hlq : q < n'
      case neg =>
        have hqn : q = n' := by omega
        have hte : ((q : Int) == (n' : Int)) = true := beq_iff_eq.2 (by omega)
        have hnew := Lib.hid (show (acc ++ [⟨es[p].1, 0, true⟩]) ++ diffL f' (es.drop (p + 1)) (es'.drop q) = diffM es es' by rw [← Hacc.out, diffL_gone hpe (.inl (by rw [Hlen'.out]; omega))]; simp)
        clear hqn Hacc
        generalize es[p] = ek at *
        obtain ⟨k1, v1⟩ := ek
        go_wp2
        have hA_c1 := fun y : Aft wr => y.cell hl1x hc1
        have hA_c2 := fun y : Aft wr => y.cell hl1x hc2
        refine wp_region_after (by kernel_rfl) (by kernel_rfl) ?_
        repeat (go_big_quiet_step (fail))
        refine wpQuiet_nil ?_
        rintro _ ⟨y, rfl⟩
        clear hA_c1 hA_c2
        replace hb := keepS hb y.below
        replace Hown := Lib.hid (ownsRow_below Hown.out y.below (Nat.le_refl _))
        replace hbs := hb.size
        replace hc1 := cellS hb hl1 hWc1
        replace hc2 := cellS hb hl1 hWc2
        replace hl1x := Nat.lt_of_lt_of_le hl1 hbs
        generalize y.at_ = w3 at *
        go_wp2_with (at_builtin; refine wpList_append_new w3 rfl _ _ 27 rfl w.heap.size 117 i0 _ 3 32 Try.underlying27 Hi.out Hz0.out Hz1.out Hz2.out rfl (by decide) u5 acc.length (edtsC acc) rfl Hown.out #[.string k1, .int .i64 0, .bool true] 1 1 rfl rfl (edt_cells _ _ _) (by omega) (by decide) hbs ?_; intro v' w9 hown' hgrow; have Hown' := Lib.hid hown'; clear hown')
        go_roundw
        case rel => exact ⟨p + 1, q, f', acc ++ [⟨k1, 0, true⟩], by omega, hq, by go_num, rfl, by omega, by rw [List.length_append, List.length_singleton]; omega, hnew.out, by rw [List.length_append, edtsC_snoc]; exact Hown'.out, below_grown hb hgrow Hown.out hbs (Nat.le_refl _)⟩
        case measure => simp [intOf]; omega
      have hqe : q < es'.length := by rw [Hlen'.out]; exact hlq
      obtain ⟨b2, o2, rfl, hl2, hl2x, hc3, hc4⟩ := hr'.ent hb hqe
      have hWc3 := cellW hb hl2 hc3
      have hWc4 := cellW hb hl2 hc4
      have hte : ((q : Int) == (n' : Int)) = false := beq_eq_false_iff_ne.2 (by omega)
      have htp : ((p : Int) == (n : Int)) = false := beq_eq_false_iff_ne.2 (by omega)
      have hpi : (p : Int) < (n : Int) := by omega
      cases hk1 : klt es[p].1 es'[q].1 with
      | true =>
        have ht1 : Op.bytesLess es[p].1.toList es'[q].1.toList = true := hk1
        have hnew := Lib.hid (show (acc ++ [⟨es[p].1, 0, true⟩]) ++ diffL f' (es.drop (p + 1)) (es'.drop q) = diffM es es' by rw [← Hacc.out, diffL_gone hpe (.inr ⟨hqe, hk1⟩)]; simp)
        clear Hacc hk1
        generalize es[p] = ek at *
        generalize es'[q] = ek2 at *
        obtain ⟨k1, v1⟩ := ek
        obtain ⟨k2, v2⟩ := ek2
        go_wp2
        have hA_c1 := fun y : Aft wr => y.cell hl1x hc1
        have hA_c2 := fun y : Aft wr => y.cell hl1x hc2
        have hA_c3 := fun y : Aft wr => y.cell hl2x hc3
        have hA_c4 := fun y : Aft wr => y.cell hl2x hc4
        refine wp_region_after (by kernel_rfl) (by kernel_rfl) ?_
        repeat (go_big_quiet_step (fail))
        refine wpQuiet_nil ?_
        rintro _ ⟨y, rfl⟩
        clear hA_c1 hA_c2 hA_c3 hA_c4
        replace hb := keepS hb y.below
        replace Hown := Lib.hid (ownsRow_below Hown.out y.below (Nat.le_refl _))
        replace hbs := hb.size
        replace hc1 := cellS hb hl1 hWc1
        replace hc2 := cellS hb hl1 hWc2
        replace hc3 := cellS hb hl2 hWc3
        replace hc4 := cellS hb hl2 hWc4
        replace hl1x := Nat.lt_of_lt_of_le hl1 hbs
        replace hl2x := Nat.lt_of_lt_of_le hl2 hbs
        generalize y.at_ = w3 at *
        go_wp2_with (at_builtin; refine wpList_append_new w3 rfl _ _ 27 rfl w.heap.size 117 i0 _ 3 32 Try.underlying27 Hi.out Hz0.out Hz1.out Hz2.out rfl (by decide) u5 acc.length (edtsC acc) rfl Hown.out #[.string k1, .int .i64 0, .bool true] 1 1 rfl rfl (edt_cells _ _ _) (by omega) (by decide) hbs ?_; intro v' w9 hown' hgrow; have Hown' := Lib.hid hown'; clear hown')
        go_roundw
        case rel => exact ⟨p + 1, q, f', acc ++ [⟨k1, 0, true⟩], by omega, hq, by go_num, rfl, by omega, by rw [List.length_append, List.length_singleton]; omega, hnew.out, by rw [List.length_append, edtsC_snoc]; exact Hown'.out, below_grown hb hgrow Hown.out hbs (Nat.le_refl _)⟩
        case measure => simp [intOf]; omega
      | false =>
        cases hk2 : klt es'[q].1 es[p].1 with
        | true =>
        have ht1 : Op.bytesLess es[p].1.toList es'[q].1.toList = false := hk1
        have ht2 : Op.bytesLess es'[q].1.toList es[p].1.toList = true := hk2
        have hnew := Lib.hid (show (acc ++ [⟨es'[q].1, es'[q].2, false⟩]) ++ diffL f' (es.drop p) (es'.drop (q + 1)) = diffM es es' by rw [← Hacc.out, diffL_set hqe (.inr ⟨hpe, hk2⟩)]; simp)
        clear Hacc hk1 hk2
        generalize es[p] = ek at *
        generalize es'[q] = ek2 at *
        obtain ⟨k1, v1⟩ := ek
        obtain ⟨k2, v2⟩ := ek2
        go_wp2
        have hA_c1 := fun y : Aft wr => y.cell hl1x hc1
        have hA_c2 := fun y : Aft wr => y.cell hl1x hc2
        have hA_c3 := fun y : Aft wr => y.cell hl2x hc3
        have hA_c4 := fun y : Aft wr => y.cell hl2x hc4
        refine wp_region_after (by kernel_rfl) (by kernel_rfl) ?_
        repeat (go_big_quiet_step (fail))
        refine wpQuiet_nil ?_
        rintro _ ⟨y, rfl⟩
        clear hA_c1 hA_c2 hA_c3 hA_c4
        replace hb := keepS hb y.below
        replace Hown := Lib.hid (ownsRow_below Hown.out y.below (Nat.le_refl _))
        replace hbs := hb.size
        replace hc1 := cellS hb hl1 hWc1
        replace hc2 := cellS hb hl1 hWc2
        replace hc3 := cellS hb hl2 hWc3
        replace hc4 := cellS hb hl2 hWc4
        replace hl1x := Nat.lt_of_lt_of_le hl1 hbs
        replace hl2x := Nat.lt_of_lt_of_le hl2 hbs
        generalize y.at_ = w3 at *
        go_wp2
        have hA_c1 := fun y : Aft w3 => y.cell hl1x hc1
        have hA_c2 := fun y : Aft w3 => y.cell hl1x hc2
        have hA_c3 := fun y : Aft w3 => y.cell hl2x hc3
        have hA_c4 := fun y : Aft w3 => y.cell hl2x hc4
        refine wp_region_after (by kernel_rfl) (by kernel_rfl) ?_
        repeat (go_big_quiet_step (fail))
        refine wpQuiet_nil ?_
        rintro _ ⟨y, rfl⟩
        clear hA_c1 hA_c2 hA_c3 hA_c4
        replace hb := keepS hb y.below
        replace Hown := Lib.hid (ownsRow_below Hown.out y.below (Nat.le_refl _))
        replace hbs := hb.size
        replace hc1 := cellS hb hl1 hWc1
        replace hc2 := cellS hb hl1 hWc2
        replace hc3 := cellS hb hl2 hWc3
        replace hc4 := cellS hb hl2 hWc4
        replace hl1x := Nat.lt_of_lt_of_le hl1 hbs
        replace hl2x := Nat.lt_of_lt_of_le hl2 hbs
        generalize y.at_ = w4 at *
        go_wp2
        have hc1x := hl1x
        have hq0 : (0 : Int) ≤ (q : Int) := by omega
        have hq1 : (q : Int) < (n' : Int) := by omega
        clear ht1 ht2 hc1 hc2
        go_region_held3 (fun w' => w'.cell? ⟨b2, o2 + q * 2, none⟩ = some (.string k2) ∧ w'.cell? ⟨b2, o2 + q * 2 + 1, none⟩ = some (.int .i64 v2))
        (first | go_keep | (go_split_ands; refine ⟨?_, ?_⟩ <;> (rw [hgrow.cell_far _ (by simp; omega) (fun h => by have h2 : w.heap.size ≤ b2 := (Hown.out.lt _ h.symm).1; omega)]; assumption)))
        ((refine step_append_lies _ (by rfl) _ _ _ (by rfl) w.heap.size 117 i0 _ 3 32 Try.underlying27 Hi.out Hz0.out Hz1.out Hz2.out rfl (by omega) u5 acc.length (edtsC acc) (by rfl) ((Hown.out.alloc _).drew) ⟨w4.heap.size, 0, none⟩ 1 1 [.string k2, .int .i64 v2, .bool false] (by rfl) (by rfl) (World.news_of_block (cs := #[.string k2, .int .i64 v2, .bool false]) (t := 117) (fr := (0, 0)) (heap_alloc_new w4 _)) (by simp [Value.oneCell']) (by omega) (by unfold maxLen; omega) (by omega) (by simp; omega) (w4.heap.size + 1) (by simp) ?_; intro gg cap w9 hown' hgrow hat hlt9))
        have hb9 : Below w.heap.size w w9 := below_grown (hb.alloc hbs _).drew hgrow ((Hown.out.alloc _).drew) (by simp; omega) (Nat.le_refl _)
        have Hown' := Lib.hid hown'
        clear hown' hgrow hat hlt9 hc1x
        go_wp2
        go_roundw
        case rel => exact ⟨p, q + 1, f', acc ++ [⟨k2, v2, false⟩], by omega, by omega, rfl, by go_num, by omega, by rw [List.length_append, List.length_singleton]; omega, hnew.out, by rw [List.length_append, edtsC_snoc]; exact Hown'.out, hb9⟩
        case measure => simp [intOf]; omega
        | false =>
        have ht1 : Op.bytesLess es[p].1.toList es'[q].1.toList = false := hk1
        have ht2 : Op.bytesLess es'[q].1.toList es[p].1.toList = false := hk2
        have hdb := diffL_both (f := f') hpe hqe hk1 hk2
        by_cases hvv : es[p].2 = es'[q].2
        · have hnew := Lib.hid (show acc ++ diffL f' (es.drop (p + 1)) (es'.drop (q + 1)) = diffM es es' by rw [← Hacc.out, hdb, if_pos hvv]; simp)
          have htv : (es[p].2 != es'[q].2) = false := by rw [hvv]; simp
          clear Hacc hk1 hk2 hdb hvv
          generalize es[p] = ek at *
          generalize es'[q] = ek2 at *
          obtain ⟨k1, v1⟩ := ek
          obtain ⟨k2, v2⟩ := ek2
          go_wp2
          have hA_c1 := fun y : Aft wr => y.cell hl1x hc1
          have hA_c2 := fun y : Aft wr => y.cell hl1x hc2
          have hA_c3 := fun y : Aft wr => y.cell hl2x hc3
          have hA_c4 := fun y : Aft wr => y.cell hl2x hc4
          refine wp_region_after (by kernel_rfl) (by kernel_rfl) ?_
          repeat (go_big_quiet_step (fail))
          refine wpQuiet_nil ?_
          rintro _ ⟨y, rfl⟩
          clear hA_c1 hA_c2 hA_c3 hA_c4
          replace hb := keepS hb y.below
          replace Hown := Lib.hid (ownsRow_below Hown.out y.below (Nat.le_refl _))
          replace hbs := hb.size
          replace hc1 := cellS hb hl1 hWc1
          replace hc2 := cellS hb hl1 hWc2
          replace hc3 := cellS hb hl2 hWc3
          replace hc4 := cellS hb hl2 hWc4
          replace hl1x := Nat.lt_of_lt_of_le hl1 hbs
          replace hl2x := Nat.lt_of_lt_of_le hl2 hbs
          generalize y.at_ = w3 at *
          go_wp2
          have hA_c1 := fun y : Aft w3 => y.cell hl1x hc1
          have hA_c2 := fun y : Aft w3 => y.cell hl1x hc2
          have hA_c3 := fun y : Aft w3 => y.cell hl2x hc3
          have hA_c4 := fun y : Aft w3 => y.cell hl2x hc4
          refine wp_region_after (by kernel_rfl) (by kernel_rfl) ?_
          repeat (go_big_quiet_step (fail))
          refine wpQuiet_nil ?_
          rintro _ ⟨y, rfl⟩
          clear hA_c1 hA_c2 hA_c3 hA_c4
          replace hb := keepS hb y.below
          replace Hown := Lib.hid (ownsRow_below Hown.out y.below (Nat.le_refl _))
          replace hbs := hb.size
          replace hc1 := cellS hb hl1 hWc1
          replace hc2 := cellS hb hl1 hWc2
          replace hc3 := cellS hb hl2 hWc3
          replace hc4 := cellS hb hl2 hWc4
          replace hl1x := Nat.lt_of_lt_of_le hl1 hbs
          replace hl2x := Nat.lt_of_lt_of_le hl2 hbs
          generalize y.at_ = w4 at *
          go_wp2
          have hA_c1 := fun y : Aft w4 => y.cell hl1x hc1
          have hA_c2 := fun y : Aft w4 => y.cell hl1x hc2
          have hA_c3 := fun y : Aft w4 => y.cell hl2x hc3
          have hA_c4 := fun y : Aft w4 => y.cell hl2x hc4
          refine wp_region_after (by kernel_rfl) (by kernel_rfl) ?_
          repeat (go_big_quiet_step (fail))
          refine wpQuiet_nil ?_
          rintro _ ⟨y, rfl⟩
          clear hA_c1 hA_c2 hA_c3 hA_c4
          replace hb := keepS hb y.below
          replace Hown := Lib.hid (ownsRow_below Hown.out y.below (Nat.le_refl _))
          replace hbs := hb.size
          replace hc1 := cellS hb hl1 hWc1
          replace hc2 := cellS hb hl1 hWc2
          replace hc3 := cellS hb hl2 hWc3
          replace hc4 := cellS hb hl2 hWc4
          replace hl1x := Nat.lt_of_lt_of_le hl1 hbs
          replace hl2x := Nat.lt_of_lt_of_le hl2 hbs
          generalize y.at_ = w5 at *
          go_wp2
          go_roundw
          case rel => exact ⟨p + 1, q + 1, f', acc, by omega, by omega, by go_num, by go_num, by omega, by omega, hnew.out, Hown.out, hb⟩
          case measure => simp [intOf]; omega
        · have hnew := Lib.hid (show (acc ++ [⟨es'[q].1, es'[q].2, false⟩]) ++ diffL f' (es.drop (p + 1)) (es'.drop (q + 1)) = diffM es es' by rw [← Hacc.out, hdb, if_neg hvv]; simp)
          have htv : (es[p].2 != es'[q].2) = true := bne_iff_ne.2 hvv
          clear Hacc hk1 hk2 hdb hvv
          generalize es[p] = ek at *
          generalize es'[q] = ek2 at *
          obtain ⟨k1, v1⟩ := ek
          obtain ⟨k2, v2⟩ := ek2
          go_wp2
          have hA_c1 := fun y : Aft wr => y.cell hl1x hc1
          have hA_c2 := fun y : Aft wr => y.cell hl1x hc2
          have hA_c3 := fun y : Aft wr => y.cell hl2x hc3
          have hA_c4 := fun y : Aft wr => y.cell hl2x hc4
          refine wp_region_after (by kernel_rfl) (by kernel_rfl) ?_
          repeat (go_big_quiet_step (fail))
          refine wpQuiet_nil ?_
          rintro _ ⟨y, rfl⟩
          clear hA_c1 hA_c2 hA_c3 hA_c4
          replace hb := keepS hb y.below
          replace Hown := Lib.hid (ownsRow_below Hown.out y.below (Nat.le_refl _))
          replace hbs := hb.size
          replace hc1 := cellS hb hl1 hWc1
          replace hc2 := cellS hb hl1 hWc2
          replace hc3 := cellS hb hl2 hWc3
          replace hc4 := cellS hb hl2 hWc4
          replace hl1x := Nat.lt_of_lt_of_le hl1 hbs
          replace hl2x := Nat.lt_of_lt_of_le hl2 hbs
          generalize y.at_ = w3 at *
          go_wp2
          have hA_c1 := fun y : Aft w3 => y.cell hl1x hc1
          have hA_c2 := fun y : Aft w3 => y.cell hl1x hc2
          have hA_c3 := fun y : Aft w3 => y.cell hl2x hc3
          have hA_c4 := fun y : Aft w3 => y.cell hl2x hc4
          refine wp_region_after (by kernel_rfl) (by kernel_rfl) ?_
          repeat (go_big_quiet_step (fail))
          refine wpQuiet_nil ?_
          rintro _ ⟨y, rfl⟩
          clear hA_c1 hA_c2 hA_c3 hA_c4
          replace hb := keepS hb y.below
          replace Hown := Lib.hid (ownsRow_below Hown.out y.below (Nat.le_refl _))
          replace hbs := hb.size
          replace hc1 := cellS hb hl1 hWc1
          replace hc2 := cellS hb hl1 hWc2
          replace hc3 := cellS hb hl2 hWc3
          replace hc4 := cellS hb hl2 hWc4
          replace hl1x := Nat.lt_of_lt_of_le hl1 hbs
          replace hl2x := Nat.lt_of_lt_of_le hl2 hbs
          generalize y.at_ = w4 at *
          go_wp2
          have hA_c1 := fun y : Aft w4 => y.cell hl1x hc1
          have hA_c2 := fun y : Aft w4 => y.cell hl1x hc2
          have hA_c3 := fun y : Aft w4 => y.cell hl2x hc3
          have hA_c4 := fun y : Aft w4 => y.cell hl2x hc4
          refine wp_region_after (by kernel_rfl) (by kernel_rfl) ?_
          repeat (go_big_quiet_step (fail))
          refine wpQuiet_nil ?_
          rintro _ ⟨y, rfl⟩
          clear hA_c1 hA_c2 hA_c3 hA_c4
          replace hb := keepS hb y.below
          replace Hown := Lib.hid (ownsRow_below Hown.out y.below (Nat.le_refl _))
          replace hbs := hb.size
          replace hc1 := cellS hb hl1 hWc1
          replace hc2 := cellS hb hl1 hWc2
          replace hc3 := cellS hb hl2 hWc3
          replace hc4 := cellS hb hl2 hWc4
          replace hl1x := Nat.lt_of_lt_of_le hl1 hbs
          replace hl2x := Nat.lt_of_lt_of_le hl2 hbs
          generalize y.at_ = w5 at *
          go_wp2
          have hc1x := hl1x
          have hq0 : (0 : Int) ≤ (q : Int) := by omega
          have hq1 : (q : Int) < (n' : Int) := by omega
          clear ht1 ht2 htv hc1 hc2
          go_region_held3 (fun w' => w'.cell? ⟨b2, o2 + q * 2, none⟩ = some (.string k2) ∧ w'.cell? ⟨b2, o2 + q * 2 + 1, none⟩ = some (.int .i64 v2))
          (first | go_keep | (go_split_ands; refine ⟨?_, ?_⟩ <;> (rw [hgrow.cell_far _ (by simp; omega) (fun h => by have h2 : w.heap.size ≤ b2 := (Hown.out.lt _ h.symm).1; omega)]; assumption)))
          ((refine step_append_lies _ (by rfl) _ _ _ (by rfl) w.heap.size 117 i0 _ 3 32 Try.underlying27 Hi.out Hz0.out Hz1.out Hz2.out rfl (by omega) u5 acc.length (edtsC acc) (by rfl) ((Hown.out.alloc _).drew) ⟨w5.heap.size, 0, none⟩ 1 1 [.string k2, .int .i64 v2, .bool false] (by rfl) (by rfl) (World.news_of_block (cs := #[.string k2, .int .i64 v2, .bool false]) (t := 117) (fr := (0, 0)) (heap_alloc_new w5 _)) (by simp [Value.oneCell']) (by omega) (by unfold maxLen; omega) (by omega) (by simp; omega) (w5.heap.size + 1) (by simp) ?_; intro gg cap w9 hown' hgrow hat hlt9))
          have hb9 : Below w.heap.size w w9 := below_grown (hb.alloc hbs _).drew hgrow ((Hown.out.alloc _).drew) (by simp; omega) (Nat.le_refl _)
          have Hown' := Lib.hid hown'
          clear hown' hgrow hat hlt9 hc1x
          go_wp2
          go_roundw
          case rel => exact ⟨p + 1, q + 1, f', acc ++ [⟨k2, v2, false⟩], by omega, by omega, by go_num, by go_num, by omega, by rw [List.length_append, List.length_singleton]; omega, hnew.out, by rw [List.length_append, edtsC_snoc]; exact Hown'.out, hb9⟩
          case measure => simp [intOf]; omega
    · have hpn : p = n := by omega
      have htp : ((p : Int) == (n : Int)) = true := beq_iff_eq.2 (by omega)
      by_cases hlq : q < n'
      · have hqe : q < es'.length := by rw [Hlen'.out]; exact hlq
        obtain ⟨b2, o2, rfl, hl2, hl2x, hc3, hc4⟩ := hr'.ent hb hqe
        have hWc3 := cellW hb hl2 hc3
        have hWc4 := cellW hb hl2 hc4
        obtain ⟨f', hf'⟩ : ∃ f', f = f' + 1 := ⟨f - 1, by omega⟩
        subst hf'
        have hte : ((q : Int) == (n' : Int)) = false := beq_eq_false_iff_ne.2 (by omega)
        have hpi : ¬ (p : Int) < (n : Int) := by omega
        have hnew := Lib.hid (show (acc ++ [⟨es'[q].1, es'[q].2, false⟩]) ++ diffL f' (es.drop p) (es'.drop (q + 1)) = diffM es es' by rw [← Hacc.out, diffL_set hqe (.inl (by rw [Hlen.out]; omega))]; simp)
        clear Hacc hpn
        generalize es'[q] = ek2 at *
        obtain ⟨k2, v2⟩ := ek2
        have hdp : decide ((p : Int) < (n : Int)) = false := decide_eq_false hpi
        go_wp2
        have hA_c3 := fun y : Aft wr => y.cell hl2x hc3
        have hA_c4 := fun y : Aft wr => y.cell hl2x hc4
        refine wp_region_after (by kernel_rfl) (by kernel_rfl) ?_
        repeat (go_big_quiet_step (fail))
        refine wpQuiet_nil ?_
        rintro _ ⟨y, rfl⟩
        clear hA_c3 hA_c4
        replace hb := keepS hb y.below
        replace Hown := Lib.hid (ownsRow_below Hown.out y.below (Nat.le_refl _))
        replace hbs := hb.size
        replace hc3 := cellS hb hl2 hWc3
        replace hc4 := cellS hb hl2 hWc4
        replace hl2x := Nat.lt_of_lt_of_le hl2 hbs
        generalize y.at_ = w3 at *
        go_wp2
        have hA_c3 := fun y : Aft w3 => y.cell hl2x hc3
        have hA_c4 := fun y : Aft w3 => y.cell hl2x hc4
        refine wp_region_after (by kernel_rfl) (by kernel_rfl) ?_
        repeat (go_big_quiet_step (fail))
        refine wpQuiet_nil ?_
        rintro _ ⟨y, rfl⟩
        clear hA_c3 hA_c4
        replace hb := keepS hb y.below
        replace Hown := Lib.hid (ownsRow_below Hown.out y.below (Nat.le_refl _))
        replace hbs := hb.size
        replace hc3 := cellS hb hl2 hWc3
        replace hc4 := cellS hb hl2 hWc4
        replace hl2x := Nat.lt_of_lt_of_le hl2 hbs
        generalize y.at_ = w4 at *
        go_wp2
        have hc1x := hl2x
        have hq0 : (0 : Int) ≤ (q : Int) := by omega
        have hq1 : (q : Int) < (n' : Int) := by omega
        go_region_held3 (fun w' => w'.cell? ⟨b2, o2 + q * 2, none⟩ = some (.string k2) ∧ w'.cell? ⟨b2, o2 + q * 2 + 1, none⟩ = some (.int .i64 v2))
        (first | go_keep | (go_split_ands; refine ⟨?_, ?_⟩ <;> (rw [hgrow.cell_far _ (by simp; omega) (fun h => by have h2 : w.heap.size ≤ b2 := (Hown.out.lt _ h.symm).1; omega)]; assumption)))
        ((refine step_append_lies _ (by rfl) _ _ _ (by rfl) w.heap.size 117 i0 _ 3 32 Try.underlying27 Hi.out Hz0.out Hz1.out Hz2.out rfl (by omega) u5 acc.length (edtsC acc) (by rfl) ((Hown.out.alloc _).drew) ⟨w4.heap.size, 0, none⟩ 1 1 [.string k2, .int .i64 v2, .bool false] (by rfl) (by rfl) (World.news_of_block (cs := #[.string k2, .int .i64 v2, .bool false]) (t := 117) (fr := (0, 0)) (heap_alloc_new w4 _)) (by simp [Value.oneCell']) (by omega) (by unfold maxLen; omega) (by omega) (by simp; omega) (w4.heap.size + 1) (by simp) ?_; intro gg cap w9 hown' hgrow hat hlt9))
        have hb9 : Below w.heap.size w w9 := below_grown (hb.alloc hbs _).drew hgrow ((Hown.out.alloc _).drew) (by simp; omega) (Nat.le_refl _)
        have Hown' := Lib.hid hown'
        clear hown' hgrow hat hlt9 hc1x
        go_wp2
        go_roundw
        case rel => exact ⟨p, q + 1, f', acc ++ [⟨k2, v2, false⟩], by omega, by omega, rfl, by go_num, by omega, by rw [List.length_append, List.length_singleton]; omega, hnew.out, by rw [List.length_append, edtsC_snoc]; exact Hown'.out, hb9⟩
        case measure => simp [intOf]; omega
      · have hfin := Lib.hid (show acc = diffM es es' by rw [← Hacc.out, diffL_end _ _ _ (List.drop_eq_nil_of_le (by rw [Hlen.out]; omega)) (List.drop_eq_nil_of_le (by rw [Hlen'.out]; omega)), List.append_nil])
        clear hpn
        go_wp2
        go_ret
        exact ⟨_, rfl, by rw [← hfin.out]; exact Hown.out, hb⟩

end Go.Proofs.Ytjhimcddgkoghaa
namespace Go.Proofs.Ytjhimcddgkoghaa.AM
open Go Go.RowKit
set_option linter.unusedVariables false

def strA (k : ByteArray) : AV := .v (.string k)
def intA (x : Int) : AV := .v (.int .i64 x)
def entA (e : Ent) : AV := .agg [.v (.string e.1), .v (.int .i64 e.2)]
def edtA (e : Edt) : AV := .agg [.v (.string e.key), .v (.int .i64 e.val), .v (.bool e.gone)]
theorem flat_map {α : Type} {f : α → AV} (h : ∀ a, flatA (f a)) : ∀ l : List α, flatL (l.map f)
  | [] => by simp only [List.map_nil]; unfold flatL; trivial
  | a :: l => by simp only [List.map_cons]; unfold flatL; exact ⟨h a, flat_map h l⟩
theorem flat_o0 : ∀ ob ∈ ([] : List OB), flatO ob := fun ob h => by cases h
theorem flat_o1 {t sz : Nat} {xs : List AV} (h : flatL xs) : ∀ ob ∈ [(⟨.s t, sz, xs⟩ : OB)], flatO ob := fun ob hm => by rw [List.mem_singleton] at hm; subst hm; exact h
theorem flat_o2 {t sz t' sz' : Nat} {xs xs' : List AV} (h : flatL xs) (h' : flatL xs') : ∀ ob ∈ [(⟨.s t, sz, xs⟩ : OB), ⟨.s t', sz', xs'⟩], flatO ob := fun ob hm => by
  rcases List.mem_cons.1 hm with rfl | hm
  · exact h
  · exact flat_o1 h' ob hm
theorem flat_ent (e : Ent) : flatA (entA e) := by unfold entA; simp [flatA, flatL]
theorem flat_edt (e : Edt) : flatA (edtA e) := by unfold edtA; simp [flatA, flatL]
theorem flat_str (e : ByteArray) : flatA (strA e) := by unfold strA; simp [flatA]

section
variable {S : Nat → Prop} {w : World}
theorem rl_entA : ∀ {es : List Ent} {cs : List Value}, RL S w (es.map entA) cs ↔ cs = entsC es
  | [], cs => by simp only [List.map_nil]; unfold RL; simp [entsC]
  | e :: es, cs => by
    simp only [List.map_cons]
    constructor
    · intro h
      unfold RL at h
      obtain ⟨c1, c2, rfl, h1, h2⟩ := h
      rw [rl_entA.1 h2, entsC_cons]
      unfold entA at h1
      simp only [RA, RL] at h1
      obtain ⟨a, b, rfl, ⟨rfl, _⟩, d1, d2, rfl, ⟨rfl, _⟩, rfl⟩ := h1
      rfl
    · intro h
      unfold RL
      refine ⟨[.string e.1, .int .i64 e.2], entsC es, by rw [h, entsC_cons]; rfl, ?_, rl_entA.2 rfl⟩
      exact ra_agg (rl_cons (c1 := [_]) (ra_v rfl) (rl_cons (c1 := [_]) (ra_v rfl) rl_nil))
theorem rl_edtA : ∀ {es : List Edt} {cs : List Value}, RL S w (es.map edtA) cs ↔ cs = edtsC es
  | [], cs => by simp only [List.map_nil]; unfold RL; simp [edtsC]
  | e :: es, cs => by
    simp only [List.map_cons]
    constructor
    · intro h
      unfold RL at h
      obtain ⟨c1, c2, rfl, h1, h2⟩ := h
      rw [rl_edtA.1 h2, edtsC_cons]
      unfold edtA at h1
      simp only [RA, RL] at h1
      obtain ⟨a, b, rfl, ⟨rfl, _⟩, d1, d2, rfl, ⟨rfl, _⟩, f1, f2, rfl, ⟨rfl, _⟩, rfl⟩ := h1
      rfl
    · intro h
      unfold RL
      refine ⟨[.string e.key, .int .i64 e.val, .bool e.gone], edtsC es, by rw [h, edtsC_cons]; rfl, ?_, rl_edtA.2 rfl⟩
      exact ra_agg (rl_cons (c1 := [_]) (ra_v rfl) (rl_cons (c1 := [_]) (ra_v rfl) (rl_cons (c1 := [_]) (ra_v rfl) rl_nil)))
theorem all_ent (es : List Ent) : ∀ x ∈ es.map entA, asz x = 2 := fun x hx => by obtain ⟨e, _, rfl⟩ := List.mem_map.1 hx; rfl
theorem all_edt (es : List Edt) : ∀ x ∈ es.map edtA, asz x = 3 := fun x hx => by obtain ⟨e, _, rfl⟩ := List.mem_map.1 hx; rfl
/-- an argument that reads as entries -/
theorem arg_ents {S0 : Nat → Prop} {hp B V} (hS : ∀ b, S0 b → b < w.heap.size) {es : List Ent} {u : Value} (h : RV S0 w hp B V (.lst 2 (es.map entA)) u) : ∃ A c, u = .slice A es.length c ∧ es.length ≤ c ∧ c ≤ maxLen ∧ Rd w 2 A es.length (entsC es) := by
  unfold RV at h
  unfold RA at h
  obtain ⟨A, c, e, h1, h2, _, _, h4⟩ := h
  simp only [List.cons.injEq, and_true, List.length_map] at e h1
  refine ⟨A, c, e, h1, h2, by rw [entsC_length], fun hn => ?_⟩
  rcases h4 with h4 | ⟨b, off, us, rfl, hb, hr, hc⟩
  · have := List.map_eq_nil_iff.1 h4; subst this; simp at hn
  · rw [rl_entA.1 hr] at hc
    exact ⟨b, off, rfl, hS b hb, hc⟩
theorem arg_edts {S0 : Nat → Prop} {hp B V} (hS : ∀ b, S0 b → b < w.heap.size) {es : List Edt} {u : Value} (h : RV S0 w hp B V (.lst 3 (es.map edtA)) u) : ∃ A c, u = .slice A es.length c ∧ es.length ≤ c ∧ c ≤ maxLen ∧ Rd w 3 A es.length (edtsC es) := by
  unfold RV at h
  unfold RA at h
  obtain ⟨A, c, e, h1, h2, _, _, h4⟩ := h
  simp only [List.cons.injEq, and_true, List.length_map] at e h1
  refine ⟨A, c, e, h1, h2, by rw [edtsC_length], fun hn => ?_⟩
  rcases h4 with h4 | ⟨b, off, us, rfl, hb, hr, hc⟩
  · have := List.map_eq_nil_iff.1 h4; subst this; simp at hn
  · rw [rl_edtA.1 hr] at hc
    exact ⟨b, off, rfl, hS b hb, hc⟩
theorem arg_v {S0 : Nat → Prop} {hp B V} {x u : Value} (h : RV S0 w hp B V (.v x) u) : u = x := by unfold RV at h; exact h.1
theorem rvs1 {S0 : Nat → Prop} {hp B V} {x : AV} {us : List Value} (h : RVs S0 w hp B V [x] us) : ∃ u, us = [u] ∧ RV S0 w hp B V x u := by
  unfold RVs at h; obtain ⟨u, us', rfl, h1, h2⟩ := h; unfold RVs at h2; subst h2; exact ⟨u, rfl, h1⟩
theorem rvsc {S0 : Nat → Prop} {hp B V} {x : AV} {xs : List AV} {us : List Value} (h : RVs S0 w hp B V (x :: xs) us) : ∃ u us', us = u :: us' ∧ RV S0 w hp B V x u ∧ RVs S0 w hp B V xs us' := by
  unfold RVs at h; exact h
end

section
variable {P : Program} {f : FuncId} {fn : Func} {args : List AV}
theorem ent_of (hf : P.funcs[f]? = some fn) (hnm : (fn.name == "runtime.NumGoroutine") = false) (hb : fn.body.isNone = false) : ∀ vs w, (callFunc f vs).run P w = .ok (.enter f vs) w := fun vs w => by
  simp only [callFunc, Sem.run_bind, run_program, Result.andThen_ok, hf, hnm, hb]; rfl
theorem rvs_none {S : Nat → Prop} {w : World} {hp hp' : Nat → Option OB} {B B' : Nat → Nat} {V V' : Nat → Value} {xs : List AV} {vs : List Value} (hn : ∀ l, hp l = none) (h : RVs S w hp B V xs vs) : RVs S w hp' B' V' xs vs :=
  RVs.carry (fun _ h => h) (fun _ _ => rfl) _ _ (fun l _ ob e => by rw [hn] at e; cases e) h
theorem rows_none {S : Nat → Prop} {w : World} {hp : Nat → Option OB} {B : Nat → Nat} {V : Nat → Value} {T : Nat → Nat → Prop} {lo : Nat → Prop} (hn : ∀ l, hp l = none) : Rows S w hp (fun _ => none) B V T lo :=
  ⟨fun l ob e => (by rw [hn] at e; cases e), fun l ob g e => (by rw [hn] at e; cases e), fun l ob g e => (by rw [hn] at e; cases e), fun l l' o1 o2 g e => (by rw [hn] at e; cases e), fun l es e => (by cases e)⟩
theorem obs_nil (l : Nat) : obsF [] l = none := by simp [obsF]
theorem owns_any {w : World} {b t sz n : Nat} {v : Value} {cs : List Value} (h : w.ownsRow b t sz v n cs) : w.ownsRow 0 t sz v n cs := by
  refine ⟨h.1, ?_⟩
  rcases h.2 with k | ⟨g, cap, cur, e, hb, r⟩
  · exact .inl k
  · exact .inr ⟨g, cap, cur, e, Nat.zero_le _, r⟩
/-- a contract whose result is a plain value -/
theorem ac_val {r : Value} (hent : ∀ vs w, (callFunc f vs).run P w = .ok (.enter f vs) w) (h1 : r.oneCell' = true)
    (h : ∀ (w : World) (S0 : Nat → Prop) (vs : List Value), (∀ b, S0 b → b < w.heap.size) → RVs S0 w (fun _ => none) (fun _ => 0) (fun _ => undef) args vs → Calls P f vs.toArray w fun e w' => e = .returned r ∧ Below w.heap.size w w') : AC P f args ⟨.v r, []⟩ :=
  ⟨hent, fun w S0 B0 V0 T0 vs hS _ hv => (h w S0 vs hS (rvs_none (fun _ => rfl) hv)).mono fun e w' ⟨he, hb⟩ => ⟨r, S0, fun _ => 0, fun _ => undef, fun _ => Fa, fun _ => Fa, he, Grown.of hb _, fun _ h => h, fun b hb' => ⟨Nat.lt_of_lt_of_le (hS b hb') hb.size, .inl hb'⟩, by unfold RV; exact ⟨rfl, h1⟩, rows_none obs_nil, rows_none (fun _ => rfl), fun l l' ob ob' g e => (by rw [obs_nil] at e; cases e)⟩⟩
theorem rows_one {S : Nat → Prop} {w' : World} {base : Nat} {t sz : Nat} {xs : List AV} {v : Value} {cs : List Value} {lo : Nat → Prop} (hlo : ∀ g, base ≤ g → lo g) (hS : ∀ b, S b → b < base) (ho : w'.ownsRow base t sz v xs.length cs) (ha : ∀ x ∈ xs, asz x = sz) (h0 : 0 < sz) (hr : RL S w' xs cs) : Rows S w' (obsF [⟨.s t, sz, xs⟩]) (fun _ => none) (fun _ => (v.ownBlock).getD 0) (fun _ => v) (fun _ => Fa) lo := by
  have h0' : ∀ l ob, obsF [(⟨.s t, sz, xs⟩ : OB)] l = some ob → l = 0 ∧ ob = ⟨.s t, sz, xs⟩ := fun l ob e => by
    cases l with
    | zero => simp [obsF] at e; exact ⟨rfl, e.symm⟩
    | succ l => simp [obsF] at e
  refine ⟨fun l ob e => ?_, fun l ob g e hb => ?_, fun l ob g e _ hb => hb.elim, fun l l' o1 o2 g e1 e2 _ _ => ?_, fun l es e => by cases e⟩
  · obtain ⟨rfl, rfl⟩ := h0' l ob e
    exact ⟨t, cs, ⟨fun t' e => by cases e; rfl, trivial⟩, hr, ha, h0, owns_any ho, fun g hg => by rw [hg]; rfl⟩
  · rcases hb with hb | hb
    · have := ho.lt g hb
      exact ⟨fun hs => by have := hS g hs; omega, this.2, hlo g this.1⟩
    · exact hb.elim
  · rw [(h0' l o1 e1).1, (h0' l' o2 e2).1]
/-- a contract whose result is a row of its own -/
theorem ac_own {e : TypeId} {sz : Nat} {xs : List AV} {cs : List Value} (hent : ∀ vs w, (callFunc f vs).run P w = .ok (.enter f vs) w) (ha : ∀ x ∈ xs, asz x = sz) (h0 : 0 < sz) (hr : ∀ S w, RL S w xs cs)
    (h : ∀ (w : World) (S0 : Nat → Prop) (vs : List Value), (∀ b, S0 b → b < w.heap.size) → RVs S0 w (fun _ => none) (fun _ => 0) (fun _ => undef) args vs → Calls P f vs.toArray w fun en w' => ∃ v, en = .returned v ∧ w'.ownsRow w.heap.size e sz v xs.length cs ∧ Below w.heap.size w w') : AC P f args ⟨.own 0, [⟨.s e, sz, xs⟩]⟩ :=
  ⟨hent, fun w S0 B0 V0 T0 vs hS _ hv => (h w S0 vs hS (rvs_none (fun _ => rfl) hv)).mono fun en w' ⟨v, he, ho, hb⟩ =>
    ⟨v, S0, fun _ => (v.ownBlock).getD 0, fun _ => v, fun _ => Fa, fun _ => Fa, he, Grown.of hb _, fun _ h => h, fun b hb' => ⟨Nat.lt_of_lt_of_le (hS b hb') hb.size, .inl hb'⟩, by unfold RV; exact ⟨⟨_, rfl⟩, rfl⟩, rows_one (fun g hg => .inl hg) hS ho ha h0 (hr _ _), rows_none (fun _ => rfl), fun l l' ob ob' g _ e => by cases e⟩⟩
/-- a contract whose result is a row of its own and a plain value -/
theorem ac_ownv {e : TypeId} {sz : Nat} {xs : List AV} {cs : List Value} {r : Value} (hent : ∀ vs w, (callFunc f vs).run P w = .ok (.enter f vs) w) (ha : ∀ x ∈ xs, asz x = sz) (h0 : 0 < sz) (hr : ∀ S w, RL S w xs cs) (h1 : r.oneCell' = true)
    (h : ∀ (w : World) (S0 : Nat → Prop) (vs : List Value), (∀ b, S0 b → b < w.heap.size) → RVs S0 w (fun _ => none) (fun _ => 0) (fun _ => undef) args vs → Calls P f vs.toArray w fun en w' => ∃ v, en = .returned (.tuple #[v, r]) ∧ w'.ownsRow w.heap.size e sz v xs.length cs ∧ Below w.heap.size w w') : AC P f args ⟨.tup [.own 0, .v r], [⟨.s e, sz, xs⟩]⟩ :=
  ⟨hent, fun w S0 B0 V0 T0 vs hS _ hv => (h w S0 vs hS (rvs_none (fun _ => rfl) hv)).mono fun en w' ⟨v, he, ho, hb⟩ => by
    refine ⟨_, S0, fun _ => (v.ownBlock).getD 0, fun _ => v, fun _ => Fa, fun _ => Fa, he, Grown.of hb _, fun _ h => h, fun b hb' => ⟨Nat.lt_of_lt_of_le (hS b hb') hb.size, .inl hb'⟩, ?_, rows_one (fun g hg => .inl hg) hS ho ha h0 (hr _ _), rows_none (fun _ => rfl), fun l l' ob ob' g _ e => by cases e⟩
    unfold RV
    refine ⟨[v, r], rfl, ?_⟩
    unfold RVs
    refine ⟨v, [r], rfl, by unfold RV; exact ⟨⟨_, rfl⟩, rfl⟩, ?_⟩
    unfold RVs
    exact ⟨r, [], rfl, by unfold RV; exact ⟨rfl, h1⟩, by unfold RVs; rfl⟩⟩
end

theorem ent_122 : ∀ vs w, (callFunc 122 vs).run Try.prog w = .ok (.enter 122 vs) w := ent_of Try.func122 (by kernel_rfl) (by kernel_rfl)
theorem ent_125 : ∀ vs w, (callFunc 125 vs).run Try.prog w = .ok (.enter 125 vs) w := ent_of Try.func125 (by kernel_rfl) (by kernel_rfl)
theorem ent_169 : ∀ vs w, (callFunc 169 vs).run Try.prog w = .ok (.enter 169 vs) w := ent_of Try.func169 (by kernel_rfl) (by kernel_rfl)
theorem ent_168 : ∀ vs w, (callFunc 168 vs).run Try.prog w = .ok (.enter 168 vs) w := ent_of Try.func168 (by kernel_rfl) (by kernel_rfl)
theorem ent_237 : ∀ vs w, (callFunc 237 vs).run Try.prog w = .ok (.enter 237 vs) w := ent_of Try.func237 (by kernel_rfl) (by kernel_rfl)
theorem ent_243 : ∀ vs w, (callFunc 243 vs).run Try.prog w = .ok (.enter 243 vs) w := ent_of Try.func243 (by kernel_rfl) (by kernel_rfl)
theorem ent_241 : ∀ vs w, (callFunc 241 vs).run Try.prog w = .ok (.enter 241 vs) w := ent_of Try.func241 (by kernel_rfl) (by kernel_rfl)
theorem ent_240 : ∀ vs w, (callFunc 240 vs).run Try.prog w = .ok (.enter 240 vs) w := ent_of Try.func240 (by kernel_rfl) (by kernel_rfl)
theorem ent_239 : ∀ vs w, (callFunc 239 vs).run Try.prog w = .ok (.enter 239 vs) w := ent_of Try.func239 (by kernel_rfl) (by kernel_rfl)
theorem ac_l01OK {es : List Ent} (hm : es.length ≤ maxLen) (hk : ∀ e ∈ es, e.1.size ≤ maxLen) : AC Try.prog 122 [.lst 2 (es.map entA)] ⟨.v (.bool (mapOK es)), []⟩ :=
  ac_val ent_122 rfl fun w S0 vs hS hv => by
    obtain ⟨u, rfl, h1⟩ := rvs1 hv
    obtain ⟨A, c, rfl, _, _, hr⟩ := arg_ents hS h1
    exact l01OK_any A es.length c es w hr hm hk
theorem ac_implMapOK {es : List Ent} (hm : es.length ≤ maxLen) (hk : ∀ e ∈ es, e.1.size ≤ maxLen) : AC Try.prog 125 [.lst 2 (es.map entA)] ⟨.v (.bool (mapOK es)), []⟩ :=
  ac_val ent_125 rfl fun w S0 vs hS hv => by
    obtain ⟨u, rfl, h1⟩ := rvs1 hv
    obtain ⟨A, c, rfl, _, _, hr⟩ := arg_ents hS h1
    exact implMapOK_any A es.length c es w hr hm hk
theorem ac_l01OK' {es : List Ent} {b : Bool} (hb : mapOK es = b) (hm : es.length ≤ maxLen) (hk : ∀ e ∈ es, e.1.size ≤ maxLen) : AC Try.prog 122 [.lst 2 (es.map entA)] ⟨.v (.bool b), []⟩ := hb ▸ ac_l01OK hm hk
theorem ac_implMapOK' {es : List Ent} {b : Bool} (hb : mapOK es = b) (hm : es.length ≤ maxLen) (hk : ∀ e ∈ es, e.1.size ≤ maxLen) : AC Try.prog 125 [.lst 2 (es.map entA)] ⟨.v (.bool b), []⟩ := hb ▸ ac_implMapOK hm hk
theorem ac_l01Diff {es es' : List Ent} (hm : es.length ≤ 4096) (hm' : es'.length ≤ 4096) : AC Try.prog 169 [.lst 2 (es.map entA), .lst 2 (es'.map entA)] ⟨.own 0, [⟨117, 3, (diffM es es').map edtA⟩]⟩ :=
  ac_own (cs := edtsC (diffM es es')) ent_169 (all_edt _) (by omega) (fun S w => rl_edtA.2 rfl) fun w S0 vs hS hv => by
    obtain ⟨u, us, rfl, h1, hv⟩ := rvsc hv
    obtain ⟨u', rfl, h2⟩ := rvs1 hv
    obtain ⟨A, c, rfl, _, _, hr⟩ := arg_ents hS h1
    obtain ⟨A', c', rfl, _, _, hr'⟩ := arg_ents hS h2
    rw [List.length_map]
    exact l01Diff_any A _ c es A' _ c' es' w hr hr' hm hm'
theorem ac_differences {es es' : List Ent} (hm : es.length ≤ 4096) (hm' : es'.length ≤ 4096) : AC Try.prog 168 [.lst 2 (es.map entA), .lst 2 (es'.map entA)] ⟨.own 0, [⟨117, 3, (diffM es es').map edtA⟩]⟩ :=
  ac_own (cs := edtsC (diffM es es')) ent_168 (all_edt _) (by omega) (fun S w => rl_edtA.2 rfl) fun w S0 vs hS hv => by
    obtain ⟨u, us, rfl, h1, hv⟩ := rvsc hv
    obtain ⟨u', rfl, h2⟩ := rvs1 hv
    obtain ⟨A, c, rfl, _, _, hr⟩ := arg_ents hS h1
    obtain ⟨A', c', rfl, _, _, hr'⟩ := arg_ents hS h2
    rw [List.length_map]
    exact differences_any A _ c es A' _ c' es' w hr hr' hm hm'
theorem ac_l01Put {es : List Ent} {k : ByteArray} {v : Int} (hm : es.length ≤ 4096) : AC Try.prog 237 [.lst 2 (es.map entA), .v (.string k), .v (.int .i64 v)] ⟨.own 0, [⟨167, 2, (putL es k v).map entA⟩]⟩ :=
  ac_own (cs := entsC (putL es k v)) ent_237 (all_ent _) (by omega) (fun S w => rl_entA.2 rfl) fun w S0 vs hS hv => by
    obtain ⟨u, us, rfl, h1, hv⟩ := rvsc hv
    obtain ⟨u2, us, rfl, h2, hv⟩ := rvsc hv
    obtain ⟨u3, rfl, h3⟩ := rvs1 hv
    obtain ⟨A, c, rfl, _, _, hr⟩ := arg_ents hS h1
    rw [arg_v h2, arg_v h3, List.length_map]
    exact l01Put_any A _ c es k v w hr hm
theorem ac_l01Remove {es : List Ent} {k : ByteArray} (hm : es.length ≤ 4096) : AC Try.prog 243 [.lst 2 (es.map entA), .v (.string k)] ⟨.own 0, [⟨167, 2, (delL es k).map entA⟩]⟩ :=
  ac_own (cs := entsC (delL es k)) ent_243 (all_ent _) (by omega) (fun S w => rl_entA.2 rfl) fun w S0 vs hS hv => by
    obtain ⟨u, us, rfl, h1, hv⟩ := rvsc hv
    obtain ⟨u2, rfl, h2⟩ := rvs1 hv
    obtain ⟨A, c, rfl, _, _, hr⟩ := arg_ents hS h1
    rw [arg_v h2, List.length_map]
    exact l01Remove_any A _ c es k w hr hm
theorem ac_with {es : List Ent} {k : ByteArray} {v : Int} (hs : Srt es) (hm : es.length ≤ 4096) : AC Try.prog 241 [.lst 2 (es.map entA), .agg [.v (.string k), .v (.int .i64 v)]] ⟨.own 0, [⟨167, 2, (putL es k v).map entA⟩]⟩ :=
  ac_own (cs := entsC (putL es k v)) ent_241 (all_ent _) (by omega) (fun S w => rl_entA.2 rfl) fun w S0 vs hS hv => by
    obtain ⟨u, us, rfl, h1, hv⟩ := rvsc hv
    obtain ⟨u2, rfl, h2⟩ := rvs1 hv
    obtain ⟨A, c, rfl, hc, _, hr⟩ := arg_ents hS h1
    unfold RV at h2
    obtain ⟨cs, rfl, h2⟩ := h2
    have hcs : cs = [.string k, .int .i64 v] := concL_eq (xs := [.v (.string k), .v (.int .i64 v)]) rfl h2
    rw [hcs, List.length_map]
    exact with_any A _ c es k v w hr hs hc hm
theorem ac_without {es : List Ent} {k : ByteArray} (hs : Srt es) (hm : es.length ≤ 4096) : AC Try.prog 240 [.lst 2 (es.map entA), .v (.string k)] ⟨.own 0, [⟨167, 2, (delL es k).map entA⟩]⟩ :=
  ac_own (cs := entsC (delL es k)) ent_240 (all_ent _) (by omega) (fun S w => rl_entA.2 rfl) fun w S0 vs hS hv => by
    obtain ⟨u, us, rfl, h1, hv⟩ := rvsc hv
    obtain ⟨u2, rfl, h2⟩ := rvs1 hv
    obtain ⟨A, c, rfl, hc, hc2, hr⟩ := arg_ents hS h1
    rw [arg_v h2, List.length_map]
    exact without_any A _ c es k w hr hs hc hc2 hm
theorem ac_part {es : List Ent} {a b : Nat} (hab : a ≤ b) (hbn : b ≤ es.length) (hm : es.length ≤ 4096) : AC Try.prog 239 [.lst 2 (es.map entA), .v (.int .i64 a), .v (.int .i64 b)] ⟨.own 0, [⟨167, 2, ((es.drop a).take (b - a)).map entA⟩]⟩ :=
  ac_own (cs := entsC ((es.drop a).take (b - a))) ent_239 (all_ent _) (by omega) (fun S w => rl_entA.2 rfl) fun w S0 vs hS hv => by
    obtain ⟨u, us, rfl, h1, hv⟩ := rvsc hv
    obtain ⟨u2, us, rfl, h2, hv⟩ := rvsc hv
    obtain ⟨u3, rfl, h3⟩ := rvs1 hv
    obtain ⟨A, c, rfl, hc, hc2, hr⟩ := arg_ents hS h1
    rw [arg_v h2, arg_v h3, List.length_map]
    exact part_any A _ c es a b w hr hab hbn hc hc2 hm
end Go.Proofs.Ytjhimcddgkoghaa.AM
namespace Go.Proofs.Ytjhimcddgkoghaa
open Go.RowKit Go.ChangeShapes Go.WideShapes Go.Deep

theorem own_ : ownKnob Try.prog.godebug = none := by kernel_rfl
theorem laidOut_ : laidOutB Try.prog = true := by kernel_rfl

theorem add_zero_ (a : Addr) : a.add 0 = a := by unfold Addr.add; simp
theorem spot_of_cell {w : World} {a : Addr} {v : Value} (h : w.cell? a = some v) : a.spot = none := by
  unfold World.cell? at h
  cases hs : a.spot with
  | none => rfl
  | some x => simp [hs] at h; split at h <;> simp at h

section
variable {H : Type} {enc : TypeId × Value → H} {P : Program} {w : World} {base : Nat} {spare : Nat → Bool} {held : Bool}
theorem open_slice_fields {t e : TypeId} {fs : Array Field} {fuel : Nat} {cs : List Value} {x : DataW H × List MemPlace} (ht : P.underlying t = some (.slice e)) (he : P.underlying e = some (.struct fs))
    (hone : oneCellFields P fs = true) (hC : P.cellsOf e = fs.size) (h : DataW.trod enc P w base spare held fuel t cs = some x) :
    (cs = [.slice none 0 0] ∧ x = (.nil, [])) ∨
    ∃ (a : Addr) (len cap m : Nat) (D : Nat → DataW H) (Pl : Nat → List MemPlace), cs = [.slice (some a) len cap] ∧ base ≤ a.block ∧ len ≤ cap ∧ cap ≤ maxLen ∧ m = (if spare a.block then cap else len) ∧
      x = (.slice ((List.range len).map D) ((List.range (m - len)).map fun j => D (len + j)), MemPlace.row a (m * fs.size) ++ (List.range m).flatMap Pl) ∧
      ∀ i, i < m → ∃ (ys : List (DataW H × List MemPlace)) (n : Nat), D i = .agg (ys.map (·.1)) ∧ Pl i = ys.flatMap (·.2) ∧ ys.length = fs.size ∧
        ∀ (j : Nat) (f : Field), fs[j]? = some f → ∃ (v : Value) (y : DataW H × List MemPlace), w.cell? (a.add (i * fs.size + j)) = some v ∧ ys[j]? = some y ∧ DataW.trod enc P w base spare held n f.type [v] = some y := by
  rcases open_slice ht h with h0 | ⟨a, len, cap, m, n, D, Pl, hcs, hb, hl, hm, hmm, hx, hi⟩
  · exact .inl h0
  · refine .inr ⟨a, len, cap, m, D, Pl, hcs, hb, hl, hm, hmm, by rw [hC] at hx; exact hx, fun i him => ?_⟩
    obtain ⟨cs', hc, ht'⟩ := hi i him
    rw [hC] at hc
    obtain ⟨ys, n', hn', hy, hlen, hyl, hf⟩ := DataW.trod_struct he ht'
    obtain ⟨_, hcl, hat⟩ := World.cells?_some hc
    simp only [Prod.mk.injEq] at hy
    refine ⟨ys, n', hy.1, hy.2, hyl, fun j f hj => ?_⟩
    obtain ⟨ho, hk⟩ := hone_of hone j f hj
    have hjl : j < fs.size := (Array.getElem?_eq_some_iff.1 hj).1
    have hcell := hat j hjl
    have hv : cs'[j]? = some (cs'[j]'(by omega)) := List.getElem?_eq_getElem (by omega)
    have h1 := hf j f hj
    rw [ho, hk] at h1
    have hone' : (cs'.drop j).take 1 = [cs'[j]'(by omega)] := by
      rw [List.drop_eq_getElem_cons (by omega)]
      rfl
    rw [hone'] at h1
    have hys : ys[j]? = some (ys[j]'(by omega)) := List.getElem?_eq_getElem (by omega)
    refine ⟨_, _, ?_, hys, h1.trans hys⟩
    rw [← Go.Deep.add_add, hcell, hv]

/-- a slice of structs, field by field: P0 says of the i-th element what its fields are -/
theorem open_fields {t e : TypeId} {fs : Array Field} {A : Option Addr} {n c : Nat} {d : DataW H} {p : List MemPlace} (ht : P.underlying t = some (.slice e)) (he : P.underlying e = some (.struct fs))
    (hone : oneCellFields P fs = true) (hC : P.cellsOf e = fs.size) (h0 : 0 < fs.size) (h : DataW.Trod enc P w base (fun _ => true) held t (.slice A n c) d p) :
    n ≤ maxLen ∧ (0 < n → ∃ b off, A = some ⟨b, off, none⟩ ∧ b < w.heap.size ∧ ∀ i, i < n → ∃ k, ∀ (j : Nat) (f : Field), fs[j]? = some f → ∃ (v : Value) (y : DataW H × List MemPlace), w.cell? ⟨b, off + (i * fs.size + j), none⟩ = some v ∧ DataW.trod enc P w base (fun _ => true) held k f.type [v] = some y) := by
  obtain ⟨fuel, hf⟩ := h
  rcases open_slice_fields ht he hone hC hf with ⟨hcs, _⟩ | ⟨a, len, cap, m, D, Pl, hcs, _, hl, hm, hmm, _, hi⟩
  · simp [Value.cells] at hcs
    obtain ⟨rfl, rfl, rfl⟩ := hcs
    exact ⟨Nat.zero_le _, fun h => absurd h (by omega)⟩
  · simp [Value.cells] at hcs
    obtain ⟨rfl, rfl, rfl⟩ := hcs
    simp at hmm
    subst hmm
    refine ⟨Nat.le_trans hl hm, fun hn => ?_⟩
    have hz := hi 0 (by omega)
    obtain ⟨_, _, _, _, _, hz⟩ := hz
    obtain ⟨v, y, hcell, _⟩ := hz 0 (fs[0]) (by simp [h0])
    rw [Nat.zero_mul, Nat.zero_add, add_zero_] at hcell
    have hsp := spot_of_cell hcell
    obtain ⟨b, off, sp⟩ := a
    simp at hsp
    subst hsp
    have hadd : ∀ j, (⟨b, off, none⟩ : Addr).add j = ⟨b, off + j, none⟩ := fun j => by unfold Addr.add; split <;> simp_all
    refine ⟨b, off, rfl, ?_, fun i hin => ?_⟩
    · exact World.block_lt_of_cell? w _ hcell
    · obtain ⟨ys, k, _, _, _, hj⟩ := hi i (by omega)
      refine ⟨k, fun j f hf => ?_⟩
      obtain ⟨v, y, hcell, _, hty⟩ := hj j f hf
      rw [hadd] at hcell
      exact ⟨v, y, hcell, hty⟩
end

/-- a list out of facts on its places -/
theorem list_of {α : Type} (n : Nat) (Q : Nat → α → Prop) (h : ∀ i, i < n → ∃ a, Q i a) : ∃ l : List α, l.length = n ∧ ∀ i (hi : i < l.length), Q i l[i] := by
  induction n with
  | zero => exact ⟨[], rfl, fun i hi => absurd hi (by simp)⟩
  | succ n ih =>
    obtain ⟨l, hl, hq⟩ := ih fun i hi => h i (by omega)
    obtain ⟨a, ha⟩ := h n (by omega)
    refine ⟨l ++ [a], by simp [hl], fun i hi => ?_⟩
    rw [List.length_append, List.length_singleton] at hi
    rcases Nat.lt_or_ge i l.length with hlt | hge
    · rw [List.getElem_append_left hlt]; exact hq i hlt
    · have : i = l.length := by omega
      subst this
      rw [List.getElem_append_right (Nat.le_refl _)]
      simp only [Nat.sub_self, List.getElem_cons_zero]
      rw [hl]; exact ha

section
variable {H : Type} {enc : TypeId × Value → H} {P : Program} {w : World} {base : Nat} {held : Bool}
end
end Go.Proofs.Ytjhimcddgkoghaa
namespace Go.Proofs.Ytjhimcddgkoghaa.AM
open Go Go.RowKit Go.ChangeShapes Go.WideShapes Go.Deep
set_option linter.unusedVariables false
section
variable {H : Type} {enc : TypeId × Value → H} {P : Program} {w : World} {base : Nat} {spare : Nat → Bool} {held : Bool}
theorem open_cap {t e : TypeId} {A : Option Addr} {n c : Nat} {d : DataW H} {p : List MemPlace} (ht : P.underlying t = some (.slice e)) (h : DataW.Trod enc P w base spare held t (.slice A n c) d p) : n ≤ c ∧ c ≤ maxLen := by
  obtain ⟨fuel, hf⟩ := h
  rcases open_slice ht hf with ⟨hcs, _⟩ | ⟨a, len, cap, m, n', D, Pl, hcs, hb, hl, hm, _⟩
  · simp [Value.cells] at hcs; obtain ⟨rfl, rfl, rfl⟩ := hcs; exact ⟨Nat.le_refl _, Nat.zero_le _⟩
  · simp [Value.cells] at hcs; obtain ⟨rfl, rfl, rfl⟩ := hcs; exact ⟨hl, hm⟩
end
section
variable {w : World} {hp : Nat → Option OB} {B : Nat → Nat} {V : Nat → Value}
def InW (w : World) : Nat → Prop := fun b => b < w.heap.size
theorem rd_at {sz : Nat} {A : Option Addr} {n : Nat} {xs : List Value} (h : Rd w sz A n xs) (hn : 0 < n) : ∃ b off, A = some ⟨b, off, none⟩ ∧ InW w b ∧ ∀ j u, xs[j]? = some u → w.cell? ⟨b, off + j, none⟩ = some u := by
  obtain ⟨b, off, h1, h2, h3⟩ := h.2 hn
  exact ⟨b, off, h1, h2, h3⟩
theorem rvs_nil : RVs (InW w) w hp B V [] [] := by unfold RVs; rfl
theorem rvs_cons {x : AV} {xs : List AV} {u : Value} {us : List Value} (h : RV (InW w) w hp B V x u) (r : RVs (InW w) w hp B V xs us) : RVs (InW w) w hp B V (x :: xs) (u :: us) := by
  unfold RVs; exact ⟨u, us, rfl, h, r⟩
/-- what a law's contract says of a call of it -/
theorem law_calls {P : Program} {f : FuncId} {args : List AV} {vs : List Value} {r : Value} (h : AC P f args ⟨.v r, []⟩) (hv : RVs (InW w) w (fun _ => none) (fun _ => 0) (fun _ => undef) args vs) : Calls P f vs.toArray w fun e w' => e = .returned r ∧ Below w.heap.size w w' :=
  (h.2 w (InW w) (fun _ => 0) (fun _ => undef) (fun _ => Fa) vs (fun b hb => hb) (rows_none (fun _ => rfl)) (rvs_none (fun _ => rfl) hv)).mono fun e w' ⟨v, S, B, V, T, T1, h1, h2, _, _, h5, _⟩ => by
    unfold RV at h5
    exact ⟨by rw [h1, h5.1], h2.below (fun g ⟨l, ob, e, _⟩ => by cases e)⟩
end
end Go.Proofs.Ytjhimcddgkoghaa.AM
namespace Go.Proofs.Ytjhimcddgkoghaa.AM
open Go Go.RowKit
set_option linter.unusedVariables false
set_option maxRecDepth 100000

attribute [local irreducible] ACode AOps AOps2 RetG RetM Pre ACG

end Go.Proofs.Ytjhimcddgkoghaa.AM
namespace Go.Proofs.Ytjhimcddgkoghaa.AM
open Go Go.RowKit
set_option linter.unusedVariables false
set_option maxRecDepth 100000

section
variable {P : Program} {t : TypeId} {x y : Operand} {a b : ByteArray}
theorem b_sne_t (h : a ≠ b) : BinOK P .neq t x y (.string a) (.string b) (.bool true) := b_str fun w => by simp [Op.stringOp, toList_beq, h]
theorem b_sne_f (h : a = b) : BinOK P .neq t x y (.string a) (.string b) (.bool false) := b_str fun w => by simp [Op.stringOp, h]
theorem b_seq_t (h : a = b) : BinOK P .eql t x y (.string a) (.string b) (.bool true) := b_str fun w => by simp [Op.stringOp, h]
theorem b_seq_f (h : a ≠ b) : BinOK P .eql t x y (.string a) (.string b) (.bool false) := b_str fun w => by simp [Op.stringOp, toList_beq, h]
end
attribute [local irreducible] ACode AOps AOps2 RetG RetM Pre ACG

end Go.Proofs.Ytjhimcddgkoghaa.AM
namespace Go.Proofs.Ytjhimcddgkoghaa
open Go.RowKit

def TupE (e : TypeId) (r : List Edt × Int) (w : World) (e' : Ending) (w' : World) : Prop := ∃ v, e' = .returned (.tuple #[v, .int .i64 r.2]) ∧ w'.ownsRow w.heap.size e 3 v r.1.length (edtsC r.1) ∧ Below w.heap.size w w'
theorem TupE.mk {e : TypeId} {r : List Edt × Int} {l : List Edt} {c : Int} {v : Value} {w w' : World} (h : r = (l, c)) (ho : w'.ownsRow w.heap.size e 3 v l.length (edtsC l)) (hb : Below w.heap.size w w') : TupE e r w (.returned (.tuple #[v, .int .i64 c])) w' := ⟨v, by rw [h], by rw [h]; exact ho, hb⟩
end Go.Proofs.Ytjhimcddgkoghaa
namespace Go.Proofs.Ytjhimcddgkoghaa.AM
open Go Go.RowKit
set_option linter.unusedVariables false
set_option linter.unusedSimpArgs false
set_option maxRecDepth 100000
attribute [local irreducible] ACode AOps AOps2 RetG RetM Pre ACG
def keysL (es : List Edt) : List ByteArray := es.map fun e => e.key
theorem keysL_length (es : List Edt) : (keysL es).length = es.length := by simp [keysL]

theorem diffL_le (f : Nat) (a b : List Ent) : (diffL f a b).length ≤ a.length + b.length := by
  induction f generalizing a b with
  | zero => simp [diffL]
  | succ f ih =>
    match a, b with
    | [], [] => simp [diffL]
    | x :: a, [] =>
      have := ih a []
      simp only [diffL, List.length_cons]; simp at *; omega
    | [], y :: b =>
      have := ih [] b
      simp only [diffL, List.length_cons]; simp at *; omega
    | x :: a, y :: b =>
      rw [diffL]
      split
      · have := ih a (y :: b); simp at *; omega
      · split
        · have := ih (x :: a) b; simp at *; omega
        · have := ih a b
          split <;> simp at * <;> omega
theorem diffM_len (a b : List Ent) : (diffM a b).length ≤ a.length + b.length := by
  unfold diffM; exact diffL_le _ _ _
theorem fill_set {α : Type} (l : List α) (z : α) (k : Nat) (h : k < l.length) : (l.take k ++ List.replicate (l.length - k) z).set k l[k] = l.take (k + 1) ++ List.replicate (l.length - (k + 1)) z := by
  have h1 : l.length - k = (l.length - (k + 1)) + 1 := by omega
  rw [h1, List.replicate_succ, List.set_append_right _ _ (by simp; omega), List.take_succ_eq_append_getElem h, List.append_assoc]
  have : k - (l.take k).length = 0 := by simp; omega
  rw [this]; rfl
end Go.Proofs.Ytjhimcddgkoghaa.AM
namespace Go.Proofs.Ytjhimcddgkoghaa.AM
open Go Go.RowKit
set_option linter.unusedVariables false
set_option linter.unusedSimpArgs false
set_option maxRecDepth 100000

abbrev Cmt := List Int × List Ent
theorem all_int (cs : List Int) : ∀ x ∈ cs.map intA, asz x = 1 := fun x hx => by obtain ⟨e, _, rfl⟩ := List.mem_map.1 hx; rfl
theorem flat_int (e : Int) : flatA (intA e) := by unfold intA; simp [flatA]
def szI (n : Nat) (l : Int) : Int := if l - n < 0 then -1 else l - n
/-- a row that is given up is stored, to be read from now on -/
theorem p_ostoref {P : Program} {Θ : Tab} {s : St} {d : Option Tmp} {ty : TypeId} {pos : String} {after : Array Edge} {g : Option (Nat × Bool)} {t : TypeId} {x y : Operand} {l l' i c : Nat} {p : List Nat} {ob ob' : OB} {q z : AV} (hq : ob.xs[i]? = some q) (hx : s.ev x = .optr l i p c) (ho : s.hp l = some ob) (hg : getP q p 0 = some (z, c)) (hs : ((Θ.look t).known && (Nat.beq (asz z) (Θ.look t).size && Nat.beq 1 (asz z))) = true) (hy : s.ev y = .own l') (ho' : s.hp l' = some ob') (hn : Nat.beq l l' = false) (hop : ob.e.open_ = true := by rfl) (hsh : ob'.e.shut = true := by rfl) (hok : okL l' = true := by rfl) (hc : cOK y = true := by rfl) :
    Pre P Θ ⟨d, .store t x y, ty, pos, after, g⟩ s ⟨.any, some fun s' => (s'.frz l').set l (some ⟨.s (ob.e.typ.getD 0), ob.sz, ob.xs.set i (setP q p (.lst ob'.sz ob'.xs))⟩)⟩ := by
  simp only [Bool.and_eq_true] at hs
  have hd : s.dat (s.ev y) = .lst ob'.sz ob'.xs := by rw [hy]; simp [St.dat, ho', hsh]
  have hown : ownsA (s.ev y) = [l'] := by rw [hy]; rfl
  have hda : isDataA s (s.ev y) = true := by rw [hy]; simp [isDataA, ho', hsh]
  obtain ⟨t0, he⟩ : ∃ t0, ob.e = .s t0 ∨ ob.e = .z t0 := by
    cases h : ob.e with
    | s t0 => exact ⟨t0, .inl rfl⟩
    | z t0 => exact ⟨t0, .inr rfl⟩
    | _ => rw [h] at hop; cases hop
  have ht : ob.e.typ.getD 0 = t0 := by rcases he with he | he <;> rw [he] <;> rfl
  have hne : l ≠ l' := fun e => by rw [e] at hn; simp at hn
  refine ⟨cOK_spec hc, hs.1, l, i, p, c, ob, hx, ho, .inl ⟨t0, q, z, he, hq, hg, Nat.eq_of_beq_eq_true hs.2.1, by rw [hd]; exact Nat.eq_of_beq_eq_true hs.2.2, hda, by rw [hown]; simpa using hne, by rw [hown]; simp [hok], ?_⟩⟩
  rw [hd, hown, ht]; rfl
theorem r_cell1 {s : St} {a t l : Nat} {ob : OB} {x : AV} {Θ : Tab} (h1 : s.sl a = .optr l 0 [] 0) (ho : s.hp l = some ob) (hx : ob.xs[0]? = some x) (hk : ((Θ.look t).known && (Bool.xor (isAggA x) (Θ.look t).isAgg).not && Nat.beq (asz x) (Θ.look t).size) = true) (hd : (match x with | .v _ | .agg _ | .lst _ _ | .any => True | _ => False)) (hop : ob.e.open_ = true := by rfl) :
    RetQ Θ [.cell a t] ⟨x, []⟩ .ret s := by
  have hr : rvA s (.cell a t) = x := by
    simp only [rvA, h1, ho, hop, hx, cond_true, Option.getD_some]
  simp only [Bool.and_eq_true] at hk
  refine ⟨trivial, [], by simp, trivial, ⟨⟨hk.1.1, by rw [hr]; exact xor_not hk.1.2, by rw [hr]; exact Nat.eq_of_beq_eq_true hk.2, .inl ⟨l, ob, x, h1, ho, .inl ⟨hop, hx⟩⟩⟩, trivial⟩, trivial, ⟨.inl ?_, trivial⟩⟩
  rw [hr]
  cases x <;> first | exact ⟨rfl, rfl⟩ | exact hd.elim
attribute [local irreducible] ACode AOps AOps2 RetG RetM Pre ACG

end Go.Proofs.Ytjhimcddgkoghaa.AM
namespace Go.Proofs.Ytjhimcddgkoghaa.AM
open Go Go.RowKit
set_option linter.unusedVariables false
set_option linter.unusedSimpArgs false
set_option maxRecDepth 100000
theorem hu_Edit : Try.prog.underlying 117 = some (.struct (Try.prog.fieldsOf 117)) := by kernel_rfl
theorem held_Edit : Try.prog.stoodInHeld 117 = false := by kernel_rfl
theorem guard_Edit : Try.prog.eqGuardType Try.prog.depth 117 = false := by kernel_rfl
theorem edit_eq (a b : ByteArray) (x y : Int) (g h : Bool) (w : World) : (Op.equalIn 10000 117 (.agg #[.string a, .int .i64 x, .bool g]) (.agg #[.string b, .int .i64 y, .bool h])).run Try.prog w = .ok (decide (a = b ∧ x = y ∧ g = h)) w := by
  have hf := Option.some.inj (hu_Edit.symm.trans Try.underlying117)
  injection hf with hf
  rw [run_equalIn_struct w 9999 _ _ _ hu_Edit held_Edit, hf]
  have q0 : ∀ (s : ByteArray) (n : Int) (c : Bool) (w : World), (part 9 #[.string s, .int .i64 n, .bool c] 0).run Try.prog w = .ok (.string s) w := fun s n c w => rfl
  have q1 : ∀ (s : ByteArray) (n : Int) (c : Bool) (w : World), (part 3 #[.string s, .int .i64 n, .bool c] 1).run Try.prog w = .ok (.int .i64 n) w := fun s n c w => rfl
  have q2 : ∀ (s : ByteArray) (n : Int) (c : Bool) (w : World), (part 4 #[.string s, .int .i64 n, .bool c] 2).run Try.prog w = .ok (.bool c) w := fun s n c w => rfl
  have r0 := fun a b w => run_equalIn_string (P := Try.prog) w 9998 9 a b Try.underlying9
  have r1 := fun a b w => run_equalIn_int (P := Try.prog) w 9998 3 .i64 .i64 a b Try.underlying3
  have r2 := fun a b w => run_equalIn_bool' (P := Try.prog) w 9998 4 a b Try.underlying4
  by_cases h1 : a = b
  · subst h1
    by_cases h2 : x = y
    · subst h2
      cases g <;> cases h <;> simp [Op.eqFields, q0, q1, q2, r0, r1, r2, Result.andThen]
    · simp [Op.eqFields, q0, q1, q2, r0, r1, r2, Result.andThen, h2]
  · simp [Op.eqFields, q0, q1, q2, r0, r1, r2, Result.andThen, toList_beq, h1]
theorem edt_ext {a b : Edt} : a = b ↔ a.key = b.key ∧ a.val = b.val ∧ a.gone = b.gone := by
  cases a; cases b; simp
theorem b_edtne {a b : Edt} {x y : Operand} {r : Bool} (h : decide (a ≠ b) = r) : BinOK Try.prog .neq 117 x y (.agg #[.string a.key, .int .i64 a.val, .bool a.gone]) (.agg #[.string b.key, .int .i64 b.val, .bool b.gone]) (.bool r) := fun w => by
  rw [Sem.run_bind, run_eqGuard_agg w _ _ _ _ _ _ guard_Edit, Result.andThen_ok, run_neq_struct, edit_eq, Result.andThen_ok, ← h]
  have : decide (a.key = b.key ∧ a.val = b.val ∧ a.gone = b.gone) = decide (a = b) := by
    rw [decide_eq_decide]; exact edt_ext.symm
  rw [this]
  by_cases e : a = b <;> simp [e]
section
variable {P : Program} {Θ : Tab} {s : St} {d : Option Tmp} {ty : TypeId} {pos : String} {after : Array Edge} {g : Option (Nat × Bool)}
theorem p_binA {op : BinOp} {t t2 : TypeId} {x y : Operand} {a b r : Value} (h : BinOK P op t x y a b r) (hx : conc (s.ev x) = some a) (hy : conc (s.ev y) = some b) (h1 : r.oneCell' = true) : Pre P Θ ⟨d, .binOp op t x y t2, ty, pos, after, g⟩ s ⟨.v r, none⟩ :=
  ⟨a, b, r, hx, hy, h, h1, rfl⟩
end
section
variable {s : St} {Θ : Tab}
theorem ra_o {t l sz : Nat} {e : ET} {xs : List AV} (h : s.sl t = .own l) (ho : s.hp l = some ⟨e, sz, xs⟩) (hok : okL l = true := by rfl) (hsh : e.shut = true := by rfl) : retA s [] (s.sl t) (.lst sz xs) :=
  .inr ⟨by rw [h]; simp [isDataA, ho, hsh], by rw [h]; simp [ownsA, hok], by rw [h]; simp [St.dat, ho, hsh]⟩
theorem ra_x {t : Nat} {y : AV} (h : s.sl t = y) (hy : (match y with | .v _ | .agg _ | .lst _ _ | .any => True | _ => False)) : retA s [] (s.sl t) y := .inl (by cases y <;> first | exact ⟨h, rfl⟩ | exact hy.elim)
theorem r_tup3 {t1 t2 t3 : Nat} {y1 y2 y3 : AV} (h1 : retA s [] (s.sl t1) y1) (h2 : retA s [] (s.sl t2) y2) (h3 : retA s [] (s.sl t3) y3) : RetQ Θ [.tmp t1, .tmp t2, .tmp t3] ⟨.tup [y1, y2, y3], []⟩ .ret s :=
  ⟨trivial, [], by simp, trivial, ⟨trivial, trivial, trivial, trivial⟩, ⟨_, rfl⟩, ⟨h1, h2, h3, trivial⟩⟩
end
end Go.Proofs.Ytjhimcddgkoghaa.AM
namespace Go.Proofs.Ytjhimcddgkoghaa.AM
open Go Go.RowKit
set_option linter.unusedVariables false
set_option linter.unusedSimpArgs false
set_option maxRecDepth 100000

theorem run_beqIn {P : Program} {w : World} {t : TypeId} {a b : Bool} (d : Nat) (h : P.underlying t = some .bool) : (Op.equalIn (d + 1) t (.bool a) (.bool b)).run P w = .ok (a == b) w := by
  simp [Op.equalIn, run_underlying h]
theorem run_beq {P : Program} {w : World} {t : TypeId} {a b : Bool} (h : P.underlying t = some .bool) : (Op.equal t (.bool a) (.bool b)).run P w = .ok (a == b) w := by
  exact run_beqIn 9999 h
theorem b_bne {P : Program} {t : TypeId} {x y : Operand} {a b : Bool} (h : P.underlying t = some .bool) : BinOK P .neq t x y (.bool a) (.bool b) (.bool (a != b)) := fun w => by
  simp [eqGuard, binOp, run_beq h]; cases a <;> cases b <;> rfl
theorem b_beq {P : Program} {t : TypeId} {x y : Operand} {a b : Bool} (h : P.underlying t = some .bool) : BinOK P .eql t x y (.bool a) (.bool b) (.bool (a == b)) := fun w => by
  simp [eqGuard, binOp, run_beq h]
theorem p_lslm {P : Program} {Θ : Tab} {s : St} {d : Option Tmp} {ty : TypeId} {pos : String} {after : Array Edge} {g : Option (Nat × Bool)} {α : Type} {f : α → AV} {t : TypeId} {x y : Operand} {el sz b h : Nat} {k : IntKind} {z : AV} {xs : List α} (hh : h ≤ xs.length) (ht : Θ.look t = .slice el sz b z) (hx : s.ev x = .lst sz (xs.map f)) (hy : s.ev y = .v (.int k (h : Int))) : Pre P Θ ⟨d, .slice t x none (some y) none, ty, pos, after, g⟩ s ⟨.lst sz ((xs.take h).map f), none⟩ := by
  have := p_lslice (P := P) (Θ := Θ) (s := s) (d := d) (ty := ty) (pos := pos) (after := after) (g := g) (t := t) (x := x) (lo := none) (hi := some y) (l := 0) (h := h) (xs := xs.map f) (Nat.zero_le _) (by simpa using hh) ht hx rfl ⟨k, hy⟩
  rw [List.drop_zero, ← List.map_take] at this
  exact this
attribute [local irreducible] ACode AOps AOps2 RetG RetM Pre ACG

theorem ac_in_t {x lo hi : Int} (h : lo ≤ x) (h' : x ≤ hi) : AC Try.prog 155 [.v (.int .i64 x), .v (.int .i64 lo), .v (.int .i64 hi)] ⟨.v (.bool true), []⟩ := by
  refine r_of Th_ok (by kernel_rfl) Try.func155 rfl Try.ntmps155 Try.results155 (by kernel_rfl) rfl ?_; conv => whnf
  repeat (((first | refine qb rfl rfl ?_ | refine qi (by assumption) rfl rfl ?_ | refine ql rfl ?_ | refine qo rfl rfl ?_ | refine qs rfl rfl ?_ | refine qn rfl rfl ?_); conv => whnf))
  exact r_ret1 rfl trivial
theorem ac_in_f {x lo hi : Int} (h : ¬ (lo ≤ x ∧ x ≤ hi)) : AC Try.prog 155 [.v (.int .i64 x), .v (.int .i64 lo), .v (.int .i64 hi)] ⟨.v (.bool false), []⟩ := by
  by_cases h1 : lo ≤ x
  · refine r_of Th_ok (by kernel_rfl) Try.func155 rfl Try.ntmps155 Try.results155 (by kernel_rfl) rfl ?_; conv => whnf
    repeat (((first | refine qb rfl rfl ?_ | refine qi (by assumption) rfl rfl ?_ | refine ql rfl ?_ | refine qo rfl rfl ?_ | refine qs rfl rfl ?_ | refine qn rfl rfl ?_); conv => whnf))
    exact r_ret1 rfl trivial
  · refine r_of Th_ok (by kernel_rfl) Try.func155 rfl Try.ntmps155 Try.results155 (by kernel_rfl) rfl ?_; conv => whnf
    repeat (((first | refine qb rfl rfl ?_ | refine qi (by assumption) rfl rfl ?_ | refine ql rfl ?_ | refine qo rfl rfl ?_ | refine qs rfl rfl ?_ | refine qn rfl rfl ?_); conv => whnf))
    exact r_ret1 rfl trivial

end Go.Proofs.Ytjhimcddgkoghaa.AM
namespace Go.Proofs.Ytjhimcddgkoghaa.AM
open Go Go.RowKit
set_option linter.unusedVariables false
set_option linter.unusedSimpArgs false
set_option maxRecDepth 100000

structure Rf where
  name : ByteArray
  head : Int
  ver : Int
  gone : Bool
def refA (r : Rf) : AV := .agg [.v (.string r.name), .v (.int .i64 r.head), .v (.int .i64 r.ver), .v (.bool r.gone)]
theorem all_ref (es : List Rf) : ∀ x ∈ es.map refA, asz x = 4 := fun x hx => by obtain ⟨e, _, rfl⟩ := List.mem_map.1 hx; rfl
theorem flat_ref (e : Rf) : flatA (refA e) := by unfold refA; simp [flatA, flatL]
theorem ref_ext {a b : Rf} : a = b ↔ a.name = b.name ∧ a.head = b.head ∧ a.ver = b.ver ∧ a.gone = b.gone := by
  cases a; cases b; simp
theorem b_rem {P : Program} {t : TypeId} {x y : Operand} {a b c : Int} (h0 : 0 ≤ a) (hb : 0 < b) (h1 : b ≤ 1000) (h2 : a ≤ 1000000000) (hc : c = a % b) : BinOK P .rem t x y (.int .i64 a) (.int .i64 b) (.int .i64 c) := fun w => by
  have hb0 : b ≠ 0 := by omega
  have hr : (Op.intDiv .rem .i64 a b).run P w = .ok (.int .i64 (a.tmod b)) w := by simp [Op.intDiv, hb0]
  subst hc
  rw [← Int.tmod_eq_emod_of_nonneg h0]
  simp [eqGuard, binOp, hr]
theorem set_at {α : Type} {xs : List α} {k : Nat} {y : α} (h : k < xs.length) : (xs.set k y)[k]? = some y := by simp [h]
attribute [local irreducible] ACode AOps AOps2 RetG RetM Pre ACG

theorem ac_szRef {e : Rf} {l : Int} (hk : e.name.size ≤ maxLen) (h0 : 0 ≤ l) (h1 : l ≤ 1048576) : AC Try.prog 40 [refA e, .v (.int .i64 l)] ⟨.v (.int .i64 (if l - e.name.size < 0 then -1 else l - e.name.size)), []⟩ := by
  unfold maxLen at hk
  by_cases hn : l - e.name.size < 0
  · rw [if_pos hn]
    refine r_of Th_ok (by kernel_rfl) Try.func40 rfl Try.ntmps40 Try.results40 (by kernel_rfl) rfl ?_; conv => whnf
    repeat (((first | refine qb rfl rfl ?_ | refine qi (by assumption) rfl rfl ?_ | refine ql rfl ?_ | refine qo rfl rfl ?_ | refine qs rfl rfl ?_ | refine qn rfl rfl ?_); conv => whnf))
    exact r_ret1 rfl trivial
  · rw [if_neg hn]
    refine r_of Th_ok (by kernel_rfl) Try.func40 rfl Try.ntmps40 Try.results40 (by kernel_rfl) rfl ?_; conv => whnf
    repeat (((first | refine qb rfl rfl ?_ | refine qi (by assumption) rfl rfl ?_ | refine ql rfl ?_ | refine qo rfl rfl ?_ | refine qs rfl rfl ?_ | refine qn rfl rfl ?_); conv => whnf))
    exact r_ret1 rfl trivial
theorem ac_toRef {c : Rf} : AC Try.prog 43 [refA c] ⟨refA c, []⟩ := by
  refine r_of Th_ok (by kernel_rfl) Try.func43 rfl Try.ntmps43 Try.results43 (by kernel_rfl) rfl ?_; conv => whnf
  repeat (first | ((first | refine qb rfl rfl ?_ | refine qi (by assumption) rfl rfl ?_ | refine ql rfl ?_ | refine qo rfl rfl ?_ | refine qs rfl rfl ?_ | refine qn rfl rfl ?_); conv => whnf) | (refine r_step (p_ostore rfl rfl rfl rfl rfl rfl rfl) rfl rfl (fun e => by first | exact .inl rfl | contradiction | exact .inr (.inl (by kernel_rfl))) ?_; conv => whnf) | (refine r_step (p_ostore rfl rfl rfl rfl rfl (by conv => lhs; whnf) rfl) rfl rfl (fun e => by first | exact .inl rfl | contradiction | exact .inr (.inl (by kernel_rfl))) ?_; conv => whnf))
  exact r_cell1 (x := refA c) rfl rfl rfl rfl trivial
end Go.Proofs.Ytjhimcddgkoghaa.AM
namespace Go.Proofs.Ytjhimcddgkoghaa
open Go.RowKit Go.ChangeShapes Go.WideShapes Go.Deep

section
variable {H : Type} {enc : TypeId × Value → H} {P : Program} {w : World} {base : Nat} {held : Bool}
end
end Go.Proofs.Ytjhimcddgkoghaa
namespace Go.Proofs.Ytjhimcddgkoghaa.AM
open Go Go.RowKit
set_option linter.unusedVariables false
set_option linter.unusedSimpArgs false
set_option maxRecDepth 100000

attribute [local irreducible] ACode AOps AOps2 RetG RetM Pre ACG
end Go.Proofs.Ytjhimcddgkoghaa.AM
/- The law of StoreOK, over data. -/
namespace Go.Proofs.Ytjhimcddgkoghaa.AM
open Go Go.RowKit
set_option linter.unusedVariables false
set_option linter.unusedSimpArgs false
set_option maxRecDepth 100000
attribute [local irreducible] ACode AOps AOps2 RetG RetM Pre ACG
def comOK (N : Nat) (cs : List Cmt) : Prop := ∀ c ∈ cs, c.1.length ≤ N ∧ c.2.length ≤ N ∧ ∀ e ∈ c.2, e.1.size ≤ N
theorem comOK.le {N M : Nat} {cs : List Cmt} (h : comOK N cs) (k : N ≤ M) : comOK M cs := fun c hc => ⟨Nat.le_trans (h c hc).1 k, Nat.le_trans (h c hc).2.1 k, fun e he => Nat.le_trans ((h c hc).2.2 e he) k⟩
end Go.Proofs.Ytjhimcddgkoghaa.AM
/- A law's arguments opened: commits. -/
namespace Go.Proofs.Ytjhimcddgkoghaa.AM
open Go Go.RowKit Go.ChangeShapes Go.WideShapes Go.Deep
set_option linter.unusedVariables false
set_option linter.unusedSimpArgs false

section
variable {S : Nat → Prop} {w : World}
theorem rl_intA : ∀ (l : List Int), RL S w (l.map intA) (l.map fun x => .int .i64 x)
  | [] => by simp only [List.map_nil]; exact rl_nil
  | x :: l => by simp only [List.map_cons]; exact rl_cons (c1 := [_]) (ra_v rfl) (rl_intA l)
end
section
variable {H : Type} {enc : TypeId × Value → H} {P : Program} {w : World} {base : Nat} {held : Bool}
theorem one_slice {t e : TypeId} {v : Value} {k : Nat} {y : DataW H × List MemPlace} (ht : P.underlying t = some (.slice e)) (h : DataW.trod enc P w base (fun _ => true) held k t [v] = some y) : ∃ A n c, v = .slice A n c := by
  rcases open_slice ht h with ⟨hcs, _⟩ | ⟨a, len, cap, m, n, D, Pl, hcs, _⟩
  · simp at hcs; exact ⟨_, _, _, hcs⟩
  · simp at hcs; exact ⟨_, _, _, hcs⟩
theorem open_ints {t e : TypeId} {v : Value} {k : Nat} {y : DataW H × List MemPlace} (ht : P.underlying t = some (.slice e)) (he : P.underlying e = some (.int .i64)) (hC : P.cellsOf e = 1) (h : DataW.trod enc P w base (fun _ => true) held k t [v] = some y) :
    ∃ l : List Int, RA (InW w) w (.lst 1 (l.map intA)) [v] ∧ l.length ≤ maxLen := by
  rcases open_slice ht h with ⟨hcs, _⟩ | ⟨a, len, cap, m, n, D, Pl, hcs, hb, hl, hm, hmm, hx, hi⟩
  · exact ⟨[], by rw [hcs]; exact ra_nil (by omega), Nat.zero_le _⟩
  · rw [hcs]
    simp at hmm
    subst hmm
    rcases Nat.eq_zero_or_pos len with h0 | hpos
    · subst h0
      refine ⟨[], ?_, Nat.zero_le _⟩
      simp only [List.map_nil]
      unfold RA
      exact ⟨_, _, rfl, Nat.zero_le _, hm, by simp, by omega, .inl rfl⟩
    have hall : ∀ i, i < len → ∃ x : Int, w.cell? (a.add i) = some (.int .i64 x) := fun i hil => by
      obtain ⟨cs', hc, ht'⟩ := hi i (by omega)
      rw [hC, Nat.mul_one] at hc
      obtain ⟨_, hcl, hat⟩ := World.cells?_some hc
      obtain ⟨x, hx, _⟩ := DataW.trod_int he ht'
      subst hx
      have := hat 0 (by omega)
      rw [add_zero_] at this
      exact ⟨x, this⟩
    obtain ⟨x0, hx0⟩ := hall 0 hpos
    rw [add_zero_] at hx0
    have hsp := spot_of_cell hx0
    obtain ⟨b, off, sp⟩ := a
    simp at hsp
    subst hsp
    have hadd : ∀ j, (⟨b, off, none⟩ : Addr).add j = ⟨b, off + j, none⟩ := fun j => by unfold Addr.add; split <;> simp_all
    obtain ⟨l, hll, hq⟩ := list_of (α := Int) len (fun i x => w.cell? ⟨b, off + i, none⟩ = some (.int .i64 x)) (fun i hil => by
      obtain ⟨x, hx⟩ := hall i hil
      rw [hadd] at hx; exact ⟨x, hx⟩)
    refine ⟨l, ?_, by omega⟩
    unfold RA
    refine ⟨_, _, by rw [List.length_map, hll], by rw [List.length_map]; omega, hm, all_int l, by omega, .inr ⟨b, off, _, rfl, World.block_lt_of_cell? w _ hx0, rl_intA l, fun j u hu => ?_⟩⟩
    rw [List.getElem?_map] at hu
    obtain ⟨x, hx, rfl⟩ := Option.map_eq_some_iff.1 hu
    obtain ⟨hj, hx⟩ := List.getElem?_eq_some_iff.1 hx
    rw [← hx]; exact hq j hj
end
end Go.Proofs.Ytjhimcddgkoghaa.AM
namespace Go.Proofs.Ytjhimcddgkoghaa
open Go.RowKit

theorem held_Entry : Try.prog.stoodInHeld 167 = false := by kernel_rfl
theorem guard_Entry : Try.prog.eqGuardType Try.prog.depth 167 = false := by kernel_rfl

set_option maxHeartbeats 1000000 in
set_option maxRecDepth 100000 in
theorem slicesEqual_any (A : Option Addr) (n c : Nat) (es : List Ent) (A' : Option Addr) (n' c' : Nat) (es' : List Ent) (w : World) (hr : Rd w 2 A n (entsC es)) (hr' : Rd w 2 A' n' (entsC es')) (hm : n ≤ maxLen) (hm' : n' ≤ maxLen) :
    Calls Try.prog 128 #[.slice A n c, .slice A' n' c'] w fun e w' => e = .returned (.bool (decide (es = es'))) ∧ Below w.heap.size w w' := by
  unfold maxLen at hm hm'
  have hlen := hr.len
  have hlen' := hr'.len
  have Hlen := Lib.hid hlen; clear hlen
  have Hlen' := Lib.hid hlen'; clear hlen'
  by_cases hne : n = n'
  case neg =>
    have hfin : Hid (decide (es = es') = false) := decide_eq_false (fun h => hne (by rw [← Hlen.out, ← Hlen'.out, h]))
    have hb : ((n : Int) != n') = true := by rw [bne_iff_ne]; omega
    go_enter Try.func128, Try.ntmps128
    go_wp2
    go_ret
    exact ⟨ret_bool hfin.out.symm, Below.refl _ _⟩
  subst hne
  go_enter Try.func128, Try.ntmps128
  go_wp2
  go_loopw [5, 13] (fun _ i wr => ∃ k : Nat, k ≤ n ∧ i = .int .i64 k ∧ es.take k = es'.take k ∧ Below w.heap.size w wr) (fun _ i _ => n - (intOf i).toNat)
  case atStart => exact ⟨0, Nat.zero_le _, rfl, rfl, Below.refl _ _⟩
  case round =>
    obtain ⟨k, hk, rfl, heq, hb⟩ := hrel
    have Heq := Lib.hid heq; clear heq
    by_cases hlt : k < n
    · have hke : k < es.length := by rw [Hlen.out]; exact hlt
      have hke' : k < es'.length := by rw [Hlen'.out]; exact hlt
      obtain ⟨b, off, rfl, hbl, hbl2, hc1, hc2⟩ := hr.ent hb hke
      obtain ⟨b', off', rfl, hbl', hbl2', hc1', hc2'⟩ := hr'.ent hb hke'
      have hA0 := fun y : Aft wr => y.cell hbl2 hc1
      have hA1 := fun y : Aft wr => y.cell hbl2 hc2
      have hA2 := fun y : Aft wr => y.cell hbl2' hc1'
      have hA3 := fun y : Aft wr => y.cell hbl2' hc2'
      have hyes : Hid (es[k] = es'[k] → es.take (k + 1) = es'.take (k + 1)) := by
        intro h'
        rw [List.take_succ_eq_append_getElem hke, List.take_succ_eq_append_getElem hke', Heq.out, h']
      have hno : Hid (es[k] ≠ es'[k] → decide (es = es') = false) := by
        intro h
        refine decide_eq_false (fun e => ?_)
        subst e
        exact h rfl
      generalize es[k] = ek at *
      generalize es'[k] = ek' at *
      obtain ⟨k1, v1⟩ := ek
      obtain ⟨k2, v2⟩ := ek'
      have hsh := held_Entry
      have hsg := guard_Entry
      by_cases hkk : k1 = k2
      · subst hkk
        by_cases hvv : v1 = v2
        · subst hvv
          have hyes' := Lib.hid (hyes.out rfl)
          clear hyes hno
          go_wp2
          refine wp_region_after (by kernel_rfl) (by kernel_rfl) ?_
          repeat (go_big_quiet_step (fail))
          refine wpQuiet_nil ?_
          rintro _ ⟨y, rfl⟩
          have hb3 := keepS hb y.below
          generalize y.at_ = w3 at *
          go_wp2
          go_roundw
          case rel => exact ⟨k + 1, by omega, by go_num, hyes'.out, hb3⟩
          case measure => simp [intOf]; omega
        · have hno' := Lib.hid (hno.out (fun h => hvv (by cases h; rfl)))
          clear hyes hno
          go_wp2
          refine wp_region_after (by kernel_rfl) (by kernel_rfl) ?_
          repeat (go_big_quiet_step (fail))
          refine wpQuiet_nil ?_
          rintro _ ⟨y, rfl⟩
          have hb3 := keepS hb y.below
          generalize y.at_ = w3 at *
          go_wp2
          go_ret
          exact ⟨ret_bool hno'.out.symm, hb3⟩
      · have hno' := Lib.hid (hno.out (fun h => hkk (by cases h; rfl)))
        have hkl : ¬ k1.toList = k2.toList := fun h => hkk (toList_inj h)
        clear hyes hno
        go_wp2
        refine wp_region_after (by kernel_rfl) (by kernel_rfl) ?_
        repeat (go_big_quiet_step (fail))
        refine wpQuiet_nil ?_
        rintro _ ⟨y, rfl⟩
        have hb3 := keepS hb y.below
        generalize y.at_ = w3 at *
        go_wp2
        go_ret
        exact ⟨ret_bool hno'.out.symm, hb3⟩
    · have hfin : Hid (decide (es = es') = true) := by
        have h := Heq.out
        rw [List.take_of_length_le (by rw [Hlen.out]; omega), List.take_of_length_le (by rw [Hlen'.out]; omega)] at h
        exact decide_eq_true h
      go_wp2
      go_ret
      exact ⟨ret_bool hfin.out.symm, hb⟩

end Go.Proofs.Ytjhimcddgkoghaa
/- Two stores compared, on both sides; the law of SameStore over data. -/
namespace Go.Proofs.Ytjhimcddgkoghaa.AM
open Go Go.RowKit
set_option linter.unusedVariables false
set_option linter.unusedSimpArgs false
set_option maxRecDepth 100000
attribute [local irreducible] ACode AOps AOps2 RetG RetM Pre ACG
theorem ent_128 : ∀ vs w, (callFunc 128 vs).run Try.prog w = .ok (.enter 128 vs) w := ent_of Try.func128 (by kernel_rfl) (by kernel_rfl)
theorem ac_eqlEnts {es es' : List Ent} (hm : es.length ≤ maxLen) (hm' : es'.length ≤ maxLen) : AC Try.prog 128 [.lst 2 (es.map entA), .lst 2 (es'.map entA)] ⟨.v (.bool (decide (es = es'))), []⟩ :=
  ac_val ent_128 rfl fun w S0 vs hS hv => by
    obtain ⟨u, us, rfl, h1, hv⟩ := rvsc hv
    obtain ⟨u', rfl, h2⟩ := rvs1 hv
    obtain ⟨A, c, rfl, _, _, hr⟩ := arg_ents hS h1
    obtain ⟨A', c', rfl, _, _, hr'⟩ := arg_ents hS h2
    exact slicesEqual_any A _ c es A' _ c' es' w hr hr' hm hm'
def Agree {α : Type} (a b : List α) (k : Nat) : Prop := ∀ i, i < k → ∃ (h1 : i < a.length) (h2 : i < b.length), a[i] = b[i]
theorem Agree.snoc {α : Type} {a b : List α} {k : Nat} (h : Agree a b k) (h1 : k < a.length) (h2 : k < b.length) (he : a[k] = b[k]) : Agree a b (k + 1) := fun i hi => by
  rcases Nat.lt_or_ge i k with h' | h'
  · exact h i h'
  · have : i = k := by omega
    subst this; exact ⟨h1, h2, he⟩
end Go.Proofs.Ytjhimcddgkoghaa.AM
/- The law of SameStore over data. -/
namespace Go.Proofs.Ytjhimcddgkoghaa.AM
open Go Go.RowKit
set_option linter.unusedVariables false
set_option linter.unusedSimpArgs false
set_option maxRecDepth 100000
attribute [local irreducible] ACode AOps AOps2 RetG RetM Pre ACG
end Go.Proofs.Ytjhimcddgkoghaa.AM
namespace Go.Proofs.Ytjhimcddgkoghaa.AM
open Go Go.RowKit
set_option linter.unusedVariables false
set_option linter.unusedSimpArgs false
set_option maxRecDepth 100000
/-- what is read by operations that are not ordered against the one at k names none of ls -/
def condB (ops : Array Oper) (k : Nat) (s : St) (ls : List Nat) : Bool :=
  (List.range ops.size).all fun j => Nat.beq j k || (ordr ops j k || (match ops[j]? with
    | some o => (tmpsOf o).all fun t => ((List.range ops.size).any fun j' => match (ops[j']?).bind (·.dst) with
        | some t' => Nat.beq t' t && (!(Nat.blt j' k) && !(lastOp ops j'))
        | none => false) || ls.all fun l => !((s.sl t).names l)
    | none => true))
theorem condB_ok {ops : Array Oper} {k : Nat} {s : St} {ls : List Nat} (h : condB ops k s ls = true) : ∀ j o, ops[j]? = some o → j ≠ k → ordr ops j k = false → ∀ t, t ∈ tmpsOf o → (∀ j' o', ops[j']? = some o' → o'.dst = some t → Nat.blt j' k = true ∨ lastOp ops j' = true) → ∀ l ∈ ls, (s.sl t).names l = false := by
  intro j o hj hne hor t ht hL l hl
  have h1 := List.all_eq_true.1 h j (List.mem_range.2 (Array.getElem?_eq_some_iff.1 hj).1)
  simp only [nbne hne, hor, Bool.false_or, hj] at h1
  have h2 := List.all_eq_true.1 h1 t ht
  rw [Bool.or_eq_true] at h2
  rcases h2 with h2 | h2
  · obtain ⟨j', hj', h3⟩ := List.any_eq_true.1 h2
    cases ho' : ops[j']? with
    | none => rw [ho'] at h3; cases h3
    | some o' =>
      rw [ho'] at h3
      cases hd : o'.dst with
      | none => simp only [Option.bind_some, hd] at h3; cases h3
      | some t' =>
        simp only [Option.bind_some, hd, Bool.and_eq_true, Bool.not_eq_true'] at h3
        have : t' = t := Nat.eq_of_beq_eq_true h3.1
        subst this
        rcases hL j' o' ho' hd with h4 | h4 <;> rw [h4] at h3 <;> simp at h3
  · have := List.all_eq_true.1 h2 l hl
    simpa using this
section
variable {Θ : Tab} {ops : Array Oper} {k : Nat} {s : St}
end
section
variable {P : Program} {Θ : Tab} {s : St} {ty : TypeId} {pos : String} {after : Array Edge} {g : Option (Nat × Bool)}
theorem p_bsl1 {d : Nat} {t : TypeId} {x : Operand} {el sz b : Nat} {z y : AV} (hf : s.hp (d + 1) = none) (ht : Θ.look t = .slice el sz b z) (hx : s.ev x = y) (hk : (match y with | .v c => c.oneCell' | .agg _ => true | .lst _ _ => true | .ptr _ => true | _ => false) = true) (hz : Nat.beq (asz y) (asz z) = true) (hsz : Nat.ble sz 65536 = true) (hok : okL (d + 1) = true := by rfl) :
    Pre P Θ ⟨some d, .buildSlice t 1 #[(0, x)], ty, pos, after, g⟩ s ⟨.own (d + 1), some fun s' => s'.set (d + 1) (some ⟨.s el, sz, [y]⟩)⟩ := by
  have hd : s.dat (s.ev x) = y := by rw [hx]; cases y <;> first | rfl | cases hk
  have ho : ownsA (s.ev x) = [] := by rw [hx]; cases y <;> first | rfl | cases hk
  have hda : isDataA s (s.ev x) = true := by rw [hx]; cases y <;> first | exact hk | rfl | cases hk
  refine ⟨d, el, sz, b, z, rfl, hf, hok, ht, by rw [Nat.one_mul]; exact Nat.le_of_ble_eq_true hsz, .inl ⟨⟨⟨z, rfl, by rw [hd]; exact Nat.eq_of_beq_eq_true hz⟩, hda, trivial⟩, fun y' hy c e => ?_, ?_, ?_⟩⟩
  · simp at hy
    subst hy; subst e
    simp only [St.ev] at hx; subst hx; exact hk
  · simp [ownsOf, ownsAL, ho]
  · have h1 : ownsOf s (([(0, x)] : List (Nat × Operand)).map (·.2)) = [] := by simp [ownsOf, ownsAL, ho]
    show _ = Eff.mk _ (frzT (ownsOf s (([(0, x)] : List (Nat × Operand)).map (·.2))) _)
    rw [h1]
    show _ = Eff.mk _ (some _)
    congr 2
    funext s'
    show s'.set (d + 1) (some ⟨.s el, sz, [y]⟩) = s'.set (d + 1) (some ⟨.s el, sz, [s.dat (s.ev x)]⟩)
    rw [hd]
end
end Go.Proofs.Ytjhimcddgkoghaa.AM
