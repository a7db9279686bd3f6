/- Texts of the machine over data, folded. -/
import Derived.Test.YtjhimcddgkoghaaKb7
import Derived.Test.YtjhimcddgkoghaaKb5
import Derived.Test.YtjhimcddgkoghaaKb6
import Derived.ProofKit
import Derived.OpenShut
import Derived.ShutString
import Derived.Laws.StructEq
namespace Go.Proofs.Ytjhimcddgkoghaa
open Go.RowKit

set_option maxHeartbeats 4000000 in
set_option maxRecDepth 100000 in
theorem differences_any (A : Option Addr) (n c : Nat) (es : List Ent) (A' : Option Addr) (n' c' : Nat) (es' : List Ent) (w : World) (hr : Rd w 2 A n (entsC es)) (hr' : Rd w 2 A' n' (entsC es')) (hm : n ≤ 4096) (hm' : n' ≤ 4096) :
    Calls Try.prog 168 #[.slice A n c, .slice A' n' c'] w (EdtPost 117 (diffM es es') w) := by
  have hlen := hr.len
  have hlen' := hr'.len
  have Hlen := Lib.hid hlen; clear hlen
  have Hlen' := Lib.hid hlen'; clear hlen'
  obtain ⟨i0, hi, hz0, hz1, hz2⟩ := info_parts info_Edit
  have Hi := Lib.hid hi; clear hi
  have Hz0 := Lib.hid hz0; clear hz0
  have Hz1 := Lib.hid hz1; clear hz1
  have Hz2 := Lib.hid hz2; clear hz2
  go_enter Try.func168, Try.ntmps168
  go_wp2
  have hst : Hid (w.ownsRow w.heap.size 117 3 (.slice none 0 0) 0 []) := World.ownsRow_nil _ _ _ _
  have hbst : Hid (Below w.heap.size w w) := Below.refl _ _
  go_loopw [5, 6, 7] (fun out i j wr => ∃ (p q f : Nat) (acc : List Edt), p ≤ n ∧ q ≤ n' ∧ i = .int .i64 p ∧ j = .int .i64 q ∧ (n - p) + (n' - q) ≤ f ∧ acc.length ≤ p + q ∧ acc ++ diffL f (es.drop p) (es'.drop q) = diffM es es' ∧ wr.ownsRow w.heap.size 117 3 out acc.length (edtsC acc) ∧ Below w.heap.size w wr) (fun _ i j _ => (n - (intOf i).toNat) + (n' - (intOf j).toNat))
  case atStart => exact ⟨0, 0, es.length + es'.length, [], Nat.zero_le _, Nat.zero_le _, rfl, rfl, by rw [Hlen.out, Hlen'.out]; omega, Nat.le_refl _, by simp [diffM], hst.out, hbst.out⟩
  case round =>
    obtain ⟨p, q, f, acc, hp, hq, rfl, rfl, hf, hal, hacc, hown, hb⟩ := hrel
    have Hacc := Lib.hid hacc; clear hacc
    have Hown := Lib.hid hown; clear hown
    have hbs := hb.size
    by_cases hlt : p < n
    · have hpe : p < es.length := by rw [Hlen.out]; exact hlt
      obtain ⟨b1, o1, rfl, hl1, hl1x, hc1, hc2⟩ := hr.ent hb hpe
      have hWc1 := cellW hb hl1 hc1
      have hWc2 := cellW hb hl1 hc2
      obtain ⟨f', hf'⟩ : ∃ f', f = f' + 1 := ⟨f - 1, by omega⟩
      subst hf'
      by_cases hlq : q < n'
      case neg =>
        have hqn : q = n' := by omega
        have hte : ((q : Int) == (n' : Int)) = true := beq_iff_eq.2 (by omega)
        have hnew := Lib.hid (show (acc ++ [⟨es[p].1, 0, true⟩]) ++ diffL f' (es.drop (p + 1)) (es'.drop q) = diffM es es' by rw [← Hacc.out, diffL_gone hpe (.inl (by rw [Hlen'.out]; omega))]; simp)
        clear hqn Hacc
        generalize es[p] = ek at *
        obtain ⟨k1, v1⟩ := ek
        go_wp2
        have hA_c1 := fun y : Aft wr => y.cell hl1x hc1
        have hA_c2 := fun y : Aft wr => y.cell hl1x hc2
        refine wp_region_after (by kernel_rfl) (by kernel_rfl) ?_
        repeat (go_big_quiet_step (fail))
        refine wpQuiet_nil ?_
        rintro _ ⟨y, rfl⟩
        clear hA_c1 hA_c2
        replace hb := keepS hb y.below
        replace Hown := Lib.hid (ownsRow_below Hown.out y.below (Nat.le_refl _))
        replace hbs := hb.size
        replace hc1 := cellS hb hl1 hWc1
        replace hc2 := cellS hb hl1 hWc2
        replace hl1x := Nat.lt_of_lt_of_le hl1 hbs
        generalize y.at_ = w3 at *
        go_wp2_with (at_builtin; refine wpList_append_new w3 rfl _ _ 27 rfl w.heap.size 117 i0 _ 3 32 Try.underlying27 Hi.out Hz0.out Hz1.out Hz2.out rfl (by decide) u5 acc.length (edtsC acc) rfl Hown.out #[.string k1, .int .i64 0, .bool true] 1 1 rfl rfl (edt_cells _ _ _) (by omega) (by decide) hbs ?_; intro v' w9 hown' hgrow; have Hown' := Lib.hid hown'; clear hown')
        go_roundw
        case rel => exact ⟨p + 1, q, f', acc ++ [⟨k1, 0, true⟩], by omega, hq, by go_num, rfl, by omega, by rw [List.length_append, List.length_singleton]; omega, hnew.out, by rw [List.length_append, edtsC_snoc]; exact Hown'.out, below_grown hb hgrow Hown.out hbs (Nat.le_refl _)⟩
        case measure => simp [intOf]; omega
      have hqe : q < es'.length := by rw [Hlen'.out]; exact hlq
      obtain ⟨b2, o2, rfl, hl2, hl2x, hc3, hc4⟩ := hr'.ent hb hqe
      have hWc3 := cellW hb hl2 hc3
      have hWc4 := cellW hb hl2 hc4
      have hte : ((q : Int) == (n' : Int)) = false := beq_eq_false_iff_ne.2 (by omega)
      have htp : ((p : Int) == (n : Int)) = false := beq_eq_false_iff_ne.2 (by omega)
      have hpi : (p : Int) < (n : Int) := by omega
      cases hk1 : klt es[p].1 es'[q].1 with
      | true =>
        have ht1 : Op.bytesLess es[p].1.toList es'[q].1.toList = true := hk1
        have hnew := Lib.hid (show (acc ++ [⟨es[p].1, 0, true⟩]) ++ diffL f' (es.drop (p + 1)) (es'.drop q) = diffM es es' by rw [← Hacc.out, diffL_gone hpe (.inr ⟨hqe, hk1⟩)]; simp)
        clear Hacc hk1
        generalize es[p] = ek at *
        generalize es'[q] = ek2 at *
        obtain ⟨k1, v1⟩ := ek
        obtain ⟨k2, v2⟩ := ek2
        go_wp2
        have hA_c1 := fun y : Aft wr => y.cell hl1x hc1
        have hA_c2 := fun y : Aft wr => y.cell hl1x hc2
        have hA_c3 := fun y : Aft wr => y.cell hl2x hc3
        have hA_c4 := fun y : Aft wr => y.cell hl2x hc4
        refine wp_region_after (by kernel_rfl) (by kernel_rfl) ?_
        repeat (go_big_quiet_step (fail))
        refine wpQuiet_nil ?_
        rintro _ ⟨y, rfl⟩
        clear hA_c1 hA_c2 hA_c3 hA_c4
        replace hb := keepS hb y.below
        replace Hown := Lib.hid (ownsRow_below Hown.out y.below (Nat.le_refl _))
        replace hbs := hb.size
        replace hc1 := cellS hb hl1 hWc1
        replace hc2 := cellS hb hl1 hWc2
        replace hc3 := cellS hb hl2 hWc3
        replace hc4 := cellS hb hl2 hWc4
        replace hl1x := Nat.lt_of_lt_of_le hl1 hbs
        replace hl2x := Nat.lt_of_lt_of_le hl2 hbs
        generalize y.at_ = w3 at *
        go_wp2_with (at_builtin; refine wpList_append_new w3 rfl _ _ 27 rfl w.heap.size 117 i0 _ 3 32 Try.underlying27 Hi.out Hz0.out Hz1.out Hz2.out rfl (by decide) u5 acc.length (edtsC acc) rfl Hown.out #[.string k1, .int .i64 0, .bool true] 1 1 rfl rfl (edt_cells _ _ _) (by omega) (by decide) hbs ?_; intro v' w9 hown' hgrow; have Hown' := Lib.hid hown'; clear hown')
        go_roundw
        case rel => exact ⟨p + 1, q, f', acc ++ [⟨k1, 0, true⟩], by omega, hq, by go_num, rfl, by omega, by rw [List.length_append, List.length_singleton]; omega, hnew.out, by rw [List.length_append, edtsC_snoc]; exact Hown'.out, below_grown hb hgrow Hown.out hbs (Nat.le_refl _)⟩
        case measure => simp [intOf]; omega
      | false =>
        cases hk2 : klt es'[q].1 es[p].1 with
        | true =>
        have ht1 : Op.bytesLess es[p].1.toList es'[q].1.toList = false := hk1
        have ht2 : Op.bytesLess es'[q].1.toList es[p].1.toList = true := hk2
        have hnew := Lib.hid (show (acc ++ [⟨es'[q].1, es'[q].2, false⟩]) ++ diffL f' (es.drop p) (es'.drop (q + 1)) = diffM es es' by rw [← Hacc.out, diffL_set hqe (.inr ⟨hpe, hk2⟩)]; simp)
        clear Hacc hk1 hk2
        generalize es[p] = ek at *
        generalize es'[q] = ek2 at *
        obtain ⟨k1, v1⟩ := ek
        obtain ⟨k2, v2⟩ := ek2
        go_wp2
        have hA_c1 := fun y : Aft wr => y.cell hl1x hc1
        have hA_c2 := fun y : Aft wr => y.cell hl1x hc2
        have hA_c3 := fun y : Aft wr => y.cell hl2x hc3
        have hA_c4 := fun y : Aft wr => y.cell hl2x hc4
        refine wp_region_after (by kernel_rfl) (by kernel_rfl) ?_
        repeat (go_big_quiet_step (fail))
        refine wpQuiet_nil ?_
        rintro _ ⟨y, rfl⟩
        clear hA_c1 hA_c2 hA_c3 hA_c4
        replace hb := keepS hb y.below
        replace Hown := Lib.hid (ownsRow_below Hown.out y.below (Nat.le_refl _))
        replace hbs := hb.size
        replace hc1 := cellS hb hl1 hWc1
        replace hc2 := cellS hb hl1 hWc2
        replace hc3 := cellS hb hl2 hWc3
        replace hc4 := cellS hb hl2 hWc4
        replace hl1x := Nat.lt_of_lt_of_le hl1 hbs
        replace hl2x := Nat.lt_of_lt_of_le hl2 hbs
        generalize y.at_ = w3 at *
        go_wp2
        have hA_c1 := fun y : Aft w3 => y.cell hl1x hc1
        have hA_c2 := fun y : Aft w3 => y.cell hl1x hc2
        have hA_c3 := fun y : Aft w3 => y.cell hl2x hc3
        have hA_c4 := fun y : Aft w3 => y.cell hl2x hc4
        refine wp_region_after (by kernel_rfl) (by kernel_rfl) ?_
        repeat (go_big_quiet_step (fail))
        refine wpQuiet_nil ?_
        rintro _ ⟨y, rfl⟩
        clear hA_c1 hA_c2 hA_c3 hA_c4
        replace hb := keepS hb y.below
        replace Hown := Lib.hid (ownsRow_below Hown.out y.below (Nat.le_refl _))
        replace hbs := hb.size
        replace hc1 := cellS hb hl1 hWc1
        replace hc2 := cellS hb hl1 hWc2
        replace hc3 := cellS hb hl2 hWc3
        replace hc4 := cellS hb hl2 hWc4
        replace hl1x := Nat.lt_of_lt_of_le hl1 hbs
        replace hl2x := Nat.lt_of_lt_of_le hl2 hbs
        generalize y.at_ = w4 at *
        go_wp2
        have hc1x := hl1x
        have hq0 : (0 : Int) ≤ (q : Int) := by omega
        have hq1 : (q : Int) < (n' : Int) := by omega
        clear ht1 ht2 hc1 hc2
        go_region_held3 (fun w' => w'.cell? ⟨b2, o2 + q * 2, none⟩ = some (.string k2) ∧ w'.cell? ⟨b2, o2 + q * 2 + 1, none⟩ = some (.int .i64 v2))
        (first | go_keep | (go_split_ands; refine ⟨?_, ?_⟩ <;> (rw [hgrow.cell_far _ (by simp; omega) (fun h => by have h2 : w.heap.size ≤ b2 := (Hown.out.lt _ h.symm).1; omega)]; assumption)))
        ((refine step_append_lies _ (by rfl) _ _ _ (by rfl) w.heap.size 117 i0 _ 3 32 Try.underlying27 Hi.out Hz0.out Hz1.out Hz2.out rfl (by omega) u5 acc.length (edtsC acc) (by rfl) ((Hown.out.alloc _).drew) ⟨w4.heap.size, 0, none⟩ 1 1 [.string k2, .int .i64 v2, .bool false] (by rfl) (by rfl) (World.news_of_block (cs := #[.string k2, .int .i64 v2, .bool false]) (t := 117) (fr := (0, 0)) (heap_alloc_new w4 _)) (by simp [Value.oneCell']) (by omega) (by unfold maxLen; omega) (by omega) (by simp; omega) (w4.heap.size + 1) (by simp) ?_; intro gg cap w9 hown' hgrow hat hlt9))
        have hb9 : Below w.heap.size w w9 := below_grown (hb.alloc hbs _).drew hgrow ((Hown.out.alloc _).drew) (by simp; omega) (Nat.le_refl _)
        have Hown' := Lib.hid hown'
        clear hown' hgrow hat hlt9 hc1x
        go_wp2
        go_roundw
        case rel => exact ⟨p, q + 1, f', acc ++ [⟨k2, v2, false⟩], by omega, by omega, rfl, by go_num, by omega, by rw [List.length_append, List.length_singleton]; omega, hnew.out, by rw [List.length_append, edtsC_snoc]; exact Hown'.out, hb9⟩
        case measure => simp [intOf]; omega
        | false =>
        have ht1 : Op.bytesLess es[p].1.toList es'[q].1.toList = false := hk1
        have ht2 : Op.bytesLess es'[q].1.toList es[p].1.toList = false := hk2
        have hdb := diffL_both (f := f') hpe hqe hk1 hk2
        by_cases hvv : es[p].2 = es'[q].2
        · have hnew := Lib.hid (show acc ++ diffL f' (es.drop (p + 1)) (es'.drop (q + 1)) = diffM es es' by rw [← Hacc.out, hdb, if_pos hvv]; simp)
          have htv : (es[p].2 != es'[q].2) = false := by rw [hvv]; simp
          clear Hacc hk1 hk2 hdb hvv
          generalize es[p] = ek at *
          generalize es'[q] = ek2 at *
          obtain ⟨k1, v1⟩ := ek
          obtain ⟨k2, v2⟩ := ek2
          go_wp2
          have hA_c1 := fun y : Aft wr => y.cell hl1x hc1
          have hA_c2 := fun y : Aft wr => y.cell hl1x hc2
          have hA_c3 := fun y : Aft wr => y.cell hl2x hc3
          have hA_c4 := fun y : Aft wr => y.cell hl2x hc4
          refine wp_region_after (by kernel_rfl) (by kernel_rfl) ?_
          repeat (go_big_quiet_step (fail))
          refine wpQuiet_nil ?_
          rintro _ ⟨y, rfl⟩
          clear hA_c1 hA_c2 hA_c3 hA_c4
          replace hb := keepS hb y.below
          replace Hown := Lib.hid (ownsRow_below Hown.out y.below (Nat.le_refl _))
          replace hbs := hb.size
          replace hc1 := cellS hb hl1 hWc1
          replace hc2 := cellS hb hl1 hWc2
          replace hc3 := cellS hb hl2 hWc3
          replace hc4 := cellS hb hl2 hWc4
          replace hl1x := Nat.lt_of_lt_of_le hl1 hbs
          replace hl2x := Nat.lt_of_lt_of_le hl2 hbs
          generalize y.at_ = w3 at *
          go_wp2
          have hA_c1 := fun y : Aft w3 => y.cell hl1x hc1
          have hA_c2 := fun y : Aft w3 => y.cell hl1x hc2
          have hA_c3 := fun y : Aft w3 => y.cell hl2x hc3
          have hA_c4 := fun y : Aft w3 => y.cell hl2x hc4
          refine wp_region_after (by kernel_rfl) (by kernel_rfl) ?_
          repeat (go_big_quiet_step (fail))
          refine wpQuiet_nil ?_
          rintro _ ⟨y, rfl⟩
          clear hA_c1 hA_c2 hA_c3 hA_c4
          replace hb := keepS hb y.below
          replace Hown := Lib.hid (ownsRow_below Hown.out y.below (Nat.le_refl _))
          replace hbs := hb.size
          replace hc1 := cellS hb hl1 hWc1
          replace hc2 := cellS hb hl1 hWc2
          replace hc3 := cellS hb hl2 hWc3
          replace hc4 := cellS hb hl2 hWc4
          replace hl1x := Nat.lt_of_lt_of_le hl1 hbs
          replace hl2x := Nat.lt_of_lt_of_le hl2 hbs
          generalize y.at_ = w4 at *
          go_wp2
          have hA_c1 := fun y : Aft w4 => y.cell hl1x hc1
          have hA_c2 := fun y : Aft w4 => y.cell hl1x hc2
          have hA_c3 := fun y : Aft w4 => y.cell hl2x hc3
          have hA_c4 := fun y : Aft w4 => y.cell hl2x hc4
          refine wp_region_after (by kernel_rfl) (by kernel_rfl) ?_
          repeat (go_big_quiet_step (fail))
          refine wpQuiet_nil ?_
          rintro _ ⟨y, rfl⟩
          clear hA_c1 hA_c2 hA_c3 hA_c4
          replace hb := keepS hb y.below
          replace Hown := Lib.hid (ownsRow_below Hown.out y.below (Nat.le_refl _))
          replace hbs := hb.size
          replace hc1 := cellS hb hl1 hWc1
          replace hc2 := cellS hb hl1 hWc2
          replace hc3 := cellS hb hl2 hWc3
          replace hc4 := cellS hb hl2 hWc4
          replace hl1x := Nat.lt_of_lt_of_le hl1 hbs
          replace hl2x := Nat.lt_of_lt_of_le hl2 hbs
          generalize y.at_ = w5 at *
          go_wp2
          go_roundw
          case rel => exact ⟨p + 1, q + 1, f', acc, by omega, by omega, by go_num, by go_num, by omega, by omega, hnew.out, Hown.out, hb⟩
          case measure => simp [intOf]; omega
        · have hnew := Lib.hid (show (acc ++ [⟨es'[q].1, es'[q].2, false⟩]) ++ diffL f' (es.drop (p + 1)) (es'.drop (q + 1)) = diffM es es' by rw [← Hacc.out, hdb, if_neg hvv]; simp)
          have htv : (es[p].2 != es'[q].2) = true := bne_iff_ne.2 hvv
          clear Hacc hk1 hk2 hdb hvv
          generalize es[p] = ek at *
          generalize es'[q] = ek2 at *
          obtain ⟨k1, v1⟩ := ek
          obtain ⟨k2, v2⟩ := ek2
          go_wp2
          have hA_c1 := fun y : Aft wr => y.cell hl1x hc1
          have hA_c2 := fun y : Aft wr => y.cell hl1x hc2
          have hA_c3 := fun y : Aft wr => y.cell hl2x hc3
          have hA_c4 := fun y : Aft wr => y.cell hl2x hc4
          refine wp_region_after (by kernel_rfl) (by kernel_rfl) ?_
          repeat (go_big_quiet_step (fail))
          refine wpQuiet_nil ?_
          rintro _ ⟨y, rfl⟩
          clear hA_c1 hA_c2 hA_c3 hA_c4
          replace hb := keepS hb y.below
          replace Hown := Lib.hid (ownsRow_below Hown.out y.below (Nat.le_refl _))
          replace hbs := hb.size
          replace hc1 := cellS hb hl1 hWc1
          replace hc2 := cellS hb hl1 hWc2
          replace hc3 := cellS hb hl2 hWc3
          replace hc4 := cellS hb hl2 hWc4
          replace hl1x := Nat.lt_of_lt_of_le hl1 hbs
          replace hl2x := Nat.lt_of_lt_of_le hl2 hbs
          generalize y.at_ = w3 at *
          go_wp2
          have hA_c1 := fun y : Aft w3 => y.cell hl1x hc1
          have hA_c2 := fun y : Aft w3 => y.cell hl1x hc2
          have hA_c3 := fun y : Aft w3 => y.cell hl2x hc3
          have hA_c4 := fun y : Aft w3 => y.cell hl2x hc4
          refine wp_region_after (by kernel_rfl) (by kernel_rfl) ?_
          repeat (go_big_quiet_step (fail))
          refine wpQuiet_nil ?_
          rintro _ ⟨y, rfl⟩
          clear hA_c1 hA_c2 hA_c3 hA_c4
          replace hb := keepS hb y.below
          replace Hown := Lib.hid (ownsRow_below Hown.out y.below (Nat.le_refl _))
          replace hbs := hb.size
          replace hc1 := cellS hb hl1 hWc1
          replace hc2 := cellS hb hl1 hWc2
          replace hc3 := cellS hb hl2 hWc3
          replace hc4 := cellS hb hl2 hWc4
          replace hl1x := Nat.lt_of_lt_of_le hl1 hbs
          replace hl2x := Nat.lt_of_lt_of_le hl2 hbs
          generalize y.at_ = w4 at *
          go_wp2
          have hA_c1 := fun y : Aft w4 => y.cell hl1x hc1
          have hA_c2 := fun y : Aft w4 => y.cell hl1x hc2
          have hA_c3 := fun y : Aft w4 => y.cell hl2x hc3
          have hA_c4 := fun y : Aft w4 => y.cell hl2x hc4
          refine wp_region_after (by kernel_rfl) (by kernel_rfl) ?_
          repeat (go_big_quiet_step (fail))
          refine wpQuiet_nil ?_
          rintro _ ⟨y, rfl⟩
          clear hA_c1 hA_c2 hA_c3 hA_c4
          replace hb := keepS hb y.below
          replace Hown := Lib.hid (ownsRow_below Hown.out y.below (Nat.le_refl _))
          replace hbs := hb.size
          replace hc1 := cellS hb hl1 hWc1
          replace hc2 := cellS hb hl1 hWc2
          replace hc3 := cellS hb hl2 hWc3
          replace hc4 := cellS hb hl2 hWc4
          replace hl1x := Nat.lt_of_lt_of_le hl1 hbs
          replace hl2x := Nat.lt_of_lt_of_le hl2 hbs
          generalize y.at_ = w5 at *
          go_wp2
          have hc1x := hl1x
          have hq0 : (0 : Int) ≤ (q : Int) := by omega
          have hq1 : (q : Int) < (n' : Int) := by omega
          clear ht1 ht2 htv hc1 hc2
          go_region_held3 (fun w' => w'.cell? ⟨b2, o2 + q * 2, none⟩ = some (.string k2) ∧ w'.cell? ⟨b2, o2 + q * 2 + 1, none⟩ = some (.int .i64 v2))
          (first | go_keep | (go_split_ands; refine ⟨?_, ?_⟩ <;> (rw [hgrow.cell_far _ (by simp; omega) (fun h => by have h2 : w.heap.size ≤ b2 := (Hown.out.lt _ h.symm).1; omega)]; assumption)))
          ((refine step_append_lies _ (by rfl) _ _ _ (by rfl) w.heap.size 117 i0 _ 3 32 Try.underlying27 Hi.out Hz0.out Hz1.out Hz2.out rfl (by omega) u5 acc.length (edtsC acc) (by rfl) ((Hown.out.alloc _).drew) ⟨w5.heap.size, 0, none⟩ 1 1 [.string k2, .int .i64 v2, .bool false] (by rfl) (by rfl) (World.news_of_block (cs := #[.string k2, .int .i64 v2, .bool false]) (t := 117) (fr := (0, 0)) (heap_alloc_new w5 _)) (by simp [Value.oneCell']) (by omega) (by unfold maxLen; omega) (by omega) (by simp; omega) (w5.heap.size + 1) (by simp) ?_; intro gg cap w9 hown' hgrow hat hlt9))
          have hb9 : Below w.heap.size w w9 := below_grown (hb.alloc hbs _).drew hgrow ((Hown.out.alloc _).drew) (by simp; omega) (Nat.le_refl _)
          have Hown' := Lib.hid hown'
          clear hown' hgrow hat hlt9 hc1x
          go_wp2
          go_roundw
          case rel => exact ⟨p + 1, q + 1, f', acc ++ [⟨k2, v2, false⟩], by omega, by omega, by go_num, by go_num, by omega, by rw [List.length_append, List.length_singleton]; omega, hnew.out, by rw [List.length_append, edtsC_snoc]; exact Hown'.out, hb9⟩
          case measure => simp [intOf]; omega
    · have hpn : p = n := by omega
      have htp : ((p : Int) == (n : Int)) = true := beq_iff_eq.2 (by omega)
      by_cases hlq : q < n'
      · have hqe : q < es'.length := by rw [Hlen'.out]; exact hlq
        obtain ⟨b2, o2, rfl, hl2, hl2x, hc3, hc4⟩ := hr'.ent hb hqe
        have hWc3 := cellW hb hl2 hc3
        have hWc4 := cellW hb hl2 hc4
        obtain ⟨f', hf'⟩ : ∃ f', f = f' + 1 := ⟨f - 1, by omega⟩
        subst hf'
        have hte : ((q : Int) == (n' : Int)) = false := beq_eq_false_iff_ne.2 (by omega)
        have hpi : ¬ (p : Int) < (n : Int) := by omega
        have hnew := Lib.hid (show (acc ++ [⟨es'[q].1, es'[q].2, false⟩]) ++ diffL f' (es.drop p) (es'.drop (q + 1)) = diffM es es' by rw [← Hacc.out, diffL_set hqe (.inl (by rw [Hlen.out]; omega))]; simp)
        clear Hacc hpn
        generalize es'[q] = ek2 at *
        obtain ⟨k2, v2⟩ := ek2
        have hdp : decide ((p : Int) < (n : Int)) = false := decide_eq_false hpi
        go_wp2
        have hA_c3 := fun y : Aft wr => y.cell hl2x hc3
        have hA_c4 := fun y : Aft wr => y.cell hl2x hc4
        refine wp_region_after (by kernel_rfl) (by kernel_rfl) ?_
        repeat (go_big_quiet_step (fail))
        refine wpQuiet_nil ?_
        rintro _ ⟨y, rfl⟩
        clear hA_c3 hA_c4
        replace hb := keepS hb y.below
        replace Hown := Lib.hid (ownsRow_below Hown.out y.below (Nat.le_refl _))
        replace hbs := hb.size
        replace hc3 := cellS hb hl2 hWc3
        replace hc4 := cellS hb hl2 hWc4
        replace hl2x := Nat.lt_of_lt_of_le hl2 hbs
        generalize y.at_ = w3 at *
        go_wp2
        have hA_c3 := fun y : Aft w3 => y.cell hl2x hc3
        have hA_c4 := fun y : Aft w3 => y.cell hl2x hc4
        refine wp_region_after (by kernel_rfl) (by kernel_rfl) ?_
        repeat (go_big_quiet_step (fail))
        refine wpQuiet_nil ?_
        rintro _ ⟨y, rfl⟩
        clear hA_c3 hA_c4
        replace hb := keepS hb y.below
        replace Hown := Lib.hid (ownsRow_below Hown.out y.below (Nat.le_refl _))
        replace hbs := hb.size
        replace hc3 := cellS hb hl2 hWc3
        replace hc4 := cellS hb hl2 hWc4
        replace hl2x := Nat.lt_of_lt_of_le hl2 hbs
        generalize y.at_ = w4 at *
        go_wp2
        have hc1x := hl2x
        have hq0 : (0 : Int) ≤ (q : Int) := by omega
        have hq1 : (q : Int) < (n' : Int) := by omega
        go_region_held3 (fun w' => w'.cell? ⟨b2, o2 + q * 2, none⟩ = some (.string k2) ∧ w'.cell? ⟨b2, o2 + q * 2 + 1, none⟩ = some (.int .i64 v2))
        (first | go_keep | (go_split_ands; refine ⟨?_, ?_⟩ <;> (rw [hgrow.cell_far _ (by simp; omega) (fun h => by have h2 : w.heap.size ≤ b2 := (Hown.out.lt _ h.symm).1; omega)]; assumption)))
        ((refine step_append_lies _ (by rfl) _ _ _ (by rfl) w.heap.size 117 i0 _ 3 32 Try.underlying27 Hi.out Hz0.out Hz1.out Hz2.out rfl (by omega) u5 acc.length (edtsC acc) (by rfl) ((Hown.out.alloc _).drew) ⟨w4.heap.size, 0, none⟩ 1 1 [.string k2, .int .i64 v2, .bool false] (by rfl) (by rfl) (World.news_of_block (cs := #[.string k2, .int .i64 v2, .bool false]) (t := 117) (fr := (0, 0)) (heap_alloc_new w4 _)) (by simp [Value.oneCell']) (by omega) (by unfold maxLen; omega) (by omega) (by simp; omega) (w4.heap.size + 1) (by simp) ?_; intro gg cap w9 hown' hgrow hat hlt9))
        have hb9 : Below w.heap.size w w9 := below_grown (hb.alloc hbs _).drew hgrow ((Hown.out.alloc _).drew) (by simp; omega) (Nat.le_refl _)
        have Hown' := Lib.hid hown'
        clear hown' hgrow hat hlt9 hc1x
        go_wp2
        go_roundw
        case rel => exact ⟨p, q + 1, f', acc ++ [⟨k2, v2, false⟩], by omega, by omega, rfl, by go_num, by omega, by rw [List.length_append, List.length_singleton]; omega, hnew.out, by rw [List.length_append, edtsC_snoc]; exact Hown'.out, hb9⟩
        case measure => simp [intOf]; omega
      · have hfin := Lib.hid (show acc = diffM es es' by rw [← Hacc.out, diffL_end _ _ _ (List.drop_eq_nil_of_le (by rw [Hlen.out]; omega)) (List.drop_eq_nil_of_le (by rw [Hlen'.out]; omega)), List.append_nil])
        clear hpn
        go_wp2
        go_ret
        exact ⟨_, rfl, by rw [← hfin.out]; exact Hown.out, hb⟩

end Go.Proofs.Ytjhimcddgkoghaa
namespace Go.Proofs.Ytjhimcddgkoghaa.AM
open Go Go.RowKit
set_option linter.unusedVariables false

def strA (k : ByteArray) : AV := .v (.string k)
def intA (x : Int) : AV := .v (.int .i64 x)
def entA (e : Ent) : AV := .agg [.v (.string e.1), .v (.int .i64 e.2)]
def edtA (e : Edt) : AV := .agg [.v (.string e.key), .v (.int .i64 e.val), .v (.bool e.gone)]
theorem flat_map {α : Type} {f : α → AV} (h : ∀ a, flatA (f a)) : ∀ l : List α, flatL (l.map f)
  | [] => by simp only [List.map_nil]; unfold flatL; trivial
  | a :: l => by simp only [List.map_cons]; unfold flatL; exact ⟨h a, flat_map h l⟩
theorem flat_o0 : ∀ ob ∈ ([] : List OB), flatO ob := fun ob h => by cases h
theorem flat_o1 {t sz : Nat} {xs : List AV} (h : flatL xs) : ∀ ob ∈ [(⟨.s t, sz, xs⟩ : OB)], flatO ob := fun ob hm => by rw [List.mem_singleton] at hm; subst hm; exact h
theorem flat_o2 {t sz t' sz' : Nat} {xs xs' : List AV} (h : flatL xs) (h' : flatL xs') : ∀ ob ∈ [(⟨.s t, sz, xs⟩ : OB), ⟨.s t', sz', xs'⟩], flatO ob := fun ob hm => by
  rcases List.mem_cons.1 hm with rfl | hm
  · exact h
  · exact flat_o1 h' ob hm
theorem flat_ent (e : Ent) : flatA (entA e) := by unfold entA; simp [flatA, flatL]
theorem flat_edt (e : Edt) : flatA (edtA e) := by unfold edtA; simp [flatA, flatL]
theorem flat_str (e : ByteArray) : flatA (strA e) := by unfold strA; simp [flatA]

section
variable {S : Nat → Prop} {w : World}
theorem rl_entA : ∀ {es : List Ent} {cs : List Value}, RL S w (es.map entA) cs ↔ cs = entsC es
  | [], cs => by simp only [List.map_nil]; unfold RL; simp [entsC]
  | e :: es, cs => by
    simp only [List.map_cons]
    constructor
    · intro h
      unfold RL at h
      obtain ⟨c1, c2, rfl, h1, h2⟩ := h
      rw [rl_entA.1 h2, entsC_cons]
      unfold entA at h1
      simp only [RA, RL] at h1
      obtain ⟨a, b, rfl, ⟨rfl, _⟩, d1, d2, rfl, ⟨rfl, _⟩, rfl⟩ := h1
      rfl
    · intro h
      unfold RL
      refine ⟨[.string e.1, .int .i64 e.2], entsC es, by rw [h, entsC_cons]; rfl, ?_, rl_entA.2 rfl⟩
      exact ra_agg (rl_cons (c1 := [_]) (ra_v rfl) (rl_cons (c1 := [_]) (ra_v rfl) rl_nil))
theorem rl_edtA : ∀ {es : List Edt} {cs : List Value}, RL S w (es.map edtA) cs ↔ cs = edtsC es
  | [], cs => by simp only [List.map_nil]; unfold RL; simp [edtsC]
  | e :: es, cs => by
    simp only [List.map_cons]
    constructor
    · intro h
      unfold RL at h
      obtain ⟨c1, c2, rfl, h1, h2⟩ := h
      rw [rl_edtA.1 h2, edtsC_cons]
      unfold edtA at h1
      simp only [RA, RL] at h1
      obtain ⟨a, b, rfl, ⟨rfl, _⟩, d1, d2, rfl, ⟨rfl, _⟩, f1, f2, rfl, ⟨rfl, _⟩, rfl⟩ := h1
      rfl
    · intro h
      unfold RL
      refine ⟨[.string e.key, .int .i64 e.val, .bool e.gone], edtsC es, by rw [h, edtsC_cons]; rfl, ?_, rl_edtA.2 rfl⟩
      exact ra_agg (rl_cons (c1 := [_]) (ra_v rfl) (rl_cons (c1 := [_]) (ra_v rfl) (rl_cons (c1 := [_]) (ra_v rfl) rl_nil)))
theorem all_ent (es : List Ent) : ∀ x ∈ es.map entA, asz x = 2 := fun x hx => by obtain ⟨e, _, rfl⟩ := List.mem_map.1 hx; rfl
theorem all_edt (es : List Edt) : ∀ x ∈ es.map edtA, asz x = 3 := fun x hx => by obtain ⟨e, _, rfl⟩ := List.mem_map.1 hx; rfl
/-- an argument that reads as entries -/
theorem arg_ents {S0 : Nat → Prop} {hp B V} (hS : ∀ b, S0 b → b < w.heap.size) {es : List Ent} {u : Value} (h : RV S0 w hp B V (.lst 2 (es.map entA)) u) : ∃ A c, u = .slice A es.length c ∧ es.length ≤ c ∧ c ≤ maxLen ∧ Rd w 2 A es.length (entsC es) := by
  unfold RV at h
  unfold RA at h
  obtain ⟨A, c, e, h1, h2, _, _, h4⟩ := h
  simp only [List.cons.injEq, and_true, List.length_map] at e h1
  refine ⟨A, c, e, h1, h2, by rw [entsC_length], fun hn => ?_⟩
  rcases h4 with h4 | ⟨b, off, us, rfl, hb, hr, hc⟩
  · have := List.map_eq_nil_iff.1 h4; subst this; simp at hn
  · rw [rl_entA.1 hr] at hc
    exact ⟨b, off, rfl, hS b hb, hc⟩
theorem arg_v {S0 : Nat → Prop} {hp B V} {x u : Value} (h : RV S0 w hp B V (.v x) u) : u = x := by unfold RV at h; exact h.1
theorem rvs1 {S0 : Nat → Prop} {hp B V} {x : AV} {us : List Value} (h : RVs S0 w hp B V [x] us) : ∃ u, us = [u] ∧ RV S0 w hp B V x u := by
  unfold RVs at h; obtain ⟨u, us', rfl, h1, h2⟩ := h; unfold RVs at h2; subst h2; exact ⟨u, rfl, h1⟩
theorem rvsc {S0 : Nat → Prop} {hp B V} {x : AV} {xs : List AV} {us : List Value} (h : RVs S0 w hp B V (x :: xs) us) : ∃ u us', us = u :: us' ∧ RV S0 w hp B V x u ∧ RVs S0 w hp B V xs us' := by
  unfold RVs at h; exact h
end

section
variable {P : Program} {f : FuncId} {fn : Func} {args : List AV}
theorem ent_of (hf : P.funcs[f]? = some fn) (hnm : (fn.name == "runtime.NumGoroutine") = false) (hb : fn.body.isNone = false) : ∀ vs w, (callFunc f vs).run P w = .ok (.enter f vs) w := fun vs w => by
  simp only [callFunc, Sem.run_bind, run_program, Result.andThen_ok, hf, hnm, hb]; rfl
theorem rvs_none {S : Nat → Prop} {w : World} {hp hp' : Nat → Option OB} {B B' : Nat → Nat} {V V' : Nat → Value} {xs : List AV} {vs : List Value} (hn : ∀ l, hp l = none) (h : RVs S w hp B V xs vs) : RVs S w hp' B' V' xs vs :=
  RVs.carry (fun _ h => h) (fun _ _ => rfl) _ _ (fun l _ ob e => by rw [hn] at e; cases e) h
theorem rows_none {S : Nat → Prop} {w : World} {hp : Nat → Option OB} {B : Nat → Nat} {V : Nat → Value} {T : Nat → Nat → Prop} {lo : Nat → Prop} (hn : ∀ l, hp l = none) : Rows S w hp (fun _ => none) B V T lo :=
  ⟨fun l ob e => (by rw [hn] at e; cases e), fun l ob g e => (by rw [hn] at e; cases e), fun l ob g e => (by rw [hn] at e; cases e), fun l l' o1 o2 g e => (by rw [hn] at e; cases e), fun l es e => (by cases e)⟩
theorem obs_nil (l : Nat) : obsF [] l = none := by simp [obsF]
theorem owns_any {w : World} {b t sz n : Nat} {v : Value} {cs : List Value} (h : w.ownsRow b t sz v n cs) : w.ownsRow 0 t sz v n cs := by
  refine ⟨h.1, ?_⟩
  rcases h.2 with k | ⟨g, cap, cur, e, hb, r⟩
  · exact .inl k
  · exact .inr ⟨g, cap, cur, e, Nat.zero_le _, r⟩
/-- a contract whose result is a plain value -/
theorem ac_val {r : Value} (hent : ∀ vs w, (callFunc f vs).run P w = .ok (.enter f vs) w) (h1 : r.oneCell' = true)
    (h : ∀ (w : World) (S0 : Nat → Prop) (vs : List Value), (∀ b, S0 b → b < w.heap.size) → RVs S0 w (fun _ => none) (fun _ => 0) (fun _ => undef) args vs → Calls P f vs.toArray w fun e w' => e = .returned r ∧ Below w.heap.size w w') : AC P f args ⟨.v r, []⟩ :=
  ⟨hent, fun w S0 B0 V0 T0 vs hS _ hv => (h w S0 vs hS (rvs_none (fun _ => rfl) hv)).mono fun e w' ⟨he, hb⟩ => ⟨r, S0, fun _ => 0, fun _ => undef, fun _ => Fa, fun _ => Fa, he, Grown.of hb _, fun _ h => h, fun b hb' => ⟨Nat.lt_of_lt_of_le (hS b hb') hb.size, .inl hb'⟩, by unfold RV; exact ⟨rfl, h1⟩, rows_none obs_nil, rows_none (fun _ => rfl), fun l l' ob ob' g e => (by rw [obs_nil] at e; cases e)⟩⟩
theorem rows_one {S : Nat → Prop} {w' : World} {base : Nat} {t sz : Nat} {xs : List AV} {v : Value} {cs : List Value} {lo : Nat → Prop} (hlo : ∀ g, base ≤ g → lo g) (hS : ∀ b, S b → b < base) (ho : w'.ownsRow base t sz v xs.length cs) (ha : ∀ x ∈ xs, asz x = sz) (h0 : 0 < sz) (hr : RL S w' xs cs) : Rows S w' (obsF [⟨.s t, sz, xs⟩]) (fun _ => none) (fun _ => (v.ownBlock).getD 0) (fun _ => v) (fun _ => Fa) lo := by
  have h0' : ∀ l ob, obsF [(⟨.s t, sz, xs⟩ : OB)] l = some ob → l = 0 ∧ ob = ⟨.s t, sz, xs⟩ := fun l ob e => by
    cases l with
    | zero => simp [obsF] at e; exact ⟨rfl, e.symm⟩
    | succ l => simp [obsF] at e
  refine ⟨fun l ob e => ?_, fun l ob g e hb => ?_, fun l ob g e _ hb => hb.elim, fun l l' o1 o2 g e1 e2 _ _ => ?_, fun l es e => by cases e⟩
  · obtain ⟨rfl, rfl⟩ := h0' l ob e
    exact ⟨t, cs, ⟨fun t' e => by cases e; rfl, trivial⟩, hr, ha, h0, owns_any ho, fun g hg => by rw [hg]; rfl⟩
  · rcases hb with hb | hb
    · have := ho.lt g hb
      exact ⟨fun hs => by have := hS g hs; omega, this.2, hlo g this.1⟩
    · exact hb.elim
  · rw [(h0' l o1 e1).1, (h0' l' o2 e2).1]
/-- a contract whose result is a row of its own -/
theorem ac_own {e : TypeId} {sz : Nat} {xs : List AV} {cs : List Value} (hent : ∀ vs w, (callFunc f vs).run P w = .ok (.enter f vs) w) (ha : ∀ x ∈ xs, asz x = sz) (h0 : 0 < sz) (hr : ∀ S w, RL S w xs cs)
    (h : ∀ (w : World) (S0 : Nat → Prop) (vs : List Value), (∀ b, S0 b → b < w.heap.size) → RVs S0 w (fun _ => none) (fun _ => 0) (fun _ => undef) args vs → Calls P f vs.toArray w fun en w' => ∃ v, en = .returned v ∧ w'.ownsRow w.heap.size e sz v xs.length cs ∧ Below w.heap.size w w') : AC P f args ⟨.own 0, [⟨.s e, sz, xs⟩]⟩ :=
  ⟨hent, fun w S0 B0 V0 T0 vs hS _ hv => (h w S0 vs hS (rvs_none (fun _ => rfl) hv)).mono fun en w' ⟨v, he, ho, hb⟩ =>
    ⟨v, S0, fun _ => (v.ownBlock).getD 0, fun _ => v, fun _ => Fa, fun _ => Fa, he, Grown.of hb _, fun _ h => h, fun b hb' => ⟨Nat.lt_of_lt_of_le (hS b hb') hb.size, .inl hb'⟩, by unfold RV; exact ⟨⟨_, rfl⟩, rfl⟩, rows_one (fun g hg => .inl hg) hS ho ha h0 (hr _ _), rows_none (fun _ => rfl), fun l l' ob ob' g _ e => by cases e⟩⟩
end

theorem ent_122 : ∀ vs w, (callFunc 122 vs).run Try.prog w = .ok (.enter 122 vs) w := ent_of Try.func122 (by kernel_rfl) (by kernel_rfl)
theorem ent_125 : ∀ vs w, (callFunc 125 vs).run Try.prog w = .ok (.enter 125 vs) w := ent_of Try.func125 (by kernel_rfl) (by kernel_rfl)
theorem ent_169 : ∀ vs w, (callFunc 169 vs).run Try.prog w = .ok (.enter 169 vs) w := ent_of Try.func169 (by kernel_rfl) (by kernel_rfl)
theorem ent_168 : ∀ vs w, (callFunc 168 vs).run Try.prog w = .ok (.enter 168 vs) w := ent_of Try.func168 (by kernel_rfl) (by kernel_rfl)
theorem ent_237 : ∀ vs w, (callFunc 237 vs).run Try.prog w = .ok (.enter 237 vs) w := ent_of Try.func237 (by kernel_rfl) (by kernel_rfl)
theorem ent_243 : ∀ vs w, (callFunc 243 vs).run Try.prog w = .ok (.enter 243 vs) w := ent_of Try.func243 (by kernel_rfl) (by kernel_rfl)
theorem ent_241 : ∀ vs w, (callFunc 241 vs).run Try.prog w = .ok (.enter 241 vs) w := ent_of Try.func241 (by kernel_rfl) (by kernel_rfl)
theorem ent_240 : ∀ vs w, (callFunc 240 vs).run Try.prog w = .ok (.enter 240 vs) w := ent_of Try.func240 (by kernel_rfl) (by kernel_rfl)
theorem ent_239 : ∀ vs w, (callFunc 239 vs).run Try.prog w = .ok (.enter 239 vs) w := ent_of Try.func239 (by kernel_rfl) (by kernel_rfl)
theorem ac_l01OK {es : List Ent} (hm : es.length ≤ maxLen) (hk : ∀ e ∈ es, e.1.size ≤ maxLen) : AC Try.prog 122 [.lst 2 (es.map entA)] ⟨.v (.bool (mapOK es)), []⟩ :=
  ac_val ent_122 rfl fun w S0 vs hS hv => by
    obtain ⟨u, rfl, h1⟩ := rvs1 hv
    obtain ⟨A, c, rfl, _, _, hr⟩ := arg_ents hS h1
    exact l01OK_any A es.length c es w hr hm hk
theorem ac_implMapOK {es : List Ent} (hm : es.length ≤ maxLen) (hk : ∀ e ∈ es, e.1.size ≤ maxLen) : AC Try.prog 125 [.lst 2 (es.map entA)] ⟨.v (.bool (mapOK es)), []⟩ :=
  ac_val ent_125 rfl fun w S0 vs hS hv => by
    obtain ⟨u, rfl, h1⟩ := rvs1 hv
    obtain ⟨A, c, rfl, _, _, hr⟩ := arg_ents hS h1
    exact implMapOK_any A es.length c es w hr hm hk
theorem ac_l01OK' {es : List Ent} {b : Bool} (hb : mapOK es = b) (hm : es.length ≤ maxLen) (hk : ∀ e ∈ es, e.1.size ≤ maxLen) : AC Try.prog 122 [.lst 2 (es.map entA)] ⟨.v (.bool b), []⟩ := hb ▸ ac_l01OK hm hk
theorem ac_implMapOK' {es : List Ent} {b : Bool} (hb : mapOK es = b) (hm : es.length ≤ maxLen) (hk : ∀ e ∈ es, e.1.size ≤ maxLen) : AC Try.prog 125 [.lst 2 (es.map entA)] ⟨.v (.bool b), []⟩ := hb ▸ ac_implMapOK hm hk
theorem ac_l01Diff {es es' : List Ent} (hm : es.length ≤ 4096) (hm' : es'.length ≤ 4096) : AC Try.prog 169 [.lst 2 (es.map entA), .lst 2 (es'.map entA)] ⟨.own 0, [⟨117, 3, (diffM es es').map edtA⟩]⟩ :=
  ac_own (cs := edtsC (diffM es es')) ent_169 (all_edt _) (by omega) (fun S w => rl_edtA.2 rfl) fun w S0 vs hS hv => by
    obtain ⟨u, us, rfl, h1, hv⟩ := rvsc hv
    obtain ⟨u', rfl, h2⟩ := rvs1 hv
    obtain ⟨A, c, rfl, _, _, hr⟩ := arg_ents hS h1
    obtain ⟨A', c', rfl, _, _, hr'⟩ := arg_ents hS h2
    rw [List.length_map]
    exact l01Diff_any A _ c es A' _ c' es' w hr hr' hm hm'
theorem ac_differences {es es' : List Ent} (hm : es.length ≤ 4096) (hm' : es'.length ≤ 4096) : AC Try.prog 168 [.lst 2 (es.map entA), .lst 2 (es'.map entA)] ⟨.own 0, [⟨117, 3, (diffM es es').map edtA⟩]⟩ :=
  ac_own (cs := edtsC (diffM es es')) ent_168 (all_edt _) (by omega) (fun S w => rl_edtA.2 rfl) fun w S0 vs hS hv => by
    obtain ⟨u, us, rfl, h1, hv⟩ := rvsc hv
    obtain ⟨u', rfl, h2⟩ := rvs1 hv
    obtain ⟨A, c, rfl, _, _, hr⟩ := arg_ents hS h1
    obtain ⟨A', c', rfl, _, _, hr'⟩ := arg_ents hS h2
    rw [List.length_map]
    exact differences_any A _ c es A' _ c' es' w hr hr' hm hm'
theorem ac_l01Put {es : List Ent} {k : ByteArray} {v : Int} (hm : es.length ≤ 4096) : AC Try.prog 237 [.lst 2 (es.map entA), .v (.string k), .v (.int .i64 v)] ⟨.own 0, [⟨167, 2, (putL es k v).map entA⟩]⟩ :=
  ac_own (cs := entsC (putL es k v)) ent_237 (all_ent _) (by omega) (fun S w => rl_entA.2 rfl) fun w S0 vs hS hv => by
    obtain ⟨u, us, rfl, h1, hv⟩ := rvsc hv
    obtain ⟨u2, us, rfl, h2, hv⟩ := rvsc hv
    obtain ⟨u3, rfl, h3⟩ := rvs1 hv
    obtain ⟨A, c, rfl, _, _, hr⟩ := arg_ents hS h1
    rw [arg_v h2, arg_v h3, List.length_map]
    exact l01Put_any A _ c es k v w hr hm
theorem ac_l01Remove {es : List Ent} {k : ByteArray} (hm : es.length ≤ 4096) : AC Try.prog 243 [.lst 2 (es.map entA), .v (.string k)] ⟨.own 0, [⟨167, 2, (delL es k).map entA⟩]⟩ :=
  ac_own (cs := entsC (delL es k)) ent_243 (all_ent _) (by omega) (fun S w => rl_entA.2 rfl) fun w S0 vs hS hv => by
    obtain ⟨u, us, rfl, h1, hv⟩ := rvsc hv
    obtain ⟨u2, rfl, h2⟩ := rvs1 hv
    obtain ⟨A, c, rfl, _, _, hr⟩ := arg_ents hS h1
    rw [arg_v h2, List.length_map]
    exact l01Remove_any A _ c es k w hr hm
theorem ac_with {es : List Ent} {k : ByteArray} {v : Int} (hs : Srt es) (hm : es.length ≤ 4096) : AC Try.prog 241 [.lst 2 (es.map entA), .agg [.v (.string k), .v (.int .i64 v)]] ⟨.own 0, [⟨167, 2, (putL es k v).map entA⟩]⟩ :=
  ac_own (cs := entsC (putL es k v)) ent_241 (all_ent _) (by omega) (fun S w => rl_entA.2 rfl) fun w S0 vs hS hv => by
    obtain ⟨u, us, rfl, h1, hv⟩ := rvsc hv
    obtain ⟨u2, rfl, h2⟩ := rvs1 hv
    obtain ⟨A, c, rfl, hc, _, hr⟩ := arg_ents hS h1
    unfold RV at h2
    obtain ⟨cs, rfl, h2⟩ := h2
    have hcs : cs = [.string k, .int .i64 v] := concL_eq (xs := [.v (.string k), .v (.int .i64 v)]) rfl h2
    rw [hcs, List.length_map]
    exact with_any A _ c es k v w hr hs hc hm
theorem ac_without {es : List Ent} {k : ByteArray} (hs : Srt es) (hm : es.length ≤ 4096) : AC Try.prog 240 [.lst 2 (es.map entA), .v (.string k)] ⟨.own 0, [⟨167, 2, (delL es k).map entA⟩]⟩ :=
  ac_own (cs := entsC (delL es k)) ent_240 (all_ent _) (by omega) (fun S w => rl_entA.2 rfl) fun w S0 vs hS hv => by
    obtain ⟨u, us, rfl, h1, hv⟩ := rvsc hv
    obtain ⟨u2, rfl, h2⟩ := rvs1 hv
    obtain ⟨A, c, rfl, hc, hc2, hr⟩ := arg_ents hS h1
    rw [arg_v h2, List.length_map]
    exact without_any A _ c es k w hr hs hc hc2 hm
theorem ac_part {es : List Ent} {a b : Nat} (hab : a ≤ b) (hbn : b ≤ es.length) (hm : es.length ≤ 4096) : AC Try.prog 239 [.lst 2 (es.map entA), .v (.int .i64 a), .v (.int .i64 b)] ⟨.own 0, [⟨167, 2, ((es.drop a).take (b - a)).map entA⟩]⟩ :=
  ac_own (cs := entsC ((es.drop a).take (b - a))) ent_239 (all_ent _) (by omega) (fun S w => rl_entA.2 rfl) fun w S0 vs hS hv => by
    obtain ⟨u, us, rfl, h1, hv⟩ := rvsc hv
    obtain ⟨u2, us, rfl, h2, hv⟩ := rvsc hv
    obtain ⟨u3, rfl, h3⟩ := rvs1 hv
    obtain ⟨A, c, rfl, hc, hc2, hr⟩ := arg_ents hS h1
    rw [arg_v h2, arg_v h3, List.length_map]
    exact part_any A _ c es a b w hr hab hbn hc hc2 hm
end Go.Proofs.Ytjhimcddgkoghaa.AM
namespace Go.Proofs.Ytjhimcddgkoghaa
open Go.RowKit Go.ChangeShapes Go.WideShapes Go.Deep

theorem own_ : ownKnob Try.prog.godebug = none := by kernel_rfl
theorem laidOut_ : laidOutB Try.prog = true := by kernel_rfl

theorem add_zero_ (a : Addr) : a.add 0 = a := by unfold Addr.add; simp
theorem spot_of_cell {w : World} {a : Addr} {v : Value} (h : w.cell? a = some v) : a.spot = none := by
  unfold World.cell? at h
  cases hs : a.spot with
  | none => rfl
  | some x => simp [hs] at h; split at h <;> simp at h

section
variable {H : Type} {enc : TypeId × Value → H} {P : Program} {w : World} {base : Nat} {spare : Nat → Bool} {held : Bool}
end

/-- a list out of facts on its places -/
theorem list_of {α : Type} (n : Nat) (Q : Nat → α → Prop) (h : ∀ i, i < n → ∃ a, Q i a) : ∃ l : List α, l.length = n ∧ ∀ i (hi : i < l.length), Q i l[i] := by
  induction n with
  | zero => exact ⟨[], rfl, fun i hi => absurd hi (by simp)⟩
  | succ n ih =>
    obtain ⟨l, hl, hq⟩ := ih fun i hi => h i (by omega)
    obtain ⟨a, ha⟩ := h n (by omega)
    refine ⟨l ++ [a], by simp [hl], fun i hi => ?_⟩
    rw [List.length_append, List.length_singleton] at hi
    rcases Nat.lt_or_ge i l.length with hlt | hge
    · rw [List.getElem_append_left hlt]; exact hq i hlt
    · have : i = l.length := by omega
      subst this
      rw [List.getElem_append_right (Nat.le_refl _)]
      simp only [Nat.sub_self, List.getElem_cons_zero]
      rw [hl]; exact ha

section
variable {H : Type} {enc : TypeId × Value → H} {P : Program} {w : World} {base : Nat} {held : Bool}
end
end Go.Proofs.Ytjhimcddgkoghaa
namespace Go.Proofs.Ytjhimcddgkoghaa.AM
open Go Go.RowKit Go.ChangeShapes Go.WideShapes Go.Deep
set_option linter.unusedVariables false
section
variable {H : Type} {enc : TypeId × Value → H} {P : Program} {w : World} {base : Nat} {spare : Nat → Bool} {held : Bool}
theorem open_cap {t e : TypeId} {A : Option Addr} {n c : Nat} {d : DataW H} {p : List MemPlace} (ht : P.underlying t = some (.slice e)) (h : DataW.Trod enc P w base spare held t (.slice A n c) d p) : n ≤ c ∧ c ≤ maxLen := by
  obtain ⟨fuel, hf⟩ := h
  rcases open_slice ht hf with ⟨hcs, _⟩ | ⟨a, len, cap, m, n', D, Pl, hcs, hb, hl, hm, _⟩
  · simp [Value.cells] at hcs; obtain ⟨rfl, rfl, rfl⟩ := hcs; exact ⟨Nat.le_refl _, Nat.zero_le _⟩
  · simp [Value.cells] at hcs; obtain ⟨rfl, rfl, rfl⟩ := hcs; exact ⟨hl, hm⟩
end
section
variable {w : World} {hp : Nat → Option OB} {B : Nat → Nat} {V : Nat → Value}
def InW (w : World) : Nat → Prop := fun b => b < w.heap.size
theorem rd_at {sz : Nat} {A : Option Addr} {n : Nat} {xs : List Value} (h : Rd w sz A n xs) (hn : 0 < n) : ∃ b off, A = some ⟨b, off, none⟩ ∧ InW w b ∧ ∀ j u, xs[j]? = some u → w.cell? ⟨b, off + j, none⟩ = some u := by
  obtain ⟨b, off, h1, h2, h3⟩ := h.2 hn
  exact ⟨b, off, h1, h2, h3⟩
theorem rvs_nil : RVs (InW w) w hp B V [] [] := by unfold RVs; rfl
theorem rvs_cons {x : AV} {xs : List AV} {u : Value} {us : List Value} (h : RV (InW w) w hp B V x u) (r : RVs (InW w) w hp B V xs us) : RVs (InW w) w hp B V (x :: xs) (u :: us) := by
  unfold RVs; exact ⟨u, us, rfl, h, r⟩
/-- what a law's contract says of a call of it -/
theorem law_calls {P : Program} {f : FuncId} {args : List AV} {vs : List Value} {r : Value} (h : AC P f args ⟨.v r, []⟩) (hv : RVs (InW w) w (fun _ => none) (fun _ => 0) (fun _ => undef) args vs) : Calls P f vs.toArray w fun e w' => e = .returned r ∧ Below w.heap.size w w' :=
  (h.2 w (InW w) (fun _ => 0) (fun _ => undef) (fun _ => Fa) vs (fun b hb => hb) (rows_none (fun _ => rfl)) (rvs_none (fun _ => rfl) hv)).mono fun e w' ⟨v, S, B, V, T, T1, h1, h2, _, _, h5, _⟩ => by
    unfold RV at h5
    exact ⟨by rw [h1, h5.1], h2.below (fun g ⟨l, ob, e, _⟩ => by cases e)⟩
end
end Go.Proofs.Ytjhimcddgkoghaa.AM
namespace Go.Proofs.Ytjhimcddgkoghaa.AM
open Go Go.RowKit
set_option linter.unusedVariables false
set_option maxRecDepth 100000

attribute [local irreducible] ACode AOps AOps2 RetG RetM Pre ACG

end Go.Proofs.Ytjhimcddgkoghaa.AM
namespace Go.Proofs.Ytjhimcddgkoghaa.AM
open Go Go.RowKit
set_option linter.unusedVariables false
set_option maxRecDepth 100000

section
variable {P : Program} {t : TypeId} {x y : Operand} {a b : ByteArray}
theorem b_sne_f (h : a = b) : BinOK P .neq t x y (.string a) (.string b) (.bool false) := b_str fun w => by simp [Op.stringOp, h]
theorem b_seq_t (h : a = b) : BinOK P .eql t x y (.string a) (.string b) (.bool true) := b_str fun w => by simp [Op.stringOp, h]
theorem b_seq_f (h : a ≠ b) : BinOK P .eql t x y (.string a) (.string b) (.bool false) := b_str fun w => by simp [Op.stringOp, toList_beq, h]
end
attribute [local irreducible] ACode AOps AOps2 RetG RetM Pre ACG

end Go.Proofs.Ytjhimcddgkoghaa.AM
namespace Go.Proofs.Ytjhimcddgkoghaa
open Go.RowKit

def TupE (e : TypeId) (r : List Edt × Int) (w : World) (e' : Ending) (w' : World) : Prop := ∃ v, e' = .returned (.tuple #[v, .int .i64 r.2]) ∧ w'.ownsRow w.heap.size e 3 v r.1.length (edtsC r.1) ∧ Below w.heap.size w w'
theorem TupE.mk {e : TypeId} {r : List Edt × Int} {l : List Edt} {c : Int} {v : Value} {w w' : World} (h : r = (l, c)) (ho : w'.ownsRow w.heap.size e 3 v l.length (edtsC l)) (hb : Below w.heap.size w w') : TupE e r w (.returned (.tuple #[v, .int .i64 c])) w' := ⟨v, by rw [h], by rw [h]; exact ho, hb⟩
end Go.Proofs.Ytjhimcddgkoghaa
namespace Go.Proofs.Ytjhimcddgkoghaa.AM
open Go Go.RowKit
set_option linter.unusedVariables false
set_option linter.unusedSimpArgs false
set_option maxRecDepth 100000
attribute [local irreducible] ACode AOps AOps2 RetG RetM Pre ACG
def keysL (es : List Edt) : List ByteArray := es.map fun e => e.key
theorem keysL_length (es : List Edt) : (keysL es).length = es.length := by simp [keysL]

theorem diffL_le (f : Nat) (a b : List Ent) : (diffL f a b).length ≤ a.length + b.length := by
  induction f generalizing a b with
  | zero => simp [diffL]
  | succ f ih =>
    match a, b with
    | [], [] => simp [diffL]
    | x :: a, [] =>
      have := ih a []
      simp only [diffL, List.length_cons]; simp at *; omega
    | [], y :: b =>
      have := ih [] b
      simp only [diffL, List.length_cons]; simp at *; omega
    | x :: a, y :: b =>
      rw [diffL]
      split
      · have := ih a (y :: b); simp at *; omega
      · split
        · have := ih (x :: a) b; simp at *; omega
        · have := ih a b
          split <;> simp at * <;> omega
theorem diffM_len (a b : List Ent) : (diffM a b).length ≤ a.length + b.length := by
  unfold diffM; exact diffL_le _ _ _
theorem fill_set {α : Type} (l : List α) (z : α) (k : Nat) (h : k < l.length) : (l.take k ++ List.replicate (l.length - k) z).set k l[k] = l.take (k + 1) ++ List.replicate (l.length - (k + 1)) z := by
  have h1 : l.length - k = (l.length - (k + 1)) + 1 := by omega
  rw [h1, List.replicate_succ, List.set_append_right _ _ (by simp; omega), List.take_succ_eq_append_getElem h, List.append_assoc]
  have : k - (l.take k).length = 0 := by simp; omega
  rw [this]; rfl
end Go.Proofs.Ytjhimcddgkoghaa.AM
namespace Go.Proofs.Ytjhimcddgkoghaa.AM
open Go Go.RowKit
set_option linter.unusedVariables false
set_option linter.unusedSimpArgs false
set_option maxRecDepth 100000

abbrev Cmt := List Int × List Ent
def comA (c : Cmt) : AV := .agg [.lst 1 (c.1.map intA), .lst 2 (c.2.map entA)]
theorem all_int (cs : List Int) : ∀ x ∈ cs.map intA, asz x = 1 := fun x hx => by obtain ⟨e, _, rfl⟩ := List.mem_map.1 hx; rfl
theorem flat_int (e : Int) : flatA (intA e) := by unfold intA; simp [flatA]
theorem r_cell1 {s : St} {a t l : Nat} {ob : OB} {x : AV} {Θ : Tab} (h1 : s.sl a = .optr l 0 [] 0) (ho : s.hp l = some ob) (hx : ob.xs[0]? = some x) (hk : ((Θ.look t).known && (Bool.xor (isAggA x) (Θ.look t).isAgg).not && Nat.beq (asz x) (Θ.look t).size) = true) (hd : (match x with | .v _ | .agg _ | .lst _ _ | .any => True | _ => False)) (hop : ob.e.open_ = true := by rfl) :
    RetQ Θ [.cell a t] ⟨x, []⟩ .ret s := by
  have hr : rvA s (.cell a t) = x := by
    simp only [rvA, h1, ho, hop, hx, cond_true, Option.getD_some]
  simp only [Bool.and_eq_true] at hk
  refine ⟨trivial, [], by simp, trivial, ⟨⟨hk.1.1, by rw [hr]; exact xor_not hk.1.2, by rw [hr]; exact Nat.eq_of_beq_eq_true hk.2, .inl ⟨l, ob, x, h1, ho, .inl ⟨hop, hx⟩⟩⟩, trivial⟩, trivial, ⟨.inl ?_, trivial⟩⟩
  rw [hr]
  cases x <;> first | exact ⟨rfl, rfl⟩ | exact hd.elim
attribute [local irreducible] ACode AOps AOps2 RetG RetM Pre ACG

abbrev comZ : Cmt := ([], [])
end Go.Proofs.Ytjhimcddgkoghaa.AM
namespace Go.Proofs.Ytjhimcddgkoghaa.AM
open Go Go.RowKit
set_option linter.unusedVariables false
set_option linter.unusedSimpArgs false
set_option maxRecDepth 100000
theorem hu_Edit : Try.prog.underlying 117 = some (.struct (Try.prog.fieldsOf 117)) := by kernel_rfl
theorem held_Edit : Try.prog.stoodInHeld 117 = false := by kernel_rfl
theorem guard_Edit : Try.prog.eqGuardType Try.prog.depth 117 = false := by kernel_rfl
theorem edit_eq (a b : ByteArray) (x y : Int) (g h : Bool) (w : World) : (Op.equalIn 10000 117 (.agg #[.string a, .int .i64 x, .bool g]) (.agg #[.string b, .int .i64 y, .bool h])).run Try.prog w = .ok (decide (a = b ∧ x = y ∧ g = h)) w := by
  have hf := Option.some.inj (hu_Edit.symm.trans Try.underlying117)
  injection hf with hf
  rw [run_equalIn_struct w 9999 _ _ _ hu_Edit held_Edit, hf]
  have q0 : ∀ (s : ByteArray) (n : Int) (c : Bool) (w : World), (part 9 #[.string s, .int .i64 n, .bool c] 0).run Try.prog w = .ok (.string s) w := fun s n c w => rfl
  have q1 : ∀ (s : ByteArray) (n : Int) (c : Bool) (w : World), (part 3 #[.string s, .int .i64 n, .bool c] 1).run Try.prog w = .ok (.int .i64 n) w := fun s n c w => rfl
  have q2 : ∀ (s : ByteArray) (n : Int) (c : Bool) (w : World), (part 4 #[.string s, .int .i64 n, .bool c] 2).run Try.prog w = .ok (.bool c) w := fun s n c w => rfl
  have r0 := fun a b w => run_equalIn_string (P := Try.prog) w 9998 9 a b Try.underlying9
  have r1 := fun a b w => run_equalIn_int (P := Try.prog) w 9998 3 .i64 .i64 a b Try.underlying3
  have r2 := fun a b w => run_equalIn_bool' (P := Try.prog) w 9998 4 a b Try.underlying4
  by_cases h1 : a = b
  · subst h1
    by_cases h2 : x = y
    · subst h2
      cases g <;> cases h <;> simp [Op.eqFields, q0, q1, q2, r0, r1, r2, Result.andThen]
    · simp [Op.eqFields, q0, q1, q2, r0, r1, r2, Result.andThen, h2]
  · simp [Op.eqFields, q0, q1, q2, r0, r1, r2, Result.andThen, toList_beq, h1]
theorem edt_ext {a b : Edt} : a = b ↔ a.key = b.key ∧ a.val = b.val ∧ a.gone = b.gone := by
  cases a; cases b; simp
theorem b_edtne {a b : Edt} {x y : Operand} {r : Bool} (h : decide (a ≠ b) = r) : BinOK Try.prog .neq 117 x y (.agg #[.string a.key, .int .i64 a.val, .bool a.gone]) (.agg #[.string b.key, .int .i64 b.val, .bool b.gone]) (.bool r) := fun w => by
  rw [Sem.run_bind, run_eqGuard_agg w _ _ _ _ _ _ guard_Edit, Result.andThen_ok, run_neq_struct, edit_eq, Result.andThen_ok, ← h]
  have : decide (a.key = b.key ∧ a.val = b.val ∧ a.gone = b.gone) = decide (a = b) := by
    rw [decide_eq_decide]; exact edt_ext.symm
  rw [this]
  by_cases e : a = b <;> simp [e]
section
variable {P : Program} {Θ : Tab} {s : St} {d : Option Tmp} {ty : TypeId} {pos : String} {after : Array Edge} {g : Option (Nat × Bool)}
theorem p_binA {op : BinOp} {t t2 : TypeId} {x y : Operand} {a b r : Value} (h : BinOK P op t x y a b r) (hx : conc (s.ev x) = some a) (hy : conc (s.ev y) = some b) (h1 : r.oneCell' = true) : Pre P Θ ⟨d, .binOp op t x y t2, ty, pos, after, g⟩ s ⟨.v r, none⟩ :=
  ⟨a, b, r, hx, hy, h, h1, rfl⟩
end
section
variable {s : St} {Θ : Tab}
theorem ra_o {t l sz : Nat} {e : ET} {xs : List AV} (h : s.sl t = .own l) (ho : s.hp l = some ⟨e, sz, xs⟩) (hok : okL l = true := by rfl) (hsh : e.shut = true := by rfl) : retA s [] (s.sl t) (.lst sz xs) :=
  .inr ⟨by rw [h]; simp [isDataA, ho, hsh], by rw [h]; simp [ownsA, hok], by rw [h]; simp [St.dat, ho, hsh]⟩
theorem ra_x {t : Nat} {y : AV} (h : s.sl t = y) (hy : (match y with | .v _ | .agg _ | .lst _ _ | .any => True | _ => False)) : retA s [] (s.sl t) y := .inl (by cases y <;> first | exact ⟨h, rfl⟩ | exact hy.elim)
theorem r_tup3 {t1 t2 t3 : Nat} {y1 y2 y3 : AV} (h1 : retA s [] (s.sl t1) y1) (h2 : retA s [] (s.sl t2) y2) (h3 : retA s [] (s.sl t3) y3) : RetQ Θ [.tmp t1, .tmp t2, .tmp t3] ⟨.tup [y1, y2, y3], []⟩ .ret s :=
  ⟨trivial, [], by simp, trivial, ⟨trivial, trivial, trivial, trivial⟩, ⟨_, rfl⟩, ⟨h1, h2, h3, trivial⟩⟩
end
end Go.Proofs.Ytjhimcddgkoghaa.AM
namespace Go.Proofs.Ytjhimcddgkoghaa.AM
open Go Go.RowKit
set_option linter.unusedVariables false
set_option linter.unusedSimpArgs false
set_option maxRecDepth 100000

theorem run_beqIn {P : Program} {w : World} {t : TypeId} {a b : Bool} (d : Nat) (h : P.underlying t = some .bool) : (Op.equalIn (d + 1) t (.bool a) (.bool b)).run P w = .ok (a == b) w := by
  simp [Op.equalIn, run_underlying h]
theorem run_beq {P : Program} {w : World} {t : TypeId} {a b : Bool} (h : P.underlying t = some .bool) : (Op.equal t (.bool a) (.bool b)).run P w = .ok (a == b) w := by
  exact run_beqIn 9999 h
theorem b_bne {P : Program} {t : TypeId} {x y : Operand} {a b : Bool} (h : P.underlying t = some .bool) : BinOK P .neq t x y (.bool a) (.bool b) (.bool (a != b)) := fun w => by
  simp [eqGuard, binOp, run_beq h]; cases a <;> cases b <;> rfl
theorem p_lslm {P : Program} {Θ : Tab} {s : St} {d : Option Tmp} {ty : TypeId} {pos : String} {after : Array Edge} {g : Option (Nat × Bool)} {α : Type} {f : α → AV} {t : TypeId} {x y : Operand} {el sz b h : Nat} {k : IntKind} {z : AV} {xs : List α} (hh : h ≤ xs.length) (ht : Θ.look t = .slice el sz b z) (hx : s.ev x = .lst sz (xs.map f)) (hy : s.ev y = .v (.int k (h : Int))) : Pre P Θ ⟨d, .slice t x none (some y) none, ty, pos, after, g⟩ s ⟨.lst sz ((xs.take h).map f), none⟩ := by
  have := p_lslice (P := P) (Θ := Θ) (s := s) (d := d) (ty := ty) (pos := pos) (after := after) (g := g) (t := t) (x := x) (lo := none) (hi := some y) (l := 0) (h := h) (xs := xs.map f) (Nat.zero_le _) (by simpa using hh) ht hx rfl ⟨k, hy⟩
  rw [List.drop_zero, ← List.map_take] at this
  exact this
def parG (n : Nat) (ps : List Int) (i : Nat) : Prop := ∃ h : i < ps.length, 1 ≤ ps[i] ∧ ps[i] ≤ n ∧ ps[i] ∉ ps.take i
def parOK (n : Nat) (ps : List Int) : Prop := ps.length ≤ 2 ∧ (ps.length = 0 ↔ n = 0) ∧ ∀ i, i < ps.length → parG n ps i
open Classical in
noncomputable def parB (n : Nat) (ps : List Int) : Bool := decide (parOK n ps)
noncomputable def comB (n : Nat) (c : Cmt) : Bool := mapOK c.2 && parB n c.1
noncomputable def comsB : Nat → List Cmt → Bool
  | _, [] => true
  | n, c :: cs => comB n c && comsB (n + 1) cs
noncomputable def stoB (cs : List Cmt) : Bool := decide (1 ≤ cs.length ∧ cs.length ≤ 60) && comsB 0 cs
theorem parB_f {n : Nat} {ps : List Int} (h : ¬ parOK n ps) : parB n ps = false := by unfold parB; simpa using h
theorem parB_t {n : Nat} {ps : List Int} (h : parOK n ps) : parB n ps = true := by unfold parB; simpa using h
theorem comsB_drop {n : Nat} {cs : List Cmt} {k : Nat} (h : k < cs.length) : comsB n (cs.drop k) = (comB n cs[k] && comsB (n + 1) (cs.drop (k + 1))) := by
  rw [List.drop_eq_getElem_cons h, comsB]
attribute [local irreducible] ACode AOps AOps2 RetG RetM Pre ACG

theorem ac_in_t {x lo hi : Int} (h : lo ≤ x) (h' : x ≤ hi) : AC Try.prog 155 [.v (.int .i64 x), .v (.int .i64 lo), .v (.int .i64 hi)] ⟨.v (.bool true), []⟩ := by
  refine r_of Th_ok (by kernel_rfl) Try.func155 rfl Try.ntmps155 Try.results155 (by kernel_rfl) rfl ?_; conv => whnf
  repeat (((first | refine qb rfl rfl ?_ | refine qi (by assumption) rfl rfl ?_ | refine ql rfl ?_ | refine qo rfl rfl ?_ | refine qs rfl rfl ?_ | refine qn rfl rfl ?_); conv => whnf))
  exact r_ret1 rfl trivial
theorem ac_in_f {x lo hi : Int} (h : ¬ (lo ≤ x ∧ x ≤ hi)) : AC Try.prog 155 [.v (.int .i64 x), .v (.int .i64 lo), .v (.int .i64 hi)] ⟨.v (.bool false), []⟩ := by
  by_cases h1 : lo ≤ x
  · refine r_of Th_ok (by kernel_rfl) Try.func155 rfl Try.ntmps155 Try.results155 (by kernel_rfl) rfl ?_; conv => whnf
    repeat (((first | refine qb rfl rfl ?_ | refine qi (by assumption) rfl rfl ?_ | refine ql rfl ?_ | refine qo rfl rfl ?_ | refine qs rfl rfl ?_ | refine qn rfl rfl ?_); conv => whnf))
    exact r_ret1 rfl trivial
  · refine r_of Th_ok (by kernel_rfl) Try.func155 rfl Try.ntmps155 Try.results155 (by kernel_rfl) rfl ?_; conv => whnf
    repeat (((first | refine qb rfl rfl ?_ | refine qi (by assumption) rfl rfl ?_ | refine ql rfl ?_ | refine qo rfl rfl ?_ | refine qs rfl rfl ?_ | refine qn rfl rfl ?_); conv => whnf))
    exact r_ret1 rfl trivial

theorem ac_l03Commit {pre : List Cmt} {c : Cmt} (hn : pre.length ≤ maxLen) (hm : c.1.length ≤ maxLen) (hm2 : c.2.length ≤ maxLen) (hk : ∀ e ∈ c.2, e.1.size ≤ maxLen) : AC Try.prog 194 [.lst 2 (pre.map comA), comA c] ⟨.v (.bool (comB pre.length c)), []⟩ := by
  have hn' := hn
  unfold maxLen at hn'
  unfold comB
  cases hmo : mapOK c.2 with
  | false =>
    refine r_of Th_ok (by kernel_rfl) Try.func194 rfl Try.ntmps194 Try.results194 (by kernel_rfl) rfl ?_; conv => whnf
    repeat (first | ((first | refine qb rfl rfl ?_ | refine qi (by assumption) rfl rfl ?_ | refine ql rfl ?_ | refine qo rfl rfl ?_ | refine qs rfl rfl ?_ | refine qn rfl rfl ?_); conv => whnf) | (refine qc (ac_l01OK' hmo hm2 hk) rfl ?_; conv => whnf))
    exact r_ret1 rfl trivial
  | true =>
    rw [Bool.true_and]
    by_cases h2 : c.1.length ≤ 2
    case neg =>
      rw [parB_f (fun h => h2 h.1)]
      refine r_of Th_ok (by kernel_rfl) Try.func194 rfl Try.ntmps194 Try.results194 (by kernel_rfl) rfl ?_; conv => whnf
      repeat (first | ((first | refine qb rfl rfl ?_ | refine qi (by assumption) rfl rfl ?_ | refine ql rfl ?_ | refine qo rfl rfl ?_ | refine qs rfl rfl ?_ | refine qn rfl rfl ?_); conv => whnf) | (refine qc (ac_l01OK' hmo hm2 hk) rfl ?_; conv => whnf))
      exact r_ret1 rfl trivial
    by_cases h3 : c.1.length = 0 ↔ pre.length = 0
    case neg =>
      rw [parB_f (fun h => h3 h.2.1)]
      by_cases h4 : c.1.length = 0
      · have h5 : ¬ pre.length = 0 := fun e => h3 ⟨fun _ => e, fun _ => h4⟩
        refine r_of Th_ok (by kernel_rfl) Try.func194 rfl Try.ntmps194 Try.results194 (by kernel_rfl) rfl ?_; conv => whnf
        repeat (first | ((first | refine qb rfl rfl ?_ | refine qi (by assumption) rfl rfl ?_ | refine ql rfl ?_ | refine qo rfl rfl ?_ | refine qs rfl rfl ?_ | refine qn rfl rfl ?_); conv => whnf) | (refine qc (ac_l01OK' hmo hm2 hk) rfl ?_; conv => whnf) | (refine r_put (p_bin (b_bne Try.underlying4) rfl rfl rfl) rfl rfl ?_; conv => whnf))
        exact r_ret1 rfl trivial
      · have h5 : pre.length = 0 := Classical.byContradiction fun e => h3 ⟨fun q => absurd q h4, fun q => absurd q e⟩
        refine r_of Th_ok (by kernel_rfl) Try.func194 rfl Try.ntmps194 Try.results194 (by kernel_rfl) rfl ?_; conv => whnf
        repeat (first | ((first | refine qb rfl rfl ?_ | refine qi (by assumption) rfl rfl ?_ | refine ql rfl ?_ | refine qo rfl rfl ?_ | refine qs rfl rfl ?_ | refine qn rfl rfl ?_); conv => whnf) | (refine qc (ac_l01OK' hmo hm2 hk) rfl ?_; conv => whnf) | (refine r_put (p_bin (b_bne Try.underlying4) rfl rfl rfl) rfl rfl ?_; conv => whnf))
        exact r_ret1 rfl trivial
    have fin : ∀ k, k ≤ c.1.length → ¬ k < c.1.length → (∀ i, i < k → parG pre.length c.1 i) → parB pre.length c.1 = true := fun k h1 h2' h3' => parB_t ⟨h2, h3, fun i hi => h3' i (by omega)⟩
    have bad : ∀ k, k < c.1.length → ¬ parG pre.length c.1 k → parB pre.length c.1 = false := fun k h1 h2' => parB_f (fun h => h2' (h.2.2 k h1))
    by_cases h4 : c.1.length = 0
    · have h5 : pre.length = 0 := h3.1 h4
      rw [fin 0 (by omega) (by omega) (fun i h => by omega)]
      refine r_of Th_ok (by kernel_rfl) Try.func194 rfl Try.ntmps194 Try.results194 (by kernel_rfl) rfl ?_; conv => whnf
      repeat (first | ((first | refine qb rfl rfl ?_ | refine qi (by assumption) rfl rfl ?_ | refine ql rfl ?_ | refine qo rfl rfl ?_ | refine qs rfl rfl ?_ | refine qn rfl rfl ?_); conv => whnf) | (refine qc (ac_l01OK' hmo hm2 hk) rfl ?_; conv => whnf) | (refine r_put (p_bin (b_bne Try.underlying4) rfl rfl rfl) rfl rfl ?_; conv => whnf))
      refine r_loop (ι := Unit) (fun _ => ⟨[(5, .v (.int .i64 (c.1.length : Int))), (6, .v (.int .i64 0))], []⟩) (fun _ => 0) () ⟨trivial, .inl ⟨rfl, rfl⟩, .inl ⟨rfl, rfl⟩, trivial⟩ ?_
      rintro ⟨⟩
      conv => whnf
      repeat (((first | refine qb rfl rfl ?_ | refine qi (by assumption) rfl rfl ?_ | refine ql rfl ?_ | refine qo rfl rfl ?_ | refine qs rfl rfl ?_ | refine qn rfl rfl ?_); conv => whnf))
      exact r_ret1 rfl trivial
    · have h5 : ¬ pre.length = 0 := fun e => h4 (h3.2 e)
      refine r_of Th_ok (by kernel_rfl) Try.func194 rfl Try.ntmps194 Try.results194 (by kernel_rfl) rfl ?_; conv => whnf
      repeat (first | ((first | refine qb rfl rfl ?_ | refine qi (by assumption) rfl rfl ?_ | refine ql rfl ?_ | refine qo rfl rfl ?_ | refine qs rfl rfl ?_ | refine qn rfl rfl ?_); conv => whnf) | (refine qc (ac_l01OK' hmo hm2 hk) rfl ?_; conv => whnf) | (refine r_put (p_bin (b_bne Try.underlying4) rfl rfl rfl) rfl rfl ?_; conv => whnf))
      refine r_loop (ι := { k : Nat // k ≤ c.1.length ∧ ∀ i, i < k → parG pre.length c.1 i }) (fun k => ⟨[(0, .lst 2 (pre.map comA)), (3, .optr 4 0 [] 0), (5, .v (.int .i64 (c.1.length : Int))), (6, .v (.int .i64 (k.1 : Int)))], [(4, ⟨142, 2, [comA c]⟩)]⟩) (fun k => c.1.length - k.1) ⟨0, Nat.zero_le _, fun i h => by omega⟩ ⟨⟨rfl, trivial⟩, .inl ⟨rfl, rfl⟩, .inl ⟨rfl, rfl⟩, .inl ⟨rfl, rfl⟩, .inl ⟨rfl, rfl⟩, trivial⟩ ?_
      rintro ⟨k, hk', hg⟩
      dsimp only at hk' hg ⊢
      conv => whnf
      by_cases hlt : k < c.1.length
      case neg =>
        rw [fin k hk' hlt hg]
        repeat (((first | refine qb rfl rfl ?_ | refine qi (by assumption) rfl rfl ?_ | refine ql rfl ?_ | refine qo rfl rfl ?_ | refine qs rfl rfl ?_ | refine qn rfl rfl ?_); conv => whnf))
        exact r_ret1 rfl trivial
      have h0 : 0 < c.1.length := by omega
      by_cases hin : 1 ≤ c.1[k] ∧ c.1[k] ≤ (pre.length : Int)
      case neg =>
        rw [bad k hlt (fun ⟨_, q1, q2, _⟩ => hin ⟨q1, q2⟩)]
        repeat (((first | refine qb rfl rfl ?_ | refine qi (by assumption) rfl rfl ?_ | refine ql rfl ?_ | refine qo rfl rfl ?_ | refine qs rfl rfl ?_ | refine qn rfl rfl ?_); conv => whnf))
        refine .inl ⟨by kernel_rfl, ?_⟩
        conv => whnf
        repeat (first | ((first | refine qb rfl rfl ?_ | refine qi (by assumption) rfl rfl ?_ | refine ql rfl ?_ | refine qo rfl rfl ?_ | refine qs rfl rfl ?_ | refine qn rfl rfl ?_); conv => whnf) | (refine qc (ac_in_f hin) rfl ?_; conv => whnf))
        exact r_ret1 rfl trivial
      by_cases hk0 : k = 0
      · subst hk0
        repeat (((first | refine qb rfl rfl ?_ | refine qi (by assumption) rfl rfl ?_ | refine ql rfl ?_ | refine qo rfl rfl ?_ | refine qs rfl rfl ?_ | refine qn rfl rfl ?_); conv => whnf))
        refine .inl ⟨by kernel_rfl, ?_⟩
        conv => whnf
        repeat (first | ((first | refine qb rfl rfl ?_ | refine qi (by assumption) rfl rfl ?_ | refine ql rfl ?_ | refine qo rfl rfl ?_ | refine qs rfl rfl ?_ | refine qn rfl rfl ?_); conv => whnf) | (refine qc (ac_in_t hin.1 hin.2) rfl ?_; conv => whnf))
        exact ⟨⟨0 + 1, hlt, fun i hi => by
          have : i = 0 := by omega
          subst this; exact ⟨hlt, hin.1, hin.2, by simp⟩⟩, by refine ⟨?_, ?_⟩ <;> (repeat (first | trivial | exact ⟨rfl, trivial⟩ | refine ⟨rfl, ?_⟩ | refine ⟨.inl ⟨rfl, rfl⟩, ?_⟩ | refine ⟨.inr ⟨_, _, rfl, rfl, rfl, rfl, rfl⟩, ?_⟩)), by simp; omega⟩
      · have hk1 : k = 1 := by omega
        subst hk1
        have htk : c.1.take 1 = [c.1[0]] := by
          rw [show (1 : Nat) = 0 + 1 from rfl, List.take_succ_eq_append_getElem h0]; simp
        by_cases hne : c.1[1] = c.1[0]
        · rw [bad 1 hlt (fun ⟨_, _, _, q⟩ => q (by rw [htk, hne]; simp))]
          repeat (((first | refine qb rfl rfl ?_ | refine qi (by assumption) rfl rfl ?_ | refine ql rfl ?_ | refine qo rfl rfl ?_ | refine qs rfl rfl ?_ | refine qn rfl rfl ?_); conv => whnf))
          refine .inl ⟨by kernel_rfl, ?_⟩
          conv => whnf
          repeat (first | ((first | refine qb rfl rfl ?_ | refine qi (by assumption) rfl rfl ?_ | refine ql rfl ?_ | refine qo rfl rfl ?_ | refine qs rfl rfl ?_ | refine qn rfl rfl ?_); conv => whnf) | (refine qc (ac_in_t hin.1 hin.2) rfl ?_; conv => whnf) | (refine r_put (p_idx (j := 0) (getA _ h0) rfl rfl rfl) rfl rfl ?_; conv => whnf))
          exact r_ret1 rfl trivial
        · repeat (((first | refine qb rfl rfl ?_ | refine qi (by assumption) rfl rfl ?_ | refine ql rfl ?_ | refine qo rfl rfl ?_ | refine qs rfl rfl ?_ | refine qn rfl rfl ?_); conv => whnf))
          refine .inl ⟨by kernel_rfl, ?_⟩
          conv => whnf
          repeat (first | ((first | refine qb rfl rfl ?_ | refine qi (by assumption) rfl rfl ?_ | refine ql rfl ?_ | refine qo rfl rfl ?_ | refine qs rfl rfl ?_ | refine qn rfl rfl ?_); conv => whnf) | (refine qc (ac_in_t hin.1 hin.2) rfl ?_; conv => whnf) | (refine r_put (p_idx (j := 0) (getA _ h0) rfl rfl rfl) rfl rfl ?_; conv => whnf))
          exact ⟨⟨1 + 1, hlt, fun i hi => by
            rcases Nat.lt_or_ge i 1 with h | h
            · exact hg i h
            · have : i = 1 := by omega
              subst this; exact ⟨hlt, hin.1, hin.2, by rw [htk]; simpa using hne⟩⟩, by refine ⟨?_, ?_⟩ <;> (repeat (first | trivial | exact ⟨rfl, trivial⟩ | refine ⟨rfl, ?_⟩ | refine ⟨.inl ⟨rfl, rfl⟩, ?_⟩ | refine ⟨.inr ⟨_, _, rfl, rfl, rfl, rfl, rfl⟩, ?_⟩)), by simp; omega⟩

theorem ac_l03OK {cs : List Cmt} (hn : cs.length ≤ maxLen) (hc : ∀ c ∈ cs, c.1.length ≤ maxLen ∧ c.2.length ≤ maxLen ∧ ∀ e ∈ c.2, e.1.size ≤ maxLen) : AC Try.prog 193 [.lst 2 (cs.map comA)] ⟨.v (.bool (stoB cs)), []⟩ := by
  have hn' := hn
  unfold maxLen at hn'
  unfold stoB
  by_cases hin : (1 : Int) ≤ (cs.length : Int) ∧ (cs.length : Int) ≤ 60
  case neg =>
    have : decide (1 ≤ cs.length ∧ cs.length ≤ 60) = false := by simp; omega
    rw [this, Bool.false_and]
    refine r_of Th_ok (by kernel_rfl) Try.func193 rfl Try.ntmps193 Try.results193 (by kernel_rfl) rfl ?_; conv => whnf
    repeat (first | ((first | refine qb rfl rfl ?_ | refine qi (by assumption) rfl rfl ?_ | refine ql rfl ?_ | refine qo rfl rfl ?_ | refine qs rfl rfl ?_ | refine qn rfl rfl ?_); conv => whnf) | (refine qc (ac_in_f hin) rfl ?_; conv => whnf))
    exact r_ret1 rfl trivial
  have : decide (1 ≤ cs.length ∧ cs.length ≤ 60) = true := by simp; omega
  rw [this, Bool.true_and]
  refine r_of Th_ok (by kernel_rfl) Try.func193 rfl Try.ntmps193 Try.results193 (by kernel_rfl) rfl ?_; conv => whnf
  repeat (first | ((first | refine qb rfl rfl ?_ | refine qi (by assumption) rfl rfl ?_ | refine ql rfl ?_ | refine qo rfl rfl ?_ | refine qs rfl rfl ?_ | refine qn rfl rfl ?_); conv => whnf) | (refine qc (ac_in_t hin.1 hin.2) rfl ?_; conv => whnf))
  refine r_loop (ι := { k : Nat // k ≤ cs.length ∧ comsB k (cs.drop k) = comsB 0 cs }) (fun k => ⟨[(0, .lst 2 (cs.map comA)), (3, .v (.int .i64 (k.1 : Int)))], []⟩) (fun k => cs.length - k.1) ⟨0, Nat.zero_le _, rfl⟩ (by refine ⟨?_, ?_⟩ <;> (repeat (first | trivial | exact ⟨rfl, trivial⟩ | refine ⟨rfl, ?_⟩ | refine ⟨.inl ⟨rfl, rfl⟩, ?_⟩ | refine ⟨.inr ⟨_, _, rfl, rfl, rfl, rfl, rfl⟩, ?_⟩))) ?_
  rintro ⟨k, hk', hd⟩
  dsimp only at hk' hd ⊢
  conv => whnf
  by_cases hlt : k < cs.length
  case neg =>
    rw [← hd, List.drop_eq_nil_of_le (by omega)]
    repeat (((first | refine qb rfl rfl ?_ | refine qi (by assumption) rfl rfl ?_ | refine ql rfl ?_ | refine qo rfl rfl ?_ | refine qs rfl rfl ?_ | refine qn rfl rfl ?_); conv => whnf))
    exact r_ret1 rfl trivial
  obtain ⟨q1, q2, q3⟩ := hc _ (List.getElem_mem hlt)
  rw [comsB_drop hlt] at hd
  have hl : (cs.take k).length = k := by simp; omega
  have hac := ac_l03Commit (pre := cs.take k) (c := cs[k]) (by omega) q1 q2 q3
  rw [hl] at hac
  cases hb : comB k cs[k] with
  | false =>
    rw [hb, Bool.false_and] at hd
    rw [hb] at hac
    rw [← hd]
    repeat (((first | refine qb rfl rfl ?_ | refine qi (by assumption) rfl rfl ?_ | refine ql rfl ?_ | refine qo rfl rfl ?_ | refine qs rfl rfl ?_ | refine qn rfl rfl ?_); conv => whnf))
    refine .inl ⟨by kernel_rfl, ?_⟩
    conv => whnf
    repeat (first | ((first | refine qb rfl rfl ?_ | refine qi (by assumption) rfl rfl ?_ | refine ql rfl ?_ | refine qo rfl rfl ?_ | refine qs rfl rfl ?_ | refine qn rfl rfl ?_); conv => whnf) | (refine qc (hac) rfl ?_; conv => whnf) | (refine r_put (p_lslm (h := k) (xs := cs) (f := comA) (by omega) rfl rfl rfl) rfl rfl ?_; conv => whnf))
    exact r_ret1 rfl trivial
  | true =>
    rw [hb, Bool.true_and] at hd
    rw [hb] at hac
    repeat (((first | refine qb rfl rfl ?_ | refine qi (by assumption) rfl rfl ?_ | refine ql rfl ?_ | refine qo rfl rfl ?_ | refine qs rfl rfl ?_ | refine qn rfl rfl ?_); conv => whnf))
    refine .inl ⟨by kernel_rfl, ?_⟩
    conv => whnf
    repeat (first | ((first | refine qb rfl rfl ?_ | refine qi (by assumption) rfl rfl ?_ | refine ql rfl ?_ | refine qo rfl rfl ?_ | refine qs rfl rfl ?_ | refine qn rfl rfl ?_); conv => whnf) | (refine qc (hac) rfl ?_; conv => whnf) | (refine r_put (p_lslm (h := k) (xs := cs) (f := comA) (by omega) rfl rfl rfl) rfl rfl ?_; conv => whnf))
    exact ⟨⟨k + 1, hlt, hd⟩, by refine ⟨?_, ?_⟩ <;> (repeat (first | trivial | exact ⟨rfl, trivial⟩ | refine ⟨rfl, ?_⟩ | refine ⟨.inl ⟨rfl, rfl⟩, ?_⟩ | refine ⟨.inr ⟨_, _, rfl, rfl, rfl, rfl, rfl⟩, ?_⟩)), by simp; omega⟩
end Go.Proofs.Ytjhimcddgkoghaa.AM
namespace Go.Proofs.Ytjhimcddgkoghaa.AM
open Go Go.RowKit
set_option linter.unusedVariables false
set_option linter.unusedSimpArgs false
set_option maxRecDepth 100000

structure Rf where
  name : ByteArray
  head : Int
  ver : Int
  gone : Bool
def refA (r : Rf) : AV := .agg [.v (.string r.name), .v (.int .i64 r.head), .v (.int .i64 r.ver), .v (.bool r.gone)]
theorem flat_ref (e : Rf) : flatA (refA e) := by unfold refA; simp [flatA, flatL]
attribute [local irreducible] ACode AOps AOps2 RetG RetM Pre ACG

end Go.Proofs.Ytjhimcddgkoghaa.AM
namespace Go.Proofs.Ytjhimcddgkoghaa
open Go.RowKit Go.ChangeShapes Go.WideShapes Go.Deep

section
variable {H : Type} {enc : TypeId × Value → H} {P : Program} {w : World} {base : Nat} {held : Bool}
end
end Go.Proofs.Ytjhimcddgkoghaa
namespace Go.Proofs.Ytjhimcddgkoghaa
open Go.RowKit Go.ChangeShapes Go.WideShapes Go.Deep

section
variable {H : Type} {enc : TypeId × Value → H} {P : Program} {w : World} {base : Nat} {held : Bool}
theorem open_bytes_ {t e : TypeId} {A : Option Addr} {n c : Nat} {d : DataW H} {p : List MemPlace} (ht : P.underlying t = some (.slice e)) (he : P.underlying e = some (.int .u8)) (hC : P.cellsOf e = 1)
    (h : DataW.Trod enc P w base (fun _ => true) held t (.slice A n c) d p) :
    ∃ bs : List UInt8, Rd w 1 A n (bs.map fun b => .int .u8 b.toNat) ∧ n ≤ maxLen := by
  obtain ⟨fuel, hf⟩ := h
  rcases open_ints ht he hC hf with ⟨hcs, _⟩ | ⟨a, len, cap, zs, hcs, _, hl, hm, hzl, _, hcell, hwf⟩
  · simp [Value.cells] at hcs
    obtain ⟨rfl, rfl, rfl⟩ := hcs
    exact ⟨[], ⟨by simp, fun h => absurd h (by omega)⟩, Nat.zero_le _⟩
  · simp [Value.cells] at hcs
    obtain ⟨rfl, rfl, rfl⟩ := hcs
    simp at hzl
    refine ⟨(zs.take n).map fun z => UInt8.ofNat z.toNat, ⟨by simp; omega, fun hn => ?_⟩, Nat.le_trans hl hm⟩
    have h0 := hcell 0 (by omega)
    rw [add_zero_] at h0
    have hsp := spot_of_cell h0
    obtain ⟨b, off, sp⟩ := a
    simp at hsp
    subst hsp
    have hadd : ∀ j, (⟨b, off, none⟩ : Addr).add j = ⟨b, off + j, none⟩ := fun j => by unfold Addr.add; split <;> simp_all
    refine ⟨b, off, rfl, World.block_lt_of_cell? w _ h0, fun j u hu => ?_⟩
    rw [List.map_map, List.getElem?_map] at hu
    have hj : j < (zs.take n).length := by
      rcases Nat.lt_or_ge j (zs.take n).length with h | h
      · exact h
      · rw [List.getElem?_eq_none h] at hu; cases hu
    rw [List.getElem?_eq_getElem hj] at hu
    have hjz : j < zs.length := by rw [List.length_take] at hj; omega
    have hz : (zs.take n)[j] = zs[j] := by simp
    rw [hz] at hu
    have hc := hcell j hjz
    rw [hadd] at hc
    rw [hc, ← Option.some.inj hu]
    have hw := hwf zs[j] (List.getElem_mem hjz)
    have hr : 0 ≤ zs[j] ∧ zs[j] ≤ 255 := by simpa [Lit.wf, IntKind.min, IntKind.max, IntKind.signed, IntKind.bits] using hw
    have e1 : zs.getD j 0 = zs[j] := by simp [hjz]
    rw [e1]
    have e2 : ((UInt8.ofNat zs[j].toNat).toNat : Int) = zs[j] := by
      have : (UInt8.ofNat zs[j].toNat).toNat = zs[j].toNat := by
        rw [UInt8.toNat_ofNat']; exact Nat.mod_eq_of_lt (by omega)
      rw [this]; omega
    simp only [Function.comp, e2]
end
end Go.Proofs.Ytjhimcddgkoghaa
namespace Go.Proofs.Ytjhimcddgkoghaa.AM
open Go Go.RowKit
set_option linter.unusedVariables false
set_option linter.unusedSimpArgs false
set_option maxRecDepth 100000
def bytA (b : UInt8) : AV := .v (.int .u8 b.toNat)
theorem all_byt (l : List UInt8) : ∀ x ∈ l.map bytA, asz x = 1 := fun x hx => by obtain ⟨_, _, rfl⟩ := List.mem_map.1 hx; rfl
theorem rl_byts {S : Nat → Prop} {w : World} : ∀ (l : List UInt8), RL S w (l.map bytA) (l.map fun b => .int .u8 b.toNat)
  | [] => by simp only [List.map_nil]; exact rl_nil
  | x :: l => by simp only [List.map_cons]; exact rl_cons (c1 := [_]) (ra_v rfl) (rl_byts l)
theorem rv_byts {w : World} {hp : Nat → Option OB} {B : Nat → Nat} {V : Nat → Value} {A : Option Addr} {n c : Nat} {bs : List UInt8} (hc : n ≤ c ∧ c ≤ maxLen) (h : Rd w 1 A n (bs.map fun b => .int .u8 b.toNat)) : RV (InW w) w hp B V (.lst 1 (bs.map bytA)) (.slice A n c) := by
  have hl : bs.length = n := by have := h.1; simpa using this
  unfold RV RA
  refine ⟨A, c, by rw [List.length_map, hl], by rw [List.length_map, hl]; exact hc.1, hc.2, all_byt bs, by omega, ?_⟩
  rcases Nat.eq_zero_or_pos n with h0 | h0
  · left
    rw [List.eq_nil_of_length_eq_zero (hl.trans h0)]; rfl
  · obtain ⟨b, off, rfl, hlt, hcl⟩ := rd_at h h0
    exact .inr ⟨b, off, _, rfl, hlt, rl_byts bs, hcl⟩
structure Src where
  at_ : Nat
  seed : Int
def srcA (c : List UInt8) (s : Src) : AV := .agg [.lst 1 (c.map bytA), .v (.int .i64 s.at_), .v (.int .i64 s.seed)]
abbrev srcO (c : List UInt8) (s : Src) : OB := ⟨265, 3, [srcA c s]⟩
def Src.ok (s : Src) (K : Nat) : Prop := s.at_ ≤ K ∧ 0 ≤ s.seed ∧ s.seed < 2147483648
def stepS (x : Int) : Int := x % 2147483648
theorem stepS_lt (x : Int) : 0 ≤ stepS x ∧ stepS x < 2147483648 := ⟨Int.emod_nonneg _ (by decide), Int.emod_lt_of_pos _ (by decide)⟩
/-- a byte of the source -/
def byteS (c : List UInt8) (s : Src) : Int × Src :=
  if h : s.at_ < c.length then (((c[s.at_]).toNat : Int), ⟨s.at_ + 1, stepS (s.seed * 31 + ((c[s.at_]).toNat : Int) + 7)⟩)
  else if 3000 < s.at_ + 1 then (0, ⟨s.at_ + 1, s.seed⟩)
  else (stepS (s.seed * 1103515245 + 12345) / 65536 % 256, ⟨s.at_ + 1, stepS (s.seed * 1103515245 + 12345)⟩)
theorem byteS_ok {c : List UInt8} {s : Src} {K : Nat} (h : s.ok K) : (byteS c s).2.ok (K + 1) ∧ 0 ≤ (byteS c s).1 ∧ (byteS c s).1 < 256 := by
  obtain ⟨h1, h2, h3⟩ := h
  unfold byteS
  split
  · rename_i hl
    refine ⟨⟨by simp; omega, (stepS_lt _).1, (stepS_lt _).2⟩, by simp, ?_⟩
    have := (c[s.at_]).toNat_lt
    show ((c[s.at_]).toNat : Int) < 256
    omega
  · split
    · exact ⟨⟨by simp; omega, h2, h3⟩, by simp, by simp⟩
    · exact ⟨⟨by simp; omega, (stepS_lt _).1, (stepS_lt _).2⟩, Int.emod_nonneg _ (by decide), Int.emod_lt_of_pos _ (by decide)⟩
section
variable {P : Program} {t : TypeId} {x y : Operand} {a b c : Int}
theorem b_rem2 (h0 : 0 ≤ a) (hb : 0 < b) (hc : a % b = c) : BinOK P .rem t x y (.int .i64 a) (.int .i64 b) (.int .i64 c) := fun w => by
  have hb0 : b ≠ 0 := by omega
  have hr : (Op.intDiv .rem .i64 a b).run P w = .ok (.int .i64 (a.tmod b)) w := by simp [Op.intDiv, hb0]
  subst hc
  rw [← Int.tmod_eq_emod_of_nonneg h0]
  simp [eqGuard, binOp, hr]
theorem b_quo2 (h0 : 0 ≤ a) (h1 : a ≤ 9223372036854775807) (hb : 1 < b) (hc : a / b = c) : BinOK P .quo t x y (.int .i64 a) (.int .i64 b) (.int .i64 c) := fun w => by
  have hb0 : b ≠ 0 := by omega
  have hle : a / b ≤ a := Int.ediv_le_self b h0
  have hnn : 0 ≤ a / b := Int.ediv_nonneg h0 (by omega)
  have hw : IntKind.i64.wrap (a.tdiv b) = c := by rw [Int.tdiv_eq_ediv_of_nonneg h0, IntKind.wrap_i64, hc]; omega
  have hr : (Op.intDiv .quo .i64 a b).run P w = .ok (.int .i64 c) w := by simp [Op.intDiv, hb0, hw]
  simp [eqGuard, binOp, hr]
theorem b_mul2 (h : a * b = c) (hl : -9223372036854775808 ≤ c) (hu : c ≤ 9223372036854775807) : BinOK P .mul t x y (.int .i64 a) (.int .i64 b) (.int .i64 c) := fun w => by
  have hw : IntKind.i64.wrap (a * b) = c := by rw [IntKind.wrap_i64, h]; omega
  simp [eqGuard, binOp, Op.intArith, hw]
end
theorem p_conv8 {Θ : Tab} {s : St} {d : Option Tmp} {ty : TypeId} {pos : String} {after : Array Edge} {g : Option (Nat × Bool)} {x : Operand} {n : Nat} (hx : s.ev x = .v (.int .u8 (n : Int))) (hn : n < 256) : Pre Try.prog Θ ⟨d, .convert 5 3 x, ty, pos, after, g⟩ s ⟨.v (.int .i64 (n : Int)), none⟩ := by
  refine ⟨.int .u8 n, .int .i64 n, by rw [hx]; rfl, fun w => ?_, rfl, rfl⟩
  have hw : IntKind.i64.wrap (n : Int) = n := by rw [IntKind.wrap_i64]; omega
  have h1 : (underlying 5).run Try.prog w = .ok (.int .u8) w := run_underlying Try.underlying5 w
  have h2 : (underlying 3).run Try.prog w = .ok (.int .i64) w := run_underlying Try.underlying3 w
  simp [convert, h1, h2, Conv.intToInt, hw]
theorem r_ret1s {s : St} {Θ : Tab} {r : Nat} {v : Value} {o1 : OB} (h1 : s.sl r = .v v) (h2 : s.hp 0 = some o1) : RetG Θ [.tmp r] [o1] ⟨.v v, []⟩ .ret s := ⟨⟨h2, trivial⟩, [], by simp, trivial, ⟨trivial, trivial⟩, trivial, ⟨.inl ⟨h1, rfl⟩, trivial⟩⟩
attribute [local irreducible] ACode AOps AOps2 RetG RetM Pre ACG
set_option maxHeartbeats 8000000 in
theorem ac_byte {c : List UInt8} {s : Src} {K : Nat} (hc : c.length ≤ maxLen) (hs : s.ok K) (hK : K ≤ 1000000000) : ACG Try.prog 261 [.optr 0 0 [] 0] [srcO c s] [srcO c (byteS c s).2] ⟨.v (.int .i64 (byteS c s).1), []⟩ := by
  unfold maxLen at hc
  obtain ⟨h1, h2, h3⟩ := hs
  have hlen : (s.at_ + 1 : Nat) ≤ 1000000001 := by omega
  unfold byteS
  refine acg_of (rs := [.tmp 2]) Th_ok (by kernel_rfl) Try.func261 rfl Try.ntmps261 (by rw [Try.results261]) (by kernel_rfl) (by simp) rfl rfl (runC_sound _ _ _ ?_)
  conv => whnf
  by_cases h : s.at_ < c.length
  · rw [dif_pos h]
    have hb : (c[s.at_]).toNat < 256 := (c[s.at_]).toNat_lt
    repeat (first | (refine r_put (p_bin (b_add (c := ((s.at_ + 1 : Nat) : Int)) (by omega) (by omega) (by omega)) rfl rfl rfl) rfl rfl ?_; conv => whnf) | (refine r_put (p_bin (b_sub (c := (s.at_ : Int)) (by omega) (by omega) (by omega)) rfl rfl rfl) rfl rfl ?_; conv => whnf) | (refine r_put (p_bin (b_mul2 rfl (by omega) (by omega)) rfl rfl rfl) rfl rfl ?_; conv => whnf) | (refine r_put (p_bin (b_rem2 (by omega) (by omega) rfl) rfl rfl rfl) rfl rfl ?_; conv => whnf) | (refine r_put (p_conv8 rfl hb) rfl rfl ?_; conv => whnf) | ((first | refine qb rfl rfl ?_ | refine qi (by assumption) rfl rfl ?_ | refine ql rfl ?_ | refine qo rfl rfl ?_ | refine qs rfl rfl ?_ | refine qn rfl rfl ?_); conv => whnf) | (refine .inl (And.intro (by kernel_rfl) ?_); conv => whnf) | (refine r_step (p_ostore rfl rfl rfl rfl rfl (by conv => lhs; whnf) rfl) rfl rfl (fun e => by first | exact .inl rfl | contradiction | exact .inr (.inl (by kernel_rfl))) ?_; conv => whnf))
    exact r_ret1s rfl rfl
  rw [dif_neg h]
  by_cases h3 : 3000 < s.at_ + 1
  · rw [if_pos h3]
    repeat (first | (refine r_put (p_bin (b_add (c := ((s.at_ + 1 : Nat) : Int)) (by omega) (by omega) (by omega)) rfl rfl rfl) rfl rfl ?_; conv => whnf) | ((first | refine qb rfl rfl ?_ | refine qi (by assumption) rfl rfl ?_ | refine ql rfl ?_ | refine qo rfl rfl ?_ | refine qs rfl rfl ?_ | refine qn rfl rfl ?_); conv => whnf) | (refine .inl (And.intro (by kernel_rfl) ?_); conv => whnf) | (refine r_step (p_ostore rfl rfl rfl rfl rfl (by conv => lhs; whnf) rfl) rfl rfl (fun e => by first | exact .inl rfl | contradiction | exact .inr (.inl (by kernel_rfl))) ?_; conv => whnf))
    exact r_ret1s rfl rfl
  · rw [if_neg h3]
    have hst := stepS_lt (s.seed * 1103515245 + 12345)
    repeat (first | (refine r_put (p_bin (b_add (c := ((s.at_ + 1 : Nat) : Int)) (by omega) (by omega) (by omega)) rfl rfl rfl) rfl rfl ?_; conv => whnf) | (refine r_put (p_bin (b_mul2 rfl (by omega) (by omega)) rfl rfl rfl) rfl rfl ?_; conv => whnf) | (refine r_put (p_bin (b_rem2 (c := stepS (s.seed * 1103515245 + 12345)) (by omega) (by omega) rfl) rfl rfl rfl) rfl rfl ?_; conv => whnf) | (refine r_put (p_bin (b_quo2 hst.1 (by omega) (by omega) rfl) rfl rfl rfl) rfl rfl ?_; conv => whnf) | (refine r_put (p_bin (b_rem2 (Int.ediv_nonneg hst.1 (by decide)) (by omega) rfl) rfl rfl rfl) rfl rfl ?_; conv => whnf) | ((first | refine qb rfl rfl ?_ | refine qi (by assumption) rfl rfl ?_ | refine ql rfl ?_ | refine qo rfl rfl ?_ | refine qs rfl rfl ?_ | refine qn rfl rfl ?_); conv => whnf) | (refine .inl (And.intro (by kernel_rfl) ?_); conv => whnf) | (refine r_step (p_ostore rfl rfl rfl rfl rfl (by conv => lhs; whnf) rfl) rfl rfl (fun e => by first | exact .inl rfl | contradiction | exact .inr (.inl (by kernel_rfl))) ?_; conv => whnf))
    exact r_ret1s rfl rfl
end Go.Proofs.Ytjhimcddgkoghaa.AM
namespace Go.Proofs.Ytjhimcddgkoghaa

/-- the keys and values of a list of edits -/
def kv (es : List Edt) : List Ent := es.map fun e => (e.key, e.val)
theorem kv_length (es : List Edt) : (kv es).length = es.length := by simp [kv]
def edtB (e : Edt) : Bool := valB e.val && (!e.gone || decide (e.val = 0))
def edtAt (es : List Edt) (i : Nat) : Bool := edtB (es.getD i ⟨ByteArray.empty, 0, false⟩)
theorem edtAt_eq (es : List Edt) (k : Nat) (h : k < es.length) : edtAt es k = (valB es[k].val && (!es[k].gone || decide (es[k].val = 0))) := by simp [edtAt, edtB, h]
def edtsM (es : List Edt) : Bool := (List.range es.length).all (edtAt es)
def editsOK (es : List Edt) : Bool := decide (es.length ≤ 6) && (ordM (kv es) && edtsM es)
theorem edtsM_of {es : List Edt} (h : ∀ i, i < es.length → edtAt es i = true) : edtsM es = true := by
  rw [edtsM, List.all_eq_true]; intro i hi; exact h i (List.mem_range.1 hi)
theorem editsOK_of {es : List Edt} (h0 : es.length ≤ 6) (h : ∀ i, i < es.length → ordAt (kv es) i = true ∧ edtAt es i = true) : editsOK es = true := by
  rw [editsOK, ordM_of (fun i hi => (h i (by rw [kv_length] at hi; exact hi)).1), edtsM_of fun i hi => (h i hi).2, decide_eq_true h0]; rfl
end Go.Proofs.Ytjhimcddgkoghaa
namespace Go.Proofs.Ytjhimcddgkoghaa

def applyOne (m : List Ent) (e : Edt) : List Ent := if e.gone then delL m e.key else putL m e.key e.val
def applyL (es : List Ent) (xs : List Edt) : List Ent := xs.foldl applyOne es
theorem applyL_succ (es : List Ent) (xs : List Edt) (k : Nat) (h : k < xs.length) : applyL es (xs.take (k + 1)) = applyOne (applyL es (xs.take k)) xs[k] := by
  rw [applyL, List.take_succ_eq_append_getElem h, List.foldl_append]; rfl
theorem applyL_gone (es : List Ent) (xs : List Edt) (k : Nat) (h : k < xs.length) (hg : xs[k].gone = true) : applyL es (xs.take (k + 1)) = delL (applyL es (xs.take k)) xs[k].key := by
  rw [applyL_succ es xs k h, applyOne, hg]; rfl
theorem applyL_put (es : List Ent) (xs : List Edt) (k : Nat) (h : k < xs.length) (hg : xs[k].gone = false) : applyL es (xs.take (k + 1)) = putL (applyL es (xs.take k)) xs[k].key xs[k].val := by
  rw [applyL_succ es xs k h, applyOne, hg]; rfl
theorem putL_length (es : List Ent) (k : ByteArray) (v : Int) : (putL es k v).length ≤ es.length + 1 := by
  have h1 : es.length = (es.takeWhile fun e => klt e.1 k).length + (es.dropWhile fun e => klt e.1 k).length := by
    rw [← List.length_append, List.takeWhile_append_dropWhile]
  rw [putL, List.length_append, List.length_cons]
  exact Nat.le_trans (Nat.add_le_add_left (Nat.succ_le_succ (List.length_filter_le _ _)) _) (by omega)
theorem delL_length (es : List Ent) (k : ByteArray) : (delL es k).length ≤ es.length := List.length_filter_le _ _
theorem applyL_length (es : List Ent) (xs : List Edt) : (applyL es xs).length ≤ es.length + xs.length := by
  induction xs generalizing es with
  | nil => exact Nat.le_refl _
  | cons x r ih =>
    have h := ih (applyOne es x)
    have h1 : (applyOne es x).length ≤ es.length + 1 := by
      unfold applyOne
      split
      · have := delL_length es x.key; omega
      · exact putL_length _ _ _
    show (applyL (applyOne es x) r).length ≤ es.length + (r.length + 1)
    omega
theorem putL_cons_lt (e : Ent) (r : List Ent) (k : ByteArray) (v : Int) (h : klt e.1 k = true) : putL (e :: r) k v = e :: putL r k v := by simp [putL, h]
theorem putL_cons_ge (e : Ent) (r : List Ent) (k : ByteArray) (v : Int) (h : klt e.1 k = false) : putL (e :: r) k v = (k, v) :: (e :: r).filter (fun e => decide (e.1 ≠ k)) := by
  rw [putL, List.takeWhile_cons_of_neg (by simp [h]), List.dropWhile_cons_of_neg (by simp [h])]; rfl
theorem mem_putL {es : List Ent} {k : ByteArray} {v : Int} {x : Ent} (h : x ∈ putL es k v) : x = (k, v) ∨ x ∈ es := by
  rw [putL, List.mem_append, List.mem_cons] at h
  rcases h with h | h | h
  · exact .inr ((List.takeWhile_sublist _).mem h)
  · exact .inl h
  · exact .inr ((List.dropWhile_sublist _).mem (List.mem_filter.1 h).1)
theorem srt_putL {es : List Ent} (h : Srt es) (k : ByteArray) (v : Int) : Srt (putL es k v) := by
  induction es with
  | nil => simp [putL, Srt]
  | cons e r ih =>
    rw [Srt, List.pairwise_cons] at h
    cases hk : klt e.1 k with
    | true =>
      rw [putL_cons_lt e r k v hk, Srt, List.pairwise_cons]
      refine ⟨fun x hx => ?_, ih h.2⟩
      rcases mem_putL hx with rfl | hx
      · exact hk
      · exact h.1 x hx
    | false =>
      rw [putL_cons_ge e r k v hk, Srt, List.pairwise_cons]
      refine ⟨fun x hx => ?_, (List.pairwise_cons.2 h).filter _⟩
      rw [List.mem_filter, List.mem_cons] at hx
      obtain ⟨hx, hne⟩ := hx
      rcases hx with rfl | hx
      · exact klt_tri hk (by simpa using hne)
      · exact klt_of_le hk (h.1 x hx)
theorem srt_delL {es : List Ent} (h : Srt es) (k : ByteArray) : Srt (delL es k) := List.Pairwise.filter _ h
theorem srt_applyL {es : List Ent} (h : Srt es) (xs : List Edt) : Srt (applyL es xs) := by
  induction xs generalizing es with
  | nil => exact h
  | cons x r ih =>
    refine ih (es := applyOne es x) ?_
    unfold applyOne
    split
    · exact srt_delL h _
    · exact srt_putL h _ _
theorem mapOK_le {es : List Ent} (h : mapOK es = true) : es.length ≤ 12 := by
  rcases Nat.lt_or_ge 12 es.length with h2 | h2
  · rw [mapOK_long h2] at h; cases h
  · exact h2
end Go.Proofs.Ytjhimcddgkoghaa
