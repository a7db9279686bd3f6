/- The document's l01Put: what it gathers, round by round. -/
import Derived.Test.YtnkceemdnefomaaMdl3
import Derived.Test.YtnkceemdnefomaaBase2
import Derived.Test.YtnkceemdnefomaaLawE2
namespace Go.Proofs.Ytnkceemdnefomaa
open Go.RowKit

theorem entsC_snoc (es : List Ent) (k : ByteArray) (v : Int) : entsC (es ++ [(k, v)]) = entsC es ++ #[Value.string k, Value.int .i64 v].toList := by rw [entsC_append]; rfl
theorem ent_cells (k : ByteArray) (v : Int) : ∀ u ∈ #[Value.string k, Value.int .i64 v].toList, u.oneCell' = true := by
  intro u hu
  simp at hu
  rcases hu with rfl | rfl <;> rfl

def OwnPost (e : TypeId) (es : List Ent) (w : World) (e' : Ending) (w' : World) : Prop := ∃ v, e' = .returned v ∧ w'.ownsRow w.heap.size e 2 v es.length (entsC es) ∧ Below w.heap.size w w'

set_option maxHeartbeats 2000000 in
set_option maxRecDepth 100000 in
theorem l01Put_any (A : Option Addr) (n c : Nat) (es : List Ent) (key : ByteArray) (v : Int) (w : World) (hr : Rd w 2 A n (entsC es)) (hm : n ≤ 4096) :
    Calls Try.prog 152 #[.slice A n c, .string key, .int .i64 v] w (OwnPost 126 (putL es key v) w) := by
  have hlen := hr.len
  have Hlen := Lib.hid hlen; clear hlen
  obtain ⟨i0, hi, hz0, hz1, hz2⟩ := info_parts info_Entry
  have Hi := Lib.hid hi; clear hi
  have Hz0 := Lib.hid hz0; clear hz0
  have Hz1 := Lib.hid hz1; clear hz1
  have Hz2 := Lib.hid hz2; clear hz2
  go_enter Try.func152, Try.ntmps152
  go_wp2
  have hst : Hid ((w.alloc (Obj.cells #[] 126)).ownsRow w.heap.size 126 2 (.slice (some ⟨w.heap.size, 0, none⟩) 0 0) 0 []) := World.ownsRow_made w #[] 0 (Nat.le_refl _) (by simp) (by simp)
  have hbst : Hid (Below w.heap.size w (w.alloc (Obj.cells #[] 126))) := (Below.refl _ _).alloc (Nat.le_refl _) _
  go_loopw [7, 8, 9] (fun out d i wr => ∃ k : Nat, k ≤ n ∧ i = .int .i64 k ∧ d = .bool (putTo es key v k).2 ∧ wr.ownsRow w.heap.size 126 2 out (putTo es key v k).1.length (entsC (putTo es key v k).1) ∧ Below w.heap.size w wr) (fun _ _ i _ => n - (intOf i).toNat)
  case atStart => exact ⟨0, Nat.zero_le _, rfl, by rw [putTo_zero], by rw [putTo_zero]; exact hst.out, hbst.out⟩
  case round =>
    obtain ⟨k, hk, rfl, rfl, hown, hb⟩ := hrel
    by_cases hlt : k < n
    · have hke : k < es.length := by rw [Hlen.out]; exact hlt
      obtain ⟨b, off, rfl, hbl, hbl2, hc1, hc2⟩ := hr.ent hb hke
      have hstp := Lib.hid (putTo_succ es key v k hke)
      have hl2 := putTo_len2 es key v k (by omega)
      generalize putTo es key v k = s at *
      obtain ⟨acc, dn⟩ := s
      simp only at hown hl2
      have hbs := hb.size
      cases hq : klt es[k].1 key with
      | true =>
        have hne : es[k].1 ≠ key := klt_ne hq
        have ht : Op.bytesLess es[k].1.toList key.toList = true := hq
        have ht2 : (es[k].1.toList == key.toList) = false := by rw [toList_beq]; exact decide_eq_false hne
        have hfin : Hid (putTo es key v (k + 1) = (acc ++ [es[k]], dn)) := by
          show putTo es key v (k + 1) = _
          rw [hstp.out, putStep_old (.inr hq), if_neg hne]
        clear hne hq
        generalize es[k] = ek at *
        obtain ⟨ek1, ek2⟩ := ek
        have Hown := Lib.hid hown; clear hown
        cases dn
        all_goals
          go_wp2_with (at_builtin; refine wpList_append_new wr rfl _ _ 66 rfl w.heap.size 126 i0 _ 2 24 Try.underlying66 Hi.out Hz0.out Hz1.out Hz2.out rfl (by decide) u7 acc.length (entsC acc) rfl Hown.out #[.string ek1, .int .i64 ek2] 1 1 rfl rfl (ent_cells ek1 ek2) (by omega) (by decide) hbs ?_; intro v' w1 hown' hgrow)
          have Hown' := Lib.hid hown'; clear hown'
          go_wp2
          go_roundw
          case rel => exact ⟨k + 1, by omega, by go_num, by rw [hfin.out], by rw [hfin.out, List.length_append, entsC_snoc]; exact Hown'.out, below_grown hb hgrow Hown.out hbs (Nat.le_refl _)⟩
          case measure => simp [intOf]; omega
      | false =>
        have hcW1 := cellW hb hbl hc1
        have hcW2 := cellW hb hbl hc2
        have ht : Op.bytesLess es[k].1.toList key.toList = false := hq
        cases dn with
        | false =>
          by_cases he : es[k].1 = key
          · have ht2 : (es[k].1.toList == key.toList) = true := by rw [he]; simp
            have hfin : Hid (putTo es key v (k + 1) = (acc ++ [(key, v)], true)) := by
              show putTo es key v (k + 1) = _
              rw [hstp.out, putStep_new rfl hq, if_pos he]
            clear he hq
            generalize es[k] = ek at *
            obtain ⟨ek1, ek2⟩ := ek
            have Hown := Lib.hid hown; clear hown
            go_wp2_with (at_builtin; refine wpList_append_new wr rfl _ _ 66 rfl w.heap.size 126 i0 _ 2 24 Try.underlying66 Hi.out Hz0.out Hz1.out Hz2.out rfl (by decide) u7 acc.length (entsC acc) rfl Hown.out #[.string key, .int .i64 v] 1 1 rfl rfl (ent_cells key v) (by omega) (by decide) hbs ?_; intro v1 w1 hown1 hgrow1; have Hown1 := Lib.hid hown1; clear hown1; have hbb1 := below_grown hb hgrow1 Hown.out hbs (Nat.le_refl _); have hd1 := cellS hbb1 hbl hcW1; have hd2 := cellS hbb1 hbl hcW2; have hbs1 := hbb1.size; have hbl3 := Nat.lt_of_lt_of_le hbl hbs1)
            go_roundw
            case rel => exact ⟨k + 1, by omega, by go_num, by rw [hfin.out], by rw [hfin.out, List.length_append, entsC_snoc]; exact Hown1.out, hbb1⟩
            case measure => simp [intOf]; omega
          · have ht2 : (es[k].1.toList == key.toList) = false := by rw [toList_beq]; exact decide_eq_false he
            have hfin : Hid (putTo es key v (k + 1) = (acc ++ [(key, v)] ++ [es[k]], true)) := by
              show putTo es key v (k + 1) = _
              rw [hstp.out, putStep_new rfl hq, if_neg he]
            clear he hq
            generalize es[k] = ek at *
            obtain ⟨ek1, ek2⟩ := ek
            have Hown := Lib.hid hown; clear hown
            go_wp2_with (first | (at_builtin; refine wpList_append_new w1 rfl _ _ 66 rfl w.heap.size 126 i0 _ 2 24 Try.underlying66 Hi.out Hz0.out Hz1.out Hz2.out rfl (by decide) v1 (acc.length + 1) (entsC acc ++ #[Value.string key, Value.int .i64 v].toList) rfl Hown1.out #[.string ek1, .int .i64 ek2] 1 1 rfl rfl (ent_cells ek1 ek2) (by omega) (by decide) hbs1 ?_; intro v2 w2 hown2 hgrow2; have Hown2 := Lib.hid hown2; clear hown2) | (at_builtin; refine wpList_append_new wr rfl _ _ 66 rfl w.heap.size 126 i0 _ 2 24 Try.underlying66 Hi.out Hz0.out Hz1.out Hz2.out rfl (by decide) u7 acc.length (entsC acc) rfl Hown.out #[.string key, .int .i64 v] 1 1 rfl rfl (ent_cells key v) (by omega) (by decide) hbs ?_; intro v1 w1 hown1 hgrow1; have Hown1 := Lib.hid hown1; clear hown1; have hbb1 := below_grown hb hgrow1 Hown.out hbs (Nat.le_refl _); have hd1 := cellS hbb1 hbl hcW1; have hd2 := cellS hbb1 hbl hcW2; have hbs1 := hbb1.size; have hbl3 := Nat.lt_of_lt_of_le hbl hbs1))
            go_roundw
            case rel => exact ⟨k + 1, by omega, by go_num, by rw [hfin.out], by rw [hfin.out, List.length_append, List.length_append, entsC_snoc, entsC_snoc]; exact Hown2.out, below_grown hbb1 hgrow2 Hown1.out hbs1 (Nat.le_refl _)⟩
            case measure => simp [intOf]; omega
        | true =>
          by_cases he : es[k].1 = key
          · have ht2 : (es[k].1.toList == key.toList) = true := by rw [he]; simp
            have hfin : Hid (putTo es key v (k + 1) = (acc, true)) := by
              show putTo es key v (k + 1) = _
              rw [hstp.out, putStep_old (.inl rfl), if_pos he]
            clear he hq
            have Hown := Lib.hid hown; clear hown
            go_wp2
            go_roundw
            case rel => exact ⟨k + 1, by omega, by go_num, by rw [hfin.out], by rw [hfin.out]; exact Hown.out, hb⟩
            case measure => simp [intOf]; omega
          · have ht2 : (es[k].1.toList == key.toList) = false := by rw [toList_beq]; exact decide_eq_false he
            have hfin : Hid (putTo es key v (k + 1) = (acc ++ [es[k]], true)) := by
              show putTo es key v (k + 1) = _
              rw [hstp.out, putStep_old (.inl rfl), if_neg he]
            clear he hq
            generalize es[k] = ek at *
            obtain ⟨ek1, ek2⟩ := ek
            have Hown := Lib.hid hown; clear hown
            go_wp2_with (at_builtin; refine wpList_append_new wr rfl _ _ 66 rfl w.heap.size 126 i0 _ 2 24 Try.underlying66 Hi.out Hz0.out Hz1.out Hz2.out rfl (by decide) u7 acc.length (entsC acc) rfl Hown.out #[.string ek1, .int .i64 ek2] 1 1 rfl rfl (ent_cells ek1 ek2) (by omega) (by decide) hbs ?_; intro v' w1 hown' hgrow; have Hown' := Lib.hid hown'; clear hown')
            go_roundw
            case rel => exact ⟨k + 1, by omega, by go_num, by rw [hfin.out], by rw [hfin.out, List.length_append, entsC_snoc]; exact Hown'.out, below_grown hb hgrow Hown.out hbs (Nat.le_refl _)⟩
            case measure => simp [intOf]; omega
    · have hkn : k = es.length := by rw [Hlen.out]; omega
      have hend := putTo_end es key v
      have hl2 := putTo_len2 es key v k (by omega)
      have hbs := hb.size
      rw [← hkn] at hend
      clear hkn
      generalize putTo es key v k = s at *
      obtain ⟨acc, dn⟩ := s
      simp only at hown hl2 hend
      have Hown := Lib.hid hown; clear hown
      cases dn with
      | true =>
        have Hend := Lib.hid (show acc = putL es key v by simpa using hend)
        clear hend
        go_wp2
        go_ret
        exact ⟨_, rfl, by rw [← Hend.out]; exact Hown.out, hb⟩
      | false =>
        have Hend := Lib.hid (show acc ++ [(key, v)] = putL es key v by simpa using hend)
        clear hend
        go_wp2_with (at_builtin; refine wpList_append_new wr rfl _ _ 66 rfl w.heap.size 126 i0 _ 2 24 Try.underlying66 Hi.out Hz0.out Hz1.out Hz2.out rfl (by decide) u7 acc.length (entsC acc) rfl Hown.out #[.string key, .int .i64 v] 1 1 rfl rfl (ent_cells key v) (by omega) (by decide) hbs ?_; intro v1 w1 hown1 hgrow1; have Hown1 := Lib.hid hown1; clear hown1; have hbb1 := below_grown hb hgrow1 Hown.out hbs (Nat.le_refl _))
        go_ret
        exact ⟨_, rfl, by rw [← Hend.out, List.length_append, entsC_snoc]; exact Hown1.out, hbb1⟩

end Go.Proofs.Ytnkceemdnefomaa
