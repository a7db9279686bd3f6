/- The machine over data (S2, S3). -/
import Derived.Test.YtjhimcddgkoghaaMdl3
import Derived.Test.YtjhimcddgkoghaaBase2
import Derived.Test.YtjhimcddgkoghaaLawE2
import Derived.Test.YtjhimcddgkoghaaI1
/- The document's l01Put: what it gathers, round by round. -/
namespace Go.Proofs.Ytjhimcddgkoghaa
open Go.RowKit

theorem entsC_snoc (es : List Ent) (k : ByteArray) (v : Int) : entsC (es ++ [(k, v)]) = entsC es ++ #[Value.string k, Value.int .i64 v].toList := by rw [entsC_append]; rfl
theorem ent_cells (k : ByteArray) (v : Int) : ∀ u ∈ #[Value.string k, Value.int .i64 v].toList, u.oneCell' = true := by
  intro u hu
  simp at hu
  rcases hu with rfl | rfl <;> rfl

def OwnPost (e : TypeId) (es : List Ent) (w : World) (e' : Ending) (w' : World) : Prop := ∃ v, e' = .returned v ∧ w'.ownsRow w.heap.size e 2 v es.length (entsC es) ∧ Below w.heap.size w w'

set_option maxHeartbeats 2000000 in
set_option maxRecDepth 100000 in
theorem l01Put_any (A : Option Addr) (n c : Nat) (es : List Ent) (key : ByteArray) (v : Int) (w : World) (hr : Rd w 2 A n (entsC es)) (hm : n ≤ 4096) :
    Calls Try.prog 237 #[.slice A n c, .string key, .int .i64 v] w (OwnPost 167 (putL es key v) w) := by
  have hlen := hr.len
  have Hlen := Lib.hid hlen; clear hlen
  obtain ⟨i0, hi, hz0, hz1, hz2⟩ := info_parts info_Entry
  have Hi := Lib.hid hi; clear hi
  have Hz0 := Lib.hid hz0; clear hz0
  have Hz1 := Lib.hid hz1; clear hz1
  have Hz2 := Lib.hid hz2; clear hz2
  go_enter Try.func237, Try.ntmps237
  go_wp2
  have hst : Hid ((w.alloc (Obj.cells #[] 167)).ownsRow w.heap.size 167 2 (.slice (some ⟨w.heap.size, 0, none⟩) 0 0) 0 []) := World.ownsRow_made w #[] 0 (Nat.le_refl _) (by simp) (by simp)
  have hbst : Hid (Below w.heap.size w (w.alloc (Obj.cells #[] 167))) := (Below.refl _ _).alloc (Nat.le_refl _) _
  go_loopw [7, 8, 9] (fun out d i wr => ∃ k : Nat, k ≤ n ∧ i = .int .i64 k ∧ d = .bool (putTo es key v k).2 ∧ wr.ownsRow w.heap.size 167 2 out (putTo es key v k).1.length (entsC (putTo es key v k).1) ∧ Below w.heap.size w wr) (fun _ _ i _ => n - (intOf i).toNat)
  case atStart => exact ⟨0, Nat.zero_le _, rfl, by rw [putTo_zero], by rw [putTo_zero]; exact hst.out, hbst.out⟩
  case round =>
    obtain ⟨k, hk, rfl, rfl, hown, hb⟩ := hrel
    by_cases hlt : k < n
    · have hke : k < es.length := by rw [Hlen.out]; exact hlt
      obtain ⟨b, off, rfl, hbl, hbl2, hc1, hc2⟩ := hr.ent hb hke
      have hstp := Lib.hid (putTo_succ es key v k hke)
      have hl2 := putTo_len2 es key v k (by omega)
      generalize putTo es key v k = s at *
      obtain ⟨acc, dn⟩ := s
      simp only at hown hl2
      have hbs := hb.size
      cases hq : klt es[k].1 key with
      | true =>
        have hne : es[k].1 ≠ key := klt_ne hq
        have ht : Op.bytesLess es[k].1.toList key.toList = true := hq
        have ht2 : (es[k].1.toList == key.toList) = false := by rw [toList_beq]; exact decide_eq_false hne
        have hfin : Hid (putTo es key v (k + 1) = (acc ++ [es[k]], dn)) := by
          show putTo es key v (k + 1) = _
          rw [hstp.out, putStep_old (.inr hq), if_neg hne]
        clear hne hq
        generalize es[k] = ek at *
        obtain ⟨ek1, ek2⟩ := ek
        have Hown := Lib.hid hown; clear hown
        cases dn
        all_goals
          go_wp2_with (at_builtin; refine wpList_append_new wr rfl _ _ 36 rfl w.heap.size 167 i0 _ 2 24 Try.underlying36 Hi.out Hz0.out Hz1.out Hz2.out rfl (by decide) u7 acc.length (entsC acc) rfl Hown.out #[.string ek1, .int .i64 ek2] 1 1 rfl rfl (ent_cells ek1 ek2) (by omega) (by decide) hbs ?_; intro v' w1 hown' hgrow)
          have Hown' := Lib.hid hown'; clear hown'
          go_wp2
          go_roundw
          case rel => exact ⟨k + 1, by omega, by go_num, by rw [hfin.out], by rw [hfin.out, List.length_append, entsC_snoc]; exact Hown'.out, below_grown hb hgrow Hown.out hbs (Nat.le_refl _)⟩
          case measure => simp [intOf]; omega
      | false =>
        have hcW1 := cellW hb hbl hc1
        have hcW2 := cellW hb hbl hc2
        have ht : Op.bytesLess es[k].1.toList key.toList = false := hq
        cases dn with
        | false =>
          by_cases he : es[k].1 = key
          · have ht2 : (es[k].1.toList == key.toList) = true := by rw [he]; simp
            have hfin : Hid (putTo es key v (k + 1) = (acc ++ [(key, v)], true)) := by
              show putTo es key v (k + 1) = _
              rw [hstp.out, putStep_new rfl hq, if_pos he]
            clear he hq
            generalize es[k] = ek at *
            obtain ⟨ek1, ek2⟩ := ek
            have Hown := Lib.hid hown; clear hown
            go_wp2_with (at_builtin; refine wpList_append_new wr rfl _ _ 36 rfl w.heap.size 167 i0 _ 2 24 Try.underlying36 Hi.out Hz0.out Hz1.out Hz2.out rfl (by decide) u7 acc.length (entsC acc) rfl Hown.out #[.string key, .int .i64 v] 1 1 rfl rfl (ent_cells key v) (by omega) (by decide) hbs ?_; intro v1 w1 hown1 hgrow1; have Hown1 := Lib.hid hown1; clear hown1; have hbb1 := below_grown hb hgrow1 Hown.out hbs (Nat.le_refl _); have hd1 := cellS hbb1 hbl hcW1; have hd2 := cellS hbb1 hbl hcW2; have hbs1 := hbb1.size; have hbl3 := Nat.lt_of_lt_of_le hbl hbs1)
            go_roundw
            case rel => exact ⟨k + 1, by omega, by go_num, by rw [hfin.out], by rw [hfin.out, List.length_append, entsC_snoc]; exact Hown1.out, hbb1⟩
            case measure => simp [intOf]; omega
          · have ht2 : (es[k].1.toList == key.toList) = false := by rw [toList_beq]; exact decide_eq_false he
            have hfin : Hid (putTo es key v (k + 1) = (acc ++ [(key, v)] ++ [es[k]], true)) := by
              show putTo es key v (k + 1) = _
              rw [hstp.out, putStep_new rfl hq, if_neg he]
            clear he hq
            generalize es[k] = ek at *
            obtain ⟨ek1, ek2⟩ := ek
            have Hown := Lib.hid hown; clear hown
            go_wp2_with (first | (at_builtin; refine wpList_append_new w1 rfl _ _ 36 rfl w.heap.size 167 i0 _ 2 24 Try.underlying36 Hi.out Hz0.out Hz1.out Hz2.out rfl (by decide) v1 (acc.length + 1) (entsC acc ++ #[Value.string key, Value.int .i64 v].toList) rfl Hown1.out #[.string ek1, .int .i64 ek2] 1 1 rfl rfl (ent_cells ek1 ek2) (by omega) (by decide) hbs1 ?_; intro v2 w2 hown2 hgrow2; have Hown2 := Lib.hid hown2; clear hown2) | (at_builtin; refine wpList_append_new wr rfl _ _ 36 rfl w.heap.size 167 i0 _ 2 24 Try.underlying36 Hi.out Hz0.out Hz1.out Hz2.out rfl (by decide) u7 acc.length (entsC acc) rfl Hown.out #[.string key, .int .i64 v] 1 1 rfl rfl (ent_cells key v) (by omega) (by decide) hbs ?_; intro v1 w1 hown1 hgrow1; have Hown1 := Lib.hid hown1; clear hown1; have hbb1 := below_grown hb hgrow1 Hown.out hbs (Nat.le_refl _); have hd1 := cellS hbb1 hbl hcW1; have hd2 := cellS hbb1 hbl hcW2; have hbs1 := hbb1.size; have hbl3 := Nat.lt_of_lt_of_le hbl hbs1))
            go_roundw
            case rel => exact ⟨k + 1, by omega, by go_num, by rw [hfin.out], by rw [hfin.out, List.length_append, List.length_append, entsC_snoc, entsC_snoc]; exact Hown2.out, below_grown hbb1 hgrow2 Hown1.out hbs1 (Nat.le_refl _)⟩
            case measure => simp [intOf]; omega
        | true =>
          by_cases he : es[k].1 = key
          · have ht2 : (es[k].1.toList == key.toList) = true := by rw [he]; simp
            have hfin : Hid (putTo es key v (k + 1) = (acc, true)) := by
              show putTo es key v (k + 1) = _
              rw [hstp.out, putStep_old (.inl rfl), if_pos he]
            clear he hq
            have Hown := Lib.hid hown; clear hown
            go_wp2
            go_roundw
            case rel => exact ⟨k + 1, by omega, by go_num, by rw [hfin.out], by rw [hfin.out]; exact Hown.out, hb⟩
            case measure => simp [intOf]; omega
          · have ht2 : (es[k].1.toList == key.toList) = false := by rw [toList_beq]; exact decide_eq_false he
            have hfin : Hid (putTo es key v (k + 1) = (acc ++ [es[k]], true)) := by
              show putTo es key v (k + 1) = _
              rw [hstp.out, putStep_old (.inl rfl), if_neg he]
            clear he hq
            generalize es[k] = ek at *
            obtain ⟨ek1, ek2⟩ := ek
            have Hown := Lib.hid hown; clear hown
            go_wp2_with (at_builtin; refine wpList_append_new wr rfl _ _ 36 rfl w.heap.size 167 i0 _ 2 24 Try.underlying36 Hi.out Hz0.out Hz1.out Hz2.out rfl (by decide) u7 acc.length (entsC acc) rfl Hown.out #[.string ek1, .int .i64 ek2] 1 1 rfl rfl (ent_cells ek1 ek2) (by omega) (by decide) hbs ?_; intro v' w1 hown' hgrow; have Hown' := Lib.hid hown'; clear hown')
            go_roundw
            case rel => exact ⟨k + 1, by omega, by go_num, by rw [hfin.out], by rw [hfin.out, List.length_append, entsC_snoc]; exact Hown'.out, below_grown hb hgrow Hown.out hbs (Nat.le_refl _)⟩
            case measure => simp [intOf]; omega
    · have hkn : k = es.length := by rw [Hlen.out]; omega
      have hend := putTo_end es key v
      have hl2 := putTo_len2 es key v k (by omega)
      have hbs := hb.size
      rw [← hkn] at hend
      clear hkn
      generalize putTo es key v k = s at *
      obtain ⟨acc, dn⟩ := s
      simp only at hown hl2 hend
      have Hown := Lib.hid hown; clear hown
      cases dn with
      | true =>
        have Hend := Lib.hid (show acc = putL es key v by simpa using hend)
        clear hend
        go_wp2
        go_ret
        exact ⟨_, rfl, by rw [← Hend.out]; exact Hown.out, hb⟩
      | false =>
        have Hend := Lib.hid (show acc ++ [(key, v)] = putL es key v by simpa using hend)
        clear hend
        go_wp2_with (at_builtin; refine wpList_append_new wr rfl _ _ 36 rfl w.heap.size 167 i0 _ 2 24 Try.underlying36 Hi.out Hz0.out Hz1.out Hz2.out rfl (by decide) u7 acc.length (entsC acc) rfl Hown.out #[.string key, .int .i64 v] 1 1 rfl rfl (ent_cells key v) (by omega) (by decide) hbs ?_; intro v1 w1 hown1 hgrow1; have Hown1 := Lib.hid hown1; clear hown1; have hbb1 := below_grown hb hgrow1 Hown.out hbs (Nat.le_refl _))
        go_ret
        exact ⟨_, rfl, by rw [← Hend.out, List.length_append, entsC_snoc]; exact Hown1.out, hbb1⟩

end Go.Proofs.Ytjhimcddgkoghaa
/- The document's Put, l01Remove, Remove, Scan. -/
namespace Go.Proofs.Ytjhimcddgkoghaa
open Go.RowKit

theorem filter_snoc (q : Ent → Bool) (es : List Ent) (k : Nat) (h : k < es.length) : (es.take (k + 1)).filter q = (es.take k).filter q ++ (if q es[k] then [es[k]] else []) := by
  rw [List.take_succ_eq_append_getElem h, List.filter_append]
  congr 1
  cases hq : q es[k] <;> simp [hq]
theorem filter_take_len (q : Ent → Bool) (es : List Ent) (k : Nat) : ((es.take k).filter q).length ≤ k := Nat.le_trans (List.length_filter_le _ _) (List.length_take_le _ _)

set_option maxHeartbeats 1000000 in
set_option maxRecDepth 100000 in
theorem l01Remove_any (A : Option Addr) (n c : Nat) (es : List Ent) (key : ByteArray) (w : World) (hr : Rd w 2 A n (entsC es)) (hm : n ≤ 4096) :
    Calls Try.prog 243 #[.slice A n c, .string key] w (OwnPost 167 (delL es key) w) := by
  have hlen := hr.len
  have Hlen := Lib.hid hlen; clear hlen
  obtain ⟨i0, hi, hz0, hz1, hz2⟩ := info_parts info_Entry
  have Hi := Lib.hid hi; clear hi
  have Hz0 := Lib.hid hz0; clear hz0
  have Hz1 := Lib.hid hz1; clear hz1
  have Hz2 := Lib.hid hz2; clear hz2
  go_enter Try.func243, Try.ntmps243
  go_wp2
  have hst : Hid ((w.alloc (Obj.cells #[] 167)).ownsRow w.heap.size 167 2 (.slice (some ⟨w.heap.size, 0, none⟩) 0 0) 0 []) := World.ownsRow_made w #[] 0 (Nat.le_refl _) (by simp) (by simp)
  have hbst : Hid (Below w.heap.size w (w.alloc (Obj.cells #[] 167))) := (Below.refl _ _).alloc (Nat.le_refl _) _
  go_loopw [5, 6] (fun out i wr => ∃ (k : Nat) (acc : List Ent), k ≤ n ∧ i = .int .i64 k ∧ acc = (es.take k).filter (fun e => decide (e.1 ≠ key)) ∧ wr.ownsRow w.heap.size 167 2 out acc.length (entsC acc) ∧ Below w.heap.size w wr) (fun _ i _ => n - (intOf i).toNat)
  case atStart => exact ⟨0, [], Nat.zero_le _, rfl, by simp, hst.out, hbst.out⟩
  case round =>
    obtain ⟨k, acc, hk, rfl, hacc, hown, hb⟩ := hrel
    have hal : acc.length ≤ k := by rw [hacc]; exact filter_take_len _ _ _
    have Hacc := Lib.hid hacc; clear hacc
    have Hown := Lib.hid hown; clear hown
    by_cases hlt : k < n
    · have hke : k < es.length := by rw [Hlen.out]; exact hlt
      obtain ⟨b, off, rfl, hbl, hbl2, hc1, hc2⟩ := hr.ent hb hke
      have hbs := hb.size
      have hsn := Lib.hid (filter_snoc (fun e => decide (e.1 ≠ key)) es k hke)
      by_cases he : es[k].1 = key
      · have ht2 : (es[k].1.toList == key.toList) = true := by rw [he]; simp
        have hfin := Lib.hid (show acc = (es.take (k + 1)).filter (fun e => decide (e.1 ≠ key)) by rw [hsn.out, ← Hacc.out]; simp [he])
        clear he
        go_wp2
        go_roundw
        case rel => exact ⟨k + 1, acc, by omega, by go_num, hfin.out, Hown.out, hb⟩
        case measure => simp [intOf]; omega
      · have ht2 : (es[k].1.toList == key.toList) = false := by rw [toList_beq]; exact decide_eq_false he
        have hfin := Lib.hid (show acc ++ [es[k]] = (es.take (k + 1)).filter (fun e => decide (e.1 ≠ key)) by rw [hsn.out, ← Hacc.out]; simp [he])
        clear he hsn
        generalize es[k] = ek at *
        obtain ⟨ek1, ek2⟩ := ek
        go_wp2_with (at_builtin; refine wpList_append_new wr rfl _ _ 36 rfl w.heap.size 167 i0 _ 2 24 Try.underlying36 Hi.out Hz0.out Hz1.out Hz2.out rfl (by decide) u5 acc.length (entsC acc) rfl Hown.out #[.string ek1, .int .i64 ek2] 1 1 rfl rfl (ent_cells ek1 ek2) (by omega) (by decide) hbs ?_; intro v' w1 hown' hgrow; have Hown' := Lib.hid hown'; clear hown')
        go_roundw
        case rel => exact ⟨k + 1, acc ++ [(ek1, ek2)], by omega, by go_num, hfin.out, by rw [List.length_append, entsC_snoc]; exact Hown'.out, below_grown hb hgrow Hown.out hbs (Nat.le_refl _)⟩
        case measure => simp [intOf]; omega
    · have hfin := Lib.hid (show acc = delL es key by rw [Hacc.out, List.take_of_length_le (by rw [Hlen.out]; omega)]; rfl)
      go_wp2
      go_ret
      exact ⟨_, rfl, by rw [← hfin.out]; exact Hown.out, hb⟩

def TupPost (e : TypeId) (r : List Ent × Int) (w : World) (e' : Ending) (w' : World) : Prop := ∃ v, e' = .returned (.tuple #[v, .int .i64 r.2]) ∧ w'.ownsRow w.heap.size e 2 v r.1.length (entsC r.1) ∧ Below w.heap.size w w'
theorem TupPost.mk {e : TypeId} {r : List Ent × Int} {l : List Ent} {c : Int} {v : Value} {w w' : World} (h : r = (l, c)) (ho : w'.ownsRow w.heap.size e 2 v l.length (entsC l)) (hb : Below w.heap.size w w') : TupPost e r w (.returned (.tuple #[v, .int .i64 c])) w' := ⟨v, by rw [h], by rw [h]; exact ho, hb⟩
end Go.Proofs.Ytjhimcddgkoghaa
