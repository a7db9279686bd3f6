/- Texts of the machine over data, folded. -/
import Derived.Test.YtkfllfhcjegfoaaGreatDoorKq7
namespace Go.Proofs.YtkfllfhcjegfoaaGreatDoor
open Go.RowKit
theorem wX (es : List Ent) (k : ByteArray) (v : Int) : xG (es ++ [(k, v)]) = xG es ++ #[Value.string k, Value.int .i64 v].toList := by rw [qJ]; rfl
theorem kg (k : ByteArray) (v : Int) : ∀ u ∈ #[Value.string k, Value.int .i64 v].toList, u.oneCell' = true := by
 intro u hu
 simp at hu
 rcases hu with rfl | rfl <;> rfl
def jv (e : TypeId) (es : List Ent) (w : World) (e' : Ending) (w' : World) : Prop := ∃ v, e' = .returned v ∧ w'.ownsRow w.heap.size e 2 v es.length (xG es) ∧ Below w.heap.size w w'
set_option maxHeartbeats 2000000 in
set_option maxRecDepth 100000 in
theorem aLl (A : Option Addr) (n c : Nat) (es : List Ent) (key : ByteArray) (v : Int) (w : World) (hr : Rd w 2 A n (xG es)) (hm : n ≤ 4096) :
 Calls Tryz.prog 167 #[.slice A n c, .string key, .int .i64 v] w (jv 167 (za es key v) w) := by
 have hlen := hr.len
 have Hlen := Lib.hid hlen; clear hlen
 obtain ⟨i0, hi, hz0, hz1, hz2⟩ := info_parts jL
 have Hi := Lib.hid hi; clear hi
 have Hz0 := Lib.hid hz0; clear hz0
 have Hz1 := Lib.hid hz1; clear hz1
 have Hz2 := Lib.hid hz2; clear hz2
 go_enter Tryz.func167, Tryz.ntmps167
 go_wp2
 have hst : Hid ((w.alloc (Obj.cells #[] 167)).ownsRow w.heap.size 167 2 (.slice (some ⟨w.heap.size, 0, none⟩) 0 0) 0 []) := World.ownsRow_made w #[] 0 (Nat.le_refl _) (by simp) (by simp)
 have hbst : Hid (Below w.heap.size w (w.alloc (Obj.cells #[] 167))) := (Below.refl _ _).alloc (Nat.le_refl _) _
 go_loopw [7, 8, 9] (fun out d i wr => ∃ k : Nat, k ≤ n ∧ i = .int .i64 k ∧ d = .bool (zm es key v k).2 ∧ wr.ownsRow w.heap.size 167 2 out (zm es key v k).1.length (xG (zm es key v k).1) ∧ Below w.heap.size w wr) (fun _ _ i _ => n - (intOf i).toNat)
 case atStart => exact ⟨0, Nat.zero_le _, rfl, by rw [aC0], by rw [aC0]; exact hst.out, hbst.out⟩
 case round =>
  obtain ⟨k, hk, rfl, rfl, hown, hb⟩ := hrel
  by_cases hlt : k < n
  · have hke : k < es.length := by rw [Hlen.out]; exact hlt
    obtain ⟨b, off, rfl, hbl, hbl2, hc1, hc2⟩ := hr.ent hb hke
    have hstp := Lib.hid (aEx es key v k hke)
    have hl2 := aFc es key v k (by omega)
    generalize zm es key v k = s at *
    obtain ⟨acc, dn⟩ := s
    simp only at hown hl2
    have hbs := hb.size
    cases hq : klt es[k].1 key with
    | true =>
     have hne : es[k].1 ≠ key := jB hq
     have ht : Op.bytesLess es[k].1.toList key.toList = true := hq
     have ht2 : (es[k].1.toList == key.toList) = false := by rw [uQ]; exact decide_eq_false hne
     have hfin : Hid (zm es key v (k + 1) = (acc ++ [es[k]], dn)) := by
      show zm es key v (k + 1) = _
      rw [hstp.out, aBl (.inr hq), if_neg hne]
     clear hne hq
     generalize es[k] = ek at *
     obtain ⟨ek1, ek2⟩ := ek
     have Hown := Lib.hid hown; clear hown
     cases dn
     all_goals
      go_wp2_with (at_builtin; refine yj wr rfl _ _ 51 rfl w.heap.size 167 i0 _ 2 24 Tryz.underlying51 Hi.out Hz0.out Hz1.out Hz2.out rfl (by decide) u7 acc.length (xG acc) rfl Hown.out #[.string ek1, .int .i64 ek2] 1 1 rfl rfl (kg ek1 ek2) (by omega) (by decide) hbs ?_; intro v' w1 hown' hgrow)
      have Hown' := Lib.hid hown'; clear hown'
      go_wp2
      go_roundw
      case rel => exact ⟨k + 1, by omega, by go_num, by rw [hfin.out], by rw [hfin.out, List.length_append, wX]; exact Hown'.out, below_grown hb hgrow Hown.out hbs (Nat.le_refl _)⟩
      case measure => simp [intOf]; omega
    | false =>
     have hcW1 := cellW hb hbl hc1
     have hcW2 := cellW hb hbl hc2
     have ht : Op.bytesLess es[k].1.toList key.toList = false := hq
     cases dn with
     | false =>
      by_cases he : es[k].1 = key
      · have ht2 : (es[k].1.toList == key.toList) = true := by rw [he]; simp
        have hfin : Hid (zm es key v (k + 1) = (acc ++ [(key, v)], true)) := by
         show zm es key v (k + 1) = _
         rw [hstp.out, aEN rfl hq, if_pos he]
        clear he hq
        generalize es[k] = ek at *
        obtain ⟨ek1, ek2⟩ := ek
        have Hown := Lib.hid hown; clear hown
        go_wp2_with (at_builtin; refine yj wr rfl _ _ 51 rfl w.heap.size 167 i0 _ 2 24 Tryz.underlying51 Hi.out Hz0.out Hz1.out Hz2.out rfl (by decide) u7 acc.length (xG acc) rfl Hown.out #[.string key, .int .i64 v] 1 1 rfl rfl (kg key v) (by omega) (by decide) hbs ?_; intro v1 w1 hown1 hgrow1; have Hown1 := Lib.hid hown1; clear hown1; have hbb1 := below_grown hb hgrow1 Hown.out hbs (Nat.le_refl _); have hd1 := cellS hbb1 hbl hcW1; have hd2 := cellS hbb1 hbl hcW2; have hbs1 := hbb1.size; have hbl3 := Nat.lt_of_lt_of_le hbl hbs1)
        go_roundw
        case rel => exact ⟨k + 1, by omega, by go_num, by rw [hfin.out], by rw [hfin.out, List.length_append, wX]; exact Hown1.out, hbb1⟩
        case measure => simp [intOf]; omega
      · have ht2 : (es[k].1.toList == key.toList) = false := by rw [uQ]; exact decide_eq_false he
        have hfin : Hid (zm es key v (k + 1) = (acc ++ [(key, v)] ++ [es[k]], true)) := by
         show zm es key v (k + 1) = _
         rw [hstp.out, aEN rfl hq, if_neg he]
        clear he hq
        generalize es[k] = ek at *
        obtain ⟨ek1, ek2⟩ := ek
        have Hown := Lib.hid hown; clear hown
        go_wp2_with (first | (at_builtin; refine yj w1 rfl _ _ 51 rfl w.heap.size 167 i0 _ 2 24 Tryz.underlying51 Hi.out Hz0.out Hz1.out Hz2.out rfl (by decide) v1 (acc.length + 1) (xG acc ++ #[Value.string key, Value.int .i64 v].toList) rfl Hown1.out #[.string ek1, .int .i64 ek2] 1 1 rfl rfl (kg ek1 ek2) (by omega) (by decide) hbs1 ?_; intro v2 w2 hown2 hgrow2; have Hown2 := Lib.hid hown2; clear hown2) | (at_builtin; refine yj wr rfl _ _ 51 rfl w.heap.size 167 i0 _ 2 24 Tryz.underlying51 Hi.out Hz0.out Hz1.out Hz2.out rfl (by decide) u7 acc.length (xG acc) rfl Hown.out #[.string key, .int .i64 v] 1 1 rfl rfl (kg key v) (by omega) (by decide) hbs ?_; intro v1 w1 hown1 hgrow1; have Hown1 := Lib.hid hown1; clear hown1; have hbb1 := below_grown hb hgrow1 Hown.out hbs (Nat.le_refl _); have hd1 := cellS hbb1 hbl hcW1; have hd2 := cellS hbb1 hbl hcW2; have hbs1 := hbb1.size; have hbl3 := Nat.lt_of_lt_of_le hbl hbs1))
        go_roundw
        case rel => exact ⟨k + 1, by omega, by go_num, by rw [hfin.out], by rw [hfin.out, List.length_append, List.length_append, wX, wX]; exact Hown2.out, below_grown hbb1 hgrow2 Hown1.out hbs1 (Nat.le_refl _)⟩
        case measure => simp [intOf]; omega
     | true =>
      by_cases he : es[k].1 = key
      · have ht2 : (es[k].1.toList == key.toList) = true := by rw [he]; simp
        have hfin : Hid (zm es key v (k + 1) = (acc, true)) := by
         show zm es key v (k + 1) = _
         rw [hstp.out, aBl (.inl rfl), if_pos he]
        clear he hq
        have Hown := Lib.hid hown; clear hown
        go_wp2
        go_roundw
        case rel => exact ⟨k + 1, by omega, by go_num, by rw [hfin.out], by rw [hfin.out]; exact Hown.out, hb⟩
        case measure => simp [intOf]; omega
      · have ht2 : (es[k].1.toList == key.toList) = false := by rw [uQ]; exact decide_eq_false he
        have hfin : Hid (zm es key v (k + 1) = (acc ++ [es[k]], true)) := by
         show zm es key v (k + 1) = _
         rw [hstp.out, aBl (.inl rfl), if_neg he]
        clear he hq
        generalize es[k] = ek at *
        obtain ⟨ek1, ek2⟩ := ek
        have Hown := Lib.hid hown; clear hown
        go_wp2_with (at_builtin; refine yj wr rfl _ _ 51 rfl w.heap.size 167 i0 _ 2 24 Tryz.underlying51 Hi.out Hz0.out Hz1.out Hz2.out rfl (by decide) u7 acc.length (xG acc) rfl Hown.out #[.string ek1, .int .i64 ek2] 1 1 rfl rfl (kg ek1 ek2) (by omega) (by decide) hbs ?_; intro v' w1 hown' hgrow; have Hown' := Lib.hid hown'; clear hown')
        go_roundw
        case rel => exact ⟨k + 1, by omega, by go_num, by rw [hfin.out], by rw [hfin.out, List.length_append, wX]; exact Hown'.out, below_grown hb hgrow Hown.out hbs (Nat.le_refl _)⟩
        case measure => simp [intOf]; omega
  · have hkn : k = es.length := by rw [Hlen.out]; omega
    have hend := aNi es key v
    have hl2 := aFc es key v k (by omega)
    have hbs := hb.size
    rw [← hkn] at hend
    clear hkn
    generalize zm es key v k = s at *
    obtain ⟨acc, dn⟩ := s
    simp only at hown hl2 hend
    have Hown := Lib.hid hown; clear hown
    cases dn with
    | true =>
     have Hend := Lib.hid (show acc = za es key v by simpa using hend)
     clear hend
     go_wp2
     go_ret
     exact ⟨_, rfl, by rw [← Hend.out]; exact Hown.out, hb⟩
    | false =>
     have Hend := Lib.hid (show acc ++ [(key, v)] = za es key v by simpa using hend)
     clear hend
     go_wp2_with (at_builtin; refine yj wr rfl _ _ 51 rfl w.heap.size 167 i0 _ 2 24 Tryz.underlying51 Hi.out Hz0.out Hz1.out Hz2.out rfl (by decide) u7 acc.length (xG acc) rfl Hown.out #[.string key, .int .i64 v] 1 1 rfl rfl (kg key v) (by omega) (by decide) hbs ?_; intro v1 w1 hown1 hgrow1; have Hown1 := Lib.hid hown1; clear hown1; have hbb1 := below_grown hb hgrow1 Hown.out hbs (Nat.le_refl _))
     go_ret
     exact ⟨_, rfl, by rw [← Hend.out, List.length_append, wX]; exact Hown1.out, hbb1⟩
theorem aJw (q : Ent → Bool) (es : List Ent) (k : Nat) (h : k < es.length) : (es.take (k + 1)).filter q = (es.take k).filter q ++ (if q es[k] then [es[k]] else []) := by
 rw [List.take_succ_eq_append_getElem h, List.filter_append]
 congr 1
 cases hq : q es[k] <;> simp [hq]
theorem aFi (q : Ent → Bool) (es : List Ent) (k : Nat) : ((es.take k).filter q).length ≤ k := Nat.le_trans (List.length_filter_le _ _) (List.length_take_le _ _)
set_option maxHeartbeats 1000000 in
set_option maxRecDepth 100000 in
theorem aHL (A : Option Addr) (n c : Nat) (es : List Ent) (key : ByteArray) (w : World) (hr : Rd w 2 A n (xG es)) (hm : n ≤ 4096) :
 Calls Tryz.prog 166 #[.slice A n c, .string key] w (jv 167 (kM es key) w) := by
 have hlen := hr.len
 have Hlen := Lib.hid hlen; clear hlen
 obtain ⟨i0, hi, hz0, hz1, hz2⟩ := info_parts jL
 have Hi := Lib.hid hi; clear hi
 have Hz0 := Lib.hid hz0; clear hz0
 have Hz1 := Lib.hid hz1; clear hz1
 have Hz2 := Lib.hid hz2; clear hz2
 go_enter Tryz.func166, Tryz.ntmps166
 go_wp2
 have hst : Hid ((w.alloc (Obj.cells #[] 167)).ownsRow w.heap.size 167 2 (.slice (some ⟨w.heap.size, 0, none⟩) 0 0) 0 []) := World.ownsRow_made w #[] 0 (Nat.le_refl _) (by simp) (by simp)
 have hbst : Hid (Below w.heap.size w (w.alloc (Obj.cells #[] 167))) := (Below.refl _ _).alloc (Nat.le_refl _) _
 go_loopw [5, 6] (fun out i wr => ∃ (k : Nat) (acc : List Ent), k ≤ n ∧ i = .int .i64 k ∧ acc = (es.take k).filter (fun e => decide (e.1 ≠ key)) ∧ wr.ownsRow w.heap.size 167 2 out acc.length (xG acc) ∧ Below w.heap.size w wr) (fun _ i _ => n - (intOf i).toNat)
 case atStart => exact ⟨0, [], Nat.zero_le _, rfl, by simp, hst.out, hbst.out⟩
 case round =>
  obtain ⟨k, acc, hk, rfl, hacc, hown, hb⟩ := hrel
  have hal : acc.length ≤ k := by rw [hacc]; exact aFi _ _ _
  have Hacc := Lib.hid hacc; clear hacc
  have Hown := Lib.hid hown; clear hown
  by_cases hlt : k < n
  · have hke : k < es.length := by rw [Hlen.out]; exact hlt
    obtain ⟨b, off, rfl, hbl, hbl2, hc1, hc2⟩ := hr.ent hb hke
    have hbs := hb.size
    have hsn := Lib.hid (aJw (fun e => decide (e.1 ≠ key)) es k hke)
    by_cases he : es[k].1 = key
    · have ht2 : (es[k].1.toList == key.toList) = true := by rw [he]; simp
      have hfin := Lib.hid (show acc = (es.take (k + 1)).filter (fun e => decide (e.1 ≠ key)) by rw [hsn.out, ← Hacc.out]; simp [he])
      clear he
      go_wp2
      go_roundw
      case rel => exact ⟨k + 1, acc, by omega, by go_num, hfin.out, Hown.out, hb⟩
      case measure => simp [intOf]; omega
    · have ht2 : (es[k].1.toList == key.toList) = false := by rw [uQ]; exact decide_eq_false he
      have hfin := Lib.hid (show acc ++ [es[k]] = (es.take (k + 1)).filter (fun e => decide (e.1 ≠ key)) by rw [hsn.out, ← Hacc.out]; simp [he])
      clear he hsn
      generalize es[k] = ek at *
      obtain ⟨ek1, ek2⟩ := ek
      go_wp2_with (at_builtin; refine yj wr rfl _ _ 51 rfl w.heap.size 167 i0 _ 2 24 Tryz.underlying51 Hi.out Hz0.out Hz1.out Hz2.out rfl (by decide) u5 acc.length (xG acc) rfl Hown.out #[.string ek1, .int .i64 ek2] 1 1 rfl rfl (kg ek1 ek2) (by omega) (by decide) hbs ?_; intro v' w1 hown' hgrow; have Hown' := Lib.hid hown'; clear hown')
      go_roundw
      case rel => exact ⟨k + 1, acc ++ [(ek1, ek2)], by omega, by go_num, hfin.out, by rw [List.length_append, wX]; exact Hown'.out, below_grown hb hgrow Hown.out hbs (Nat.le_refl _)⟩
      case measure => simp [intOf]; omega
  · have hfin := Lib.hid (show acc = kM es key by rw [Hacc.out, List.take_of_length_le (by rw [Hlen.out]; omega)]; rfl)
    go_wp2
    go_ret
    exact ⟨_, rfl, by rw [← hfin.out]; exact Hown.out, hb⟩
def aKm (e : TypeId) (r : List Ent × Int) (w : World) (e' : Ending) (w' : World) : Prop := ∃ v, e' = .returned (.tuple #[v, .int .i64 r.2]) ∧ w'.ownsRow w.heap.size e 2 v r.1.length (xG r.1) ∧ Below w.heap.size w w'
theorem aKm.mk {e : TypeId} {r : List Ent × Int} {l : List Ent} {c : Int} {v : Value} {w w' : World} (h : r = (l, c)) (ho : w'.ownsRow w.heap.size e 2 v l.length (xG l)) (hb : Below w.heap.size w w') : aKm e r w (.returned (.tuple #[v, .int .i64 c])) w' := ⟨v, by rw [h], by rw [h]; exact ho, hb⟩
theorem ug (es : List Ent) : ∀ u ∈ xG es, u.oneCell' = true := by
 intro u hu
 rw [xG, List.mem_flatMap] at hu
 obtain ⟨e, _, h⟩ := hu
 simp [aQj] at h
 rcases h with rfl | rfl <;> rfl
theorem aJI (es : List Ent) (i m : Nat) : ((xG es).drop (i * 2)).take (m * 2) = xG ((es.drop i).take m) := by rw [jG, aAp]
theorem aJu {α : Type} (L cs : List α) (h : L.length = cs.length) : splice L 0 cs = cs := by
 rw [splice, List.take_zero, List.nil_append, Nat.zero_add, ← h, List.drop_length, List.append_nil]
set_option maxHeartbeats 1000000 in
set_option maxRecDepth 100000 in
theorem aIT (A : Option Addr) (n c : Nat) (es : List Ent) (a b : Nat) (w : World) (hr : Rd w 2 A n (xG es)) (hab : a ≤ b) (hbn : b ≤ n) (hnc : n ≤ c) (hc : c ≤ maxLen) (hm : n ≤ 4096) :
 Calls Tryz.prog 195 #[.slice A n c, .int .i64 a, .int .i64 b] w (jv 167 ((es.drop a).take (b - a)) w) := by
 have hlen := hr.len
 obtain ⟨i0, hi, hz0, hz1, hz2⟩ := info_parts jL
 have hmk := fun W => wo (P := Tryz.prog) 220 167 i0 _ Tryz.underlying220 hi hz0 .i64 .i64 (b - a) (b - a) (Nat.le_refl _) (by rw [hz2]; omega) (by omega) W
 rw [hz1] at hmk
 have hpl : ((es.drop a).take (b - a)).length = b - a := by rw [List.length_take, List.length_drop]; omega
 have hcl : ((xG es).drop (a * 2)).take ((b - a) * 2) = xG ((es.drop a).take (b - a)) := aJI es a (b - a)
 have Hcl := Lib.hid hcl; clear hcl
 have Hpl := Lib.hid hpl; clear hpl
 have Hlen := Lib.hid hlen; clear hlen
 have Hi := Lib.hid hi; clear hi
 have Hz1 := Lib.hid hz1; clear hz1
 clear hz0 hz2
 unfold maxLen at hc
 have hba : ((b : Int) - (a : Int)) = ((b - a : Nat) : Int) := by omega
 have hblk0 : Hid (Blk (w.alloc (.cells (madeCells #[Value.string ByteArray.empty, Value.int IntKind.i64 0] ((b - a) * 2)) 167)) w.heap.size 167 (madeCells #[Value.string ByteArray.empty, Value.int IntKind.i64 0] ((b - a) * 2))) := Blk.new _ _ _
 have hb0 : Hid (Below w.heap.size w (w.alloc (.cells (madeCells #[Value.string ByteArray.empty, Value.int IntKind.i64 0] ((b - a) * 2)) 167))) := (Below.refl _ _).alloc (Nat.le_refl _) _
 have hrd := Lib.hid (hr.alloc (.cells (madeCells #[Value.string ByteArray.empty, Value.int IntKind.i64 0] ((b - a) * 2)) 167))
 have hln := Lib.hid (show (((xG es).drop (a * 2)).take ((b - a) * 2)).length = (b - a) * 2 from aIB hr.1 (by omega))
 have hmin := Lib.hid (show Nat.min (b - a) (b - a) = b - a from Nat.min_self _)
 have hfin : Hid (∀ w' : World, Blk w' w.heap.size 167 (splice (madeCells #[Value.string ByteArray.empty, Value.int IntKind.i64 0] ((b - a) * 2)).toList 0 (((xG es).drop (a * 2)).take ((b - a) * 2))).toArray →
  w'.ownsRow w.heap.size 167 2 (.slice (some ⟨w.heap.size, 0, none⟩) (b - a) (b - a)) ((es.drop a).take (b - a)).length (xG ((es.drop a).take (b - a)))) := fun w' hblk => by
  have e1 := aJu (madeCells #[Value.string ByteArray.empty, Value.int IntKind.i64 0] ((b - a) * 2)).toList (((xG es).drop (a * 2)).take ((b - a) * 2)) (by rw [hln.out, Array.length_toList, size_madeCells])
  rw [e1, Hcl.out] at hblk
  rw [Hpl.out]
  have hl2 : (xG ((es.drop a).take (b - a))).length = (b - a) * 2 := by rw [← Hcl.out]; exact hln.out
  exact hblk.own (Nat.le_refl _) (Nat.le_refl _) (by unfold maxLen; omega) (by simpa using hl2) (by rw [List.take_of_length_le (by show (xG ((es.drop a).take (b - a))).length ≤ _; omega)])
 by_cases hca : c = a
 · have hcs : Hid ((((xG es).drop (a * 2)).take ((b - a) * 2)).length = 0) := by show (((xG es).drop (a * 2)).take ((b - a) * 2)).length = 0; rw [hln.out]; omega
   go_enter Tryz.func195, Tryz.ntmps195
   go_wp2_with (with_reducible refine yh rfl (.tmp 12) (.tmp 16) 220 220 rfl 167 i0 2 Tryz.underlying220 Hi.out Hz1.out _ _ _ _ _ _ rfl rfl w.heap.size 0 _ 167 hblk0.out (((xG es).drop (a * 2)).take ((b - a) * 2)) (hln.out.trans (by rw [hmin.out])) (fun hp => absurd hp (by rw [hcs.out]; omega)) (by rw [hln.out, size_madeCells]; omega) (by rw [Hcl.out]; exact ug _) w.heap.size w hb0.out (Nat.le_refl _) ?_; intro w' hw1 hw2; have HW1 := Lib.hid hw1; clear hw1)
   go_ret
   exact ⟨_, rfl, hfin.out _ HW1.out, hw2⟩
 · go_enter Tryz.func195, Tryz.ntmps195
   go_wp2_with (with_reducible refine yh rfl (.tmp 12) (.tmp 16) 220 220 rfl 167 i0 2 Tryz.underlying220 Hi.out Hz1.out _ _ _ _ _ _ rfl rfl w.heap.size 0 _ 167 hblk0.out (((xG es).drop (a * 2)).take ((b - a) * 2)) (hln.out.trans (by rw [hmin.out])) (fun hp => ⟨rfl, hrd.out.cut (by omega) hp⟩) (by rw [hln.out, size_madeCells]; omega) (by rw [Hcl.out]; exact ug _) w.heap.size w hb0.out (Nat.le_refl _) ?_; intro w' hw1 hw2; have HW1 := Lib.hid hw1; clear hw1)
   go_ret
   exact ⟨_, rfl, hfin.out _ HW1.out, hw2⟩
theorem aGg (L0 : List Value) (a b : List Ent) (k : ByteArray) (v : Int) (h : L0.length = (a.length + 1 + b.length) * 2) :
 splice (((splice L0 0 (xG a)).set (a.length * 2) (.string k)).set (a.length * 2 + 1) (.int .i64 v)) ((a.length + 1) * 2) (xG b) = xG (a ++ (k, v) :: b) := by
 have hla := yU a
 have hlb := yU b
 have e1 : splice L0 0 (xG a) = xG a ++ L0.drop (a.length * 2) := by rw [splice, List.take_zero, List.nil_append, Nat.zero_add, hla]
 rw [e1]
 have hd : (L0.drop (a.length * 2)).length = (1 + b.length) * 2 := by rw [List.length_drop, h]; omega
 generalize L0.drop (a.length * 2) = r at *
 match r, hd with
 | [], hd => simp at hd; omega
 | [_], hd => simp at hd; omega
 | x :: y :: r, hd =>
  have hr : r.length = b.length * 2 := by simp at hd; omega
  have e2 : ((xG a ++ x :: y :: r).set (a.length * 2) (.string k)).set (a.length * 2 + 1) (.int .i64 v) = xG a ++ .string k :: .int .i64 v :: r := by
   rw [← hla, List.set_append_right _ _ (Nat.le_refl _), List.set_append_right _ _ (by omega)]
   simp
  rw [e2, splice, hlb]
  have e3 : (xG a ++ Value.string k :: Value.int .i64 v :: r).take ((a.length + 1) * 2) = xG a ++ [.string k, .int .i64 v] := by
   rw [List.take_append, hla, List.take_of_length_le (by omega), show (a.length + 1) * 2 - a.length * 2 = 2 from by omega]; rfl
  have e4 : (xG a ++ Value.string k :: Value.int .i64 v :: r).drop ((a.length + 1) * 2 + b.length * 2) = [] := List.drop_eq_nil_of_le (by simp [hla, hr]; omega)
  rw [e3, e4, List.append_nil, qJ, vG]
  simp
theorem Rd.front {w : World} {sz n : Nat} {A : Option Addr} {xs : List Value} (h : Rd w sz A n xs) {m : Nat} (hm : m ≤ n) (hpos : 0 < (xs.take (m * sz)).length) :
 ∃ ad, A = some ad ∧ ∀ j v, (xs.take (m * sz))[j]? = some v → w.cell? (ad.add j) = some v := by
 obtain ⟨b, off, rfl, hc⟩ := h.piece (i := 0) (m := m) (by omega) (by simpa using hpos)
 simp only [Nat.zero_mul, List.drop_zero, Nat.add_zero] at hc
 exact ⟨_, rfl, hc⟩
theorem Blk.two {w : World} {g : Nat} {t : TypeId} {cs : Array Value} (h : Blk w g t cs) {k : Nat} (hk : k * 2 + 1 < cs.size) :
 ∃ y0 y1, w.cell? ⟨g, k * 2, none⟩ = some y0 ∧ w.cell? ⟨g, k * 2 + 1, none⟩ = some y1 ∧ w.frozen? ⟨g, k * 2, none⟩ = false ∧ w.frozen? ⟨g, k * 2 + 1, none⟩ = false :=
 ⟨_, _, (h.cell _).trans (Array.getElem?_eq_getElem (by omega)), (h.cell _).trans (Array.getElem?_eq_getElem hk), h.frozen _, h.frozen _⟩
set_option maxHeartbeats 2000000 in
set_option maxRecDepth 100000 in
theorem aOV (A : Option Addr) (n c : Nat) (es : List Ent) (key : ByteArray) (v : Int) (w : World) (hr : Rd w 2 A n (xG es)) (hs : Srt es) (hnc : n ≤ c) (hm : n ≤ 4096) :
 Calls Tryz.prog 197 #[.slice A n c, .agg #[.string key, .int .i64 v]] w (jv 167 (za es key v) w) := by
 have hlen := hr.len
 have Hlen := Lib.hid hlen; clear hlen
 have hm' : n ≤ maxLen := by unfold maxLen; omega
 obtain ⟨i0, hi, hz0, hz1, hz2⟩ := info_parts jL
 have hmkN : Hid (∀ (N : Nat) (x : Int), x = N → N ≤ 100000 → ∀ W : World, (Instr.makeSlice 220 (.int .i64 x) (.int .i64 x)).run Tryz.prog W = .ok (.slice (some ⟨W.heap.size, 0, none⟩) N N) (W.alloc (.cells (madeCells #[Value.string ByteArray.empty, Value.int IntKind.i64 0] (N * 2)) 167))) := fun N x hx hN W => by
  subst hx
  have h := wo (P := Tryz.prog) 220 167 i0 _ Tryz.underlying220 hi hz0 .i64 .i64 N N (Nat.le_refl _) (by rw [hz2]; omega) (by omega) W
  rw [hz1] at h; exact h
 have Hi := Lib.hid hi; clear hi
 have Hz1 := Lib.hid hz1; clear hz1
 clear hz0 hz2
 have hmeth := aAq
 go_enter Tryz.func197, Tryz.ntmps197
 go_wp2_with fail
 have hx0 : (w.alloc (Obj.cells #[Value.string key, Value.int IntKind.i64 v] 167)).cell? ⟨w.heap.size, 0, none⟩ = some (.string key) := cell_of_row _ _ _ _ _ (0, 0) (heap_alloc_new w _)
 have hx1 : (w.alloc (Obj.cells #[Value.string key, Value.int IntKind.i64 v] 167)).cell? ⟨w.heap.size, 1, none⟩ = some (.int .i64 v) := cell_of_row _ _ _ _ _ (0, 0) (heap_alloc_new w _)
 have hpl : w.heap.size < (w.alloc (Obj.cells #[Value.string key, Value.int IntKind.i64 v] 167)).heap.size := by simp
 have hb0 : Below w.heap.size w (w.alloc (Obj.cells #[Value.string key, Value.int IntKind.i64 v] 167)) := (Below.refl _ _).alloc (Nat.le_refl _) _
 have hrd0 := hr.below hb0 (Nat.le_refl _)
 generalize w.alloc (Obj.cells #[Value.string key, Value.int IntKind.i64 v] 167) = w0 at *
 have HRD0 := Lib.hid hrd0
 have HB0 := Lib.hid hb0; clear hb0
 have Hpq := Lib.hid hpl
 generalize hq : w.heap.size = q at *
 have Hq := Lib.hid hq; clear hq
 refine (ve _ _ _).mono ?_
 rintro e w1 ⟨rfl, hb1⟩
 go_wp2_with fail
 refine (aIn A n c es key _ (hrd0.below hb1 (Nat.le_refl _)) hm').mono ?_
 rintro e w2 ⟨p, f, rfl, hp, hy, hn, hb2⟩
 have hb02 := yH hb1 hb2
 have hrd2 := Lib.hid (hrd0.below hb02 (Nat.le_refl _))
 have hple : p ≤ n := by have := hp.1; rw [Hlen.out] at this; exact this
 have hbs := hb02.size
 cases f with
 | false =>
  have hput := Lib.hid (hp.put_no hs (hn rfl) v)
  clear hy hn hp
  have hmk := hmkN.out (n + 1) ((p : Int) + 1 + n - p) (by omega) (by omega)
  have hB3 := Lib.hid (Blk.new w2 167 (madeCells #[Value.string ByteArray.empty, Value.int IntKind.i64 0] ((n + 1) * 2)))
  have hb3 := Lib.hid (hb02.alloc hbs (.cells (madeCells #[Value.string ByteArray.empty, Value.int IntKind.i64 0] ((n + 1) * 2)) 167))
  have hrd3 := Lib.hid (hrd2.out.alloc (.cells (madeCells #[Value.string ByteArray.empty, Value.int IntKind.i64 0] ((n + 1) * 2)) 167))
  have hL0 := Lib.hid (show (madeCells #[Value.string ByteArray.empty, Value.int IntKind.i64 0] ((n + 1) * 2)).size = (n + 1) * 2 from size_madeCells _ _)
  generalize madeCells #[Value.string ByteArray.empty, Value.int IntKind.i64 0] ((n + 1) * 2) = L0 at *
  have hta := Lib.hid (show (es.take p).length = p by rw [List.length_take, Hlen.out]; omega)
  have htb := Lib.hid (show (es.drop (p)).length = n - (p) by rw [List.length_drop, Hlen.out])
  have ht1 := Lib.hid (show (xG (es.take p)).length = p * 2 by rw [yU, hta.out])
  have ht2 := Lib.hid (show (xG (es.drop (p))).length = (n - (p)) * 2 by rw [yU, htb.out])
  have hL0' := Lib.hid (show L0.toList.length = ((es.take p).length + 1 + (es.drop (p)).length) * 2 by rw [hta.out, htb.out, Array.length_toList, hL0.out]; omega)
  have hplen := Lib.hid (show (za es key v).length = n + 1 by rw [hput.out, List.length_append, List.length_cons, hta.out, htb.out]; omega)
  have hins := Lib.hid (aGg L0.toList (es.take p) (es.drop (p)) key v hL0'.out)
  have hfin : Hid (∀ w' : World, Blk w' w2.heap.size 167 (splice (((splice L0.toList 0 (xG (es.take p))).toArray.setIfInBounds (p * 2) (.string key)).setIfInBounds (p * 2 + 1) (.int .i64 v)).toList ((p + 1) * 2) (xG (es.drop (p)))).toArray → Below w0.heap.size w0 w' →
   jv 167 (za es key v) w (.returned (.slice (some ⟨w2.heap.size, 0, none⟩) (n + 1) (n + 1))) w') := fun w' hblk hbw => by
   have h1 := hins.out
   rw [hta.out] at h1
   rw [Array.toList_setIfInBounds, Array.toList_setIfInBounds, List.toList_toArray, h1, ← hput.out] at hblk
   have hbq : Below w.heap.size w w' := by rw [Hq.out]; exact HB0.out.trans (hbw.mono (Nat.le_of_lt Hpq.out))
   have h2 : (xG (za es key v)).length = (n + 1) * 2 := by rw [yU, hplen.out]
   refine ⟨_, rfl, ?_, hbq⟩
   rw [hplen.out]
   exact hblk.own (by have := Hpq.out; have := Hq.out; omega) (Nat.le_refl _) (by unfold maxLen; omega) (by simpa using h2) (by rw [List.toList_toArray, List.take_of_length_le (by omega)])
  go_wp2_with (with_reducible refine yh rfl (.tmp 29) (.tmp 32) 220 220 rfl 167 i0 2 Tryz.underlying220 Hi.out Hz1.out _ _ _ _ _ _ rfl rfl w2.heap.size 0 _ 167 hB3.out (xG (es.take p)) (by rw [ht1.out]; congr 1; exact (Nat.min_eq_left (by omega)).symm) (fun hp => ⟨rfl, by have h := hrd3.out.front (m := p) (by omega); rw [aAp] at h; exact h hp⟩) (by rw [ht1.out, hL0.out]; omega) (ug _) w0.heap.size w0 hb3.out hbs ?_; intro w4 hw1 hw2; have hy0 := cellS hw2 hpl hx0; have hy1 := cellS hw2 hpl hx1; obtain ⟨z0, z1, hz0, hz1, hf0, hf1⟩ := hw1.two (k := p) (by rw [List.size_toArray, length_splice _ _ _ (by rw [ht1.out, Array.length_toList, hL0.out]; omega), Array.length_toList, hL0.out]; omega); have HW1 := Lib.hid hw1; clear hw1)
  have hB5 := Lib.hid ((HW1.out.set_ (p * 2) (.string key)).set_ (p * 2 + 1) (.int .i64 v))
  have hb5 : Below w0.heap.size w0 ((w4.setCell ⟨w2.heap.size, p * 2, none⟩ (.string key)).setCell ⟨w2.heap.size, p * 2 + 1, none⟩ (.int .i64 v)) := (hw2.setCell (p := ⟨w2.heap.size, p * 2, none⟩) hbs _).setCell (p := ⟨w2.heap.size, p * 2 + 1, none⟩) hbs _
  clear hy0 hy1 hz0 hz1 hf0 hf1 hx0 hx1 hrd0 hmk
  generalize (w4.setCell ⟨w2.heap.size, p * 2, none⟩ (.string key)).setCell ⟨w2.heap.size, p * 2 + 1, none⟩ (.int .i64 v) = w5 at *
  have hB6 := Lib.hid (hB5.out.drew)
  have hb6 := Lib.hid (hb5.drew)
  have hrd6 := Lib.hid ((HRD0.out.below hb5 (Nat.le_refl _)).drew)
  have hq0 : (0 : Int) ≤ (p : Int) + 1 := by omega
  have hq1 : ((p : Int) + 1).toNat = p + 1 := by omega
  have hq2 : ¬ n + 1 < p + 1 := by omega
  have hq3 : IntKind.i64.wrap ((p : Int) + 1) = (p : Int) + 1 := IntWalk.i64_in _ (by omega)
  by_cases hrn : p < n
  · have hne1 : ¬ n = p := by omega
    have hne2 : ¬ c = p := by omega
    go_still_tail 7, (by kernel_rfl)
    change wpList _ _ _ _ _ w5.drew
    generalize w5.drew = w6 at *
    go_wp2_with (with_reducible refine yh rfl (.tmp 41) (.tmp 44) 220 220 rfl 167 i0 2 Tryz.underlying220 Hi.out Hz1.out _ _ _ _ _ _ rfl rfl w2.heap.size ((p + 1) * 2) _ 167 hB6.out (xG (es.drop (p))) (by rw [ht2.out]; congr 1; exact (Nat.min_eq_left (by omega)).symm) (fun hp => ⟨rfl, by have h := hrd6.out.cut (i := p) (m := n - (p)) (by omega); rw [jG, List.take_of_length_le (by rw [ht2.out]; omega)] at h; exact h hp⟩) (by rw [ht2.out, Array.size_setIfInBounds, Array.size_setIfInBounds, List.size_toArray, length_splice _ _ _ (by rw [ht1.out, Array.length_toList, hL0.out]; omega), Array.length_toList, hL0.out]; omega) (ug _) w0.heap.size w0 hb6.out hbs ?_; intro w7 hw71 hw72; have HW71 := Lib.hid hw71; clear hw71)
    go_ret
    exact hfin.out _ HW71.out hw72
  · have hpn : p = n := by omega
    subst hpn
    have hcs := Lib.hid (show (xG (es.drop p)).length = 0 by rw [ht2.out]; omega)
    have hsub : p - p = 0 := Nat.sub_self p
    by_cases hcp : c = p
    all_goals
     go_still_tail 7, (by kernel_rfl)
     change wpList _ _ _ _ _ w5.drew
     generalize w5.drew = w6 at *
     go_wp2_with (with_reducible refine yh rfl (.tmp 41) (.tmp 44) 220 220 rfl 167 i0 2 Tryz.underlying220 Hi.out Hz1.out _ _ _ _ _ _ rfl rfl w2.heap.size ((p + 1) * 2) _ 167 hB6.out (xG (es.drop (p))) (by rw [hcs.out]; simp) (fun hp => absurd hp (by rw [hcs.out]; omega)) (by rw [ht2.out, Array.size_setIfInBounds, Array.size_setIfInBounds, List.size_toArray, length_splice _ _ _ (by rw [ht1.out, Array.length_toList, hL0.out]; omega), Array.length_toList, hL0.out]; omega) (ug _) w0.heap.size w0 hb6.out hbs ?_; intro w7 hw71 hw72; have HW71 := Lib.hid hw71; clear hw71)
     go_ret
     exact hfin.out _ HW71.out hw72
 | true =>
  obtain ⟨hlt, he⟩ := hy rfl
  have hpn0 : p < n := by rw [Hlen.out] at hlt; exact hlt
  have hput := Lib.hid (hp.put_yes hs hlt he v)
  clear hy hn hp hlt he
  have hmk := hmkN.out (n) ((p : Int) + 1 + n - (p + 1)) (by omega) (by omega)
  have hB3 := Lib.hid (Blk.new w2 167 (madeCells #[Value.string ByteArray.empty, Value.int IntKind.i64 0] ((n) * 2)))
  have hb3 := Lib.hid (hb02.alloc hbs (.cells (madeCells #[Value.string ByteArray.empty, Value.int IntKind.i64 0] ((n) * 2)) 167))
  have hrd3 := Lib.hid (hrd2.out.alloc (.cells (madeCells #[Value.string ByteArray.empty, Value.int IntKind.i64 0] ((n) * 2)) 167))
  have hL0 := Lib.hid (show (madeCells #[Value.string ByteArray.empty, Value.int IntKind.i64 0] ((n) * 2)).size = (n) * 2 from size_madeCells _ _)
  generalize madeCells #[Value.string ByteArray.empty, Value.int IntKind.i64 0] ((n) * 2) = L0 at *
  have hta := Lib.hid (show (es.take p).length = p by rw [List.length_take, Hlen.out]; omega)
  have htb := Lib.hid (show (es.drop (p + 1)).length = n - (p + 1) by rw [List.length_drop, Hlen.out])
  have ht1 := Lib.hid (show (xG (es.take p)).length = p * 2 by rw [yU, hta.out])
  have ht2 := Lib.hid (show (xG (es.drop (p + 1))).length = (n - (p + 1)) * 2 by rw [yU, htb.out])
  have hL0' := Lib.hid (show L0.toList.length = ((es.take p).length + 1 + (es.drop (p + 1)).length) * 2 by rw [hta.out, htb.out, Array.length_toList, hL0.out]; omega)
  have hplen := Lib.hid (show (za es key v).length = n by rw [hput.out, List.length_append, List.length_cons, hta.out, htb.out]; omega)
  have hins := Lib.hid (aGg L0.toList (es.take p) (es.drop (p + 1)) key v hL0'.out)
  have hfin : Hid (∀ w' : World, Blk w' w2.heap.size 167 (splice (((splice L0.toList 0 (xG (es.take p))).toArray.setIfInBounds (p * 2) (.string key)).setIfInBounds (p * 2 + 1) (.int .i64 v)).toList ((p + 1) * 2) (xG (es.drop (p + 1)))).toArray → Below w0.heap.size w0 w' →
   jv 167 (za es key v) w (.returned (.slice (some ⟨w2.heap.size, 0, none⟩) (n) (n))) w') := fun w' hblk hbw => by
   have h1 := hins.out
   rw [hta.out] at h1
   rw [Array.toList_setIfInBounds, Array.toList_setIfInBounds, List.toList_toArray, h1, ← hput.out] at hblk
   have hbq : Below w.heap.size w w' := by rw [Hq.out]; exact HB0.out.trans (hbw.mono (Nat.le_of_lt Hpq.out))
   have h2 : (xG (za es key v)).length = (n) * 2 := by rw [yU, hplen.out]
   refine ⟨_, rfl, ?_, hbq⟩
   rw [hplen.out]
   exact hblk.own (by have := Hpq.out; have := Hq.out; omega) (Nat.le_refl _) (by unfold maxLen; omega) (by simpa using h2) (by rw [List.toList_toArray, List.take_of_length_le (by omega)])
  go_wp2_with (with_reducible refine yh rfl (.tmp 29) (.tmp 32) 220 220 rfl 167 i0 2 Tryz.underlying220 Hi.out Hz1.out _ _ _ _ _ _ rfl rfl w2.heap.size 0 _ 167 hB3.out (xG (es.take p)) (by rw [ht1.out]; congr 1; exact (Nat.min_eq_left (by omega)).symm) (fun hp => ⟨rfl, by have h := hrd3.out.front (m := p) (by omega); rw [aAp] at h; exact h hp⟩) (by rw [ht1.out, hL0.out]; omega) (ug _) w0.heap.size w0 hb3.out hbs ?_; intro w4 hw1 hw2; have hy0 := cellS hw2 hpl hx0; have hy1 := cellS hw2 hpl hx1; obtain ⟨z0, z1, hz0, hz1, hf0, hf1⟩ := hw1.two (k := p) (by rw [List.size_toArray, length_splice _ _ _ (by rw [ht1.out, Array.length_toList, hL0.out]; omega), Array.length_toList, hL0.out]; omega); have HW1 := Lib.hid hw1; clear hw1)
  have hB5 := Lib.hid ((HW1.out.set_ (p * 2) (.string key)).set_ (p * 2 + 1) (.int .i64 v))
  have hb5 : Below w0.heap.size w0 ((w4.setCell ⟨w2.heap.size, p * 2, none⟩ (.string key)).setCell ⟨w2.heap.size, p * 2 + 1, none⟩ (.int .i64 v)) := (hw2.setCell (p := ⟨w2.heap.size, p * 2, none⟩) hbs _).setCell (p := ⟨w2.heap.size, p * 2 + 1, none⟩) hbs _
  clear hy0 hy1 hz0 hz1 hf0 hf1 hx0 hx1 hrd0 hmk
  generalize (w4.setCell ⟨w2.heap.size, p * 2, none⟩ (.string key)).setCell ⟨w2.heap.size, p * 2 + 1, none⟩ (.int .i64 v) = w5 at *
  have hB6 := Lib.hid (hB5.out.drew)
  have hb6 := Lib.hid (hb5.drew)
  have hrd6 := Lib.hid ((HRD0.out.below hb5 (Nat.le_refl _)).drew)
  have hq0 : (0 : Int) ≤ (p : Int) + 1 := by omega
  have hq1 : ((p : Int) + 1).toNat = p + 1 := by omega
  have hq2 : ¬ n < p + 1 := by omega
  have hq4 : p + 1 ≤ n := by omega
  have hq5 : (p : Int) + 1 ≤ (n : Int) := by omega
  have hq6 : p < n := by omega
  have hq3 : IntKind.i64.wrap ((p : Int) + 1) = (p : Int) + 1 := IntWalk.i64_in _ (by omega)
  by_cases hrn : p + 1 < n
  · have hne1 : ¬ n = p + 1 := by omega
    have hne2 : ¬ c = p + 1 := by omega
    go_still_tail 7, (by kernel_rfl)
    change wpList _ _ _ _ _ w5.drew
    generalize w5.drew = w6 at *
    go_wp2_with (with_reducible refine yh rfl (.tmp 41) (.tmp 44) 220 220 rfl 167 i0 2 Tryz.underlying220 Hi.out Hz1.out _ _ _ _ _ _ rfl rfl w2.heap.size ((p + 1) * 2) _ 167 hB6.out (xG (es.drop (p + 1))) (by rw [ht2.out]; congr 1; exact (Nat.min_eq_left (by omega)).symm) (fun hp => ⟨rfl, by have h := hrd6.out.cut (i := p + 1) (m := n - (p + 1)) (by omega); rw [jG, List.take_of_length_le (by rw [ht2.out]; omega)] at h; exact h hp⟩) (by rw [ht2.out, Array.size_setIfInBounds, Array.size_setIfInBounds, List.size_toArray, length_splice _ _ _ (by rw [ht1.out, Array.length_toList, hL0.out]; omega), Array.length_toList, hL0.out]; omega) (ug _) w0.heap.size w0 hb6.out hbs ?_; intro w7 hw71 hw72; have HW71 := Lib.hid hw71; clear hw71)
    go_ret
    exact hfin.out _ HW71.out hw72
  · have hpn : n = p + 1 := by omega
    subst hpn
    have hcs := Lib.hid (show (xG (es.drop (p + 1))).length = 0 by rw [ht2.out]; omega)
    have hsub : p + 1 - (p + 1) = 0 := Nat.sub_self _
    by_cases hcp : c = p + 1
    all_goals
     go_still_tail 7, (by kernel_rfl)
     change wpList _ _ _ _ _ w5.drew
     generalize w5.drew = w6 at *
     go_wp2_with (with_reducible refine yh rfl (.tmp 41) (.tmp 44) 220 220 rfl 167 i0 2 Tryz.underlying220 Hi.out Hz1.out _ _ _ _ _ _ rfl rfl w2.heap.size ((p + 1) * 2) _ 167 hB6.out (xG (es.drop (p + 1))) (by rw [hcs.out]; simp) (fun hp => absurd hp (by rw [hcs.out]; omega)) (by rw [ht2.out, Array.size_setIfInBounds, Array.size_setIfInBounds, List.size_toArray, length_splice _ _ _ (by rw [ht1.out, Array.length_toList, hL0.out]; omega), Array.length_toList, hL0.out]; omega) (ug _) w0.heap.size w0 hb6.out hbs ?_; intro w7 hw71 hw72; have HW71 := Lib.hid hw71; clear hw71)
     go_ret
     exact hfin.out _ HW71.out hw72
theorem aMa (L0 : List Value) (a b : List Ent) (h : L0.length = (a.length + b.length) * 2) :
 splice (splice L0 0 (xG a)) (a.length * 2) (xG b) = xG (a ++ b) := by
 have hla := yU a
 have hlb := yU b
 have e1 : splice L0 0 (xG a) = xG a ++ L0.drop (a.length * 2) := by rw [splice, List.take_zero, List.nil_append, Nat.zero_add, hla]
 have hd : (L0.drop (a.length * 2)).length = b.length * 2 := by rw [List.length_drop, h]; omega
 rw [e1, splice, hlb]
 have e3 : (xG a ++ L0.drop (a.length * 2)).take (a.length * 2) = xG a := by rw [← hla]; exact List.take_left
 have e4 : (xG a ++ L0.drop (a.length * 2)).drop (a.length * 2 + b.length * 2) = [] := List.drop_eq_nil_of_le (by simp [hla]; omega)
 rw [e3, e4, List.append_nil, qJ]
set_option maxHeartbeats 2000000 in
set_option maxRecDepth 100000 in
theorem aJK (A : Option Addr) (n c : Nat) (es : List Ent) (key : ByteArray) (w : World) (hr : Rd w 2 A n (xG es)) (hs : Srt es) (hnc : n ≤ c) (hc : c ≤ maxLen) (hm : n ≤ 4096) :
 Calls Tryz.prog 196 #[.slice A n c, .string key] w (jv 167 (kM es key) w) := by
 have hlen := hr.len
 have Hlen := Lib.hid hlen; clear hlen
 have hm' : n ≤ maxLen := by unfold maxLen; omega
 obtain ⟨i0, hi, hz0, hz1, hz2⟩ := info_parts jL
 have hmkN : Hid (∀ (N : Nat) (x : Int), x = N → N ≤ 100000 → ∀ W : World, (Instr.makeSlice 220 (.int .i64 x) (.int .i64 x)).run Tryz.prog W = .ok (.slice (some ⟨W.heap.size, 0, none⟩) N N) (W.alloc (.cells (madeCells #[Value.string ByteArray.empty, Value.int IntKind.i64 0] (N * 2)) 167))) := fun N x hx hN W => by
  subst hx
  have h := wo (P := Tryz.prog) 220 167 i0 _ Tryz.underlying220 hi hz0 .i64 .i64 N N (Nat.le_refl _) (by rw [hz2]; omega) (by omega) W
  rw [hz1] at h; exact h
 have Hi := Lib.hid hi; clear hi
 have Hz1 := Lib.hid hz1; clear hz1
 clear hz0 hz2
 go_enter Tryz.func196, Tryz.ntmps196
 go_wp2_with fail
 refine (aIn A n c es key _ hr hm').mono ?_
 rintro e w2 ⟨p, f, rfl, hp, hy, hn, hb2⟩
 have hrd2 := hr.below hb2 (Nat.le_refl _)
 have hple : p ≤ n := by have := hp.1; rw [Hlen.out] at this; exact this
 have hbs := hb2.size
 cases f with
 | false =>
  have hdel := Lib.hid (aRC (hp.fnd_no hs (hn rfl)))
  have htk := Lib.hid (show (es.drop 0).take (n - 0) = es by rw [List.drop_zero, List.take_of_length_le (by rw [Hlen.out]; omega)])
  clear hy hn hp
  go_wp2_with (go_at_call 195; refine (aIT A n c es 0 n _ hrd2 (by omega) (by omega) hnc hc hm).mono ?_; rintro e w3 ⟨v3, rfl, ho3, hb3⟩; rw [htk.out] at ho3; have HO3 := Lib.hid ho3; clear ho3)
  go_ret
  exact ⟨_, rfl, by rw [hdel.out]; exact aIN HO3.out hbs, yH hb2 hb3⟩
 | true =>
  obtain ⟨hlt, he⟩ := hy rfl
  have hpn0 : p < n := by rw [Hlen.out] at hlt; exact hlt
  have hdel := Lib.hid (hp.del_yes hs hlt he)
  clear hy hn hp hlt he
  have hmk := hmkN.out (n - 1) ((n : Int) - 1) (by omega) (by omega)
  have hB3 := Lib.hid (Blk.new w2 167 (madeCells #[Value.string ByteArray.empty, Value.int IntKind.i64 0] ((n - 1) * 2)))
  have hb3 := Lib.hid (hb2.alloc hbs (.cells (madeCells #[Value.string ByteArray.empty, Value.int IntKind.i64 0] ((n - 1) * 2)) 167))
  have hrd3 := Lib.hid (hrd2.alloc (.cells (madeCells #[Value.string ByteArray.empty, Value.int IntKind.i64 0] ((n - 1) * 2)) 167))
  have hL0 := Lib.hid (show (madeCells #[Value.string ByteArray.empty, Value.int IntKind.i64 0] ((n - 1) * 2)).size = (n - 1) * 2 from size_madeCells _ _)
  generalize madeCells #[Value.string ByteArray.empty, Value.int IntKind.i64 0] ((n - 1) * 2) = L0 at *
  have hta := Lib.hid (show (es.take p).length = p by rw [List.length_take, Hlen.out]; omega)
  have htb := Lib.hid (show (es.drop (p + 1)).length = n - (p + 1) by rw [List.length_drop, Hlen.out])
  have ht1 := Lib.hid (show (xG (es.take p)).length = p * 2 by rw [yU, hta.out])
  have ht2 := Lib.hid (show (xG (es.drop (p + 1))).length = (n - (p + 1)) * 2 by rw [yU, htb.out])
  have hL0' := Lib.hid (show L0.toList.length = ((es.take p).length + (es.drop (p + 1)).length) * 2 by rw [hta.out, htb.out, Array.length_toList, hL0.out]; omega)
  have hplen := Lib.hid (show (kM es key).length = n - 1 by rw [hdel.out, List.length_append, hta.out, htb.out]; omega)
  have hins := Lib.hid (aMa L0.toList (es.take p) (es.drop (p + 1)) hL0'.out)
  have hfin : Hid (∀ w' : World, Blk w' w2.heap.size 167 (splice (splice L0.toList 0 (xG (es.take p))).toArray.toList (p * 2) (xG (es.drop (p + 1)))).toArray → Below w.heap.size w w' →
   jv 167 (kM es key) w (.returned (.slice (some ⟨w2.heap.size, 0, none⟩) (n - 1) (n - 1))) w') := fun w' hblk hbw => by
   have h1 := hins.out
   rw [hta.out] at h1
   rw [List.toList_toArray, h1, ← hdel.out] at hblk
   have h2 : (xG (kM es key)).length = (n - 1) * 2 := by rw [yU, hplen.out]
   refine ⟨_, rfl, ?_, hbw⟩
   rw [hplen.out]
   exact hblk.own hbs (Nat.le_refl _) (by unfold maxLen; omega) (by simpa using h2) (by rw [List.toList_toArray, List.take_of_length_le (by omega)])
  unfold maxLen at hc
  go_wp2_with (with_reducible refine yh rfl (.tmp 24) (.tmp 27) 220 220 rfl 167 i0 2 Tryz.underlying220 Hi.out Hz1.out _ _ _ _ _ _ rfl rfl w2.heap.size 0 _ 167 hB3.out (xG (es.take p)) (by rw [ht1.out]; congr 1; exact (Nat.min_eq_left (by omega)).symm) (fun hp => ⟨rfl, by have h := hrd3.out.front (m := p) (by omega); rw [aAp] at h; exact h hp⟩) (by rw [ht1.out, hL0.out]; omega) (ug _) w.heap.size w hb3.out hbs ?_; intro w4 hw1 hw2; have HW1 := Lib.hid hw1; clear hw1)
  have hB6 := Lib.hid (HW1.out.drew)
  have hb6 := Lib.hid (hw2.drew)
  have hrd6 := Lib.hid ((hr.below hw2 (Nat.le_refl _)).drew)
  have hq0 : (0 : Int) ≤ (p : Int) + 1 := by omega
  have hq1 : ((p : Int) + 1).toNat = p + 1 := by omega
  have hq3 : IntKind.i64.wrap ((p : Int) + 1) = (p : Int) + 1 := IntWalk.i64_in _ (by omega)
  have hq2 : ¬ n < p + 1 := by omega
  have hq4 : p + 1 ≤ n := by omega
  have hq5 : (p : Int) + 1 ≤ (n : Int) := by omega
  have hq7 : ¬ n - 1 < p := by omega
  have hq8 : p ≤ n - 1 := by omega
  have hn1 : n - 1 - p = n - (p + 1) := by omega
  by_cases hrn : p + 1 < n
  · have hne1 : ¬ n - 1 = p := by omega
    have hne2 : ¬ c = p + 1 := by omega
    go_still_tail 7, (by kernel_rfl)
    change wpList _ _ _ _ _ w4.drew
    generalize w4.drew = w6 at *
    go_wp2_with (with_reducible refine yh rfl (.tmp 31) (.tmp 35) 220 220 rfl 167 i0 2 Tryz.underlying220 Hi.out Hz1.out _ _ _ _ _ _ rfl rfl w2.heap.size (p * 2) _ 167 hB6.out (xG (es.drop (p + 1))) (by rw [ht2.out]; congr 1; exact (Nat.min_eq_left (by omega)).symm) (fun hp => ⟨rfl, by have h := hrd6.out.cut (i := p + 1) (m := n - (p + 1)) (by omega); rw [jG, List.take_of_length_le (by rw [ht2.out]; omega)] at h; exact h hp⟩) (by rw [ht2.out, List.size_toArray, length_splice _ _ _ (by rw [ht1.out, Array.length_toList, hL0.out]; omega), Array.length_toList, hL0.out]; omega) (ug _) w.heap.size w hb6.out hbs ?_; intro w7 hw71 hw72; have HW71 := Lib.hid hw71; clear hw71)
    go_ret
    exact hfin.out _ HW71.out hw72
  · have hpn : n = p + 1 := by omega
    subst hpn
    have hcs := Lib.hid (show (xG (es.drop (p + 1))).length = 0 by rw [ht2.out]; omega)
    have hsub : p + 1 - (p + 1) = 0 := Nat.sub_self _
    by_cases hcp : c = p + 1
    all_goals
     go_still_tail 7, (by kernel_rfl)
     change wpList _ _ _ _ _ w4.drew
     generalize w4.drew = w6 at *
     go_wp2_with (with_reducible refine yh rfl (.tmp 31) (.tmp 35) 220 220 rfl 167 i0 2 Tryz.underlying220 Hi.out Hz1.out _ _ _ _ _ _ rfl rfl w2.heap.size (p * 2) _ 167 hB6.out (xG (es.drop (p + 1))) (by rw [hcs.out]; simp) (fun hp => absurd hp (by rw [hcs.out]; omega)) (by rw [ht2.out, List.size_toArray, length_splice _ _ _ (by rw [ht1.out, Array.length_toList, hL0.out]; omega), Array.length_toList, hL0.out]; omega) (ug _) w.heap.size w hb6.out hbs ?_; intro w7 hw71 hw72; have HW71 := Lib.hid hw71; clear hw71)
     go_ret
     exact hfin.out _ HW71.out hw72
theorem aLG (key : ByteArray) (v : Int) (g : Bool) (w : World) :
 Calls Tryz.prog 129 #[.agg #[.string key, .int .i64 v, .bool g]] w fun e w' => e = .returned (.agg #[.string key, .int .i64 v, .bool g]) ∧ Below w.heap.size w w' := by
 go_enter Tryz.func129, Tryz.ntmps129
 go_wp2
 exact bodyPost_ret (v := .agg #[.string key, .int .i64 v, .bool g]) (by simp [results, Tryz.results129, go_sem]) rfl ⟨rfl, by
  refine ((((((((((Below.refl _ _).alloc (Nat.le_refl _) _).alloc (by simp) _).alloc (by simp; omega) _)))))))⟩
instance edt_dec : DecidableEq Edt := fun a b => decidable_of_iff (a.key = b.key ∧ a.val = b.val ∧ a.gone = b.gone) ⟨fun ⟨h1, h2, h3⟩ => by cases a; cases b; simp at *; exact ⟨h1, h2, h3⟩, fun h => by subst h; exact ⟨rfl, rfl, rfl⟩⟩
def EqD (a b : Edt) : Bool := decide (a.key = b.key) && (decide (a.val = b.val) && decide (a.gone = b.gone))
theorem aPj (a b : Edt) : EqD a b = decide (a = b) := by
 obtain ⟨a1, a2, a3⟩ := a
 obtain ⟨b1, b2, b3⟩ := b
 rw [Bool.eq_iff_iff]; simp [EqD]
set_option maxRecDepth 100000 in
theorem aLW (k1 k2 : ByteArray) (v1 v2 : Int) (g1 g2 : Bool) (w : World) :
 Calls Tryz.prog 147 #[.agg #[.string k1, .int .i64 v1, .bool g1], .agg #[.string k2, .int .i64 v2, .bool g2]] w fun e w' => e = .returned (.bool (EqD ⟨k1, v1, g1⟩ ⟨k2, v2, g2⟩)) ∧ Below w.heap.size w w' := by
 have hk := uQ k1 k2
 by_cases h1 : k1 = k2 <;> by_cases h2 : v1 = v2 <;> cases g1 <;> cases g2
 all_goals
  go_enter Tryz.func147, Tryz.ntmps147
  go_wp2
  go_ret
  exact ⟨xQ (by simp [EqD, h1, h2]), ((Below.refl _ _).alloc (Nat.le_refl _) _).alloc (by simp) _⟩
set_option maxRecDepth 100000 in
theorem aJn (A : Option Addr) (n c : Nat) (es : List Edt) (A' : Option Addr) (n' c' : Nat) (es' : List Edt) (w : World) (hr : Rd w 3 A n (yD es)) (hr' : Rd w 3 A' n' (yD es')) (hm : n ≤ maxLen) (hm' : n' ≤ maxLen) (hsame : es = es') :
 Calls Tryz.prog 124 #[.slice A n c, .slice A' n' c'] w (aNp true w) := by
 subst hsame
 have hne : n = n' := by rw [← hr.elen, ← hr'.elen]
 unfold maxLen at hm hm'
 have hlen := hr.elen
 have Hlen := Lib.hid hlen; clear hlen
 subst hne
 go_enter Tryz.func124, Tryz.ntmps124
 go_wp2
 go_loopw [5] (fun i wr => ∃ k : Nat, k ≤ n ∧ i = .int .i64 k ∧ Below w.heap.size w wr) (fun i _ => n - (intOf i).toNat)
 case atStart => exact ⟨0, Nat.zero_le _, rfl, Below.refl _ _⟩
 case round =>
  obtain ⟨k, hk, rfl, hb⟩ := hrel
  by_cases hlt : k < n
  · have hke : k < es.length := by rw [Hlen.out]; exact hlt
    obtain ⟨b, off, rfl, hbl, hbl2, hc1, hc2, hc3⟩ := hr.edt hb hke
    obtain ⟨b', off', rfl, hbl', hbl2', hc1', hc2', hc3'⟩ := hr'.edt hb hke
    generalize es[k] = ek at *
    obtain ⟨k1, v1, g1⟩ := ek
    have hcall : Hid (∀ W : World, Calls Tryz.prog 147 #[.agg #[.string k1, .int .i64 v1, .bool g1], .agg #[.string k1, .int .i64 v1, .bool g1]] W fun e w' => e = .returned (.bool true) ∧ Below W.heap.size W w') := fun W => by
     have h := aLW k1 k1 v1 v1 g1 g1 W
     rw [aPj, decide_eq_true rfl] at h; exact h
    go_wp2
    go_still_tail 8, (by kernel_rfl)
    change wpList _ _ _ _ _ wr.drew
    generalize hw2 : wr.drew = w2
    have hb2 : Below w.heap.size w w2 := by rw [← hw2]; exact hb.drew
    clear hw2 hb
    go_wp2_with fail
    refine (hcall.out _).mono ?_
    rintro e w3 ⟨rfl, hb3⟩
    go_wp2
    go_roundw
    case rel => exact ⟨k + 1, by omega, by go_num, hb2.trans (hb3.mono hb2.size)⟩
    case measure => simp [intOf]; omega
  · go_wp2
    go_ret
    exact ⟨rfl, hb⟩
theorem aCw : (Tryz.prog.info? 191).map (fun i => (i.zero, i.size, i.bytes)) = some (some (.agg #[.string ByteArray.empty, .int .i64 0, .bool false]), 3, 32) := by kernel_rfl
theorem Blk.three {w : World} {g : Nat} {t : TypeId} {cs : Array Value} (h : Blk w g t cs) {k : Nat} (hk : k * 3 + 2 < cs.size) :
 ∃ y0 y1 y2, w.cell? ⟨g, k * 3, none⟩ = some y0 ∧ w.cell? ⟨g, k * 3 + 1, none⟩ = some y1 ∧ w.cell? ⟨g, k * 3 + 2, none⟩ = some y2 ∧ w.frozen? ⟨g, k * 3, none⟩ = false ∧ w.frozen? ⟨g, k * 3 + 1, none⟩ = false ∧ w.frozen? ⟨g, k * 3 + 2, none⟩ = false :=
 ⟨_, _, _, (h.cell _).trans (Array.getElem?_eq_getElem (by omega)), (h.cell _).trans (Array.getElem?_eq_getElem (by omega)), (h.cell _).trans (Array.getElem?_eq_getElem hk), h.frozen _, h.frozen _, h.frozen _⟩
set_option maxRecDepth 100000 in
theorem aJa (A : Option Addr) (n c : Nat) (es : List Edt) (w : World) (hr : Rd w 3 A n (yD es)) (hm : n ≤ 1048576) :
 Calls Tryz.prog 106 #[.slice A n c] w fun e w' => ∃ v, e = .returned v ∧ w'.ownsRow w.heap.size 191 3 v n (yD es) ∧ Below w.heap.size w w' := by
 have hlen := hr.elen
 have Hlen := Lib.hid hlen; clear hlen
 obtain ⟨i0, hi, hz0, hz1, hz2⟩ := info_parts aCw
 have hmk := fun W => wo (P := Tryz.prog) 92 191 i0 _ Tryz.underlying92 hi hz0 .i64 .i64 n n (Nat.le_refl _) (by rw [hz2]; omega) (by omega) W
 rw [hz1] at hmk
 have hm' : n ≤ 9223372036854775807 := by omega
 have Hi := Lib.hid hi; clear hi
 clear hz0 hz1 hz2 hm
 go_enter Tryz.func106, Tryz.ntmps106
 go_wp2
 have hblk0 : Blk (w.alloc (.cells (madeCells (Value.agg #[Value.string ByteArray.empty, Value.int IntKind.i64 0, Value.bool false]).cells (n * 3)) 191)) w.heap.size 191 (madeCells (Value.agg #[Value.string ByteArray.empty, Value.int IntKind.i64 0, Value.bool false]).cells (n * 3)) := Blk.new _ _ _
 have HB0 := Lib.hid hblk0; clear hblk0
 have hb0 : Below w.heap.size w (w.alloc (.cells (madeCells (Value.agg #[Value.string ByteArray.empty, Value.int IntKind.i64 0, Value.bool false]).cells (n * 3)) 191)) := (Below.refl _ _).alloc (Nat.le_refl _) _
 have HBel := Lib.hid hb0; clear hb0
 generalize hg0 : w.heap.size = g at *
 have Hg0 := Lib.hid hg0; clear hg0
 go_loopw [4] (fun i wr => ∃ (k : Nat) (cs : Array Value), k ≤ n ∧ i = .int .i64 k ∧ Blk wr g 191 cs ∧ cs.size = n * 3 ∧ cs.toList.take (k * 3) = yD (es.take k) ∧ Below g w wr) (fun i _ => n - (intOf i).toNat)
 case atStart => exact ⟨0, _, Nat.zero_le _, rfl, HB0.out, by simp [size_madeCells], by simp [yD], HBel.out⟩
 case round =>
  obtain ⟨k, cs, hk, rfl, hblk, hsz, htk, hb⟩ := hrel
  by_cases hlt : k < n
  · have hke : k < es.length := by rw [Hlen.out]; exact hlt
    obtain ⟨b, off, rfl, hbl, hbl2, hc1, hc2, hc3⟩ := hr.edt (by rw [Hg0.out]; exact hb) hke
    have hstep : Hid (yD (es.take (k + 1)) = yD (es.take k) ++ [.string es[k].key, .int .i64 es[k].val, .bool es[k].gone]) := by
     rw [List.take_succ_eq_append_getElem hke, aDS]; rfl
    have HT := Lib.hid htk; clear htk
    have HS := Lib.hid hsz; clear hsz
    have HB := Lib.hid hblk; clear hblk
    generalize es[k] = ek at *
    go_wp2_with fail
    refine (aLG _ _ _ _).mono ?_
    rintro e w1 ⟨rfl, hb1⟩
    have hgl : g < wr.heap.size := HB.out.lt
    have hblk1 : Blk w1 g 191 cs := HB.out.kept hb1
    obtain ⟨y0, y1, y2, hx0, hx1, hx2, hf0, hf1, hf2⟩ := hblk1.three (k := k) (by have := HS.out; omega)
    have HB1 := Lib.hid hblk1; clear hblk1
    go_wp2
    go_roundw
    case rel => exact ⟨k + 1, _, by omega, by go_num, ((HB1.out.set_ _ _).set_ _ _).set_ _ _, by simpa using HS.out, by rw [aMi _ _ _ _ _ (by have := HS.out; omega), HT.out, hstep.out], (((hb.trans (hb1.mono (by omega))).setCell (Nat.le_refl g) _).setCell (Nat.le_refl g) _).setCell (Nat.le_refl g) _⟩
    case measure => simp [intOf]; omega
  · have HT := Lib.hid htk; clear htk
    have HS := Lib.hid hsz; clear hsz
    have HB := Lib.hid hblk; clear hblk
    have hkn : k = n := by omega
    have HKN := Lib.hid hkn; clear hkn
    go_wp2
    go_ret
    exact ⟨_, rfl, HB.out.own (Nat.le_of_eq Hg0.out) (Nat.le_refl _) (by unfold maxLen; omega) HS.out (by have h := HT.out; rw [HKN.out, List.take_of_length_le (l := es) (by rw [Hlen.out]; exact Nat.le_refl _)] at h; exact h), by rw [Hg0.out]; exact hb⟩
def aQ8 : Nat → Int → ByteArray → ByteArray
 | 0, _, t => t
 | f + 1, j, t => if 0 < j then aQ8 f (j / 10) (strOfNums [48 + j % 10] ++ t) else t
def aR0 (k : Int) : ByteArray := if 0 < k then ⟨#[109]⟩ ++ aQ8 k.toNat k ⟨#[]⟩ else ⟨#[109, 48]⟩
def marked : Nat → Int → List Ent
 | 0, _ => []
 | n + 1, k => (aR0 k, k + 1) :: marked n (k + 2)
end Go.Proofs.YtkfllfhcjegfoaaGreatDoor
