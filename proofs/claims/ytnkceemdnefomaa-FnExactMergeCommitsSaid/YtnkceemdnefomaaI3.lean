/- The program's with: an entry put in at its place, into new memory. -/
import Derived.Test.YtnkceemdnefomaaI2
namespace Go.Proofs.Ytnkceemdnefomaa
open Go.RowKit

theorem ins_cells (L0 : List Value) (a b : List Ent) (k : ByteArray) (v : Int) (h : L0.length = (a.length + 1 + b.length) * 2) :
    splice (((splice L0 0 (entsC a)).set (a.length * 2) (.string k)).set (a.length * 2 + 1) (.int .i64 v)) ((a.length + 1) * 2) (entsC b) = entsC (a ++ (k, v) :: b) := by
  have hla := entsC_length a
  have hlb := entsC_length b
  have e1 : splice L0 0 (entsC a) = entsC a ++ L0.drop (a.length * 2) := by rw [splice, List.take_zero, List.nil_append, Nat.zero_add, hla]
  rw [e1]
  have hd : (L0.drop (a.length * 2)).length = (1 + b.length) * 2 := by rw [List.length_drop, h]; omega
  generalize L0.drop (a.length * 2) = r at *
  match r, hd with
  | [], hd => simp at hd; omega
  | [_], hd => simp at hd; omega
  | x :: y :: r, hd =>
    have hr : r.length = b.length * 2 := by simp at hd; omega
    have e2 : ((entsC a ++ x :: y :: r).set (a.length * 2) (.string k)).set (a.length * 2 + 1) (.int .i64 v) = entsC a ++ .string k :: .int .i64 v :: r := by
      rw [← hla, List.set_append_right _ _ (Nat.le_refl _), List.set_append_right _ _ (by omega)]
      simp
    rw [e2, splice, hlb]
    have e3 : (entsC a ++ Value.string k :: Value.int .i64 v :: r).take ((a.length + 1) * 2) = entsC a ++ [.string k, .int .i64 v] := by
      rw [List.take_append, hla, List.take_of_length_le (by omega), show (a.length + 1) * 2 - a.length * 2 = 2 from by omega]; rfl
    have e4 : (entsC a ++ Value.string k :: Value.int .i64 v :: r).drop ((a.length + 1) * 2 + b.length * 2) = [] := List.drop_eq_nil_of_le (by simp [hla, hr]; omega)
    rw [e3, e4, List.append_nil, entsC_append, entsC_cons]
    simp

theorem Rd.front {w : World} {sz n : Nat} {A : Option Addr} {xs : List Value} (h : Rd w sz A n xs) {m : Nat} (hm : m ≤ n) (hpos : 0 < (xs.take (m * sz)).length) :
    ∃ ad, A = some ad ∧ ∀ j v, (xs.take (m * sz))[j]? = some v → w.cell? (ad.add j) = some v := by
  obtain ⟨b, off, rfl, hc⟩ := h.piece (i := 0) (m := m) (by omega) (by simpa using hpos)
  simp only [Nat.zero_mul, List.drop_zero, Nat.add_zero] at hc
  exact ⟨_, rfl, hc⟩
theorem Blk.two {w : World} {g : Nat} {t : TypeId} {cs : Array Value} (h : Blk w g t cs) {k : Nat} (hk : k * 2 + 1 < cs.size) :
    ∃ y0 y1, w.cell? ⟨g, k * 2, none⟩ = some y0 ∧ w.cell? ⟨g, k * 2 + 1, none⟩ = some y1 ∧ w.frozen? ⟨g, k * 2, none⟩ = false ∧ w.frozen? ⟨g, k * 2 + 1, none⟩ = false :=
  ⟨_, _, (h.cell _).trans (Array.getElem?_eq_getElem (by omega)), (h.cell _).trans (Array.getElem?_eq_getElem hk), h.frozen _, h.frozen _⟩
theorem Blk.cast {w : World} {g : Nat} {t : TypeId} {cs cs' : Array Value} (h : Blk w g t cs) (e : cs.toList = cs'.toList) : Blk w g t cs' := by
  have : cs = cs' := Array.ext' e
  rw [← this]; exact h

set_option maxHeartbeats 2000000 in
set_option maxRecDepth 100000 in
theorem with_any (A : Option Addr) (n c : Nat) (es : List Ent) (key : ByteArray) (v : Int) (w : World) (hr : Rd w 2 A n (entsC es)) (hs : Srt es) (hnc : n ≤ c) (hm : n ≤ 4096) :
    Calls Try.prog 155 #[.slice A n c, .agg #[.string key, .int .i64 v]] w (OwnPost 126 (putL es key v) w) := by
  have hlen := hr.len
  have Hlen := Lib.hid hlen; clear hlen
  have hm' : n ≤ maxLen := by unfold maxLen; omega
  obtain ⟨i0, hi, hz0, hz1, hz2⟩ := info_parts info_Entry
  have hmkN : Hid (∀ (N : Nat) (x : Int), x = N → N ≤ 100000 → ∀ W : World, (Instr.makeSlice 173 (.int .i64 x) (.int .i64 x)).run Try.prog W = .ok (.slice (some ⟨W.heap.size, 0, none⟩) N N) (W.alloc (.cells (madeCells #[Value.string ByteArray.empty, Value.int IntKind.i64 0] (N * 2)) 126))) := fun N x hx hN W => by
    subst hx
    have h := run_make_rowN (P := Try.prog) 173 126 i0 _ Try.underlying173 hi hz0 .i64 .i64 N N (Nat.le_refl _) (by rw [hz2]; omega) (by omega) W
    rw [hz1] at h; exact h
  have Hi := Lib.hid hi; clear hi
  have Hz1 := Lib.hid hz1; clear hz1
  clear hz0 hz2
  have hmeth := method_key
  go_enter Try.func155, Try.ntmps155
  go_wp2_with fail
  have hx0 : (w.alloc (Obj.cells #[Value.string key, Value.int IntKind.i64 v] 126)).cell? ⟨w.heap.size, 0, none⟩ = some (.string key) := cell_of_row _ _ _ _ _ (0, 0) (heap_alloc_new w _)
  have hx1 : (w.alloc (Obj.cells #[Value.string key, Value.int IntKind.i64 v] 126)).cell? ⟨w.heap.size, 1, none⟩ = some (.int .i64 v) := cell_of_row _ _ _ _ _ (0, 0) (heap_alloc_new w _)
  have hpl : w.heap.size < (w.alloc (Obj.cells #[Value.string key, Value.int IntKind.i64 v] 126)).heap.size := by simp
  have hb0 : Below w.heap.size w (w.alloc (Obj.cells #[Value.string key, Value.int IntKind.i64 v] 126)) := (Below.refl _ _).alloc (Nat.le_refl _) _
  have hrd0 := hr.below hb0 (Nat.le_refl _)
  generalize w.alloc (Obj.cells #[Value.string key, Value.int IntKind.i64 v] 126) = w0 at *
  have HRD0 := Lib.hid hrd0
  have HB0 := Lib.hid hb0; clear hb0
  have Hpq := Lib.hid hpl
  generalize hq : w.heap.size = q at *
  have Hq := Lib.hid hq; clear hq
  refine (keyOf_any _ _ _).mono ?_
  rintro e w1 ⟨rfl, hb1⟩
  go_wp2_with fail
  refine (find_any A n c es key _ (hrd0.below hb1 (Nat.le_refl _)) hm').mono ?_
  rintro e w2 ⟨p, f, rfl, hp, hy, hn, hb2⟩
  have hb02 := keepS hb1 hb2
  have hrd2 := Lib.hid (hrd0.below hb02 (Nat.le_refl _))
  have hple : p ≤ n := by have := hp.1; rw [Hlen.out] at this; exact this
  have hbs := hb02.size
  cases f with
  | false =>
    have hput := Lib.hid (hp.put_no hs (hn rfl) v)
    clear hy hn hp
    have hmk := hmkN.out (n + 1) ((p : Int) + 1 + n - p) (by omega) (by omega)
    have hB3 := Lib.hid (Blk.new w2 126 (madeCells #[Value.string ByteArray.empty, Value.int IntKind.i64 0] ((n + 1) * 2)))
    have hb3 := Lib.hid (hb02.alloc hbs (.cells (madeCells #[Value.string ByteArray.empty, Value.int IntKind.i64 0] ((n + 1) * 2)) 126))
    have hrd3 := Lib.hid (hrd2.out.alloc (.cells (madeCells #[Value.string ByteArray.empty, Value.int IntKind.i64 0] ((n + 1) * 2)) 126))
    have hL0 := Lib.hid (show (madeCells #[Value.string ByteArray.empty, Value.int IntKind.i64 0] ((n + 1) * 2)).size = (n + 1) * 2 from size_madeCells _ _)
    generalize madeCells #[Value.string ByteArray.empty, Value.int IntKind.i64 0] ((n + 1) * 2) = L0 at *
    have hta := Lib.hid (show (es.take p).length = p by rw [List.length_take, Hlen.out]; omega)
    have htb := Lib.hid (show (es.drop (p)).length = n - (p) by rw [List.length_drop, Hlen.out])
    have ht1 := Lib.hid (show (entsC (es.take p)).length = p * 2 by rw [entsC_length, hta.out])
    have ht2 := Lib.hid (show (entsC (es.drop (p))).length = (n - (p)) * 2 by rw [entsC_length, htb.out])
    have hL0' := Lib.hid (show L0.toList.length = ((es.take p).length + 1 + (es.drop (p)).length) * 2 by rw [hta.out, htb.out, Array.length_toList, hL0.out]; omega)
    have hplen := Lib.hid (show (putL es key v).length = n + 1 by rw [hput.out, List.length_append, List.length_cons, hta.out, htb.out]; omega)
    have hins := Lib.hid (ins_cells L0.toList (es.take p) (es.drop (p)) key v hL0'.out)
    have hfin : Hid (∀ w' : World, Blk w' w2.heap.size 126 (splice (((splice L0.toList 0 (entsC (es.take p))).toArray.setIfInBounds (p * 2) (.string key)).setIfInBounds (p * 2 + 1) (.int .i64 v)).toList ((p + 1) * 2) (entsC (es.drop (p)))).toArray → Below w0.heap.size w0 w' →
        OwnPost 126 (putL es key v) w (.returned (.slice (some ⟨w2.heap.size, 0, none⟩) (n + 1) (n + 1))) w') := fun w' hblk hbw => by
      have h1 := hins.out
      rw [hta.out] at h1
      rw [Array.toList_setIfInBounds, Array.toList_setIfInBounds, List.toList_toArray, h1, ← hput.out] at hblk
      have hbq : Below w.heap.size w w' := by rw [Hq.out]; exact HB0.out.trans (hbw.mono (Nat.le_of_lt Hpq.out))
      have h2 : (entsC (putL es key v)).length = (n + 1) * 2 := by rw [entsC_length, hplen.out]
      refine ⟨_, rfl, ?_, hbq⟩
      rw [hplen.out]
      exact hblk.own (by have := Hpq.out; have := Hq.out; omega) (Nat.le_refl _) (by unfold maxLen; omega) (by simpa using h2) (by rw [List.toList_toArray, List.take_of_length_le (by omega)])
    go_wp2_with (with_reducible refine wpList_copy_multi rfl (.tmp 29) (.tmp 32) 173 173 rfl 126 i0 2 Try.underlying173 Hi.out Hz1.out _ _ _ _ _ _ rfl rfl w2.heap.size 0 _ 126 hB3.out (entsC (es.take p)) (by rw [ht1.out]; congr 1; exact (Nat.min_eq_left (by omega)).symm) (fun hp => ⟨rfl, by have h := hrd3.out.front (m := p) (by omega); rw [entsC_take] at h; exact h hp⟩) (by rw [ht1.out, hL0.out]; omega) (entsC_one _) w0.heap.size w0 hb3.out hbs ?_; intro w4 hw1 hw2; have hy0 := cellS hw2 hpl hx0; have hy1 := cellS hw2 hpl hx1; obtain ⟨z0, z1, hz0, hz1, hf0, hf1⟩ := hw1.two (k := p) (by rw [List.size_toArray, length_splice _ _ _ (by rw [ht1.out, Array.length_toList, hL0.out]; omega), Array.length_toList, hL0.out]; omega); have HW1 := Lib.hid hw1; clear hw1)
    have hB5 := Lib.hid ((HW1.out.set_ (p * 2) (.string key)).set_ (p * 2 + 1) (.int .i64 v))
    have hb5 : Below w0.heap.size w0 ((w4.setCell ⟨w2.heap.size, p * 2, none⟩ (.string key)).setCell ⟨w2.heap.size, p * 2 + 1, none⟩ (.int .i64 v)) := (hw2.setCell (p := ⟨w2.heap.size, p * 2, none⟩) hbs _).setCell (p := ⟨w2.heap.size, p * 2 + 1, none⟩) hbs _
    clear hy0 hy1 hz0 hz1 hf0 hf1 hx0 hx1 hrd0 hmk
    generalize (w4.setCell ⟨w2.heap.size, p * 2, none⟩ (.string key)).setCell ⟨w2.heap.size, p * 2 + 1, none⟩ (.int .i64 v) = w5 at *
    have hB6 := Lib.hid (hB5.out.drew)
    have hb6 := Lib.hid (hb5.drew)
    have hrd6 := Lib.hid ((HRD0.out.below hb5 (Nat.le_refl _)).drew)
    have hq0 : (0 : Int) ≤ (p : Int) + 1 := by omega
    have hq1 : ((p : Int) + 1).toNat = p + 1 := by omega
    have hq2 : ¬ n + 1 < p + 1 := by omega
    have hq3 : IntKind.i64.wrap ((p : Int) + 1) = (p : Int) + 1 := IntWalk.i64_in _ (by omega)
    by_cases hrn : p < n
    · have hne1 : ¬ n = p := by omega
      have hne2 : ¬ c = p := by omega
      go_still_tail 7, (by kernel_rfl)
      change wpList _ _ _ _ _ w5.drew
      generalize w5.drew = w6 at *
      go_wp2_with (with_reducible refine wpList_copy_multi rfl (.tmp 41) (.tmp 44) 173 173 rfl 126 i0 2 Try.underlying173 Hi.out Hz1.out _ _ _ _ _ _ rfl rfl w2.heap.size ((p + 1) * 2) _ 126 hB6.out (entsC (es.drop (p))) (by rw [ht2.out]; congr 1; exact (Nat.min_eq_left (by omega)).symm) (fun hp => ⟨rfl, by have h := hrd6.out.cut (i := p) (m := n - (p)) (by omega); rw [entsC_drop, List.take_of_length_le (by rw [ht2.out]; omega)] at h; exact h hp⟩) (by rw [ht2.out, Array.size_setIfInBounds, Array.size_setIfInBounds, List.size_toArray, length_splice _ _ _ (by rw [ht1.out, Array.length_toList, hL0.out]; omega), Array.length_toList, hL0.out]; omega) (entsC_one _) w0.heap.size w0 hb6.out hbs ?_; intro w7 hw71 hw72; have HW71 := Lib.hid hw71; clear hw71)
      go_ret
      exact hfin.out _ HW71.out hw72
    · have hpn : p = n := by omega
      subst hpn
      have hcs := Lib.hid (show (entsC (es.drop p)).length = 0 by rw [ht2.out]; omega)
      have hsub : p - p = 0 := Nat.sub_self p
      by_cases hcp : c = p
      all_goals
        go_still_tail 7, (by kernel_rfl)
        change wpList _ _ _ _ _ w5.drew
        generalize w5.drew = w6 at *
        go_wp2_with (with_reducible refine wpList_copy_multi rfl (.tmp 41) (.tmp 44) 173 173 rfl 126 i0 2 Try.underlying173 Hi.out Hz1.out _ _ _ _ _ _ rfl rfl w2.heap.size ((p + 1) * 2) _ 126 hB6.out (entsC (es.drop (p))) (by rw [hcs.out]; simp) (fun hp => absurd hp (by rw [hcs.out]; omega)) (by rw [ht2.out, Array.size_setIfInBounds, Array.size_setIfInBounds, List.size_toArray, length_splice _ _ _ (by rw [ht1.out, Array.length_toList, hL0.out]; omega), Array.length_toList, hL0.out]; omega) (entsC_one _) w0.heap.size w0 hb6.out hbs ?_; intro w7 hw71 hw72; have HW71 := Lib.hid hw71; clear hw71)
        go_ret
        exact hfin.out _ HW71.out hw72
  | true =>
    obtain ⟨hlt, he⟩ := hy rfl
    have hpn0 : p < n := by rw [Hlen.out] at hlt; exact hlt
    have hput := Lib.hid (hp.put_yes hs hlt he v)
    clear hy hn hp hlt he
    have hmk := hmkN.out (n) ((p : Int) + 1 + n - (p + 1)) (by omega) (by omega)
    have hB3 := Lib.hid (Blk.new w2 126 (madeCells #[Value.string ByteArray.empty, Value.int IntKind.i64 0] ((n) * 2)))
    have hb3 := Lib.hid (hb02.alloc hbs (.cells (madeCells #[Value.string ByteArray.empty, Value.int IntKind.i64 0] ((n) * 2)) 126))
    have hrd3 := Lib.hid (hrd2.out.alloc (.cells (madeCells #[Value.string ByteArray.empty, Value.int IntKind.i64 0] ((n) * 2)) 126))
    have hL0 := Lib.hid (show (madeCells #[Value.string ByteArray.empty, Value.int IntKind.i64 0] ((n) * 2)).size = (n) * 2 from size_madeCells _ _)
    generalize madeCells #[Value.string ByteArray.empty, Value.int IntKind.i64 0] ((n) * 2) = L0 at *
    have hta := Lib.hid (show (es.take p).length = p by rw [List.length_take, Hlen.out]; omega)
    have htb := Lib.hid (show (es.drop (p + 1)).length = n - (p + 1) by rw [List.length_drop, Hlen.out])
    have ht1 := Lib.hid (show (entsC (es.take p)).length = p * 2 by rw [entsC_length, hta.out])
    have ht2 := Lib.hid (show (entsC (es.drop (p + 1))).length = (n - (p + 1)) * 2 by rw [entsC_length, htb.out])
    have hL0' := Lib.hid (show L0.toList.length = ((es.take p).length + 1 + (es.drop (p + 1)).length) * 2 by rw [hta.out, htb.out, Array.length_toList, hL0.out]; omega)
    have hplen := Lib.hid (show (putL es key v).length = n by rw [hput.out, List.length_append, List.length_cons, hta.out, htb.out]; omega)
    have hins := Lib.hid (ins_cells L0.toList (es.take p) (es.drop (p + 1)) key v hL0'.out)
    have hfin : Hid (∀ w' : World, Blk w' w2.heap.size 126 (splice (((splice L0.toList 0 (entsC (es.take p))).toArray.setIfInBounds (p * 2) (.string key)).setIfInBounds (p * 2 + 1) (.int .i64 v)).toList ((p + 1) * 2) (entsC (es.drop (p + 1)))).toArray → Below w0.heap.size w0 w' →
        OwnPost 126 (putL es key v) w (.returned (.slice (some ⟨w2.heap.size, 0, none⟩) (n) (n))) w') := fun w' hblk hbw => by
      have h1 := hins.out
      rw [hta.out] at h1
      rw [Array.toList_setIfInBounds, Array.toList_setIfInBounds, List.toList_toArray, h1, ← hput.out] at hblk
      have hbq : Below w.heap.size w w' := by rw [Hq.out]; exact HB0.out.trans (hbw.mono (Nat.le_of_lt Hpq.out))
      have h2 : (entsC (putL es key v)).length = (n) * 2 := by rw [entsC_length, hplen.out]
      refine ⟨_, rfl, ?_, hbq⟩
      rw [hplen.out]
      exact hblk.own (by have := Hpq.out; have := Hq.out; omega) (Nat.le_refl _) (by unfold maxLen; omega) (by simpa using h2) (by rw [List.toList_toArray, List.take_of_length_le (by omega)])
    go_wp2_with (with_reducible refine wpList_copy_multi rfl (.tmp 29) (.tmp 32) 173 173 rfl 126 i0 2 Try.underlying173 Hi.out Hz1.out _ _ _ _ _ _ rfl rfl w2.heap.size 0 _ 126 hB3.out (entsC (es.take p)) (by rw [ht1.out]; congr 1; exact (Nat.min_eq_left (by omega)).symm) (fun hp => ⟨rfl, by have h := hrd3.out.front (m := p) (by omega); rw [entsC_take] at h; exact h hp⟩) (by rw [ht1.out, hL0.out]; omega) (entsC_one _) w0.heap.size w0 hb3.out hbs ?_; intro w4 hw1 hw2; have hy0 := cellS hw2 hpl hx0; have hy1 := cellS hw2 hpl hx1; obtain ⟨z0, z1, hz0, hz1, hf0, hf1⟩ := hw1.two (k := p) (by rw [List.size_toArray, length_splice _ _ _ (by rw [ht1.out, Array.length_toList, hL0.out]; omega), Array.length_toList, hL0.out]; omega); have HW1 := Lib.hid hw1; clear hw1)
    have hB5 := Lib.hid ((HW1.out.set_ (p * 2) (.string key)).set_ (p * 2 + 1) (.int .i64 v))
    have hb5 : Below w0.heap.size w0 ((w4.setCell ⟨w2.heap.size, p * 2, none⟩ (.string key)).setCell ⟨w2.heap.size, p * 2 + 1, none⟩ (.int .i64 v)) := (hw2.setCell (p := ⟨w2.heap.size, p * 2, none⟩) hbs _).setCell (p := ⟨w2.heap.size, p * 2 + 1, none⟩) hbs _
    clear hy0 hy1 hz0 hz1 hf0 hf1 hx0 hx1 hrd0 hmk
    generalize (w4.setCell ⟨w2.heap.size, p * 2, none⟩ (.string key)).setCell ⟨w2.heap.size, p * 2 + 1, none⟩ (.int .i64 v) = w5 at *
    have hB6 := Lib.hid (hB5.out.drew)
    have hb6 := Lib.hid (hb5.drew)
    have hrd6 := Lib.hid ((HRD0.out.below hb5 (Nat.le_refl _)).drew)
    have hq0 : (0 : Int) ≤ (p : Int) + 1 := by omega
    have hq1 : ((p : Int) + 1).toNat = p + 1 := by omega
    have hq2 : ¬ n < p + 1 := by omega
    have hq4 : p + 1 ≤ n := by omega
    have hq5 : (p : Int) + 1 ≤ (n : Int) := by omega
    have hq6 : p < n := by omega
    have hq3 : IntKind.i64.wrap ((p : Int) + 1) = (p : Int) + 1 := IntWalk.i64_in _ (by omega)
    by_cases hrn : p + 1 < n
    · have hne1 : ¬ n = p + 1 := by omega
      have hne2 : ¬ c = p + 1 := by omega
      go_still_tail 7, (by kernel_rfl)
      change wpList _ _ _ _ _ w5.drew
      generalize w5.drew = w6 at *
      go_wp2_with (with_reducible refine wpList_copy_multi rfl (.tmp 41) (.tmp 44) 173 173 rfl 126 i0 2 Try.underlying173 Hi.out Hz1.out _ _ _ _ _ _ rfl rfl w2.heap.size ((p + 1) * 2) _ 126 hB6.out (entsC (es.drop (p + 1))) (by rw [ht2.out]; congr 1; exact (Nat.min_eq_left (by omega)).symm) (fun hp => ⟨rfl, by have h := hrd6.out.cut (i := p + 1) (m := n - (p + 1)) (by omega); rw [entsC_drop, List.take_of_length_le (by rw [ht2.out]; omega)] at h; exact h hp⟩) (by rw [ht2.out, Array.size_setIfInBounds, Array.size_setIfInBounds, List.size_toArray, length_splice _ _ _ (by rw [ht1.out, Array.length_toList, hL0.out]; omega), Array.length_toList, hL0.out]; omega) (entsC_one _) w0.heap.size w0 hb6.out hbs ?_; intro w7 hw71 hw72; have HW71 := Lib.hid hw71; clear hw71)
      go_ret
      exact hfin.out _ HW71.out hw72
    · have hpn : n = p + 1 := by omega
      subst hpn
      have hcs := Lib.hid (show (entsC (es.drop (p + 1))).length = 0 by rw [ht2.out]; omega)
      have hsub : p + 1 - (p + 1) = 0 := Nat.sub_self _
      by_cases hcp : c = p + 1
      all_goals
        go_still_tail 7, (by kernel_rfl)
        change wpList _ _ _ _ _ w5.drew
        generalize w5.drew = w6 at *
        go_wp2_with (with_reducible refine wpList_copy_multi rfl (.tmp 41) (.tmp 44) 173 173 rfl 126 i0 2 Try.underlying173 Hi.out Hz1.out _ _ _ _ _ _ rfl rfl w2.heap.size ((p + 1) * 2) _ 126 hB6.out (entsC (es.drop (p + 1))) (by rw [hcs.out]; simp) (fun hp => absurd hp (by rw [hcs.out]; omega)) (by rw [ht2.out, Array.size_setIfInBounds, Array.size_setIfInBounds, List.size_toArray, length_splice _ _ _ (by rw [ht1.out, Array.length_toList, hL0.out]; omega), Array.length_toList, hL0.out]; omega) (entsC_one _) w0.heap.size w0 hb6.out hbs ?_; intro w7 hw71 hw72; have HW71 := Lib.hid hw71; clear hw71)
        go_ret
        exact hfin.out _ HW71.out hw72

end Go.Proofs.Ytnkceemdnefomaa
