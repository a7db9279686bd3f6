/- The machine over data (I2, I3, I4). -/
import Derived.Test.YtjhimcddgkoghaaS3
/- The program's part, with, without, Put, Remove, Scan. -/
namespace Go.Proofs.Ytjhimcddgkoghaa
open Go.RowKit

theorem entsC_one (es : List Ent) : ∀ u ∈ entsC es, u.oneCell' = true := by
  intro u hu
  rw [entsC, List.mem_flatMap] at hu
  obtain ⟨e, _, h⟩ := hu
  simp [entC] at h
  rcases h with rfl | rfl <;> rfl
theorem piece_entsC (es : List Ent) (i m : Nat) : ((entsC es).drop (i * 2)).take (m * 2) = entsC ((es.drop i).take m) := by rw [entsC_drop, entsC_take]

theorem splice_full {α : Type} (L cs : List α) (h : L.length = cs.length) : splice L 0 cs = cs := by
  rw [splice, List.take_zero, List.nil_append, Nat.zero_add, ← h, List.drop_length, List.append_nil]

set_option maxHeartbeats 1000000 in
set_option maxRecDepth 100000 in
theorem part_any (A : Option Addr) (n c : Nat) (es : List Ent) (a b : Nat) (w : World) (hr : Rd w 2 A n (entsC es)) (hab : a ≤ b) (hbn : b ≤ n) (hnc : n ≤ c) (hc : c ≤ maxLen) (hm : n ≤ 4096) :
    Calls Try.prog 239 #[.slice A n c, .int .i64 a, .int .i64 b] w (OwnPost 167 ((es.drop a).take (b - a)) w) := by
  have hlen := hr.len
  obtain ⟨i0, hi, hz0, hz1, hz2⟩ := info_parts info_Entry
  have hmk := fun W => run_make_rowN (P := Try.prog) 239 167 i0 _ Try.underlying239 hi hz0 .i64 .i64 (b - a) (b - a) (Nat.le_refl _) (by rw [hz2]; omega) (by omega) W
  rw [hz1] at hmk
  have hpl : ((es.drop a).take (b - a)).length = b - a := by rw [List.length_take, List.length_drop]; omega
  have hcl : ((entsC es).drop (a * 2)).take ((b - a) * 2) = entsC ((es.drop a).take (b - a)) := piece_entsC es a (b - a)
  have Hcl := Lib.hid hcl; clear hcl
  have Hpl := Lib.hid hpl; clear hpl
  have Hlen := Lib.hid hlen; clear hlen
  have Hi := Lib.hid hi; clear hi
  have Hz1 := Lib.hid hz1; clear hz1
  clear hz0 hz2
  unfold maxLen at hc
  have hba : ((b : Int) - (a : Int)) = ((b - a : Nat) : Int) := by omega
  have hblk0 : Hid (Blk (w.alloc (.cells (madeCells #[Value.string ByteArray.empty, Value.int IntKind.i64 0] ((b - a) * 2)) 167)) w.heap.size 167 (madeCells #[Value.string ByteArray.empty, Value.int IntKind.i64 0] ((b - a) * 2))) := Blk.new _ _ _
  have hb0 : Hid (Below w.heap.size w (w.alloc (.cells (madeCells #[Value.string ByteArray.empty, Value.int IntKind.i64 0] ((b - a) * 2)) 167))) := (Below.refl _ _).alloc (Nat.le_refl _) _
  have hrd := Lib.hid (hr.alloc (.cells (madeCells #[Value.string ByteArray.empty, Value.int IntKind.i64 0] ((b - a) * 2)) 167))
  have hln := Lib.hid (show (((entsC es).drop (a * 2)).take ((b - a) * 2)).length = (b - a) * 2 from length_piece hr.1 (by omega))
  have hmin := Lib.hid (show Nat.min (b - a) (b - a) = b - a from Nat.min_self _)
  have hfin : Hid (∀ w' : World, Blk w' w.heap.size 167 (splice (madeCells #[Value.string ByteArray.empty, Value.int IntKind.i64 0] ((b - a) * 2)).toList 0 (((entsC es).drop (a * 2)).take ((b - a) * 2))).toArray →
      w'.ownsRow w.heap.size 167 2 (.slice (some ⟨w.heap.size, 0, none⟩) (b - a) (b - a)) ((es.drop a).take (b - a)).length (entsC ((es.drop a).take (b - a)))) := fun w' hblk => by
    have e1 := splice_full (madeCells #[Value.string ByteArray.empty, Value.int IntKind.i64 0] ((b - a) * 2)).toList (((entsC es).drop (a * 2)).take ((b - a) * 2)) (by rw [hln.out, Array.length_toList, size_madeCells])
    rw [e1, Hcl.out] at hblk
    rw [Hpl.out]
    have hl2 : (entsC ((es.drop a).take (b - a))).length = (b - a) * 2 := by rw [← Hcl.out]; exact hln.out
    exact hblk.own (Nat.le_refl _) (Nat.le_refl _) (by unfold maxLen; omega) (by simpa using hl2) (by rw [List.take_of_length_le (by show (entsC ((es.drop a).take (b - a))).length ≤ _; omega)])
  by_cases hca : c = a
  · have hcs : Hid ((((entsC es).drop (a * 2)).take ((b - a) * 2)).length = 0) := by show (((entsC es).drop (a * 2)).take ((b - a) * 2)).length = 0; rw [hln.out]; omega
    go_enter Try.func239, Try.ntmps239
    go_wp2_with (with_reducible refine wpList_copy_multi rfl (.tmp 12) (.tmp 16) 239 239 rfl 167 i0 2 Try.underlying239 Hi.out Hz1.out _ _ _ _ _ _ rfl rfl w.heap.size 0 _ 167 hblk0.out (((entsC es).drop (a * 2)).take ((b - a) * 2)) (hln.out.trans (by rw [hmin.out])) (fun hp => absurd hp (by rw [hcs.out]; omega)) (by rw [hln.out, size_madeCells]; omega) (by rw [Hcl.out]; exact entsC_one _) w.heap.size w hb0.out (Nat.le_refl _) ?_; intro w' hw1 hw2; have HW1 := Lib.hid hw1; clear hw1)
    go_ret
    exact ⟨_, rfl, hfin.out _ HW1.out, hw2⟩
  · go_enter Try.func239, Try.ntmps239
    go_wp2_with (with_reducible refine wpList_copy_multi rfl (.tmp 12) (.tmp 16) 239 239 rfl 167 i0 2 Try.underlying239 Hi.out Hz1.out _ _ _ _ _ _ rfl rfl w.heap.size 0 _ 167 hblk0.out (((entsC es).drop (a * 2)).take ((b - a) * 2)) (hln.out.trans (by rw [hmin.out])) (fun hp => ⟨rfl, hrd.out.cut (by omega) hp⟩) (by rw [hln.out, size_madeCells]; omega) (by rw [Hcl.out]; exact entsC_one _) w.heap.size w hb0.out (Nat.le_refl _) ?_; intro w' hw1 hw2; have HW1 := Lib.hid hw1; clear hw1)
    go_ret
    exact ⟨_, rfl, hfin.out _ HW1.out, hw2⟩

end Go.Proofs.Ytjhimcddgkoghaa
/- The program's with: an entry put in at its place, into new memory. -/
namespace Go.Proofs.Ytjhimcddgkoghaa
open Go.RowKit

theorem ins_cells (L0 : List Value) (a b : List Ent) (k : ByteArray) (v : Int) (h : L0.length = (a.length + 1 + b.length) * 2) :
    splice (((splice L0 0 (entsC a)).set (a.length * 2) (.string k)).set (a.length * 2 + 1) (.int .i64 v)) ((a.length + 1) * 2) (entsC b) = entsC (a ++ (k, v) :: b) := by
  have hla := entsC_length a
  have hlb := entsC_length b
  have e1 : splice L0 0 (entsC a) = entsC a ++ L0.drop (a.length * 2) := by rw [splice, List.take_zero, List.nil_append, Nat.zero_add, hla]
  rw [e1]
  have hd : (L0.drop (a.length * 2)).length = (1 + b.length) * 2 := by rw [List.length_drop, h]; omega
  generalize L0.drop (a.length * 2) = r at *
  match r, hd with
  | [], hd => simp at hd; omega
  | [_], hd => simp at hd; omega
  | x :: y :: r, hd =>
    have hr : r.length = b.length * 2 := by simp at hd; omega
    have e2 : ((entsC a ++ x :: y :: r).set (a.length * 2) (.string k)).set (a.length * 2 + 1) (.int .i64 v) = entsC a ++ .string k :: .int .i64 v :: r := by
      rw [← hla, List.set_append_right _ _ (Nat.le_refl _), List.set_append_right _ _ (by omega)]
      simp
    rw [e2, splice, hlb]
    have e3 : (entsC a ++ Value.string k :: Value.int .i64 v :: r).take ((a.length + 1) * 2) = entsC a ++ [.string k, .int .i64 v] := by
      rw [List.take_append, hla, List.take_of_length_le (by omega), show (a.length + 1) * 2 - a.length * 2 = 2 from by omega]; rfl
    have e4 : (entsC a ++ Value.string k :: Value.int .i64 v :: r).drop ((a.length + 1) * 2 + b.length * 2) = [] := List.drop_eq_nil_of_le (by simp [hla, hr]; omega)
    rw [e3, e4, List.append_nil, entsC_append, entsC_cons]
    simp

theorem Rd.front {w : World} {sz n : Nat} {A : Option Addr} {xs : List Value} (h : Rd w sz A n xs) {m : Nat} (hm : m ≤ n) (hpos : 0 < (xs.take (m * sz)).length) :
    ∃ ad, A = some ad ∧ ∀ j v, (xs.take (m * sz))[j]? = some v → w.cell? (ad.add j) = some v := by
  obtain ⟨b, off, rfl, hc⟩ := h.piece (i := 0) (m := m) (by omega) (by simpa using hpos)
  simp only [Nat.zero_mul, List.drop_zero, Nat.add_zero] at hc
  exact ⟨_, rfl, hc⟩
theorem Blk.two {w : World} {g : Nat} {t : TypeId} {cs : Array Value} (h : Blk w g t cs) {k : Nat} (hk : k * 2 + 1 < cs.size) :
    ∃ y0 y1, w.cell? ⟨g, k * 2, none⟩ = some y0 ∧ w.cell? ⟨g, k * 2 + 1, none⟩ = some y1 ∧ w.frozen? ⟨g, k * 2, none⟩ = false ∧ w.frozen? ⟨g, k * 2 + 1, none⟩ = false :=
  ⟨_, _, (h.cell _).trans (Array.getElem?_eq_getElem (by omega)), (h.cell _).trans (Array.getElem?_eq_getElem hk), h.frozen _, h.frozen _⟩
set_option maxHeartbeats 2000000 in
set_option maxRecDepth 100000 in
theorem with_any (A : Option Addr) (n c : Nat) (es : List Ent) (key : ByteArray) (v : Int) (w : World) (hr : Rd w 2 A n (entsC es)) (hs : Srt es) (hnc : n ≤ c) (hm : n ≤ 4096) :
    Calls Try.prog 241 #[.slice A n c, .agg #[.string key, .int .i64 v]] w (OwnPost 167 (putL es key v) w) := by
  have hlen := hr.len
  have Hlen := Lib.hid hlen; clear hlen
  have hm' : n ≤ maxLen := by unfold maxLen; omega
  obtain ⟨i0, hi, hz0, hz1, hz2⟩ := info_parts info_Entry
  have hmkN : Hid (∀ (N : Nat) (x : Int), x = N → N ≤ 100000 → ∀ W : World, (Instr.makeSlice 239 (.int .i64 x) (.int .i64 x)).run Try.prog W = .ok (.slice (some ⟨W.heap.size, 0, none⟩) N N) (W.alloc (.cells (madeCells #[Value.string ByteArray.empty, Value.int IntKind.i64 0] (N * 2)) 167))) := fun N x hx hN W => by
    subst hx
    have h := run_make_rowN (P := Try.prog) 239 167 i0 _ Try.underlying239 hi hz0 .i64 .i64 N N (Nat.le_refl _) (by rw [hz2]; omega) (by omega) W
    rw [hz1] at h; exact h
  have Hi := Lib.hid hi; clear hi
  have Hz1 := Lib.hid hz1; clear hz1
  clear hz0 hz2
  have hmeth := method_key
  go_enter Try.func241, Try.ntmps241
  go_wp2_with fail
  have hx0 : (w.alloc (Obj.cells #[Value.string key, Value.int IntKind.i64 v] 167)).cell? ⟨w.heap.size, 0, none⟩ = some (.string key) := cell_of_row _ _ _ _ _ (0, 0) (heap_alloc_new w _)
  have hx1 : (w.alloc (Obj.cells #[Value.string key, Value.int IntKind.i64 v] 167)).cell? ⟨w.heap.size, 1, none⟩ = some (.int .i64 v) := cell_of_row _ _ _ _ _ (0, 0) (heap_alloc_new w _)
  have hpl : w.heap.size < (w.alloc (Obj.cells #[Value.string key, Value.int IntKind.i64 v] 167)).heap.size := by simp
  have hb0 : Below w.heap.size w (w.alloc (Obj.cells #[Value.string key, Value.int IntKind.i64 v] 167)) := (Below.refl _ _).alloc (Nat.le_refl _) _
  have hrd0 := hr.below hb0 (Nat.le_refl _)
  generalize w.alloc (Obj.cells #[Value.string key, Value.int IntKind.i64 v] 167) = w0 at *
  have HRD0 := Lib.hid hrd0
  have HB0 := Lib.hid hb0; clear hb0
  have Hpq := Lib.hid hpl
  generalize hq : w.heap.size = q at *
  have Hq := Lib.hid hq; clear hq
  refine (keyOf_any _ _ _).mono ?_
  rintro e w1 ⟨rfl, hb1⟩
  go_wp2_with fail
  refine (find_any A n c es key _ (hrd0.below hb1 (Nat.le_refl _)) hm').mono ?_
  rintro e w2 ⟨p, f, rfl, hp, hy, hn, hb2⟩
  have hb02 := keepS hb1 hb2
  have hrd2 := Lib.hid (hrd0.below hb02 (Nat.le_refl _))
  have hple : p ≤ n := by have := hp.1; rw [Hlen.out] at this; exact this
  have hbs := hb02.size
  cases f with
  | false =>
    have hput := Lib.hid (hp.put_no hs (hn rfl) v)
    clear hy hn hp
    have hmk := hmkN.out (n + 1) ((p : Int) + 1 + n - p) (by omega) (by omega)
    have hB3 := Lib.hid (Blk.new w2 167 (madeCells #[Value.string ByteArray.empty, Value.int IntKind.i64 0] ((n + 1) * 2)))
    have hb3 := Lib.hid (hb02.alloc hbs (.cells (madeCells #[Value.string ByteArray.empty, Value.int IntKind.i64 0] ((n + 1) * 2)) 167))
    have hrd3 := Lib.hid (hrd2.out.alloc (.cells (madeCells #[Value.string ByteArray.empty, Value.int IntKind.i64 0] ((n + 1) * 2)) 167))
    have hL0 := Lib.hid (show (madeCells #[Value.string ByteArray.empty, Value.int IntKind.i64 0] ((n + 1) * 2)).size = (n + 1) * 2 from size_madeCells _ _)
    generalize madeCells #[Value.string ByteArray.empty, Value.int IntKind.i64 0] ((n + 1) * 2) = L0 at *
    have hta := Lib.hid (show (es.take p).length = p by rw [List.length_take, Hlen.out]; omega)
    have htb := Lib.hid (show (es.drop (p)).length = n - (p) by rw [List.length_drop, Hlen.out])
    have ht1 := Lib.hid (show (entsC (es.take p)).length = p * 2 by rw [entsC_length, hta.out])
    have ht2 := Lib.hid (show (entsC (es.drop (p))).length = (n - (p)) * 2 by rw [entsC_length, htb.out])
    have hL0' := Lib.hid (show L0.toList.length = ((es.take p).length + 1 + (es.drop (p)).length) * 2 by rw [hta.out, htb.out, Array.length_toList, hL0.out]; omega)
    have hplen := Lib.hid (show (putL es key v).length = n + 1 by rw [hput.out, List.length_append, List.length_cons, hta.out, htb.out]; omega)
    have hins := Lib.hid (ins_cells L0.toList (es.take p) (es.drop (p)) key v hL0'.out)
    have hfin : Hid (∀ w' : World, Blk w' w2.heap.size 167 (splice (((splice L0.toList 0 (entsC (es.take p))).toArray.setIfInBounds (p * 2) (.string key)).setIfInBounds (p * 2 + 1) (.int .i64 v)).toList ((p + 1) * 2) (entsC (es.drop (p)))).toArray → Below w0.heap.size w0 w' →
        OwnPost 167 (putL es key v) w (.returned (.slice (some ⟨w2.heap.size, 0, none⟩) (n + 1) (n + 1))) w') := fun w' hblk hbw => by
      have h1 := hins.out
      rw [hta.out] at h1
      rw [Array.toList_setIfInBounds, Array.toList_setIfInBounds, List.toList_toArray, h1, ← hput.out] at hblk
      have hbq : Below w.heap.size w w' := by rw [Hq.out]; exact HB0.out.trans (hbw.mono (Nat.le_of_lt Hpq.out))
      have h2 : (entsC (putL es key v)).length = (n + 1) * 2 := by rw [entsC_length, hplen.out]
      refine ⟨_, rfl, ?_, hbq⟩
      rw [hplen.out]
      exact hblk.own (by have := Hpq.out; have := Hq.out; omega) (Nat.le_refl _) (by unfold maxLen; omega) (by simpa using h2) (by rw [List.toList_toArray, List.take_of_length_le (by omega)])
    go_wp2_with (with_reducible refine wpList_copy_multi rfl (.tmp 29) (.tmp 32) 239 239 rfl 167 i0 2 Try.underlying239 Hi.out Hz1.out _ _ _ _ _ _ rfl rfl w2.heap.size 0 _ 167 hB3.out (entsC (es.take p)) (by rw [ht1.out]; congr 1; exact (Nat.min_eq_left (by omega)).symm) (fun hp => ⟨rfl, by have h := hrd3.out.front (m := p) (by omega); rw [entsC_take] at h; exact h hp⟩) (by rw [ht1.out, hL0.out]; omega) (entsC_one _) w0.heap.size w0 hb3.out hbs ?_; intro w4 hw1 hw2; have hy0 := cellS hw2 hpl hx0; have hy1 := cellS hw2 hpl hx1; obtain ⟨z0, z1, hz0, hz1, hf0, hf1⟩ := hw1.two (k := p) (by rw [List.size_toArray, length_splice _ _ _ (by rw [ht1.out, Array.length_toList, hL0.out]; omega), Array.length_toList, hL0.out]; omega); have HW1 := Lib.hid hw1; clear hw1)
    have hB5 := Lib.hid ((HW1.out.set_ (p * 2) (.string key)).set_ (p * 2 + 1) (.int .i64 v))
    have hb5 : Below w0.heap.size w0 ((w4.setCell ⟨w2.heap.size, p * 2, none⟩ (.string key)).setCell ⟨w2.heap.size, p * 2 + 1, none⟩ (.int .i64 v)) := (hw2.setCell (p := ⟨w2.heap.size, p * 2, none⟩) hbs _).setCell (p := ⟨w2.heap.size, p * 2 + 1, none⟩) hbs _
    clear hy0 hy1 hz0 hz1 hf0 hf1 hx0 hx1 hrd0 hmk
    generalize (w4.setCell ⟨w2.heap.size, p * 2, none⟩ (.string key)).setCell ⟨w2.heap.size, p * 2 + 1, none⟩ (.int .i64 v) = w5 at *
    have hB6 := Lib.hid (hB5.out.drew)
    have hb6 := Lib.hid (hb5.drew)
    have hrd6 := Lib.hid ((HRD0.out.below hb5 (Nat.le_refl _)).drew)
    have hq0 : (0 : Int) ≤ (p : Int) + 1 := by omega
    have hq1 : ((p : Int) + 1).toNat = p + 1 := by omega
    have hq2 : ¬ n + 1 < p + 1 := by omega
    have hq3 : IntKind.i64.wrap ((p : Int) + 1) = (p : Int) + 1 := IntWalk.i64_in _ (by omega)
    by_cases hrn : p < n
    · have hne1 : ¬ n = p := by omega
      have hne2 : ¬ c = p := by omega
      go_still_tail 7, (by kernel_rfl)
      change wpList _ _ _ _ _ w5.drew
      generalize w5.drew = w6 at *
      go_wp2_with (with_reducible refine wpList_copy_multi rfl (.tmp 41) (.tmp 44) 239 239 rfl 167 i0 2 Try.underlying239 Hi.out Hz1.out _ _ _ _ _ _ rfl rfl w2.heap.size ((p + 1) * 2) _ 167 hB6.out (entsC (es.drop (p))) (by rw [ht2.out]; congr 1; exact (Nat.min_eq_left (by omega)).symm) (fun hp => ⟨rfl, by have h := hrd6.out.cut (i := p) (m := n - (p)) (by omega); rw [entsC_drop, List.take_of_length_le (by rw [ht2.out]; omega)] at h; exact h hp⟩) (by rw [ht2.out, Array.size_setIfInBounds, Array.size_setIfInBounds, List.size_toArray, length_splice _ _ _ (by rw [ht1.out, Array.length_toList, hL0.out]; omega), Array.length_toList, hL0.out]; omega) (entsC_one _) w0.heap.size w0 hb6.out hbs ?_; intro w7 hw71 hw72; have HW71 := Lib.hid hw71; clear hw71)
      go_ret
      exact hfin.out _ HW71.out hw72
    · have hpn : p = n := by omega
      subst hpn
      have hcs := Lib.hid (show (entsC (es.drop p)).length = 0 by rw [ht2.out]; omega)
      have hsub : p - p = 0 := Nat.sub_self p
      by_cases hcp : c = p
      all_goals
        go_still_tail 7, (by kernel_rfl)
        change wpList _ _ _ _ _ w5.drew
        generalize w5.drew = w6 at *
        go_wp2_with (with_reducible refine wpList_copy_multi rfl (.tmp 41) (.tmp 44) 239 239 rfl 167 i0 2 Try.underlying239 Hi.out Hz1.out _ _ _ _ _ _ rfl rfl w2.heap.size ((p + 1) * 2) _ 167 hB6.out (entsC (es.drop (p))) (by rw [hcs.out]; simp) (fun hp => absurd hp (by rw [hcs.out]; omega)) (by rw [ht2.out, Array.size_setIfInBounds, Array.size_setIfInBounds, List.size_toArray, length_splice _ _ _ (by rw [ht1.out, Array.length_toList, hL0.out]; omega), Array.length_toList, hL0.out]; omega) (entsC_one _) w0.heap.size w0 hb6.out hbs ?_; intro w7 hw71 hw72; have HW71 := Lib.hid hw71; clear hw71)
        go_ret
        exact hfin.out _ HW71.out hw72
  | true =>
    obtain ⟨hlt, he⟩ := hy rfl
    have hpn0 : p < n := by rw [Hlen.out] at hlt; exact hlt
    have hput := Lib.hid (hp.put_yes hs hlt he v)
    clear hy hn hp hlt he
    have hmk := hmkN.out (n) ((p : Int) + 1 + n - (p + 1)) (by omega) (by omega)
    have hB3 := Lib.hid (Blk.new w2 167 (madeCells #[Value.string ByteArray.empty, Value.int IntKind.i64 0] ((n) * 2)))
    have hb3 := Lib.hid (hb02.alloc hbs (.cells (madeCells #[Value.string ByteArray.empty, Value.int IntKind.i64 0] ((n) * 2)) 167))
    have hrd3 := Lib.hid (hrd2.out.alloc (.cells (madeCells #[Value.string ByteArray.empty, Value.int IntKind.i64 0] ((n) * 2)) 167))
    have hL0 := Lib.hid (show (madeCells #[Value.string ByteArray.empty, Value.int IntKind.i64 0] ((n) * 2)).size = (n) * 2 from size_madeCells _ _)
    generalize madeCells #[Value.string ByteArray.empty, Value.int IntKind.i64 0] ((n) * 2) = L0 at *
    have hta := Lib.hid (show (es.take p).length = p by rw [List.length_take, Hlen.out]; omega)
    have htb := Lib.hid (show (es.drop (p + 1)).length = n - (p + 1) by rw [List.length_drop, Hlen.out])
    have ht1 := Lib.hid (show (entsC (es.take p)).length = p * 2 by rw [entsC_length, hta.out])
    have ht2 := Lib.hid (show (entsC (es.drop (p + 1))).length = (n - (p + 1)) * 2 by rw [entsC_length, htb.out])
    have hL0' := Lib.hid (show L0.toList.length = ((es.take p).length + 1 + (es.drop (p + 1)).length) * 2 by rw [hta.out, htb.out, Array.length_toList, hL0.out]; omega)
    have hplen := Lib.hid (show (putL es key v).length = n by rw [hput.out, List.length_append, List.length_cons, hta.out, htb.out]; omega)
    have hins := Lib.hid (ins_cells L0.toList (es.take p) (es.drop (p + 1)) key v hL0'.out)
    have hfin : Hid (∀ w' : World, Blk w' w2.heap.size 167 (splice (((splice L0.toList 0 (entsC (es.take p))).toArray.setIfInBounds (p * 2) (.string key)).setIfInBounds (p * 2 + 1) (.int .i64 v)).toList ((p + 1) * 2) (entsC (es.drop (p + 1)))).toArray → Below w0.heap.size w0 w' →
        OwnPost 167 (putL es key v) w (.returned (.slice (some ⟨w2.heap.size, 0, none⟩) (n) (n))) w') := fun w' hblk hbw => by
      have h1 := hins.out
      rw [hta.out] at h1
      rw [Array.toList_setIfInBounds, Array.toList_setIfInBounds, List.toList_toArray, h1, ← hput.out] at hblk
      have hbq : Below w.heap.size w w' := by rw [Hq.out]; exact HB0.out.trans (hbw.mono (Nat.le_of_lt Hpq.out))
      have h2 : (entsC (putL es key v)).length = (n) * 2 := by rw [entsC_length, hplen.out]
      refine ⟨_, rfl, ?_, hbq⟩
      rw [hplen.out]
      exact hblk.own (by have := Hpq.out; have := Hq.out; omega) (Nat.le_refl _) (by unfold maxLen; omega) (by simpa using h2) (by rw [List.toList_toArray, List.take_of_length_le (by omega)])
    go_wp2_with (with_reducible refine wpList_copy_multi rfl (.tmp 29) (.tmp 32) 239 239 rfl 167 i0 2 Try.underlying239 Hi.out Hz1.out _ _ _ _ _ _ rfl rfl w2.heap.size 0 _ 167 hB3.out (entsC (es.take p)) (by rw [ht1.out]; congr 1; exact (Nat.min_eq_left (by omega)).symm) (fun hp => ⟨rfl, by have h := hrd3.out.front (m := p) (by omega); rw [entsC_take] at h; exact h hp⟩) (by rw [ht1.out, hL0.out]; omega) (entsC_one _) w0.heap.size w0 hb3.out hbs ?_; intro w4 hw1 hw2; have hy0 := cellS hw2 hpl hx0; have hy1 := cellS hw2 hpl hx1; obtain ⟨z0, z1, hz0, hz1, hf0, hf1⟩ := hw1.two (k := p) (by rw [List.size_toArray, length_splice _ _ _ (by rw [ht1.out, Array.length_toList, hL0.out]; omega), Array.length_toList, hL0.out]; omega); have HW1 := Lib.hid hw1; clear hw1)
    have hB5 := Lib.hid ((HW1.out.set_ (p * 2) (.string key)).set_ (p * 2 + 1) (.int .i64 v))
    have hb5 : Below w0.heap.size w0 ((w4.setCell ⟨w2.heap.size, p * 2, none⟩ (.string key)).setCell ⟨w2.heap.size, p * 2 + 1, none⟩ (.int .i64 v)) := (hw2.setCell (p := ⟨w2.heap.size, p * 2, none⟩) hbs _).setCell (p := ⟨w2.heap.size, p * 2 + 1, none⟩) hbs _
    clear hy0 hy1 hz0 hz1 hf0 hf1 hx0 hx1 hrd0 hmk
    generalize (w4.setCell ⟨w2.heap.size, p * 2, none⟩ (.string key)).setCell ⟨w2.heap.size, p * 2 + 1, none⟩ (.int .i64 v) = w5 at *
    have hB6 := Lib.hid (hB5.out.drew)
    have hb6 := Lib.hid (hb5.drew)
    have hrd6 := Lib.hid ((HRD0.out.below hb5 (Nat.le_refl _)).drew)
    have hq0 : (0 : Int) ≤ (p : Int) + 1 := by omega
    have hq1 : ((p : Int) + 1).toNat = p + 1 := by omega
    have hq2 : ¬ n < p + 1 := by omega
    have hq4 : p + 1 ≤ n := by omega
    have hq5 : (p : Int) + 1 ≤ (n : Int) := by omega
    have hq6 : p < n := by omega
    have hq3 : IntKind.i64.wrap ((p : Int) + 1) = (p : Int) + 1 := IntWalk.i64_in _ (by omega)
    by_cases hrn : p + 1 < n
    · have hne1 : ¬ n = p + 1 := by omega
      have hne2 : ¬ c = p + 1 := by omega
      go_still_tail 7, (by kernel_rfl)
      change wpList _ _ _ _ _ w5.drew
      generalize w5.drew = w6 at *
      go_wp2_with (with_reducible refine wpList_copy_multi rfl (.tmp 41) (.tmp 44) 239 239 rfl 167 i0 2 Try.underlying239 Hi.out Hz1.out _ _ _ _ _ _ rfl rfl w2.heap.size ((p + 1) * 2) _ 167 hB6.out (entsC (es.drop (p + 1))) (by rw [ht2.out]; congr 1; exact (Nat.min_eq_left (by omega)).symm) (fun hp => ⟨rfl, by have h := hrd6.out.cut (i := p + 1) (m := n - (p + 1)) (by omega); rw [entsC_drop, List.take_of_length_le (by rw [ht2.out]; omega)] at h; exact h hp⟩) (by rw [ht2.out, Array.size_setIfInBounds, Array.size_setIfInBounds, List.size_toArray, length_splice _ _ _ (by rw [ht1.out, Array.length_toList, hL0.out]; omega), Array.length_toList, hL0.out]; omega) (entsC_one _) w0.heap.size w0 hb6.out hbs ?_; intro w7 hw71 hw72; have HW71 := Lib.hid hw71; clear hw71)
      go_ret
      exact hfin.out _ HW71.out hw72
    · have hpn : n = p + 1 := by omega
      subst hpn
      have hcs := Lib.hid (show (entsC (es.drop (p + 1))).length = 0 by rw [ht2.out]; omega)
      have hsub : p + 1 - (p + 1) = 0 := Nat.sub_self _
      by_cases hcp : c = p + 1
      all_goals
        go_still_tail 7, (by kernel_rfl)
        change wpList _ _ _ _ _ w5.drew
        generalize w5.drew = w6 at *
        go_wp2_with (with_reducible refine wpList_copy_multi rfl (.tmp 41) (.tmp 44) 239 239 rfl 167 i0 2 Try.underlying239 Hi.out Hz1.out _ _ _ _ _ _ rfl rfl w2.heap.size ((p + 1) * 2) _ 167 hB6.out (entsC (es.drop (p + 1))) (by rw [hcs.out]; simp) (fun hp => absurd hp (by rw [hcs.out]; omega)) (by rw [ht2.out, Array.size_setIfInBounds, Array.size_setIfInBounds, List.size_toArray, length_splice _ _ _ (by rw [ht1.out, Array.length_toList, hL0.out]; omega), Array.length_toList, hL0.out]; omega) (entsC_one _) w0.heap.size w0 hb6.out hbs ?_; intro w7 hw71 hw72; have HW71 := Lib.hid hw71; clear hw71)
        go_ret
        exact hfin.out _ HW71.out hw72

end Go.Proofs.Ytjhimcddgkoghaa
/- The program's without: an entry taken out, into new memory. -/
namespace Go.Proofs.Ytjhimcddgkoghaa
open Go.RowKit

theorem del_cells (L0 : List Value) (a b : List Ent) (h : L0.length = (a.length + b.length) * 2) :
    splice (splice L0 0 (entsC a)) (a.length * 2) (entsC b) = entsC (a ++ b) := by
  have hla := entsC_length a
  have hlb := entsC_length b
  have e1 : splice L0 0 (entsC a) = entsC a ++ L0.drop (a.length * 2) := by rw [splice, List.take_zero, List.nil_append, Nat.zero_add, hla]
  have hd : (L0.drop (a.length * 2)).length = b.length * 2 := by rw [List.length_drop, h]; omega
  rw [e1, splice, hlb]
  have e3 : (entsC a ++ L0.drop (a.length * 2)).take (a.length * 2) = entsC a := by rw [← hla]; exact List.take_left
  have e4 : (entsC a ++ L0.drop (a.length * 2)).drop (a.length * 2 + b.length * 2) = [] := List.drop_eq_nil_of_le (by simp [hla]; omega)
  rw [e3, e4, List.append_nil, entsC_append]

set_option maxHeartbeats 2000000 in
set_option maxRecDepth 100000 in
theorem without_any (A : Option Addr) (n c : Nat) (es : List Ent) (key : ByteArray) (w : World) (hr : Rd w 2 A n (entsC es)) (hs : Srt es) (hnc : n ≤ c) (hc : c ≤ maxLen) (hm : n ≤ 4096) :
    Calls Try.prog 240 #[.slice A n c, .string key] w (OwnPost 167 (delL es key) w) := by
  have hlen := hr.len
  have Hlen := Lib.hid hlen; clear hlen
  have hm' : n ≤ maxLen := by unfold maxLen; omega
  obtain ⟨i0, hi, hz0, hz1, hz2⟩ := info_parts info_Entry
  have hmkN : Hid (∀ (N : Nat) (x : Int), x = N → N ≤ 100000 → ∀ W : World, (Instr.makeSlice 239 (.int .i64 x) (.int .i64 x)).run Try.prog W = .ok (.slice (some ⟨W.heap.size, 0, none⟩) N N) (W.alloc (.cells (madeCells #[Value.string ByteArray.empty, Value.int IntKind.i64 0] (N * 2)) 167))) := fun N x hx hN W => by
    subst hx
    have h := run_make_rowN (P := Try.prog) 239 167 i0 _ Try.underlying239 hi hz0 .i64 .i64 N N (Nat.le_refl _) (by rw [hz2]; omega) (by omega) W
    rw [hz1] at h; exact h
  have Hi := Lib.hid hi; clear hi
  have Hz1 := Lib.hid hz1; clear hz1
  clear hz0 hz2
  go_enter Try.func240, Try.ntmps240
  go_wp2_with fail
  refine (find_any A n c es key _ hr hm').mono ?_
  rintro e w2 ⟨p, f, rfl, hp, hy, hn, hb2⟩
  have hrd2 := hr.below hb2 (Nat.le_refl _)
  have hple : p ≤ n := by have := hp.1; rw [Hlen.out] at this; exact this
  have hbs := hb2.size
  cases f with
  | false =>
    have hdel := Lib.hid (del_no (hp.fnd_no hs (hn rfl)))
    have htk := Lib.hid (show (es.drop 0).take (n - 0) = es by rw [List.drop_zero, List.take_of_length_le (by rw [Hlen.out]; omega)])
    clear hy hn hp
    go_wp2_with (go_at_call 239; refine (part_any A n c es 0 n _ hrd2 (by omega) (by omega) hnc hc hm).mono ?_; rintro e w3 ⟨v3, rfl, ho3, hb3⟩; rw [htk.out] at ho3; have HO3 := Lib.hid ho3; clear ho3)
    go_ret
    exact ⟨_, rfl, by rw [hdel.out]; exact ownsRow_base HO3.out hbs, keepS hb2 hb3⟩
  | true =>
    obtain ⟨hlt, he⟩ := hy rfl
    have hpn0 : p < n := by rw [Hlen.out] at hlt; exact hlt
    have hdel := Lib.hid (hp.del_yes hs hlt he)
    clear hy hn hp hlt he
    have hmk := hmkN.out (n - 1) ((n : Int) - 1) (by omega) (by omega)
    have hB3 := Lib.hid (Blk.new w2 167 (madeCells #[Value.string ByteArray.empty, Value.int IntKind.i64 0] ((n - 1) * 2)))
    have hb3 := Lib.hid (hb2.alloc hbs (.cells (madeCells #[Value.string ByteArray.empty, Value.int IntKind.i64 0] ((n - 1) * 2)) 167))
    have hrd3 := Lib.hid (hrd2.alloc (.cells (madeCells #[Value.string ByteArray.empty, Value.int IntKind.i64 0] ((n - 1) * 2)) 167))
    have hL0 := Lib.hid (show (madeCells #[Value.string ByteArray.empty, Value.int IntKind.i64 0] ((n - 1) * 2)).size = (n - 1) * 2 from size_madeCells _ _)
    generalize madeCells #[Value.string ByteArray.empty, Value.int IntKind.i64 0] ((n - 1) * 2) = L0 at *
    have hta := Lib.hid (show (es.take p).length = p by rw [List.length_take, Hlen.out]; omega)
    have htb := Lib.hid (show (es.drop (p + 1)).length = n - (p + 1) by rw [List.length_drop, Hlen.out])
    have ht1 := Lib.hid (show (entsC (es.take p)).length = p * 2 by rw [entsC_length, hta.out])
    have ht2 := Lib.hid (show (entsC (es.drop (p + 1))).length = (n - (p + 1)) * 2 by rw [entsC_length, htb.out])
    have hL0' := Lib.hid (show L0.toList.length = ((es.take p).length + (es.drop (p + 1)).length) * 2 by rw [hta.out, htb.out, Array.length_toList, hL0.out]; omega)
    have hplen := Lib.hid (show (delL es key).length = n - 1 by rw [hdel.out, List.length_append, hta.out, htb.out]; omega)
    have hins := Lib.hid (del_cells L0.toList (es.take p) (es.drop (p + 1)) hL0'.out)
    have hfin : Hid (∀ w' : World, Blk w' w2.heap.size 167 (splice (splice L0.toList 0 (entsC (es.take p))).toArray.toList (p * 2) (entsC (es.drop (p + 1)))).toArray → Below w.heap.size w w' →
        OwnPost 167 (delL es key) w (.returned (.slice (some ⟨w2.heap.size, 0, none⟩) (n - 1) (n - 1))) w') := fun w' hblk hbw => by
      have h1 := hins.out
      rw [hta.out] at h1
      rw [List.toList_toArray, h1, ← hdel.out] at hblk
      have h2 : (entsC (delL es key)).length = (n - 1) * 2 := by rw [entsC_length, hplen.out]
      refine ⟨_, rfl, ?_, hbw⟩
      rw [hplen.out]
      exact hblk.own hbs (Nat.le_refl _) (by unfold maxLen; omega) (by simpa using h2) (by rw [List.toList_toArray, List.take_of_length_le (by omega)])
    unfold maxLen at hc
    go_wp2_with (with_reducible refine wpList_copy_multi rfl (.tmp 24) (.tmp 27) 239 239 rfl 167 i0 2 Try.underlying239 Hi.out Hz1.out _ _ _ _ _ _ rfl rfl w2.heap.size 0 _ 167 hB3.out (entsC (es.take p)) (by rw [ht1.out]; congr 1; exact (Nat.min_eq_left (by omega)).symm) (fun hp => ⟨rfl, by have h := hrd3.out.front (m := p) (by omega); rw [entsC_take] at h; exact h hp⟩) (by rw [ht1.out, hL0.out]; omega) (entsC_one _) w.heap.size w hb3.out hbs ?_; intro w4 hw1 hw2; have HW1 := Lib.hid hw1; clear hw1)
    have hB6 := Lib.hid (HW1.out.drew)
    have hb6 := Lib.hid (hw2.drew)
    have hrd6 := Lib.hid ((hr.below hw2 (Nat.le_refl _)).drew)
    have hq0 : (0 : Int) ≤ (p : Int) + 1 := by omega
    have hq1 : ((p : Int) + 1).toNat = p + 1 := by omega
    have hq3 : IntKind.i64.wrap ((p : Int) + 1) = (p : Int) + 1 := IntWalk.i64_in _ (by omega)
    have hq2 : ¬ n < p + 1 := by omega
    have hq4 : p + 1 ≤ n := by omega
    have hq5 : (p : Int) + 1 ≤ (n : Int) := by omega
    have hq7 : ¬ n - 1 < p := by omega
    have hq8 : p ≤ n - 1 := by omega
    have hn1 : n - 1 - p = n - (p + 1) := by omega
    by_cases hrn : p + 1 < n
    · have hne1 : ¬ n - 1 = p := by omega
      have hne2 : ¬ c = p + 1 := by omega
      go_still_tail 7, (by kernel_rfl)
      change wpList _ _ _ _ _ w4.drew
      generalize w4.drew = w6 at *
      go_wp2_with (with_reducible refine wpList_copy_multi rfl (.tmp 31) (.tmp 35) 239 239 rfl 167 i0 2 Try.underlying239 Hi.out Hz1.out _ _ _ _ _ _ rfl rfl w2.heap.size (p * 2) _ 167 hB6.out (entsC (es.drop (p + 1))) (by rw [ht2.out]; congr 1; exact (Nat.min_eq_left (by omega)).symm) (fun hp => ⟨rfl, by have h := hrd6.out.cut (i := p + 1) (m := n - (p + 1)) (by omega); rw [entsC_drop, List.take_of_length_le (by rw [ht2.out]; omega)] at h; exact h hp⟩) (by rw [ht2.out, List.size_toArray, length_splice _ _ _ (by rw [ht1.out, Array.length_toList, hL0.out]; omega), Array.length_toList, hL0.out]; omega) (entsC_one _) w.heap.size w hb6.out hbs ?_; intro w7 hw71 hw72; have HW71 := Lib.hid hw71; clear hw71)
      go_ret
      exact hfin.out _ HW71.out hw72
    · have hpn : n = p + 1 := by omega
      subst hpn
      have hcs := Lib.hid (show (entsC (es.drop (p + 1))).length = 0 by rw [ht2.out]; omega)
      have hsub : p + 1 - (p + 1) = 0 := Nat.sub_self _
      by_cases hcp : c = p + 1
      all_goals
        go_still_tail 7, (by kernel_rfl)
        change wpList _ _ _ _ _ w4.drew
        generalize w4.drew = w6 at *
        go_wp2_with (with_reducible refine wpList_copy_multi rfl (.tmp 31) (.tmp 35) 239 239 rfl 167 i0 2 Try.underlying239 Hi.out Hz1.out _ _ _ _ _ _ rfl rfl w2.heap.size (p * 2) _ 167 hB6.out (entsC (es.drop (p + 1))) (by rw [hcs.out]; simp) (fun hp => absurd hp (by rw [hcs.out]; omega)) (by rw [ht2.out, List.size_toArray, length_splice _ _ _ (by rw [ht1.out, Array.length_toList, hL0.out]; omega), Array.length_toList, hL0.out]; omega) (entsC_one _) w.heap.size w hb6.out hbs ?_; intro w7 hw71 hw72; have HW71 := Lib.hid hw71; clear hw71)
        go_ret
        exact hfin.out _ HW71.out hw72

end Go.Proofs.Ytjhimcddgkoghaa
