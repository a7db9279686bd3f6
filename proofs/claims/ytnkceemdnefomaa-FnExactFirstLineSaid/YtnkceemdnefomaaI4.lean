/- The program's without: an entry taken out, into new memory. -/
import Derived.Test.YtnkceemdnefomaaI3
namespace Go.Proofs.Ytnkceemdnefomaa
open Go.RowKit

theorem del_cells (L0 : List Value) (a b : List Ent) (h : L0.length = (a.length + b.length) * 2) :
    splice (splice L0 0 (entsC a)) (a.length * 2) (entsC b) = entsC (a ++ b) := by
  have hla := entsC_length a
  have hlb := entsC_length b
  have e1 : splice L0 0 (entsC a) = entsC a ++ L0.drop (a.length * 2) := by rw [splice, List.take_zero, List.nil_append, Nat.zero_add, hla]
  have hd : (L0.drop (a.length * 2)).length = b.length * 2 := by rw [List.length_drop, h]; omega
  rw [e1, splice, hlb]
  have e3 : (entsC a ++ L0.drop (a.length * 2)).take (a.length * 2) = entsC a := by rw [← hla]; exact List.take_left
  have e4 : (entsC a ++ L0.drop (a.length * 2)).drop (a.length * 2 + b.length * 2) = [] := List.drop_eq_nil_of_le (by simp [hla]; omega)
  rw [e3, e4, List.append_nil, entsC_append]

set_option maxHeartbeats 2000000 in
set_option maxRecDepth 100000 in
theorem without_any (A : Option Addr) (n c : Nat) (es : List Ent) (key : ByteArray) (w : World) (hr : Rd w 2 A n (entsC es)) (hs : Srt es) (hnc : n ≤ c) (hc : c ≤ maxLen) (hm : n ≤ 4096) :
    Calls Try.prog 154 #[.slice A n c, .string key] w (OwnPost 126 (delL es key) w) := by
  have hlen := hr.len
  have Hlen := Lib.hid hlen; clear hlen
  have hm' : n ≤ maxLen := by unfold maxLen; omega
  obtain ⟨i0, hi, hz0, hz1, hz2⟩ := info_parts info_Entry
  have hmkN : Hid (∀ (N : Nat) (x : Int), x = N → N ≤ 100000 → ∀ W : World, (Instr.makeSlice 173 (.int .i64 x) (.int .i64 x)).run Try.prog W = .ok (.slice (some ⟨W.heap.size, 0, none⟩) N N) (W.alloc (.cells (madeCells #[Value.string ByteArray.empty, Value.int IntKind.i64 0] (N * 2)) 126))) := fun N x hx hN W => by
    subst hx
    have h := run_make_rowN (P := Try.prog) 173 126 i0 _ Try.underlying173 hi hz0 .i64 .i64 N N (Nat.le_refl _) (by rw [hz2]; omega) (by omega) W
    rw [hz1] at h; exact h
  have Hi := Lib.hid hi; clear hi
  have Hz1 := Lib.hid hz1; clear hz1
  clear hz0 hz2
  go_enter Try.func154, Try.ntmps154
  go_wp2_with fail
  refine (find_any A n c es key _ hr hm').mono ?_
  rintro e w2 ⟨p, f, rfl, hp, hy, hn, hb2⟩
  have hrd2 := hr.below hb2 (Nat.le_refl _)
  have hple : p ≤ n := by have := hp.1; rw [Hlen.out] at this; exact this
  have hbs := hb2.size
  cases f with
  | false =>
    have hdel := Lib.hid (del_no (hp.fnd_no hs (hn rfl)))
    have htk := Lib.hid (show (es.drop 0).take (n - 0) = es by rw [List.drop_zero, List.take_of_length_le (by rw [Hlen.out]; omega)])
    clear hy hn hp
    go_wp2_with (go_at_call 153; refine (part_any A n c es 0 n _ hrd2 (by omega) (by omega) hnc hc hm).mono ?_; rintro e w3 ⟨v3, rfl, ho3, hb3⟩; rw [htk.out] at ho3; have HO3 := Lib.hid ho3; clear ho3)
    go_ret
    exact ⟨_, rfl, by rw [hdel.out]; exact ownsRow_base HO3.out hbs, keepS hb2 hb3⟩
  | true =>
    obtain ⟨hlt, he⟩ := hy rfl
    have hpn0 : p < n := by rw [Hlen.out] at hlt; exact hlt
    have hdel := Lib.hid (hp.del_yes hs hlt he)
    clear hy hn hp hlt he
    have hmk := hmkN.out (n - 1) ((n : Int) - 1) (by omega) (by omega)
    have hB3 := Lib.hid (Blk.new w2 126 (madeCells #[Value.string ByteArray.empty, Value.int IntKind.i64 0] ((n - 1) * 2)))
    have hb3 := Lib.hid (hb2.alloc hbs (.cells (madeCells #[Value.string ByteArray.empty, Value.int IntKind.i64 0] ((n - 1) * 2)) 126))
    have hrd3 := Lib.hid (hrd2.alloc (.cells (madeCells #[Value.string ByteArray.empty, Value.int IntKind.i64 0] ((n - 1) * 2)) 126))
    have hL0 := Lib.hid (show (madeCells #[Value.string ByteArray.empty, Value.int IntKind.i64 0] ((n - 1) * 2)).size = (n - 1) * 2 from size_madeCells _ _)
    generalize madeCells #[Value.string ByteArray.empty, Value.int IntKind.i64 0] ((n - 1) * 2) = L0 at *
    have hta := Lib.hid (show (es.take p).length = p by rw [List.length_take, Hlen.out]; omega)
    have htb := Lib.hid (show (es.drop (p + 1)).length = n - (p + 1) by rw [List.length_drop, Hlen.out])
    have ht1 := Lib.hid (show (entsC (es.take p)).length = p * 2 by rw [entsC_length, hta.out])
    have ht2 := Lib.hid (show (entsC (es.drop (p + 1))).length = (n - (p + 1)) * 2 by rw [entsC_length, htb.out])
    have hL0' := Lib.hid (show L0.toList.length = ((es.take p).length + (es.drop (p + 1)).length) * 2 by rw [hta.out, htb.out, Array.length_toList, hL0.out]; omega)
    have hplen := Lib.hid (show (delL es key).length = n - 1 by rw [hdel.out, List.length_append, hta.out, htb.out]; omega)
    have hins := Lib.hid (del_cells L0.toList (es.take p) (es.drop (p + 1)) hL0'.out)
    have hfin : Hid (∀ w' : World, Blk w' w2.heap.size 126 (splice (splice L0.toList 0 (entsC (es.take p))).toArray.toList (p * 2) (entsC (es.drop (p + 1)))).toArray → Below w.heap.size w w' →
        OwnPost 126 (delL es key) w (.returned (.slice (some ⟨w2.heap.size, 0, none⟩) (n - 1) (n - 1))) w') := fun w' hblk hbw => by
      have h1 := hins.out
      rw [hta.out] at h1
      rw [List.toList_toArray, h1, ← hdel.out] at hblk
      have h2 : (entsC (delL es key)).length = (n - 1) * 2 := by rw [entsC_length, hplen.out]
      refine ⟨_, rfl, ?_, hbw⟩
      rw [hplen.out]
      exact hblk.own hbs (Nat.le_refl _) (by unfold maxLen; omega) (by simpa using h2) (by rw [List.toList_toArray, List.take_of_length_le (by omega)])
    unfold maxLen at hc
    go_wp2_with (with_reducible refine wpList_copy_multi rfl (.tmp 24) (.tmp 27) 173 173 rfl 126 i0 2 Try.underlying173 Hi.out Hz1.out _ _ _ _ _ _ rfl rfl w2.heap.size 0 _ 126 hB3.out (entsC (es.take p)) (by rw [ht1.out]; congr 1; exact (Nat.min_eq_left (by omega)).symm) (fun hp => ⟨rfl, by have h := hrd3.out.front (m := p) (by omega); rw [entsC_take] at h; exact h hp⟩) (by rw [ht1.out, hL0.out]; omega) (entsC_one _) w.heap.size w hb3.out hbs ?_; intro w4 hw1 hw2; have HW1 := Lib.hid hw1; clear hw1)
    have hB6 := Lib.hid (HW1.out.drew)
    have hb6 := Lib.hid (hw2.drew)
    have hrd6 := Lib.hid ((hr.below hw2 (Nat.le_refl _)).drew)
    have hq0 : (0 : Int) ≤ (p : Int) + 1 := by omega
    have hq1 : ((p : Int) + 1).toNat = p + 1 := by omega
    have hq3 : IntKind.i64.wrap ((p : Int) + 1) = (p : Int) + 1 := IntWalk.i64_in _ (by omega)
    have hq2 : ¬ n < p + 1 := by omega
    have hq4 : p + 1 ≤ n := by omega
    have hq5 : (p : Int) + 1 ≤ (n : Int) := by omega
    have hq7 : ¬ n - 1 < p := by omega
    have hq8 : p ≤ n - 1 := by omega
    have hn1 : n - 1 - p = n - (p + 1) := by omega
    by_cases hrn : p + 1 < n
    · have hne1 : ¬ n - 1 = p := by omega
      have hne2 : ¬ c = p + 1 := by omega
      go_still_tail 7, (by kernel_rfl)
      change wpList _ _ _ _ _ w4.drew
      generalize w4.drew = w6 at *
      go_wp2_with (with_reducible refine wpList_copy_multi rfl (.tmp 31) (.tmp 35) 173 173 rfl 126 i0 2 Try.underlying173 Hi.out Hz1.out _ _ _ _ _ _ rfl rfl w2.heap.size (p * 2) _ 126 hB6.out (entsC (es.drop (p + 1))) (by rw [ht2.out]; congr 1; exact (Nat.min_eq_left (by omega)).symm) (fun hp => ⟨rfl, by have h := hrd6.out.cut (i := p + 1) (m := n - (p + 1)) (by omega); rw [entsC_drop, List.take_of_length_le (by rw [ht2.out]; omega)] at h; exact h hp⟩) (by rw [ht2.out, List.size_toArray, length_splice _ _ _ (by rw [ht1.out, Array.length_toList, hL0.out]; omega), Array.length_toList, hL0.out]; omega) (entsC_one _) w.heap.size w hb6.out hbs ?_; intro w7 hw71 hw72; have HW71 := Lib.hid hw71; clear hw71)
      go_ret
      exact hfin.out _ HW71.out hw72
    · have hpn : n = p + 1 := by omega
      subst hpn
      have hcs := Lib.hid (show (entsC (es.drop (p + 1))).length = 0 by rw [ht2.out]; omega)
      have hsub : p + 1 - (p + 1) = 0 := Nat.sub_self _
      by_cases hcp : c = p + 1
      all_goals
        go_still_tail 7, (by kernel_rfl)
        change wpList _ _ _ _ _ w4.drew
        generalize w4.drew = w6 at *
        go_wp2_with (with_reducible refine wpList_copy_multi rfl (.tmp 31) (.tmp 35) 173 173 rfl 126 i0 2 Try.underlying173 Hi.out Hz1.out _ _ _ _ _ _ rfl rfl w2.heap.size (p * 2) _ 126 hB6.out (entsC (es.drop (p + 1))) (by rw [hcs.out]; simp) (fun hp => absurd hp (by rw [hcs.out]; omega)) (by rw [ht2.out, List.size_toArray, length_splice _ _ _ (by rw [ht1.out, Array.length_toList, hL0.out]; omega), Array.length_toList, hL0.out]; omega) (entsC_one _) w.heap.size w hb6.out hbs ?_; intro w7 hw71 hw72; have HW71 := Lib.hid hw71; clear hw71)
        go_ret
        exact hfin.out _ HW71.out hw72

end Go.Proofs.Ytnkceemdnefomaa
