/- The program's part, with, without, Put, Remove, Scan. -/
import Derived.Test.YtnkceemdnefomaaS3
namespace Go.Proofs.Ytnkceemdnefomaa
open Go.RowKit

theorem entsC_one (es : List Ent) : ∀ u ∈ entsC es, u.oneCell' = true := by
  intro u hu
  rw [entsC, List.mem_flatMap] at hu
  obtain ⟨e, _, h⟩ := hu
  simp [entC] at h
  rcases h with rfl | rfl <;> rfl
theorem piece_entsC (es : List Ent) (i m : Nat) : ((entsC es).drop (i * 2)).take (m * 2) = entsC ((es.drop i).take m) := by rw [entsC_drop, entsC_take]

theorem splice_full {α : Type} (L cs : List α) (h : L.length = cs.length) : splice L 0 cs = cs := by
  rw [splice, List.take_zero, List.nil_append, Nat.zero_add, ← h, List.drop_length, List.append_nil]

set_option maxHeartbeats 1000000 in
set_option maxRecDepth 100000 in
theorem part_any (A : Option Addr) (n c : Nat) (es : List Ent) (a b : Nat) (w : World) (hr : Rd w 2 A n (entsC es)) (hab : a ≤ b) (hbn : b ≤ n) (hnc : n ≤ c) (hc : c ≤ maxLen) (hm : n ≤ 4096) :
    Calls Try.prog 153 #[.slice A n c, .int .i64 a, .int .i64 b] w (OwnPost 126 ((es.drop a).take (b - a)) w) := by
  have hlen := hr.len
  obtain ⟨i0, hi, hz0, hz1, hz2⟩ := info_parts info_Entry
  have hmk := fun W => run_make_rowN (P := Try.prog) 173 126 i0 _ Try.underlying173 hi hz0 .i64 .i64 (b - a) (b - a) (Nat.le_refl _) (by rw [hz2]; omega) (by omega) W
  rw [hz1] at hmk
  have hpl : ((es.drop a).take (b - a)).length = b - a := by rw [List.length_take, List.length_drop]; omega
  have hcl : ((entsC es).drop (a * 2)).take ((b - a) * 2) = entsC ((es.drop a).take (b - a)) := piece_entsC es a (b - a)
  have Hcl := Lib.hid hcl; clear hcl
  have Hpl := Lib.hid hpl; clear hpl
  have Hlen := Lib.hid hlen; clear hlen
  have Hi := Lib.hid hi; clear hi
  have Hz1 := Lib.hid hz1; clear hz1
  clear hz0 hz2
  unfold maxLen at hc
  have hba : ((b : Int) - (a : Int)) = ((b - a : Nat) : Int) := by omega
  have hblk0 : Hid (Blk (w.alloc (.cells (madeCells #[Value.string ByteArray.empty, Value.int IntKind.i64 0] ((b - a) * 2)) 126)) w.heap.size 126 (madeCells #[Value.string ByteArray.empty, Value.int IntKind.i64 0] ((b - a) * 2))) := Blk.new _ _ _
  have hb0 : Hid (Below w.heap.size w (w.alloc (.cells (madeCells #[Value.string ByteArray.empty, Value.int IntKind.i64 0] ((b - a) * 2)) 126))) := (Below.refl _ _).alloc (Nat.le_refl _) _
  have hrd := Lib.hid (hr.alloc (.cells (madeCells #[Value.string ByteArray.empty, Value.int IntKind.i64 0] ((b - a) * 2)) 126))
  have hln := Lib.hid (show (((entsC es).drop (a * 2)).take ((b - a) * 2)).length = (b - a) * 2 from length_piece hr.1 (by omega))
  have hmin := Lib.hid (show Nat.min (b - a) (b - a) = b - a from Nat.min_self _)
  have hfin : Hid (∀ w' : World, Blk w' w.heap.size 126 (splice (madeCells #[Value.string ByteArray.empty, Value.int IntKind.i64 0] ((b - a) * 2)).toList 0 (((entsC es).drop (a * 2)).take ((b - a) * 2))).toArray →
      w'.ownsRow w.heap.size 126 2 (.slice (some ⟨w.heap.size, 0, none⟩) (b - a) (b - a)) ((es.drop a).take (b - a)).length (entsC ((es.drop a).take (b - a)))) := fun w' hblk => by
    have e1 := splice_full (madeCells #[Value.string ByteArray.empty, Value.int IntKind.i64 0] ((b - a) * 2)).toList (((entsC es).drop (a * 2)).take ((b - a) * 2)) (by rw [hln.out, Array.length_toList, size_madeCells])
    rw [e1, Hcl.out] at hblk
    rw [Hpl.out]
    have hl2 : (entsC ((es.drop a).take (b - a))).length = (b - a) * 2 := by rw [← Hcl.out]; exact hln.out
    exact hblk.own (Nat.le_refl _) (Nat.le_refl _) (by unfold maxLen; omega) (by simpa using hl2) (by rw [List.take_of_length_le (by show (entsC ((es.drop a).take (b - a))).length ≤ _; omega)])
  by_cases hca : c = a
  · have hcs : Hid ((((entsC es).drop (a * 2)).take ((b - a) * 2)).length = 0) := by show (((entsC es).drop (a * 2)).take ((b - a) * 2)).length = 0; rw [hln.out]; omega
    go_enter Try.func153, Try.ntmps153
    go_wp2_with (with_reducible refine wpList_copy_multi rfl (.tmp 12) (.tmp 16) 173 173 rfl 126 i0 2 Try.underlying173 Hi.out Hz1.out _ _ _ _ _ _ rfl rfl w.heap.size 0 _ 126 hblk0.out (((entsC es).drop (a * 2)).take ((b - a) * 2)) (hln.out.trans (by rw [hmin.out])) (fun hp => absurd hp (by rw [hcs.out]; omega)) (by rw [hln.out, size_madeCells]; omega) (by rw [Hcl.out]; exact entsC_one _) w.heap.size w hb0.out (Nat.le_refl _) ?_; intro w' hw1 hw2; have HW1 := Lib.hid hw1; clear hw1)
    go_ret
    exact ⟨_, rfl, hfin.out _ HW1.out, hw2⟩
  · go_enter Try.func153, Try.ntmps153
    go_wp2_with (with_reducible refine wpList_copy_multi rfl (.tmp 12) (.tmp 16) 173 173 rfl 126 i0 2 Try.underlying173 Hi.out Hz1.out _ _ _ _ _ _ rfl rfl w.heap.size 0 _ 126 hblk0.out (((entsC es).drop (a * 2)).take ((b - a) * 2)) (hln.out.trans (by rw [hmin.out])) (fun hp => ⟨rfl, hrd.out.cut (by omega) hp⟩) (by rw [hln.out, size_madeCells]; omega) (by rw [Hcl.out]; exact entsC_one _) w.heap.size w hb0.out (Nat.le_refl _) ?_; intro w' hw1 hw2; have HW1 := Lib.hid hw1; clear hw1)
    go_ret
    exact ⟨_, rfl, hfin.out _ HW1.out, hw2⟩

end Go.Proofs.Ytnkceemdnefomaa
