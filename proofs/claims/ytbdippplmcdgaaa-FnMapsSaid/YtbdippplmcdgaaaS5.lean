/- Scan, the document's and the program's. -/
import Derived.Test.YtbdippplmcdgaaaS4
namespace Go.Proofs.Ytbdippplmcdgaaa
open Go.RowKit

theorem scanM_long {es : List Ent} {a b : ByteArray} (h : 4096 < es.length ∨ 65536 < a.size ∨ 65536 < b.size) : scanM es a b = ([], 2) := by rw [scanM, if_pos h]
theorem scanM_bad {es : List Ent} {a b : ByteArray} (h : ¬(4096 < es.length ∨ 65536 < a.size ∨ 65536 < b.size)) (h2 : mapOK es = false) : scanM es a b = ([], 1) := by rw [scanM, if_neg h, h2]; rfl
theorem scanM_ok {es : List Ent} {a b : ByteArray} (h : ¬(4096 < es.length ∨ 65536 < a.size ∨ 65536 < b.size)) (h2 : mapOK es = true) : scanM es a b = (scanL es a b, 0) := by rw [scanM, if_neg h, h2]; rfl
theorem toList_nil_iff (b : ByteArray) : b.toList = [] ↔ b.size = 0 := by
  rw [ByteArray.toList_eq]
  constructor
  · intro h; have := congrArg List.length h; simpa using this
  · intro h; exact List.eq_nil_of_length_eq_zero (by simpa using h)

set_option maxHeartbeats 2000000 in
set_option maxRecDepth 100000 in
theorem specScan_any (A : Option Addr) (n c : Nat) (es : List Ent) (a b : ByteArray) (w : World) (hr : Rd w 2 A n (entsC es)) (hm : n ≤ maxLen) (hks : ∀ e ∈ es, e.1.size ≤ maxLen) :
    Calls Try.prog 25 #[.slice A n c, .string a, .string b] w (TupPost 35 (scanM es a b) w) := by
  have hlen := hr.len
  by_cases hl : 4096 < n ∨ 65536 < a.size ∨ 65536 < b.size
  · have hfin := Lib.hid (scanM_long (es := es) (a := a) (b := b) (by rw [hlen]; exact hl))
    clear hlen
    rcases hl with h | h | h
    all_goals
      go_enter Try.func25, Try.ntmps25
      go_wp2
      all_goals
        go_ret2
        exact TupPost.mk hfin.out (own_empty _ (Nat.le_refl _)) ((Below.refl _ _).alloc (Nat.le_refl _) _)
  have hl1 : n ≤ 4096 := by omega
  have hl2 : a.size ≤ 65536 := by omega
  have hl3 : b.size ≤ 65536 := by omega
  have hlE : ¬(4096 < es.length ∨ 65536 < a.size ∨ 65536 < b.size) := by rw [hlen]; exact hl
  have HlE := Lib.hid hlE
  clear hl hlE
  have Hlen := Lib.hid hlen; clear hlen
  have hmap := l01OK_any A n c es w hr hm hks
  cases hmo : mapOK es with
  | false =>
    have hfin := Lib.hid (scanM_bad HlE.out hmo)
    rw [hmo] at hmap
    have Hmap := Lib.hid hmap
    clear hmap hmo
    go_enter Try.func25, Try.ntmps25
    go_wp2_with (go_at_call 64; refine Hmap.out.mono ?_; rintro e w1 ⟨rfl, hb1⟩)
    go_ret2
    exact TupPost.mk hfin.out (own_empty _ hb1.size) (hb1.alloc hb1.size _)
  | true =>
    have hfin := Lib.hid (scanM_ok HlE.out hmo)
    rw [hmo] at hmap
    have Hmap := Lib.hid hmap
    clear hmap hmo
    obtain ⟨i0, hi, hz0, hz1, hz2⟩ := info_parts info_Entry
    have Hi := Lib.hid hi; clear hi
    have Hz0 := Lib.hid hz0; clear hz0
    have Hz1 := Lib.hid hz1; clear hz1
    have Hz2 := Lib.hid hz2; clear hz2
    go_enter Try.func25, Try.ntmps25
    go_wp2_with (go_at_call 64; refine Hmap.out.mono ?_; rintro e w1 ⟨rfl, hb1⟩)
    have hbs1 := hb1.size
    have hst := Lib.hid (own_empty (w1 := w1) (base := w.heap.size) 35 hbs1)
    have hbst := Lib.hid (hb1.alloc hbs1 (.cells #[] 35))
    go_loopw [8, 9] (fun out i wr => ∃ (k : Nat) (acc : List Ent), k ≤ n ∧ i = .int .i64 k ∧ acc = (es.take k).filter (inR a b) ∧ wr.ownsRow w.heap.size 35 2 out acc.length (entsC acc) ∧ Below w.heap.size w wr) (fun _ i _ => n - (intOf i).toNat)
    case atStart => exact ⟨0, [], Nat.zero_le _, rfl, by simp, hst.out, hbst.out⟩
    case round =>
      obtain ⟨k, acc, hk, rfl, hacc, hown, hb⟩ := hrel
      have hal : acc.length ≤ k := by rw [hacc]; exact filter_take_len _ _ _
      have Hacc := Lib.hid hacc; clear hacc
      have Hown := Lib.hid hown; clear hown
      by_cases hlt : k < n
      · have hke : k < es.length := by rw [Hlen.out]; exact hlt
        obtain ⟨bb, off, rfl, hbl, hbl2, hc1, hc2⟩ := hr.ent hb hke
        have hbs := hb.size
        have hsn := Lib.hid (filter_snoc (inR a b) es k hke)
        have hir : Hid (inR a b es[k] = (!klt es[k].1 a && (decide (b.size = 0) || klt es[k].1 b))) := rfl
        cases hq : klt es[k].1 a with
        | true =>
          have ht : Op.bytesLess es[k].1.toList a.toList = true := hq
          have hf2 := Lib.hid (show acc = (es.take (k + 1)).filter (inR a b) by rw [hsn.out, ← Hacc.out, hir.out, hq]; simp)
          clear hq
          go_wp2
          go_roundw
          case rel => exact ⟨k + 1, acc, by omega, by go_num, hf2.out, Hown.out, hb⟩
          case measure => simp [intOf]; omega
        | false =>
          have ht : Op.bytesLess es[k].1.toList a.toList = false := hq
          by_cases hbe : b.size = 0
          · have hbt := (toList_nil_iff b).2 hbe
            have hf2 := Lib.hid (show acc ++ [es[k]] = (es.take (k + 1)).filter (inR a b) by rw [hsn.out, ← Hacc.out, hir.out, hq, decide_eq_true hbe]; simp)
            clear hq hbe hsn hir
            generalize es[k] = ek at *
            obtain ⟨ek1, ek2⟩ := ek
            go_wp2_with (at_builtin; refine wpList_append_new wr rfl _ _ 23 rfl w.heap.size 35 i0 _ 2 24 Try.underlying23 Hi.out Hz0.out Hz1.out Hz2.out rfl (by decide) u8 acc.length (entsC acc) rfl Hown.out #[.string ek1, .int .i64 ek2] 1 1 rfl rfl (ent_cells ek1 ek2) (by omega) (by decide) hbs ?_; intro v' w2 hown' hgrow; have Hown' := Lib.hid hown'; clear hown')
            go_roundw
            case rel => exact ⟨k + 1, acc ++ [(ek1, ek2)], by omega, by go_num, hf2.out, by rw [List.length_append, entsC_snoc]; exact Hown'.out, below_grown hb hgrow Hown.out hbs (Nat.le_refl _)⟩
            case measure => simp [intOf]; omega
          · have hbt : b.toList.isEmpty = false := by
              cases h : b.toList with
              | nil => exact absurd ((toList_nil_iff b).1 h) hbe
              | cons x r => rfl
            cases hq2 : klt es[k].1 b with
            | false =>
              have ht2 : Op.bytesLess es[k].1.toList b.toList = false := hq2
              have hf2 := Lib.hid (show acc = (es.take (k + 1)).filter (inR a b) by rw [hsn.out, ← Hacc.out, hir.out, hq, hq2, decide_eq_false hbe]; simp)
              clear hq hq2 hbe
              go_wp2
              go_roundw
              case rel => exact ⟨k + 1, acc, by omega, by go_num, hf2.out, Hown.out, hb⟩
              case measure => simp [intOf]; omega
            | true =>
              have ht2 : Op.bytesLess es[k].1.toList b.toList = true := hq2
              have hf2 := Lib.hid (show acc ++ [es[k]] = (es.take (k + 1)).filter (inR a b) by rw [hsn.out, ← Hacc.out, hir.out, hq, hq2]; simp)
              clear hq hq2 hbe hsn hir
              generalize es[k] = ek at *
              obtain ⟨ek1, ek2⟩ := ek
              go_wp2_with (at_builtin; refine wpList_append_new wr rfl _ _ 23 rfl w.heap.size 35 i0 _ 2 24 Try.underlying23 Hi.out Hz0.out Hz1.out Hz2.out rfl (by decide) u8 acc.length (entsC acc) rfl Hown.out #[.string ek1, .int .i64 ek2] 1 1 rfl rfl (ent_cells ek1 ek2) (by omega) (by decide) hbs ?_; intro v' w2 hown' hgrow; have Hown' := Lib.hid hown'; clear hown')
              go_roundw
              case rel => exact ⟨k + 1, acc ++ [(ek1, ek2)], by omega, by go_num, hf2.out, by rw [List.length_append, entsC_snoc]; exact Hown'.out, below_grown hb hgrow Hown.out hbs (Nat.le_refl _)⟩
              case measure => simp [intOf]; omega
      · have hf2 := Lib.hid (show acc = scanL es a b by rw [Hacc.out, List.take_of_length_le (by rw [Hlen.out]; omega)]; rfl)
        go_wp2
        go_ret2
        exact TupPost.mk hfin.out (by rw [← hf2.out]; exact Hown.out) hb

end Go.Proofs.Ytbdippplmcdgaaa
