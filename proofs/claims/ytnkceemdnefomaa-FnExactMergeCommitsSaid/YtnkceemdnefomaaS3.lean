/- The document's Put, l01Remove, Remove, Scan. -/
import Derived.Test.YtnkceemdnefomaaS2
import Derived.Test.YtnkceemdnefomaaI1
namespace Go.Proofs.Ytnkceemdnefomaa
open Go.RowKit

theorem filter_snoc (q : Ent → Bool) (es : List Ent) (k : Nat) (h : k < es.length) : (es.take (k + 1)).filter q = (es.take k).filter q ++ (if q es[k] then [es[k]] else []) := by
  rw [List.take_succ_eq_append_getElem h, List.filter_append]
  congr 1
  cases hq : q es[k] <;> simp [hq]
theorem filter_take_len (q : Ent → Bool) (es : List Ent) (k : Nat) : ((es.take k).filter q).length ≤ k := Nat.le_trans (List.length_filter_le _ _) (List.length_take_le _ _)

set_option maxHeartbeats 1000000 in
set_option maxRecDepth 100000 in
theorem l01Remove_any (A : Option Addr) (n c : Nat) (es : List Ent) (key : ByteArray) (w : World) (hr : Rd w 2 A n (entsC es)) (hm : n ≤ 4096) :
    Calls Try.prog 151 #[.slice A n c, .string key] w (OwnPost 126 (delL es key) w) := by
  have hlen := hr.len
  have Hlen := Lib.hid hlen; clear hlen
  obtain ⟨i0, hi, hz0, hz1, hz2⟩ := info_parts info_Entry
  have Hi := Lib.hid hi; clear hi
  have Hz0 := Lib.hid hz0; clear hz0
  have Hz1 := Lib.hid hz1; clear hz1
  have Hz2 := Lib.hid hz2; clear hz2
  go_enter Try.func151, Try.ntmps151
  go_wp2
  have hst : Hid ((w.alloc (Obj.cells #[] 126)).ownsRow w.heap.size 126 2 (.slice (some ⟨w.heap.size, 0, none⟩) 0 0) 0 []) := World.ownsRow_made w #[] 0 (Nat.le_refl _) (by simp) (by simp)
  have hbst : Hid (Below w.heap.size w (w.alloc (Obj.cells #[] 126))) := (Below.refl _ _).alloc (Nat.le_refl _) _
  go_loopw [5, 6] (fun out i wr => ∃ (k : Nat) (acc : List Ent), k ≤ n ∧ i = .int .i64 k ∧ acc = (es.take k).filter (fun e => decide (e.1 ≠ key)) ∧ wr.ownsRow w.heap.size 126 2 out acc.length (entsC acc) ∧ Below w.heap.size w wr) (fun _ i _ => n - (intOf i).toNat)
  case atStart => exact ⟨0, [], Nat.zero_le _, rfl, by simp, hst.out, hbst.out⟩
  case round =>
    obtain ⟨k, acc, hk, rfl, hacc, hown, hb⟩ := hrel
    have hal : acc.length ≤ k := by rw [hacc]; exact filter_take_len _ _ _
    have Hacc := Lib.hid hacc; clear hacc
    have Hown := Lib.hid hown; clear hown
    by_cases hlt : k < n
    · have hke : k < es.length := by rw [Hlen.out]; exact hlt
      obtain ⟨b, off, rfl, hbl, hbl2, hc1, hc2⟩ := hr.ent hb hke
      have hbs := hb.size
      have hsn := Lib.hid (filter_snoc (fun e => decide (e.1 ≠ key)) es k hke)
      by_cases he : es[k].1 = key
      · have ht2 : (es[k].1.toList == key.toList) = true := by rw [he]; simp
        have hfin := Lib.hid (show acc = (es.take (k + 1)).filter (fun e => decide (e.1 ≠ key)) by rw [hsn.out, ← Hacc.out]; simp [he])
        clear he
        go_wp2
        go_roundw
        case rel => exact ⟨k + 1, acc, by omega, by go_num, hfin.out, Hown.out, hb⟩
        case measure => simp [intOf]; omega
      · have ht2 : (es[k].1.toList == key.toList) = false := by rw [toList_beq]; exact decide_eq_false he
        have hfin := Lib.hid (show acc ++ [es[k]] = (es.take (k + 1)).filter (fun e => decide (e.1 ≠ key)) by rw [hsn.out, ← Hacc.out]; simp [he])
        clear he hsn
        generalize es[k] = ek at *
        obtain ⟨ek1, ek2⟩ := ek
        go_wp2_with (at_builtin; refine wpList_append_new wr rfl _ _ 66 rfl w.heap.size 126 i0 _ 2 24 Try.underlying66 Hi.out Hz0.out Hz1.out Hz2.out rfl (by decide) u5 acc.length (entsC acc) rfl Hown.out #[.string ek1, .int .i64 ek2] 1 1 rfl rfl (ent_cells ek1 ek2) (by omega) (by decide) hbs ?_; intro v' w1 hown' hgrow; have Hown' := Lib.hid hown'; clear hown')
        go_roundw
        case rel => exact ⟨k + 1, acc ++ [(ek1, ek2)], by omega, by go_num, hfin.out, by rw [List.length_append, entsC_snoc]; exact Hown'.out, below_grown hb hgrow Hown.out hbs (Nat.le_refl _)⟩
        case measure => simp [intOf]; omega
    · have hfin := Lib.hid (show acc = delL es key by rw [Hacc.out, List.take_of_length_le (by rw [Hlen.out]; omega)]; rfl)
      go_wp2
      go_ret
      exact ⟨_, rfl, by rw [← hfin.out]; exact Hown.out, hb⟩

def TupPost (e : TypeId) (r : List Ent × Int) (w : World) (e' : Ending) (w' : World) : Prop := ∃ v, e' = .returned (.tuple #[v, .int .i64 r.2]) ∧ w'.ownsRow w.heap.size e 2 v r.1.length (entsC r.1) ∧ Below w.heap.size w w'
theorem TupPost.mk {e : TypeId} {r : List Ent × Int} {l : List Ent} {c : Int} {v : Value} {w w' : World} (h : r = (l, c)) (ho : w'.ownsRow w.heap.size e 2 v l.length (entsC l)) (hb : Below w.heap.size w w') : TupPost e r w (.returned (.tuple #[v, .int .i64 c])) w' := ⟨v, by rw [h], by rw [h]; exact ho, hb⟩
theorem own_empty {w1 : World} {base : Nat} (e : TypeId) (h : base ≤ w1.heap.size) : (w1.alloc (.cells #[] e)).ownsRow base e 2 (.slice (some ⟨w1.heap.size, 0, none⟩) 0 0) 0 [] := World.ownsRow_made w1 #[] 0 h (by simp) (by simp)

theorem putM_bad {es : List Ent} {k : ByteArray} {v : Int} (h : keyCode es k ≠ 0) : putM es k v = ([], keyCode es k) := by rw [putM, if_neg h]
theorem putM_range {es : List Ent} {k : ByteArray} {v : Int} (h : keyCode es k = 0) (h2 : valB v = false) : putM es k v = ([], 4) := by rw [putM, if_pos h, if_neg (by rw [h2]; simp)]
theorem putM_full {es : List Ent} {k : ByteArray} {v : Int} (h : keyCode es k = 0) (h2 : valB v = true) (h3 : 12 < (putL es k v).length) : putM es k v = ([], 7) := by rw [putM, if_pos h, if_pos h2, if_neg (by omega)]
theorem putM_ok {es : List Ent} {k : ByteArray} {v : Int} (h : keyCode es k = 0) (h2 : valB v = true) (h3 : (putL es k v).length ≤ 12) : putM es k v = (putL es k v, 0) := by rw [putM, if_pos h, if_pos h2, if_pos h3]

end Go.Proofs.Ytnkceemdnefomaa
