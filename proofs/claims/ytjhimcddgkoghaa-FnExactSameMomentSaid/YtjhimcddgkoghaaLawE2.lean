/- The machine over data (LawE, LawE2). -/
import Derived.Test.YtjhimcddgkoghaaBase
/- The law's helpers on entries: size, copy, equality. -/
namespace Go.Proofs.Ytjhimcddgkoghaa
open Go.RowKit

theorem toEntry_any (key : ByteArray) (v : Int) (w : World) :
    Calls Try.prog 214 #[.agg #[.string key, .int .i64 v]] w fun e w' => e = .returned (.agg #[.string key, .int .i64 v]) ∧ Below w.heap.size w w' := by
  go_enter Try.func214, Try.ntmps214
  go_wp2
  exact bodyPost_ret (v := .agg #[.string key, .int .i64 v]) (by simp [results, Try.results214, go_sem]) rfl ⟨rfl, by
    refine ((((((((((Below.refl _ _).alloc (Nat.le_refl _) _).alloc (by simp) _).alloc (by simp; omega) _)))))))⟩

def EqE (a b : Ent) : Bool := decide (a.1 = b.1) && decide (a.2 = b.2)
theorem eqEntry_any (k1 k2 : ByteArray) (v1 v2 : Int) (w : World) :
    Calls Try.prog 209 #[.agg #[.string k1, .int .i64 v1], .agg #[.string k2, .int .i64 v2]] w fun e w' => e = .returned (.bool (EqE (k1, v1) (k2, v2))) ∧ Below w.heap.size w w' := by
  have hk := toList_beq k1 k2
  by_cases h1 : k1 = k2 <;> by_cases h2 : v1 = v2
  all_goals
    go_enter Try.func209, Try.ntmps209
    go_wp2
    go_ret
    exact ⟨ret_bool (by simp [EqE, h1, h2]), ((Below.refl _ _).alloc (Nat.le_refl _) _).alloc (by simp) _⟩

end Go.Proofs.Ytjhimcddgkoghaa
namespace Go.Proofs.Ytjhimcddgkoghaa
open Go.RowKit

def EqPost (b : Bool) (w : World) (e : Ending) (w' : World) : Prop := e = .returned (.bool b) ∧ Below w.heap.size w w'

set_option maxRecDepth 100000 in
theorem eqEntryS_any (A : Option Addr) (n c : Nat) (es : List Ent) (A' : Option Addr) (n' c' : Nat) (es' : List Ent) (w : World) (hr : Rd w 2 A n (entsC es)) (hr' : Rd w 2 A' n' (entsC es')) (hm : n ≤ maxLen) (hm' : n' ≤ maxLen) :
    Calls Try.prog 115 #[.slice A n c, .slice A' n' c'] w (EqPost (decide (es = es')) w) := by
  unfold maxLen at hm hm'
  have hlen := hr.len
  have hlen' := hr'.len
  have Hlen := Lib.hid hlen; clear hlen
  have Hlen' := Lib.hid hlen'; clear hlen'
  by_cases hne : n = n'
  case neg =>
    have hfin : Hid (decide (es = es') = false) := decide_eq_false (fun h => hne (by rw [← Hlen.out, ← Hlen'.out, h]))
    have hb : ((n : Int) != n') = true := by rw [bne_iff_ne]; omega
    go_enter Try.func115, Try.ntmps115
    go_wp2
    go_ret
    exact ⟨ret_bool hfin.out.symm, Below.refl _ _⟩
  subst hne
  go_enter Try.func115, Try.ntmps115
  go_wp2
  go_loopw [5] (fun i wr => ∃ k : Nat, k ≤ n ∧ i = .int .i64 k ∧ es.take k = es'.take k ∧ Below w.heap.size w wr) (fun i _ => n - (intOf i).toNat)
  case atStart => exact ⟨0, Nat.zero_le _, rfl, rfl, Below.refl _ _⟩
  case round =>
    obtain ⟨k, hk, rfl, heq, hb⟩ := hrel
    have Heq := Lib.hid heq; clear heq
    by_cases hlt : k < n
    · have hke : k < es.length := by rw [Hlen.out]; exact hlt
      have hke' : k < es'.length := by rw [Hlen'.out]; exact hlt
      obtain ⟨b, off, rfl, hbl, hbl2, hc1, hc2⟩ := hr.ent hb hke
      obtain ⟨b', off', rfl, hbl', hbl2', hc1', hc2'⟩ := hr'.ent hb hke'
      have hyes : Hid (EqE es[k] es'[k] = true → es.take (k + 1) = es'.take (k + 1)) := by
        intro h
        have h' : es[k] = es'[k] := by simp [EqE] at h; exact Prod.ext h.1 h.2
        rw [List.take_succ_eq_append_getElem hke, List.take_succ_eq_append_getElem hke', Heq.out, h']
      have hno : Hid (EqE es[k] es'[k] = false → decide (es = es') = false) := by
        intro h
        refine decide_eq_false (fun e => ?_)
        subst e
        simp [EqE] at h
      generalize es[k] = ek at *
      generalize es'[k] = ek' at *
      go_wp2
      go_still_tail 8, (by kernel_rfl)
      change wpList _ _ _ _ _ wr.drew
      generalize hw2 : wr.drew = w2
      have hb2 : Below w.heap.size w w2 := by rw [← hw2]; exact hb.drew
      clear hw2 hb
      go_wp2_with fail
      refine (eqEntry_any _ _ _ _ _).mono ?_
      rintro e w3 ⟨rfl, hb3⟩
      cases hE : EqE (ek.1, ek.2) (ek'.1, ek'.2) with
      | true =>
        have HE := Lib.hid hE; clear hE
        go_wp2
        go_roundw
        case rel => exact ⟨k + 1, by omega, by go_num, hyes.out HE.out, hb2.trans (hb3.mono hb2.size)⟩
        case measure => simp [intOf]; omega
      | false =>
        have HE := Lib.hid hE; clear hE
        go_wp2
        go_ret
        exact ⟨ret_bool (hno.out HE.out).symm, hb2.trans (hb3.mono hb2.size)⟩
    · have hfin : Hid (decide (es = es') = true) := by
        have h := Heq.out
        rw [List.take_of_length_le (by rw [Hlen.out]; omega), List.take_of_length_le (by rw [Hlen'.out]; omega)] at h
        exact decide_eq_true h
      go_wp2
      go_ret
      exact ⟨ret_bool hfin.out.symm, hb⟩

theorem info_Entry : (Try.prog.info? 167).map (fun i => (i.zero, i.size, i.bytes)) = some (some (.agg #[.string ByteArray.empty, .int .i64 0]), 2, 24) := by kernel_rfl

set_option maxRecDepth 100000 in
/-- the slice is a whole row of the call's own at block g -/
theorem toEntryS_any (A : Option Addr) (n c : Nat) (es : List Ent) (w : World) (hr : Rd w 2 A n (entsC es)) (hm : n ≤ 1048576) :
    Calls Try.prog 124 #[.slice A n c] w fun e w' => ∃ v, e = .returned v ∧ w'.ownsRow w.heap.size 167 2 v n (entsC es) ∧ Below w.heap.size w w' := by
  have hlen := hr.len
  have Hlen := Lib.hid hlen; clear hlen
  obtain ⟨i0, hi, hz0, hz1, hz2⟩ := info_parts info_Entry
  have hmk := fun W => run_make_rowN (P := Try.prog) 36 167 i0 _ Try.underlying36 hi hz0 .i64 .i64 n n (Nat.le_refl _) (by rw [hz2]; omega) (by omega) W
  rw [hz1] at hmk
  have hm' : n ≤ 9223372036854775807 := by omega
  have Hi := Lib.hid hi; clear hi
  clear hz0 hz1 hz2 hm
  go_enter Try.func124, Try.ntmps124
  go_wp2
  have hblk0 : Blk (w.alloc (.cells (madeCells (Value.agg #[Value.string ByteArray.empty, Value.int IntKind.i64 0]).cells (n * 2)) 167)) w.heap.size 167 (madeCells (Value.agg #[Value.string ByteArray.empty, Value.int IntKind.i64 0]).cells (n * 2)) := Blk.new _ _ _
  have HB0 := Lib.hid hblk0; clear hblk0
  have hb0 : Below w.heap.size w (w.alloc (.cells (madeCells (Value.agg #[Value.string ByteArray.empty, Value.int IntKind.i64 0]).cells (n * 2)) 167)) := (Below.refl _ _).alloc (Nat.le_refl _) _
  have HBel := Lib.hid hb0; clear hb0
  generalize hg0 : w.heap.size = g at *
  have Hg0 := Lib.hid hg0; clear hg0
  go_loopw [4] (fun i wr => ∃ (k : Nat) (cs : Array Value), k ≤ n ∧ i = .int .i64 k ∧ Blk wr g 167 cs ∧ cs.size = n * 2 ∧ cs.toList.take (k * 2) = entsC (es.take k) ∧ Below g w wr) (fun i _ => n - (intOf i).toNat)
  case atStart => exact ⟨0, _, Nat.zero_le _, rfl, HB0.out, by simp [size_madeCells], by simp [entsC], HBel.out⟩
  case round =>
    obtain ⟨k, cs, hk, rfl, hblk, hsz, htk, hb⟩ := hrel
    by_cases hlt : k < n
    · have hke : k < es.length := by rw [Hlen.out]; exact hlt
      obtain ⟨b, off, rfl, hbl, hbl2, hc1, hc2⟩ := hr.ent (by rw [Hg0.out]; exact hb) hke
      have hstep : Hid (entsC (es.take (k + 1)) = entsC (es.take k) ++ [.string es[k].1, .int .i64 es[k].2]) := by
        rw [List.take_succ_eq_append_getElem hke, entsC_append]; rfl
      have HT := Lib.hid htk; clear htk
      have HS := Lib.hid hsz; clear hsz
      have HB := Lib.hid hblk; clear hblk
      generalize es[k] = ek at *
      go_wp2_with fail
      refine (toEntry_any _ _ _).mono ?_
      rintro e w1 ⟨rfl, hb1⟩
      have hgl : g < wr.heap.size := HB.out.lt
      have hblk1 : Blk w1 g 167 cs := HB.out.kept hb1
      have hsz' := HS.out
      have hx0 : w1.cell? ⟨g, k * 2, none⟩ = some (cs[k * 2]'(by omega)) := by rw [hblk1.cell]; exact Array.getElem?_eq_getElem (by omega)
      have hx1 : w1.cell? ⟨g, k * 2 + 1, none⟩ = some (cs[k * 2 + 1]'(by omega)) := by rw [hblk1.cell]; exact Array.getElem?_eq_getElem (by omega)
      have hf0 := hblk1.frozen (k * 2)
      have hf1 := hblk1.frozen (k * 2 + 1)
      generalize cs[k * 2]'(by omega) = y0 at *
      generalize cs[k * 2 + 1]'(by omega) = y1 at *
      have HB1 := Lib.hid hblk1; clear hblk1 hsz'
      go_wp2
      go_roundw
      case rel => exact ⟨k + 1, _, by omega, by go_num, (HB1.out.set_ _ _).set_ _ _, by simpa using HS.out, by rw [take_set2 _ _ _ _ (by have := HS.out; omega), HT.out, hstep.out], ((hb.trans (hb1.mono (by omega))).setCell (Nat.le_refl g) _).setCell (Nat.le_refl g) _⟩
      case measure => simp [intOf]; omega
    · have HT := Lib.hid htk; clear htk
      have HS := Lib.hid hsz; clear hsz
      have HB := Lib.hid hblk; clear hblk
      have hkn : k = n := by omega
      have HKN := Lib.hid hkn; clear hkn
      go_wp2
      go_ret
      exact ⟨_, rfl, HB.out.own (Nat.le_of_eq Hg0.out) (Nat.le_refl _) (by unfold maxLen; omega) HS.out (by have h := HT.out; rw [HKN.out, List.take_of_length_le (l := es) (by rw [Hlen.out]; exact Nat.le_refl _)] at h; exact h), by rw [Hg0.out]; exact hb⟩

end Go.Proofs.Ytjhimcddgkoghaa
