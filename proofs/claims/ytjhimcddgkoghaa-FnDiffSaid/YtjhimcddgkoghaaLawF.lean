/- The law's helpers on edits: size, copy, equality. -/
import Derived.Test.YtjhimcddgkoghaaLawE2
namespace Go.Proofs.Ytjhimcddgkoghaa
open Go.RowKit

theorem toEdit_any (key : ByteArray) (v : Int) (g : Bool) (w : World) :
    Calls Try.prog 202 #[.agg #[.string key, .int .i64 v, .bool g]] w fun e w' => e = .returned (.agg #[.string key, .int .i64 v, .bool g]) ∧ Below w.heap.size w w' := by
  go_enter Try.func202, Try.ntmps202
  go_wp2
  exact bodyPost_ret (v := .agg #[.string key, .int .i64 v, .bool g]) (by simp [results, Try.results202, go_sem]) rfl ⟨rfl, by
    refine ((((((((((Below.refl _ _).alloc (Nat.le_refl _) _).alloc (by simp) _).alloc (by simp; omega) _)))))))⟩

instance edt_dec : DecidableEq Edt := fun a b => decidable_of_iff (a.key = b.key ∧ a.val = b.val ∧ a.gone = b.gone) ⟨fun ⟨h1, h2, h3⟩ => by cases a; cases b; simp at *; exact ⟨h1, h2, h3⟩, fun h => by subst h; exact ⟨rfl, rfl, rfl⟩⟩
def EqD (a b : Edt) : Bool := decide (a.key = b.key) && (decide (a.val = b.val) && decide (a.gone = b.gone))
theorem EqD_iff (a b : Edt) : EqD a b = decide (a = b) := by
  obtain ⟨a1, a2, a3⟩ := a
  obtain ⟨b1, b2, b3⟩ := b
  rw [Bool.eq_iff_iff]; simp [EqD]
set_option maxRecDepth 100000 in
theorem eqEdit_any (k1 k2 : ByteArray) (v1 v2 : Int) (g1 g2 : Bool) (w : World) :
    Calls Try.prog 205 #[.agg #[.string k1, .int .i64 v1, .bool g1], .agg #[.string k2, .int .i64 v2, .bool g2]] w fun e w' => e = .returned (.bool (EqD ⟨k1, v1, g1⟩ ⟨k2, v2, g2⟩)) ∧ Below w.heap.size w w' := by
  have hk := toList_beq k1 k2
  by_cases h1 : k1 = k2 <;> by_cases h2 : v1 = v2 <;> cases g1 <;> cases g2
  all_goals
    go_enter Try.func205, Try.ntmps205
    go_wp2
    go_ret
    exact ⟨ret_bool (by simp [EqD, h1, h2]), ((Below.refl _ _).alloc (Nat.le_refl _) _).alloc (by simp) _⟩

set_option maxRecDepth 100000 in
theorem eqEditS_any (A : Option Addr) (n c : Nat) (es : List Edt) (A' : Option Addr) (n' c' : Nat) (es' : List Edt) (w : World) (hr : Rd w 3 A n (edtsC es)) (hr' : Rd w 3 A' n' (edtsC es')) (hm : n ≤ maxLen) (hm' : n' ≤ maxLen) (hsame : es = es') :
    Calls Try.prog 110 #[.slice A n c, .slice A' n' c'] w (EqPost true w) := by
  subst hsame
  have hne : n = n' := by rw [← hr.elen, ← hr'.elen]
  unfold maxLen at hm hm'
  have hlen := hr.elen
  have Hlen := Lib.hid hlen; clear hlen
  subst hne
  go_enter Try.func110, Try.ntmps110
  go_wp2
  go_loopw [5] (fun i wr => ∃ k : Nat, k ≤ n ∧ i = .int .i64 k ∧ Below w.heap.size w wr) (fun i _ => n - (intOf i).toNat)
  case atStart => exact ⟨0, Nat.zero_le _, rfl, Below.refl _ _⟩
  case round =>
    obtain ⟨k, hk, rfl, hb⟩ := hrel
    by_cases hlt : k < n
    · have hke : k < es.length := by rw [Hlen.out]; exact hlt
      obtain ⟨b, off, rfl, hbl, hbl2, hc1, hc2, hc3⟩ := hr.edt hb hke
      obtain ⟨b', off', rfl, hbl', hbl2', hc1', hc2', hc3'⟩ := hr'.edt hb hke
      generalize es[k] = ek at *
      obtain ⟨k1, v1, g1⟩ := ek
      have hcall : Hid (∀ W : World, Calls Try.prog 205 #[.agg #[.string k1, .int .i64 v1, .bool g1], .agg #[.string k1, .int .i64 v1, .bool g1]] W fun e w' => e = .returned (.bool true) ∧ Below W.heap.size W w') := fun W => by
        have h := eqEdit_any k1 k1 v1 v1 g1 g1 W
        rw [EqD_iff, decide_eq_true rfl] at h; exact h
      go_wp2
      go_still_tail 8, (by kernel_rfl)
      change wpList _ _ _ _ _ wr.drew
      generalize hw2 : wr.drew = w2
      have hb2 : Below w.heap.size w w2 := by rw [← hw2]; exact hb.drew
      clear hw2 hb
      go_wp2_with fail
      refine (hcall.out _).mono ?_
      rintro e w3 ⟨rfl, hb3⟩
      go_wp2
      go_roundw
      case rel => exact ⟨k + 1, by omega, by go_num, hb2.trans (hb3.mono hb2.size)⟩
      case measure => simp [intOf]; omega
    · go_wp2
      go_ret
      exact ⟨rfl, hb⟩

theorem info_Edit : (Try.prog.info? 117).map (fun i => (i.zero, i.size, i.bytes)) = some (some (.agg #[.string ByteArray.empty, .int .i64 0, .bool false]), 3, 32) := by kernel_rfl

theorem Blk.three {w : World} {g : Nat} {t : TypeId} {cs : Array Value} (h : Blk w g t cs) {k : Nat} (hk : k * 3 + 2 < cs.size) :
    ∃ y0 y1 y2, w.cell? ⟨g, k * 3, none⟩ = some y0 ∧ w.cell? ⟨g, k * 3 + 1, none⟩ = some y1 ∧ w.cell? ⟨g, k * 3 + 2, none⟩ = some y2 ∧ w.frozen? ⟨g, k * 3, none⟩ = false ∧ w.frozen? ⟨g, k * 3 + 1, none⟩ = false ∧ w.frozen? ⟨g, k * 3 + 2, none⟩ = false :=
  ⟨_, _, _, (h.cell _).trans (Array.getElem?_eq_getElem (by omega)), (h.cell _).trans (Array.getElem?_eq_getElem (by omega)), (h.cell _).trans (Array.getElem?_eq_getElem hk), h.frozen _, h.frozen _, h.frozen _⟩

set_option maxRecDepth 100000 in
theorem toEditS_any (A : Option Addr) (n c : Nat) (es : List Edt) (w : World) (hr : Rd w 3 A n (edtsC es)) (hm : n ≤ 1048576) :
    Calls Try.prog 105 #[.slice A n c] w fun e w' => ∃ v, e = .returned v ∧ w'.ownsRow w.heap.size 117 3 v n (edtsC es) ∧ Below w.heap.size w w' := by
  have hlen := hr.elen
  have Hlen := Lib.hid hlen; clear hlen
  obtain ⟨i0, hi, hz0, hz1, hz2⟩ := info_parts info_Edit
  have hmk := fun W => run_make_rowN (P := Try.prog) 27 117 i0 _ Try.underlying27 hi hz0 .i64 .i64 n n (Nat.le_refl _) (by rw [hz2]; omega) (by omega) W
  rw [hz1] at hmk
  have hm' : n ≤ 9223372036854775807 := by omega
  have Hi := Lib.hid hi; clear hi
  clear hz0 hz1 hz2 hm
  go_enter Try.func105, Try.ntmps105
  go_wp2
  have hblk0 : Blk (w.alloc (.cells (madeCells (Value.agg #[Value.string ByteArray.empty, Value.int IntKind.i64 0, Value.bool false]).cells (n * 3)) 117)) w.heap.size 117 (madeCells (Value.agg #[Value.string ByteArray.empty, Value.int IntKind.i64 0, Value.bool false]).cells (n * 3)) := Blk.new _ _ _
  have HB0 := Lib.hid hblk0; clear hblk0
  have hb0 : Below w.heap.size w (w.alloc (.cells (madeCells (Value.agg #[Value.string ByteArray.empty, Value.int IntKind.i64 0, Value.bool false]).cells (n * 3)) 117)) := (Below.refl _ _).alloc (Nat.le_refl _) _
  have HBel := Lib.hid hb0; clear hb0
  generalize hg0 : w.heap.size = g at *
  have Hg0 := Lib.hid hg0; clear hg0
  go_loopw [4] (fun i wr => ∃ (k : Nat) (cs : Array Value), k ≤ n ∧ i = .int .i64 k ∧ Blk wr g 117 cs ∧ cs.size = n * 3 ∧ cs.toList.take (k * 3) = edtsC (es.take k) ∧ Below g w wr) (fun i _ => n - (intOf i).toNat)
  case atStart => exact ⟨0, _, Nat.zero_le _, rfl, HB0.out, by simp [size_madeCells], by simp [edtsC], HBel.out⟩
  case round =>
    obtain ⟨k, cs, hk, rfl, hblk, hsz, htk, hb⟩ := hrel
    by_cases hlt : k < n
    · have hke : k < es.length := by rw [Hlen.out]; exact hlt
      obtain ⟨b, off, rfl, hbl, hbl2, hc1, hc2, hc3⟩ := hr.edt (by rw [Hg0.out]; exact hb) hke
      have hstep : Hid (edtsC (es.take (k + 1)) = edtsC (es.take k) ++ [.string es[k].key, .int .i64 es[k].val, .bool es[k].gone]) := by
        rw [List.take_succ_eq_append_getElem hke, edtsC_append]; rfl
      have HT := Lib.hid htk; clear htk
      have HS := Lib.hid hsz; clear hsz
      have HB := Lib.hid hblk; clear hblk
      generalize es[k] = ek at *
      go_wp2_with fail
      refine (toEdit_any _ _ _ _).mono ?_
      rintro e w1 ⟨rfl, hb1⟩
      have hgl : g < wr.heap.size := HB.out.lt
      have hblk1 : Blk w1 g 117 cs := HB.out.kept hb1
      obtain ⟨y0, y1, y2, hx0, hx1, hx2, hf0, hf1, hf2⟩ := hblk1.three (k := k) (by have := HS.out; omega)
      have HB1 := Lib.hid hblk1; clear hblk1
      go_wp2
      go_roundw
      case rel => exact ⟨k + 1, _, by omega, by go_num, ((HB1.out.set_ _ _).set_ _ _).set_ _ _, by simpa using HS.out, by rw [take_set3 _ _ _ _ _ (by have := HS.out; omega), HT.out, hstep.out], (((hb.trans (hb1.mono (by omega))).setCell (Nat.le_refl g) _).setCell (Nat.le_refl g) _).setCell (Nat.le_refl g) _⟩
      case measure => simp [intOf]; omega
    · have HT := Lib.hid htk; clear htk
      have HS := Lib.hid hsz; clear hsz
      have HB := Lib.hid hblk; clear hblk
      have hkn : k = n := by omega
      have HKN := Lib.hid hkn; clear hkn
      go_wp2
      go_ret
      exact ⟨_, rfl, HB.out.own (Nat.le_of_eq Hg0.out) (Nat.le_refl _) (by unfold maxLen; omega) HS.out (by have h := HT.out; rw [HKN.out, List.take_of_length_le (l := es) (by rw [Hlen.out]; exact Nat.le_refl _)] at h; exact h), by rw [Hg0.out]; exact hb⟩

end Go.Proofs.Ytjhimcddgkoghaa
