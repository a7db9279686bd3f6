/- Texts of the machine over data, folded. -/
import Derived.Test.YtdhjchdbgognbaaKa6
namespace Go.Proofs.Ytdhjchdbgognbaa
open Go.RowKit
instance edt_dec : DecidableEq Edt := fun a b => decidable_of_iff (a.key = b.key ∧ a.val = b.val ∧ a.gone = b.gone) ⟨fun ⟨h1, h2, h3⟩ => by cases a; cases b; simp at *; exact ⟨h1, h2, h3⟩, fun h => by subst h; exact ⟨rfl, rfl, rfl⟩⟩
def EqD (a b : Edt) : Bool := decide (a.key = b.key) && (decide (a.val = b.val) && decide (a.gone = b.gone))
theorem aJC (a b : Edt) : EqD a b = decide (a = b) := by
 obtain ⟨a1, a2, a3⟩ := a
 obtain ⟨b1, b2, b3⟩ := b
 rw [Bool.eq_iff_iff]; simp [EqD]
set_option maxRecDepth 100000 in
theorem aGe (k1 k2 : ByteArray) (v1 v2 : Int) (g1 g2 : Bool) (w : World) :
 Calls Try.prog 57 #[.agg #[.string k1, .int .i64 v1, .bool g1], .agg #[.string k2, .int .i64 v2, .bool g2]] w fun e w' => e = .returned (.bool (EqD ⟨k1, v1, g1⟩ ⟨k2, v2, g2⟩)) ∧ Below w.heap.size w w' := by
 have hk := vY k1 k2
 by_cases h1 : k1 = k2 <;> by_cases h2 : v1 = v2 <;> cases g1 <;> cases g2
 all_goals
  go_enter Try.func57, Try.ntmps57
  go_wp2
  go_ret
  exact ⟨xM (by simp [EqD, h1, h2]), ((Below.refl _ _).alloc (Nat.le_refl _) _).alloc (by simp) _⟩
set_option maxRecDepth 100000 in
theorem aF4 (A : Option Addr) (n c : Nat) (es : List Edt) (A' : Option Addr) (n' c' : Nat) (es' : List Edt) (w : World) (hr : Rd w 3 A n (xV es)) (hr' : Rd w 3 A' n' (xV es')) (hm : n ≤ maxLen) (hm' : n' ≤ maxLen) (hsame : es = es') :
 Calls Try.prog 29 #[.slice A n c, .slice A' n' c'] w (aHI true w) := by
 subst hsame
 have hne : n = n' := by rw [← hr.elen, ← hr'.elen]
 unfold maxLen at hm hm'
 have hlen := hr.elen
 have Hlen := Lib.hid hlen; clear hlen
 subst hne
 go_enter Try.func29, Try.ntmps29
 go_wp2
 go_loopw [5] (fun i wr => ∃ k : Nat, k ≤ n ∧ i = .int .i64 k ∧ Below w.heap.size w wr) (fun i _ => n - (intOf i).toNat)
 case atStart => exact ⟨0, Nat.zero_le _, rfl, Below.refl _ _⟩
 case round =>
  obtain ⟨k, hk, rfl, hb⟩ := hrel
  by_cases hlt : k < n
  · have hke : k < es.length := by rw [Hlen.out]; exact hlt
    obtain ⟨b, off, rfl, hbl, hbl2, hc1, hc2, hc3⟩ := hr.edt hb hke
    obtain ⟨b', off', rfl, hbl', hbl2', hc1', hc2', hc3'⟩ := hr'.edt hb hke
    generalize es[k] = ek at *
    obtain ⟨k1, v1, g1⟩ := ek
    have hcall : Hid (∀ W : World, Calls Try.prog 57 #[.agg #[.string k1, .int .i64 v1, .bool g1], .agg #[.string k1, .int .i64 v1, .bool g1]] W fun e w' => e = .returned (.bool true) ∧ Below W.heap.size W w') := fun W => by
     have h := aGe k1 k1 v1 v1 g1 g1 W
     rw [aJC, decide_eq_true rfl] at h; exact h
    go_wp2
    go_still_tail 8, (by kernel_rfl)
    change wpList _ _ _ _ _ wr.drew
    generalize hw2 : wr.drew = w2
    have hb2 : Below w.heap.size w w2 := by rw [← hw2]; exact hb.drew
    clear hw2 hb
    go_wp2_with fail
    refine (hcall.out _).mono ?_
    rintro e w3 ⟨rfl, hb3⟩
    go_wp2
    go_roundw
    case rel => exact ⟨k + 1, by omega, by go_num, hb2.trans (hb3.mono hb2.size)⟩
    case measure => simp [intOf]; omega
  · go_wp2
    go_ret
    exact ⟨rfl, hb⟩
theorem aDQ : (Try.prog.info? 96).map (fun i => (i.zero, i.size, i.bytes)) = some (some (.agg #[.string ByteArray.empty, .int .i64 0, .bool false]), 3, 32) := by kernel_rfl
theorem Blk.three {w : World} {g : Nat} {t : TypeId} {cs : Array Value} (h : Blk w g t cs) {k : Nat} (hk : k * 3 + 2 < cs.size) :
 ∃ y0 y1 y2, w.cell? ⟨g, k * 3, none⟩ = some y0 ∧ w.cell? ⟨g, k * 3 + 1, none⟩ = some y1 ∧ w.cell? ⟨g, k * 3 + 2, none⟩ = some y2 ∧ w.frozen? ⟨g, k * 3, none⟩ = false ∧ w.frozen? ⟨g, k * 3 + 1, none⟩ = false ∧ w.frozen? ⟨g, k * 3 + 2, none⟩ = false :=
 ⟨_, _, _, (h.cell _).trans (Array.getElem?_eq_getElem (by omega)), (h.cell _).trans (Array.getElem?_eq_getElem (by omega)), (h.cell _).trans (Array.getElem?_eq_getElem hk), h.frozen _, h.frozen _, h.frozen _⟩
def jy : Nat → Int → ByteArray → ByteArray
 | 0, _, t => t
 | f + 1, j, t => if 0 < j then jy f (j / 10) (strOfNums [48 + j % 10] ++ t) else t
def zL (k : Int) : ByteArray := if 0 < k then ⟨#[109]⟩ ++ jy k.toNat k ⟨#[]⟩ else ⟨#[109, 48]⟩
theorem aH3 (f : Nat) (t : ByteArray) : jy f 0 t = t := by cases f <;> simp [jy]
theorem aGG {a b : ByteArray} (h : a = b) : Ending.returned (.string a) = .returned (.string b) := by rw [h]
set_option maxRecDepth 100000 in
theorem vH (k : Int) (w : World) (h0 : 0 ≤ k) (h1 : k ≤ 1099511627776) :
 Calls Try.prog 54 #[.int .i64 k] w fun e w' => e = .returned (.string (zL k)) ∧ Below w.heap.size w w' := by
 by_cases hk : k ≤ 0
 · have hfin : Hid (zL k = ⟨#[109, 48]⟩) := by show zL k = _; unfold zL; rw [if_neg (by omega)]
   go_enter Try.func54, Try.ntmps54
   go_wp2
   go_ret
   exact ⟨aGG hfin.out.symm, Below.refl _ _⟩
 have hk' : 0 < k := by omega
 have hfin : Hid (zL k = ⟨#[109]⟩ ++ jy k.toNat k ⟨#[]⟩) := by show zL k = _; unfold zL; rw [if_pos hk']
 have hcv := aFB (P := Try.prog) 122 9 5 Try.underlying122 Try.underlying5 Try.underlying9
 clear hk
 go_enter Try.func54, Try.ntmps54
 go_wp2
 go_loopw [0, 3] (fun x out wr => ∃ (j : Int) (t : ByteArray) (f : Nat), x = .int .i64 j ∧ out = .string t ∧ 0 ≤ j ∧ (t.size : Int) + j ≤ k ∧ j ≤ f ∧ jy f j t = jy k.toNat k ⟨#[]⟩ ∧ Below w.heap.size w wr) (fun x _ _ => (intOf x).toNat)
 case atStart => exact ⟨k, ⟨#[]⟩, k.toNat, rfl, rfl, by omega, by show ((0 : Nat) : Int) + k ≤ k; omega, by omega, rfl, Below.refl _ _⟩
 case round =>
  obtain ⟨j, t, f, rfl, rfl, hj0, hj1, hjf, hd, hb⟩ := hrel
  have HD := Lib.hid hd; clear hd
  by_cases hlt : 0 < j
  · have hone : (strOfNums [48 + j % 10]).size ≤ 1 := Nat.le_refl 1
    obtain ⟨f', hf'⟩ : ∃ f', f = f' + 1 := ⟨f - 1, by omega⟩
    have hst : Hid (jy f' (j / 10) (strOfNums [48 + j % 10] ++ t) = jy k.toNat k ⟨#[]⟩) := by
     have h := HD.out
     rw [hf', jy, if_pos hlt] at h; exact h
    have hsz : Hid ((strOfNums [48 + j % 10] ++ t).size = 1 + t.size) := by
     show (strOfNums [48 + j % 10] ++ t).size = 1 + t.size
     rw [ByteArray.size_append]; rfl
    have hfj : j ≤ (f' : Int) + 1 := by omega
    clear hf' hjf
    go_wp2
    go_roundw
    case rel => exact ⟨_, _, f', rfl, rfl, by omega, by rw [hsz.out]; omega, by omega, hst.out, hb.alloc hb.size _⟩
    case measure => simp [intOf]; omega
  · have hz : j = 0 := by omega
    subst hz
    have hone : t.size ≤ 1099511627776 := by omega
    go_wp2
    go_ret
    exact ⟨aGG (by rw [hfin.out, ← HD.out, aH3]), hb⟩
def marked : Nat → Int → List Ent
 | 0, _ => []
 | n + 1, k => (zL k, k + 1) :: marked n (k + 2)
theorem zh (n : Nat) (k : Int) : (marked n k).length = n := by
 induction n generalizing k with
 | zero => rfl
 | succ n ih => simp [marked, ih]
theorem aBZ (n : Nat) (k : Int) : marked (n + 1) k = marked n k ++ [(zL (k + 2 * n), k + 2 * n + 1)] := by
 induction n generalizing k with
 | zero => simp [marked]
 | succ n ih =>
  rw [marked, ih, marked, List.cons_append]
  have e : k + 2 + 2 * (n : Int) = k + 2 * ((n + 1 : Nat) : Int) := by omega
  rw [e]
theorem aGo (n : Nat) (k0 : Int) (k : Nat) (h : k < n) : (marked n k0)[k]'(by rw [zh]; exact h) = (zL (k0 + 2 * k), k0 + 2 * k + 1) := by
 induction n generalizing k0 k with
 | zero => omega
 | succ n ih =>
  cases k with
  | zero => simp [marked]
  | succ k =>
   have := ih (k0 + 2) k (by omega)
   have e : k0 + 2 * ((k + 1 : Nat) : Int) = k0 + 2 + 2 * (k : Int) := by omega
   rw [e, ← this]; simp [marked]
theorem vR {w w' : World} (h : Below w.heap.size w w') (row : Option Nat) : w.grownBy w' row := ⟨h.os, h.tape, h.output, h.size, fun i hi _ => h.block i hi⟩
theorem aCB {a b c : World} {row : Option Nat} (h : a.grownBy b row) (k : Below b.heap.size b c) : a.grownBy c row :=
 ⟨k.os.trans h.os, k.tape.trans h.tape, k.output.trans h.output, Nat.le_trans h.size k.size, fun i hi hne => (k.block i (Nat.lt_of_lt_of_le hi h.size)).trans (h.block i hi hne)⟩
theorem ug {a w : World} {g : Nat} (h : a.grownBy w (some g)) {p : Addr} (hp : p.block = g) (u : Value) : a.grownBy (w.setCell p u) (some g) :=
 ⟨h.os, h.tape, h.output, by simpa [World.setCell] using h.size, fun i hi hne => (Below.heap_setCell w p u i (by rintro rfl; exact hne (by rw [hp]))).trans (h.block i hi hne)⟩
set_option maxRecDepth 100000 in
theorem aCh (base n : Nat) (v : Value) (xs : List Value) (k0 : Int) (w : World) (ho : w.ownsRow base 88 2 v n xs) (hm : n ≤ 1048600) (h0 : 0 ≤ k0) (h1 : k0 ≤ 8388608) :
 Calls Try.prog 25 #[v, .int .i64 k0] w fun e w' => e = .returned (.int .i64 (k0 + 2 * n)) ∧ w'.ownsRow base 88 2 v n (xJ (marked n k0)) ∧ w.grownBy w' v.ownBlock := by
 rcases aBC ho with ⟨rfl, rfl, rfl⟩ | ⟨g, cap, cs, rfl, hbg, hblk, hc, hcm, hsz, _⟩
 · go_enter Try.func25, Try.ntmps25
   go_wp2
   go_loopw [1, 5] (fun k i wr => k = .int .i64 k0 ∧ i = .int .i64 0 ∧ wr = w) (fun _ i _ => 1)
   case atStart => exact ⟨rfl, rfl, rfl⟩
   case round =>
    obtain ⟨rfl, rfl, rfl⟩ := hrel
    go_wp2
    go_ret
    exact ⟨jL (by simp), ho, vR (Below.refl _ _) _⟩
 have Ho := Lib.hid ho; clear ho
 have HSZ := Lib.hid hsz; clear hsz
 have HB0 := Lib.hid hblk; clear hblk
 clear hcm hbg
 go_enter Try.func25, Try.ntmps25
 go_wp2
 go_loopw [1, 5] (fun kk i wr => ∃ (k : Nat) (cs : Array Value), k ≤ n ∧ i = .int .i64 k ∧ kk = .int .i64 (k0 + 2 * k) ∧ Blk wr g 88 cs ∧ cs.size = cap * 2 ∧ cs.toList.take (k * 2) = xJ (marked k k0) ∧ w.grownBy wr (some g)) (fun _ i _ => n - (intOf i).toNat)
 case atStart => exact ⟨0, cs, Nat.zero_le _, rfl, by simp, HB0.out, HSZ.out, by simp [xJ, marked], vR (Below.refl _ _) _⟩
 case round =>
  obtain ⟨k, cs, hk, rfl, rfl, hblk, hsz, htk, hg⟩ := hrel
  have HT := Lib.hid htk; clear htk
  have HS := Lib.hid hsz; clear hsz
  have HB := Lib.hid hblk; clear hblk
  by_cases hlt : k < n
  · go_wp2_with fail
    refine (vH _ _ (by omega) (by omega)).mono ?_
    rintro e w1 ⟨rfl, hb1⟩
    have hblk1 : Blk w1 g 88 cs := HB.out.kept hb1
    have hsz' := HS.out
    have hx0 : w1.cell? ⟨g, k * 2, none⟩ = some (cs[k * 2]'(by omega)) := by rw [hblk1.cell]; exact Array.getElem?_eq_getElem (by omega)
    have hx1 : w1.cell? ⟨g, k * 2 + 1, none⟩ = some (cs[k * 2 + 1]'(by omega)) := by rw [hblk1.cell]; exact Array.getElem?_eq_getElem (by omega)
    have hf0 := hblk1.frozen (k * 2)
    have hf1 := hblk1.frozen (k * 2 + 1)
    generalize cs[k * 2]'(by omega) = y0 at *
    generalize cs[k * 2 + 1]'(by omega) = y1 at *
    generalize hmb : zL (k0 + 2 * (k : Int)) = mb
    have HMB := Lib.hid hmb; clear hmb
    have HB1 := Lib.hid hblk1; clear hblk1 hsz'
    go_wp2
    go_roundw
    case rel =>
     refine ⟨k + 1, _, by omega, by go_num, ?_, (HB1.out.set_ _ _).set_ _ _, by simpa using HS.out, ?_, ?_⟩
     · rw [show k0 + 2 * (k : Int) + 1 + 1 = k0 + 2 * ((k + 1 : Nat) : Int) from by omega]
     · rw [aDb _ _ _ _ (by have := HS.out; omega), HT.out, aBZ, aA1, HMB.out]; rfl
     · exact ug (ug (aCB hg hb1) rfl _) rfl _
    case measure => simp [intOf]; omega
  · have hkn : k = n := by omega
    have HKN := Lib.hid hkn; clear hkn
    go_wp2
    go_ret
    refine ⟨jL (by rw [HKN.out]), HB.out.own ?_ hc ?_ HS.out ?_, hg⟩
    · exact (Ho.out.lt g rfl).1
    · rcases aBC Ho.out with ⟨h, _⟩ | ⟨g', cap', cs', h, _, _, _, h2, _⟩
      · cases h
      · cases h; exact h2
    · rw [← HKN.out]; exact HT.out
set_option maxRecDepth 100000 in
theorem aCf (A : Option Addr) (n c : Nat) (k0 : Int) (w : World) (hr : Rd w 2 A n (xJ (marked n k0))) (hm : n ≤ 1048600) (h0 : 0 ≤ k0) (h1 : k0 ≤ 8388608) :
 Calls Try.prog 26 #[.slice A n c, .int .i64 k0] w fun e w' => e = .returned (.int .i64 (k0 + 2 * n)) ∧ Below w.heap.size w w' := by
 have hlen := hr.len
 have Hlen := Lib.hid hlen; clear hlen
 go_enter Try.func26, Try.ntmps26
 go_wp2
 go_loopw [1, 5] (fun kk i wr => ∃ (k : Nat), k ≤ n ∧ i = .int .i64 k ∧ kk = .int .i64 (k0 + 2 * k) ∧ Below w.heap.size w wr) (fun _ i _ => n - (intOf i).toNat)
 case atStart => exact ⟨0, Nat.zero_le _, rfl, by simp, Below.refl _ _⟩
 case round =>
  obtain ⟨k, hk, rfl, rfl, hb⟩ := hrel
  by_cases hlt : k < n
  · have hke : k < (marked n k0).length := by rw [zh]; exact hlt
    obtain ⟨b, off, rfl, hbl, hbl2, hc1, hc2⟩ := hr.ent hb hke
    rw [aGo n k0 k hlt] at hc1 hc2
    have hcW := cellW hb hbl hc1
    have hcW2 := cellW hb hbl hc2
    clear hc2
    have hcall : Hid (∀ W : World, Calls Try.prog 54 #[.int .i64 (k0 + 2 * (k : Int))] W fun e w' => e = .returned (.string (zL (k0 + 2 * (k : Int)))) ∧ Below W.heap.size W w') := fun W => vH _ W (by omega) (by omega)
    generalize zL (k0 + 2 * (k : Int)) = mb at *
    have ht : (!(mb.toList == mb.toList)) = false := by simp
    go_wp2
    go_region_held3 (fun w' => Below w.heap.size w w' ∧ w'.cell? ⟨b, off + k * 2, none⟩ = some (.string mb)) (first | exact ⟨hb.drew, hc1⟩ | exact ⟨aIv (by assumption) hb1, cellS (aIv (by assumption) hb1) hbl hcW⟩)
     (first | (go_at_call 54; refine (hcall.out _).mono ?_; rintro e w1 ⟨rfl, hb1⟩))
    rename_i hH
    obtain ⟨hbb, _⟩ := hH
    have hc2' := cellS hbb hbl hcW2
    go_wp2
    go_roundw
    case rel =>
     refine ⟨k + 1, by omega, by go_num, ?_, hbb⟩
     rw [show k0 + 2 * (k : Int) + 1 + 1 = k0 + 2 * ((k + 1 : Nat) : Int) from by omega]
    case measure => simp [intOf]; omega
  · go_wp2
    go_ret
    exact ⟨jL (by omega), hb⟩
def yh : Nat → Int → List Edt
 | 0, _ => []
 | n + 1, k => ⟨zL k, k + 1, (k + 2) % 3 == 0⟩ :: yh n (k + 3)
theorem vS (n : Nat) (k : Int) : (yh n k).length = n := by
 induction n generalizing k with
 | zero => rfl
 | succ n ih => simp [yh, ih]
theorem aEg (n : Nat) (k : Int) : yh (n + 1) k = yh n k ++ [⟨zL (k + 3 * n), k + 3 * n + 1, (k + 3 * n + 2) % 3 == 0⟩] := by
 induction n generalizing k with
 | zero => simp [yh]
 | succ n ih =>
  rw [yh, ih, yh, List.cons_append]
  have e : k + 3 + 3 * (n : Int) = k + 3 * ((n + 1 : Nat) : Int) := by omega
  rw [e]
theorem aFc (n : Nat) (k0 : Int) (k : Nat) (h : k < n) : (yh n k0)[k]'(by rw [vS]; exact h) = ⟨zL (k0 + 3 * k), k0 + 3 * k + 1, (k0 + 3 * k + 2) % 3 == 0⟩ := by
 induction n generalizing k0 k with
 | zero => omega
 | succ n ih =>
  cases k with
  | zero => simp [yh]
  | succ k =>
   have := ih (k0 + 3) k (by omega)
   have e : k0 + 3 * ((k + 1 : Nat) : Int) = k0 + 3 + 3 * (k : Int) := by omega
   rw [e, ← this]; simp [yh]
set_option maxHeartbeats 1000000 in
set_option maxRecDepth 100000 in
theorem aDo (base n : Nat) (v : Value) (xs : List Value) (k0 : Int) (w : World) (ho : w.ownsRow base 96 3 v n xs) (hm : n ≤ 1048600) (h0 : 0 ≤ k0) (h1 : k0 ≤ 8388608) :
 Calls Try.prog 30 #[v, .int .i64 k0] w fun e w' => e = .returned (.int .i64 (k0 + 3 * n)) ∧ w'.ownsRow base 96 3 v n (xV (yh n k0)) ∧ w.grownBy w' v.ownBlock := by
 rcases aBC ho with ⟨rfl, rfl, rfl⟩ | ⟨g, cap, cs, rfl, hbg, hblk, hc, hcm, hsz, _⟩
 · go_enter Try.func30, Try.ntmps30
   go_wp2
   go_loopw [1, 5] (fun k i wr => k = .int .i64 k0 ∧ i = .int .i64 0 ∧ wr = w) (fun _ i _ => 1)
   case atStart => exact ⟨rfl, rfl, rfl⟩
   case round =>
    obtain ⟨rfl, rfl, rfl⟩ := hrel
    go_wp2
    go_ret
    exact ⟨jL (by simp), ho, vR (Below.refl _ _) _⟩
 have Ho := Lib.hid ho; clear ho
 have HSZ := Lib.hid hsz; clear hsz
 have HB0 := Lib.hid hblk; clear hblk
 clear hcm hbg
 go_enter Try.func30, Try.ntmps30
 go_wp2
 go_loopw [1, 5] (fun kk i wr => ∃ (k : Nat) (cs : Array Value), k ≤ n ∧ i = .int .i64 k ∧ kk = .int .i64 (k0 + 3 * k) ∧ Blk wr g 96 cs ∧ cs.size = cap * 3 ∧ cs.toList.take (k * 3) = xV (yh k k0) ∧ w.grownBy wr (some g)) (fun _ i _ => n - (intOf i).toNat)
 case atStart => exact ⟨0, cs, Nat.zero_le _, rfl, by simp, HB0.out, HSZ.out, by simp [xV, yh], vR (Below.refl _ _) _⟩
 case round =>
  obtain ⟨k, cs, hk, rfl, rfl, hblk, hsz, htk, hg⟩ := hrel
  have HT := Lib.hid htk; clear htk
  have HS := Lib.hid hsz; clear hsz
  have HB := Lib.hid hblk; clear hblk
  by_cases hlt : k < n
  · go_wp2_with fail
    refine (vH _ _ (by omega) (by omega)).mono ?_
    rintro e w1 ⟨rfl, hb1⟩
    have hblk1 : Blk w1 g 96 cs := HB.out.kept hb1
    obtain ⟨y0, y1, y2, hx0, hx1, hx2, hf0, hf1, hf2⟩ := hblk1.three (k := k) (by have := HS.out; omega)
    generalize hmb : zL (k0 + 3 * (k : Int)) = mb
    have HMB := Lib.hid hmb; clear hmb
    have HB1 := Lib.hid hblk1; clear hblk1
    have hpos3 : 0 ≤ k0 + 3 * (k : Int) + 1 + 1 := by omega
    go_wp2
    go_roundw
    case rel =>
     refine ⟨k + 1, _, by omega, by go_num, ?_, ((HB1.out.set_ _ _).set_ _ _).set_ _ _, by simpa using HS.out, ?_, ?_⟩
     · rw [show k0 + 3 * (k : Int) + 1 + 1 + 1 = k0 + 3 * ((k + 1 : Nat) : Int) from by omega]
     · rw [aIK _ _ _ _ _ (by have := HS.out; omega), HT.out, aEg, aA0, HMB.out, show k0 + 3 * (k : Int) + 1 + 1 = k0 + 3 * (k : Int) + 2 from by omega]; rfl
     · exact ug (ug (ug (aCB hg hb1) rfl _) rfl _) rfl _
    case measure => simp [intOf]; omega
  · have hkn : k = n := by omega
    have HKN := Lib.hid hkn; clear hkn
    go_wp2
    go_ret
    refine ⟨jL (by rw [HKN.out]), HB.out.own ?_ hc ?_ HS.out ?_, hg⟩
    · exact (Ho.out.lt g rfl).1
    · rcases aBC Ho.out with ⟨h, _⟩ | ⟨g', cap', cs', h, _, _, _, h2, _⟩
      · cases h
      · cases h; exact h2
    · rw [← HKN.out]; exact HT.out
set_option maxHeartbeats 1000000 in
set_option maxRecDepth 100000 in
theorem aDl (A : Option Addr) (n c : Nat) (k0 : Int) (w : World) (hr : Rd w 3 A n (xV (yh n k0))) (hm : n ≤ 1048600) (h0 : 0 ≤ k0) (h1 : k0 ≤ 8388608) :
 Calls Try.prog 31 #[.slice A n c, .int .i64 k0] w fun e w' => e = .returned (.int .i64 (k0 + 3 * n)) ∧ Below w.heap.size w w' := by
 have hlen := hr.elen
 have Hlen := Lib.hid hlen; clear hlen
 go_enter Try.func31, Try.ntmps31
 go_wp2
 go_loopw [1, 5] (fun kk i wr => ∃ (k : Nat), k ≤ n ∧ i = .int .i64 k ∧ kk = .int .i64 (k0 + 3 * k) ∧ Below w.heap.size w wr) (fun _ i _ => n - (intOf i).toNat)
 case atStart => exact ⟨0, Nat.zero_le _, rfl, by simp, Below.refl _ _⟩
 case round =>
  obtain ⟨k, hk, rfl, rfl, hb⟩ := hrel
  by_cases hlt : k < n
  · have hke : k < (yh n k0).length := by rw [vS]; exact hlt
    obtain ⟨b, off, rfl, hbl, hbl2, hc1, hc2, hc3⟩ := hr.edt hb hke
    rw [aFc n k0 k hlt] at hc1 hc2 hc3
    have hcW2 := cellW hb hbl hc2
    have hcW3 := cellW hb hbl hc3
    simp only at hc1 hcW2 hcW3
    clear hc2 hc3
    have hA0 := fun y : Aft wr => y.cell hbl2 hc1
    have hcall : Hid (∀ W : World, Calls Try.prog 54 #[.int .i64 (k0 + 3 * (k : Int))] W fun e w' => e = .returned (.string (zL (k0 + 3 * (k : Int)))) ∧ Below W.heap.size W w') := fun W => vH _ W (by omega) (by omega)
    generalize zL (k0 + 3 * (k : Int)) = mb at *
    have ht : (!(mb.toList == mb.toList)) = false := by simp
    have hpos3 : 0 ≤ k0 + 3 * (k : Int) + 1 + 1 := by omega
    have he2 : k0 + 3 * (k : Int) + 2 = k0 + 3 * (k : Int) + 1 + 1 := by omega
    rw [he2] at hcW3
    clear he2
    go_wp2
    refine xB (by kernel_rfl) (by kernel_rfl) ?_
    repeat (go_big_quiet_step ((first | (go_at_call 54; exact Aft.call (hcall.out _)))))
    refine wpQuiet_nil ?_
    rintro _ ⟨y, rfl⟩
    have hbb := yA hb y.below
    generalize y.at_ = w3 at *
    have hc2' := cellS hbb hbl hcW2
    have hc3' := cellS hbb hbl hcW3
    go_wp2
    go_roundw
    case rel =>
     refine ⟨k + 1, by omega, by go_num, ?_, hbb⟩
     rw [show k0 + 3 * (k : Int) + 1 + 1 + 1 = k0 + 3 * ((k + 1 : Nat) : Int) from by omega]
    case measure => simp [intOf]; omega
  · go_wp2
    go_ret
    exact ⟨jL (by omega), hb⟩
def yG : Nat → List Ent → List Ent → List Edt
 | 0, _, _ => []
 | _ + 1, [], [] => []
 | f + 1, x :: a, [] => ⟨x.1, 0, true⟩ :: yG f a []
 | f + 1, [], y :: b => ⟨y.1, y.2, false⟩ :: yG f [] b
 | f + 1, x :: a, y :: b => if klt x.1 y.1 then ⟨x.1, 0, true⟩ :: yG f a (y :: b) else if klt y.1 x.1 then ⟨y.1, y.2, false⟩ :: yG f (x :: a) b else (if x.2 = y.2 then [] else [⟨y.1, y.2, false⟩]) ++ yG f a b
def y7 (a b : List Ent) : List Edt := yG (a.length + b.length) a b
theorem aDE (f : Nat) (a b : List Ent) (ha : a = []) (hb : b = []) : yG f a b = [] := by subst ha; subst hb; cases f <;> rfl
theorem jE {f : Nat} {a b : List Ent} {p q : Nat} (hp : p < a.length) (h : b.length ≤ q ∨ ∃ hq : q < b.length, klt a[p].1 b[q].1 = true) : yG (f + 1) (a.drop p) (b.drop q) = ⟨a[p].1, 0, true⟩ :: yG f (a.drop (p + 1)) (b.drop q) := by
 rw [List.drop_eq_getElem_cons hp]
 rcases h with h | ⟨hq, h⟩
 · rw [List.drop_eq_nil_of_le h]; rfl
 · rw [List.drop_eq_getElem_cons hq, yG, if_pos h]
theorem jb {f : Nat} {a b : List Ent} {p q : Nat} (hq : q < b.length) (h : a.length ≤ p ∨ ∃ hp : p < a.length, klt b[q].1 a[p].1 = true) : yG (f + 1) (a.drop p) (b.drop q) = ⟨b[q].1, b[q].2, false⟩ :: yG f (a.drop p) (b.drop (q + 1)) := by
 rw [List.drop_eq_getElem_cons hq]
 rcases h with h | ⟨hp, h⟩
 · rw [List.drop_eq_nil_of_le h]; rfl
 · rw [List.drop_eq_getElem_cons hp, yG, if_neg (by rw [jh h]; simp), if_pos h]
theorem aBw {f : Nat} {a b : List Ent} {p q : Nat} (hp : p < a.length) (hq : q < b.length) (h1 : klt a[p].1 b[q].1 = false) (h2 : klt b[q].1 a[p].1 = false) : yG (f + 1) (a.drop p) (b.drop q) = (if a[p].2 = b[q].2 then [] else [⟨b[q].1, b[q].2, false⟩]) ++ yG f (a.drop (p + 1)) (b.drop (q + 1)) := by
 rw [List.drop_eq_getElem_cons hp, List.drop_eq_getElem_cons hq, yG, if_neg (by rw [h1]; simp), if_neg (by rw [h2]; simp)]
def aFk (e : TypeId) (l : List Edt) (w : World) (e' : Ending) (w' : World) : Prop := ∃ v, e' = .returned v ∧ w'.ownsRow w.heap.size e 3 v l.length (xV l) ∧ Below w.heap.size w w'
theorem zW (es : List Edt) (k : ByteArray) (v : Int) (g : Bool) : xV (es ++ [⟨k, v, g⟩]) = xV es ++ #[Value.string k, Value.int .i64 v, Value.bool g].toList := by rw [aA0]; rfl
theorem jc (k : ByteArray) (v : Int) (g : Bool) : ∀ u ∈ #[Value.string k, Value.int .i64 v, Value.bool g].toList, u.oneCell' = true := by
 intro u hu
 simp at hu
 rcases hu with rfl | rfl | rfl <;> rfl
set_option maxHeartbeats 4000000 in
set_option maxRecDepth 100000 in
theorem aF8 (A : Option Addr) (n c : Nat) (es : List Ent) (A' : Option Addr) (n' c' : Nat) (es' : List Ent) (w : World) (hr : Rd w 2 A n (xJ es)) (hr' : Rd w 2 A' n' (xJ es')) (hm : n ≤ 4096) (hm' : n' ≤ 4096) :
 Calls Try.prog 55 #[.slice A n c, .slice A' n' c'] w (aFk 96 (y7 es es') w) := by
 have hlen := hr.len
 have hlen' := hr'.len
 have Hlen := Lib.hid hlen; clear hlen
 have Hlen' := Lib.hid hlen'; clear hlen'
 obtain ⟨i0, hi, hz0, hz1, hz2⟩ := info_parts aDQ
 have Hi := Lib.hid hi; clear hi
 have Hz0 := Lib.hid hz0; clear hz0
 have Hz1 := Lib.hid hz1; clear hz1
 have Hz2 := Lib.hid hz2; clear hz2
 go_enter Try.func55, Try.ntmps55
 go_wp2
 have hst : Hid ((w.alloc (Obj.cells #[] 96)).ownsRow w.heap.size 96 3 (.slice (some ⟨w.heap.size, 0, none⟩) 0 0) 0 []) := World.ownsRow_made w #[] 0 (Nat.le_refl _) (by simp) (by simp)
 have hbst : Hid (Below w.heap.size w (w.alloc (Obj.cells #[] 96))) := (Below.refl _ _).alloc (Nat.le_refl _) _
 go_loopw [5, 6, 7] (fun out i j wr => ∃ (p q f : Nat) (acc : List Edt), p ≤ n ∧ q ≤ n' ∧ i = .int .i64 p ∧ j = .int .i64 q ∧ (n - p) + (n' - q) ≤ f ∧ acc.length ≤ p + q ∧ acc ++ yG f (es.drop p) (es'.drop q) = y7 es es' ∧ wr.ownsRow w.heap.size 96 3 out acc.length (xV acc) ∧ Below w.heap.size w wr) (fun _ i j _ => (n - (intOf i).toNat) + (n' - (intOf j).toNat))
 case atStart => exact ⟨0, 0, es.length + es'.length, [], Nat.zero_le _, Nat.zero_le _, rfl, rfl, by rw [Hlen.out, Hlen'.out]; omega, Nat.le_refl _, by simp [y7], hst.out, hbst.out⟩
 case round =>
  obtain ⟨p, q, f, acc, hp, hq, rfl, rfl, hf, hal, hacc, hown, hb⟩ := hrel
  have Hacc := Lib.hid hacc; clear hacc
  have Hown := Lib.hid hown; clear hown
  have hbs := hb.size
  by_cases hlt : p < n
  · have hpe : p < es.length := by rw [Hlen.out]; exact hlt
    obtain ⟨b1, o1, rfl, hl1, hl1x, hc1, hc2⟩ := hr.ent hb hpe
    have hWc1 := cellW hb hl1 hc1
    have hWc2 := cellW hb hl1 hc2
    obtain ⟨f', hf'⟩ : ∃ f', f = f' + 1 := ⟨f - 1, by omega⟩
    subst hf'
    by_cases hlq : q < n'
    case neg =>
     have hqn : q = n' := by omega
     have hte : ((q : Int) == (n' : Int)) = true := beq_iff_eq.2 (by omega)
     have hnew := Lib.hid (show (acc ++ [⟨es[p].1, 0, true⟩]) ++ yG f' (es.drop (p + 1)) (es'.drop q) = y7 es es' by rw [← Hacc.out, jE hpe (.inl (by rw [Hlen'.out]; omega))]; simp)
     clear hqn Hacc
     generalize es[p] = ek at *
     obtain ⟨k1, v1⟩ := ek
     go_wp2
     have hA_c1 := fun y : Aft wr => y.cell hl1x hc1
     have hA_c2 := fun y : Aft wr => y.cell hl1x hc2
     refine xB (by kernel_rfl) (by kernel_rfl) ?_
     repeat (go_big_quiet_step (fail))
     refine wpQuiet_nil ?_
     rintro _ ⟨y, rfl⟩
     clear hA_c1 hA_c2
     replace hb := yA hb y.below
     replace Hown := Lib.hid (ownsRow_below Hown.out y.below (Nat.le_refl _))
     replace hbs := hb.size
     replace hc1 := cellS hb hl1 hWc1
     replace hc2 := cellS hb hl1 hWc2
     replace hl1x := Nat.lt_of_lt_of_le hl1 hbs
     generalize y.at_ = w3 at *
     go_wp2_with (at_builtin; refine uR w3 rfl _ _ 54 rfl w.heap.size 96 i0 _ 3 32 Try.underlying54 Hi.out Hz0.out Hz1.out Hz2.out rfl (by decide) u5 acc.length (xV acc) rfl Hown.out #[.string k1, .int .i64 0, .bool true] 1 1 rfl rfl (jc _ _ _) (by omega) (by decide) hbs ?_; intro v' w9 hown' hgrow; have Hown' := Lib.hid hown'; clear hown')
     go_roundw
     case rel => exact ⟨p + 1, q, f', acc ++ [⟨k1, 0, true⟩], by omega, hq, by go_num, rfl, by omega, by rw [List.length_append, List.length_singleton]; omega, hnew.out, by rw [List.length_append, zW]; exact Hown'.out, below_grown hb hgrow Hown.out hbs (Nat.le_refl _)⟩
     case measure => simp [intOf]; omega
    have hqe : q < es'.length := by rw [Hlen'.out]; exact hlq
    obtain ⟨b2, o2, rfl, hl2, hl2x, hc3, hc4⟩ := hr'.ent hb hqe
    have hWc3 := cellW hb hl2 hc3
    have hWc4 := cellW hb hl2 hc4
    have hte : ((q : Int) == (n' : Int)) = false := beq_eq_false_iff_ne.2 (by omega)
    have htp : ((p : Int) == (n : Int)) = false := beq_eq_false_iff_ne.2 (by omega)
    have hpi : (p : Int) < (n : Int) := by omega
    cases hk1 : klt es[p].1 es'[q].1 with
    | true =>
     have ht1 : Op.bytesLess es[p].1.toList es'[q].1.toList = true := hk1
     have hnew := Lib.hid (show (acc ++ [⟨es[p].1, 0, true⟩]) ++ yG f' (es.drop (p + 1)) (es'.drop q) = y7 es es' by rw [← Hacc.out, jE hpe (.inr ⟨hqe, hk1⟩)]; simp)
     clear Hacc hk1
     generalize es[p] = ek at *
     generalize es'[q] = ek2 at *
     obtain ⟨k1, v1⟩ := ek
     obtain ⟨k2, v2⟩ := ek2
     go_wp2
     have hA_c1 := fun y : Aft wr => y.cell hl1x hc1
     have hA_c2 := fun y : Aft wr => y.cell hl1x hc2
     have hA_c3 := fun y : Aft wr => y.cell hl2x hc3
     have hA_c4 := fun y : Aft wr => y.cell hl2x hc4
     refine xB (by kernel_rfl) (by kernel_rfl) ?_
     repeat (go_big_quiet_step (fail))
     refine wpQuiet_nil ?_
     rintro _ ⟨y, rfl⟩
     clear hA_c1 hA_c2 hA_c3 hA_c4
     replace hb := yA hb y.below
     replace Hown := Lib.hid (ownsRow_below Hown.out y.below (Nat.le_refl _))
     replace hbs := hb.size
     replace hc1 := cellS hb hl1 hWc1
     replace hc2 := cellS hb hl1 hWc2
     replace hc3 := cellS hb hl2 hWc3
     replace hc4 := cellS hb hl2 hWc4
     replace hl1x := Nat.lt_of_lt_of_le hl1 hbs
     replace hl2x := Nat.lt_of_lt_of_le hl2 hbs
     generalize y.at_ = w3 at *
     go_wp2_with (at_builtin; refine uR w3 rfl _ _ 54 rfl w.heap.size 96 i0 _ 3 32 Try.underlying54 Hi.out Hz0.out Hz1.out Hz2.out rfl (by decide) u5 acc.length (xV acc) rfl Hown.out #[.string k1, .int .i64 0, .bool true] 1 1 rfl rfl (jc _ _ _) (by omega) (by decide) hbs ?_; intro v' w9 hown' hgrow; have Hown' := Lib.hid hown'; clear hown')
     go_roundw
     case rel => exact ⟨p + 1, q, f', acc ++ [⟨k1, 0, true⟩], by omega, hq, by go_num, rfl, by omega, by rw [List.length_append, List.length_singleton]; omega, hnew.out, by rw [List.length_append, zW]; exact Hown'.out, below_grown hb hgrow Hown.out hbs (Nat.le_refl _)⟩
     case measure => simp [intOf]; omega
    | false =>
     cases hk2 : klt es'[q].1 es[p].1 with
     | true =>
     have ht1 : Op.bytesLess es[p].1.toList es'[q].1.toList = false := hk1
     have ht2 : Op.bytesLess es'[q].1.toList es[p].1.toList = true := hk2
     have hnew := Lib.hid (show (acc ++ [⟨es'[q].1, es'[q].2, false⟩]) ++ yG f' (es.drop p) (es'.drop (q + 1)) = y7 es es' by rw [← Hacc.out, jb hqe (.inr ⟨hpe, hk2⟩)]; simp)
     clear Hacc hk1 hk2
     generalize es[p] = ek at *
     generalize es'[q] = ek2 at *
     obtain ⟨k1, v1⟩ := ek
     obtain ⟨k2, v2⟩ := ek2
     go_wp2
     have hA_c1 := fun y : Aft wr => y.cell hl1x hc1
     have hA_c2 := fun y : Aft wr => y.cell hl1x hc2
     have hA_c3 := fun y : Aft wr => y.cell hl2x hc3
     have hA_c4 := fun y : Aft wr => y.cell hl2x hc4
     refine xB (by kernel_rfl) (by kernel_rfl) ?_
     repeat (go_big_quiet_step (fail))
     refine wpQuiet_nil ?_
     rintro _ ⟨y, rfl⟩
     clear hA_c1 hA_c2 hA_c3 hA_c4
     replace hb := yA hb y.below
     replace Hown := Lib.hid (ownsRow_below Hown.out y.below (Nat.le_refl _))
     replace hbs := hb.size
     replace hc1 := cellS hb hl1 hWc1
     replace hc2 := cellS hb hl1 hWc2
     replace hc3 := cellS hb hl2 hWc3
     replace hc4 := cellS hb hl2 hWc4
     replace hl1x := Nat.lt_of_lt_of_le hl1 hbs
     replace hl2x := Nat.lt_of_lt_of_le hl2 hbs
     generalize y.at_ = w3 at *
     go_wp2
     have hA_c1 := fun y : Aft w3 => y.cell hl1x hc1
     have hA_c2 := fun y : Aft w3 => y.cell hl1x hc2
     have hA_c3 := fun y : Aft w3 => y.cell hl2x hc3
     have hA_c4 := fun y : Aft w3 => y.cell hl2x hc4
     refine xB (by kernel_rfl) (by kernel_rfl) ?_
     repeat (go_big_quiet_step (fail))
     refine wpQuiet_nil ?_
     rintro _ ⟨y, rfl⟩
     clear hA_c1 hA_c2 hA_c3 hA_c4
     replace hb := yA hb y.below
     replace Hown := Lib.hid (ownsRow_below Hown.out y.below (Nat.le_refl _))
     replace hbs := hb.size
     replace hc1 := cellS hb hl1 hWc1
     replace hc2 := cellS hb hl1 hWc2
     replace hc3 := cellS hb hl2 hWc3
     replace hc4 := cellS hb hl2 hWc4
     replace hl1x := Nat.lt_of_lt_of_le hl1 hbs
     replace hl2x := Nat.lt_of_lt_of_le hl2 hbs
     generalize y.at_ = w4 at *
     go_wp2
     have hc1x := hl1x
     have hq0 : (0 : Int) ≤ (q : Int) := by omega
     have hq1 : (q : Int) < (n' : Int) := by omega
     clear ht1 ht2 hc1 hc2
     go_region_held3 (fun w' => w'.cell? ⟨b2, o2 + q * 2, none⟩ = some (.string k2) ∧ w'.cell? ⟨b2, o2 + q * 2 + 1, none⟩ = some (.int .i64 v2))
     (first | go_keep | (go_split_ands; refine ⟨?_, ?_⟩ <;> (rw [hgrow.cell_far _ (by simp; omega) (fun h => by have h2 : w.heap.size ≤ b2 := (Hown.out.lt _ h.symm).1; omega)]; assumption)))
     ((refine step_append_lies _ (by rfl) _ _ _ (by rfl) w.heap.size 96 i0 _ 3 32 Try.underlying54 Hi.out Hz0.out Hz1.out Hz2.out rfl (by omega) u5 acc.length (xV acc) (by rfl) ((Hown.out.alloc _).drew) ⟨w4.heap.size, 0, none⟩ 1 1 [.string k2, .int .i64 v2, .bool false] (by rfl) (by rfl) (World.news_of_block (cs := #[.string k2, .int .i64 v2, .bool false]) (t := 96) (fr := (0, 0)) (heap_alloc_new w4 _)) (by simp [Value.oneCell']) (by omega) (by unfold maxLen; omega) (by omega) (by simp; omega) (w4.heap.size + 1) (by simp) ?_; intro gg cap w9 hown' hgrow hat hlt9))
     have hb9 : Below w.heap.size w w9 := below_grown (hb.alloc hbs _).drew hgrow ((Hown.out.alloc _).drew) (by simp; omega) (Nat.le_refl _)
     have Hown' := Lib.hid hown'
     clear hown' hgrow hat hlt9 hc1x
     go_wp2
     go_roundw
     case rel => exact ⟨p, q + 1, f', acc ++ [⟨k2, v2, false⟩], by omega, by omega, rfl, by go_num, by omega, by rw [List.length_append, List.length_singleton]; omega, hnew.out, by rw [List.length_append, zW]; exact Hown'.out, hb9⟩
     case measure => simp [intOf]; omega
     | false =>
     have ht1 : Op.bytesLess es[p].1.toList es'[q].1.toList = false := hk1
     have ht2 : Op.bytesLess es'[q].1.toList es[p].1.toList = false := hk2
     have hdb := aBw (f := f') hpe hqe hk1 hk2
     by_cases hvv : es[p].2 = es'[q].2
     · have hnew := Lib.hid (show acc ++ yG f' (es.drop (p + 1)) (es'.drop (q + 1)) = y7 es es' by rw [← Hacc.out, hdb, if_pos hvv]; simp)
       have htv : (es[p].2 != es'[q].2) = false := by rw [hvv]; simp
       clear Hacc hk1 hk2 hdb hvv
       generalize es[p] = ek at *
       generalize es'[q] = ek2 at *
       obtain ⟨k1, v1⟩ := ek
       obtain ⟨k2, v2⟩ := ek2
       go_wp2
       have hA_c1 := fun y : Aft wr => y.cell hl1x hc1
       have hA_c2 := fun y : Aft wr => y.cell hl1x hc2
       have hA_c3 := fun y : Aft wr => y.cell hl2x hc3
       have hA_c4 := fun y : Aft wr => y.cell hl2x hc4
       refine xB (by kernel_rfl) (by kernel_rfl) ?_
       repeat (go_big_quiet_step (fail))
       refine wpQuiet_nil ?_
       rintro _ ⟨y, rfl⟩
       clear hA_c1 hA_c2 hA_c3 hA_c4
       replace hb := yA hb y.below
       replace Hown := Lib.hid (ownsRow_below Hown.out y.below (Nat.le_refl _))
       replace hbs := hb.size
       replace hc1 := cellS hb hl1 hWc1
       replace hc2 := cellS hb hl1 hWc2
       replace hc3 := cellS hb hl2 hWc3
       replace hc4 := cellS hb hl2 hWc4
       replace hl1x := Nat.lt_of_lt_of_le hl1 hbs
       replace hl2x := Nat.lt_of_lt_of_le hl2 hbs
       generalize y.at_ = w3 at *
       go_wp2
       have hA_c1 := fun y : Aft w3 => y.cell hl1x hc1
       have hA_c2 := fun y : Aft w3 => y.cell hl1x hc2
       have hA_c3 := fun y : Aft w3 => y.cell hl2x hc3
       have hA_c4 := fun y : Aft w3 => y.cell hl2x hc4
       refine xB (by kernel_rfl) (by kernel_rfl) ?_
       repeat (go_big_quiet_step (fail))
       refine wpQuiet_nil ?_
       rintro _ ⟨y, rfl⟩
       clear hA_c1 hA_c2 hA_c3 hA_c4
       replace hb := yA hb y.below
       replace Hown := Lib.hid (ownsRow_below Hown.out y.below (Nat.le_refl _))
       replace hbs := hb.size
       replace hc1 := cellS hb hl1 hWc1
       replace hc2 := cellS hb hl1 hWc2
       replace hc3 := cellS hb hl2 hWc3
       replace hc4 := cellS hb hl2 hWc4
       replace hl1x := Nat.lt_of_lt_of_le hl1 hbs
       replace hl2x := Nat.lt_of_lt_of_le hl2 hbs
       generalize y.at_ = w4 at *
       go_wp2
       have hA_c1 := fun y : Aft w4 => y.cell hl1x hc1
       have hA_c2 := fun y : Aft w4 => y.cell hl1x hc2
       have hA_c3 := fun y : Aft w4 => y.cell hl2x hc3
       have hA_c4 := fun y : Aft w4 => y.cell hl2x hc4
       refine xB (by kernel_rfl) (by kernel_rfl) ?_
       repeat (go_big_quiet_step (fail))
       refine wpQuiet_nil ?_
       rintro _ ⟨y, rfl⟩
       clear hA_c1 hA_c2 hA_c3 hA_c4
       replace hb := yA hb y.below
       replace Hown := Lib.hid (ownsRow_below Hown.out y.below (Nat.le_refl _))
       replace hbs := hb.size
       replace hc1 := cellS hb hl1 hWc1
       replace hc2 := cellS hb hl1 hWc2
       replace hc3 := cellS hb hl2 hWc3
       replace hc4 := cellS hb hl2 hWc4
       replace hl1x := Nat.lt_of_lt_of_le hl1 hbs
       replace hl2x := Nat.lt_of_lt_of_le hl2 hbs
       generalize y.at_ = w5 at *
       go_wp2
       go_roundw
       case rel => exact ⟨p + 1, q + 1, f', acc, by omega, by omega, by go_num, by go_num, by omega, by omega, hnew.out, Hown.out, hb⟩
       case measure => simp [intOf]; omega
     · have hnew := Lib.hid (show (acc ++ [⟨es'[q].1, es'[q].2, false⟩]) ++ yG f' (es.drop (p + 1)) (es'.drop (q + 1)) = y7 es es' by rw [← Hacc.out, hdb, if_neg hvv]; simp)
       have htv : (es[p].2 != es'[q].2) = true := bne_iff_ne.2 hvv
       clear Hacc hk1 hk2 hdb hvv
       generalize es[p] = ek at *
       generalize es'[q] = ek2 at *
       obtain ⟨k1, v1⟩ := ek
       obtain ⟨k2, v2⟩ := ek2
       go_wp2
       have hA_c1 := fun y : Aft wr => y.cell hl1x hc1
       have hA_c2 := fun y : Aft wr => y.cell hl1x hc2
       have hA_c3 := fun y : Aft wr => y.cell hl2x hc3
       have hA_c4 := fun y : Aft wr => y.cell hl2x hc4
       refine xB (by kernel_rfl) (by kernel_rfl) ?_
       repeat (go_big_quiet_step (fail))
       refine wpQuiet_nil ?_
       rintro _ ⟨y, rfl⟩
       clear hA_c1 hA_c2 hA_c3 hA_c4
       replace hb := yA hb y.below
       replace Hown := Lib.hid (ownsRow_below Hown.out y.below (Nat.le_refl _))
       replace hbs := hb.size
       replace hc1 := cellS hb hl1 hWc1
       replace hc2 := cellS hb hl1 hWc2
       replace hc3 := cellS hb hl2 hWc3
       replace hc4 := cellS hb hl2 hWc4
       replace hl1x := Nat.lt_of_lt_of_le hl1 hbs
       replace hl2x := Nat.lt_of_lt_of_le hl2 hbs
       generalize y.at_ = w3 at *
       go_wp2
       have hA_c1 := fun y : Aft w3 => y.cell hl1x hc1
       have hA_c2 := fun y : Aft w3 => y.cell hl1x hc2
       have hA_c3 := fun y : Aft w3 => y.cell hl2x hc3
       have hA_c4 := fun y : Aft w3 => y.cell hl2x hc4
       refine xB (by kernel_rfl) (by kernel_rfl) ?_
       repeat (go_big_quiet_step (fail))
       refine wpQuiet_nil ?_
       rintro _ ⟨y, rfl⟩
       clear hA_c1 hA_c2 hA_c3 hA_c4
       replace hb := yA hb y.below
       replace Hown := Lib.hid (ownsRow_below Hown.out y.below (Nat.le_refl _))
       replace hbs := hb.size
       replace hc1 := cellS hb hl1 hWc1
       replace hc2 := cellS hb hl1 hWc2
       replace hc3 := cellS hb hl2 hWc3
       replace hc4 := cellS hb hl2 hWc4
       replace hl1x := Nat.lt_of_lt_of_le hl1 hbs
       replace hl2x := Nat.lt_of_lt_of_le hl2 hbs
       generalize y.at_ = w4 at *
       go_wp2
       have hA_c1 := fun y : Aft w4 => y.cell hl1x hc1
       have hA_c2 := fun y : Aft w4 => y.cell hl1x hc2
       have hA_c3 := fun y : Aft w4 => y.cell hl2x hc3
       have hA_c4 := fun y : Aft w4 => y.cell hl2x hc4
       refine xB (by kernel_rfl) (by kernel_rfl) ?_
       repeat (go_big_quiet_step (fail))
       refine wpQuiet_nil ?_
       rintro _ ⟨y, rfl⟩
       clear hA_c1 hA_c2 hA_c3 hA_c4
       replace hb := yA hb y.below
       replace Hown := Lib.hid (ownsRow_below Hown.out y.below (Nat.le_refl _))
       replace hbs := hb.size
       replace hc1 := cellS hb hl1 hWc1
       replace hc2 := cellS hb hl1 hWc2
       replace hc3 := cellS hb hl2 hWc3
       replace hc4 := cellS hb hl2 hWc4
       replace hl1x := Nat.lt_of_lt_of_le hl1 hbs
       replace hl2x := Nat.lt_of_lt_of_le hl2 hbs
       generalize y.at_ = w5 at *
       go_wp2
       have hc1x := hl1x
       have hq0 : (0 : Int) ≤ (q : Int) := by omega
       have hq1 : (q : Int) < (n' : Int) := by omega
       clear ht1 ht2 htv hc1 hc2
       go_region_held3 (fun w' => w'.cell? ⟨b2, o2 + q * 2, none⟩ = some (.string k2) ∧ w'.cell? ⟨b2, o2 + q * 2 + 1, none⟩ = some (.int .i64 v2))
       (first | go_keep | (go_split_ands; refine ⟨?_, ?_⟩ <;> (rw [hgrow.cell_far _ (by simp; omega) (fun h => by have h2 : w.heap.size ≤ b2 := (Hown.out.lt _ h.symm).1; omega)]; assumption)))
       ((refine step_append_lies _ (by rfl) _ _ _ (by rfl) w.heap.size 96 i0 _ 3 32 Try.underlying54 Hi.out Hz0.out Hz1.out Hz2.out rfl (by omega) u5 acc.length (xV acc) (by rfl) ((Hown.out.alloc _).drew) ⟨w5.heap.size, 0, none⟩ 1 1 [.string k2, .int .i64 v2, .bool false] (by rfl) (by rfl) (World.news_of_block (cs := #[.string k2, .int .i64 v2, .bool false]) (t := 96) (fr := (0, 0)) (heap_alloc_new w5 _)) (by simp [Value.oneCell']) (by omega) (by unfold maxLen; omega) (by omega) (by simp; omega) (w5.heap.size + 1) (by simp) ?_; intro gg cap w9 hown' hgrow hat hlt9))
       have hb9 : Below w.heap.size w w9 := below_grown (hb.alloc hbs _).drew hgrow ((Hown.out.alloc _).drew) (by simp; omega) (Nat.le_refl _)
       have Hown' := Lib.hid hown'
       clear hown' hgrow hat hlt9 hc1x
       go_wp2
       go_roundw
       case rel => exact ⟨p + 1, q + 1, f', acc ++ [⟨k2, v2, false⟩], by omega, by omega, by go_num, by go_num, by omega, by rw [List.length_append, List.length_singleton]; omega, hnew.out, by rw [List.length_append, zW]; exact Hown'.out, hb9⟩
       case measure => simp [intOf]; omega
  · have hpn : p = n := by omega
    have htp : ((p : Int) == (n : Int)) = true := beq_iff_eq.2 (by omega)
    by_cases hlq : q < n'
    · have hqe : q < es'.length := by rw [Hlen'.out]; exact hlq
      obtain ⟨b2, o2, rfl, hl2, hl2x, hc3, hc4⟩ := hr'.ent hb hqe
      have hWc3 := cellW hb hl2 hc3
      have hWc4 := cellW hb hl2 hc4
      obtain ⟨f', hf'⟩ : ∃ f', f = f' + 1 := ⟨f - 1, by omega⟩
      subst hf'
      have hte : ((q : Int) == (n' : Int)) = false := beq_eq_false_iff_ne.2 (by omega)
      have hpi : ¬ (p : Int) < (n : Int) := by omega
      have hnew := Lib.hid (show (acc ++ [⟨es'[q].1, es'[q].2, false⟩]) ++ yG f' (es.drop p) (es'.drop (q + 1)) = y7 es es' by rw [← Hacc.out, jb hqe (.inl (by rw [Hlen.out]; omega))]; simp)
      clear Hacc hpn
      generalize es'[q] = ek2 at *
      obtain ⟨k2, v2⟩ := ek2
      have hdp : decide ((p : Int) < (n : Int)) = false := decide_eq_false hpi
      go_wp2
      have hA_c3 := fun y : Aft wr => y.cell hl2x hc3
      have hA_c4 := fun y : Aft wr => y.cell hl2x hc4
      refine xB (by kernel_rfl) (by kernel_rfl) ?_
      repeat (go_big_quiet_step (fail))
      refine wpQuiet_nil ?_
      rintro _ ⟨y, rfl⟩
      clear hA_c3 hA_c4
      replace hb := yA hb y.below
      replace Hown := Lib.hid (ownsRow_below Hown.out y.below (Nat.le_refl _))
      replace hbs := hb.size
      replace hc3 := cellS hb hl2 hWc3
      replace hc4 := cellS hb hl2 hWc4
      replace hl2x := Nat.lt_of_lt_of_le hl2 hbs
      generalize y.at_ = w3 at *
      go_wp2
      have hA_c3 := fun y : Aft w3 => y.cell hl2x hc3
      have hA_c4 := fun y : Aft w3 => y.cell hl2x hc4
      refine xB (by kernel_rfl) (by kernel_rfl) ?_
      repeat (go_big_quiet_step (fail))
      refine wpQuiet_nil ?_
      rintro _ ⟨y, rfl⟩
      clear hA_c3 hA_c4
      replace hb := yA hb y.below
      replace Hown := Lib.hid (ownsRow_below Hown.out y.below (Nat.le_refl _))
      replace hbs := hb.size
      replace hc3 := cellS hb hl2 hWc3
      replace hc4 := cellS hb hl2 hWc4
      replace hl2x := Nat.lt_of_lt_of_le hl2 hbs
      generalize y.at_ = w4 at *
      go_wp2
      have hc1x := hl2x
      have hq0 : (0 : Int) ≤ (q : Int) := by omega
      have hq1 : (q : Int) < (n' : Int) := by omega
      go_region_held3 (fun w' => w'.cell? ⟨b2, o2 + q * 2, none⟩ = some (.string k2) ∧ w'.cell? ⟨b2, o2 + q * 2 + 1, none⟩ = some (.int .i64 v2))
      (first | go_keep | (go_split_ands; refine ⟨?_, ?_⟩ <;> (rw [hgrow.cell_far _ (by simp; omega) (fun h => by have h2 : w.heap.size ≤ b2 := (Hown.out.lt _ h.symm).1; omega)]; assumption)))
      ((refine step_append_lies _ (by rfl) _ _ _ (by rfl) w.heap.size 96 i0 _ 3 32 Try.underlying54 Hi.out Hz0.out Hz1.out Hz2.out rfl (by omega) u5 acc.length (xV acc) (by rfl) ((Hown.out.alloc _).drew) ⟨w4.heap.size, 0, none⟩ 1 1 [.string k2, .int .i64 v2, .bool false] (by rfl) (by rfl) (World.news_of_block (cs := #[.string k2, .int .i64 v2, .bool false]) (t := 96) (fr := (0, 0)) (heap_alloc_new w4 _)) (by simp [Value.oneCell']) (by omega) (by unfold maxLen; omega) (by omega) (by simp; omega) (w4.heap.size + 1) (by simp) ?_; intro gg cap w9 hown' hgrow hat hlt9))
      have hb9 : Below w.heap.size w w9 := below_grown (hb.alloc hbs _).drew hgrow ((Hown.out.alloc _).drew) (by simp; omega) (Nat.le_refl _)
      have Hown' := Lib.hid hown'
      clear hown' hgrow hat hlt9 hc1x
      go_wp2
      go_roundw
      case rel => exact ⟨p, q + 1, f', acc ++ [⟨k2, v2, false⟩], by omega, by omega, rfl, by go_num, by omega, by rw [List.length_append, List.length_singleton]; omega, hnew.out, by rw [List.length_append, zW]; exact Hown'.out, hb9⟩
      case measure => simp [intOf]; omega
    · have hfin := Lib.hid (show acc = y7 es es' by rw [← Hacc.out, aDE _ _ _ (List.drop_eq_nil_of_le (by rw [Hlen.out]; omega)) (List.drop_eq_nil_of_le (by rw [Hlen'.out]; omega)), List.append_nil])
      clear hpn
      go_wp2
      go_ret
      exact ⟨_, rfl, by rw [← hfin.out]; exact Hown.out, hb⟩
set_option maxHeartbeats 4000000 in
set_option maxRecDepth 100000 in
theorem aBx (A : Option Addr) (n c : Nat) (es : List Ent) (A' : Option Addr) (n' c' : Nat) (es' : List Ent) (w : World) (hr : Rd w 2 A n (xJ es)) (hr' : Rd w 2 A' n' (xJ es')) (hm : n ≤ 4096) (hm' : n' ≤ 4096) :
 Calls Try.prog 88 #[.slice A n c, .slice A' n' c'] w (aFk 96 (y7 es es') w) := by
 have hlen := hr.len
 have hlen' := hr'.len
 have Hlen := Lib.hid hlen; clear hlen
 have Hlen' := Lib.hid hlen'; clear hlen'
 obtain ⟨i0, hi, hz0, hz1, hz2⟩ := info_parts aDQ
 have Hi := Lib.hid hi; clear hi
 have Hz0 := Lib.hid hz0; clear hz0
 have Hz1 := Lib.hid hz1; clear hz1
 have Hz2 := Lib.hid hz2; clear hz2
 go_enter Try.func88, Try.ntmps88
 go_wp2
 have hst : Hid (w.ownsRow w.heap.size 96 3 (.slice none 0 0) 0 []) := World.ownsRow_nil _ _ _ _
 have hbst : Hid (Below w.heap.size w w) := Below.refl _ _
 go_loopw [5, 6, 7] (fun out i j wr => ∃ (p q f : Nat) (acc : List Edt), p ≤ n ∧ q ≤ n' ∧ i = .int .i64 p ∧ j = .int .i64 q ∧ (n - p) + (n' - q) ≤ f ∧ acc.length ≤ p + q ∧ acc ++ yG f (es.drop p) (es'.drop q) = y7 es es' ∧ wr.ownsRow w.heap.size 96 3 out acc.length (xV acc) ∧ Below w.heap.size w wr) (fun _ i j _ => (n - (intOf i).toNat) + (n' - (intOf j).toNat))
 case atStart => exact ⟨0, 0, es.length + es'.length, [], Nat.zero_le _, Nat.zero_le _, rfl, rfl, by rw [Hlen.out, Hlen'.out]; omega, Nat.le_refl _, by simp [y7], hst.out, hbst.out⟩
 case round =>
  obtain ⟨p, q, f, acc, hp, hq, rfl, rfl, hf, hal, hacc, hown, hb⟩ := hrel
  have Hacc := Lib.hid hacc; clear hacc
  have Hown := Lib.hid hown; clear hown
  have hbs := hb.size
  by_cases hlt : p < n
  · have hpe : p < es.length := by rw [Hlen.out]; exact hlt
    obtain ⟨b1, o1, rfl, hl1, hl1x, hc1, hc2⟩ := hr.ent hb hpe
    have hWc1 := cellW hb hl1 hc1
    have hWc2 := cellW hb hl1 hc2
    obtain ⟨f', hf'⟩ : ∃ f', f = f' + 1 := ⟨f - 1, by omega⟩
    subst hf'
    by_cases hlq : q < n'
    case neg =>
     have hqn : q = n' := by omega
     have hte : ((q : Int) == (n' : Int)) = true := beq_iff_eq.2 (by omega)
     have hnew := Lib.hid (show (acc ++ [⟨es[p].1, 0, true⟩]) ++ yG f' (es.drop (p + 1)) (es'.drop q) = y7 es es' by rw [← Hacc.out, jE hpe (.inl (by rw [Hlen'.out]; omega))]; simp)
     clear hqn Hacc
     generalize es[p] = ek at *
     obtain ⟨k1, v1⟩ := ek
     go_wp2
     have hA_c1 := fun y : Aft wr => y.cell hl1x hc1
     have hA_c2 := fun y : Aft wr => y.cell hl1x hc2
     refine xB (by kernel_rfl) (by kernel_rfl) ?_
     repeat (go_big_quiet_step (fail))
     refine wpQuiet_nil ?_
     rintro _ ⟨y, rfl⟩
     clear hA_c1 hA_c2
     replace hb := yA hb y.below
     replace Hown := Lib.hid (ownsRow_below Hown.out y.below (Nat.le_refl _))
     replace hbs := hb.size
     replace hc1 := cellS hb hl1 hWc1
     replace hc2 := cellS hb hl1 hWc2
     replace hl1x := Nat.lt_of_lt_of_le hl1 hbs
     generalize y.at_ = w3 at *
     go_wp2_with (at_builtin; refine uR w3 rfl _ _ 54 rfl w.heap.size 96 i0 _ 3 32 Try.underlying54 Hi.out Hz0.out Hz1.out Hz2.out rfl (by decide) u5 acc.length (xV acc) rfl Hown.out #[.string k1, .int .i64 0, .bool true] 1 1 rfl rfl (jc _ _ _) (by omega) (by decide) hbs ?_; intro v' w9 hown' hgrow; have Hown' := Lib.hid hown'; clear hown')
     go_roundw
     case rel => exact ⟨p + 1, q, f', acc ++ [⟨k1, 0, true⟩], by omega, hq, by go_num, rfl, by omega, by rw [List.length_append, List.length_singleton]; omega, hnew.out, by rw [List.length_append, zW]; exact Hown'.out, below_grown hb hgrow Hown.out hbs (Nat.le_refl _)⟩
     case measure => simp [intOf]; omega
    have hqe : q < es'.length := by rw [Hlen'.out]; exact hlq
    obtain ⟨b2, o2, rfl, hl2, hl2x, hc3, hc4⟩ := hr'.ent hb hqe
    have hWc3 := cellW hb hl2 hc3
    have hWc4 := cellW hb hl2 hc4
    have hte : ((q : Int) == (n' : Int)) = false := beq_eq_false_iff_ne.2 (by omega)
    have htp : ((p : Int) == (n : Int)) = false := beq_eq_false_iff_ne.2 (by omega)
    have hpi : (p : Int) < (n : Int) := by omega
    cases hk1 : klt es[p].1 es'[q].1 with
    | true =>
     have ht1 : Op.bytesLess es[p].1.toList es'[q].1.toList = true := hk1
     have hnew := Lib.hid (show (acc ++ [⟨es[p].1, 0, true⟩]) ++ yG f' (es.drop (p + 1)) (es'.drop q) = y7 es es' by rw [← Hacc.out, jE hpe (.inr ⟨hqe, hk1⟩)]; simp)
     clear Hacc hk1
     generalize es[p] = ek at *
     generalize es'[q] = ek2 at *
     obtain ⟨k1, v1⟩ := ek
     obtain ⟨k2, v2⟩ := ek2
     go_wp2
     have hA_c1 := fun y : Aft wr => y.cell hl1x hc1
     have hA_c2 := fun y : Aft wr => y.cell hl1x hc2
     have hA_c3 := fun y : Aft wr => y.cell hl2x hc3
     have hA_c4 := fun y : Aft wr => y.cell hl2x hc4
     refine xB (by kernel_rfl) (by kernel_rfl) ?_
     repeat (go_big_quiet_step (fail))
     refine wpQuiet_nil ?_
     rintro _ ⟨y, rfl⟩
     clear hA_c1 hA_c2 hA_c3 hA_c4
     replace hb := yA hb y.below
     replace Hown := Lib.hid (ownsRow_below Hown.out y.below (Nat.le_refl _))
     replace hbs := hb.size
     replace hc1 := cellS hb hl1 hWc1
     replace hc2 := cellS hb hl1 hWc2
     replace hc3 := cellS hb hl2 hWc3
     replace hc4 := cellS hb hl2 hWc4
     replace hl1x := Nat.lt_of_lt_of_le hl1 hbs
     replace hl2x := Nat.lt_of_lt_of_le hl2 hbs
     generalize y.at_ = w3 at *
     go_wp2_with (at_builtin; refine uR w3 rfl _ _ 54 rfl w.heap.size 96 i0 _ 3 32 Try.underlying54 Hi.out Hz0.out Hz1.out Hz2.out rfl (by decide) u5 acc.length (xV acc) rfl Hown.out #[.string k1, .int .i64 0, .bool true] 1 1 rfl rfl (jc _ _ _) (by omega) (by decide) hbs ?_; intro v' w9 hown' hgrow; have Hown' := Lib.hid hown'; clear hown')
     go_roundw
     case rel => exact ⟨p + 1, q, f', acc ++ [⟨k1, 0, true⟩], by omega, hq, by go_num, rfl, by omega, by rw [List.length_append, List.length_singleton]; omega, hnew.out, by rw [List.length_append, zW]; exact Hown'.out, below_grown hb hgrow Hown.out hbs (Nat.le_refl _)⟩
     case measure => simp [intOf]; omega
    | false =>
     cases hk2 : klt es'[q].1 es[p].1 with
     | true =>
     have ht1 : Op.bytesLess es[p].1.toList es'[q].1.toList = false := hk1
     have ht2 : Op.bytesLess es'[q].1.toList es[p].1.toList = true := hk2
     have hnew := Lib.hid (show (acc ++ [⟨es'[q].1, es'[q].2, false⟩]) ++ yG f' (es.drop p) (es'.drop (q + 1)) = y7 es es' by rw [← Hacc.out, jb hqe (.inr ⟨hpe, hk2⟩)]; simp)
     clear Hacc hk1 hk2
     generalize es[p] = ek at *
     generalize es'[q] = ek2 at *
     obtain ⟨k1, v1⟩ := ek
     obtain ⟨k2, v2⟩ := ek2
     go_wp2
     have hA_c1 := fun y : Aft wr => y.cell hl1x hc1
     have hA_c2 := fun y : Aft wr => y.cell hl1x hc2
     have hA_c3 := fun y : Aft wr => y.cell hl2x hc3
     have hA_c4 := fun y : Aft wr => y.cell hl2x hc4
     refine xB (by kernel_rfl) (by kernel_rfl) ?_
     repeat (go_big_quiet_step (fail))
     refine wpQuiet_nil ?_
     rintro _ ⟨y, rfl⟩
     clear hA_c1 hA_c2 hA_c3 hA_c4
     replace hb := yA hb y.below
     replace Hown := Lib.hid (ownsRow_below Hown.out y.below (Nat.le_refl _))
     replace hbs := hb.size
     replace hc1 := cellS hb hl1 hWc1
     replace hc2 := cellS hb hl1 hWc2
     replace hc3 := cellS hb hl2 hWc3
     replace hc4 := cellS hb hl2 hWc4
     replace hl1x := Nat.lt_of_lt_of_le hl1 hbs
     replace hl2x := Nat.lt_of_lt_of_le hl2 hbs
     generalize y.at_ = w3 at *
     go_wp2
     have hA_c1 := fun y : Aft w3 => y.cell hl1x hc1
     have hA_c2 := fun y : Aft w3 => y.cell hl1x hc2
     have hA_c3 := fun y : Aft w3 => y.cell hl2x hc3
     have hA_c4 := fun y : Aft w3 => y.cell hl2x hc4
     refine xB (by kernel_rfl) (by kernel_rfl) ?_
     repeat (go_big_quiet_step (fail))
     refine wpQuiet_nil ?_
     rintro _ ⟨y, rfl⟩
     clear hA_c1 hA_c2 hA_c3 hA_c4
     replace hb := yA hb y.below
     replace Hown := Lib.hid (ownsRow_below Hown.out y.below (Nat.le_refl _))
     replace hbs := hb.size
     replace hc1 := cellS hb hl1 hWc1
     replace hc2 := cellS hb hl1 hWc2
     replace hc3 := cellS hb hl2 hWc3
     replace hc4 := cellS hb hl2 hWc4
     replace hl1x := Nat.lt_of_lt_of_le hl1 hbs
     replace hl2x := Nat.lt_of_lt_of_le hl2 hbs
     generalize y.at_ = w4 at *
     go_wp2
     have hc1x := hl1x
     have hq0 : (0 : Int) ≤ (q : Int) := by omega
     have hq1 : (q : Int) < (n' : Int) := by omega
     clear ht1 ht2 hc1 hc2
     go_region_held3 (fun w' => w'.cell? ⟨b2, o2 + q * 2, none⟩ = some (.string k2) ∧ w'.cell? ⟨b2, o2 + q * 2 + 1, none⟩ = some (.int .i64 v2))
     (first | go_keep | (go_split_ands; refine ⟨?_, ?_⟩ <;> (rw [hgrow.cell_far _ (by simp; omega) (fun h => by have h2 : w.heap.size ≤ b2 := (Hown.out.lt _ h.symm).1; omega)]; assumption)))
     ((refine step_append_lies _ (by rfl) _ _ _ (by rfl) w.heap.size 96 i0 _ 3 32 Try.underlying54 Hi.out Hz0.out Hz1.out Hz2.out rfl (by omega) u5 acc.length (xV acc) (by rfl) ((Hown.out.alloc _).drew) ⟨w4.heap.size, 0, none⟩ 1 1 [.string k2, .int .i64 v2, .bool false] (by rfl) (by rfl) (World.news_of_block (cs := #[.string k2, .int .i64 v2, .bool false]) (t := 96) (fr := (0, 0)) (heap_alloc_new w4 _)) (by simp [Value.oneCell']) (by omega) (by unfold maxLen; omega) (by omega) (by simp; omega) (w4.heap.size + 1) (by simp) ?_; intro gg cap w9 hown' hgrow hat hlt9))
     have hb9 : Below w.heap.size w w9 := below_grown (hb.alloc hbs _).drew hgrow ((Hown.out.alloc _).drew) (by simp; omega) (Nat.le_refl _)
     have Hown' := Lib.hid hown'
     clear hown' hgrow hat hlt9 hc1x
     go_wp2
     go_roundw
     case rel => exact ⟨p, q + 1, f', acc ++ [⟨k2, v2, false⟩], by omega, by omega, rfl, by go_num, by omega, by rw [List.length_append, List.length_singleton]; omega, hnew.out, by rw [List.length_append, zW]; exact Hown'.out, hb9⟩
     case measure => simp [intOf]; omega
     | false =>
     have ht1 : Op.bytesLess es[p].1.toList es'[q].1.toList = false := hk1
     have ht2 : Op.bytesLess es'[q].1.toList es[p].1.toList = false := hk2
     have hdb := aBw (f := f') hpe hqe hk1 hk2
     by_cases hvv : es[p].2 = es'[q].2
     · have hnew := Lib.hid (show acc ++ yG f' (es.drop (p + 1)) (es'.drop (q + 1)) = y7 es es' by rw [← Hacc.out, hdb, if_pos hvv]; simp)
       have htv : (es[p].2 != es'[q].2) = false := by rw [hvv]; simp
       clear Hacc hk1 hk2 hdb hvv
       generalize es[p] = ek at *
       generalize es'[q] = ek2 at *
       obtain ⟨k1, v1⟩ := ek
       obtain ⟨k2, v2⟩ := ek2
       go_wp2
       have hA_c1 := fun y : Aft wr => y.cell hl1x hc1
       have hA_c2 := fun y : Aft wr => y.cell hl1x hc2
       have hA_c3 := fun y : Aft wr => y.cell hl2x hc3
       have hA_c4 := fun y : Aft wr => y.cell hl2x hc4
       refine xB (by kernel_rfl) (by kernel_rfl) ?_
       repeat (go_big_quiet_step (fail))
       refine wpQuiet_nil ?_
       rintro _ ⟨y, rfl⟩
       clear hA_c1 hA_c2 hA_c3 hA_c4
       replace hb := yA hb y.below
       replace Hown := Lib.hid (ownsRow_below Hown.out y.below (Nat.le_refl _))
       replace hbs := hb.size
       replace hc1 := cellS hb hl1 hWc1
       replace hc2 := cellS hb hl1 hWc2
       replace hc3 := cellS hb hl2 hWc3
       replace hc4 := cellS hb hl2 hWc4
       replace hl1x := Nat.lt_of_lt_of_le hl1 hbs
       replace hl2x := Nat.lt_of_lt_of_le hl2 hbs
       generalize y.at_ = w3 at *
       go_wp2
       have hA_c1 := fun y : Aft w3 => y.cell hl1x hc1
       have hA_c2 := fun y : Aft w3 => y.cell hl1x hc2
       have hA_c3 := fun y : Aft w3 => y.cell hl2x hc3
       have hA_c4 := fun y : Aft w3 => y.cell hl2x hc4
       refine xB (by kernel_rfl) (by kernel_rfl) ?_
       repeat (go_big_quiet_step (fail))
       refine wpQuiet_nil ?_
       rintro _ ⟨y, rfl⟩
       clear hA_c1 hA_c2 hA_c3 hA_c4
       replace hb := yA hb y.below
       replace Hown := Lib.hid (ownsRow_below Hown.out y.below (Nat.le_refl _))
       replace hbs := hb.size
       replace hc1 := cellS hb hl1 hWc1
       replace hc2 := cellS hb hl1 hWc2
       replace hc3 := cellS hb hl2 hWc3
       replace hc4 := cellS hb hl2 hWc4
       replace hl1x := Nat.lt_of_lt_of_le hl1 hbs
       replace hl2x := Nat.lt_of_lt_of_le hl2 hbs
       generalize y.at_ = w4 at *
       go_wp2
       have hA_c1 := fun y : Aft w4 => y.cell hl1x hc1
       have hA_c2 := fun y : Aft w4 => y.cell hl1x hc2
       have hA_c3 := fun y : Aft w4 => y.cell hl2x hc3
       have hA_c4 := fun y : Aft w4 => y.cell hl2x hc4
       refine xB (by kernel_rfl) (by kernel_rfl) ?_
       repeat (go_big_quiet_step (fail))
       refine wpQuiet_nil ?_
       rintro _ ⟨y, rfl⟩
       clear hA_c1 hA_c2 hA_c3 hA_c4
       replace hb := yA hb y.below
       replace Hown := Lib.hid (ownsRow_below Hown.out y.below (Nat.le_refl _))
       replace hbs := hb.size
       replace hc1 := cellS hb hl1 hWc1
       replace hc2 := cellS hb hl1 hWc2
       replace hc3 := cellS hb hl2 hWc3
       replace hc4 := cellS hb hl2 hWc4
       replace hl1x := Nat.lt_of_lt_of_le hl1 hbs
       replace hl2x := Nat.lt_of_lt_of_le hl2 hbs
       generalize y.at_ = w5 at *
       go_wp2
       go_roundw
       case rel => exact ⟨p + 1, q + 1, f', acc, by omega, by omega, by go_num, by go_num, by omega, by omega, hnew.out, Hown.out, hb⟩
       case measure => simp [intOf]; omega
     · have hnew := Lib.hid (show (acc ++ [⟨es'[q].1, es'[q].2, false⟩]) ++ yG f' (es.drop (p + 1)) (es'.drop (q + 1)) = y7 es es' by rw [← Hacc.out, hdb, if_neg hvv]; simp)
       have htv : (es[p].2 != es'[q].2) = true := bne_iff_ne.2 hvv
       clear Hacc hk1 hk2 hdb hvv
       generalize es[p] = ek at *
       generalize es'[q] = ek2 at *
       obtain ⟨k1, v1⟩ := ek
       obtain ⟨k2, v2⟩ := ek2
       go_wp2
       have hA_c1 := fun y : Aft wr => y.cell hl1x hc1
       have hA_c2 := fun y : Aft wr => y.cell hl1x hc2
       have hA_c3 := fun y : Aft wr => y.cell hl2x hc3
       have hA_c4 := fun y : Aft wr => y.cell hl2x hc4
       refine xB (by kernel_rfl) (by kernel_rfl) ?_
       repeat (go_big_quiet_step (fail))
       refine wpQuiet_nil ?_
       rintro _ ⟨y, rfl⟩
       clear hA_c1 hA_c2 hA_c3 hA_c4
       replace hb := yA hb y.below
       replace Hown := Lib.hid (ownsRow_below Hown.out y.below (Nat.le_refl _))
       replace hbs := hb.size
       replace hc1 := cellS hb hl1 hWc1
       replace hc2 := cellS hb hl1 hWc2
       replace hc3 := cellS hb hl2 hWc3
       replace hc4 := cellS hb hl2 hWc4
       replace hl1x := Nat.lt_of_lt_of_le hl1 hbs
       replace hl2x := Nat.lt_of_lt_of_le hl2 hbs
       generalize y.at_ = w3 at *
       go_wp2
       have hA_c1 := fun y : Aft w3 => y.cell hl1x hc1
       have hA_c2 := fun y : Aft w3 => y.cell hl1x hc2
       have hA_c3 := fun y : Aft w3 => y.cell hl2x hc3
       have hA_c4 := fun y : Aft w3 => y.cell hl2x hc4
       refine xB (by kernel_rfl) (by kernel_rfl) ?_
       repeat (go_big_quiet_step (fail))
       refine wpQuiet_nil ?_
       rintro _ ⟨y, rfl⟩
       clear hA_c1 hA_c2 hA_c3 hA_c4
       replace hb := yA hb y.below
       replace Hown := Lib.hid (ownsRow_below Hown.out y.below (Nat.le_refl _))
       replace hbs := hb.size
       replace hc1 := cellS hb hl1 hWc1
       replace hc2 := cellS hb hl1 hWc2
       replace hc3 := cellS hb hl2 hWc3
       replace hc4 := cellS hb hl2 hWc4
       replace hl1x := Nat.lt_of_lt_of_le hl1 hbs
       replace hl2x := Nat.lt_of_lt_of_le hl2 hbs
       generalize y.at_ = w4 at *
       go_wp2
       have hA_c1 := fun y : Aft w4 => y.cell hl1x hc1
       have hA_c2 := fun y : Aft w4 => y.cell hl1x hc2
       have hA_c3 := fun y : Aft w4 => y.cell hl2x hc3
       have hA_c4 := fun y : Aft w4 => y.cell hl2x hc4
       refine xB (by kernel_rfl) (by kernel_rfl) ?_
       repeat (go_big_quiet_step (fail))
       refine wpQuiet_nil ?_
       rintro _ ⟨y, rfl⟩
       clear hA_c1 hA_c2 hA_c3 hA_c4
       replace hb := yA hb y.below
       replace Hown := Lib.hid (ownsRow_below Hown.out y.below (Nat.le_refl _))
       replace hbs := hb.size
       replace hc1 := cellS hb hl1 hWc1
       replace hc2 := cellS hb hl1 hWc2
       replace hc3 := cellS hb hl2 hWc3
       replace hc4 := cellS hb hl2 hWc4
       replace hl1x := Nat.lt_of_lt_of_le hl1 hbs
       replace hl2x := Nat.lt_of_lt_of_le hl2 hbs
       generalize y.at_ = w5 at *
       go_wp2
       have hc1x := hl1x
       have hq0 : (0 : Int) ≤ (q : Int) := by omega
       have hq1 : (q : Int) < (n' : Int) := by omega
       clear ht1 ht2 htv hc1 hc2
       go_region_held3 (fun w' => w'.cell? ⟨b2, o2 + q * 2, none⟩ = some (.string k2) ∧ w'.cell? ⟨b2, o2 + q * 2 + 1, none⟩ = some (.int .i64 v2))
       (first | go_keep | (go_split_ands; refine ⟨?_, ?_⟩ <;> (rw [hgrow.cell_far _ (by simp; omega) (fun h => by have h2 : w.heap.size ≤ b2 := (Hown.out.lt _ h.symm).1; omega)]; assumption)))
       ((refine step_append_lies _ (by rfl) _ _ _ (by rfl) w.heap.size 96 i0 _ 3 32 Try.underlying54 Hi.out Hz0.out Hz1.out Hz2.out rfl (by omega) u5 acc.length (xV acc) (by rfl) ((Hown.out.alloc _).drew) ⟨w5.heap.size, 0, none⟩ 1 1 [.string k2, .int .i64 v2, .bool false] (by rfl) (by rfl) (World.news_of_block (cs := #[.string k2, .int .i64 v2, .bool false]) (t := 96) (fr := (0, 0)) (heap_alloc_new w5 _)) (by simp [Value.oneCell']) (by omega) (by unfold maxLen; omega) (by omega) (by simp; omega) (w5.heap.size + 1) (by simp) ?_; intro gg cap w9 hown' hgrow hat hlt9))
       have hb9 : Below w.heap.size w w9 := below_grown (hb.alloc hbs _).drew hgrow ((Hown.out.alloc _).drew) (by simp; omega) (Nat.le_refl _)
       have Hown' := Lib.hid hown'
       clear hown' hgrow hat hlt9 hc1x
       go_wp2
       go_roundw
       case rel => exact ⟨p + 1, q + 1, f', acc ++ [⟨k2, v2, false⟩], by omega, by omega, by go_num, by go_num, by omega, by rw [List.length_append, List.length_singleton]; omega, hnew.out, by rw [List.length_append, zW]; exact Hown'.out, hb9⟩
       case measure => simp [intOf]; omega
  · have hpn : p = n := by omega
    have htp : ((p : Int) == (n : Int)) = true := beq_iff_eq.2 (by omega)
    by_cases hlq : q < n'
    · have hqe : q < es'.length := by rw [Hlen'.out]; exact hlq
      obtain ⟨b2, o2, rfl, hl2, hl2x, hc3, hc4⟩ := hr'.ent hb hqe
      have hWc3 := cellW hb hl2 hc3
      have hWc4 := cellW hb hl2 hc4
      obtain ⟨f', hf'⟩ : ∃ f', f = f' + 1 := ⟨f - 1, by omega⟩
      subst hf'
      have hte : ((q : Int) == (n' : Int)) = false := beq_eq_false_iff_ne.2 (by omega)
      have hpi : ¬ (p : Int) < (n : Int) := by omega
      have hnew := Lib.hid (show (acc ++ [⟨es'[q].1, es'[q].2, false⟩]) ++ yG f' (es.drop p) (es'.drop (q + 1)) = y7 es es' by rw [← Hacc.out, jb hqe (.inl (by rw [Hlen.out]; omega))]; simp)
      clear Hacc hpn
      generalize es'[q] = ek2 at *
      obtain ⟨k2, v2⟩ := ek2
      have hdp : decide ((p : Int) < (n : Int)) = false := decide_eq_false hpi
      go_wp2
      have hA_c3 := fun y : Aft wr => y.cell hl2x hc3
      have hA_c4 := fun y : Aft wr => y.cell hl2x hc4
      refine xB (by kernel_rfl) (by kernel_rfl) ?_
      repeat (go_big_quiet_step (fail))
      refine wpQuiet_nil ?_
      rintro _ ⟨y, rfl⟩
      clear hA_c3 hA_c4
      replace hb := yA hb y.below
      replace Hown := Lib.hid (ownsRow_below Hown.out y.below (Nat.le_refl _))
      replace hbs := hb.size
      replace hc3 := cellS hb hl2 hWc3
      replace hc4 := cellS hb hl2 hWc4
      replace hl2x := Nat.lt_of_lt_of_le hl2 hbs
      generalize y.at_ = w3 at *
      go_wp2
      have hA_c3 := fun y : Aft w3 => y.cell hl2x hc3
      have hA_c4 := fun y : Aft w3 => y.cell hl2x hc4
      refine xB (by kernel_rfl) (by kernel_rfl) ?_
      repeat (go_big_quiet_step (fail))
      refine wpQuiet_nil ?_
      rintro _ ⟨y, rfl⟩
      clear hA_c3 hA_c4
      replace hb := yA hb y.below
      replace Hown := Lib.hid (ownsRow_below Hown.out y.below (Nat.le_refl _))
      replace hbs := hb.size
      replace hc3 := cellS hb hl2 hWc3
      replace hc4 := cellS hb hl2 hWc4
      replace hl2x := Nat.lt_of_lt_of_le hl2 hbs
      generalize y.at_ = w4 at *
      go_wp2
      have hc1x := hl2x
      have hq0 : (0 : Int) ≤ (q : Int) := by omega
      have hq1 : (q : Int) < (n' : Int) := by omega
      go_region_held3 (fun w' => w'.cell? ⟨b2, o2 + q * 2, none⟩ = some (.string k2) ∧ w'.cell? ⟨b2, o2 + q * 2 + 1, none⟩ = some (.int .i64 v2))
      (first | go_keep | (go_split_ands; refine ⟨?_, ?_⟩ <;> (rw [hgrow.cell_far _ (by simp; omega) (fun h => by have h2 : w.heap.size ≤ b2 := (Hown.out.lt _ h.symm).1; omega)]; assumption)))
      ((refine step_append_lies _ (by rfl) _ _ _ (by rfl) w.heap.size 96 i0 _ 3 32 Try.underlying54 Hi.out Hz0.out Hz1.out Hz2.out rfl (by omega) u5 acc.length (xV acc) (by rfl) ((Hown.out.alloc _).drew) ⟨w4.heap.size, 0, none⟩ 1 1 [.string k2, .int .i64 v2, .bool false] (by rfl) (by rfl) (World.news_of_block (cs := #[.string k2, .int .i64 v2, .bool false]) (t := 96) (fr := (0, 0)) (heap_alloc_new w4 _)) (by simp [Value.oneCell']) (by omega) (by unfold maxLen; omega) (by omega) (by simp; omega) (w4.heap.size + 1) (by simp) ?_; intro gg cap w9 hown' hgrow hat hlt9))
      have hb9 : Below w.heap.size w w9 := below_grown (hb.alloc hbs _).drew hgrow ((Hown.out.alloc _).drew) (by simp; omega) (Nat.le_refl _)
      have Hown' := Lib.hid hown'
      clear hown' hgrow hat hlt9 hc1x
      go_wp2
      go_roundw
      case rel => exact ⟨p, q + 1, f', acc ++ [⟨k2, v2, false⟩], by omega, by omega, rfl, by go_num, by omega, by rw [List.length_append, List.length_singleton]; omega, hnew.out, by rw [List.length_append, zW]; exact Hown'.out, hb9⟩
      case measure => simp [intOf]; omega
    · have hfin := Lib.hid (show acc = y7 es es' by rw [← Hacc.out, aDE _ _ _ (List.drop_eq_nil_of_le (by rw [Hlen.out]; omega)) (List.drop_eq_nil_of_le (by rw [Hlen'.out]; omega)), List.append_nil])
      clear hpn
      go_wp2
      go_ret
      exact ⟨_, rfl, by rw [← hfin.out]; exact Hown.out, hb⟩
end Go.Proofs.Ytdhjchdbgognbaa
