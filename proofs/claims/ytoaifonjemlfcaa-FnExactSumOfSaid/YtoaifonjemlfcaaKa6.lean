/- Texts of the machine over data, folded. -/
import Derived.Test.YtoaifonjemlfcaaKa5
import Derived.Laws.CopyOwn
set_option linter.unusedVariables false
set_option maxRecDepth 100000
set_option linter.unusedSimpArgs false
namespace Go.Proofs.Ytoaifonjemlfcaa
open Go.RowKit
namespace Nm
def letter (c : Int) : Bool := (decide (97 ≤ c) && decide (c ≤ 122)) || (decide (65 ≤ c) && decide (c ≤ 90)) || decide (c = 95)
def digit (c : Int) : Bool := decide (48 ≤ c) && decide (c ≤ 57)
def lettersFrom (l : List UInt8) : Bool := l.all fun c => letter c.toNat || digit c.toNat
def nameOK (l : List UInt8) : Bool :=
 match l with
 | [] => false
 | c :: r => decide (r.length < 12) && letter c.toNat && lettersFrom r
theorem aGl (c : Int) (h : letter c = true) : digit c = false := by
 simp [letter, digit] at *; omega
end Nm
theorem kN (c : Int) (w : World) :
 Calls Try.prog 91 #[.int .u8 c] w fun e w' => e = .returned (.bool (Nm.letter c)) ∧ w = w' := by
 go_enter Try.func91, Try.ntmps91
 go_wp2
 all_goals (go_ret; exact ⟨xN (by rw [Bool.eq_iff_iff]; simp [Nm.letter]; try omega), rfl⟩)
theorem jH (c : Int) (w : World) :
 Calls Try.prog 90 #[.int .u8 c] w fun e w' => e = .returned (.bool (Nm.digit c)) ∧ w = w' := by
 go_enter Try.func90, Try.ntmps90
 go_wp2
 all_goals (go_ret; exact ⟨xN (by rw [Bool.eq_iff_iff]; simp [Nm.digit]; try omega), rfl⟩)
theorem wW (c : Int) (w : World) :
 Calls Try.prog 80 #[.int .u8 c] w fun e w' => e = .returned (.bool (Nm.letter c)) ∧ w = w' := by
 go_enter Try.func80, Try.ntmps80
 go_wp2
 all_goals (go_ret; exact ⟨xN (by rw [Bool.eq_iff_iff]; simp [Nm.letter]; try omega), rfl⟩)
theorem aDL (c : Int) (w : World) :
 Calls Try.prog 81 #[.int .u8 c] w fun e w' => e = .returned (.bool (Nm.digit c)) ∧ w = w' := by
 go_enter Try.func81, Try.ntmps81
 go_wp2
 all_goals (go_ret; exact ⟨xN (by rw [Bool.eq_iff_iff]; simp [Nm.digit]; try omega), rfl⟩)
namespace Nm
def okc (c : UInt8) : Bool := letter c.toNat || digit c.toNat
theorem lettersFrom_take (l : List UInt8) (k : Nat) (h : k < l.length) : lettersFrom (l.take (k + 1)) = (lettersFrom (l.take k) && okc l[k]) := by
 unfold lettersFrom okc; rw [List.take_succ_eq_append_getElem h, List.all_append]; simp
theorem lettersFrom_bad (l : List UInt8) (k : Nat) (h : k < l.length) (hb : okc l[k] = false) : lettersFrom l = false := by
 rw [lettersFrom, List.all_eq_false]
 exact ⟨l[k], List.getElem_mem h, by simp only [okc] at hb; simp [hb]⟩
theorem nameOK_eq (l : List UInt8) (h0 : 0 < l.length) (h1 : l.length ≤ 12) : nameOK l = (letter l[0].toNat && lettersFrom l) := by
 match l, h0 with
 | c :: r, _ =>
  have : r.length < 12 := by simp at h1; omega
  simp [nameOK, this, lettersFrom]
  cases letter c.toNat <;> simp
theorem aIp : nameOK [] = false := rfl
theorem nameOK_long (l : List UInt8) (h : 12 < l.length) : nameOK l = false := by
 match l with
 | c :: r =>
  have : ¬ r.length < 12 := by simp at h; omega
  simp [nameOK, this]
theorem aAa (c : Int) (h : digit c = true) : letter c = false := by
 simp [letter, digit] at *; omega
theorem nameOK_digit (l : List UInt8) (h0 : 0 < l.length) (hd : digit l[0].toNat = true) : nameOK l = false := by
 match l, h0 with
 | c :: r, _ =>
  have hd' : letter c.toNat = false := aAa _ hd
  simp [nameOK, hd']
theorem nameOK_letters (l : List UInt8) (h0 : 0 < l.length) (h1 : l.length ≤ 12) (hd : digit l[0].toNat = false) : nameOK l = lettersFrom l := by
 rw [nameOK_eq l h0 h1]
 cases h : letter l[0].toNat with
 | true => rfl
 | false => exact (lettersFrom_bad l 0 h0 (by simp [okc, h, hd])).symm
end Nm
set_option maxHeartbeats 400000 in
theorem aBS (s : ByteArray) (w : World) (hs : s.size ≤ maxLen) :
 Calls Try.prog 85 #[.string s] w fun e w' => e = .returned (.bool (Nm.nameOK s.data.toList)) ∧ w = w' := by
 unfold maxLen at hs
 have hl : s.data.toList.length = s.size := by simp
 by_cases h0 : s.size = 0
 · have : s = ByteArray.empty := by simpa using h0
   subst this
   go_enter Try.func85, Try.ntmps85
   go_wp2
   go_ret
   exact ⟨rfl, rfl⟩
 by_cases h1 : 12 < s.size
 · go_enter Try.func85, Try.ntmps85
   go_wp2
   go_ret
   exact ⟨xN (Nm.nameOK_long _ (by omega)).symm, rfl⟩
 have e0 : ((s.size : Int) == 0) = false := beq_eq_false_iff_ne.2 (by omega)
 have e1 : decide ((12 : Int) < s.size) = false := decide_eq_false (by omega)
 have p0 : 0 < s.size := by omega
 cases hd : Nm.digit s[0].toNat with
 | true =>
  have hfin : Nm.nameOK s.data.toList = false := Nm.nameOK_digit _ (by rw [hl]; exact p0) hd
  have Hf := Lib.hid hfin; clear hfin
  go_enter Try.func85, Try.ntmps85
  go_wp2_with (first | (go_at_call 90; refine (jH _ _).mono ?_; rintro e w' ⟨rfl, rfl⟩) | (go_at_call 91; refine (kN _ _).mono ?_; rintro e w' ⟨rfl, rfl⟩))
  go_ret
  exact ⟨xN Hf.out.symm, rfl⟩
 | false =>
  have hfin : Nm.nameOK s.data.toList = Nm.lettersFrom s.data.toList := Nm.nameOK_letters _ (by rw [hl]; exact p0) (by omega) hd
  have Hf := Lib.hid hfin; clear hfin
  have h1' : s.size ≤ 12 := by omega
  clear h1
  go_enter Try.func85, Try.ntmps85
  go_wp2_with (first | (go_at_call 90; refine (jH _ _).mono ?_; rintro e w' ⟨rfl, rfl⟩) | (go_at_call 91; refine (kN _ _).mono ?_; rintro e w' ⟨rfl, rfl⟩))
  go_loop [3] (fun i => ∃ k : Nat, k ≤ s.size ∧ i = .int .i64 k ∧ Nm.lettersFrom (s.data.toList.take k) = true) (fun i => s.size - (intOf i).toNat)
  case atStart => exact ⟨0, Nat.zero_le _, rfl, rfl⟩
  case round =>
   obtain ⟨k, hk, rfl, hr⟩ := hrel
   have Hr := Lib.hid hr; clear hr
   by_cases hlt : k < s.size
   · have hst : Hid (Nm.lettersFrom (s.data.toList.take (k + 1)) = (Nm.lettersFrom (s.data.toList.take k) && Nm.okc s[k])) := Nm.lettersFrom_take _ k (by omega)
     have hbad : Hid (Nm.okc s[k] = false → Nm.lettersFrom s.data.toList = false) := fun h => Nm.lettersFrom_bad _ k (by omega) h
     have hok : Nm.okc s[k] = (Nm.letter s[k].toNat || Nm.digit s[k].toNat) := rfl
     have Hok := Lib.hid hok; clear hok
     go_wp2_with (first | (go_at_call 90; refine (jH _ _).mono ?_; rintro e w' ⟨rfl, rfl⟩) | (go_at_call 91; refine (kN _ _).mono ?_; rintro e w' ⟨rfl, rfl⟩))
     · go_round
       case rel => exact ⟨k + 1, by omega, by go_num, by rw [hst.out, Hr.out, Hok.out]; simp [*]⟩
       case measure => simp [intOf]; omega
     · go_ret
       exact ⟨xN (by rw [Hf.out, hbad.out]; rw [Hok.out]; simp_all), rfl⟩
     · go_round
       case rel => exact ⟨k + 1, by omega, by go_num, by rw [hst.out, Hr.out, Hok.out]; simp_all⟩
       case measure => simp [intOf]; omega
   · go_wp2
     go_ret
     exact ⟨xN (by rw [Hf.out]; have := Hr.out; rw [List.take_of_length_le (by omega)] at this; exact this.symm), rfl⟩
set_option maxHeartbeats 400000 in
theorem aA3 (s : ByteArray) (w : World) (hs : s.size ≤ maxLen) :
 Calls Try.prog 70 #[.string s] w fun e w' => e = .returned (.bool (Nm.nameOK s.data.toList)) ∧ w = w' := by
 unfold maxLen at hs
 have hl : s.data.toList.length = s.size := by simp
 by_cases h0 : s.size = 0
 · have : s = ByteArray.empty := by simpa using h0
   subst this
   go_enter Try.func70, Try.ntmps70
   go_wp2
   go_ret
   exact ⟨rfl, rfl⟩
 have e2 : decide ((s.size : Int) < 1) = false := decide_eq_false (by omega)
 by_cases h1 : 12 < s.size
 · go_enter Try.func70, Try.ntmps70
   go_wp2
   go_ret
   exact ⟨xN (Nm.nameOK_long _ (by omega)).symm, rfl⟩
 have e1 : decide ((12 : Int) < s.size) = false := decide_eq_false (by omega)
 have p0 : 0 < s.size := by omega
 cases hd : Nm.letter s[0].toNat with
 | false =>
  have hfin : Nm.nameOK s.data.toList = false := by
   rw [Nm.nameOK_eq _ (by rw [hl]; exact p0) (by omega)]
   have : Nm.letter s.data.toList[0].toNat = false := hd
   rw [this]; rfl
  have Hf := Lib.hid hfin; clear hfin
  go_enter Try.func70, Try.ntmps70
  go_wp2_with (go_at_call 80; refine (wW _ _).mono ?_; rintro e w' ⟨rfl, rfl⟩)
  go_ret
  exact ⟨xN Hf.out.symm, rfl⟩
 | true =>
  have hfin : Nm.nameOK s.data.toList = Nm.lettersFrom s.data.toList := by
   rw [Nm.nameOK_eq _ (by rw [hl]; exact p0) (by omega)]
   have : Nm.letter s.data.toList[0].toNat = true := hd
   rw [this]; rfl
  have Hf := Lib.hid hfin; clear hfin
  have hst1 : Hid (Nm.lettersFrom (s.data.toList.take 1) = true) := by
   have e : Nm.lettersFrom (s.data.toList.take (0 + 1)) = (Nm.lettersFrom (s.data.toList.take 0) && Nm.okc s[0]) := Nm.lettersFrom_take _ 0 (by rw [hl]; exact p0)
   show Nm.lettersFrom (s.data.toList.take (0 + 1)) = true
   rw [e, Nm.okc, hd]; rfl
  have h1' : s.size ≤ 12 := by omega
  clear h1
  go_enter Try.func70, Try.ntmps70
  go_wp2_with (go_at_call 80; refine (wW _ _).mono ?_; rintro e w' ⟨rfl, rfl⟩)
  go_loop [3] (fun i => ∃ k : Nat, 1 ≤ k ∧ k ≤ s.size ∧ i = .int .i64 k ∧ Nm.lettersFrom (s.data.toList.take k) = true) (fun i => s.size - (intOf i).toNat)
  case atStart => exact ⟨1, Nat.le_refl _, p0, rfl, hst1.out⟩
  case round =>
   obtain ⟨k, hk0, hk, rfl, hr⟩ := hrel
   have Hr := Lib.hid hr; clear hr
   by_cases hlt : k < s.size
   · have hst : Hid (Nm.lettersFrom (s.data.toList.take (k + 1)) = (Nm.lettersFrom (s.data.toList.take k) && Nm.okc s[k])) := Nm.lettersFrom_take _ k (by omega)
     have hbad : Hid (Nm.okc s[k] = false → Nm.lettersFrom s.data.toList = false) := fun h => Nm.lettersFrom_bad _ k (by omega) h
     have hok : Nm.okc s[k] = (Nm.letter s[k].toNat || Nm.digit s[k].toNat) := rfl
     have Hok := Lib.hid hok; clear hok
     go_wp2_with (first | (go_at_call 80; refine (wW _ _).mono ?_; rintro e w' ⟨rfl, rfl⟩) | (go_at_call 81; refine (aDL _ _).mono ?_; rintro e w' ⟨rfl, rfl⟩))
     · go_round
       case rel => exact ⟨k + 1, by omega, by omega, by go_num, by rw [hst.out, Hr.out, Hok.out]; simp [*]⟩
       case measure => simp [intOf]; omega
     · go_ret
       exact ⟨xN (by rw [Hf.out, hbad.out]; rw [Hok.out]; simp_all), rfl⟩
     · go_round
       case rel => exact ⟨k + 1, by omega, by omega, by go_num, by rw [hst.out, Hr.out, Hok.out]; simp_all⟩
       case measure => simp [intOf]; omega
   · go_wp2
     go_ret
     exact ⟨xN (by rw [Hf.out]; have := Hr.out; rw [List.take_of_length_le (by omega)] at this; exact this.symm), rfl⟩
end Go.Proofs.Ytoaifonjemlfcaa
namespace Go.Proofs.Ytoaifonjemlfcaa
theorem qR : ∀ (x y : List UInt8), Op.bytesLess x y = decide (x < y)
 | [], [] => by simp [Op.bytesLess]
 | [], _ :: _ => by simp [Op.bytesLess]
 | _ :: _, [] => by simp [Op.bytesLess]
 | a :: xs, b :: ys => by
  rw [Op.bytesLess, qR xs ys, Bool.eq_iff_iff]
  simp [List.cons_lt_cons_iff]
def klt (a b : ByteArray) : Bool := Op.bytesLess a.toList b.toList
theorem kD (a b : ByteArray) : klt a b = true ↔ a.toList < b.toList := by simp [klt, qR]
theorem aBM (a : ByteArray) : klt a a = false := by
 cases h : klt a a with
 | false => rfl
 | true => exact absurd ((kD _ _).1 h) (List.lt_irrefl _)
theorem aCM {a b c : ByteArray} (h : klt a b = true) (k : klt b c = true) : klt a c = true :=
 (kD _ _).2 (List.lt_trans ((kD _ _).1 h) ((kD _ _).1 k))
theorem aFh {a b : ByteArray} (h : klt a b = true) : klt b a = false := by
 cases k : klt b a with
 | false => rfl
 | true => have := aCM h k; rw [aBM] at this; cases this
theorem aEO {a b : ByteArray} (h : klt a b = false) (k : a ≠ b) : klt b a = true := by
 rw [kD]
 have h' : ¬ a.toList < b.toList := fun x => by rw [(kD _ _).2 x] at h; cases h
 rcases List.le_iff_lt_or_eq.1 (List.not_lt.1 h') with h2 | h2
 · exact h2
 · exact absurd (toList_inj h2.symm) k
theorem aIT (a b : ByteArray) : (Op.bytesLess a.toList b.toList || a.toList == b.toList) = !klt b a := by
 have e : Op.bytesLess a.toList b.toList = klt a b := rfl
 rw [e, qI]
 by_cases h : a = b
 · subst h; simp [aBM]
 · cases k : klt a b with
   | true => simp [aFh k]
   | false => simp [aEO k h, h]
def nm (k : ByteArray) : Bool := Nm.nameOK k.data.toList
def aFR (x : Int) : Bool := decide (-1000000 ≤ x) && decide (x ≤ 1000000)
def kAt (es : List Ent) (i : Nat) : ByteArray := (es.getD i (ByteArray.empty, 0)).1
def yh (es : List Ent) (i : Nat) : Bool := nm (kAt es i) && (decide (i = 0) || klt (kAt es (i - 1)) (kAt es i))
def zH (es : List Ent) (i : Nat) : Bool := aFR (es.getD i (ByteArray.empty, 0)).2
def kR (es : List Ent) : Bool := (List.range es.length).all (yh es)
def aBr (es : List Ent) : Bool := (List.range es.length).all (zH es)
def yK (es : List Ent) : Bool := decide (es.length ≤ 12) && (kR es && aBr es)
theorem qi (es : List Ent) (i : Nat) (h : i < es.length) : kAt es i = es[i].1 := by simp [kAt, h]
theorem aEV {es : List Ent} (h : ∀ i, i < es.length → yh es i = true) : kR es = true := by
 rw [kR, List.all_eq_true]; intro i hi; exact h i (List.mem_range.1 hi)
theorem aHk {es : List Ent} (h : ∀ i, i < es.length → zH es i = true) : aBr es = true := by
 rw [aBr, List.all_eq_true]; intro i hi; exact h i (List.mem_range.1 hi)
theorem aAm {es : List Ent} {i : Nat} (hi : i < es.length) (h : yh es i = false) : kR es = false := by
 rw [kR, List.all_eq_false]; exact ⟨i, List.mem_range.2 hi, by rw [h]; simp⟩
theorem aHA {es : List Ent} {i : Nat} (hi : i < es.length) (h : zH es i = false) : aBr es = false := by
 rw [aBr, List.all_eq_false]; exact ⟨i, List.mem_range.2 hi, by rw [h]; simp⟩
theorem aEU {es : List Ent} (h : kR es = true) {i : Nat} (hi : i < es.length) : yh es i = true := List.all_eq_true.1 h i (List.mem_range.2 hi)
theorem aHj {es : List Ent} (h : aBr es = true) {i : Nat} (hi : i < es.length) : zH es i = true := List.all_eq_true.1 h i (List.mem_range.2 hi)
theorem aDP {es : List Ent} (h0 : es.length ≤ 12) (h : ∀ i, i < es.length → yh es i = true ∧ zH es i = true) : yK es = true := by
 rw [yK, aEV fun i hi => (h i hi).1, aHk fun i hi => (h i hi).2, decide_eq_true h0]; rfl
theorem aA5 {es : List Ent} {i : Nat} (hi : i < es.length) (h : yh es i = false) : yK es = false := by
 rw [yK, aAm hi h]; simp
theorem aA6 {es : List Ent} {i : Nat} (hi : i < es.length) (h : zH es i = false) : yK es = false := by
 rw [yK, aHA hi h]; simp
theorem aBR {es : List Ent} (h : 12 < es.length) : yK es = false := by
 rw [yK, decide_eq_false (by omega)]; rfl
theorem aCR {es : List Ent} {k : Nat} (h : 0 < k) (hk : k < es.length) (hn : nm (kAt es k) = true) : yh es k = klt (es[k - 1]'(by omega)).1 es[k].1 := by
 rw [yh, hn, decide_eq_false (by omega), qi es k hk, qi es (k - 1) (by omega)]; simp
theorem aBW {es : List Ent} (hn : nm (kAt es 0) = true) : yh es 0 = true := by rw [yh, hn]; rfl
def Srt (es : List Ent) : Prop := es.Pairwise fun a b => klt a.1 b.1 = true
def aCa (es : List Ent) (k : ByteArray) (p : Nat) : Prop := p ≤ es.length ∧ (∀ j, (hj : j < es.length) → j < p → klt es[j].1 k = true) ∧ ((hp : p < es.length) → klt es[p].1 k = false)
theorem aCa.take {es : List Ent} {k : ByteArray} {p : Nat} (h : aCa es k p) : es.takeWhile (fun e => klt e.1 k) = es.take p ∧ es.dropWhile (fun e => klt e.1 k) = es.drop p := by
 induction es generalizing p with
 | nil => obtain ⟨h1, _⟩ := h; simp
 | cons e r ih =>
  obtain ⟨h1, h2, h3⟩ := h
  match p, h1, h2, h3 with
  | 0, _, _, h3 => have := h3 (by simp); simp at this; simp [this]
  | p + 1, h1, h2, h3 =>
   have he := h2 0 (by simp) (by omega)
   simp at he
   have := ih (p := p) ⟨by simpa using h1, fun j hj hjp => by have := h2 (j + 1) (by simp; omega) (by omega); simpa using this, fun hp => by have := h3 (by simp; omega); simpa using this⟩
   simp [he, this]
theorem aCa.after {es : List Ent} {k : ByteArray} {p : Nat} (h : aCa es k p) (hs : Srt es) (j : Nat) (hj : j < es.length) (hpj : p < j) : klt k es[j].1 = true := by
 have h1 : klt es[p].1 es[j].1 = true := (List.pairwise_iff_getElem.1 hs) p j (by omega) hj hpj
 by_cases he : es[p].1 = k
 · rw [← he]; exact h1
 · exact aCM (aEO (h.2.2 (by omega)) he) h1
open Go.RowKit
theorem Rd.piece {w : World} {sz n : Nat} {A : Option Addr} {xs : List Value} (h : Rd w sz A n xs) {i m : Nat} (hm : i + m ≤ n) (hpos : 0 < ((xs.drop (i * sz)).take (m * sz)).length) :
 ∃ b off, A = some ⟨b, off, none⟩ ∧ ∀ j v, ((xs.drop (i * sz)).take (m * sz))[j]? = some v → w.cell? ((⟨b, off + i * sz, none⟩ : Addr).add j) = some v := by
 have hn : 0 < n := by
  rcases Nat.eq_zero_or_pos n with h0 | h0
  · subst h0
    have : m = 0 := by omega
    subst this
    simp at hpos
  · exact h0
 obtain ⟨b, off, rfl, _, hc⟩ := h.2 hn
 refine ⟨b, off, rfl, fun j v hj => ?_⟩
 have hadd : (⟨b, off + i * sz, none⟩ : Addr).add j = ⟨b, off + (i * sz + j), none⟩ := by unfold Addr.add; split <;> simp_all [Nat.add_assoc]
 rw [hadd]
 refine hc _ _ ?_
 rw [List.getElem?_take] at hj
 split at hj
 · rw [List.getElem?_drop] at hj; exact hj
 · cases hj
theorem Rd.cut {w : World} {sz n : Nat} {A : Option Addr} {xs : List Value} (h : Rd w sz A n xs) {i m : Nat} (hm : i + m ≤ n) (hpos : 0 < ((xs.drop (i * sz)).take (m * sz)).length) :
 ∃ ad, Option.map (fun x => x.add (i * sz)) A = some ad ∧ ∀ j v, ((xs.drop (i * sz)).take (m * sz))[j]? = some v → w.cell? (ad.add j) = some v := by
 obtain ⟨b, off, rfl, hc⟩ := h.piece hm hpos
 have hadd : (⟨b, off, none⟩ : Addr).add (i * sz) = ⟨b, off + i * sz, none⟩ := by unfold Addr.add; split <;> simp_all
 exact ⟨_, rfl, fun j v hj => by
  show w.cell? (((⟨b, off, none⟩ : Addr).add (i * sz)).add j) = some v
  rw [hadd]; exact hc j v hj⟩
theorem aDx (key : ByteArray) (v : Int) (w : World) :
 Calls Try.prog 55 #[.agg #[.string key, .int .i64 v]] w fun e w' => e = .returned (.agg #[.string key, .int .i64 v]) ∧ Below w.heap.size w w' := by
 go_enter Try.func55, Try.ntmps55
 go_wp2
 exact bodyPost_ret (v := .agg #[.string key, .int .i64 v]) (by simp [results, Try.results55, go_sem]) rfl ⟨rfl, by
  refine ((((((((((Below.refl _ _).alloc (Nat.le_refl _) _).alloc (by simp) _).alloc (by simp; omega) _)))))))⟩
def EqE (a b : Ent) : Bool := decide (a.1 = b.1) && decide (a.2 = b.2)
theorem aDt (k1 k2 : ByteArray) (v1 v2 : Int) (w : World) :
 Calls Try.prog 60 #[.agg #[.string k1, .int .i64 v1], .agg #[.string k2, .int .i64 v2]] w fun e w' => e = .returned (.bool (EqE (k1, v1) (k2, v2))) ∧ Below w.heap.size w w' := by
 have hk := qI k1 k2
 by_cases h1 : k1 = k2 <;> by_cases h2 : v1 = v2
 all_goals
  go_enter Try.func60, Try.ntmps60
  go_wp2
  go_ret
  exact ⟨xN (by simp [EqE, h1, h2]), ((Below.refl _ _).alloc (Nat.le_refl _) _).alloc (by simp) _⟩
def aHl (b : Bool) (w : World) (e : Ending) (w' : World) : Prop := e = .returned (.bool b) ∧ Below w.heap.size w w'
set_option maxRecDepth 100000 in
theorem aDD (A : Option Addr) (n c : Nat) (es : List Ent) (A' : Option Addr) (n' c' : Nat) (es' : List Ent) (w : World) (hr : Rd w 2 A n (xg es)) (hr' : Rd w 2 A' n' (xg es')) (hm : n ≤ maxLen) (hm' : n' ≤ maxLen) :
 Calls Try.prog 34 #[.slice A n c, .slice A' n' c'] w (aHl (decide (es = es')) w) := by
 unfold maxLen at hm hm'
 have hlen := hr.len
 have hlen' := hr'.len
 have Hlen := Lib.hid hlen; clear hlen
 have Hlen' := Lib.hid hlen'; clear hlen'
 by_cases hne : n = n'
 case neg =>
  have hfin : Hid (decide (es = es') = false) := decide_eq_false (fun h => hne (by rw [← Hlen.out, ← Hlen'.out, h]))
  have hb : ((n : Int) != n') = true := by rw [bne_iff_ne]; omega
  go_enter Try.func34, Try.ntmps34
  go_wp2
  go_ret
  exact ⟨xN hfin.out.symm, Below.refl _ _⟩
 subst hne
 go_enter Try.func34, Try.ntmps34
 go_wp2
 go_loopw [5] (fun i wr => ∃ k : Nat, k ≤ n ∧ i = .int .i64 k ∧ es.take k = es'.take k ∧ Below w.heap.size w wr) (fun i _ => n - (intOf i).toNat)
 case atStart => exact ⟨0, Nat.zero_le _, rfl, rfl, Below.refl _ _⟩
 case round =>
  obtain ⟨k, hk, rfl, heq, hb⟩ := hrel
  have Heq := Lib.hid heq; clear heq
  by_cases hlt : k < n
  · have hke : k < es.length := by rw [Hlen.out]; exact hlt
    have hke' : k < es'.length := by rw [Hlen'.out]; exact hlt
    obtain ⟨b, off, rfl, hbl, hbl2, hc1, hc2⟩ := hr.ent hb hke
    obtain ⟨b', off', rfl, hbl', hbl2', hc1', hc2'⟩ := hr'.ent hb hke'
    have hyes : Hid (EqE es[k] es'[k] = true → es.take (k + 1) = es'.take (k + 1)) := by
     intro h
     have h' : es[k] = es'[k] := by simp [EqE] at h; exact Prod.ext h.1 h.2
     rw [List.take_succ_eq_append_getElem hke, List.take_succ_eq_append_getElem hke', Heq.out, h']
    have hno : Hid (EqE es[k] es'[k] = false → decide (es = es') = false) := by
     intro h
     refine decide_eq_false (fun e => ?_)
     subst e
     simp [EqE] at h
    generalize es[k] = ek at *
    generalize es'[k] = ek' at *
    go_wp2
    go_still_tail 8, (by kernel_rfl)
    change wpList _ _ _ _ _ wr.drew
    generalize hw2 : wr.drew = w2
    have hb2 : Below w.heap.size w w2 := by rw [← hw2]; exact hb.drew
    clear hw2 hb
    go_wp2_with fail
    refine (aDt _ _ _ _ _).mono ?_
    rintro e w3 ⟨rfl, hb3⟩
    cases hE : EqE (ek.1, ek.2) (ek'.1, ek'.2) with
    | true =>
     have HE := Lib.hid hE; clear hE
     go_wp2
     go_roundw
     case rel => exact ⟨k + 1, by omega, by go_num, hyes.out HE.out, hb2.trans (hb3.mono hb2.size)⟩
     case measure => simp [intOf]; omega
    | false =>
     have HE := Lib.hid hE; clear hE
     go_wp2
     go_ret
     exact ⟨xN (hno.out HE.out).symm, hb2.trans (hb3.mono hb2.size)⟩
  · have hfin : Hid (decide (es = es') = true) := by
     have h := Heq.out
     rw [List.take_of_length_le (by rw [Hlen.out]; omega), List.take_of_length_le (by rw [Hlen'.out]; omega)] at h
     exact decide_eq_true h
    go_wp2
    go_ret
    exact ⟨xN hfin.out.symm, hb⟩
theorem aEs : (Try.prog.info? 99).map (fun i => (i.zero, i.size, i.bytes)) = some (some (.agg #[.string ByteArray.empty, .int .i64 0]), 2, 24) := by kernel_rfl
set_option maxRecDepth 100000 in
theorem aDg (A : Option Addr) (n c : Nat) (es : List Ent) (w : World) (hr : Rd w 2 A n (xg es)) (hm : n ≤ 1048576) :
 Calls Try.prog 30 #[.slice A n c] w fun e w' => ∃ v, e = .returned v ∧ w'.ownsRow w.heap.size 99 2 v n (xg es) ∧ Below w.heap.size w w' := by
 have hlen := hr.len
 have Hlen := Lib.hid hlen; clear hlen
 obtain ⟨i0, hi, hz0, hz1, hz2⟩ := info_parts aEs
 have hmk := fun W => aC9 (P := Try.prog) 31 99 i0 _ Try.underlying31 hi hz0 .i64 .i64 n n (Nat.le_refl _) (by rw [hz2]; omega) (by omega) W
 rw [hz1] at hmk
 have hm' : n ≤ 9223372036854775807 := by omega
 have Hi := Lib.hid hi; clear hi
 clear hz0 hz1 hz2 hm
 go_enter Try.func30, Try.ntmps30
 go_wp2
 have hblk0 : Blk (w.alloc (.cells (madeCells (Value.agg #[Value.string ByteArray.empty, Value.int IntKind.i64 0]).cells (n * 2)) 99)) w.heap.size 99 (madeCells (Value.agg #[Value.string ByteArray.empty, Value.int IntKind.i64 0]).cells (n * 2)) := Blk.new _ _ _
 have HB0 := Lib.hid hblk0; clear hblk0
 have hb0 : Below w.heap.size w (w.alloc (.cells (madeCells (Value.agg #[Value.string ByteArray.empty, Value.int IntKind.i64 0]).cells (n * 2)) 99)) := (Below.refl _ _).alloc (Nat.le_refl _) _
 have HBel := Lib.hid hb0; clear hb0
 generalize hg0 : w.heap.size = g at *
 have Hg0 := Lib.hid hg0; clear hg0
 go_loopw [4] (fun i wr => ∃ (k : Nat) (cs : Array Value), k ≤ n ∧ i = .int .i64 k ∧ Blk wr g 99 cs ∧ cs.size = n * 2 ∧ cs.toList.take (k * 2) = xg (es.take k) ∧ Below g w wr) (fun i _ => n - (intOf i).toNat)
 case atStart => exact ⟨0, _, Nat.zero_le _, rfl, HB0.out, by simp [size_madeCells], by simp [xg], HBel.out⟩
 case round =>
  obtain ⟨k, cs, hk, rfl, hblk, hsz, htk, hb⟩ := hrel
  by_cases hlt : k < n
  · have hke : k < es.length := by rw [Hlen.out]; exact hlt
    obtain ⟨b, off, rfl, hbl, hbl2, hc1, hc2⟩ := hr.ent (by rw [Hg0.out]; exact hb) hke
    have hstep : Hid (xg (es.take (k + 1)) = xg (es.take k) ++ [.string es[k].1, .int .i64 es[k].2]) := by
     rw [List.take_succ_eq_append_getElem hke, aDC]; rfl
    have HT := Lib.hid htk; clear htk
    have HS := Lib.hid hsz; clear hsz
    have HB := Lib.hid hblk; clear hblk
    generalize es[k] = ek at *
    go_wp2_with fail
    refine (aDx _ _ _).mono ?_
    rintro e w1 ⟨rfl, hb1⟩
    have hgl : g < wr.heap.size := HB.out.lt
    have hblk1 : Blk w1 g 99 cs := HB.out.kept hb1
    have hsz' := HS.out
    have hx0 : w1.cell? ⟨g, k * 2, none⟩ = some (cs[k * 2]'(by omega)) := by rw [hblk1.cell]; exact Array.getElem?_eq_getElem (by omega)
    have hx1 : w1.cell? ⟨g, k * 2 + 1, none⟩ = some (cs[k * 2 + 1]'(by omega)) := by rw [hblk1.cell]; exact Array.getElem?_eq_getElem (by omega)
    have hf0 := hblk1.frozen (k * 2)
    have hf1 := hblk1.frozen (k * 2 + 1)
    generalize cs[k * 2]'(by omega) = y0 at *
    generalize cs[k * 2 + 1]'(by omega) = y1 at *
    have HB1 := Lib.hid hblk1; clear hblk1 hsz'
    go_wp2
    go_roundw
    case rel => exact ⟨k + 1, _, by omega, by go_num, (HB1.out.set_ _ _).set_ _ _, by simpa using HS.out, by rw [aGU _ _ _ _ (by have := HS.out; omega), HT.out, hstep.out], ((hb.trans (hb1.mono (by omega))).setCell (Nat.le_refl g) _).setCell (Nat.le_refl g) _⟩
    case measure => simp [intOf]; omega
  · have HT := Lib.hid htk; clear htk
    have HS := Lib.hid hsz; clear hsz
    have HB := Lib.hid hblk; clear hblk
    have hkn : k = n := by omega
    have HKN := Lib.hid hkn; clear hkn
    go_wp2
    go_ret
    exact ⟨_, rfl, HB.out.own (Nat.le_of_eq Hg0.out) (Nat.le_refl _) (by unfold maxLen; omega) HS.out (by have h := HT.out; rw [HKN.out, List.take_of_length_le (l := es) (by rw [Hlen.out]; exact Nat.le_refl _)] at h; exact h), by rw [Hg0.out]; exact hb⟩
theorem aDy (x : Int) (w : World) :
 Calls Try.prog 84 #[.int .i64 x] w fun e w' => e = .returned (.bool (decide (-1000000 ≤ x) && decide (x ≤ 1000000))) ∧ w = w' := by
 go_enter Try.func84, Try.ntmps84
 go_wp2
 all_goals (go_ret; exact ⟨xN (by rw [Bool.eq_iff_iff]; simp; try omega), rfl⟩)
theorem aFj (x a b : Int) (w : World) :
 Calls Try.prog 21 #[.int .i64 x, .int .i64 a, .int .i64 b] w fun e w' => e = .returned (.bool (decide (a ≤ x) && decide (x ≤ b))) ∧ w = w' := by
 go_enter Try.func21, Try.ntmps21
 go_wp2
 all_goals (go_ret; exact ⟨xN (by rw [Bool.eq_iff_iff]; simp; try omega), rfl⟩)
theorem kZ (key : ByteArray) (v : Int) (w : World) :
 Calls Try.prog 108 #[.agg #[.string key, .int .i64 v]] w fun e w' => e = .returned (.string key) ∧ Below w.heap.size w w' := by
 go_enter Try.func108, Try.ntmps108
 go_wp2
 go_ret
 exact ⟨rfl, (Below.refl _ _).alloc (Nat.le_refl _) _⟩
theorem aDv (es : List Ent) (k : Nat) (hke : k < es.length) (hs : es[k].1.size ≤ maxLen) (W : World) :
 Calls Try.prog 70 #[.string es[k].1] W fun e w' => e = .returned (.bool (nm (kAt es k))) ∧ W = w' := by
 rw [qi es k hke]; exact aA3 _ W hs
theorem aFk (es : List Ent) (k : Nat) (hke : k < es.length) (W : World) :
 Calls Try.prog 21 #[.int .i64 es[k].2, .int .i64 (-1000000), .int .i64 1000000] W fun e w' => e = .returned (.bool (zH es k)) ∧ W = w' := by
 have e : zH es k = (decide (-1000000 ≤ es[k].2) && decide (es[k].2 ≤ 1000000)) := by simp [zH, aFR, hke]
 rw [e]; exact aFj _ _ _ _
set_option maxRecDepth 100000 in
theorem aFl (A : Option Addr) (n c : Nat) (es : List Ent) (w : World) (hr : Rd w 2 A n (xg es)) (hm : n ≤ maxLen) (hks : ∀ e ∈ es, e.1.size ≤ maxLen) :
 Calls Try.prog 52 #[.slice A n c] w fun e w' => e = .returned (.bool (yK es)) ∧ Below w.heap.size w w' := by
 unfold maxLen at hm
 have hlen := hr.len
 have Hlen := Lib.hid hlen; clear hlen
 by_cases hbig : 12 < n
 · have hfin : Hid (yK es = false) := aBR (by rw [Hlen.out]; exact hbig)
   go_enter Try.func52, Try.ntmps52
   go_wp2
   go_ret
   exact ⟨xN hfin.out.symm, Below.refl _ _⟩
 have hn12 : n ≤ 12 := by omega
 clear hbig
 go_enter Try.func52, Try.ntmps52
 go_wp2
 go_loopw [3] (fun i wr => ∃ k : Nat, k ≤ n ∧ i = .int .i64 k ∧ (∀ j, j < k → yh es j = true ∧ zH es j = true) ∧ Below w.heap.size w wr) (fun i _ => n - (intOf i).toNat)
 case atStart => exact ⟨0, Nat.zero_le _, rfl, fun j hj => absurd hj (by omega), Below.refl _ _⟩
 case round =>
  obtain ⟨k, hk, rfl, hall, hb⟩ := hrel
  have Hall := Lib.hid hall; clear hall
  by_cases hlt : k < n
  · have hke : k < es.length := by rw [Hlen.out]; exact hlt
    obtain ⟨b, off, rfl, hbl, hbl2, hc1, hc2⟩ := hr.ent hb hke
    have hcall := aDv es k hke (hks _ (List.getElem_mem hke))
    have hcall2 := aFk es k hke
    cases hw : nm (kAt es k) with
    | false =>
     have hfin : Hid (yK es = false) := aA5 hke (by rw [yh, hw]; rfl)
     rw [hw] at hcall
     have Hcall := Lib.hid hcall
     clear hw hcall hcall2
     go_wp2
     go_quiet ((first | (go_at_call 70; exact Calls.quiet_of_same ((Hcall.out _).mono (fun _ _ h => ⟨h.1, h.2.symm⟩)))))
     go_wp2
     go_ret
     exact ⟨xN hfin.out.symm, hb.drewN _⟩
    | true =>
    cases hv : zH es k with
    | false =>
     have hfin : Hid (yK es = false) := aA6 hke hv
     rw [hw] at hcall
     rw [hv] at hcall2
     have Hcall := Lib.hid hcall
     have Hcall2 := Lib.hid hcall2
     clear hw hv hcall hcall2
     go_wp2
     go_quiet ((first | (go_at_call 70; exact Calls.quiet_of_same ((Hcall.out _).mono (fun _ _ h => ⟨h.1, h.2.symm⟩))) | (go_at_call 21; exact Calls.quiet_of_same ((Hcall2.out _).mono (fun _ _ h => ⟨h.1, h.2.symm⟩)))))
     go_wp2
     go_ret
     exact ⟨xN hfin.out.symm, hb.drewN _⟩
    | true =>
    by_cases hk0 : k = 0
    · subst hk0
      have hstep : Hid (∀ j, j < 0 + 1 → yh es j = true ∧ zH es j = true) := fun j hj => by
       have : j = 0 := by omega
       subst this; exact ⟨aBW hw, hv⟩
      rw [hw] at hcall
      rw [hv] at hcall2
      have Hcall := Lib.hid hcall
      have Hcall2 := Lib.hid hcall2
      clear hw hv hcall hcall2
      simp only [Nat.zero_mul, Nat.add_zero] at hc1 hc2
      go_wp2
      go_quiet ((first | (go_at_call 70; exact Calls.quiet_of_same ((Hcall.out _).mono (fun _ _ h => ⟨h.1, h.2.symm⟩))) | (go_at_call 21; exact Calls.quiet_of_same ((Hcall2.out _).mono (fun _ _ h => ⟨h.1, h.2.symm⟩)))))
      go_wp2
      go_roundw
      case rel => exact ⟨0 + 1, by omega, by go_num, hstep.out, hb.drewN _⟩
      case measure => simp [intOf]; omega
    · have hkp : 0 < k := by omega
      have hor := aCR hkp hke hw
      obtain ⟨b', off', he, _, _, hc3, _⟩ := hr.ent hb (show k - 1 < es.length by omega)
      obtain ⟨rfl, rfl⟩ : b = b' ∧ off = off' := by simpa using he
      have ht : (Op.bytesLess es[k].1.toList (es[k - 1]'(by omega)).1.toList || es[k].1.toList == (es[k - 1]'(by omega)).1.toList) = !yh es k := by rw [aIT, hor]
      have hi0 : 0 ≤ (k : Int) - 1 := by omega
      have hi1 : ((k : Int) - 1).toNat = k - 1 := by omega
      have hi2 : (0 : Int) < (k : Int) := by omega
      rw [hw] at hcall
      rw [hv] at hcall2
      have Hcall := Lib.hid hcall
      have Hcall2 := Lib.hid hcall2
      clear hcall hcall2 hk0 he hor
      cases ho : yh es k with
      | false =>
       have hfin : Hid (yK es = false) := aA5 hke ho
       rw [ho] at ht
       clear hw hv ho
       go_wp2
       go_quiet ((first | (go_at_call 70; exact Calls.quiet_of_same ((Hcall.out _).mono (fun _ _ h => ⟨h.1, h.2.symm⟩))) | (go_at_call 21; exact Calls.quiet_of_same ((Hcall2.out _).mono (fun _ _ h => ⟨h.1, h.2.symm⟩)))))
       go_wp2
       go_ret
       exact ⟨xN hfin.out.symm, hb.drewN _⟩
      | true =>
       have hstep : Hid (∀ j, j < k + 1 → yh es j = true ∧ zH es j = true) := fun j hj => by
        rcases Nat.lt_or_ge j k with h | h
        · exact Hall.out j h
        · have : j = k := by omega
          subst this; exact ⟨ho, hv⟩
       rw [ho] at ht
       clear hw hv ho
       go_wp2
       go_quiet ((first | (go_at_call 70; exact Calls.quiet_of_same ((Hcall.out _).mono (fun _ _ h => ⟨h.1, h.2.symm⟩))) | (go_at_call 21; exact Calls.quiet_of_same ((Hcall2.out _).mono (fun _ _ h => ⟨h.1, h.2.symm⟩)))))
       go_wp2
       go_roundw
       case rel => exact ⟨k + 1, by omega, by go_num, hstep.out, hb.drewN _⟩
       case measure => simp [intOf]; omega
  · have hfin : Hid (yK es = true) := aDP (by rw [Hlen.out]; exact hn12) (fun i hi => Hall.out i (by rw [Hlen.out] at hi; omega))
    go_wp2
    go_ret
    exact ⟨xN hfin.out.symm, hb⟩
theorem aEz (a : ByteArray) (x : Int) (w : World) : (method 237 99 (.agg #[.string a, .int .i64 x]) "loop.example/g00737/impl.key").run Try.prog w = .ok (108, .agg #[.string a, .int .i64 x]) w := by kernel_rfl
theorem aFA (es : List Ent) (k : Nat) (hke : k < es.length) (hs : es[k].1.size ≤ maxLen) (W : World) :
 Calls Try.prog 85 #[.string es[k].1] W fun e w' => e = .returned (.bool (nm (kAt es k))) ∧ W = w' := by
 rw [qi es k hke]; exact aBS _ W hs
set_option maxHeartbeats 2000000 in
set_option maxRecDepth 100000 in
theorem aA0 (A : Option Addr) (n c : Nat) (es : List Ent) (w : World) (hr : Rd w 2 A n (xg es)) (hm : n ≤ maxLen) (hks : ∀ e ∈ es, e.1.size ≤ maxLen) :
 Calls Try.prog 83 #[.slice A n c] w fun e w' => e = .returned (.bool (kR es)) ∧ Below w.heap.size w w' := by
 unfold maxLen at hm
 have hlen := hr.len
 have Hlen := Lib.hid hlen; clear hlen
 have hmeth := aEz
 go_enter Try.func83, Try.ntmps83
 go_wp2
 go_loopw [3, 7] (fun _ i wr => ∃ k : Nat, k ≤ n ∧ i = .int .i64 k ∧ (∀ j, j < k → yh es j = true) ∧ Below w.heap.size w wr) (fun _ i _ => n - (intOf i).toNat)
 case atStart => exact ⟨0, Nat.zero_le _, rfl, fun j hj => absurd hj (by omega), Below.refl _ _⟩
 case round =>
  obtain ⟨k, hk, rfl, hall, hb⟩ := hrel
  have Hall := Lib.hid hall; clear hall
  by_cases hlt : k < n
  · have hke : k < es.length := by rw [Hlen.out]; exact hlt
    obtain ⟨b, off, rfl, hbl, hbl2, hc1, hc2⟩ := hr.ent hb hke
    have hcall := aFA es k hke (hks _ (List.getElem_mem hke))
    cases hw : nm (kAt es k) with
    | false =>
     have hfin : Hid (kR es = false) := aAm hke (by rw [yh, hw]; rfl)
     rw [hw] at hcall
     have Hcall := Lib.hid hcall
     clear hw hcall
     go_wp2
     have hcL0 : (wr.alloc (Obj.cells #[Value.string es[k].1, Value.int IntKind.i64 es[k].2] 99)).cell? ⟨wr.heap.size, 0, none⟩ = some (.string es[k].1) := cell_of_row _ _ _ _ _ (0, 0) (heap_alloc_new wr _)
     have hcL1 : (wr.alloc (Obj.cells #[Value.string es[k].1, Value.int IntKind.i64 es[k].2] 99)).cell? ⟨wr.heap.size, 1, none⟩ = some (.int .i64 es[k].2) := cell_of_row _ _ _ _ _ (0, 0) (heap_alloc_new wr _)
     have hpl : wr.heap.size < (wr.alloc (Obj.cells #[Value.string es[k].1, Value.int IntKind.i64 es[k].2] 99)).heap.size := by simp
     have hb2 : Below w.heap.size w (wr.alloc (Obj.cells #[Value.string es[k].1, Value.int IntKind.i64 es[k].2] 99)) := hb.alloc hb.size _
     generalize wr.alloc (Obj.cells #[Value.string es[k].1, Value.int IntKind.i64 es[k].2] 99) = w2 at *
     generalize wr.heap.size = p at *
     have hA0 := fun y : Aft w2 => y.cell hpl hcL0
     have hA1 := fun y : Aft w2 => y.cell hpl hcL1
     refine uS (by kernel_rfl) (by kernel_rfl) ?_
     repeat (go_big_quiet_step ((first | (go_at_call 108; exact Aft.call (kZ _ _ _)) | (go_at_call 85; exact Aft.same (Hcall.out _)))))
     refine wpQuiet_nil ?_
     rintro _ ⟨y, rfl⟩
     have hb3 := aBH hb2 y.below
     generalize y.at_ = w3 at *
     go_wp2
     go_ret
     exact ⟨xN hfin.out.symm, hb3⟩
    | true =>
    rw [hw] at hcall
    have Hcall := Lib.hid hcall
    clear hcall
    by_cases hk0 : k = 0
    · subst hk0
      have hstep : Hid (∀ j, j < 0 + 1 → yh es j = true) := fun j hj => by
       have : j = 0 := by omega
       subst this; exact aBW hw
      clear hw
      simp only [Nat.zero_mul, Nat.add_zero] at hc1 hc2
      go_wp2
      have hcL0 : (wr.alloc (Obj.cells #[Value.string es[0].1, Value.int IntKind.i64 es[0].2] 99)).cell? ⟨wr.heap.size, 0, none⟩ = some (.string es[0].1) := cell_of_row _ _ _ _ _ (0, 0) (heap_alloc_new wr _)
      have hcL1 : (wr.alloc (Obj.cells #[Value.string es[0].1, Value.int IntKind.i64 es[0].2] 99)).cell? ⟨wr.heap.size, 1, none⟩ = some (.int .i64 es[0].2) := cell_of_row _ _ _ _ _ (0, 0) (heap_alloc_new wr _)
      have hpl : wr.heap.size < (wr.alloc (Obj.cells #[Value.string es[0].1, Value.int IntKind.i64 es[0].2] 99)).heap.size := by simp
      have hb2 : Below w.heap.size w (wr.alloc (Obj.cells #[Value.string es[0].1, Value.int IntKind.i64 es[0].2] 99)) := hb.alloc hb.size _
      generalize wr.alloc (Obj.cells #[Value.string es[0].1, Value.int IntKind.i64 es[0].2] 99) = w2 at *
      generalize wr.heap.size = p at *
      have hA0 := fun y : Aft w2 => y.cell hpl hcL0
      have hA1 := fun y : Aft w2 => y.cell hpl hcL1
      refine uS (by kernel_rfl) (by kernel_rfl) ?_
      repeat (go_big_quiet_step ((first | (go_at_call 108; exact Aft.call (kZ _ _ _)) | (go_at_call 85; exact Aft.same (Hcall.out _)))))
      refine wpQuiet_nil ?_
      rintro _ ⟨y, rfl⟩
      have hb3 := aBH hb2 y.below
      generalize y.at_ = w3 at *
      go_wp2
      go_roundw
      case rel => exact ⟨0 + 1, by omega, by go_num, hstep.out, hb3⟩
      case measure => simp [intOf]; omega
    · have hkp : 0 < k := by omega
      have hor := aCR hkp hke hw
      have ht : (!(Op.bytesLess (es[k - 1]'(by omega)).1.toList es[k].1.toList)) = !yh es k := by rw [hor]; rfl
      have hi0 : 0 ≤ (k : Int) - 1 := by omega
      have hi1 : ((k : Int) - 1).toNat = k - 1 := by omega
      have hi2 : (0 : Int) < (k : Int) := by omega
      clear hk0 hor hw
      cases ho : yh es k with
      | false =>
       have hfin : Hid (kR es = false) := aAm hke ho
       rw [ho] at ht
       clear ho
       go_wp2
       have hcL0 : (wr.alloc (Obj.cells #[Value.string es[k].1, Value.int IntKind.i64 es[k].2] 99)).cell? ⟨wr.heap.size, 0, none⟩ = some (.string es[k].1) := cell_of_row _ _ _ _ _ (0, 0) (heap_alloc_new wr _)
       have hcL1 : (wr.alloc (Obj.cells #[Value.string es[k].1, Value.int IntKind.i64 es[k].2] 99)).cell? ⟨wr.heap.size, 1, none⟩ = some (.int .i64 es[k].2) := cell_of_row _ _ _ _ _ (0, 0) (heap_alloc_new wr _)
       have hpl : wr.heap.size < (wr.alloc (Obj.cells #[Value.string es[k].1, Value.int IntKind.i64 es[k].2] 99)).heap.size := by simp
       have hb2 : Below w.heap.size w (wr.alloc (Obj.cells #[Value.string es[k].1, Value.int IntKind.i64 es[k].2] 99)) := hb.alloc hb.size _
       obtain ⟨b', off', he, _, _, hc3, hc4⟩ := hr.ent hb2 (show k - 1 < es.length by omega)
       obtain ⟨rfl, rfl⟩ : b = b' ∧ off = off' := by simpa using he
       have hbl4 := Nat.lt_of_lt_of_le hbl hb2.size
       generalize wr.alloc (Obj.cells #[Value.string es[k].1, Value.int IntKind.i64 es[k].2] 99) = w2 at *
       generalize wr.heap.size = p at *
       have hA0 := fun y : Aft w2 => y.cell hpl hcL0
       have hA1 := fun y : Aft w2 => y.cell hpl hcL1
       have hA3 := fun y : Aft w2 => y.cell hbl4 hc3
       have hA4 := fun y : Aft w2 => y.cell hbl4 hc4
       refine uS (by kernel_rfl) (by kernel_rfl) ?_
       repeat (go_big_quiet_step ((first | (go_at_call 108; exact Aft.call (kZ _ _ _)) | (go_at_call 85; exact Aft.same (Hcall.out _)))))
       refine wpQuiet_nil ?_
       rintro _ ⟨y, rfl⟩
       have hb3 := aBH hb2 y.below
       generalize y.at_ = w3 at *
       go_wp2
       go_ret
       exact ⟨xN hfin.out.symm, hb3⟩
      | true =>
       have hstep : Hid (∀ j, j < k + 1 → yh es j = true) := fun j hj => by
        rcases Nat.lt_or_ge j k with h | h
        · exact Hall.out j h
        · have : j = k := by omega
          subst this; exact ho
       rw [ho] at ht
       clear ho
       go_wp2
       have hcL0 : (wr.alloc (Obj.cells #[Value.string es[k].1, Value.int IntKind.i64 es[k].2] 99)).cell? ⟨wr.heap.size, 0, none⟩ = some (.string es[k].1) := cell_of_row _ _ _ _ _ (0, 0) (heap_alloc_new wr _)
       have hcL1 : (wr.alloc (Obj.cells #[Value.string es[k].1, Value.int IntKind.i64 es[k].2] 99)).cell? ⟨wr.heap.size, 1, none⟩ = some (.int .i64 es[k].2) := cell_of_row _ _ _ _ _ (0, 0) (heap_alloc_new wr _)
       have hpl : wr.heap.size < (wr.alloc (Obj.cells #[Value.string es[k].1, Value.int IntKind.i64 es[k].2] 99)).heap.size := by simp
       have hb2 : Below w.heap.size w (wr.alloc (Obj.cells #[Value.string es[k].1, Value.int IntKind.i64 es[k].2] 99)) := hb.alloc hb.size _
       obtain ⟨b', off', he, _, _, hc3, hc4⟩ := hr.ent hb2 (show k - 1 < es.length by omega)
       obtain ⟨rfl, rfl⟩ : b = b' ∧ off = off' := by simpa using he
       have hbl4 := Nat.lt_of_lt_of_le hbl hb2.size
       generalize wr.alloc (Obj.cells #[Value.string es[k].1, Value.int IntKind.i64 es[k].2] 99) = w2 at *
       generalize wr.heap.size = p at *
       have hA0 := fun y : Aft w2 => y.cell hpl hcL0
       have hA1 := fun y : Aft w2 => y.cell hpl hcL1
       have hA3 := fun y : Aft w2 => y.cell hbl4 hc3
       have hA4 := fun y : Aft w2 => y.cell hbl4 hc4
       refine uS (by kernel_rfl) (by kernel_rfl) ?_
       repeat (go_big_quiet_step ((first | (go_at_call 108; exact Aft.call (kZ _ _ _)) | (go_at_call 85; exact Aft.same (Hcall.out _)))))
       refine wpQuiet_nil ?_
       rintro _ ⟨y, rfl⟩
       have hb3 := aBH hb2 y.below
       generalize y.at_ = w3 at *
       go_wp2
       go_roundw
       case rel => exact ⟨k + 1, by omega, by go_num, hstep.out, hb3⟩
       case measure => simp [intOf]; omega
  · have hfin : Hid (kR es = true) := aEV (fun i hi => Hall.out i (by rw [Hlen.out] at hi; omega))
    go_wp2
    go_ret
    exact ⟨xN hfin.out.symm, hb⟩
theorem aDz (es : List Ent) (k : Nat) (hke : k < es.length) (W : World) :
 Calls Try.prog 84 #[.int .i64 es[k].2] W fun e w' => e = .returned (.bool (zH es k)) ∧ W = w' := by
 have e : zH es k = (decide (-1000000 ≤ es[k].2) && decide (es[k].2 ≤ 1000000)) := by simp [zH, aFR, hke]
 rw [e]; exact aDy _ _
set_option maxHeartbeats 1000000 in
set_option maxRecDepth 100000 in
theorem aC6 (A : Option Addr) (n c : Nat) (es : List Ent) (w : World) (hr : Rd w 2 A n (xg es)) (hm : n ≤ maxLen) (hks : ∀ e ∈ es, e.1.size ≤ maxLen) :
 Calls Try.prog 72 #[.slice A n c] w fun e w' => e = .returned (.bool (yK es)) ∧ Below w.heap.size w w' := by
 have hm' := hm
 unfold maxLen at hm
 have hlen := hr.len
 have Hlen := Lib.hid hlen; clear hlen
 by_cases hbig : 12 < n
 · have hfin : Hid (yK es = false) := aBR (by rw [Hlen.out]; exact hbig)
   go_enter Try.func72, Try.ntmps72
   go_wp2
   go_ret
   exact ⟨xN hfin.out.symm, Below.refl _ _⟩
 have hn12 : n ≤ 12 := by omega
 clear hbig
 cases ho : kR es with
 | false =>
  have hfin : Hid (yK es = false) := by show yK es = false; rw [yK, ho]; simp
  have hcall := aA0 A n c es w hr hm' hks
  rw [ho] at hcall
  have Hcall := Lib.hid hcall
  clear ho hcall
  go_enter Try.func72, Try.ntmps72
  go_wp2_with (go_at_call 83; refine Hcall.out.mono ?_; rintro e w1 ⟨rfl, hb1⟩)
  go_ret
  exact ⟨xN hfin.out.symm, hb1⟩
 | true =>
  have hcall := aA0 A n c es w hr hm' hks
  rw [ho] at hcall
  have Hcall := Lib.hid hcall
  have Ho := Lib.hid ho
  clear ho hcall
  go_enter Try.func72, Try.ntmps72
  go_wp2_with (go_at_call 83; refine Hcall.out.mono ?_; rintro e w1 ⟨rfl, hb1⟩)
  go_loopw [15] (fun i wr => ∃ k : Nat, k ≤ n ∧ i = .int .i64 k ∧ (∀ j, j < k → zH es j = true) ∧ Below w.heap.size w wr) (fun i _ => n - (intOf i).toNat)
  case atStart => exact ⟨0, Nat.zero_le _, rfl, fun j hj => absurd hj (by omega), hb1⟩
  case round =>
   obtain ⟨k, hk, rfl, hall, hb⟩ := hrel
   have Hall := Lib.hid hall; clear hall
   by_cases hlt : k < n
   · have hke : k < es.length := by rw [Hlen.out]; exact hlt
     obtain ⟨b, off, rfl, hbl, hbl2, hc1, hc2⟩ := hr.ent hb hke
     have hcall := aDz es k hke
     cases hv : zH es k with
     | false =>
      have hfin : Hid (yK es = false) := aA6 hke hv
      rw [hv] at hcall
      have Hcall := Lib.hid hcall
      clear hv hcall
      go_wp2_with (go_at_call 84; refine (Hcall.out _).mono ?_; rintro e w1 ⟨rfl, rfl⟩)
      go_ret
      exact ⟨xN hfin.out.symm, hb.alloc hb.size _⟩
     | true =>
      have hstep : Hid (∀ j, j < k + 1 → zH es j = true) := fun j hj => by
       rcases Nat.lt_or_ge j k with h | h
       · exact Hall.out j h
       · have : j = k := by omega
         subst this; exact hv
      rw [hv] at hcall
      have Hcall := Lib.hid hcall
      clear hv hcall
      go_wp2_with (go_at_call 84; refine (Hcall.out _).mono ?_; rintro e w1 ⟨rfl, rfl⟩)
      go_roundw
      case rel => exact ⟨k + 1, by omega, by go_num, hstep.out, hb.alloc hb.size _⟩
      case measure => simp [intOf]; omega
   · have hfin : Hid (yK es = true) := aDP (by rw [Hlen.out]; exact hn12) (fun i hi => ⟨aEU Ho.out hi, Hall.out i (by rw [Hlen.out] at hi; omega)⟩)
     go_wp2
     go_ret
     exact ⟨xN hfin.out.symm, hb⟩
def aEA (e : TypeId) (r : List Ent × Int) (w : World) (e' : Ending) (w' : World) : Prop := ∃ v, e' = .returned (.tuple #[v, .int .i64 r.2]) ∧ w'.ownsRow w.heap.size e 2 v r.1.length (xg r.1) ∧ Below w.heap.size w w'
theorem aEA.mk {e : TypeId} {r : List Ent × Int} {l : List Ent} {c : Int} {v : Value} {w w' : World} (h : r = (l, c)) (ho : w'.ownsRow w.heap.size e 2 v l.length (xg l)) (hb : Below w.heap.size w w') : aEA e r w (.returned (.tuple #[v, .int .i64 c])) w' := ⟨v, by rw [h], by rw [h]; exact ho, hb⟩
theorem Blk.two {w : World} {g : Nat} {t : TypeId} {cs : Array Value} (h : Blk w g t cs) {k : Nat} (hk : k * 2 + 1 < cs.size) :
 ∃ y0 y1, w.cell? ⟨g, k * 2, none⟩ = some y0 ∧ w.cell? ⟨g, k * 2 + 1, none⟩ = some y1 ∧ w.frozen? ⟨g, k * 2, none⟩ = false ∧ w.frozen? ⟨g, k * 2 + 1, none⟩ = false :=
 ⟨_, _, (h.cell _).trans (Array.getElem?_eq_getElem (by omega)), (h.cell _).trans (Array.getElem?_eq_getElem hk), h.frozen _, h.frozen _⟩
instance edt_dec : DecidableEq Edt := fun a b => decidable_of_iff (a.key = b.key ∧ a.val = b.val ∧ a.gone = b.gone) ⟨fun ⟨h1, h2, h3⟩ => by cases a; cases b; simp at *; exact ⟨h1, h2, h3⟩, fun h => by subst h; exact ⟨rfl, rfl, rfl⟩⟩
def aIE : Nat → Int → ByteArray → ByteArray
 | 0, _, t => t
 | f + 1, j, t => if 0 < j then aIE f (j / 10) (strOfNums [48 + j % 10] ++ t) else t
def aIo (k : Int) : ByteArray := if 0 < k then ⟨#[109]⟩ ++ aIE k.toNat k ⟨#[]⟩ else ⟨#[109, 48]⟩
def marked : Nat → Int → List Ent
 | 0, _ => []
 | n + 1, k => (aIo k, k + 1) :: marked n (k + 2)
end Go.Proofs.Ytoaifonjemlfcaa
namespace Go.Proofs.Ytoaifonjemlfcaa.AM
open Go Go.RowKit
def aIc (k : ByteArray) : AV := .v (.string k)
def yV (x : Int) : AV := .v (.int .i64 x)
def zR (e : Ent) : AV := .agg [.v (.string e.1), .v (.int .i64 e.2)]
def aIF (e : Edt) : AV := .agg [.v (.string e.key), .v (.int .i64 e.val), .v (.bool e.gone)]
theorem yM {α : Type} {f : α → AV} (h : ∀ a, xk (f a)) : ∀ l : List α, yc (l.map f)
 | [] => by simp only [List.map_nil]; unfold yc; trivial
 | a :: l => by simp only [List.map_cons]; unfold yc; exact ⟨h a, yM h l⟩
theorem aEM : ∀ ob ∈ ([] : List OB), ve ob := fun ob h => by cases h
theorem aEN {t sz : Nat} {xs : List AV} (h : yc xs) : ∀ ob ∈ [(⟨.s t, sz, xs⟩ : OB)], ve ob := fun ob hm => by rw [List.mem_singleton] at hm; subst hm; exact h
theorem aH1 {t sz t' sz' : Nat} {xs xs' : List AV} (h : yc xs) (h' : yc xs') : ∀ ob ∈ [(⟨.s t, sz, xs⟩ : OB), ⟨.s t', sz', xs'⟩], ve ob := fun ob hm => by
 rcases List.mem_cons.1 hm with rfl | hm
 · exact h
 · exact aEN h' ob hm
theorem aAe (e : Ent) : xk (zR e) := by unfold zR; simp [xk, yc]
theorem aAd (e : Edt) : xk (aIF e) := by unfold aIF; simp [xk, yc]
theorem aAh (e : ByteArray) : xk (aIc e) := by unfold aIc; simp [xk]
section
variable {S : Nat → Prop} {w : World}
theorem jY : ∀ {es : List Ent} {cs : List Value}, RL S w (es.map zR) cs ↔ cs = xg es
 | [], cs => by simp only [List.map_nil]; unfold RL; simp [xg]
 | e :: es, cs => by
  simp only [List.map_cons]
  constructor
  · intro h
    unfold RL at h
    obtain ⟨c1, c2, rfl, h1, h2⟩ := h
    rw [jY.1 h2, ul]
    unfold zR at h1
    simp only [RA, RL] at h1
    obtain ⟨a, b, rfl, ⟨rfl, _⟩, d1, d2, rfl, ⟨rfl, _⟩, rfl⟩ := h1
    rfl
  · intro h
    unfold RL
    refine ⟨[.string e.1, .int .i64 e.2], xg es, by rw [h, ul]; rfl, ?_, jY.2 rfl⟩
    exact aD4 (yx (c1 := [_]) (aAo rfl) (yx (c1 := [_]) (aAo rfl) wR))
theorem aED (es : List Ent) : ∀ x ∈ es.map zR, asz x = 2 := fun x hx => by obtain ⟨e, _, rfl⟩ := List.mem_map.1 hx; rfl
theorem kH {S0 : Nat → Prop} {hp B V} (hS : ∀ b, S0 b → b < w.heap.size) {es : List Ent} {u : Value} (h : RV S0 w hp B V (.lst 2 (es.map zR)) u) : ∃ A c, u = .slice A es.length c ∧ es.length ≤ c ∧ c ≤ maxLen ∧ Rd w 2 A es.length (xg es) := by
 unfold RV at h
 unfold RA at h
 obtain ⟨A, c, e, h1, h2, _, _, h4⟩ := h
 simp only [List.cons.injEq, and_true, List.length_map] at e h1
 refine ⟨A, c, e, h1, h2, by rw [uX], fun hn => ?_⟩
 rcases h4 with h4 | ⟨b, off, us, rfl, hb, hr, hc⟩
 · have := List.map_eq_nil_iff.1 h4; subst this; simp at hn
 · rw [jY.1 hr] at hc
   exact ⟨b, off, rfl, hS b hb, hc⟩
theorem aHD {S0 : Nat → Prop} {hp B V} {x u : Value} (h : RV S0 w hp B V (.v x) u) : u = x := by unfold RV at h; exact h.1
theorem aBn {S0 : Nat → Prop} {hp B V} {x : AV} {us : List Value} (h : RVs S0 w hp B V [x] us) : ∃ u, us = [u] ∧ RV S0 w hp B V x u := by
 unfold RVs at h; obtain ⟨u, us', rfl, h1, h2⟩ := h; unfold RVs at h2; subst h2; exact ⟨u, rfl, h1⟩
theorem aJP {S0 : Nat → Prop} {hp B V} {x : AV} {xs : List AV} {us : List Value} (h : RVs S0 w hp B V (x :: xs) us) : ∃ u us', us = u :: us' ∧ RV S0 w hp B V x u ∧ RVs S0 w hp B V xs us' := by
 unfold RVs at h; exact h
end
section
variable {P : Program} {f : FuncId} {fn : Func} {args : List AV}
theorem vY (hf : P.funcs[f]? = some fn) (hnm : (fn.name == "runtime.NumGoroutine") = false) (hb : fn.body.isNone = false) : ∀ vs w, (callFunc f vs).run P w = .ok (.enter f vs) w := fun vs w => by
 simp only [callFunc, Sem.run_bind, run_program, Result.andThen_ok, hf, hnm, hb]; rfl
theorem aAt {S : Nat → Prop} {w : World} {hp hp' : Nat → Option OB} {B B' : Nat → Nat} {V V' : Nat → Value} {xs : List AV} {vs : List Value} (hn : ∀ l, hp l = none) (h : RVs S w hp B V xs vs) : RVs S w hp' B' V' xs vs :=
 RVs.carry (fun _ h => h) (fun _ _ => rfl) _ _ (fun l _ ob e => by rw [hn] at e; cases e) h
theorem aGN {S : Nat → Prop} {w : World} {hp hp' : Nat → Option OB} {B B' : Nat → Nat} {V V' : Nat → Value} {xs : List AV} {vs : List Value} (hn : yo (fun _ => false) xs = true) (h : RVs S w hp B V xs vs) : RVs S w hp' B' V' xs vs :=
 RVs.carry (fun _ h => h) (fun _ _ => rfl) _ _ (fun l hl ob e => by have := zL _ hn hl; cases this) h
theorem wS {S : Nat → Prop} {w : World} {hp : Nat → Option OB} {B : Nat → Nat} {V : Nat → Value} {T : Nat → Nat → Prop} {lo : Nat → Prop} (hn : ∀ l, hp l = none) : Rows S w hp (fun _ => none) B V T lo :=
 ⟨fun l ob e => (by rw [hn] at e; cases e), fun l ob g e => (by rw [hn] at e; cases e), fun l ob g e => (by rw [hn] at e; cases e), fun l l' o1 o2 g e => (by rw [hn] at e; cases e), fun l es e => (by cases e)⟩
theorem aAN (l : Nat) : zC [] l = none := by simp [zC]
theorem aGo {w : World} {b t sz n : Nat} {v : Value} {cs : List Value} (h : w.ownsRow b t sz v n cs) : w.ownsRow 0 t sz v n cs := by
 refine ⟨h.1, ?_⟩
 rcases h.2 with k | ⟨g, cap, cur, e, hb, r⟩
 · exact .inl k
 · exact .inr ⟨g, cap, cur, e, Nat.zero_le _, r⟩
theorem aFc {a b : World} {M M' : Nat → Prop} (h : Grown a b M) (hs : ∀ g, M g → M' g) : Grown a b M' := ⟨h.os, h.tape, h.output, h.size, fun k hk hn => h.block k hk (fun e => hn (hs k e))⟩
theorem qO {r : Value} (hent : ∀ vs w, (callFunc f vs).run P w = .ok (.enter f vs) w) (h1 : r.oneCell' = true)
 (h : ∀ (w : World) (S0 : Nat → Prop) (vs : List Value), (∀ b, S0 b → b < w.heap.size) → RVs S0 w (fun _ => none) (fun _ => 0) (fun _ => undef) args vs → Calls P f vs.toArray w fun e w' => e = .returned r ∧ Below w.heap.size w w') : AC P f args ⟨.v r, []⟩ :=
 ⟨hent, fun w S0 B0 V0 T0 vs hS _ _ hv => (h w S0 vs hS (aAt (fun _ => rfl) hv)).mono fun e w' ⟨he, hb⟩ => ⟨r, S0, fun _ => 0, fun _ => undef, fun _ => Fa, fun _ => Fa, he, Grown.of hb _, fun _ h => h, fun b hb' => ⟨Nat.lt_of_lt_of_le (hS b hb') hb.size, .inl hb'⟩, by unfold RV; exact ⟨rfl, h1⟩, wS aAN, wS (fun _ => rfl), fun l l' ob ob' g e => (by rw [aAN] at e; cases e)⟩⟩
theorem aGw {S : Nat → Prop} {w' : World} {base : Nat} {t sz : Nat} {xs : List AV} {v : Value} {cs : List Value} {lo : Nat → Prop} (hlo : ∀ g, base ≤ g → lo g) (hS : ∀ b, S b → b < base) (ho : w'.ownsRow base t sz v xs.length cs) (ha : ∀ x ∈ xs, asz x = sz) (h0 : 0 < sz) (hr : RL S w' xs cs) : Rows S w' (zC [⟨.s t, sz, xs⟩]) (fun _ => none) (fun _ => (v.ownBlock).getD 0) (fun _ => v) (fun _ => Fa) lo := by
 have h0' : ∀ l ob, zC [(⟨.s t, sz, xs⟩ : OB)] l = some ob → l = 0 ∧ ob = ⟨.s t, sz, xs⟩ := fun l ob e => by
  cases l with
  | zero => simp [zC] at e; exact ⟨rfl, e.symm⟩
  | succ l => simp [zC] at e
 refine ⟨fun l ob e => ?_, fun l ob g e hb => ?_, fun l ob g e _ hb => hb.elim, fun l l' o1 o2 g e1 e2 _ _ => ?_, fun l es e => by cases e⟩
 · obtain ⟨rfl, rfl⟩ := h0' l ob e
   exact ⟨t, cs, ⟨fun t' e => by cases e; rfl, trivial⟩, hr, ha, h0, aGo ho, fun g hg => by rw [hg]; rfl⟩
 · rcases hb with hb | hb
   · have := ho.lt g hb
     exact ⟨fun hs => by have := hS g hs; omega, this.2, hlo g this.1⟩
   · exact hb.elim
 · rw [(h0' l o1 e1).1, (h0' l' o2 e2).1]
theorem aHn {e : TypeId} {sz : Nat} {xs : List AV} {cs : List Value} (hent : ∀ vs w, (callFunc f vs).run P w = .ok (.enter f vs) w) (ha : ∀ x ∈ xs, asz x = sz) (h0 : 0 < sz) (hr : ∀ S w, RL S w xs cs)
 (h : ∀ (w : World) (S0 : Nat → Prop) (vs : List Value), (∀ b, S0 b → b < w.heap.size) → RVs S0 w (fun _ => none) (fun _ => 0) (fun _ => undef) args vs → Calls P f vs.toArray w fun en w' => ∃ v, en = .returned v ∧ w'.ownsRow w.heap.size e sz v xs.length cs ∧ Below w.heap.size w w') : AC P f args ⟨.own 0, [⟨.s e, sz, xs⟩]⟩ :=
 ⟨hent, fun w S0 B0 V0 T0 vs hS _ _ hv => (h w S0 vs hS (aAt (fun _ => rfl) hv)).mono fun en w' ⟨v, he, ho, hb⟩ =>
  ⟨v, S0, fun _ => (v.ownBlock).getD 0, fun _ => v, fun _ => Fa, fun _ => Fa, he, Grown.of hb _, fun _ h => h, fun b hb' => ⟨Nat.lt_of_lt_of_le (hS b hb') hb.size, .inl hb'⟩, by unfold RV; exact ⟨⟨_, rfl⟩, rfl⟩, aGw (fun g hg => .inl hg) hS ho ha h0 (hr _ _), wS (fun _ => rfl), fun l l' ob ob' g _ e => by cases e⟩⟩
end
theorem aIN : ∀ vs w, (callFunc 52 vs).run Try.prog w = .ok (.enter 52 vs) w := vY Try.func52 (by kernel_rfl) (by kernel_rfl)
theorem aIP : ∀ vs w, (callFunc 72 vs).run Try.prog w = .ok (.enter 72 vs) w := vY Try.func72 (by kernel_rfl) (by kernel_rfl)
theorem aIJ : ∀ vs w, (callFunc 30 vs).run Try.prog w = .ok (.enter 30 vs) w := vY Try.func30 (by kernel_rfl) (by kernel_rfl)
theorem aIK : ∀ vs w, (callFunc 34 vs).run Try.prog w = .ok (.enter 34 vs) w := vY Try.func34 (by kernel_rfl) (by kernel_rfl)
theorem aCl {es : List Ent} (hm : es.length ≤ maxLen) (hk : ∀ e ∈ es, e.1.size ≤ maxLen) : AC Try.prog 52 [.lst 2 (es.map zR)] ⟨.v (.bool (yK es)), []⟩ :=
 qO aIN rfl fun w S0 vs hS hv => by
  obtain ⟨u, rfl, h1⟩ := aBn hv
  obtain ⟨A, c, rfl, _, _, hr⟩ := kH hS h1
  exact aFl A es.length c es w hr hm hk
theorem aCj {es : List Ent} (hm : es.length ≤ maxLen) (hk : ∀ e ∈ es, e.1.size ≤ maxLen) : AC Try.prog 72 [.lst 2 (es.map zR)] ⟨.v (.bool (yK es)), []⟩ :=
 qO aIP rfl fun w S0 vs hS hv => by
  obtain ⟨u, rfl, h1⟩ := aBn hv
  obtain ⟨A, c, rfl, _, _, hr⟩ := kH hS h1
  exact aC6 A es.length c es w hr hm hk
theorem vS {es : List Ent} {b : Bool} (hb : yK es = b) (hm : es.length ≤ maxLen) (hk : ∀ e ∈ es, e.1.size ≤ maxLen) : AC Try.prog 52 [.lst 2 (es.map zR)] ⟨.v (.bool b), []⟩ := hb ▸ aCl hm hk
theorem aDq {es : List Ent} (hm : es.length ≤ 1048576) : AC Try.prog 30 [.lst 2 (es.map zR)] ⟨.own 0, [⟨99, 2, es.map zR⟩]⟩ :=
 aHn (cs := xg es) aIJ (aED _) (by omega) (fun S w => jY.2 rfl) fun w S0 vs hS hv => by
  obtain ⟨u, rfl, h1⟩ := aBn hv
  obtain ⟨A, c, rfl, _, _, hr⟩ := kH hS h1
  rw [List.length_map]
  exact aDg A _ c es w hr hm
theorem aDk {es es' : List Ent} (hm : es.length ≤ maxLen) (hm' : es'.length ≤ maxLen) : AC Try.prog 34 [.lst 2 (es.map zR), .lst 2 (es'.map zR)] ⟨.v (.bool (decide (es = es'))), []⟩ :=
 qO aIK rfl fun w S0 vs hS hv => by
  obtain ⟨u, us, rfl, h1, hv⟩ := aJP hv
  obtain ⟨u', rfl, h2⟩ := aBn hv
  obtain ⟨A, c, rfl, _, _, hr⟩ := kH hS h1
  obtain ⟨A', c', rfl, _, _, hr'⟩ := kH hS h2
  exact aDD A _ c es A' _ c' es' w hr hr' hm hm'
def szF {α : Type} (g : α → Nat) : List α → Int → Int
 | [], l => l
 | e :: es, l => if l - g e < 0 then -1 else szF g es (l - g e)
def szL {α : Type} (g : α → Nat) (es : List α) (l : Int) : Int := if l - es.length < 0 then -1 else szF g es (l - es.length)
theorem aGS {α : Type} {g : α → Nat} : ∀ {es : List α} {l : Int}, 0 ≤ szF g es l → szF g es l ≤ l ∧ ∀ e ∈ es, (g e : Int) ≤ l
 | [], l, h => ⟨Int.le_refl _, by simp⟩
 | e :: es, l, h => by
  unfold szF at h ⊢
  split at h
  · omega
  · rename_i hn
    rw [if_neg hn]
    obtain ⟨h1, h2⟩ := aGS h
    refine ⟨by omega, fun x hx => ?_⟩
    rcases List.mem_cons.1 hx with rfl | hx
    · omega
    · have := h2 x hx; omega
theorem aGT {α : Type} {g : α → Nat} {es : List α} {l : Int} (h : 0 ≤ szL g es l) : szL g es l ≤ l ∧ (es.length : Int) ≤ l ∧ ∀ e ∈ es, (g e : Int) ≤ l := by
 unfold szL at h ⊢
 split at h
 · omega
 · rename_i hn
   rw [if_neg hn]
   obtain ⟨h1, h2⟩ := aGS h
   exact ⟨by omega, by omega, fun e he => by have := h2 e he; omega⟩
abbrev eSz (e : Ent) : Nat := e.1.size
attribute [local irreducible] xM xO yD yu zU Pre ACG
theorem aAx {e : Ent} {l : Int} (hk : e.1.size ≤ maxLen) (h0 : 0 ≤ l) (h1 : l ≤ 1048576) : AC Try.prog 51 [zR e, .v (.int .i64 l)] ⟨.v (.int .i64 (if l - e.1.size < 0 then -1 else l - e.1.size)), []⟩ := by
 unfold maxLen at hk
 by_cases hn : l - e.1.size < 0
 · rw [if_pos hn]
   refine qrf Try.func51 Try.ntmps51 Try.results51 ?_; conv => whnf
   repeat ((refine qz ?_; conv => whnf))
   exact xA rfl trivial
 · rw [if_neg hn]
   refine qrf Try.func51 Try.ntmps51 Try.results51 ?_; conv => whnf
   repeat ((refine qz ?_; conv => whnf))
   exact xA rfl trivial
theorem aDd {α : Type} {g : α → Nat} {es : List α} {k : Nat} {l : Int} (h : k < es.length) : szF g (es.drop k) l = if l - g es[k] < 0 then -1 else szF g (es.drop (k + 1)) (l - g es[k]) := by
 rw [List.drop_eq_getElem_cons h, szF]
theorem aAY {es : List Ent} {l : Int} (hm : es.length ≤ maxLen) (hk : ∀ e ∈ es, e.1.size ≤ maxLen) (h0 : 0 ≤ l) (h1 : l ≤ 1048576) : AC Try.prog 26 [.lst 2 (es.map zR), .v (.int .i64 l)] ⟨.v (.int .i64 (szL eSz es l)), []⟩ := by
 unfold maxLen at hm
 by_cases hn : l - es.length < 0
 · rw [szL, if_pos hn]
   refine qrf Try.func26 Try.ntmps26 Try.results26 ?_; conv => whnf
   repeat ((refine qz ?_; conv => whnf))
   exact xA rfl trivial
 · rw [szL, if_neg hn]
   refine qrf Try.func26 Try.ntmps26 Try.results26 ?_; conv => whnf
   repeat ((refine qz ?_; conv => whnf))
   refine xX (ι := { p : Nat × Int // p.1 ≤ es.length ∧ 0 ≤ p.2 ∧ p.2 ≤ l ∧ szF eSz (es.drop p.1) p.2 = szF eSz es (l - es.length) }) (fun p => ⟨[(0, .lst 2 (es.map zR)), (1, .v (.int .i64 p.1.2)), (5, .v (.int .i64 (p.1.1 : Int)))], []⟩) (fun p => es.length - p.1.1) ⟨(0, l - es.length), by simp, by omega, by omega, rfl⟩ (by exact qle) ?_
   rintro ⟨⟨k, cur⟩, hkl, hc0, hc1, hsz⟩
   simp only at hkl hc0 hc1 hsz ⊢
   conv => whnf
   by_cases hlt : k < es.length
   · have hd := aDd (g := eSz) (l := cur) hlt
     rw [hsz] at hd
     by_cases hneg : cur - (es[k]).1.size < 0
     · rw [if_pos hneg] at hd
       rw [hd]
       repeat (first | (refine qz ?_; conv => whnf) | (refine qp (ql (aAx (hk _ (List.getElem_mem hlt)) (by omega) (by omega)) rfl (.inl rfl) trivial rfl rfl) ?_; rw [if_pos hneg]; conv => whnf))
       exact xA rfl trivial
     · rw [if_neg hneg] at hd
       repeat (first | (refine qz ?_; conv => whnf) | (refine qp (ql (aAx (hk _ (List.getElem_mem hlt)) (by omega) (by omega)) rfl (.inl rfl) trivial rfl rfl) ?_; rw [if_neg hneg]; conv => whnf))
       exact ⟨⟨(k + 1, cur - (es[k]).1.size), by simp; omega, by omega, by omega, hd.symm⟩, by exact qle, by simp; omega⟩
   · have hkk : k = es.length := by omega
     rw [hkk, List.drop_length] at hsz
     rw [← hsz]
     repeat ((refine qz ?_; conv => whnf))
     exact xA rfl trivial
end Go.Proofs.Ytoaifonjemlfcaa.AM
namespace Go.Proofs.Ytoaifonjemlfcaa.AM
open Go Go.RowKit
section
variable {P : Program} {t : TypeId} {x y : Operand} {a b : ByteArray}
theorem aAF (h : a = b) : yS P .neq t x y (.string a) (.string b) (.bool false) := aCb fun w => by simp [Op.stringOp, h]
theorem aEF (h : a = b) : yS P .eql t x y (.string a) (.string b) (.bool true) := aCb fun w => by simp [Op.stringOp, h]
theorem aEE (h : a ≠ b) : yS P .eql t x y (.string a) (.string b) (.bool false) := aCb fun w => by simp [Op.stringOp, qI, h]
end
attribute [local irreducible] xM xO yD yu zU Pre ACG
end Go.Proofs.Ytoaifonjemlfcaa.AM
namespace Go.Proofs.Ytoaifonjemlfcaa.AM
open Go Go.RowKit
def aBa (b : UInt8) : AV := .v (.int .u8 b.toNat)
theorem aE0 {S : Nat → Prop} {w : World} : ∀ {l : List UInt8} {cs : List Value}, RL S w (l.map aBa) cs → cs = l.map fun b => .int .u8 b.toNat
 | [], cs, h => by simp only [List.map_nil] at h; unfold RL at h; exact h
 | x :: l, cs, h => by
  simp only [List.map_cons] at h
  unfold RL at h
  obtain ⟨c1, c2, rfl, h1, h2⟩ := h
  rw [aE0 h2]
  unfold aBa RA at h1
  rw [h1.1]; rfl
section
variable {P : Program} {t : TypeId} {x y : Operand} {a b c : Int}
theorem aCu (h0 : 0 ≤ a) (hb : 0 < b) (hc : a % b = c) : yS P .rem t x y (.int .i64 a) (.int .i64 b) (.int .i64 c) := fun w => by
 have hb0 : b ≠ 0 := by omega
 have hr : (Op.intDiv .rem .i64 a b).run P w = .ok (.int .i64 (a.tmod b)) w := by simp [Op.intDiv, hb0]
 subst hc
 rw [← Int.tmod_eq_emod_of_nonneg h0]
 simp [eqGuard, binOp, hr]
theorem aIA (h0 : 0 ≤ a) (h1 : a ≤ 9223372036854775807) (hb : 1 < b) (hc : a / b = c) : yS P .quo t x y (.int .i64 a) (.int .i64 b) (.int .i64 c) := fun w => by
 have hb0 : b ≠ 0 := by omega
 have hle : a / b ≤ a := Int.ediv_le_self b h0
 have hnn : 0 ≤ a / b := Int.ediv_nonneg h0 (by omega)
 have hw : IntKind.i64.wrap (a.tdiv b) = c := by rw [Int.tdiv_eq_ediv_of_nonneg h0, IntKind.wrap_i64, hc]; omega
 have hr : (Op.intDiv .quo .i64 a b).run P w = .ok (.int .i64 c) w := by simp [Op.intDiv, hb0, hw]
 simp [eqGuard, binOp, hr]
theorem jO (h : a * b = c) (hl : -9223372036854775808 ≤ c) (hu : c ≤ 9223372036854775807) : yS P .mul t x y (.int .i64 a) (.int .i64 b) (.int .i64 c) := fun w => by
 have hw : IntKind.i64.wrap (a * b) = c := by rw [IntKind.wrap_i64, h]; omega
 simp [eqGuard, binOp, Op.intArith, hw]
theorem wm {a b : ByteArray} (h : a.size + b.size ≤ 9223372036854775807) : yS P .add t x y (.string a) (.string b) (.string (a ++ b)) := aCb fun w => by
 unfold Op.stringOp
 have : ¬ ((((a.size + b.size : Nat) : Int)) > IntKind.i64.max) := by
  have e : IntKind.i64.max = 9223372036854775807 := by decide
  rw [e]; omega
 simp only [this, if_false]; rfl
end
section
variable {Θ : Tab} {s : St} {d : Option Tmp} {ty : TypeId} {pos : String} {after : Array Edge} {g : Option (Nat × Bool)}
theorem aHK {x : Operand} {n : Nat} (hx : s.ev x = .v (.int .u8 (n : Int))) (hn : n < 256) : Pre Try.prog Θ ⟨d, .convert 5 3 x, ty, pos, after, g⟩ s ⟨.v (.int .i64 (n : Int)), none⟩ :=
 aHJ (fun w => by
  have hw : IntKind.i64.wrap (n : Int) = n := by rw [IntKind.wrap_i64]; omega
  have h1 : (underlying 5).run Try.prog w = .ok (.int .u8) w := run_underlying Try.underlying5 w
  have h2 : (underlying 3).run Try.prog w = .ok (.int .i64) w := run_underlying Try.underlying3 w
  simp [convert, h1, h2, Conv.intToInt, hw]) hx rfl
theorem aCd {x : Operand} {n : Int} {b : UInt8} (hb : n = (b.toNat : Int)) (hx : s.ev x = .v (.int .i64 n)) : Pre Try.prog Θ ⟨d, .convert 3 5 x, ty, pos, after, g⟩ s ⟨.v (.int .u8 (b.toNat : Int)), none⟩ :=
 aHJ (fun w => by
  have hlt := b.toNat_lt
  subst hb
  have hw : IntKind.u8.wrap (b.toNat : Int) = b.toNat := by rw [IntKind.wrap_u8]; omega
  have h1 : (underlying 5).run Try.prog w = .ok (.int .u8) w := run_underlying Try.underlying5 w
  have h2 : (underlying 3).run Try.prog w = .ok (.int .i64) w := run_underlying Try.underlying3 w
  simp [convert, h1, h2, Conv.intToInt, hw]) hx rfl
theorem aFs (l : List UInt8) : strOfNums (l.map fun b => ((b.toNat : Nat) : Int)) = ⟨l.toArray⟩ := by
 unfold strOfNums
 congr 2
 rw [List.map_map]
 have : ((fun n : Int => UInt8.ofNat n.toNat) ∘ fun b : UInt8 => ((b.toNat : Nat) : Int)) = id := by
  funext b; simp
 rw [this, List.map_id]
theorem aFb (l : List UInt8) : aEe Try.prog 56 9 (.lst 1 (l.map aBa)) (.string ⟨l.toArray⟩) := by
 intro S w hp B V u h
 unfold RV RA at h
 obtain ⟨A, c, e, h1, h2, _, _, h4⟩ := h
 simp only [List.cons.injEq, and_true, List.length_map] at e h1
 subst e
 rcases h4 with h4 | ⟨b, off, us, rfl, hb, hr, hc⟩
 · have h0 := List.map_eq_nil_iff.1 h4
   subst h0
   cases A with
   | none => exact run_convert_bytes_nil w 56 5 Try.underlying56 Try.underlying5 _ _ 9 Try.underlying9
   | some a =>
    rw [run_convert_bytes_string w 56 9 5 _ _ _ Try.underlying56 Try.underlying5 Try.underlying9, run_bytesToString w a _ c [] (by rfl)]
    rfl
 · have hus := aE0 hr
   rw [← aFs]
   refine run_convert_bytes_arg w 56 5 Try.underlying56 Try.underlying5 b off l.length c (l.map fun b => ((b.toNat : Nat) : Int)) (by simp) (fun i hi => ?_) 9 Try.underlying9
   have := hc i (.int .u8 ((l[i]).toNat : Int)) (by rw [hus]; simp [hi])
   rw [this]
   simp [List.getD, hi]
end
end Go.Proofs.Ytoaifonjemlfcaa.AM
namespace Go.Proofs.Ytoaifonjemlfcaa
open Go.RowKit
def aHm (e : TypeId) (r : List Edt × Int) (w : World) (e' : Ending) (w' : World) : Prop := ∃ v, e' = .returned (.tuple #[v, .int .i64 r.2]) ∧ w'.ownsRow w.heap.size e 3 v r.1.length (aHF r.1) ∧ Below w.heap.size w w'
theorem aHm.mk {e : TypeId} {r : List Edt × Int} {l : List Edt} {c : Int} {v : Value} {w w' : World} (h : r = (l, c)) (ho : w'.ownsRow w.heap.size e 3 v l.length (aHF l)) (hb : Below w.heap.size w w') : aHm e r w (.returned (.tuple #[v, .int .i64 c])) w' := ⟨v, by rw [h], by rw [h]; exact ho, hb⟩
end Go.Proofs.Ytoaifonjemlfcaa
namespace Go.Proofs.Ytoaifonjemlfcaa.AM
open Go Go.RowKit
attribute [local irreducible] xM xO yD yu zU Pre ACG
theorem aAc {α : Type} (l : List α) (z : α) (k : Nat) (h : k < l.length) : (l.take k ++ List.replicate (l.length - k) z).set k l[k] = l.take (k + 1) ++ List.replicate (l.length - (k + 1)) z := by
 have h1 : l.length - k = (l.length - (k + 1)) + 1 := by omega
 rw [h1, List.replicate_succ, List.set_append_right _ _ (by simp; omega), List.take_succ_eq_append_getElem h, List.append_assoc]
 have : k - (l.take k).length = 0 := by simp; omega
 rw [this]; rfl
end Go.Proofs.Ytoaifonjemlfcaa.AM
