/- Texts of the machine over data, folded. -/
import Derived.Test.YtkfllfhcjegfoaaGreatDoorKq6
import Derived.Laws.CopyOwn
namespace Go.Proofs.YtkfllfhcjegfoaaGreatDoor
open Go.RowKit
namespace Nm
def letter (c : Int) : Bool := (decide (97 ≤ c) && decide (c ≤ 122)) || (decide (65 ≤ c) && decide (c ≤ 90)) || decide (c = 95)
def digit (c : Int) : Bool := decide (48 ≤ c) && decide (c ≤ 57)
def lettersFrom (l : List UInt8) : Bool := l.all fun c => letter c.toNat || digit c.toNat
def nameOK (l : List UInt8) : Bool :=
 match l with
 | [] => false
 | c :: r => decide (r.length < 12) && letter c.toNat && lettersFrom r
theorem aOO (c : Int) (h : letter c = true) : digit c = false := by
 simp [letter, digit] at *; omega
end Nm
theorem aB1 (c : Int) (w : World) :
 Calls Tryz.prog 138 #[.int .u8 c] w fun e w' => e = .returned (.bool (Nm.letter c)) ∧ w = w' := by
 go_enter Tryz.func138, Tryz.ntmps138
 go_wp2
 all_goals (go_ret; exact ⟨xQ (by rw [Bool.eq_iff_iff]; simp [Nm.letter]; try omega), rfl⟩)
theorem aBq (c : Int) (w : World) :
 Calls Tryz.prog 137 #[.int .u8 c] w fun e w' => e = .returned (.bool (Nm.digit c)) ∧ w = w' := by
 go_enter Tryz.func137, Tryz.ntmps137
 go_wp2
 all_goals (go_ret; exact ⟨xQ (by rw [Bool.eq_iff_iff]; simp [Nm.digit]; try omega), rfl⟩)
theorem aAf (c : Int) (w : World) :
 Calls Tryz.prog 99 #[.int .u8 c] w fun e w' => e = .returned (.bool (Nm.letter c)) ∧ w = w' := by
 go_enter Tryz.func99, Tryz.ntmps99
 go_wp2
 all_goals (go_ret; exact ⟨xQ (by rw [Bool.eq_iff_iff]; simp [Nm.letter]; try omega), rfl⟩)
theorem aJE (c : Int) (w : World) :
 Calls Tryz.prog 100 #[.int .u8 c] w fun e w' => e = .returned (.bool (Nm.digit c)) ∧ w = w' := by
 go_enter Tryz.func100, Tryz.ntmps100
 go_wp2
 all_goals (go_ret; exact ⟨xQ (by rw [Bool.eq_iff_iff]; simp [Nm.digit]; try omega), rfl⟩)
namespace Nm
def okc (c : UInt8) : Bool := letter c.toNat || digit c.toNat
theorem lettersFrom_take (l : List UInt8) (k : Nat) (h : k < l.length) : lettersFrom (l.take (k + 1)) = (lettersFrom (l.take k) && okc l[k]) := by
 unfold lettersFrom okc; rw [List.take_succ_eq_append_getElem h, List.all_append]; simp
theorem lettersFrom_bad (l : List UInt8) (k : Nat) (h : k < l.length) (hb : okc l[k] = false) : lettersFrom l = false := by
 rw [lettersFrom, List.all_eq_false]
 exact ⟨l[k], List.getElem_mem h, by simp only [okc] at hb; simp [hb]⟩
theorem nameOK_eq (l : List UInt8) (h0 : 0 < l.length) (h1 : l.length ≤ 12) : nameOK l = (letter l[0].toNat && lettersFrom l) := by
 match l, h0 with
 | c :: r, _ =>
  have : r.length < 12 := by simp at h1; omega
  simp [nameOK, this, lettersFrom]
  cases letter c.toNat <;> simp
theorem aRL : nameOK [] = false := rfl
theorem nameOK_long (l : List UInt8) (h : 12 < l.length) : nameOK l = false := by
 match l with
 | c :: r =>
  have : ¬ r.length < 12 := by simp at h; omega
  simp [nameOK, this]
theorem aEP (c : Int) (h : digit c = true) : letter c = false := by
 simp [letter, digit] at *; omega
theorem nameOK_digit (l : List UInt8) (h0 : 0 < l.length) (hd : digit l[0].toNat = true) : nameOK l = false := by
 match l, h0 with
 | c :: r, _ =>
  have hd' : letter c.toNat = false := aEP _ hd
  simp [nameOK, hd']
theorem nameOK_letters (l : List UInt8) (h0 : 0 < l.length) (h1 : l.length ≤ 12) (hd : digit l[0].toNat = false) : nameOK l = lettersFrom l := by
 rw [nameOK_eq l h0 h1]
 cases h : letter l[0].toNat with
 | true => rfl
 | false => exact (lettersFrom_bad l 0 h0 (by simp [okc, h, hd])).symm
end Nm
set_option maxHeartbeats 400000 in
theorem aCj (s : ByteArray) (w : World) (hs : s.size ≤ maxLen) :
 Calls Tryz.prog 114 #[.string s] w fun e w' => e = .returned (.bool (Nm.nameOK s.data.toList)) ∧ w = w' := by
 unfold maxLen at hs
 have hl : s.data.toList.length = s.size := by simp
 by_cases h0 : s.size = 0
 · have : s = ByteArray.empty := by simpa using h0
   subst this
   go_enter Tryz.func114, Tryz.ntmps114
   go_wp2
   go_ret
   exact ⟨rfl, rfl⟩
 by_cases h1 : 12 < s.size
 · go_enter Tryz.func114, Tryz.ntmps114
   go_wp2
   go_ret
   exact ⟨xQ (Nm.nameOK_long _ (by omega)).symm, rfl⟩
 have e0 : ((s.size : Int) == 0) = false := beq_eq_false_iff_ne.2 (by omega)
 have e1 : decide ((12 : Int) < s.size) = false := decide_eq_false (by omega)
 have p0 : 0 < s.size := by omega
 cases hd : Nm.digit s[0].toNat with
 | true =>
  have hfin : Nm.nameOK s.data.toList = false := Nm.nameOK_digit _ (by rw [hl]; exact p0) hd
  have Hf := Lib.hid hfin; clear hfin
  go_enter Tryz.func114, Tryz.ntmps114
  go_wp2_with (first | (go_at_call 137; refine (aBq _ _).mono ?_; rintro e w' ⟨rfl, rfl⟩) | (go_at_call 138; refine (aB1 _ _).mono ?_; rintro e w' ⟨rfl, rfl⟩))
  go_ret
  exact ⟨xQ Hf.out.symm, rfl⟩
 | false =>
  have hfin : Nm.nameOK s.data.toList = Nm.lettersFrom s.data.toList := Nm.nameOK_letters _ (by rw [hl]; exact p0) (by omega) hd
  have Hf := Lib.hid hfin; clear hfin
  have h1' : s.size ≤ 12 := by omega
  clear h1
  go_enter Tryz.func114, Tryz.ntmps114
  go_wp2_with (first | (go_at_call 137; refine (aBq _ _).mono ?_; rintro e w' ⟨rfl, rfl⟩) | (go_at_call 138; refine (aB1 _ _).mono ?_; rintro e w' ⟨rfl, rfl⟩))
  go_loop [3] (fun i => ∃ k : Nat, k ≤ s.size ∧ i = .int .i64 k ∧ Nm.lettersFrom (s.data.toList.take k) = true) (fun i => s.size - (intOf i).toNat)
  case atStart => exact ⟨0, Nat.zero_le _, rfl, rfl⟩
  case round =>
   obtain ⟨k, hk, rfl, hr⟩ := hrel
   have Hr := Lib.hid hr; clear hr
   by_cases hlt : k < s.size
   · have hst : Hid (Nm.lettersFrom (s.data.toList.take (k + 1)) = (Nm.lettersFrom (s.data.toList.take k) && Nm.okc s[k])) := Nm.lettersFrom_take _ k (by omega)
     have hbad : Hid (Nm.okc s[k] = false → Nm.lettersFrom s.data.toList = false) := fun h => Nm.lettersFrom_bad _ k (by omega) h
     have hok : Nm.okc s[k] = (Nm.letter s[k].toNat || Nm.digit s[k].toNat) := rfl
     have Hok := Lib.hid hok; clear hok
     go_wp2_with (first | (go_at_call 137; refine (aBq _ _).mono ?_; rintro e w' ⟨rfl, rfl⟩) | (go_at_call 138; refine (aB1 _ _).mono ?_; rintro e w' ⟨rfl, rfl⟩))
     · go_round
       case rel => exact ⟨k + 1, by omega, by go_num, by rw [hst.out, Hr.out, Hok.out]; simp [*]⟩
       case measure => simp [intOf]; omega
     · go_ret
       exact ⟨xQ (by rw [Hf.out, hbad.out]; rw [Hok.out]; simp_all), rfl⟩
     · go_round
       case rel => exact ⟨k + 1, by omega, by go_num, by rw [hst.out, Hr.out, Hok.out]; simp_all⟩
       case measure => simp [intOf]; omega
   · go_wp2
     go_ret
     exact ⟨xQ (by rw [Hf.out]; have := Hr.out; rw [List.take_of_length_le (by omega)] at this; exact this.symm), rfl⟩
set_option maxHeartbeats 400000 in
theorem aBn (s : ByteArray) (w : World) (hs : s.size ≤ maxLen) :
 Calls Tryz.prog 64 #[.string s] w fun e w' => e = .returned (.bool (Nm.nameOK s.data.toList)) ∧ w = w' := by
 unfold maxLen at hs
 have hl : s.data.toList.length = s.size := by simp
 by_cases h0 : s.size = 0
 · have : s = ByteArray.empty := by simpa using h0
   subst this
   go_enter Tryz.func64, Tryz.ntmps64
   go_wp2
   go_ret
   exact ⟨rfl, rfl⟩
 have e2 : decide ((s.size : Int) < 1) = false := decide_eq_false (by omega)
 by_cases h1 : 12 < s.size
 · go_enter Tryz.func64, Tryz.ntmps64
   go_wp2
   go_ret
   exact ⟨xQ (Nm.nameOK_long _ (by omega)).symm, rfl⟩
 have e1 : decide ((12 : Int) < s.size) = false := decide_eq_false (by omega)
 have p0 : 0 < s.size := by omega
 cases hd : Nm.letter s[0].toNat with
 | false =>
  have hfin : Nm.nameOK s.data.toList = false := by
   rw [Nm.nameOK_eq _ (by rw [hl]; exact p0) (by omega)]
   have : Nm.letter s.data.toList[0].toNat = false := hd
   rw [this]; rfl
  have Hf := Lib.hid hfin; clear hfin
  go_enter Tryz.func64, Tryz.ntmps64
  go_wp2_with (go_at_call 99; refine (aAf _ _).mono ?_; rintro e w' ⟨rfl, rfl⟩)
  go_ret
  exact ⟨xQ Hf.out.symm, rfl⟩
 | true =>
  have hfin : Nm.nameOK s.data.toList = Nm.lettersFrom s.data.toList := by
   rw [Nm.nameOK_eq _ (by rw [hl]; exact p0) (by omega)]
   have : Nm.letter s.data.toList[0].toNat = true := hd
   rw [this]; rfl
  have Hf := Lib.hid hfin; clear hfin
  have hst1 : Hid (Nm.lettersFrom (s.data.toList.take 1) = true) := by
   have e : Nm.lettersFrom (s.data.toList.take (0 + 1)) = (Nm.lettersFrom (s.data.toList.take 0) && Nm.okc s[0]) := Nm.lettersFrom_take _ 0 (by rw [hl]; exact p0)
   show Nm.lettersFrom (s.data.toList.take (0 + 1)) = true
   rw [e, Nm.okc, hd]; rfl
  have h1' : s.size ≤ 12 := by omega
  clear h1
  go_enter Tryz.func64, Tryz.ntmps64
  go_wp2_with (go_at_call 99; refine (aAf _ _).mono ?_; rintro e w' ⟨rfl, rfl⟩)
  go_loop [3] (fun i => ∃ k : Nat, 1 ≤ k ∧ k ≤ s.size ∧ i = .int .i64 k ∧ Nm.lettersFrom (s.data.toList.take k) = true) (fun i => s.size - (intOf i).toNat)
  case atStart => exact ⟨1, Nat.le_refl _, p0, rfl, hst1.out⟩
  case round =>
   obtain ⟨k, hk0, hk, rfl, hr⟩ := hrel
   have Hr := Lib.hid hr; clear hr
   by_cases hlt : k < s.size
   · have hst : Hid (Nm.lettersFrom (s.data.toList.take (k + 1)) = (Nm.lettersFrom (s.data.toList.take k) && Nm.okc s[k])) := Nm.lettersFrom_take _ k (by omega)
     have hbad : Hid (Nm.okc s[k] = false → Nm.lettersFrom s.data.toList = false) := fun h => Nm.lettersFrom_bad _ k (by omega) h
     have hok : Nm.okc s[k] = (Nm.letter s[k].toNat || Nm.digit s[k].toNat) := rfl
     have Hok := Lib.hid hok; clear hok
     go_wp2_with (first | (go_at_call 99; refine (aAf _ _).mono ?_; rintro e w' ⟨rfl, rfl⟩) | (go_at_call 100; refine (aJE _ _).mono ?_; rintro e w' ⟨rfl, rfl⟩))
     · go_round
       case rel => exact ⟨k + 1, by omega, by omega, by go_num, by rw [hst.out, Hr.out, Hok.out]; simp [*]⟩
       case measure => simp [intOf]; omega
     · go_ret
       exact ⟨xQ (by rw [Hf.out, hbad.out]; rw [Hok.out]; simp_all), rfl⟩
     · go_round
       case rel => exact ⟨k + 1, by omega, by omega, by go_num, by rw [hst.out, Hr.out, Hok.out]; simp_all⟩
       case measure => simp [intOf]; omega
   · go_wp2
     go_ret
     exact ⟨xQ (by rw [Hf.out]; have := Hr.out; rw [List.take_of_length_le (by omega)] at this; exact this.symm), rfl⟩
end Go.Proofs.YtkfllfhcjegfoaaGreatDoor
namespace Go.Proofs.YtkfllfhcjegfoaaGreatDoor
theorem aDN : ∀ (x y : List UInt8), Op.bytesLess x y = decide (x < y)
 | [], [] => by simp [Op.bytesLess]
 | [], _ :: _ => by simp [Op.bytesLess]
 | _ :: _, [] => by simp [Op.bytesLess]
 | a :: xs, b :: ys => by
  rw [Op.bytesLess, aDN xs ys, Bool.eq_iff_iff]
  simp [List.cons_lt_cons_iff]
def klt (a b : ByteArray) : Bool := Op.bytesLess a.toList b.toList
theorem aBE (a b : ByteArray) : klt a b = true ↔ a.toList < b.toList := by simp [klt, aDN]
theorem wW (a : ByteArray) : klt a a = false := by
 cases h : klt a a with
 | false => rfl
 | true => exact absurd ((aBE _ _).1 h) (List.lt_irrefl _)
theorem jE {a b c : ByteArray} (h : klt a b = true) (k : klt b c = true) : klt a c = true :=
 (aBE _ _).2 (List.lt_trans ((aBE _ _).1 h) ((aBE _ _).1 k))
theorem aCy {a b : ByteArray} (h : klt a b = true) : klt b a = false := by
 cases k : klt b a with
 | false => rfl
 | true => have := jE h k; rw [wW] at this; cases this
theorem aBD {a b : ByteArray} (h : klt a b = false) (k : a ≠ b) : klt b a = true := by
 rw [aBE]
 have h' : ¬ a.toList < b.toList := fun x => by rw [(aBE _ _).2 x] at h; cases h
 rcases List.le_iff_lt_or_eq.1 (List.not_lt.1 h') with h2 | h2
 · exact h2
 · exact absurd (toList_inj h2.symm) k
theorem jB {a b : ByteArray} (h : klt a b = true) : a ≠ b := by rintro rfl; rw [wW] at h; cases h
theorem aMw (a b : ByteArray) : (Op.bytesLess a.toList b.toList || a.toList == b.toList) = !klt b a := by
 have e : Op.bytesLess a.toList b.toList = klt a b := rfl
 rw [e, uQ]
 by_cases h : a = b
 · subst h; simp [wW]
 · cases k : klt a b with
   | true => simp [aCy k]
   | false => simp [aBD k h, h]
def nm (k : ByteArray) : Bool := Nm.nameOK k.data.toList
def aCY (x : Int) : Bool := decide (-1000000 ≤ x) && decide (x ≤ 1000000)
def kAt (es : List Ent) (i : Nat) : ByteArray := (es.getD i (ByteArray.empty, 0)).1
def yZ (es : List Ent) (i : Nat) : Bool := nm (kAt es i) && (decide (i = 0) || klt (kAt es (i - 1)) (kAt es i))
def vN (es : List Ent) (i : Nat) : Bool := aCY (es.getD i (ByteArray.empty, 0)).2
def kK (es : List Ent) : Bool := (List.range es.length).all (yZ es)
def aIY (es : List Ent) : Bool := (List.range es.length).all (vN es)
def zC (es : List Ent) : Bool := decide (es.length ≤ 12) && (kK es && aIY es)
theorem aBw (es : List Ent) (i : Nat) (h : i < es.length) : kAt es i = es[i].1 := by simp [kAt, h]
theorem aD3 {es : List Ent} (h : ∀ i, i < es.length → yZ es i = true) : kK es = true := by
 rw [kK, List.all_eq_true]; intro i hi; exact h i (List.mem_range.1 hi)
theorem aPU {es : List Ent} (h : ∀ i, i < es.length → vN es i = true) : aIY es = true := by
 rw [aIY, List.all_eq_true]; intro i hi; exact h i (List.mem_range.1 hi)
theorem aAW {es : List Ent} {i : Nat} (hi : i < es.length) (h : yZ es i = false) : kK es = false := by
 rw [kK, List.all_eq_false]; exact ⟨i, List.mem_range.2 hi, by rw [h]; simp⟩
theorem aO2 {es : List Ent} {i : Nat} (hi : i < es.length) (h : vN es i = false) : aIY es = false := by
 rw [aIY, List.all_eq_false]; exact ⟨i, List.mem_range.2 hi, by rw [h]; simp⟩
theorem aGK {es : List Ent} (h : kK es = true) {i : Nat} (hi : i < es.length) : yZ es i = true := List.all_eq_true.1 h i (List.mem_range.2 hi)
theorem aIH {es : List Ent} (h0 : es.length ≤ 12) (h : ∀ i, i < es.length → yZ es i = true ∧ vN es i = true) : zC es = true := by
 rw [zC, aD3 fun i hi => (h i hi).1, aPU fun i hi => (h i hi).2, decide_eq_true h0]; rfl
theorem aEG {es : List Ent} {i : Nat} (hi : i < es.length) (h : yZ es i = false) : zC es = false := by
 rw [zC, aAW hi h]; simp
theorem aDt {es : List Ent} {i : Nat} (hi : i < es.length) (h : vN es i = false) : zC es = false := by
 rw [zC, aO2 hi h]; simp
theorem aAo {es : List Ent} (h : 12 < es.length) : zC es = false := by
 rw [zC, decide_eq_false (by omega)]; rfl
theorem aGk {es : List Ent} {k : Nat} (h : 0 < k) (hk : k < es.length) (hn : nm (kAt es k) = true) : yZ es k = klt (es[k - 1]'(by omega)).1 es[k].1 := by
 rw [yZ, hn, decide_eq_false (by omega), aBw es k hk, aBw es (k - 1) (by omega)]; simp
theorem aEc {es : List Ent} (hn : nm (kAt es 0) = true) : yZ es 0 = true := by rw [yZ, hn]; rfl
def Srt (es : List Ent) : Prop := es.Pairwise fun a b => klt a.1 b.1 = true
theorem aJv {es : List Ent} (h : kK es = true) : Srt es := by
 have hadj : ∀ i, (hi : i + 1 < es.length) → klt es[i].1 es[i + 1].1 = true := fun i hi => by
  have := aGK h hi
  rw [yZ, Bool.and_eq_true] at this
  have h2 := this.2
  rw [decide_eq_false (by omega), Bool.false_or, Nat.add_sub_cancel, aBw es i (by omega), aBw es (i + 1) hi] at h2
  exact h2
 rw [Srt, List.pairwise_iff_getElem]
 intro i j hi hj hij
 induction j with
 | zero => omega
 | succ j ih =>
  rcases Nat.lt_or_ge i j with hlt | hge
  · exact jE (ih (by omega) hlt) (hadj j hj)
  · have : i = j := by omega
    subst this; exact hadj i hj
theorem uZ {es : List Ent} (h : zC es = true) : Srt es := by
 rw [zC, Bool.and_eq_true, Bool.and_eq_true] at h
 exact aJv h.2.1
def fnd (es : List Ent) (k : ByteArray) : Option Nat := es.findIdx? fun e => decide (e.1 = k)
theorem aOM {es : List Ent} {k : ByteArray} (h : ∀ j, (hj : j < es.length) → es[j].1 ≠ k) : fnd es k = none := by
 rw [fnd, List.findIdx?_eq_none_iff]
 intro e he
 obtain ⟨j, hj, rfl⟩ := List.getElem_of_mem he
 simpa using h j hj
def vg (es : List Ent) (k : ByteArray) (p : Nat) : Prop := p ≤ es.length ∧ (∀ j, (hj : j < es.length) → j < p → klt es[j].1 k = true) ∧ ((hp : p < es.length) → klt es[p].1 k = false)
theorem vg.fnd_no {es : List Ent} {k : ByteArray} {p : Nat} (h : vg es k p) (hs : Srt es) (he : ∀ hp : p < es.length, es[p].1 ≠ k) : fnd es k = none :=
 aOM fun j hj => by
  rcases Nat.lt_trichotomy j p with hlt | heq | hgt
  · exact jB (h.2.1 j hj hlt)
  · subst heq; exact he hj
  · have h1 : klt es[p].1 es[j].1 = true := (List.pairwise_iff_getElem.1 hs) p j (by omega) hj hgt
    have h2 : klt k es[p].1 = true := aBD (h.2.2 (by omega)) (he (by omega))
    exact (jB (jE h2 h1)).symm
theorem vg.take {es : List Ent} {k : ByteArray} {p : Nat} (h : vg es k p) : es.takeWhile (fun e => klt e.1 k) = es.take p ∧ es.dropWhile (fun e => klt e.1 k) = es.drop p := by
 induction es generalizing p with
 | nil => obtain ⟨h1, _⟩ := h; simp
 | cons e r ih =>
  obtain ⟨h1, h2, h3⟩ := h
  match p, h1, h2, h3 with
  | 0, _, _, h3 => have := h3 (by simp); simp at this; simp [this]
  | p + 1, h1, h2, h3 =>
   have he := h2 0 (by simp) (by omega)
   simp at he
   have := ih (p := p) ⟨by simpa using h1, fun j hj hjp => by have := h2 (j + 1) (by simp; omega) (by omega); simpa using this, fun hp => by have := h3 (by simp; omega); simpa using this⟩
   simp [he, this]
def za (es : List Ent) (k : ByteArray) (v : Int) : List Ent := es.takeWhile (fun e => klt e.1 k) ++ (k, v) :: (es.dropWhile (fun e => klt e.1 k)).filter fun e => decide (e.1 ≠ k)
def kM (es : List Ent) (k : ByteArray) : List Ent := es.filter fun e => decide (e.1 ≠ k)
theorem filter_all {l : List Ent} {k : ByteArray} (h : ∀ e ∈ l, e.1 ≠ k) : l.filter (fun e => decide (e.1 ≠ k)) = l := by
 rw [List.filter_eq_self]; intro e he; simpa using h e he
theorem vg.after {es : List Ent} {k : ByteArray} {p : Nat} (h : vg es k p) (hs : Srt es) (j : Nat) (hj : j < es.length) (hpj : p < j) : klt k es[j].1 = true := by
 have h1 : klt es[p].1 es[j].1 = true := (List.pairwise_iff_getElem.1 hs) p j (by omega) hj hpj
 by_cases he : es[p].1 = k
 · rw [← he]; exact h1
 · exact jE (aBD (h.2.2 (by omega)) he) h1
theorem vg.put_yes {es : List Ent} {k : ByteArray} {p : Nat} (h : vg es k p) (hs : Srt es) (hp : p < es.length) (he : es[p].1 = k) (v : Int) : za es k v = es.take p ++ (k, v) :: es.drop (p + 1) := by
 obtain ⟨h1, h2⟩ := h.take
 rw [za, h1, h2, List.drop_eq_getElem_cons hp]
 rw [List.filter_cons_of_neg (by simpa using he), filter_all]
 intro e hm
 obtain ⟨j, hj, rfl⟩ := List.getElem_of_mem hm
 rw [List.getElem_drop]
 exact (jB (h.after hs (p + 1 + j) (by rw [List.length_drop] at hj; omega) (by omega))).symm
theorem vg.put_no {es : List Ent} {k : ByteArray} {p : Nat} (h : vg es k p) (hs : Srt es) (he : ∀ hp : p < es.length, es[p].1 ≠ k) (v : Int) : za es k v = es.take p ++ (k, v) :: es.drop p := by
 obtain ⟨h1, h2⟩ := h.take
 rw [za, h1, h2, filter_all]
 intro e hm
 obtain ⟨j, hj, rfl⟩ := List.getElem_of_mem hm
 rw [List.getElem_drop]
 rw [List.length_drop] at hj
 rcases Nat.eq_zero_or_pos j with h0 | h0
 · subst h0; exact he (by omega)
 · exact (jB (h.after hs (p + j) (by omega) (by omega))).symm
theorem vg.del_yes {es : List Ent} {k : ByteArray} {p : Nat} (h : vg es k p) (hs : Srt es) (hp : p < es.length) (he : es[p].1 = k) : kM es k = es.take p ++ es.drop (p + 1) := by
 have e1 : es = es.take p ++ es.drop p := (List.take_append_drop p es).symm
 rw [kM]
 rw (occs := .pos [1]) [e1]
 rw [List.filter_append, filter_all, List.drop_eq_getElem_cons hp, List.filter_cons_of_neg (by simpa using he), filter_all]
 · intro e hm
   obtain ⟨j, hj, rfl⟩ := List.getElem_of_mem hm
   rw [List.getElem_drop]
   exact (jB (h.after hs (p + 1 + j) (by rw [List.length_drop] at hj; omega) (by omega))).symm
 · intro e hm
   obtain ⟨j, hj, rfl⟩ := List.getElem_of_mem hm
   rw [List.getElem_take]
   rw [List.length_take] at hj
   exact jB (h.2.1 j (by omega) (by omega))
theorem aRC {es : List Ent} {k : ByteArray} (h : fnd es k = none) : kM es k = es := by
 rw [kM, filter_all]
 intro e he
 have := (List.findIdx?_eq_none_iff.1 h) e he
 simpa using this
theorem aNq {a b c : ByteArray} (h : klt b a = false) (h2 : klt b c = true) : klt a c = true := by
 by_cases e : a = b
 · rw [e]; exact h2
 · exact jE (aBD h (fun x => e x.symm)) h2
def zZ (k : ByteArray) (v : Int) (s : List Ent × Bool) (e : Ent) : List Ent × Bool :=
 if s.2 = false ∧ klt e.1 k = false then (if e.1 = k then s.1 ++ [(k, v)] else s.1 ++ [(k, v)] ++ [e], true) else (if e.1 = k then s.1 else s.1 ++ [e], s.2)
def zm (es : List Ent) (k : ByteArray) (v : Int) (i : Nat) : List Ent × Bool := (es.take i).foldl (zZ k v) ([], false)
theorem aC0 (es : List Ent) (k : ByteArray) (v : Int) : zm es k v 0 = ([], false) := by simp [zm]
theorem aEx (es : List Ent) (k : ByteArray) (v : Int) (i : Nat) (h : i < es.length) : zm es k v (i + 1) = zZ k v (zm es k v i) es[i] := by
 rw [zm, List.take_succ_eq_append_getElem h, List.foldl_append]; rfl
theorem aDG (k : ByteArray) (v : Int) (es acc : List Ent) : es.foldl (zZ k v) (acc, true) = (acc ++ es.filter (fun e => decide (e.1 ≠ k)), true) := by
 induction es generalizing acc with
 | nil => simp
 | cons e r ih =>
  rw [List.foldl_cons]
  by_cases he : e.1 = k
  · rw [show zZ k v (acc, true) e = (acc, true) by simp [zZ, he], ih, List.filter_cons_of_neg (by simpa using he)]
  · rw [show zZ k v (acc, true) e = (acc ++ [e], true) by simp [zZ, he], ih, List.filter_cons_of_pos (by simpa using he)]; simp
theorem aP0 (k : ByteArray) (v : Int) (es acc : List Ent) : (if (es.foldl (zZ k v) (acc, false)).2 then (es.foldl (zZ k v) (acc, false)).1 else (es.foldl (zZ k v) (acc, false)).1 ++ [(k, v)]) = acc ++ za es k v := by
 induction es generalizing acc with
 | nil => simp [za]
 | cons e r ih =>
  rw [List.foldl_cons]
  cases hk : klt e.1 k with
  | true =>
   have hne := jB hk
   rw [show zZ k v (acc, false) e = (acc ++ [e], false) by simp [zZ, hk, hne], ih]
   simp [za, hk]
  | false =>
   by_cases he : e.1 = k
   · subst he
     rw [show zZ e.1 v (acc, false) e = (acc ++ [(e.1, v)], true) by simp [zZ, wW], aDG]
     simp [za, wW]
   · rw [show zZ k v (acc, false) e = (acc ++ [(k, v)] ++ [e], true) by simp [zZ, hk, he], aDG]
     simp [za, hk, he]
theorem aNi (es : List Ent) (k : ByteArray) (v : Int) : (if (zm es k v es.length).2 then (zm es k v es.length).1 else (zm es k v es.length).1 ++ [(k, v)]) = za es k v := by
 have := aP0 k v es []
 rw [zm, List.take_length]
 rw [List.nil_append] at this; exact this
theorem aNH (es : List Ent) (k : ByteArray) (v : Int) (i : Nat) (h : i ≤ es.length) : (zm es k v i).1.length ≤ i + (if (zm es k v i).2 then 1 else 0) := by
 induction i with
 | zero => simp [aC0]
 | succ i ih =>
  have ih := ih (by omega)
  rw [aEx es k v i (by omega)]
  generalize zm es k v i = s at *
  obtain ⟨s1, s2⟩ := s
  unfold zZ
  cases s2 <;> simp at ih ⊢ <;> (repeat' split) <;> simp at * <;> omega
theorem aFc (es : List Ent) (k : ByteArray) (v : Int) (i : Nat) (h : i ≤ es.length) : (zm es k v i).1.length ≤ i + 1 := by
 have := aNH es k v i h
 split at this <;> omega
theorem aBl {k : ByteArray} {v : Int} {s : List Ent × Bool} {e : Ent} (h : s.2 = true ∨ klt e.1 k = true) : zZ k v s e = (if e.1 = k then s.1 else s.1 ++ [e], s.2) := by
 rw [zZ, if_neg]
 rintro ⟨a, b⟩
 rcases h with h | h
 · rw [h] at a; cases a
 · rw [h] at b; cases b
theorem aEN {k : ByteArray} {v : Int} {s : List Ent × Bool} {e : Ent} (h : s.2 = false) (h2 : klt e.1 k = false) : zZ k v s e = (if e.1 = k then s.1 ++ [(k, v)] else s.1 ++ [(k, v)] ++ [e], true) := by
 rw [zZ, if_pos ⟨h, h2⟩]
open Go.RowKit
theorem yj {P : Program} (w : World) {ops : Array Oper} {rest : List Oper} {o : Oper} {a : Act} {Q : Exit → Act → World → Prop} (hgd : o.guard = none) (s x : Operand) (t : TypeId)
 (ho : o.op = .call { callee := .builtin .append, args := #[s, x], argTypes := #[t, t] })
 (base : Nat) (e : TypeId) (i : TypeInfo) (z : Value) (size bytes : Nat) (ht : P.underlying t = some (.slice e)) (hi : P.info? e = some i) (hz : i.zero = some z)
 (hsize : i.size = size) (hby : i.bytes = bytes) (hzs : z.cells.size = size) (hsz : 0 < size)
 (v : Value) (n : Nat) (xs : List Value) (hs : a.eval s = v) (hown : w.ownsRow base e size v n xs)
 (cs : Array Value) (m c : Nat) (hx : a.eval x = .slice (some ⟨w.heap.size, 0, none⟩) m c) (hl : cs.size = m * size) (h1 : ∀ u ∈ cs.toList, u.oneCell' = true)
 (hsmall : (n + m) * bytes ≤ 140737488355328) (hb1 : 1 ≤ bytes) (hbase : base ≤ w.heap.size)
 (h : ∀ v' w', w'.ownsRow base e size v' (n + m) (xs ++ cs.toList) → w.grownBy w' v.ownBlock → wpList P ops Q rest (a.put o.dst v') w') : wpList P ops Q (o :: rest) a (w.alloc (.cells cs e)) := by
 have h63 : n + m ≤ maxLen := by
  have : (n + m) * 1 ≤ (n + m) * bytes := Nat.mul_le_mul_left _ hb1
  unfold maxLen; omega
 refine wpList_append_own (w.alloc (.cells cs e)) hgd s x t ho base e i z size bytes ht hi hz hsize hby hzs hsz v n xs hs (hown.alloc _) ⟨w.heap.size, 0, none⟩ m c cs.toList hx (by simpa using hl) ?_ h1 h63 hsmall (by simp; omega) ?_
 · intro j u hu
   have hadd : (⟨w.heap.size, 0, none⟩ : Addr).add j = ⟨w.heap.size, j, none⟩ := by unfold Addr.add; split <;> simp_all
   rw [hadd, cell_of_row _ w.heap.size j cs e (0, 0) (heap_alloc_new w _)]
   simpa using hu
 · intro v' w' h2 h3 _
   exact h v' w' h2 ⟨h3.os, h3.tape, h3.output, Nat.le_trans (by simp) h3.size, fun k hk hne => (h3.block k (by simp; omega) hne).trans (Below.heap_alloc w _ k hk)⟩
theorem below_grown {B : Nat} {a w w' : World} {v : Value} {base : Nat} {e : TypeId} {sz n : Nat} {xs : List Value} (h : Below B a w) (hg : w.grownBy w' v.ownBlock) (ho : w.ownsRow base e sz v n xs) (hB : B ≤ w.heap.size) (hBb : B ≤ base) : Below B a w' :=
 h.grown hg hB fun k hk => Nat.le_trans hBb (ho.lt k hk).1
theorem aGE {P : Program} (w : World) (dT sT ty elem : TypeId) (i : TypeInfo) (size : Nat) (hu : P.underlying dT = some (.slice elem)) (hi : P.info? elem = some i) (hsz : i.size = size)
 (dp sp : Option Addr) (dLen dCap sLen sCap g off : Nat) (cur : Array Value) (t : TypeId) (hg : Blk w g t cur) (cs : List Value) (hn : cs.length = Nat.min sLen dLen * size)
 (hpos : 0 < cs.length → dp = some ⟨g, off, none⟩ ∧ ∃ ad, sp = some ad ∧ ∀ j v, cs[j]? = some v → w.cell? (ad.add j) = some v) (hfit : off + cs.length ≤ cur.size) (h1 : ∀ v ∈ cs, v.oneCell' = true) :
 ∃ w', (Builtin.copy_ #[dT, sT] ty #[.slice dp dLen dCap, .slice sp sLen sCap]).run P w = .ok (goInt (Nat.min sLen dLen)) w' ∧ Blk w' g t (splice cur.toList off cs).toArray ∧ ∀ B w0, Below B w0 w → B ≤ g → Below B w0 w' := by
 subst hsz
 by_cases h0 : cs.length = 0
 · have hcs : cs = [] := List.eq_nil_of_length_eq_zero h0
   subst hcs
   refine ⟨w, ?_, by simpa [splice] using hg, fun _ _ h _ => h⟩
   have hz : Nat.min sLen dLen * i.size = 0 := by simpa using hn.symm
   have hload : (Builtin.firstCells i.size (Nat.min sLen dLen) (.slice sp sLen sCap)).run P w = .ok #[] w := by
    cases sp with
    | none => simp [Builtin.firstCells]
    | some a => exact run_firstCells_some (P := P) w i.size _ a sLen sCap [] (by simp [hz]) (by simp)
   cases dp with
   | none => simp [Builtin.copy_, run_underlying hu, Builtin.lenOf, sizeOf, typeInfo, hi, hload]
   | some a => simp [Builtin.copy_, run_underlying hu, Builtin.lenOf, sizeOf, typeInfo, hi, hload, storeCells]
 · obtain ⟨rfl, ad, rfl, hsrc⟩ := hpos (by omega)
   have hload := run_firstCells_some (P := P) w i.size (Nat.min sLen dLen) ad sLen sCap cs hn hsrc
   have hst := run_storeCells_at P g off t cs 0 cur w hg (by simpa using hfit) h1
   simp only [Nat.add_zero] at hst
   refine ⟨w.setRow g (cur.toList.take off ++ cs ++ cur.toList.drop (off + cs.length)).toArray, ?_, ?_, fun B w0 h hB => below_setRow h hB _⟩
   · simp [Builtin.copy_, run_underlying hu, Builtin.lenOf, sizeOf, typeInfo, hi, hload, hst]
   · have := setRow_heap w g cur (cur.toList.take off ++ cs ++ cur.toList.drop (off + cs.length)).toArray t (0, 0) hg
     simpa [Blk, splice] using this
theorem yh {P : Program} {w : World} {ops : Array Oper} {rest : List Oper} {o : Oper} {a : Act} {Q : Exit → Act → World → Prop} (hgd : o.guard = none) (d s : Operand) (dT sT : TypeId)
 (ho : o.op = .call { callee := .builtin .copy, args := #[d, s], argTypes := #[dT, sT] }) (elem : TypeId) (i : TypeInfo) (size : Nat) (hu : P.underlying dT = some (.slice elem)) (hi : P.info? elem = some i) (hsz : i.size = size)
 (dp sp : Option Addr) (dLen dCap sLen sCap : Nat) (hd : a.eval d = .slice dp dLen dCap) (hs : a.eval s = .slice sp sLen sCap)
 (g off : Nat) (cur : Array Value) (t : TypeId) (hg : Blk w g t cur) (cs : List Value) (hn : cs.length = Nat.min sLen dLen * size)
 (hpos : 0 < cs.length → dp = some ⟨g, off, none⟩ ∧ ∃ ad, sp = some ad ∧ ∀ j v, cs[j]? = some v → w.cell? (ad.add j) = some v) (hfit : off + cs.length ≤ cur.size) (h1 : ∀ v ∈ cs, v.oneCell' = true)
 (B : Nat) (w0 : World) (hb : Below B w0 w) (hBg : B ≤ g)
 (h : ∀ w', Blk w' g t (splice cur.toList off cs).toArray → Below B w0 w' → wpList P ops Q rest (a.put o.dst (goInt (Nat.min sLen dLen))) w') : wpList P ops Q (o :: rest) a w := by
 refine wpList_plain hgd fun K hK => ?_
 obtain ⟨w', hrun, h2, h3⟩ := aGE (P := P) w dT sT o.type elem i size hu hi hsz dp sp dLen dCap sLen sCap g off cur t hg cs hn hpos hfit h1
 unfold Oper.wp
 simp [execOp, ho, resolve, invoke, builtin, hd, hs, hrun, Result.andThen]
 exact hK _ _ (h w' h2 (h3 B w0 hb hBg))
theorem Rd.piece {w : World} {sz n : Nat} {A : Option Addr} {xs : List Value} (h : Rd w sz A n xs) {i m : Nat} (hm : i + m ≤ n) (hpos : 0 < ((xs.drop (i * sz)).take (m * sz)).length) :
 ∃ b off, A = some ⟨b, off, none⟩ ∧ ∀ j v, ((xs.drop (i * sz)).take (m * sz))[j]? = some v → w.cell? ((⟨b, off + i * sz, none⟩ : Addr).add j) = some v := by
 have hn : 0 < n := by
  rcases Nat.eq_zero_or_pos n with h0 | h0
  · subst h0
    have : m = 0 := by omega
    subst this
    simp at hpos
  · exact h0
 obtain ⟨b, off, rfl, _, hc⟩ := h.2 hn
 refine ⟨b, off, rfl, fun j v hj => ?_⟩
 have hadd : (⟨b, off + i * sz, none⟩ : Addr).add j = ⟨b, off + (i * sz + j), none⟩ := by unfold Addr.add; split <;> simp_all [Nat.add_assoc]
 rw [hadd]
 refine hc _ _ ?_
 rw [List.getElem?_take] at hj
 split at hj
 · rw [List.getElem?_drop] at hj; exact hj
 · cases hj
theorem aIB {xs : List Value} {sz n i m : Nat} (h : xs.length = n * sz) (hm : i + m ≤ n) : ((xs.drop (i * sz)).take (m * sz)).length = m * sz := by
 rw [List.length_take, List.length_drop, h, ← Nat.sub_mul]
 exact Nat.min_eq_left (Nat.mul_le_mul_right _ (by omega))
theorem Rd.cut {w : World} {sz n : Nat} {A : Option Addr} {xs : List Value} (h : Rd w sz A n xs) {i m : Nat} (hm : i + m ≤ n) (hpos : 0 < ((xs.drop (i * sz)).take (m * sz)).length) :
 ∃ ad, Option.map (fun x => x.add (i * sz)) A = some ad ∧ ∀ j v, ((xs.drop (i * sz)).take (m * sz))[j]? = some v → w.cell? (ad.add j) = some v := by
 obtain ⟨b, off, rfl, hc⟩ := h.piece hm hpos
 have hadd : (⟨b, off, none⟩ : Addr).add (i * sz) = ⟨b, off + i * sz, none⟩ := by unfold Addr.add; split <;> simp_all
 exact ⟨_, rfl, fun j v hj => by
  show w.cell? (((⟨b, off, none⟩ : Addr).add (i * sz)).add j) = some v
  rw [hadd]; exact hc j v hj⟩
theorem aJO (key : ByteArray) (v : Int) (w : World) :
 Calls Tryz.prog 104 #[.agg #[.string key, .int .i64 v]] w fun e w' => e = .returned (.agg #[.string key, .int .i64 v]) ∧ Below w.heap.size w w' := by
 go_enter Tryz.func104, Tryz.ntmps104
 go_wp2
 exact bodyPost_ret (v := .agg #[.string key, .int .i64 v]) (by simp [results, Tryz.results104, go_sem]) rfl ⟨rfl, by
  refine ((((((((((Below.refl _ _).alloc (Nat.le_refl _) _).alloc (by simp) _).alloc (by simp; omega) _)))))))⟩
def EqE (a b : Ent) : Bool := decide (a.1 = b.1) && decide (a.2 = b.2)
theorem aJs (k1 k2 : ByteArray) (v1 v2 : Int) (w : World) :
 Calls Tryz.prog 122 #[.agg #[.string k1, .int .i64 v1], .agg #[.string k2, .int .i64 v2]] w fun e w' => e = .returned (.bool (EqE (k1, v1) (k2, v2))) ∧ Below w.heap.size w w' := by
 have hk := uQ k1 k2
 by_cases h1 : k1 = k2 <;> by_cases h2 : v1 = v2
 all_goals
  go_enter Tryz.func122, Tryz.ntmps122
  go_wp2
  go_ret
  exact ⟨xQ (by simp [EqE, h1, h2]), ((Below.refl _ _).alloc (Nat.le_refl _) _).alloc (by simp) _⟩
def aNp (b : Bool) (w : World) (e : Ending) (w' : World) : Prop := e = .returned (.bool b) ∧ Below w.heap.size w w'
set_option maxRecDepth 100000 in
theorem aHr (A : Option Addr) (n c : Nat) (es : List Ent) (A' : Option Addr) (n' c' : Nat) (es' : List Ent) (w : World) (hr : Rd w 2 A n (xG es)) (hr' : Rd w 2 A' n' (xG es')) (hm : n ≤ maxLen) (hm' : n' ≤ maxLen) :
 Calls Tryz.prog 85 #[.slice A n c, .slice A' n' c'] w (aNp (decide (es = es')) w) := by
 unfold maxLen at hm hm'
 have hlen := hr.len
 have hlen' := hr'.len
 have Hlen := Lib.hid hlen; clear hlen
 have Hlen' := Lib.hid hlen'; clear hlen'
 by_cases hne : n = n'
 case neg =>
  have hfin : Hid (decide (es = es') = false) := decide_eq_false (fun h => hne (by rw [← Hlen.out, ← Hlen'.out, h]))
  have hb : ((n : Int) != n') = true := by rw [bne_iff_ne]; omega
  go_enter Tryz.func85, Tryz.ntmps85
  go_wp2
  go_ret
  exact ⟨xQ hfin.out.symm, Below.refl _ _⟩
 subst hne
 go_enter Tryz.func85, Tryz.ntmps85
 go_wp2
 go_loopw [5] (fun i wr => ∃ k : Nat, k ≤ n ∧ i = .int .i64 k ∧ es.take k = es'.take k ∧ Below w.heap.size w wr) (fun i _ => n - (intOf i).toNat)
 case atStart => exact ⟨0, Nat.zero_le _, rfl, rfl, Below.refl _ _⟩
 case round =>
  obtain ⟨k, hk, rfl, heq, hb⟩ := hrel
  have Heq := Lib.hid heq; clear heq
  by_cases hlt : k < n
  · have hke : k < es.length := by rw [Hlen.out]; exact hlt
    have hke' : k < es'.length := by rw [Hlen'.out]; exact hlt
    obtain ⟨b, off, rfl, hbl, hbl2, hc1, hc2⟩ := hr.ent hb hke
    obtain ⟨b', off', rfl, hbl', hbl2', hc1', hc2'⟩ := hr'.ent hb hke'
    have hyes : Hid (EqE es[k] es'[k] = true → es.take (k + 1) = es'.take (k + 1)) := by
     intro h
     have h' : es[k] = es'[k] := by simp [EqE] at h; exact Prod.ext h.1 h.2
     rw [List.take_succ_eq_append_getElem hke, List.take_succ_eq_append_getElem hke', Heq.out, h']
    have hno : Hid (EqE es[k] es'[k] = false → decide (es = es') = false) := by
     intro h
     refine decide_eq_false (fun e => ?_)
     subst e
     simp [EqE] at h
    generalize es[k] = ek at *
    generalize es'[k] = ek' at *
    go_wp2
    go_still_tail 8, (by kernel_rfl)
    change wpList _ _ _ _ _ wr.drew
    generalize hw2 : wr.drew = w2
    have hb2 : Below w.heap.size w w2 := by rw [← hw2]; exact hb.drew
    clear hw2 hb
    go_wp2_with fail
    refine (aJs _ _ _ _ _).mono ?_
    rintro e w3 ⟨rfl, hb3⟩
    cases hE : EqE (ek.1, ek.2) (ek'.1, ek'.2) with
    | true =>
     have HE := Lib.hid hE; clear hE
     go_wp2
     go_roundw
     case rel => exact ⟨k + 1, by omega, by go_num, hyes.out HE.out, hb2.trans (hb3.mono hb2.size)⟩
     case measure => simp [intOf]; omega
    | false =>
     have HE := Lib.hid hE; clear hE
     go_wp2
     go_ret
     exact ⟨xQ (hno.out HE.out).symm, hb2.trans (hb3.mono hb2.size)⟩
  · have hfin : Hid (decide (es = es') = true) := by
     have h := Heq.out
     rw [List.take_of_length_le (by rw [Hlen.out]; omega), List.take_of_length_le (by rw [Hlen'.out]; omega)] at h
     exact decide_eq_true h
    go_wp2
    go_ret
    exact ⟨xQ hfin.out.symm, hb⟩
theorem jL : (Tryz.prog.info? 167).map (fun i => (i.zero, i.size, i.bytes)) = some (some (.agg #[.string ByteArray.empty, .int .i64 0]), 2, 24) := by kernel_rfl
set_option maxRecDepth 100000 in
theorem aIF (A : Option Addr) (n c : Nat) (es : List Ent) (w : World) (hr : Rd w 2 A n (xG es)) (hm : n ≤ 1048576) :
 Calls Tryz.prog 72 #[.slice A n c] w fun e w' => ∃ v, e = .returned v ∧ w'.ownsRow w.heap.size 167 2 v n (xG es) ∧ Below w.heap.size w w' := by
 have hlen := hr.len
 have Hlen := Lib.hid hlen; clear hlen
 obtain ⟨i0, hi, hz0, hz1, hz2⟩ := info_parts jL
 have hmk := fun W => wo (P := Tryz.prog) 51 167 i0 _ Tryz.underlying51 hi hz0 .i64 .i64 n n (Nat.le_refl _) (by rw [hz2]; omega) (by omega) W
 rw [hz1] at hmk
 have hm' : n ≤ 9223372036854775807 := by omega
 have Hi := Lib.hid hi; clear hi
 clear hz0 hz1 hz2 hm
 go_enter Tryz.func72, Tryz.ntmps72
 go_wp2
 have hblk0 : Blk (w.alloc (.cells (madeCells (Value.agg #[Value.string ByteArray.empty, Value.int IntKind.i64 0]).cells (n * 2)) 167)) w.heap.size 167 (madeCells (Value.agg #[Value.string ByteArray.empty, Value.int IntKind.i64 0]).cells (n * 2)) := Blk.new _ _ _
 have HB0 := Lib.hid hblk0; clear hblk0
 have hb0 : Below w.heap.size w (w.alloc (.cells (madeCells (Value.agg #[Value.string ByteArray.empty, Value.int IntKind.i64 0]).cells (n * 2)) 167)) := (Below.refl _ _).alloc (Nat.le_refl _) _
 have HBel := Lib.hid hb0; clear hb0
 generalize hg0 : w.heap.size = g at *
 have Hg0 := Lib.hid hg0; clear hg0
 go_loopw [4] (fun i wr => ∃ (k : Nat) (cs : Array Value), k ≤ n ∧ i = .int .i64 k ∧ Blk wr g 167 cs ∧ cs.size = n * 2 ∧ cs.toList.take (k * 2) = xG (es.take k) ∧ Below g w wr) (fun i _ => n - (intOf i).toNat)
 case atStart => exact ⟨0, _, Nat.zero_le _, rfl, HB0.out, by simp [size_madeCells], by simp [xG], HBel.out⟩
 case round =>
  obtain ⟨k, cs, hk, rfl, hblk, hsz, htk, hb⟩ := hrel
  by_cases hlt : k < n
  · have hke : k < es.length := by rw [Hlen.out]; exact hlt
    obtain ⟨b, off, rfl, hbl, hbl2, hc1, hc2⟩ := hr.ent (by rw [Hg0.out]; exact hb) hke
    have hstep : Hid (xG (es.take (k + 1)) = xG (es.take k) ++ [.string es[k].1, .int .i64 es[k].2]) := by
     rw [List.take_succ_eq_append_getElem hke, qJ]; rfl
    have HT := Lib.hid htk; clear htk
    have HS := Lib.hid hsz; clear hsz
    have HB := Lib.hid hblk; clear hblk
    generalize es[k] = ek at *
    go_wp2_with fail
    refine (aJO _ _ _).mono ?_
    rintro e w1 ⟨rfl, hb1⟩
    have hgl : g < wr.heap.size := HB.out.lt
    have hblk1 : Blk w1 g 167 cs := HB.out.kept hb1
    have hsz' := HS.out
    have hx0 : w1.cell? ⟨g, k * 2, none⟩ = some (cs[k * 2]'(by omega)) := by rw [hblk1.cell]; exact Array.getElem?_eq_getElem (by omega)
    have hx1 : w1.cell? ⟨g, k * 2 + 1, none⟩ = some (cs[k * 2 + 1]'(by omega)) := by rw [hblk1.cell]; exact Array.getElem?_eq_getElem (by omega)
    have hf0 := hblk1.frozen (k * 2)
    have hf1 := hblk1.frozen (k * 2 + 1)
    generalize cs[k * 2]'(by omega) = y0 at *
    generalize cs[k * 2 + 1]'(by omega) = y1 at *
    have HB1 := Lib.hid hblk1; clear hblk1 hsz'
    go_wp2
    go_roundw
    case rel => exact ⟨k + 1, _, by omega, by go_num, (HB1.out.set_ _ _).set_ _ _, by simpa using HS.out, by rw [aNV _ _ _ _ (by have := HS.out; omega), HT.out, hstep.out], ((hb.trans (hb1.mono (by omega))).setCell (Nat.le_refl g) _).setCell (Nat.le_refl g) _⟩
    case measure => simp [intOf]; omega
  · have HT := Lib.hid htk; clear htk
    have HS := Lib.hid hsz; clear hsz
    have HB := Lib.hid hblk; clear hblk
    have hkn : k = n := by omega
    have HKN := Lib.hid hkn; clear hkn
    go_wp2
    go_ret
    exact ⟨_, rfl, HB.out.own (Nat.le_of_eq Hg0.out) (Nat.le_refl _) (by unfold maxLen; omega) HS.out (by have h := HT.out; rw [HKN.out, List.take_of_length_le (l := es) (by rw [Hlen.out]; exact Nat.le_refl _)] at h; exact h), by rw [Hg0.out]; exact hb⟩
theorem aDp (x : Int) (w : World) :
 Calls Tryz.prog 145 #[.int .i64 x] w fun e w' => e = .returned (.bool (decide (-1000000 ≤ x) && decide (x ≤ 1000000))) ∧ w = w' := by
 go_enter Tryz.func145, Tryz.ntmps145
 go_wp2
 all_goals (go_ret; exact ⟨xQ (by rw [Bool.eq_iff_iff]; simp; try omega), rfl⟩)
theorem aG9 (x a b : Int) (w : World) :
 Calls Tryz.prog 33 #[.int .i64 x, .int .i64 a, .int .i64 b] w fun e w' => e = .returned (.bool (decide (a ≤ x) && decide (x ≤ b))) ∧ w = w' := by
 go_enter Tryz.func33, Tryz.ntmps33
 go_wp2
 all_goals (go_ret; exact ⟨xQ (by rw [Bool.eq_iff_iff]; simp; try omega), rfl⟩)
theorem ve (key : ByteArray) (v : Int) (w : World) :
 Calls Tryz.prog 186 #[.agg #[.string key, .int .i64 v]] w fun e w' => e = .returned (.string key) ∧ Below w.heap.size w w' := by
 go_enter Tryz.func186, Tryz.ntmps186
 go_wp2
 go_ret
 exact ⟨rfl, (Below.refl _ _).alloc (Nat.le_refl _) _⟩
theorem aJ2 (es : List Ent) (k : Nat) (hke : k < es.length) (hs : es[k].1.size ≤ maxLen) (W : World) :
 Calls Tryz.prog 64 #[.string es[k].1] W fun e w' => e = .returned (.bool (nm (kAt es k))) ∧ W = w' := by
 rw [aBw es k hke]; exact aBn _ W hs
theorem aN2 (es : List Ent) (k : Nat) (hke : k < es.length) (W : World) :
 Calls Tryz.prog 33 #[.int .i64 es[k].2, .int .i64 (-1000000), .int .i64 1000000] W fun e w' => e = .returned (.bool (vN es k)) ∧ W = w' := by
 have e : vN es k = (decide (-1000000 ≤ es[k].2) && decide (es[k].2 ≤ 1000000)) := by simp [vN, aCY, hke]
 rw [e]; exact aG9 _ _ _ _
set_option maxRecDepth 100000 in
theorem aNF (A : Option Addr) (n c : Nat) (es : List Ent) (w : World) (hr : Rd w 2 A n (xG es)) (hm : n ≤ maxLen) (hks : ∀ e ∈ es, e.1.size ≤ maxLen) :
 Calls Tryz.prog 68 #[.slice A n c] w fun e w' => e = .returned (.bool (zC es)) ∧ Below w.heap.size w w' := by
 unfold maxLen at hm
 have hlen := hr.len
 have Hlen := Lib.hid hlen; clear hlen
 by_cases hbig : 12 < n
 · have hfin : Hid (zC es = false) := aAo (by rw [Hlen.out]; exact hbig)
   go_enter Tryz.func68, Tryz.ntmps68
   go_wp2
   go_ret
   exact ⟨xQ hfin.out.symm, Below.refl _ _⟩
 have hn12 : n ≤ 12 := by omega
 clear hbig
 go_enter Tryz.func68, Tryz.ntmps68
 go_wp2
 go_loopw [3] (fun i wr => ∃ k : Nat, k ≤ n ∧ i = .int .i64 k ∧ (∀ j, j < k → yZ es j = true ∧ vN es j = true) ∧ Below w.heap.size w wr) (fun i _ => n - (intOf i).toNat)
 case atStart => exact ⟨0, Nat.zero_le _, rfl, fun j hj => absurd hj (by omega), Below.refl _ _⟩
 case round =>
  obtain ⟨k, hk, rfl, hall, hb⟩ := hrel
  have Hall := Lib.hid hall; clear hall
  by_cases hlt : k < n
  · have hke : k < es.length := by rw [Hlen.out]; exact hlt
    obtain ⟨b, off, rfl, hbl, hbl2, hc1, hc2⟩ := hr.ent hb hke
    have hcall := aJ2 es k hke (hks _ (List.getElem_mem hke))
    have hcall2 := aN2 es k hke
    cases hw : nm (kAt es k) with
    | false =>
     have hfin : Hid (zC es = false) := aEG hke (by rw [yZ, hw]; rfl)
     rw [hw] at hcall
     have Hcall := Lib.hid hcall
     clear hw hcall hcall2
     go_wp2
     go_quiet ((first | (go_at_call 64; exact Calls.quiet_of_same ((Hcall.out _).mono (fun _ _ h => ⟨h.1, h.2.symm⟩)))))
     go_wp2
     go_ret
     exact ⟨xQ hfin.out.symm, hb.drewN _⟩
    | true =>
    cases hv : vN es k with
    | false =>
     have hfin : Hid (zC es = false) := aDt hke hv
     rw [hw] at hcall
     rw [hv] at hcall2
     have Hcall := Lib.hid hcall
     have Hcall2 := Lib.hid hcall2
     clear hw hv hcall hcall2
     go_wp2
     go_quiet ((first | (go_at_call 64; exact Calls.quiet_of_same ((Hcall.out _).mono (fun _ _ h => ⟨h.1, h.2.symm⟩))) | (go_at_call 33; exact Calls.quiet_of_same ((Hcall2.out _).mono (fun _ _ h => ⟨h.1, h.2.symm⟩)))))
     go_wp2
     go_ret
     exact ⟨xQ hfin.out.symm, hb.drewN _⟩
    | true =>
    by_cases hk0 : k = 0
    · subst hk0
      have hstep : Hid (∀ j, j < 0 + 1 → yZ es j = true ∧ vN es j = true) := fun j hj => by
       have : j = 0 := by omega
       subst this; exact ⟨aEc hw, hv⟩
      rw [hw] at hcall
      rw [hv] at hcall2
      have Hcall := Lib.hid hcall
      have Hcall2 := Lib.hid hcall2
      clear hw hv hcall hcall2
      simp only [Nat.zero_mul, Nat.add_zero] at hc1 hc2
      go_wp2
      go_quiet ((first | (go_at_call 64; exact Calls.quiet_of_same ((Hcall.out _).mono (fun _ _ h => ⟨h.1, h.2.symm⟩))) | (go_at_call 33; exact Calls.quiet_of_same ((Hcall2.out _).mono (fun _ _ h => ⟨h.1, h.2.symm⟩)))))
      go_wp2
      go_roundw
      case rel => exact ⟨0 + 1, by omega, by go_num, hstep.out, hb.drewN _⟩
      case measure => simp [intOf]; omega
    · have hkp : 0 < k := by omega
      have hor := aGk hkp hke hw
      obtain ⟨b', off', he, _, _, hc3, _⟩ := hr.ent hb (show k - 1 < es.length by omega)
      obtain ⟨rfl, rfl⟩ : b = b' ∧ off = off' := by simpa using he
      have ht : (Op.bytesLess es[k].1.toList (es[k - 1]'(by omega)).1.toList || es[k].1.toList == (es[k - 1]'(by omega)).1.toList) = !yZ es k := by rw [aMw, hor]
      have hi0 : 0 ≤ (k : Int) - 1 := by omega
      have hi1 : ((k : Int) - 1).toNat = k - 1 := by omega
      have hi2 : (0 : Int) < (k : Int) := by omega
      rw [hw] at hcall
      rw [hv] at hcall2
      have Hcall := Lib.hid hcall
      have Hcall2 := Lib.hid hcall2
      clear hcall hcall2 hk0 he hor
      cases ho : yZ es k with
      | false =>
       have hfin : Hid (zC es = false) := aEG hke ho
       rw [ho] at ht
       clear hw hv ho
       go_wp2
       go_quiet ((first | (go_at_call 64; exact Calls.quiet_of_same ((Hcall.out _).mono (fun _ _ h => ⟨h.1, h.2.symm⟩))) | (go_at_call 33; exact Calls.quiet_of_same ((Hcall2.out _).mono (fun _ _ h => ⟨h.1, h.2.symm⟩)))))
       go_wp2
       go_ret
       exact ⟨xQ hfin.out.symm, hb.drewN _⟩
      | true =>
       have hstep : Hid (∀ j, j < k + 1 → yZ es j = true ∧ vN es j = true) := fun j hj => by
        rcases Nat.lt_or_ge j k with h | h
        · exact Hall.out j h
        · have : j = k := by omega
          subst this; exact ⟨ho, hv⟩
       rw [ho] at ht
       clear hw hv ho
       go_wp2
       go_quiet ((first | (go_at_call 64; exact Calls.quiet_of_same ((Hcall.out _).mono (fun _ _ h => ⟨h.1, h.2.symm⟩))) | (go_at_call 33; exact Calls.quiet_of_same ((Hcall2.out _).mono (fun _ _ h => ⟨h.1, h.2.symm⟩)))))
       go_wp2
       go_roundw
       case rel => exact ⟨k + 1, by omega, by go_num, hstep.out, hb.drewN _⟩
       case measure => simp [intOf]; omega
  · have hfin : Hid (zC es = true) := aIH (by rw [Hlen.out]; exact hn12) (fun i hi => Hall.out i (by rw [Hlen.out] at hi; omega))
    go_wp2
    go_ret
    exact ⟨xQ hfin.out.symm, hb⟩
theorem aAq (a : ByteArray) (x : Int) (w : World) : (method 396 167 (.agg #[.string a, .int .i64 x]) "loop.example/g00737/impl.key").run Tryz.prog w = .ok (186, .agg #[.string a, .int .i64 x]) w := by kernel_rfl
theorem aLc (es : List Ent) (k : Nat) (hke : k < es.length) (hs : es[k].1.size ≤ maxLen) (W : World) :
 Calls Tryz.prog 114 #[.string es[k].1] W fun e w' => e = .returned (.bool (nm (kAt es k))) ∧ W = w' := by
 rw [aBw es k hke]; exact aCj _ W hs
set_option maxHeartbeats 2000000 in
set_option maxRecDepth 100000 in
theorem aEE (A : Option Addr) (n c : Nat) (es : List Ent) (w : World) (hr : Rd w 2 A n (xG es)) (hm : n ≤ maxLen) (hks : ∀ e ∈ es, e.1.size ≤ maxLen) :
 Calls Tryz.prog 162 #[.slice A n c] w fun e w' => e = .returned (.bool (kK es)) ∧ Below w.heap.size w w' := by
 unfold maxLen at hm
 have hlen := hr.len
 have Hlen := Lib.hid hlen; clear hlen
 have hmeth := aAq
 go_enter Tryz.func162, Tryz.ntmps162
 go_wp2
 go_loopw [3, 7] (fun _ i wr => ∃ k : Nat, k ≤ n ∧ i = .int .i64 k ∧ (∀ j, j < k → yZ es j = true) ∧ Below w.heap.size w wr) (fun _ i _ => n - (intOf i).toNat)
 case atStart => exact ⟨0, Nat.zero_le _, rfl, fun j hj => absurd hj (by omega), Below.refl _ _⟩
 case round =>
  obtain ⟨k, hk, rfl, hall, hb⟩ := hrel
  have Hall := Lib.hid hall; clear hall
  by_cases hlt : k < n
  · have hke : k < es.length := by rw [Hlen.out]; exact hlt
    obtain ⟨b, off, rfl, hbl, hbl2, hc1, hc2⟩ := hr.ent hb hke
    have hcall := aLc es k hke (hks _ (List.getElem_mem hke))
    cases hw : nm (kAt es k) with
    | false =>
     have hfin : Hid (kK es = false) := aAW hke (by rw [yZ, hw]; rfl)
     rw [hw] at hcall
     have Hcall := Lib.hid hcall
     clear hw hcall
     go_wp2
     have hcL0 : (wr.alloc (Obj.cells #[Value.string es[k].1, Value.int IntKind.i64 es[k].2] 167)).cell? ⟨wr.heap.size, 0, none⟩ = some (.string es[k].1) := cell_of_row _ _ _ _ _ (0, 0) (heap_alloc_new wr _)
     have hcL1 : (wr.alloc (Obj.cells #[Value.string es[k].1, Value.int IntKind.i64 es[k].2] 167)).cell? ⟨wr.heap.size, 1, none⟩ = some (.int .i64 es[k].2) := cell_of_row _ _ _ _ _ (0, 0) (heap_alloc_new wr _)
     have hpl : wr.heap.size < (wr.alloc (Obj.cells #[Value.string es[k].1, Value.int IntKind.i64 es[k].2] 167)).heap.size := by simp
     have hb2 : Below w.heap.size w (wr.alloc (Obj.cells #[Value.string es[k].1, Value.int IntKind.i64 es[k].2] 167)) := hb.alloc hb.size _
     generalize wr.alloc (Obj.cells #[Value.string es[k].1, Value.int IntKind.i64 es[k].2] 167) = w2 at *
     generalize wr.heap.size = p at *
     have hA0 := fun y : Aft w2 => y.cell hpl hcL0
     have hA1 := fun y : Aft w2 => y.cell hpl hcL1
     refine xD (by kernel_rfl) (by kernel_rfl) ?_
     repeat (go_big_quiet_step ((first | (go_at_call 186; exact Aft.call (ve _ _ _)) | (go_at_call 114; exact Aft.same (Hcall.out _)))))
     refine wpQuiet_nil ?_
     rintro _ ⟨y, rfl⟩
     have hb3 := yH hb2 y.below
     generalize y.at_ = w3 at *
     go_wp2
     go_ret
     exact ⟨xQ hfin.out.symm, hb3⟩
    | true =>
    rw [hw] at hcall
    have Hcall := Lib.hid hcall
    clear hcall
    by_cases hk0 : k = 0
    · subst hk0
      have hstep : Hid (∀ j, j < 0 + 1 → yZ es j = true) := fun j hj => by
       have : j = 0 := by omega
       subst this; exact aEc hw
      clear hw
      simp only [Nat.zero_mul, Nat.add_zero] at hc1 hc2
      go_wp2
      have hcL0 : (wr.alloc (Obj.cells #[Value.string es[0].1, Value.int IntKind.i64 es[0].2] 167)).cell? ⟨wr.heap.size, 0, none⟩ = some (.string es[0].1) := cell_of_row _ _ _ _ _ (0, 0) (heap_alloc_new wr _)
      have hcL1 : (wr.alloc (Obj.cells #[Value.string es[0].1, Value.int IntKind.i64 es[0].2] 167)).cell? ⟨wr.heap.size, 1, none⟩ = some (.int .i64 es[0].2) := cell_of_row _ _ _ _ _ (0, 0) (heap_alloc_new wr _)
      have hpl : wr.heap.size < (wr.alloc (Obj.cells #[Value.string es[0].1, Value.int IntKind.i64 es[0].2] 167)).heap.size := by simp
      have hb2 : Below w.heap.size w (wr.alloc (Obj.cells #[Value.string es[0].1, Value.int IntKind.i64 es[0].2] 167)) := hb.alloc hb.size _
      generalize wr.alloc (Obj.cells #[Value.string es[0].1, Value.int IntKind.i64 es[0].2] 167) = w2 at *
      generalize wr.heap.size = p at *
      have hA0 := fun y : Aft w2 => y.cell hpl hcL0
      have hA1 := fun y : Aft w2 => y.cell hpl hcL1
      refine xD (by kernel_rfl) (by kernel_rfl) ?_
      repeat (go_big_quiet_step ((first | (go_at_call 186; exact Aft.call (ve _ _ _)) | (go_at_call 114; exact Aft.same (Hcall.out _)))))
      refine wpQuiet_nil ?_
      rintro _ ⟨y, rfl⟩
      have hb3 := yH hb2 y.below
      generalize y.at_ = w3 at *
      go_wp2
      go_roundw
      case rel => exact ⟨0 + 1, by omega, by go_num, hstep.out, hb3⟩
      case measure => simp [intOf]; omega
    · have hkp : 0 < k := by omega
      have hor := aGk hkp hke hw
      have ht : (!(Op.bytesLess (es[k - 1]'(by omega)).1.toList es[k].1.toList)) = !yZ es k := by rw [hor]; rfl
      have hi0 : 0 ≤ (k : Int) - 1 := by omega
      have hi1 : ((k : Int) - 1).toNat = k - 1 := by omega
      have hi2 : (0 : Int) < (k : Int) := by omega
      clear hk0 hor hw
      cases ho : yZ es k with
      | false =>
       have hfin : Hid (kK es = false) := aAW hke ho
       rw [ho] at ht
       clear ho
       go_wp2
       have hcL0 : (wr.alloc (Obj.cells #[Value.string es[k].1, Value.int IntKind.i64 es[k].2] 167)).cell? ⟨wr.heap.size, 0, none⟩ = some (.string es[k].1) := cell_of_row _ _ _ _ _ (0, 0) (heap_alloc_new wr _)
       have hcL1 : (wr.alloc (Obj.cells #[Value.string es[k].1, Value.int IntKind.i64 es[k].2] 167)).cell? ⟨wr.heap.size, 1, none⟩ = some (.int .i64 es[k].2) := cell_of_row _ _ _ _ _ (0, 0) (heap_alloc_new wr _)
       have hpl : wr.heap.size < (wr.alloc (Obj.cells #[Value.string es[k].1, Value.int IntKind.i64 es[k].2] 167)).heap.size := by simp
       have hb2 : Below w.heap.size w (wr.alloc (Obj.cells #[Value.string es[k].1, Value.int IntKind.i64 es[k].2] 167)) := hb.alloc hb.size _
       obtain ⟨b', off', he, _, _, hc3, hc4⟩ := hr.ent hb2 (show k - 1 < es.length by omega)
       obtain ⟨rfl, rfl⟩ : b = b' ∧ off = off' := by simpa using he
       have hbl4 := Nat.lt_of_lt_of_le hbl hb2.size
       generalize wr.alloc (Obj.cells #[Value.string es[k].1, Value.int IntKind.i64 es[k].2] 167) = w2 at *
       generalize wr.heap.size = p at *
       have hA0 := fun y : Aft w2 => y.cell hpl hcL0
       have hA1 := fun y : Aft w2 => y.cell hpl hcL1
       have hA3 := fun y : Aft w2 => y.cell hbl4 hc3
       have hA4 := fun y : Aft w2 => y.cell hbl4 hc4
       refine xD (by kernel_rfl) (by kernel_rfl) ?_
       repeat (go_big_quiet_step ((first | (go_at_call 186; exact Aft.call (ve _ _ _)) | (go_at_call 114; exact Aft.same (Hcall.out _)))))
       refine wpQuiet_nil ?_
       rintro _ ⟨y, rfl⟩
       have hb3 := yH hb2 y.below
       generalize y.at_ = w3 at *
       go_wp2
       go_ret
       exact ⟨xQ hfin.out.symm, hb3⟩
      | true =>
       have hstep : Hid (∀ j, j < k + 1 → yZ es j = true) := fun j hj => by
        rcases Nat.lt_or_ge j k with h | h
        · exact Hall.out j h
        · have : j = k := by omega
          subst this; exact ho
       rw [ho] at ht
       clear ho
       go_wp2
       have hcL0 : (wr.alloc (Obj.cells #[Value.string es[k].1, Value.int IntKind.i64 es[k].2] 167)).cell? ⟨wr.heap.size, 0, none⟩ = some (.string es[k].1) := cell_of_row _ _ _ _ _ (0, 0) (heap_alloc_new wr _)
       have hcL1 : (wr.alloc (Obj.cells #[Value.string es[k].1, Value.int IntKind.i64 es[k].2] 167)).cell? ⟨wr.heap.size, 1, none⟩ = some (.int .i64 es[k].2) := cell_of_row _ _ _ _ _ (0, 0) (heap_alloc_new wr _)
       have hpl : wr.heap.size < (wr.alloc (Obj.cells #[Value.string es[k].1, Value.int IntKind.i64 es[k].2] 167)).heap.size := by simp
       have hb2 : Below w.heap.size w (wr.alloc (Obj.cells #[Value.string es[k].1, Value.int IntKind.i64 es[k].2] 167)) := hb.alloc hb.size _
       obtain ⟨b', off', he, _, _, hc3, hc4⟩ := hr.ent hb2 (show k - 1 < es.length by omega)
       obtain ⟨rfl, rfl⟩ : b = b' ∧ off = off' := by simpa using he
       have hbl4 := Nat.lt_of_lt_of_le hbl hb2.size
       generalize wr.alloc (Obj.cells #[Value.string es[k].1, Value.int IntKind.i64 es[k].2] 167) = w2 at *
       generalize wr.heap.size = p at *
       have hA0 := fun y : Aft w2 => y.cell hpl hcL0
       have hA1 := fun y : Aft w2 => y.cell hpl hcL1
       have hA3 := fun y : Aft w2 => y.cell hbl4 hc3
       have hA4 := fun y : Aft w2 => y.cell hbl4 hc4
       refine xD (by kernel_rfl) (by kernel_rfl) ?_
       repeat (go_big_quiet_step ((first | (go_at_call 186; exact Aft.call (ve _ _ _)) | (go_at_call 114; exact Aft.same (Hcall.out _)))))
       refine wpQuiet_nil ?_
       rintro _ ⟨y, rfl⟩
       have hb3 := yH hb2 y.below
       generalize y.at_ = w3 at *
       go_wp2
       go_roundw
       case rel => exact ⟨k + 1, by omega, by go_num, hstep.out, hb3⟩
       case measure => simp [intOf]; omega
  · have hfin : Hid (kK es = true) := aD3 (fun i hi => Hall.out i (by rw [Hlen.out] at hi; omega))
    go_wp2
    go_ret
    exact ⟨xQ hfin.out.symm, hb⟩
theorem aJj (es : List Ent) (k : Nat) (hke : k < es.length) (W : World) :
 Calls Tryz.prog 145 #[.int .i64 es[k].2] W fun e w' => e = .returned (.bool (vN es k)) ∧ W = w' := by
 have e : vN es k = (decide (-1000000 ≤ es[k].2) && decide (es[k].2 ≤ 1000000)) := by simp [vN, aCY, hke]
 rw [e]; exact aDp _ _
set_option maxHeartbeats 1000000 in
set_option maxRecDepth 100000 in
theorem aHP (A : Option Addr) (n c : Nat) (es : List Ent) (w : World) (hr : Rd w 2 A n (xG es)) (hm : n ≤ maxLen) (hks : ∀ e ∈ es, e.1.size ≤ maxLen) :
 Calls Tryz.prog 146 #[.slice A n c] w fun e w' => e = .returned (.bool (zC es)) ∧ Below w.heap.size w w' := by
 have hm' := hm
 unfold maxLen at hm
 have hlen := hr.len
 have Hlen := Lib.hid hlen; clear hlen
 by_cases hbig : 12 < n
 · have hfin : Hid (zC es = false) := aAo (by rw [Hlen.out]; exact hbig)
   go_enter Tryz.func146, Tryz.ntmps146
   go_wp2
   go_ret
   exact ⟨xQ hfin.out.symm, Below.refl _ _⟩
 have hn12 : n ≤ 12 := by omega
 clear hbig
 cases ho : kK es with
 | false =>
  have hfin : Hid (zC es = false) := by show zC es = false; rw [zC, ho]; simp
  have hcall := aEE A n c es w hr hm' hks
  rw [ho] at hcall
  have Hcall := Lib.hid hcall
  clear ho hcall
  go_enter Tryz.func146, Tryz.ntmps146
  go_wp2_with (go_at_call 162; refine Hcall.out.mono ?_; rintro e w1 ⟨rfl, hb1⟩)
  go_ret
  exact ⟨xQ hfin.out.symm, hb1⟩
 | true =>
  have hcall := aEE A n c es w hr hm' hks
  rw [ho] at hcall
  have Hcall := Lib.hid hcall
  have Ho := Lib.hid ho
  clear ho hcall
  go_enter Tryz.func146, Tryz.ntmps146
  go_wp2_with (go_at_call 162; refine Hcall.out.mono ?_; rintro e w1 ⟨rfl, hb1⟩)
  go_loopw [15] (fun i wr => ∃ k : Nat, k ≤ n ∧ i = .int .i64 k ∧ (∀ j, j < k → vN es j = true) ∧ Below w.heap.size w wr) (fun i _ => n - (intOf i).toNat)
  case atStart => exact ⟨0, Nat.zero_le _, rfl, fun j hj => absurd hj (by omega), hb1⟩
  case round =>
   obtain ⟨k, hk, rfl, hall, hb⟩ := hrel
   have Hall := Lib.hid hall; clear hall
   by_cases hlt : k < n
   · have hke : k < es.length := by rw [Hlen.out]; exact hlt
     obtain ⟨b, off, rfl, hbl, hbl2, hc1, hc2⟩ := hr.ent hb hke
     have hcall := aJj es k hke
     cases hv : vN es k with
     | false =>
      have hfin : Hid (zC es = false) := aDt hke hv
      rw [hv] at hcall
      have Hcall := Lib.hid hcall
      clear hv hcall
      go_wp2_with (go_at_call 145; refine (Hcall.out _).mono ?_; rintro e w1 ⟨rfl, rfl⟩)
      go_ret
      exact ⟨xQ hfin.out.symm, hb.alloc hb.size _⟩
     | true =>
      have hstep : Hid (∀ j, j < k + 1 → vN es j = true) := fun j hj => by
       rcases Nat.lt_or_ge j k with h | h
       · exact Hall.out j h
       · have : j = k := by omega
         subst this; exact hv
      rw [hv] at hcall
      have Hcall := Lib.hid hcall
      clear hv hcall
      go_wp2_with (go_at_call 145; refine (Hcall.out _).mono ?_; rintro e w1 ⟨rfl, rfl⟩)
      go_roundw
      case rel => exact ⟨k + 1, by omega, by go_num, hstep.out, hb.alloc hb.size _⟩
      case measure => simp [intOf]; omega
   · have hfin : Hid (zC es = true) := aIH (by rw [Hlen.out]; exact hn12) (fun i hi => ⟨aGK Ho.out hi, Hall.out i (by rw [Hlen.out] at hi; omega)⟩)
     go_wp2
     go_ret
     exact ⟨xQ hfin.out.symm, hb⟩
def aP3 (es : List Ent) (key : ByteArray) (w : World) (e : Ending) (w' : World) : Prop := ∃ p : Nat, e = .returned (.int .i64 p) ∧ vg es key p ∧ Below w.heap.size w w'
theorem aKN {es : List Ent} {key : ByteArray} {k : Nat} (h : k ≤ es.length) (hall : ∀ j, (hj : j < es.length) → j < k → klt es[j].1 key = true) (hn : (hk : k < es.length) → klt es[k].1 key = false) : vg es key k := ⟨h, hall, hn⟩
theorem aMN (A : Option Addr) (n c : Nat) (es : List Ent) (key : ByteArray) (w : World) (hr : Rd w 2 A n (xG es)) (hm : n ≤ maxLen) :
 Calls Tryz.prog 201 #[.slice A n c, .string key] w (aP3 es key w) := by
 unfold maxLen at hm
 have hlen := hr.len
 have Hlen := Lib.hid hlen; clear hlen
 have hmeth := aAq
 go_enter Tryz.func201, Tryz.ntmps201
 go_wp2
 go_loopw [5] (fun i wr => ∃ k : Nat, k ≤ n ∧ i = .int .i64 k ∧ (∀ j, (hj : j < es.length) → j < k → klt es[j].1 key = true) ∧ Below w.heap.size w wr) (fun i _ => n - (intOf i).toNat)
 case atStart => exact ⟨0, Nat.zero_le _, rfl, fun j _ hj => absurd hj (by omega), Below.refl _ _⟩
 case round =>
  obtain ⟨k, hk, rfl, hall, hb⟩ := hrel
  have Hall := Lib.hid hall; clear hall
  by_cases hlt : k < n
  · have hke : k < es.length := by rw [Hlen.out]; exact hlt
    obtain ⟨b, off, rfl, hbl, hbl2, hc1, hc2⟩ := hr.ent hb hke
    cases hq : klt es[k].1 key with
    | true =>
     have ht : Op.bytesLess es[k].1.toList key.toList = true := hq
     have hstep : Hid (∀ j, (hj : j < es.length) → j < k + 1 → klt es[j].1 key = true) := fun j hj hjk => by
      rcases Nat.lt_or_ge j k with h | h
      · exact Hall.out j hj h
      · have : j = k := by omega
        subst this; exact hq
     clear hq
     go_wp2_with (go_at_call 186; refine (ve _ _ _).mono ?_; rintro e w1 ⟨rfl, hb1⟩)
     go_roundw
     case rel => exact ⟨k + 1, by omega, by go_num, hstep.out, yH hb hb1⟩
     case measure => simp [intOf]; omega
    | false =>
     have ht : Op.bytesLess es[k].1.toList key.toList = false := hq
     have hfin : Hid (vg es key k) := aKN (by omega) Hall.out (fun _ => hq)
     clear hq
     go_wp2_with (go_at_call 186; refine (ve _ _ _).mono ?_; rintro e w1 ⟨rfl, hb1⟩)
     go_ret
     exact ⟨k, rfl, hfin.out, yH hb hb1⟩
  · have hfin : Hid (vg es key k) := aKN (by rw [Hlen.out]; omega) Hall.out (fun h => absurd h (by rw [Hlen.out]; omega))
    go_wp2
    go_ret
    exact ⟨k, rfl, hfin.out, hb⟩
def aPo (es : List Ent) (key : ByteArray) (w : World) (e : Ending) (w' : World) : Prop :=
 ∃ (p : Nat) (f : Bool), e = .returned (.tuple #[.int .i64 p, .bool f]) ∧ vg es key p ∧ (f = true → ∃ h : p < es.length, es[p].1 = key) ∧ (f = false → ∀ h : p < es.length, es[p].1 ≠ key) ∧ Below w.heap.size w w'
theorem aIn (A : Option Addr) (n c : Nat) (es : List Ent) (key : ByteArray) (w : World) (hr : Rd w 2 A n (xG es)) (hm : n ≤ maxLen) :
 Calls Tryz.prog 200 #[.slice A n c, .string key] w (aPo es key w) := by
 have hlen := hr.len
 have Hlen := Lib.hid hlen; clear hlen
 have hmeth := aAq
 go_enter Tryz.func200, Tryz.ntmps200
 go_wp2_with fail
 refine (aMN A n c es key w hr hm).mono ?_
 rintro e w1 ⟨p, rfl, hp, hb⟩
 unfold maxLen at hm
 have hple := hp.1
 rw [Hlen.out] at hple
 have HP := Lib.hid hp; clear hp
 by_cases hlt : p < n
 · have hke : p < es.length := by rw [Hlen.out]; exact hlt
   obtain ⟨b, off, rfl, hbl, hbl2, hc1, hc2⟩ := hr.ent hb hke
   by_cases he : es[p].1 = key
   · have ht : (es[p].1.toList == key.toList) = true := by rw [he]; simp
     have HE := Lib.hid he; clear he
     go_wp2_with (go_at_call 186; refine (ve _ _ _).mono ?_; rintro e w2 ⟨rfl, hb1⟩)
     go_ret2
     exact ⟨p, true, rfl, HP.out, (fun _ => ⟨hke, HE.out⟩), (fun h => by cases h), yH hb hb1⟩
   · have ht : (es[p].1.toList == key.toList) = false := by rw [uQ]; exact decide_eq_false he
     have HE := Lib.hid he; clear he
     go_wp2_with (go_at_call 186; refine (ve _ _ _).mono ?_; rintro e w2 ⟨rfl, hb1⟩)
     go_ret2
     exact ⟨p, false, rfl, HP.out, (fun h => by cases h), (fun _ _ => HE.out), yH hb hb1⟩
 · go_wp2
   go_ret2
   exact ⟨p, false, rfl, HP.out, (fun h => by cases h), (fun _ h => absurd h (by rw [Hlen.out]; omega)), hb⟩
end Go.Proofs.YtkfllfhcjegfoaaGreatDoor
