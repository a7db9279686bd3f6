/- Texts of the machine over data, folded. -/
import Derived.Test.YtmfmclnklpbiaaaKq5
import Derived.Laws.CopyOwn
import Derived.ProofKit
import Derived.OpenShut
import Derived.ShutString
import Derived.Laws.StructEq
namespace Go.Proofs.Ytmfmclnklpbiaaa
open Go.RowKit


namespace Nm
/-- a letter or the low line -/
def letter (c : Int) : Bool := (decide (97 ≤ c) && decide (c ≤ 122)) || (decide (65 ≤ c) && decide (c ≤ 90)) || decide (c = 95)
def digit (c : Int) : Bool := decide (48 ≤ c) && decide (c ≤ 57)
def lettersFrom (l : List UInt8) : Bool := l.all fun c => letter c.toNat || digit c.toNat
def nameOK (l : List UInt8) : Bool :=
  match l with
  | [] => false
  | c :: r => decide (r.length < 12) && letter c.toNat && lettersFrom r
theorem letter_not_digit (c : Int) (h : letter c = true) : digit c = false := by
  simp [letter, digit] at *; omega
end Nm

theorem isLetter_any (c : Int) (w : World) :
    Calls Try.prog 83 #[.int .u8 c] w fun e w' => e = .returned (.bool (Nm.letter c)) ∧ w = w' := by
  go_enter Try.func83, Try.ntmps83
  go_wp2
  all_goals (go_ret; exact ⟨ret_bool (by rw [Bool.eq_iff_iff]; simp [Nm.letter]; try omega), rfl⟩)

theorem isDigit_any (c : Int) (w : World) :
    Calls Try.prog 82 #[.int .u8 c] w fun e w' => e = .returned (.bool (Nm.digit c)) ∧ w = w' := by
  go_enter Try.func82, Try.ntmps82
  go_wp2
  all_goals (go_ret; exact ⟨ret_bool (by rw [Bool.eq_iff_iff]; simp [Nm.digit]; try omega), rfl⟩)

theorem l00Letter_any (c : Int) (w : World) :
    Calls Try.prog 79 #[.int .u8 c] w fun e w' => e = .returned (.bool (Nm.letter c)) ∧ w = w' := by
  go_enter Try.func79, Try.ntmps79
  go_wp2
  all_goals (go_ret; exact ⟨ret_bool (by rw [Bool.eq_iff_iff]; simp [Nm.letter]; try omega), rfl⟩)

theorem l00Digit_any (c : Int) (w : World) :
    Calls Try.prog 80 #[.int .u8 c] w fun e w' => e = .returned (.bool (Nm.digit c)) ∧ w = w' := by
  go_enter Try.func80, Try.ntmps80
  go_wp2
  all_goals (go_ret; exact ⟨ret_bool (by rw [Bool.eq_iff_iff]; simp [Nm.digit]; try omega), rfl⟩)


namespace Nm
def okc (c : UInt8) : Bool := letter c.toNat || digit c.toNat
theorem lettersFrom_take (l : List UInt8) (k : Nat) (h : k < l.length) : lettersFrom (l.take (k + 1)) = (lettersFrom (l.take k) && okc l[k]) := by
  unfold lettersFrom okc; rw [List.take_succ_eq_append_getElem h, List.all_append]; simp
theorem lettersFrom_bad (l : List UInt8) (k : Nat) (h : k < l.length) (hb : okc l[k] = false) : lettersFrom l = false := by
  rw [lettersFrom, List.all_eq_false]
  exact ⟨l[k], List.getElem_mem h, by simp only [okc] at hb; simp [hb]⟩
theorem nameOK_eq (l : List UInt8) (h0 : 0 < l.length) (h1 : l.length ≤ 12) : nameOK l = (letter l[0].toNat && lettersFrom l) := by
  match l, h0 with
  | c :: r, _ =>
    have : r.length < 12 := by simp at h1; omega
    simp [nameOK, this, lettersFrom]
    cases letter c.toNat <;> simp
theorem nameOK_nil : nameOK [] = false := rfl
theorem nameOK_long (l : List UInt8) (h : 12 < l.length) : nameOK l = false := by
  match l with
  | c :: r => 
    have : ¬ r.length < 12 := by simp at h; omega
    simp [nameOK, this]
theorem digit_not_letter (c : Int) (h : digit c = true) : letter c = false := by
  simp [letter, digit] at *; omega
theorem nameOK_digit (l : List UInt8) (h0 : 0 < l.length) (hd : digit l[0].toNat = true) : nameOK l = false := by
  match l, h0 with
  | c :: r, _ =>
    have hd' : letter c.toNat = false := digit_not_letter _ hd
    simp [nameOK, hd']
theorem nameOK_letters (l : List UInt8) (h0 : 0 < l.length) (h1 : l.length ≤ 12) (hd : digit l[0].toNat = false) : nameOK l = lettersFrom l := by
  rw [nameOK_eq l h0 h1]
  cases h : letter l[0].toNat with
  | true => rfl
  | false => exact (lettersFrom_bad l 0 h0 (by simp [okc, h, hd])).symm
end Nm

set_option maxHeartbeats 400000 in
theorem nameOK_any (s : ByteArray) (w : World) (hs : s.size ≤ maxLen) :
    Calls Try.prog 43 #[.string s] w fun e w' => e = .returned (.bool (Nm.nameOK s.data.toList)) ∧ w = w' := by
  unfold maxLen at hs
  have hl : s.data.toList.length = s.size := by simp
  by_cases h0 : s.size = 0
  · have : s = ByteArray.empty := by simpa using h0
    subst this
    go_enter Try.func43, Try.ntmps43
    go_wp2
    go_ret
    exact ⟨rfl, rfl⟩
  by_cases h1 : 12 < s.size
  · go_enter Try.func43, Try.ntmps43
    go_wp2
    go_ret
    exact ⟨ret_bool (Nm.nameOK_long _ (by omega)).symm, rfl⟩
  have e0 : ((s.size : Int) == 0) = false := beq_eq_false_iff_ne.2 (by omega)
  have e1 : decide ((12 : Int) < s.size) = false := decide_eq_false (by omega)
  have p0 : 0 < s.size := by omega
  cases hd : Nm.digit s[0].toNat with
  | true =>
    have hfin : Nm.nameOK s.data.toList = false := Nm.nameOK_digit _ (by rw [hl]; exact p0) hd
    have Hf := Lib.hid hfin; clear hfin
    go_enter Try.func43, Try.ntmps43
    go_wp2_with (first | (go_at_call 82; refine (isDigit_any _ _).mono ?_; rintro e w' ⟨rfl, rfl⟩) | (go_at_call 83; refine (isLetter_any _ _).mono ?_; rintro e w' ⟨rfl, rfl⟩))
    go_ret
    exact ⟨ret_bool Hf.out.symm, rfl⟩
  | false =>
    have hfin : Nm.nameOK s.data.toList = Nm.lettersFrom s.data.toList := Nm.nameOK_letters _ (by rw [hl]; exact p0) (by omega) hd
    have Hf := Lib.hid hfin; clear hfin
    have h1' : s.size ≤ 12 := by omega
    clear h1
    go_enter Try.func43, Try.ntmps43
    go_wp2_with (first | (go_at_call 82; refine (isDigit_any _ _).mono ?_; rintro e w' ⟨rfl, rfl⟩) | (go_at_call 83; refine (isLetter_any _ _).mono ?_; rintro e w' ⟨rfl, rfl⟩))
    go_loop [3] (fun i => ∃ k : Nat, k ≤ s.size ∧ i = .int .i64 k ∧ Nm.lettersFrom (s.data.toList.take k) = true) (fun i => s.size - (intOf i).toNat)
    case atStart => exact ⟨0, Nat.zero_le _, rfl, rfl⟩
    case round =>
      obtain ⟨k, hk, rfl, hr⟩ := hrel
      have Hr := Lib.hid hr; clear hr
      by_cases hlt : k < s.size
      · have hst : Hid (Nm.lettersFrom (s.data.toList.take (k + 1)) = (Nm.lettersFrom (s.data.toList.take k) && Nm.okc s[k])) := Nm.lettersFrom_take _ k (by omega)
        have hbad : Hid (Nm.okc s[k] = false → Nm.lettersFrom s.data.toList = false) := fun h => Nm.lettersFrom_bad _ k (by omega) h
        have hok : Nm.okc s[k] = (Nm.letter s[k].toNat || Nm.digit s[k].toNat) := rfl
        have Hok := Lib.hid hok; clear hok
        go_wp2_with (first | (go_at_call 82; refine (isDigit_any _ _).mono ?_; rintro e w' ⟨rfl, rfl⟩) | (go_at_call 83; refine (isLetter_any _ _).mono ?_; rintro e w' ⟨rfl, rfl⟩))
        · go_round
          case rel => exact ⟨k + 1, by omega, by go_num, by rw [hst.out, Hr.out, Hok.out]; simp [*]⟩
          case measure => simp [intOf]; omega
        · go_ret
          exact ⟨ret_bool (by rw [Hf.out, hbad.out]; rw [Hok.out]; simp_all), rfl⟩
        · go_round
          case rel => exact ⟨k + 1, by omega, by go_num, by rw [hst.out, Hr.out, Hok.out]; simp_all⟩
          case measure => simp [intOf]; omega
      · go_wp2
        go_ret
        exact ⟨ret_bool (by rw [Hf.out]; have := Hr.out; rw [List.take_of_length_le (by omega)] at this; exact this.symm), rfl⟩

set_option maxHeartbeats 400000 in
theorem l00Word_any (s : ByteArray) (w : World) (hs : s.size ≤ maxLen) :
    Calls Try.prog 39 #[.string s] w fun e w' => e = .returned (.bool (Nm.nameOK s.data.toList)) ∧ w = w' := by
  unfold maxLen at hs
  have hl : s.data.toList.length = s.size := by simp
  by_cases h0 : s.size = 0
  · have : s = ByteArray.empty := by simpa using h0
    subst this
    go_enter Try.func39, Try.ntmps39
    go_wp2
    go_ret
    exact ⟨rfl, rfl⟩
  have e2 : decide ((s.size : Int) < 1) = false := decide_eq_false (by omega)
  by_cases h1 : 12 < s.size
  · go_enter Try.func39, Try.ntmps39
    go_wp2
    go_ret
    exact ⟨ret_bool (Nm.nameOK_long _ (by omega)).symm, rfl⟩
  have e1 : decide ((12 : Int) < s.size) = false := decide_eq_false (by omega)
  have p0 : 0 < s.size := by omega
  cases hd : Nm.letter s[0].toNat with
  | false =>
    have hfin : Nm.nameOK s.data.toList = false := by
      rw [Nm.nameOK_eq _ (by rw [hl]; exact p0) (by omega)]
      have : Nm.letter s.data.toList[0].toNat = false := hd
      rw [this]; rfl
    have Hf := Lib.hid hfin; clear hfin
    go_enter Try.func39, Try.ntmps39
    go_wp2_with (go_at_call 79; refine (l00Letter_any _ _).mono ?_; rintro e w' ⟨rfl, rfl⟩)
    go_ret
    exact ⟨ret_bool Hf.out.symm, rfl⟩
  | true =>
    have hfin : Nm.nameOK s.data.toList = Nm.lettersFrom s.data.toList := by
      rw [Nm.nameOK_eq _ (by rw [hl]; exact p0) (by omega)]
      have : Nm.letter s.data.toList[0].toNat = true := hd
      rw [this]; rfl
    have Hf := Lib.hid hfin; clear hfin
    have hst1 : Hid (Nm.lettersFrom (s.data.toList.take 1) = true) := by
      have e : Nm.lettersFrom (s.data.toList.take (0 + 1)) = (Nm.lettersFrom (s.data.toList.take 0) && Nm.okc s[0]) := Nm.lettersFrom_take _ 0 (by rw [hl]; exact p0)
      show Nm.lettersFrom (s.data.toList.take (0 + 1)) = true
      rw [e, Nm.okc, hd]; rfl
    have h1' : s.size ≤ 12 := by omega
    clear h1
    go_enter Try.func39, Try.ntmps39
    go_wp2_with (go_at_call 79; refine (l00Letter_any _ _).mono ?_; rintro e w' ⟨rfl, rfl⟩)
    go_loop [3] (fun i => ∃ k : Nat, 1 ≤ k ∧ k ≤ s.size ∧ i = .int .i64 k ∧ Nm.lettersFrom (s.data.toList.take k) = true) (fun i => s.size - (intOf i).toNat)
    case atStart => exact ⟨1, Nat.le_refl _, p0, rfl, hst1.out⟩
    case round =>
      obtain ⟨k, hk0, hk, rfl, hr⟩ := hrel
      have Hr := Lib.hid hr; clear hr
      by_cases hlt : k < s.size
      · have hst : Hid (Nm.lettersFrom (s.data.toList.take (k + 1)) = (Nm.lettersFrom (s.data.toList.take k) && Nm.okc s[k])) := Nm.lettersFrom_take _ k (by omega)
        have hbad : Hid (Nm.okc s[k] = false → Nm.lettersFrom s.data.toList = false) := fun h => Nm.lettersFrom_bad _ k (by omega) h
        have hok : Nm.okc s[k] = (Nm.letter s[k].toNat || Nm.digit s[k].toNat) := rfl
        have Hok := Lib.hid hok; clear hok
        go_wp2_with (first | (go_at_call 79; refine (l00Letter_any _ _).mono ?_; rintro e w' ⟨rfl, rfl⟩) | (go_at_call 80; refine (l00Digit_any _ _).mono ?_; rintro e w' ⟨rfl, rfl⟩))
        · go_round
          case rel => exact ⟨k + 1, by omega, by omega, by go_num, by rw [hst.out, Hr.out, Hok.out]; simp [*]⟩
          case measure => simp [intOf]; omega
        · go_ret
          exact ⟨ret_bool (by rw [Hf.out, hbad.out]; rw [Hok.out]; simp_all), rfl⟩
        · go_round
          case rel => exact ⟨k + 1, by omega, by omega, by go_num, by rw [hst.out, Hr.out, Hok.out]; simp_all⟩
          case measure => simp [intOf]; omega
      · go_wp2
        go_ret
        exact ⟨ret_bool (by rw [Hf.out]; have := Hr.out; rw [List.take_of_length_le (by omega)] at this; exact this.symm), rfl⟩

end Go.Proofs.Ytmfmclnklpbiaaa
/- The plain side of chapter 2: keys in order, maps, edits, and what the functions return. Lists and numbers alone. -/
namespace Go.Proofs.Ytmfmclnklpbiaaa

/-! ### keys in order -/
theorem bytesLess_lt : ∀ (x y : List UInt8), Op.bytesLess x y = decide (x < y)
  | [], [] => by simp [Op.bytesLess]
  | [], _ :: _ => by simp [Op.bytesLess]
  | _ :: _, [] => by simp [Op.bytesLess]
  | a :: xs, b :: ys => by
    rw [Op.bytesLess, bytesLess_lt xs ys, Bool.eq_iff_iff]
    simp [List.cons_lt_cons_iff]
def klt (a b : ByteArray) : Bool := Op.bytesLess a.toList b.toList
theorem klt_iff (a b : ByteArray) : klt a b = true ↔ a.toList < b.toList := by simp [klt, bytesLess_lt]
theorem klt_trans {a b c : ByteArray} (h : klt a b = true) (k : klt b c = true) : klt a c = true :=
  (klt_iff _ _).2 (List.lt_trans ((klt_iff _ _).1 h) ((klt_iff _ _).1 k))
theorem klt_tri {a b : ByteArray} (h : klt a b = false) (k : a ≠ b) : klt b a = true := by
  rw [klt_iff]
  have h' : ¬ a.toList < b.toList := fun x => by rw [(klt_iff _ _).2 x] at h; cases h
  rcases List.le_iff_lt_or_eq.1 (List.not_lt.1 h') with h2 | h2
  · exact h2
  · exact absurd (toList_inj h2.symm) k
/-! ### maps -/
def nm (k : ByteArray) : Bool := Nm.nameOK k.data.toList
def valB (x : Int) : Bool := decide (-1000000 ≤ x) && decide (x ≤ 1000000)
def kAt (es : List Ent) (i : Nat) : ByteArray := (es.getD i (ByteArray.empty, 0)).1
def ordAt (es : List Ent) (i : Nat) : Bool := nm (kAt es i) && (decide (i = 0) || klt (kAt es (i - 1)) (kAt es i))
def valAt (es : List Ent) (i : Nat) : Bool := valB (es.getD i (ByteArray.empty, 0)).2
def ordM (es : List Ent) : Bool := (List.range es.length).all (ordAt es)
def valM (es : List Ent) : Bool := (List.range es.length).all (valAt es)
def mapOK (es : List Ent) : Bool := decide (es.length ≤ 12) && (ordM es && valM es)
theorem kAt_eq (es : List Ent) (i : Nat) (h : i < es.length) : kAt es i = es[i].1 := by simp [kAt, h]
theorem ordM_of {es : List Ent} (h : ∀ i, i < es.length → ordAt es i = true) : ordM es = true := by
  rw [ordM, List.all_eq_true]; intro i hi; exact h i (List.mem_range.1 hi)
theorem valM_of {es : List Ent} (h : ∀ i, i < es.length → valAt es i = true) : valM es = true := by
  rw [valM, List.all_eq_true]; intro i hi; exact h i (List.mem_range.1 hi)
theorem ordM_at {es : List Ent} (h : ordM es = true) {i : Nat} (hi : i < es.length) : ordAt es i = true := List.all_eq_true.1 h i (List.mem_range.2 hi)
theorem mapOK_of {es : List Ent} (h0 : es.length ≤ 12) (h : ∀ i, i < es.length → ordAt es i = true ∧ valAt es i = true) : mapOK es = true := by
  rw [mapOK, ordM_of fun i hi => (h i hi).1, valM_of fun i hi => (h i hi).2, decide_eq_true h0]; rfl
end Go.Proofs.Ytmfmclnklpbiaaa
/- The plain side of Get, Put, Remove, Scan: what is found, put in, taken out, cut out; the program's way and the document's way agree on lists in order. -/
namespace Go.Proofs.Ytmfmclnklpbiaaa

def Srt (es : List Ent) : Prop := es.Pairwise fun a b => klt a.1 b.1 = true
/-! ### looking up -/
/-- where a key is or would be: 'place' -/
def IsPlc (es : List Ent) (k : ByteArray) (p : Nat) : Prop := p ≤ es.length ∧ (∀ j, (hj : j < es.length) → j < p → klt es[j].1 k = true) ∧ ((hp : p < es.length) → klt es[p].1 k = false)
theorem IsPlc.take {es : List Ent} {k : ByteArray} {p : Nat} (h : IsPlc es k p) : es.takeWhile (fun e => klt e.1 k) = es.take p ∧ es.dropWhile (fun e => klt e.1 k) = es.drop p := by
  induction es generalizing p with
  | nil => obtain ⟨h1, _⟩ := h; simp
  | cons e r ih =>
    obtain ⟨h1, h2, h3⟩ := h
    match p, h1, h2, h3 with
    | 0, _, _, h3 => have := h3 (by simp); simp at this; simp [this]
    | p + 1, h1, h2, h3 =>
      have he := h2 0 (by simp) (by omega)
      simp at he
      have := ih (p := p) ⟨by simpa using h1, fun j hj hjp => by have := h2 (j + 1) (by simp; omega) (by omega); simpa using this, fun hp => by have := h3 (by simp; omega); simpa using this⟩
      simp [he, this]
/-! ### putting in -/
def putL (es : List Ent) (k : ByteArray) (v : Int) : List Ent := es.takeWhile (fun e => klt e.1 k) ++ (k, v) :: (es.dropWhile (fun e => klt e.1 k)).filter fun e => decide (e.1 ≠ k)
def delL (es : List Ent) (k : ByteArray) : List Ent := es.filter fun e => decide (e.1 ≠ k)
/-- behind the place no key is the looked-for one but perhaps the first -/
theorem IsPlc.after {es : List Ent} {k : ByteArray} {p : Nat} (h : IsPlc es k p) (hs : Srt es) (j : Nat) (hj : j < es.length) (hpj : p < j) : klt k es[j].1 = true := by
  have h1 : klt es[p].1 es[j].1 = true := (List.pairwise_iff_getElem.1 hs) p j (by omega) hj hpj
  by_cases he : es[p].1 = k
  · rw [← he]; exact h1
  · exact klt_trans (klt_tri (h.2.2 (by omega)) he) h1
/-! ### cutting out -/
theorem klt_of_le {a b c : ByteArray} (h : klt b a = false) (h2 : klt b c = true) : klt a c = true := by
  by_cases e : a = b
  · rw [e]; exact h2
  · exact klt_trans (klt_tri h (fun x => e x.symm)) h2
end Go.Proofs.Ytmfmclnklpbiaaa
/- The document's way of putting in, step by step, comes to 'putL'. -/
namespace Go.Proofs.Ytmfmclnklpbiaaa

end Go.Proofs.Ytmfmclnklpbiaaa
namespace Go.Proofs.Ytmfmclnklpbiaaa
open Go.RowKit

/-! ### append of what a literal slice has just laid -/
/-! ### copy between rows whose elements have several cells -/
/-- a piece of a slice that reads as cells, as copy wants it: from place i on, m elements -/
theorem Rd.piece {w : World} {sz n : Nat} {A : Option Addr} {xs : List Value} (h : Rd w sz A n xs) {i m : Nat} (hm : i + m ≤ n) (hpos : 0 < ((xs.drop (i * sz)).take (m * sz)).length) :
    ∃ b off, A = some ⟨b, off, none⟩ ∧ ∀ j v, ((xs.drop (i * sz)).take (m * sz))[j]? = some v → w.cell? ((⟨b, off + i * sz, none⟩ : Addr).add j) = some v := by
  have hn : 0 < n := by
    rcases Nat.eq_zero_or_pos n with h0 | h0
    · subst h0
      have : m = 0 := by omega
      subst this
      simp at hpos
    · exact h0
  obtain ⟨b, off, rfl, _, hc⟩ := h.2 hn
  refine ⟨b, off, rfl, fun j v hj => ?_⟩
  have hadd : (⟨b, off + i * sz, none⟩ : Addr).add j = ⟨b, off + (i * sz + j), none⟩ := by unfold Addr.add; split <;> simp_all [Nat.add_assoc]
  rw [hadd]
  refine hc _ _ ?_
  rw [List.getElem?_take] at hj
  split at hj
  · rw [List.getElem?_drop] at hj; exact hj
  · cases hj
/-- the same, in the walk's own spelling of 's[i:j]' below the capacity -/
theorem Rd.cut {w : World} {sz n : Nat} {A : Option Addr} {xs : List Value} (h : Rd w sz A n xs) {i m : Nat} (hm : i + m ≤ n) (hpos : 0 < ((xs.drop (i * sz)).take (m * sz)).length) :
    ∃ ad, Option.map (fun x => x.add (i * sz)) A = some ad ∧ ∀ j v, ((xs.drop (i * sz)).take (m * sz))[j]? = some v → w.cell? (ad.add j) = some v := by
  obtain ⟨b, off, rfl, hc⟩ := h.piece hm hpos
  have hadd : (⟨b, off, none⟩ : Addr).add (i * sz) = ⟨b, off + i * sz, none⟩ := by unfold Addr.add; split <;> simp_all
  exact ⟨_, rfl, fun j v hj => by
    show w.cell? (((⟨b, off, none⟩ : Addr).add (i * sz)).add j) = some v
    rw [hadd]; exact hc j v hj⟩

end Go.Proofs.Ytmfmclnklpbiaaa
/- The law's helpers on entries: size, copy, equality. -/
namespace Go.Proofs.Ytmfmclnklpbiaaa
open Go.RowKit

end Go.Proofs.Ytmfmclnklpbiaaa
namespace Go.Proofs.Ytmfmclnklpbiaaa
open Go.RowKit

end Go.Proofs.Ytmfmclnklpbiaaa
namespace Go.Proofs.Ytmfmclnklpbiaaa
open Go.RowKit

end Go.Proofs.Ytmfmclnklpbiaaa
namespace Go.Proofs.Ytmfmclnklpbiaaa
open Go.RowKit

end Go.Proofs.Ytmfmclnklpbiaaa
namespace Go.Proofs.Ytmfmclnklpbiaaa
open Go.RowKit

end Go.Proofs.Ytmfmclnklpbiaaa
namespace Go.Proofs.Ytmfmclnklpbiaaa
open Go.RowKit

end Go.Proofs.Ytmfmclnklpbiaaa
namespace Go.Proofs.Ytmfmclnklpbiaaa
open Go.RowKit

end Go.Proofs.Ytmfmclnklpbiaaa
/- The document's l01Put: what it gathers, round by round. -/
namespace Go.Proofs.Ytmfmclnklpbiaaa
open Go.RowKit

end Go.Proofs.Ytmfmclnklpbiaaa
/- The document's Put, l01Remove, Remove, Scan. -/
namespace Go.Proofs.Ytmfmclnklpbiaaa
open Go.RowKit

def TupPost (e : TypeId) (r : List Ent × Int) (w : World) (e' : Ending) (w' : World) : Prop := ∃ v, e' = .returned (.tuple #[v, .int .i64 r.2]) ∧ w'.ownsRow w.heap.size e 2 v r.1.length (entsC r.1) ∧ Below w.heap.size w w'
theorem TupPost.mk {e : TypeId} {r : List Ent × Int} {l : List Ent} {c : Int} {v : Value} {w w' : World} (h : r = (l, c)) (ho : w'.ownsRow w.heap.size e 2 v l.length (entsC l)) (hb : Below w.heap.size w w') : TupPost e r w (.returned (.tuple #[v, .int .i64 c])) w' := ⟨v, by rw [h], by rw [h]; exact ho, hb⟩
end Go.Proofs.Ytmfmclnklpbiaaa
/- The program's part, with, without, Put, Remove, Scan. -/
namespace Go.Proofs.Ytmfmclnklpbiaaa
open Go.RowKit

end Go.Proofs.Ytmfmclnklpbiaaa
/- The program's with: an entry put in at its place, into new memory. -/
namespace Go.Proofs.Ytmfmclnklpbiaaa
open Go.RowKit

theorem Blk.two {w : World} {g : Nat} {t : TypeId} {cs : Array Value} (h : Blk w g t cs) {k : Nat} (hk : k * 2 + 1 < cs.size) :
    ∃ y0 y1, w.cell? ⟨g, k * 2, none⟩ = some y0 ∧ w.cell? ⟨g, k * 2 + 1, none⟩ = some y1 ∧ w.frozen? ⟨g, k * 2, none⟩ = false ∧ w.frozen? ⟨g, k * 2 + 1, none⟩ = false :=
  ⟨_, _, (h.cell _).trans (Array.getElem?_eq_getElem (by omega)), (h.cell _).trans (Array.getElem?_eq_getElem hk), h.frozen _, h.frozen _⟩
end Go.Proofs.Ytmfmclnklpbiaaa
/- The program's without: an entry taken out, into new memory. -/
namespace Go.Proofs.Ytmfmclnklpbiaaa
open Go.RowKit

end Go.Proofs.Ytmfmclnklpbiaaa
namespace Go.Proofs.Ytmfmclnklpbiaaa
open Go.RowKit

instance edt_dec : DecidableEq Edt := fun a b => decidable_of_iff (a.key = b.key ∧ a.val = b.val ∧ a.gone = b.gone) ⟨fun ⟨h1, h2, h3⟩ => by cases a; cases b; simp at *; exact ⟨h1, h2, h3⟩, fun h => by subst h; exact ⟨rfl, rfl, rfl⟩⟩
end Go.Proofs.Ytmfmclnklpbiaaa
namespace Go.Proofs.Ytmfmclnklpbiaaa
open Go.RowKit

def digs : Nat → Int → ByteArray → ByteArray
  | 0, _, t => t
  | f + 1, j, t => if 0 < j then digs f (j / 10) (strOfNums [48 + j % 10] ++ t) else t
def markB (k : Int) : ByteArray := if 0 < k then ⟨#[109]⟩ ++ digs k.toNat k ⟨#[]⟩ else ⟨#[109, 48]⟩
/-- what a row of entries holds behind its marking, from mark k on -/
def marked : Nat → Int → List Ent
  | 0, _ => []
  | n + 1, k => (markB k, k + 1) :: marked n (k + 2)
end Go.Proofs.Ytmfmclnklpbiaaa
namespace Go.Proofs.Ytmfmclnklpbiaaa
open Go.RowKit

end Go.Proofs.Ytmfmclnklpbiaaa
namespace Go.Proofs.Ytmfmclnklpbiaaa
open Go.RowKit

end Go.Proofs.Ytmfmclnklpbiaaa
namespace Go.Proofs.Ytmfmclnklpbiaaa
open Go.RowKit

end Go.Proofs.Ytmfmclnklpbiaaa
namespace Go.Proofs.Ytmfmclnklpbiaaa.AM
open Go Go.RowKit
set_option linter.unusedVariables false

def strA (k : ByteArray) : AV := .v (.string k)
def intA (x : Int) : AV := .v (.int .i64 x)
def entA (e : Ent) : AV := .agg [.v (.string e.1), .v (.int .i64 e.2)]
def edtA (e : Edt) : AV := .agg [.v (.string e.key), .v (.int .i64 e.val), .v (.bool e.gone)]
theorem flat_map {α : Type} {f : α → AV} (h : ∀ a, flatA (f a)) : ∀ l : List α, flatL (l.map f)
  | [] => by simp only [List.map_nil]; unfold flatL; trivial
  | a :: l => by simp only [List.map_cons]; unfold flatL; exact ⟨h a, flat_map h l⟩
theorem flat_o0 : ∀ ob ∈ ([] : List OB), flatO ob := fun ob h => by cases h
theorem flat_o1 {t sz : Nat} {xs : List AV} (h : flatL xs) : ∀ ob ∈ [(⟨.s t, sz, xs⟩ : OB)], flatO ob := fun ob hm => by rw [List.mem_singleton] at hm; subst hm; exact h
theorem flat_o2 {t sz t' sz' : Nat} {xs xs' : List AV} (h : flatL xs) (h' : flatL xs') : ∀ ob ∈ [(⟨.s t, sz, xs⟩ : OB), ⟨.s t', sz', xs'⟩], flatO ob := fun ob hm => by
  rcases List.mem_cons.1 hm with rfl | hm
  · exact h
  · exact flat_o1 h' ob hm
theorem flat_ent (e : Ent) : flatA (entA e) := by unfold entA; simp [flatA, flatL]
theorem flat_edt (e : Edt) : flatA (edtA e) := by unfold edtA; simp [flatA, flatL]
theorem flat_str (e : ByteArray) : flatA (strA e) := by unfold strA; simp [flatA]

section
variable {S : Nat → Prop} {w : World}
theorem arg_v {S0 : Nat → Prop} {hp B V} {x u : Value} (h : RV S0 w hp B V (.v x) u) : u = x := by unfold RV at h; exact h.1
theorem rvs1 {S0 : Nat → Prop} {hp B V} {x : AV} {us : List Value} (h : RVs S0 w hp B V [x] us) : ∃ u, us = [u] ∧ RV S0 w hp B V x u := by
  unfold RVs at h; obtain ⟨u, us', rfl, h1, h2⟩ := h; unfold RVs at h2; subst h2; exact ⟨u, rfl, h1⟩
end

section
variable {P : Program} {f : FuncId} {fn : Func} {args : List AV}
theorem ent_of (hf : P.funcs[f]? = some fn) (hnm : (fn.name == "runtime.NumGoroutine") = false) (hb : fn.body.isNone = false) : ∀ vs w, (callFunc f vs).run P w = .ok (.enter f vs) w := fun vs w => by
  simp only [callFunc, Sem.run_bind, run_program, Result.andThen_ok, hf, hnm, hb]; rfl
theorem rvs_none {S : Nat → Prop} {w : World} {hp hp' : Nat → Option OB} {B B' : Nat → Nat} {V V' : Nat → Value} {xs : List AV} {vs : List Value} (hn : ∀ l, hp l = none) (h : RVs S w hp B V xs vs) : RVs S w hp' B' V' xs vs :=
  RVs.carry (fun _ h => h) (fun _ _ => rfl) _ _ (fun l _ ob e => by rw [hn] at e; cases e) h
theorem rows_none {S : Nat → Prop} {w : World} {hp : Nat → Option OB} {B : Nat → Nat} {V : Nat → Value} {T : Nat → Nat → Prop} {lo : Nat → Prop} (hn : ∀ l, hp l = none) : Rows S w hp (fun _ => none) B V T lo :=
  ⟨fun l ob e => (by rw [hn] at e; cases e), fun l ob g e => (by rw [hn] at e; cases e), fun l ob g e => (by rw [hn] at e; cases e), fun l l' o1 o2 g e => (by rw [hn] at e; cases e), fun l es e => (by cases e)⟩
theorem obs_nil (l : Nat) : obsF [] l = none := by simp [obsF]
/-- a contract whose result is a plain value -/
theorem ac_val {r : Value} (hent : ∀ vs w, (callFunc f vs).run P w = .ok (.enter f vs) w) (h1 : r.oneCell' = true)
    (h : ∀ (w : World) (S0 : Nat → Prop) (vs : List Value), (∀ b, S0 b → b < w.heap.size) → RVs S0 w (fun _ => none) (fun _ => 0) (fun _ => undef) args vs → Calls P f vs.toArray w fun e w' => e = .returned r ∧ Below w.heap.size w w') : AC P f args ⟨.v r, []⟩ :=
  ⟨hent, fun w S0 B0 V0 T0 vs hS _ hv => (h w S0 vs hS (rvs_none (fun _ => rfl) hv)).mono fun e w' ⟨he, hb⟩ => ⟨r, S0, fun _ => 0, fun _ => undef, fun _ => Fa, fun _ => Fa, he, Grown.of hb _, fun _ h => h, fun b hb' => ⟨Nat.lt_of_lt_of_le (hS b hb') hb.size, .inl hb'⟩, by unfold RV; exact ⟨rfl, h1⟩, rows_none obs_nil, rows_none (fun _ => rfl), fun l l' ob ob' g e => (by rw [obs_nil] at e; cases e)⟩⟩
end

end Go.Proofs.Ytmfmclnklpbiaaa.AM
namespace Go.Proofs.Ytmfmclnklpbiaaa
open Go.RowKit Go.ChangeShapes Go.WideShapes Go.Deep

theorem own_ : ownKnob Try.prog.godebug = none := by kernel_rfl
theorem laidOut_ : laidOutB Try.prog = true := by kernel_rfl

theorem add_zero_ (a : Addr) : a.add 0 = a := by unfold Addr.add; simp
theorem spot_of_cell {w : World} {a : Addr} {v : Value} (h : w.cell? a = some v) : a.spot = none := by
  unfold World.cell? at h
  cases hs : a.spot with
  | none => rfl
  | some x => simp [hs] at h; split at h <;> simp at h

section
variable {H : Type} {enc : TypeId × Value → H} {P : Program} {w : World} {base : Nat} {spare : Nat → Bool} {held : Bool}
end

/-- a list out of facts on its places -/
theorem list_of {α : Type} (n : Nat) (Q : Nat → α → Prop) (h : ∀ i, i < n → ∃ a, Q i a) : ∃ l : List α, l.length = n ∧ ∀ i (hi : i < l.length), Q i l[i] := by
  induction n with
  | zero => exact ⟨[], rfl, fun i hi => absurd hi (by simp)⟩
  | succ n ih =>
    obtain ⟨l, hl, hq⟩ := ih fun i hi => h i (by omega)
    obtain ⟨a, ha⟩ := h n (by omega)
    refine ⟨l ++ [a], by simp [hl], fun i hi => ?_⟩
    rw [List.length_append, List.length_singleton] at hi
    rcases Nat.lt_or_ge i l.length with hlt | hge
    · rw [List.getElem_append_left hlt]; exact hq i hlt
    · have : i = l.length := by omega
      subst this
      rw [List.getElem_append_right (Nat.le_refl _)]
      simp only [Nat.sub_self, List.getElem_cons_zero]
      rw [hl]; exact ha

section
variable {H : Type} {enc : TypeId × Value → H} {P : Program} {w : World} {base : Nat} {held : Bool}
end
end Go.Proofs.Ytmfmclnklpbiaaa
namespace Go.Proofs.Ytmfmclnklpbiaaa.AM
open Go Go.RowKit Go.ChangeShapes Go.WideShapes Go.Deep
set_option linter.unusedVariables false
section
variable {H : Type} {enc : TypeId × Value → H} {P : Program} {w : World} {base : Nat} {spare : Nat → Bool} {held : Bool}
theorem open_cap {t e : TypeId} {A : Option Addr} {n c : Nat} {d : DataW H} {p : List MemPlace} (ht : P.underlying t = some (.slice e)) (h : DataW.Trod enc P w base spare held t (.slice A n c) d p) : n ≤ c ∧ c ≤ maxLen := by
  obtain ⟨fuel, hf⟩ := h
  rcases open_slice ht hf with ⟨hcs, _⟩ | ⟨a, len, cap, m, n', D, Pl, hcs, hb, hl, hm, _⟩
  · simp [Value.cells] at hcs; obtain ⟨rfl, rfl, rfl⟩ := hcs; exact ⟨Nat.le_refl _, Nat.zero_le _⟩
  · simp [Value.cells] at hcs; obtain ⟨rfl, rfl, rfl⟩ := hcs; exact ⟨hl, hm⟩
end
section
variable {w : World} {hp : Nat → Option OB} {B : Nat → Nat} {V : Nat → Value}
def InW (w : World) : Nat → Prop := fun b => b < w.heap.size
theorem rd_at {sz : Nat} {A : Option Addr} {n : Nat} {xs : List Value} (h : Rd w sz A n xs) (hn : 0 < n) : ∃ b off, A = some ⟨b, off, none⟩ ∧ InW w b ∧ ∀ j u, xs[j]? = some u → w.cell? ⟨b, off + j, none⟩ = some u := by
  obtain ⟨b, off, h1, h2, h3⟩ := h.2 hn
  exact ⟨b, off, h1, h2, h3⟩
theorem rvs_nil : RVs (InW w) w hp B V [] [] := by unfold RVs; rfl
theorem rvs_cons {x : AV} {xs : List AV} {u : Value} {us : List Value} (h : RV (InW w) w hp B V x u) (r : RVs (InW w) w hp B V xs us) : RVs (InW w) w hp B V (x :: xs) (u :: us) := by
  unfold RVs; exact ⟨u, us, rfl, h, r⟩
/-- what a law's contract says of a call of it -/
theorem law_calls {P : Program} {f : FuncId} {args : List AV} {vs : List Value} {r : Value} (h : AC P f args ⟨.v r, []⟩) (hv : RVs (InW w) w (fun _ => none) (fun _ => 0) (fun _ => undef) args vs) : Calls P f vs.toArray w fun e w' => e = .returned r ∧ Below w.heap.size w w' :=
  (h.2 w (InW w) (fun _ => 0) (fun _ => undef) (fun _ => Fa) vs (fun b hb => hb) (rows_none (fun _ => rfl)) (rvs_none (fun _ => rfl) hv)).mono fun e w' ⟨v, S, B, V, T, T1, h1, h2, _, _, h5, _⟩ => by
    unfold RV at h5
    exact ⟨by rw [h1, h5.1], h2.below (fun g ⟨l, ob, e, _⟩ => by cases e)⟩
end
end Go.Proofs.Ytmfmclnklpbiaaa.AM
namespace Go.Proofs.Ytmfmclnklpbiaaa.AM
open Go Go.RowKit
set_option linter.unusedVariables false
set_option maxRecDepth 100000

attribute [local irreducible] ACode AOps AOps2 RetG RetM Pre ACG

end Go.Proofs.Ytmfmclnklpbiaaa.AM
namespace Go.Proofs.Ytmfmclnklpbiaaa.AM
open Go Go.RowKit
set_option linter.unusedVariables false
set_option maxRecDepth 100000

section
variable {P : Program} {t : TypeId} {x y : Operand} {a b : ByteArray}
theorem b_sne_t (h : a ≠ b) : BinOK P .neq t x y (.string a) (.string b) (.bool true) := b_str fun w => by simp [Op.stringOp, toList_beq, h]
theorem b_sne_f (h : a = b) : BinOK P .neq t x y (.string a) (.string b) (.bool false) := b_str fun w => by simp [Op.stringOp, h]
theorem b_seq_t (h : a = b) : BinOK P .eql t x y (.string a) (.string b) (.bool true) := b_str fun w => by simp [Op.stringOp, h]
theorem b_seq_f (h : a ≠ b) : BinOK P .eql t x y (.string a) (.string b) (.bool false) := b_str fun w => by simp [Op.stringOp, toList_beq, h]
end
attribute [local irreducible] ACode AOps AOps2 RetG RetM Pre ACG

end Go.Proofs.Ytmfmclnklpbiaaa.AM
namespace Go.Proofs.Ytmfmclnklpbiaaa
open Go.RowKit

def TupE (e : TypeId) (r : List Edt × Int) (w : World) (e' : Ending) (w' : World) : Prop := ∃ v, e' = .returned (.tuple #[v, .int .i64 r.2]) ∧ w'.ownsRow w.heap.size e 3 v r.1.length (edtsC r.1) ∧ Below w.heap.size w w'
theorem TupE.mk {e : TypeId} {r : List Edt × Int} {l : List Edt} {c : Int} {v : Value} {w w' : World} (h : r = (l, c)) (ho : w'.ownsRow w.heap.size e 3 v l.length (edtsC l)) (hb : Below w.heap.size w w') : TupE e r w (.returned (.tuple #[v, .int .i64 c])) w' := ⟨v, by rw [h], by rw [h]; exact ho, hb⟩
end Go.Proofs.Ytmfmclnklpbiaaa
namespace Go.Proofs.Ytmfmclnklpbiaaa.AM
open Go Go.RowKit
set_option linter.unusedVariables false
set_option linter.unusedSimpArgs false
set_option maxRecDepth 100000
attribute [local irreducible] ACode AOps AOps2 RetG RetM Pre ACG
end Go.Proofs.Ytmfmclnklpbiaaa.AM
namespace Go.Proofs.Ytmfmclnklpbiaaa.AM
open Go Go.RowKit
set_option linter.unusedVariables false
set_option linter.unusedSimpArgs false
set_option maxRecDepth 100000

abbrev Cmt := List Int × List Ent
theorem all_int (cs : List Int) : ∀ x ∈ cs.map intA, asz x = 1 := fun x hx => by obtain ⟨e, _, rfl⟩ := List.mem_map.1 hx; rfl
theorem flat_int (e : Int) : flatA (intA e) := by unfold intA; simp [flatA]
/-- a row that is given up is stored, to be read from now on -/
theorem p_ostoref {P : Program} {Θ : Tab} {s : St} {d : Option Tmp} {ty : TypeId} {pos : String} {after : Array Edge} {g : Option (Nat × Bool)} {t : TypeId} {x y : Operand} {l l' i c : Nat} {p : List Nat} {ob ob' : OB} {q z : AV} (hq : ob.xs[i]? = some q) (hx : s.ev x = .optr l i p c) (ho : s.hp l = some ob) (hg : getP q p 0 = some (z, c)) (hs : ((Θ.look t).known && (Nat.beq (asz z) (Θ.look t).size && Nat.beq 1 (asz z))) = true) (hy : s.ev y = .own l') (ho' : s.hp l' = some ob') (hn : Nat.beq l l' = false) (hop : ob.e.open_ = true := by rfl) (hsh : ob'.e.shut = true := by rfl) (hok : okL l' = true := by rfl) (hc : cOK y = true := by rfl) :
    Pre P Θ ⟨d, .store t x y, ty, pos, after, g⟩ s ⟨.any, some fun s' => (s'.frz l').set l (some ⟨.s (ob.e.typ.getD 0), ob.sz, ob.xs.set i (setP q p (.lst ob'.sz ob'.xs))⟩)⟩ := by
  simp only [Bool.and_eq_true] at hs
  have hd : s.dat (s.ev y) = .lst ob'.sz ob'.xs := by rw [hy]; simp [St.dat, ho', hsh]
  have hown : ownsA (s.ev y) = [l'] := by rw [hy]; rfl
  have hda : isDataA s (s.ev y) = true := by rw [hy]; simp [isDataA, ho', hsh]
  obtain ⟨t0, he⟩ : ∃ t0, ob.e = .s t0 ∨ ob.e = .z t0 := by
    cases h : ob.e with
    | s t0 => exact ⟨t0, .inl rfl⟩
    | z t0 => exact ⟨t0, .inr rfl⟩
    | _ => rw [h] at hop; cases hop
  have ht : ob.e.typ.getD 0 = t0 := by rcases he with he | he <;> rw [he] <;> rfl
  have hne : l ≠ l' := fun e => by rw [e] at hn; simp at hn
  refine ⟨cOK_spec hc, hs.1, l, i, p, c, ob, hx, ho, .inl ⟨t0, q, z, he, hq, hg, Nat.eq_of_beq_eq_true hs.2.1, by rw [hd]; exact Nat.eq_of_beq_eq_true hs.2.2, hda, by rw [hown]; simpa using hne, by rw [hown]; simp [hok], ?_⟩⟩
  rw [hd, hown, ht]; rfl
theorem r_cell1 {s : St} {a t l : Nat} {ob : OB} {x : AV} {Θ : Tab} (h1 : s.sl a = .optr l 0 [] 0) (ho : s.hp l = some ob) (hx : ob.xs[0]? = some x) (hk : ((Θ.look t).known && (Bool.xor (isAggA x) (Θ.look t).isAgg).not && Nat.beq (asz x) (Θ.look t).size) = true) (hd : (match x with | .v _ | .agg _ | .lst _ _ | .any => True | _ => False)) (hop : ob.e.open_ = true := by rfl) :
    RetQ Θ [.cell a t] ⟨x, []⟩ .ret s := by
  have hr : rvA s (.cell a t) = x := by
    simp only [rvA, h1, ho, hop, hx, cond_true, Option.getD_some]
  simp only [Bool.and_eq_true] at hk
  refine ⟨trivial, [], by simp, trivial, ⟨⟨hk.1.1, by rw [hr]; exact xor_not hk.1.2, by rw [hr]; exact Nat.eq_of_beq_eq_true hk.2, .inl ⟨l, ob, x, h1, ho, .inl ⟨hop, hx⟩⟩⟩, trivial⟩, trivial, ⟨.inl ?_, trivial⟩⟩
  rw [hr]
  cases x <;> first | exact ⟨rfl, rfl⟩ | exact hd.elim
attribute [local irreducible] ACode AOps AOps2 RetG RetM Pre ACG

end Go.Proofs.Ytmfmclnklpbiaaa.AM
namespace Go.Proofs.Ytmfmclnklpbiaaa.AM
open Go Go.RowKit
set_option linter.unusedVariables false
set_option linter.unusedSimpArgs false
set_option maxRecDepth 100000
section
variable {P : Program} {Θ : Tab} {s : St} {d : Option Tmp} {ty : TypeId} {pos : String} {after : Array Edge} {g : Option (Nat × Bool)}
theorem p_binA {op : BinOp} {t t2 : TypeId} {x y : Operand} {a b r : Value} (h : BinOK P op t x y a b r) (hx : conc (s.ev x) = some a) (hy : conc (s.ev y) = some b) (h1 : r.oneCell' = true) : Pre P Θ ⟨d, .binOp op t x y t2, ty, pos, after, g⟩ s ⟨.v r, none⟩ :=
  ⟨a, b, r, hx, hy, h, h1, rfl⟩
end
section
variable {s : St} {Θ : Tab}
theorem ra_o {t l sz : Nat} {e : ET} {xs : List AV} (h : s.sl t = .own l) (ho : s.hp l = some ⟨e, sz, xs⟩) (hok : okL l = true := by rfl) (hsh : e.shut = true := by rfl) : retA s [] (s.sl t) (.lst sz xs) :=
  .inr ⟨by rw [h]; simp [isDataA, ho, hsh], by rw [h]; simp [ownsA, hok], by rw [h]; simp [St.dat, ho, hsh]⟩
end
end Go.Proofs.Ytmfmclnklpbiaaa.AM
namespace Go.Proofs.Ytmfmclnklpbiaaa.AM
open Go Go.RowKit
set_option linter.unusedVariables false
set_option linter.unusedSimpArgs false
set_option maxRecDepth 100000

theorem p_lslm {P : Program} {Θ : Tab} {s : St} {d : Option Tmp} {ty : TypeId} {pos : String} {after : Array Edge} {g : Option (Nat × Bool)} {α : Type} {f : α → AV} {t : TypeId} {x y : Operand} {el sz b h : Nat} {k : IntKind} {z : AV} {xs : List α} (hh : h ≤ xs.length) (ht : Θ.look t = .slice el sz b z) (hx : s.ev x = .lst sz (xs.map f)) (hy : s.ev y = .v (.int k (h : Int))) : Pre P Θ ⟨d, .slice t x none (some y) none, ty, pos, after, g⟩ s ⟨.lst sz ((xs.take h).map f), none⟩ := by
  have := p_lslice (P := P) (Θ := Θ) (s := s) (d := d) (ty := ty) (pos := pos) (after := after) (g := g) (t := t) (x := x) (lo := none) (hi := some y) (l := 0) (h := h) (xs := xs.map f) (Nat.zero_le _) (by simpa using hh) ht hx rfl ⟨k, hy⟩
  rw [List.drop_zero, ← List.map_take] at this
  exact this
attribute [local irreducible] ACode AOps AOps2 RetG RetM Pre ACG

theorem ac_in_t {x lo hi : Int} (h : lo ≤ x) (h' : x ≤ hi) : AC Try.prog 77 [.v (.int .i64 x), .v (.int .i64 lo), .v (.int .i64 hi)] ⟨.v (.bool true), []⟩ := by
  refine r_of Th_ok (by kernel_rfl) Try.func77 rfl Try.ntmps77 Try.results77 (by kernel_rfl) rfl ?_; conv => whnf
  repeat (((first | refine qb rfl rfl ?_ | refine qi (by assumption) rfl rfl ?_ | refine ql rfl ?_ | refine qo rfl rfl ?_ | refine qs rfl rfl ?_ | refine qn rfl rfl ?_); conv => whnf))
  exact r_ret1 rfl trivial
theorem ac_in_f {x lo hi : Int} (h : ¬ (lo ≤ x ∧ x ≤ hi)) : AC Try.prog 77 [.v (.int .i64 x), .v (.int .i64 lo), .v (.int .i64 hi)] ⟨.v (.bool false), []⟩ := by
  by_cases h1 : lo ≤ x
  · refine r_of Th_ok (by kernel_rfl) Try.func77 rfl Try.ntmps77 Try.results77 (by kernel_rfl) rfl ?_; conv => whnf
    repeat (((first | refine qb rfl rfl ?_ | refine qi (by assumption) rfl rfl ?_ | refine ql rfl ?_ | refine qo rfl rfl ?_ | refine qs rfl rfl ?_ | refine qn rfl rfl ?_); conv => whnf))
    exact r_ret1 rfl trivial
  · refine r_of Th_ok (by kernel_rfl) Try.func77 rfl Try.ntmps77 Try.results77 (by kernel_rfl) rfl ?_; conv => whnf
    repeat (((first | refine qb rfl rfl ?_ | refine qi (by assumption) rfl rfl ?_ | refine ql rfl ?_ | refine qo rfl rfl ?_ | refine qs rfl rfl ?_ | refine qn rfl rfl ?_); conv => whnf))
    exact r_ret1 rfl trivial

end Go.Proofs.Ytmfmclnklpbiaaa.AM
namespace Go.Proofs.Ytmfmclnklpbiaaa.AM
open Go Go.RowKit
set_option linter.unusedVariables false
set_option linter.unusedSimpArgs false
set_option maxRecDepth 100000

structure Rf where
  name : ByteArray
  head : Int
  ver : Int
  gone : Bool
def refA (r : Rf) : AV := .agg [.v (.string r.name), .v (.int .i64 r.head), .v (.int .i64 r.ver), .v (.bool r.gone)]
theorem flat_ref (e : Rf) : flatA (refA e) := by unfold refA; simp [flatA, flatL]
attribute [local irreducible] ACode AOps AOps2 RetG RetM Pre ACG

end Go.Proofs.Ytmfmclnklpbiaaa.AM
namespace Go.Proofs.Ytmfmclnklpbiaaa
open Go.RowKit Go.ChangeShapes Go.WideShapes Go.Deep

section
variable {H : Type} {enc : TypeId × Value → H} {P : Program} {w : World} {base : Nat} {held : Bool}
end
end Go.Proofs.Ytmfmclnklpbiaaa
namespace Go.Proofs.Ytmfmclnklpbiaaa
open Go.RowKit Go.ChangeShapes Go.WideShapes Go.Deep

section
variable {H : Type} {enc : TypeId × Value → H} {P : Program} {w : World} {base : Nat} {held : Bool}
theorem open_bytes_ {t e : TypeId} {A : Option Addr} {n c : Nat} {d : DataW H} {p : List MemPlace} (ht : P.underlying t = some (.slice e)) (he : P.underlying e = some (.int .u8)) (hC : P.cellsOf e = 1)
    (h : DataW.Trod enc P w base (fun _ => true) held t (.slice A n c) d p) :
    ∃ bs : List UInt8, Rd w 1 A n (bs.map fun b => .int .u8 b.toNat) ∧ n ≤ maxLen := by
  obtain ⟨fuel, hf⟩ := h
  rcases open_ints ht he hC hf with ⟨hcs, _⟩ | ⟨a, len, cap, zs, hcs, _, hl, hm, hzl, _, hcell, hwf⟩
  · simp [Value.cells] at hcs
    obtain ⟨rfl, rfl, rfl⟩ := hcs
    exact ⟨[], ⟨by simp, fun h => absurd h (by omega)⟩, Nat.zero_le _⟩
  · simp [Value.cells] at hcs
    obtain ⟨rfl, rfl, rfl⟩ := hcs
    simp at hzl
    refine ⟨(zs.take n).map fun z => UInt8.ofNat z.toNat, ⟨by simp; omega, fun hn => ?_⟩, Nat.le_trans hl hm⟩
    have h0 := hcell 0 (by omega)
    rw [add_zero_] at h0
    have hsp := spot_of_cell h0
    obtain ⟨b, off, sp⟩ := a
    simp at hsp
    subst hsp
    have hadd : ∀ j, (⟨b, off, none⟩ : Addr).add j = ⟨b, off + j, none⟩ := fun j => by unfold Addr.add; split <;> simp_all
    refine ⟨b, off, rfl, World.block_lt_of_cell? w _ h0, fun j u hu => ?_⟩
    rw [List.map_map, List.getElem?_map] at hu
    have hj : j < (zs.take n).length := by
      rcases Nat.lt_or_ge j (zs.take n).length with h | h
      · exact h
      · rw [List.getElem?_eq_none h] at hu; cases hu
    rw [List.getElem?_eq_getElem hj] at hu
    have hjz : j < zs.length := by rw [List.length_take] at hj; omega
    have hz : (zs.take n)[j] = zs[j] := by simp
    rw [hz] at hu
    have hc := hcell j hjz
    rw [hadd] at hc
    rw [hc, ← Option.some.inj hu]
    have hw := hwf zs[j] (List.getElem_mem hjz)
    have hr : 0 ≤ zs[j] ∧ zs[j] ≤ 255 := by simpa [Lit.wf, IntKind.min, IntKind.max, IntKind.signed, IntKind.bits] using hw
    have e1 : zs.getD j 0 = zs[j] := by simp [hjz]
    rw [e1]
    have e2 : ((UInt8.ofNat zs[j].toNat).toNat : Int) = zs[j] := by
      have : (UInt8.ofNat zs[j].toNat).toNat = zs[j].toNat := by
        rw [UInt8.toNat_ofNat']; exact Nat.mod_eq_of_lt (by omega)
      rw [this]; omega
    simp only [Function.comp, e2]
end
end Go.Proofs.Ytmfmclnklpbiaaa
namespace Go.Proofs.Ytmfmclnklpbiaaa.AM
open Go Go.RowKit
set_option linter.unusedVariables false
set_option linter.unusedSimpArgs false
set_option maxRecDepth 100000
def bytA (b : UInt8) : AV := .v (.int .u8 b.toNat)
theorem all_byt (l : List UInt8) : ∀ x ∈ l.map bytA, asz x = 1 := fun x hx => by obtain ⟨_, _, rfl⟩ := List.mem_map.1 hx; rfl
theorem rl_byts {S : Nat → Prop} {w : World} : ∀ (l : List UInt8), RL S w (l.map bytA) (l.map fun b => .int .u8 b.toNat)
  | [] => by simp only [List.map_nil]; exact rl_nil
  | x :: l => by simp only [List.map_cons]; exact rl_cons (c1 := [_]) (ra_v rfl) (rl_byts l)
theorem rv_byts {w : World} {hp : Nat → Option OB} {B : Nat → Nat} {V : Nat → Value} {A : Option Addr} {n c : Nat} {bs : List UInt8} (hc : n ≤ c ∧ c ≤ maxLen) (h : Rd w 1 A n (bs.map fun b => .int .u8 b.toNat)) : RV (InW w) w hp B V (.lst 1 (bs.map bytA)) (.slice A n c) := by
  have hl : bs.length = n := by have := h.1; simpa using this
  unfold RV RA
  refine ⟨A, c, by rw [List.length_map, hl], by rw [List.length_map, hl]; exact hc.1, hc.2, all_byt bs, by omega, ?_⟩
  rcases Nat.eq_zero_or_pos n with h0 | h0
  · left
    rw [List.eq_nil_of_length_eq_zero (hl.trans h0)]; rfl
  · obtain ⟨b, off, rfl, hlt, hcl⟩ := rd_at h h0
    exact .inr ⟨b, off, _, rfl, hlt, rl_byts bs, hcl⟩
structure Src where
  at_ : Nat
  seed : Int
def srcA (c : List UInt8) (s : Src) : AV := .agg [.lst 1 (c.map bytA), .v (.int .i64 s.at_), .v (.int .i64 s.seed)]
abbrev srcO (c : List UInt8) (s : Src) : OB := ⟨112, 3, [srcA c s]⟩
def Src.ok (s : Src) (K : Nat) : Prop := s.at_ ≤ K ∧ 0 ≤ s.seed ∧ s.seed < 2147483648
def stepS (x : Int) : Int := x % 2147483648
theorem stepS_lt (x : Int) : 0 ≤ stepS x ∧ stepS x < 2147483648 := ⟨Int.emod_nonneg _ (by decide), Int.emod_lt_of_pos _ (by decide)⟩
/-- a byte of the source -/
def byteS (c : List UInt8) (s : Src) : Int × Src :=
  if h : s.at_ < c.length then (((c[s.at_]).toNat : Int), ⟨s.at_ + 1, stepS (s.seed * 31 + ((c[s.at_]).toNat : Int) + 7)⟩)
  else if 3000 < s.at_ + 1 then (0, ⟨s.at_ + 1, s.seed⟩)
  else (stepS (s.seed * 1103515245 + 12345) / 65536 % 256, ⟨s.at_ + 1, stepS (s.seed * 1103515245 + 12345)⟩)
theorem byteS_ok {c : List UInt8} {s : Src} {K : Nat} (h : s.ok K) : (byteS c s).2.ok (K + 1) ∧ 0 ≤ (byteS c s).1 ∧ (byteS c s).1 < 256 := by
  obtain ⟨h1, h2, h3⟩ := h
  unfold byteS
  split
  · rename_i hl
    refine ⟨⟨by simp; omega, (stepS_lt _).1, (stepS_lt _).2⟩, by simp, ?_⟩
    have := (c[s.at_]).toNat_lt
    show ((c[s.at_]).toNat : Int) < 256
    omega
  · split
    · exact ⟨⟨by simp; omega, h2, h3⟩, by simp, by simp⟩
    · exact ⟨⟨by simp; omega, (stepS_lt _).1, (stepS_lt _).2⟩, Int.emod_nonneg _ (by decide), Int.emod_lt_of_pos _ (by decide)⟩
section
variable {P : Program} {t : TypeId} {x y : Operand} {a b c : Int}
theorem b_rem2 (h0 : 0 ≤ a) (hb : 0 < b) (hc : a % b = c) : BinOK P .rem t x y (.int .i64 a) (.int .i64 b) (.int .i64 c) := fun w => by
  have hb0 : b ≠ 0 := by omega
  have hr : (Op.intDiv .rem .i64 a b).run P w = .ok (.int .i64 (a.tmod b)) w := by simp [Op.intDiv, hb0]
  subst hc
  rw [← Int.tmod_eq_emod_of_nonneg h0]
  simp [eqGuard, binOp, hr]
theorem b_quo2 (h0 : 0 ≤ a) (h1 : a ≤ 9223372036854775807) (hb : 1 < b) (hc : a / b = c) : BinOK P .quo t x y (.int .i64 a) (.int .i64 b) (.int .i64 c) := fun w => by
  have hb0 : b ≠ 0 := by omega
  have hle : a / b ≤ a := Int.ediv_le_self b h0
  have hnn : 0 ≤ a / b := Int.ediv_nonneg h0 (by omega)
  have hw : IntKind.i64.wrap (a.tdiv b) = c := by rw [Int.tdiv_eq_ediv_of_nonneg h0, IntKind.wrap_i64, hc]; omega
  have hr : (Op.intDiv .quo .i64 a b).run P w = .ok (.int .i64 c) w := by simp [Op.intDiv, hb0, hw]
  simp [eqGuard, binOp, hr]
theorem b_mul2 (h : a * b = c) (hl : -9223372036854775808 ≤ c) (hu : c ≤ 9223372036854775807) : BinOK P .mul t x y (.int .i64 a) (.int .i64 b) (.int .i64 c) := fun w => by
  have hw : IntKind.i64.wrap (a * b) = c := by rw [IntKind.wrap_i64, h]; omega
  simp [eqGuard, binOp, Op.intArith, hw]
end
theorem p_conv8 {Θ : Tab} {s : St} {d : Option Tmp} {ty : TypeId} {pos : String} {after : Array Edge} {g : Option (Nat × Bool)} {x : Operand} {n : Nat} (hx : s.ev x = .v (.int .u8 (n : Int))) (hn : n < 256) : Pre Try.prog Θ ⟨d, .convert 5 3 x, ty, pos, after, g⟩ s ⟨.v (.int .i64 (n : Int)), none⟩ := by
  refine ⟨.int .u8 n, .int .i64 n, by rw [hx]; rfl, fun w => ?_, rfl, rfl⟩
  have hw : IntKind.i64.wrap (n : Int) = n := by rw [IntKind.wrap_i64]; omega
  have h1 : (underlying 5).run Try.prog w = .ok (.int .u8) w := run_underlying Try.underlying5 w
  have h2 : (underlying 3).run Try.prog w = .ok (.int .i64) w := run_underlying Try.underlying3 w
  simp [convert, h1, h2, Conv.intToInt, hw]
theorem r_ret1s {s : St} {Θ : Tab} {r : Nat} {v : Value} {o1 : OB} (h1 : s.sl r = .v v) (h2 : s.hp 0 = some o1) : RetG Θ [.tmp r] [o1] ⟨.v v, []⟩ .ret s := ⟨⟨h2, trivial⟩, [], by simp, trivial, ⟨trivial, trivial⟩, trivial, ⟨.inl ⟨h1, rfl⟩, trivial⟩⟩
attribute [local irreducible] ACode AOps AOps2 RetG RetM Pre ACG
set_option maxHeartbeats 8000000 in
theorem ac_byte {c : List UInt8} {s : Src} {K : Nat} (hc : c.length ≤ maxLen) (hs : s.ok K) (hK : K ≤ 1000000000) : ACG Try.prog 106 [.optr 0 0 [] 0] [srcO c s] [srcO c (byteS c s).2] ⟨.v (.int .i64 (byteS c s).1), []⟩ := by
  unfold maxLen at hc
  obtain ⟨h1, h2, h3⟩ := hs
  have hlen : (s.at_ + 1 : Nat) ≤ 1000000001 := by omega
  unfold byteS
  refine acg_of (rs := [.tmp 2]) Th_ok (by kernel_rfl) Try.func106 rfl Try.ntmps106 (by rw [Try.results106]) (by kernel_rfl) (by simp) rfl rfl (runC_sound _ _ _ ?_)
  conv => whnf
  by_cases h : s.at_ < c.length
  · rw [dif_pos h]
    have hb : (c[s.at_]).toNat < 256 := (c[s.at_]).toNat_lt
    repeat (first | (refine r_put (p_bin (b_add (c := ((s.at_ + 1 : Nat) : Int)) (by omega) (by omega) (by omega)) rfl rfl rfl) rfl rfl ?_; conv => whnf) | (refine r_put (p_bin (b_sub (c := (s.at_ : Int)) (by omega) (by omega) (by omega)) rfl rfl rfl) rfl rfl ?_; conv => whnf) | (refine r_put (p_bin (b_mul2 rfl (by omega) (by omega)) rfl rfl rfl) rfl rfl ?_; conv => whnf) | (refine r_put (p_bin (b_rem2 (by omega) (by omega) rfl) rfl rfl rfl) rfl rfl ?_; conv => whnf) | (refine r_put (p_conv8 rfl hb) rfl rfl ?_; conv => whnf) | ((first | refine qb rfl rfl ?_ | refine qi (by assumption) rfl rfl ?_ | refine ql rfl ?_ | refine qo rfl rfl ?_ | refine qs rfl rfl ?_ | refine qn rfl rfl ?_); conv => whnf) | (refine .inl (And.intro (by kernel_rfl) ?_); conv => whnf) | (refine r_step (p_ostore rfl rfl rfl rfl rfl (by conv => lhs; whnf) rfl) rfl rfl (fun e => by first | exact .inl rfl | contradiction | exact .inr (.inl (by kernel_rfl))) ?_; conv => whnf))
    exact r_ret1s rfl rfl
  rw [dif_neg h]
  by_cases h3 : 3000 < s.at_ + 1
  · rw [if_pos h3]
    repeat (first | (refine r_put (p_bin (b_add (c := ((s.at_ + 1 : Nat) : Int)) (by omega) (by omega) (by omega)) rfl rfl rfl) rfl rfl ?_; conv => whnf) | ((first | refine qb rfl rfl ?_ | refine qi (by assumption) rfl rfl ?_ | refine ql rfl ?_ | refine qo rfl rfl ?_ | refine qs rfl rfl ?_ | refine qn rfl rfl ?_); conv => whnf) | (refine .inl (And.intro (by kernel_rfl) ?_); conv => whnf) | (refine r_step (p_ostore rfl rfl rfl rfl rfl (by conv => lhs; whnf) rfl) rfl rfl (fun e => by first | exact .inl rfl | contradiction | exact .inr (.inl (by kernel_rfl))) ?_; conv => whnf))
    exact r_ret1s rfl rfl
  · rw [if_neg h3]
    have hst := stepS_lt (s.seed * 1103515245 + 12345)
    repeat (first | (refine r_put (p_bin (b_add (c := ((s.at_ + 1 : Nat) : Int)) (by omega) (by omega) (by omega)) rfl rfl rfl) rfl rfl ?_; conv => whnf) | (refine r_put (p_bin (b_mul2 rfl (by omega) (by omega)) rfl rfl rfl) rfl rfl ?_; conv => whnf) | (refine r_put (p_bin (b_rem2 (c := stepS (s.seed * 1103515245 + 12345)) (by omega) (by omega) rfl) rfl rfl rfl) rfl rfl ?_; conv => whnf) | (refine r_put (p_bin (b_quo2 hst.1 (by omega) (by omega) rfl) rfl rfl rfl) rfl rfl ?_; conv => whnf) | (refine r_put (p_bin (b_rem2 (Int.ediv_nonneg hst.1 (by decide)) (by omega) rfl) rfl rfl rfl) rfl rfl ?_; conv => whnf) | ((first | refine qb rfl rfl ?_ | refine qi (by assumption) rfl rfl ?_ | refine ql rfl ?_ | refine qo rfl rfl ?_ | refine qs rfl rfl ?_ | refine qn rfl rfl ?_); conv => whnf) | (refine .inl (And.intro (by kernel_rfl) ?_); conv => whnf) | (refine r_step (p_ostore rfl rfl rfl rfl rfl (by conv => lhs; whnf) rfl) rfl rfl (fun e => by first | exact .inl rfl | contradiction | exact .inr (.inl (by kernel_rfl))) ?_; conv => whnf))
    exact r_ret1s rfl rfl
end Go.Proofs.Ytmfmclnklpbiaaa.AM
namespace Go.Proofs.Ytmfmclnklpbiaaa

end Go.Proofs.Ytmfmclnklpbiaaa
namespace Go.Proofs.Ytmfmclnklpbiaaa

def applyOne (m : List Ent) (e : Edt) : List Ent := if e.gone then delL m e.key else putL m e.key e.val
def applyL (es : List Ent) (xs : List Edt) : List Ent := xs.foldl applyOne es
theorem putL_cons_lt (e : Ent) (r : List Ent) (k : ByteArray) (v : Int) (h : klt e.1 k = true) : putL (e :: r) k v = e :: putL r k v := by simp [putL, h]
theorem putL_cons_ge (e : Ent) (r : List Ent) (k : ByteArray) (v : Int) (h : klt e.1 k = false) : putL (e :: r) k v = (k, v) :: (e :: r).filter (fun e => decide (e.1 ≠ k)) := by
  rw [putL, List.takeWhile_cons_of_neg (by simp [h]), List.dropWhile_cons_of_neg (by simp [h])]; rfl
theorem mem_putL {es : List Ent} {k : ByteArray} {v : Int} {x : Ent} (h : x ∈ putL es k v) : x = (k, v) ∨ x ∈ es := by
  rw [putL, List.mem_append, List.mem_cons] at h
  rcases h with h | h | h
  · exact .inr ((List.takeWhile_sublist _).mem h)
  · exact .inl h
  · exact .inr ((List.dropWhile_sublist _).mem (List.mem_filter.1 h).1)
theorem srt_putL {es : List Ent} (h : Srt es) (k : ByteArray) (v : Int) : Srt (putL es k v) := by
  induction es with
  | nil => simp [putL, Srt]
  | cons e r ih =>
    rw [Srt, List.pairwise_cons] at h
    cases hk : klt e.1 k with
    | true =>
      rw [putL_cons_lt e r k v hk, Srt, List.pairwise_cons]
      refine ⟨fun x hx => ?_, ih h.2⟩
      rcases mem_putL hx with rfl | hx
      · exact hk
      · exact h.1 x hx
    | false =>
      rw [putL_cons_ge e r k v hk, Srt, List.pairwise_cons]
      refine ⟨fun x hx => ?_, (List.pairwise_cons.2 h).filter _⟩
      rw [List.mem_filter, List.mem_cons] at hx
      obtain ⟨hx, hne⟩ := hx
      rcases hx with rfl | hx
      · exact klt_tri hk (by simpa using hne)
      · exact klt_of_le hk (h.1 x hx)
theorem srt_delL {es : List Ent} (h : Srt es) (k : ByteArray) : Srt (delL es k) := List.Pairwise.filter _ h
end Go.Proofs.Ytmfmclnklpbiaaa
namespace Go.Proofs.Ytmfmclnklpbiaaa.AM
open Go Go.RowKit
set_option linter.unusedVariables false
def keys8 : List ByteArray := [⟨#[97]⟩, ⟨#[98]⟩, ⟨#[99]⟩, ⟨#[100]⟩, ⟨#[101]⟩, ⟨#[107, 49]⟩, ⟨#[107, 50]⟩, ⟨#[122, 122]⟩]
theorem keys8_nm : (keys8.all fun k => nm k && decide (k.size ≤ 12)) = true := by kernel_rfl
theorem keys8_ok {k : ByteArray} (h : k ∈ keys8) : nm k = true ∧ k.size ≤ 12 := by
  have := List.all_eq_true.1 keys8_nm k h
  simpa using this
/-- a map as the draws make one -/
def Good (es : List Ent) : Prop := Srt es ∧ ∀ e ∈ es, e.1 ∈ keys8 ∧ 0 ≤ e.2 ∧ e.2 < 9
theorem Good.nil : Good [] := ⟨List.Pairwise.nil, by simp⟩
theorem Good.put {es : List Ent} (h : Good es) {k : ByteArray} (hk : k ∈ keys8) {v : Int} (h0 : 0 ≤ v) (h1 : v < 9) : Good (putL es k v) :=
  ⟨srt_putL h.1 k v, fun e he => by
    rcases mem_putL he with rfl | he
    · exact ⟨hk, h0, h1⟩
    · exact h.2 e he⟩
theorem Good.del {es : List Ent} (h : Good es) (k : ByteArray) : Good (delL es k) := ⟨srt_delL h.1 k, fun e he => h.2 e (List.mem_filter.1 he).1⟩
theorem ordM_of_srt {es : List Ent} (h : Srt es) (hn : ∀ e ∈ es, nm e.1 = true) : ordM es = true := ordM_of fun i hi => by
  rw [ordAt, kAt_eq es i hi, hn _ (List.getElem_mem hi), Bool.true_and]
  rcases Nat.eq_zero_or_pos i with h0 | h0
  · rw [decide_eq_true h0]; rfl
  · have h2 := (List.pairwise_iff_getElem.1 h) (i - 1) i (by omega) hi (by omega)
    rw [kAt_eq es (i - 1) (by omega), h2, Bool.or_true]
theorem Good.ok {es : List Ent} (h : Good es) (hl : es.length ≤ 12) : mapOK es = true :=
  mapOK_of hl fun i hi => by
    have he := h.2 _ (List.getElem_mem hi)
    refine ⟨ordM_at (ordM_of_srt h.1 fun e he => (keys8_ok (h.2 e he).1).1) hi, ?_⟩
    have e1 : valAt es i = valB es[i].2 := by simp [valAt, hi]
    rw [e1, valB, decide_eq_true (by omega), decide_eq_true (by omega)]; rfl
theorem Good.small {es : List Ent} (h : Good es) : ∀ e ∈ es, e.1.size ≤ maxLen := fun e he => by
  have := (keys8_ok (h.2 e he).1).2
  unfold maxLen; omega
/-- edits as the draws make them -/
def GoodE (xs : List Edt) : Prop := xs.Pairwise (fun a b => klt a.key b.key = true) ∧ ∀ e ∈ xs, e.key ∈ keys8 ∧ 0 ≤ e.val ∧ e.val < 9 ∧ (e.gone = true → e.val = 0)
theorem GoodE.nil : GoodE [] := ⟨List.Pairwise.nil, by simp⟩
theorem GoodE.small {xs : List Edt} (h : GoodE xs) : ∀ e ∈ xs, e.key.size ≤ maxLen := fun e he => by
  have := (keys8_ok (h.2 e he).1).2
  unfold maxLen; omega
theorem Good.apply : ∀ (xs : List Edt) {es : List Ent}, Good es → (∀ e ∈ xs, e.key ∈ keys8 ∧ 0 ≤ e.val ∧ e.val < 9) → Good (applyL es xs)
  | [], _, h, _ => h
  | e :: xs, es, h, hx => by
    show Good (applyL (applyOne es e) xs)
    refine Good.apply xs ?_ (fun x hx' => hx x (by simp [hx']))
    obtain ⟨h1, h2, h3⟩ := hx e (by simp)
    unfold applyOne
    split
    · exact h.del _
    · exact h.put h1 h2 h3
end Go.Proofs.Ytmfmclnklpbiaaa.AM
namespace Go.Proofs.Ytmfmclnklpbiaaa
open Go.RowKit

end Go.Proofs.Ytmfmclnklpbiaaa
namespace Go.Proofs.Ytmfmclnklpbiaaa
open Go.RowKit

end Go.Proofs.Ytmfmclnklpbiaaa
/- Chapter 3 over data: edits applied, both sides; an edit found. -/
namespace Go.Proofs.Ytmfmclnklpbiaaa.AM
open Go Go.RowKit
set_option linter.unusedVariables false
set_option linter.unusedSimpArgs false
set_option maxRecDepth 100000
attribute [local irreducible] ACode AOps AOps2 RetG RetM Pre ACG
end Go.Proofs.Ytmfmclnklpbiaaa.AM
/- Chapter 3 over data: the document's merge. -/
namespace Go.Proofs.Ytmfmclnklpbiaaa.AM
open Go Go.RowKit
set_option linter.unusedVariables false
set_option linter.unusedSimpArgs false
set_option maxRecDepth 100000
attribute [local irreducible] ACode AOps AOps2 RetG RetM Pre ACG
end Go.Proofs.Ytmfmclnklpbiaaa.AM
/- Changes in order: a comparison of maps is in order; the keys on which two lists of changes differ, from either side. -/
namespace Go.Proofs.Ytmfmclnklpbiaaa.AM
open Go Go.RowKit
set_option linter.unusedVariables false
end Go.Proofs.Ytmfmclnklpbiaaa.AM
/- Chapter 3 over data: the document's Merge3, MergeEdits, Rebase. -/
namespace Go.Proofs.Ytmfmclnklpbiaaa.AM
open Go Go.RowKit
set_option linter.unusedVariables false
set_option linter.unusedSimpArgs false
set_option maxRecDepth 100000
attribute [local irreducible] ACode AOps AOps2 RetG RetM Pre ACG
end Go.Proofs.Ytmfmclnklpbiaaa.AM
/- Chapter 3 over data: the program's merge, out of what it does with two lists of changes. -/
namespace Go.Proofs.Ytmfmclnklpbiaaa.AM
open Go Go.RowKit
set_option linter.unusedVariables false
set_option linter.unusedSimpArgs false
set_option maxRecDepth 100000
attribute [local irreducible] ACode AOps AOps2 RetG RetM Pre ACG
end Go.Proofs.Ytmfmclnklpbiaaa.AM
/- Chapter 3 over data: bounds of the results. -/
namespace Go.Proofs.Ytmfmclnklpbiaaa.AM
open Go Go.RowKit
set_option linter.unusedVariables false
end Go.Proofs.Ytmfmclnklpbiaaa.AM
/- The program's comparison of two lists of changes: a map of strings. -/
namespace Go.Proofs.Ytmfmclnklpbiaaa.AM
open Go Go.RowKit
set_option linter.unusedVariables false
set_option linter.unusedSimpArgs false
set_option maxRecDepth 100000
attribute [local irreducible] ACode AOps AOps2 RetG RetM Pre ACG
end Go.Proofs.Ytmfmclnklpbiaaa.AM
namespace Go.Proofs.Ytmfmclnklpbiaaa.AM
open Go Go.RowKit
set_option linter.unusedVariables false
set_option linter.unusedSimpArgs false
set_option maxRecDepth 100000
def nextS (c : List UInt8) (s : Src) (n : Nat) : Nat × Src := if n ≤ 1 then (0, s) else ((byteS c s).1.toNat % n, (byteS c s).2)
theorem nextS_ok {c : List UInt8} {s : Src} {K n : Nat} (h : s.ok K) (hn : 0 < n) : (nextS c s n).2.ok (K + 1) ∧ (nextS c s n).1 < n := by
  obtain ⟨h1, h2, h3⟩ := byteS_ok (c := c) h
  unfold nextS
  split
  · exact ⟨⟨by have := h.1; simp; omega, h.2.1, h.2.2⟩, hn⟩
  · exact ⟨h1, Nat.mod_lt _ hn⟩
theorem Src.ok.le {s : Src} {K L : Nat} (h : s.ok K) (k : K ≤ L) : s.ok L := ⟨Nat.le_trans h.1 k, h.2⟩
abbrev strO (l : List ByteArray) : OB := ⟨9, 1, l.map strA⟩
theorem r_ret1s2 {s : St} {Θ : Tab} {r : Nat} {v : Value} {o1 o2 : OB} (h1 : s.sl r = .v v) (h2 : s.hp 0 = some o1) (h3 : s.hp 1000000 = some o2) : RetG Θ [.tmp r] [o1, o2] ⟨.v v, []⟩ .ret s := ⟨⟨h2, h3, trivial⟩, [], by simp, trivial, ⟨trivial, trivial⟩, trivial, ⟨.inl ⟨h1, rfl⟩, trivial⟩⟩
theorem r_own1s {s : St} {t l : Nat} {ob o0 : OB} {Θ : Tab} (h1 : s.sl t = .own l) (ho : s.hp l = some ob) (h0 : s.hp 0 = some o0) (hok : okL l = true := by rfl) (hsh : ob.e.shut = true := by rfl) : RetG Θ [.tmp t] [o0] ⟨.own 0, [ob]⟩ .ret s :=
  ⟨⟨h0, trivial⟩, [l], by simp, ⟨⟨ho, hok, hsh⟩, trivial⟩, ⟨trivial, trivial⟩, trivial, ⟨.inl ⟨h1, rfl⟩, trivial⟩⟩
attribute [local irreducible] ACode AOps AOps2 RetG RetM Pre ACG
theorem ac_next {c : List UInt8} {s : Src} {K n : Nat} (hc : c.length ≤ maxLen) (hs : s.ok K) (hK : K ≤ 1000000000) (hn : n ≤ 256) : ACG Try.prog 87 [.optr 0 0 [] 0, .v (.int .i64 (n : Int))] [srcO c s] [srcO c (nextS c s n).2] ⟨.v (.int .i64 ((nextS c s n).1 : Int)), []⟩ := by
  obtain ⟨_, b2, b3⟩ := byteS_ok (c := c) hs
  have hb := ac_byte hc hs hK
  unfold nextS
  by_cases h1 : n ≤ 1
  · rw [if_pos h1]
    refine acg_of (rs := [.tmp 4]) Th_ok (by kernel_rfl) Try.func87 rfl Try.ntmps87 (by rw [Try.results87]) (by kernel_rfl) (by simp) rfl rfl (runC_sound _ _ _ ?_); conv => whnf
    repeat (((first | refine qb rfl rfl ?_ | refine qi (by assumption) rfl rfl ?_ | refine ql rfl ?_ | refine qo rfl rfl ?_ | refine qs rfl rfl ?_ | refine qn rfl rfl ?_); conv => whnf))
    exact r_ret1s rfl rfl
  · rw [if_neg h1]
    have hmod : (byteS c s).1 % (n : Int) = (((byteS c s).1.toNat % n : Nat) : Int) := by
      rw [Int.natCast_emod, Int.toNat_of_nonneg b2]
    refine acg_of (rs := [.tmp 4]) Th_ok (by kernel_rfl) Try.func87 rfl Try.ntmps87 (by rw [Try.results87]) (by kernel_rfl) (by simp) rfl rfl (runC_sound _ _ _ ?_); conv => whnf
    repeat (first | ((first | refine qb rfl rfl ?_ | refine qi (by assumption) rfl rfl ?_ | refine ql rfl ?_ | refine qo rfl rfl ?_ | refine qs rfl rfl ?_ | refine qn rfl rfl ?_); conv => whnf) | (refine r_step (p_callg [0] (hb) rfl rfl (by first | exact ⟨rfl, trivial⟩ | exact ⟨rfl, rfl, trivial⟩ | exact ⟨rfl, rfl, rfl, trivial⟩) rfl rfl (by first | exact trivial | exact ⟨⟨rfl, rfl, rfl⟩, trivial⟩ | exact ⟨⟨rfl, rfl, rfl⟩, ⟨rfl, rfl, rfl⟩, trivial⟩ | exact ⟨⟨rfl, rfl, rfl⟩, ⟨rfl, rfl, rfl⟩, ⟨rfl, rfl, rfl⟩, trivial⟩) rfl rfl rfl (.inl rfl) rfl) rfl rfl (fun e => by first | exact .inl rfl | contradiction | exact .inr (.inl (by kernel_rfl))) ?_; conv => whnf) | (refine r_put (p_bin (b_rem2 b2 (by omega) hmod) rfl rfl rfl) rfl rfl ?_; conv => whnf))
    exact r_ret1s rfl rfl
theorem ac_chance {c : List UInt8} {s : Src} {K n : Nat} (hc : c.length ≤ maxLen) (hs : s.ok K) (hK : K ≤ 1000000000) (hn : n ≤ 256) (h0 : 0 < n) : ACG Try.prog 88 [.optr 0 0 [] 0, .v (.int .i64 (n : Int))] [srcO c s] [srcO c (nextS c s n).2] ⟨.v (.bool (decide ((nextS c s n).1 = n - 1))), []⟩ := by
  have hb := ac_next hc hs hK hn
  obtain ⟨_, hlt⟩ := nextS_ok (c := c) hs h0
  by_cases h : (nextS c s n).1 = n - 1
  · rw [decide_eq_true h]
    refine acg_of (rs := [.tmp 4]) Th_ok (by kernel_rfl) Try.func88 rfl Try.ntmps88 (by rw [Try.results88]) (by kernel_rfl) (by simp) rfl rfl (runC_sound _ _ _ ?_); conv => whnf
    repeat (first | ((first | refine qb rfl rfl ?_ | refine qi (by assumption) rfl rfl ?_ | refine ql rfl ?_ | refine qo rfl rfl ?_ | refine qs rfl rfl ?_ | refine qn rfl rfl ?_); conv => whnf) | (refine r_step (p_callg [0] (hb) rfl rfl (by first | exact ⟨rfl, trivial⟩ | exact ⟨rfl, rfl, trivial⟩ | exact ⟨rfl, rfl, rfl, trivial⟩) rfl rfl (by first | exact trivial | exact ⟨⟨rfl, rfl, rfl⟩, trivial⟩ | exact ⟨⟨rfl, rfl, rfl⟩, ⟨rfl, rfl, rfl⟩, trivial⟩ | exact ⟨⟨rfl, rfl, rfl⟩, ⟨rfl, rfl, rfl⟩, ⟨rfl, rfl, rfl⟩, trivial⟩) rfl rfl rfl (.inl rfl) rfl) rfl rfl (fun e => by first | exact .inl rfl | contradiction | exact .inr (.inl (by kernel_rfl))) ?_; conv => whnf))
    exact r_ret1s rfl rfl
  · rw [decide_eq_false h]
    refine acg_of (rs := [.tmp 4]) Th_ok (by kernel_rfl) Try.func88 rfl Try.ntmps88 (by rw [Try.results88]) (by kernel_rfl) (by simp) rfl rfl (runC_sound _ _ _ ?_); conv => whnf
    repeat (first | ((first | refine qb rfl rfl ?_ | refine qi (by assumption) rfl rfl ?_ | refine ql rfl ?_ | refine qo rfl rfl ?_ | refine qs rfl rfl ?_ | refine qn rfl rfl ?_); conv => whnf) | (refine r_step (p_callg [0] (hb) rfl rfl (by first | exact ⟨rfl, trivial⟩ | exact ⟨rfl, rfl, trivial⟩ | exact ⟨rfl, rfl, rfl, trivial⟩) rfl rfl (by first | exact trivial | exact ⟨⟨rfl, rfl, rfl⟩, trivial⟩ | exact ⟨⟨rfl, rfl, rfl⟩, ⟨rfl, rfl, rfl⟩, trivial⟩ | exact ⟨⟨rfl, rfl, rfl⟩, ⟨rfl, rfl, rfl⟩, ⟨rfl, rfl, rfl⟩, trivial⟩) rfl rfl rfl (.inl rfl) rfl) rfl rfl (fun e => by first | exact .inl rfl | contradiction | exact .inr (.inl (by kernel_rfl))) ?_; conv => whnf))
    exact r_ret1s rfl rfl
def pickS (c : List UInt8) (s : Src) (l : List ByteArray) : ByteArray × Src := (l.getD (nextS c s l.length).1 ByteArray.empty, (nextS c s l.length).2)
theorem ac_pick {c : List UInt8} {s : Src} {K : Nat} {l : List ByteArray} (hc : c.length ≤ maxLen) (hs : s.ok K) (hK : K ≤ 1000000000) (hn : l.length ≤ 256) (h0 : 0 < l.length) : ACG Try.prog 93 [.optr 0 0 [] 0, .own 1000000] [srcO c s, strO l] [srcO c (pickS c s l).2, strO l] ⟨.v (.string (pickS c s l).1), []⟩ := by
  obtain ⟨_, hlt⟩ := nextS_ok (c := c) hs h0
  have hb := ac_next (n := l.length) hc hs hK hn
  have hg : (l.map strA)[(nextS c s l.length).1]? = some (.v (.string (pickS c s l).1)) := by simp [pickS, strA, hlt]
  refine acg_of (rs := [.tmp 4]) Th_ok (by kernel_rfl) Try.func93 rfl Try.ntmps93 (by rw [Try.results93]) (by kernel_rfl) (by simp) rfl rfl (runC_sound _ _ _ ?_); conv => whnf
  repeat (first | ((first | refine qb rfl rfl ?_ | refine qi (by assumption) rfl rfl ?_ | refine ql rfl ?_ | refine qo rfl rfl ?_ | refine qs rfl rfl ?_ | refine qn rfl rfl ?_); conv => whnf) | (refine r_step (p_callg [0] (hb) rfl rfl (by first | exact ⟨rfl, trivial⟩ | exact ⟨rfl, rfl, trivial⟩ | exact ⟨rfl, rfl, rfl, trivial⟩) rfl rfl (by first | exact trivial | exact ⟨⟨rfl, rfl, rfl⟩, trivial⟩ | exact ⟨⟨rfl, rfl, rfl⟩, ⟨rfl, rfl, rfl⟩, trivial⟩ | exact ⟨⟨rfl, rfl, rfl⟩, ⟨rfl, rfl, rfl⟩, ⟨rfl, rfl, rfl⟩, trivial⟩) rfl rfl rfl (.inl rfl) rfl) rfl rfl (fun e => by first | exact .inl rfl | contradiction | exact .inr (.inl (by kernel_rfl))) ?_; conv => whnf) | (refine o_put (p_oidx (by simpa using hlt) rfl rfl rfl rfl rfl) rfl rfl ?_; refine r_put (p_old rfl rfl hg rfl rfl rfl rfl) rfl rfl ?_; conv => whnf))
  exact r_ret1s2 rfl rfl rfl
end Go.Proofs.Ytmfmclnklpbiaaa.AM
namespace Go.Proofs.Ytmfmclnklpbiaaa.AM
open Go Go.RowKit
set_option linter.unusedVariables false
set_option linter.unusedSimpArgs false
set_option maxRecDepth 100000

attribute [local irreducible] ACode AOps AOps2 RetG RetM Pre ACG
end Go.Proofs.Ytmfmclnklpbiaaa.AM
/- The law of StoreOK, over data. -/
namespace Go.Proofs.Ytmfmclnklpbiaaa.AM
open Go Go.RowKit
set_option linter.unusedVariables false
set_option linter.unusedSimpArgs false
set_option maxRecDepth 100000
attribute [local irreducible] ACode AOps AOps2 RetG RetM Pre ACG
def comOK (N : Nat) (cs : List Cmt) : Prop := ∀ c ∈ cs, c.1.length ≤ N ∧ c.2.length ≤ N ∧ ∀ e ∈ c.2, e.1.size ≤ N
theorem comOK.le {N M : Nat} {cs : List Cmt} (h : comOK N cs) (k : N ≤ M) : comOK M cs := fun c hc => ⟨Nat.le_trans (h c hc).1 k, Nat.le_trans (h c hc).2.1 k, fun e he => Nat.le_trans ((h c hc).2.2 e he) k⟩
end Go.Proofs.Ytmfmclnklpbiaaa.AM
/- A law's arguments opened: commits. -/
namespace Go.Proofs.Ytmfmclnklpbiaaa.AM
open Go Go.RowKit Go.ChangeShapes Go.WideShapes Go.Deep
set_option linter.unusedVariables false
set_option linter.unusedSimpArgs false

section
variable {S : Nat → Prop} {w : World}
theorem rl_intA : ∀ (l : List Int), RL S w (l.map intA) (l.map fun x => .int .i64 x)
  | [] => by simp only [List.map_nil]; exact rl_nil
  | x :: l => by simp only [List.map_cons]; exact rl_cons (c1 := [_]) (ra_v rfl) (rl_intA l)
end
section
variable {H : Type} {enc : TypeId × Value → H} {P : Program} {w : World} {base : Nat} {held : Bool}
theorem open_ints {t e : TypeId} {v : Value} {k : Nat} {y : DataW H × List MemPlace} (ht : P.underlying t = some (.slice e)) (he : P.underlying e = some (.int .i64)) (hC : P.cellsOf e = 1) (h : DataW.trod enc P w base (fun _ => true) held k t [v] = some y) :
    ∃ l : List Int, RA (InW w) w (.lst 1 (l.map intA)) [v] ∧ l.length ≤ maxLen := by
  rcases open_slice ht h with ⟨hcs, _⟩ | ⟨a, len, cap, m, n, D, Pl, hcs, hb, hl, hm, hmm, hx, hi⟩
  · exact ⟨[], by rw [hcs]; exact ra_nil (by omega), Nat.zero_le _⟩
  · rw [hcs]
    simp at hmm
    subst hmm
    rcases Nat.eq_zero_or_pos len with h0 | hpos
    · subst h0
      refine ⟨[], ?_, Nat.zero_le _⟩
      simp only [List.map_nil]
      unfold RA
      exact ⟨_, _, rfl, Nat.zero_le _, hm, by simp, by omega, .inl rfl⟩
    have hall : ∀ i, i < len → ∃ x : Int, w.cell? (a.add i) = some (.int .i64 x) := fun i hil => by
      obtain ⟨cs', hc, ht'⟩ := hi i (by omega)
      rw [hC, Nat.mul_one] at hc
      obtain ⟨_, hcl, hat⟩ := World.cells?_some hc
      obtain ⟨x, hx, _⟩ := DataW.trod_int he ht'
      subst hx
      have := hat 0 (by omega)
      rw [add_zero_] at this
      exact ⟨x, this⟩
    obtain ⟨x0, hx0⟩ := hall 0 hpos
    rw [add_zero_] at hx0
    have hsp := spot_of_cell hx0
    obtain ⟨b, off, sp⟩ := a
    simp at hsp
    subst hsp
    have hadd : ∀ j, (⟨b, off, none⟩ : Addr).add j = ⟨b, off + j, none⟩ := fun j => by unfold Addr.add; split <;> simp_all
    obtain ⟨l, hll, hq⟩ := list_of (α := Int) len (fun i x => w.cell? ⟨b, off + i, none⟩ = some (.int .i64 x)) (fun i hil => by
      obtain ⟨x, hx⟩ := hall i hil
      rw [hadd] at hx; exact ⟨x, hx⟩)
    refine ⟨l, ?_, by omega⟩
    unfold RA
    refine ⟨_, _, by rw [List.length_map, hll], by rw [List.length_map]; omega, hm, all_int l, by omega, .inr ⟨b, off, _, rfl, World.block_lt_of_cell? w _ hx0, rl_intA l, fun j u hu => ?_⟩⟩
    rw [List.getElem?_map] at hu
    obtain ⟨x, hx, rfl⟩ := Option.map_eq_some_iff.1 hu
    obtain ⟨hj, hx⟩ := List.getElem?_eq_some_iff.1 hx
    rw [← hx]; exact hq j hj
end
end Go.Proofs.Ytmfmclnklpbiaaa.AM
namespace Go.Proofs.Ytmfmclnklpbiaaa
open Go.RowKit

end Go.Proofs.Ytmfmclnklpbiaaa
/- Two stores compared, on both sides; the law of SameStore over data. -/
namespace Go.Proofs.Ytmfmclnklpbiaaa.AM
open Go Go.RowKit
set_option linter.unusedVariables false
set_option linter.unusedSimpArgs false
set_option maxRecDepth 100000
attribute [local irreducible] ACode AOps AOps2 RetG RetM Pre ACG
theorem ext_to {α : Type} {a b : List α} (h : a.length = b.length) (he : ∀ i, i < a.length → ∃ (h1 : i < a.length) (h2 : i < b.length), a[i] = b[i]) : a = b :=
  List.ext_getElem h fun i h1 h2 => (he i h1).2.2
def Agree {α : Type} (a b : List α) (k : Nat) : Prop := ∀ i, i < k → ∃ (h1 : i < a.length) (h2 : i < b.length), a[i] = b[i]
theorem Agree.snoc {α : Type} {a b : List α} {k : Nat} (h : Agree a b k) (h1 : k < a.length) (h2 : k < b.length) (he : a[k] = b[k]) : Agree a b (k + 1) := fun i hi => by
  rcases Nat.lt_or_ge i k with h' | h'
  · exact h i h'
  · have : i = k := by omega
    subst this; exact ⟨h1, h2, he⟩
end Go.Proofs.Ytmfmclnklpbiaaa.AM
/- The law of SameStore over data. -/
namespace Go.Proofs.Ytmfmclnklpbiaaa.AM
open Go Go.RowKit
set_option linter.unusedVariables false
set_option linter.unusedSimpArgs false
set_option maxRecDepth 100000
attribute [local irreducible] ACode AOps AOps2 RetG RetM Pre ACG
end Go.Proofs.Ytmfmclnklpbiaaa.AM
namespace Go.Proofs.Ytmfmclnklpbiaaa.AM
open Go Go.RowKit
set_option linter.unusedVariables false
set_option linter.unusedSimpArgs false
set_option maxRecDepth 100000
/-- what is read by operations that are not ordered against the one at k names none of ls -/
def condB (ops : Array Oper) (k : Nat) (s : St) (ls : List Nat) : Bool :=
  (List.range ops.size).all fun j => Nat.beq j k || (ordr ops j k || (match ops[j]? with
    | some o => (tmpsOf o).all fun t => ((List.range ops.size).any fun j' => match (ops[j']?).bind (·.dst) with
        | some t' => Nat.beq t' t && (!(Nat.blt j' k) && !(lastOp ops j'))
        | none => false) || ls.all fun l => !((s.sl t).names l)
    | none => true))
theorem condB_ok {ops : Array Oper} {k : Nat} {s : St} {ls : List Nat} (h : condB ops k s ls = true) : ∀ j o, ops[j]? = some o → j ≠ k → ordr ops j k = false → ∀ t, t ∈ tmpsOf o → (∀ j' o', ops[j']? = some o' → o'.dst = some t → Nat.blt j' k = true ∨ lastOp ops j' = true) → ∀ l ∈ ls, (s.sl t).names l = false := by
  intro j o hj hne hor t ht hL l hl
  have h1 := List.all_eq_true.1 h j (List.mem_range.2 (Array.getElem?_eq_some_iff.1 hj).1)
  simp only [nbne hne, hor, Bool.false_or, hj] at h1
  have h2 := List.all_eq_true.1 h1 t ht
  rw [Bool.or_eq_true] at h2
  rcases h2 with h2 | h2
  · obtain ⟨j', hj', h3⟩ := List.any_eq_true.1 h2
    cases ho' : ops[j']? with
    | none => rw [ho'] at h3; cases h3
    | some o' =>
      rw [ho'] at h3
      cases hd : o'.dst with
      | none => simp only [Option.bind_some, hd] at h3; cases h3
      | some t' =>
        simp only [Option.bind_some, hd, Bool.and_eq_true, Bool.not_eq_true'] at h3
        have : t' = t := Nat.eq_of_beq_eq_true h3.1
        subst this
        rcases hL j' o' ho' hd with h4 | h4 <;> rw [h4] at h3 <;> simp at h3
  · have := List.all_eq_true.1 h2 l hl
    simpa using this
theorem condB_old {ops : Array Oper} {k : Nat} {s : St} {ls : List Nat} (h : condB ops k s ls = true) : ∀ j o, ops[j]? = some o → j ≠ k → ordr ops j k = false → ∀ t, t ∈ tmpsOf o → (∀ j' o', ops[j']? = some o' → o'.dst = some t → Nat.blt j' k = true) → ∀ l ∈ ls, (s.sl t).names l = false :=
  fun j o h1 h2 h3 t ht hL => condB_ok h j o h1 h2 h3 t ht fun j' o' a b => .inl (hL j' o' a b)
section
variable {Θ : Tab} {ops : Array Oper} {k : Nat} {s : St}
theorem soft_set {l : Nat} {o : Option OB} {v : AV} (hs : soft Θ ops true k = true) (hc : condB ops k s [l] = true) : SoftE Θ ops (fun j => Nat.blt j k) k s ⟨v, some fun s' => s'.set l o⟩ :=
  ⟨true, [l], _, id, fun hp j => bif Nat.beq j l then o else hp j, fun mp j => bif Nat.beq j l then none else mp j, rfl, hs, fun s => rfl, fun x _ => rfl, fun _ => ⟨fun x => rfl, fun hp j hj => by
    have : j ≠ l := by simpa using hj
    show (bif Nat.beq j l then o else hp j) = hp j
    rw [nbne this]; rfl⟩, condB_old hc⟩
end
section
variable {P : Program} {Θ : Tab} {s : St} {ty : TypeId} {pos : String} {after : Array Edge} {g : Option (Nat × Bool)}
theorem p_bsl1 {d : Nat} {t : TypeId} {x : Operand} {el sz b : Nat} {z y : AV} (hf : s.hp (d + 1) = none) (ht : Θ.look t = .slice el sz b z) (hx : s.ev x = y) (hk : (match y with | .v c => c.oneCell' | .agg _ => true | .lst _ _ => true | .ptr _ => true | _ => false) = true) (hz : Nat.beq (asz y) (asz z) = true) (hsz : Nat.ble sz 65536 = true) (hok : okL (d + 1) = true := by rfl) :
    Pre P Θ ⟨some d, .buildSlice t 1 #[(0, x)], ty, pos, after, g⟩ s ⟨.own (d + 1), some fun s' => s'.set (d + 1) (some ⟨.s el, sz, [y]⟩)⟩ := by
  have hd : s.dat (s.ev x) = y := by rw [hx]; cases y <;> first | rfl | cases hk
  have ho : ownsA (s.ev x) = [] := by rw [hx]; cases y <;> first | rfl | cases hk
  have hda : isDataA s (s.ev x) = true := by rw [hx]; cases y <;> first | exact hk | rfl | cases hk
  refine ⟨d, el, sz, b, z, rfl, hf, hok, ht, by rw [Nat.one_mul]; exact Nat.le_of_ble_eq_true hsz, .inl ⟨⟨⟨z, rfl, by rw [hd]; exact Nat.eq_of_beq_eq_true hz⟩, hda, trivial⟩, fun y' hy c e => ?_, ?_, ?_⟩⟩
  · simp at hy
    subst hy; subst e
    simp only [St.ev] at hx; subst hx; exact hk
  · simp [ownsOf, ownsAL, ho]
  · have h1 : ownsOf s (([(0, x)] : List (Nat × Operand)).map (·.2)) = [] := by simp [ownsOf, ownsAL, ho]
    show _ = Eff.mk _ (frzT (ownsOf s (([(0, x)] : List (Nat × Operand)).map (·.2))) _)
    rw [h1]
    show _ = Eff.mk _ (some _)
    congr 2
    funext s'
    show s'.set (d + 1) (some ⟨.s el, sz, [y]⟩) = s'.set (d + 1) (some ⟨.s el, sz, [s.dat (s.ev x)]⟩)
    rw [hd]
theorem p_buildm {d : Option Tmp} {t : TypeId} {ps : Array (Nat × Operand)} {fs : List (Nat × Nat)} {z : List AV} (ht : Θ.look t = .struct fs z) (hm : mixOK s (nilL z) ps.toList) (hc : csOK (ps.toList.map (·.2)) = true) :
    Pre P Θ ⟨d, .build t ps, ty, pos, after, g⟩ s ⟨.mix (mixParts s (nilL z) ps.toList), none⟩ := ⟨fs, z, ht, .inr ⟨hm, csOK_spec hc, rfl⟩⟩
end
end Go.Proofs.Ytmfmclnklpbiaaa.AM
