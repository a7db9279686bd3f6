/- The functions on names: what NameOK and its helpers return. -/
import Derived.Test.YtjhimcddgkoghaaBase
namespace Go.Proofs.Ytjhimcddgkoghaa
open Go.RowKit


namespace Nm
/-- a letter or the low line -/
def letter (c : Int) : Bool := (decide (97 ≤ c) && decide (c ≤ 122)) || (decide (65 ≤ c) && decide (c ≤ 90)) || decide (c = 95)
def digit (c : Int) : Bool := decide (48 ≤ c) && decide (c ≤ 57)
def lettersFrom (l : List UInt8) : Bool := l.all fun c => letter c.toNat || digit c.toNat
def nameOK (l : List UInt8) : Bool :=
  match l with
  | [] => false
  | c :: r => decide (r.length < 12) && letter c.toNat && lettersFrom r
theorem letter_not_digit (c : Int) (h : letter c = true) : digit c = false := by
  simp [letter, digit] at *; omega
end Nm

theorem isLetter_any (c : Int) (w : World) :
    Calls Try.prog 204 #[.int .u8 c] w fun e w' => e = .returned (.bool (Nm.letter c)) ∧ w = w' := by
  go_enter Try.func204, Try.ntmps204
  go_wp2
  all_goals (go_ret; exact ⟨ret_bool (by rw [Bool.eq_iff_iff]; simp [Nm.letter]; try omega), rfl⟩)

theorem isDigit_any (c : Int) (w : World) :
    Calls Try.prog 203 #[.int .u8 c] w fun e w' => e = .returned (.bool (Nm.digit c)) ∧ w = w' := by
  go_enter Try.func203, Try.ntmps203
  go_wp2
  all_goals (go_ret; exact ⟨ret_bool (by rw [Bool.eq_iff_iff]; simp [Nm.digit]; try omega), rfl⟩)

theorem l00Letter_any (c : Int) (w : World) :
    Calls Try.prog 228 #[.int .u8 c] w fun e w' => e = .returned (.bool (Nm.letter c)) ∧ w = w' := by
  go_enter Try.func228, Try.ntmps228
  go_wp2
  all_goals (go_ret; exact ⟨ret_bool (by rw [Bool.eq_iff_iff]; simp [Nm.letter]; try omega), rfl⟩)

theorem l00Digit_any (c : Int) (w : World) :
    Calls Try.prog 229 #[.int .u8 c] w fun e w' => e = .returned (.bool (Nm.digit c)) ∧ w = w' := by
  go_enter Try.func229, Try.ntmps229
  go_wp2
  all_goals (go_ret; exact ⟨ret_bool (by rw [Bool.eq_iff_iff]; simp [Nm.digit]; try omega), rfl⟩)


namespace Nm
def okc (c : UInt8) : Bool := letter c.toNat || digit c.toNat
theorem lettersFrom_take (l : List UInt8) (k : Nat) (h : k < l.length) : lettersFrom (l.take (k + 1)) = (lettersFrom (l.take k) && okc l[k]) := by
  unfold lettersFrom okc; rw [List.take_succ_eq_append_getElem h, List.all_append]; simp
theorem lettersFrom_bad (l : List UInt8) (k : Nat) (h : k < l.length) (hb : okc l[k] = false) : lettersFrom l = false := by
  rw [lettersFrom, List.all_eq_false]
  exact ⟨l[k], List.getElem_mem h, by simp only [okc] at hb; simp [hb]⟩
theorem nameOK_eq (l : List UInt8) (h0 : 0 < l.length) (h1 : l.length ≤ 12) : nameOK l = (letter l[0].toNat && lettersFrom l) := by
  match l, h0 with
  | c :: r, _ =>
    have : r.length < 12 := by simp at h1; omega
    simp [nameOK, this, lettersFrom]
    cases letter c.toNat <;> simp
theorem nameOK_nil : nameOK [] = false := rfl
theorem nameOK_long (l : List UInt8) (h : 12 < l.length) : nameOK l = false := by
  match l with
  | c :: r => 
    have : ¬ r.length < 12 := by simp at h; omega
    simp [nameOK, this]
theorem digit_not_letter (c : Int) (h : digit c = true) : letter c = false := by
  simp [letter, digit] at *; omega
theorem nameOK_digit (l : List UInt8) (h0 : 0 < l.length) (hd : digit l[0].toNat = true) : nameOK l = false := by
  match l, h0 with
  | c :: r, _ =>
    have hd' : letter c.toNat = false := digit_not_letter _ hd
    simp [nameOK, hd']
theorem nameOK_letters (l : List UInt8) (h0 : 0 < l.length) (h1 : l.length ≤ 12) (hd : digit l[0].toNat = false) : nameOK l = lettersFrom l := by
  rw [nameOK_eq l h0 h1]
  cases h : letter l[0].toNat with
  | true => rfl
  | false => exact (lettersFrom_bad l 0 h0 (by simp [okc, h, hd])).symm
end Nm

set_option maxHeartbeats 400000 in
theorem nameOK_any (s : ByteArray) (w : World) (hs : s.size ≤ maxLen) :
    Calls Try.prog 109 #[.string s] w fun e w' => e = .returned (.bool (Nm.nameOK s.data.toList)) ∧ w = w' := by
  unfold maxLen at hs
  have hl : s.data.toList.length = s.size := by simp
  by_cases h0 : s.size = 0
  · have : s = ByteArray.empty := by simpa using h0
    subst this
    go_enter Try.func109, Try.ntmps109
    go_wp2
    go_ret
    exact ⟨rfl, rfl⟩
  by_cases h1 : 12 < s.size
  · go_enter Try.func109, Try.ntmps109
    go_wp2
    go_ret
    exact ⟨ret_bool (Nm.nameOK_long _ (by omega)).symm, rfl⟩
  have e0 : ((s.size : Int) == 0) = false := beq_eq_false_iff_ne.2 (by omega)
  have e1 : decide ((12 : Int) < s.size) = false := decide_eq_false (by omega)
  have p0 : 0 < s.size := by omega
  cases hd : Nm.digit s[0].toNat with
  | true =>
    have hfin : Nm.nameOK s.data.toList = false := Nm.nameOK_digit _ (by rw [hl]; exact p0) hd
    have Hf := Lib.hid hfin; clear hfin
    go_enter Try.func109, Try.ntmps109
    go_wp2_with (first | (go_at_call 203; refine (isDigit_any _ _).mono ?_; rintro e w' ⟨rfl, rfl⟩) | (go_at_call 204; refine (isLetter_any _ _).mono ?_; rintro e w' ⟨rfl, rfl⟩))
    go_ret
    exact ⟨ret_bool Hf.out.symm, rfl⟩
  | false =>
    have hfin : Nm.nameOK s.data.toList = Nm.lettersFrom s.data.toList := Nm.nameOK_letters _ (by rw [hl]; exact p0) (by omega) hd
    have Hf := Lib.hid hfin; clear hfin
    have h1' : s.size ≤ 12 := by omega
    clear h1
    go_enter Try.func109, Try.ntmps109
    go_wp2_with (first | (go_at_call 203; refine (isDigit_any _ _).mono ?_; rintro e w' ⟨rfl, rfl⟩) | (go_at_call 204; refine (isLetter_any _ _).mono ?_; rintro e w' ⟨rfl, rfl⟩))
    go_loop [3] (fun i => ∃ k : Nat, k ≤ s.size ∧ i = .int .i64 k ∧ Nm.lettersFrom (s.data.toList.take k) = true) (fun i => s.size - (intOf i).toNat)
    case atStart => exact ⟨0, Nat.zero_le _, rfl, rfl⟩
    case round =>
      obtain ⟨k, hk, rfl, hr⟩ := hrel
      have Hr := Lib.hid hr; clear hr
      by_cases hlt : k < s.size
      · have hst : Hid (Nm.lettersFrom (s.data.toList.take (k + 1)) = (Nm.lettersFrom (s.data.toList.take k) && Nm.okc s[k])) := Nm.lettersFrom_take _ k (by omega)
        have hbad : Hid (Nm.okc s[k] = false → Nm.lettersFrom s.data.toList = false) := fun h => Nm.lettersFrom_bad _ k (by omega) h
        have hok : Nm.okc s[k] = (Nm.letter s[k].toNat || Nm.digit s[k].toNat) := rfl
        have Hok := Lib.hid hok; clear hok
        go_wp2_with (first | (go_at_call 203; refine (isDigit_any _ _).mono ?_; rintro e w' ⟨rfl, rfl⟩) | (go_at_call 204; refine (isLetter_any _ _).mono ?_; rintro e w' ⟨rfl, rfl⟩))
        · go_round
          case rel => exact ⟨k + 1, by omega, by go_num, by rw [hst.out, Hr.out, Hok.out]; simp [*]⟩
          case measure => simp [intOf]; omega
        · go_ret
          exact ⟨ret_bool (by rw [Hf.out, hbad.out]; rw [Hok.out]; simp_all), rfl⟩
        · go_round
          case rel => exact ⟨k + 1, by omega, by go_num, by rw [hst.out, Hr.out, Hok.out]; simp_all⟩
          case measure => simp [intOf]; omega
      · go_wp2
        go_ret
        exact ⟨ret_bool (by rw [Hf.out]; have := Hr.out; rw [List.take_of_length_le (by omega)] at this; exact this.symm), rfl⟩

set_option maxHeartbeats 400000 in
theorem l00Word_any (s : ByteArray) (w : World) (hs : s.size ≤ maxLen) :
    Calls Try.prog 154 #[.string s] w fun e w' => e = .returned (.bool (Nm.nameOK s.data.toList)) ∧ w = w' := by
  unfold maxLen at hs
  have hl : s.data.toList.length = s.size := by simp
  by_cases h0 : s.size = 0
  · have : s = ByteArray.empty := by simpa using h0
    subst this
    go_enter Try.func154, Try.ntmps154
    go_wp2
    go_ret
    exact ⟨rfl, rfl⟩
  have e2 : decide ((s.size : Int) < 1) = false := decide_eq_false (by omega)
  by_cases h1 : 12 < s.size
  · go_enter Try.func154, Try.ntmps154
    go_wp2
    go_ret
    exact ⟨ret_bool (Nm.nameOK_long _ (by omega)).symm, rfl⟩
  have e1 : decide ((12 : Int) < s.size) = false := decide_eq_false (by omega)
  have p0 : 0 < s.size := by omega
  cases hd : Nm.letter s[0].toNat with
  | false =>
    have hfin : Nm.nameOK s.data.toList = false := by
      rw [Nm.nameOK_eq _ (by rw [hl]; exact p0) (by omega)]
      have : Nm.letter s.data.toList[0].toNat = false := hd
      rw [this]; rfl
    have Hf := Lib.hid hfin; clear hfin
    go_enter Try.func154, Try.ntmps154
    go_wp2_with (go_at_call 228; refine (l00Letter_any _ _).mono ?_; rintro e w' ⟨rfl, rfl⟩)
    go_ret
    exact ⟨ret_bool Hf.out.symm, rfl⟩
  | true =>
    have hfin : Nm.nameOK s.data.toList = Nm.lettersFrom s.data.toList := by
      rw [Nm.nameOK_eq _ (by rw [hl]; exact p0) (by omega)]
      have : Nm.letter s.data.toList[0].toNat = true := hd
      rw [this]; rfl
    have Hf := Lib.hid hfin; clear hfin
    have hst1 : Hid (Nm.lettersFrom (s.data.toList.take 1) = true) := by
      have e : Nm.lettersFrom (s.data.toList.take (0 + 1)) = (Nm.lettersFrom (s.data.toList.take 0) && Nm.okc s[0]) := Nm.lettersFrom_take _ 0 (by rw [hl]; exact p0)
      show Nm.lettersFrom (s.data.toList.take (0 + 1)) = true
      rw [e, Nm.okc, hd]; rfl
    have h1' : s.size ≤ 12 := by omega
    clear h1
    go_enter Try.func154, Try.ntmps154
    go_wp2_with (go_at_call 228; refine (l00Letter_any _ _).mono ?_; rintro e w' ⟨rfl, rfl⟩)
    go_loop [3] (fun i => ∃ k : Nat, 1 ≤ k ∧ k ≤ s.size ∧ i = .int .i64 k ∧ Nm.lettersFrom (s.data.toList.take k) = true) (fun i => s.size - (intOf i).toNat)
    case atStart => exact ⟨1, Nat.le_refl _, p0, rfl, hst1.out⟩
    case round =>
      obtain ⟨k, hk0, hk, rfl, hr⟩ := hrel
      have Hr := Lib.hid hr; clear hr
      by_cases hlt : k < s.size
      · have hst : Hid (Nm.lettersFrom (s.data.toList.take (k + 1)) = (Nm.lettersFrom (s.data.toList.take k) && Nm.okc s[k])) := Nm.lettersFrom_take _ k (by omega)
        have hbad : Hid (Nm.okc s[k] = false → Nm.lettersFrom s.data.toList = false) := fun h => Nm.lettersFrom_bad _ k (by omega) h
        have hok : Nm.okc s[k] = (Nm.letter s[k].toNat || Nm.digit s[k].toNat) := rfl
        have Hok := Lib.hid hok; clear hok
        go_wp2_with (first | (go_at_call 228; refine (l00Letter_any _ _).mono ?_; rintro e w' ⟨rfl, rfl⟩) | (go_at_call 229; refine (l00Digit_any _ _).mono ?_; rintro e w' ⟨rfl, rfl⟩))
        · go_round
          case rel => exact ⟨k + 1, by omega, by omega, by go_num, by rw [hst.out, Hr.out, Hok.out]; simp [*]⟩
          case measure => simp [intOf]; omega
        · go_ret
          exact ⟨ret_bool (by rw [Hf.out, hbad.out]; rw [Hok.out]; simp_all), rfl⟩
        · go_round
          case rel => exact ⟨k + 1, by omega, by omega, by go_num, by rw [hst.out, Hr.out, Hok.out]; simp_all⟩
          case measure => simp [intOf]; omega
      · go_wp2
        go_ret
        exact ⟨ret_bool (by rw [Hf.out]; have := Hr.out; rw [List.take_of_length_le (by omega)] at this; exact this.symm), rfl⟩

end Go.Proofs.Ytjhimcddgkoghaa
