/- The machine over data (Mdl, Mdl2, Mdl3). -/
import Derived.Test.YtfkheobbfefonaaNames
/- The plain side of chapter 2: keys in order, maps, edits, and what the functions return. Lists and numbers alone. -/
namespace Go.Proofs.Ytfkheobbfefonaa

/-! ### keys in order -/
theorem bytesLess_lt : ∀ (x y : List UInt8), Op.bytesLess x y = decide (x < y)
  | [], [] => by simp [Op.bytesLess]
  | [], _ :: _ => by simp [Op.bytesLess]
  | _ :: _, [] => by simp [Op.bytesLess]
  | a :: xs, b :: ys => by
    rw [Op.bytesLess, bytesLess_lt xs ys, Bool.eq_iff_iff]
    simp [List.cons_lt_cons_iff]
def klt (a b : ByteArray) : Bool := Op.bytesLess a.toList b.toList
theorem klt_iff (a b : ByteArray) : klt a b = true ↔ a.toList < b.toList := by simp [klt, bytesLess_lt]
theorem klt_irrefl (a : ByteArray) : klt a a = false := by
  cases h : klt a a with
  | false => rfl
  | true => exact absurd ((klt_iff _ _).1 h) (List.lt_irrefl _)
theorem klt_trans {a b c : ByteArray} (h : klt a b = true) (k : klt b c = true) : klt a c = true :=
  (klt_iff _ _).2 (List.lt_trans ((klt_iff _ _).1 h) ((klt_iff _ _).1 k))
theorem klt_asymm {a b : ByteArray} (h : klt a b = true) : klt b a = false := by
  cases k : klt b a with
  | false => rfl
  | true => have := klt_trans h k; rw [klt_irrefl] at this; cases this
theorem klt_tri {a b : ByteArray} (h : klt a b = false) (k : a ≠ b) : klt b a = true := by
  rw [klt_iff]
  have h' : ¬ a.toList < b.toList := fun x => by rw [(klt_iff _ _).2 x] at h; cases h
  rcases List.le_iff_lt_or_eq.1 (List.not_lt.1 h') with h2 | h2
  · exact h2
  · exact absurd (toList_inj h2.symm) k
/-- 'a <= b' in the walk's own words, with the sides turned -/
theorem kle_eq (a b : ByteArray) : (Op.bytesLess a.toList b.toList || a.toList == b.toList) = !klt b a := by
  have e : Op.bytesLess a.toList b.toList = klt a b := rfl
  rw [e, toList_beq]
  by_cases h : a = b
  · subst h; simp [klt_irrefl]
  · cases k : klt a b with
    | true => simp [klt_asymm k]
    | false => simp [klt_tri k h, h]

/-! ### maps -/
def nm (k : ByteArray) : Bool := Nm.nameOK k.data.toList
def valB (x : Int) : Bool := decide (-1000000 ≤ x) && decide (x ≤ 1000000)
def kAt (es : List Ent) (i : Nat) : ByteArray := (es.getD i (ByteArray.empty, 0)).1
def ordAt (es : List Ent) (i : Nat) : Bool := nm (kAt es i) && (decide (i = 0) || klt (kAt es (i - 1)) (kAt es i))
def valAt (es : List Ent) (i : Nat) : Bool := valB (es.getD i (ByteArray.empty, 0)).2
def ordM (es : List Ent) : Bool := (List.range es.length).all (ordAt es)
def valM (es : List Ent) : Bool := (List.range es.length).all (valAt es)
def mapOK (es : List Ent) : Bool := decide (es.length ≤ 12) && (ordM es && valM es)
theorem kAt_eq (es : List Ent) (i : Nat) (h : i < es.length) : kAt es i = es[i].1 := by simp [kAt, h]
theorem ordM_of {es : List Ent} (h : ∀ i, i < es.length → ordAt es i = true) : ordM es = true := by
  rw [ordM, List.all_eq_true]; intro i hi; exact h i (List.mem_range.1 hi)
theorem valM_of {es : List Ent} (h : ∀ i, i < es.length → valAt es i = true) : valM es = true := by
  rw [valM, List.all_eq_true]; intro i hi; exact h i (List.mem_range.1 hi)
theorem ordM_not {es : List Ent} {i : Nat} (hi : i < es.length) (h : ordAt es i = false) : ordM es = false := by
  rw [ordM, List.all_eq_false]; exact ⟨i, List.mem_range.2 hi, by rw [h]; simp⟩
theorem valM_not {es : List Ent} {i : Nat} (hi : i < es.length) (h : valAt es i = false) : valM es = false := by
  rw [valM, List.all_eq_false]; exact ⟨i, List.mem_range.2 hi, by rw [h]; simp⟩
theorem ordM_at {es : List Ent} (h : ordM es = true) {i : Nat} (hi : i < es.length) : ordAt es i = true := List.all_eq_true.1 h i (List.mem_range.2 hi)
theorem mapOK_of {es : List Ent} (h0 : es.length ≤ 12) (h : ∀ i, i < es.length → ordAt es i = true ∧ valAt es i = true) : mapOK es = true := by
  rw [mapOK, ordM_of fun i hi => (h i hi).1, valM_of fun i hi => (h i hi).2, decide_eq_true h0]; rfl
theorem mapOK_noOrd {es : List Ent} {i : Nat} (hi : i < es.length) (h : ordAt es i = false) : mapOK es = false := by
  rw [mapOK, ordM_not hi h]; simp
theorem mapOK_noVal {es : List Ent} {i : Nat} (hi : i < es.length) (h : valAt es i = false) : mapOK es = false := by
  rw [mapOK, valM_not hi h]; simp
theorem mapOK_long {es : List Ent} (h : 12 < es.length) : mapOK es = false := by
  rw [mapOK, decide_eq_false (by omega)]; rfl
theorem ordAt_pos {es : List Ent} {k : Nat} (h : 0 < k) (hk : k < es.length) (hn : nm (kAt es k) = true) : ordAt es k = klt (es[k - 1]'(by omega)).1 es[k].1 := by
  rw [ordAt, hn, decide_eq_false (by omega), kAt_eq es k hk, kAt_eq es (k - 1) (by omega)]; simp
theorem ordAt_zero {es : List Ent} (hn : nm (kAt es 0) = true) : ordAt es 0 = true := by rw [ordAt, hn]; rfl

end Go.Proofs.Ytfkheobbfefonaa
/- The plain side of Get, Put, Remove, Scan: what is found, put in, taken out, cut out; the program's way and the document's way agree on lists in order. -/
namespace Go.Proofs.Ytfkheobbfefonaa

def Srt (es : List Ent) : Prop := es.Pairwise fun a b => klt a.1 b.1 = true
/-! ### looking up -/
/-- where a key is or would be: 'place' -/
def IsPlc (es : List Ent) (k : ByteArray) (p : Nat) : Prop := p ≤ es.length ∧ (∀ j, (hj : j < es.length) → j < p → klt es[j].1 k = true) ∧ ((hp : p < es.length) → klt es[p].1 k = false)
theorem IsPlc.take {es : List Ent} {k : ByteArray} {p : Nat} (h : IsPlc es k p) : es.takeWhile (fun e => klt e.1 k) = es.take p ∧ es.dropWhile (fun e => klt e.1 k) = es.drop p := by
  induction es generalizing p with
  | nil => obtain ⟨h1, _⟩ := h; simp
  | cons e r ih =>
    obtain ⟨h1, h2, h3⟩ := h
    match p, h1, h2, h3 with
    | 0, _, _, h3 => have := h3 (by simp); simp at this; simp [this]
    | p + 1, h1, h2, h3 =>
      have he := h2 0 (by simp) (by omega)
      simp at he
      have := ih (p := p) ⟨by simpa using h1, fun j hj hjp => by have := h2 (j + 1) (by simp; omega) (by omega); simpa using this, fun hp => by have := h3 (by simp; omega); simpa using this⟩
      simp [he, this]
/-! ### putting in -/
/-- behind the place no key is the looked-for one but perhaps the first -/
theorem IsPlc.after {es : List Ent} {k : ByteArray} {p : Nat} (h : IsPlc es k p) (hs : Srt es) (j : Nat) (hj : j < es.length) (hpj : p < j) : klt k es[j].1 = true := by
  have h1 : klt es[p].1 es[j].1 = true := (List.pairwise_iff_getElem.1 hs) p j (by omega) hj hpj
  by_cases he : es[p].1 = k
  · rw [← he]; exact h1
  · exact klt_trans (klt_tri (h.2.2 (by omega)) he) h1
/-! ### cutting out -/
end Go.Proofs.Ytfkheobbfefonaa
/- The document's way of putting in, step by step, comes to 'putL'. -/
namespace Go.Proofs.Ytfkheobbfefonaa

end Go.Proofs.Ytfkheobbfefonaa
