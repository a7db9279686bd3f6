/- The machine over data (Mdl, Mdl2, Mdl3). -/
import Derived.Test.YtjhimcddgkoghaaNames
/- The plain side of chapter 2: keys in order, maps, edits, and what the functions return. Lists and numbers alone. -/
namespace Go.Proofs.Ytjhimcddgkoghaa

/-! ### keys in order -/
theorem bytesLess_lt : ∀ (x y : List UInt8), Op.bytesLess x y = decide (x < y)
  | [], [] => by simp [Op.bytesLess]
  | [], _ :: _ => by simp [Op.bytesLess]
  | _ :: _, [] => by simp [Op.bytesLess]
  | a :: xs, b :: ys => by
    rw [Op.bytesLess, bytesLess_lt xs ys, Bool.eq_iff_iff]
    simp [List.cons_lt_cons_iff]
def klt (a b : ByteArray) : Bool := Op.bytesLess a.toList b.toList
theorem klt_iff (a b : ByteArray) : klt a b = true ↔ a.toList < b.toList := by simp [klt, bytesLess_lt]
theorem klt_irrefl (a : ByteArray) : klt a a = false := by
  cases h : klt a a with
  | false => rfl
  | true => exact absurd ((klt_iff _ _).1 h) (List.lt_irrefl _)
theorem klt_trans {a b c : ByteArray} (h : klt a b = true) (k : klt b c = true) : klt a c = true :=
  (klt_iff _ _).2 (List.lt_trans ((klt_iff _ _).1 h) ((klt_iff _ _).1 k))
theorem klt_asymm {a b : ByteArray} (h : klt a b = true) : klt b a = false := by
  cases k : klt b a with
  | false => rfl
  | true => have := klt_trans h k; rw [klt_irrefl] at this; cases this
theorem klt_tri {a b : ByteArray} (h : klt a b = false) (k : a ≠ b) : klt b a = true := by
  rw [klt_iff]
  have h' : ¬ a.toList < b.toList := fun x => by rw [(klt_iff _ _).2 x] at h; cases h
  rcases List.le_iff_lt_or_eq.1 (List.not_lt.1 h') with h2 | h2
  · exact h2
  · exact absurd (toList_inj h2.symm) k
theorem klt_ne {a b : ByteArray} (h : klt a b = true) : a ≠ b := by rintro rfl; rw [klt_irrefl] at h; cases h
/-- 'a <= b' in the walk's own words, with the sides turned -/
theorem kle_eq (a b : ByteArray) : (Op.bytesLess a.toList b.toList || a.toList == b.toList) = !klt b a := by
  have e : Op.bytesLess a.toList b.toList = klt a b := rfl
  rw [e, toList_beq]
  by_cases h : a = b
  · subst h; simp [klt_irrefl]
  · cases k : klt a b with
    | true => simp [klt_asymm k]
    | false => simp [klt_tri k h, h]

/-! ### maps -/
def nm (k : ByteArray) : Bool := Nm.nameOK k.data.toList
def valB (x : Int) : Bool := decide (-1000000 ≤ x) && decide (x ≤ 1000000)
def kAt (es : List Ent) (i : Nat) : ByteArray := (es.getD i (ByteArray.empty, 0)).1
def ordAt (es : List Ent) (i : Nat) : Bool := nm (kAt es i) && (decide (i = 0) || klt (kAt es (i - 1)) (kAt es i))
def valAt (es : List Ent) (i : Nat) : Bool := valB (es.getD i (ByteArray.empty, 0)).2
def ordM (es : List Ent) : Bool := (List.range es.length).all (ordAt es)
def valM (es : List Ent) : Bool := (List.range es.length).all (valAt es)
def mapOK (es : List Ent) : Bool := decide (es.length ≤ 12) && (ordM es && valM es)
theorem kAt_eq (es : List Ent) (i : Nat) (h : i < es.length) : kAt es i = es[i].1 := by simp [kAt, h]
theorem ordM_of {es : List Ent} (h : ∀ i, i < es.length → ordAt es i = true) : ordM es = true := by
  rw [ordM, List.all_eq_true]; intro i hi; exact h i (List.mem_range.1 hi)
theorem valM_of {es : List Ent} (h : ∀ i, i < es.length → valAt es i = true) : valM es = true := by
  rw [valM, List.all_eq_true]; intro i hi; exact h i (List.mem_range.1 hi)
theorem ordM_not {es : List Ent} {i : Nat} (hi : i < es.length) (h : ordAt es i = false) : ordM es = false := by
  rw [ordM, List.all_eq_false]; exact ⟨i, List.mem_range.2 hi, by rw [h]; simp⟩
theorem valM_not {es : List Ent} {i : Nat} (hi : i < es.length) (h : valAt es i = false) : valM es = false := by
  rw [valM, List.all_eq_false]; exact ⟨i, List.mem_range.2 hi, by rw [h]; simp⟩
theorem ordM_at {es : List Ent} (h : ordM es = true) {i : Nat} (hi : i < es.length) : ordAt es i = true := List.all_eq_true.1 h i (List.mem_range.2 hi)
theorem mapOK_of {es : List Ent} (h0 : es.length ≤ 12) (h : ∀ i, i < es.length → ordAt es i = true ∧ valAt es i = true) : mapOK es = true := by
  rw [mapOK, ordM_of fun i hi => (h i hi).1, valM_of fun i hi => (h i hi).2, decide_eq_true h0]; rfl
theorem mapOK_noOrd {es : List Ent} {i : Nat} (hi : i < es.length) (h : ordAt es i = false) : mapOK es = false := by
  rw [mapOK, ordM_not hi h]; simp
theorem mapOK_noVal {es : List Ent} {i : Nat} (hi : i < es.length) (h : valAt es i = false) : mapOK es = false := by
  rw [mapOK, valM_not hi h]; simp
theorem mapOK_long {es : List Ent} (h : 12 < es.length) : mapOK es = false := by
  rw [mapOK, decide_eq_false (by omega)]; rfl
theorem ordAt_pos {es : List Ent} {k : Nat} (h : 0 < k) (hk : k < es.length) (hn : nm (kAt es k) = true) : ordAt es k = klt (es[k - 1]'(by omega)).1 es[k].1 := by
  rw [ordAt, hn, decide_eq_false (by omega), kAt_eq es k hk, kAt_eq es (k - 1) (by omega)]; simp
theorem ordAt_zero {es : List Ent} (hn : nm (kAt es 0) = true) : ordAt es 0 = true := by rw [ordAt, hn]; rfl

end Go.Proofs.Ytjhimcddgkoghaa
/- The plain side of Get, Put, Remove, Scan: what is found, put in, taken out, cut out; the program's way and the document's way agree on lists in order. -/
namespace Go.Proofs.Ytjhimcddgkoghaa

def Srt (es : List Ent) : Prop := es.Pairwise fun a b => klt a.1 b.1 = true
theorem srt_of_ordM {es : List Ent} (h : ordM es = true) : Srt es := by
  have hadj : ∀ i, (hi : i + 1 < es.length) → klt es[i].1 es[i + 1].1 = true := fun i hi => by
    have := ordM_at h hi
    rw [ordAt, Bool.and_eq_true] at this
    have h2 := this.2
    rw [decide_eq_false (by omega), Bool.false_or, Nat.add_sub_cancel, kAt_eq es i (by omega), kAt_eq es (i + 1) hi] at h2
    exact h2
  rw [Srt, List.pairwise_iff_getElem]
  intro i j hi hj hij
  induction j with
  | zero => omega
  | succ j ih =>
    rcases Nat.lt_or_ge i j with hlt | hge
    · exact klt_trans (ih (by omega) hlt) (hadj j hj)
    · have : i = j := by omega
      subst this; exact hadj i hj
theorem srt_of_mapOK {es : List Ent} (h : mapOK es = true) : Srt es := by
  rw [mapOK, Bool.and_eq_true, Bool.and_eq_true] at h
  exact srt_of_ordM h.2.1

/-! ### looking up -/
def fnd (es : List Ent) (k : ByteArray) : Option Nat := es.findIdx? fun e => decide (e.1 = k)
theorem fnd_none {es : List Ent} {k : ByteArray} (h : ∀ j, (hj : j < es.length) → es[j].1 ≠ k) : fnd es k = none := by
  rw [fnd, List.findIdx?_eq_none_iff]
  intro e he
  obtain ⟨j, hj, rfl⟩ := List.getElem_of_mem he
  simpa using h j hj
/-- where a key is or would be: 'place' -/
def IsPlc (es : List Ent) (k : ByteArray) (p : Nat) : Prop := p ≤ es.length ∧ (∀ j, (hj : j < es.length) → j < p → klt es[j].1 k = true) ∧ ((hp : p < es.length) → klt es[p].1 k = false)
theorem IsPlc.fnd_no {es : List Ent} {k : ByteArray} {p : Nat} (h : IsPlc es k p) (hs : Srt es) (he : ∀ hp : p < es.length, es[p].1 ≠ k) : fnd es k = none :=
  fnd_none fun j hj => by
    rcases Nat.lt_trichotomy j p with hlt | heq | hgt
    · exact klt_ne (h.2.1 j hj hlt)
    · subst heq; exact he hj
    · have h1 : klt es[p].1 es[j].1 = true := (List.pairwise_iff_getElem.1 hs) p j (by omega) hj hgt
      have h2 : klt k es[p].1 = true := klt_tri (h.2.2 (by omega)) (he (by omega))
      exact (klt_ne (klt_trans h2 h1)).symm
theorem IsPlc.take {es : List Ent} {k : ByteArray} {p : Nat} (h : IsPlc es k p) : es.takeWhile (fun e => klt e.1 k) = es.take p ∧ es.dropWhile (fun e => klt e.1 k) = es.drop p := by
  induction es generalizing p with
  | nil => obtain ⟨h1, _⟩ := h; simp
  | cons e r ih =>
    obtain ⟨h1, h2, h3⟩ := h
    match p, h1, h2, h3 with
    | 0, _, _, h3 => have := h3 (by simp); simp at this; simp [this]
    | p + 1, h1, h2, h3 =>
      have he := h2 0 (by simp) (by omega)
      simp at he
      have := ih (p := p) ⟨by simpa using h1, fun j hj hjp => by have := h2 (j + 1) (by simp; omega) (by omega); simpa using this, fun hp => by have := h3 (by simp; omega); simpa using this⟩
      simp [he, this]
/-! ### putting in -/
def putL (es : List Ent) (k : ByteArray) (v : Int) : List Ent := es.takeWhile (fun e => klt e.1 k) ++ (k, v) :: (es.dropWhile (fun e => klt e.1 k)).filter fun e => decide (e.1 ≠ k)
def delL (es : List Ent) (k : ByteArray) : List Ent := es.filter fun e => decide (e.1 ≠ k)
theorem filter_all {l : List Ent} {k : ByteArray} (h : ∀ e ∈ l, e.1 ≠ k) : l.filter (fun e => decide (e.1 ≠ k)) = l := by
  rw [List.filter_eq_self]; intro e he; simpa using h e he
/-- behind the place no key is the looked-for one but perhaps the first -/
theorem IsPlc.after {es : List Ent} {k : ByteArray} {p : Nat} (h : IsPlc es k p) (hs : Srt es) (j : Nat) (hj : j < es.length) (hpj : p < j) : klt k es[j].1 = true := by
  have h1 : klt es[p].1 es[j].1 = true := (List.pairwise_iff_getElem.1 hs) p j (by omega) hj hpj
  by_cases he : es[p].1 = k
  · rw [← he]; exact h1
  · exact klt_trans (klt_tri (h.2.2 (by omega)) he) h1
theorem IsPlc.put_yes {es : List Ent} {k : ByteArray} {p : Nat} (h : IsPlc es k p) (hs : Srt es) (hp : p < es.length) (he : es[p].1 = k) (v : Int) : putL es k v = es.take p ++ (k, v) :: es.drop (p + 1) := by
  obtain ⟨h1, h2⟩ := h.take
  rw [putL, h1, h2, List.drop_eq_getElem_cons hp]
  rw [List.filter_cons_of_neg (by simpa using he), filter_all]
  intro e hm
  obtain ⟨j, hj, rfl⟩ := List.getElem_of_mem hm
  rw [List.getElem_drop]
  exact (klt_ne (h.after hs (p + 1 + j) (by rw [List.length_drop] at hj; omega) (by omega))).symm
theorem IsPlc.put_no {es : List Ent} {k : ByteArray} {p : Nat} (h : IsPlc es k p) (hs : Srt es) (he : ∀ hp : p < es.length, es[p].1 ≠ k) (v : Int) : putL es k v = es.take p ++ (k, v) :: es.drop p := by
  obtain ⟨h1, h2⟩ := h.take
  rw [putL, h1, h2, filter_all]
  intro e hm
  obtain ⟨j, hj, rfl⟩ := List.getElem_of_mem hm
  rw [List.getElem_drop]
  rw [List.length_drop] at hj
  rcases Nat.eq_zero_or_pos j with h0 | h0
  · subst h0; exact he (by omega)
  · exact (klt_ne (h.after hs (p + j) (by omega) (by omega))).symm
theorem IsPlc.del_yes {es : List Ent} {k : ByteArray} {p : Nat} (h : IsPlc es k p) (hs : Srt es) (hp : p < es.length) (he : es[p].1 = k) : delL es k = es.take p ++ es.drop (p + 1) := by
  have e1 : es = es.take p ++ es.drop p := (List.take_append_drop p es).symm
  rw [delL]
  rw (occs := .pos [1]) [e1]
  rw [List.filter_append, filter_all, List.drop_eq_getElem_cons hp, List.filter_cons_of_neg (by simpa using he), filter_all]
  · intro e hm
    obtain ⟨j, hj, rfl⟩ := List.getElem_of_mem hm
    rw [List.getElem_drop]
    exact (klt_ne (h.after hs (p + 1 + j) (by rw [List.length_drop] at hj; omega) (by omega))).symm
  · intro e hm
    obtain ⟨j, hj, rfl⟩ := List.getElem_of_mem hm
    rw [List.getElem_take]
    rw [List.length_take] at hj
    exact klt_ne (h.2.1 j (by omega) (by omega))
theorem del_no {es : List Ent} {k : ByteArray} (h : fnd es k = none) : delL es k = es := by
  rw [delL, filter_all]
  intro e he
  have := (List.findIdx?_eq_none_iff.1 h) e he
  simpa using this
/-! ### cutting out -/
theorem klt_of_le {a b c : ByteArray} (h : klt b a = false) (h2 : klt b c = true) : klt a c = true := by
  by_cases e : a = b
  · rw [e]; exact h2
  · exact klt_trans (klt_tri h (fun x => e x.symm)) h2
end Go.Proofs.Ytjhimcddgkoghaa
/- The document's way of putting in, step by step, comes to 'putL'. -/
namespace Go.Proofs.Ytjhimcddgkoghaa

def putStep (k : ByteArray) (v : Int) (s : List Ent × Bool) (e : Ent) : List Ent × Bool :=
  if s.2 = false ∧ klt e.1 k = false then (if e.1 = k then s.1 ++ [(k, v)] else s.1 ++ [(k, v)] ++ [e], true) else (if e.1 = k then s.1 else s.1 ++ [e], s.2)
def putTo (es : List Ent) (k : ByteArray) (v : Int) (i : Nat) : List Ent × Bool := (es.take i).foldl (putStep k v) ([], false)
theorem putTo_zero (es : List Ent) (k : ByteArray) (v : Int) : putTo es k v 0 = ([], false) := by simp [putTo]
theorem putTo_succ (es : List Ent) (k : ByteArray) (v : Int) (i : Nat) (h : i < es.length) : putTo es k v (i + 1) = putStep k v (putTo es k v i) es[i] := by
  rw [putTo, List.take_succ_eq_append_getElem h, List.foldl_append]; rfl
theorem putFold_true (k : ByteArray) (v : Int) (es acc : List Ent) : es.foldl (putStep k v) (acc, true) = (acc ++ es.filter (fun e => decide (e.1 ≠ k)), true) := by
  induction es generalizing acc with
  | nil => simp
  | cons e r ih =>
    rw [List.foldl_cons]
    by_cases he : e.1 = k
    · rw [show putStep k v (acc, true) e = (acc, true) by simp [putStep, he], ih, List.filter_cons_of_neg (by simpa using he)]
    · rw [show putStep k v (acc, true) e = (acc ++ [e], true) by simp [putStep, he], ih, List.filter_cons_of_pos (by simpa using he)]; simp
theorem putFold (k : ByteArray) (v : Int) (es acc : List Ent) : (if (es.foldl (putStep k v) (acc, false)).2 then (es.foldl (putStep k v) (acc, false)).1 else (es.foldl (putStep k v) (acc, false)).1 ++ [(k, v)]) = acc ++ putL es k v := by
  induction es generalizing acc with
  | nil => simp [putL]
  | cons e r ih =>
    rw [List.foldl_cons]
    cases hk : klt e.1 k with
    | true =>
      have hne := klt_ne hk
      rw [show putStep k v (acc, false) e = (acc ++ [e], false) by simp [putStep, hk, hne], ih]
      simp [putL, hk]
    | false =>
      by_cases he : e.1 = k
      · subst he
        rw [show putStep e.1 v (acc, false) e = (acc ++ [(e.1, v)], true) by simp [putStep, klt_irrefl], putFold_true]
        simp [putL, klt_irrefl]
      · rw [show putStep k v (acc, false) e = (acc ++ [(k, v)] ++ [e], true) by simp [putStep, hk, he], putFold_true]
        simp [putL, hk, he]
theorem putTo_end (es : List Ent) (k : ByteArray) (v : Int) : (if (putTo es k v es.length).2 then (putTo es k v es.length).1 else (putTo es k v es.length).1 ++ [(k, v)]) = putL es k v := by
  have := putFold k v es []
  rw [putTo, List.take_length]
  rw [List.nil_append] at this; exact this
theorem putTo_len (es : List Ent) (k : ByteArray) (v : Int) (i : Nat) (h : i ≤ es.length) : (putTo es k v i).1.length ≤ i + (if (putTo es k v i).2 then 1 else 0) := by
  induction i with
  | zero => simp [putTo_zero]
  | succ i ih =>
    have ih := ih (by omega)
    rw [putTo_succ es k v i (by omega)]
    generalize putTo es k v i = s at *
    obtain ⟨s1, s2⟩ := s
    unfold putStep
    cases s2 <;> simp at ih ⊢ <;> (repeat' split) <;> simp at * <;> omega
theorem putTo_len2 (es : List Ent) (k : ByteArray) (v : Int) (i : Nat) (h : i ≤ es.length) : (putTo es k v i).1.length ≤ i + 1 := by
  have := putTo_len es k v i h
  split at this <;> omega
theorem putStep_old {k : ByteArray} {v : Int} {s : List Ent × Bool} {e : Ent} (h : s.2 = true ∨ klt e.1 k = true) : putStep k v s e = (if e.1 = k then s.1 else s.1 ++ [e], s.2) := by
  rw [putStep, if_neg]
  rintro ⟨a, b⟩
  rcases h with h | h
  · rw [h] at a; cases a
  · rw [h] at b; cases b
theorem putStep_new {k : ByteArray} {v : Int} {s : List Ent × Bool} {e : Ent} (h : s.2 = false) (h2 : klt e.1 k = false) : putStep k v s e = (if e.1 = k then s.1 ++ [(k, v)] else s.1 ++ [(k, v)] ++ [e], true) := by
  rw [putStep, if_pos ⟨h, h2⟩]

end Go.Proofs.Ytjhimcddgkoghaa
