/- Differences of maps: what they make, what is found of it; merges of a side with its base or with itself. -/
import Derived.Test.YtjhimcddgkoghaaB7
namespace Go.Proofs.Ytjhimcddgkoghaa.AM
open Go Go.RowKit
set_option linter.unusedVariables false
/-- the value of a key -/
def lk (m : List Ent) (k : ByteArray) : Option Int := (m.find? fun e => decide (e.1 = k)).map (·.2)
theorem lk_cons (e : Ent) (m : List Ent) (k : ByteArray) : lk (e :: m) k = if e.1 = k then some e.2 else lk m k := by
  unfold lk
  rw [List.find?_cons]
  by_cases h : e.1 = k <;> simp [h]
theorem lk_none_of {m : List Ent} {k : ByteArray} (h : ∀ e ∈ m, e.1 ≠ k) : lk m k = none := by
  induction m with
  | nil => rfl
  | cons e m ih => rw [lk_cons, if_neg (h e (by simp)), ih (fun x hx => h x (by simp [hx]))]
theorem lk_lt {m : List Ent} {k : ByteArray} (h : ∀ e ∈ m, klt k e.1 = true) : lk m k = none := lk_none_of fun e he hk => klt_ne (h e he) hk.symm
theorem srt_ext : ∀ (a b : List Ent), Srt a → Srt b → (∀ k, lk a k = lk b k) → a = b
  | [], [], _, _, _ => rfl
  | [], y :: b, _, _, h => by have := h y.1; rw [lk_cons, if_pos rfl] at this; cases this
  | x :: a, [], _, _, h => by have := h x.1; rw [lk_cons, if_pos rfl] at this; cases this
  | x :: a, y :: b, ha, hb, h => by
    obtain ⟨p, q⟩ := List.pairwise_cons.1 ha
    obtain ⟨p', q'⟩ := List.pairwise_cons.1 hb
    have hxy : x.1 = y.1 := Classical.byContradiction fun hne => by
      by_cases hlt : klt x.1 y.1 = true
      · have := h x.1
        rw [lk_cons, if_pos rfl, lk_cons, if_neg (fun e => hne e.symm), lk_lt (fun e he => klt_trans hlt (p' e he))] at this
        cases this
      · have hlt' := klt_tri (by simpa using hlt) hne
        have := h y.1
        rw [lk_cons, if_neg hne, lk_lt (fun e he => klt_trans hlt' (p e he)), lk_cons, if_pos rfl] at this
        cases this
    have hv : x.2 = y.2 := by
      have := h x.1
      rw [lk_cons, if_pos rfl, lk_cons, if_pos hxy.symm] at this
      exact Option.some.inj this
    have he : x = y := Prod.ext hxy hv
    subst he
    refine congrArg _ (srt_ext a b q q' fun k => ?_)
    have := h k
    rw [lk_cons, lk_cons] at this
    by_cases hk : x.1 = k
    · rw [lk_lt (fun e he => by rw [← hk]; exact p e he), lk_lt (fun e he => by rw [← hk]; exact p' e he)]
    · rwa [if_neg hk, if_neg hk] at this
theorem lk_del (m : List Ent) (k j : ByteArray) : lk (delL m k) j = if k = j then none else lk m j := by
  unfold delL
  induction m with
  | nil => simp [lk]
  | cons e m ih =>
    rw [List.filter_cons]
    by_cases he : e.1 = k
    · rw [if_neg (by simp [he]), ih, lk_cons]
      by_cases hj : k = j
      · rw [if_pos hj, if_pos hj]
      · rw [if_neg hj, if_neg hj, if_neg (by rw [he]; exact hj)]
    · rw [if_pos (by simp [he]), lk_cons, lk_cons, ih]
      by_cases hj : e.1 = j
      · rw [if_pos hj, if_pos hj, if_neg (fun h => he (by rw [hj, h]))]
      · rw [if_neg hj, if_neg hj]
theorem lk_put : ∀ (m : List Ent) (k : ByteArray) (v : Int) (j : ByteArray), Srt m → lk (putL m k v) j = if k = j then some v else lk m j
  | [], k, v, j, _ => by
    have : putL [] k v = [(k, v)] := rfl
    rw [this, lk_cons]
  | e :: m, k, v, j, hs => by
    obtain ⟨p, q⟩ := List.pairwise_cons.1 hs
    cases h : klt e.1 k with
    | true =>
      rw [putL_cons_lt e m k v h, lk_cons, lk_cons, lk_put m k v j q]
      by_cases hj : e.1 = j
      · rw [if_pos hj, if_pos hj, if_neg (fun hk => klt_ne h (by rw [hj, hk]))]
      · rw [if_neg hj, if_neg hj]
    | false =>
      rw [putL_cons_ge e m k v h, lk_cons]
      by_cases hj : k = j
      · rw [if_pos hj, if_pos hj]
      · rw [if_neg hj, if_neg hj]
        have := lk_del (e :: m) k j
        rw [if_neg hj] at this
        exact this
/-- what an edit makes of a key -/
def edV (o : Option Edt) (d : Option Int) : Option Int := match o with | none => d | some e => if e.gone then none else some e.val
theorem fndE_cons (e : Edt) (es : List Edt) (k : ByteArray) : fndE (e :: es) k = if e.key = k then some e else fndE es k := by
  unfold fndE
  rw [List.find?_cons]
  by_cases h : e.key = k <;> simp [h]
theorem fndE_lt {es : List Edt} {k : ByteArray} (h : ∀ e ∈ es, klt k e.key = true) : fndE es k = none := by
  unfold fndE
  rw [List.find?_eq_none]
  intro e he
  have := klt_ne (h e he)
  simp only [decide_eq_true_eq]
  exact fun h => this h.symm
theorem lk_apply : ∀ (xs : List Edt) (m : List Ent) (j : ByteArray), Srt m → SrtE xs → lk (applyL m xs) j = edV (fndE xs j) (lk m j)
  | [], m, j, _, _ => rfl
  | e :: xs, m, j, hm, hs => by
    obtain ⟨p, q⟩ := List.pairwise_cons.1 hs
    have hone : Srt (applyOne m e) := by
      unfold applyOne; split
      · exact srt_delL hm _
      · exact srt_putL hm _ _
    have h1 : lk (applyOne m e) j = if e.key = j then (if e.gone then none else some e.val) else lk m j := by
      unfold applyOne
      split
      · rename_i hg
        rw [lk_del]
      · rename_i hg
        rw [lk_put m _ _ _ hm]
    show lk (applyL (applyOne m e) xs) j = _
    rw [lk_apply xs _ j hone q, fndE_cons, h1]
    by_cases hj : e.key = j
    · rw [if_pos hj, if_pos hj, fndE_lt (fun x hx => by rw [← hj]; exact p x hx)]
      rfl
    · rw [if_neg hj, if_neg hj]
/-- what the difference has for a key -/
def dfE (k : ByteArray) (x y : Option Int) : Option Edt := match x, y with
  | _, some v => if x = some v then none else some ⟨k, v, false⟩
  | some _, none => some ⟨k, 0, true⟩
  | none, none => none
theorem dfE_same (k : ByteArray) (x : Option Int) : dfE k x x = none := by cases x <;> simp [dfE]
theorem fnd_diffL : ∀ (f : Nat) (a b : List Ent) (k : ByteArray), a.length + b.length ≤ f → Srt a → Srt b → fndE (diffL f a b) k = dfE k (lk a k) (lk b k) := by
  intro f
  induction f with
  | zero =>
    intro a b k h _ _
    have ha : a = [] := List.eq_nil_of_length_eq_zero (by omega)
    have hb : b = [] := List.eq_nil_of_length_eq_zero (by omega)
    subst ha hb
    rfl
  | succ f ih =>
    intro a b k h ha hb
    match a, b, h, ha, hb with
    | [], [], _, _, _ => rfl
    | x :: a, [], h, ha, hb =>
      obtain ⟨p, q⟩ := List.pairwise_cons.1 ha
      rw [diffL, fndE_cons, lk_cons]
      by_cases hk : x.1 = k
      · rw [if_pos hk, if_pos hk, hk]; rfl
      · rw [if_neg hk, if_neg hk]
        exact ih a [] k (by simp at h ⊢; omega) q hb
    | [], y :: b, h, ha, hb =>
      obtain ⟨p, q⟩ := List.pairwise_cons.1 hb
      rw [diffL, fndE_cons, lk_cons]
      by_cases hk : y.1 = k
      · rw [if_pos hk, if_pos hk, hk]; rfl
      · rw [if_neg hk, if_neg hk]
        exact ih [] b k (by simp at h ⊢; omega) ha q
    | x :: a, y :: b, h, ha, hb =>
      obtain ⟨p, q⟩ := List.pairwise_cons.1 ha
      obtain ⟨p', q'⟩ := List.pairwise_cons.1 hb
      rw [diffL]
      split
      · rename_i hxy
        rw [fndE_cons, lk_cons x]
        by_cases hk : x.1 = k
        · have : lk (y :: b) k = none := lk_lt fun e he => by
            rw [← hk]
            rcases List.mem_cons.1 he with rfl | he
            · exact hxy
            · exact klt_trans hxy (p' e he)
          rw [if_pos hk, if_pos hk, this, hk]; rfl
        · rw [if_neg hk, if_neg hk]
          exact ih a (y :: b) k (by simp at h ⊢; omega) q hb
      · split
        · rename_i hyx
          rw [fndE_cons, lk_cons y]
          by_cases hk : y.1 = k
          · have : lk (x :: a) k = none := lk_lt fun e he => by
              rw [← hk]
              rcases List.mem_cons.1 he with rfl | he
              · exact hyx
              · exact klt_trans hyx (p e he)
            rw [if_pos hk, if_pos hk, this, hk]; rfl
          · rw [if_neg hk, if_neg hk]
            exact ih (x :: a) b k (by simp at h ⊢; omega) ha q'
        · rename_i hxy hyx
          have he : x.1 = y.1 := Classical.byContradiction fun hne => hyx (klt_tri (by simpa using hxy) hne)
          have hrec := ih a b k (by simp at h ⊢; omega) q q'
          rw [lk_cons, lk_cons]
          by_cases hk : x.1 = k
          · have hk' : y.1 = k := by rw [← he]; exact hk
            have n1 : lk a k = none := lk_lt fun e hm => by rw [← hk]; exact p e hm
            have n2 : lk b k = none := lk_lt fun e hm => by rw [← hk']; exact p' e hm
            rw [if_pos hk, if_pos hk']
            rw [n1, n2] at hrec
            split
            · rename_i hv
              rw [hv, dfE_same]
              simpa [dfE] using hrec
            · rename_i hv
              show fndE (⟨y.1, y.2, false⟩ :: diffL f a b) k = _
              rw [fndE_cons, if_pos hk', hk']
              simp [dfE, hv]
          · have hk' : ¬ y.1 = k := by rw [← he]; exact hk
            rw [if_neg hk, if_neg hk']
            split
            · simpa using hrec
            · show fndE (⟨y.1, y.2, false⟩ :: diffL f a b) k = _
              rw [fndE_cons, if_neg hk']
              exact hrec
theorem fnd_diff {a b : List Ent} (ha : Srt a) (hb : Srt b) (k : ByteArray) : fndE (diffM a b) k = dfE k (lk a k) (lk b k) := fnd_diffL _ a b k (Nat.le_refl _) ha hb
theorem edV_df (k : ByteArray) (x y : Option Int) : edV (dfE k x y) x = y := by
  cases x <;> cases y <;> simp [dfE, edV]
  rename_i v w
  by_cases h : v = w <;> simp [h]
/-- the difference makes the one of the other -/
theorem apply_diff {a b : List Ent} (ha : Srt a) (hb : Srt b) : applyL a (diffM a b) = b :=
  srt_ext _ _ (srt_applyL ha _) hb fun k => by rw [lk_apply _ _ _ ha (srt_diffM ha hb), fnd_diff ha hb, edV_df]
theorem fndE_all_none {es : List Edt} (h : ∀ k, fndE es k = none) : es = [] := by
  cases es with
  | nil => rfl
  | cons e es => have := h e.key; rw [fndE_cons, if_pos rfl] at this; cases this
theorem diff_self {a : List Ent} (ha : Srt a) : diffM a a = [] := fndE_all_none fun k => by rw [fnd_diff ha ha, dfE_same]
theorem todo_nil (r : List Edt) : todoL [] r = r := by unfold todoL; rw [List.filter_eq_self]; intro e _; rfl
theorem clash_nil (r : List Edt) : clashL [] r = [] := by
  unfold clashL keysL
  have : r.filter (isClash []) = [] := by rw [List.filter_eq_nil_iff]; intro e _; simp [isClash, fndE]
  rw [this]; rfl
theorem todo_self {l : List Edt} (h : SrtE l) : todoL l l = [] := by
  unfold todoL; rw [List.filter_eq_nil_iff]; intro e he; simp [isTodo, fndE_of h he]
theorem clash_self {l : List Edt} (h : SrtE l) : clashL l l = [] := by
  unfold clashL keysL
  have : l.filter (isClash l) = [] := by rw [List.filter_eq_nil_iff]; intro e he; simp [isClash, fndE_of h he]
  rw [this]; rfl
theorem merge_none {m : List Ent} (h : m.length ≤ 12) : toldR m [] = (m, [], 0) := by unfold toldR; rw [if_neg (by simp), if_neg (by omega)]
theorem merge3_of {base x y : List Ent} (hb : mapOK base = true) (hx : mapOK x = true) (hy : mapOK y = true) : merge3R base x y = toldR (mrgL base x y) (clsL base x y) := by
  have := mapOK_le hb
  have := mapOK_le hx
  have := mapOK_le hy
  unfold merge3R
  rw [if_neg (by omega), if_pos ⟨hb, hx, hy⟩]
section
variable {base a : List Ent} (hb : mapOK base = true) (ha : mapOK a = true)
include hb ha
theorem merge_base_r : merge3R base a base = (a, [], 0) := by
  have sb := srt_of_mapOK hb
  have sa := srt_of_mapOK ha
  rw [merge3_of hb ha hb]
  unfold mrgL clsL
  have h1 : todoL (diffM base a) [] = [] := rfl
  have h2 : clashL (diffM base a) [] = [] := rfl
  rw [diff_self sb, h1, h2]
  exact merge_none (mapOK_le ha)
theorem merge_base_l : merge3R base base a = (a, [], 0) := by
  have sb := srt_of_mapOK hb
  have sa := srt_of_mapOK ha
  rw [merge3_of hb hb ha]
  unfold mrgL clsL
  rw [diff_self sb, todo_nil, clash_nil, apply_diff sb sa]
  exact merge_none (mapOK_le ha)
theorem merge_self : merge3R base a a = (a, [], 0) := by
  have sb := srt_of_mapOK hb
  have sa := srt_of_mapOK ha
  rw [merge3_of hb ha ha]
  unfold mrgL clsL
  have s := srt_diffM sb sa
  rw [todo_self s, clash_self s]
  exact merge_none (mapOK_le ha)
theorem rebase_base : rebaseR base base a = ([], [], 0) := by
  unfold rebaseR
  rw [merge_base_l hb ha]
  have sa := srt_of_mapOK ha
  simp [diff_self sa]
end
end Go.Proofs.Ytjhimcddgkoghaa.AM
