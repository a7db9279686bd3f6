/- Texts of the machine over data, folded. -/
import Derived.Test.YtjhimcddgkoghaaKb8
import Derived.Test.YtjhimcddgkoghaaKb6
import Derived.Test.YtjhimcddgkoghaaKb7
import Derived.Test.YtjhimcddgkoghaaKb5
namespace Go.Proofs.Ytjhimcddgkoghaa.AM
open Go Go.RowKit
set_option linter.unusedVariables false
def keys8 : List ByteArray := [⟨#[97]⟩, ⟨#[98]⟩, ⟨#[99]⟩, ⟨#[100]⟩, ⟨#[101]⟩, ⟨#[107, 49]⟩, ⟨#[107, 50]⟩, ⟨#[122, 122]⟩]
theorem keys8_nm : (keys8.all fun k => nm k && decide (k.size ≤ 12)) = true := by kernel_rfl
theorem keys8_ok {k : ByteArray} (h : k ∈ keys8) : nm k = true ∧ k.size ≤ 12 := by
  have := List.all_eq_true.1 keys8_nm k h
  simpa using this
/-- a map as the draws make one -/
def Good (es : List Ent) : Prop := Srt es ∧ ∀ e ∈ es, e.1 ∈ keys8 ∧ 0 ≤ e.2 ∧ e.2 < 9
theorem Good.nil : Good [] := ⟨List.Pairwise.nil, by simp⟩
theorem Good.put {es : List Ent} (h : Good es) {k : ByteArray} (hk : k ∈ keys8) {v : Int} (h0 : 0 ≤ v) (h1 : v < 9) : Good (putL es k v) :=
  ⟨srt_putL h.1 k v, fun e he => by
    rcases mem_putL he with rfl | he
    · exact ⟨hk, h0, h1⟩
    · exact h.2 e he⟩
theorem Good.del {es : List Ent} (h : Good es) (k : ByteArray) : Good (delL es k) := ⟨srt_delL h.1 k, fun e he => h.2 e (List.mem_filter.1 he).1⟩
theorem ordM_of_srt {es : List Ent} (h : Srt es) (hn : ∀ e ∈ es, nm e.1 = true) : ordM es = true := ordM_of fun i hi => by
  rw [ordAt, kAt_eq es i hi, hn _ (List.getElem_mem hi), Bool.true_and]
  rcases Nat.eq_zero_or_pos i with h0 | h0
  · rw [decide_eq_true h0]; rfl
  · have h2 := (List.pairwise_iff_getElem.1 h) (i - 1) i (by omega) hi (by omega)
    rw [kAt_eq es (i - 1) (by omega), h2, Bool.or_true]
theorem Good.ok {es : List Ent} (h : Good es) (hl : es.length ≤ 12) : mapOK es = true :=
  mapOK_of hl fun i hi => by
    have he := h.2 _ (List.getElem_mem hi)
    refine ⟨ordM_at (ordM_of_srt h.1 fun e he => (keys8_ok (h.2 e he).1).1) hi, ?_⟩
    have e1 : valAt es i = valB es[i].2 := by simp [valAt, hi]
    rw [e1, valB, decide_eq_true (by omega), decide_eq_true (by omega)]; rfl
theorem Good.small {es : List Ent} (h : Good es) : ∀ e ∈ es, e.1.size ≤ maxLen := fun e he => by
  have := (keys8_ok (h.2 e he).1).2
  unfold maxLen; omega
/-- edits as the draws make them -/
def GoodE (xs : List Edt) : Prop := xs.Pairwise (fun a b => klt a.key b.key = true) ∧ ∀ e ∈ xs, e.key ∈ keys8 ∧ 0 ≤ e.val ∧ e.val < 9 ∧ (e.gone = true → e.val = 0)
theorem GoodE.nil : GoodE [] := ⟨List.Pairwise.nil, by simp⟩
theorem GoodE.small {xs : List Edt} (h : GoodE xs) : ∀ e ∈ xs, e.key.size ≤ maxLen := fun e he => by
  have := (keys8_ok (h.2 e he).1).2
  unfold maxLen; omega
theorem Good.apply : ∀ (xs : List Edt) {es : List Ent}, Good es → (∀ e ∈ xs, e.key ∈ keys8 ∧ 0 ≤ e.val ∧ e.val < 9) → Good (applyL es xs)
  | [], _, h, _ => h
  | e :: xs, es, h, hx => by
    show Good (applyL (applyOne es e) xs)
    refine Good.apply xs ?_ (fun x hx' => hx x (by simp [hx']))
    obtain ⟨h1, h2, h3⟩ := hx e (by simp)
    unfold applyOne
    split
    · exact h.del _
    · exact h.put h1 h2 h3
theorem Good.applyE {xs : List Edt} {es : List Ent} (h : Good es) (hx : GoodE xs) : Good (applyL es xs) := h.apply xs fun e he => ⟨(hx.2 e he).1, (hx.2 e he).2.1, (hx.2 e he).2.2.1⟩
end Go.Proofs.Ytjhimcddgkoghaa.AM
namespace Go.Proofs.Ytjhimcddgkoghaa
open Go.RowKit

end Go.Proofs.Ytjhimcddgkoghaa
namespace Go.Proofs.Ytjhimcddgkoghaa
open Go.RowKit

end Go.Proofs.Ytjhimcddgkoghaa
/- Chapter 3 over data: edits applied, both sides; an edit found. -/
namespace Go.Proofs.Ytjhimcddgkoghaa.AM
open Go Go.RowKit
set_option linter.unusedVariables false
set_option linter.unusedSimpArgs false
set_option maxRecDepth 100000
attribute [local irreducible] ACode AOps AOps2 RetG RetM Pre ACG
theorem ac_l01Apply {es : List Ent} {xs : List Edt} (hm : es.length + xs.length ≤ 4000) : AC Try.prog 175 [.lst 2 (es.map entA), .lst 3 (xs.map edtA)] ⟨.own 0, [⟨167, 2, (applyL es xs).map entA⟩]⟩ := by
  refine r_of Th_ok (by kernel_rfl) Try.func175 rfl Try.ntmps175 Try.results175 (by kernel_rfl) rfl ?_; conv => whnf
  refine r_step (p_appl (f := entA) (xs := ([] : List Ent)) (ys := es) (by simp; omega) rfl rfl rfl rfl rfl rfl) rfl rfl (fun e => by first | exact .inl rfl | contradiction | exact .inr (.inl (by kernel_rfl))) ?_
  conv => whnf
  refine r_loop (ι := { k : Nat // k ≤ xs.length }) (fun k => ⟨[(0, .own 7), (1, .lst 3 (xs.map edtA)), (5, .v (.int .i64 (k.1 : Int)))], [(7, ⟨167, 2, (applyL es (xs.take k.1)).map entA⟩)]⟩) (fun k => xs.length - k.1) ⟨0, Nat.zero_le _⟩ (by refine ⟨?_, ?_⟩ <;> (repeat (first | trivial | exact ⟨rfl, trivial⟩ | refine ⟨rfl, ?_⟩ | refine ⟨.inl ⟨rfl, rfl⟩, ?_⟩ | refine ⟨.inr ⟨_, _, rfl, rfl, rfl, rfl, rfl⟩, ?_⟩))) ?_
  rintro ⟨k, hk⟩
  dsimp only
  conv => whnf
  have hlL := applyL_length es (xs.take k)
  rw [List.length_take] at hlL
  by_cases hlt : k < xs.length
  · have hg1 := applyL_gone es xs k hlt
    have hg2 := applyL_put es xs k hlt
    cases hg : xs[k].gone with
    | true =>
      repeat (((first | refine qb rfl rfl ?_ | refine qi (by assumption) rfl rfl ?_ | refine ql rfl ?_ | refine qo rfl rfl ?_ | refine qs rfl rfl ?_ | refine qn rfl rfl ?_); conv => whnf))
      rw [hg]
      conv => whnf
      repeat (((first | refine qb rfl rfl ?_ | refine qi (by assumption) rfl rfl ?_ | refine ql rfl ?_ | refine qo rfl rfl ?_ | refine qs rfl rfl ?_ | refine qn rfl rfl ?_); conv => whnf))
      refine qC (ac_l01Remove (es := applyL es (xs.take k)) (k := xs[k].key) (by omega)) rfl ?_
      refine r_step (p_asl 7 rfl rfl rfl) rfl rfl (fun e => by first | exact .inl rfl | contradiction | exact .inr (.inl (by kernel_rfl))) ?_; conv => whnf
      rw [← hg1 hg]
      repeat (((first | refine qb rfl rfl ?_ | refine qi (by assumption) rfl rfl ?_ | refine ql rfl ?_ | refine qo rfl rfl ?_ | refine qs rfl rfl ?_ | refine qn rfl rfl ?_); conv => whnf))
      exact ⟨⟨k + 1, hlt⟩, by refine ⟨?_, ?_⟩ <;> (repeat (first | trivial | exact ⟨rfl, trivial⟩ | refine ⟨rfl, ?_⟩ | refine ⟨.inl ⟨rfl, rfl⟩, ?_⟩ | refine ⟨.inr ⟨_, _, rfl, rfl, rfl, rfl, rfl⟩, ?_⟩)), by simp; omega⟩
    | false =>
      repeat (((first | refine qb rfl rfl ?_ | refine qi (by assumption) rfl rfl ?_ | refine ql rfl ?_ | refine qo rfl rfl ?_ | refine qs rfl rfl ?_ | refine qn rfl rfl ?_); conv => whnf))
      rw [hg]
      conv => whnf
      refine .inl ⟨by kernel_rfl, ?_⟩
      conv => whnf
      repeat (((first | refine qb rfl rfl ?_ | refine qi (by assumption) rfl rfl ?_ | refine ql rfl ?_ | refine qo rfl rfl ?_ | refine qs rfl rfl ?_ | refine qn rfl rfl ?_); conv => whnf))
      refine qC (ac_l01Put (es := applyL es (xs.take k)) (k := xs[k].key) (v := xs[k].val) (by omega)) rfl ?_
      refine r_step (p_asl 7 rfl rfl rfl) rfl rfl (fun e => by first | exact .inl rfl | contradiction | exact .inr (.inl (by kernel_rfl))) ?_; conv => whnf
      rw [← hg2 hg]
      repeat (((first | refine qb rfl rfl ?_ | refine qi (by assumption) rfl rfl ?_ | refine ql rfl ?_ | refine qo rfl rfl ?_ | refine qs rfl rfl ?_ | refine qn rfl rfl ?_); conv => whnf))
      exact ⟨⟨k + 1, hlt⟩, by refine ⟨?_, ?_⟩ <;> (repeat (first | trivial | exact ⟨rfl, trivial⟩ | refine ⟨rfl, ?_⟩ | refine ⟨.inl ⟨rfl, rfl⟩, ?_⟩ | refine ⟨.inr ⟨_, _, rfl, rfl, rfl, rfl, rfl⟩, ?_⟩)), by simp; omega⟩
  · have hkk : k = xs.length := by omega
    subst hkk
    repeat (((first | refine qb rfl rfl ?_ | refine qi (by assumption) rfl rfl ?_ | refine ql rfl ?_ | refine qo rfl rfl ?_ | refine qs rfl rfl ?_ | refine qn rfl rfl ?_); conv => whnf))
    exact r_own1 rfl (by show some (OB.mk _ _ _) = _; rw [List.take_length])
def fndE (es : List Edt) (k : ByteArray) : Option Edt := es.find? fun e => decide (e.key = k)
def zE : Edt := ⟨ByteArray.empty, 0, false⟩
theorem ac_l02Find {es : List Edt} {k : ByteArray} {o : Option Edt} (ho : fndE es k = o) (hm : es.length ≤ 1048576) : AC Try.prog 245 [.lst 3 (es.map edtA), .v (.string k)] ⟨.tup [edtA (o.getD zE), .v (.bool o.isSome)], []⟩ := by
  refine r_of Th_ok (by kernel_rfl) Try.func245 rfl Try.ntmps245 Try.results245 (by kernel_rfl) rfl ?_; conv => whnf
  refine r_loop (ι := { i : Nat // i ≤ es.length ∧ fndE (es.drop i) k = o }) (fun i => ⟨[(0, .lst 3 (es.map edtA)), (1, .v (.string k)), (4, .optr 5 0 [] 0), (6, .v (.int .i64 (i.1 : Int)))], [(5, ⟨117, 3, [edtA zE]⟩)]⟩) (fun i => es.length - i.1) ⟨0, Nat.zero_le _, ho⟩ (by refine ⟨?_, ?_⟩ <;> (repeat (first | trivial | exact ⟨rfl, trivial⟩ | refine ⟨rfl, ?_⟩ | refine ⟨.inl ⟨rfl, rfl⟩, ?_⟩ | refine ⟨.inr ⟨_, _, rfl, rfl, rfl, rfl, rfl⟩, ?_⟩))) ?_
  rintro ⟨i, hi, hf⟩
  dsimp only
  conv => whnf
  by_cases hlt : i < es.length
  · rw [List.drop_eq_getElem_cons hlt, fndE, List.find?_cons] at hf
    by_cases hk : es[i].key = k
    · simp only [hk, decide_true] at hf
      subst hf
      repeat (first | ((first | refine qb rfl rfl ?_ | refine qi (by assumption) rfl rfl ?_ | refine ql rfl ?_ | refine qo rfl rfl ?_ | refine qs rfl rfl ?_ | refine qn rfl rfl ?_); conv => whnf) | (refine r_put (p_bin (b_seq_t hk) rfl rfl rfl) rfl rfl ?_; conv => whnf) | (refine r_step (p_ostore rfl rfl rfl rfl rfl (by conv => lhs; whnf) rfl) rfl rfl (fun e => by first | exact .inl rfl | contradiction | exact .inr (.inl (by kernel_rfl))) ?_; conv => whnf))
      trace_state
      exact r_tupCV rfl rfl rfl rfl trivial rfl
    · simp only [hk, decide_false] at hf
      repeat (first | ((first | refine qb rfl rfl ?_ | refine qi (by assumption) rfl rfl ?_ | refine ql rfl ?_ | refine qo rfl rfl ?_ | refine qs rfl rfl ?_ | refine qn rfl rfl ?_); conv => whnf) | (refine r_put (p_bin (b_seq_f hk) rfl rfl rfl) rfl rfl ?_; conv => whnf))
      exact ⟨⟨i + 1, hlt, hf⟩, by refine ⟨?_, ?_⟩ <;> (repeat (first | trivial | exact ⟨rfl, trivial⟩ | refine ⟨rfl, ?_⟩ | refine ⟨.inl ⟨rfl, rfl⟩, ?_⟩ | refine ⟨.inr ⟨_, _, rfl, rfl, rfl, rfl, rfl⟩, ?_⟩)), by simp; omega⟩
  · have hkk : i = es.length := by omega
    subst hkk
    rw [List.drop_length] at hf
    have hf' : o = none := hf.symm
    subst hf'
    repeat (first | ((first | refine qb rfl rfl ?_ | refine qi (by assumption) rfl rfl ?_ | refine ql rfl ?_ | refine qo rfl rfl ?_ | refine qs rfl rfl ?_ | refine qn rfl rfl ?_); conv => whnf) | (refine r_step (p_ostore rfl rfl rfl rfl rfl (by conv => lhs; whnf) rfl) rfl rfl (fun e => by first | exact .inl rfl | contradiction | exact .inr (.inl (by kernel_rfl))) ?_; conv => whnf))
    exact r_tupCV rfl rfl rfl rfl trivial rfl
end Go.Proofs.Ytjhimcddgkoghaa.AM
/- Chapter 3 over data: the document's merge. -/
namespace Go.Proofs.Ytjhimcddgkoghaa.AM
open Go Go.RowKit
set_option linter.unusedVariables false
set_option linter.unusedSimpArgs false
set_option maxRecDepth 100000
attribute [local irreducible] ACode AOps AOps2 RetG RetM Pre ACG
def isTodo (l : List Edt) (e : Edt) : Bool := (fndE l e.key).isNone
def isClash (l : List Edt) (e : Edt) : Bool := match fndE l e.key with | none => false | some x => decide (x ≠ e)
def todoL (l r : List Edt) : List Edt := r.filter (isTodo l)
def clashL (l r : List Edt) : List ByteArray := keysL (r.filter (isClash l))
theorem todoL_succ (l r : List Edt) (k : Nat) (h : k < r.length) : todoL l (r.take (k + 1)) = if isTodo l r[k] then todoL l (r.take k) ++ [r[k]] else todoL l (r.take k) := by
  unfold todoL
  rw [List.take_succ_eq_append_getElem h, List.filter_append]
  by_cases c : isTodo l r[k] <;> simp [List.filter_cons, c]
theorem clashL_succ (l r : List Edt) (k : Nat) (h : k < r.length) : clashL l (r.take (k + 1)) = if isClash l r[k] then clashL l (r.take k) ++ [r[k].key] else clashL l (r.take k) := by
  unfold clashL
  rw [List.take_succ_eq_append_getElem h, List.filter_append]
  by_cases c : isClash l r[k] <;> simp [List.filter_cons, c, keysL]
theorem todoL_length (l r : List Edt) : (todoL l r).length ≤ r.length := List.length_filter_le _ _
theorem clashL_length (l r : List Edt) : (clashL l r).length ≤ r.length := by unfold clashL; rw [keysL_length]; exact List.length_filter_le _ _
def mrgL (base a b : List Ent) : List Ent := applyL a (todoL (diffM base a) (diffM base b))
def clsL (base a b : List Ent) : List ByteArray := clashL (diffM base a) (diffM base b)
theorem ac_l02Merge {base a b : List Ent} (h0 : base.length ≤ 500) (h1 : a.length ≤ 500) (h2 : b.length ≤ 500) : AC Try.prog 177 [.lst 2 (base.map entA), .lst 2 (a.map entA), .lst 2 (b.map entA)] ⟨.tup [.own 0, .own 1], [⟨167, 2, (mrgL base a b).map entA⟩, ⟨9, 1, (clsL base a b).map strA⟩]⟩ := by
  have d1 := diffM_len base a
  have d2 := diffM_len base b
  unfold mrgL clsL
  refine r_of Th_ok (by kernel_rfl) Try.func177 rfl Try.ntmps177 Try.results177 (by kernel_rfl) rfl ?_; conv => whnf
  repeat (first | ((first | refine qb rfl rfl ?_ | refine qi (by assumption) rfl rfl ?_ | refine ql rfl ?_ | refine qo rfl rfl ?_ | refine qs rfl rfl ?_ | refine qn rfl rfl ?_); conv => whnf) | (refine qc (ac_l01Diff (es := base) (es' := a) (by omega) (by omega)) rfl ?_; conv => whnf) | (refine qc (ac_l01Diff (es := base) (es' := b) (by omega) (by omega)) rfl ?_; conv => whnf))
  generalize diffM base a = L at *
  generalize diffM base b = R at *
  refine r_loop (ι := { k : Nat // k ≤ R.length }) (fun k => ⟨[(1, .lst 2 (a.map entA)), (8, .lst 3 (L.map edtA)), (9, .lst 3 (R.map edtA)), (10, .own 22), (11, .own 23), (12, .v (.int .i64 (k.1 : Int)))], [(22, ⟨9, 1, (clashL L (R.take k.1)).map strA⟩), (23, ⟨117, 3, (todoL L (R.take k.1)).map edtA⟩)]⟩) (fun k => R.length - k.1) ⟨0, Nat.zero_le _⟩ (by refine ⟨?_, ?_⟩ <;> (repeat (first | trivial | exact ⟨rfl, trivial⟩ | refine ⟨rfl, ?_⟩ | refine ⟨.inl ⟨rfl, rfl⟩, ?_⟩ | refine ⟨.inr ⟨_, _, rfl, rfl, rfl, rfl, rfl⟩, ?_⟩))) ?_
  rintro ⟨k, hk⟩
  dsimp only
  conv => whnf
  by_cases hlt : k < R.length
  · have ht := todoL_succ L R k hlt
    have hc := clashL_succ L R k hlt
    have lt := todoL_length L (R.take k)
    have lc := clashL_length L (R.take k)
    rw [List.length_take] at lt lc
    cases hf : fndE L R[k].key with
    | none =>
      have t1 : isTodo L R[k] = true := by unfold isTodo; rw [hf]; rfl
      have c1 : isClash L R[k] = false := by unfold isClash; rw [hf]
      rw [if_pos t1] at ht
      rw [c1, if_neg (by simp)] at hc
      repeat (first | ((first | refine qb rfl rfl ?_ | refine qi (by assumption) rfl rfl ?_ | refine ql rfl ?_ | refine qo rfl rfl ?_ | refine qs rfl rfl ?_ | refine qn rfl rfl ?_); conv => whnf) | (refine qc (ac_l02Find hf (by omega)) rfl ?_; conv => whnf) | (refine r_step (p_ostore rfl rfl rfl rfl rfl (by conv => lhs; whnf) rfl) rfl rfl (fun e => by first | exact .inl rfl | contradiction | exact .inr (.inl (by kernel_rfl))) ?_; conv => whnf) | (refine r_step (p_app1r _ _ ht.symm (by omega) rfl rfl rfl rfl rfl rfl rfl) rfl rfl (fun e => by first | exact .inl rfl | contradiction | exact .inr (.inl (by kernel_rfl))) ?_; conv => whnf))
      rw [← hc]
      exact ⟨⟨k + 1, hlt⟩, by refine ⟨?_, ?_⟩ <;> (repeat (first | trivial | exact ⟨rfl, trivial⟩ | refine ⟨rfl, ?_⟩ | refine ⟨.inl ⟨rfl, rfl⟩, ?_⟩ | refine ⟨.inr ⟨_, _, rfl, rfl, rfl, rfl, rfl⟩, ?_⟩)), by simp; omega⟩
    | some x =>
      have t1 : isTodo L R[k] = false := by unfold isTodo; rw [hf]; rfl
      rw [t1, if_neg (by simp)] at ht
      by_cases hx : x = R[k]
      · have c1 : isClash L R[k] = false := by unfold isClash; rw [hf]; simp [hx]
        rw [c1, if_neg (by simp)] at hc
        have hb := @b_edtne x R[k]
        repeat (first | ((first | refine qb rfl rfl ?_ | refine qi (by assumption) rfl rfl ?_ | refine ql rfl ?_ | refine qo rfl rfl ?_ | refine qs rfl rfl ?_ | refine qn rfl rfl ?_); conv => whnf) | (refine qc (ac_l02Find hf (by omega)) rfl ?_; conv => whnf) | (refine r_step (p_ostore rfl rfl rfl rfl rfl (by conv => lhs; whnf) rfl) rfl rfl (fun e => by first | exact .inl rfl | contradiction | exact .inr (.inl (by kernel_rfl))) ?_; conv => whnf) | (refine .inl ⟨by kernel_rfl, ?_⟩; conv => whnf) | (refine r_put (p_binA (b_edtne (a := x) (b := R[k]) (r := false) (by simp [hx])) rfl rfl rfl) rfl rfl ?_; conv => whnf))
        rw [← ht, ← hc]
        exact ⟨⟨k + 1, hlt⟩, by refine ⟨?_, ?_⟩ <;> (repeat (first | trivial | exact ⟨rfl, trivial⟩ | refine ⟨rfl, ?_⟩ | refine ⟨.inl ⟨rfl, rfl⟩, ?_⟩ | refine ⟨.inr ⟨_, _, rfl, rfl, rfl, rfl, rfl⟩, ?_⟩)), by simp; omega⟩
      · have c1 : isClash L R[k] = true := by unfold isClash; rw [hf]; simp [hx]
        rw [if_pos c1] at hc
        repeat (first | ((first | refine qb rfl rfl ?_ | refine qi (by assumption) rfl rfl ?_ | refine ql rfl ?_ | refine qo rfl rfl ?_ | refine qs rfl rfl ?_ | refine qn rfl rfl ?_); conv => whnf) | (refine qc (ac_l02Find hf (by omega)) rfl ?_; conv => whnf) | (refine r_step (p_ostore rfl rfl rfl rfl rfl (by conv => lhs; whnf) rfl) rfl rfl (fun e => by first | exact .inl rfl | contradiction | exact .inr (.inl (by kernel_rfl))) ?_; conv => whnf) | (refine .inl ⟨by kernel_rfl, ?_⟩; conv => whnf) | (refine r_put (p_binA (b_edtne (a := x) (b := R[k]) (r := true) (by simp [hx])) rfl rfl rfl) rfl rfl ?_; conv => whnf) | (refine r_step (p_app1r _ _ hc.symm (by omega) rfl rfl rfl rfl rfl rfl rfl) rfl rfl (fun e => by first | exact .inl rfl | contradiction | exact .inr (.inl (by kernel_rfl))) ?_; conv => whnf))
        rw [← ht]
        exact ⟨⟨k + 1, hlt⟩, by refine ⟨?_, ?_⟩ <;> (repeat (first | trivial | exact ⟨rfl, trivial⟩ | refine ⟨rfl, ?_⟩ | refine ⟨.inl ⟨rfl, rfl⟩, ?_⟩ | refine ⟨.inr ⟨_, _, rfl, rfl, rfl, rfl, rfl⟩, ?_⟩)), by simp; omega⟩
  · have hkk : k = R.length := by omega
    subst hkk
    rw [List.take_length]
    have lt := todoL_length L R
    repeat (first | ((first | refine qb rfl rfl ?_ | refine qi (by assumption) rfl rfl ?_ | refine ql rfl ?_ | refine qo rfl rfl ?_ | refine qs rfl rfl ?_ | refine qn rfl rfl ?_); conv => whnf) | (refine qc (ac_l01Apply (es := a) (xs := todoL L R) (by omega)) rfl ?_; conv => whnf))
    exact r_tupOO rfl rfl rfl rfl rfl

end Go.Proofs.Ytjhimcddgkoghaa.AM
/- Changes in order: a comparison of maps is in order; the keys on which two lists of changes differ, from either side. -/
namespace Go.Proofs.Ytjhimcddgkoghaa.AM
open Go Go.RowKit
set_option linter.unusedVariables false
def SrtE (es : List Edt) : Prop := es.Pairwise fun a b => klt a.key b.key = true
theorem diffL_lb (k : ByteArray) : ∀ (f : Nat) (a b : List Ent), (∀ x ∈ a, klt k x.1 = true) → (∀ y ∈ b, klt k y.1 = true) → ∀ e ∈ diffL f a b, klt k e.key = true := by
  intro f
  induction f with
  | zero => intro a b _ _ e he; simp [diffL] at he
  | succ f ih =>
    intro a b ha hb e he
    match a, b with
    | [], [] => simp [diffL] at he
    | x :: a, [] =>
      rw [diffL] at he
      rcases List.mem_cons.1 he with rfl | he
      · exact ha x (by simp)
      · exact ih a [] (fun y hy => ha y (by simp [hy])) hb e he
    | [], y :: b =>
      rw [diffL] at he
      rcases List.mem_cons.1 he with rfl | he
      · exact hb y (by simp)
      · exact ih [] b ha (fun z hz => hb z (by simp [hz])) e he
    | x :: a, y :: b =>
      rw [diffL] at he
      have ha' : ∀ z ∈ a, klt k z.1 = true := fun z hz => ha z (by simp [hz])
      have hb' : ∀ z ∈ b, klt k z.1 = true := fun z hz => hb z (by simp [hz])
      split at he
      · rcases List.mem_cons.1 he with rfl | he
        · exact ha x (by simp)
        · exact ih a (y :: b) ha' hb e he
      · split at he
        · rcases List.mem_cons.1 he with rfl | he
          · exact hb y (by simp)
          · exact ih (x :: a) b ha hb' e he
        · rcases List.mem_append.1 he with he | he
          · split at he
            · cases he
            · rcases List.mem_singleton.1 he with rfl
              exact hb y (by simp)
          · exact ih a b ha' hb' e he
theorem srt_diffL : ∀ (f : Nat) (a b : List Ent), Srt a → Srt b → SrtE (diffL f a b) := by
  intro f
  induction f with
  | zero => intro a b _ _; exact List.Pairwise.nil
  | succ f ih =>
    intro a b ha hb
    match a, b with
    | [], [] => exact List.Pairwise.nil
    | x :: a, [] =>
      rw [diffL]
      have h := List.pairwise_cons.1 ha
      exact List.pairwise_cons.2 ⟨diffL_lb _ _ _ _ h.1 (by simp), ih a [] h.2 hb⟩
    | [], y :: b =>
      rw [diffL]
      have h := List.pairwise_cons.1 hb
      exact List.pairwise_cons.2 ⟨diffL_lb _ _ _ _ (by simp) h.1, ih [] b ha h.2⟩
    | x :: a, y :: b =>
      rw [diffL]
      have h := List.pairwise_cons.1 ha
      have h' := List.pairwise_cons.1 hb
      split
      · rename_i hxy
        refine List.pairwise_cons.2 ⟨diffL_lb _ _ _ _ h.1 (fun z hz => ?_), ih a (y :: b) h.2 hb⟩
        rcases List.mem_cons.1 hz with rfl | hz
        · exact hxy
        · exact klt_trans hxy (h'.1 z hz)
      · split
        · rename_i hyx
          refine List.pairwise_cons.2 ⟨diffL_lb _ _ _ _ (fun z hz => ?_) h'.1, ih (x :: a) b ha h'.2⟩
          rcases List.mem_cons.1 hz with rfl | hz
          · exact hyx
          · exact klt_trans hyx (h.1 z hz)
        · rename_i hxy hyx
          have he : x.1 = y.1 := Classical.byContradiction fun hne => by
            have := klt_tri (by simpa using hxy) hne
            exact hyx this
          split
          · exact ih a b h.2 h'.2
          · refine List.pairwise_cons.2 ⟨diffL_lb _ _ _ _ (fun z hz => ?_) h'.1, ih a b h.2 h'.2⟩
            show klt y.1 z.1 = true
            rw [← he]; exact h.1 z hz
theorem srt_diffM {a b : List Ent} (ha : Srt a) (hb : Srt b) : SrtE (diffM a b) := srt_diffL _ _ _ ha hb
theorem klist_ext : ∀ (l1 l2 : List ByteArray), l1.Pairwise (fun a b => klt a b = true) → l2.Pairwise (fun a b => klt a b = true) → (∀ x, x ∈ l1 ↔ x ∈ l2) → l1 = l2
  | [], [], _, _, _ => rfl
  | [], b :: l2, _, _, h => by have := (h b).2 (by simp); cases this
  | a :: l1, [], _, _, h => by have := (h a).1 (by simp); cases this
  | a :: l1, b :: l2, h1, h2, h => by
    obtain ⟨p1, q1⟩ := List.pairwise_cons.1 h1
    obtain ⟨p2, q2⟩ := List.pairwise_cons.1 h2
    have hab : a = b := by
      rcases List.mem_cons.1 ((h a).1 (by simp)) with e | e
      · exact e
      · rcases List.mem_cons.1 ((h b).2 (by simp)) with e' | e'
        · exact e'.symm
        · have := klt_asymm (p2 a e); rw [p1 b e'] at this; cases this
    subst hab
    refine congrArg _ (klist_ext l1 l2 q1 q2 fun x => ⟨fun hx => ?_, fun hx => ?_⟩)
    · rcases List.mem_cons.1 ((h x).1 (by simp [hx])) with rfl | e
      · have := p1 x hx; rw [klt_irrefl] at this; cases this
      · exact e
    · rcases List.mem_cons.1 ((h x).2 (by simp [hx])) with rfl | e
      · have := p2 x hx; rw [klt_irrefl] at this; cases this
      · exact e
theorem fndE_mem {es : List Edt} {k : ByteArray} {x : Edt} (h : fndE es k = some x) : x ∈ es ∧ x.key = k := by
  refine ⟨List.mem_of_find?_eq_some h, ?_⟩
  have := List.find?_some h
  simpa using this
theorem fndE_of {es : List Edt} (hs : SrtE es) {x : Edt} (h : x ∈ es) : fndE es x.key = some x := by
  induction es with
  | nil => cases h
  | cons e es ih =>
    obtain ⟨p, q⟩ := List.pairwise_cons.1 hs
    rcases List.mem_cons.1 h with rfl | h
    · simp [fndE]
    · have hne : ¬ e.key = x.key := klt_ne (p x h)
      rw [fndE, List.find?_cons]
      simp only [hne, decide_false]
      exact ih q h
theorem fndE_none {es : List Edt} {k : ByteArray} (h : fndE es k = none) : ∀ e ∈ es, e.key ≠ k := fun e he hk => by
  have := List.find?_eq_none.1 h e he
  simp [hk] at this
theorem mem_clash {l r : List Edt} (hl : SrtE l) {k : ByteArray} : k ∈ clashL l r ↔ ∃ e ∈ r, ∃ x ∈ l, e.key = k ∧ x.key = k ∧ x ≠ e := by
  unfold clashL keysL
  simp only [List.mem_map, List.mem_filter]
  constructor
  · rintro ⟨e, ⟨he, hc⟩, rfl⟩
    unfold isClash at hc
    split at hc
    · cases hc
    · rename_i x hx
      obtain ⟨h1, h2⟩ := fndE_mem hx
      exact ⟨e, he, x, h1, rfl, h2, by simpa using hc⟩
  · rintro ⟨e, he, x, hx, rfl, hk, hne⟩
    refine ⟨e, ⟨he, ?_⟩, rfl⟩
    unfold isClash
    rw [← hk, fndE_of hl hx]
    simpa using hne
theorem srt_clash {l r : List Edt} (hr : SrtE r) : (clashL l r).Pairwise (fun a b => klt a b = true) := by
  unfold clashL keysL
  rw [List.pairwise_map]
  exact List.Pairwise.filter _ hr
theorem clash_comm {l r : List Edt} (hl : SrtE l) (hr : SrtE r) : clashL l r = clashL r l :=
  klist_ext _ _ (srt_clash hr) (srt_clash hl) fun k => by
    rw [mem_clash hl, mem_clash hr]
    constructor
    · rintro ⟨e, he, x, hx, h1, h2, h3⟩; exact ⟨x, hx, e, he, h2, h1, fun h => h3 h.symm⟩
    · rintro ⟨e, he, x, hx, h1, h2, h3⟩; exact ⟨x, hx, e, he, h2, h1, fun h => h3 h.symm⟩
end Go.Proofs.Ytjhimcddgkoghaa.AM
/- Chapter 3 over data: the document's Merge3, MergeEdits, Rebase. -/
namespace Go.Proofs.Ytjhimcddgkoghaa.AM
open Go Go.RowKit
set_option linter.unusedVariables false
set_option linter.unusedSimpArgs false
set_option maxRecDepth 100000
attribute [local irreducible] ACode AOps AOps2 RetG RetM Pre ACG
def toldR (m : List Ent) (c : List ByteArray) : List Ent × List ByteArray × Int :=
  if 0 < c.length then ([], c, 11) else if 12 < m.length then ([], [], 7) else (m, [], 0)
theorem ac_l02Told {m : List Ent} {c : List ByteArray} (h0 : m.length ≤ 4000) (h1 : c.length ≤ 4000) : AC Try.prog 178 [.lst 2 (m.map entA), .lst 1 (c.map strA)] ⟨.tup [.lst 2 ((toldR m c).1.map entA), .lst 1 ((toldR m c).2.1.map strA), .v (.int .i64 (toldR m c).2.2)], []⟩ := by
  unfold toldR
  refine r_of Th_ok (by kernel_rfl) Try.func178 rfl Try.ntmps178 Try.results178 (by kernel_rfl) rfl ?_; conv => whnf
  by_cases hc : 0 < c.length
  · rw [if_pos hc]
    repeat (((first | refine qb rfl rfl ?_ | refine qi (by assumption) rfl rfl ?_ | refine ql rfl ?_ | refine qo rfl rfl ?_ | refine qs rfl rfl ?_ | refine qn rfl rfl ?_); conv => whnf))
    exact r_tup3 (ra_o rfl rfl) (ra_x rfl trivial) (ra_x rfl trivial)
  · rw [if_neg hc]
    by_cases hm : 12 < m.length
    · rw [if_pos hm]
      repeat (((first | refine qb rfl rfl ?_ | refine qi (by assumption) rfl rfl ?_ | refine ql rfl ?_ | refine qo rfl rfl ?_ | refine qs rfl rfl ?_ | refine qn rfl rfl ?_); conv => whnf))
      exact r_tup3 (ra_o rfl rfl) (ra_o rfl rfl) (ra_x rfl trivial)
    · rw [if_neg hm]
      repeat (((first | refine qb rfl rfl ?_ | refine qi (by assumption) rfl rfl ?_ | refine ql rfl ?_ | refine qo rfl rfl ?_ | refine qs rfl rfl ?_ | refine qn rfl rfl ?_); conv => whnf))
      exact r_tup3 (ra_x rfl trivial) (ra_o rfl rfl) (ra_x rfl trivial)
theorem mapOK_le {es : List Ent} (h : mapOK es = true) : es.length ≤ 12 := by
  rcases Nat.lt_or_ge 12 es.length with h' | h'
  · rw [mapOK_long h'] at h; cases h
  · exact h'
theorem mrgL_length (base a b : List Ent) : (mrgL base a b).length ≤ a.length + (base.length + b.length) := by
  have h1 := applyL_length a (todoL (diffM base a) (diffM base b))
  have h2 := todoL_length (diffM base a) (diffM base b)
  have h3 := diffM_len base b
  unfold mrgL; omega
theorem clsL_length (base a b : List Ent) : (clsL base a b).length ≤ base.length + b.length := by
  have h2 := clashL_length (diffM base a) (diffM base b)
  have h3 := diffM_len base b
  unfold clsL; omega
end Go.Proofs.Ytjhimcddgkoghaa.AM
/- Chapter 3 over data: the program's merge, out of what it does with two lists of changes. -/
namespace Go.Proofs.Ytjhimcddgkoghaa.AM
open Go Go.RowKit
set_option linter.unusedVariables false
set_option linter.unusedSimpArgs false
set_option maxRecDepth 100000
attribute [local irreducible] ACode AOps AOps2 RetG RetM Pre ACG
def CCok : Prop := ∀ l r : List Edt, SrtE l → SrtE r → l.length ≤ 4000 → r.length ≤ 4000 → AC Try.prog 244 [.lst 3 (l.map edtA), .lst 3 (r.map edtA)] ⟨.tup [.own 0, .own 1], [⟨117, 3, (todoL l r).map edtA⟩, ⟨9, 1, (clashL l r).map strA⟩]⟩
theorem ac_edited {es : List Ent} {xs : List Edt} (hs : Srt es) (hm : es.length + xs.length ≤ 4000) : AC Try.prog 171 [.lst 2 (es.map entA), .lst 3 (xs.map edtA)] ⟨.own 0, [⟨167, 2, (applyL es xs).map entA⟩]⟩ := by
  have h0 : ((es.drop 0).take (es.length - 0)).map entA = (applyL es (xs.take 0)).map entA := by
    show _ = es.map entA
    rw [List.drop_zero, Nat.sub_zero, List.take_length]
  refine r_of Th_ok (by kernel_rfl) Try.func171 rfl Try.ntmps171 Try.results171 (by kernel_rfl) rfl ?_; conv => whnf
  repeat (first | ((first | refine qb rfl rfl ?_ | refine qi (by assumption) rfl rfl ?_ | refine ql rfl ?_ | refine qo rfl rfl ?_ | refine qs rfl rfl ?_ | refine qn rfl rfl ?_); conv => whnf) | (refine qc (ac_part (es := es) (a := 0) (b := es.length) (by omega) (by omega) (by omega)) rfl ?_; conv => whnf))
  refine r_loop (ι := { k : Nat // k ≤ xs.length }) (fun k => ⟨[(5, .own 12), (12, .lst 3 (xs.map edtA)), (13, .v (.int .i64 (xs.length : Int))), (14, .v (.int .i64 (k.1 : Int)))], [(12, ⟨167, 2, (applyL es (xs.take k.1)).map entA⟩)]⟩) (fun k => xs.length - k.1) ⟨0, Nat.zero_le _⟩ ⟨⟨congrArg (fun x => some (OB.mk _ _ x)) h0, trivial⟩, .inl ⟨rfl, rfl⟩, .inl ⟨rfl, rfl⟩, .inl ⟨rfl, rfl⟩, .inl ⟨rfl, rfl⟩, trivial⟩ ?_
  rintro ⟨k, hk⟩
  dsimp only
  conv => whnf
  have hlL := applyL_length es (xs.take k)
  have hsrt := srt_applyL hs (xs.take k)
  rw [List.length_take] at hlL
  by_cases hlt : k < xs.length
  · have hg1 := applyL_gone es xs k hlt
    have hg2 := applyL_put es xs k hlt
    repeat (first | ((first | refine qb rfl rfl ?_ | refine qi (by assumption) rfl rfl ?_ | refine ql rfl ?_ | refine qo rfl rfl ?_ | refine qs rfl rfl ?_ | refine qn rfl rfl ?_); conv => whnf) | (refine r_step (p_ostore rfl rfl rfl rfl rfl (by conv => lhs; whnf) rfl) rfl rfl (fun e => by first | exact .inl rfl | contradiction | exact .inr (.inl (by kernel_rfl))) ?_; conv => whnf))
    cases hg : xs[k].gone with
    | true =>
      conv => whnf
      refine qC (ac_without (es := applyL es (xs.take k)) (k := xs[k].key) hsrt (by omega)) rfl ?_
      refine r_step (p_asl 12 rfl rfl rfl) rfl rfl (fun e => by first | exact .inl rfl | contradiction | exact .inr (.inl (by kernel_rfl))) ?_; conv => whnf
      rw [← hg1 hg]
      repeat (((first | refine qb rfl rfl ?_ | refine qi (by assumption) rfl rfl ?_ | refine ql rfl ?_ | refine qo rfl rfl ?_ | refine qs rfl rfl ?_ | refine qn rfl rfl ?_); conv => whnf))
      exact ⟨⟨k + 1, hlt⟩, by refine ⟨?_, ?_⟩ <;> (repeat (first | trivial | exact ⟨rfl, trivial⟩ | refine ⟨rfl, ?_⟩ | refine ⟨.inl ⟨rfl, rfl⟩, ?_⟩ | refine ⟨.inr ⟨_, _, rfl, rfl, rfl, rfl, rfl⟩, ?_⟩)), by simp; omega⟩
    | false =>
      conv => whnf
      refine qC (ac_with (es := applyL es (xs.take k)) (k := xs[k].key) (v := xs[k].val) hsrt (by omega)) rfl ?_
      refine r_step (p_asl 12 rfl rfl rfl) rfl rfl (fun e => by first | exact .inl rfl | contradiction | exact .inr (.inl (by kernel_rfl))) ?_; conv => whnf
      rw [← hg2 hg]
      repeat (((first | refine qb rfl rfl ?_ | refine qi (by assumption) rfl rfl ?_ | refine ql rfl ?_ | refine qo rfl rfl ?_ | refine qs rfl rfl ?_ | refine qn rfl rfl ?_); conv => whnf))
      exact ⟨⟨k + 1, hlt⟩, by refine ⟨?_, ?_⟩ <;> (repeat (first | trivial | exact ⟨rfl, trivial⟩ | refine ⟨rfl, ?_⟩ | refine ⟨.inl ⟨rfl, rfl⟩, ?_⟩ | refine ⟨.inr ⟨_, _, rfl, rfl, rfl, rfl, rfl⟩, ?_⟩)), by simp; omega⟩
  · have hkk : k = xs.length := by omega
    subst hkk
    repeat (((first | refine qb rfl rfl ?_ | refine qi (by assumption) rfl rfl ?_ | refine ql rfl ?_ | refine qo rfl rfl ?_ | refine qs rfl rfl ?_ | refine qn rfl rfl ?_); conv => whnf))
    exact r_own1 rfl (by show some (OB.mk _ _ _) = _; rw [List.take_length])
theorem ac_merged (hcc : CCok) {base a b : List Ent} (s0 : Srt base) (s1 : Srt a) (s2 : Srt b) (h0 : base.length ≤ 500) (h1 : a.length ≤ 500) (h2 : b.length ≤ 500) : AC Try.prog 176 [.lst 2 (base.map entA), .lst 2 (a.map entA), .lst 2 (b.map entA)] ⟨.tup [.own 0, .own 1, .v (.int .i64 (toldR (mrgL base a b) (clsL base a b)).2.2)], [⟨167, 2, (toldR (mrgL base a b) (clsL base a b)).1.map entA⟩, ⟨9, 1, (toldR (mrgL base a b) (clsL base a b)).2.1.map strA⟩]⟩ := by
  have d1 := diffM_len base a
  have d2 := diffM_len base b
  have e1 := todoL_length (diffM base a) (diffM base b)
  have hC := hcc (diffM base a) (diffM base b) (srt_diffM s0 s1) (srt_diffM s0 s2) (by omega) (by omega)
  have hE := ac_edited (es := a) (xs := todoL (diffM base a) (diffM base b)) s1 (by omega)
  have hm : mrgL base a b = applyL a (todoL (diffM base a) (diffM base b)) := rfl
  have hc : clsL base a b = clashL (diffM base a) (diffM base b) := rfl
  rw [← hm] at hE
  rw [← hc] at hC
  unfold toldR
  refine r_of Th_ok (by kernel_rfl) Try.func176 rfl Try.ntmps176 Try.results176 (by kernel_rfl) rfl ?_; conv => whnf
  by_cases c0 : 0 < (clsL base a b).length
  · rw [if_pos c0]
    repeat (first | ((first | refine qb rfl rfl ?_ | refine qi (by assumption) rfl rfl ?_ | refine ql rfl ?_ | refine qo rfl rfl ?_ | refine qs rfl rfl ?_ | refine qn rfl rfl ?_); conv => whnf) | (refine qc (ac_differences (es := base) (es' := a) (by omega) (by omega)) rfl ?_; conv => whnf) | (refine qc (ac_differences (es := base) (es' := b) (by omega) (by omega)) rfl ?_; conv => whnf) | (refine qc (hC) rfl ?_; conv => whnf))
    exact r_tupOOV rfl rfl rfl rfl rfl rfl
  · rw [if_neg c0]
    by_cases c1 : 12 < (mrgL base a b).length
    · rw [if_pos c1]
      repeat (first | ((first | refine qb rfl rfl ?_ | refine qi (by assumption) rfl rfl ?_ | refine ql rfl ?_ | refine qo rfl rfl ?_ | refine qs rfl rfl ?_ | refine qn rfl rfl ?_); conv => whnf) | (refine qc (ac_differences (es := base) (es' := a) (by omega) (by omega)) rfl ?_; conv => whnf) | (refine qc (ac_differences (es := base) (es' := b) (by omega) (by omega)) rfl ?_; conv => whnf) | (refine qc (hC) rfl ?_; conv => whnf) | (refine qc (hE) rfl ?_; conv => whnf))
      exact r_tupOOV rfl rfl rfl rfl rfl rfl
    · rw [if_neg c1]
      repeat (first | ((first | refine qb rfl rfl ?_ | refine qi (by assumption) rfl rfl ?_ | refine ql rfl ?_ | refine qo rfl rfl ?_ | refine qs rfl rfl ?_ | refine qn rfl rfl ?_); conv => whnf) | (refine qc (ac_differences (es := base) (es' := a) (by omega) (by omega)) rfl ?_; conv => whnf) | (refine qc (ac_differences (es := base) (es' := b) (by omega) (by omega)) rfl ?_; conv => whnf) | (refine qc (hC) rfl ?_; conv => whnf) | (refine qc (hE) rfl ?_; conv => whnf))
      exact r_tupOOV rfl rfl rfl rfl rfl rfl
end Go.Proofs.Ytjhimcddgkoghaa.AM
/- Chapter 3 over data: bounds of the results. -/
namespace Go.Proofs.Ytjhimcddgkoghaa.AM
open Go Go.RowKit
set_option linter.unusedVariables false
theorem toldR_bd (m : List Ent) {c : List ByteArray} (h : c.length ≤ 100) : (toldR m c).1.length ≤ 12 ∧ (toldR m c).2.1.length ≤ 100 := by
  unfold toldR
  split
  · exact ⟨by simp, h⟩
  · split
    · exact ⟨by simp, by simp⟩
    · rename_i h2; exact ⟨by show m.length ≤ 12; omega, by simp⟩
end Go.Proofs.Ytjhimcddgkoghaa.AM
/- The program's comparison of two lists of changes: a map of strings. -/
namespace Go.Proofs.Ytjhimcddgkoghaa.AM
open Go Go.RowKit
set_option linter.unusedVariables false
set_option linter.unusedSimpArgs false
set_option maxRecDepth 100000
attribute [local irreducible] ACode AOps AOps2 RetG RetM Pre ACG
def mapOf (es : List Edt) : List (ByteArray × AV) := es.map fun e => (e.key, edtA e)
theorem mget_mapOf (q : ByteArray) : ∀ es : List Edt, mget (mapOf es) q = (fndE es q).map edtA
  | [] => rfl
  | e :: es => by
    show (if q = e.key then some (edtA e) else mget (mapOf es) q) = _
    rw [fndE, List.find?_cons]
    by_cases h : q = e.key
    · subst h; simp
    · have h' : ¬ e.key = q := fun x => h x.symm
      simp only [if_neg h, h', decide_false]
      exact mget_mapOf q es
theorem mput_new {q : ByteArray} {v : AV} : ∀ {m : List (ByteArray × AV)}, mget m q = none → mput m q v = m ++ [(q, v)]
  | [], _ => rfl
  | (k, y) :: m, h => by
    by_cases hk : q = k
    · simp [mget, hk] at h
    · simp only [mget, if_neg hk] at h
      simp only [mput, if_neg hk, List.cons_append, mput_new h]
theorem mdel_mapOf {q : ByteArray} : ∀ {es : List Edt}, SrtE es → mdel (mapOf es) q = mapOf (es.filter fun e => decide (e.key ≠ q))
  | [], _ => rfl
  | e :: es, h => by
    obtain ⟨p, hq⟩ := List.pairwise_cons.1 h
    show (if q = e.key then mapOf es else (e.key, edtA e) :: mdel (mapOf es) q) = _
    by_cases hk : q = e.key
    · subst hk
      rw [if_pos rfl, List.filter_cons_of_neg (by simp)]
      congr 1
      symm
      rw [List.filter_eq_self]
      intro x hx
      have := klt_ne (p x hx)
      simpa using fun e => this e.symm
    · rw [if_neg hk, List.filter_cons_of_pos (by simpa using fun e => hk e.symm), mdel_mapOf hq]
      rfl
theorem srt_todo {l r : List Edt} (hr : SrtE r) : SrtE (todoL l r) := List.Pairwise.filter _ hr
theorem isTodo_iff {l : List Edt} {e : Edt} : isTodo l e = true ↔ ∀ x ∈ l, x.key ≠ e.key := by
  unfold isTodo
  rw [Option.isNone_iff_eq_none]
  constructor
  · exact fndE_none
  · intro h; rw [fndE, List.find?_eq_none]; intro x hx; simpa using h x hx
theorem todo_step {l r : List Edt} {k : Nat} (hk : k < l.length) : todoL (l.take (k + 1)) r = (todoL (l.take k) r).filter fun e => decide (e.key ≠ l[k].key) := by
  unfold todoL
  rw [List.filter_filter]
  congr 1
  funext e
  rw [Bool.eq_iff_iff, Bool.and_eq_true, isTodo_iff, isTodo_iff, List.take_succ_eq_append_getElem hk]
  simp only [List.mem_append, List.mem_singleton, decide_eq_true_eq]
  constructor
  · intro h; exact ⟨fun e' => h _ (.inr rfl) e'.symm, fun x hx => h x (.inl hx)⟩
  · rintro ⟨h1, h2⟩ x (hx | rfl)
    · exact h2 x hx
    · exact fun e' => h1 e'.symm
theorem srt_notin {l : List Edt} (hl : SrtE l) {k : Nat} (hk : k < l.length) : ∀ x ∈ l.take k, x.key ≠ l[k].key := fun x hx => by
  obtain ⟨i, hi, rfl⟩ := List.mem_iff_getElem.1 hx
  rw [List.length_take] at hi
  rw [List.getElem_take]
  exact klt_ne (List.pairwise_iff_getElem.1 hl i k (by omega) hk (by omega))
theorem fnd_todo {l r : List Edt} (hr : SrtE r) {q : ByteArray} (hq : ∀ x ∈ l, x.key ≠ q) : fndE (todoL l r) q = fndE r q := by
  cases h : fndE r q with
  | none =>
    rw [fndE, List.find?_eq_none]
    intro x hx
    have := fndE_none h x (List.mem_filter.1 hx).1
    simpa using this
  | some x =>
    obtain ⟨h1, h2⟩ := fndE_mem h
    have hm : x ∈ todoL l r := List.mem_filter.2 ⟨h1, isTodo_iff.2 (fun y hy => by rw [h2]; exact hq y hy)⟩
    rw [← h2]; exact fndE_of (srt_todo hr) hm
theorem left_todo {l r : List Edt} (hr : SrtE r) {k : Nat} (hk : k < r.length) : (mget (mapOf (todoL l r)) r[k].key).isSome = isTodo l r[k] := by
  rw [mget_mapOf, Option.isSome_map]
  cases h : isTodo l r[k] with
  | true =>
    have hm : r[k] ∈ todoL l r := List.mem_filter.2 ⟨List.getElem_mem hk, h⟩
    rw [fndE_of (srt_todo hr) hm]; rfl
  | false =>
    cases hf : fndE (todoL l r) r[k].key with
    | none => rfl
    | some x =>
      obtain ⟨h1, h2⟩ := fndE_mem hf
      obtain ⟨h3, h4⟩ := List.mem_filter.1 h1
      have e1 := fndE_of hr h3
      have e2 := fndE_of hr (List.getElem_mem hk)
      rw [h2, e2] at e1
      cases e1
      rw [h] at h4; cases h4
theorem mapOf_snoc {r : List Edt} (hr : SrtE r) {k : Nat} (hk : k < r.length) : mput (mapOf (r.take k)) r[k].key (edtA r[k]) = mapOf (r.take (k + 1)) := by
  rw [mput_new]
  · unfold mapOf; rw [List.take_succ_eq_append_getElem hk, List.map_append]; rfl
  · rw [mget_mapOf]
    have : fndE (r.take k) r[k].key = none := by
      rw [fndE, List.find?_eq_none]; intro x hx; simpa using srt_notin hr hk x hx
    rw [this]; rfl
set_option maxHeartbeats 4000000 in
theorem cc_ok : CCok := by
  intro l r hl hr h1 h2
  rw [clash_comm hl hr]
  refine r_of Th_ok (by kernel_rfl) Try.func244 rfl Try.ntmps244 Try.results244 (by kernel_rfl) rfl ?_; conv => whnf
  repeat (first | ((first | refine qb rfl rfl ?_ | refine qi (by assumption) rfl rfl ?_ | refine ql rfl ?_ | refine qo rfl rfl ?_ | refine qs rfl rfl ?_ | refine qn rfl rfl ?_); conv => whnf) | (refine r_step (p_mkmap rfl rfl rfl) rfl rfl (fun e => by first | exact .inl rfl | contradiction | exact .inr (.inl (by kernel_rfl))) ?_; conv => whnf))
  refine r_loopm (ι := { k : Nat // k ≤ r.length }) (fun k => ⟨[(0, .lst 3 (l.map edtA)), (1, .lst 3 (r.map edtA)), (6, .mapv 22), (22, .lst 3 (r.map edtA)), (23, .v (.int .i64 (r.length : Int))), (24, .v (.int .i64 (k.1 : Int)))], [(22, ⟨291, 1, []⟩)], [(22, mapOf (r.take k.1))]⟩) (fun k => r.length - k.1) ⟨0, Nat.zero_le _⟩ ⟨by refine ⟨?_, ?_⟩ <;> (repeat (first | trivial | exact ⟨rfl, trivial⟩ | refine ⟨rfl, ?_⟩ | refine ⟨.inl ⟨rfl, rfl⟩, ?_⟩ | refine ⟨.inr ⟨_, _, rfl, rfl, rfl, rfl, rfl⟩, ?_⟩)), ⟨rfl, rfl⟩, trivial⟩ ?_
  rintro ⟨k, hk⟩
  dsimp only
  conv => whnf
  by_cases hlt : k < r.length
  · have hs := mapOf_snoc hr hlt
    repeat (first | ((first | refine qb rfl rfl ?_ | refine qi (by assumption) rfl rfl ?_ | refine ql rfl ?_ | refine qo rfl rfl ?_ | refine qs rfl rfl ?_ | refine qn rfl rfl ?_); conv => whnf) | (refine r_step (p_ostore rfl rfl rfl rfl rfl (by conv => lhs; whnf) rfl) rfl rfl (fun e => by first | exact .inl rfl | contradiction | exact .inr (.inl (by kernel_rfl))) ?_; conv => whnf) | (refine r_step (p_mapput (v := edtA r[k]) rfl rfl rfl rfl rfl rfl rfl hs) rfl rfl (fun e => by first | exact .inl rfl | contradiction | exact .inr (.inl (by kernel_rfl))) ?_; conv => whnf))
    exact ⟨⟨k + 1, hlt⟩, ⟨by refine ⟨?_, ?_⟩ <;> (repeat (first | trivial | exact ⟨rfl, trivial⟩ | refine ⟨rfl, ?_⟩ | refine ⟨.inl ⟨rfl, rfl⟩, ?_⟩ | refine ⟨.inr ⟨_, _, rfl, rfl, rfl, rfl, rfl⟩, ?_⟩)), ⟨rfl, rfl⟩, trivial⟩, by simp; omega⟩
  have hkk : k = r.length := by omega
  subst hkk
  rw [List.take_length]
  repeat (((first | refine qb rfl rfl ?_ | refine qi (by assumption) rfl rfl ?_ | refine ql rfl ?_ | refine qo rfl rfl ?_ | refine qs rfl rfl ?_ | refine qn rfl rfl ?_); conv => whnf))
  refine r_loopm (ι := { k : Nat // k ≤ l.length }) (fun k => ⟨[(1, .lst 3 (r.map edtA)), (6, .mapv 22), (9, .own 10), (33, .lst 3 (l.map edtA)), (34, .v (.int .i64 (l.length : Int))), (35, .v (.int .i64 (k.1 : Int)))], [(22, ⟨291, 1, []⟩), (10, ⟨9, 1, (clashL r (l.take k.1)).map strA⟩)], [(22, mapOf (todoL (l.take k.1) r))]⟩) (fun k => l.length - k.1) ⟨0, Nat.zero_le _⟩ ⟨by refine ⟨?_, ?_⟩ <;> (repeat (first | trivial | exact ⟨rfl, trivial⟩ | refine ⟨rfl, ?_⟩ | refine ⟨.inl ⟨rfl, rfl⟩, ?_⟩ | refine ⟨.inr ⟨_, _, rfl, rfl, rfl, rfl, rfl⟩, ?_⟩)), ⟨congrArg (fun x => some (mapOf x)) (show r = todoL (l.take 0) r from (List.filter_eq_self.2 (fun x _ => rfl)).symm), rfl⟩, trivial⟩ ?_
  rintro ⟨k, hk⟩
  dsimp only
  conv => whnf
  by_cases hlt : k < l.length
  · have hfd := fnd_todo hr (srt_notin hl hlt)
    have hdel : mdel (mapOf (todoL (l.take k) r)) l[k].key = mapOf (todoL (l.take (k + 1)) r) := by rw [mdel_mapOf (srt_todo hr), todo_step hlt]
    have hcs := clashL_succ r l k hlt
    have lc := clashL_length r (l.take k)
    rw [List.length_take] at lc
    cases hf : fndE r l[k].key with
    | none =>
      rw [hf] at hfd
      have g1 : mget (mapOf (todoL (l.take k) r)) l[k].key = none := by rw [mget_mapOf, hfd]; rfl
      have c1 : isClash r l[k] = false := by unfold isClash; rw [hf]
      rw [c1, if_neg (by simp)] at hcs
      repeat (first | ((first | refine qb rfl rfl ?_ | refine qi (by assumption) rfl rfl ?_ | refine ql rfl ?_ | refine qo rfl rfl ?_ | refine qs rfl rfl ?_ | refine qn rfl rfl ?_); conv => whnf) | (refine r_put (p_mapget (y := edtA zE) (f := false) rfl rfl rfl rfl (by rw [g1]; rfl) (by rw [g1]; rfl)) rfl rfl ?_; conv => whnf) | (refine r_step (p_mapdel rfl rfl rfl rfl hdel) rfl rfl (fun e => by first | exact .inl rfl | contradiction | exact .inr (.inl (by kernel_rfl))) ?_; conv => whnf) | (refine r_step (p_ostore rfl rfl rfl rfl rfl (by conv => lhs; whnf) rfl) rfl rfl (fun e => by first | exact .inl rfl | contradiction | exact .inr (.inl (by kernel_rfl))) ?_; conv => whnf))
      rw [← hcs]
      exact ⟨⟨k + 1, hlt⟩, ⟨by refine ⟨?_, ?_⟩ <;> (repeat (first | trivial | exact ⟨rfl, trivial⟩ | refine ⟨rfl, ?_⟩ | refine ⟨.inl ⟨rfl, rfl⟩, ?_⟩ | refine ⟨.inr ⟨_, _, rfl, rfl, rfl, rfl, rfl⟩, ?_⟩)), ⟨rfl, rfl⟩, trivial⟩, by simp; omega⟩
    | some x =>
      rw [hf] at hfd
      have g1 : mget (mapOf (todoL (l.take k) r)) l[k].key = some (edtA x) := by rw [mget_mapOf, hfd]; rfl
      by_cases hx : x = l[k]
      · have c1 : isClash r l[k] = false := by unfold isClash; rw [hf]; simp [hx]
        rw [c1, if_neg (by simp)] at hcs
        repeat (first | ((first | refine qb rfl rfl ?_ | refine qi (by assumption) rfl rfl ?_ | refine ql rfl ?_ | refine qo rfl rfl ?_ | refine qs rfl rfl ?_ | refine qn rfl rfl ?_); conv => whnf) | (refine r_put (p_mapget (y := edtA x) (f := true) rfl rfl rfl rfl (by rw [g1]; rfl) (by rw [g1]; rfl)) rfl rfl ?_; conv => whnf) | (refine r_step (p_mapdel rfl rfl rfl rfl hdel) rfl rfl (fun e => by first | exact .inl rfl | contradiction | exact .inr (.inl (by kernel_rfl))) ?_; conv => whnf) | (refine r_step (p_ostore rfl rfl rfl rfl rfl (by conv => lhs; whnf) rfl) rfl rfl (fun e => by first | exact .inl rfl | contradiction | exact .inr (.inl (by kernel_rfl))) ?_; conv => whnf) | (refine r_put (p_binA (b_edtne (a := x) (b := l[k]) (r := false) (by simp [hx])) rfl rfl rfl) rfl rfl ?_; conv => whnf))
        rw [← hcs]
        exact ⟨⟨k + 1, hlt⟩, ⟨by refine ⟨?_, ?_⟩ <;> (repeat (first | trivial | exact ⟨rfl, trivial⟩ | refine ⟨rfl, ?_⟩ | refine ⟨.inl ⟨rfl, rfl⟩, ?_⟩ | refine ⟨.inr ⟨_, _, rfl, rfl, rfl, rfl, rfl⟩, ?_⟩)), ⟨rfl, rfl⟩, trivial⟩, by simp; omega⟩
      · have c1 : isClash r l[k] = true := by unfold isClash; rw [hf]; simp [hx]
        rw [if_pos c1] at hcs
        repeat (first | ((first | refine qb rfl rfl ?_ | refine qi (by assumption) rfl rfl ?_ | refine ql rfl ?_ | refine qo rfl rfl ?_ | refine qs rfl rfl ?_ | refine qn rfl rfl ?_); conv => whnf) | (refine r_put (p_mapget (y := edtA x) (f := true) rfl rfl rfl rfl (by rw [g1]; rfl) (by rw [g1]; rfl)) rfl rfl ?_; conv => whnf) | (refine r_step (p_mapdel rfl rfl rfl rfl hdel) rfl rfl (fun e => by first | exact .inl rfl | contradiction | exact .inr (.inl (by kernel_rfl))) ?_; conv => whnf) | (refine r_step (p_ostore rfl rfl rfl rfl rfl (by conv => lhs; whnf) rfl) rfl rfl (fun e => by first | exact .inl rfl | contradiction | exact .inr (.inl (by kernel_rfl))) ?_; conv => whnf) | (refine r_put (p_binA (b_edtne (a := x) (b := l[k]) (r := true) (by simp [hx])) rfl rfl rfl) rfl rfl ?_; conv => whnf) | (refine r_step (p_app1r _ _ hcs.symm (by omega) rfl rfl rfl rfl rfl rfl rfl) rfl rfl (fun e => by first | exact .inl rfl | contradiction | exact .inr (.inl (by kernel_rfl))) ?_; conv => whnf))
        exact ⟨⟨k + 1, hlt⟩, ⟨by refine ⟨?_, ?_⟩ <;> (repeat (first | trivial | exact ⟨rfl, trivial⟩ | refine ⟨rfl, ?_⟩ | refine ⟨.inl ⟨rfl, rfl⟩, ?_⟩ | refine ⟨.inr ⟨_, _, rfl, rfl, rfl, rfl, rfl⟩, ?_⟩)), ⟨rfl, rfl⟩, trivial⟩, by simp; omega⟩
  have hkk : k = l.length := by omega
  subst hkk
  rw [List.take_length]
  repeat (((first | refine qb rfl rfl ?_ | refine qi (by assumption) rfl rfl ?_ | refine ql rfl ?_ | refine qo rfl rfl ?_ | refine qs rfl rfl ?_ | refine qn rfl rfl ?_); conv => whnf))
  refine r_loopm (ι := { k : Nat // k ≤ r.length }) (fun k => ⟨[(6, .mapv 22), (9, .own 10), (14, .own 15), (61, .lst 3 (r.map edtA)), (62, .v (.int .i64 (r.length : Int))), (63, .v (.int .i64 (k.1 : Int)))], [(22, ⟨291, 1, []⟩), (10, ⟨9, 1, (clashL r l).map strA⟩), (15, ⟨117, 3, (todoL l (r.take k.1)).map edtA⟩)], [(22, mapOf (todoL l r))]⟩) (fun k => r.length - k.1) ⟨0, Nat.zero_le _⟩ ⟨by refine ⟨?_, ?_⟩ <;> (repeat (first | trivial | exact ⟨rfl, trivial⟩ | refine ⟨rfl, ?_⟩ | refine ⟨.inl ⟨rfl, rfl⟩, ?_⟩ | refine ⟨.inr ⟨_, _, rfl, rfl, rfl, rfl, rfl⟩, ?_⟩)), ⟨rfl, rfl⟩, trivial⟩ ?_
  rintro ⟨k, hk⟩
  dsimp only
  conv => whnf
  by_cases hlt : k < r.length
  · have hleft := left_todo (l := l) hr hlt
    have hts := todoL_succ l r k hlt
    have lt := todoL_length l (r.take k)
    rw [List.length_take] at lt
    obtain ⟨y, hy⟩ : ∃ y, (mget (mapOf (todoL l r)) r[k].key).getD (edtA zE) = edtA y := by
      rw [mget_mapOf]
      cases fndE (todoL l r) r[k].key with
      | none => exact ⟨zE, rfl⟩
      | some x => exact ⟨x, rfl⟩
    cases ht : isTodo l r[k] with
    | true =>
      rw [ht] at hleft
      rw [if_pos ht] at hts
      repeat (first | ((first | refine qb rfl rfl ?_ | refine qi (by assumption) rfl rfl ?_ | refine ql rfl ?_ | refine qo rfl rfl ?_ | refine qs rfl rfl ?_ | refine qn rfl rfl ?_); conv => whnf) | (refine r_put (p_mapget (y := edtA y) (f := true) rfl rfl rfl rfl hy hleft) rfl rfl ?_; conv => whnf) | (refine r_step (p_ostore rfl rfl rfl rfl rfl (by conv => lhs; whnf) rfl) rfl rfl (fun e => by first | exact .inl rfl | contradiction | exact .inr (.inl (by kernel_rfl))) ?_; conv => whnf) | (refine r_step (p_app1r _ _ hts.symm (by omega) rfl rfl rfl rfl rfl rfl rfl) rfl rfl (fun e => by first | exact .inl rfl | contradiction | exact .inr (.inl (by kernel_rfl))) ?_; conv => whnf))
      exact ⟨⟨k + 1, hlt⟩, ⟨by refine ⟨?_, ?_⟩ <;> (repeat (first | trivial | exact ⟨rfl, trivial⟩ | refine ⟨rfl, ?_⟩ | refine ⟨.inl ⟨rfl, rfl⟩, ?_⟩ | refine ⟨.inr ⟨_, _, rfl, rfl, rfl, rfl, rfl⟩, ?_⟩)), ⟨rfl, rfl⟩, trivial⟩, by simp; omega⟩
    | false =>
      rw [ht] at hleft
      rw [ht, if_neg (by simp)] at hts
      repeat (first | ((first | refine qb rfl rfl ?_ | refine qi (by assumption) rfl rfl ?_ | refine ql rfl ?_ | refine qo rfl rfl ?_ | refine qs rfl rfl ?_ | refine qn rfl rfl ?_); conv => whnf) | (refine r_put (p_mapget (y := edtA y) (f := false) rfl rfl rfl rfl hy hleft) rfl rfl ?_; conv => whnf) | (refine r_step (p_ostore rfl rfl rfl rfl rfl (by conv => lhs; whnf) rfl) rfl rfl (fun e => by first | exact .inl rfl | contradiction | exact .inr (.inl (by kernel_rfl))) ?_; conv => whnf))
      rw [← hts]
      exact ⟨⟨k + 1, hlt⟩, ⟨by refine ⟨?_, ?_⟩ <;> (repeat (first | trivial | exact ⟨rfl, trivial⟩ | refine ⟨rfl, ?_⟩ | refine ⟨.inl ⟨rfl, rfl⟩, ?_⟩ | refine ⟨.inr ⟨_, _, rfl, rfl, rfl, rfl, rfl⟩, ?_⟩)), ⟨rfl, rfl⟩, trivial⟩, by simp; omega⟩
  have hkk : k = r.length := by omega
  subst hkk
  rw [List.take_length]
  repeat (((first | refine qb rfl rfl ?_ | refine qi (by assumption) rfl rfl ?_ | refine ql rfl ?_ | refine qo rfl rfl ?_ | refine qs rfl rfl ?_ | refine qn rfl rfl ?_); conv => whnf))
  exact r_tupOO rfl rfl rfl rfl rfl
end Go.Proofs.Ytjhimcddgkoghaa.AM
namespace Go.Proofs.Ytjhimcddgkoghaa.AM
open Go Go.RowKit
set_option linter.unusedVariables false
set_option linter.unusedSimpArgs false
set_option maxRecDepth 100000
def nextS (c : List UInt8) (s : Src) (n : Nat) : Nat × Src := if n ≤ 1 then (0, s) else ((byteS c s).1.toNat % n, (byteS c s).2)
theorem nextS_ok {c : List UInt8} {s : Src} {K n : Nat} (h : s.ok K) (hn : 0 < n) : (nextS c s n).2.ok (K + 1) ∧ (nextS c s n).1 < n := by
  obtain ⟨h1, h2, h3⟩ := byteS_ok (c := c) h
  unfold nextS
  split
  · exact ⟨⟨by have := h.1; simp; omega, h.2.1, h.2.2⟩, hn⟩
  · exact ⟨h1, Nat.mod_lt _ hn⟩
theorem Src.ok.le {s : Src} {K L : Nat} (h : s.ok K) (k : K ≤ L) : s.ok L := ⟨Nat.le_trans h.1 k, h.2⟩
abbrev strO (l : List ByteArray) : OB := ⟨9, 1, l.map strA⟩
abbrev entO (l : List Ent) : OB := ⟨167, 2, l.map entA⟩
abbrev edtO (l : List Edt) : OB := ⟨117, 3, l.map edtA⟩
theorem r_ret1s2 {s : St} {Θ : Tab} {r : Nat} {v : Value} {o1 o2 : OB} (h1 : s.sl r = .v v) (h2 : s.hp 0 = some o1) (h3 : s.hp 1000000 = some o2) : RetG Θ [.tmp r] [o1, o2] ⟨.v v, []⟩ .ret s := ⟨⟨h2, h3, trivial⟩, [], by simp, trivial, ⟨trivial, trivial⟩, trivial, ⟨.inl ⟨h1, rfl⟩, trivial⟩⟩
theorem r_own1s {s : St} {t l : Nat} {ob o0 : OB} {Θ : Tab} (h1 : s.sl t = .own l) (ho : s.hp l = some ob) (h0 : s.hp 0 = some o0) (hok : okL l = true := by rfl) (hsh : ob.e.shut = true := by rfl) : RetG Θ [.tmp t] [o0] ⟨.own 0, [ob]⟩ .ret s :=
  ⟨⟨h0, trivial⟩, [l], by simp, ⟨⟨ho, hok, hsh⟩, trivial⟩, ⟨trivial, trivial⟩, trivial, ⟨.inl ⟨h1, rfl⟩, trivial⟩⟩
attribute [local irreducible] ACode AOps AOps2 RetG RetM Pre ACG
theorem ac_next {c : List UInt8} {s : Src} {K n : Nat} (hc : c.length ≤ maxLen) (hs : s.ok K) (hK : K ≤ 1000000000) (hn : n ≤ 256) : ACG Try.prog 236 [.optr 0 0 [] 0, .v (.int .i64 (n : Int))] [srcO c s] [srcO c (nextS c s n).2] ⟨.v (.int .i64 ((nextS c s n).1 : Int)), []⟩ := by
  obtain ⟨_, b2, b3⟩ := byteS_ok (c := c) hs
  have hb := ac_byte hc hs hK
  unfold nextS
  by_cases h1 : n ≤ 1
  · rw [if_pos h1]
    refine acg_of (rs := [.tmp 4]) Th_ok (by kernel_rfl) Try.func236 rfl Try.ntmps236 (by rw [Try.results236]) (by kernel_rfl) (by simp) rfl rfl (runC_sound _ _ _ ?_); conv => whnf
    repeat (((first | refine qb rfl rfl ?_ | refine qi (by assumption) rfl rfl ?_ | refine ql rfl ?_ | refine qo rfl rfl ?_ | refine qs rfl rfl ?_ | refine qn rfl rfl ?_); conv => whnf))
    exact r_ret1s rfl rfl
  · rw [if_neg h1]
    have hmod : (byteS c s).1 % (n : Int) = (((byteS c s).1.toNat % n : Nat) : Int) := by
      rw [Int.natCast_emod, Int.toNat_of_nonneg b2]
    refine acg_of (rs := [.tmp 4]) Th_ok (by kernel_rfl) Try.func236 rfl Try.ntmps236 (by rw [Try.results236]) (by kernel_rfl) (by simp) rfl rfl (runC_sound _ _ _ ?_); conv => whnf
    repeat (first | ((first | refine qb rfl rfl ?_ | refine qi (by assumption) rfl rfl ?_ | refine ql rfl ?_ | refine qo rfl rfl ?_ | refine qs rfl rfl ?_ | refine qn rfl rfl ?_); conv => whnf) | (refine r_step (p_callg [0] (hb) rfl rfl (by first | exact ⟨rfl, trivial⟩ | exact ⟨rfl, rfl, trivial⟩ | exact ⟨rfl, rfl, rfl, trivial⟩) rfl rfl (by first | exact trivial | exact ⟨⟨rfl, rfl, rfl⟩, trivial⟩ | exact ⟨⟨rfl, rfl, rfl⟩, ⟨rfl, rfl, rfl⟩, trivial⟩ | exact ⟨⟨rfl, rfl, rfl⟩, ⟨rfl, rfl, rfl⟩, ⟨rfl, rfl, rfl⟩, trivial⟩) rfl rfl rfl (.inl rfl) rfl) rfl rfl (fun e => by first | exact .inl rfl | contradiction | exact .inr (.inl (by kernel_rfl))) ?_; conv => whnf) | (refine r_put (p_bin (b_rem2 b2 (by omega) hmod) rfl rfl rfl) rfl rfl ?_; conv => whnf))
    exact r_ret1s rfl rfl
theorem ac_chance {c : List UInt8} {s : Src} {K n : Nat} (hc : c.length ≤ maxLen) (hs : s.ok K) (hK : K ≤ 1000000000) (hn : n ≤ 256) (h0 : 0 < n) : ACG Try.prog 242 [.optr 0 0 [] 0, .v (.int .i64 (n : Int))] [srcO c s] [srcO c (nextS c s n).2] ⟨.v (.bool (decide ((nextS c s n).1 = n - 1))), []⟩ := by
  have hb := ac_next hc hs hK hn
  obtain ⟨_, hlt⟩ := nextS_ok (c := c) hs h0
  by_cases h : (nextS c s n).1 = n - 1
  · rw [decide_eq_true h]
    refine acg_of (rs := [.tmp 4]) Th_ok (by kernel_rfl) Try.func242 rfl Try.ntmps242 (by rw [Try.results242]) (by kernel_rfl) (by simp) rfl rfl (runC_sound _ _ _ ?_); conv => whnf
    repeat (first | ((first | refine qb rfl rfl ?_ | refine qi (by assumption) rfl rfl ?_ | refine ql rfl ?_ | refine qo rfl rfl ?_ | refine qs rfl rfl ?_ | refine qn rfl rfl ?_); conv => whnf) | (refine r_step (p_callg [0] (hb) rfl rfl (by first | exact ⟨rfl, trivial⟩ | exact ⟨rfl, rfl, trivial⟩ | exact ⟨rfl, rfl, rfl, trivial⟩) rfl rfl (by first | exact trivial | exact ⟨⟨rfl, rfl, rfl⟩, trivial⟩ | exact ⟨⟨rfl, rfl, rfl⟩, ⟨rfl, rfl, rfl⟩, trivial⟩ | exact ⟨⟨rfl, rfl, rfl⟩, ⟨rfl, rfl, rfl⟩, ⟨rfl, rfl, rfl⟩, trivial⟩) rfl rfl rfl (.inl rfl) rfl) rfl rfl (fun e => by first | exact .inl rfl | contradiction | exact .inr (.inl (by kernel_rfl))) ?_; conv => whnf))
    exact r_ret1s rfl rfl
  · rw [decide_eq_false h]
    refine acg_of (rs := [.tmp 4]) Th_ok (by kernel_rfl) Try.func242 rfl Try.ntmps242 (by rw [Try.results242]) (by kernel_rfl) (by simp) rfl rfl (runC_sound _ _ _ ?_); conv => whnf
    repeat (first | ((first | refine qb rfl rfl ?_ | refine qi (by assumption) rfl rfl ?_ | refine ql rfl ?_ | refine qo rfl rfl ?_ | refine qs rfl rfl ?_ | refine qn rfl rfl ?_); conv => whnf) | (refine r_step (p_callg [0] (hb) rfl rfl (by first | exact ⟨rfl, trivial⟩ | exact ⟨rfl, rfl, trivial⟩ | exact ⟨rfl, rfl, rfl, trivial⟩) rfl rfl (by first | exact trivial | exact ⟨⟨rfl, rfl, rfl⟩, trivial⟩ | exact ⟨⟨rfl, rfl, rfl⟩, ⟨rfl, rfl, rfl⟩, trivial⟩ | exact ⟨⟨rfl, rfl, rfl⟩, ⟨rfl, rfl, rfl⟩, ⟨rfl, rfl, rfl⟩, trivial⟩) rfl rfl rfl (.inl rfl) rfl) rfl rfl (fun e => by first | exact .inl rfl | contradiction | exact .inr (.inl (by kernel_rfl))) ?_; conv => whnf))
    exact r_ret1s rfl rfl
def pickS (c : List UInt8) (s : Src) (l : List ByteArray) : ByteArray × Src := (l.getD (nextS c s l.length).1 ByteArray.empty, (nextS c s l.length).2)
theorem ac_pick {c : List UInt8} {s : Src} {K : Nat} {l : List ByteArray} (hc : c.length ≤ maxLen) (hs : s.ok K) (hK : K ≤ 1000000000) (hn : l.length ≤ 256) (h0 : 0 < l.length) : ACG Try.prog 252 [.optr 0 0 [] 0, .own 1000000] [srcO c s, strO l] [srcO c (pickS c s l).2, strO l] ⟨.v (.string (pickS c s l).1), []⟩ := by
  obtain ⟨_, hlt⟩ := nextS_ok (c := c) hs h0
  have hb := ac_next (n := l.length) hc hs hK hn
  have hg : (l.map strA)[(nextS c s l.length).1]? = some (.v (.string (pickS c s l).1)) := by simp [pickS, strA, hlt]
  refine acg_of (rs := [.tmp 4]) Th_ok (by kernel_rfl) Try.func252 rfl Try.ntmps252 (by rw [Try.results252]) (by kernel_rfl) (by simp) rfl rfl (runC_sound _ _ _ ?_); conv => whnf
  repeat (first | ((first | refine qb rfl rfl ?_ | refine qi (by assumption) rfl rfl ?_ | refine ql rfl ?_ | refine qo rfl rfl ?_ | refine qs rfl rfl ?_ | refine qn rfl rfl ?_); conv => whnf) | (refine r_step (p_callg [0] (hb) rfl rfl (by first | exact ⟨rfl, trivial⟩ | exact ⟨rfl, rfl, trivial⟩ | exact ⟨rfl, rfl, rfl, trivial⟩) rfl rfl (by first | exact trivial | exact ⟨⟨rfl, rfl, rfl⟩, trivial⟩ | exact ⟨⟨rfl, rfl, rfl⟩, ⟨rfl, rfl, rfl⟩, trivial⟩ | exact ⟨⟨rfl, rfl, rfl⟩, ⟨rfl, rfl, rfl⟩, ⟨rfl, rfl, rfl⟩, trivial⟩) rfl rfl rfl (.inl rfl) rfl) rfl rfl (fun e => by first | exact .inl rfl | contradiction | exact .inr (.inl (by kernel_rfl))) ?_; conv => whnf) | (refine o_put (p_oidx (by simpa using hlt) rfl rfl rfl rfl rfl) rfl rfl ?_; refine r_put (p_old rfl rfl hg rfl rfl rfl rfl) rfl rfl ?_; conv => whnf))
  exact r_ret1s2 rfl rfl rfl
def keyS (c : List UInt8) (s : Src) : ByteArray × Src := pickS c s keys8
theorem keyS_ok {c : List UInt8} {s : Src} {K : Nat} (h : s.ok K) : (keyS c s).2.ok (K + 1) ∧ (keyS c s).1 ∈ keys8 := by
  obtain ⟨h1, h2⟩ := nextS_ok (c := c) (n := keys8.length) h (by decide)
  refine ⟨h1, ?_⟩
  have e : (keyS c s).1 = keys8[(nextS c s keys8.length).1] := by simp [keyS, pickS, h2]
  rw [e]; exact List.getElem_mem h2
theorem ac_key {c : List UInt8} {s : Src} {K : Nat} (hc : c.length ≤ maxLen) (hs : s.ok K) (hK : K ≤ 1000000000) : ACG Try.prog 238 [.optr 0 0 [] 0] [srcO c s] [srcO c (keyS c s).2] ⟨.v (.string (keyS c s).1), []⟩ := by
  have hb : ACG Try.prog 252 [.optr 0 0 [] 0, .own 1000000] [srcO c s, strO keys8] [srcO c (keyS c s).2, strO keys8] ⟨.v (.string (keyS c s).1), []⟩ := ac_pick hc hs hK (by decide) (by decide)
  refine acg_of (rs := [.tmp 2]) Th_ok (by kernel_rfl) Try.func238 rfl Try.ntmps238 (by rw [Try.results238]) (by kernel_rfl) (by simp) rfl rfl (runC_sound _ _ _ ?_); conv => whnf
  (refine r_step (p_callg [0,5] (hb) rfl rfl (by first | exact ⟨rfl, trivial⟩ | exact ⟨rfl, rfl, trivial⟩ | exact ⟨rfl, rfl, rfl, trivial⟩) rfl rfl (by first | exact trivial | exact ⟨⟨rfl, rfl, rfl⟩, trivial⟩ | exact ⟨⟨rfl, rfl, rfl⟩, ⟨rfl, rfl, rfl⟩, trivial⟩ | exact ⟨⟨rfl, rfl, rfl⟩, ⟨rfl, rfl, rfl⟩, ⟨rfl, rfl, rfl⟩, trivial⟩) rfl rfl rfl (.inl rfl) rfl) rfl rfl (fun e => by first | exact .inl rfl | contradiction | exact .inr (.inl (by kernel_rfl))) ?_; conv => whnf)
  repeat (((first | refine qb rfl rfl ?_ | refine qi (by assumption) rfl rfl ?_ | refine ql rfl ?_ | refine qo rfl rfl ?_ | refine qs rfl rfl ?_ | refine qn rfl rfl ?_); conv => whnf))
  exact r_ret1s rfl rfl
def entL (c : List UInt8) : Nat → Src → List Ent → List Ent × Src
  | 0, s, m => (m, s)
  | n + 1, s, m => entL c n (nextS c (keyS c s).2 9).2 (putL m (keyS c s).1 (nextS c (keyS c s).2 9).1)
theorem entL_ok {c : List UInt8} : ∀ (n : Nat) (s : Src) (m : List Ent) (K : Nat), s.ok K → Good m → (entL c n s m).2.ok (K + 2 * n) ∧ Good (entL c n s m).1 ∧ (entL c n s m).1.length ≤ m.length + n
  | 0, s, m, K, h, hm => ⟨h, hm, Nat.le_refl _⟩
  | n + 1, s, m, K, h, hm => by
    obtain ⟨h1, h2⟩ := keyS_ok (c := c) h
    obtain ⟨h3, h4⟩ := nextS_ok (c := c) (n := 9) h1 (by omega)
    obtain ⟨a1, a2, a3⟩ := entL_ok (c := c) n _ (putL m (keyS c s).1 (nextS c (keyS c s).2 9).1) (K + 1 + 1) h3 (hm.put h2 (by omega) (by omega))
    have := putL_length m (keyS c s).1 (nextS c (keyS c s).2 9).1
    refine ⟨a1.le (by omega), a2, ?_⟩
    show (entL c n _ _).1.length ≤ _
    omega
def entS (c : List UInt8) (s : Src) : List Ent × Src := entL c (nextS c s 6).1 (nextS c s 6).2 []
theorem entS_ok {c : List UInt8} {s : Src} {K : Nat} (h : s.ok K) : (entS c s).2.ok (K + 11) ∧ Good (entS c s).1 ∧ (entS c s).1.length ≤ 5 := by
  obtain ⟨h1, h2⟩ := nextS_ok (c := c) (n := 6) h (by omega)
  obtain ⟨a1, a2, a3⟩ := entL_ok (c := c) (nextS c s 6).1 _ [] _ h1 Good.nil
  exact ⟨a1.le (by omega), a2, by unfold entS; simp at a3; omega⟩
theorem ac_entries {c : List UInt8} {s : Src} {K : Nat} (hc : c.length ≤ maxLen) (hs : s.ok K) (hK : K ≤ 900000000) : ACG Try.prog 167 [.optr 0 0 [] 0] [srcO c s] [srcO c (entS c s).2] ⟨.own 0, [entO (entS c s).1]⟩ := by
  have hb := ac_next (n := 6) hc hs (by omega) (by omega)
  obtain ⟨n1, n2⟩ := nextS_ok (c := c) (n := 6) hs (by omega)
  refine acg_of (rs := [.tmp 2]) Th_ok (by kernel_rfl) Try.func167 rfl Try.ntmps167 (by rw [Try.results167]) (by kernel_rfl) (by simp) rfl rfl (runC_sound _ _ _ ?_); conv => whnf
  repeat (first | ((first | refine qb rfl rfl ?_ | refine qi (by assumption) rfl rfl ?_ | refine ql rfl ?_ | refine qo rfl rfl ?_ | refine qs rfl rfl ?_ | refine qn rfl rfl ?_); conv => whnf) | (refine r_step (p_callg [0] (hb) rfl rfl (by first | exact ⟨rfl, trivial⟩ | exact ⟨rfl, rfl, trivial⟩ | exact ⟨rfl, rfl, rfl, trivial⟩) rfl rfl (by first | exact trivial | exact ⟨⟨rfl, rfl, rfl⟩, trivial⟩ | exact ⟨⟨rfl, rfl, rfl⟩, ⟨rfl, rfl, rfl⟩, trivial⟩ | exact ⟨⟨rfl, rfl, rfl⟩, ⟨rfl, rfl, rfl⟩, ⟨rfl, rfl, rfl⟩, trivial⟩) rfl rfl rfl (.inl rfl) rfl) rfl rfl (fun e => by first | exact .inl rfl | contradiction | exact .inr (.inl (by kernel_rfl))) ?_; conv => whnf))
  unfold entS
  generalize (nextS c s 6).2 = s1 at n1 ⊢
  generalize hn0 : (nextS c s 6).1 = n0 at n2 ⊢
  refine r_loop (ι := { p : Nat × Src × List Ent // p.2.1.ok (K + 1 + 2 * (5 - p.1)) ∧ p.1 ≤ 5 ∧ Good p.2.2 ∧ p.2.2.length + p.1 ≤ 5 ∧ entL c p.1 p.2.1 p.2.2 = entL c n0 s1 [] }) (fun p => ⟨[(0, .optr 0 0 [] 0), (3, .own 6), (4, .v (.int .i64 (p.1.1 : Int)))], [(0, srcO c p.1.2.1), (6, entO p.1.2.2)]⟩) (fun p => p.1.1) ⟨(n0, s1, []), n1.le (by omega), by omega, Good.nil, by simp; omega, rfl⟩ (by refine ⟨?_, ?_⟩ <;> (repeat (first | trivial | exact ⟨rfl, trivial⟩ | refine ⟨rfl, ?_⟩ | refine ⟨.inl ⟨rfl, rfl⟩, ?_⟩ | refine ⟨.inr ⟨_, _, rfl, rfl, rfl, rfl, rfl⟩, ?_⟩))) ?_
  rintro ⟨⟨n, s2, m⟩, h1, h2, h3, h4, h5⟩
  dsimp only at h1 h2 h3 h4 h5 ⊢
  conv => whnf
  cases n with
  | zero =>
    rw [← h5]
    repeat (((first | refine qb rfl rfl ?_ | refine qi (by assumption) rfl rfl ?_ | refine ql rfl ?_ | refine qo rfl rfl ?_ | refine qs rfl rfl ?_ | refine qn rfl rfl ?_); conv => whnf))
    exact r_own1s rfl rfl rfl
  | succ n =>
    obtain ⟨k1, k2⟩ := keyS_ok (c := c) h1
    obtain ⟨k3, k4⟩ := nextS_ok (c := c) (n := 9) k1 (by omega)
    have hk := ac_key (c := c) hc h1 (by omega)
    have hx := ac_next (n := 9) hc k1 (by omega) (by omega)
    have hl := putL_length m (keyS c s2).1 (nextS c (keyS c s2).2 9).1
    have hp := ac_l01Put (es := m) (k := (keyS c s2).1) (v := (nextS c (keyS c s2).2 9).1) (by omega)
    repeat (first | ((first | refine qb rfl rfl ?_ | refine qi (by assumption) rfl rfl ?_ | refine ql rfl ?_ | refine qo rfl rfl ?_ | refine qs rfl rfl ?_ | refine qn rfl rfl ?_); conv => whnf) | (refine r_step (p_callg [0] (hk) rfl rfl (by first | exact ⟨rfl, trivial⟩ | exact ⟨rfl, rfl, trivial⟩ | exact ⟨rfl, rfl, rfl, trivial⟩) rfl rfl (by first | exact trivial | exact ⟨⟨rfl, rfl, rfl⟩, trivial⟩ | exact ⟨⟨rfl, rfl, rfl⟩, ⟨rfl, rfl, rfl⟩, trivial⟩ | exact ⟨⟨rfl, rfl, rfl⟩, ⟨rfl, rfl, rfl⟩, ⟨rfl, rfl, rfl⟩, trivial⟩) rfl rfl rfl (.inl rfl) rfl) rfl rfl (fun e => by first | exact .inl rfl | contradiction | exact .inr (.inl (by kernel_rfl))) ?_; conv => whnf) | (refine r_step (p_callg [0] (hx) rfl rfl (by first | exact ⟨rfl, trivial⟩ | exact ⟨rfl, rfl, trivial⟩ | exact ⟨rfl, rfl, rfl, trivial⟩) rfl rfl (by first | exact trivial | exact ⟨⟨rfl, rfl, rfl⟩, trivial⟩ | exact ⟨⟨rfl, rfl, rfl⟩, ⟨rfl, rfl, rfl⟩, trivial⟩ | exact ⟨⟨rfl, rfl, rfl⟩, ⟨rfl, rfl, rfl⟩, ⟨rfl, rfl, rfl⟩, trivial⟩) rfl rfl rfl (.inl rfl) rfl) rfl rfl (fun e => by first | exact .inl rfl | contradiction | exact .inr (.inl (by kernel_rfl))) ?_; conv => whnf))
    refine qC (hp) rfl ?_
    refine r_step (p_asl 6 rfl rfl rfl) rfl rfl (fun e => by first | exact .inl rfl | contradiction | exact .inr (.inl (by kernel_rfl))) ?_; conv => whnf
    repeat (first | (refine r_put (p_bin (b_sub (c := (n : Int)) (by omega) (by omega) (by omega)) rfl rfl rfl) rfl rfl ?_; conv => whnf) | ((first | refine qb rfl rfl ?_ | refine qi (by assumption) rfl rfl ?_ | refine ql rfl ?_ | refine qo rfl rfl ?_ | refine qs rfl rfl ?_ | refine qn rfl rfl ?_); conv => whnf))
    exact ⟨⟨(n, (nextS c (keyS c s2).2 9).2, putL m (keyS c s2).1 (nextS c (keyS c s2).2 9).1), k3.le (by omega), by omega, h3.put k2 (by omega) (by omega), by simp; omega, h5⟩, by refine ⟨?_, ?_⟩ <;> (repeat (first | trivial | exact ⟨rfl, trivial⟩ | refine ⟨rfl, ?_⟩ | refine ⟨.inl ⟨rfl, rfl⟩, ?_⟩ | refine ⟨.inr ⟨_, _, rfl, rfl, rfl, rfl, rfl⟩, ?_⟩)), by simp⟩
end Go.Proofs.Ytjhimcddgkoghaa.AM
namespace Go.Proofs.Ytjhimcddgkoghaa.AM
open Go Go.RowKit
set_option linter.unusedVariables false
set_option linter.unusedSimpArgs false
set_option maxRecDepth 100000

def idxM : List Int → Int → Nat → Int
  | [], _, _ => -1
  | y :: l, x, k => if x = y then k else idxM l x (k + 1)
theorem idxM_mem : ∀ {l : List Int} {x : Int} {k : Nat}, x ∈ l → 0 ≤ idxM l x k
  | y :: l, x, k, h => by
    unfold idxM
    split
    · omega
    · rename_i hne
      rcases List.mem_cons.1 h with e | e
      · exact absurd e hne
      · exact idxM_mem e
theorem idxM_not : ∀ {l : List Int} {x : Int} {k : Nat}, x ∉ l → idxM l x k = -1
  | [], x, k, h => rfl
  | y :: l, x, k, h => by
    unfold idxM
    rw [List.mem_cons, not_or] at h
    rw [if_neg h.1]; exact idxM_not h.2
theorem idxM_drop {l : List Int} {x : Int} {k : Nat} (h : k < l.length) : idxM (l.drop k) x k = if x = l[k] then (k : Int) else idxM (l.drop (k + 1)) x (k + 1) := by
  rw [List.drop_eq_getElem_cons h, idxM]
attribute [local irreducible] ACode AOps AOps2 RetG RetM Pre ACG
theorem ac_index {l : List Int} {x : Int} (hm : l.length ≤ maxLen) : AC Try.prog 271 [.lst 1 (l.map intA), .v (.int .i64 x)] ⟨.v (.int .i64 (idxM l x 0)), []⟩ := by
  unfold maxLen at hm
  refine r_of Th_ok (by kernel_rfl) Try.func271 rfl Try.ntmps271 Try.results271 (by kernel_rfl) rfl ?_; conv => whnf
  repeat (((first | refine qb rfl rfl ?_ | refine qi (by assumption) rfl rfl ?_ | refine ql rfl ?_ | refine qo rfl rfl ?_ | refine qs rfl rfl ?_ | refine qn rfl rfl ?_); conv => whnf))
  refine r_loop (ι := { k : Nat // k ≤ l.length ∧ idxM (l.drop k) x k = idxM l x 0 }) (fun k => ⟨[(0, .lst 1 (l.map intA)), (1, .v (.int .i64 x)), (7, .v (.int .i64 (l.length : Int))), (8, .v (.int .i64 (k.1 : Int)))], []⟩) (fun k => l.length - k.1) ⟨0, Nat.zero_le _, rfl⟩ (by refine ⟨?_, ?_⟩ <;> (repeat (first | trivial | exact ⟨rfl, trivial⟩ | refine ⟨rfl, ?_⟩ | refine ⟨.inl ⟨rfl, rfl⟩, ?_⟩ | refine ⟨.inr ⟨_, _, rfl, rfl, rfl, rfl, rfl⟩, ?_⟩))) ?_
  rintro ⟨k, hk, hd⟩
  dsimp only at hk hd ⊢
  conv => whnf
  by_cases hlt : k < l.length
  · rw [idxM_drop hlt] at hd
    by_cases he : x = l[k]
    · rw [if_pos he] at hd
      rw [← hd]
      repeat (((first | refine qb rfl rfl ?_ | refine qi (by assumption) rfl rfl ?_ | refine ql rfl ?_ | refine qo rfl rfl ?_ | refine qs rfl rfl ?_ | refine qn rfl rfl ?_); conv => whnf))
      exact r_ret1 rfl trivial
    · rw [if_neg he] at hd
      repeat (((first | refine qb rfl rfl ?_ | refine qi (by assumption) rfl rfl ?_ | refine ql rfl ?_ | refine qo rfl rfl ?_ | refine qs rfl rfl ?_ | refine qn rfl rfl ?_); conv => whnf))
      exact ⟨⟨k + 1, hlt, hd⟩, by refine ⟨?_, ?_⟩ <;> (repeat (first | trivial | exact ⟨rfl, trivial⟩ | refine ⟨rfl, ?_⟩ | refine ⟨.inl ⟨rfl, rfl⟩, ?_⟩ | refine ⟨.inr ⟨_, _, rfl, rfl, rfl, rfl, rfl⟩, ?_⟩)), by simp; omega⟩
  · rw [← hd, List.drop_eq_nil_of_le (by omega)]
    repeat (((first | refine qb rfl rfl ?_ | refine qi (by assumption) rfl rfl ?_ | refine ql rfl ?_ | refine qo rfl rfl ?_ | refine qs rfl rfl ?_ | refine qn rfl rfl ?_); conv => whnf))
    exact r_ret1 rfl trivial
theorem ac_contains_t {l : List Int} {x : Int} (hm : l.length ≤ maxLen) (h : x ∈ l) : AC Try.prog 263 [.lst 1 (l.map intA), .v (.int .i64 x)] ⟨.v (.bool true), []⟩ := by
  have hge := idxM_mem (k := 0) h
  refine r_of Th_ok (by kernel_rfl) Try.func263 rfl Try.ntmps263 Try.results263 (by kernel_rfl) rfl ?_; conv => whnf
  repeat (first | ((first | refine qb rfl rfl ?_ | refine qi (by assumption) rfl rfl ?_ | refine ql rfl ?_ | refine qo rfl rfl ?_ | refine qs rfl rfl ?_ | refine qn rfl rfl ?_); conv => whnf) | (refine qc (ac_index hm) rfl ?_; conv => whnf))
  exact r_ret1 rfl trivial
theorem ac_contains_f {l : List Int} {x : Int} (hm : l.length ≤ maxLen) (h : x ∉ l) : AC Try.prog 263 [.lst 1 (l.map intA), .v (.int .i64 x)] ⟨.v (.bool false), []⟩ := by
  have hge := idxM_not (k := 0) h
  have hac := ac_index (x := x) hm
  rw [hge] at hac
  refine r_of Th_ok (by kernel_rfl) Try.func263 rfl Try.ntmps263 Try.results263 (by kernel_rfl) rfl ?_; conv => whnf
  repeat (first | ((first | refine qb rfl rfl ?_ | refine qi (by assumption) rfl rfl ?_ | refine ql rfl ?_ | refine qo rfl rfl ?_ | refine qs rfl rfl ?_ | refine qn rfl rfl ?_); conv => whnf) | (refine qc (hac) rfl ?_; conv => whnf))
  exact r_ret1 rfl trivial

theorem ac_parentsOK {n : Nat} {ps : List Int} (hn : n ≤ 1048576) (hm : ps.length ≤ maxLen) : AC Try.prog 248 [.lst 1 (ps.map intA), .v (.int .i64 ((n : Int) + 1))] ⟨.v (.bool (parB n ps)), []⟩ := by
  have hm' := hm
  unfold maxLen at hm'
  by_cases h2 : ps.length ≤ 2
  case neg =>
    rw [parB_f (fun h => h2 h.1)]
    refine r_of Th_ok (by kernel_rfl) Try.func248 rfl Try.ntmps248 Try.results248 (by kernel_rfl) rfl ?_; conv => whnf
    by_cases h5 : n = 0
    · repeat (((first | refine qb rfl rfl ?_ | refine qi (by assumption) rfl rfl ?_ | refine ql rfl ?_ | refine qo rfl rfl ?_ | refine qs rfl rfl ?_ | refine qn rfl rfl ?_); conv => whnf))
      exact r_ret1 rfl trivial
    · repeat (((first | refine qb rfl rfl ?_ | refine qi (by assumption) rfl rfl ?_ | refine ql rfl ?_ | refine qo rfl rfl ?_ | refine qs rfl rfl ?_ | refine qn rfl rfl ?_); conv => whnf))
      exact r_ret1 rfl trivial
  by_cases h3 : ps.length = 0 ↔ n = 0
  case neg =>
    rw [parB_f (fun h => h3 h.2.1)]
    by_cases h4 : ps.length = 0
    · have h5 : ¬ n = 0 := fun e => h3 ⟨fun _ => e, fun _ => h4⟩
      refine r_of Th_ok (by kernel_rfl) Try.func248 rfl Try.ntmps248 Try.results248 (by kernel_rfl) rfl ?_; conv => whnf
      repeat (first | ((first | refine qb rfl rfl ?_ | refine qi (by assumption) rfl rfl ?_ | refine ql rfl ?_ | refine qo rfl rfl ?_ | refine qs rfl rfl ?_ | refine qn rfl rfl ?_); conv => whnf) | (refine r_put (p_bin (b_bne Try.underlying4) rfl rfl rfl) rfl rfl ?_; conv => whnf))
      exact r_ret1 rfl trivial
    · have h5 : n = 0 := Classical.byContradiction fun e => h3 ⟨fun q => absurd q h4, fun q => absurd q e⟩
      refine r_of Th_ok (by kernel_rfl) Try.func248 rfl Try.ntmps248 Try.results248 (by kernel_rfl) rfl ?_; conv => whnf
      repeat (first | ((first | refine qb rfl rfl ?_ | refine qi (by assumption) rfl rfl ?_ | refine ql rfl ?_ | refine qo rfl rfl ?_ | refine qs rfl rfl ?_ | refine qn rfl rfl ?_); conv => whnf) | (refine r_put (p_bin (b_bne Try.underlying4) rfl rfl rfl) rfl rfl ?_; conv => whnf))
      exact r_ret1 rfl trivial
  have fin : ∀ k, k ≤ ps.length → ¬ k < ps.length → (∀ i, i < k → parG n ps i) → parB n ps = true := fun k h1 h2' h3' => parB_t ⟨h2, h3, fun i hi => h3' i (by omega)⟩
  have bad : ∀ k, k < ps.length → ¬ parG n ps k → parB n ps = false := fun k h1 h2' => parB_f (fun h => h2' (h.2.2 k h1))
  have loop : ∀ (s : St), s.le ⟨[(0, .lst 1 (ps.map intA)), (1, .v (.int .i64 ((n : Int) + 1))), (20, .lst 1 (ps.map intA)), (21, .v (.int .i64 (ps.length : Int))), (22, .v (.int .i64 0))], []⟩ → True := fun _ _ => trivial
  by_cases h4 : ps.length = 0
  · have h5 : n = 0 := h3.1 h4
    rw [fin 0 (by omega) (by omega) (fun i h => by omega)]
    refine r_of Th_ok (by kernel_rfl) Try.func248 rfl Try.ntmps248 Try.results248 (by kernel_rfl) rfl ?_; conv => whnf
    repeat (first | ((first | refine qb rfl rfl ?_ | refine qi (by assumption) rfl rfl ?_ | refine ql rfl ?_ | refine qo rfl rfl ?_ | refine qs rfl rfl ?_ | refine qn rfl rfl ?_); conv => whnf) | (refine r_put (p_bin (b_bne Try.underlying4) rfl rfl rfl) rfl rfl ?_; conv => whnf))
    refine r_loop (ι := Unit) (fun _ => ⟨[(21, .v (.int .i64 (ps.length : Int))), (22, .v (.int .i64 0))], []⟩) (fun _ => 0) () ⟨trivial, .inl ⟨rfl, rfl⟩, .inl ⟨rfl, rfl⟩, trivial⟩ ?_
    rintro ⟨⟩
    conv => whnf
    repeat (((first | refine qb rfl rfl ?_ | refine qi (by assumption) rfl rfl ?_ | refine ql rfl ?_ | refine qo rfl rfl ?_ | refine qs rfl rfl ?_ | refine qn rfl rfl ?_); conv => whnf))
    exact r_ret1 rfl trivial
  · have h5 : ¬ n = 0 := fun e => h4 (h3.2 e)
    refine r_of Th_ok (by kernel_rfl) Try.func248 rfl Try.ntmps248 Try.results248 (by kernel_rfl) rfl ?_; conv => whnf
    repeat (first | ((first | refine qb rfl rfl ?_ | refine qi (by assumption) rfl rfl ?_ | refine ql rfl ?_ | refine qo rfl rfl ?_ | refine qs rfl rfl ?_ | refine qn rfl rfl ?_); conv => whnf) | (refine r_put (p_bin (b_bne Try.underlying4) rfl rfl rfl) rfl rfl ?_; conv => whnf))
    refine r_loop (ι := { k : Nat // k ≤ ps.length ∧ ∀ i, i < k → parG n ps i }) (fun k => ⟨[(0, .lst 1 (ps.map intA)), (1, .v (.int .i64 ((n : Int) + 1))), (20, .lst 1 (ps.map intA)), (21, .v (.int .i64 (ps.length : Int))), (22, .v (.int .i64 (k.1 : Int)))], []⟩) (fun k => ps.length - k.1) ⟨0, Nat.zero_le _, fun i h => by omega⟩ (by refine ⟨?_, ?_⟩ <;> (repeat (first | trivial | exact ⟨rfl, trivial⟩ | refine ⟨rfl, ?_⟩ | refine ⟨.inl ⟨rfl, rfl⟩, ?_⟩ | refine ⟨.inr ⟨_, _, rfl, rfl, rfl, rfl, rfl⟩, ?_⟩))) ?_
    rintro ⟨k, hk', hg⟩
    dsimp only at hk' hg ⊢
    conv => whnf
    by_cases hlt : k < ps.length
    case neg =>
      rw [fin k hk' hlt hg]
      repeat (((first | refine qb rfl rfl ?_ | refine qi (by assumption) rfl rfl ?_ | refine ql rfl ?_ | refine qo rfl rfl ?_ | refine qs rfl rfl ?_ | refine qn rfl rfl ?_); conv => whnf))
      exact r_ret1 rfl trivial
    have hl : (ps.take k).length ≤ maxLen := by unfold maxLen; simp; omega
    by_cases h1 : ps[k] < 1
    · rw [bad k hlt (fun ⟨_, q1, q2, _⟩ => by omega)]
      repeat (((first | refine qb rfl rfl ?_ | refine qi (by assumption) rfl rfl ?_ | refine ql rfl ?_ | refine qo rfl rfl ?_ | refine qs rfl rfl ?_ | refine qn rfl rfl ?_); conv => whnf))
      exact r_ret1 rfl trivial
    by_cases h6 : ps[k] ≥ (n : Int) + 1
    · rw [bad k hlt (fun ⟨_, q1, q2, _⟩ => by omega)]
      repeat (((first | refine qb rfl rfl ?_ | refine qi (by assumption) rfl rfl ?_ | refine ql rfl ?_ | refine qo rfl rfl ?_ | refine qs rfl rfl ?_ | refine qn rfl rfl ?_); conv => whnf))
      exact r_ret1 rfl trivial
    by_cases h7 : ps[k] ∈ ps.take k
    · rw [bad k hlt (fun ⟨_, _, _, q⟩ => q h7)]
      repeat (first | ((first | refine qb rfl rfl ?_ | refine qi (by assumption) rfl rfl ?_ | refine ql rfl ?_ | refine qo rfl rfl ?_ | refine qs rfl rfl ?_ | refine qn rfl rfl ?_); conv => whnf) | (refine r_put (p_lslm (h := k) (xs := ps) (f := intA) (by omega) rfl rfl rfl) rfl rfl ?_; conv => whnf) | (refine qc (ac_contains_t hl h7) rfl ?_; conv => whnf))
      exact r_ret1 rfl trivial
    · repeat (first | ((first | refine qb rfl rfl ?_ | refine qi (by assumption) rfl rfl ?_ | refine ql rfl ?_ | refine qo rfl rfl ?_ | refine qs rfl rfl ?_ | refine qn rfl rfl ?_); conv => whnf) | (refine r_put (p_lslm (h := k) (xs := ps) (f := intA) (by omega) rfl rfl rfl) rfl rfl ?_; conv => whnf) | (refine qc (ac_contains_f hl h7) rfl ?_; conv => whnf))
      exact ⟨⟨k + 1, hlt, fun i hi => by
        rcases Nat.lt_or_ge i k with h | h
        · exact hg i h
        · have : i = k := by omega
          subst this; exact ⟨hlt, by omega, by omega, h7⟩⟩, by refine ⟨?_, ?_⟩ <;> (repeat (first | trivial | exact ⟨rfl, trivial⟩ | refine ⟨rfl, ?_⟩ | refine ⟨.inl ⟨rfl, rfl⟩, ?_⟩ | refine ⟨.inr ⟨_, _, rfl, rfl, rfl, rfl, rfl⟩, ?_⟩)), by simp; omega⟩
theorem ac_commitOK {n : Nat} {c : Cmt} (hn : n ≤ 1048576) (hm : c.1.length ≤ maxLen) (hm2 : c.2.length ≤ maxLen) (hk : ∀ e ∈ c.2, e.1.size ≤ maxLen) : AC Try.prog 190 [comA c, .v (.int .i64 ((n : Int) + 1))] ⟨.v (.bool (comB n c)), []⟩ := by
  have hp := ac_parentsOK (ps := c.1) hn hm
  unfold comB
  cases hb : parB n c.1 with
  | false =>
    rw [hb] at hp
    rw [Bool.and_false]
    refine r_of Th_ok (by kernel_rfl) Try.func190 rfl Try.ntmps190 Try.results190 (by kernel_rfl) rfl ?_; conv => whnf
    repeat (first | ((first | refine qb rfl rfl ?_ | refine qi (by assumption) rfl rfl ?_ | refine ql rfl ?_ | refine qo rfl rfl ?_ | refine qs rfl rfl ?_ | refine qn rfl rfl ?_); conv => whnf) | (refine qc (hp) rfl ?_; conv => whnf))
    exact r_ret1 rfl trivial
  | true =>
    rw [hb] at hp
    rw [Bool.and_true]
    refine r_of Th_ok (by kernel_rfl) Try.func190 rfl Try.ntmps190 Try.results190 (by kernel_rfl) rfl ?_; conv => whnf
    repeat (first | ((first | refine qb rfl rfl ?_ | refine qi (by assumption) rfl rfl ?_ | refine ql rfl ?_ | refine qo rfl rfl ?_ | refine qs rfl rfl ?_ | refine qn rfl rfl ?_); conv => whnf) | (refine qc (hp) rfl ?_; conv => whnf) | (refine qc (ac_implMapOK hm2 hk) rfl ?_; conv => whnf))
    exact r_ret1 rfl trivial
theorem ac_commitsOK {cs : List Cmt} (hn : cs.length ≤ maxLen) (hc : ∀ c ∈ cs, c.1.length ≤ maxLen ∧ c.2.length ≤ maxLen ∧ ∀ e ∈ c.2, e.1.size ≤ maxLen) : AC Try.prog 189 [.lst 2 (cs.map comA)] ⟨.v (.bool (decide (cs.length ≤ 60) && comsB 0 cs)), []⟩ := by
  have hn' := hn
  unfold maxLen at hn'
  by_cases hin : cs.length ≤ 60
  case neg =>
    have : decide (cs.length ≤ 60) = false := by simpa using hin
    rw [this, Bool.false_and]
    refine r_of Th_ok (by kernel_rfl) Try.func189 rfl Try.ntmps189 Try.results189 (by kernel_rfl) rfl ?_; conv => whnf
    repeat (((first | refine qb rfl rfl ?_ | refine qi (by assumption) rfl rfl ?_ | refine ql rfl ?_ | refine qo rfl rfl ?_ | refine qs rfl rfl ?_ | refine qn rfl rfl ?_); conv => whnf))
    exact r_ret1 rfl trivial
  have : decide (cs.length ≤ 60) = true := by simpa using hin
  rw [this, Bool.true_and]
  refine r_of Th_ok (by kernel_rfl) Try.func189 rfl Try.ntmps189 Try.results189 (by kernel_rfl) rfl ?_; conv => whnf
  repeat (((first | refine qb rfl rfl ?_ | refine qi (by assumption) rfl rfl ?_ | refine ql rfl ?_ | refine qo rfl rfl ?_ | refine qs rfl rfl ?_ | refine qn rfl rfl ?_); conv => whnf))
  refine r_loop (ι := { k : Nat // k ≤ cs.length ∧ comsB k (cs.drop k) = comsB 0 cs }) (fun k => ⟨[(8, .lst 2 (cs.map comA)), (9, .v (.int .i64 (cs.length : Int))), (10, .v (.int .i64 (k.1 : Int)))], []⟩) (fun k => cs.length - k.1) ⟨0, Nat.zero_le _, rfl⟩ (by refine ⟨?_, ?_⟩ <;> (repeat (first | trivial | exact ⟨rfl, trivial⟩ | refine ⟨rfl, ?_⟩ | refine ⟨.inl ⟨rfl, rfl⟩, ?_⟩ | refine ⟨.inr ⟨_, _, rfl, rfl, rfl, rfl, rfl⟩, ?_⟩))) ?_
  rintro ⟨k, hk', hd⟩
  dsimp only at hk' hd ⊢
  conv => whnf
  by_cases hlt : k < cs.length
  case neg =>
    rw [← hd, List.drop_eq_nil_of_le (by omega)]
    repeat (((first | refine qb rfl rfl ?_ | refine qi (by assumption) rfl rfl ?_ | refine ql rfl ?_ | refine qo rfl rfl ?_ | refine qs rfl rfl ?_ | refine qn rfl rfl ?_); conv => whnf))
    exact r_ret1 rfl trivial
  obtain ⟨q1, q2, q3⟩ := hc _ (List.getElem_mem hlt)
  rw [comsB_drop hlt] at hd
  have hac := ac_commitOK (n := k) (c := cs[k]) (by omega) q1 q2 q3
  cases hb : comB k cs[k] with
  | false =>
    rw [hb, Bool.false_and] at hd
    rw [hb] at hac
    rw [← hd]
    repeat (first | ((first | refine qb rfl rfl ?_ | refine qi (by assumption) rfl rfl ?_ | refine ql rfl ?_ | refine qo rfl rfl ?_ | refine qs rfl rfl ?_ | refine qn rfl rfl ?_); conv => whnf) | (refine qc (hac) rfl ?_; conv => whnf) | (refine r_step (p_ostore rfl rfl rfl rfl rfl (by conv => lhs; whnf) rfl) rfl rfl (fun e => by first | exact .inl rfl | contradiction | exact .inr (.inl (by kernel_rfl))) ?_; conv => whnf))
    exact r_ret1 rfl trivial
  | true =>
    rw [hb, Bool.true_and] at hd
    rw [hb] at hac
    repeat (first | ((first | refine qb rfl rfl ?_ | refine qi (by assumption) rfl rfl ?_ | refine ql rfl ?_ | refine qo rfl rfl ?_ | refine qs rfl rfl ?_ | refine qn rfl rfl ?_); conv => whnf) | (refine qc (hac) rfl ?_; conv => whnf) | (refine r_step (p_ostore rfl rfl rfl rfl rfl (by conv => lhs; whnf) rfl) rfl rfl (fun e => by first | exact .inl rfl | contradiction | exact .inr (.inl (by kernel_rfl))) ?_; conv => whnf))
    exact ⟨⟨k + 1, hlt, hd⟩, by refine ⟨?_, ?_⟩ <;> (repeat (first | trivial | exact ⟨rfl, trivial⟩ | refine ⟨rfl, ?_⟩ | refine ⟨.inl ⟨rfl, rfl⟩, ?_⟩ | refine ⟨.inr ⟨_, _, rfl, rfl, rfl, rfl, rfl⟩, ?_⟩)), by simp; omega⟩
theorem ac_iStoreOK {cs : List Cmt} (hn : cs.length ≤ maxLen) (hc : ∀ c ∈ cs, c.1.length ≤ maxLen ∧ c.2.length ≤ maxLen ∧ ∀ e ∈ c.2, e.1.size ≤ maxLen) : AC Try.prog 90 [.lst 2 (cs.map comA)] ⟨.v (.bool (stoB cs)), []⟩ := by
  have hn' := hn
  unfold maxLen at hn'
  unfold stoB
  by_cases h0 : 1 ≤ cs.length
  · have : decide (1 ≤ cs.length ∧ cs.length ≤ 60) = decide (cs.length ≤ 60) := by simp [h0]
    rw [this]
    refine r_of Th_ok (by kernel_rfl) Try.func90 rfl Try.ntmps90 Try.results90 (by kernel_rfl) rfl ?_; conv => whnf
    repeat (first | ((first | refine qb rfl rfl ?_ | refine qi (by assumption) rfl rfl ?_ | refine ql rfl ?_ | refine qo rfl rfl ?_ | refine qs rfl rfl ?_ | refine qn rfl rfl ?_); conv => whnf) | (refine qc (ac_commitsOK hn hc) rfl ?_; conv => whnf))
    exact r_ret1 rfl trivial
  · have : decide (1 ≤ cs.length ∧ cs.length ≤ 60) = false := by simp [h0]
    rw [this, Bool.false_and]
    refine r_of Th_ok (by kernel_rfl) Try.func90 rfl Try.ntmps90 Try.results90 (by kernel_rfl) rfl ?_; conv => whnf
    repeat (((first | refine qb rfl rfl ?_ | refine qi (by assumption) rfl rfl ?_ | refine ql rfl ?_ | refine qo rfl rfl ?_ | refine qs rfl rfl ?_ | refine qn rfl rfl ?_); conv => whnf))
    exact r_ret1 rfl trivial
end Go.Proofs.Ytjhimcddgkoghaa.AM
/- The law of StoreOK, over data. -/
namespace Go.Proofs.Ytjhimcddgkoghaa.AM
open Go Go.RowKit
set_option linter.unusedVariables false
set_option linter.unusedSimpArgs false
set_option maxRecDepth 100000
attribute [local irreducible] ACode AOps AOps2 RetG RetM Pre ACG
def comOK (N : Nat) (cs : List Cmt) : Prop := ∀ c ∈ cs, c.1.length ≤ N ∧ c.2.length ≤ N ∧ ∀ e ∈ c.2, e.1.size ≤ N
theorem comOK.le {N M : Nat} {cs : List Cmt} (h : comOK N cs) (k : N ≤ M) : comOK M cs := fun c hc => ⟨Nat.le_trans (h c hc).1 k, Nat.le_trans (h c hc).2.1 k, fun e he => Nat.le_trans ((h c hc).2.2 e he) k⟩
end Go.Proofs.Ytjhimcddgkoghaa.AM
/- A law's arguments opened: commits. -/
namespace Go.Proofs.Ytjhimcddgkoghaa.AM
open Go Go.RowKit Go.ChangeShapes Go.WideShapes Go.Deep
set_option linter.unusedVariables false
set_option linter.unusedSimpArgs false

section
variable {S : Nat → Prop} {w : World}
theorem rl_intA : ∀ (l : List Int), RL S w (l.map intA) (l.map fun x => .int .i64 x)
  | [] => by simp only [List.map_nil]; exact rl_nil
  | x :: l => by simp only [List.map_cons]; exact rl_cons (c1 := [_]) (ra_v rfl) (rl_intA l)
end
section
variable {H : Type} {enc : TypeId × Value → H} {P : Program} {w : World} {base : Nat} {held : Bool}
theorem open_ints {t e : TypeId} {v : Value} {k : Nat} {y : DataW H × List MemPlace} (ht : P.underlying t = some (.slice e)) (he : P.underlying e = some (.int .i64)) (hC : P.cellsOf e = 1) (h : DataW.trod enc P w base (fun _ => true) held k t [v] = some y) :
    ∃ l : List Int, RA (InW w) w (.lst 1 (l.map intA)) [v] ∧ l.length ≤ maxLen := by
  rcases open_slice ht h with ⟨hcs, _⟩ | ⟨a, len, cap, m, n, D, Pl, hcs, hb, hl, hm, hmm, hx, hi⟩
  · exact ⟨[], by rw [hcs]; exact ra_nil (by omega), Nat.zero_le _⟩
  · rw [hcs]
    simp at hmm
    subst hmm
    rcases Nat.eq_zero_or_pos len with h0 | hpos
    · subst h0
      refine ⟨[], ?_, Nat.zero_le _⟩
      simp only [List.map_nil]
      unfold RA
      exact ⟨_, _, rfl, Nat.zero_le _, hm, by simp, by omega, .inl rfl⟩
    have hall : ∀ i, i < len → ∃ x : Int, w.cell? (a.add i) = some (.int .i64 x) := fun i hil => by
      obtain ⟨cs', hc, ht'⟩ := hi i (by omega)
      rw [hC, Nat.mul_one] at hc
      obtain ⟨_, hcl, hat⟩ := World.cells?_some hc
      obtain ⟨x, hx, _⟩ := DataW.trod_int he ht'
      subst hx
      have := hat 0 (by omega)
      rw [add_zero_] at this
      exact ⟨x, this⟩
    obtain ⟨x0, hx0⟩ := hall 0 hpos
    rw [add_zero_] at hx0
    have hsp := spot_of_cell hx0
    obtain ⟨b, off, sp⟩ := a
    simp at hsp
    subst hsp
    have hadd : ∀ j, (⟨b, off, none⟩ : Addr).add j = ⟨b, off + j, none⟩ := fun j => by unfold Addr.add; split <;> simp_all
    obtain ⟨l, hll, hq⟩ := list_of (α := Int) len (fun i x => w.cell? ⟨b, off + i, none⟩ = some (.int .i64 x)) (fun i hil => by
      obtain ⟨x, hx⟩ := hall i hil
      rw [hadd] at hx; exact ⟨x, hx⟩)
    refine ⟨l, ?_, by omega⟩
    unfold RA
    refine ⟨_, _, by rw [List.length_map, hll], by rw [List.length_map]; omega, hm, all_int l, by omega, .inr ⟨b, off, _, rfl, World.block_lt_of_cell? w _ hx0, rl_intA l, fun j u hu => ?_⟩⟩
    rw [List.getElem?_map] at hu
    obtain ⟨x, hx, rfl⟩ := Option.map_eq_some_iff.1 hu
    obtain ⟨hj, hx⟩ := List.getElem?_eq_some_iff.1 hx
    rw [← hx]; exact hq j hj
end
end Go.Proofs.Ytjhimcddgkoghaa.AM
