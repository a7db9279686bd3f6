/- Texts of the machine over data, folded. -/
import Derived.Test.YtjhimcddgkoghaaKa5
import Derived.Test.YtjhimcddgkoghaaKa8
import Derived.Test.YtjhimcddgkoghaaKa9
/- Chapter 3 over data: edits applied, both sides; an edit found. -/
namespace Go.Proofs.Ytjhimcddgkoghaa.AM
open Go Go.RowKit
set_option linter.unusedVariables false
set_option linter.unusedSimpArgs false
set_option maxRecDepth 100000
attribute [local irreducible] ACode AOps AOps2 RetG RetM Pre ACG
theorem ac_l01Apply {es : List Ent} {xs : List Edt} (hm : es.length + xs.length ≤ 4000) : AC Try.prog 175 [.lst 2 (es.map entA), .lst 3 (xs.map edtA)] ⟨.own 0, [⟨167, 2, (applyL es xs).map entA⟩]⟩ := by
  refine r_of Th_ok (by kernel_rfl) Try.func175 rfl Try.ntmps175 Try.results175 (by kernel_rfl) rfl ?_; conv => whnf
  refine r_step (p_appl (f := entA) (xs := ([] : List Ent)) (ys := es) (by simp; omega) rfl rfl rfl rfl rfl rfl) rfl rfl (fun e => by first | exact .inl rfl | contradiction | exact .inr (.inl (by kernel_rfl))) ?_
  conv => whnf
  refine r_loop (ι := { k : Nat // k ≤ xs.length }) (fun k => ⟨[(0, .own 7), (1, .lst 3 (xs.map edtA)), (5, .v (.int .i64 (k.1 : Int)))], [(7, ⟨167, 2, (applyL es (xs.take k.1)).map entA⟩)]⟩) (fun k => xs.length - k.1) ⟨0, Nat.zero_le _⟩ (by refine ⟨?_, ?_⟩ <;> (repeat (first | trivial | exact ⟨rfl, trivial⟩ | refine ⟨rfl, ?_⟩ | refine ⟨.inl ⟨rfl, rfl⟩, ?_⟩ | refine ⟨.inr ⟨_, _, rfl, rfl, rfl, rfl, rfl⟩, ?_⟩))) ?_
  rintro ⟨k, hk⟩
  dsimp only
  conv => whnf
  have hlL := applyL_length es (xs.take k)
  rw [List.length_take] at hlL
  by_cases hlt : k < xs.length
  · have hg1 := applyL_gone es xs k hlt
    have hg2 := applyL_put es xs k hlt
    cases hg : xs[k].gone with
    | true =>
      repeat (((first | refine qb rfl rfl ?_ | refine qi (by assumption) rfl rfl ?_ | refine ql rfl ?_ | refine qo rfl rfl ?_ | refine qs rfl rfl ?_ | refine qn rfl rfl ?_); conv => whnf))
      rw [hg]
      conv => whnf
      repeat (((first | refine qb rfl rfl ?_ | refine qi (by assumption) rfl rfl ?_ | refine ql rfl ?_ | refine qo rfl rfl ?_ | refine qs rfl rfl ?_ | refine qn rfl rfl ?_); conv => whnf))
      refine qC (ac_l01Remove (es := applyL es (xs.take k)) (k := xs[k].key) (by omega)) rfl ?_
      refine r_step (p_asl 7 rfl rfl rfl) rfl rfl (fun e => by first | exact .inl rfl | contradiction | exact .inr (.inl (by kernel_rfl))) ?_; conv => whnf
      rw [← hg1 hg]
      repeat (((first | refine qb rfl rfl ?_ | refine qi (by assumption) rfl rfl ?_ | refine ql rfl ?_ | refine qo rfl rfl ?_ | refine qs rfl rfl ?_ | refine qn rfl rfl ?_); conv => whnf))
      exact ⟨⟨k + 1, hlt⟩, by refine ⟨?_, ?_⟩ <;> (repeat (first | trivial | exact ⟨rfl, trivial⟩ | refine ⟨rfl, ?_⟩ | refine ⟨.inl ⟨rfl, rfl⟩, ?_⟩ | refine ⟨.inr ⟨_, _, rfl, rfl, rfl, rfl, rfl⟩, ?_⟩)), by simp; omega⟩
    | false =>
      repeat (((first | refine qb rfl rfl ?_ | refine qi (by assumption) rfl rfl ?_ | refine ql rfl ?_ | refine qo rfl rfl ?_ | refine qs rfl rfl ?_ | refine qn rfl rfl ?_); conv => whnf))
      rw [hg]
      conv => whnf
      refine .inl ⟨by kernel_rfl, ?_⟩
      conv => whnf
      repeat (((first | refine qb rfl rfl ?_ | refine qi (by assumption) rfl rfl ?_ | refine ql rfl ?_ | refine qo rfl rfl ?_ | refine qs rfl rfl ?_ | refine qn rfl rfl ?_); conv => whnf))
      refine qC (ac_l01Put (es := applyL es (xs.take k)) (k := xs[k].key) (v := xs[k].val) (by omega)) rfl ?_
      refine r_step (p_asl 7 rfl rfl rfl) rfl rfl (fun e => by first | exact .inl rfl | contradiction | exact .inr (.inl (by kernel_rfl))) ?_; conv => whnf
      rw [← hg2 hg]
      repeat (((first | refine qb rfl rfl ?_ | refine qi (by assumption) rfl rfl ?_ | refine ql rfl ?_ | refine qo rfl rfl ?_ | refine qs rfl rfl ?_ | refine qn rfl rfl ?_); conv => whnf))
      exact ⟨⟨k + 1, hlt⟩, by refine ⟨?_, ?_⟩ <;> (repeat (first | trivial | exact ⟨rfl, trivial⟩ | refine ⟨rfl, ?_⟩ | refine ⟨.inl ⟨rfl, rfl⟩, ?_⟩ | refine ⟨.inr ⟨_, _, rfl, rfl, rfl, rfl, rfl⟩, ?_⟩)), by simp; omega⟩
  · have hkk : k = xs.length := by omega
    subst hkk
    repeat (((first | refine qb rfl rfl ?_ | refine qi (by assumption) rfl rfl ?_ | refine ql rfl ?_ | refine qo rfl rfl ?_ | refine qs rfl rfl ?_ | refine qn rfl rfl ?_); conv => whnf))
    exact r_own1 rfl (by show some (OB.mk _ _ _) = _; rw [List.take_length])
def fndE (es : List Edt) (k : ByteArray) : Option Edt := es.find? fun e => decide (e.key = k)
def zE : Edt := ⟨ByteArray.empty, 0, false⟩
theorem ac_l02Find {es : List Edt} {k : ByteArray} {o : Option Edt} (ho : fndE es k = o) (hm : es.length ≤ 1048576) : AC Try.prog 245 [.lst 3 (es.map edtA), .v (.string k)] ⟨.tup [edtA (o.getD zE), .v (.bool o.isSome)], []⟩ := by
  refine r_of Th_ok (by kernel_rfl) Try.func245 rfl Try.ntmps245 Try.results245 (by kernel_rfl) rfl ?_; conv => whnf
  refine r_loop (ι := { i : Nat // i ≤ es.length ∧ fndE (es.drop i) k = o }) (fun i => ⟨[(0, .lst 3 (es.map edtA)), (1, .v (.string k)), (4, .optr 5 0 [] 0), (6, .v (.int .i64 (i.1 : Int)))], [(5, ⟨117, 3, [edtA zE]⟩)]⟩) (fun i => es.length - i.1) ⟨0, Nat.zero_le _, ho⟩ (by refine ⟨?_, ?_⟩ <;> (repeat (first | trivial | exact ⟨rfl, trivial⟩ | refine ⟨rfl, ?_⟩ | refine ⟨.inl ⟨rfl, rfl⟩, ?_⟩ | refine ⟨.inr ⟨_, _, rfl, rfl, rfl, rfl, rfl⟩, ?_⟩))) ?_
  rintro ⟨i, hi, hf⟩
  dsimp only
  conv => whnf
  by_cases hlt : i < es.length
  · rw [List.drop_eq_getElem_cons hlt, fndE, List.find?_cons] at hf
    by_cases hk : es[i].key = k
    · simp only [hk, decide_true] at hf
      subst hf
      repeat (first | ((first | refine qb rfl rfl ?_ | refine qi (by assumption) rfl rfl ?_ | refine ql rfl ?_ | refine qo rfl rfl ?_ | refine qs rfl rfl ?_ | refine qn rfl rfl ?_); conv => whnf) | (refine r_put (p_bin (b_seq_t hk) rfl rfl rfl) rfl rfl ?_; conv => whnf) | (refine r_step (p_ostore rfl rfl rfl rfl rfl (by conv => lhs; whnf) rfl) rfl rfl (fun e => by first | exact .inl rfl | contradiction | exact .inr (.inl (by kernel_rfl))) ?_; conv => whnf))
      trace_state
      exact r_tupCV rfl rfl rfl rfl trivial rfl
    · simp only [hk, decide_false] at hf
      repeat (first | ((first | refine qb rfl rfl ?_ | refine qi (by assumption) rfl rfl ?_ | refine ql rfl ?_ | refine qo rfl rfl ?_ | refine qs rfl rfl ?_ | refine qn rfl rfl ?_); conv => whnf) | (refine r_put (p_bin (b_seq_f hk) rfl rfl rfl) rfl rfl ?_; conv => whnf))
      exact ⟨⟨i + 1, hlt, hf⟩, by refine ⟨?_, ?_⟩ <;> (repeat (first | trivial | exact ⟨rfl, trivial⟩ | refine ⟨rfl, ?_⟩ | refine ⟨.inl ⟨rfl, rfl⟩, ?_⟩ | refine ⟨.inr ⟨_, _, rfl, rfl, rfl, rfl, rfl⟩, ?_⟩)), by simp; omega⟩
  · have hkk : i = es.length := by omega
    subst hkk
    rw [List.drop_length] at hf
    have hf' : o = none := hf.symm
    subst hf'
    repeat (first | ((first | refine qb rfl rfl ?_ | refine qi (by assumption) rfl rfl ?_ | refine ql rfl ?_ | refine qo rfl rfl ?_ | refine qs rfl rfl ?_ | refine qn rfl rfl ?_); conv => whnf) | (refine r_step (p_ostore rfl rfl rfl rfl rfl (by conv => lhs; whnf) rfl) rfl rfl (fun e => by first | exact .inl rfl | contradiction | exact .inr (.inl (by kernel_rfl))) ?_; conv => whnf))
    exact r_tupCV rfl rfl rfl rfl trivial rfl
end Go.Proofs.Ytjhimcddgkoghaa.AM
/- Chapter 3 over data: the document's merge. -/
namespace Go.Proofs.Ytjhimcddgkoghaa.AM
open Go Go.RowKit
set_option linter.unusedVariables false
set_option linter.unusedSimpArgs false
set_option maxRecDepth 100000
attribute [local irreducible] ACode AOps AOps2 RetG RetM Pre ACG
def isTodo (l : List Edt) (e : Edt) : Bool := (fndE l e.key).isNone
def isClash (l : List Edt) (e : Edt) : Bool := match fndE l e.key with | none => false | some x => decide (x ≠ e)
def todoL (l r : List Edt) : List Edt := r.filter (isTodo l)
def clashL (l r : List Edt) : List ByteArray := keysL (r.filter (isClash l))
theorem todoL_succ (l r : List Edt) (k : Nat) (h : k < r.length) : todoL l (r.take (k + 1)) = if isTodo l r[k] then todoL l (r.take k) ++ [r[k]] else todoL l (r.take k) := by
  unfold todoL
  rw [List.take_succ_eq_append_getElem h, List.filter_append]
  by_cases c : isTodo l r[k] <;> simp [List.filter_cons, c]
theorem clashL_succ (l r : List Edt) (k : Nat) (h : k < r.length) : clashL l (r.take (k + 1)) = if isClash l r[k] then clashL l (r.take k) ++ [r[k].key] else clashL l (r.take k) := by
  unfold clashL
  rw [List.take_succ_eq_append_getElem h, List.filter_append]
  by_cases c : isClash l r[k] <;> simp [List.filter_cons, c, keysL]
theorem todoL_length (l r : List Edt) : (todoL l r).length ≤ r.length := List.length_filter_le _ _
theorem clashL_length (l r : List Edt) : (clashL l r).length ≤ r.length := by unfold clashL; rw [keysL_length]; exact List.length_filter_le _ _
def mrgL (base a b : List Ent) : List Ent := applyL a (todoL (diffM base a) (diffM base b))
def clsL (base a b : List Ent) : List ByteArray := clashL (diffM base a) (diffM base b)
theorem ac_l02Merge {base a b : List Ent} (h0 : base.length ≤ 500) (h1 : a.length ≤ 500) (h2 : b.length ≤ 500) : AC Try.prog 177 [.lst 2 (base.map entA), .lst 2 (a.map entA), .lst 2 (b.map entA)] ⟨.tup [.own 0, .own 1], [⟨167, 2, (mrgL base a b).map entA⟩, ⟨9, 1, (clsL base a b).map strA⟩]⟩ := by
  have d1 := diffM_len base a
  have d2 := diffM_len base b
  unfold mrgL clsL
  refine r_of Th_ok (by kernel_rfl) Try.func177 rfl Try.ntmps177 Try.results177 (by kernel_rfl) rfl ?_; conv => whnf
  repeat (first | ((first | refine qb rfl rfl ?_ | refine qi (by assumption) rfl rfl ?_ | refine ql rfl ?_ | refine qo rfl rfl ?_ | refine qs rfl rfl ?_ | refine qn rfl rfl ?_); conv => whnf) | (refine qc (ac_l01Diff (es := base) (es' := a) (by omega) (by omega)) rfl ?_; conv => whnf) | (refine qc (ac_l01Diff (es := base) (es' := b) (by omega) (by omega)) rfl ?_; conv => whnf))
  generalize diffM base a = L at *
  generalize diffM base b = R at *
  refine r_loop (ι := { k : Nat // k ≤ R.length }) (fun k => ⟨[(1, .lst 2 (a.map entA)), (8, .lst 3 (L.map edtA)), (9, .lst 3 (R.map edtA)), (10, .own 22), (11, .own 23), (12, .v (.int .i64 (k.1 : Int)))], [(22, ⟨9, 1, (clashL L (R.take k.1)).map strA⟩), (23, ⟨117, 3, (todoL L (R.take k.1)).map edtA⟩)]⟩) (fun k => R.length - k.1) ⟨0, Nat.zero_le _⟩ (by refine ⟨?_, ?_⟩ <;> (repeat (first | trivial | exact ⟨rfl, trivial⟩ | refine ⟨rfl, ?_⟩ | refine ⟨.inl ⟨rfl, rfl⟩, ?_⟩ | refine ⟨.inr ⟨_, _, rfl, rfl, rfl, rfl, rfl⟩, ?_⟩))) ?_
  rintro ⟨k, hk⟩
  dsimp only
  conv => whnf
  by_cases hlt : k < R.length
  · have ht := todoL_succ L R k hlt
    have hc := clashL_succ L R k hlt
    have lt := todoL_length L (R.take k)
    have lc := clashL_length L (R.take k)
    rw [List.length_take] at lt lc
    cases hf : fndE L R[k].key with
    | none =>
      have t1 : isTodo L R[k] = true := by unfold isTodo; rw [hf]; rfl
      have c1 : isClash L R[k] = false := by unfold isClash; rw [hf]
      rw [if_pos t1] at ht
      rw [c1, if_neg (by simp)] at hc
      repeat (first | ((first | refine qb rfl rfl ?_ | refine qi (by assumption) rfl rfl ?_ | refine ql rfl ?_ | refine qo rfl rfl ?_ | refine qs rfl rfl ?_ | refine qn rfl rfl ?_); conv => whnf) | (refine qc (ac_l02Find hf (by omega)) rfl ?_; conv => whnf) | (refine r_step (p_ostore rfl rfl rfl rfl rfl (by conv => lhs; whnf) rfl) rfl rfl (fun e => by first | exact .inl rfl | contradiction | exact .inr (.inl (by kernel_rfl))) ?_; conv => whnf) | (refine r_step (p_app1r _ _ ht.symm (by omega) rfl rfl rfl rfl rfl rfl rfl) rfl rfl (fun e => by first | exact .inl rfl | contradiction | exact .inr (.inl (by kernel_rfl))) ?_; conv => whnf))
      rw [← hc]
      exact ⟨⟨k + 1, hlt⟩, by refine ⟨?_, ?_⟩ <;> (repeat (first | trivial | exact ⟨rfl, trivial⟩ | refine ⟨rfl, ?_⟩ | refine ⟨.inl ⟨rfl, rfl⟩, ?_⟩ | refine ⟨.inr ⟨_, _, rfl, rfl, rfl, rfl, rfl⟩, ?_⟩)), by simp; omega⟩
    | some x =>
      have t1 : isTodo L R[k] = false := by unfold isTodo; rw [hf]; rfl
      rw [t1, if_neg (by simp)] at ht
      by_cases hx : x = R[k]
      · have c1 : isClash L R[k] = false := by unfold isClash; rw [hf]; simp [hx]
        rw [c1, if_neg (by simp)] at hc
        have hb := @b_edtne x R[k]
        repeat (first | ((first | refine qb rfl rfl ?_ | refine qi (by assumption) rfl rfl ?_ | refine ql rfl ?_ | refine qo rfl rfl ?_ | refine qs rfl rfl ?_ | refine qn rfl rfl ?_); conv => whnf) | (refine qc (ac_l02Find hf (by omega)) rfl ?_; conv => whnf) | (refine r_step (p_ostore rfl rfl rfl rfl rfl (by conv => lhs; whnf) rfl) rfl rfl (fun e => by first | exact .inl rfl | contradiction | exact .inr (.inl (by kernel_rfl))) ?_; conv => whnf) | (refine .inl ⟨by kernel_rfl, ?_⟩; conv => whnf) | (refine r_put (p_binA (b_edtne (a := x) (b := R[k]) (r := false) (by simp [hx])) rfl rfl rfl) rfl rfl ?_; conv => whnf))
        rw [← ht, ← hc]
        exact ⟨⟨k + 1, hlt⟩, by refine ⟨?_, ?_⟩ <;> (repeat (first | trivial | exact ⟨rfl, trivial⟩ | refine ⟨rfl, ?_⟩ | refine ⟨.inl ⟨rfl, rfl⟩, ?_⟩ | refine ⟨.inr ⟨_, _, rfl, rfl, rfl, rfl, rfl⟩, ?_⟩)), by simp; omega⟩
      · have c1 : isClash L R[k] = true := by unfold isClash; rw [hf]; simp [hx]
        rw [if_pos c1] at hc
        repeat (first | ((first | refine qb rfl rfl ?_ | refine qi (by assumption) rfl rfl ?_ | refine ql rfl ?_ | refine qo rfl rfl ?_ | refine qs rfl rfl ?_ | refine qn rfl rfl ?_); conv => whnf) | (refine qc (ac_l02Find hf (by omega)) rfl ?_; conv => whnf) | (refine r_step (p_ostore rfl rfl rfl rfl rfl (by conv => lhs; whnf) rfl) rfl rfl (fun e => by first | exact .inl rfl | contradiction | exact .inr (.inl (by kernel_rfl))) ?_; conv => whnf) | (refine .inl ⟨by kernel_rfl, ?_⟩; conv => whnf) | (refine r_put (p_binA (b_edtne (a := x) (b := R[k]) (r := true) (by simp [hx])) rfl rfl rfl) rfl rfl ?_; conv => whnf) | (refine r_step (p_app1r _ _ hc.symm (by omega) rfl rfl rfl rfl rfl rfl rfl) rfl rfl (fun e => by first | exact .inl rfl | contradiction | exact .inr (.inl (by kernel_rfl))) ?_; conv => whnf))
        rw [← ht]
        exact ⟨⟨k + 1, hlt⟩, by refine ⟨?_, ?_⟩ <;> (repeat (first | trivial | exact ⟨rfl, trivial⟩ | refine ⟨rfl, ?_⟩ | refine ⟨.inl ⟨rfl, rfl⟩, ?_⟩ | refine ⟨.inr ⟨_, _, rfl, rfl, rfl, rfl, rfl⟩, ?_⟩)), by simp; omega⟩
  · have hkk : k = R.length := by omega
    subst hkk
    rw [List.take_length]
    have lt := todoL_length L R
    repeat (first | ((first | refine qb rfl rfl ?_ | refine qi (by assumption) rfl rfl ?_ | refine ql rfl ?_ | refine qo rfl rfl ?_ | refine qs rfl rfl ?_ | refine qn rfl rfl ?_); conv => whnf) | (refine qc (ac_l01Apply (es := a) (xs := todoL L R) (by omega)) rfl ?_; conv => whnf))
    exact r_tupOO rfl rfl rfl rfl rfl

end Go.Proofs.Ytjhimcddgkoghaa.AM
/- Changes in order: a comparison of maps is in order; the keys on which two lists of changes differ, from either side. -/
namespace Go.Proofs.Ytjhimcddgkoghaa.AM
open Go Go.RowKit
set_option linter.unusedVariables false
def SrtE (es : List Edt) : Prop := es.Pairwise fun a b => klt a.key b.key = true
theorem diffL_lb (k : ByteArray) : ∀ (f : Nat) (a b : List Ent), (∀ x ∈ a, klt k x.1 = true) → (∀ y ∈ b, klt k y.1 = true) → ∀ e ∈ diffL f a b, klt k e.key = true := by
  intro f
  induction f with
  | zero => intro a b _ _ e he; simp [diffL] at he
  | succ f ih =>
    intro a b ha hb e he
    match a, b with
    | [], [] => simp [diffL] at he
    | x :: a, [] =>
      rw [diffL] at he
      rcases List.mem_cons.1 he with rfl | he
      · exact ha x (by simp)
      · exact ih a [] (fun y hy => ha y (by simp [hy])) hb e he
    | [], y :: b =>
      rw [diffL] at he
      rcases List.mem_cons.1 he with rfl | he
      · exact hb y (by simp)
      · exact ih [] b ha (fun z hz => hb z (by simp [hz])) e he
    | x :: a, y :: b =>
      rw [diffL] at he
      have ha' : ∀ z ∈ a, klt k z.1 = true := fun z hz => ha z (by simp [hz])
      have hb' : ∀ z ∈ b, klt k z.1 = true := fun z hz => hb z (by simp [hz])
      split at he
      · rcases List.mem_cons.1 he with rfl | he
        · exact ha x (by simp)
        · exact ih a (y :: b) ha' hb e he
      · split at he
        · rcases List.mem_cons.1 he with rfl | he
          · exact hb y (by simp)
          · exact ih (x :: a) b ha hb' e he
        · rcases List.mem_append.1 he with he | he
          · split at he
            · cases he
            · rcases List.mem_singleton.1 he with rfl
              exact hb y (by simp)
          · exact ih a b ha' hb' e he
theorem srt_diffL : ∀ (f : Nat) (a b : List Ent), Srt a → Srt b → SrtE (diffL f a b) := by
  intro f
  induction f with
  | zero => intro a b _ _; exact List.Pairwise.nil
  | succ f ih =>
    intro a b ha hb
    match a, b with
    | [], [] => exact List.Pairwise.nil
    | x :: a, [] =>
      rw [diffL]
      have h := List.pairwise_cons.1 ha
      exact List.pairwise_cons.2 ⟨diffL_lb _ _ _ _ h.1 (by simp), ih a [] h.2 hb⟩
    | [], y :: b =>
      rw [diffL]
      have h := List.pairwise_cons.1 hb
      exact List.pairwise_cons.2 ⟨diffL_lb _ _ _ _ (by simp) h.1, ih [] b ha h.2⟩
    | x :: a, y :: b =>
      rw [diffL]
      have h := List.pairwise_cons.1 ha
      have h' := List.pairwise_cons.1 hb
      split
      · rename_i hxy
        refine List.pairwise_cons.2 ⟨diffL_lb _ _ _ _ h.1 (fun z hz => ?_), ih a (y :: b) h.2 hb⟩
        rcases List.mem_cons.1 hz with rfl | hz
        · exact hxy
        · exact klt_trans hxy (h'.1 z hz)
      · split
        · rename_i hyx
          refine List.pairwise_cons.2 ⟨diffL_lb _ _ _ _ (fun z hz => ?_) h'.1, ih (x :: a) b ha h'.2⟩
          rcases List.mem_cons.1 hz with rfl | hz
          · exact hyx
          · exact klt_trans hyx (h.1 z hz)
        · rename_i hxy hyx
          have he : x.1 = y.1 := Classical.byContradiction fun hne => by
            have := klt_tri (by simpa using hxy) hne
            exact hyx this
          split
          · exact ih a b h.2 h'.2
          · refine List.pairwise_cons.2 ⟨diffL_lb _ _ _ _ (fun z hz => ?_) h'.1, ih a b h.2 h'.2⟩
            show klt y.1 z.1 = true
            rw [← he]; exact h.1 z hz
theorem srt_diffM {a b : List Ent} (ha : Srt a) (hb : Srt b) : SrtE (diffM a b) := srt_diffL _ _ _ ha hb
theorem klist_ext : ∀ (l1 l2 : List ByteArray), l1.Pairwise (fun a b => klt a b = true) → l2.Pairwise (fun a b => klt a b = true) → (∀ x, x ∈ l1 ↔ x ∈ l2) → l1 = l2
  | [], [], _, _, _ => rfl
  | [], b :: l2, _, _, h => by have := (h b).2 (by simp); cases this
  | a :: l1, [], _, _, h => by have := (h a).1 (by simp); cases this
  | a :: l1, b :: l2, h1, h2, h => by
    obtain ⟨p1, q1⟩ := List.pairwise_cons.1 h1
    obtain ⟨p2, q2⟩ := List.pairwise_cons.1 h2
    have hab : a = b := by
      rcases List.mem_cons.1 ((h a).1 (by simp)) with e | e
      · exact e
      · rcases List.mem_cons.1 ((h b).2 (by simp)) with e' | e'
        · exact e'.symm
        · have := klt_asymm (p2 a e); rw [p1 b e'] at this; cases this
    subst hab
    refine congrArg _ (klist_ext l1 l2 q1 q2 fun x => ⟨fun hx => ?_, fun hx => ?_⟩)
    · rcases List.mem_cons.1 ((h x).1 (by simp [hx])) with rfl | e
      · have := p1 x hx; rw [klt_irrefl] at this; cases this
      · exact e
    · rcases List.mem_cons.1 ((h x).2 (by simp [hx])) with rfl | e
      · have := p2 x hx; rw [klt_irrefl] at this; cases this
      · exact e
theorem fndE_mem {es : List Edt} {k : ByteArray} {x : Edt} (h : fndE es k = some x) : x ∈ es ∧ x.key = k := by
  refine ⟨List.mem_of_find?_eq_some h, ?_⟩
  have := List.find?_some h
  simpa using this
theorem fndE_of {es : List Edt} (hs : SrtE es) {x : Edt} (h : x ∈ es) : fndE es x.key = some x := by
  induction es with
  | nil => cases h
  | cons e es ih =>
    obtain ⟨p, q⟩ := List.pairwise_cons.1 hs
    rcases List.mem_cons.1 h with rfl | h
    · simp [fndE]
    · have hne : ¬ e.key = x.key := klt_ne (p x h)
      rw [fndE, List.find?_cons]
      simp only [hne, decide_false]
      exact ih q h
theorem fndE_none {es : List Edt} {k : ByteArray} (h : fndE es k = none) : ∀ e ∈ es, e.key ≠ k := fun e he hk => by
  have := List.find?_eq_none.1 h e he
  simp [hk] at this
theorem mem_clash {l r : List Edt} (hl : SrtE l) {k : ByteArray} : k ∈ clashL l r ↔ ∃ e ∈ r, ∃ x ∈ l, e.key = k ∧ x.key = k ∧ x ≠ e := by
  unfold clashL keysL
  simp only [List.mem_map, List.mem_filter]
  constructor
  · rintro ⟨e, ⟨he, hc⟩, rfl⟩
    unfold isClash at hc
    split at hc
    · cases hc
    · rename_i x hx
      obtain ⟨h1, h2⟩ := fndE_mem hx
      exact ⟨e, he, x, h1, rfl, h2, by simpa using hc⟩
  · rintro ⟨e, he, x, hx, rfl, hk, hne⟩
    refine ⟨e, ⟨he, ?_⟩, rfl⟩
    unfold isClash
    rw [← hk, fndE_of hl hx]
    simpa using hne
theorem srt_clash {l r : List Edt} (hr : SrtE r) : (clashL l r).Pairwise (fun a b => klt a b = true) := by
  unfold clashL keysL
  rw [List.pairwise_map]
  exact List.Pairwise.filter _ hr
theorem clash_comm {l r : List Edt} (hl : SrtE l) (hr : SrtE r) : clashL l r = clashL r l :=
  klist_ext _ _ (srt_clash hr) (srt_clash hl) fun k => by
    rw [mem_clash hl, mem_clash hr]
    constructor
    · rintro ⟨e, he, x, hx, h1, h2, h3⟩; exact ⟨x, hx, e, he, h2, h1, fun h => h3 h.symm⟩
    · rintro ⟨e, he, x, hx, h1, h2, h3⟩; exact ⟨x, hx, e, he, h2, h1, fun h => h3 h.symm⟩
end Go.Proofs.Ytjhimcddgkoghaa.AM
/- Chapter 3 over data: the document's Merge3, MergeEdits, Rebase. -/
namespace Go.Proofs.Ytjhimcddgkoghaa.AM
open Go Go.RowKit
set_option linter.unusedVariables false
set_option linter.unusedSimpArgs false
set_option maxRecDepth 100000
attribute [local irreducible] ACode AOps AOps2 RetG RetM Pre ACG
def toldR (m : List Ent) (c : List ByteArray) : List Ent × List ByteArray × Int :=
  if 0 < c.length then ([], c, 11) else if 12 < m.length then ([], [], 7) else (m, [], 0)
theorem ac_l02Told {m : List Ent} {c : List ByteArray} (h0 : m.length ≤ 4000) (h1 : c.length ≤ 4000) : AC Try.prog 178 [.lst 2 (m.map entA), .lst 1 (c.map strA)] ⟨.tup [.lst 2 ((toldR m c).1.map entA), .lst 1 ((toldR m c).2.1.map strA), .v (.int .i64 (toldR m c).2.2)], []⟩ := by
  unfold toldR
  refine r_of Th_ok (by kernel_rfl) Try.func178 rfl Try.ntmps178 Try.results178 (by kernel_rfl) rfl ?_; conv => whnf
  by_cases hc : 0 < c.length
  · rw [if_pos hc]
    repeat (((first | refine qb rfl rfl ?_ | refine qi (by assumption) rfl rfl ?_ | refine ql rfl ?_ | refine qo rfl rfl ?_ | refine qs rfl rfl ?_ | refine qn rfl rfl ?_); conv => whnf))
    exact r_tup3 (ra_o rfl rfl) (ra_x rfl trivial) (ra_x rfl trivial)
  · rw [if_neg hc]
    by_cases hm : 12 < m.length
    · rw [if_pos hm]
      repeat (((first | refine qb rfl rfl ?_ | refine qi (by assumption) rfl rfl ?_ | refine ql rfl ?_ | refine qo rfl rfl ?_ | refine qs rfl rfl ?_ | refine qn rfl rfl ?_); conv => whnf))
      exact r_tup3 (ra_o rfl rfl) (ra_o rfl rfl) (ra_x rfl trivial)
    · rw [if_neg hm]
      repeat (((first | refine qb rfl rfl ?_ | refine qi (by assumption) rfl rfl ?_ | refine ql rfl ?_ | refine qo rfl rfl ?_ | refine qs rfl rfl ?_ | refine qn rfl rfl ?_); conv => whnf))
      exact r_tup3 (ra_x rfl trivial) (ra_o rfl rfl) (ra_x rfl trivial)
theorem mapOK_le {es : List Ent} (h : mapOK es = true) : es.length ≤ 12 := by
  rcases Nat.lt_or_ge 12 es.length with h' | h'
  · rw [mapOK_long h'] at h; cases h
  · exact h'
theorem mrgL_length (base a b : List Ent) : (mrgL base a b).length ≤ a.length + (base.length + b.length) := by
  have h1 := applyL_length a (todoL (diffM base a) (diffM base b))
  have h2 := todoL_length (diffM base a) (diffM base b)
  have h3 := diffM_len base b
  unfold mrgL; omega
theorem clsL_length (base a b : List Ent) : (clsL base a b).length ≤ base.length + b.length := by
  have h2 := clashL_length (diffM base a) (diffM base b)
  have h3 := diffM_len base b
  unfold clsL; omega
def merge3R (base a b : List Ent) : List Ent × List ByteArray × Int :=
  if 4096 < base.length ∨ 4096 < a.length ∨ 4096 < b.length then ([], [], 2)
  else if mapOK base = true ∧ mapOK a = true ∧ mapOK b = true then toldR (mrgL base a b) (clsL base a b) else ([], [], 1)
theorem ac_sMerge3 {base a b : List Ent} (hm0 : base.length ≤ maxLen) (hm1 : a.length ≤ maxLen) (hm2 : b.length ≤ maxLen) (hk0 : ∀ e ∈ base, e.1.size ≤ maxLen) (hk1 : ∀ e ∈ a, e.1.size ≤ maxLen) (hk2 : ∀ e ∈ b, e.1.size ≤ maxLen) : AC Try.prog 73 [.lst 2 (base.map entA), .lst 2 (a.map entA), .lst 2 (b.map entA)] ⟨.tup [.lst 2 ((merge3R base a b).1.map entA), .lst 1 ((merge3R base a b).2.1.map strA), .v (.int .i64 (merge3R base a b).2.2)], []⟩ := by
  unfold merge3R
  refine r_of Th_ok (by kernel_rfl) Try.func73 rfl Try.ntmps73 Try.results73 (by kernel_rfl) rfl ?_; conv => whnf
  by_cases l0 : 4096 < base.length
  · rw [if_pos (.inl l0)]
    repeat (((first | refine qb rfl rfl ?_ | refine qi (by assumption) rfl rfl ?_ | refine ql rfl ?_ | refine qo rfl rfl ?_ | refine qs rfl rfl ?_ | refine qn rfl rfl ?_); conv => whnf))
    exact r_tup3 (ra_o rfl rfl) (ra_o rfl rfl) (ra_x rfl trivial)
  by_cases l1 : 4096 < a.length
  · rw [if_pos (.inr (.inl l1))]
    repeat (((first | refine qb rfl rfl ?_ | refine qi (by assumption) rfl rfl ?_ | refine ql rfl ?_ | refine qo rfl rfl ?_ | refine qs rfl rfl ?_ | refine qn rfl rfl ?_); conv => whnf))
    exact r_tup3 (ra_o rfl rfl) (ra_o rfl rfl) (ra_x rfl trivial)
  by_cases l2 : 4096 < b.length
  · rw [if_pos (.inr (.inr l2))]
    repeat (((first | refine qb rfl rfl ?_ | refine qi (by assumption) rfl rfl ?_ | refine ql rfl ?_ | refine qo rfl rfl ?_ | refine qs rfl rfl ?_ | refine qn rfl rfl ?_); conv => whnf))
    exact r_tup3 (ra_o rfl rfl) (ra_o rfl rfl) (ra_x rfl trivial)
  rw [if_neg (by omega)]
  cases o0 : mapOK base with
  | false =>
    rw [if_neg (by simp)]
    repeat (first | ((first | refine qb rfl rfl ?_ | refine qi (by assumption) rfl rfl ?_ | refine ql rfl ?_ | refine qo rfl rfl ?_ | refine qs rfl rfl ?_ | refine qn rfl rfl ?_); conv => whnf) | (refine qc (ac_l01OK' o0 hm0 hk0) rfl ?_; conv => whnf))
    exact r_tup3 (ra_o rfl rfl) (ra_o rfl rfl) (ra_x rfl trivial)
  | true =>
    cases o1 : mapOK a with
    | false =>
      rw [if_neg (by simp)]
      repeat (first | ((first | refine qb rfl rfl ?_ | refine qi (by assumption) rfl rfl ?_ | refine ql rfl ?_ | refine qo rfl rfl ?_ | refine qs rfl rfl ?_ | refine qn rfl rfl ?_); conv => whnf) | (refine qc (ac_l01OK' o0 hm0 hk0) rfl ?_; conv => whnf) | (refine qc (ac_l01OK' o1 hm1 hk1) rfl ?_; conv => whnf))
      exact r_tup3 (ra_o rfl rfl) (ra_o rfl rfl) (ra_x rfl trivial)
    | true =>
      cases o2 : mapOK b with
      | false =>
        rw [if_neg (by simp)]
        repeat (first | ((first | refine qb rfl rfl ?_ | refine qi (by assumption) rfl rfl ?_ | refine ql rfl ?_ | refine qo rfl rfl ?_ | refine qs rfl rfl ?_ | refine qn rfl rfl ?_); conv => whnf) | (refine qc (ac_l01OK' o0 hm0 hk0) rfl ?_; conv => whnf) | (refine qc (ac_l01OK' o1 hm1 hk1) rfl ?_; conv => whnf) | (refine qc (ac_l01OK' o2 hm2 hk2) rfl ?_; conv => whnf))
        exact r_tup3 (ra_o rfl rfl) (ra_o rfl rfl) (ra_x rfl trivial)
      | true =>
        rw [if_pos ⟨rfl, rfl, rfl⟩]
        have b0 := mapOK_le o0
        have b1 := mapOK_le o1
        have b2 := mapOK_le o2
        have g1 := mrgL_length base a b
        have g2 := clsL_length base a b
        repeat (first | ((first | refine qb rfl rfl ?_ | refine qi (by assumption) rfl rfl ?_ | refine ql rfl ?_ | refine qo rfl rfl ?_ | refine qs rfl rfl ?_ | refine qn rfl rfl ?_); conv => whnf) | (refine qc (ac_l01OK' o0 hm0 hk0) rfl ?_; conv => whnf) | (refine qc (ac_l01OK' o1 hm1 hk1) rfl ?_; conv => whnf) | (refine qc (ac_l01OK' o2 hm2 hk2) rfl ?_; conv => whnf) | (refine qc (ac_l02Merge (base := base) (a := a) (b := b) (by omega) (by omega) (by omega)) rfl ?_; conv => whnf) | (refine qf (ac_l02Told (m := mrgL base a b) (c := clsL base a b) (by omega) (by omega)) rfl ?_; conv => whnf))
        exact r_tup3 (ra_x rfl trivial) (ra_x rfl trivial) (ra_x rfl trivial)
def rebaseR (base m head : List Ent) : List Edt × List ByteArray × Int :=
  if (merge3R base m head).2.2 = 0 then (diffM head (merge3R base m head).1, [], 0) else ([], (merge3R base m head).2.1, (merge3R base m head).2.2)
theorem toldR_ok {m : List Ent} {c : List ByteArray} (h : (toldR m c).2.2 = 0) : (toldR m c).1.length ≤ 12 ∧ (toldR m c).2.1 = [] := by
  unfold toldR at *
  split
  · rename_i h1; rw [if_pos h1] at h; cases h
  · rename_i h1
    rw [if_neg h1] at h
    split
    · rename_i h2; rw [if_pos h2] at h; cases h
    · rename_i h2; exact ⟨by show m.length ≤ 12; omega, rfl⟩
theorem merge3R_ok {base a b : List Ent} (h : (merge3R base a b).2.2 = 0) : ¬ (4096 < base.length ∨ 4096 < a.length ∨ 4096 < b.length) ∧ (merge3R base a b).1.length ≤ 12 ∧ (merge3R base a b).2.1 = [] ∧ mapOK b = true := by
  unfold merge3R at *
  split
  · rename_i h1; rw [if_pos h1] at h; cases h
  · rename_i h1
    rw [if_neg h1] at h
    split
    · rename_i h2; rw [if_pos h2] at h; exact ⟨h1, (toldR_ok h).1, (toldR_ok h).2, h2.2.2⟩
    · rename_i h2; rw [if_neg h2] at h; cases h
theorem rebaseR_no {base m head : List Ent} (h : ¬ (merge3R base m head).2.2 = 0) : rebaseR base m head = ([], (merge3R base m head).2.1, (merge3R base m head).2.2) := if_neg h
theorem merge3R_long {base a b : List Ent} (h : 4096 < base.length ∨ 4096 < a.length ∨ 4096 < b.length) : merge3R base a b = ([], [], 2) := if_pos h
theorem rebaseR_long {base m head : List Ent} (h : 4096 < base.length ∨ 4096 < m.length ∨ 4096 < head.length) : rebaseR base m head = ([], [], 2) := by
  unfold rebaseR; rw [merge3R_long h]; rfl
theorem ac_sRebase {base a b : List Ent} (hm0 : base.length ≤ maxLen) (hm1 : a.length ≤ maxLen) (hm2 : b.length ≤ maxLen) (hk0 : ∀ e ∈ base, e.1.size ≤ maxLen) (hk1 : ∀ e ∈ a, e.1.size ≤ maxLen) (hk2 : ∀ e ∈ b, e.1.size ≤ maxLen) : AC Try.prog 78 [.lst 2 (base.map entA), .lst 2 (a.map entA), .lst 2 (b.map entA)] ⟨.tup [.lst 3 ((rebaseR base a b).1.map edtA), .lst 1 ((rebaseR base a b).2.1.map strA), .v (.int .i64 (rebaseR base a b).2.2)], []⟩ := by
  refine r_of Th_ok (by kernel_rfl) Try.func78 rfl Try.ntmps78 Try.results78 (by kernel_rfl) rfl ?_; conv => whnf
  by_cases l0 : 4096 < base.length
  · rw [rebaseR_long (.inl l0)]
    repeat (((first | refine qb rfl rfl ?_ | refine qi (by assumption) rfl rfl ?_ | refine ql rfl ?_ | refine qo rfl rfl ?_ | refine qs rfl rfl ?_ | refine qn rfl rfl ?_); conv => whnf))
    exact r_tup3 (ra_o rfl rfl) (ra_o rfl rfl) (ra_x rfl trivial)
  by_cases l1 : 4096 < a.length
  · rw [rebaseR_long (.inr (.inl l1))]
    repeat (((first | refine qb rfl rfl ?_ | refine qi (by assumption) rfl rfl ?_ | refine ql rfl ?_ | refine qo rfl rfl ?_ | refine qs rfl rfl ?_ | refine qn rfl rfl ?_); conv => whnf))
    exact r_tup3 (ra_o rfl rfl) (ra_o rfl rfl) (ra_x rfl trivial)
  by_cases l2 : 4096 < b.length
  · rw [rebaseR_long (.inr (.inr l2))]
    repeat (((first | refine qb rfl rfl ?_ | refine qi (by assumption) rfl rfl ?_ | refine ql rfl ?_ | refine qo rfl rfl ?_ | refine qs rfl rfl ?_ | refine qn rfl rfl ?_); conv => whnf))
    exact r_tup3 (ra_o rfl rfl) (ra_o rfl rfl) (ra_x rfl trivial)
  repeat (first | ((first | refine qb rfl rfl ?_ | refine qi (by assumption) rfl rfl ?_ | refine ql rfl ?_ | refine qo rfl rfl ?_ | refine qs rfl rfl ?_ | refine qn rfl rfl ?_); conv => whnf) | (refine qc (ac_sMerge3 hm0 hm1 hm2 hk0 hk1 hk2) rfl ?_; conv => whnf))
  by_cases hc : (merge3R base a b).2.2 = 0
  · obtain ⟨_, k1, k2, k3⟩ := merge3R_ok hc
    rw [rebaseR, if_pos hc]
    have b2 := mapOK_le k3
    repeat (first | ((first | refine qb rfl rfl ?_ | refine qi (by assumption) rfl rfl ?_ | refine ql rfl ?_ | refine qo rfl rfl ?_ | refine qs rfl rfl ?_ | refine qn rfl rfl ?_); conv => whnf) | (refine qc (ac_l01Diff (es := b) (es' := (merge3R base a b).1) (by omega) (by omega)) rfl ?_; conv => whnf))
    exact r_tup3 (ra_o rfl rfl) (ra_o rfl rfl) (ra_x rfl trivial)
  · rw [rebaseR_no hc]
    repeat (((first | refine qb rfl rfl ?_ | refine qi (by assumption) rfl rfl ?_ | refine ql rfl ?_ | refine qo rfl rfl ?_ | refine qs rfl rfl ?_ | refine qn rfl rfl ?_); conv => whnf))
    exact r_tup3 (ra_o rfl rfl) (ra_x rfl trivial) (ra_x rfl trivial)
theorem ent_131 : ∀ vs w, (callFunc 131 vs).run Try.prog w = .ok (.enter 131 vs) w := ent_of Try.func131 (by kernel_rfl) (by kernel_rfl)
theorem ac_l01Edits {es : List Edt} {b : Bool} (hb : editsOK es = b) (hm : es.length ≤ maxLen) (hk : ∀ e ∈ es, e.key.size ≤ maxLen) : AC Try.prog 131 [.lst 3 (es.map edtA)] ⟨.v (.bool b), []⟩ :=
  hb ▸ ac_val ent_131 rfl fun w S0 vs hS hv => by
    obtain ⟨u, rfl, h1⟩ := rvs1 hv
    obtain ⟨A, c, rfl, _, _, hr⟩ := arg_edts hS h1
    exact l01Edits_any A es.length c es w hr hm hk
theorem editsOK_le {es : List Edt} (h : editsOK es = true) : es.length ≤ 6 := by
  unfold editsOK at h
  simp only [Bool.and_eq_true, decide_eq_true_eq] at h
  exact h.1
def mergeER (base : List Ent) (a b : List Edt) : List Ent × List ByteArray × Int :=
  if 4096 < base.length ∨ 4096 < a.length ∨ 4096 < b.length then ([], [], 2)
  else if mapOK base = true ∧ editsOK a = true ∧ editsOK b = true then toldR (mrgL base (applyL base a) (applyL base b)) (clsL base (applyL base a) (applyL base b)) else ([], [], 1)
theorem ac_sMergeEdits {base : List Ent} {a b : List Edt} (hm0 : base.length ≤ maxLen) (hm1 : a.length ≤ maxLen) (hm2 : b.length ≤ maxLen) (hk0 : ∀ e ∈ base, e.1.size ≤ maxLen) (hk1 : ∀ e ∈ a, e.key.size ≤ maxLen) (hk2 : ∀ e ∈ b, e.key.size ≤ maxLen) : AC Try.prog 77 [.lst 2 (base.map entA), .lst 3 (a.map edtA), .lst 3 (b.map edtA)] ⟨.tup [.lst 2 ((mergeER base a b).1.map entA), .lst 1 ((mergeER base a b).2.1.map strA), .v (.int .i64 (mergeER base a b).2.2)], []⟩ := by
  unfold mergeER
  refine r_of Th_ok (by kernel_rfl) Try.func77 rfl Try.ntmps77 Try.results77 (by kernel_rfl) rfl ?_; conv => whnf
  by_cases l0 : 4096 < base.length
  · rw [if_pos (.inl l0)]
    repeat (((first | refine qb rfl rfl ?_ | refine qi (by assumption) rfl rfl ?_ | refine ql rfl ?_ | refine qo rfl rfl ?_ | refine qs rfl rfl ?_ | refine qn rfl rfl ?_); conv => whnf))
    exact r_tup3 (ra_o rfl rfl) (ra_o rfl rfl) (ra_x rfl trivial)
  by_cases l1 : 4096 < a.length
  · rw [if_pos (.inr (.inl l1))]
    repeat (((first | refine qb rfl rfl ?_ | refine qi (by assumption) rfl rfl ?_ | refine ql rfl ?_ | refine qo rfl rfl ?_ | refine qs rfl rfl ?_ | refine qn rfl rfl ?_); conv => whnf))
    exact r_tup3 (ra_o rfl rfl) (ra_o rfl rfl) (ra_x rfl trivial)
  by_cases l2 : 4096 < b.length
  · rw [if_pos (.inr (.inr l2))]
    repeat (((first | refine qb rfl rfl ?_ | refine qi (by assumption) rfl rfl ?_ | refine ql rfl ?_ | refine qo rfl rfl ?_ | refine qs rfl rfl ?_ | refine qn rfl rfl ?_); conv => whnf))
    exact r_tup3 (ra_o rfl rfl) (ra_o rfl rfl) (ra_x rfl trivial)
  rw [if_neg (by omega)]
  cases o0 : mapOK base with
  | false =>
    rw [if_neg (by simp)]
    repeat (first | ((first | refine qb rfl rfl ?_ | refine qi (by assumption) rfl rfl ?_ | refine ql rfl ?_ | refine qo rfl rfl ?_ | refine qs rfl rfl ?_ | refine qn rfl rfl ?_); conv => whnf) | (refine qc (ac_l01OK' o0 hm0 hk0) rfl ?_; conv => whnf))
    exact r_tup3 (ra_o rfl rfl) (ra_o rfl rfl) (ra_x rfl trivial)
  | true =>
    cases o1 : editsOK a with
    | false =>
      rw [if_neg (by simp)]
      repeat (first | ((first | refine qb rfl rfl ?_ | refine qi (by assumption) rfl rfl ?_ | refine ql rfl ?_ | refine qo rfl rfl ?_ | refine qs rfl rfl ?_ | refine qn rfl rfl ?_); conv => whnf) | (refine qc (ac_l01OK' o0 hm0 hk0) rfl ?_; conv => whnf) | (refine qc (ac_l01Edits o1 hm1 hk1) rfl ?_; conv => whnf))
      exact r_tup3 (ra_o rfl rfl) (ra_o rfl rfl) (ra_x rfl trivial)
    | true =>
      cases o2 : editsOK b with
      | false =>
        rw [if_neg (by simp)]
        repeat (first | ((first | refine qb rfl rfl ?_ | refine qi (by assumption) rfl rfl ?_ | refine ql rfl ?_ | refine qo rfl rfl ?_ | refine qs rfl rfl ?_ | refine qn rfl rfl ?_); conv => whnf) | (refine qc (ac_l01OK' o0 hm0 hk0) rfl ?_; conv => whnf) | (refine qc (ac_l01Edits o1 hm1 hk1) rfl ?_; conv => whnf) | (refine qc (ac_l01Edits o2 hm2 hk2) rfl ?_; conv => whnf))
        exact r_tup3 (ra_o rfl rfl) (ra_o rfl rfl) (ra_x rfl trivial)
      | true =>
        rw [if_pos ⟨rfl, rfl, rfl⟩]
        have b0 := mapOK_le o0
        have b1 := editsOK_le o1
        have b2 := editsOK_le o2
        have c1 := applyL_length base a
        have c2 := applyL_length base b
        have g1 := mrgL_length base (applyL base a) (applyL base b)
        have g2 := clsL_length base (applyL base a) (applyL base b)
        repeat (first | ((first | refine qb rfl rfl ?_ | refine qi (by assumption) rfl rfl ?_ | refine ql rfl ?_ | refine qo rfl rfl ?_ | refine qs rfl rfl ?_ | refine qn rfl rfl ?_); conv => whnf) | (refine qc (ac_l01OK' o0 hm0 hk0) rfl ?_; conv => whnf) | (refine qc (ac_l01Edits o1 hm1 hk1) rfl ?_; conv => whnf) | (refine qc (ac_l01Edits o2 hm2 hk2) rfl ?_; conv => whnf) | (refine qc (ac_l01Apply (es := base) (xs := a) (by omega)) rfl ?_; conv => whnf) | (refine qc (ac_l01Apply (es := base) (xs := b) (by omega)) rfl ?_; conv => whnf) | (refine qc (ac_l02Merge (base := base) (a := applyL base a) (b := applyL base b) (by omega) (by omega) (by omega)) rfl ?_; conv => whnf) | (refine qf (ac_l02Told (m := mrgL base (applyL base a) (applyL base b)) (c := clsL base (applyL base a) (applyL base b)) (by omega) (by omega)) rfl ?_; conv => whnf))
        exact r_tup3 (ra_x rfl trivial) (ra_x rfl trivial) (ra_x rfl trivial)
end Go.Proofs.Ytjhimcddgkoghaa.AM
/- Chapter 3 over data: the program's merge, out of what it does with two lists of changes. -/
namespace Go.Proofs.Ytjhimcddgkoghaa.AM
open Go Go.RowKit
set_option linter.unusedVariables false
set_option linter.unusedSimpArgs false
set_option maxRecDepth 100000
attribute [local irreducible] ACode AOps AOps2 RetG RetM Pre ACG
def CCok : Prop := ∀ l r : List Edt, SrtE l → SrtE r → l.length ≤ 4000 → r.length ≤ 4000 → AC Try.prog 244 [.lst 3 (l.map edtA), .lst 3 (r.map edtA)] ⟨.tup [.own 0, .own 1], [⟨117, 3, (todoL l r).map edtA⟩, ⟨9, 1, (clashL l r).map strA⟩]⟩
theorem ac_edited {es : List Ent} {xs : List Edt} (hs : Srt es) (hm : es.length + xs.length ≤ 4000) : AC Try.prog 171 [.lst 2 (es.map entA), .lst 3 (xs.map edtA)] ⟨.own 0, [⟨167, 2, (applyL es xs).map entA⟩]⟩ := by
  have h0 : ((es.drop 0).take (es.length - 0)).map entA = (applyL es (xs.take 0)).map entA := by
    show _ = es.map entA
    rw [List.drop_zero, Nat.sub_zero, List.take_length]
  refine r_of Th_ok (by kernel_rfl) Try.func171 rfl Try.ntmps171 Try.results171 (by kernel_rfl) rfl ?_; conv => whnf
  repeat (first | ((first | refine qb rfl rfl ?_ | refine qi (by assumption) rfl rfl ?_ | refine ql rfl ?_ | refine qo rfl rfl ?_ | refine qs rfl rfl ?_ | refine qn rfl rfl ?_); conv => whnf) | (refine qc (ac_part (es := es) (a := 0) (b := es.length) (by omega) (by omega) (by omega)) rfl ?_; conv => whnf))
  refine r_loop (ι := { k : Nat // k ≤ xs.length }) (fun k => ⟨[(5, .own 12), (12, .lst 3 (xs.map edtA)), (13, .v (.int .i64 (xs.length : Int))), (14, .v (.int .i64 (k.1 : Int)))], [(12, ⟨167, 2, (applyL es (xs.take k.1)).map entA⟩)]⟩) (fun k => xs.length - k.1) ⟨0, Nat.zero_le _⟩ ⟨⟨congrArg (fun x => some (OB.mk _ _ x)) h0, trivial⟩, .inl ⟨rfl, rfl⟩, .inl ⟨rfl, rfl⟩, .inl ⟨rfl, rfl⟩, .inl ⟨rfl, rfl⟩, trivial⟩ ?_
  rintro ⟨k, hk⟩
  dsimp only
  conv => whnf
  have hlL := applyL_length es (xs.take k)
  have hsrt := srt_applyL hs (xs.take k)
  rw [List.length_take] at hlL
  by_cases hlt : k < xs.length
  · have hg1 := applyL_gone es xs k hlt
    have hg2 := applyL_put es xs k hlt
    repeat (first | ((first | refine qb rfl rfl ?_ | refine qi (by assumption) rfl rfl ?_ | refine ql rfl ?_ | refine qo rfl rfl ?_ | refine qs rfl rfl ?_ | refine qn rfl rfl ?_); conv => whnf) | (refine r_step (p_ostore rfl rfl rfl rfl rfl (by conv => lhs; whnf) rfl) rfl rfl (fun e => by first | exact .inl rfl | contradiction | exact .inr (.inl (by kernel_rfl))) ?_; conv => whnf))
    cases hg : xs[k].gone with
    | true =>
      conv => whnf
      refine qC (ac_without (es := applyL es (xs.take k)) (k := xs[k].key) hsrt (by omega)) rfl ?_
      refine r_step (p_asl 12 rfl rfl rfl) rfl rfl (fun e => by first | exact .inl rfl | contradiction | exact .inr (.inl (by kernel_rfl))) ?_; conv => whnf
      rw [← hg1 hg]
      repeat (((first | refine qb rfl rfl ?_ | refine qi (by assumption) rfl rfl ?_ | refine ql rfl ?_ | refine qo rfl rfl ?_ | refine qs rfl rfl ?_ | refine qn rfl rfl ?_); conv => whnf))
      exact ⟨⟨k + 1, hlt⟩, by refine ⟨?_, ?_⟩ <;> (repeat (first | trivial | exact ⟨rfl, trivial⟩ | refine ⟨rfl, ?_⟩ | refine ⟨.inl ⟨rfl, rfl⟩, ?_⟩ | refine ⟨.inr ⟨_, _, rfl, rfl, rfl, rfl, rfl⟩, ?_⟩)), by simp; omega⟩
    | false =>
      conv => whnf
      refine qC (ac_with (es := applyL es (xs.take k)) (k := xs[k].key) (v := xs[k].val) hsrt (by omega)) rfl ?_
      refine r_step (p_asl 12 rfl rfl rfl) rfl rfl (fun e => by first | exact .inl rfl | contradiction | exact .inr (.inl (by kernel_rfl))) ?_; conv => whnf
      rw [← hg2 hg]
      repeat (((first | refine qb rfl rfl ?_ | refine qi (by assumption) rfl rfl ?_ | refine ql rfl ?_ | refine qo rfl rfl ?_ | refine qs rfl rfl ?_ | refine qn rfl rfl ?_); conv => whnf))
      exact ⟨⟨k + 1, hlt⟩, by refine ⟨?_, ?_⟩ <;> (repeat (first | trivial | exact ⟨rfl, trivial⟩ | refine ⟨rfl, ?_⟩ | refine ⟨.inl ⟨rfl, rfl⟩, ?_⟩ | refine ⟨.inr ⟨_, _, rfl, rfl, rfl, rfl, rfl⟩, ?_⟩)), by simp; omega⟩
  · have hkk : k = xs.length := by omega
    subst hkk
    repeat (((first | refine qb rfl rfl ?_ | refine qi (by assumption) rfl rfl ?_ | refine ql rfl ?_ | refine qo rfl rfl ?_ | refine qs rfl rfl ?_ | refine qn rfl rfl ?_); conv => whnf))
    exact r_own1 rfl (by show some (OB.mk _ _ _) = _; rw [List.take_length])
theorem ac_merged (hcc : CCok) {base a b : List Ent} (s0 : Srt base) (s1 : Srt a) (s2 : Srt b) (h0 : base.length ≤ 500) (h1 : a.length ≤ 500) (h2 : b.length ≤ 500) : AC Try.prog 176 [.lst 2 (base.map entA), .lst 2 (a.map entA), .lst 2 (b.map entA)] ⟨.tup [.own 0, .own 1, .v (.int .i64 (toldR (mrgL base a b) (clsL base a b)).2.2)], [⟨167, 2, (toldR (mrgL base a b) (clsL base a b)).1.map entA⟩, ⟨9, 1, (toldR (mrgL base a b) (clsL base a b)).2.1.map strA⟩]⟩ := by
  have d1 := diffM_len base a
  have d2 := diffM_len base b
  have e1 := todoL_length (diffM base a) (diffM base b)
  have hC := hcc (diffM base a) (diffM base b) (srt_diffM s0 s1) (srt_diffM s0 s2) (by omega) (by omega)
  have hE := ac_edited (es := a) (xs := todoL (diffM base a) (diffM base b)) s1 (by omega)
  have hm : mrgL base a b = applyL a (todoL (diffM base a) (diffM base b)) := rfl
  have hc : clsL base a b = clashL (diffM base a) (diffM base b) := rfl
  rw [← hm] at hE
  rw [← hc] at hC
  unfold toldR
  refine r_of Th_ok (by kernel_rfl) Try.func176 rfl Try.ntmps176 Try.results176 (by kernel_rfl) rfl ?_; conv => whnf
  by_cases c0 : 0 < (clsL base a b).length
  · rw [if_pos c0]
    repeat (first | ((first | refine qb rfl rfl ?_ | refine qi (by assumption) rfl rfl ?_ | refine ql rfl ?_ | refine qo rfl rfl ?_ | refine qs rfl rfl ?_ | refine qn rfl rfl ?_); conv => whnf) | (refine qc (ac_differences (es := base) (es' := a) (by omega) (by omega)) rfl ?_; conv => whnf) | (refine qc (ac_differences (es := base) (es' := b) (by omega) (by omega)) rfl ?_; conv => whnf) | (refine qc (hC) rfl ?_; conv => whnf))
    exact r_tupOOV rfl rfl rfl rfl rfl rfl
  · rw [if_neg c0]
    by_cases c1 : 12 < (mrgL base a b).length
    · rw [if_pos c1]
      repeat (first | ((first | refine qb rfl rfl ?_ | refine qi (by assumption) rfl rfl ?_ | refine ql rfl ?_ | refine qo rfl rfl ?_ | refine qs rfl rfl ?_ | refine qn rfl rfl ?_); conv => whnf) | (refine qc (ac_differences (es := base) (es' := a) (by omega) (by omega)) rfl ?_; conv => whnf) | (refine qc (ac_differences (es := base) (es' := b) (by omega) (by omega)) rfl ?_; conv => whnf) | (refine qc (hC) rfl ?_; conv => whnf) | (refine qc (hE) rfl ?_; conv => whnf))
      exact r_tupOOV rfl rfl rfl rfl rfl rfl
    · rw [if_neg c1]
      repeat (first | ((first | refine qb rfl rfl ?_ | refine qi (by assumption) rfl rfl ?_ | refine ql rfl ?_ | refine qo rfl rfl ?_ | refine qs rfl rfl ?_ | refine qn rfl rfl ?_); conv => whnf) | (refine qc (ac_differences (es := base) (es' := a) (by omega) (by omega)) rfl ?_; conv => whnf) | (refine qc (ac_differences (es := base) (es' := b) (by omega) (by omega)) rfl ?_; conv => whnf) | (refine qc (hC) rfl ?_; conv => whnf) | (refine qc (hE) rfl ?_; conv => whnf))
      exact r_tupOOV rfl rfl rfl rfl rfl rfl
theorem ac_iMerge3 (hcc : CCok) {base a b : List Ent} (hm0 : base.length ≤ maxLen) (hm1 : a.length ≤ maxLen) (hm2 : b.length ≤ maxLen) (hk0 : ∀ e ∈ base, e.1.size ≤ maxLen) (hk1 : ∀ e ∈ a, e.1.size ≤ maxLen) (hk2 : ∀ e ∈ b, e.1.size ≤ maxLen) : AC Try.prog 72 [.lst 2 (base.map entA), .lst 2 (a.map entA), .lst 2 (b.map entA)] ⟨.tup [.own 0, .own 1, .v (.int .i64 (merge3R base a b).2.2)], [⟨167, 2, (merge3R base a b).1.map entA⟩, ⟨9, 1, (merge3R base a b).2.1.map strA⟩]⟩ := by
  unfold merge3R
  refine r_of Th_ok (by kernel_rfl) Try.func72 rfl Try.ntmps72 Try.results72 (by kernel_rfl) rfl ?_; conv => whnf
  by_cases l0 : 4096 < base.length
  · rw [if_pos (.inl l0)]
    repeat (((first | refine qb rfl rfl ?_ | refine qi (by assumption) rfl rfl ?_ | refine ql rfl ?_ | refine qo rfl rfl ?_ | refine qs rfl rfl ?_ | refine qn rfl rfl ?_); conv => whnf))
    exact r_tupOOV rfl rfl rfl rfl rfl rfl
  by_cases l1 : 4096 < a.length
  · rw [if_pos (.inr (.inl l1))]
    repeat (((first | refine qb rfl rfl ?_ | refine qi (by assumption) rfl rfl ?_ | refine ql rfl ?_ | refine qo rfl rfl ?_ | refine qs rfl rfl ?_ | refine qn rfl rfl ?_); conv => whnf))
    exact r_tupOOV rfl rfl rfl rfl rfl rfl
  by_cases l2 : 4096 < b.length
  · rw [if_pos (.inr (.inr l2))]
    repeat (((first | refine qb rfl rfl ?_ | refine qi (by assumption) rfl rfl ?_ | refine ql rfl ?_ | refine qo rfl rfl ?_ | refine qs rfl rfl ?_ | refine qn rfl rfl ?_); conv => whnf))
    exact r_tupOOV rfl rfl rfl rfl rfl rfl
  rw [if_neg (by omega)]
  cases o0 : mapOK base with
  | false =>
    rw [if_neg (by simp)]
    repeat (first | ((first | refine qb rfl rfl ?_ | refine qi (by assumption) rfl rfl ?_ | refine ql rfl ?_ | refine qo rfl rfl ?_ | refine qs rfl rfl ?_ | refine qn rfl rfl ?_); conv => whnf) | (refine qc (ac_implMapOK' o0 hm0 hk0) rfl ?_; conv => whnf))
    exact r_tupOOV rfl rfl rfl rfl rfl rfl
  | true =>
    cases o1 : mapOK a with
    | false =>
      rw [if_neg (by simp)]
      repeat (first | ((first | refine qb rfl rfl ?_ | refine qi (by assumption) rfl rfl ?_ | refine ql rfl ?_ | refine qo rfl rfl ?_ | refine qs rfl rfl ?_ | refine qn rfl rfl ?_); conv => whnf) | (refine qc (ac_implMapOK' o0 hm0 hk0) rfl ?_; conv => whnf) | (refine qc (ac_implMapOK' o1 hm1 hk1) rfl ?_; conv => whnf))
      exact r_tupOOV rfl rfl rfl rfl rfl rfl
    | true =>
      cases o2 : mapOK b with
      | false =>
        rw [if_neg (by simp)]
        repeat (first | ((first | refine qb rfl rfl ?_ | refine qi (by assumption) rfl rfl ?_ | refine ql rfl ?_ | refine qo rfl rfl ?_ | refine qs rfl rfl ?_ | refine qn rfl rfl ?_); conv => whnf) | (refine qc (ac_implMapOK' o0 hm0 hk0) rfl ?_; conv => whnf) | (refine qc (ac_implMapOK' o1 hm1 hk1) rfl ?_; conv => whnf) | (refine qc (ac_implMapOK' o2 hm2 hk2) rfl ?_; conv => whnf))
        exact r_tupOOV rfl rfl rfl rfl rfl rfl
      | true =>
        rw [if_pos ⟨rfl, rfl, rfl⟩]
        have b0 := mapOK_le o0
        have b1 := mapOK_le o1
        have b2 := mapOK_le o2
        repeat (first | ((first | refine qb rfl rfl ?_ | refine qi (by assumption) rfl rfl ?_ | refine ql rfl ?_ | refine qo rfl rfl ?_ | refine qs rfl rfl ?_ | refine qn rfl rfl ?_); conv => whnf) | (refine qc (ac_implMapOK' o0 hm0 hk0) rfl ?_; conv => whnf) | (refine qc (ac_implMapOK' o1 hm1 hk1) rfl ?_; conv => whnf) | (refine qc (ac_implMapOK' o2 hm2 hk2) rfl ?_; conv => whnf) | (refine qc (ac_merged hcc (base := base) (a := a) (b := b) (srt_of_mapOK o0) (srt_of_mapOK o1) (srt_of_mapOK o2) (by omega) (by omega) (by omega)) rfl ?_; conv => whnf))
        exact r_tupOOV rfl rfl rfl rfl rfl rfl
theorem ac_iRebase (hcc : CCok) {base a b : List Ent} (hm0 : base.length ≤ maxLen) (hm1 : a.length ≤ maxLen) (hm2 : b.length ≤ maxLen) (hk0 : ∀ e ∈ base, e.1.size ≤ maxLen) (hk1 : ∀ e ∈ a, e.1.size ≤ maxLen) (hk2 : ∀ e ∈ b, e.1.size ≤ maxLen) : AC Try.prog 74 [.lst 2 (base.map entA), .lst 2 (a.map entA), .lst 2 (b.map entA)] ⟨.tup [.own 0, .own 1, .v (.int .i64 (rebaseR base a b).2.2)], [⟨117, 3, (rebaseR base a b).1.map edtA⟩, ⟨9, 1, (rebaseR base a b).2.1.map strA⟩]⟩ := by
  refine r_of Th_ok (by kernel_rfl) Try.func74 rfl Try.ntmps74 Try.results74 (by kernel_rfl) rfl ?_; conv => whnf
  (refine qc (ac_iMerge3 hcc hm0 hm1 hm2 hk0 hk1 hk2) rfl ?_; conv => whnf)
  by_cases hc : (merge3R base a b).2.2 = 0
  · obtain ⟨_, k1, k2, k3⟩ := merge3R_ok hc
    rw [rebaseR, if_pos hc]
    have b2 := mapOK_le k3
    repeat (first | ((first | refine qb rfl rfl ?_ | refine qi (by assumption) rfl rfl ?_ | refine ql rfl ?_ | refine qo rfl rfl ?_ | refine qs rfl rfl ?_ | refine qn rfl rfl ?_); conv => whnf) | (refine qc (ac_differences (es := b) (es' := (merge3R base a b).1) (by omega) (by omega)) rfl ?_; conv => whnf))
    exact r_tupOOV rfl rfl rfl rfl rfl rfl
  · rw [rebaseR_no hc]
    repeat (((first | refine qb rfl rfl ?_ | refine qi (by assumption) rfl rfl ?_ | refine ql rfl ?_ | refine qo rfl rfl ?_ | refine qs rfl rfl ?_ | refine qn rfl rfl ?_); conv => whnf))
    exact r_tupOOV rfl rfl rfl rfl rfl rfl
theorem ent_68 : ∀ vs w, (callFunc 68 vs).run Try.prog w = .ok (.enter 68 vs) w := ent_of Try.func68 (by kernel_rfl) (by kernel_rfl)
theorem ac_implEditsOK {es : List Edt} {b : Bool} (hb : editsOK es = b) (hm : es.length ≤ maxLen) (hk : ∀ e ∈ es, e.key.size ≤ maxLen) : AC Try.prog 68 [.lst 3 (es.map edtA)] ⟨.v (.bool b), []⟩ :=
  hb ▸ ac_val ent_68 rfl fun w S0 vs hS hv => by
    obtain ⟨u, rfl, h1⟩ := rvs1 hv
    obtain ⟨A, c, rfl, _, _, hr⟩ := arg_edts hS h1
    exact implEditsOK_any A es.length c es w hr hm hk
theorem ac_iMergeEdits (hcc : CCok) {base : List Ent} {a b : List Edt} (hm0 : base.length ≤ maxLen) (hm1 : a.length ≤ maxLen) (hm2 : b.length ≤ maxLen) (hk0 : ∀ e ∈ base, e.1.size ≤ maxLen) (hk1 : ∀ e ∈ a, e.key.size ≤ maxLen) (hk2 : ∀ e ∈ b, e.key.size ≤ maxLen) : AC Try.prog 76 [.lst 2 (base.map entA), .lst 3 (a.map edtA), .lst 3 (b.map edtA)] ⟨.tup [.own 0, .own 1, .v (.int .i64 (mergeER base a b).2.2)], [⟨167, 2, (mergeER base a b).1.map entA⟩, ⟨9, 1, (mergeER base a b).2.1.map strA⟩]⟩ := by
  unfold mergeER
  refine r_of Th_ok (by kernel_rfl) Try.func76 rfl Try.ntmps76 Try.results76 (by kernel_rfl) rfl ?_; conv => whnf
  by_cases l0 : 4096 < base.length
  · rw [if_pos (.inl l0)]
    repeat (((first | refine qb rfl rfl ?_ | refine qi (by assumption) rfl rfl ?_ | refine ql rfl ?_ | refine qo rfl rfl ?_ | refine qs rfl rfl ?_ | refine qn rfl rfl ?_); conv => whnf))
    exact r_tupOOV rfl rfl rfl rfl rfl rfl
  by_cases l1 : 4096 < a.length
  · rw [if_pos (.inr (.inl l1))]
    repeat (((first | refine qb rfl rfl ?_ | refine qi (by assumption) rfl rfl ?_ | refine ql rfl ?_ | refine qo rfl rfl ?_ | refine qs rfl rfl ?_ | refine qn rfl rfl ?_); conv => whnf))
    exact r_tupOOV rfl rfl rfl rfl rfl rfl
  by_cases l2 : 4096 < b.length
  · rw [if_pos (.inr (.inr l2))]
    repeat (((first | refine qb rfl rfl ?_ | refine qi (by assumption) rfl rfl ?_ | refine ql rfl ?_ | refine qo rfl rfl ?_ | refine qs rfl rfl ?_ | refine qn rfl rfl ?_); conv => whnf))
    exact r_tupOOV rfl rfl rfl rfl rfl rfl
  rw [if_neg (by omega)]
  cases o0 : mapOK base with
  | false =>
    rw [if_neg (by simp)]
    repeat (first | ((first | refine qb rfl rfl ?_ | refine qi (by assumption) rfl rfl ?_ | refine ql rfl ?_ | refine qo rfl rfl ?_ | refine qs rfl rfl ?_ | refine qn rfl rfl ?_); conv => whnf) | (refine qc (ac_implMapOK' o0 hm0 hk0) rfl ?_; conv => whnf))
    exact r_tupOOV rfl rfl rfl rfl rfl rfl
  | true =>
    cases o1 : editsOK a with
    | false =>
      rw [if_neg (by simp)]
      repeat (first | ((first | refine qb rfl rfl ?_ | refine qi (by assumption) rfl rfl ?_ | refine ql rfl ?_ | refine qo rfl rfl ?_ | refine qs rfl rfl ?_ | refine qn rfl rfl ?_); conv => whnf) | (refine qc (ac_implMapOK' o0 hm0 hk0) rfl ?_; conv => whnf) | (refine qc (ac_implEditsOK o1 hm1 hk1) rfl ?_; conv => whnf))
      exact r_tupOOV rfl rfl rfl rfl rfl rfl
    | true =>
      cases o2 : editsOK b with
      | false =>
        rw [if_neg (by simp)]
        repeat (first | ((first | refine qb rfl rfl ?_ | refine qi (by assumption) rfl rfl ?_ | refine ql rfl ?_ | refine qo rfl rfl ?_ | refine qs rfl rfl ?_ | refine qn rfl rfl ?_); conv => whnf) | (refine qc (ac_implMapOK' o0 hm0 hk0) rfl ?_; conv => whnf) | (refine qc (ac_implEditsOK o1 hm1 hk1) rfl ?_; conv => whnf) | (refine qc (ac_implEditsOK o2 hm2 hk2) rfl ?_; conv => whnf))
        exact r_tupOOV rfl rfl rfl rfl rfl rfl
      | true =>
        rw [if_pos ⟨rfl, rfl, rfl⟩]
        have b0 := mapOK_le o0
        have b1 := editsOK_le o1
        have b2 := editsOK_le o2
        have c1 := applyL_length base a
        have c2 := applyL_length base b
        repeat (first | ((first | refine qb rfl rfl ?_ | refine qi (by assumption) rfl rfl ?_ | refine ql rfl ?_ | refine qo rfl rfl ?_ | refine qs rfl rfl ?_ | refine qn rfl rfl ?_); conv => whnf) | (refine qc (ac_implMapOK' o0 hm0 hk0) rfl ?_; conv => whnf) | (refine qc (ac_implEditsOK o1 hm1 hk1) rfl ?_; conv => whnf) | (refine qc (ac_implEditsOK o2 hm2 hk2) rfl ?_; conv => whnf) | (refine qc (ac_edited (es := base) (xs := a) (srt_of_mapOK o0) (by omega)) rfl ?_; conv => whnf) | (refine qc (ac_edited (es := base) (xs := b) (srt_of_mapOK o0) (by omega)) rfl ?_; conv => whnf) | (refine qc (ac_merged hcc (base := base) (a := applyL base a) (b := applyL base b) (srt_of_mapOK o0) (srt_applyL (srt_of_mapOK o0) a) (srt_applyL (srt_of_mapOK o0) b) (by omega) (by omega) (by omega)) rfl ?_; conv => whnf))
        exact r_tupOOV rfl rfl rfl rfl rfl rfl
end Go.Proofs.Ytjhimcddgkoghaa.AM
/- Chapter 3 over data: bounds of the results. -/
namespace Go.Proofs.Ytjhimcddgkoghaa.AM
open Go Go.RowKit
set_option linter.unusedVariables false
theorem toldR_bd (m : List Ent) {c : List ByteArray} (h : c.length ≤ 100) : (toldR m c).1.length ≤ 12 ∧ (toldR m c).2.1.length ≤ 100 := by
  unfold toldR
  split
  · exact ⟨by simp, h⟩
  · split
    · exact ⟨by simp, by simp⟩
    · rename_i h2; exact ⟨by show m.length ≤ 12; omega, by simp⟩
theorem merge3R_bd (base a b : List Ent) : (merge3R base a b).1.length ≤ 12 ∧ (merge3R base a b).2.1.length ≤ 100 := by
  unfold merge3R
  split
  · exact ⟨by simp, by simp⟩
  · split
    · rename_i h
      have h0 := mapOK_le h.1
      have h1 := mapOK_le h.2.2
      have := clsL_length base a b
      exact toldR_bd _ (by omega)
    · exact ⟨by simp, by simp⟩
theorem mergeER_bd (base : List Ent) (a b : List Edt) : (mergeER base a b).1.length ≤ 12 ∧ (mergeER base a b).2.1.length ≤ 100 := by
  unfold mergeER
  split
  · exact ⟨by simp, by simp⟩
  · split
    · rename_i h
      have h0 := mapOK_le h.1
      have h1 := editsOK_le h.2.2
      have h2 := applyL_length base b
      have := clsL_length base (applyL base a) (applyL base b)
      exact toldR_bd _ (by omega)
    · exact ⟨by simp, by simp⟩
theorem rebaseR_bd (base a b : List Ent) : (rebaseR base a b).1.length ≤ 24 ∧ (rebaseR base a b).2.1.length ≤ 100 := by
  by_cases h : (merge3R base a b).2.2 = 0
  · obtain ⟨_, k1, k2, k3⟩ := merge3R_ok h
    have b2 := mapOK_le k3
    have := diffM_len b (merge3R base a b).1
    rw [rebaseR, if_pos h]
    exact ⟨by show (diffM _ _).length ≤ 24; omega, by simp⟩
  · rw [rebaseR_no h]
    exact ⟨by simp, (merge3R_bd base a b).2⟩
end Go.Proofs.Ytjhimcddgkoghaa.AM
/- The program's comparison of two lists of changes: a map of strings. -/
namespace Go.Proofs.Ytjhimcddgkoghaa.AM
open Go Go.RowKit
set_option linter.unusedVariables false
set_option linter.unusedSimpArgs false
set_option maxRecDepth 100000
attribute [local irreducible] ACode AOps AOps2 RetG RetM Pre ACG
def mapOf (es : List Edt) : List (ByteArray × AV) := es.map fun e => (e.key, edtA e)
theorem mget_mapOf (q : ByteArray) : ∀ es : List Edt, mget (mapOf es) q = (fndE es q).map edtA
  | [] => rfl
  | e :: es => by
    show (if q = e.key then some (edtA e) else mget (mapOf es) q) = _
    rw [fndE, List.find?_cons]
    by_cases h : q = e.key
    · subst h; simp
    · have h' : ¬ e.key = q := fun x => h x.symm
      simp only [if_neg h, h', decide_false]
      exact mget_mapOf q es
theorem mput_new {q : ByteArray} {v : AV} : ∀ {m : List (ByteArray × AV)}, mget m q = none → mput m q v = m ++ [(q, v)]
  | [], _ => rfl
  | (k, y) :: m, h => by
    by_cases hk : q = k
    · simp [mget, hk] at h
    · simp only [mget, if_neg hk] at h
      simp only [mput, if_neg hk, List.cons_append, mput_new h]
theorem mdel_mapOf {q : ByteArray} : ∀ {es : List Edt}, SrtE es → mdel (mapOf es) q = mapOf (es.filter fun e => decide (e.key ≠ q))
  | [], _ => rfl
  | e :: es, h => by
    obtain ⟨p, hq⟩ := List.pairwise_cons.1 h
    show (if q = e.key then mapOf es else (e.key, edtA e) :: mdel (mapOf es) q) = _
    by_cases hk : q = e.key
    · subst hk
      rw [if_pos rfl, List.filter_cons_of_neg (by simp)]
      congr 1
      symm
      rw [List.filter_eq_self]
      intro x hx
      have := klt_ne (p x hx)
      simpa using fun e => this e.symm
    · rw [if_neg hk, List.filter_cons_of_pos (by simpa using fun e => hk e.symm), mdel_mapOf hq]
      rfl
theorem srt_todo {l r : List Edt} (hr : SrtE r) : SrtE (todoL l r) := List.Pairwise.filter _ hr
theorem isTodo_iff {l : List Edt} {e : Edt} : isTodo l e = true ↔ ∀ x ∈ l, x.key ≠ e.key := by
  unfold isTodo
  rw [Option.isNone_iff_eq_none]
  constructor
  · exact fndE_none
  · intro h; rw [fndE, List.find?_eq_none]; intro x hx; simpa using h x hx
theorem todo_step {l r : List Edt} {k : Nat} (hk : k < l.length) : todoL (l.take (k + 1)) r = (todoL (l.take k) r).filter fun e => decide (e.key ≠ l[k].key) := by
  unfold todoL
  rw [List.filter_filter]
  congr 1
  funext e
  rw [Bool.eq_iff_iff, Bool.and_eq_true, isTodo_iff, isTodo_iff, List.take_succ_eq_append_getElem hk]
  simp only [List.mem_append, List.mem_singleton, decide_eq_true_eq]
  constructor
  · intro h; exact ⟨fun e' => h _ (.inr rfl) e'.symm, fun x hx => h x (.inl hx)⟩
  · rintro ⟨h1, h2⟩ x (hx | rfl)
    · exact h2 x hx
    · exact fun e' => h1 e'.symm
theorem srt_notin {l : List Edt} (hl : SrtE l) {k : Nat} (hk : k < l.length) : ∀ x ∈ l.take k, x.key ≠ l[k].key := fun x hx => by
  obtain ⟨i, hi, rfl⟩ := List.mem_iff_getElem.1 hx
  rw [List.length_take] at hi
  rw [List.getElem_take]
  exact klt_ne (List.pairwise_iff_getElem.1 hl i k (by omega) hk (by omega))
theorem fnd_todo {l r : List Edt} (hr : SrtE r) {q : ByteArray} (hq : ∀ x ∈ l, x.key ≠ q) : fndE (todoL l r) q = fndE r q := by
  cases h : fndE r q with
  | none =>
    rw [fndE, List.find?_eq_none]
    intro x hx
    have := fndE_none h x (List.mem_filter.1 hx).1
    simpa using this
  | some x =>
    obtain ⟨h1, h2⟩ := fndE_mem h
    have hm : x ∈ todoL l r := List.mem_filter.2 ⟨h1, isTodo_iff.2 (fun y hy => by rw [h2]; exact hq y hy)⟩
    rw [← h2]; exact fndE_of (srt_todo hr) hm
theorem left_todo {l r : List Edt} (hr : SrtE r) {k : Nat} (hk : k < r.length) : (mget (mapOf (todoL l r)) r[k].key).isSome = isTodo l r[k] := by
  rw [mget_mapOf, Option.isSome_map]
  cases h : isTodo l r[k] with
  | true =>
    have hm : r[k] ∈ todoL l r := List.mem_filter.2 ⟨List.getElem_mem hk, h⟩
    rw [fndE_of (srt_todo hr) hm]; rfl
  | false =>
    cases hf : fndE (todoL l r) r[k].key with
    | none => rfl
    | some x =>
      obtain ⟨h1, h2⟩ := fndE_mem hf
      obtain ⟨h3, h4⟩ := List.mem_filter.1 h1
      have e1 := fndE_of hr h3
      have e2 := fndE_of hr (List.getElem_mem hk)
      rw [h2, e2] at e1
      cases e1
      rw [h] at h4; cases h4
theorem mapOf_snoc {r : List Edt} (hr : SrtE r) {k : Nat} (hk : k < r.length) : mput (mapOf (r.take k)) r[k].key (edtA r[k]) = mapOf (r.take (k + 1)) := by
  rw [mput_new]
  · unfold mapOf; rw [List.take_succ_eq_append_getElem hk, List.map_append]; rfl
  · rw [mget_mapOf]
    have : fndE (r.take k) r[k].key = none := by
      rw [fndE, List.find?_eq_none]; intro x hx; simpa using srt_notin hr hk x hx
    rw [this]; rfl
set_option maxHeartbeats 4000000 in
theorem cc_ok : CCok := by
  intro l r hl hr h1 h2
  rw [clash_comm hl hr]
  refine r_of Th_ok (by kernel_rfl) Try.func244 rfl Try.ntmps244 Try.results244 (by kernel_rfl) rfl ?_; conv => whnf
  repeat (first | ((first | refine qb rfl rfl ?_ | refine qi (by assumption) rfl rfl ?_ | refine ql rfl ?_ | refine qo rfl rfl ?_ | refine qs rfl rfl ?_ | refine qn rfl rfl ?_); conv => whnf) | (refine r_step (p_mkmap rfl rfl rfl) rfl rfl (fun e => by first | exact .inl rfl | contradiction | exact .inr (.inl (by kernel_rfl))) ?_; conv => whnf))
  refine r_loopm (ι := { k : Nat // k ≤ r.length }) (fun k => ⟨[(0, .lst 3 (l.map edtA)), (1, .lst 3 (r.map edtA)), (6, .mapv 22), (22, .lst 3 (r.map edtA)), (23, .v (.int .i64 (r.length : Int))), (24, .v (.int .i64 (k.1 : Int)))], [(22, ⟨291, 1, []⟩)], [(22, mapOf (r.take k.1))]⟩) (fun k => r.length - k.1) ⟨0, Nat.zero_le _⟩ ⟨by refine ⟨?_, ?_⟩ <;> (repeat (first | trivial | exact ⟨rfl, trivial⟩ | refine ⟨rfl, ?_⟩ | refine ⟨.inl ⟨rfl, rfl⟩, ?_⟩ | refine ⟨.inr ⟨_, _, rfl, rfl, rfl, rfl, rfl⟩, ?_⟩)), ⟨rfl, rfl⟩, trivial⟩ ?_
  rintro ⟨k, hk⟩
  dsimp only
  conv => whnf
  by_cases hlt : k < r.length
  · have hs := mapOf_snoc hr hlt
    repeat (first | ((first | refine qb rfl rfl ?_ | refine qi (by assumption) rfl rfl ?_ | refine ql rfl ?_ | refine qo rfl rfl ?_ | refine qs rfl rfl ?_ | refine qn rfl rfl ?_); conv => whnf) | (refine r_step (p_ostore rfl rfl rfl rfl rfl (by conv => lhs; whnf) rfl) rfl rfl (fun e => by first | exact .inl rfl | contradiction | exact .inr (.inl (by kernel_rfl))) ?_; conv => whnf) | (refine r_step (p_mapput (v := edtA r[k]) rfl rfl rfl rfl rfl rfl rfl hs) rfl rfl (fun e => by first | exact .inl rfl | contradiction | exact .inr (.inl (by kernel_rfl))) ?_; conv => whnf))
    exact ⟨⟨k + 1, hlt⟩, ⟨by refine ⟨?_, ?_⟩ <;> (repeat (first | trivial | exact ⟨rfl, trivial⟩ | refine ⟨rfl, ?_⟩ | refine ⟨.inl ⟨rfl, rfl⟩, ?_⟩ | refine ⟨.inr ⟨_, _, rfl, rfl, rfl, rfl, rfl⟩, ?_⟩)), ⟨rfl, rfl⟩, trivial⟩, by simp; omega⟩
  have hkk : k = r.length := by omega
  subst hkk
  rw [List.take_length]
  repeat (((first | refine qb rfl rfl ?_ | refine qi (by assumption) rfl rfl ?_ | refine ql rfl ?_ | refine qo rfl rfl ?_ | refine qs rfl rfl ?_ | refine qn rfl rfl ?_); conv => whnf))
  refine r_loopm (ι := { k : Nat // k ≤ l.length }) (fun k => ⟨[(1, .lst 3 (r.map edtA)), (6, .mapv 22), (9, .own 10), (33, .lst 3 (l.map edtA)), (34, .v (.int .i64 (l.length : Int))), (35, .v (.int .i64 (k.1 : Int)))], [(22, ⟨291, 1, []⟩), (10, ⟨9, 1, (clashL r (l.take k.1)).map strA⟩)], [(22, mapOf (todoL (l.take k.1) r))]⟩) (fun k => l.length - k.1) ⟨0, Nat.zero_le _⟩ ⟨by refine ⟨?_, ?_⟩ <;> (repeat (first | trivial | exact ⟨rfl, trivial⟩ | refine ⟨rfl, ?_⟩ | refine ⟨.inl ⟨rfl, rfl⟩, ?_⟩ | refine ⟨.inr ⟨_, _, rfl, rfl, rfl, rfl, rfl⟩, ?_⟩)), ⟨congrArg (fun x => some (mapOf x)) (show r = todoL (l.take 0) r from (List.filter_eq_self.2 (fun x _ => rfl)).symm), rfl⟩, trivial⟩ ?_
  rintro ⟨k, hk⟩
  dsimp only
  conv => whnf
  by_cases hlt : k < l.length
  · have hfd := fnd_todo hr (srt_notin hl hlt)
    have hdel : mdel (mapOf (todoL (l.take k) r)) l[k].key = mapOf (todoL (l.take (k + 1)) r) := by rw [mdel_mapOf (srt_todo hr), todo_step hlt]
    have hcs := clashL_succ r l k hlt
    have lc := clashL_length r (l.take k)
    rw [List.length_take] at lc
    cases hf : fndE r l[k].key with
    | none =>
      rw [hf] at hfd
      have g1 : mget (mapOf (todoL (l.take k) r)) l[k].key = none := by rw [mget_mapOf, hfd]; rfl
      have c1 : isClash r l[k] = false := by unfold isClash; rw [hf]
      rw [c1, if_neg (by simp)] at hcs
      repeat (first | ((first | refine qb rfl rfl ?_ | refine qi (by assumption) rfl rfl ?_ | refine ql rfl ?_ | refine qo rfl rfl ?_ | refine qs rfl rfl ?_ | refine qn rfl rfl ?_); conv => whnf) | (refine r_put (p_mapget (y := edtA zE) (f := false) rfl rfl rfl rfl (by rw [g1]; rfl) (by rw [g1]; rfl)) rfl rfl ?_; conv => whnf) | (refine r_step (p_mapdel rfl rfl rfl rfl hdel) rfl rfl (fun e => by first | exact .inl rfl | contradiction | exact .inr (.inl (by kernel_rfl))) ?_; conv => whnf) | (refine r_step (p_ostore rfl rfl rfl rfl rfl (by conv => lhs; whnf) rfl) rfl rfl (fun e => by first | exact .inl rfl | contradiction | exact .inr (.inl (by kernel_rfl))) ?_; conv => whnf))
      rw [← hcs]
      exact ⟨⟨k + 1, hlt⟩, ⟨by refine ⟨?_, ?_⟩ <;> (repeat (first | trivial | exact ⟨rfl, trivial⟩ | refine ⟨rfl, ?_⟩ | refine ⟨.inl ⟨rfl, rfl⟩, ?_⟩ | refine ⟨.inr ⟨_, _, rfl, rfl, rfl, rfl, rfl⟩, ?_⟩)), ⟨rfl, rfl⟩, trivial⟩, by simp; omega⟩
    | some x =>
      rw [hf] at hfd
      have g1 : mget (mapOf (todoL (l.take k) r)) l[k].key = some (edtA x) := by rw [mget_mapOf, hfd]; rfl
      by_cases hx : x = l[k]
      · have c1 : isClash r l[k] = false := by unfold isClash; rw [hf]; simp [hx]
        rw [c1, if_neg (by simp)] at hcs
        repeat (first | ((first | refine qb rfl rfl ?_ | refine qi (by assumption) rfl rfl ?_ | refine ql rfl ?_ | refine qo rfl rfl ?_ | refine qs rfl rfl ?_ | refine qn rfl rfl ?_); conv => whnf) | (refine r_put (p_mapget (y := edtA x) (f := true) rfl rfl rfl rfl (by rw [g1]; rfl) (by rw [g1]; rfl)) rfl rfl ?_; conv => whnf) | (refine r_step (p_mapdel rfl rfl rfl rfl hdel) rfl rfl (fun e => by first | exact .inl rfl | contradiction | exact .inr (.inl (by kernel_rfl))) ?_; conv => whnf) | (refine r_step (p_ostore rfl rfl rfl rfl rfl (by conv => lhs; whnf) rfl) rfl rfl (fun e => by first | exact .inl rfl | contradiction | exact .inr (.inl (by kernel_rfl))) ?_; conv => whnf) | (refine r_put (p_binA (b_edtne (a := x) (b := l[k]) (r := false) (by simp [hx])) rfl rfl rfl) rfl rfl ?_; conv => whnf))
        rw [← hcs]
        exact ⟨⟨k + 1, hlt⟩, ⟨by refine ⟨?_, ?_⟩ <;> (repeat (first | trivial | exact ⟨rfl, trivial⟩ | refine ⟨rfl, ?_⟩ | refine ⟨.inl ⟨rfl, rfl⟩, ?_⟩ | refine ⟨.inr ⟨_, _, rfl, rfl, rfl, rfl, rfl⟩, ?_⟩)), ⟨rfl, rfl⟩, trivial⟩, by simp; omega⟩
      · have c1 : isClash r l[k] = true := by unfold isClash; rw [hf]; simp [hx]
        rw [if_pos c1] at hcs
        repeat (first | ((first | refine qb rfl rfl ?_ | refine qi (by assumption) rfl rfl ?_ | refine ql rfl ?_ | refine qo rfl rfl ?_ | refine qs rfl rfl ?_ | refine qn rfl rfl ?_); conv => whnf) | (refine r_put (p_mapget (y := edtA x) (f := true) rfl rfl rfl rfl (by rw [g1]; rfl) (by rw [g1]; rfl)) rfl rfl ?_; conv => whnf) | (refine r_step (p_mapdel rfl rfl rfl rfl hdel) rfl rfl (fun e => by first | exact .inl rfl | contradiction | exact .inr (.inl (by kernel_rfl))) ?_; conv => whnf) | (refine r_step (p_ostore rfl rfl rfl rfl rfl (by conv => lhs; whnf) rfl) rfl rfl (fun e => by first | exact .inl rfl | contradiction | exact .inr (.inl (by kernel_rfl))) ?_; conv => whnf) | (refine r_put (p_binA (b_edtne (a := x) (b := l[k]) (r := true) (by simp [hx])) rfl rfl rfl) rfl rfl ?_; conv => whnf) | (refine r_step (p_app1r _ _ hcs.symm (by omega) rfl rfl rfl rfl rfl rfl rfl) rfl rfl (fun e => by first | exact .inl rfl | contradiction | exact .inr (.inl (by kernel_rfl))) ?_; conv => whnf))
        exact ⟨⟨k + 1, hlt⟩, ⟨by refine ⟨?_, ?_⟩ <;> (repeat (first | trivial | exact ⟨rfl, trivial⟩ | refine ⟨rfl, ?_⟩ | refine ⟨.inl ⟨rfl, rfl⟩, ?_⟩ | refine ⟨.inr ⟨_, _, rfl, rfl, rfl, rfl, rfl⟩, ?_⟩)), ⟨rfl, rfl⟩, trivial⟩, by simp; omega⟩
  have hkk : k = l.length := by omega
  subst hkk
  rw [List.take_length]
  repeat (((first | refine qb rfl rfl ?_ | refine qi (by assumption) rfl rfl ?_ | refine ql rfl ?_ | refine qo rfl rfl ?_ | refine qs rfl rfl ?_ | refine qn rfl rfl ?_); conv => whnf))
  refine r_loopm (ι := { k : Nat // k ≤ r.length }) (fun k => ⟨[(6, .mapv 22), (9, .own 10), (14, .own 15), (61, .lst 3 (r.map edtA)), (62, .v (.int .i64 (r.length : Int))), (63, .v (.int .i64 (k.1 : Int)))], [(22, ⟨291, 1, []⟩), (10, ⟨9, 1, (clashL r l).map strA⟩), (15, ⟨117, 3, (todoL l (r.take k.1)).map edtA⟩)], [(22, mapOf (todoL l r))]⟩) (fun k => r.length - k.1) ⟨0, Nat.zero_le _⟩ ⟨by refine ⟨?_, ?_⟩ <;> (repeat (first | trivial | exact ⟨rfl, trivial⟩ | refine ⟨rfl, ?_⟩ | refine ⟨.inl ⟨rfl, rfl⟩, ?_⟩ | refine ⟨.inr ⟨_, _, rfl, rfl, rfl, rfl, rfl⟩, ?_⟩)), ⟨rfl, rfl⟩, trivial⟩ ?_
  rintro ⟨k, hk⟩
  dsimp only
  conv => whnf
  by_cases hlt : k < r.length
  · have hleft := left_todo (l := l) hr hlt
    have hts := todoL_succ l r k hlt
    have lt := todoL_length l (r.take k)
    rw [List.length_take] at lt
    obtain ⟨y, hy⟩ : ∃ y, (mget (mapOf (todoL l r)) r[k].key).getD (edtA zE) = edtA y := by
      rw [mget_mapOf]
      cases fndE (todoL l r) r[k].key with
      | none => exact ⟨zE, rfl⟩
      | some x => exact ⟨x, rfl⟩
    cases ht : isTodo l r[k] with
    | true =>
      rw [ht] at hleft
      rw [if_pos ht] at hts
      repeat (first | ((first | refine qb rfl rfl ?_ | refine qi (by assumption) rfl rfl ?_ | refine ql rfl ?_ | refine qo rfl rfl ?_ | refine qs rfl rfl ?_ | refine qn rfl rfl ?_); conv => whnf) | (refine r_put (p_mapget (y := edtA y) (f := true) rfl rfl rfl rfl hy hleft) rfl rfl ?_; conv => whnf) | (refine r_step (p_ostore rfl rfl rfl rfl rfl (by conv => lhs; whnf) rfl) rfl rfl (fun e => by first | exact .inl rfl | contradiction | exact .inr (.inl (by kernel_rfl))) ?_; conv => whnf) | (refine r_step (p_app1r _ _ hts.symm (by omega) rfl rfl rfl rfl rfl rfl rfl) rfl rfl (fun e => by first | exact .inl rfl | contradiction | exact .inr (.inl (by kernel_rfl))) ?_; conv => whnf))
      exact ⟨⟨k + 1, hlt⟩, ⟨by refine ⟨?_, ?_⟩ <;> (repeat (first | trivial | exact ⟨rfl, trivial⟩ | refine ⟨rfl, ?_⟩ | refine ⟨.inl ⟨rfl, rfl⟩, ?_⟩ | refine ⟨.inr ⟨_, _, rfl, rfl, rfl, rfl, rfl⟩, ?_⟩)), ⟨rfl, rfl⟩, trivial⟩, by simp; omega⟩
    | false =>
      rw [ht] at hleft
      rw [ht, if_neg (by simp)] at hts
      repeat (first | ((first | refine qb rfl rfl ?_ | refine qi (by assumption) rfl rfl ?_ | refine ql rfl ?_ | refine qo rfl rfl ?_ | refine qs rfl rfl ?_ | refine qn rfl rfl ?_); conv => whnf) | (refine r_put (p_mapget (y := edtA y) (f := false) rfl rfl rfl rfl hy hleft) rfl rfl ?_; conv => whnf) | (refine r_step (p_ostore rfl rfl rfl rfl rfl (by conv => lhs; whnf) rfl) rfl rfl (fun e => by first | exact .inl rfl | contradiction | exact .inr (.inl (by kernel_rfl))) ?_; conv => whnf))
      rw [← hts]
      exact ⟨⟨k + 1, hlt⟩, ⟨by refine ⟨?_, ?_⟩ <;> (repeat (first | trivial | exact ⟨rfl, trivial⟩ | refine ⟨rfl, ?_⟩ | refine ⟨.inl ⟨rfl, rfl⟩, ?_⟩ | refine ⟨.inr ⟨_, _, rfl, rfl, rfl, rfl, rfl⟩, ?_⟩)), ⟨rfl, rfl⟩, trivial⟩, by simp; omega⟩
  have hkk : k = r.length := by omega
  subst hkk
  rw [List.take_length]
  repeat (((first | refine qb rfl rfl ?_ | refine qi (by assumption) rfl rfl ?_ | refine ql rfl ?_ | refine qo rfl rfl ?_ | refine qs rfl rfl ?_ | refine qn rfl rfl ?_); conv => whnf))
  exact r_tupOO rfl rfl rfl rfl rfl
end Go.Proofs.Ytjhimcddgkoghaa.AM
namespace Go.Proofs.Ytjhimcddgkoghaa.AM
open Go Go.RowKit
set_option linter.unusedVariables false
set_option linter.unusedSimpArgs false
set_option maxRecDepth 100000
def nextS (c : List UInt8) (s : Src) (n : Nat) : Nat × Src := if n ≤ 1 then (0, s) else ((byteS c s).1.toNat % n, (byteS c s).2)
theorem nextS_ok {c : List UInt8} {s : Src} {K n : Nat} (h : s.ok K) (hn : 0 < n) : (nextS c s n).2.ok (K + 1) ∧ (nextS c s n).1 < n := by
  obtain ⟨h1, h2, h3⟩ := byteS_ok (c := c) h
  unfold nextS
  split
  · exact ⟨⟨by have := h.1; simp; omega, h.2.1, h.2.2⟩, hn⟩
  · exact ⟨h1, Nat.mod_lt _ hn⟩
theorem Src.ok.le {s : Src} {K L : Nat} (h : s.ok K) (k : K ≤ L) : s.ok L := ⟨Nat.le_trans h.1 k, h.2⟩
abbrev strO (l : List ByteArray) : OB := ⟨9, 1, l.map strA⟩
abbrev entO (l : List Ent) : OB := ⟨167, 2, l.map entA⟩
abbrev edtO (l : List Edt) : OB := ⟨117, 3, l.map edtA⟩
theorem r_ret1s2 {s : St} {Θ : Tab} {r : Nat} {v : Value} {o1 o2 : OB} (h1 : s.sl r = .v v) (h2 : s.hp 0 = some o1) (h3 : s.hp 1000000 = some o2) : RetG Θ [.tmp r] [o1, o2] ⟨.v v, []⟩ .ret s := ⟨⟨h2, h3, trivial⟩, [], by simp, trivial, ⟨trivial, trivial⟩, trivial, ⟨.inl ⟨h1, rfl⟩, trivial⟩⟩
theorem r_own1s {s : St} {t l : Nat} {ob o0 : OB} {Θ : Tab} (h1 : s.sl t = .own l) (ho : s.hp l = some ob) (h0 : s.hp 0 = some o0) (hok : okL l = true := by rfl) (hsh : ob.e.shut = true := by rfl) : RetG Θ [.tmp t] [o0] ⟨.own 0, [ob]⟩ .ret s :=
  ⟨⟨h0, trivial⟩, [l], by simp, ⟨⟨ho, hok, hsh⟩, trivial⟩, ⟨trivial, trivial⟩, trivial, ⟨.inl ⟨h1, rfl⟩, trivial⟩⟩
attribute [local irreducible] ACode AOps AOps2 RetG RetM Pre ACG
theorem ac_next {c : List UInt8} {s : Src} {K n : Nat} (hc : c.length ≤ maxLen) (hs : s.ok K) (hK : K ≤ 1000000000) (hn : n ≤ 256) : ACG Try.prog 236 [.optr 0 0 [] 0, .v (.int .i64 (n : Int))] [srcO c s] [srcO c (nextS c s n).2] ⟨.v (.int .i64 ((nextS c s n).1 : Int)), []⟩ := by
  obtain ⟨_, b2, b3⟩ := byteS_ok (c := c) hs
  have hb := ac_byte hc hs hK
  unfold nextS
  by_cases h1 : n ≤ 1
  · rw [if_pos h1]
    refine acg_of (rs := [.tmp 4]) Th_ok (by kernel_rfl) Try.func236 rfl Try.ntmps236 (by rw [Try.results236]) (by kernel_rfl) (by simp) rfl rfl (runC_sound _ _ _ ?_); conv => whnf
    repeat (((first | refine qb rfl rfl ?_ | refine qi (by assumption) rfl rfl ?_ | refine ql rfl ?_ | refine qo rfl rfl ?_ | refine qs rfl rfl ?_ | refine qn rfl rfl ?_); conv => whnf))
    exact r_ret1s rfl rfl
  · rw [if_neg h1]
    have hmod : (byteS c s).1 % (n : Int) = (((byteS c s).1.toNat % n : Nat) : Int) := by
      rw [Int.natCast_emod, Int.toNat_of_nonneg b2]
    refine acg_of (rs := [.tmp 4]) Th_ok (by kernel_rfl) Try.func236 rfl Try.ntmps236 (by rw [Try.results236]) (by kernel_rfl) (by simp) rfl rfl (runC_sound _ _ _ ?_); conv => whnf
    repeat (first | ((first | refine qb rfl rfl ?_ | refine qi (by assumption) rfl rfl ?_ | refine ql rfl ?_ | refine qo rfl rfl ?_ | refine qs rfl rfl ?_ | refine qn rfl rfl ?_); conv => whnf) | (refine r_step (p_callg [0] (hb) rfl rfl (by first | exact ⟨rfl, trivial⟩ | exact ⟨rfl, rfl, trivial⟩ | exact ⟨rfl, rfl, rfl, trivial⟩) rfl rfl (by first | exact trivial | exact ⟨⟨rfl, rfl, rfl⟩, trivial⟩ | exact ⟨⟨rfl, rfl, rfl⟩, ⟨rfl, rfl, rfl⟩, trivial⟩ | exact ⟨⟨rfl, rfl, rfl⟩, ⟨rfl, rfl, rfl⟩, ⟨rfl, rfl, rfl⟩, trivial⟩) rfl rfl rfl (.inl rfl) rfl) rfl rfl (fun e => by first | exact .inl rfl | contradiction | exact .inr (.inl (by kernel_rfl))) ?_; conv => whnf) | (refine r_put (p_bin (b_rem2 b2 (by omega) hmod) rfl rfl rfl) rfl rfl ?_; conv => whnf))
    exact r_ret1s rfl rfl
theorem ac_chance {c : List UInt8} {s : Src} {K n : Nat} (hc : c.length ≤ maxLen) (hs : s.ok K) (hK : K ≤ 1000000000) (hn : n ≤ 256) (h0 : 0 < n) : ACG Try.prog 242 [.optr 0 0 [] 0, .v (.int .i64 (n : Int))] [srcO c s] [srcO c (nextS c s n).2] ⟨.v (.bool (decide ((nextS c s n).1 = n - 1))), []⟩ := by
  have hb := ac_next hc hs hK hn
  obtain ⟨_, hlt⟩ := nextS_ok (c := c) hs h0
  by_cases h : (nextS c s n).1 = n - 1
  · rw [decide_eq_true h]
    refine acg_of (rs := [.tmp 4]) Th_ok (by kernel_rfl) Try.func242 rfl Try.ntmps242 (by rw [Try.results242]) (by kernel_rfl) (by simp) rfl rfl (runC_sound _ _ _ ?_); conv => whnf
    repeat (first | ((first | refine qb rfl rfl ?_ | refine qi (by assumption) rfl rfl ?_ | refine ql rfl ?_ | refine qo rfl rfl ?_ | refine qs rfl rfl ?_ | refine qn rfl rfl ?_); conv => whnf) | (refine r_step (p_callg [0] (hb) rfl rfl (by first | exact ⟨rfl, trivial⟩ | exact ⟨rfl, rfl, trivial⟩ | exact ⟨rfl, rfl, rfl, trivial⟩) rfl rfl (by first | exact trivial | exact ⟨⟨rfl, rfl, rfl⟩, trivial⟩ | exact ⟨⟨rfl, rfl, rfl⟩, ⟨rfl, rfl, rfl⟩, trivial⟩ | exact ⟨⟨rfl, rfl, rfl⟩, ⟨rfl, rfl, rfl⟩, ⟨rfl, rfl, rfl⟩, trivial⟩) rfl rfl rfl (.inl rfl) rfl) rfl rfl (fun e => by first | exact .inl rfl | contradiction | exact .inr (.inl (by kernel_rfl))) ?_; conv => whnf))
    exact r_ret1s rfl rfl
  · rw [decide_eq_false h]
    refine acg_of (rs := [.tmp 4]) Th_ok (by kernel_rfl) Try.func242 rfl Try.ntmps242 (by rw [Try.results242]) (by kernel_rfl) (by simp) rfl rfl (runC_sound _ _ _ ?_); conv => whnf
    repeat (first | ((first | refine qb rfl rfl ?_ | refine qi (by assumption) rfl rfl ?_ | refine ql rfl ?_ | refine qo rfl rfl ?_ | refine qs rfl rfl ?_ | refine qn rfl rfl ?_); conv => whnf) | (refine r_step (p_callg [0] (hb) rfl rfl (by first | exact ⟨rfl, trivial⟩ | exact ⟨rfl, rfl, trivial⟩ | exact ⟨rfl, rfl, rfl, trivial⟩) rfl rfl (by first | exact trivial | exact ⟨⟨rfl, rfl, rfl⟩, trivial⟩ | exact ⟨⟨rfl, rfl, rfl⟩, ⟨rfl, rfl, rfl⟩, trivial⟩ | exact ⟨⟨rfl, rfl, rfl⟩, ⟨rfl, rfl, rfl⟩, ⟨rfl, rfl, rfl⟩, trivial⟩) rfl rfl rfl (.inl rfl) rfl) rfl rfl (fun e => by first | exact .inl rfl | contradiction | exact .inr (.inl (by kernel_rfl))) ?_; conv => whnf))
    exact r_ret1s rfl rfl
def pickS (c : List UInt8) (s : Src) (l : List ByteArray) : ByteArray × Src := (l.getD (nextS c s l.length).1 ByteArray.empty, (nextS c s l.length).2)
theorem ac_pick {c : List UInt8} {s : Src} {K : Nat} {l : List ByteArray} (hc : c.length ≤ maxLen) (hs : s.ok K) (hK : K ≤ 1000000000) (hn : l.length ≤ 256) (h0 : 0 < l.length) : ACG Try.prog 252 [.optr 0 0 [] 0, .own 1000000] [srcO c s, strO l] [srcO c (pickS c s l).2, strO l] ⟨.v (.string (pickS c s l).1), []⟩ := by
  obtain ⟨_, hlt⟩ := nextS_ok (c := c) hs h0
  have hb := ac_next (n := l.length) hc hs hK hn
  have hg : (l.map strA)[(nextS c s l.length).1]? = some (.v (.string (pickS c s l).1)) := by simp [pickS, strA, hlt]
  refine acg_of (rs := [.tmp 4]) Th_ok (by kernel_rfl) Try.func252 rfl Try.ntmps252 (by rw [Try.results252]) (by kernel_rfl) (by simp) rfl rfl (runC_sound _ _ _ ?_); conv => whnf
  repeat (first | ((first | refine qb rfl rfl ?_ | refine qi (by assumption) rfl rfl ?_ | refine ql rfl ?_ | refine qo rfl rfl ?_ | refine qs rfl rfl ?_ | refine qn rfl rfl ?_); conv => whnf) | (refine r_step (p_callg [0] (hb) rfl rfl (by first | exact ⟨rfl, trivial⟩ | exact ⟨rfl, rfl, trivial⟩ | exact ⟨rfl, rfl, rfl, trivial⟩) rfl rfl (by first | exact trivial | exact ⟨⟨rfl, rfl, rfl⟩, trivial⟩ | exact ⟨⟨rfl, rfl, rfl⟩, ⟨rfl, rfl, rfl⟩, trivial⟩ | exact ⟨⟨rfl, rfl, rfl⟩, ⟨rfl, rfl, rfl⟩, ⟨rfl, rfl, rfl⟩, trivial⟩) rfl rfl rfl (.inl rfl) rfl) rfl rfl (fun e => by first | exact .inl rfl | contradiction | exact .inr (.inl (by kernel_rfl))) ?_; conv => whnf) | (refine o_put (p_oidx (by simpa using hlt) rfl rfl rfl rfl rfl) rfl rfl ?_; refine r_put (p_old rfl rfl hg rfl rfl rfl rfl) rfl rfl ?_; conv => whnf))
  exact r_ret1s2 rfl rfl rfl
def keyS (c : List UInt8) (s : Src) : ByteArray × Src := pickS c s keys8
theorem keyS_ok {c : List UInt8} {s : Src} {K : Nat} (h : s.ok K) : (keyS c s).2.ok (K + 1) ∧ (keyS c s).1 ∈ keys8 := by
  obtain ⟨h1, h2⟩ := nextS_ok (c := c) (n := keys8.length) h (by decide)
  refine ⟨h1, ?_⟩
  have e : (keyS c s).1 = keys8[(nextS c s keys8.length).1] := by simp [keyS, pickS, h2]
  rw [e]; exact List.getElem_mem h2
theorem ac_key {c : List UInt8} {s : Src} {K : Nat} (hc : c.length ≤ maxLen) (hs : s.ok K) (hK : K ≤ 1000000000) : ACG Try.prog 238 [.optr 0 0 [] 0] [srcO c s] [srcO c (keyS c s).2] ⟨.v (.string (keyS c s).1), []⟩ := by
  have hb : ACG Try.prog 252 [.optr 0 0 [] 0, .own 1000000] [srcO c s, strO keys8] [srcO c (keyS c s).2, strO keys8] ⟨.v (.string (keyS c s).1), []⟩ := ac_pick hc hs hK (by decide) (by decide)
  refine acg_of (rs := [.tmp 2]) Th_ok (by kernel_rfl) Try.func238 rfl Try.ntmps238 (by rw [Try.results238]) (by kernel_rfl) (by simp) rfl rfl (runC_sound _ _ _ ?_); conv => whnf
  (refine r_step (p_callg [0,5] (hb) rfl rfl (by first | exact ⟨rfl, trivial⟩ | exact ⟨rfl, rfl, trivial⟩ | exact ⟨rfl, rfl, rfl, trivial⟩) rfl rfl (by first | exact trivial | exact ⟨⟨rfl, rfl, rfl⟩, trivial⟩ | exact ⟨⟨rfl, rfl, rfl⟩, ⟨rfl, rfl, rfl⟩, trivial⟩ | exact ⟨⟨rfl, rfl, rfl⟩, ⟨rfl, rfl, rfl⟩, ⟨rfl, rfl, rfl⟩, trivial⟩) rfl rfl rfl (.inl rfl) rfl) rfl rfl (fun e => by first | exact .inl rfl | contradiction | exact .inr (.inl (by kernel_rfl))) ?_; conv => whnf)
  repeat (((first | refine qb rfl rfl ?_ | refine qi (by assumption) rfl rfl ?_ | refine ql rfl ?_ | refine qo rfl rfl ?_ | refine qs rfl rfl ?_ | refine qn rfl rfl ?_); conv => whnf))
  exact r_ret1s rfl rfl
def entL (c : List UInt8) : Nat → Src → List Ent → List Ent × Src
  | 0, s, m => (m, s)
  | n + 1, s, m => entL c n (nextS c (keyS c s).2 9).2 (putL m (keyS c s).1 (nextS c (keyS c s).2 9).1)
theorem entL_ok {c : List UInt8} : ∀ (n : Nat) (s : Src) (m : List Ent) (K : Nat), s.ok K → Good m → (entL c n s m).2.ok (K + 2 * n) ∧ Good (entL c n s m).1 ∧ (entL c n s m).1.length ≤ m.length + n
  | 0, s, m, K, h, hm => ⟨h, hm, Nat.le_refl _⟩
  | n + 1, s, m, K, h, hm => by
    obtain ⟨h1, h2⟩ := keyS_ok (c := c) h
    obtain ⟨h3, h4⟩ := nextS_ok (c := c) (n := 9) h1 (by omega)
    obtain ⟨a1, a2, a3⟩ := entL_ok (c := c) n _ (putL m (keyS c s).1 (nextS c (keyS c s).2 9).1) (K + 1 + 1) h3 (hm.put h2 (by omega) (by omega))
    have := putL_length m (keyS c s).1 (nextS c (keyS c s).2 9).1
    refine ⟨a1.le (by omega), a2, ?_⟩
    show (entL c n _ _).1.length ≤ _
    omega
def entS (c : List UInt8) (s : Src) : List Ent × Src := entL c (nextS c s 6).1 (nextS c s 6).2 []
theorem entS_ok {c : List UInt8} {s : Src} {K : Nat} (h : s.ok K) : (entS c s).2.ok (K + 11) ∧ Good (entS c s).1 ∧ (entS c s).1.length ≤ 5 := by
  obtain ⟨h1, h2⟩ := nextS_ok (c := c) (n := 6) h (by omega)
  obtain ⟨a1, a2, a3⟩ := entL_ok (c := c) (nextS c s 6).1 _ [] _ h1 Good.nil
  exact ⟨a1.le (by omega), a2, by unfold entS; simp at a3; omega⟩
theorem ac_entries {c : List UInt8} {s : Src} {K : Nat} (hc : c.length ≤ maxLen) (hs : s.ok K) (hK : K ≤ 900000000) : ACG Try.prog 167 [.optr 0 0 [] 0] [srcO c s] [srcO c (entS c s).2] ⟨.own 0, [entO (entS c s).1]⟩ := by
  have hb := ac_next (n := 6) hc hs (by omega) (by omega)
  obtain ⟨n1, n2⟩ := nextS_ok (c := c) (n := 6) hs (by omega)
  refine acg_of (rs := [.tmp 2]) Th_ok (by kernel_rfl) Try.func167 rfl Try.ntmps167 (by rw [Try.results167]) (by kernel_rfl) (by simp) rfl rfl (runC_sound _ _ _ ?_); conv => whnf
  repeat (first | ((first | refine qb rfl rfl ?_ | refine qi (by assumption) rfl rfl ?_ | refine ql rfl ?_ | refine qo rfl rfl ?_ | refine qs rfl rfl ?_ | refine qn rfl rfl ?_); conv => whnf) | (refine r_step (p_callg [0] (hb) rfl rfl (by first | exact ⟨rfl, trivial⟩ | exact ⟨rfl, rfl, trivial⟩ | exact ⟨rfl, rfl, rfl, trivial⟩) rfl rfl (by first | exact trivial | exact ⟨⟨rfl, rfl, rfl⟩, trivial⟩ | exact ⟨⟨rfl, rfl, rfl⟩, ⟨rfl, rfl, rfl⟩, trivial⟩ | exact ⟨⟨rfl, rfl, rfl⟩, ⟨rfl, rfl, rfl⟩, ⟨rfl, rfl, rfl⟩, trivial⟩) rfl rfl rfl (.inl rfl) rfl) rfl rfl (fun e => by first | exact .inl rfl | contradiction | exact .inr (.inl (by kernel_rfl))) ?_; conv => whnf))
  unfold entS
  generalize (nextS c s 6).2 = s1 at n1 ⊢
  generalize hn0 : (nextS c s 6).1 = n0 at n2 ⊢
  refine r_loop (ι := { p : Nat × Src × List Ent // p.2.1.ok (K + 1 + 2 * (5 - p.1)) ∧ p.1 ≤ 5 ∧ Good p.2.2 ∧ p.2.2.length + p.1 ≤ 5 ∧ entL c p.1 p.2.1 p.2.2 = entL c n0 s1 [] }) (fun p => ⟨[(0, .optr 0 0 [] 0), (3, .own 6), (4, .v (.int .i64 (p.1.1 : Int)))], [(0, srcO c p.1.2.1), (6, entO p.1.2.2)]⟩) (fun p => p.1.1) ⟨(n0, s1, []), n1.le (by omega), by omega, Good.nil, by simp; omega, rfl⟩ (by refine ⟨?_, ?_⟩ <;> (repeat (first | trivial | exact ⟨rfl, trivial⟩ | refine ⟨rfl, ?_⟩ | refine ⟨.inl ⟨rfl, rfl⟩, ?_⟩ | refine ⟨.inr ⟨_, _, rfl, rfl, rfl, rfl, rfl⟩, ?_⟩))) ?_
  rintro ⟨⟨n, s2, m⟩, h1, h2, h3, h4, h5⟩
  dsimp only at h1 h2 h3 h4 h5 ⊢
  conv => whnf
  cases n with
  | zero =>
    rw [← h5]
    repeat (((first | refine qb rfl rfl ?_ | refine qi (by assumption) rfl rfl ?_ | refine ql rfl ?_ | refine qo rfl rfl ?_ | refine qs rfl rfl ?_ | refine qn rfl rfl ?_); conv => whnf))
    exact r_own1s rfl rfl rfl
  | succ n =>
    obtain ⟨k1, k2⟩ := keyS_ok (c := c) h1
    obtain ⟨k3, k4⟩ := nextS_ok (c := c) (n := 9) k1 (by omega)
    have hk := ac_key (c := c) hc h1 (by omega)
    have hx := ac_next (n := 9) hc k1 (by omega) (by omega)
    have hl := putL_length m (keyS c s2).1 (nextS c (keyS c s2).2 9).1
    have hp := ac_l01Put (es := m) (k := (keyS c s2).1) (v := (nextS c (keyS c s2).2 9).1) (by omega)
    repeat (first | ((first | refine qb rfl rfl ?_ | refine qi (by assumption) rfl rfl ?_ | refine ql rfl ?_ | refine qo rfl rfl ?_ | refine qs rfl rfl ?_ | refine qn rfl rfl ?_); conv => whnf) | (refine r_step (p_callg [0] (hk) rfl rfl (by first | exact ⟨rfl, trivial⟩ | exact ⟨rfl, rfl, trivial⟩ | exact ⟨rfl, rfl, rfl, trivial⟩) rfl rfl (by first | exact trivial | exact ⟨⟨rfl, rfl, rfl⟩, trivial⟩ | exact ⟨⟨rfl, rfl, rfl⟩, ⟨rfl, rfl, rfl⟩, trivial⟩ | exact ⟨⟨rfl, rfl, rfl⟩, ⟨rfl, rfl, rfl⟩, ⟨rfl, rfl, rfl⟩, trivial⟩) rfl rfl rfl (.inl rfl) rfl) rfl rfl (fun e => by first | exact .inl rfl | contradiction | exact .inr (.inl (by kernel_rfl))) ?_; conv => whnf) | (refine r_step (p_callg [0] (hx) rfl rfl (by first | exact ⟨rfl, trivial⟩ | exact ⟨rfl, rfl, trivial⟩ | exact ⟨rfl, rfl, rfl, trivial⟩) rfl rfl (by first | exact trivial | exact ⟨⟨rfl, rfl, rfl⟩, trivial⟩ | exact ⟨⟨rfl, rfl, rfl⟩, ⟨rfl, rfl, rfl⟩, trivial⟩ | exact ⟨⟨rfl, rfl, rfl⟩, ⟨rfl, rfl, rfl⟩, ⟨rfl, rfl, rfl⟩, trivial⟩) rfl rfl rfl (.inl rfl) rfl) rfl rfl (fun e => by first | exact .inl rfl | contradiction | exact .inr (.inl (by kernel_rfl))) ?_; conv => whnf))
    refine qC (hp) rfl ?_
    refine r_step (p_asl 6 rfl rfl rfl) rfl rfl (fun e => by first | exact .inl rfl | contradiction | exact .inr (.inl (by kernel_rfl))) ?_; conv => whnf
    repeat (first | (refine r_put (p_bin (b_sub (c := (n : Int)) (by omega) (by omega) (by omega)) rfl rfl rfl) rfl rfl ?_; conv => whnf) | ((first | refine qb rfl rfl ?_ | refine qi (by assumption) rfl rfl ?_ | refine ql rfl ?_ | refine qo rfl rfl ?_ | refine qs rfl rfl ?_ | refine qn rfl rfl ?_); conv => whnf))
    exact ⟨⟨(n, (nextS c (keyS c s2).2 9).2, putL m (keyS c s2).1 (nextS c (keyS c s2).2 9).1), k3.le (by omega), by omega, h3.put k2 (by omega) (by omega), by simp; omega, h5⟩, by refine ⟨?_, ?_⟩ <;> (repeat (first | trivial | exact ⟨rfl, trivial⟩ | refine ⟨rfl, ?_⟩ | refine ⟨.inl ⟨rfl, rfl⟩, ?_⟩ | refine ⟨.inr ⟨_, _, rfl, rfl, rfl, rfl, rfl⟩, ?_⟩)), by simp⟩
end Go.Proofs.Ytjhimcddgkoghaa.AM
