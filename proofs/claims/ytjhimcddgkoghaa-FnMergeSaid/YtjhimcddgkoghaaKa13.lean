/- Texts of the machine over data, folded. -/
import Derived.Test.YtjhimcddgkoghaaKa12
import Derived.Test.YtjhimcddgkoghaaKa5
namespace Go.Proofs.Ytjhimcddgkoghaa.AM
open Go Go.RowKit
set_option linter.unusedVariables false
set_option linter.unusedSimpArgs false
set_option maxRecDepth 100000
/-- what a difference puts at a key -/
def edT (k : ByteArray) (y : Option Int) : Edt := match y with | some v => ⟨k, v, false⟩ | none => ⟨k, 0, true⟩
theorem edT_key (k : ByteArray) (y : Option Int) : (edT k y).key = k := by cases y <;> rfl
theorem edT_inj {k : ByteArray} {y z : Option Int} (h : edT k y = edT k z) : y = z := by
  cases y <;> cases z <;> simp [edT] at h ⊢
  exact h
theorem dfE_if (k : ByteArray) (x y : Option Int) : dfE k x y = if x = y then none else some (edT k y) := by
  cases x <;> cases y <;> simp [dfE, edT]
theorem fndE_some {es : List Edt} {k : ByteArray} {e : Edt} (h : fndE es k = some e) : e ∈ es ∧ e.key = k :=
  ⟨List.mem_of_find?_eq_some h, by simpa using List.find?_some h⟩
theorem fnd_todoL (L : List Edt) (k : ByteArray) : ∀ R : List Edt, fndE (todoL L R) k = if fndE L k = none then fndE R k else none
  | [] => by simp [todoL, fndE]
  | e :: R => by
    have ih := fnd_todoL L k R
    unfold todoL at ih ⊢
    rw [List.filter_cons, fndE_cons]
    by_cases hT : isTodo L e = true
    · rw [if_pos hT, fndE_cons, ih]
      by_cases hk : e.key = k
      · subst hk
        have : fndE L e.key = none := by simpa [isTodo] using hT
        rw [if_pos rfl, if_pos rfl, if_pos this]
      · rw [if_neg hk, if_neg hk]
    · rw [if_neg hT, ih]
      by_cases hk : e.key = k
      · subst hk
        have : ¬ fndE L e.key = none := by simpa [isTodo] using hT
        rw [if_neg this, if_neg this]
      · rw [if_neg hk]
theorem keys_ext : ∀ (k l : List ByteArray), k.Pairwise (fun x y => klt x y = true) → l.Pairwise (fun x y => klt x y = true) → (∀ x, x ∈ k ↔ x ∈ l) → k = l
  | [], [], _, _, _ => rfl
  | [], y :: l, _, _, h => by have := (h y).2 (by simp); cases this
  | x :: k, [], _, _, h => by have := (h x).1 (by simp); cases this
  | x :: k, y :: l, hk, hl, h => by
    obtain ⟨k1, k2⟩ := List.pairwise_cons.1 hk
    obtain ⟨l1, l2⟩ := List.pairwise_cons.1 hl
    have hxy : x = y := by
      rcases List.mem_cons.1 ((h x).1 (by simp)) with e | hx
      · exact e
      · rcases List.mem_cons.1 ((h y).2 (by simp)) with e | hy
        · exact e.symm
        · have a1 := k1 y hy
          have a2 := l1 x hx
          rw [klt_asymm a1] at a2; cases a2
    subst hxy
    rw [keys_ext k l k2 l2 fun z => ⟨fun hz => by
      rcases List.mem_cons.1 ((h z).1 (List.mem_cons_of_mem _ hz)) with rfl | e
      · exact absurd rfl (klt_ne (k1 _ hz))
      · exact e, fun hz => by
      rcases List.mem_cons.1 ((h z).2 (List.mem_cons_of_mem _ hz)) with rfl | e
      · exact absurd rfl (klt_ne (l1 _ hz))
      · exact e⟩]
section
variable {base a b : List Ent}
theorem mem_cls (hb : Srt base) (ha : Srt a) (hc : Srt b) (k : ByteArray) : k ∈ clsL base a b ↔ lk base k ≠ lk a k ∧ lk base k ≠ lk b k ∧ lk a k ≠ lk b k := by
  unfold clsL clashL keysL
  rw [List.mem_map]
  constructor
  · rintro ⟨e, he, rfl⟩
    obtain ⟨h1, h2⟩ := List.mem_filter.1 he
    have h3 := fndE_of (srt_diffM hb hc) h1
    rw [fnd_diff hb hc, dfE_if] at h3
    unfold isClash at h2
    rw [fnd_diff hb ha, dfE_if] at h2
    by_cases hz : lk base e.key = lk b e.key
    · rw [if_pos hz] at h3; cases h3
    · rw [if_neg hz] at h3
      by_cases hy : lk base e.key = lk a e.key
      · rw [if_pos hy] at h2; cases h2
      · rw [if_neg hy] at h2
        refine ⟨hy, hz, fun hyz => ?_⟩
        rw [hyz] at h2
        injection h3 with h3
        simp [h3] at h2
  · rintro ⟨h1, h2, h3⟩
    have hf : fndE (diffM base b) k = some (edT k (lk b k)) := by rw [fnd_diff hb hc, dfE_if, if_neg h2]
    refine ⟨edT k (lk b k), List.mem_filter.2 ⟨(fndE_some hf).1, ?_⟩, edT_key _ _⟩
    unfold isClash
    rw [edT_key, fnd_diff hb ha, dfE_if, if_neg h1]
    exact decide_eq_true fun h => h3 (edT_inj h)
theorem cls_srt (hb : Srt base) (hc : Srt b) : (clsL base a b).Pairwise (fun x y => klt x y = true) := by
  unfold clsL clashL keysL
  rw [List.pairwise_map]
  exact List.Pairwise.filter _ (srt_diffM hb hc)
theorem srt_mrg (ha : Srt a) : Srt (mrgL base a b) := srt_applyL ha _
theorem lk_mrg (hb : Srt base) (ha : Srt a) (hc : Srt b) (k : ByteArray) : lk (mrgL base a b) k = if lk base k = lk a k then lk b k else lk a k := by
  unfold mrgL
  have hs : SrtE (todoL (diffM base a) (diffM base b)) := List.Pairwise.filter _ (srt_diffM hb hc)
  rw [lk_apply _ _ _ ha hs, fnd_todoL, fnd_diff hb ha, dfE_if]
  by_cases h : lk base k = lk a k
  · rw [if_pos h, if_pos h, if_pos rfl, fnd_diff hb hc, ← h, edV_df]
  · rw [if_neg h, if_neg h, if_neg (by simp)]; rfl
theorem mrg_comm (hb : Srt base) (ha : Srt a) (hc : Srt b) (h : clsL base a b = []) : mrgL base b a = mrgL base a b :=
  srt_ext _ _ (srt_mrg hc) (srt_mrg ha) fun k => by
    rw [lk_mrg hb ha hc, lk_mrg hb hc ha]
    by_cases h1 : lk base k = lk a k
    · rw [if_pos h1]
      by_cases h2 : lk base k = lk b k
      · rw [if_pos h2, ← h1, h2]
      · rw [if_neg h2]
    · rw [if_neg h1]
      by_cases h2 : lk base k = lk b k
      · rw [if_pos h2]
      · rw [if_neg h2]
        by_cases h3 : lk a k = lk b k
        · exact h3.symm
        · have := (mem_cls hb ha hc k).2 ⟨h1, h2, h3⟩
          rw [h] at this; cases this
theorem cls_comm (hb : Srt base) (ha : Srt a) (hc : Srt b) : clsL base b a = clsL base a b :=
  keys_ext _ _ (cls_srt hb ha) (cls_srt hb hc) fun k => by
    rw [mem_cls hb ha hc, mem_cls hb hc ha]
    exact ⟨fun ⟨h1, h2, h3⟩ => ⟨h2, h1, fun e => h3 e.symm⟩, fun ⟨h1, h2, h3⟩ => ⟨h2, h1, fun e => h3 e.symm⟩⟩
theorem toldR_k (m : List Ent) (c : List ByteArray) : (toldR m c).2.1 = c := by
  unfold toldR
  split
  · rfl
  · rename_i h
    have : c = [] := List.eq_nil_of_length_eq_zero (by omega)
    subst this
    split <;> rfl
theorem merge_comm (hb : mapOK base = true) (ha : mapOK a = true) (hc : mapOK b = true) : merge3R base b a = merge3R base a b := by
  have sb := srt_of_mapOK hb
  have sa := srt_of_mapOK ha
  have sc := srt_of_mapOK hc
  rw [merge3_of hb hc ha, merge3_of hb ha hc, cls_comm sb sa sc]
  unfold toldR
  by_cases h : 0 < (clsL base a b).length
  · rw [if_pos h, if_pos h]
  · rw [mrg_comm sb sa sc (List.eq_nil_of_length_eq_zero (by omega))]
end
theorem keys8_srt : keys8.Pairwise (fun x y => klt x y = true) := by
  have h : (List.range 8).all (fun i => (List.range i).all fun j => klt (keys8.getD j .empty) (keys8.getD i .empty)) = true := by kernel_rfl
  rw [List.pairwise_iff_getElem]
  intro i j hi hj hij
  have hj' : j < 8 := hj
  have h1 := List.all_eq_true.1 (List.all_eq_true.1 h j (List.mem_range.2 hj')) i (List.mem_range.2 hij)
  simpa [List.getD_eq_getElem?_getD, List.getElem?_eq_getElem hi, List.getElem?_eq_getElem hj] using h1
theorem told_good {base a b : List Ent} (hb : Good base) (ha : Good a) (hc : Good b) (h : (toldR (mrgL base a b) (clsL base a b)).2.2 = 0) : (toldR (mrgL base a b) (clsL base a b)).1 = mrgL base a b ∧ Good (mrgL base a b) ∧ (mrgL base a b).length ≤ 12 := by
  have hl := (toldR_ok h).1
  have hm : (toldR (mrgL base a b) (clsL base a b)).1 = mrgL base a b := by
    unfold toldR at h ⊢
    split
    · rename_i h1; rw [if_pos h1] at h; cases h
    · rename_i h1
      rw [if_neg h1] at h
      split
      · rename_i h2; rw [if_pos h2] at h; cases h
      · rfl
  rw [hm] at hl
  refine ⟨hm, ?_, hl⟩
  refine ha.apply _ fun e he => ?_
  have := (hb.diff hc).2 e ((List.mem_filter.1 he).1)
  exact ⟨this.1, this.2.1, this.2.2.1⟩
theorem mergeE_facts {base : List Ent} {p q : List Edt} (hb : Good base) (hp : GoodE p) (hq : GoodE q) (h : (mergeER base p q).2.2 = 0) : Good (mergeER base p q).1 ∧ (mergeER base p q).1.length ≤ 12 := by
  unfold mergeER at h ⊢
  split
  · rename_i h1; rw [if_pos h1] at h; cases h
  · rename_i h1
    rw [if_neg h1] at h
    split
    · rename_i h2
      rw [if_pos h2] at h
      obtain ⟨e, g, l⟩ := told_good hb (hb.applyE hp) (hb.applyE hq) h
      rw [e]; exact ⟨g, l⟩
    · rename_i h2; rw [if_neg h2] at h; cases h
/-- both sides changed the key, otherwise -/
def clk (base a b : List Ent) (k : ByteArray) : Bool := decide (lk base k ≠ lk a k) && (decide (lk base k ≠ lk b k) && !decide (lk a k = lk b k))
theorem lk_keys8 {m : List Ent} (h : Good m) {k : ByteArray} (hk : k ∉ keys8) : lk m k = none := by
  cases e : lk m k with
  | none => rfl
  | some v => exact absurd (h.2 _ (lk_mem e)).1 hk
theorem cls_keys8 {base a b : List Ent} (hb : Good base) (ha : Good a) (hc : Good b) : clsL base a b = keys8.filter (clk base a b) :=
  keys_ext _ _ (cls_srt hb.1 hc.1) (List.Pairwise.filter _ keys8_srt) fun k => by
    rw [mem_cls hb.1 ha.1 hc.1, List.mem_filter]
    unfold clk
    by_cases hk : k ∈ keys8
    · simp [hk]
    · simp [hk, lk_keys8 ha hk, lk_keys8 hb hk, lk_keys8 hc hk]
theorem merge_facts {base a b : List Ent} (hb : Good base) (ha : Good a) (hc : Good b) (lb : base.length ≤ 12) (la : a.length ≤ 12) (lc : b.length ≤ 12) : ∃ M K d, merge3R base a b = (M, K, d) ∧ (d = 0 → Good M ∧ M.length ≤ 12 ∧ ∀ k, lk M k = if lk base k = lk a k then lk b k else lk a k) ∧ K = keys8.filter (clk base a b) ∧ (d = 0 ∧ K.length = 0 ∨ d = 7 ∧ K.length = 0 ∨ d = 11 ∧ 0 < K.length) := by
  refine ⟨(toldR (mrgL base a b) (clsL base a b)).1, (toldR (mrgL base a b) (clsL base a b)).2.1, (toldR (mrgL base a b) (clsL base a b)).2.2, merge3_of (hb.ok lb) (ha.ok la) (hc.ok lc), ?_, ?_, ?_⟩
  · intro h
    obtain ⟨e, g, l⟩ := told_good hb ha hc h
    rw [e]
    exact ⟨g, l, fun k => lk_mrg hb.1 ha.1 hc.1 k⟩
  · rw [toldR_k, cls_keys8 hb ha hc]
  · rw [toldR_k]
    unfold toldR
    split
    · rename_i h; exact .inr (.inr ⟨rfl, h⟩)
    · rename_i h
      split
      · exact .inr (.inl ⟨rfl, by omega⟩)
      · exact .inl ⟨rfl, by omega⟩
end Go.Proofs.Ytjhimcddgkoghaa.AM
namespace Go.Proofs.Ytjhimcddgkoghaa.AM
open Go Go.RowKit
set_option linter.unusedVariables false
set_option linter.unusedSimpArgs false
set_option maxRecDepth 100000
theorem b_bneq {P : Program} {t : TypeId} {x y : Operand} {a b r : Bool} (h : P.underlying t = some .bool) (hr : (a != b) = r) : BinOK P .neq t x y (.bool a) (.bool b) (.bool r) := hr ▸ b_bne h
theorem val_cases (o o' : Option Int) : ((valR o).2 ≠ (valR o').2 ∧ o ≠ o') ∨ ((valR o).2 = (valR o').2 ∧ (valR o).1 ≠ (valR o').1 ∧ o ≠ o') ∨ ((valR o).2 = (valR o').2 ∧ (valR o).1 = (valR o').1 ∧ o = o') := by
  cases o with
  | none => cases o' with
    | none => exact .inr (.inr ⟨rfl, rfl, rfl⟩)
    | some y => exact .inl ⟨by simp [valR], by simp⟩
  | some x => cases o' with
    | none => exact .inl ⟨by simp [valR], by simp⟩
    | some y =>
      by_cases h : x = y
      · exact .inr (.inr ⟨rfl, h, by rw [h]⟩)
      · exact .inr (.inl ⟨rfl, h, by simp [h]⟩)
theorem bne_t {a b : Bool} (h : a ≠ b) : (a != b) = true := by cases a <;> cases b <;> simp_all
theorem bne_f {a b : Bool} (h : a = b) : (a != b) = false := by subst h; simp
theorem beq_t {a b : Bool} (h : a = b) : (a == b) = true := by subst h; simp
theorem beq_f {a b : Bool} (h : a ≠ b) : (a == b) = false := by cases a <;> cases b <;> simp_all
theorem clash_step (base a b : List Ent) {k : Nat} (h : k < keys8.length) : ((keys8.take (k + 1)).filter (clk base a b)).length = ((keys8.take k).filter (clk base a b)).length + if clk base a b keys8[k] = true then 1 else 0 := by
  rw [List.take_succ_eq_append_getElem h, List.filter_append, List.length_append, List.filter_cons]
  split <;> simp
attribute [local irreducible] ACode AOps AOps2 RetG RetM Pre ACG
set_option maxHeartbeats 8000000 in
theorem law_Merge {c m : List UInt8} (hc : c.length ≤ maxLen) (hm : m.length ≤ maxLen) : AC Try.prog 13 [.lst 1 (c.map bytA), .lst 1 (m.map bytA)] ⟨.v (.bool true), []⟩ := by
  have hc' := hc
  have hm' := hm
  unfold maxLen at hc' hm'
  by_cases l0 : 1048576 < c.length
  · refine r_of Th_ok (by kernel_rfl) Try.func13 rfl Try.ntmps13 Try.results13 (by kernel_rfl) rfl ?_; conv => whnf
    repeat (((first | refine qb rfl rfl ?_ | refine qi (by assumption) rfl rfl ?_ | refine ql rfl ?_ | refine qo rfl rfl ?_ | refine qs rfl rfl ?_ | refine qn rfl rfl ?_); conv => whnf))
    exact r_ret1 rfl trivial
  by_cases l1 : 1048576 < m.length
  · refine r_of Th_ok (by kernel_rfl) Try.func13 rfl Try.ntmps13 Try.results13 (by kernel_rfl) rfl ?_; conv => whnf
    repeat (((first | refine qb rfl rfl ?_ | refine qi (by assumption) rfl rfl ?_ | refine ql rfl ?_ | refine qo rfl rfl ?_ | refine qs rfl rfl ?_ | refine qn rfl rfl ?_); conv => whnf))
    exact r_ret1 rfl trivial
  have e0 := ac_SidesDrawn hc
  have e1 := ac_EditsDrawn hc
  have e2 := ac_EditsDrawn hm
  obtain ⟨⟨gb, lb⟩, ⟨ga, la⟩, gc, lc⟩ := sidS_ok (c := c) (src0_ok c)
  obtain ⟨gp, lp⟩ := edD_ok c
  obtain ⟨gq, lq⟩ := edD_ok m
  generalize (sidS c (src0 c)).1.1 = base at *
  generalize (sidS c (src0 c)).1.2.1 = a at *
  generalize (sidS c (src0 c)).1.2.2 = b at *
  generalize edD c = p at *
  generalize edD m = q at *
  have ob := gb.ok (by omega)
  have oa := ga.ok (by omega)
  have oc := gc.ok (by omega)
  have nb : base.length ≤ maxLen := by unfold maxLen; omega
  have na : a.length ≤ maxLen := by unfold maxLen; omega
  have nc : b.length ≤ maxLen := by unfold maxLen; omega
  have np : p.length ≤ maxLen := by unfold maxLen; omega
  have nq : q.length ≤ maxLen := by unfold maxLen; omega
  have m1 := ac_iMerge3 cc_ok nb na nc gb.small ga.small gc.small
  have m2 := ac_sMerge3 nb na nc gb.small ga.small gc.small
  have m3 := ac_iMerge3 cc_ok nb nc na gb.small gc.small ga.small
  have m4 := ac_sMerge3 nb nc na gb.small gc.small ga.small
  rw [merge_comm ob oa oc] at m3 m4
  obtain ⟨M, K, d, hM, hMg, hK, hd⟩ := merge_facts gb ga gc (by omega) (by omega) (by omega)
  rw [hM] at m1 m2 m3 m4
  have i1 := ac_iMergeEdits cc_ok nb np nq gb.small gp.small gq.small
  have i2 := ac_sMergeEdits nb np nq gb.small gp.small gq.small
  have hE := mergeE_facts gb gp gq
  have hEb := mergeER_bd base p q
  generalize mergeER base p q = E at *
  have j1 := ac_iRebase cc_ok nb na nc gb.small ga.small gc.small
  have j2 := ac_sRebase nb na nc gb.small ga.small gc.small
  have hRb := rebaseR_bd base a b
  generalize rebaseR base a b = R at *
  have hK8 : K.length ≤ 8 := by rw [hK]; exact List.length_filter_le _ _
  have t1 := ac_sameTexts_t (xs := K) (by omega)
  have t2 := ac_sameTexts_t (xs := E.2.1) (by omega)
  have t3 := ac_sameTexts_t (xs := R.2.1) (by omega)
  have t4 := ac_sameEdits_t (xs := R.1) (by omega)
  dsimp only at m1 m2 m3 m4
  as_aux_lemma =>
    refine o_of Th_ok (by kernel_rfl) Try.func13 rfl Try.ntmps13 Try.results13 (by kernel_rfl) rfl ?_
    refine c_seq ?_
    refine runC_sound _ _ _ ?_
    conv => whnf
    repeat (first | ((first | refine qb rfl rfl ?_ | refine qi (by assumption) rfl rfl ?_ | refine ql rfl ?_ | refine qo rfl rfl ?_ | refine qs rfl rfl ?_ | refine qn rfl rfl ?_); conv => whnf))
    refine c_seq ?_
    refine runC_sound _ _ _ ?_
    conv => whnf
    repeat (first | ((first | refine qb rfl rfl ?_ | refine qi (by assumption) rfl rfl ?_ | refine ql rfl ?_ | refine qo rfl rfl ?_ | refine qs rfl rfl ?_ | refine qn rfl rfl ?_); conv => whnf))
    refine c_cut (ι := Unit) (fun _ => ⟨[(0, .lst 1 (c.map bytA)), (1, .lst 1 (m.map bytA)), (5, .lst 2 ((base).map entA)), (6, .lst 2 ((a).map entA)), (7, .lst 2 ((b).map entA))], [], []⟩) ?_ (fun _ => ?_)
    · refine runC_sound _ _ _ ?_
      conv => whnf
      repeat (first | (refine qf (e0) rfl ?_; conv => whnf) | (refine qc (e0) rfl ?_; conv => whnf) | ((first | refine qb rfl rfl ?_ | refine qi (by assumption) rfl rfl ?_ | refine ql rfl ?_ | refine qo rfl rfl ?_ | refine qs rfl rfl ?_ | refine qn rfl rfl ?_); conv => whnf))
      exact ⟨(), ⟨by refine ⟨?_, ?_⟩ <;> (repeat (first | trivial | exact ⟨rfl, trivial⟩ | refine ⟨rfl, ?_⟩ | refine ⟨.inl ⟨rfl, rfl⟩, ?_⟩ | refine ⟨.inr ⟨_, _, rfl, rfl, rfl, rfl, rfl⟩, ?_⟩)), trivial⟩⟩
    refine c_seq ?_
    refine runC_sound _ _ _ ?_
    conv => whnf
    repeat (first | (refine qc (m1) rfl ?_; conv => whnf) | ((first | refine qb rfl rfl ?_ | refine qi (by assumption) rfl rfl ?_ | refine ql rfl ?_ | refine qo rfl rfl ?_ | refine qs rfl rfl ?_ | refine qn rfl rfl ?_); conv => whnf))
    refine c_cut (ι := Unit) (fun _ => ⟨[(0, .lst 1 (c.map bytA)), (1, .lst 1 (m.map bytA)), (5, .lst 2 ((base).map entA)), (6, .lst 2 ((a).map entA)), (7, .lst 2 ((b).map entA)), (8, .lst 2 ((M).map entA)), (9, .lst 1 ((K).map strA)), (10, .v (.int .i64 (d))), (11, .lst 2 ((M).map entA)), (12, .lst 1 ((K).map strA)), (13, .v (.int .i64 (d)))], [], []⟩) ?_ (fun _ => ?_)
    · refine runC_sound _ _ _ ?_
      conv => whnf
      repeat (first | (refine qf (m2) rfl ?_; conv => whnf) | (refine qc (m2) rfl ?_; conv => whnf) | ((first | refine qb rfl rfl ?_ | refine qi (by assumption) rfl rfl ?_ | refine ql rfl ?_ | refine qo rfl rfl ?_ | refine qs rfl rfl ?_ | refine qn rfl rfl ?_); conv => whnf))
      exact ⟨(), ⟨by refine ⟨?_, ?_⟩ <;> (repeat (first | trivial | exact ⟨rfl, trivial⟩ | refine ⟨rfl, ?_⟩ | refine ⟨.inl ⟨rfl, rfl⟩, ?_⟩ | refine ⟨.inr ⟨_, _, rfl, rfl, rfl, rfl, rfl⟩, ?_⟩)), trivial⟩⟩
    refine c_seq ?_
    refine runC_sound _ _ _ ?_
    conv => whnf
    repeat (first | (refine qc (m3) rfl ?_; conv => whnf) | ((first | refine qb rfl rfl ?_ | refine qi (by assumption) rfl rfl ?_ | refine ql rfl ?_ | refine qo rfl rfl ?_ | refine qs rfl rfl ?_ | refine qn rfl rfl ?_); conv => whnf))
    refine c_cut (ι := Unit) (fun _ => ⟨[(0, .lst 1 (c.map bytA)), (1, .lst 1 (m.map bytA)), (5, .lst 2 ((base).map entA)), (6, .lst 2 ((a).map entA)), (7, .lst 2 ((b).map entA)), (8, .lst 2 ((M).map entA)), (9, .lst 1 ((K).map strA)), (10, .v (.int .i64 (d))), (11, .lst 2 ((M).map entA)), (12, .lst 1 ((K).map strA)), (13, .v (.int .i64 (d))), (14, .lst 2 ((M).map entA)), (15, .lst 1 ((K).map strA)), (16, .v (.int .i64 (d))), (19, .v (.int .i64 (d)))], [], []⟩) ?_ (fun _ => ?_)
    · refine runC_sound _ _ _ ?_
      conv => whnf
      repeat (first | (refine qf (m4) rfl ?_; conv => whnf) | (refine qc (m4) rfl ?_; conv => whnf) | ((first | refine qb rfl rfl ?_ | refine qi (by assumption) rfl rfl ?_ | refine ql rfl ?_ | refine qo rfl rfl ?_ | refine qs rfl rfl ?_ | refine qn rfl rfl ?_); conv => whnf))
      exact ⟨(), ⟨by refine ⟨?_, ?_⟩ <;> (repeat (first | trivial | exact ⟨rfl, trivial⟩ | refine ⟨rfl, ?_⟩ | refine ⟨.inl ⟨rfl, rfl⟩, ?_⟩ | refine ⟨.inr ⟨_, _, rfl, rfl, rfl, rfl, rfl⟩, ?_⟩)), trivial⟩⟩
    refine c_cut (ι := Unit) (fun _ => ⟨[(0, .lst 1 (c.map bytA)), (1, .lst 1 (m.map bytA)), (5, .lst 2 ((base).map entA)), (6, .lst 2 ((a).map entA)), (7, .lst 2 ((b).map entA)), (8, .lst 2 ((M).map entA)), (9, .lst 1 ((K).map strA)), (13, .v (.int .i64 (d)))], [], []⟩) ?_ (fun _ => ?_)
    · by_cases hd0 : d = 0
      · obtain ⟨gM, lM, hlk⟩ := hMg hd0
        have sM := ac_SameMap_t (gM.ok lM) gM.small
        refine runC_sound _ _ _ ?_
        conv => whnf
        repeat (first | (refine r_put (p_bin (b_ne_f rfl) rfl rfl rfl) rfl rfl ?_; conv => whnf) | (refine qc (t1) rfl ?_; conv => whnf) | (refine qc (sM) rfl ?_; conv => whnf) | ((first | refine qb rfl rfl ?_ | refine qi (by assumption) rfl rfl ?_ | refine ql rfl ?_ | refine qo rfl rfl ?_ | refine qs rfl rfl ?_ | refine qn rfl rfl ?_); conv => whnf))
        exact ⟨(), ⟨by refine ⟨?_, ?_⟩ <;> (repeat (first | trivial | exact ⟨rfl, trivial⟩ | refine ⟨rfl, ?_⟩ | refine ⟨.inl ⟨rfl, rfl⟩, ?_⟩ | refine ⟨.inr ⟨_, _, rfl, rfl, rfl, rfl, rfl⟩, ?_⟩)), trivial⟩⟩
      · refine runC_sound _ _ _ ?_
        conv => whnf
        repeat (first | (refine r_put (p_bin (b_ne_f rfl) rfl rfl rfl) rfl rfl ?_; conv => whnf) | (refine qc (t1) rfl ?_; conv => whnf) | ((first | refine qb rfl rfl ?_ | refine qi (by assumption) rfl rfl ?_ | refine ql rfl ?_ | refine qo rfl rfl ?_ | refine qs rfl rfl ?_ | refine qn rfl rfl ?_); conv => whnf))
        exact ⟨(), ⟨by refine ⟨?_, ?_⟩ <;> (repeat (first | trivial | exact ⟨rfl, trivial⟩ | refine ⟨rfl, ?_⟩ | refine ⟨.inl ⟨rfl, rfl⟩, ?_⟩ | refine ⟨.inr ⟨_, _, rfl, rfl, rfl, rfl, rfl⟩, ?_⟩)), trivial⟩⟩
    clear e0 m1 m2 m3 m4
    refine c_seq ?_
    refine runC_sound _ _ _ ?_
    conv => whnf
    repeat (first | ((first | refine qb rfl rfl ?_ | refine qi (by assumption) rfl rfl ?_ | refine ql rfl ?_ | refine qo rfl rfl ?_ | refine qs rfl rfl ?_ | refine qn rfl rfl ?_); conv => whnf))
    refine c_seq ?_
    refine runC_sound _ _ _ ?_
    conv => whnf
    repeat (first | ((first | refine qb rfl rfl ?_ | refine qi (by assumption) rfl rfl ?_ | refine ql rfl ?_ | refine qo rfl rfl ?_ | refine qs rfl rfl ?_ | refine qn rfl rfl ?_); conv => whnf))
    refine c_seq ?_
    refine c_seq ?_
    refine runC_sound _ _ _ ?_
    conv => whnf
    repeat (first | ((first | refine qb rfl rfl ?_ | refine qi (by assumption) rfl rfl ?_ | refine ql rfl ?_ | refine qo rfl rfl ?_ | refine qs rfl rfl ?_ | refine qn rfl rfl ?_); conv => whnf))
    repeat (first | refine c_block ?_ | refine q_then ?_)
    have hk8 : (List.map strA keys8).length = 8 := rfl
    have hk8' : keys8.length = 8 := rfl
    refine c_loop (fun i : { k : Nat // k ≤ 8 } => ⟨[(0, .lst 1 (c.map bytA)), (1, .lst 1 (m.map bytA)), (5, .lst 2 ((base).map entA)), (6, .lst 2 ((a).map entA)), (7, .lst 2 ((b).map entA)), (8, .lst 2 ((M).map entA)), (9, .lst 1 ((K).map strA)), (13, .v (.int .i64 (d))), (20, .lst 1 ((keys8).map strA)), (22, .v (.int .i64 (i.1 : Int))), (21, .v (.int .i64 (((keys8.take (i.1)).filter (clk base a b)).length : Int)))], [], []⟩) (fun i => 8 - i.1) ⟨0, by omega⟩ ⟨by refine ⟨?_, ?_⟩ <;> (repeat (first | trivial | exact ⟨rfl, trivial⟩ | refine ⟨rfl, ?_⟩ | refine ⟨.inl ⟨rfl, rfl⟩, ?_⟩ | refine ⟨.inr ⟨_, _, rfl, rfl, rfl, rfl, rfl⟩, ?_⟩)), trivial⟩ ?_
    rintro ⟨k, hk⟩
    dsimp only
    by_cases hlt : k < 8
    · have hlt' : k < keys8.length := hlt
      have hi : (keys8.map strA)[k]? = some (strA keys8[k]) := by simp [hlt']
      have hst := clash_step base a b hlt'
      have hlkM : d = 0 → lk M keys8[k] = if lk base keys8[k] = lk a keys8[k] then lk b keys8[k] else lk a keys8[k] := fun h => (hMg h).2.2 _
      have hcl : clk base a b keys8[k] = (decide (lk base keys8[k] ≠ lk a keys8[k]) && (decide (lk base keys8[k] ≠ lk b keys8[k]) && !decide (lk a keys8[k] = lk b keys8[k]))) := rfl
      have v0 := ac_value (m := base) (k := keys8[k]) rfl (by omega)
      have v1 := ac_value (m := a) (k := keys8[k]) rfl (by omega)
      have v2 := ac_value (m := b) (k := keys8[k]) rfl (by omega)
      have v3 := fun h : d = 0 => ac_value (m := M) (k := keys8[k]) (hlkM h) (by have := (hMg h).2.1; omega)
      have hcn : ((keys8.take k).filter (clk base a b)).length ≤ 8 := Nat.le_trans (List.length_filter_le _ _) (by rw [List.length_take]; omega)
      have hcn1 : ((keys8.take (k + 1)).filter (clk base a b)).length ≤ 8 := Nat.le_trans (List.length_filter_le _ _) (by rw [List.length_take]; omega)
      rw [hcl] at hst
      generalize keys8[k] = kk at *
      generalize lk base kk = o0 at *
      generalize lk a kk = o1 at *
      generalize lk b kk = o2 at *
      clear hcl hlkM e1 e2 i1 i2 j1 j2 hMg
      obtain ⟨mB, hmB⟩ : ∃ x, x = decide (o0 ≠ o1) := ⟨_, rfl⟩
      obtain ⟨tB, htB⟩ : ∃ x, x = decide (o0 ≠ o2) := ⟨_, rfl⟩
      obtain ⟨aB, haB⟩ : ∃ x, x = decide (o1 = o2) := ⟨_, rfl⟩
      rw [← hmB, ← htB, ← haB] at hst
      generalize hC0 : ((keys8.take k).filter (clk base a b)).length = n0 at *
      generalize hC1 : ((keys8.take (k + 1)).filter (clk base a b)).length = n1 at *
      refine c_seq ?_
      refine runC_sound _ _ _ ?_
      conv => whnf
      repeat (first | (refine r_put (p_bin (b_lt_t (by simp only [hk8]; omega)) rfl rfl rfl) rfl rfl ?_; conv => whnf) | ((first | refine qb rfl rfl ?_ | refine qi (by assumption) rfl rfl ?_ | refine ql rfl ?_ | refine qo rfl rfl ?_ | refine qs rfl rfl ?_ | refine qn rfl rfl ?_); conv => whnf))
      refine c_seq (c_block ?_)
      refine c_seq ?_
      refine runC_sound _ _ _ ?_
      conv => whnf
      repeat (first | (refine r_put (p_idx hi rfl rfl rfl) rfl rfl ?_; conv => whnf) | (refine qc (v0) rfl ?_; conv => whnf) | ((first | refine qb rfl rfl ?_ | refine qi (by assumption) rfl rfl ?_ | refine ql rfl ?_ | refine qo rfl rfl ?_ | refine qs rfl rfl ?_ | refine qn rfl rfl ?_); conv => whnf))
      refine c_seq ?_
      refine runC_sound _ _ _ ?_
      conv => whnf
      repeat (first | (refine r_put (p_idx hi rfl rfl rfl) rfl rfl ?_; conv => whnf) | (refine qc (v1) rfl ?_; conv => whnf) | ((first | refine qb rfl rfl ?_ | refine qi (by assumption) rfl rfl ?_ | refine ql rfl ?_ | refine qo rfl rfl ?_ | refine qs rfl rfl ?_ | refine qn rfl rfl ?_); conv => whnf))
      refine c_cut (ι := Unit) (fun _ => ⟨[(0, .lst 1 (c.map bytA)), (1, .lst 1 (m.map bytA)), (5, .lst 2 ((base).map entA)), (6, .lst 2 ((a).map entA)), (7, .lst 2 ((b).map entA)), (8, .lst 2 ((M).map entA)), (9, .lst 1 ((K).map strA)), (13, .v (.int .i64 (d))), (20, .lst 1 ((keys8).map strA)), (22, .v (.int .i64 (k : Int))), (21, .v (.int .i64 ((n0 : Nat) : Int))), (23, .v (.int .i64 (valR o0).1)), (24, .v (.bool (valR o0).2)), (25, .v (.int .i64 (valR o1).1)), (26, .v (.bool (valR o1).2)), (27, .v (.int .i64 (valR o2).1)), (28, .v (.bool (valR o2).2))], [], []⟩) ?_ (fun _ => ?_)
      · refine runC_sound _ _ _ ?_
        conv => whnf
        repeat (first | (refine r_put (p_idx hi rfl rfl rfl) rfl rfl ?_; conv => whnf) | (refine qc (v2) rfl ?_; conv => whnf) | ((first | refine qb rfl rfl ?_ | refine qi (by assumption) rfl rfl ?_ | refine ql rfl ?_ | refine qo rfl rfl ?_ | refine qs rfl rfl ?_ | refine qn rfl rfl ?_); conv => whnf))
        exact ⟨(), ⟨by refine ⟨?_, ?_⟩ <;> (repeat (first | trivial | exact ⟨rfl, trivial⟩ | refine ⟨rfl, ?_⟩ | refine ⟨.inl ⟨rfl, rfl⟩, ?_⟩ | refine ⟨.inr ⟨_, _, rfl, rfl, rfl, rfl, rfl⟩, ?_⟩)), trivial⟩⟩
      refine c_cut (ι := Unit) (fun _ => ⟨[(0, .lst 1 (c.map bytA)), (1, .lst 1 (m.map bytA)), (5, .lst 2 ((base).map entA)), (6, .lst 2 ((a).map entA)), (7, .lst 2 ((b).map entA)), (8, .lst 2 ((M).map entA)), (9, .lst 1 ((K).map strA)), (13, .v (.int .i64 (d))), (20, .lst 1 ((keys8).map strA)), (22, .v (.int .i64 (k : Int))), (21, .v (.int .i64 ((n0 : Nat) : Int))), (23, .v (.int .i64 (valR o0).1)), (24, .v (.bool (valR o0).2)), (25, .v (.int .i64 (valR o1).1)), (26, .v (.bool (valR o1).2)), (27, .v (.int .i64 (valR o2).1)), (28, .v (.bool (valR o2).2)), (29, .v (.bool mB))], [], []⟩) ?_ (fun _ => ?_)
      · rcases val_cases o0 o1 with ⟨h1, h2⟩ | ⟨h1, h2, h3⟩ | ⟨h1, h2, h3⟩
        · have e : mB = true := by rw [hmB]; exact decide_eq_true h2
          rw [e]
          refine runC_sound _ _ _ ?_
          conv => whnf
          repeat (first | (refine r_put (p_bin (b_bneq (r := true) Try.underlying4 (by exact bne_t h1)) rfl rfl rfl) rfl rfl ?_; conv => whnf) | ((first | refine qb rfl rfl ?_ | refine qi (by assumption) rfl rfl ?_ | refine ql rfl ?_ | refine qo rfl rfl ?_ | refine qs rfl rfl ?_ | refine qn rfl rfl ?_); conv => whnf))
          exact ⟨(), ⟨by refine ⟨?_, ?_⟩ <;> (repeat (first | trivial | exact ⟨rfl, trivial⟩ | refine ⟨rfl, ?_⟩ | refine ⟨.inl ⟨rfl, rfl⟩, ?_⟩ | refine ⟨.inr ⟨_, _, rfl, rfl, rfl, rfl, rfl⟩, ?_⟩)), trivial⟩⟩
        · have e : mB = true := by rw [hmB]; exact decide_eq_true h3
          rw [e]
          refine runC_sound _ _ _ ?_
          conv => whnf
          repeat (first | (refine r_put (p_bin (b_bneq (r := false) Try.underlying4 (by exact bne_f h1)) rfl rfl rfl) rfl rfl ?_; conv => whnf) | (refine r_put (p_bin (b_ne_t h2) rfl rfl rfl) rfl rfl ?_; conv => whnf) | ((first | refine qb rfl rfl ?_ | refine qi (by assumption) rfl rfl ?_ | refine ql rfl ?_ | refine qo rfl rfl ?_ | refine qs rfl rfl ?_ | refine qn rfl rfl ?_); conv => whnf))
          exact ⟨(), ⟨by refine ⟨?_, ?_⟩ <;> (repeat (first | trivial | exact ⟨rfl, trivial⟩ | refine ⟨rfl, ?_⟩ | refine ⟨.inl ⟨rfl, rfl⟩, ?_⟩ | refine ⟨.inr ⟨_, _, rfl, rfl, rfl, rfl, rfl⟩, ?_⟩)), trivial⟩⟩
        · have e : mB = false := by rw [hmB]; exact decide_eq_false (fun q => q h3)
          rw [e]
          refine runC_sound _ _ _ ?_
          conv => whnf
          repeat (first | (refine r_put (p_bin (b_bneq (r := false) Try.underlying4 (by exact bne_f h1)) rfl rfl rfl) rfl rfl ?_; conv => whnf) | (refine r_put (p_bin (b_ne_f h2) rfl rfl rfl) rfl rfl ?_; conv => whnf) | ((first | refine qb rfl rfl ?_ | refine qi (by assumption) rfl rfl ?_ | refine ql rfl ?_ | refine qo rfl rfl ?_ | refine qs rfl rfl ?_ | refine qn rfl rfl ?_); conv => whnf))
          exact ⟨(), ⟨by refine ⟨?_, ?_⟩ <;> (repeat (first | trivial | exact ⟨rfl, trivial⟩ | refine ⟨rfl, ?_⟩ | refine ⟨.inl ⟨rfl, rfl⟩, ?_⟩ | refine ⟨.inr ⟨_, _, rfl, rfl, rfl, rfl, rfl⟩, ?_⟩)), trivial⟩⟩
      refine c_cut (ι := Unit) (fun _ => ⟨[(0, .lst 1 (c.map bytA)), (1, .lst 1 (m.map bytA)), (5, .lst 2 ((base).map entA)), (6, .lst 2 ((a).map entA)), (7, .lst 2 ((b).map entA)), (8, .lst 2 ((M).map entA)), (9, .lst 1 ((K).map strA)), (13, .v (.int .i64 (d))), (20, .lst 1 ((keys8).map strA)), (22, .v (.int .i64 (k : Int))), (21, .v (.int .i64 ((n0 : Nat) : Int))), (23, .v (.int .i64 (valR o0).1)), (24, .v (.bool (valR o0).2)), (25, .v (.int .i64 (valR o1).1)), (26, .v (.bool (valR o1).2)), (27, .v (.int .i64 (valR o2).1)), (28, .v (.bool (valR o2).2)), (29, .v (.bool mB)), (30, .v (.bool tB))], [], []⟩) ?_ (fun _ => ?_)
      · rcases val_cases o0 o2 with ⟨h1, h2⟩ | ⟨h1, h2, h3⟩ | ⟨h1, h2, h3⟩
        · have e : tB = true := by rw [htB]; exact decide_eq_true h2
          rw [e]
          refine runC_sound _ _ _ ?_
          conv => whnf
          repeat (first | (refine r_put (p_bin (b_bneq (r := true) Try.underlying4 (by exact bne_t h1)) rfl rfl rfl) rfl rfl ?_; conv => whnf) | ((first | refine qb rfl rfl ?_ | refine qi (by assumption) rfl rfl ?_ | refine ql rfl ?_ | refine qo rfl rfl ?_ | refine qs rfl rfl ?_ | refine qn rfl rfl ?_); conv => whnf))
          exact ⟨(), ⟨by refine ⟨?_, ?_⟩ <;> (repeat (first | trivial | exact ⟨rfl, trivial⟩ | refine ⟨rfl, ?_⟩ | refine ⟨.inl ⟨rfl, rfl⟩, ?_⟩ | refine ⟨.inr ⟨_, _, rfl, rfl, rfl, rfl, rfl⟩, ?_⟩)), trivial⟩⟩
        · have e : tB = true := by rw [htB]; exact decide_eq_true h3
          rw [e]
          refine runC_sound _ _ _ ?_
          conv => whnf
          repeat (first | (refine r_put (p_bin (b_bneq (r := false) Try.underlying4 (by exact bne_f h1)) rfl rfl rfl) rfl rfl ?_; conv => whnf) | (refine r_put (p_bin (b_ne_t h2) rfl rfl rfl) rfl rfl ?_; conv => whnf) | ((first | refine qb rfl rfl ?_ | refine qi (by assumption) rfl rfl ?_ | refine ql rfl ?_ | refine qo rfl rfl ?_ | refine qs rfl rfl ?_ | refine qn rfl rfl ?_); conv => whnf))
          exact ⟨(), ⟨by refine ⟨?_, ?_⟩ <;> (repeat (first | trivial | exact ⟨rfl, trivial⟩ | refine ⟨rfl, ?_⟩ | refine ⟨.inl ⟨rfl, rfl⟩, ?_⟩ | refine ⟨.inr ⟨_, _, rfl, rfl, rfl, rfl, rfl⟩, ?_⟩)), trivial⟩⟩
        · have e : tB = false := by rw [htB]; exact decide_eq_false (fun q => q h3)
          rw [e]
          refine runC_sound _ _ _ ?_
          conv => whnf
          repeat (first | (refine r_put (p_bin (b_bneq (r := false) Try.underlying4 (by exact bne_f h1)) rfl rfl rfl) rfl rfl ?_; conv => whnf) | (refine r_put (p_bin (b_ne_f h2) rfl rfl rfl) rfl rfl ?_; conv => whnf) | ((first | refine qb rfl rfl ?_ | refine qi (by assumption) rfl rfl ?_ | refine ql rfl ?_ | refine qo rfl rfl ?_ | refine qs rfl rfl ?_ | refine qn rfl rfl ?_); conv => whnf))
          exact ⟨(), ⟨by refine ⟨?_, ?_⟩ <;> (repeat (first | trivial | exact ⟨rfl, trivial⟩ | refine ⟨rfl, ?_⟩ | refine ⟨.inl ⟨rfl, rfl⟩, ?_⟩ | refine ⟨.inr ⟨_, _, rfl, rfl, rfl, rfl, rfl⟩, ?_⟩)), trivial⟩⟩
      refine c_cut (ι := Unit) (fun _ => ⟨[(0, .lst 1 (c.map bytA)), (1, .lst 1 (m.map bytA)), (5, .lst 2 ((base).map entA)), (6, .lst 2 ((a).map entA)), (7, .lst 2 ((b).map entA)), (8, .lst 2 ((M).map entA)), (9, .lst 1 ((K).map strA)), (13, .v (.int .i64 (d))), (20, .lst 1 ((keys8).map strA)), (22, .v (.int .i64 (k : Int))), (21, .v (.int .i64 ((n0 : Nat) : Int))), (23, .v (.int .i64 (valR o0).1)), (24, .v (.bool (valR o0).2)), (25, .v (.int .i64 (valR o1).1)), (26, .v (.bool (valR o1).2)), (27, .v (.int .i64 (valR o2).1)), (28, .v (.bool (valR o2).2)), (29, .v (.bool mB)), (30, .v (.bool tB)), (31, .v (.bool aB))], [], []⟩) ?_ (fun _ => ?_)
      · rcases val_cases o1 o2 with ⟨h1, h2⟩ | ⟨h1, h2, h3⟩ | ⟨h1, h2, h3⟩
        · have e : aB = false := by rw [haB]; exact decide_eq_false h2
          rw [e]
          refine runC_sound _ _ _ ?_
          conv => whnf
          repeat (first | (refine r_put (p_bin (b_beq' (r := false) Try.underlying4 (by exact beq_f h1)) rfl rfl rfl) rfl rfl ?_; conv => whnf) | ((first | refine qb rfl rfl ?_ | refine qi (by assumption) rfl rfl ?_ | refine ql rfl ?_ | refine qo rfl rfl ?_ | refine qs rfl rfl ?_ | refine qn rfl rfl ?_); conv => whnf))
          exact ⟨(), ⟨by refine ⟨?_, ?_⟩ <;> (repeat (first | trivial | exact ⟨rfl, trivial⟩ | refine ⟨rfl, ?_⟩ | refine ⟨.inl ⟨rfl, rfl⟩, ?_⟩ | refine ⟨.inr ⟨_, _, rfl, rfl, rfl, rfl, rfl⟩, ?_⟩)), trivial⟩⟩
        · have e : aB = false := by rw [haB]; exact decide_eq_false h3
          rw [e]
          refine runC_sound _ _ _ ?_
          conv => whnf
          repeat (first | (refine r_put (p_bin (b_beq' (r := true) Try.underlying4 (by exact beq_t h1)) rfl rfl rfl) rfl rfl ?_; conv => whnf) | (refine r_put (p_bin (b_eq_f h2) rfl rfl rfl) rfl rfl ?_; conv => whnf) | ((first | refine qb rfl rfl ?_ | refine qi (by assumption) rfl rfl ?_ | refine ql rfl ?_ | refine qo rfl rfl ?_ | refine qs rfl rfl ?_ | refine qn rfl rfl ?_); conv => whnf))
          exact ⟨(), ⟨by refine ⟨?_, ?_⟩ <;> (repeat (first | trivial | exact ⟨rfl, trivial⟩ | refine ⟨rfl, ?_⟩ | refine ⟨.inl ⟨rfl, rfl⟩, ?_⟩ | refine ⟨.inr ⟨_, _, rfl, rfl, rfl, rfl, rfl⟩, ?_⟩)), trivial⟩⟩
        · have e : aB = true := by rw [haB]; exact decide_eq_true h3
          rw [e]
          refine runC_sound _ _ _ ?_
          conv => whnf
          repeat (first | (refine r_put (p_bin (b_beq' (r := true) Try.underlying4 (by exact beq_t h1)) rfl rfl rfl) rfl rfl ?_; conv => whnf) | (refine r_put (p_bin (b_eq_t h2) rfl rfl rfl) rfl rfl ?_; conv => whnf) | ((first | refine qb rfl rfl ?_ | refine qi (by assumption) rfl rfl ?_ | refine ql rfl ?_ | refine qo rfl rfl ?_ | refine qs rfl rfl ?_ | refine qn rfl rfl ?_); conv => whnf))
          exact ⟨(), ⟨by refine ⟨?_, ?_⟩ <;> (repeat (first | trivial | exact ⟨rfl, trivial⟩ | refine ⟨rfl, ?_⟩ | refine ⟨.inl ⟨rfl, rfl⟩, ?_⟩ | refine ⟨.inr ⟨_, _, rfl, rfl, rfl, rfl, rfl⟩, ?_⟩)), trivial⟩⟩
      refine c_cut (ι := Unit) (fun _ => ⟨[(0, .lst 1 (c.map bytA)), (1, .lst 1 (m.map bytA)), (5, .lst 2 ((base).map entA)), (6, .lst 2 ((a).map entA)), (7, .lst 2 ((b).map entA)), (8, .lst 2 ((M).map entA)), (9, .lst 1 ((K).map strA)), (13, .v (.int .i64 (d))), (20, .lst 1 ((keys8).map strA)), (22, .v (.int .i64 (k : Int))), (21, .v (.int .i64 ((n1 : Nat) : Int))), (23, .v (.int .i64 (valR o0).1)), (24, .v (.bool (valR o0).2)), (25, .v (.int .i64 (valR o1).1)), (26, .v (.bool (valR o1).2)), (27, .v (.int .i64 (valR o2).1)), (28, .v (.bool (valR o2).2)), (29, .v (.bool mB))], [], []⟩) ?_ (fun _ => ?_)
      · clear hmB htB haB v0 v1 v2 v3
        cases mB <;> cases tB <;> cases aB
        all_goals
          simp only [Bool.and_true, Bool.and_false, Bool.true_and, Bool.false_and, Bool.not_true, Bool.not_false, if_true, Bool.false_eq_true, if_false, Nat.add_zero] at hst
          refine runC_sound _ _ _ ?_
          conv => whnf
          repeat (first | (refine r_put (p_bin (b_add (c := ((n1 : Nat) : Int)) (by omega) (by omega) (by omega)) rfl rfl rfl) rfl rfl ?_; conv => whnf) | ((first | refine qb rfl rfl ?_ | refine qi (by assumption) rfl rfl ?_ | refine ql rfl ?_ | refine qo rfl rfl ?_ | refine qs rfl rfl ?_ | refine qn rfl rfl ?_); conv => whnf))
          rw [hst]
          exact ⟨(), ⟨by refine ⟨?_, ?_⟩ <;> (repeat (first | trivial | exact ⟨rfl, trivial⟩ | refine ⟨rfl, ?_⟩ | refine ⟨.inl ⟨rfl, rfl⟩, ?_⟩ | refine ⟨.inr ⟨_, _, rfl, rfl, rfl, rfl, rfl⟩, ?_⟩)), trivial⟩⟩
      subst hC1
      by_cases hd0 : d = 0
      · have v3' := v3 hd0
        refine c_seq ?_
        refine runC_sound _ _ _ ?_
        conv => whnf
        repeat (first | ((first | refine qb rfl rfl ?_ | refine qi (by assumption) rfl rfl ?_ | refine ql rfl ?_ | refine qo rfl rfl ?_ | refine qs rfl rfl ?_ | refine qn rfl rfl ?_); conv => whnf))
        cases mB
        · have e : o0 = o1 := by simpa using hmB
          rw [if_pos e] at v3'
          refine c_seq ?_
          refine runC_sound _ _ _ ?_
          conv => whnf
          repeat (first | (refine r_put (p_idx hi rfl rfl rfl) rfl rfl ?_; conv => whnf) | (refine qc (v3') rfl ?_; conv => whnf) | ((first | refine qb rfl rfl ?_ | refine qi (by assumption) rfl rfl ?_ | refine ql rfl ?_ | refine qo rfl rfl ?_ | refine qs rfl rfl ?_ | refine qn rfl rfl ?_); conv => whnf))
          refine runC_sound _ _ _ ?_
          conv => whnf
          repeat (first | (refine r_put (p_bin (b_bneq (r := false) Try.underlying4 (by exact bne_f rfl)) rfl rfl rfl) rfl rfl ?_; conv => whnf) | (refine r_put (p_bin (b_ne_f rfl) rfl rfl rfl) rfl rfl ?_; conv => whnf) | ((first | refine qb rfl rfl ?_ | refine qi (by assumption) rfl rfl ?_ | refine ql rfl ?_ | refine qo rfl rfl ?_ | refine qs rfl rfl ?_ | refine qn rfl rfl ?_); conv => whnf))
          refine runC_sound _ _ _ ?_
          conv => whnf
          repeat (first | (refine r_put (p_bin (b_add (c := ((k + 1 : Nat) : Int)) (by omega) (by omega) (by omega)) rfl rfl rfl) rfl rfl ?_; conv => whnf) | ((first | refine qb rfl rfl ?_ | refine qi (by assumption) rfl rfl ?_ | refine ql rfl ?_ | refine qo rfl rfl ?_ | refine qs rfl rfl ?_ | refine qn rfl rfl ?_); conv => whnf))
          exact ⟨⟨k + 1, by omega⟩, ⟨by refine ⟨?_, ?_⟩ <;> (repeat (first | trivial | exact ⟨rfl, trivial⟩ | refine ⟨rfl, ?_⟩ | refine ⟨.inl ⟨rfl, rfl⟩, ?_⟩ | refine ⟨.inr ⟨_, _, rfl, rfl, rfl, rfl, rfl⟩, ?_⟩)), trivial⟩, by simp; omega⟩
        · have e : ¬ o0 = o1 := by simpa using hmB
          rw [if_neg e] at v3'
          refine c_seq ?_
          refine runC_sound _ _ _ ?_
          conv => whnf
          repeat (first | (refine r_put (p_idx hi rfl rfl rfl) rfl rfl ?_; conv => whnf) | (refine qc (v3') rfl ?_; conv => whnf) | ((first | refine qb rfl rfl ?_ | refine qi (by assumption) rfl rfl ?_ | refine ql rfl ?_ | refine qo rfl rfl ?_ | refine qs rfl rfl ?_ | refine qn rfl rfl ?_); conv => whnf))
          refine runC_sound _ _ _ ?_
          conv => whnf
          repeat (first | (refine r_put (p_bin (b_bneq (r := false) Try.underlying4 (by exact bne_f rfl)) rfl rfl rfl) rfl rfl ?_; conv => whnf) | (refine r_put (p_bin (b_ne_f rfl) rfl rfl rfl) rfl rfl ?_; conv => whnf) | ((first | refine qb rfl rfl ?_ | refine qi (by assumption) rfl rfl ?_ | refine ql rfl ?_ | refine qo rfl rfl ?_ | refine qs rfl rfl ?_ | refine qn rfl rfl ?_); conv => whnf))
          refine runC_sound _ _ _ ?_
          conv => whnf
          repeat (first | (refine r_put (p_bin (b_add (c := ((k + 1 : Nat) : Int)) (by omega) (by omega) (by omega)) rfl rfl rfl) rfl rfl ?_; conv => whnf) | ((first | refine qb rfl rfl ?_ | refine qi (by assumption) rfl rfl ?_ | refine ql rfl ?_ | refine qo rfl rfl ?_ | refine qs rfl rfl ?_ | refine qn rfl rfl ?_); conv => whnf))
          exact ⟨⟨k + 1, by omega⟩, ⟨by refine ⟨?_, ?_⟩ <;> (repeat (first | trivial | exact ⟨rfl, trivial⟩ | refine ⟨rfl, ?_⟩ | refine ⟨.inl ⟨rfl, rfl⟩, ?_⟩ | refine ⟨.inr ⟨_, _, rfl, rfl, rfl, rfl, rfl⟩, ?_⟩)), trivial⟩, by simp; omega⟩
      · refine c_seq ?_
        refine runC_sound _ _ _ ?_
        conv => whnf
        repeat (first | ((first | refine qb rfl rfl ?_ | refine qi (by assumption) rfl rfl ?_ | refine ql rfl ?_ | refine qo rfl rfl ?_ | refine qs rfl rfl ?_ | refine qn rfl rfl ?_); conv => whnf))
        refine runC_sound _ _ _ ?_
        conv => whnf
        repeat (first | (refine r_put (p_bin (b_add (c := ((k + 1 : Nat) : Int)) (by omega) (by omega) (by omega)) rfl rfl rfl) rfl rfl ?_; conv => whnf) | ((first | refine qb rfl rfl ?_ | refine qi (by assumption) rfl rfl ?_ | refine ql rfl ?_ | refine qo rfl rfl ?_ | refine qs rfl rfl ?_ | refine qn rfl rfl ?_); conv => whnf))
        exact ⟨⟨k + 1, by omega⟩, ⟨by refine ⟨?_, ?_⟩ <;> (repeat (first | trivial | exact ⟨rfl, trivial⟩ | refine ⟨rfl, ?_⟩ | refine ⟨.inl ⟨rfl, rfl⟩, ?_⟩ | refine ⟨.inr ⟨_, _, rfl, rfl, rfl, rfl, rfl⟩, ?_⟩)), trivial⟩, by simp; omega⟩

    · have hkk : k = 8 := by omega
      subst hkk
      have hKl : ((keys8.take 8).filter (clk base a b)).length = K.length := by rw [hK]; rfl
      rw [hKl]
      clear hMg
      refine runC_sound _ _ _ ?_
      conv => whnf
      repeat (first | (refine r_put (p_bin (b_lt_f (by simp only [hk8]; omega)) rfl rfl rfl) rfl rfl ?_; conv => whnf) | ((first | refine qb rfl rfl ?_ | refine qi (by assumption) rfl rfl ?_ | refine ql rfl ?_ | refine qo rfl rfl ?_ | refine qs rfl rfl ?_ | refine qn rfl rfl ?_); conv => whnf))
      refine c_cut (ι := Unit) (fun _ => ⟨[(0, .lst 1 (c.map bytA)), (1, .lst 1 (m.map bytA)), (5, .lst 2 ((base).map entA)), (6, .lst 2 ((a).map entA)), (7, .lst 2 ((b).map entA))], [], []⟩) ?_ (fun _ => ?_)
      · clear e1 e2 i1 i2 j1 j2 t2 t3 t4
        rcases hd with ⟨d0, hk0⟩ | ⟨d0, hk0⟩ | ⟨d0, hk0⟩
        all_goals
          refine runC_sound _ _ _ ?_
          conv => whnf
          repeat (first | (refine r_put (p_bin (b_bneq (r := false) Try.underlying4 (by rfl)) rfl rfl rfl) rfl rfl ?_; conv => whnf) | (refine r_put (p_bin (b_ne_f (by simp)) rfl rfl rfl) rfl rfl ?_; conv => whnf) | ((first | refine qb rfl rfl ?_ | refine qi (by assumption) rfl rfl ?_ | refine ql rfl ?_ | refine qo rfl rfl ?_ | refine qs rfl rfl ?_ | refine qn rfl rfl ?_); conv => whnf))
          exact ⟨(), ⟨by refine ⟨?_, ?_⟩ <;> (repeat (first | trivial | exact ⟨rfl, trivial⟩ | refine ⟨rfl, ?_⟩ | refine ⟨.inl ⟨rfl, rfl⟩, ?_⟩ | refine ⟨.inr ⟨_, _, rfl, rfl, rfl, rfl, rfl⟩, ?_⟩)), trivial⟩⟩
      refine c_cut (ι := Unit) (fun _ => ⟨[(5, .lst 2 ((base).map entA)), (6, .lst 2 ((a).map entA)), (7, .lst 2 ((b).map entA)), (34, .lst 3 ((p).map edtA)), (35, .lst 3 ((q).map edtA))], [], []⟩) ?_ (fun _ => ?_)
      · refine runC_sound _ _ _ ?_
        conv => whnf
        repeat (first | (refine qf (e1) rfl ?_; conv => whnf) | (refine qf (e2) rfl ?_; conv => whnf) | ((first | refine qb rfl rfl ?_ | refine qi (by assumption) rfl rfl ?_ | refine ql rfl ?_ | refine qo rfl rfl ?_ | refine qs rfl rfl ?_ | refine qn rfl rfl ?_); conv => whnf))
        exact ⟨(), ⟨by refine ⟨?_, ?_⟩ <;> (repeat (first | trivial | exact ⟨rfl, trivial⟩ | refine ⟨rfl, ?_⟩ | refine ⟨.inl ⟨rfl, rfl⟩, ?_⟩ | refine ⟨.inr ⟨_, _, rfl, rfl, rfl, rfl, rfl⟩, ?_⟩)), trivial⟩⟩
      refine c_seq ?_
      refine runC_sound _ _ _ ?_
      conv => whnf
      repeat (first | (refine qc (i1) rfl ?_; conv => whnf) | ((first | refine qb rfl rfl ?_ | refine qi (by assumption) rfl rfl ?_ | refine ql rfl ?_ | refine qo rfl rfl ?_ | refine qs rfl rfl ?_ | refine qn rfl rfl ?_); conv => whnf))
      refine c_cut (ι := Unit) (fun _ => ⟨[(5, .lst 2 ((base).map entA)), (6, .lst 2 ((a).map entA)), (7, .lst 2 ((b).map entA)), (36, .lst 2 ((E.1).map entA)), (37, .lst 1 ((E.2.1).map strA)), (38, .v (.int .i64 (E.2.2))), (39, .lst 2 ((E.1).map entA)), (40, .lst 1 ((E.2.1).map strA)), (41, .v (.int .i64 (E.2.2)))], [], []⟩) ?_ (fun _ => ?_)
      · refine runC_sound _ _ _ ?_
        conv => whnf
        repeat (first | (refine qf (i2) rfl ?_; conv => whnf) | (refine qc (i2) rfl ?_; conv => whnf) | ((first | refine qb rfl rfl ?_ | refine qi (by assumption) rfl rfl ?_ | refine ql rfl ?_ | refine qo rfl rfl ?_ | refine qs rfl rfl ?_ | refine qn rfl rfl ?_); conv => whnf))
        exact ⟨(), ⟨by refine ⟨?_, ?_⟩ <;> (repeat (first | trivial | exact ⟨rfl, trivial⟩ | refine ⟨rfl, ?_⟩ | refine ⟨.inl ⟨rfl, rfl⟩, ?_⟩ | refine ⟨.inr ⟨_, _, rfl, rfl, rfl, rfl, rfl⟩, ?_⟩)), trivial⟩⟩
      refine c_seq ?_
      refine runC_sound _ _ _ ?_
      conv => whnf
      repeat (first | (refine qc (j1) rfl ?_; conv => whnf) | ((first | refine qb rfl rfl ?_ | refine qi (by assumption) rfl rfl ?_ | refine ql rfl ?_ | refine qo rfl rfl ?_ | refine qs rfl rfl ?_ | refine qn rfl rfl ?_); conv => whnf))
      refine c_cut (ι := Unit) (fun _ => ⟨[(36, .lst 2 ((E.1).map entA)), (37, .lst 1 ((E.2.1).map strA)), (38, .v (.int .i64 (E.2.2))), (39, .lst 2 ((E.1).map entA)), (40, .lst 1 ((E.2.1).map strA)), (41, .v (.int .i64 (E.2.2))), (42, .lst 3 ((R.1).map edtA)), (43, .lst 1 ((R.2.1).map strA)), (44, .v (.int .i64 (R.2.2))), (45, .lst 3 ((R.1).map edtA)), (46, .lst 1 ((R.2.1).map strA)), (47, .v (.int .i64 (R.2.2)))], [], []⟩) ?_ (fun _ => ?_)
      · refine runC_sound _ _ _ ?_
        conv => whnf
        repeat (first | (refine qf (j2) rfl ?_; conv => whnf) | (refine qc (j2) rfl ?_; conv => whnf) | ((first | refine qb rfl rfl ?_ | refine qi (by assumption) rfl rfl ?_ | refine ql rfl ?_ | refine qo rfl rfl ?_ | refine qs rfl rfl ?_ | refine qn rfl rfl ?_); conv => whnf))
        exact ⟨(), ⟨by refine ⟨?_, ?_⟩ <;> (repeat (first | trivial | exact ⟨rfl, trivial⟩ | refine ⟨rfl, ?_⟩ | refine ⟨.inl ⟨rfl, rfl⟩, ?_⟩ | refine ⟨.inr ⟨_, _, rfl, rfl, rfl, rfl, rfl⟩, ?_⟩)), trivial⟩⟩
      clear e1 e2 i1 i2 j1 j2
      by_cases hE0 : E.2.2 = 0
      · obtain ⟨gE, lE⟩ := hE hE0
        have sE := ac_SameMap_t (gE.ok lE) gE.small
        refine runC_sound _ _ _ ?_
        conv => whnf
        repeat (first | (refine r_put (p_bin (b_eq_t rfl) rfl rfl rfl) rfl rfl ?_; conv => whnf) | (refine qc (t2) rfl ?_; conv => whnf) | (refine qc (sE) rfl ?_; conv => whnf) | (refine qc (t3) rfl ?_; conv => whnf) | (refine qc (t4) rfl ?_; conv => whnf) | ((first | refine qb rfl rfl ?_ | refine qi (by assumption) rfl rfl ?_ | refine ql rfl ?_ | refine qo rfl rfl ?_ | refine qs rfl rfl ?_ | refine qn rfl rfl ?_); conv => whnf))
        exact r_ret1 rfl trivial
      · refine runC_sound _ _ _ ?_
        conv => whnf
        repeat (first | (refine r_put (p_bin (b_eq_t rfl) rfl rfl rfl) rfl rfl ?_; conv => whnf) | (refine qc (t2) rfl ?_; conv => whnf) | (refine qc (t3) rfl ?_; conv => whnf) | (refine qc (t4) rfl ?_; conv => whnf) | ((first | refine qb rfl rfl ?_ | refine qi (by assumption) rfl rfl ?_ | refine ql rfl ?_ | refine qo rfl rfl ?_ | refine qs rfl rfl ?_ | refine qn rfl rfl ?_); conv => whnf))
        exact r_ret1 rfl trivial

end Go.Proofs.Ytjhimcddgkoghaa.AM
