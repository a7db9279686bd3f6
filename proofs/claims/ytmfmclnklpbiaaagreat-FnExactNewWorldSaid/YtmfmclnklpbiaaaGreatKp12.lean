/- Texts of the machine over data, folded. -/
import Derived.Test.YtmfmclnklpbiaaaGreatKp6
import Derived.Test.YtmfmclnklpbiaaaGreatKp11
import Derived.Test.YtmfmclnklpbiaaaGreatKp9
/- The law of RefsOK; LoadRef on both sides and its law. -/
namespace Go.Proofs.YtmfmclnklpbiaaaGreat.AM
open Go Go.RowKit
set_option linter.unusedVariables false
set_option linter.unusedSimpArgs false
set_option maxRecDepth 100000
def nmOK (N : Nat) (l : List Rf) : Prop := ∀ e ∈ l, e.name.size ≤ N
attribute [local irreducible] ACode AOps AOps2 RetG RetM Pre ACG
/-- the code that functions of references and a name begin with -/
noncomputable def askF (l : List Rf) (x : ByteArray) : Int := if 4096 < l.length ∨ 65536 < x.size then 2 else if refsB l = true then 0 else 1
theorem askF_long {l : List Rf} {x : ByteArray} (h : 4096 < l.length ∨ 65536 < x.size) : askF l x = 2 := by unfold askF; rw [if_pos h]
theorem askF_bad {l : List Rf} {x : ByteArray} (h : ¬ (4096 < l.length ∨ 65536 < x.size)) (hb : refsB l = false) : askF l x = 1 := by unfold askF; rw [if_neg h, if_neg (by rw [hb]; simp)]
theorem askF_ok {l : List Rf} {x : ByteArray} (h : ¬ (4096 < l.length ∨ 65536 < x.size)) (hb : refsB l = true) : askF l x = 0 := by unfold askF; rw [if_neg h, if_pos hb]
theorem ac_refsCode {l : List Rf} {x : ByteArray} (hm : l.length ≤ maxLen) (hk : nmOK maxLen l) (hx : x.size ≤ maxLen) : AC Tryz.prog 76 [.lst 4 (l.map refA), .v (.string x)] ⟨.v (.int .i64 (askF l x)), []⟩ := by
  have hm' := hm
  unfold maxLen at hm' hx
  have h1 := ac_iRefsOK hm hk
  by_cases a1 : 4096 < l.length
  · rw [askF_long (.inl a1)]
    refine r_of Th_ok (by kernel_rfl) Tryz.func76 rfl Tryz.ntmps76 Tryz.results76 (by kernel_rfl) rfl ?_; conv => whnf
    repeat (((first | refine qb rfl rfl ?_ | refine qi (by assumption) rfl rfl ?_ | refine ql rfl ?_ | refine qo rfl rfl ?_ | refine qs rfl rfl ?_ | refine qn rfl rfl ?_); conv => whnf))
    exact r_ret1 rfl trivial
  by_cases a2 : 65536 < x.size
  · rw [askF_long (.inr a2)]
    refine r_of Th_ok (by kernel_rfl) Tryz.func76 rfl Tryz.ntmps76 Tryz.results76 (by kernel_rfl) rfl ?_; conv => whnf
    repeat (((first | refine qb rfl rfl ?_ | refine qi (by assumption) rfl rfl ?_ | refine ql rfl ?_ | refine qo rfl rfl ?_ | refine qs rfl rfl ?_ | refine qn rfl rfl ?_); conv => whnf))
    exact r_ret1 rfl trivial
  have a3 : ¬ (4096 < l.length ∨ 65536 < x.size) := by omega
  cases hb : refsB l with
  | false =>
    rw [hb] at h1
    rw [askF_bad a3 hb]
    refine r_of Th_ok (by kernel_rfl) Tryz.func76 rfl Tryz.ntmps76 Tryz.results76 (by kernel_rfl) rfl ?_; conv => whnf
    repeat (first | ((first | refine qb rfl rfl ?_ | refine qi (by assumption) rfl rfl ?_ | refine ql rfl ?_ | refine qo rfl rfl ?_ | refine qs rfl rfl ?_ | refine qn rfl rfl ?_); conv => whnf) | (refine qc (h1) rfl ?_; conv => whnf))
    exact r_ret1 rfl trivial
  | true =>
    rw [hb] at h1
    rw [askF_ok a3 hb]
    refine r_of Th_ok (by kernel_rfl) Tryz.func76 rfl Tryz.ntmps76 Tryz.results76 (by kernel_rfl) rfl ?_; conv => whnf
    repeat (first | ((first | refine qb rfl rfl ?_ | refine qi (by assumption) rfl rfl ?_ | refine ql rfl ?_ | refine qo rfl rfl ?_ | refine qs rfl rfl ?_ | refine qn rfl rfl ?_); conv => whnf) | (refine qc (h1) rfl ?_; conv => whnf))
    exact r_ret1 rfl trivial
end Go.Proofs.YtmfmclnklpbiaaaGreat.AM
/- LoadRef and LiveRefs on both sides, and their laws. -/
namespace Go.Proofs.YtmfmclnklpbiaaaGreat.AM
open Go Go.RowKit
set_option linter.unusedVariables false
set_option linter.unusedSimpArgs false
set_option maxRecDepth 100000
attribute [local irreducible] ACode AOps AOps2 RetG RetM Pre ACG
end Go.Proofs.YtmfmclnklpbiaaaGreat.AM
/- References marked and held; LiveRefs on both sides, and its law. -/
namespace Go.Proofs.YtmfmclnklpbiaaaGreat.AM
open Go Go.RowKit
set_option linter.unusedVariables false
set_option linter.unusedSimpArgs false
set_option maxRecDepth 100000
def markR (k : Int) : Rf := ⟨markB k, k + 1, k + 1 + 1, decide ((k + 1 + 1 + 1) % 3 = 0)⟩
def markedR : Nat → Int → List Rf
  | 0, _ => []
  | n + 1, k => markR k :: markedR n (k + 4)
theorem markedR_length : ∀ (n : Nat) (k : Int), (markedR n k).length = n
  | 0, _ => rfl
  | n + 1, k => by simp [markedR, markedR_length n (k + 4)]
theorem markedR_get : ∀ (n : Nat) (k0 : Int) (k : Nat) (h : k < n), (markedR n k0)[k]'(by rw [markedR_length]; exact h) = markR (k0 + 4 * k)
  | n + 1, k0, 0, h => by simp [markedR]
  | n + 1, k0, k + 1, h => by
    have := markedR_get n (k0 + 4) k (by omega)
    simp only [markedR, List.getElem_cons_succ]
    rw [this]; congr 1; omega
theorem markedR_snoc : ∀ (n : Nat) (k : Int), markedR (n + 1) k = markedR n k ++ [markR (k + 4 * n)]
  | 0, k => by simp [markedR]
  | n + 1, k => by
    rw [markedR, markedR_snoc n (k + 4), markedR]
    have e : k + 4 + 4 * (n : Int) = k + 4 * ((n + 1 : Nat) : Int) := by omega
    rw [e]; rfl
theorem fold_set4 {α : Type} (l : List α) (k : Nat) (a b c d : α) : (((l.set k a).set k b).set k c).set k d = l.set k d := by simp [List.set_set]
attribute [local irreducible] ACode AOps AOps2 RetG RetM Pre ACG
set_option maxHeartbeats 2000000 in
theorem ac_markRefS {l : List Rf} {k0 : Int} (hm : l.length ≤ 1048600) (h0 : 0 ≤ k0) (h1 : k0 ≤ 8388608) : ACM Tryz.prog 43 ⟨105, 4, l.map refA⟩ ((markedR l.length k0).map refA) [.v (.int .i64 k0)] (.int .i64 (k0 + 4 * l.length)) := by
  refine r_ofM Th_ok (by kernel_rfl) Tryz.func43 rfl Tryz.ntmps43 Tryz.results43 (by kernel_rfl) rfl ?_ ?_
  · exact flat_map flat_ref _
  conv => whnf
  refine r_loop (ι := { k : Nat // k ≤ l.length }) (fun k => ⟨[(0, .own 0), (1, .v (.int .i64 (k0 + 4 * (k.1 : Int)))), (5, .v (.int .i64 (k.1 : Int)))], [(0, ⟨105, 4, (markedR k.1 k0 ++ l.drop k.1).map refA⟩)]⟩) (fun k => l.length - k.1) ⟨0, Nat.zero_le _⟩ (by
    refine ⟨⟨rfl, trivial⟩, .inl ⟨rfl, rfl⟩, .inl ⟨?_, rfl⟩, .inl ⟨rfl, rfl⟩, trivial⟩
    show AV.v (.int .i64 k0) = _
    simp) ?_
  rintro ⟨k, hk⟩
  dsimp only
  have hml : (markedR k k0 ++ l.drop k).length = l.length := by simp [markedR_length]; omega
  conv => whnf
  by_cases hlt : k < l.length
  · have hlt' : k < (markedR k k0 ++ l.drop k).length := by omega
    have hset : (markedR k k0 ++ l.drop k).set k (markR (k0 + 4 * k)) = markedR (k + 1) k0 ++ l.drop (k + 1) := by
      rw [List.set_append_right _ _ (by rw [markedR_length]; exact Nat.le_refl _), markedR_length, Nat.sub_self, List.drop_eq_getElem_cons hlt, List.set_cons_zero, markedR_snoc, List.append_assoc]; rfl
    have hset' : ((markedR k k0 ++ l.drop k).map refA).set k (refA (markR (k0 + 4 * k))) = (markedR (k + 1) k0 ++ l.drop (k + 1)).map refA := by rw [← List.map_set, hset]
    generalize hX : markedR k k0 ++ l.drop k = X at *
    have hX0 : k < (X.map refA).length := by simpa using hlt'
    by_cases hz : (k0 + 4 * (k : Int) + 1 + 1 + 1) % 3 = 0
    · have hdz : decide ((k0 + 4 * (k : Int) + 1 + 1 + 1) % 3 = 0) = true := decide_eq_true hz
      repeat (first | ((first | refine qb rfl rfl ?_ | refine qi (by assumption) rfl rfl ?_ | refine ql rfl ?_ | refine qo rfl rfl ?_ | refine qs rfl rfl ?_ | refine qn rfl rfl ?_); conv => whnf) | (refine .inl (And.intro (by kernel_rfl) ?_); conv => whnf) | (refine qc (ac_markText (k := k0 + 4 * (k : Int)) (by omega) (by omega)) rfl ?_; conv => whnf) | (refine r_put (p_bin (b_rem (by omega) (by omega) (by omega) (by omega) rfl) rfl rfl rfl) rfl rfl ?_; conv => whnf) | (refine r_put (p_oidx (by simpa using hlt') rfl rfl rfl rfl rfl) rfl rfl ?_; conv => whnf) | (refine r_step (p_ostore (getA _ hlt') rfl rfl rfl rfl rfl rfl) rfl rfl (fun e => by first | exact .inl rfl | contradiction | exact .inr (.inl (by kernel_rfl))) ?_; conv => whnf) | (refine r_step (p_ostore (set_at (by simpa using hlt')) rfl rfl rfl rfl rfl rfl) rfl rfl (fun e => by first | exact .inl rfl | contradiction | exact .inr (.inl (by kernel_rfl))) ?_; conv => whnf))
      refine ⟨⟨k + 1, hlt⟩, ⟨⟨?_, trivial⟩, .inl ⟨rfl, rfl⟩, .inl ⟨?_, rfl⟩, .inl ⟨rfl, rfl⟩, trivial⟩, by simp; omega⟩
      · refine congrArg (fun x => some (OB.mk _ _ x)) (Eq.trans (fold_set4 _ _ _ _ _ _) (Eq.trans ?_ hset'))
        show _ = List.set _ k (refA (markR (k0 + 4 * k)))
        unfold markR; rw [hdz]; rfl
      · show AV.v (.int .i64 (k0 + 4 * k + 1 + 1 + 1 + 1)) = _
        congr 2
        simp; omega
    · have hdz : decide ((k0 + 4 * (k : Int) + 1 + 1 + 1) % 3 = 0) = false := decide_eq_false hz
      repeat (first | ((first | refine qb rfl rfl ?_ | refine qi (by assumption) rfl rfl ?_ | refine ql rfl ?_ | refine qo rfl rfl ?_ | refine qs rfl rfl ?_ | refine qn rfl rfl ?_); conv => whnf) | (refine .inl (And.intro (by kernel_rfl) ?_); conv => whnf) | (refine qc (ac_markText (k := k0 + 4 * (k : Int)) (by omega) (by omega)) rfl ?_; conv => whnf) | (refine r_put (p_bin (b_rem (by omega) (by omega) (by omega) (by omega) rfl) rfl rfl rfl) rfl rfl ?_; conv => whnf) | (refine r_put (p_oidx (by simpa using hlt') rfl rfl rfl rfl rfl) rfl rfl ?_; conv => whnf) | (refine r_step (p_ostore (getA _ hlt') rfl rfl rfl rfl rfl rfl) rfl rfl (fun e => by first | exact .inl rfl | contradiction | exact .inr (.inl (by kernel_rfl))) ?_; conv => whnf) | (refine r_step (p_ostore (set_at (by simpa using hlt')) rfl rfl rfl rfl rfl rfl) rfl rfl (fun e => by first | exact .inl rfl | contradiction | exact .inr (.inl (by kernel_rfl))) ?_; conv => whnf))
      refine ⟨⟨k + 1, hlt⟩, ⟨⟨?_, trivial⟩, .inl ⟨rfl, rfl⟩, .inl ⟨?_, rfl⟩, .inl ⟨rfl, rfl⟩, trivial⟩, by simp; omega⟩
      · refine congrArg (fun x => some (OB.mk _ _ x)) (Eq.trans (fold_set4 _ _ _ _ _ _) (Eq.trans ?_ hset'))
        show _ = List.set _ k (refA (markR (k0 + 4 * k)))
        unfold markR; rw [hdz]; rfl
      · show AV.v (.int .i64 (k0 + 4 * k + 1 + 1 + 1 + 1)) = _
        congr 2
        simp; omega
  · have hkk : k = l.length := by omega
    subst hkk
    repeat (first | ((first | refine qb rfl rfl ?_ | refine qi (by assumption) rfl rfl ?_ | refine ql rfl ?_ | refine qo rfl rfl ?_ | refine qs rfl rfl ?_ | refine qn rfl rfl ?_); conv => whnf) | (refine .inl (And.intro (by kernel_rfl) ?_); conv => whnf) | (rw [hml]))
    exact r_retM rfl (by show some (OB.mk _ _ _) = _; simp)
set_option maxHeartbeats 2000000 in
theorem ac_heldRefS {n : Nat} {k0 : Int} (hm : n ≤ 1048600) (h0 : 0 ≤ k0) (h1 : k0 ≤ 8388608) : AC Tryz.prog 90 [.lst 4 ((markedR n k0).map refA), .v (.int .i64 k0)] ⟨.v (.int .i64 (k0 + 4 * n)), []⟩ := by
  have hml := markedR_length n k0
  refine r_of Th_ok (by kernel_rfl) Tryz.func90 rfl Tryz.ntmps90 Tryz.results90 (by kernel_rfl) rfl ?_; conv => whnf
  refine r_loop (ι := { k : Nat // k ≤ n }) (fun k => ⟨[(0, .lst 4 ((markedR n k0).map refA)), (1, .v (.int .i64 (k0 + 4 * (k.1 : Int)))), (5, .v (.int .i64 (k.1 : Int)))], []⟩) (fun k => n - k.1) ⟨0, Nat.zero_le _⟩ (by
    refine ⟨trivial, .inl ⟨rfl, rfl⟩, .inl ⟨?_, rfl⟩, .inl ⟨rfl, rfl⟩, trivial⟩
    show AV.v (.int .i64 k0) = _
    simp) ?_
  rintro ⟨k, hk⟩
  dsimp only
  conv => whnf
  by_cases hlt : k < n
  · have hlt' : k < (markedR n k0).length := by omega
    have hg := markedR_get n k0 k hlt
    have hg1 : (markedR n k0)[k].name = markB (k0 + 4 * k) := by rw [hg]; rfl
    have hg2 : (markedR n k0)[k].head = k0 + 4 * k + 1 := by rw [hg]; rfl
    have hg3 : (markedR n k0)[k].ver = k0 + 4 * k + 1 + 1 := by rw [hg]; rfl
    have hg4 : (markedR n k0)[k].gone = decide ((k0 + 4 * (k : Int) + 1 + 1 + 1) % 3 = 0) := by rw [hg]; rfl
    by_cases hz : (k0 + 4 * (k : Int) + 1 + 1 + 1) % 3 = 0
    · rw [decide_eq_true hz] at hg4
      repeat (first | ((first | refine qb rfl rfl ?_ | refine qi (by assumption) rfl rfl ?_ | refine ql rfl ?_ | refine qo rfl rfl ?_ | refine qs rfl rfl ?_ | refine qn rfl rfl ?_); conv => whnf) | (refine .inl (And.intro (by kernel_rfl) ?_); conv => whnf) | (refine qc (ac_markText (k := k0 + 4 * (k : Int)) (by omega) (by omega)) rfl ?_; conv => whnf) | (refine r_put (p_bin (b_sne_f hg1) rfl rfl rfl) rfl rfl ?_; conv => whnf) | (refine r_put (p_bin (b_rem (by omega) (by omega) (by omega) (by omega) rfl) rfl rfl rfl) rfl rfl ?_; conv => whnf) | (rw [hg4]; conv => whnf) | (refine r_put (p_bin (b_bne Tryz.underlying4) rfl rfl rfl) rfl rfl ?_; rw [hg4]; conv => whnf) | (refine r_put (p_bin (b_bne Tryz.underlying4) rfl rfl rfl) rfl rfl ?_; conv => whnf))
      refine ⟨⟨k + 1, hlt⟩, ⟨trivial, .inl ⟨rfl, rfl⟩, .inl ⟨?_, rfl⟩, .inl ⟨rfl, rfl⟩, trivial⟩, by simp; omega⟩
      show AV.v (.int .i64 (k0 + 4 * k + 1 + 1 + 1 + 1)) = _
      congr 2
      simp; omega
    · rw [decide_eq_false hz] at hg4
      repeat (first | ((first | refine qb rfl rfl ?_ | refine qi (by assumption) rfl rfl ?_ | refine ql rfl ?_ | refine qo rfl rfl ?_ | refine qs rfl rfl ?_ | refine qn rfl rfl ?_); conv => whnf) | (refine .inl (And.intro (by kernel_rfl) ?_); conv => whnf) | (refine qc (ac_markText (k := k0 + 4 * (k : Int)) (by omega) (by omega)) rfl ?_; conv => whnf) | (refine r_put (p_bin (b_sne_f hg1) rfl rfl rfl) rfl rfl ?_; conv => whnf) | (refine r_put (p_bin (b_rem (by omega) (by omega) (by omega) (by omega) rfl) rfl rfl rfl) rfl rfl ?_; conv => whnf) | (rw [hg4]; conv => whnf) | (refine r_put (p_bin (b_bne Tryz.underlying4) rfl rfl rfl) rfl rfl ?_; rw [hg4]; conv => whnf) | (refine r_put (p_bin (b_bne Tryz.underlying4) rfl rfl rfl) rfl rfl ?_; conv => whnf))
      refine ⟨⟨k + 1, hlt⟩, ⟨trivial, .inl ⟨rfl, rfl⟩, .inl ⟨?_, rfl⟩, .inl ⟨rfl, rfl⟩, trivial⟩, by simp; omega⟩
      show AV.v (.int .i64 (k0 + 4 * k + 1 + 1 + 1 + 1)) = _
      congr 2
      simp; omega
  · have hkk : k = n := by omega
    subst hkk
    repeat (first | ((first | refine qb rfl rfl ?_ | refine qi (by assumption) rfl rfl ?_ | refine ql rfl ?_ | refine qo rfl rfl ?_ | refine qs rfl rfl ?_ | refine qn rfl rfl ?_); conv => whnf) | (refine .inl (And.intro (by kernel_rfl) ?_); conv => whnf) | (rw [hml]))
    exact r_ret1 rfl trivial
end Go.Proofs.YtmfmclnklpbiaaaGreat.AM
namespace Go.Proofs.YtmfmclnklpbiaaaGreat.AM
open Go Go.RowKit
set_option linter.unusedVariables false
set_option linter.unusedSimpArgs false
set_option maxRecDepth 100000
abbrev wshZ : Wsh := ⟨0, eB, eB, eB, []⟩
theorem all_wsh (ws : List Wsh) : ∀ x ∈ ws.map wshA, asz x = 5 := fun x hx => by obtain ⟨e, _, rfl⟩ := List.mem_map.1 hx; rfl
theorem noL_edt {l : List Edt} : ∀ x ∈ l.map edtA, noLst x = true := fun x hx => by obtain ⟨_, _, rfl⟩ := List.mem_map.1 hx; rfl
def szHS (ws : List Wsh) (l : Int) : Int := if l - ws.length < 0 then -1 else szG szH ws (l - ws.length)
theorem szGH_drop {es : List Wsh} {k : Nat} {l : Int} (h : k < es.length) : szG szH (es.drop k) l = if szH es[k] l < 0 then -1 else szG szH (es.drop (k + 1)) (szH es[k] l) := by
  rw [List.drop_eq_getElem_cons h, szG]
def totH : List Wsh → Nat
  | [] => 0
  | w :: ws => w.edits.length + totH ws
theorem totH_take : ∀ (l : List Wsh) (i : Nat), totH (l.take i) ≤ totH l
  | [], i => by simp [totH]
  | c :: l, 0 => by simp [totH]
  | c :: l, i + 1 => by have := totH_take l i; simp only [List.take_succ_cons, totH]; omega
theorem totH_at : ∀ (l : List Wsh) (i : Nat) (h : i < l.length), l[i].edits.length ≤ totH l
  | c :: l, 0, h => by simp [totH]
  | c :: l, i + 1, h => by have := totH_at l i (by simpa using h); simp only [List.getElem_cons_succ, totH]; omega
theorem szH_tot {o : Wsh} {l : Int} (h : 0 ≤ szH o l) : szH o l ≤ l - o.edits.length := by
  unfold szH at h ⊢
  split at h
  · omega
  split at h
  · omega
  split at h
  · omega
  split at h
  · omega
  · rename_i a b c d
    rw [if_neg a, if_neg b, if_neg c, if_neg d]
    unfold szL at h ⊢
    split at h
    · omega
    · rename_i hn
      rw [if_neg hn]
      have := (szF_le h).1
      omega
def stepW (w : Wsh) (k : Int) : Int := k + 4 + 3 * w.edits.length
def markW (w : Wsh) (k : Int) : Wsh := ⟨k, markB (k + 1), markB (k + 2), markB (k + 3), markedE w.edits.length (k + 4)⟩
def kW : List Wsh → Int → Int
  | [], k => k
  | c :: cs, k => kW cs (stepW c k)
def markedW : List Wsh → Int → List Wsh
  | [], _ => []
  | c :: cs, k => markW c k :: markedW cs (stepW c k)
theorem kW_app : ∀ (a b : List Wsh) (k : Int), kW (a ++ b) k = kW b (kW a k)
  | [], b, k => rfl
  | c :: a, b, k => by simp only [List.cons_append, kW]; exact kW_app a b _
theorem markedW_app : ∀ (a b : List Wsh) (k : Int), markedW (a ++ b) k = markedW a k ++ markedW b (kW a k)
  | [], b, k => rfl
  | c :: a, b, k => by simp only [List.cons_append, markedW, kW]; rw [markedW_app a b _]
theorem markedW_length : ∀ (l : List Wsh) (k : Int), (markedW l k).length = l.length
  | [], _ => rfl
  | c :: l, k => by simp [markedW, markedW_length l _]
theorem markedW_snoc {l : List Wsh} {i : Nat} {k : Int} (h : i < l.length) : markedW (l.take (i + 1)) k = markedW (l.take i) k ++ [markW l[i] (kW (l.take i) k)] := by
  rw [List.take_succ_eq_append_getElem h, markedW_app]; rfl
theorem kW_snoc {l : List Wsh} {i : Nat} {k : Int} (h : i < l.length) : kW (l.take (i + 1)) k = stepW l[i] (kW (l.take i) k) := by
  rw [List.take_succ_eq_append_getElem h, kW_app]; rfl
theorem markedW_get {l : List Wsh} {i : Nat} {k : Int} (h : i < l.length) : (markedW l k)[i]'(by rw [markedW_length]; exact h) = markW l[i] (kW (l.take i) k) := by
  have h1 : l = l.take i ++ l.drop i := (List.take_append_drop i l).symm
  have h2 : markedW l k = markedW (l.take i) k ++ markedW (l.drop i) (kW (l.take i) k) := by rw [← markedW_app, List.take_append_drop]
  have h3 : (markedW (l.take i) k).length = i := by rw [markedW_length, List.length_take]; omega
  have h4 : (markedW l k)[i]? = some (markW l[i] (kW (l.take i) k)) := by
    rw [h2, List.getElem?_append_right (by omega), h3, Nat.sub_self, List.drop_eq_getElem_cons h]; rfl
  obtain ⟨_, h5⟩ := List.getElem?_eq_some_iff.1 h4
  exact h5
theorem kW_le : ∀ (l : List Wsh) (k : Int), k ≤ kW l k ∧ kW l k = k + 4 * l.length + 3 * totH l
  | [], k => by simp [kW, totH]
  | c :: l, k => by
    have := kW_le l (stepW c k)
    simp only [kW, totH, List.length_cons]
    unfold stepW at *
    omega
section
variable {s : St} {Θ : Tab}
theorem cellM {a t l : Nat} {ob : OB} {t' : Option Nat} {xs : List AV} (h1 : s.sl a = .optr l 0 [] 0) (ho : s.hp l = some ob) (hop : ob.e.open_ = false) (hoe : openE ob.e ob.xs 0 = some (.o t' 0 (.mix xs))) (hof : ofO (.mix xs) = some (.mix xs)) (hk : ((Θ.look t).known && (Θ.look t).isAgg && Nat.beq (aszs xs) (Θ.look t).size) = true) : rvA s (.cell a t) = .mix xs ∧ rvOK Θ s (.cell a t) := by
  have hr : rvA s (.cell a t) = .mix xs := by
    simp only [rvA, h1, ho, hop, hoe, cond_false, hof]; rfl
  simp only [Bool.and_eq_true] at hk
  exact ⟨hr, hk.1.1, by rw [hr]; exact hk.1.2.symm, by rw [hr]; exact Nat.eq_of_beq_eq_true hk.2, .inl ⟨l, ob, _, h1, ho, .inr ⟨hop, _, _, hoe, hof⟩⟩⟩
/-- a struct with one own list is the result -/
theorem r_mix1 {a t l L : Nat} {ob q : OB} {t' : Option Nat} {xs ys : List AV} (h1 : s.sl a = .optr l 0 [] 0) (ho : s.hp l = some ob) (hoe : openE ob.e ob.xs 0 = some (.o t' 0 (.mix xs))) (hq : s.hp L = some q) (hm : AV.mix xs = mapA (fun k => [L].getD k 0) (.mix ys)) (hw : (AV.mix ys).within (fun k => Nat.blt k [L].length) = true) (hof : ofO (.mix xs) = some (.mix xs) := by rfl) (hk : ((Θ.look t).known && (Θ.look t).isAgg && Nat.beq (aszs xs) (Θ.look t).size) = true := by rfl) (hop : ob.e.open_ = false := by rfl) (hok : okL L = true := by rfl) (hsh : q.e.shut = true := by rfl) :
    RetQ Θ [.cell a t] ⟨.mix ys, [q]⟩ .ret s := by
  obtain ⟨c1, c2⟩ := cellM (Θ := Θ) (t := t) h1 ho hop hoe hof hk
  exact ⟨trivial, [L], by simp, ⟨⟨hq, hok, hsh⟩, trivial⟩, ⟨c2, trivial⟩, trivial, ⟨by rw [c1]; exact .inl ⟨hm, hw⟩, trivial⟩⟩
end
attribute [local irreducible] ACode AOps AOps2 RetG RetM Pre ACG
theorem ac_szWishS {es : List Wsh} {l : Int} (hm : es.length ≤ maxLen) (hc : ∀ c ∈ es, c.ok maxLen) (h0 : 0 ≤ l) (h1 : l ≤ 1048576) : AC Tryz.prog 23 [.lst 5 (es.map wshA), .v (.int .i64 l)] ⟨.v (.int .i64 (szHS es l)), []⟩ := by
  unfold maxLen at hm
  by_cases hn : l - es.length < 0
  · rw [szHS, if_pos hn]
    refine r_of Th_ok (by kernel_rfl) Tryz.func23 rfl Tryz.ntmps23 Tryz.results23 (by kernel_rfl) rfl ?_; conv => whnf
    repeat (((first | refine qb rfl rfl ?_ | refine qi (by assumption) rfl rfl ?_ | refine ql rfl ?_ | refine qo rfl rfl ?_ | refine qs rfl rfl ?_ | refine qn rfl rfl ?_); conv => whnf))
    exact r_ret1 rfl trivial
  · rw [szHS, if_neg hn]
    refine r_of Th_ok (by kernel_rfl) Tryz.func23 rfl Tryz.ntmps23 Tryz.results23 (by kernel_rfl) rfl ?_; conv => whnf
    repeat (((first | refine qb rfl rfl ?_ | refine qi (by assumption) rfl rfl ?_ | refine ql rfl ?_ | refine qo rfl rfl ?_ | refine qs rfl rfl ?_ | refine qn rfl rfl ?_); conv => whnf))
    refine r_loop (ι := { p : Nat × Int // p.1 ≤ es.length ∧ 0 ≤ p.2 ∧ p.2 ≤ l ∧ szG szH (es.drop p.1) p.2 = szG szH es (l - es.length) }) (fun p => ⟨[(0, .lst 5 (es.map wshA)), (1, .v (.int .i64 p.1.2)), (5, .v (.int .i64 (p.1.1 : Int)))], []⟩) (fun p => es.length - p.1.1) ⟨(0, l - es.length), by simp, by omega, by omega, rfl⟩ (by refine ⟨?_, ?_⟩ <;> (repeat (first | trivial | exact ⟨rfl, trivial⟩ | refine ⟨rfl, ?_⟩ | refine ⟨.inl ⟨rfl, rfl⟩, ?_⟩ | refine ⟨.inr ⟨_, _, rfl, rfl, rfl, rfl, rfl⟩, ?_⟩))) ?_
    rintro ⟨⟨k, cur⟩, hkl, hc0, hc1, hsz⟩
    simp only at hkl hc0 hc1 hsz ⊢
    conv => whnf
    by_cases hlt : k < es.length
    · have hd := szGH_drop (l := cur) hlt
      rw [hsz] at hd
      have q1 := hc _ (List.getElem_mem hlt)
      by_cases hneg : szH es[k] cur < 0
      · rw [if_pos hneg] at hd
        rw [hd]
        repeat (first | ((first | refine qb rfl rfl ?_ | refine qi (by assumption) rfl rfl ?_ | refine ql rfl ?_ | refine qo rfl rfl ?_ | refine qs rfl rfl ?_ | refine qn rfl rfl ?_); conv => whnf) | (refine qc (ac_szWish q1 hc0 (by omega)) rfl ?_; conv => whnf))
        exact r_ret1 rfl trivial
      · rw [if_neg hneg] at hd
        have hle := (szH_le (by omega : 0 ≤ szH es[k] cur) (by omega)).1
        repeat (first | ((first | refine qb rfl rfl ?_ | refine qi (by assumption) rfl rfl ?_ | refine ql rfl ?_ | refine qo rfl rfl ?_ | refine qs rfl rfl ?_ | refine qn rfl rfl ?_); conv => whnf) | (refine qc (ac_szWish q1 hc0 (by omega)) rfl ?_; conv => whnf))
        exact ⟨⟨(k + 1, szH es[k] cur), by simp; omega, by omega, by omega, hd.symm⟩, by refine ⟨?_, ?_⟩ <;> (repeat (first | trivial | exact ⟨rfl, trivial⟩ | refine ⟨rfl, ?_⟩ | refine ⟨.inl ⟨rfl, rfl⟩, ?_⟩ | refine ⟨.inr ⟨_, _, rfl, rfl, rfl, rfl, rfl⟩, ?_⟩)), by simp; omega⟩
    · have hkk : k = es.length := by omega
      rw [hkk, List.drop_length] at hsz
      rw [← hsz]
      repeat (((first | refine qb rfl rfl ?_ | refine qi (by assumption) rfl rfl ?_ | refine ql rfl ?_ | refine qo rfl rfl ?_ | refine qs rfl rfl ?_ | refine qn rfl rfl ?_); conv => whnf))
      exact r_ret1 rfl trivial
def wshO (w : Wsh) (l : Nat) : List AV := [.v (.int .i64 w.kind), .v (.string w.name), .v (.string w.source), .v (.string w.key), .own l]
theorem ac_toWishM {o : Wsh} (hm : o.edits.length ≤ 1048576) : AC Tryz.prog 69 [wshA o] ⟨.mix (wshO o 0), [⟨155, 3, o.edits.map edtA⟩]⟩ := by
  refine r_of Th_ok (by kernel_rfl) Tryz.func69 rfl Tryz.ntmps69 Tryz.results69 (by kernel_rfl) rfl ?_; conv => whnf
  repeat (first | ((first | refine qb rfl rfl ?_ | refine qi (by assumption) rfl rfl ?_ | refine ql rfl ?_ | refine qo rfl rfl ?_ | refine qs rfl rfl ?_ | refine qn rfl rfl ?_); conv => whnf) | (refine qc (ac_toEditS hm) rfl ?_; conv => whnf) | (refine r_step (p_ostored rfl rfl rfl rfl rfl (by conv => lhs; whnf) rfl) rfl rfl (fun e => by first | exact .inl rfl | contradiction | exact .inr (.inl (by kernel_rfl))) ?_; conv => whnf) | (refine r_step (p_ostoreo rfl rfl rfl rfl rfl rfl) rfl rfl (fun e => by first | exact .inl rfl | contradiction | exact .inr (.inl (by kernel_rfl))) ?_; conv => whnf))
  exact r_mix1 rfl rfl rfl rfl rfl rfl
theorem ac_toWishSD {l : List Wsh} (hm : l.length ≤ 1048576) (hc : ∀ c ∈ l, c.edits.length ≤ 1048576) : AC Tryz.prog 31 [.lst 5 (l.map wshA)] ⟨.own 0, [⟨.d 109, 5, l.map wshA⟩]⟩ := by
  refine r_of Th_ok (by kernel_rfl) Tryz.func31 rfl Tryz.ntmps31 Tryz.results31 (by kernel_rfl) rfl ?_; conv => whnf
  repeat (first | ((first | refine qb rfl rfl ?_ | refine qi (by assumption) rfl rfl ?_ | refine ql rfl ?_ | refine qo rfl rfl ?_ | refine qs rfl rfl ?_ | refine qn rfl rfl ?_); conv => whnf) | (refine r_gh (p_make (n := l.length) (by omega) (by omega) (by simp; rfl) (by simp; rfl) rfl rfl) rfl rfl (fun e => by cases e) (Gh.z2d 8 rfl (Gh.done ?_)); conv => whnf))
  have hrow : List.replicate l.length (wshA wshZ) = (l.take 0 ++ List.replicate (l.length - 0) wshZ).map wshA := by simp
  refine r_loop (ι := { k : Nat // k ≤ l.length }) (fun k => ⟨[(0, .lst 5 (l.map wshA)), (3, .own 8), (4, .v (.int .i64 (k.1 : Int)))], [(8, ⟨.d 109, 5, (l.take k.1 ++ List.replicate (l.length - k.1) wshZ).map wshA⟩)]⟩) (fun k => l.length - k.1) ⟨0, Nat.zero_le _⟩ ⟨⟨congrArg (fun x => some (OB.mk _ _ x)) hrow, trivial⟩, .inl ⟨rfl, rfl⟩, .inl ⟨rfl, rfl⟩, .inl ⟨rfl, rfl⟩, trivial⟩ ?_
  rintro ⟨k, hk⟩
  dsimp only
  conv => whnf
  by_cases hlt : k < l.length
  · have q1 := hc _ (List.getElem_mem hlt)
    have hlt2 : k < (l.take k ++ List.replicate (l.length - k) wshZ).length := by simp; omega
    have hset := congrArg (List.map wshA) (fill_set l wshZ k hlt)
    rw [List.map_set] at hset
    have hopn : openE (.d 109) ((l.take k ++ List.replicate (l.length - k) wshZ).map wshA) k = some (.o (some 109) k (wshA (l.take k ++ List.replicate (l.length - k) wshZ)[k])) := by
      simp only [openE, getA wshA hlt2]
    repeat (first | ((first | refine qb rfl rfl ?_ | refine qi (by assumption) rfl rfl ?_ | refine ql rfl ?_ | refine qo rfl rfl ?_ | refine qs rfl rfl ?_ | refine qn rfl rfl ?_); conv => whnf) | (refine qc (ac_toWishM q1) rfl ?_; conv => whnf) | (refine r_put (p_oidx (by simpa using hlt2) rfl rfl rfl rfl rfl) rfl rfl ?_; conv => whnf))
    refine r_gh (p_ostoreo rfl rfl hopn rfl rfl rfl) rfl rfl (fun e => by cases e) (Gh.s2d 21 rfl noL_edt (Gh.fold 8 21 [4] rfl rfl rfl rfl rfl rfl (Gh.shut 8 (z := wshA wshZ) (y' := wshA l[k]) rfl rfl (Gh.done ?_))))
    conv => whnf
    repeat (((first | refine qb rfl rfl ?_ | refine qi (by assumption) rfl rfl ?_ | refine ql rfl ?_ | refine qo rfl rfl ?_ | refine qs rfl rfl ?_ | refine qn rfl rfl ?_); conv => whnf))
    exact ⟨⟨k + 1, hlt⟩, ⟨⟨congrArg (fun x => some (OB.mk _ _ x)) hset, trivial⟩, .inl ⟨rfl, rfl⟩, .inl ⟨rfl, rfl⟩, .inl ⟨rfl, rfl⟩, trivial⟩, by simp; omega⟩
  · have hkk : k = l.length := by omega
    subst hkk
    repeat (((first | refine qb rfl rfl ?_ | refine qi (by assumption) rfl rfl ?_ | refine ql rfl ?_ | refine qo rfl rfl ?_ | refine qs rfl rfl ?_ | refine qn rfl rfl ?_); conv => whnf))
    exact r_own1 rfl (by show some (OB.mk _ _ _) = _; rw [List.take_length, Nat.sub_self, List.replicate_zero, List.append_nil])
theorem ac_eqWishS {l : List Wsh} (hm : l.length ≤ maxLen) (hc : ∀ c ∈ l, c.edits.length ≤ maxLen) : AC Tryz.prog 41 [.lst 5 (l.map wshA), .lst 5 (l.map wshA)] ⟨.v (.bool true), []⟩ := by
  unfold maxLen at hm
  refine r_of Th_ok (by kernel_rfl) Tryz.func41 rfl Tryz.ntmps41 Tryz.results41 (by kernel_rfl) rfl ?_; conv => whnf
  repeat (((first | refine qb rfl rfl ?_ | refine qi (by assumption) rfl rfl ?_ | refine ql rfl ?_ | refine qo rfl rfl ?_ | refine qs rfl rfl ?_ | refine qn rfl rfl ?_); conv => whnf))
  refine r_loop (ι := { k : Nat // k ≤ l.length }) (fun k => ⟨[(0, .lst 5 (l.map wshA)), (1, .lst 5 (l.map wshA)), (5, .v (.int .i64 (k.1 : Int)))], []⟩) (fun k => l.length - k.1) ⟨0, Nat.zero_le _⟩ (by refine ⟨?_, ?_⟩ <;> (repeat (first | trivial | exact ⟨rfl, trivial⟩ | refine ⟨rfl, ?_⟩ | refine ⟨.inl ⟨rfl, rfl⟩, ?_⟩ | refine ⟨.inr ⟨_, _, rfl, rfl, rfl, rfl, rfl⟩, ?_⟩))) ?_
  rintro ⟨k, hk⟩
  dsimp only
  conv => whnf
  by_cases hlt : k < l.length
  · have q1 := hc _ (List.getElem_mem hlt)
    repeat (((first | refine qb rfl rfl ?_ | refine qi (by assumption) rfl rfl ?_ | refine ql rfl ?_ | refine qo rfl rfl ?_ | refine qs rfl rfl ?_ | refine qn rfl rfl ?_); conv => whnf))
    refine .inl ⟨by kernel_rfl, ?_⟩
    conv => whnf
    repeat (first | ((first | refine qb rfl rfl ?_ | refine qi (by assumption) rfl rfl ?_ | refine ql rfl ?_ | refine qo rfl rfl ?_ | refine qs rfl rfl ?_ | refine qn rfl rfl ?_); conv => whnf) | (refine qc (ac_eqWish q1) rfl ?_; conv => whnf))
    exact ⟨⟨k + 1, hlt⟩, by refine ⟨?_, ?_⟩ <;> (repeat (first | trivial | exact ⟨rfl, trivial⟩ | refine ⟨rfl, ?_⟩ | refine ⟨.inl ⟨rfl, rfl⟩, ?_⟩ | refine ⟨.inr ⟨_, _, rfl, rfl, rfl, rfl, rfl⟩, ?_⟩)), by simp; omega⟩
  · repeat (((first | refine qb rfl rfl ?_ | refine qi (by assumption) rfl rfl ?_ | refine ql rfl ?_ | refine qo rfl rfl ?_ | refine qs rfl rfl ?_ | refine qn rfl rfl ?_); conv => whnf))
    exact r_ret1 rfl trivial
theorem fold_setW {α : Type} (l : List α) (k : Nat) (a b c : α) : ((l.set k a).set k b).set k c = l.set k c := by simp [List.set_set]
set_option maxHeartbeats 2000000 in
theorem ac_markEditU {l : List Edt} {k0 : Int} (hm : l.length ≤ 1048600) (h0 : 0 ≤ k0) (h1 : k0 ≤ 8388608) : ACM Tryz.prog 87 ⟨.u, 3, l.map edtA⟩ ((markedE l.length k0).map edtA) [.v (.int .i64 k0)] (.int .i64 (k0 + 3 * l.length)) := by
  refine r_ofN Th_ok (by kernel_rfl) Tryz.func87 rfl Tryz.ntmps87 Tryz.results87 (by kernel_rfl) rfl ?_
  conv => whnf
  refine r_loop (ι := { k : Nat // k ≤ l.length }) (fun k => ⟨[(0, .own 0), (1, .v (.int .i64 (k0 + 3 * (k.1 : Int)))), (5, .v (.int .i64 (k.1 : Int)))], [(0, ⟨.u, 3, (markedE k.1 k0 ++ l.drop k.1).map edtA⟩)]⟩) (fun k => l.length - k.1) ⟨0, Nat.zero_le _⟩ (by
    refine ⟨⟨rfl, trivial⟩, .inl ⟨rfl, rfl⟩, .inl ⟨?_, rfl⟩, .inl ⟨rfl, rfl⟩, trivial⟩
    show AV.v (.int .i64 k0) = _
    simp) ?_
  rintro ⟨k, hk⟩
  dsimp only
  have hml : (markedE k k0 ++ l.drop k).length = l.length := by simp [markedE_length]; omega
  have hml2 : ((markedE k k0 ++ l.drop k).map edtA).length = l.length := by rw [List.length_map]; exact hml
  conv => whnf
  by_cases hlt : k < l.length
  · have hlt' : k < (markedE k k0 ++ l.drop k).length := by omega
    have hset : (markedE k k0 ++ l.drop k).set k ⟨markB (k0 + 3 * k), k0 + 3 * k + 1, (k0 + 3 * k + 2) % 3 == 0⟩ = markedE (k + 1) k0 ++ l.drop (k + 1) := by
      rw [List.set_append_right _ _ (by rw [markedE_length]; exact Nat.le_refl _), markedE_length, Nat.sub_self, List.drop_eq_getElem_cons hlt, List.set_cons_zero, markedE_snoc, List.append_assoc]; rfl
    have hset' : ((markedE k k0 ++ l.drop k).map edtA).set k (edtA ⟨markB (k0 + 3 * k), k0 + 3 * k + 1, (k0 + 3 * k + 2) % 3 == 0⟩) = (markedE (k + 1) k0 ++ l.drop (k + 1)).map edtA := by rw [← List.map_set, hset]
    generalize hX : markedE k k0 ++ l.drop k = X at *
    have hX0 : k < (X.map edtA).length := by simpa using hlt'
    by_cases hz : (k0 + 3 * (k : Int) + 1 + 1) % 3 = 0
    · have hdz : ((k0 + 3 * (k : Int) + 2) % 3 == 0) = true := by rw [beq_iff_eq]; omega
      repeat (first | (refine r_put (p_leno (m := l.length) rfl rfl hml2 ⟨_, _, _, _, rfl⟩) rfl rfl ?_; conv => whnf) | ((first | refine qb rfl rfl ?_ | refine qi (by assumption) rfl rfl ?_ | refine ql rfl ?_ | refine qo rfl rfl ?_ | refine qs rfl rfl ?_ | refine qn rfl rfl ?_); conv => whnf) | (refine .inl (And.intro (by kernel_rfl) ?_); conv => whnf) | (refine qc (ac_markText (k := k0 + 3 * (k : Int)) (by omega) (by omega)) rfl ?_; conv => whnf) | (refine r_put (p_bin (b_rem (by omega) (by omega) (by omega) (by omega) rfl) rfl rfl rfl) rfl rfl ?_; conv => whnf) | (refine r_put (p_oidx (by simpa using hlt') rfl rfl rfl rfl rfl) rfl rfl ?_; conv => whnf) | (refine r_step (p_ostored (getA _ hlt') rfl rfl rfl rfl rfl rfl) rfl rfl (fun e => by first | exact .inl rfl | contradiction | exact .inr (.inl (by kernel_rfl))) ?_; conv => whnf) | (refine r_step (p_ostored (set_at (by simpa using hlt')) rfl rfl rfl rfl rfl rfl) rfl rfl (fun e => by first | exact .inl rfl | contradiction | exact .inr (.inl (by kernel_rfl))) ?_; conv => whnf))
      refine ⟨⟨k + 1, hlt⟩, ⟨⟨?_, trivial⟩, .inl ⟨rfl, rfl⟩, .inl ⟨?_, rfl⟩, .inl ⟨rfl, rfl⟩, trivial⟩, by simp; omega⟩
      · refine congrArg (fun x => some (OB.mk _ _ x)) (Eq.trans (fold_setW _ _ _ _ _) (Eq.trans ?_ hset'))
        rw [hdz]; rfl
      · show AV.v (.int .i64 (k0 + 3 * k + 1 + 1 + 1)) = _
        congr 2
        simp; omega
    · have hdz : ((k0 + 3 * (k : Int) + 2) % 3 == 0) = false := by rw [beq_eq_false_iff_ne]; omega
      repeat (first | (refine r_put (p_leno (m := l.length) rfl rfl hml2 ⟨_, _, _, _, rfl⟩) rfl rfl ?_; conv => whnf) | ((first | refine qb rfl rfl ?_ | refine qi (by assumption) rfl rfl ?_ | refine ql rfl ?_ | refine qo rfl rfl ?_ | refine qs rfl rfl ?_ | refine qn rfl rfl ?_); conv => whnf) | (refine .inl (And.intro (by kernel_rfl) ?_); conv => whnf) | (refine qc (ac_markText (k := k0 + 3 * (k : Int)) (by omega) (by omega)) rfl ?_; conv => whnf) | (refine r_put (p_bin (b_rem (by omega) (by omega) (by omega) (by omega) rfl) rfl rfl rfl) rfl rfl ?_; conv => whnf) | (refine r_put (p_oidx (by simpa using hlt') rfl rfl rfl rfl rfl) rfl rfl ?_; conv => whnf) | (refine r_step (p_ostored (getA _ hlt') rfl rfl rfl rfl rfl rfl) rfl rfl (fun e => by first | exact .inl rfl | contradiction | exact .inr (.inl (by kernel_rfl))) ?_; conv => whnf) | (refine r_step (p_ostored (set_at (by simpa using hlt')) rfl rfl rfl rfl rfl rfl) rfl rfl (fun e => by first | exact .inl rfl | contradiction | exact .inr (.inl (by kernel_rfl))) ?_; conv => whnf))
      refine ⟨⟨k + 1, hlt⟩, ⟨⟨?_, trivial⟩, .inl ⟨rfl, rfl⟩, .inl ⟨?_, rfl⟩, .inl ⟨rfl, rfl⟩, trivial⟩, by simp; omega⟩
      · refine congrArg (fun x => some (OB.mk _ _ x)) (Eq.trans (fold_setW _ _ _ _ _) (Eq.trans ?_ hset'))
        rw [hdz]; rfl
      · show AV.v (.int .i64 (k0 + 3 * k + 1 + 1 + 1)) = _
        congr 2
        simp; omega
  · have hkk : k = l.length := by omega
    subst hkk
    repeat (first | (refine r_put (p_leno (m := l.length) rfl rfl hml2 ⟨_, _, _, _, rfl⟩) rfl rfl ?_; conv => whnf) | ((first | refine qb rfl rfl ?_ | refine qi (by assumption) rfl rfl ?_ | refine ql rfl ?_ | refine qo rfl rfl ?_ | refine qs rfl rfl ?_ | refine qn rfl rfl ?_); conv => whnf) | (rw [hml]))
    exact r_retM rfl (by show some (OB.mk _ _ _) = _; simp)
set_option maxHeartbeats 4000000 in
theorem ac_heldWishS {l : List Wsh} {k0 : Int} (hm : l.length ≤ 1048600) (ht : totH l ≤ 1048600) (h0 : 0 ≤ k0) (h1 : kW l k0 ≤ 8388608) : AC Tryz.prog 91 [.lst 5 ((markedW l k0).map wshA), .v (.int .i64 k0)] ⟨.v (.int .i64 (kW l k0)), []⟩ := by
  have hml := markedW_length l k0
  refine r_of Th_ok (by kernel_rfl) Tryz.func91 rfl Tryz.ntmps91 Tryz.results91 (by kernel_rfl) rfl ?_; conv => whnf
  refine r_loop (ι := { k : Nat // k ≤ l.length }) (fun k => ⟨[(0, .lst 5 ((markedW l k0).map wshA)), (1, .v (.int .i64 (kW (l.take k.1) k0))), (5, .v (.int .i64 (k.1 : Int)))], []⟩) (fun k => l.length - k.1) ⟨0, Nat.zero_le _⟩ (by refine ⟨?_, ?_⟩ <;> (repeat (first | trivial | exact ⟨rfl, trivial⟩ | refine ⟨rfl, ?_⟩ | refine ⟨.inl ⟨rfl, rfl⟩, ?_⟩ | refine ⟨.inr ⟨_, _, rfl, rfl, rfl, rfl, rfl⟩, ?_⟩))) ?_
  rintro ⟨i, hi⟩
  dsimp only
  conv => whnf
  by_cases hlt : i < l.length
  case neg =>
    have hkk : i = l.length := by omega
    subst hkk
    rw [List.take_length]
    repeat (first | ((first | refine qb rfl rfl ?_ | refine qi (by assumption) rfl rfl ?_ | refine ql rfl ?_ | refine qo rfl rfl ?_ | refine qs rfl rfl ?_ | refine qn rfl rfl ?_); conv => whnf) | (refine .inl (And.intro (by kernel_rfl) ?_); conv => whnf) | (rw [hml]))
    exact r_ret1 rfl trivial
  have hb := kW_le (l.take i) k0
  have hb2 := totH_take l i
  have hb3 := totH_at l i hlt
  have hb4 : kW l k0 = kW (l.drop i) (kW (l.take i) k0) := by rw [← kW_app, List.take_append_drop]
  have hb6 : kW (l.drop i) (kW (l.take i) k0) = kW (l.drop (i + 1)) (stepW l[i] (kW (l.take i) k0)) := by rw [List.drop_eq_getElem_cons hlt, kW]
  have hb7 := (kW_le (l.drop (i + 1)) (stepW l[i] (kW (l.take i) k0))).1
  have hb8 : stepW l[i] (kW (l.take i) k0) = kW (l.take i) k0 + 4 + 3 * (l[i]).edits.length := rfl
  have hstep := kW_snoc (k := k0) hlt
  have hgi : ((markedW l k0).map wshA)[i]? = some (wshA (markW l[i] (kW (l.take i) k0))) := by
    rw [List.getElem?_map, List.getElem?_eq_getElem (by omega), markedW_get hlt]; rfl
  generalize hK : kW (l.take i) k0 = K at *
  have hK0 : 0 ≤ K := by omega
  have hK1 : K + 4 + 3 * (l[i]).edits.length ≤ 8388608 := by omega
  clear hb hb4 hb6 hb7 hb8
  have e4 : K + 1 + 1 + 1 + 1 = K + 4 := by omega
  have e3 : K + 1 + 1 + 1 = K + 3 := by omega
  have e2 : K + 1 + 1 = K + 2 := by omega
  have hmk : markW l[i] K = (⟨K, markB (K + 1), markB (K + 1 + 1), markB (K + 1 + 1 + 1), markedE (l[i]).edits.length (K + 1 + 1 + 1 + 1)⟩ : Wsh) := by rw [e4, e3, e2]; rfl
  rw [hmk] at hgi
  have hh1 := ac_heldEditS (n := (l[i]).edits.length) (k := K + 1 + 1 + 1 + 1) (by omega) (by omega) (by omega)
  repeat (first | (refine r_put (p_idx hgi rfl rfl rfl) rfl rfl ?_; conv => whnf) | (refine r_put (p_bin (b_sne_f rfl) rfl rfl rfl) rfl rfl ?_; conv => whnf) | (refine r_put (p_bin (b_ne_f rfl) rfl rfl rfl) rfl rfl ?_; conv => whnf) | ((first | refine qb rfl rfl ?_ | refine qi (by assumption) rfl rfl ?_ | refine ql rfl ?_ | refine qo rfl rfl ?_ | refine qs rfl rfl ?_ | refine qn rfl rfl ?_); conv => whnf) | (refine .inl (And.intro (by kernel_rfl) ?_); conv => whnf) | (refine qc (ac_markText (k := K + 1) (by omega) (by omega)) rfl ?_; conv => whnf) | (refine qc (ac_markText (k := K + 1 + 1) (by omega) (by omega)) rfl ?_; conv => whnf) | (refine qc (ac_markText (k := K + 1 + 1 + 1) (by omega) (by omega)) rfl ?_; conv => whnf) | (refine qc (hh1) rfl ?_; conv => whnf))
  refine ⟨⟨i + 1, hlt⟩, ⟨trivial, .inl ⟨rfl, rfl⟩, .inl ⟨?_, rfl⟩, .inl ⟨rfl, rfl⟩, trivial⟩, by simp; omega⟩
  show AV.v (.int .i64 (K + 1 + 1 + 1 + 1 + 3 * (l[i]).edits.length)) = _
  rw [hstep, e4]; rfl
end Go.Proofs.YtmfmclnklpbiaaaGreat.AM
namespace Go.Proofs.YtmfmclnklpbiaaaGreat
open Go Go.RowKit
set_option linter.unusedVariables false
set_option linter.unusedSimpArgs false
set_option maxHeartbeats 1000000 in
set_option maxRecDepth 100000 in
theorem cloneEdt_any (A : Option Addr) (n c : Nat) (cs : List Value) (w : World) (hr : Rd w 3 A n cs) (h1 : ∀ u ∈ cs, u.oneCell' = true) (hm : n * 32 ≤ 140737488355328) :
    Calls Tryz.prog 115 #[.slice A n c] w (OwnPostC 155 3 n cs w) := by
  obtain ⟨i0, hi, hz0, hz1, hz2⟩ := info_parts (show (Tryz.prog.info? 155).map (fun i => (i.zero, i.size, i.bytes)) = some (some (.agg #[.string ByteArray.empty, .int .i64 0, .bool false]), 3, 32) from by kernel_rfl)
  have Hi := Lib.hid hi; clear hi
  have Hz0 := Lib.hid hz0; clear hz0
  have Hz1 := Lib.hid hz1; clear hz1
  have Hz2 := Lib.hid hz2; clear hz2
  cases A with
  | none =>
    have hn : n = 0 := by
      rcases Nat.eq_zero_or_pos n with h | h
      · exact h
      · obtain ⟨b, off, e, _⟩ := hr.2 h; cases e
    subst hn
    have hcs : cs = [] := List.eq_nil_of_length_eq_zero (by have := hr.1; omega)
    subst hcs
    go_enter Tryz.func115, Tryz.ntmps115
    go_wp2_with (rw [Lib.run_eql_slice_nil _ 107 155 _ _ _ _ _ Tryz.underlying107, Result.andThen_ok])
    go_ret
    exact ⟨_, rfl, World.ownsRow_nil _ _ _ _, Below.refl _ _⟩
  | some ad =>
    have hst := Lib.hid (World.ownsRow_made (base := w.heap.size) (e := 155) (size := 3) w #[] 0 (Nat.le_refl _) (by simp) (by simp))
    have hb3 := Lib.hid ((Below.refl w.heap.size w).alloc (Nat.le_refl _) (.cells #[] 155))
    have hrd3 := Lib.hid (hr.below hb3.out (Nat.le_refl _))
    have hbs3 := hb3.out.size
    go_enter Tryz.func115, Tryz.ntmps115
    go_wp2_with (first | (rw [Lib.run_eql_slice_nil _ 107 155 _ _ _ _ _ Tryz.underlying107, Result.andThen_ok]) | (at_builtin; refine wpList_append_rd (w.alloc (.cells #[] 155)) rfl _ _ 107 rfl w.heap.size 155 i0 _ 3 32 Tryz.underlying107 Hi.out Hz0.out Hz1.out Hz2.out rfl (by decide) (.slice (some ⟨w.heap.size, 0, none⟩) 0 0) 0 [] rfl hst.out (some ad) n c cs rfl hrd3.out h1 (by omega) (by decide) hbs3 ?_; intro v4 w4 hown4 hgrow4; have HO4 := Lib.hid hown4; clear hown4))
    have hb4 := below_grown hb3.out hgrow4 hst.out hbs3 (Nat.le_refl _)
    go_ret
    have ho := HO4.out
    rw [Nat.zero_add, List.nil_append] at ho
    exact ⟨_, rfl, ho, hb4⟩
set_option maxHeartbeats 1000000 in
set_option maxRecDepth 100000 in
theorem cloneWsh_any (A : Option Addr) (n c : Nat) (cs : List Value) (w : World) (hr : Rd w 5 A n cs) (h1 : ∀ u ∈ cs, u.oneCell' = true) (hm : n * 80 ≤ 140737488355328) :
    Calls Tryz.prog 114 #[.slice A n c] w (OwnPostC 109 5 n cs w) := by
  obtain ⟨i0, hi, hz0, hz1, hz2⟩ := info_parts (show (Tryz.prog.info? 109).map (fun i => (i.zero, i.size, i.bytes)) = some (some (.agg #[.int .i64 0, .string ByteArray.empty, .string ByteArray.empty, .string ByteArray.empty, .slice none 0 0]), 5, 80) from by kernel_rfl)
  have Hi := Lib.hid hi; clear hi
  have Hz0 := Lib.hid hz0; clear hz0
  have Hz1 := Lib.hid hz1; clear hz1
  have Hz2 := Lib.hid hz2; clear hz2
  cases A with
  | none =>
    have hn : n = 0 := by
      rcases Nat.eq_zero_or_pos n with h | h
      · exact h
      · obtain ⟨b, off, e, _⟩ := hr.2 h; cases e
    subst hn
    have hcs : cs = [] := List.eq_nil_of_length_eq_zero (by have := hr.1; omega)
    subst hcs
    go_enter Tryz.func114, Tryz.ntmps114
    go_wp2_with (rw [Lib.run_eql_slice_nil _ 60 109 _ _ _ _ _ Tryz.underlying60, Result.andThen_ok])
    go_ret
    exact ⟨_, rfl, World.ownsRow_nil _ _ _ _, Below.refl _ _⟩
  | some ad =>
    have hst := Lib.hid (World.ownsRow_made (base := w.heap.size) (e := 109) (size := 5) w #[] 0 (Nat.le_refl _) (by simp) (by simp))
    have hb3 := Lib.hid ((Below.refl w.heap.size w).alloc (Nat.le_refl _) (.cells #[] 109))
    have hrd3 := Lib.hid (hr.below hb3.out (Nat.le_refl _))
    have hbs3 := hb3.out.size
    go_enter Tryz.func114, Tryz.ntmps114
    go_wp2_with (first | (rw [Lib.run_eql_slice_nil _ 60 109 _ _ _ _ _ Tryz.underlying60, Result.andThen_ok]) | (at_builtin; refine wpList_append_rd (w.alloc (.cells #[] 109)) rfl _ _ 60 rfl w.heap.size 109 i0 _ 5 80 Tryz.underlying60 Hi.out Hz0.out Hz1.out Hz2.out rfl (by decide) (.slice (some ⟨w.heap.size, 0, none⟩) 0 0) 0 [] rfl hst.out (some ad) n c cs rfl hrd3.out h1 (by omega) (by decide) hbs3 ?_; intro v4 w4 hown4 hgrow4; have HO4 := Lib.hid hown4; clear hown4))
    have hb4 := below_grown hb3.out hgrow4 hst.out hbs3 (Nat.le_refl _)
    go_ret
    have ho := HO4.out
    rw [Nat.zero_add, List.nil_append] at ho
    exact ⟨_, rfl, ho, hb4⟩
end Go.Proofs.YtmfmclnklpbiaaaGreat
namespace Go.Proofs.YtmfmclnklpbiaaaGreat.AM
open Go Go.RowKit
set_option linter.unusedVariables false
set_option linter.unusedSimpArgs false
section
variable {w : World}
/-- an argument that is a list, its cells -/
theorem arg_lst {S0 : Nat → Prop} {hp B V} (hS : ∀ b, S0 b → b < w.heap.size) {sz : Nat} {xs : List AV} {u : Value} (h : RV S0 w hp B V (.lst sz xs) u) : ∃ A c cs, u = .slice A xs.length c ∧ RL S0 w xs cs ∧ Rd w sz A xs.length cs ∧ xs.length ≤ maxLen := by
  unfold RV at h
  unfold RA at h
  obtain ⟨A, c, e, h1, h2, h3, _, h4⟩ := h
  simp only [List.cons.injEq, and_true] at e
  rcases h4 with h4 | ⟨b, off, us, rfl, hb, hr, hc⟩
  · subst h4
    exact ⟨A, c, [], e, by unfold RL; rfl, ⟨by simp, fun hn => by simp at hn⟩, by simp⟩
  · refine ⟨_, c, us, e, hr, ⟨by rw [RL.size _ _ hr, aszs_const h3], fun hn => ⟨b, off, rfl, hS b hb, hc⟩⟩, by omega⟩
/-- a contract whose result is a row of its own that reads as an argument does -/
theorem ac_ownR {P : Program} {f : FuncId} {args : List AV} {e : TypeId} {sz : Nat} {xs : List AV} (hent : ∀ vs w, (callFunc f vs).run P w = .ok (.enter f vs) w) (ha : ∀ x ∈ xs, asz x = sz) (h0 : 0 < sz)
    (h : ∀ (w : World) (S0 : Nat → Prop) (vs : List Value), (∀ b, S0 b → b < w.heap.size) → RVs S0 w (fun _ => none) (fun _ => 0) (fun _ => undef) args vs → ∃ cs, RL S0 w xs cs ∧ Calls P f vs.toArray w fun en w' => ∃ v, en = .returned v ∧ w'.ownsRow w.heap.size e sz v xs.length cs ∧ Below w.heap.size w w') : AC P f args ⟨.own 0, [⟨.s e, sz, xs⟩]⟩ :=
  ⟨hent, fun w S0 B0 V0 T0 vs hS _ hv => by
    obtain ⟨cs, hr, hc⟩ := h w S0 vs hS (rvs_none (fun _ => rfl) hv)
    exact hc.mono fun en w' ⟨v, he, ho, hb⟩ =>
      ⟨v, S0, fun _ => (v.ownBlock).getD 0, fun _ => v, fun _ => Fa, fun _ => Fa, he, Grown.of hb _, fun _ h => h, fun b hb' => ⟨Nat.lt_of_lt_of_le (hS b hb') hb.size, .inl hb'⟩, by unfold RV; exact ⟨⟨_, rfl⟩, rfl⟩, rows_one (fun g hg => .inl hg) hS ho ha h0 (RL.mono (fun _ h => h) (fun b hb' => hb.block b (hS b hb')) _ _ hr), rows_none (fun _ => rfl), fun l l' ob ob' g _ e => by cases e⟩⟩
end
theorem ent_115 : ∀ vs w, (callFunc 115 vs).run Tryz.prog w = .ok (.enter 115 vs) w := ent_of Tryz.func115 (by kernel_rfl) (by kernel_rfl)
theorem ent_114 : ∀ vs w, (callFunc 114 vs).run Tryz.prog w = .ok (.enter 114 vs) w := ent_of Tryz.func114 (by kernel_rfl) (by kernel_rfl)
theorem ac_cloneEdt {es : List Edt} (hm : es.length ≤ 1048576) : AC Tryz.prog 115 [.lst 3 (es.map edtA)] ⟨.own 0, [⟨155, 3, es.map edtA⟩]⟩ :=
  ac_ownR ent_115 (all_edt _) (by omega) fun w S0 vs hS hv => by
    obtain ⟨u, rfl, h1⟩ := rvs1 hv
    obtain ⟨A, c, cs, rfl, hr, hd, _⟩ := arg_lst hS h1
    refine ⟨cs, hr, (cloneEdt_any A _ c cs w hd (RL.one _ _ hr) (by rw [List.length_map]; omega)).mono ?_⟩
    rintro e w' ⟨v, rfl, ho, hb⟩
    exact ⟨v, rfl, ho, hb⟩
theorem ac_cloneWsh {ws : List Wsh} (hm : ws.length ≤ 1048576) : AC Tryz.prog 114 [.lst 5 (ws.map wshA)] ⟨.own 0, [⟨109, 5, ws.map wshA⟩]⟩ :=
  ac_ownR ent_114 (all_wsh _) (by omega) fun w S0 vs hS hv => by
    obtain ⟨u, rfl, h1⟩ := rvs1 hv
    obtain ⟨A, c, cs, rfl, hr, hd, _⟩ := arg_lst hS h1
    refine ⟨cs, hr, (cloneWsh_any A _ c cs w hd (RL.one _ _ hr) (by rw [List.length_map]; omega)).mono ?_⟩
    rintro e w' ⟨v, rfl, ho, hb⟩
    exact ⟨v, rfl, ho, hb⟩
end Go.Proofs.YtmfmclnklpbiaaaGreat.AM
namespace Go.Proofs.YtmfmclnklpbiaaaGreat.AM
open Go Go.RowKit
set_option linter.unusedVariables false
set_option linter.unusedSimpArgs false
set_option maxRecDepth 100000
/-- what is read by operations that are not ordered against the one at k names none of ls -/
def condB (ops : Array Oper) (k : Nat) (s : St) (ls : List Nat) : Bool :=
  (List.range ops.size).all fun j => Nat.beq j k || (ordr ops j k || (match ops[j]? with
    | some o => (tmpsOf o).all fun t => ((List.range ops.size).any fun j' => match (ops[j']?).bind (·.dst) with
        | some t' => Nat.beq t' t && (!(Nat.blt j' k) && !(lastOp ops j'))
        | none => false) || ls.all fun l => !((s.sl t).names l)
    | none => true))
theorem condB_ok {ops : Array Oper} {k : Nat} {s : St} {ls : List Nat} (h : condB ops k s ls = true) : ∀ j o, ops[j]? = some o → j ≠ k → ordr ops j k = false → ∀ t, t ∈ tmpsOf o → (∀ j' o', ops[j']? = some o' → o'.dst = some t → Nat.blt j' k = true ∨ lastOp ops j' = true) → ∀ l ∈ ls, (s.sl t).names l = false := by
  intro j o hj hne hor t ht hL l hl
  have h1 := List.all_eq_true.1 h j (List.mem_range.2 (Array.getElem?_eq_some_iff.1 hj).1)
  simp only [nbne hne, hor, Bool.false_or, hj] at h1
  have h2 := List.all_eq_true.1 h1 t ht
  rw [Bool.or_eq_true] at h2
  rcases h2 with h2 | h2
  · obtain ⟨j', hj', h3⟩ := List.any_eq_true.1 h2
    cases ho' : ops[j']? with
    | none => rw [ho'] at h3; cases h3
    | some o' =>
      rw [ho'] at h3
      cases hd : o'.dst with
      | none => simp only [Option.bind_some, hd] at h3; cases h3
      | some t' =>
        simp only [Option.bind_some, hd, Bool.and_eq_true, Bool.not_eq_true'] at h3
        have : t' = t := Nat.eq_of_beq_eq_true h3.1
        subst this
        rcases hL j' o' ho' hd with h4 | h4 <;> rw [h4] at h3 <;> simp at h3
  · have := List.all_eq_true.1 h2 l hl
    simpa using this
theorem condB_old {ops : Array Oper} {k : Nat} {s : St} {ls : List Nat} (h : condB ops k s ls = true) : ∀ j o, ops[j]? = some o → j ≠ k → ordr ops j k = false → ∀ t, t ∈ tmpsOf o → (∀ j' o', ops[j']? = some o' → o'.dst = some t → Nat.blt j' k = true) → ∀ l ∈ ls, (s.sl t).names l = false :=
  fun j o h1 h2 h3 t ht hL => condB_ok h j o h1 h2 h3 t ht fun j' o' a b => .inl (hL j' o' a b)
section
variable {Θ : Tab} {ops : Array Oper} {k : Nat} {s : St}
theorem soft_set {l : Nat} {o : Option OB} {v : AV} (hs : soft Θ ops true k = true) (hc : condB ops k s [l] = true) : SoftE Θ ops (fun j => Nat.blt j k) k s ⟨v, some fun s' => s'.set l o⟩ :=
  ⟨true, [l], _, id, fun hp j => bif Nat.beq j l then o else hp j, fun mp j => bif Nat.beq j l then none else mp j, rfl, hs, fun s => rfl, fun x _ => rfl, fun _ => ⟨fun x => rfl, fun hp j hj => by
    have : j ≠ l := by simpa using hj
    show (bif Nat.beq j l then o else hp j) = hp j
    rw [nbne this]; rfl⟩, condB_old hc⟩
end
section
variable {P : Program} {Θ : Tab} {s : St} {ty : TypeId} {pos : String} {after : Array Edge} {g : Option (Nat × Bool)}
theorem p_bsl1 {d : Nat} {t : TypeId} {x : Operand} {el sz b : Nat} {z y : AV} (hf : s.hp (d + 1) = none) (ht : Θ.look t = .slice el sz b z) (hx : s.ev x = y) (hk : (match y with | .v c => c.oneCell' | .agg _ => true | .lst _ _ => true | .ptr _ => true | _ => false) = true) (hz : Nat.beq (asz y) (asz z) = true) (hsz : Nat.ble sz 65536 = true) (hok : okL (d + 1) = true := by rfl) :
    Pre P Θ ⟨some d, .buildSlice t 1 #[(0, x)], ty, pos, after, g⟩ s ⟨.own (d + 1), some fun s' => s'.set (d + 1) (some ⟨.s el, sz, [y]⟩)⟩ := by
  have hd : s.dat (s.ev x) = y := by rw [hx]; cases y <;> first | rfl | cases hk
  have ho : ownsA (s.ev x) = [] := by rw [hx]; cases y <;> first | rfl | cases hk
  have hda : isDataA s (s.ev x) = true := by rw [hx]; cases y <;> first | exact hk | rfl | cases hk
  refine ⟨d, el, sz, b, z, rfl, hf, hok, ht, by rw [Nat.one_mul]; exact Nat.le_of_ble_eq_true hsz, .inl ⟨⟨⟨z, rfl, by rw [hd]; exact Nat.eq_of_beq_eq_true hz⟩, hda, trivial⟩, fun y' hy c e => ?_, ?_, ?_⟩⟩
  · simp at hy
    subst hy; subst e
    simp only [St.ev] at hx; subst hx; exact hk
  · simp [ownsOf, ownsAL, ho]
  · have h1 : ownsOf s (([(0, x)] : List (Nat × Operand)).map (·.2)) = [] := by simp [ownsOf, ownsAL, ho]
    show _ = Eff.mk _ (frzT (ownsOf s (([(0, x)] : List (Nat × Operand)).map (·.2))) _)
    rw [h1]
    show _ = Eff.mk _ (some _)
    congr 2
    funext s'
    show s'.set (d + 1) (some ⟨.s el, sz, [y]⟩) = s'.set (d + 1) (some ⟨.s el, sz, [s.dat (s.ev x)]⟩)
    rw [hd]
theorem p_buildm {d : Option Tmp} {t : TypeId} {ps : Array (Nat × Operand)} {fs : List (Nat × Nat)} {z : List AV} (ht : Θ.look t = .struct fs z) (hm : mixOK s (nilL z) ps.toList) (hc : csOK (ps.toList.map (·.2)) = true) :
    Pre P Θ ⟨d, .build t ps, ty, pos, after, g⟩ s ⟨.mix (mixParts s (nilL z) ps.toList), none⟩ := ⟨fs, z, ht, .inr ⟨hm, csOK_spec hc, rfl⟩⟩
end
end Go.Proofs.YtmfmclnklpbiaaaGreat.AM
