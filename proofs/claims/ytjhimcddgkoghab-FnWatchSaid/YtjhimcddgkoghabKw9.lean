/- Texts of the machine over data, folded. -/
import Derived.Test.YtjhimcddgkoghabKw5
import Derived.Test.YtjhimcddgkoghabKw8
import Derived.Test.YtjhimcddgkoghabKw7
import Derived.Test.YtjhimcddgkoghabKw6
/- Whether events are valid, on both sides. -/
namespace Go.Proofs.Ytjhimcddgkoghab.AM
open Go Go.RowKit
set_option linter.unusedVariables false
set_option linter.unusedSimpArgs false
set_option maxRecDepth 100000
def eB (e : Evt) : Bool := decide (1 ≤ e.ver ∧ e.ver ≤ 1000000) && decide (0 ≤ e.head ∧ e.head ≤ 60)
def fB (e b : Evt) : Bool := decide (e.ver = b.ver + 1) || (e.lag && decide (b.ver < e.ver))
def evG (l : List Evt) (i : Nat) : Prop := ∃ h : i < l.length, eB l[i] = true ∧ ∀ m, (hm : m + 1 = i) → fB l[i] (l[m]'(by omega)) = true
open Classical in
noncomputable def evsB (l : List Evt) : Bool := decide (∀ i, i < l.length → evG l i)
theorem evsB_f {l : List Evt} (h : ¬ ∀ i, i < l.length → evG l i) : evsB l = false := by unfold evsB; simpa using h
theorem evsB_t {l : List Evt} (h : ∀ i, i < l.length → evG l i) : evsB l = true := by unfold evsB; simpa using h
theorem evsB_of {l : List Evt} (h : evsB l = true) : ∀ i, i < l.length → evG l i := by unfold evsB at h; simpa using h
theorem eB_t {e : Evt} (h1 : 1 ≤ e.ver ∧ e.ver ≤ 1000000) (h2 : 0 ≤ e.head ∧ e.head ≤ 60) : eB e = true := by unfold eB; simp [h1, h2]
theorem eB_of {e : Evt} (h : eB e = true) : (1 ≤ e.ver ∧ e.ver ≤ 1000000) ∧ (0 ≤ e.head ∧ e.head ≤ 60) := by unfold eB at h; simpa using h
theorem fB_t {e b : Evt} (h : e.ver = b.ver + 1 ∨ (e.lag = true ∧ b.ver < e.ver)) : fB e b = true := by unfold fB; simpa using h
attribute [local irreducible] ACode AOps AOps2 RetG RetM Pre ACG
theorem ac_eventOK {e : Evt} : AC Try.prog 33 [evtA e] ⟨.v (.bool (eB e)), []⟩ := by
  by_cases h1 : 1 ≤ e.ver
  case neg =>
    rw [show eB e = false by unfold eB; simp [h1]]
    refine r_of Th_ok (by kernel_rfl) Try.func33 rfl Try.ntmps33 Try.results33 (by kernel_rfl) rfl ?_; conv => whnf
    repeat (((first | refine qb rfl rfl ?_ | refine qi (by assumption) rfl rfl ?_ | refine ql rfl ?_ | refine qo rfl rfl ?_ | refine qs rfl rfl ?_ | refine qn rfl rfl ?_); conv => whnf))
    exact r_ret1 rfl trivial
  by_cases h2 : e.ver ≤ 1000000
  case neg =>
    rw [show eB e = false by unfold eB; simp [h2]]
    refine r_of Th_ok (by kernel_rfl) Try.func33 rfl Try.ntmps33 Try.results33 (by kernel_rfl) rfl ?_; conv => whnf
    repeat (((first | refine qb rfl rfl ?_ | refine qi (by assumption) rfl rfl ?_ | refine ql rfl ?_ | refine qo rfl rfl ?_ | refine qs rfl rfl ?_ | refine qn rfl rfl ?_); conv => whnf))
    exact r_ret1 rfl trivial
  by_cases h3 : e.head = 0
  · rw [eB_t ⟨h1, h2⟩ ⟨by omega, by omega⟩]
    refine r_of Th_ok (by kernel_rfl) Try.func33 rfl Try.ntmps33 Try.results33 (by kernel_rfl) rfl ?_; conv => whnf
    repeat (((first | refine qb rfl rfl ?_ | refine qi (by assumption) rfl rfl ?_ | refine ql rfl ?_ | refine qo rfl rfl ?_ | refine qs rfl rfl ?_ | refine qn rfl rfl ?_); conv => whnf))
    exact r_ret1 rfl trivial
  by_cases h4 : 1 ≤ e.head ∧ e.head ≤ 60
  · rw [eB_t ⟨h1, h2⟩ ⟨by omega, by omega⟩]
    refine r_of Th_ok (by kernel_rfl) Try.func33 rfl Try.ntmps33 Try.results33 (by kernel_rfl) rfl ?_; conv => whnf
    repeat (first | ((first | refine qb rfl rfl ?_ | refine qi (by assumption) rfl rfl ?_ | refine ql rfl ?_ | refine qo rfl rfl ?_ | refine qs rfl rfl ?_ | refine qn rfl rfl ?_); conv => whnf) | (refine qc (ac_headOK_t h4.1 h4.2) rfl ?_; conv => whnf))
    exact r_ret1 rfl trivial
  · rw [show eB e = false by
      cases hh : eB e with
      | false => rfl
      | true => exact absurd (eB_of hh).2 (by omega)]
    refine r_of Th_ok (by kernel_rfl) Try.func33 rfl Try.ntmps33 Try.results33 (by kernel_rfl) rfl ?_; conv => whnf
    repeat (first | ((first | refine qb rfl rfl ?_ | refine qi (by assumption) rfl rfl ?_ | refine ql rfl ?_ | refine qo rfl rfl ?_ | refine qs rfl rfl ?_ | refine qn rfl rfl ?_); conv => whnf) | (refine qc (ac_headOK_f h4) rfl ?_; conv => whnf))
    exact r_ret1 rfl trivial
theorem ac_follows {e b : Evt} (hb : 1 ≤ b.ver ∧ b.ver ≤ 1000000) : AC Try.prog 34 [evtA e, evtA b] ⟨.v (.bool (fB e b)), []⟩ := by
  by_cases h1 : e.ver = b.ver + 1
  · rw [fB_t (.inl h1)]
    refine r_of Th_ok (by kernel_rfl) Try.func34 rfl Try.ntmps34 Try.results34 (by kernel_rfl) rfl ?_; conv => whnf
    repeat (((first | refine qb rfl rfl ?_ | refine qi (by assumption) rfl rfl ?_ | refine ql rfl ?_ | refine qo rfl rfl ?_ | refine qs rfl rfl ?_ | refine qn rfl rfl ?_); conv => whnf))
    exact r_ret1 rfl trivial
  cases hl : e.lag with
  | false =>
    rw [show fB e b = false by unfold fB; simp [h1, hl]]
    refine r_of Th_ok (by kernel_rfl) Try.func34 rfl Try.ntmps34 Try.results34 (by kernel_rfl) rfl ?_; conv => whnf
    repeat (first | ((first | refine qb rfl rfl ?_ | refine qi (by assumption) rfl rfl ?_ | refine ql rfl ?_ | refine qo rfl rfl ?_ | refine qs rfl rfl ?_ | refine qn rfl rfl ?_); conv => whnf) | (rw [hl]; conv => whnf))
    exact r_ret1 rfl trivial
  | true =>
    by_cases h2 : b.ver < e.ver
    · rw [fB_t (.inr ⟨hl, h2⟩)]
      refine r_of Th_ok (by kernel_rfl) Try.func34 rfl Try.ntmps34 Try.results34 (by kernel_rfl) rfl ?_; conv => whnf
      repeat (first | ((first | refine qb rfl rfl ?_ | refine qi (by assumption) rfl rfl ?_ | refine ql rfl ?_ | refine qo rfl rfl ?_ | refine qs rfl rfl ?_ | refine qn rfl rfl ?_); conv => whnf) | (rw [hl]; conv => whnf))
      exact r_ret1 rfl trivial
    · rw [show fB e b = false by unfold fB; simp [h1, h2]]
      refine r_of Th_ok (by kernel_rfl) Try.func34 rfl Try.ntmps34 Try.results34 (by kernel_rfl) rfl ?_; conv => whnf
      repeat (first | ((first | refine qb rfl rfl ?_ | refine qi (by assumption) rfl rfl ?_ | refine ql rfl ?_ | refine qo rfl rfl ?_ | refine qs rfl rfl ?_ | refine qn rfl rfl ?_); conv => whnf) | (rw [hl]; conv => whnf))
      exact r_ret1 rfl trivial
noncomputable def lnB (l : List Evt) : Bool := decide (l.length ≤ 4096) && evsB l
set_option maxHeartbeats 1000000 in
theorem ac_iEventsOK {l : List Evt} (hm : l.length ≤ maxLen) : AC Try.prog 15 [.lst 3 (l.map evtA)] ⟨.v (.bool (lnB l)), []⟩ := by
  have hm' := hm
  unfold maxLen at hm'
  by_cases hin : l.length ≤ 4096
  case neg =>
    rw [show lnB l = false by unfold lnB; simp [hin]]
    refine r_of Th_ok (by kernel_rfl) Try.func15 rfl Try.ntmps15 Try.results15 (by kernel_rfl) rfl ?_; conv => whnf
    repeat (((first | refine qb rfl rfl ?_ | refine qi (by assumption) rfl rfl ?_ | refine ql rfl ?_ | refine qo rfl rfl ?_ | refine qs rfl rfl ?_ | refine qn rfl rfl ?_); conv => whnf))
    exact r_ret1 rfl trivial
  rw [show lnB l = evsB l by unfold lnB; simp [hin]]
  refine r_of Th_ok (by kernel_rfl) Try.func15 rfl Try.ntmps15 Try.results15 (by kernel_rfl) rfl ?_; conv => whnf
  repeat (((first | refine qb rfl rfl ?_ | refine qi (by assumption) rfl rfl ?_ | refine ql rfl ?_ | refine qo rfl rfl ?_ | refine qs rfl rfl ?_ | refine qn rfl rfl ?_); conv => whnf))
  refine r_loop (ι := { k : Nat // k ≤ l.length ∧ ∀ i, i < k → evG l i }) (fun k => ⟨[(0, .lst 3 (l.map evtA)), (8, .lst 3 (l.map evtA)), (9, .v (.int .i64 (l.length : Int))), (10, .v (.int .i64 (k.1 : Int)))], []⟩) (fun k => l.length - k.1) ⟨0, Nat.zero_le _, fun i h => by omega⟩ (by refine ⟨?_, ?_⟩ <;> (repeat (first | trivial | exact ⟨rfl, trivial⟩ | refine ⟨rfl, ?_⟩ | refine ⟨.inl ⟨rfl, rfl⟩, ?_⟩ | refine ⟨.inr ⟨_, _, rfl, rfl, rfl, rfl, rfl⟩, ?_⟩))) ?_
  rintro ⟨k, hk', hd⟩
  dsimp only at hk' hd ⊢
  conv => whnf
  by_cases hlt : k < l.length
  case neg =>
    rw [evsB_t (fun i hi => hd i (by omega))]
    repeat (((first | refine qb rfl rfl ?_ | refine qi (by assumption) rfl rfl ?_ | refine ql rfl ?_ | refine qo rfl rfl ?_ | refine qs rfl rfl ?_ | refine qn rfl rfl ?_); conv => whnf))
    exact r_ret1 rfl trivial
  have hac := ac_eventOK (e := l[k])
  have nxt : evG l k → ∀ i, i < k + 1 → evG l i := fun q i hi => by
    rcases Nat.lt_or_ge i k with h | h
    · exact hd i h
    · have : i = k := by omega
      subst this; exact q
  cases hb : eB l[k] with
  | false =>
    rw [hb] at hac
    rw [evsB_f (fun h => by obtain ⟨_, q, _⟩ := h k hlt; rw [hb] at q; cases q)]
    repeat (first | ((first | refine qb rfl rfl ?_ | refine qi (by assumption) rfl rfl ?_ | refine ql rfl ?_ | refine qo rfl rfl ?_ | refine qs rfl rfl ?_ | refine qn rfl rfl ?_); conv => whnf) | (refine qc (hac) rfl ?_; conv => whnf) | (refine r_step (p_ostore rfl rfl rfl rfl rfl (by conv => lhs; whnf) rfl) rfl rfl (fun e => by first | exact .inl rfl | contradiction | exact .inr (.inl (by kernel_rfl))) ?_; conv => whnf) | (refine .inl (And.intro (by kernel_rfl) ?_); conv => whnf))
    exact r_ret1 rfl trivial
  | true =>
    rw [hb] at hac
    cases k with
    | zero =>
      repeat (first | ((first | refine qb rfl rfl ?_ | refine qi (by assumption) rfl rfl ?_ | refine ql rfl ?_ | refine qo rfl rfl ?_ | refine qs rfl rfl ?_ | refine qn rfl rfl ?_); conv => whnf) | (refine qc (hac) rfl ?_; conv => whnf) | (refine r_step (p_ostore rfl rfl rfl rfl rfl (by conv => lhs; whnf) rfl) rfl rfl (fun e => by first | exact .inl rfl | contradiction | exact .inr (.inl (by kernel_rfl))) ?_; conv => whnf) | (refine .inl (And.intro (by kernel_rfl) ?_); conv => whnf))
      exact ⟨⟨0 + 1, hlt, nxt ⟨hlt, hb, fun m hm => by omega⟩⟩, by refine ⟨?_, ?_⟩ <;> (repeat (first | trivial | exact ⟨rfl, trivial⟩ | refine ⟨rfl, ?_⟩ | refine ⟨.inl ⟨rfl, rfl⟩, ?_⟩ | refine ⟨.inr ⟨_, _, rfl, rfl, rfl, rfl, rfl⟩, ?_⟩)), by simp; omega⟩
    | succ m =>
      have hlm : m < l.length := by omega
      obtain ⟨_, p1, _⟩ := hd m (by omega)
      have hfo := ac_follows (e := l[m + 1]) (b := l[m]) (eB_of p1).1
      cases hf : fB l[m + 1] l[m] with
      | false =>
        rw [hf] at hfo
        rw [evsB_f (fun h => by obtain ⟨_, _, q⟩ := h (m + 1) hlt; rw [q m rfl] at hf; cases hf)]
        repeat (first | (refine r_put (p_bin (b_sub (c := ((m : Nat) : Int)) (by simp) (by omega) (by omega)) rfl rfl rfl) rfl rfl ?_; conv => whnf) | ((first | refine qb rfl rfl ?_ | refine qi (by assumption) rfl rfl ?_ | refine ql rfl ?_ | refine qo rfl rfl ?_ | refine qs rfl rfl ?_ | refine qn rfl rfl ?_); conv => whnf) | (refine qc (hac) rfl ?_; conv => whnf) | (refine qc (hfo) rfl ?_; conv => whnf) | (refine r_step (p_ostore rfl rfl rfl rfl rfl (by conv => lhs; whnf) rfl) rfl rfl (fun e => by first | exact .inl rfl | contradiction | exact .inr (.inl (by kernel_rfl))) ?_; conv => whnf) | (refine .inl (And.intro (by kernel_rfl) ?_); conv => whnf))
        exact r_ret1 rfl trivial
      | true =>
        rw [hf] at hfo
        repeat (first | (refine r_put (p_bin (b_sub (c := ((m : Nat) : Int)) (by simp) (by omega) (by omega)) rfl rfl rfl) rfl rfl ?_; conv => whnf) | ((first | refine qb rfl rfl ?_ | refine qi (by assumption) rfl rfl ?_ | refine ql rfl ?_ | refine qo rfl rfl ?_ | refine qs rfl rfl ?_ | refine qn rfl rfl ?_); conv => whnf) | (refine qc (hac) rfl ?_; conv => whnf) | (refine qc (hfo) rfl ?_; conv => whnf) | (refine r_step (p_ostore rfl rfl rfl rfl rfl (by conv => lhs; whnf) rfl) rfl rfl (fun e => by first | exact .inl rfl | contradiction | exact .inr (.inl (by kernel_rfl))) ?_; conv => whnf) | (refine .inl (And.intro (by kernel_rfl) ?_); conv => whnf))
        exact ⟨⟨m + 1 + 1, hlt, nxt ⟨hlt, hb, fun m' hm' => by
          have : m' = m := by omega
          subst this; exact hf⟩⟩, by refine ⟨?_, ?_⟩ <;> (repeat (first | trivial | exact ⟨rfl, trivial⟩ | refine ⟨rfl, ?_⟩ | refine ⟨.inl ⟨rfl, rfl⟩, ?_⟩ | refine ⟨.inr ⟨_, _, rfl, rfl, rfl, rfl, rfl⟩, ?_⟩)), by simp; omega⟩
set_option maxHeartbeats 4000000 in
theorem ac_l06Events {l : List Evt} (hm : l.length ≤ maxLen) : AC Try.prog 44 [.lst 3 (l.map evtA)] ⟨.v (.bool (evsB l)), []⟩ := by
  have hm' := hm
  unfold maxLen at hm'
  refine r_of Th_ok (by kernel_rfl) Try.func44 rfl Try.ntmps44 Try.results44 (by kernel_rfl) rfl ?_; conv => whnf
  refine r_loop (ι := { k : Nat // k ≤ l.length ∧ ∀ i, i < k → evG l i }) (fun k => ⟨[(0, .lst 3 (l.map evtA)), (3, .v (.int .i64 (k.1 : Int)))], []⟩) (fun k => l.length - k.1) ⟨0, Nat.zero_le _, fun i h => by omega⟩ (by refine ⟨?_, ?_⟩ <;> (repeat (first | trivial | exact ⟨rfl, trivial⟩ | refine ⟨rfl, ?_⟩ | refine ⟨.inl ⟨rfl, rfl⟩, ?_⟩ | refine ⟨.inr ⟨_, _, rfl, rfl, rfl, rfl, rfl⟩, ?_⟩))) ?_
  rintro ⟨k, hk', hd⟩
  dsimp only at hk' hd ⊢
  conv => whnf
  by_cases hlt : k < l.length
  case neg =>
    rw [evsB_t (fun i hi => hd i (by omega))]
    repeat (((first | refine qb rfl rfl ?_ | refine qi (by assumption) rfl rfl ?_ | refine ql rfl ?_ | refine qo rfl rfl ?_ | refine qs rfl rfl ?_ | refine qn rfl rfl ?_); conv => whnf))
    exact r_ret1 rfl trivial
  have nxt : evG l k → ∀ i, i < k + 1 → evG l i := fun q i hi => by
    rcases Nat.lt_or_ge i k with h | h
    · exact hd i h
    · have : i = k := by omega
      subst this; exact q
  by_cases h1 : 1 ≤ l[k].ver ∧ l[k].ver ≤ 1000000
  case neg =>
    rw [evsB_f (fun h => by obtain ⟨_, q, _⟩ := h k hlt; exact h1 (eB_of q).1)]
    as_aux_lemma =>
      repeat (((first | refine qb rfl rfl ?_ | refine qi (by assumption) rfl rfl ?_ | refine ql rfl ?_ | refine qo rfl rfl ?_ | refine qs rfl rfl ?_ | refine qn rfl rfl ?_); conv => whnf))
      refine o_stp (p_ostore rfl rfl rfl rfl rfl (by conv => lhs; whnf) rfl) rfl rfl (fun e => by first | exact .inl rfl | contradiction | exact .inr (.inl (by kernel_rfl))) ?_
      repeat (first | refine qC (ac_in_f h1) rfl ?_ | first | refine o_put (p_mv (by conv => lhs; whnf)) rfl rfl ?_ | refine o_put (p_as (by conv => lhs; whnf)) rfl rfl ?_ | refine o_put (p_asc rfl) rfl rfl ?_ | refine o_put (p_idx (getA _ (by assumption)) rfl rfl rfl) rfl rfl ?_ | refine o_put (p_fld rfl rfl rfl rfl rfl) rfl rfl ?_ | refine o_put (p_ld rfl rfl rfl rfl) rfl rfl ?_ | refine o_put (p_bin (by first | exact b_lt_t (by omega) | exact b_lt_f (by omega) | exact b_le_t (by omega) | exact b_le_f (by omega) | exact b_gt_t (by omega) | exact b_gt_f (by omega) | exact b_ge_t (by omega) | exact b_ge_f (by omega) | exact b_eq_t (by omega) | exact b_eq_f (by omega) | exact b_ne_t (by omega) | exact b_ne_f (by omega) | exact b_sub rfl (by omega) (by omega) | exact b_add rfl (by omega) (by omega)) rfl rfl rfl) rfl rfl ?_ | refine o_put (p_lenm rfl ⟨_, _, _, _, rfl⟩) rfl rfl ?_ | refine o_put (p_lenom rfl rfl ⟨_, _, _, _, rfl⟩) rfl rfl ?_ | refine o_put (p_len (y := .v (.string _)) rfl rfl rfl) rfl rfl ?_ | refine o_put (p_len rfl rfl ⟨_, _, _, _, rfl⟩) rfl rfl ?_ | refine o_put (p_not rfl) rfl rfl ?_ | refine o_put (p_pick (z := .v _) rfl rfl rfl rfl) rfl rfl ?_ | refine o_put (p_pick rfl rfl rfl rfl) rfl rfl ?_ | refine o_put (p_ext rfl (by conv => lhs; whnf)) rfl rfl ?_ | refine o_skip rfl rfl ?_ | refine o_nil (q_then ?_) | refine c_seq ?_ | refine c_reg ?_ | refine c_dreg (by kernel_rfl) ?_ | refine c_cond_t rfl ?_ | refine c_cond_f rfl ?_ | refine c_block ?_ | refine c_skip ?_ | refine q_then ?_ | refine q_thenr ?_ | refine q_thenx ?_ | refine q_blkn ?_ | refine q_blkr ?_ | refine q_blkx ?_ | refine q_blko rfl ?_ | refine c_exit ?_ | refine c_ret ?_ | refine q_ret ?_ | refine q_retn ?_ | refine o_put (p_ofld rfl rfl rfl) rfl rfl ?_ | refine o_put (p_old rfl rfl rfl rfl rfl rfl rfl) rfl rfl ?_ | refine o_put (p_oidx (by simpa using (by assumption)) rfl rfl rfl rfl rfl) rfl rfl ?_ | refine o_step rfl rfl (p_box (y := .agg _) rfl rfl rfl rfl) (fun e => by cases e) ?_ | refine o_step rfl rfl (p_allo rfl rfl) (fun e => by cases e) ?_ | refine .inl (And.intro (by kernel_rfl) ?_))
      exact ⟨trivial, [], by simp, trivial, ⟨trivial, trivial⟩, trivial, ⟨.inl ⟨rfl, rfl⟩, trivial⟩⟩
  by_cases h2 : 0 ≤ l[k].head ∧ l[k].head ≤ 60
  case neg =>
    rw [evsB_f (fun h => by obtain ⟨_, q, _⟩ := h k hlt; exact h2 (eB_of q).2)]
    as_aux_lemma =>
      repeat (((first | refine qb rfl rfl ?_ | refine qi (by assumption) rfl rfl ?_ | refine ql rfl ?_ | refine qo rfl rfl ?_ | refine qs rfl rfl ?_ | refine qn rfl rfl ?_); conv => whnf))
      refine o_stp (p_ostore rfl rfl rfl rfl rfl (by conv => lhs; whnf) rfl) rfl rfl (fun e => by first | exact .inl rfl | contradiction | exact .inr (.inl (by kernel_rfl))) ?_
      repeat (first | refine qC (ac_in_t h1.1 h1.2) rfl ?_ | refine qC (ac_in_f h2) rfl ?_ | first | refine o_put (p_mv (by conv => lhs; whnf)) rfl rfl ?_ | refine o_put (p_as (by conv => lhs; whnf)) rfl rfl ?_ | refine o_put (p_asc rfl) rfl rfl ?_ | refine o_put (p_idx (getA _ (by assumption)) rfl rfl rfl) rfl rfl ?_ | refine o_put (p_fld rfl rfl rfl rfl rfl) rfl rfl ?_ | refine o_put (p_ld rfl rfl rfl rfl) rfl rfl ?_ | refine o_put (p_bin (by first | exact b_lt_t (by omega) | exact b_lt_f (by omega) | exact b_le_t (by omega) | exact b_le_f (by omega) | exact b_gt_t (by omega) | exact b_gt_f (by omega) | exact b_ge_t (by omega) | exact b_ge_f (by omega) | exact b_eq_t (by omega) | exact b_eq_f (by omega) | exact b_ne_t (by omega) | exact b_ne_f (by omega) | exact b_sub rfl (by omega) (by omega) | exact b_add rfl (by omega) (by omega)) rfl rfl rfl) rfl rfl ?_ | refine o_put (p_lenm rfl ⟨_, _, _, _, rfl⟩) rfl rfl ?_ | refine o_put (p_lenom rfl rfl ⟨_, _, _, _, rfl⟩) rfl rfl ?_ | refine o_put (p_len (y := .v (.string _)) rfl rfl rfl) rfl rfl ?_ | refine o_put (p_len rfl rfl ⟨_, _, _, _, rfl⟩) rfl rfl ?_ | refine o_put (p_not rfl) rfl rfl ?_ | refine o_put (p_pick (z := .v _) rfl rfl rfl rfl) rfl rfl ?_ | refine o_put (p_pick rfl rfl rfl rfl) rfl rfl ?_ | refine o_put (p_ext rfl (by conv => lhs; whnf)) rfl rfl ?_ | refine o_skip rfl rfl ?_ | refine o_nil (q_then ?_) | refine c_seq ?_ | refine c_reg ?_ | refine c_dreg (by kernel_rfl) ?_ | refine c_cond_t rfl ?_ | refine c_cond_f rfl ?_ | refine c_block ?_ | refine c_skip ?_ | refine q_then ?_ | refine q_thenr ?_ | refine q_thenx ?_ | refine q_blkn ?_ | refine q_blkr ?_ | refine q_blkx ?_ | refine q_blko rfl ?_ | refine c_exit ?_ | refine c_ret ?_ | refine q_ret ?_ | refine q_retn ?_ | refine o_put (p_ofld rfl rfl rfl) rfl rfl ?_ | refine o_put (p_old rfl rfl rfl rfl rfl rfl rfl) rfl rfl ?_ | refine o_put (p_oidx (by simpa using (by assumption)) rfl rfl rfl rfl rfl) rfl rfl ?_ | refine o_step rfl rfl (p_box (y := .agg _) rfl rfl rfl rfl) (fun e => by cases e) ?_ | refine o_step rfl rfl (p_allo rfl rfl) (fun e => by cases e) ?_ | refine .inl (And.intro (by kernel_rfl) ?_))
      exact ⟨trivial, [], by simp, trivial, ⟨trivial, trivial⟩, trivial, ⟨.inl ⟨rfl, rfl⟩, trivial⟩⟩
  have hb : eB l[k] = true := eB_t h1 h2
  cases k with
  | zero =>
    as_aux_lemma =>
      repeat (((first | refine qb rfl rfl ?_ | refine qi (by assumption) rfl rfl ?_ | refine ql rfl ?_ | refine qo rfl rfl ?_ | refine qs rfl rfl ?_ | refine qn rfl rfl ?_); conv => whnf))
      refine o_stp (p_ostore rfl rfl rfl rfl rfl (by conv => lhs; whnf) rfl) rfl rfl (fun e => by first | exact .inl rfl | contradiction | exact .inr (.inl (by kernel_rfl))) ?_
      repeat (first | refine qC (ac_in_t h1.1 h1.2) rfl ?_ | refine qC (ac_in_t h2.1 h2.2) rfl ?_ | first | refine o_put (p_mv (by conv => lhs; whnf)) rfl rfl ?_ | refine o_put (p_as (by conv => lhs; whnf)) rfl rfl ?_ | refine o_put (p_asc rfl) rfl rfl ?_ | refine o_put (p_idx (getA _ (by assumption)) rfl rfl rfl) rfl rfl ?_ | refine o_put (p_fld rfl rfl rfl rfl rfl) rfl rfl ?_ | refine o_put (p_ld rfl rfl rfl rfl) rfl rfl ?_ | refine o_put (p_bin (by first | exact b_lt_t (by omega) | exact b_lt_f (by omega) | exact b_le_t (by omega) | exact b_le_f (by omega) | exact b_gt_t (by omega) | exact b_gt_f (by omega) | exact b_ge_t (by omega) | exact b_ge_f (by omega) | exact b_eq_t (by omega) | exact b_eq_f (by omega) | exact b_ne_t (by omega) | exact b_ne_f (by omega) | exact b_sub rfl (by omega) (by omega) | exact b_add rfl (by omega) (by omega)) rfl rfl rfl) rfl rfl ?_ | refine o_put (p_lenm rfl ⟨_, _, _, _, rfl⟩) rfl rfl ?_ | refine o_put (p_lenom rfl rfl ⟨_, _, _, _, rfl⟩) rfl rfl ?_ | refine o_put (p_len (y := .v (.string _)) rfl rfl rfl) rfl rfl ?_ | refine o_put (p_len rfl rfl ⟨_, _, _, _, rfl⟩) rfl rfl ?_ | refine o_put (p_not rfl) rfl rfl ?_ | refine o_put (p_pick (z := .v _) rfl rfl rfl rfl) rfl rfl ?_ | refine o_put (p_pick rfl rfl rfl rfl) rfl rfl ?_ | refine o_put (p_ext rfl (by conv => lhs; whnf)) rfl rfl ?_ | refine o_skip rfl rfl ?_ | refine o_nil (q_then ?_) | refine c_seq ?_ | refine c_reg ?_ | refine c_dreg (by kernel_rfl) ?_ | refine c_cond_t rfl ?_ | refine c_cond_f rfl ?_ | refine c_block ?_ | refine c_skip ?_ | refine q_then ?_ | refine q_thenr ?_ | refine q_thenx ?_ | refine q_blkn ?_ | refine q_blkr ?_ | refine q_blkx ?_ | refine q_blko rfl ?_ | refine c_exit ?_ | refine c_ret ?_ | refine q_ret ?_ | refine q_retn ?_ | refine o_put (p_ofld rfl rfl rfl) rfl rfl ?_ | refine o_put (p_old rfl rfl rfl rfl rfl rfl rfl) rfl rfl ?_ | refine o_put (p_oidx (by simpa using (by assumption)) rfl rfl rfl rfl rfl) rfl rfl ?_ | refine o_step rfl rfl (p_box (y := .agg _) rfl rfl rfl rfl) (fun e => by cases e) ?_ | refine o_step rfl rfl (p_allo rfl rfl) (fun e => by cases e) ?_ | refine .inl (And.intro (by kernel_rfl) ?_))
      exact ⟨⟨0 + 1, hlt, nxt ⟨hlt, hb, fun m hm => by omega⟩⟩, by refine ⟨?_, ?_⟩ <;> (repeat (first | trivial | exact ⟨rfl, trivial⟩ | refine ⟨rfl, ?_⟩ | refine ⟨.inl ⟨rfl, rfl⟩, ?_⟩ | refine ⟨.inr ⟨_, _, rfl, rfl, rfl, rfl, rfl⟩, ?_⟩)), by simp; omega⟩
  | succ m =>
    have hlm : m < l.length := by omega
    obtain ⟨_, p1, _⟩ := hd m (by omega)
    have p2 := (eB_of p1).1
    have bad : fB l[m + 1] l[m] = false → evsB l = false := fun q => evsB_f (fun h => by obtain ⟨_, _, q'⟩ := h (m + 1) hlt; rw [q' m rfl] at q; cases q)
    have good : fB l[m + 1] l[m] = true → evG l (m + 1) := fun q => ⟨hlt, hb, fun m' hm' => by
      have : m' = m := by omega
      subst this; exact q⟩
    by_cases h3 : l[m].ver < l[m + 1].ver
    case neg =>
      rw [bad (by unfold fB; simp [h3]; omega)]
      as_aux_lemma =>
        repeat (((first | refine qb rfl rfl ?_ | refine qi (by assumption) rfl rfl ?_ | refine ql rfl ?_ | refine qo rfl rfl ?_ | refine qs rfl rfl ?_ | refine qn rfl rfl ?_); conv => whnf))
        refine o_stp (p_ostore rfl rfl rfl rfl rfl (by conv => lhs; whnf) rfl) rfl rfl (fun e => by first | exact .inl rfl | contradiction | exact .inr (.inl (by kernel_rfl))) ?_
        repeat (first | refine qC (ac_in_t h1.1 h1.2) rfl ?_ | refine qC (ac_in_t h2.1 h2.2) rfl ?_ | (refine o_put (p_bin (b_sub (c := ((m : Nat) : Int)) (by simp) (by omega) (by omega)) rfl rfl rfl) rfl rfl ?_) | first | refine o_put (p_mv (by conv => lhs; whnf)) rfl rfl ?_ | refine o_put (p_as (by conv => lhs; whnf)) rfl rfl ?_ | refine o_put (p_asc rfl) rfl rfl ?_ | refine o_put (p_idx (getA _ (by assumption)) rfl rfl rfl) rfl rfl ?_ | refine o_put (p_fld rfl rfl rfl rfl rfl) rfl rfl ?_ | refine o_put (p_ld rfl rfl rfl rfl) rfl rfl ?_ | refine o_put (p_bin (by first | exact b_lt_t (by omega) | exact b_lt_f (by omega) | exact b_le_t (by omega) | exact b_le_f (by omega) | exact b_gt_t (by omega) | exact b_gt_f (by omega) | exact b_ge_t (by omega) | exact b_ge_f (by omega) | exact b_eq_t (by omega) | exact b_eq_f (by omega) | exact b_ne_t (by omega) | exact b_ne_f (by omega) | exact b_sub rfl (by omega) (by omega) | exact b_add rfl (by omega) (by omega)) rfl rfl rfl) rfl rfl ?_ | refine o_put (p_lenm rfl ⟨_, _, _, _, rfl⟩) rfl rfl ?_ | refine o_put (p_lenom rfl rfl ⟨_, _, _, _, rfl⟩) rfl rfl ?_ | refine o_put (p_len (y := .v (.string _)) rfl rfl rfl) rfl rfl ?_ | refine o_put (p_len rfl rfl ⟨_, _, _, _, rfl⟩) rfl rfl ?_ | refine o_put (p_not rfl) rfl rfl ?_ | refine o_put (p_pick (z := .v _) rfl rfl rfl rfl) rfl rfl ?_ | refine o_put (p_pick rfl rfl rfl rfl) rfl rfl ?_ | refine o_put (p_ext rfl (by conv => lhs; whnf)) rfl rfl ?_ | refine o_skip rfl rfl ?_ | refine o_nil (q_then ?_) | refine c_seq ?_ | refine c_reg ?_ | refine c_dreg (by kernel_rfl) ?_ | refine c_cond_t rfl ?_ | refine c_cond_f rfl ?_ | refine c_block ?_ | refine c_skip ?_ | refine q_then ?_ | refine q_thenr ?_ | refine q_thenx ?_ | refine q_blkn ?_ | refine q_blkr ?_ | refine q_blkx ?_ | refine q_blko rfl ?_ | refine c_exit ?_ | refine c_ret ?_ | refine q_ret ?_ | refine q_retn ?_ | refine o_put (p_ofld rfl rfl rfl) rfl rfl ?_ | refine o_put (p_old rfl rfl rfl rfl rfl rfl rfl) rfl rfl ?_ | refine o_put (p_oidx (by simpa using (by assumption)) rfl rfl rfl rfl rfl) rfl rfl ?_ | refine o_step rfl rfl (p_box (y := .agg _) rfl rfl rfl rfl) (fun e => by cases e) ?_ | refine o_step rfl rfl (p_allo rfl rfl) (fun e => by cases e) ?_ | refine .inl (And.intro (by kernel_rfl) ?_))
        exact ⟨trivial, [], by simp, trivial, ⟨trivial, trivial⟩, trivial, ⟨.inl ⟨rfl, rfl⟩, trivial⟩⟩
    cases hg : l[m + 1].lag with
    | true =>
      have hgo : getP (evtA l[m + 1]) [2] 0 = some (AV.v (.bool true), 2) := by show some (AV.v (.bool l[m + 1].lag), 2) = _; rw [hg]
      have hq := good (fB_t (.inr ⟨hg, h3⟩))
      as_aux_lemma =>
        repeat (((first | refine qb rfl rfl ?_ | refine qi (by assumption) rfl rfl ?_ | refine ql rfl ?_ | refine qo rfl rfl ?_ | refine qs rfl rfl ?_ | refine qn rfl rfl ?_); conv => whnf))
        refine o_stp (p_ostore rfl rfl rfl rfl rfl (by conv => lhs; whnf) rfl) rfl rfl (fun e => by first | exact .inl rfl | contradiction | exact .inr (.inl (by kernel_rfl))) ?_
        repeat (first | refine qC (ac_in_t h1.1 h1.2) rfl ?_ | refine qC (ac_in_t h2.1 h2.2) rfl ?_ | (refine o_put (p_old rfl rfl rfl hgo rfl rfl rfl) rfl rfl ?_) | (refine o_put (p_bin (b_sub (c := ((m : Nat) : Int)) (by simp) (by omega) (by omega)) rfl rfl rfl) rfl rfl ?_) | first | refine o_put (p_mv (by conv => lhs; whnf)) rfl rfl ?_ | refine o_put (p_as (by conv => lhs; whnf)) rfl rfl ?_ | refine o_put (p_asc rfl) rfl rfl ?_ | refine o_put (p_idx (getA _ (by assumption)) rfl rfl rfl) rfl rfl ?_ | refine o_put (p_fld rfl rfl rfl rfl rfl) rfl rfl ?_ | refine o_put (p_ld rfl rfl rfl rfl) rfl rfl ?_ | refine o_put (p_bin (by first | exact b_lt_t (by omega) | exact b_lt_f (by omega) | exact b_le_t (by omega) | exact b_le_f (by omega) | exact b_gt_t (by omega) | exact b_gt_f (by omega) | exact b_ge_t (by omega) | exact b_ge_f (by omega) | exact b_eq_t (by omega) | exact b_eq_f (by omega) | exact b_ne_t (by omega) | exact b_ne_f (by omega) | exact b_sub rfl (by omega) (by omega) | exact b_add rfl (by omega) (by omega)) rfl rfl rfl) rfl rfl ?_ | refine o_put (p_lenm rfl ⟨_, _, _, _, rfl⟩) rfl rfl ?_ | refine o_put (p_lenom rfl rfl ⟨_, _, _, _, rfl⟩) rfl rfl ?_ | refine o_put (p_len (y := .v (.string _)) rfl rfl rfl) rfl rfl ?_ | refine o_put (p_len rfl rfl ⟨_, _, _, _, rfl⟩) rfl rfl ?_ | refine o_put (p_not rfl) rfl rfl ?_ | refine o_put (p_pick (z := .v _) rfl rfl rfl rfl) rfl rfl ?_ | refine o_put (p_pick rfl rfl rfl rfl) rfl rfl ?_ | refine o_put (p_ext rfl (by conv => lhs; whnf)) rfl rfl ?_ | refine o_skip rfl rfl ?_ | refine o_nil (q_then ?_) | refine c_seq ?_ | refine c_reg ?_ | refine c_dreg (by kernel_rfl) ?_ | refine c_cond_t rfl ?_ | refine c_cond_f rfl ?_ | refine c_block ?_ | refine c_skip ?_ | refine q_then ?_ | refine q_thenr ?_ | refine q_thenx ?_ | refine q_blkn ?_ | refine q_blkr ?_ | refine q_blkx ?_ | refine q_blko rfl ?_ | refine c_exit ?_ | refine c_ret ?_ | refine q_ret ?_ | refine q_retn ?_ | refine o_put (p_ofld rfl rfl rfl) rfl rfl ?_ | refine o_put (p_old rfl rfl rfl rfl rfl rfl rfl) rfl rfl ?_ | refine o_put (p_oidx (by simpa using (by assumption)) rfl rfl rfl rfl rfl) rfl rfl ?_ | refine o_step rfl rfl (p_box (y := .agg _) rfl rfl rfl rfl) (fun e => by cases e) ?_ | refine o_step rfl rfl (p_allo rfl rfl) (fun e => by cases e) ?_ | refine .inl (And.intro (by kernel_rfl) ?_))
        exact ⟨⟨m + 1 + 1, hlt, nxt hq⟩, by refine ⟨?_, ?_⟩ <;> (repeat (first | trivial | exact ⟨rfl, trivial⟩ | refine ⟨rfl, ?_⟩ | refine ⟨.inl ⟨rfl, rfl⟩, ?_⟩ | refine ⟨.inr ⟨_, _, rfl, rfl, rfl, rfl, rfl⟩, ?_⟩)), by simp; omega⟩
    | false =>
      have hgo : getP (evtA l[m + 1]) [2] 0 = some (AV.v (.bool false), 2) := by show some (AV.v (.bool l[m + 1].lag), 2) = _; rw [hg]
      by_cases h4 : l[m + 1].ver = l[m].ver + 1
      · have hq := good (fB_t (.inl h4))
        as_aux_lemma =>
          repeat (((first | refine qb rfl rfl ?_ | refine qi (by assumption) rfl rfl ?_ | refine ql rfl ?_ | refine qo rfl rfl ?_ | refine qs rfl rfl ?_ | refine qn rfl rfl ?_); conv => whnf))
          refine o_stp (p_ostore rfl rfl rfl rfl rfl (by conv => lhs; whnf) rfl) rfl rfl (fun e => by first | exact .inl rfl | contradiction | exact .inr (.inl (by kernel_rfl))) ?_
          repeat (first | refine qC (ac_in_t h1.1 h1.2) rfl ?_ | refine qC (ac_in_t h2.1 h2.2) rfl ?_ | (refine o_put (p_old rfl rfl rfl hgo rfl rfl rfl) rfl rfl ?_) | (refine o_put (p_bin (b_sub (c := ((m : Nat) : Int)) (by simp) (by omega) (by omega)) rfl rfl rfl) rfl rfl ?_) | first | refine o_put (p_mv (by conv => lhs; whnf)) rfl rfl ?_ | refine o_put (p_as (by conv => lhs; whnf)) rfl rfl ?_ | refine o_put (p_asc rfl) rfl rfl ?_ | refine o_put (p_idx (getA _ (by assumption)) rfl rfl rfl) rfl rfl ?_ | refine o_put (p_fld rfl rfl rfl rfl rfl) rfl rfl ?_ | refine o_put (p_ld rfl rfl rfl rfl) rfl rfl ?_ | refine o_put (p_bin (by first | exact b_lt_t (by omega) | exact b_lt_f (by omega) | exact b_le_t (by omega) | exact b_le_f (by omega) | exact b_gt_t (by omega) | exact b_gt_f (by omega) | exact b_ge_t (by omega) | exact b_ge_f (by omega) | exact b_eq_t (by omega) | exact b_eq_f (by omega) | exact b_ne_t (by omega) | exact b_ne_f (by omega) | exact b_sub rfl (by omega) (by omega) | exact b_add rfl (by omega) (by omega)) rfl rfl rfl) rfl rfl ?_ | refine o_put (p_lenm rfl ⟨_, _, _, _, rfl⟩) rfl rfl ?_ | refine o_put (p_lenom rfl rfl ⟨_, _, _, _, rfl⟩) rfl rfl ?_ | refine o_put (p_len (y := .v (.string _)) rfl rfl rfl) rfl rfl ?_ | refine o_put (p_len rfl rfl ⟨_, _, _, _, rfl⟩) rfl rfl ?_ | refine o_put (p_not rfl) rfl rfl ?_ | refine o_put (p_pick (z := .v _) rfl rfl rfl rfl) rfl rfl ?_ | refine o_put (p_pick rfl rfl rfl rfl) rfl rfl ?_ | refine o_put (p_ext rfl (by conv => lhs; whnf)) rfl rfl ?_ | refine o_skip rfl rfl ?_ | refine o_nil (q_then ?_) | refine c_seq ?_ | refine c_reg ?_ | refine c_dreg (by kernel_rfl) ?_ | refine c_cond_t rfl ?_ | refine c_cond_f rfl ?_ | refine c_block ?_ | refine c_skip ?_ | refine q_then ?_ | refine q_thenr ?_ | refine q_thenx ?_ | refine q_blkn ?_ | refine q_blkr ?_ | refine q_blkx ?_ | refine q_blko rfl ?_ | refine c_exit ?_ | refine c_ret ?_ | refine q_ret ?_ | refine q_retn ?_ | refine o_put (p_ofld rfl rfl rfl) rfl rfl ?_ | refine o_put (p_old rfl rfl rfl rfl rfl rfl rfl) rfl rfl ?_ | refine o_put (p_oidx (by simpa using (by assumption)) rfl rfl rfl rfl rfl) rfl rfl ?_ | refine o_step rfl rfl (p_box (y := .agg _) rfl rfl rfl rfl) (fun e => by cases e) ?_ | refine o_step rfl rfl (p_allo rfl rfl) (fun e => by cases e) ?_ | refine .inl (And.intro (by kernel_rfl) ?_))
          exact ⟨⟨m + 1 + 1, hlt, nxt hq⟩, by refine ⟨?_, ?_⟩ <;> (repeat (first | trivial | exact ⟨rfl, trivial⟩ | refine ⟨rfl, ?_⟩ | refine ⟨.inl ⟨rfl, rfl⟩, ?_⟩ | refine ⟨.inr ⟨_, _, rfl, rfl, rfl, rfl, rfl⟩, ?_⟩)), by simp; omega⟩
      · rw [bad (by unfold fB; simp [h4, hg])]
        as_aux_lemma =>
          repeat (((first | refine qb rfl rfl ?_ | refine qi (by assumption) rfl rfl ?_ | refine ql rfl ?_ | refine qo rfl rfl ?_ | refine qs rfl rfl ?_ | refine qn rfl rfl ?_); conv => whnf))
          refine o_stp (p_ostore rfl rfl rfl rfl rfl (by conv => lhs; whnf) rfl) rfl rfl (fun e => by first | exact .inl rfl | contradiction | exact .inr (.inl (by kernel_rfl))) ?_
          repeat (first | refine qC (ac_in_t h1.1 h1.2) rfl ?_ | refine qC (ac_in_t h2.1 h2.2) rfl ?_ | (refine o_put (p_old rfl rfl rfl hgo rfl rfl rfl) rfl rfl ?_) | (refine o_put (p_bin (b_sub (c := ((m : Nat) : Int)) (by simp) (by omega) (by omega)) rfl rfl rfl) rfl rfl ?_) | first | refine o_put (p_mv (by conv => lhs; whnf)) rfl rfl ?_ | refine o_put (p_as (by conv => lhs; whnf)) rfl rfl ?_ | refine o_put (p_asc rfl) rfl rfl ?_ | refine o_put (p_idx (getA _ (by assumption)) rfl rfl rfl) rfl rfl ?_ | refine o_put (p_fld rfl rfl rfl rfl rfl) rfl rfl ?_ | refine o_put (p_ld rfl rfl rfl rfl) rfl rfl ?_ | refine o_put (p_bin (by first | exact b_lt_t (by omega) | exact b_lt_f (by omega) | exact b_le_t (by omega) | exact b_le_f (by omega) | exact b_gt_t (by omega) | exact b_gt_f (by omega) | exact b_ge_t (by omega) | exact b_ge_f (by omega) | exact b_eq_t (by omega) | exact b_eq_f (by omega) | exact b_ne_t (by omega) | exact b_ne_f (by omega) | exact b_sub rfl (by omega) (by omega) | exact b_add rfl (by omega) (by omega)) rfl rfl rfl) rfl rfl ?_ | refine o_put (p_lenm rfl ⟨_, _, _, _, rfl⟩) rfl rfl ?_ | refine o_put (p_lenom rfl rfl ⟨_, _, _, _, rfl⟩) rfl rfl ?_ | refine o_put (p_len (y := .v (.string _)) rfl rfl rfl) rfl rfl ?_ | refine o_put (p_len rfl rfl ⟨_, _, _, _, rfl⟩) rfl rfl ?_ | refine o_put (p_not rfl) rfl rfl ?_ | refine o_put (p_pick (z := .v _) rfl rfl rfl rfl) rfl rfl ?_ | refine o_put (p_pick rfl rfl rfl rfl) rfl rfl ?_ | refine o_put (p_ext rfl (by conv => lhs; whnf)) rfl rfl ?_ | refine o_skip rfl rfl ?_ | refine o_nil (q_then ?_) | refine c_seq ?_ | refine c_reg ?_ | refine c_dreg (by kernel_rfl) ?_ | refine c_cond_t rfl ?_ | refine c_cond_f rfl ?_ | refine c_block ?_ | refine c_skip ?_ | refine q_then ?_ | refine q_thenr ?_ | refine q_thenx ?_ | refine q_blkn ?_ | refine q_blkr ?_ | refine q_blkx ?_ | refine q_blko rfl ?_ | refine c_exit ?_ | refine c_ret ?_ | refine q_ret ?_ | refine q_retn ?_ | refine o_put (p_ofld rfl rfl rfl) rfl rfl ?_ | refine o_put (p_old rfl rfl rfl rfl rfl rfl rfl) rfl rfl ?_ | refine o_put (p_oidx (by simpa using (by assumption)) rfl rfl rfl rfl rfl) rfl rfl ?_ | refine o_step rfl rfl (p_box (y := .agg _) rfl rfl rfl rfl) (fun e => by cases e) ?_ | refine o_step rfl rfl (p_allo rfl rfl) (fun e => by cases e) ?_ | refine .inl (And.intro (by kernel_rfl) ?_))
          exact ⟨trivial, [], by simp, trivial, ⟨trivial, trivial⟩, trivial, ⟨.inl ⟨rfl, rfl⟩, trivial⟩⟩
end Go.Proofs.Ytjhimcddgkoghab.AM
/- Whether watches are valid, and equal, on both sides; the laws. -/
namespace Go.Proofs.Ytjhimcddgkoghab.AM
open Go Go.RowKit
set_option linter.unusedVariables false
set_option linter.unusedSimpArgs false
set_option maxRecDepth 100000
theorem hu_Event : Try.prog.underlying 29 = some (.struct (Try.prog.fieldsOf 29)) := by kernel_rfl
theorem held_Event : Try.prog.stoodInHeld 29 = false := by kernel_rfl
theorem guard_Event : Try.prog.eqGuardType Try.prog.depth 29 = false := by kernel_rfl
theorem event_eq (x y u v : Int) (g h : Bool) (w : World) : (Op.equalIn 10000 29 (.agg #[.int .i64 x, .int .i64 u, .bool g]) (.agg #[.int .i64 y, .int .i64 v, .bool h])).run Try.prog w = .ok (decide (x = y ∧ u = v ∧ g = h)) w := by
  have hf := Option.some.inj (hu_Event.symm.trans Try.underlying29)
  injection hf with hf
  rw [run_equalIn_struct w 9999 _ _ _ hu_Event held_Event, hf]
  have q0 : ∀ (n m : Int) (c : Bool) (w : World), (part 3 #[.int .i64 n, .int .i64 m, .bool c] 0).run Try.prog w = .ok (.int .i64 n) w := fun n m c w => rfl
  have q1 : ∀ (n m : Int) (c : Bool) (w : World), (part 3 #[.int .i64 n, .int .i64 m, .bool c] 1).run Try.prog w = .ok (.int .i64 m) w := fun n m c w => rfl
  have q2 : ∀ (n m : Int) (c : Bool) (w : World), (part 4 #[.int .i64 n, .int .i64 m, .bool c] 2).run Try.prog w = .ok (.bool c) w := fun n m c w => rfl
  have r1 := fun a b w => run_equalIn_int (P := Try.prog) w 9998 3 .i64 .i64 a b Try.underlying3
  have r2 := fun a b w => run_equalIn_bool' (P := Try.prog) w 9998 4 a b Try.underlying4
  by_cases h2 : x = y
  · subst h2
    by_cases h3 : u = v
    · subst h3
      cases g <;> cases h <;> simp [Op.eqFields, q0, q1, q2, r1, r2, Result.andThen]
    · simp [Op.eqFields, q0, q1, q2, r1, r2, Result.andThen, h3]
  · simp [Op.eqFields, q0, q1, q2, r1, r2, Result.andThen, h2]
theorem b_evtne {a b : Evt} {x y : Operand} {r : Bool} (h : decide (a ≠ b) = r) : BinOK Try.prog .neq 29 x y (.agg #[.int .i64 a.ver, .int .i64 a.head, .bool a.lag]) (.agg #[.int .i64 b.ver, .int .i64 b.head, .bool b.lag]) (.bool r) := fun w => by
  rw [Sem.run_bind, run_eqGuard_agg w _ _ _ _ _ _ guard_Event, Result.andThen_ok, run_neq_struct, event_eq, Result.andThen_ok, ← h]
  have : decide (a.ver = b.ver ∧ a.head = b.head ∧ a.lag = b.lag) = decide (a = b) := by
    rw [decide_eq_decide]; exact evt_ext.symm
  rw [this]
  by_cases e : a = b <;> simp [e]
theorem p_ldrm {P : Program} {Θ : Tab} {s : St} {d : Option Tmp} {ty : TypeId} {pos : String} {after : Array Edge} {g : Option (Nat × Bool)} {α : Type} {f : α → AV} {t : TypeId} {x y : Operand} {el sz b h : Nat} {k : IntKind} {z : AV} {xs : List α} (hh : h ≤ xs.length) (ht : Θ.look t = .slice el sz b z) (hx : s.ev x = .lst sz (xs.map f)) (hy : s.ev y = .v (.int k (h : Int))) : Pre P Θ ⟨d, .slice t x (some y) none none, ty, pos, after, g⟩ s ⟨.lst sz ((xs.drop h).map f), none⟩ := by
  have := p_lslice (P := P) (Θ := Θ) (s := s) (d := d) (ty := ty) (pos := pos) (after := after) (g := g) (t := t) (x := x) (lo := some y) (hi := none) (l := h) (h := (xs.map f).length) (xs := xs.map f) (by simpa using hh) (Nat.le_refl _) ht hx ⟨k, hy⟩ rfl
  rw [List.take_length, ← List.map_drop] at this
  exact this
def iAt : List Evt → Nat → Int
  | [], _ => -1
  | y :: l, k => if y.lag = true then k else iAt l (k + 1)
theorem iAt_drop {l : List Evt} {k : Nat} (h : k < l.length) : iAt (l.drop k) k = if l[k].lag = true then (k : Int) else iAt (l.drop (k + 1)) (k + 1) := by
  rw [List.drop_eq_getElem_cons h, iAt]
theorem iAt_any : ∀ (l : List Evt) (k : Nat), decide (0 ≤ iAt l k) = l.any (·.lag)
  | [], k => by simp [iAt]
  | y :: l, k => by
    unfold iAt
    rw [List.any_cons]
    cases h : y.lag with
    | true => rw [if_pos rfl]; simp <;> omega
    | false => rw [if_neg (by simp), iAt_any l (k + 1), Bool.false_or]
theorem iAt_le : ∀ (l : List Evt) (k : Nat), -1 ≤ iAt l k ∧ iAt l k ≤ k + l.length
  | [], k => by simp [iAt] <;> omega
  | y :: l, k => by
    unfold iAt
    split
    · simp; omega
    · have := iAt_le l (k + 1)
      simp only [List.length_cons]; omega
def lagB (l : List Evt) : Bool := (l.drop 1).any (·.lag)
noncomputable def qB (l : List Evt) (s : Int) : Bool := decide (l.length ≤ 4) && (evsB l && (decide ((l.getLast?.map (·.ver)) = some s) && !lagB l))
noncomputable def watB (w : Wat) : Bool := okN w.name && (decide (0 ≤ w.seen ∧ w.seen ≤ 1000000) && (decide (w.queue = []) || qB w.queue w.seen))
theorem last_at {l : List Evt} {m : Nat} (h : l.length = m + 1) : l.getLast? = some (l[m]'(by omega)) := by
  rw [List.getLast?_eq_getElem?, List.getElem?_eq_getElem (by omega)]
  congr 1
  have : l.length - 1 = m := by omega
  simp [this]
attribute [local irreducible] ACode AOps AOps2 RetG RetM Pre ACG
theorem ac_queueF {e : Evt} : AC Try.prog 50 [evtA e] ⟨.v (.bool e.lag), []⟩ := by
  refine r_of Th_ok (by kernel_rfl) Try.func50 rfl Try.ntmps50 Try.results50 (by kernel_rfl) rfl ?_; conv => whnf
  repeat (((first | refine qb rfl rfl ?_ | refine qi (by assumption) rfl rfl ?_ | refine ql rfl ?_ | refine qo rfl rfl ?_ | refine qs rfl rfl ?_ | refine qn rfl rfl ?_); conv => whnf))
  exact r_ret1 rfl trivial
theorem ac_indexEvt {l : List Evt} (hm : l.length ≤ 4096) : AC Try.prog 58 [.lst 3 (l.map evtA), .fn 50 [] []] ⟨.v (.int .i64 (iAt l 0)), []⟩ := by
  refine r_of Th_ok (by kernel_rfl) Try.func58 rfl Try.ntmps58 Try.results58 (by kernel_rfl) rfl ?_; conv => whnf
  repeat (((first | refine qb rfl rfl ?_ | refine qi (by assumption) rfl rfl ?_ | refine ql rfl ?_ | refine qo rfl rfl ?_ | refine qs rfl rfl ?_ | refine qn rfl rfl ?_); conv => whnf))
  refine r_loop (ι := { k : Nat // k ≤ l.length ∧ iAt (l.drop k) k = iAt l 0 }) (fun k => ⟨[(0, .lst 3 (l.map evtA)), (1, .fn 50 [] []), (7, .v (.int .i64 (l.length : Int))), (8, .v (.int .i64 (k.1 : Int)))], []⟩) (fun k => l.length - k.1) ⟨0, Nat.zero_le _, rfl⟩ (by refine ⟨?_, ?_⟩ <;> (repeat (first | trivial | exact ⟨rfl, trivial⟩ | refine ⟨rfl, ?_⟩ | refine ⟨.inl ⟨rfl, rfl⟩, ?_⟩ | refine ⟨.inr ⟨_, _, rfl, rfl, rfl, rfl, rfl⟩, ?_⟩))) ?_
  rintro ⟨k, hk, hd⟩
  dsimp only at hk hd ⊢
  conv => whnf
  by_cases hlt : k < l.length
  · rw [iAt_drop hlt] at hd
    have hq := ac_queueF (e := l[k])
    cases he : l[k].lag with
    | true =>
      rw [he, if_pos rfl] at hd
      rw [he] at hq
      rw [← hd]
      repeat (first | ((first | refine qb rfl rfl ?_ | refine qi (by assumption) rfl rfl ?_ | refine ql rfl ?_ | refine qo rfl rfl ?_ | refine qs rfl rfl ?_ | refine qn rfl rfl ?_); conv => whnf) | (refine r_step (p_callv hq rfl rfl (.inl rfl) trivial rfl rfl) rfl rfl (fun e => by first | exact .inl rfl | contradiction | exact .inr (.inl (by kernel_rfl))) ?_; conv => whnf))
      exact r_ret1 rfl trivial
    | false =>
      rw [he, if_neg (by simp)] at hd
      rw [he] at hq
      repeat (first | ((first | refine qb rfl rfl ?_ | refine qi (by assumption) rfl rfl ?_ | refine ql rfl ?_ | refine qo rfl rfl ?_ | refine qs rfl rfl ?_ | refine qn rfl rfl ?_); conv => whnf) | (refine r_step (p_callv hq rfl rfl (.inl rfl) trivial rfl rfl) rfl rfl (fun e => by first | exact .inl rfl | contradiction | exact .inr (.inl (by kernel_rfl))) ?_; conv => whnf))
      exact ⟨⟨k + 1, hlt, hd⟩, by refine ⟨?_, ?_⟩ <;> (repeat (first | trivial | exact ⟨rfl, trivial⟩ | refine ⟨rfl, ?_⟩ | refine ⟨.inl ⟨rfl, rfl⟩, ?_⟩ | refine ⟨.inr ⟨_, _, rfl, rfl, rfl, rfl, rfl⟩, ?_⟩)), by simp; omega⟩
  · rw [← hd, List.drop_eq_nil_of_le (by omega)]
    repeat (((first | refine qb rfl rfl ?_ | refine qi (by assumption) rfl rfl ?_ | refine ql rfl ?_ | refine qo rfl rfl ?_ | refine qs rfl rfl ?_ | refine qn rfl rfl ?_); conv => whnf))
    exact r_ret1 rfl trivial
theorem ac_containsEvt {l : List Evt} (hm : l.length ≤ 4096) : AC Try.prog 49 [.lst 3 (l.map evtA), .fn 50 [] []] ⟨.v (.bool (l.any (·.lag))), []⟩ := by
  have h1 := ac_indexEvt hm
  have h2 := iAt_any l 0
  obtain ⟨h3, h4⟩ := iAt_le l 0
  rw [← h2]
  generalize iAt l 0 = r at h1 h3 h4
  by_cases h : 0 ≤ r
  · rw [decide_eq_true h]
    refine r_of Th_ok (by kernel_rfl) Try.func49 rfl Try.ntmps49 Try.results49 (by kernel_rfl) rfl ?_; conv => whnf
    repeat (first | ((first | refine qb rfl rfl ?_ | refine qi (by assumption) rfl rfl ?_ | refine ql rfl ?_ | refine qo rfl rfl ?_ | refine qs rfl rfl ?_ | refine qn rfl rfl ?_); conv => whnf) | (refine qc (h1) rfl ?_; conv => whnf))
    exact r_ret1 rfl trivial
  · rw [decide_eq_false h]
    refine r_of Th_ok (by kernel_rfl) Try.func49 rfl Try.ntmps49 Try.results49 (by kernel_rfl) rfl ?_; conv => whnf
    repeat (first | ((first | refine qb rfl rfl ?_ | refine qi (by assumption) rfl rfl ?_ | refine ql rfl ?_ | refine qo rfl rfl ?_ | refine qs rfl rfl ?_ | refine qn rfl rfl ?_); conv => whnf) | (refine qc (h1) rfl ?_; conv => whnf))
    exact r_ret1 rfl trivial
theorem ac_queueOK {l : List Evt} {s : Int} (hm : l.length ≤ maxLen) (h0 : 0 < l.length) (hs : -9000000000000000000 ≤ s ∧ s ≤ 9000000000000000000) : AC Try.prog 32 [.lst 3 (l.map evtA), .v (.int .i64 s)] ⟨.v (.bool (qB l s)), []⟩ := by
  have hm' := hm
  unfold maxLen at hm'
  by_cases h4 : l.length ≤ 4
  case neg =>
    rw [show qB l s = false by unfold qB; simp [h4]]
    refine r_of Th_ok (by kernel_rfl) Try.func32 rfl Try.ntmps32 Try.results32 (by kernel_rfl) rfl ?_; conv => whnf
    repeat (((first | refine qb rfl rfl ?_ | refine qi (by assumption) rfl rfl ?_ | refine ql rfl ?_ | refine qo rfl rfl ?_ | refine qs rfl rfl ?_ | refine qn rfl rfl ?_); conv => whnf))
    exact r_ret1 rfl trivial
  have h1 := ac_iEventsOK hm
  rw [show lnB l = evsB l by unfold lnB; simp; intro; omega] at h1
  have hq : qB l s = (evsB l && (decide ((l.getLast?.map (·.ver)) = some s) && !lagB l)) := by unfold qB; simp [h4]
  rw [hq]
  generalize evsB l = x at h1
  cases x
  case false =>
    rw [Bool.false_and]
    refine r_of Th_ok (by kernel_rfl) Try.func32 rfl Try.ntmps32 Try.results32 (by kernel_rfl) rfl ?_; conv => whnf
    repeat (first | ((first | refine qb rfl rfl ?_ | refine qi (by assumption) rfl rfl ?_ | refine ql rfl ?_ | refine qo rfl rfl ?_ | refine qs rfl rfl ?_ | refine qn rfl rfl ?_); conv => whnf) | (refine qc (h1) rfl ?_; conv => whnf))
    exact r_ret1 rfl trivial
  rw [Bool.true_and]
  obtain ⟨m, hl⟩ : ∃ m, l.length = m + 1 := ⟨l.length - 1, by omega⟩
  have hlm : m < l.length := by omega
  rw [last_at hl]
  by_cases hv : l[m].ver = s
  case neg =>
    rw [show (decide (Option.map (·.ver) (some l[m]) = some s) && !lagB l) = false by simp [hv]]
    refine r_of Th_ok (by kernel_rfl) Try.func32 rfl Try.ntmps32 Try.results32 (by kernel_rfl) rfl ?_; conv => whnf
    repeat (first | (refine r_put (p_bin (b_sub (c := ((m : Nat) : Int)) (by omega) (by omega) (by omega)) rfl rfl rfl) rfl rfl ?_; conv => whnf) | ((first | refine qb rfl rfl ?_ | refine qi (by assumption) rfl rfl ?_ | refine ql rfl ?_ | refine qo rfl rfl ?_ | refine qs rfl rfl ?_ | refine qn rfl rfl ?_); conv => whnf) | (refine qc (h1) rfl ?_; conv => whnf))
    exact r_ret1 rfl trivial
  rw [show (decide (Option.map (·.ver) (some l[m]) = some s) && !lagB l) = !lagB l by simp [hv]]
  have h5 := ac_containsEvt (l := l.drop 1) (by simp; omega)
  unfold lagB
  generalize (l.drop 1).any (·.lag) = x at h5
  cases x
  all_goals
    refine r_of Th_ok (by kernel_rfl) Try.func32 rfl Try.ntmps32 Try.results32 (by kernel_rfl) rfl ?_; conv => whnf
    repeat (first | (refine r_put (p_bin (b_sub (c := ((m : Nat) : Int)) (by omega) (by omega) (by omega)) rfl rfl rfl) rfl rfl ?_; conv => whnf) | ((first | refine qb rfl rfl ?_ | refine qi (by assumption) rfl rfl ?_ | refine ql rfl ?_ | refine qo rfl rfl ?_ | refine qs rfl rfl ?_ | refine qn rfl rfl ?_); conv => whnf) | (refine qc (h1) rfl ?_; conv => whnf) | (refine r_put (p_ldrm (h := 1) (xs := l) (f := evtA) (by omega) rfl rfl rfl) rfl rfl ?_; conv => whnf) | (refine qc (h5) rfl ?_; conv => whnf))
    exact r_ret1 rfl trivial
theorem ac_iWatchOK {w : Wat} (hw : w.ok maxLen) : AC Try.prog 11 [watA w] ⟨.v (.bool (watB w)), []⟩ := by
  obtain ⟨hk, hq⟩ := hw
  have hk' := hk
  have hq' := hq
  unfold maxLen at hk' hq'
  have h1 := ac_nameOK hk rfl
  unfold watB
  generalize okN w.name = x at h1
  cases x
  case false =>
    rw [Bool.false_and]
    refine r_of Th_ok (by kernel_rfl) Try.func11 rfl Try.ntmps11 Try.results11 (by kernel_rfl) rfl ?_; conv => whnf
    repeat (first | ((first | refine qb rfl rfl ?_ | refine qi (by assumption) rfl rfl ?_ | refine ql rfl ?_ | refine qo rfl rfl ?_ | refine qs rfl rfl ?_ | refine qn rfl rfl ?_); conv => whnf) | (refine qc (h1) rfl ?_; conv => whnf))
    exact r_ret1 rfl trivial
  rw [Bool.true_and]
  by_cases s0 : 0 ≤ w.seen
  case neg =>
    rw [decide_eq_false (fun h => s0 h.1), Bool.false_and]
    refine r_of Th_ok (by kernel_rfl) Try.func11 rfl Try.ntmps11 Try.results11 (by kernel_rfl) rfl ?_; conv => whnf
    repeat (first | ((first | refine qb rfl rfl ?_ | refine qi (by assumption) rfl rfl ?_ | refine ql rfl ?_ | refine qo rfl rfl ?_ | refine qs rfl rfl ?_ | refine qn rfl rfl ?_); conv => whnf) | (refine qc (h1) rfl ?_; conv => whnf))
    exact r_ret1 rfl trivial
  by_cases s1 : w.seen ≤ 1000000
  case neg =>
    rw [decide_eq_false (fun h => s1 h.2), Bool.false_and]
    refine r_of Th_ok (by kernel_rfl) Try.func11 rfl Try.ntmps11 Try.results11 (by kernel_rfl) rfl ?_; conv => whnf
    repeat (first | ((first | refine qb rfl rfl ?_ | refine qi (by assumption) rfl rfl ?_ | refine ql rfl ?_ | refine qo rfl rfl ?_ | refine qs rfl rfl ?_ | refine qn rfl rfl ?_); conv => whnf) | (refine qc (h1) rfl ?_; conv => whnf))
    exact r_ret1 rfl trivial
  rw [decide_eq_true ⟨s0, s1⟩, Bool.true_and]
  by_cases hn : w.queue.length = 0
  · have : w.queue = [] := List.eq_nil_of_length_eq_zero hn
    rw [decide_eq_true this, Bool.true_or]
    refine r_of Th_ok (by kernel_rfl) Try.func11 rfl Try.ntmps11 Try.results11 (by kernel_rfl) rfl ?_; conv => whnf
    repeat (first | ((first | refine qb rfl rfl ?_ | refine qi (by assumption) rfl rfl ?_ | refine ql rfl ?_ | refine qo rfl rfl ?_ | refine qs rfl rfl ?_ | refine qn rfl rfl ?_); conv => whnf) | (refine qc (h1) rfl ?_; conv => whnf))
    exact r_ret1 rfl trivial
  have hne : ¬ w.queue = [] := fun e => hn (by rw [e]; rfl)
  rw [decide_eq_false hne, Bool.false_or]
  have h2 := ac_queueOK (s := w.seen) hq (by omega) (by omega)
  refine r_of Th_ok (by kernel_rfl) Try.func11 rfl Try.ntmps11 Try.results11 (by kernel_rfl) rfl ?_; conv => whnf
  repeat (first | ((first | refine qb rfl rfl ?_ | refine qi (by assumption) rfl rfl ?_ | refine ql rfl ?_ | refine qo rfl rfl ?_ | refine qs rfl rfl ?_ | refine qn rfl rfl ?_); conv => whnf) | (refine qc (h1) rfl ?_; conv => whnf) | (refine qc (h2) rfl ?_; conv => whnf))
  exact r_ret1 rfl trivial
end Go.Proofs.Ytjhimcddgkoghab.AM
