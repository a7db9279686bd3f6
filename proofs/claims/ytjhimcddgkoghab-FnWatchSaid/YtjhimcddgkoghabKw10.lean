/- Texts of the machine over data, folded. -/
import Derived.Test.YtjhimcddgkoghabKw5
import Derived.Test.YtjhimcddgkoghabKw9
import Derived.Test.YtjhimcddgkoghabKw6
import Derived.Test.YtjhimcddgkoghabKw7
import Derived.Test.YtjhimcddgkoghabKw8
namespace Go.Proofs.Ytjhimcddgkoghab.AM
open Go Go.RowKit
set_option linter.unusedVariables false
set_option linter.unusedSimpArgs false
set_option maxRecDepth 100000
theorem lagB_f {l : List Evt} (h : ∀ i, (hi : i < l.length) → 1 ≤ i → l[i].lag = false) : lagB l = false := by
  unfold lagB
  rw [List.any_eq_false]
  intro x hx
  obtain ⟨i, hi, rfl⟩ := List.getElem_of_mem hx
  rw [List.getElem_drop]
  simp only [Bool.not_eq_true]
  exact h (1 + i) (by simp at hi; omega) (by omega)
theorem lagB_t {l : List Evt} {i : Nat} (hi : i < l.length) (h1 : 1 ≤ i) (h : l[i].lag = true) : lagB l = true := by
  unfold lagB
  rw [List.any_eq_true]
  refine ⟨l[i], ?_, h⟩
  rw [List.mem_iff_getElem]
  refine ⟨i - 1, by simp; omega, ?_⟩
  rw [List.getElem_drop]
  congr 1; omega
theorem watB_n {w : Wat} (h : okN w.name = false) : watB w = false := by unfold watB; rw [h, Bool.false_and]
theorem watB_s {w : Wat} (h : ¬ (0 ≤ w.seen ∧ w.seen ≤ 1000000)) : watB w = false := by unfold watB; rw [decide_eq_false h]; simp
theorem watB_q {w : Wat} (hn : okN w.name = true) (hs : 0 ≤ w.seen ∧ w.seen ≤ 1000000) : watB w = (decide (w.queue = []) || qB w.queue w.seen) := by unfold watB; rw [hn, decide_eq_true hs]; simp
theorem watB_4 {w : Wat} (hn : okN w.name = true) (hs : 0 ≤ w.seen ∧ w.seen ≤ 1000000) (h : ¬ w.queue.length ≤ 4) : watB w = false := by
  rw [watB_q hn hs]
  have : ¬ w.queue = [] := fun e => h (by rw [e]; simp)
  unfold qB; simp [h, this]
theorem evsB_nil : evsB [] = true := evsB_t (fun i h => by simp at h)
theorem watB_e {w : Wat} (hn : okN w.name = true) (hs : 0 ≤ w.seen ∧ w.seen ≤ 1000000) (h4 : w.queue.length ≤ 4) (h : evsB w.queue = false) : watB w = false := by
  rw [watB_q hn hs]
  have : ¬ w.queue = [] := fun e => by rw [e, evsB_nil] at h; cases h
  unfold qB; simp [h, this]
theorem watB_0 {w : Wat} (hn : okN w.name = true) (hs : 0 ≤ w.seen ∧ w.seen ≤ 1000000) (h0 : w.queue.length = 0) : watB w = true := by
  rw [watB_q hn hs, List.eq_nil_of_length_eq_zero h0]; simp
theorem watB_m {w : Wat} (hn : okN w.name = true) (hs : 0 ≤ w.seen ∧ w.seen ≤ 1000000) (h4 : w.queue.length ≤ 4) (he : evsB w.queue = true) {m : Nat} (hl : w.queue.length = m + 1) : watB w = (decide ((w.queue[m]'(by omega)).ver = w.seen) && !lagB w.queue) := by
  rw [watB_q hn hs]
  have : ¬ w.queue = [] := fun e => by rw [e] at hl; simp at hl
  unfold qB; simp [h4, he, this, last_at hl]
attribute [local irreducible] ACode AOps AOps2 RetG RetM Pre ACG
set_option maxHeartbeats 4000000 in
theorem ac_l06OK {w : Wat} (hw : w.ok maxLen) : AC Try.prog 24 [watA w] ⟨.v (.bool (watB w)), []⟩ := by
  obtain ⟨hk, hq⟩ := hw
  have hq' := hq
  unfold maxLen at hq'
  have e1 := ac_l06Events hq
  cases hn : okN w.name with
  | false =>
    rw [watB_n hn]
    as_aux_lemma =>
      refine o_of Th_ok (by kernel_rfl) Try.func24 rfl Try.ntmps24 Try.results24 (by kernel_rfl) rfl ?_
      repeat (first | refine qC (ac_l00Word hk hn) rfl ?_ | first | refine o_put (p_mv (by conv => lhs; whnf)) rfl rfl ?_ | refine o_put (p_as (by conv => lhs; whnf)) rfl rfl ?_ | refine o_put (p_asc rfl) rfl rfl ?_ | refine o_put (p_idx (getA _ (by assumption)) rfl rfl rfl) rfl rfl ?_ | refine o_put (p_fld rfl rfl rfl rfl rfl) rfl rfl ?_ | refine o_put (p_ld rfl rfl rfl rfl) rfl rfl ?_ | refine o_put (p_bin (by first | exact b_lt_t (by omega) | exact b_lt_f (by omega) | exact b_le_t (by omega) | exact b_le_f (by omega) | exact b_gt_t (by omega) | exact b_gt_f (by omega) | exact b_ge_t (by omega) | exact b_ge_f (by omega) | exact b_eq_t (by omega) | exact b_eq_f (by omega) | exact b_ne_t (by omega) | exact b_ne_f (by omega) | exact b_sub rfl (by omega) (by omega) | exact b_add rfl (by omega) (by omega)) rfl rfl rfl) rfl rfl ?_ | refine o_put (p_lenm rfl ⟨_, _, _, _, rfl⟩) rfl rfl ?_ | refine o_put (p_lenom rfl rfl ⟨_, _, _, _, rfl⟩) rfl rfl ?_ | refine o_put (p_len (y := .v (.string _)) rfl rfl rfl) rfl rfl ?_ | refine o_put (p_len rfl rfl ⟨_, _, _, _, rfl⟩) rfl rfl ?_ | refine o_put (p_not rfl) rfl rfl ?_ | refine o_put (p_pick (z := .v _) rfl rfl rfl rfl) rfl rfl ?_ | refine o_put (p_pick rfl rfl rfl rfl) rfl rfl ?_ | refine o_put (p_ext rfl (by conv => lhs; whnf)) rfl rfl ?_ | refine o_skip rfl rfl ?_ | refine o_nil (q_then ?_) | refine c_seq ?_ | refine c_reg ?_ | refine c_dreg (by kernel_rfl) ?_ | refine c_cond_t rfl ?_ | refine c_cond_f rfl ?_ | refine c_block ?_ | refine c_skip ?_ | refine q_then ?_ | refine q_thenr ?_ | refine q_thenx ?_ | refine q_blkn ?_ | refine q_blkr ?_ | refine q_blkx ?_ | refine q_blko rfl ?_ | refine c_exit ?_ | refine c_ret ?_ | refine q_ret ?_ | refine q_retn ?_ | refine o_put (p_ofld rfl rfl rfl) rfl rfl ?_ | refine o_put (p_old rfl rfl rfl rfl rfl rfl rfl) rfl rfl ?_ | refine o_put (p_oidx (by simpa using (by assumption)) rfl rfl rfl rfl rfl) rfl rfl ?_ | refine o_step rfl rfl (p_box (y := .agg _) rfl rfl rfl rfl) (fun e => by cases e) ?_ | refine o_step rfl rfl (p_allo rfl rfl) (fun e => by cases e) ?_)
      exact ⟨trivial, [], by simp, trivial, ⟨trivial, trivial⟩, trivial, ⟨.inl ⟨rfl, rfl⟩, trivial⟩⟩
  | true =>
  by_cases hs : 0 ≤ w.seen ∧ w.seen ≤ 1000000
  case neg =>
    rw [watB_s hs]
    as_aux_lemma =>
      refine o_of Th_ok (by kernel_rfl) Try.func24 rfl Try.ntmps24 Try.results24 (by kernel_rfl) rfl ?_
      repeat (first | refine qC (ac_l00Word hk hn) rfl ?_ | refine qC (ac_in_f hs) rfl ?_ | first | refine o_put (p_mv (by conv => lhs; whnf)) rfl rfl ?_ | refine o_put (p_as (by conv => lhs; whnf)) rfl rfl ?_ | refine o_put (p_asc rfl) rfl rfl ?_ | refine o_put (p_idx (getA _ (by assumption)) rfl rfl rfl) rfl rfl ?_ | refine o_put (p_fld rfl rfl rfl rfl rfl) rfl rfl ?_ | refine o_put (p_ld rfl rfl rfl rfl) rfl rfl ?_ | refine o_put (p_bin (by first | exact b_lt_t (by omega) | exact b_lt_f (by omega) | exact b_le_t (by omega) | exact b_le_f (by omega) | exact b_gt_t (by omega) | exact b_gt_f (by omega) | exact b_ge_t (by omega) | exact b_ge_f (by omega) | exact b_eq_t (by omega) | exact b_eq_f (by omega) | exact b_ne_t (by omega) | exact b_ne_f (by omega) | exact b_sub rfl (by omega) (by omega) | exact b_add rfl (by omega) (by omega)) rfl rfl rfl) rfl rfl ?_ | refine o_put (p_lenm rfl ⟨_, _, _, _, rfl⟩) rfl rfl ?_ | refine o_put (p_lenom rfl rfl ⟨_, _, _, _, rfl⟩) rfl rfl ?_ | refine o_put (p_len (y := .v (.string _)) rfl rfl rfl) rfl rfl ?_ | refine o_put (p_len rfl rfl ⟨_, _, _, _, rfl⟩) rfl rfl ?_ | refine o_put (p_not rfl) rfl rfl ?_ | refine o_put (p_pick (z := .v _) rfl rfl rfl rfl) rfl rfl ?_ | refine o_put (p_pick rfl rfl rfl rfl) rfl rfl ?_ | refine o_put (p_ext rfl (by conv => lhs; whnf)) rfl rfl ?_ | refine o_skip rfl rfl ?_ | refine o_nil (q_then ?_) | refine c_seq ?_ | refine c_reg ?_ | refine c_dreg (by kernel_rfl) ?_ | refine c_cond_t rfl ?_ | refine c_cond_f rfl ?_ | refine c_block ?_ | refine c_skip ?_ | refine q_then ?_ | refine q_thenr ?_ | refine q_thenx ?_ | refine q_blkn ?_ | refine q_blkr ?_ | refine q_blkx ?_ | refine q_blko rfl ?_ | refine c_exit ?_ | refine c_ret ?_ | refine q_ret ?_ | refine q_retn ?_ | refine o_put (p_ofld rfl rfl rfl) rfl rfl ?_ | refine o_put (p_old rfl rfl rfl rfl rfl rfl rfl) rfl rfl ?_ | refine o_put (p_oidx (by simpa using (by assumption)) rfl rfl rfl rfl rfl) rfl rfl ?_ | refine o_step rfl rfl (p_box (y := .agg _) rfl rfl rfl rfl) (fun e => by cases e) ?_ | refine o_step rfl rfl (p_allo rfl rfl) (fun e => by cases e) ?_)
      exact ⟨trivial, [], by simp, trivial, ⟨trivial, trivial⟩, trivial, ⟨.inl ⟨rfl, rfl⟩, trivial⟩⟩
  by_cases h4 : w.queue.length ≤ 4
  case neg =>
    rw [watB_4 hn hs h4]
    as_aux_lemma =>
      refine o_of Th_ok (by kernel_rfl) Try.func24 rfl Try.ntmps24 Try.results24 (by kernel_rfl) rfl ?_
      repeat (first | refine qC (ac_l00Word hk hn) rfl ?_ | refine qC (ac_in_t hs.1 hs.2) rfl ?_ | first | refine o_put (p_mv (by conv => lhs; whnf)) rfl rfl ?_ | refine o_put (p_as (by conv => lhs; whnf)) rfl rfl ?_ | refine o_put (p_asc rfl) rfl rfl ?_ | refine o_put (p_idx (getA _ (by assumption)) rfl rfl rfl) rfl rfl ?_ | refine o_put (p_fld rfl rfl rfl rfl rfl) rfl rfl ?_ | refine o_put (p_ld rfl rfl rfl rfl) rfl rfl ?_ | refine o_put (p_bin (by first | exact b_lt_t (by omega) | exact b_lt_f (by omega) | exact b_le_t (by omega) | exact b_le_f (by omega) | exact b_gt_t (by omega) | exact b_gt_f (by omega) | exact b_ge_t (by omega) | exact b_ge_f (by omega) | exact b_eq_t (by omega) | exact b_eq_f (by omega) | exact b_ne_t (by omega) | exact b_ne_f (by omega) | exact b_sub rfl (by omega) (by omega) | exact b_add rfl (by omega) (by omega)) rfl rfl rfl) rfl rfl ?_ | refine o_put (p_lenm rfl ⟨_, _, _, _, rfl⟩) rfl rfl ?_ | refine o_put (p_lenom rfl rfl ⟨_, _, _, _, rfl⟩) rfl rfl ?_ | refine o_put (p_len (y := .v (.string _)) rfl rfl rfl) rfl rfl ?_ | refine o_put (p_len rfl rfl ⟨_, _, _, _, rfl⟩) rfl rfl ?_ | refine o_put (p_not rfl) rfl rfl ?_ | refine o_put (p_pick (z := .v _) rfl rfl rfl rfl) rfl rfl ?_ | refine o_put (p_pick rfl rfl rfl rfl) rfl rfl ?_ | refine o_put (p_ext rfl (by conv => lhs; whnf)) rfl rfl ?_ | refine o_skip rfl rfl ?_ | refine o_nil (q_then ?_) | refine c_seq ?_ | refine c_reg ?_ | refine c_dreg (by kernel_rfl) ?_ | refine c_cond_t rfl ?_ | refine c_cond_f rfl ?_ | refine c_block ?_ | refine c_skip ?_ | refine q_then ?_ | refine q_thenr ?_ | refine q_thenx ?_ | refine q_blkn ?_ | refine q_blkr ?_ | refine q_blkx ?_ | refine q_blko rfl ?_ | refine c_exit ?_ | refine c_ret ?_ | refine q_ret ?_ | refine q_retn ?_ | refine o_put (p_ofld rfl rfl rfl) rfl rfl ?_ | refine o_put (p_old rfl rfl rfl rfl rfl rfl rfl) rfl rfl ?_ | refine o_put (p_oidx (by simpa using (by assumption)) rfl rfl rfl rfl rfl) rfl rfl ?_ | refine o_step rfl rfl (p_box (y := .agg _) rfl rfl rfl rfl) (fun e => by cases e) ?_ | refine o_step rfl rfl (p_allo rfl rfl) (fun e => by cases e) ?_)
      exact ⟨trivial, [], by simp, trivial, ⟨trivial, trivial⟩, trivial, ⟨.inl ⟨rfl, rfl⟩, trivial⟩⟩
  cases he : evsB w.queue with
  | false =>
    rw [watB_e hn hs h4 he]
    rw [he] at e1
    as_aux_lemma =>
      refine o_of Th_ok (by kernel_rfl) Try.func24 rfl Try.ntmps24 Try.results24 (by kernel_rfl) rfl ?_
      repeat (first | refine qC (ac_l00Word hk hn) rfl ?_ | refine qC (ac_in_t hs.1 hs.2) rfl ?_ | refine qC (e1) rfl ?_ | first | refine o_put (p_mv (by conv => lhs; whnf)) rfl rfl ?_ | refine o_put (p_as (by conv => lhs; whnf)) rfl rfl ?_ | refine o_put (p_asc rfl) rfl rfl ?_ | refine o_put (p_idx (getA _ (by assumption)) rfl rfl rfl) rfl rfl ?_ | refine o_put (p_fld rfl rfl rfl rfl rfl) rfl rfl ?_ | refine o_put (p_ld rfl rfl rfl rfl) rfl rfl ?_ | refine o_put (p_bin (by first | exact b_lt_t (by omega) | exact b_lt_f (by omega) | exact b_le_t (by omega) | exact b_le_f (by omega) | exact b_gt_t (by omega) | exact b_gt_f (by omega) | exact b_ge_t (by omega) | exact b_ge_f (by omega) | exact b_eq_t (by omega) | exact b_eq_f (by omega) | exact b_ne_t (by omega) | exact b_ne_f (by omega) | exact b_sub rfl (by omega) (by omega) | exact b_add rfl (by omega) (by omega)) rfl rfl rfl) rfl rfl ?_ | refine o_put (p_lenm rfl ⟨_, _, _, _, rfl⟩) rfl rfl ?_ | refine o_put (p_lenom rfl rfl ⟨_, _, _, _, rfl⟩) rfl rfl ?_ | refine o_put (p_len (y := .v (.string _)) rfl rfl rfl) rfl rfl ?_ | refine o_put (p_len rfl rfl ⟨_, _, _, _, rfl⟩) rfl rfl ?_ | refine o_put (p_not rfl) rfl rfl ?_ | refine o_put (p_pick (z := .v _) rfl rfl rfl rfl) rfl rfl ?_ | refine o_put (p_pick rfl rfl rfl rfl) rfl rfl ?_ | refine o_put (p_ext rfl (by conv => lhs; whnf)) rfl rfl ?_ | refine o_skip rfl rfl ?_ | refine o_nil (q_then ?_) | refine c_seq ?_ | refine c_reg ?_ | refine c_dreg (by kernel_rfl) ?_ | refine c_cond_t rfl ?_ | refine c_cond_f rfl ?_ | refine c_block ?_ | refine c_skip ?_ | refine q_then ?_ | refine q_thenr ?_ | refine q_thenx ?_ | refine q_blkn ?_ | refine q_blkr ?_ | refine q_blkx ?_ | refine q_blko rfl ?_ | refine c_exit ?_ | refine c_ret ?_ | refine q_ret ?_ | refine q_retn ?_ | refine o_put (p_ofld rfl rfl rfl) rfl rfl ?_ | refine o_put (p_old rfl rfl rfl rfl rfl rfl rfl) rfl rfl ?_ | refine o_put (p_oidx (by simpa using (by assumption)) rfl rfl rfl rfl rfl) rfl rfl ?_ | refine o_step rfl rfl (p_box (y := .agg _) rfl rfl rfl rfl) (fun e => by cases e) ?_ | refine o_step rfl rfl (p_allo rfl rfl) (fun e => by cases e) ?_)
      exact ⟨trivial, [], by simp, trivial, ⟨trivial, trivial⟩, trivial, ⟨.inl ⟨rfl, rfl⟩, trivial⟩⟩
  | true =>
  rw [he] at e1
  by_cases h0 : w.queue.length = 0
  · rw [watB_0 hn hs h0]
    as_aux_lemma =>
      refine o_of Th_ok (by kernel_rfl) Try.func24 rfl Try.ntmps24 Try.results24 (by kernel_rfl) rfl ?_
      repeat (first | refine qC (ac_l00Word hk hn) rfl ?_ | refine qC (ac_in_t hs.1 hs.2) rfl ?_ | refine qC (e1) rfl ?_ | first | refine o_put (p_mv (by conv => lhs; whnf)) rfl rfl ?_ | refine o_put (p_as (by conv => lhs; whnf)) rfl rfl ?_ | refine o_put (p_asc rfl) rfl rfl ?_ | refine o_put (p_idx (getA _ (by assumption)) rfl rfl rfl) rfl rfl ?_ | refine o_put (p_fld rfl rfl rfl rfl rfl) rfl rfl ?_ | refine o_put (p_ld rfl rfl rfl rfl) rfl rfl ?_ | refine o_put (p_bin (by first | exact b_lt_t (by omega) | exact b_lt_f (by omega) | exact b_le_t (by omega) | exact b_le_f (by omega) | exact b_gt_t (by omega) | exact b_gt_f (by omega) | exact b_ge_t (by omega) | exact b_ge_f (by omega) | exact b_eq_t (by omega) | exact b_eq_f (by omega) | exact b_ne_t (by omega) | exact b_ne_f (by omega) | exact b_sub rfl (by omega) (by omega) | exact b_add rfl (by omega) (by omega)) rfl rfl rfl) rfl rfl ?_ | refine o_put (p_lenm rfl ⟨_, _, _, _, rfl⟩) rfl rfl ?_ | refine o_put (p_lenom rfl rfl ⟨_, _, _, _, rfl⟩) rfl rfl ?_ | refine o_put (p_len (y := .v (.string _)) rfl rfl rfl) rfl rfl ?_ | refine o_put (p_len rfl rfl ⟨_, _, _, _, rfl⟩) rfl rfl ?_ | refine o_put (p_not rfl) rfl rfl ?_ | refine o_put (p_pick (z := .v _) rfl rfl rfl rfl) rfl rfl ?_ | refine o_put (p_pick rfl rfl rfl rfl) rfl rfl ?_ | refine o_put (p_ext rfl (by conv => lhs; whnf)) rfl rfl ?_ | refine o_skip rfl rfl ?_ | refine o_nil (q_then ?_) | refine c_seq ?_ | refine c_reg ?_ | refine c_dreg (by kernel_rfl) ?_ | refine c_cond_t rfl ?_ | refine c_cond_f rfl ?_ | refine c_block ?_ | refine c_skip ?_ | refine q_then ?_ | refine q_thenr ?_ | refine q_thenx ?_ | refine q_blkn ?_ | refine q_blkr ?_ | refine q_blkx ?_ | refine q_blko rfl ?_ | refine c_exit ?_ | refine c_ret ?_ | refine q_ret ?_ | refine q_retn ?_ | refine o_put (p_ofld rfl rfl rfl) rfl rfl ?_ | refine o_put (p_old rfl rfl rfl rfl rfl rfl rfl) rfl rfl ?_ | refine o_put (p_oidx (by simpa using (by assumption)) rfl rfl rfl rfl rfl) rfl rfl ?_ | refine o_step rfl rfl (p_box (y := .agg _) rfl rfl rfl rfl) (fun e => by cases e) ?_ | refine o_step rfl rfl (p_allo rfl rfl) (fun e => by cases e) ?_)
      refine r_loop (ι := Unit) (fun _ => ⟨[(3, .v (.int .i64 (w.queue.length : Int))), (4, .v (.int .i64 1))], []⟩) (fun _ => 0) () (by refine ⟨?_, ?_⟩ <;> (repeat (first | trivial | exact ⟨rfl, trivial⟩ | refine ⟨rfl, ?_⟩ | refine ⟨.inl ⟨rfl, rfl⟩, ?_⟩ | refine ⟨.inr ⟨_, _, rfl, rfl, rfl, rfl, rfl⟩, ?_⟩))) ?_
      rintro ⟨⟩
      conv => whnf
      repeat (((first | refine qb rfl rfl ?_ | refine qi (by assumption) rfl rfl ?_ | refine ql rfl ?_ | refine qo rfl rfl ?_ | refine qs rfl rfl ?_ | refine qn rfl rfl ?_); conv => whnf))
      repeat (first | refine o_put (p_mv (by conv => lhs; whnf)) rfl rfl ?_ | refine o_put (p_as (by conv => lhs; whnf)) rfl rfl ?_ | refine o_put (p_asc rfl) rfl rfl ?_ | refine o_put (p_idx (getA _ (by assumption)) rfl rfl rfl) rfl rfl ?_ | refine o_put (p_fld rfl rfl rfl rfl rfl) rfl rfl ?_ | refine o_put (p_ld rfl rfl rfl rfl) rfl rfl ?_ | refine o_put (p_bin (by first | exact b_lt_t (by omega) | exact b_lt_f (by omega) | exact b_le_t (by omega) | exact b_le_f (by omega) | exact b_gt_t (by omega) | exact b_gt_f (by omega) | exact b_ge_t (by omega) | exact b_ge_f (by omega) | exact b_eq_t (by omega) | exact b_eq_f (by omega) | exact b_ne_t (by omega) | exact b_ne_f (by omega) | exact b_sub rfl (by omega) (by omega) | exact b_add rfl (by omega) (by omega)) rfl rfl rfl) rfl rfl ?_ | refine o_put (p_lenm rfl ⟨_, _, _, _, rfl⟩) rfl rfl ?_ | refine o_put (p_lenom rfl rfl ⟨_, _, _, _, rfl⟩) rfl rfl ?_ | refine o_put (p_len (y := .v (.string _)) rfl rfl rfl) rfl rfl ?_ | refine o_put (p_len rfl rfl ⟨_, _, _, _, rfl⟩) rfl rfl ?_ | refine o_put (p_not rfl) rfl rfl ?_ | refine o_put (p_pick (z := .v _) rfl rfl rfl rfl) rfl rfl ?_ | refine o_put (p_pick rfl rfl rfl rfl) rfl rfl ?_ | refine o_put (p_ext rfl (by conv => lhs; whnf)) rfl rfl ?_ | refine o_skip rfl rfl ?_ | refine o_nil (q_then ?_) | refine c_seq ?_ | refine c_reg ?_ | refine c_dreg (by kernel_rfl) ?_ | refine c_cond_t rfl ?_ | refine c_cond_f rfl ?_ | refine c_block ?_ | refine c_skip ?_ | refine q_then ?_ | refine q_thenr ?_ | refine q_thenx ?_ | refine q_blkn ?_ | refine q_blkr ?_ | refine q_blkx ?_ | refine q_blko rfl ?_ | refine c_exit ?_ | refine c_ret ?_ | refine q_ret ?_ | refine q_retn ?_ | refine o_put (p_ofld rfl rfl rfl) rfl rfl ?_ | refine o_put (p_old rfl rfl rfl rfl rfl rfl rfl) rfl rfl ?_ | refine o_put (p_oidx (by simpa using (by assumption)) rfl rfl rfl rfl rfl) rfl rfl ?_ | refine o_step rfl rfl (p_box (y := .agg _) rfl rfl rfl rfl) (fun e => by cases e) ?_ | refine o_step rfl rfl (p_allo rfl rfl) (fun e => by cases e) ?_)
      exact ⟨trivial, [], by simp, trivial, ⟨trivial, trivial⟩, trivial, ⟨.inl ⟨rfl, rfl⟩, trivial⟩⟩
  obtain ⟨m, hl⟩ : ∃ m, w.queue.length = m + 1 := ⟨w.queue.length - 1, by omega⟩
  have hlm : m < w.queue.length := by omega
  rw [watB_m hn hs h4 he hl]
  by_cases hv : w.queue[m].ver = w.seen
  case neg =>
    rw [decide_eq_false hv, Bool.false_and]
    as_aux_lemma =>
      refine o_of Th_ok (by kernel_rfl) Try.func24 rfl Try.ntmps24 Try.results24 (by kernel_rfl) rfl ?_
      repeat (first | refine qC (ac_l00Word hk hn) rfl ?_ | refine qC (ac_in_t hs.1 hs.2) rfl ?_ | refine qC (e1) rfl ?_ | (refine o_put (p_bin (b_sub (c := ((m : Nat) : Int)) (by omega) (by omega) (by omega)) rfl rfl rfl) rfl rfl ?_) | first | refine o_put (p_mv (by conv => lhs; whnf)) rfl rfl ?_ | refine o_put (p_as (by conv => lhs; whnf)) rfl rfl ?_ | refine o_put (p_asc rfl) rfl rfl ?_ | refine o_put (p_idx (getA _ (by assumption)) rfl rfl rfl) rfl rfl ?_ | refine o_put (p_fld rfl rfl rfl rfl rfl) rfl rfl ?_ | refine o_put (p_ld rfl rfl rfl rfl) rfl rfl ?_ | refine o_put (p_bin (by first | exact b_lt_t (by omega) | exact b_lt_f (by omega) | exact b_le_t (by omega) | exact b_le_f (by omega) | exact b_gt_t (by omega) | exact b_gt_f (by omega) | exact b_ge_t (by omega) | exact b_ge_f (by omega) | exact b_eq_t (by omega) | exact b_eq_f (by omega) | exact b_ne_t (by omega) | exact b_ne_f (by omega) | exact b_sub rfl (by omega) (by omega) | exact b_add rfl (by omega) (by omega)) rfl rfl rfl) rfl rfl ?_ | refine o_put (p_lenm rfl ⟨_, _, _, _, rfl⟩) rfl rfl ?_ | refine o_put (p_lenom rfl rfl ⟨_, _, _, _, rfl⟩) rfl rfl ?_ | refine o_put (p_len (y := .v (.string _)) rfl rfl rfl) rfl rfl ?_ | refine o_put (p_len rfl rfl ⟨_, _, _, _, rfl⟩) rfl rfl ?_ | refine o_put (p_not rfl) rfl rfl ?_ | refine o_put (p_pick (z := .v _) rfl rfl rfl rfl) rfl rfl ?_ | refine o_put (p_pick rfl rfl rfl rfl) rfl rfl ?_ | refine o_put (p_ext rfl (by conv => lhs; whnf)) rfl rfl ?_ | refine o_skip rfl rfl ?_ | refine o_nil (q_then ?_) | refine c_seq ?_ | refine c_reg ?_ | refine c_dreg (by kernel_rfl) ?_ | refine c_cond_t rfl ?_ | refine c_cond_f rfl ?_ | refine c_block ?_ | refine c_skip ?_ | refine q_then ?_ | refine q_thenr ?_ | refine q_thenx ?_ | refine q_blkn ?_ | refine q_blkr ?_ | refine q_blkx ?_ | refine q_blko rfl ?_ | refine c_exit ?_ | refine c_ret ?_ | refine q_ret ?_ | refine q_retn ?_ | refine o_put (p_ofld rfl rfl rfl) rfl rfl ?_ | refine o_put (p_old rfl rfl rfl rfl rfl rfl rfl) rfl rfl ?_ | refine o_put (p_oidx (by simpa using (by assumption)) rfl rfl rfl rfl rfl) rfl rfl ?_ | refine o_step rfl rfl (p_box (y := .agg _) rfl rfl rfl rfl) (fun e => by cases e) ?_ | refine o_step rfl rfl (p_allo rfl rfl) (fun e => by cases e) ?_)
      exact ⟨trivial, [], by simp, trivial, ⟨trivial, trivial⟩, trivial, ⟨.inl ⟨rfl, rfl⟩, trivial⟩⟩
  rw [decide_eq_true hv, Bool.true_and]
  as_aux_lemma =>
    refine o_of Th_ok (by kernel_rfl) Try.func24 rfl Try.ntmps24 Try.results24 (by kernel_rfl) rfl ?_
    repeat (first | refine qC (ac_l00Word hk hn) rfl ?_ | refine qC (ac_in_t hs.1 hs.2) rfl ?_ | refine qC (e1) rfl ?_ | (refine o_put (p_bin (b_sub (c := ((m : Nat) : Int)) (by omega) (by omega) (by omega)) rfl rfl rfl) rfl rfl ?_) | first | refine o_put (p_mv (by conv => lhs; whnf)) rfl rfl ?_ | refine o_put (p_as (by conv => lhs; whnf)) rfl rfl ?_ | refine o_put (p_asc rfl) rfl rfl ?_ | refine o_put (p_idx (getA _ (by assumption)) rfl rfl rfl) rfl rfl ?_ | refine o_put (p_fld rfl rfl rfl rfl rfl) rfl rfl ?_ | refine o_put (p_ld rfl rfl rfl rfl) rfl rfl ?_ | refine o_put (p_bin (by first | exact b_lt_t (by omega) | exact b_lt_f (by omega) | exact b_le_t (by omega) | exact b_le_f (by omega) | exact b_gt_t (by omega) | exact b_gt_f (by omega) | exact b_ge_t (by omega) | exact b_ge_f (by omega) | exact b_eq_t (by omega) | exact b_eq_f (by omega) | exact b_ne_t (by omega) | exact b_ne_f (by omega) | exact b_sub rfl (by omega) (by omega) | exact b_add rfl (by omega) (by omega)) rfl rfl rfl) rfl rfl ?_ | refine o_put (p_lenm rfl ⟨_, _, _, _, rfl⟩) rfl rfl ?_ | refine o_put (p_lenom rfl rfl ⟨_, _, _, _, rfl⟩) rfl rfl ?_ | refine o_put (p_len (y := .v (.string _)) rfl rfl rfl) rfl rfl ?_ | refine o_put (p_len rfl rfl ⟨_, _, _, _, rfl⟩) rfl rfl ?_ | refine o_put (p_not rfl) rfl rfl ?_ | refine o_put (p_pick (z := .v _) rfl rfl rfl rfl) rfl rfl ?_ | refine o_put (p_pick rfl rfl rfl rfl) rfl rfl ?_ | refine o_put (p_ext rfl (by conv => lhs; whnf)) rfl rfl ?_ | refine o_skip rfl rfl ?_ | refine o_nil (q_then ?_) | refine c_seq ?_ | refine c_reg ?_ | refine c_dreg (by kernel_rfl) ?_ | refine c_cond_t rfl ?_ | refine c_cond_f rfl ?_ | refine c_block ?_ | refine c_skip ?_ | refine q_then ?_ | refine q_thenr ?_ | refine q_thenx ?_ | refine q_blkn ?_ | refine q_blkr ?_ | refine q_blkx ?_ | refine q_blko rfl ?_ | refine c_exit ?_ | refine c_ret ?_ | refine q_ret ?_ | refine q_retn ?_ | refine o_put (p_ofld rfl rfl rfl) rfl rfl ?_ | refine o_put (p_old rfl rfl rfl rfl rfl rfl rfl) rfl rfl ?_ | refine o_put (p_oidx (by simpa using (by assumption)) rfl rfl rfl rfl rfl) rfl rfl ?_ | refine o_step rfl rfl (p_box (y := .agg _) rfl rfl rfl rfl) (fun e => by cases e) ?_ | refine o_step rfl rfl (p_allo rfl rfl) (fun e => by cases e) ?_)
    refine r_loop (ι := { k : Nat // 1 ≤ k ∧ k ≤ w.queue.length ∧ ∀ i, (hi : i < w.queue.length) → 1 ≤ i → i < k → w.queue[i].lag = false }) (fun k => ⟨[(1, .optr 2 0 [] 0), (3, .v (.int .i64 (w.queue.length : Int))), (4, .v (.int .i64 (k.1 : Int)))], [(2, ⟨25, 3, [watA w]⟩)]⟩) (fun k => w.queue.length - k.1) ⟨1, by omega, by omega, fun i _ _ _ => by omega⟩ (by refine ⟨?_, ?_⟩ <;> (repeat (first | trivial | exact ⟨rfl, trivial⟩ | refine ⟨rfl, ?_⟩ | refine ⟨.inl ⟨rfl, rfl⟩, ?_⟩ | refine ⟨.inr ⟨_, _, rfl, rfl, rfl, rfl, rfl⟩, ?_⟩))) ?_
    rintro ⟨k, hk1, hk2, hd⟩
    dsimp only at hk1 hk2 hd ⊢
    conv => whnf
    by_cases hlt : k < w.queue.length
    · cases hg : w.queue[k].lag with
      | true =>
        rw [lagB_t hlt hk1 hg]
        repeat (first | ((first | refine qb rfl rfl ?_ | refine qi (by assumption) rfl rfl ?_ | refine ql rfl ?_ | refine qo rfl rfl ?_ | refine qs rfl rfl ?_ | refine qn rfl rfl ?_); conv => whnf) | (rw [hg]; conv => whnf))
        repeat (first | refine o_put (p_mv (by conv => lhs; whnf)) rfl rfl ?_ | refine o_put (p_as (by conv => lhs; whnf)) rfl rfl ?_ | refine o_put (p_asc rfl) rfl rfl ?_ | refine o_put (p_idx (getA _ (by assumption)) rfl rfl rfl) rfl rfl ?_ | refine o_put (p_fld rfl rfl rfl rfl rfl) rfl rfl ?_ | refine o_put (p_ld rfl rfl rfl rfl) rfl rfl ?_ | refine o_put (p_bin (by first | exact b_lt_t (by omega) | exact b_lt_f (by omega) | exact b_le_t (by omega) | exact b_le_f (by omega) | exact b_gt_t (by omega) | exact b_gt_f (by omega) | exact b_ge_t (by omega) | exact b_ge_f (by omega) | exact b_eq_t (by omega) | exact b_eq_f (by omega) | exact b_ne_t (by omega) | exact b_ne_f (by omega) | exact b_sub rfl (by omega) (by omega) | exact b_add rfl (by omega) (by omega)) rfl rfl rfl) rfl rfl ?_ | refine o_put (p_lenm rfl ⟨_, _, _, _, rfl⟩) rfl rfl ?_ | refine o_put (p_lenom rfl rfl ⟨_, _, _, _, rfl⟩) rfl rfl ?_ | refine o_put (p_len (y := .v (.string _)) rfl rfl rfl) rfl rfl ?_ | refine o_put (p_len rfl rfl ⟨_, _, _, _, rfl⟩) rfl rfl ?_ | refine o_put (p_not rfl) rfl rfl ?_ | refine o_put (p_pick (z := .v _) rfl rfl rfl rfl) rfl rfl ?_ | refine o_put (p_pick rfl rfl rfl rfl) rfl rfl ?_ | refine o_put (p_ext rfl (by conv => lhs; whnf)) rfl rfl ?_ | refine o_skip rfl rfl ?_ | refine o_nil (q_then ?_) | refine c_seq ?_ | refine c_reg ?_ | refine c_dreg (by kernel_rfl) ?_ | refine c_cond_t rfl ?_ | refine c_cond_f rfl ?_ | refine c_block ?_ | refine c_skip ?_ | refine q_then ?_ | refine q_thenr ?_ | refine q_thenx ?_ | refine q_blkn ?_ | refine q_blkr ?_ | refine q_blkx ?_ | refine q_blko rfl ?_ | refine c_exit ?_ | refine c_ret ?_ | refine q_ret ?_ | refine q_retn ?_ | refine o_put (p_ofld rfl rfl rfl) rfl rfl ?_ | refine o_put (p_old rfl rfl rfl rfl rfl rfl rfl) rfl rfl ?_ | refine o_put (p_oidx (by simpa using (by assumption)) rfl rfl rfl rfl rfl) rfl rfl ?_ | refine o_step rfl rfl (p_box (y := .agg _) rfl rfl rfl rfl) (fun e => by cases e) ?_ | refine o_step rfl rfl (p_allo rfl rfl) (fun e => by cases e) ?_)
        exact ⟨trivial, [], by simp, trivial, ⟨trivial, trivial⟩, trivial, ⟨.inl ⟨rfl, rfl⟩, trivial⟩⟩
      | false =>
        repeat (first | ((first | refine qb rfl rfl ?_ | refine qi (by assumption) rfl rfl ?_ | refine ql rfl ?_ | refine qo rfl rfl ?_ | refine qs rfl rfl ?_ | refine qn rfl rfl ?_); conv => whnf) | (rw [hg]; conv => whnf))
        exact ⟨⟨k + 1, by omega, hlt, fun i hi h1 h2 => by
          rcases Nat.lt_or_ge i k with h | h
          · exact hd i hi h1 h
          · have : i = k := by omega
            subst this; exact hg⟩, by refine ⟨?_, ?_⟩ <;> (repeat (first | trivial | exact ⟨rfl, trivial⟩ | refine ⟨rfl, ?_⟩ | refine ⟨.inl ⟨rfl, rfl⟩, ?_⟩ | refine ⟨.inr ⟨_, _, rfl, rfl, rfl, rfl, rfl⟩, ?_⟩)), by simp; omega⟩
    · rw [lagB_f (fun i hi h1 => hd i hi h1 (by omega))]
      repeat (((first | refine qb rfl rfl ?_ | refine qi (by assumption) rfl rfl ?_ | refine ql rfl ?_ | refine qo rfl rfl ?_ | refine qs rfl rfl ?_ | refine qn rfl rfl ?_); conv => whnf))
      repeat (first | refine o_put (p_mv (by conv => lhs; whnf)) rfl rfl ?_ | refine o_put (p_as (by conv => lhs; whnf)) rfl rfl ?_ | refine o_put (p_asc rfl) rfl rfl ?_ | refine o_put (p_idx (getA _ (by assumption)) rfl rfl rfl) rfl rfl ?_ | refine o_put (p_fld rfl rfl rfl rfl rfl) rfl rfl ?_ | refine o_put (p_ld rfl rfl rfl rfl) rfl rfl ?_ | refine o_put (p_bin (by first | exact b_lt_t (by omega) | exact b_lt_f (by omega) | exact b_le_t (by omega) | exact b_le_f (by omega) | exact b_gt_t (by omega) | exact b_gt_f (by omega) | exact b_ge_t (by omega) | exact b_ge_f (by omega) | exact b_eq_t (by omega) | exact b_eq_f (by omega) | exact b_ne_t (by omega) | exact b_ne_f (by omega) | exact b_sub rfl (by omega) (by omega) | exact b_add rfl (by omega) (by omega)) rfl rfl rfl) rfl rfl ?_ | refine o_put (p_lenm rfl ⟨_, _, _, _, rfl⟩) rfl rfl ?_ | refine o_put (p_lenom rfl rfl ⟨_, _, _, _, rfl⟩) rfl rfl ?_ | refine o_put (p_len (y := .v (.string _)) rfl rfl rfl) rfl rfl ?_ | refine o_put (p_len rfl rfl ⟨_, _, _, _, rfl⟩) rfl rfl ?_ | refine o_put (p_not rfl) rfl rfl ?_ | refine o_put (p_pick (z := .v _) rfl rfl rfl rfl) rfl rfl ?_ | refine o_put (p_pick rfl rfl rfl rfl) rfl rfl ?_ | refine o_put (p_ext rfl (by conv => lhs; whnf)) rfl rfl ?_ | refine o_skip rfl rfl ?_ | refine o_nil (q_then ?_) | refine c_seq ?_ | refine c_reg ?_ | refine c_dreg (by kernel_rfl) ?_ | refine c_cond_t rfl ?_ | refine c_cond_f rfl ?_ | refine c_block ?_ | refine c_skip ?_ | refine q_then ?_ | refine q_thenr ?_ | refine q_thenx ?_ | refine q_blkn ?_ | refine q_blkr ?_ | refine q_blkx ?_ | refine q_blko rfl ?_ | refine c_exit ?_ | refine c_ret ?_ | refine q_ret ?_ | refine q_retn ?_ | refine o_put (p_ofld rfl rfl rfl) rfl rfl ?_ | refine o_put (p_old rfl rfl rfl rfl rfl rfl rfl) rfl rfl ?_ | refine o_put (p_oidx (by simpa using (by assumption)) rfl rfl rfl rfl rfl) rfl rfl ?_ | refine o_step rfl rfl (p_box (y := .agg _) rfl rfl rfl rfl) (fun e => by cases e) ?_ | refine o_step rfl rfl (p_allo rfl rfl) (fun e => by cases e) ?_)
      exact ⟨trivial, [], by simp, trivial, ⟨trivial, trivial⟩, trivial, ⟨.inl ⟨rfl, rfl⟩, trivial⟩⟩
theorem wat_ext {a b : Wat} : a = b ↔ a.name = b.name ∧ a.seen = b.seen ∧ a.queue = b.queue := by cases a; cases b; simp
instance : DecidableEq Wat := fun a b => decidable_of_iff _ wat_ext.symm
theorem ac_eqlEvts {a b : List Evt} (hm : a.length ≤ maxLen) (hm' : b.length ≤ maxLen) : AC Try.prog 26 [.lst 3 (a.map evtA), .lst 3 (b.map evtA)] ⟨.v (.bool (decide (a = b))), []⟩ := by
  unfold maxLen at hm hm'
  by_cases hl : a.length = b.length
  case neg =>
    rw [decide_eq_false (fun e => hl (by rw [e]))]
    refine r_of Th_ok (by kernel_rfl) Try.func26 rfl Try.ntmps26 Try.results26 (by kernel_rfl) rfl ?_; conv => whnf
    repeat (((first | refine qb rfl rfl ?_ | refine qi (by assumption) rfl rfl ?_ | refine ql rfl ?_ | refine qo rfl rfl ?_ | refine qs rfl rfl ?_ | refine qn rfl rfl ?_); conv => whnf))
    exact r_ret1 rfl trivial
  refine r_of Th_ok (by kernel_rfl) Try.func26 rfl Try.ntmps26 Try.results26 (by kernel_rfl) rfl ?_; conv => whnf
  repeat (((first | refine qb rfl rfl ?_ | refine qi (by assumption) rfl rfl ?_ | refine ql rfl ?_ | refine qo rfl rfl ?_ | refine qs rfl rfl ?_ | refine qn rfl rfl ?_); conv => whnf))
  refine r_loop (ι := { k : Nat // k ≤ a.length ∧ Agree a b k }) (fun k => ⟨[(0, .lst 3 (a.map evtA)), (1, .lst 3 (b.map evtA)), (12, .v (.int .i64 (a.length : Int))), (13, .v (.int .i64 (k.1 : Int)))], []⟩) (fun k => a.length - k.1) ⟨0, Nat.zero_le _, fun i h => by omega⟩ (by refine ⟨?_, ?_⟩ <;> (repeat (first | trivial | exact ⟨rfl, trivial⟩ | refine ⟨rfl, ?_⟩ | refine ⟨.inl ⟨rfl, rfl⟩, ?_⟩ | refine ⟨.inr ⟨_, _, rfl, rfl, rfl, rfl, rfl⟩, ?_⟩))) ?_
  rintro ⟨k, hk, hg⟩
  dsimp only at hk hg ⊢
  conv => whnf
  by_cases hlt : k < a.length
  case neg =>
    rw [decide_eq_true (ext_to hl (fun i hi => hg i (by omega)))]
    repeat (((first | refine qb rfl rfl ?_ | refine qi (by assumption) rfl rfl ?_ | refine ql rfl ?_ | refine qo rfl rfl ?_ | refine qs rfl rfl ?_ | refine qn rfl rfl ?_); conv => whnf))
    exact r_ret1 rfl trivial
  have hlt' : k < b.length := by omega
  by_cases he : a[k] = b[k]
  · repeat (((first | refine qb rfl rfl ?_ | refine qi (by assumption) rfl rfl ?_ | refine ql rfl ?_ | refine qo rfl rfl ?_ | refine qs rfl rfl ?_ | refine qn rfl rfl ?_); conv => whnf))
    refine .inl ⟨by kernel_rfl, ?_⟩
    conv => whnf
    repeat (first | ((first | refine qb rfl rfl ?_ | refine qi (by assumption) rfl rfl ?_ | refine ql rfl ?_ | refine qo rfl rfl ?_ | refine qs rfl rfl ?_ | refine qn rfl rfl ?_); conv => whnf) | (refine r_put (p_binA (b_evtne (a := a[k]) (b := b[k]) (r := false) (by simp [he])) rfl rfl rfl) rfl rfl ?_; conv => whnf))
    exact ⟨⟨k + 1, hlt, hg.snoc hlt hlt' he⟩, by refine ⟨?_, ?_⟩ <;> (repeat (first | trivial | exact ⟨rfl, trivial⟩ | refine ⟨rfl, ?_⟩ | refine ⟨.inl ⟨rfl, rfl⟩, ?_⟩ | refine ⟨.inr ⟨_, _, rfl, rfl, rfl, rfl, rfl⟩, ?_⟩)), by simp; omega⟩
  · rw [decide_eq_false (fun e => he (by subst e; rfl))]
    repeat (((first | refine qb rfl rfl ?_ | refine qi (by assumption) rfl rfl ?_ | refine ql rfl ?_ | refine qo rfl rfl ?_ | refine qs rfl rfl ?_ | refine qn rfl rfl ?_); conv => whnf))
    refine .inl ⟨by kernel_rfl, ?_⟩
    conv => whnf
    repeat (first | ((first | refine qb rfl rfl ?_ | refine qi (by assumption) rfl rfl ?_ | refine ql rfl ?_ | refine qo rfl rfl ?_ | refine qs rfl rfl ?_ | refine qn rfl rfl ?_); conv => whnf) | (refine r_put (p_binA (b_evtne (a := a[k]) (b := b[k]) (r := true) (by simp [he])) rfl rfl rfl) rfl rfl ?_; conv => whnf))
    exact r_ret1 rfl trivial
noncomputable def swtB (a b : Wat) : Bool := watB a && (watB b && decide (a = b))
set_option maxHeartbeats 4000000 in
theorem ac_iSameWatch {a b : Wat} (ha : a.ok maxLen) (hb : b.ok maxLen) : AC Try.prog 8 [watA a, watA b] ⟨.v (.bool (swtB a b)), []⟩ := by
  have h1 := ac_iWatchOK ha
  have h2 := ac_iWatchOK hb
  have h3 := ac_eqlEvts ha.2 hb.2
  unfold swtB
  generalize watB a = x at h1
  cases x
  case false =>
    rw [Bool.false_and]
    as_aux_lemma =>
      refine o_of Th_ok (by kernel_rfl) Try.func8 rfl Try.ntmps8 Try.results8 (by kernel_rfl) rfl ?_
      repeat (first | refine o_put (p_ofld rfl rfl rfl) rfl rfl ?_ | refine o_put (p_old rfl rfl rfl rfl rfl rfl rfl) rfl rfl ?_ | refine o_put (p_mv (by conv => lhs; whnf)) rfl rfl ?_ | refine o_put (p_as (by conv => lhs; whnf)) rfl rfl ?_ | refine o_put (p_asc rfl) rfl rfl ?_ | refine o_put (p_pick (z := .v _) rfl rfl rfl rfl) rfl rfl ?_ | refine o_put (p_not rfl) rfl rfl ?_ | refine qC (h1) rfl ?_ | refine o_put (p_bin (by first | exact b_eq_t (by omega) | exact b_eq_f (by omega) | exact b_ne_t (by omega) | exact b_ne_f (by omega) | exact b_gt_t (by omega) | exact b_gt_f (by omega) | exact b_seq_t (by assumption) | exact b_seq_f (by assumption) | exact b_sne_t (by assumption) | exact b_sne_f (by assumption)) rfl rfl rfl) rfl rfl ?_ | refine o_put (p_lenm rfl ⟨_, _, _, _, rfl⟩) rfl rfl ?_ | refine o_nil (q_then ?_) | refine c_seq ?_ | refine c_reg ?_ | refine c_dreg (by kernel_rfl) ?_ | refine c_cond_t rfl ?_ | refine c_cond_f rfl ?_ | refine c_block ?_ | refine c_skip ?_ | refine o_skip rfl rfl ?_ | refine q_then ?_ | refine q_thenr ?_ | refine q_thenx ?_ | refine q_blkn ?_ | refine q_blkr ?_ | refine q_blkx ?_ | refine q_blko rfl ?_ | refine c_exit ?_ | refine c_ret ?_ | refine q_ret ?_ | refine q_retn ?_ | refine o_step rfl rfl (p_box (y := .agg _) rfl rfl rfl rfl) (fun e => by cases e) ?_ | refine o_put (p_bin b_eqd rfl rfl rfl) rfl rfl ?_ | refine o_put (p_bin b_seqd rfl rfl rfl) rfl rfl ?_)
      exact ⟨trivial, [], by simp, trivial, ⟨trivial, trivial⟩, trivial, ⟨.inl ⟨rfl, rfl⟩, trivial⟩⟩
  generalize watB b = y at h2
  cases y
  case false =>
    rw [Bool.true_and, Bool.false_and]
    as_aux_lemma =>
      refine o_of Th_ok (by kernel_rfl) Try.func8 rfl Try.ntmps8 Try.results8 (by kernel_rfl) rfl ?_
      repeat (first | refine o_put (p_ofld rfl rfl rfl) rfl rfl ?_ | refine o_put (p_old rfl rfl rfl rfl rfl rfl rfl) rfl rfl ?_ | refine o_put (p_mv (by conv => lhs; whnf)) rfl rfl ?_ | refine o_put (p_as (by conv => lhs; whnf)) rfl rfl ?_ | refine o_put (p_asc rfl) rfl rfl ?_ | refine o_put (p_pick (z := .v _) rfl rfl rfl rfl) rfl rfl ?_ | refine o_put (p_not rfl) rfl rfl ?_ | refine qC (h1) rfl ?_ | refine qC (h2) rfl ?_ | refine o_put (p_bin (by first | exact b_eq_t (by omega) | exact b_eq_f (by omega) | exact b_ne_t (by omega) | exact b_ne_f (by omega) | exact b_gt_t (by omega) | exact b_gt_f (by omega) | exact b_seq_t (by assumption) | exact b_seq_f (by assumption) | exact b_sne_t (by assumption) | exact b_sne_f (by assumption)) rfl rfl rfl) rfl rfl ?_ | refine o_put (p_lenm rfl ⟨_, _, _, _, rfl⟩) rfl rfl ?_ | refine o_nil (q_then ?_) | refine c_seq ?_ | refine c_reg ?_ | refine c_dreg (by kernel_rfl) ?_ | refine c_cond_t rfl ?_ | refine c_cond_f rfl ?_ | refine c_block ?_ | refine c_skip ?_ | refine o_skip rfl rfl ?_ | refine q_then ?_ | refine q_thenr ?_ | refine q_thenx ?_ | refine q_blkn ?_ | refine q_blkr ?_ | refine q_blkx ?_ | refine q_blko rfl ?_ | refine c_exit ?_ | refine c_ret ?_ | refine q_ret ?_ | refine q_retn ?_ | refine o_step rfl rfl (p_box (y := .agg _) rfl rfl rfl rfl) (fun e => by cases e) ?_ | refine o_put (p_bin b_eqd rfl rfl rfl) rfl rfl ?_ | refine o_put (p_bin b_seqd rfl rfl rfl) rfl rfl ?_)
      exact ⟨trivial, [], by simp, trivial, ⟨trivial, trivial⟩, trivial, ⟨.inl ⟨rfl, rfl⟩, trivial⟩⟩
  rw [Bool.true_and, Bool.true_and]
  by_cases n1 : a.name = b.name
  case neg =>
    rw [decide_eq_false (fun e => n1 (by rw [e]))]
    as_aux_lemma =>
      refine o_of Th_ok (by kernel_rfl) Try.func8 rfl Try.ntmps8 Try.results8 (by kernel_rfl) rfl ?_
      repeat (first | refine o_put (p_ofld rfl rfl rfl) rfl rfl ?_ | refine o_put (p_old rfl rfl rfl rfl rfl rfl rfl) rfl rfl ?_ | refine o_put (p_mv (by conv => lhs; whnf)) rfl rfl ?_ | refine o_put (p_as (by conv => lhs; whnf)) rfl rfl ?_ | refine o_put (p_asc rfl) rfl rfl ?_ | refine o_put (p_pick (z := .v _) rfl rfl rfl rfl) rfl rfl ?_ | refine o_put (p_not rfl) rfl rfl ?_ | refine qC (h1) rfl ?_ | refine qC (h2) rfl ?_ | refine o_put (p_bin (by first | exact b_eq_t (by omega) | exact b_eq_f (by omega) | exact b_ne_t (by omega) | exact b_ne_f (by omega) | exact b_gt_t (by omega) | exact b_gt_f (by omega) | exact b_seq_t (by assumption) | exact b_seq_f (by assumption) | exact b_sne_t (by assumption) | exact b_sne_f (by assumption)) rfl rfl rfl) rfl rfl ?_ | refine o_put (p_lenm rfl ⟨_, _, _, _, rfl⟩) rfl rfl ?_ | refine o_nil (q_then ?_) | refine c_seq ?_ | refine c_reg ?_ | refine c_dreg (by kernel_rfl) ?_ | refine c_cond_t rfl ?_ | refine c_cond_f rfl ?_ | refine c_block ?_ | refine c_skip ?_ | refine o_skip rfl rfl ?_ | refine q_then ?_ | refine q_thenr ?_ | refine q_thenx ?_ | refine q_blkn ?_ | refine q_blkr ?_ | refine q_blkx ?_ | refine q_blko rfl ?_ | refine c_exit ?_ | refine c_ret ?_ | refine q_ret ?_ | refine q_retn ?_ | refine o_step rfl rfl (p_box (y := .agg _) rfl rfl rfl rfl) (fun e => by cases e) ?_ | refine o_put (p_bin b_eqd rfl rfl rfl) rfl rfl ?_ | refine o_put (p_bin b_seqd rfl rfl rfl) rfl rfl ?_)
      exact ⟨trivial, [], by simp, trivial, ⟨trivial, trivial⟩, trivial, ⟨.inl ⟨rfl, rfl⟩, trivial⟩⟩
  by_cases n2 : a.seen = b.seen
  case neg =>
    rw [decide_eq_false (fun e => n2 (by rw [e]))]
    as_aux_lemma =>
      refine o_of Th_ok (by kernel_rfl) Try.func8 rfl Try.ntmps8 Try.results8 (by kernel_rfl) rfl ?_
      repeat (first | refine o_put (p_ofld rfl rfl rfl) rfl rfl ?_ | refine o_put (p_old rfl rfl rfl rfl rfl rfl rfl) rfl rfl ?_ | refine o_put (p_mv (by conv => lhs; whnf)) rfl rfl ?_ | refine o_put (p_as (by conv => lhs; whnf)) rfl rfl ?_ | refine o_put (p_asc rfl) rfl rfl ?_ | refine o_put (p_pick (z := .v _) rfl rfl rfl rfl) rfl rfl ?_ | refine o_put (p_not rfl) rfl rfl ?_ | refine qC (h1) rfl ?_ | refine qC (h2) rfl ?_ | refine o_put (p_bin (by first | exact b_eq_t (by omega) | exact b_eq_f (by omega) | exact b_ne_t (by omega) | exact b_ne_f (by omega) | exact b_gt_t (by omega) | exact b_gt_f (by omega) | exact b_seq_t (by assumption) | exact b_seq_f (by assumption) | exact b_sne_t (by assumption) | exact b_sne_f (by assumption)) rfl rfl rfl) rfl rfl ?_ | refine o_put (p_lenm rfl ⟨_, _, _, _, rfl⟩) rfl rfl ?_ | refine o_nil (q_then ?_) | refine c_seq ?_ | refine c_reg ?_ | refine c_dreg (by kernel_rfl) ?_ | refine c_cond_t rfl ?_ | refine c_cond_f rfl ?_ | refine c_block ?_ | refine c_skip ?_ | refine o_skip rfl rfl ?_ | refine q_then ?_ | refine q_thenr ?_ | refine q_thenx ?_ | refine q_blkn ?_ | refine q_blkr ?_ | refine q_blkx ?_ | refine q_blko rfl ?_ | refine c_exit ?_ | refine c_ret ?_ | refine q_ret ?_ | refine q_retn ?_ | refine o_step rfl rfl (p_box (y := .agg _) rfl rfl rfl rfl) (fun e => by cases e) ?_ | refine o_put (p_bin b_eqd rfl rfl rfl) rfl rfl ?_ | refine o_put (p_bin b_seqd rfl rfl rfl) rfl rfl ?_)
      exact ⟨trivial, [], by simp, trivial, ⟨trivial, trivial⟩, trivial, ⟨.inl ⟨rfl, rfl⟩, trivial⟩⟩
  have hd0 : decide (a = b) = decide (a.queue = b.queue) := by simp [wat_ext, n1, n2]
  rw [hd0]
  as_aux_lemma =>
    refine o_of Th_ok (by kernel_rfl) Try.func8 rfl Try.ntmps8 Try.results8 (by kernel_rfl) rfl ?_
    repeat (first | refine o_put (p_ofld rfl rfl rfl) rfl rfl ?_ | refine o_put (p_old rfl rfl rfl rfl rfl rfl rfl) rfl rfl ?_ | refine o_put (p_mv (by conv => lhs; whnf)) rfl rfl ?_ | refine o_put (p_as (by conv => lhs; whnf)) rfl rfl ?_ | refine o_put (p_asc rfl) rfl rfl ?_ | refine o_put (p_pick (z := .v _) rfl rfl rfl rfl) rfl rfl ?_ | refine o_put (p_not rfl) rfl rfl ?_ | refine qC (h1) rfl ?_ | refine qC (h2) rfl ?_ | refine qC (h3) rfl ?_ | refine o_put (p_bin (by first | exact b_eq_t (by omega) | exact b_eq_f (by omega) | exact b_ne_t (by omega) | exact b_ne_f (by omega) | exact b_gt_t (by omega) | exact b_gt_f (by omega) | exact b_seq_t (by assumption) | exact b_seq_f (by assumption) | exact b_sne_t (by assumption) | exact b_sne_f (by assumption)) rfl rfl rfl) rfl rfl ?_ | refine o_put (p_lenm rfl ⟨_, _, _, _, rfl⟩) rfl rfl ?_ | refine o_nil (q_then ?_) | refine c_seq ?_ | refine c_reg ?_ | refine c_dreg (by kernel_rfl) ?_ | refine c_cond_t rfl ?_ | refine c_cond_f rfl ?_ | refine c_block ?_ | refine c_skip ?_ | refine o_skip rfl rfl ?_ | refine q_then ?_ | refine q_thenr ?_ | refine q_thenx ?_ | refine q_blkn ?_ | refine q_blkr ?_ | refine q_blkx ?_ | refine q_blko rfl ?_ | refine c_exit ?_ | refine c_ret ?_ | refine q_ret ?_ | refine q_retn ?_ | refine o_step rfl rfl (p_box (y := .agg _) rfl rfl rfl rfl) (fun e => by cases e) ?_ | refine o_put (p_bin b_eqd rfl rfl rfl) rfl rfl ?_ | refine o_put (p_bin b_seqd rfl rfl rfl) rfl rfl ?_)
    exact ⟨trivial, [], by simp, trivial, ⟨trivial, trivial⟩, trivial, ⟨.inl ⟨rfl, rfl⟩, trivial⟩⟩
end Go.Proofs.Ytjhimcddgkoghab.AM
/- Watches noted, taken from and drained, on both sides. -/
namespace Go.Proofs.Ytjhimcddgkoghab.AM
open Go Go.RowKit
set_option linter.unusedVariables false
set_option linter.unusedSimpArgs false
set_option maxRecDepth 100000
theorem in_1 {l : Nat} {ob : OB} : ∀ m ∈ ([(l, some ob)] : List (Nat × Option OB)).map (·.1), inNu [(l, some ob)] m := fun m hm => by
  simp at hm; subst hm; exact in1 _ _
/-! ### what reads so reads otherwise too -/
section
variable {P : Program} {f : FuncId} {args args' : List AV} {rin rout : List OB} {out : Out}
theorem acg_arg (h : ACG P f args rin rout out) (hs : ∀ S w hp B V us, RVs S w hp B V args' us → RVs S w hp B V args us) : ACG P f args' rin rout out :=
  ⟨h.1, fun w S0 B0 V0 T0 vs hS hr hv => h.2 w S0 B0 V0 T0 vs hS hr (hs _ _ _ _ _ _ hv)⟩
theorem acg_out {v : AV} (h : ACG P f args rin rout out) (hs : ∀ S w hp B V u, RV S w hp B V out.val u → RV S w hp B V v u) : ACG P f args rin rout ⟨v, out.obs⟩ :=
  ⟨h.1, fun w S0 B0 V0 T0 vs hS hr hv => (h.2 w S0 B0 V0 T0 vs hS hr hv).mono fun e w' ⟨v', S, B, V, T, T1, h1, h2, h3, h4, h5, h6⟩ => ⟨v', S, B, V, T, T1, h1, h2, h3, h4, hs _ _ _ _ _ _ h5, h6⟩⟩
end
/-- a watch whose fields may be set to what is owned -/
def watM (w : Wat) : AV := .mix [.v (.string w.name), .v (.int .i64 w.seen), .rd (.lst 3 (w.queue.map evtA))]
/-- a watch whose queue is a row of the call's own -/
def watO (w : Wat) (l : Nat) : AV := .mix [.v (.string w.name), .v (.int .i64 w.seen), .own l]
abbrev evtO (q : List Evt) : OB := ⟨29, 3, q.map evtA⟩
theorem watM_rv {w : Wat} {S : Nat → Prop} {wd : World} {hp : Nat → Option OB} {B : Nat → Nat} {V : Nat → Value} {u : Value} (h : RV S wd hp B V (watA w) u) : RV S wd hp B V (watM w) u := by
  unfold watA at h
  unfold RV at h
  obtain ⟨cs, rfl, h⟩ := h
  unfold RL at h
  obtain ⟨c1, d1, rfl, h1, h⟩ := h
  unfold RL at h
  obtain ⟨c2, d2, rfl, h2, h⟩ := h
  unfold RL at h
  obtain ⟨c3, d3, rfl, h3, h⟩ := h
  unfold RL at h
  subst h
  unfold watM RV
  refine ⟨_, rfl, ?_⟩
  unfold ROs
  refine ⟨c1, _, Fa, Fa, rfl, Split.l0 noF, ?_, ?_⟩
  · unfold RO1; unfold RD; unfold RA at h1; exact ⟨noF, h1⟩
  unfold ROs
  refine ⟨c2, _, Fa, Fa, rfl, Split.l0 noF, ?_, ?_⟩
  · unfold RO1; unfold RD; unfold RA at h2; exact ⟨noF, h2⟩
  unfold ROs
  refine ⟨c3, _, Fa, Fa, rfl, Split.l0 noF, ?_, ?_⟩
  · unfold RO1; exact ⟨noF, h3⟩
  unfold ROs; exact ⟨rfl, noF⟩
theorem ac_watM {P : Program} {f : FuncId} {w : Wat} {out : Out} (h : AC P f [watM w] out) : AC P f [watA w] out := acg_arg h fun S wd hp B V us hv => by
  unfold RVs at hv ⊢
  obtain ⟨u, us', rfl, h1, h2⟩ := hv
  exact ⟨u, us', rfl, watM_rv h1, h2⟩
theorem ac_watM2 {P : Program} {f : FuncId} {w : Wat} {x : AV} {out : Out} (h : AC P f [watM w, x] out) : AC P f [watA w, x] out := acg_arg h fun S wd hp B V us hv => by
  unfold RVs at hv ⊢
  obtain ⟨u, us', rfl, h1, h2⟩ := hv
  exact ⟨u, us', rfl, watM_rv h1, h2⟩
/-! ### ends -/
section
variable {s : St} {Θ : Tab}
theorem cellO {a t l : Nat} {ob : OB} {t' : Option Nat} {xs : List AV} (h1 : s.sl a = .optr l 0 [] 0) (ho : s.hp l = some ob) (hop : ob.e.open_ = false) (hoe : openE ob.e ob.xs 0 = some (.o t' 0 (.mix xs))) (hp : plainM xs = true) (hk : ((Θ.look t).known && (Θ.look t).isAgg && Nat.beq (aszs xs) (Θ.look t).size) = true) : rvA s (.cell a t) = .mix xs ∧ rvOK Θ s (.cell a t) := by
  have hof : ofO (.mix xs) = some (.mix xs) := by simp [ofO, hp]
  have hr : rvA s (.cell a t) = .mix xs := by
    simp only [rvA, h1, ho, hop, hoe, cond_false, hof]; rfl
  simp only [Bool.and_eq_true] at hk
  exact ⟨hr, hk.1.1, by rw [hr]; exact hk.1.2.symm, by rw [hr]; exact Nat.eq_of_beq_eq_true hk.2, .inl ⟨l, ob, _, h1, ho, .inr ⟨hop, _, _, hoe, hof⟩⟩⟩
theorem cellC {a t l : Nat} {ob : OB} {x : AV} (h1 : s.sl a = .optr l 0 [] 0) (ho : s.hp l = some ob) (hx : ob.xs[0]? = some x) (hk : ((Θ.look t).known && (Bool.xor (isAggA x) (Θ.look t).isAgg).not && Nat.beq (asz x) (Θ.look t).size) = true) (hop : ob.e.open_ = true := by rfl) : rvA s (.cell a t) = x ∧ rvOK Θ s (.cell a t) := by
  have hr : rvA s (.cell a t) = x := by
    simp only [rvA, h1, ho, hop, hx, cond_true, Option.getD_some]
  simp only [Bool.and_eq_true] at hk
  exact ⟨hr, hk.1.1, by rw [hr]; exact xor_not hk.1.2, by rw [hr]; exact Nat.eq_of_beq_eq_true hk.2, .inl ⟨l, ob, x, h1, ho, .inl ⟨hop, hx⟩⟩⟩
theorem retA_watO {w : Wat} {L : Nat} {Ls : List Nat} {j : Nat} (hj : Ls.getD j 0 = L) (hlt : Nat.blt j Ls.length = true) : retA s Ls (watO w L) (watO w j) :=
  .inl ⟨by unfold watO; simp [mapA, mapAL, ← hj], by unfold watO; simp only [AV.within, withinL, hlt]; rfl⟩
theorem retA_own {L : Nat} {Ls : List Nat} {j : Nat} (hj : Ls.getD j 0 = L) (hlt : Nat.blt j Ls.length = true) : retA s Ls (.own L) (.own j) :=
  .inl ⟨by simp [mapA, ← hj], hlt⟩
theorem retA_v {v : Value} {Ls : List Nat} : retA s Ls (.v v) (.v v) := .inl ⟨rfl, rfl⟩
theorem retA_evt {e : Evt} {Ls : List Nat} : retA s Ls (evtA e) (evtA e) := .inl ⟨rfl, rfl⟩
theorem retA_wat {w : Wat} {Ls : List Nat} : retA s Ls (watA w) (watA w) := .inl ⟨rfl, rfl⟩
/-- a watch with a queue of its own -/
theorem r_wat {a l L : Nat} {ob : OB} {t' : Option Nat} {w : Wat} {q : OB} {t : Nat} (h1 : s.sl a = .optr l 0 [] 0) (ho : s.hp l = some ob) (hop : ob.e.open_ = false) (hoe : openE ob.e ob.xs 0 = some (.o t' 0 (watO w L))) (hq : s.hp L = some q) (hk : ((Θ.look t).known && (Θ.look t).isAgg && Nat.beq 3 (Θ.look t).size) = true) (hok : okL L = true := by rfl) (hsh : q.e.shut = true := by rfl) :
    RetQ Θ [.cell a t] ⟨watO w 0, [q]⟩ .ret s := by
  obtain ⟨c1, c2⟩ := cellO (Θ := Θ) (t := t) h1 ho hop hoe rfl hk
  exact ⟨trivial, [L], by simp, ⟨⟨hq, hok, hsh⟩, trivial⟩, ⟨c2, trivial⟩, trivial, ⟨by rw [c1]; exact retA_watO rfl rfl, trivial⟩⟩
theorem r_watV {a l L t2 : Nat} {ob : OB} {t' : Option Nat} {w : Wat} {q : OB} {t : Nat} {v : Value} (h1 : s.sl a = .optr l 0 [] 0) (ho : s.hp l = some ob) (hop : ob.e.open_ = false) (hoe : openE ob.e ob.xs 0 = some (.o t' 0 (watO w L))) (hq : s.hp L = some q) (hk : ((Θ.look t).known && (Θ.look t).isAgg && Nat.beq 3 (Θ.look t).size) = true) (hv : s.sl t2 = .v v) (hok : okL L = true := by rfl) (hsh : q.e.shut = true := by rfl) :
    RetQ Θ [.cell a t, .tmp t2] ⟨.tup [watO w 0, .v v], [q]⟩ .ret s := by
  obtain ⟨c1, c2⟩ := cellO (Θ := Θ) (t := t) h1 ho hop hoe rfl hk
  exact ⟨trivial, [L], by simp, ⟨⟨hq, hok, hsh⟩, trivial⟩, ⟨c2, trivial, trivial⟩, ⟨_, rfl⟩, ⟨by rw [c1]; exact retA_watO rfl rfl, by show retA _ _ (s.sl t2) _; rw [hv]; exact retA_v, trivial⟩⟩
end
section
variable {P : Program} {Θ : Tab} {s : St} {ty : TypeId} {pos : String} {after : Array Edge} {g : Option (Nat × Bool)}
theorem sft_bsl1 {d : Nat} {t : TypeId} {x : Operand} {el sz b : Nat} {z : AV} {ys : List AV} (hf : s.hp (d + 1) = none) (ht : Θ.look t = .slice el sz b z) (hx : s.ev x = .agg ys) (hz : Nat.beq (asz (.agg ys)) (asz z) = true) (hsz : Nat.ble sz 65536 = true) (hok : okL (d + 1) = true := by rfl) :
    Sft P Θ ⟨some d, .buildSlice t 1 #[(0, x)], ty, pos, after, g⟩ s (.own (d + 1)) [] [(d + 1, some ⟨.s el, sz, [.agg ys]⟩)] := by
  refine ⟨fun s' h1 h2 => ⟨⟨.own (d + 1), some fun s'' => s''.set (d + 1) (some ⟨.s el, sz, [.agg ys]⟩)⟩, ?_, fun K hK => .done ?_⟩, fun l ob h => ?_, fun l hl => (by cases hl), fun l hl => .inl ?_, fun l ⟨o, hl⟩ => .inl ?_, fun l ob ⟨o, hl⟩ ho => ?_⟩
  · exact p_bsl1 ((h2 _ (.inl (in1 _ _))).1.trans hf) ht ((h1 x (by simp [Op.operands])).trans hx) rfl hz hsz hok
  · rw [app_some, shp_set]; exact hK
  · obtain ⟨_, e⟩ := nu1 h; cases e; rfl
  · simp only [AV.names] at hl; rw [← Nat.eq_of_beq_eq_true hl]; exact in1 _ _
  · obtain ⟨rfl, _⟩ := nu1 hl; exact ⟨d, rfl, rfl⟩
  · obtain ⟨rfl, _⟩ := nu1 hl; rw [hf] at ho; cases ho
theorem sft_app1 {d : Option Tmp} {tx ty' : Tmp} {t el sz b l l' : Nat} {e0 e' : ET} {z : AV} {xs ys : List AV} (hx : s.sl tx = .own l) (hy : s.sl ty' = .own l') (ho : s.hp l = some ⟨e0, sz, xs⟩) (ho' : s.hp l' = some ⟨e', sz, ys⟩) (hn : Nat.beq l' l = false) (ht : Θ.look t = .slice el sz b z) (hb : (xs.length + ys.length) * b ≤ 140737488355328) (hb1 : Nat.ble 1 b = true) (he : (e0 = .s el ∨ e0 = .z el) := by first | exact .inl rfl | exact .inr rfl) (he' : e'.open_ = true := by rfl) (hok : okL l = true := by rfl) :
    Sft P Θ ⟨d, .call ⟨.builtin .append, #[.tmp tx, .tmp ty'], #[t, t]⟩, ty, pos, after, g⟩ s (.own l) [l] [(l, some ⟨.s el, sz, xs ++ ys⟩)] := by
  have hb1' := Nat.le_of_ble_eq_true hb1
  have hm : xs.length + ys.length ≤ maxLen := by
    have : (xs.length + ys.length) * 1 ≤ (xs.length + ys.length) * b := Nat.mul_le_mul_left _ hb1'
    unfold maxLen; omega
  have hne : l' ≠ l := fun e => by rw [e] at hn; simp at hn
  have m1 : tx ∈ tmpsOf (⟨d, .call ⟨.builtin .append, #[.tmp tx, .tmp ty'], #[t, t]⟩, ty, pos, after, g⟩ : Oper) := mem_tmps (by simp [Op.operands, Call.operands])
  have m2 : ty' ∈ tmpsOf (⟨d, .call ⟨.builtin .append, #[.tmp tx, .tmp ty'], #[t, t]⟩, ty, pos, after, g⟩ : Oper) := mem_tmps (by simp [Op.operands, Call.operands])
  have n1 : namedBy s (⟨d, .call ⟨.builtin .append, #[.tmp tx, .tmp ty'], #[t, t]⟩, ty, pos, after, g⟩ : Oper) l := ⟨tx, m1, by rw [hx]; simp [AV.names]⟩
  have n2 : namedBy s (⟨d, .call ⟨.builtin .append, #[.tmp tx, .tmp ty'], #[t, t]⟩, ty, pos, after, g⟩ : Oper) l' := ⟨ty', m2, by rw [hy]; simp [AV.names]⟩
  refine ⟨fun s' h1 h2 => ⟨⟨.own l, some fun s'' => (s''.kill l).set l (some ⟨.s el, sz, xs ++ ys⟩)⟩, ?_, fun K hK => .done ?_⟩, fun m ob h => ?_, fun m hl => ?_, fun m hl => .inl ?_, fun m ⟨o, hl⟩ => .inr ?_, fun m ob ⟨o, hl⟩ hob => ?_⟩
  · have e1 : s'.ev (.tmp tx) = .own l := (h1 _ (by simp [Op.operands, Call.operands])).trans hx
    have e2 : s'.ev (.tmp ty') = .own l' := (h1 _ (by simp [Op.operands, Call.operands])).trans hy
    exact ⟨.tmp tx, .tmp ty', t, el, sz, b, z, l, _, ys, rfl, rfl, ht, e1, (h2 _ (.inl (in1 _ _))).1.trans ho, hok, rfl, hb, hm, .inl ⟨el, he, rfl, .inr ⟨l', _, e2, hne, (h2 _ (.inr n2)).1.trans ho', he', rfl, rfl⟩, rfl⟩⟩
  · rw [app_some, shp_app]; exact hK
  · obtain ⟨_, e⟩ := nu1 h; cases e; rfl
  · rw [List.mem_singleton] at hl; subst hl; exact in1 _ _
  · simp only [AV.names] at hl; rw [← Nat.eq_of_beq_eq_true hl]; exact in1 _ _
  · obtain ⟨rfl, _⟩ := nu1 hl; exact n1
  · obtain ⟨rfl, _⟩ := nu1 hl
    rw [ho] at hob; cases hob
    rcases he with rfl | rfl <;> rfl
end
def noteW (w : Wat) (r : Rf) : Wat := ⟨w.name, r.ver, addE w.queue ⟨r.ver, r.head, false⟩⟩
attribute [local irreducible] ACode AOps AOps2 RetG RetM Pre ACG
theorem ac_l06Own' {w : Wat} (hm : w.queue.length ≤ 1048576) : AC Try.prog 25 [watM w] ⟨watO w 0, [evtO w.queue]⟩ := by
  refine r_of Th_ok (by kernel_rfl) Try.func25 rfl Try.ntmps25 Try.results25 (by kernel_rfl) rfl ?_; conv => whnf
  refine r_step (p_boxo rfl rfl rfl) rfl rfl (fun e => by first | exact .inl rfl | contradiction | exact .inr (.inl (by kernel_rfl))) ?_
  conv => whnf
  refine r_step (p_appl (xs := []) (ys := w.queue) (f := evtA) (by simp; omega) rfl rfl rfl rfl rfl rfl) rfl rfl (fun e => by first | exact .inl rfl | contradiction | exact .inr (.inl (by kernel_rfl))) ?_
  conv => whnf
  repeat (first | ((first | refine qb rfl rfl ?_ | refine qi (by assumption) rfl rfl ?_ | refine ql rfl ?_ | refine qo rfl rfl ?_ | refine qs rfl rfl ?_ | refine qn rfl rfl ?_); conv => whnf) | (refine r_step (p_ostoreo rfl rfl rfl rfl rfl rfl) rfl rfl (fun e => by first | exact .inl rfl | contradiction | exact .inr (.inl (by kernel_rfl))) ?_; conv => whnf))
  exact r_wat rfl rfl rfl rfl rfl rfl
theorem ac_l06Own {w : Wat} (hm : w.queue.length ≤ 1048576) : AC Try.prog 25 [watA w] ⟨watO w 0, [evtO w.queue]⟩ := ac_watM (ac_l06Own' hm)
theorem ac_l06Note {w : Wat} {r : Rf} (hm : w.queue.length ≤ 4) : AC Try.prog 30 [watA w, refA r] ⟨watA (noteW w r), []⟩ := by
  have fin : ∀ q : List Evt, q = addE w.queue ⟨r.ver, r.head, false⟩ → watA ⟨w.name, r.ver, q⟩ = watA (noteW w r) := fun q e => by rw [e]; rfl
  by_cases h4 : w.queue.length = 4
  · rw [← fin [⟨r.ver, r.head, true⟩] (by unfold addE; rw [if_neg (by omega)])]
    refine r_of Th_ok (by kernel_rfl) Try.func30 rfl Try.ntmps30 Try.results30 (by kernel_rfl) rfl ?_; conv => whnf
    repeat (first | ((first | refine qb rfl rfl ?_ | refine qi (by assumption) rfl rfl ?_ | refine ql rfl ?_ | refine qo rfl rfl ?_ | refine qs rfl rfl ?_ | refine qn rfl rfl ?_); conv => whnf) | (refine r_step (p_ostore rfl rfl rfl rfl rfl (by conv => lhs; whnf) rfl) rfl rfl (fun e => by first | exact .inl rfl | contradiction | exact .inr (.inl (by kernel_rfl))) ?_; conv => whnf) | (refine r_step (p_ostoref rfl rfl rfl rfl rfl rfl rfl rfl) rfl rfl (fun e => by first | exact .inl rfl | contradiction | exact .inr (.inl (by kernel_rfl))) ?_; conv => whnf))
    refine .inr ⟨by kernel_rfl, prodB_ok (by kernel_rfl), ?_⟩
    refine o2_sft (sft_bsl0 rfl rfl) in_1 rfl rfl (by kernel_rfl) ?_
    refine o2_calm (p_ofld rfl rfl rfl) rfl rfl rfl (.inl rfl) (by kernel_rfl) ?_
    refine o2_calm (p_old rfl rfl rfl rfl rfl rfl rfl) rfl rfl rfl (.inr rfl) (by kernel_rfl) ?_
    refine o2_sft (sft_appl rfl rfl rfl rfl (by simp <;> omega) rfl) in_1 rfl rfl (by kernel_rfl) ?_
    refine o2_calm (p_old rfl rfl rfl rfl rfl rfl rfl) rfl rfl rfl (.inr rfl) (by kernel_rfl) ?_
    refine o2_sft (sft_bsl1 rfl rfl rfl rfl rfl) in_1 rfl rfl (by kernel_rfl) ?_
    refine o2_sft (sft_app1 rfl rfl rfl rfl rfl rfl (by simp <;> omega) rfl) in_1 rfl rfl (by kernel_rfl) ?_
    refine o2_calm (p_ofld rfl rfl rfl) rfl rfl rfl (.inl rfl) (by kernel_rfl) ?_
    refine o2_tied (p_ostoref rfl rfl rfl rfl rfl rfl rfl rfl) rfl rfl (by kernel_rfl) ?_
    refine o2_nil ?_
    conv => whnf
    repeat (first | ((first | refine qb rfl rfl ?_ | refine qi (by assumption) rfl rfl ?_ | refine ql rfl ?_ | refine qo rfl rfl ?_ | refine qs rfl rfl ?_ | refine qn rfl rfl ?_); conv => whnf) | (refine r_step (p_ostore rfl rfl rfl rfl rfl (by conv => lhs; whnf) rfl) rfl rfl (fun e => by first | exact .inl rfl | contradiction | exact .inr (.inl (by kernel_rfl))) ?_; conv => whnf))
    exact r_cell1 (x := watA ⟨w.name, r.ver, [⟨r.ver, r.head, true⟩]⟩) rfl rfl rfl rfl trivial
  · rw [← fin (w.queue ++ [⟨r.ver, r.head, false⟩]) (by unfold addE; rw [if_pos (by omega)])]
    refine r_of Th_ok (by kernel_rfl) Try.func30 rfl Try.ntmps30 Try.results30 (by kernel_rfl) rfl ?_; conv => whnf
    repeat (first | ((first | refine qb rfl rfl ?_ | refine qi (by assumption) rfl rfl ?_ | refine ql rfl ?_ | refine qo rfl rfl ?_ | refine qs rfl rfl ?_ | refine qn rfl rfl ?_); conv => whnf) | (refine r_step (p_ostore rfl rfl rfl rfl rfl (by conv => lhs; whnf) rfl) rfl rfl (fun e => by first | exact .inl rfl | contradiction | exact .inr (.inl (by kernel_rfl))) ?_; conv => whnf) | (refine r_step (p_ostoref rfl rfl rfl rfl rfl rfl rfl rfl) rfl rfl (fun e => by first | exact .inl rfl | contradiction | exact .inr (.inl (by kernel_rfl))) ?_; conv => whnf))
    refine .inr ⟨by kernel_rfl, prodB_ok (by kernel_rfl), ?_⟩
    refine o2_sft (sft_bsl0 rfl rfl) in_1 rfl rfl (by kernel_rfl) ?_
    refine o2_calm (p_ofld rfl rfl rfl) rfl rfl rfl (.inl rfl) (by kernel_rfl) ?_
    refine o2_calm (p_old rfl rfl rfl rfl rfl rfl rfl) rfl rfl rfl (.inr rfl) (by kernel_rfl) ?_
    refine o2_sft (sft_appl rfl rfl rfl rfl (by simp; omega) rfl) in_1 rfl rfl (by kernel_rfl) ?_
    refine o2_calm (p_old rfl rfl rfl rfl rfl rfl rfl) rfl rfl rfl (.inr rfl) (by kernel_rfl) ?_
    refine o2_sft (sft_bsl1 rfl rfl rfl rfl rfl) in_1 rfl rfl (by kernel_rfl) ?_
    refine o2_sft (sft_app1 rfl rfl rfl rfl rfl rfl (by simp; omega) rfl) in_1 rfl rfl (by kernel_rfl) ?_
    refine o2_calm (p_ofld rfl rfl rfl) rfl rfl rfl (.inl rfl) (by kernel_rfl) ?_
    refine o2_tied (p_ostoref rfl rfl rfl rfl rfl rfl rfl rfl) rfl rfl (by kernel_rfl) ?_
    refine o2_nil ?_
    conv => whnf
    repeat (first | ((first | refine qb rfl rfl ?_ | refine qi (by assumption) rfl rfl ?_ | refine ql rfl ?_ | refine qo rfl rfl ?_ | refine qs rfl rfl ?_ | refine qn rfl rfl ?_); conv => whnf) | (refine r_step (p_ostore rfl rfl rfl rfl rfl (by conv => lhs; whnf) rfl) rfl rfl (fun e => by first | exact .inl rfl | contradiction | exact .inr (.inl (by kernel_rfl))) ?_; conv => whnf))
    have hq : watA ⟨w.name, r.ver, w.queue ++ [⟨r.ver, r.head, false⟩]⟩ = .agg [.v (.string w.name), .v (.int .i64 r.ver), .lst 3 (w.queue.map evtA ++ [evtA ⟨r.ver, r.head, false⟩])] := by unfold watA; simp
    rw [hq]
    exact r_cell1 (x := .agg [.v (.string w.name), .v (.int .i64 r.ver), .lst 3 (w.queue.map evtA ++ [evtA ⟨r.ver, r.head, false⟩])]) rfl rfl rfl rfl trivial
end Go.Proofs.Ytjhimcddgkoghab.AM
/- NoteRef, NextEvent and DrainWatch on both sides. -/
namespace Go.Proofs.Ytjhimcddgkoghab.AM
open Go Go.RowKit
set_option linter.unusedVariables false
set_option linter.unusedSimpArgs false
set_option maxRecDepth 100000
abbrev watZ : Wat := ⟨ByteArray.empty, 0, []⟩
/-- a watch whose queue is nil -/
def watN (w : Wat) : AV := .mix [.v (.string w.name), .v (.int .i64 w.seen), .v (.slice none 0 0)]
theorem watN_rv {w : Wat} {S : Nat → Prop} {wd : World} {hp : Nat → Option OB} {B : Nat → Nat} {V : Nat → Value} {u : Value} (h : RV S wd hp B V (watN w) u) : RV S wd hp B V (watA ⟨w.name, w.seen, []⟩) u := by
  unfold watN at h
  unfold RV at h
  obtain ⟨cs, rfl, h⟩ := h
  unfold ROs at h
  obtain ⟨c1, d1, _, _, rfl, _, h1, h⟩ := h
  unfold ROs at h
  obtain ⟨c2, d2, _, _, rfl, _, h2, h⟩ := h
  unfold ROs at h
  obtain ⟨c3, d3, _, _, rfl, _, h3, h⟩ := h
  unfold ROs at h
  obtain ⟨rfl, _⟩ := h
  unfold RO1 RD at h1 h2 h3
  obtain ⟨_, rfl, _⟩ := h1
  obtain ⟨_, rfl, _⟩ := h2
  obtain ⟨_, rfl, _⟩ := h3
  unfold watA RV
  refine ⟨_, rfl, ?_⟩
  exact rl_cons (c1 := [_]) (ra_v rfl) (rl_cons (c1 := [_]) (ra_v rfl) (rl_cons (c1 := [_]) (ra_nil (by omega)) rl_nil))
section
variable {s : St} {Θ : Tab}
theorem retA_watN {w : Wat} {Ls : List Nat} : retA s Ls (watN w) (watN w) := .inl ⟨rfl, rfl⟩
/-- a watch with a queue of its own, an event, a code -/
theorem r_watEV {a a2 l l2 L t2 : Nat} {ob ob2 : OB} {t' : Option Nat} {w : Wat} {q : OB} {t u : Nat} {v : Value} {e : Evt} (h1 : s.sl a = .optr l 0 [] 0) (ho : s.hp l = some ob) (hop : ob.e.open_ = false) (hoe : openE ob.e ob.xs 0 = some (.o t' 0 (watO w L))) (hq : s.hp L = some q) (hk : ((Θ.look t).known && (Θ.look t).isAgg && Nat.beq 3 (Θ.look t).size) = true)
    (h2 : s.sl a2 = .optr l2 0 [] 0) (ho2 : s.hp l2 = some ob2) (hx2 : ob2.xs[0]? = some (evtA e)) (hk2 : ((Θ.look u).known && (Bool.xor true (Θ.look u).isAgg).not && Nat.beq 3 (Θ.look u).size) = true) (hv : s.sl t2 = .v v) (hop2 : ob2.e.open_ = true := by rfl) (hok : okL L = true := by rfl) (hsh : q.e.shut = true := by rfl) :
    RetQ Θ [.cell a t, .cell a2 u, .tmp t2] ⟨.tup [watO w 0, evtA e, .v v], [q]⟩ .ret s := by
  obtain ⟨c1, c2⟩ := cellO (Θ := Θ) (t := t) h1 ho hop hoe rfl hk
  obtain ⟨c3, c4⟩ := cellC (Θ := Θ) (t := u) h2 ho2 hx2 hk2 hop2
  exact ⟨trivial, [L], by simp, ⟨⟨hq, hok, hsh⟩, trivial⟩, ⟨c2, c4, trivial, trivial⟩, ⟨_, rfl⟩, ⟨by rw [c1]; exact retA_watO rfl rfl, by rw [c3]; exact retA_evt, by show retA _ _ (s.sl t2) _; rw [hv]; exact retA_v, trivial⟩⟩
/-- a watch, a list, a code -/
theorem r_cov {a l L t2 t3 : Nat} {ob q : OB} {w : Wat} {t : Nat} {v : Value} (h1 : s.sl a = .optr l 0 [] 0) (ho : s.hp l = some ob) (hx : ob.xs[0]? = some (watA w)) (hk : ((Θ.look t).known && (Bool.xor true (Θ.look t).isAgg).not && Nat.beq 3 (Θ.look t).size) = true) (hl : s.sl t2 = .own L) (hq : s.hp L = some q) (hv : s.sl t3 = .v v) (hop : ob.e.open_ = true := by rfl) (hok : okL L = true := by rfl) (hsh : q.e.shut = true := by rfl) :
    RetQ Θ [.cell a t, .tmp t2, .tmp t3] ⟨.tup [watA w, .own 0, .v v], [q]⟩ .ret s := by
  obtain ⟨c1, c2⟩ := cellC (Θ := Θ) (t := t) h1 ho hx hk hop
  exact ⟨trivial, [L], by simp, ⟨⟨hq, hok, hsh⟩, trivial⟩, ⟨c2, trivial, trivial, trivial⟩, ⟨_, rfl⟩, ⟨by rw [c1]; exact retA_wat, by show retA _ _ (s.sl t2) _; rw [hl]; exact retA_own rfl rfl, by show retA _ _ (s.sl t3) _; rw [hv]; exact retA_v, trivial⟩⟩
theorem r_nov {a l L t2 t3 : Nat} {ob q : OB} {t' : Option Nat} {w : Wat} {t : Nat} {v : Value} (h1 : s.sl a = .optr l 0 [] 0) (ho : s.hp l = some ob) (hop : ob.e.open_ = false) (hoe : openE ob.e ob.xs 0 = some (.o t' 0 (watN w))) (hk : ((Θ.look t).known && (Θ.look t).isAgg && Nat.beq 3 (Θ.look t).size) = true) (hl : s.sl t2 = .own L) (hq : s.hp L = some q) (hv : s.sl t3 = .v v) (hok : okL L = true := by rfl) (hsh : q.e.shut = true := by rfl) :
    RetQ Θ [.cell a t, .tmp t2, .tmp t3] ⟨.tup [watN w, .own 0, .v v], [q]⟩ .ret s := by
  obtain ⟨c1, c2⟩ := cellO (Θ := Θ) (t := t) h1 ho hop hoe rfl hk
  exact ⟨trivial, [L], by simp, ⟨⟨hq, hok, hsh⟩, trivial⟩, ⟨c2, trivial, trivial, trivial⟩, ⟨_, rfl⟩, ⟨by rw [c1]; exact retA_watN, by show retA _ _ (s.sl t2) _; rw [hl]; exact retA_own rfl rfl, by show retA _ _ (s.sl t3) _; rw [hv]; exact retA_v, trivial⟩⟩
end
theorem watB_of {w : Wat} (h : watB w = true) : (0 ≤ w.seen ∧ w.seen ≤ 1000000) ∧ w.queue.length ≤ 4 := by
  unfold watB at h
  simp only [Bool.and_eq_true, decide_eq_true_eq, Bool.or_eq_true] at h
  refine ⟨h.2.1, ?_⟩
  rcases h.2.2 with h | h
  · rw [h]; simp
  · unfold qB at h
    simp only [Bool.and_eq_true, decide_eq_true_eq] at h
    exact h.1
attribute [local irreducible] ACode AOps AOps2 RetG RetM Pre ACG
theorem ac_iDrain {w : Wat} (hw : w.ok maxLen) (hb : watB w = true) : AC Try.prog 12 [watA w] ⟨.tup [watA ⟨w.name, w.seen, []⟩, .own 0, .v (.int .i64 0)], [evtO w.queue]⟩ := by
  have h1 := ac_iWatchOK hw
  rw [hb] at h1
  have h2 := ac_newPending (watB_of hb).2
  have h3 := ac_takeAll (watB_of hb).2
  have key : AC Try.prog 12 [watM w] ⟨.tup [watN w, .own 0, .v (.int .i64 0)], [evtO w.queue]⟩ := by
    refine r_of Th_ok (by kernel_rfl) Try.func12 rfl Try.ntmps12 Try.results12 (by kernel_rfl) rfl ?_; conv => whnf
    refine r_step (p_boxo rfl rfl rfl) rfl rfl (fun e => by first | exact .inl rfl | contradiction | exact .inr (.inl (by kernel_rfl))) ?_
    conv => whnf
    repeat (first | ((first | refine qb rfl rfl ?_ | refine qi (by assumption) rfl rfl ?_ | refine ql rfl ?_ | refine qo rfl rfl ?_ | refine qs rfl rfl ?_ | refine qn rfl rfl ?_); conv => whnf) | (refine qc (h1) rfl ?_; conv => whnf) | (refine r_step (p_ostore rfl rfl rfl rfl rfl (by conv => lhs; whnf) rfl) rfl rfl (fun e => by first | exact .inl rfl | contradiction | exact .inr (.inl (by kernel_rfl))) ?_; conv => whnf) | (refine qc (h2) rfl ?_; conv => whnf))
    refine r_step (p_callg [13] h3 rfl rfl ⟨rfl, trivial⟩ rfl rfl ⟨⟨rfl, rfl, rfl⟩, trivial⟩ rfl rfl rfl (.inl rfl) rfl) rfl rfl (fun e => by first | exact .inl rfl | contradiction | exact .inr (.inl (by kernel_rfl))) ?_
    conv => whnf
    repeat (first | ((first | refine qb rfl rfl ?_ | refine qi (by assumption) rfl rfl ?_ | refine ql rfl ?_ | refine qo rfl rfl ?_ | refine qs rfl rfl ?_ | refine qn rfl rfl ?_); conv => whnf) | (refine r_step (p_ostoreo rfl rfl rfl rfl rfl rfl) rfl rfl (fun e => by first | exact .inl rfl | contradiction | exact .inr (.inl (by kernel_rfl))) ?_; conv => whnf))
    exact r_nov rfl rfl rfl rfl rfl rfl rfl rfl
  exact ac_watM (acg_out key fun S wd hp B V u h => by
    unfold RV at h ⊢
    obtain ⟨us, rfl, h⟩ := h
    refine ⟨us, rfl, ?_⟩
    unfold RVs at h ⊢
    obtain ⟨u, us', rfl, h1, h2⟩ := h
    exact ⟨u, us', rfl, watN_rv h1, h2⟩)
/-- what NextEvent answers for a valid watch -/
def nextR (w : Wat) : Wat × Evt × Int := (⟨w.name, w.seen, w.queue.drop 1⟩, w.queue.getD 0 evtZ, if 0 < w.queue.length then 0 else 5)
theorem ac_iNext {w : Wat} (hw : w.ok maxLen) (hb : watB w = true) : AC Try.prog 6 [watA w] ⟨.tup [watO (nextR w).1 0, evtA (nextR w).2.1, .v (.int .i64 (nextR w).2.2)], [evtO (nextR w).1.queue]⟩ := by
  have h1 := ac_iWatchOK hw
  rw [hb] at h1
  have h2 := ac_newPending (watB_of hb).2
  have h3 := ac_take (l := w.queue)
  have h4 := ac_takeAll (l := w.queue.drop 1) (by have := (watB_of hb).2; simp; omega)
  refine ac_watM ?_
  unfold nextR
  by_cases h0 : 0 < w.queue.length
  · rw [if_pos h0]
    rw [decide_eq_true h0] at h3
    refine r_of Th_ok (by kernel_rfl) Try.func6 rfl Try.ntmps6 Try.results6 (by kernel_rfl) rfl ?_; conv => whnf
    refine r_step (p_boxo rfl rfl rfl) rfl rfl (fun e => by first | exact .inl rfl | contradiction | exact .inr (.inl (by kernel_rfl))) ?_
    conv => whnf
    repeat (first | ((first | refine qb rfl rfl ?_ | refine qi (by assumption) rfl rfl ?_ | refine ql rfl ?_ | refine qo rfl rfl ?_ | refine qs rfl rfl ?_ | refine qn rfl rfl ?_); conv => whnf) | (refine qc (h1) rfl ?_; conv => whnf) | (refine qc (h2) rfl ?_; conv => whnf))
    refine r_step (p_callg [17] h3 rfl rfl ⟨rfl, trivial⟩ rfl rfl trivial rfl rfl rfl (.inl rfl) rfl) rfl rfl (fun e => by first | exact .inl rfl | contradiction | exact .inr (.inl (by kernel_rfl))) ?_
    conv => whnf
    repeat (first | ((first | refine qb rfl rfl ?_ | refine qi (by assumption) rfl rfl ?_ | refine ql rfl ?_ | refine qo rfl rfl ?_ | refine qs rfl rfl ?_ | refine qn rfl rfl ?_); conv => whnf) | (refine r_step (p_ostore rfl rfl rfl rfl rfl (by conv => lhs; whnf) rfl) rfl rfl (fun e => by first | exact .inl rfl | contradiction | exact .inr (.inl (by kernel_rfl))) ?_; conv => whnf))
    refine r_step (p_callg [17] h4 rfl rfl ⟨rfl, trivial⟩ rfl rfl ⟨⟨rfl, rfl, rfl⟩, trivial⟩ rfl rfl rfl (.inl rfl) rfl) rfl rfl (fun e => by first | exact .inl rfl | contradiction | exact .inr (.inl (by kernel_rfl))) ?_
    conv => whnf
    repeat (first | ((first | refine qb rfl rfl ?_ | refine qi (by assumption) rfl rfl ?_ | refine ql rfl ?_ | refine qo rfl rfl ?_ | refine qs rfl rfl ?_ | refine qn rfl rfl ?_); conv => whnf) | (refine r_step (p_ostoreo rfl rfl rfl rfl rfl rfl) rfl rfl (fun e => by first | exact .inl rfl | contradiction | exact .inr (.inl (by kernel_rfl))) ?_; conv => whnf))
    (refine .inl (And.intro (by kernel_rfl) ?_); conv => whnf)
    refine r_step (p_ostoreo rfl rfl rfl rfl rfl rfl) rfl rfl (fun _ => .inr (.inr (soft_set (by kernel_rfl) (by kernel_rfl)))) ?_
    conv => whnf
    refine r_step (p_ostore rfl rfl rfl rfl rfl (by conv => lhs; whnf) rfl) rfl rfl (fun _ => .inr (.inr (soft_set (by kernel_rfl) (by kernel_rfl)))) ?_
    conv => whnf
    exact r_watEV rfl rfl rfl rfl rfl rfl rfl rfl rfl rfl rfl
  · rw [if_neg h0]
    rw [decide_eq_false h0] at h3
    refine r_of Th_ok (by kernel_rfl) Try.func6 rfl Try.ntmps6 Try.results6 (by kernel_rfl) rfl ?_; conv => whnf
    refine r_step (p_boxo rfl rfl rfl) rfl rfl (fun e => by first | exact .inl rfl | contradiction | exact .inr (.inl (by kernel_rfl))) ?_
    conv => whnf
    repeat (first | ((first | refine qb rfl rfl ?_ | refine qi (by assumption) rfl rfl ?_ | refine ql rfl ?_ | refine qo rfl rfl ?_ | refine qs rfl rfl ?_ | refine qn rfl rfl ?_); conv => whnf) | (refine qc (h1) rfl ?_; conv => whnf) | (refine qc (h2) rfl ?_; conv => whnf))
    refine r_step (p_callg [17] h3 rfl rfl ⟨rfl, trivial⟩ rfl rfl trivial rfl rfl rfl (.inl rfl) rfl) rfl rfl (fun e => by first | exact .inl rfl | contradiction | exact .inr (.inl (by kernel_rfl))) ?_
    conv => whnf
    repeat (first | ((first | refine qb rfl rfl ?_ | refine qi (by assumption) rfl rfl ?_ | refine ql rfl ?_ | refine qo rfl rfl ?_ | refine qs rfl rfl ?_ | refine qn rfl rfl ?_); conv => whnf) | (refine r_step (p_ostore rfl rfl rfl rfl rfl (by conv => lhs; whnf) rfl) rfl rfl (fun e => by first | exact .inl rfl | contradiction | exact .inr (.inl (by kernel_rfl))) ?_; conv => whnf))
    refine r_step (p_callg [17] h4 rfl rfl ⟨rfl, trivial⟩ rfl rfl ⟨⟨rfl, rfl, rfl⟩, trivial⟩ rfl rfl rfl (.inl rfl) rfl) rfl rfl (fun e => by first | exact .inl rfl | contradiction | exact .inr (.inl (by kernel_rfl))) ?_
    conv => whnf
    repeat (first | ((first | refine qb rfl rfl ?_ | refine qi (by assumption) rfl rfl ?_ | refine ql rfl ?_ | refine qo rfl rfl ?_ | refine qs rfl rfl ?_ | refine qn rfl rfl ?_); conv => whnf) | (refine r_step (p_ostoreo rfl rfl rfl rfl rfl rfl) rfl rfl (fun e => by first | exact .inl rfl | contradiction | exact .inr (.inl (by kernel_rfl))) ?_; conv => whnf))
    (refine .inl (And.intro (by kernel_rfl) ?_); conv => whnf)
    refine r_step (p_ostoreo rfl rfl rfl rfl rfl rfl) rfl rfl (fun _ => .inr (.inr (soft_set (by kernel_rfl) (by kernel_rfl)))) ?_
    conv => whnf
    refine r_step (p_ostore rfl rfl rfl rfl rfl (by conv => lhs; whnf) rfl) rfl rfl (fun _ => .inr (.inr (soft_set (by kernel_rfl) (by kernel_rfl)))) ?_
    conv => whnf
    exact r_watEV rfl rfl rfl rfl rfl rfl rfl rfl rfl rfl rfl
end Go.Proofs.Ytjhimcddgkoghab.AM
namespace Go.Proofs.Ytjhimcddgkoghab.AM
open Go Go.RowKit
set_option linter.unusedVariables false
set_option linter.unusedSimpArgs false
theorem evs_iff (l : List Evt) : evsB l = true ↔ (∀ e ∈ l, eB e = true) ∧ ∀ m (h : m + 1 < l.length), fB l[m + 1] (l[m]'(by omega)) = true := by
  constructor
  · intro h
    have h := evsB_of h
    refine ⟨fun e he => ?_, fun m hm => ?_⟩
    · obtain ⟨i, hi, rfl⟩ := List.getElem_of_mem he
      exact (h i hi).2.1
    · exact (h (m + 1) hm).2.2 m rfl
  · rintro ⟨h1, h2⟩
    refine evsB_t fun i hi => ?_
    refine ⟨hi, h1 _ (List.getElem_mem hi), fun m hm => ?_⟩
    subst hm
    exact h2 m hi
theorem evs_left {a b : List Evt} (h : evsB (a ++ b) = true) : evsB a = true := by
  rw [evs_iff] at h ⊢
  refine ⟨fun e he => h.1 e (List.mem_append_left _ he), fun m hm => ?_⟩
  have := h.2 m (by simp; omega)
  rw [List.getElem_append_left (by omega), List.getElem_append_left (by omega)] at this
  exact this
theorem evs_tail {x : Evt} {l : List Evt} (h : evsB (x :: l) = true) : evsB l = true := by
  rw [evs_iff] at h ⊢
  refine ⟨fun e he => h.1 e (by simp [he]), fun m hm => ?_⟩
  have := h.2 (m + 1) (by simp; omega)
  simpa using this
theorem evs_snoc {l : List Evt} {e : Evt} (h : evsB l = true) (he : eB e = true) (hl : ∀ b ∈ l.getLast?, fB e b = true) : evsB (l ++ [e]) = true := by
  rw [evs_iff] at h ⊢
  refine ⟨fun x hx => ?_, fun m hm => ?_⟩
  · rcases List.mem_append.1 hx with hx | hx
    · exact h.1 x hx
    · rw [List.mem_singleton.1 hx]; exact he
  · simp only [List.length_append, List.length_singleton] at hm
    rcases Nat.lt_or_ge (m + 1) l.length with q | q
    · rw [List.getElem_append_left q, List.getElem_append_left (by omega)]
      exact h.2 m q
    · have hm1 : m + 1 = l.length := by omega
      have e1 : (l ++ [e])[m + 1]'(by simp; omega) = e := by rw [List.getElem_append_right (by omega)]; simp
      have e2 : (l ++ [e])[m]'(by simp; omega) = l[m]'(by omega) := List.getElem_append_left (by omega)
      rw [e1, e2]
      refine hl _ ?_
      rw [List.getLast?_eq_getElem?]
      have : l.length - 1 = m := by omega
      rw [this, List.getElem?_eq_getElem (by omega)]; rfl
theorem evs_nil : evsB [] = true := by rw [evs_iff]; exact ⟨by simp, fun m h => by simp at h⟩
theorem evs_one {e : Evt} (he : eB e = true) : evsB [e] = true := by rw [evs_iff]; exact ⟨by simpa using he, fun m h => by simp at h⟩
/-- a watch as the draws make one -/
theorem watB_iff (w : Wat) : watB w = true ↔ okN w.name = true ∧ (0 ≤ w.seen ∧ w.seen ≤ 1000000) ∧ (w.queue = [] ∨ (w.queue.length ≤ 4 ∧ evsB w.queue = true ∧ w.queue.getLast?.map (·.ver) = some w.seen ∧ lagB w.queue = false)) := by
  unfold watB qB
  simp only [Bool.and_eq_true, Bool.or_eq_true, decide_eq_true_eq, Bool.not_eq_true']
theorem watB_qe {w : Wat} (h : watB w = true) : w.queue.length ≤ 4 ∧ evsB w.queue = true := by
  rcases ((watB_iff w).1 h).2.2 with e | e
  · rw [e]; exact ⟨by simp, evs_nil⟩
  · exact ⟨e.1, e.2.1⟩
theorem lag_snoc {l : List Evt} {e : Evt} (h : lagB l = false) (he : e.lag = false) : lagB (l ++ [e]) = false := by
  unfold lagB at h ⊢
  cases l with
  | nil => simp
  | cons x l => simp at h ⊢; exact ⟨h, he⟩
theorem lag_tail {x : Evt} {l : List Evt} (h : lagB (x :: l) = false) : lagB l = false := by
  unfold lagB at h ⊢
  cases l with
  | nil => simp
  | cons y l => simp at h ⊢; exact h.2
theorem watB_drop {w : Wat} (h : watB w = true) : watB ⟨w.name, w.seen, w.queue.drop 1⟩ = true := by
  rw [watB_iff] at h ⊢
  obtain ⟨h1, h2, h3⟩ := h
  refine ⟨h1, h2, ?_⟩
  match hq : w.queue with
  | [] => exact .inl rfl
  | [x] => exact .inl rfl
  | x :: y :: l =>
    rw [hq] at h3
    rcases h3 with e | ⟨a, b, c, d⟩
    · cases e
    · exact .inr ⟨by simp at a ⊢; omega, evs_tail b, by simpa [List.getLast?_cons_cons] using c, lag_tail d⟩
theorem watB_note {w : Wat} {r : Rf} (h : watB w = true) (hv : r.ver = w.seen + 1) (hs : r.ver ≤ 1000000) (h0 : 0 ≤ r.head) (h1 : r.head ≤ 60) : watB (noteW w r) = true := by
  have hq := watB_qe h
  rw [watB_iff] at h ⊢
  obtain ⟨a, b, c⟩ := h
  refine ⟨a, ⟨by show 0 ≤ r.ver; omega, hs⟩, .inr ?_⟩
  have hx : ∀ g, eB ⟨r.ver, r.head, g⟩ = true := fun g => by unfold eB; simp; omega
  show (addE w.queue ⟨r.ver, r.head, false⟩).length ≤ 4 ∧ evsB (addE w.queue ⟨r.ver, r.head, false⟩) = true ∧ (addE w.queue ⟨r.ver, r.head, false⟩).getLast?.map (·.ver) = some r.ver ∧ lagB (addE w.queue ⟨r.ver, r.head, false⟩) = false
  unfold addE
  split
  · rename_i hl
    refine ⟨by simp; omega, evs_snoc hq.2 (hx _) fun b hb => ?_, by simp, ?_⟩
    · rcases c with e | ⟨_, _, c3, _⟩
      · rw [e] at hb; cases hb
      · rw [Option.mem_def] at hb
        rw [hb] at c3
        simp at c3
        unfold fB; simp; omega
    · rcases c with e | ⟨_, _, _, c4⟩
      · rw [e]; rfl
      · exact lag_snoc c4 rfl
  · exact ⟨by simp, evs_one (hx _), by simp, rfl⟩
/-- the events behind a version -/
def newE (s : Int) (q : List Evt) : List Evt := q.filter fun e => decide (s < e.ver)
structure WInv (start : Int) (w : Wat) (list : List Evt) (room : Bool) : Prop where
  ok : watB w = true
  evs : evsB (list ++ newE start w.queue) = true
  vers : ∀ e ∈ list ++ newE start w.queue, start < e.ver ∧ e.ver ≤ w.seen
  last : (list ++ newE start w.queue = [] ∧ w.seen = start) ∨ ∃ b, (list ++ newE start w.queue).getLast? = some b ∧ b.ver = w.seen
  room : room = true → ∀ i (h : i < (list ++ newE start w.queue).length), (list ++ newE start w.queue)[i].lag = false ∧ (list ++ newE start w.queue)[i].ver = start + 1 + i
theorem newE_nil {s : Int} {q : List Evt} (h : ∀ e ∈ q, e.ver ≤ s) : newE s q = [] := by
  unfold newE; rw [List.filter_eq_nil_iff]; intro e he; have := h e he; simp; omega
theorem evs_lt {l : List Evt} (h : evsB l = true) : ∀ i j, (hij : i < j) → (hj : j < l.length) → (l[i]'(Nat.lt_trans hij hj)).ver < l[j].ver := by
  rw [evs_iff] at h
  intro i j hij
  induction j with
  | zero => omega
  | succ j ih =>
    intro hj
    have h2 := h.2 j hj
    have hlt : (l[j]'(by omega)).ver < l[j + 1].ver := by
      unfold fB at h2
      simp only [Bool.or_eq_true, decide_eq_true_eq, Bool.and_eq_true] at h2
      rcases h2 with e | e <;> omega
    rcases Nat.lt_or_ge i j with q | q
    · exact Int.lt_trans (ih q (by omega)) hlt
    · have : i = j := by omega
      subst this; exact hlt
theorem watB_vers {w : Wat} (h : watB w = true) : ∀ e ∈ w.queue, e.ver ≤ w.seen := by
  intro e he
  have hq := (watB_qe h).2
  obtain ⟨i, hi, rfl⟩ := List.getElem_of_mem he
  rcases ((watB_iff w).1 h).2.2 with e | ⟨_, _, c, _⟩
  · rw [e] at hi; simp at hi
  · rw [List.getLast?_eq_getElem?, List.getElem?_eq_getElem (by omega)] at c
    simp at c
    rcases Nat.lt_or_ge i (w.queue.length - 1) with q | q
    · have := evs_lt hq i (w.queue.length - 1) q (by omega); omega
    · have : i = w.queue.length - 1 := by omega
      subst this; omega
theorem WInv.start {w : Wat} (h : watB w = true) : WInv w.seen w [] true := by
  have e : newE w.seen w.queue = [] := newE_nil (watB_vers h)
  constructor
  · exact h
  · rw [e]; exact evs_nil
  · rw [e]; simp
  · rw [e]; exact .inl ⟨rfl, rfl⟩
  · rw [e]; intro _ i hi; simp at hi
theorem WInv.seen {start : Int} {w : Wat} {list : List Evt} {room : Bool} (h : WInv start w list room) : start ≤ w.seen := by
  rcases h.last with ⟨_, e⟩ | ⟨b, hb, e⟩
  · omega
  · have := h.vers b (List.mem_of_getLast? hb); omega
/-- the first event is taken -/
theorem WInv.next {start : Int} {w : Wat} {list : List Evt} {room : Bool} {e : Evt} {q : List Evt} (h : WInv start w list room) (hq : w.queue = e :: q) : WInv start ⟨w.name, w.seen, w.queue.drop 1⟩ (if start < e.ver then list ++ [e] else list) room := by
  have hk := watB_drop h.ok
  have hL : (if start < e.ver then list ++ [e] else list) ++ newE start q = list ++ newE start w.queue := by
    rw [hq]; unfold newE
    rw [List.filter_cons]
    by_cases hs : start < e.ver
    · rw [if_pos hs, if_pos (by simpa using hs)]; simp
    · rw [if_neg hs, if_neg (by simpa using hs)]
  have hd : w.queue.drop 1 = q := by rw [hq]; rfl
  obtain ⟨h1, h2, h3, h4, h5⟩ := h
  rw [hd] at hk ⊢
  constructor
  · exact hk
  · show evsB ((if start < e.ver then list ++ [e] else list) ++ newE start q) = true
    rw [hL]; exact h2
  · show ∀ x ∈ (if start < e.ver then list ++ [e] else list) ++ newE start q, _
    rw [hL]; exact h3
  · show ((if start < e.ver then list ++ [e] else list) ++ newE start q = [] ∧ _) ∨ ∃ b, ((if start < e.ver then list ++ [e] else list) ++ newE start q).getLast? = some b ∧ _
    rw [hL]; exact h4
  · show room = true → ∀ i (hi : i < ((if start < e.ver then list ++ [e] else list) ++ newE start q).length), ((if start < e.ver then list ++ [e] else list) ++ newE start q)[i].lag = false ∧ _
    intro hr i hi
    have := h5 hr i (by rw [← hL]; exact hi)
    simp only [hL]
    exact this
theorem WInv.empty {start : Int} {w : Wat} {list : List Evt} {room : Bool} (h : WInv start w list room) (hq : w.queue = []) : WInv start ⟨w.name, w.seen, w.queue.drop 1⟩ list room := by
  have : (⟨w.name, w.seen, w.queue.drop 1⟩ : Wat) = w := by cases w; simp at hq ⊢; rw [hq]; rfl
  rw [this]; exact h
/-- a reference is noted -/
theorem WInv.note {start : Int} {w : Wat} {list : List Evt} {room : Bool} {r : Rf} (h : WInv start w list room) (hv : r.ver = w.seen + 1) (hs : r.ver ≤ 1000000) (h0 : 0 ≤ r.head) (h1 : r.head ≤ 60) : WInv start (noteW w r) list (room && decide (w.queue.length < 4)) := by
  have hk := watB_note h.ok hv hs h0 h1
  have hse := h.seen
  have hw0 := ((watB_iff w).1 h.ok).2.1
  have hx : ∀ g, eB ⟨r.ver, r.head, g⟩ = true := fun g => by unfold eB; simp; omega
  obtain ⟨a1, a2, a3, a4, a5⟩ := h
  have hqn : (noteW w r).queue = addE w.queue ⟨r.ver, r.head, false⟩ := rfl
  by_cases hl : w.queue.length < 4
  · have hL : list ++ newE start (noteW w r).queue = (list ++ newE start w.queue) ++ [⟨r.ver, r.head, false⟩] := by
      rw [hqn]; unfold addE; rw [if_pos hl]; unfold newE
      rw [List.filter_append, List.filter_cons, if_pos (by simp; omega)]; simp
    constructor
    · exact hk
    · rw [hL]
      refine evs_snoc a2 (hx _) fun b hb => ?_
      rcases a4 with ⟨e, _⟩ | ⟨b', hb', e⟩
      · rw [e] at hb; cases hb
      · rw [Option.mem_def, hb'] at hb
        cases hb
        unfold fB; simp; omega
    · rw [hL]
      intro e he
      rcases List.mem_append.1 he with he | he
      · have := a3 e he
        refine ⟨this.1, ?_⟩
        show e.ver ≤ r.ver; omega
      · rw [List.mem_singleton.1 he]; exact ⟨by show start < r.ver; omega, Int.le_refl _⟩
    · rw [hL]; exact .inr ⟨⟨r.ver, r.head, false⟩, by simp, rfl⟩
    · intro hr i hi
      rw [Bool.and_eq_true] at hr
      simp only [hL] at hi ⊢
      rw [List.length_append, List.length_singleton] at hi
      rcases Nat.lt_or_ge i (list ++ newE start w.queue).length with q | q
      · rw [List.getElem_append_left q]; exact a5 hr.1 i q
      · have hi' : i = (list ++ newE start w.queue).length := by omega
        have e1 : ((list ++ newE start w.queue) ++ [(⟨r.ver, r.head, false⟩ : Evt)])[i]'(by simp; simp at hi'; omega) = ⟨r.ver, r.head, false⟩ := by rw [List.getElem_append_right (by omega)]; simp
        rw [e1]
        refine ⟨rfl, ?_⟩
        show r.ver = _
        rcases a4 with ⟨e, e2⟩ | ⟨b, hb, e⟩
        · have : i = 0 := by rw [hi', e]; rfl
          rw [this, hv, e2]; simp
        · rw [List.getLast?_eq_getElem?] at hb
          have hpos : 0 < (list ++ newE start w.queue).length := by
            rcases Nat.eq_zero_or_pos (list ++ newE start w.queue).length with z | z
            · rw [List.eq_nil_of_length_eq_zero z] at hb; simp at hb
            · exact z
          have h6 := a5 hr.1 ((list ++ newE start w.queue).length - 1) (by omega)
          rw [List.getElem?_eq_getElem (by omega)] at hb
          injection hb with hb
          rw [hb] at h6
          omega
  · have hL : list ++ newE start (noteW w r).queue = list ++ [⟨r.ver, r.head, true⟩] := by
      rw [hqn]; unfold addE; rw [if_neg hl]; unfold newE
      rw [List.filter_cons, if_pos (by simp; omega)]; rfl
    constructor
    · exact hk
    · rw [hL]
      refine evs_snoc (evs_left a2) (hx _) fun b hb => ?_
      have := a3 b (List.mem_append_left _ (List.mem_of_getLast? hb))
      unfold fB; simp; omega
    · rw [hL]
      intro e he
      rcases List.mem_append.1 he with he | he
      · have := a3 e (List.mem_append_left _ he)
        refine ⟨this.1, ?_⟩
        show e.ver ≤ r.ver; omega
      · rw [List.mem_singleton.1 he]; exact ⟨by show start < r.ver; omega, Int.le_refl _⟩
    · rw [hL]; exact .inr ⟨⟨r.ver, r.head, true⟩, by simp, rfl⟩
    · intro hr
      rw [decide_eq_false hl, Bool.and_false] at hr; cases hr
end Go.Proofs.Ytjhimcddgkoghab.AM
