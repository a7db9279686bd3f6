/- Texts of the machine over data, folded. -/
import Derived.Test.YtmfmclnklpbiaaaKp7
import Derived.Test.YtmfmclnklpbiaaaKp2
import Derived.Test.YtmfmclnklpbiaaaKp9
namespace Go.Proofs.Ytmfmclnklpbiaaa.AM
open Go Go.RowKit
set_option linter.unusedVariables false
set_option linter.unusedSimpArgs false
set_option maxRecDepth 100000
attribute [local irreducible] ACode AOps AOps2 RetG RetM Pre ACG
set_option maxHeartbeats 4000000 in
theorem ac_iOp5 {frm : Int} {nm key : ByteArray} {es : List Edt} (q1 : nm.size ≤ maxLen) (q2 : key.size ≤ maxLen) (q3 : es.length ≤ maxLen) (q4 : ∀ e ∈ es, e.key.size ≤ maxLen) (hn : okN nm = true) : AC Try.prog 112 [.agg [.v (.int .i64 5), .v (.int .i64 frm), .v (.string nm), .v (.string key), .lst 3 (es.map edtA)]] ⟨.v (.bool (opB ⟨5, frm, nm, key, es⟩)), []⟩ := by
  have q3' := q3
  unfold maxLen at q3'
  by_cases h0 : frm = 0
  case neg =>
    rw [show opB _ = false from by simp [opB, hn, h0]]
    as_aux_lemma =>
      refine o_of Th_ok (by kernel_rfl) Try.func112 rfl Try.ntmps112 Try.results112 (by kernel_rfl) rfl ?_
      repeat (first | refine o_put (p_ofld rfl rfl rfl) rfl rfl ?_ | refine o_put (p_old rfl rfl rfl rfl rfl rfl rfl) rfl rfl ?_ | refine o_put (p_mv (by conv => lhs; whnf)) rfl rfl ?_ | refine o_put (p_as (by conv => lhs; whnf)) rfl rfl ?_ | refine o_put (p_asc rfl) rfl rfl ?_ | refine o_put (p_pick (z := .v _) rfl rfl rfl rfl) rfl rfl ?_ | refine o_put (p_not rfl) rfl rfl ?_ | refine qC (ac_nameOK q1 hn) rfl ?_ | refine o_put (p_bin (by first | exact b_eq_t (by omega) | exact b_eq_f (by omega) | exact b_ne_t (by omega) | exact b_ne_f (by omega) | exact b_gt_t (by omega) | exact b_gt_f (by omega) | exact b_seq_t (by assumption) | exact b_seq_f (by assumption) | exact b_sne_t (by assumption) | exact b_sne_f (by assumption)) rfl rfl rfl) rfl rfl ?_ | refine o_put (p_lenm rfl ⟨_, _, _, _, rfl⟩) rfl rfl ?_ | refine o_nil (q_then ?_) | refine c_seq ?_ | refine c_reg ?_ | refine c_dreg (by kernel_rfl) ?_ | refine c_cond_t rfl ?_ | refine c_cond_f rfl ?_ | refine c_block ?_ | refine c_skip ?_ | refine o_skip rfl rfl ?_ | refine q_then ?_ | refine q_thenr ?_ | refine q_thenx ?_ | refine q_blkn ?_ | refine q_blkr ?_ | refine q_blkx ?_ | refine q_blko rfl ?_ | refine c_exit ?_ | refine c_ret ?_ | refine q_ret ?_ | refine q_retn ?_ | refine o_step rfl rfl (p_box (y := .agg _) rfl rfl rfl rfl) (fun e => by cases e) ?_ | refine o_put (p_bin b_eqd rfl rfl rfl) rfl rfl ?_ | refine o_put (p_bin b_seqd rfl rfl rfl) rfl rfl ?_)
      exact ⟨trivial, [], by simp, trivial, ⟨trivial, trivial⟩, trivial, ⟨.inl ⟨rfl, rfl⟩, trivial⟩⟩
  cases hk : okN key with
  | false =>
    rw [show opB _ = false from by simp [opB, hn, h0, hk]]
    as_aux_lemma =>
      refine o_of Th_ok (by kernel_rfl) Try.func112 rfl Try.ntmps112 Try.results112 (by kernel_rfl) rfl ?_
      repeat (first | refine o_put (p_ofld rfl rfl rfl) rfl rfl ?_ | refine o_put (p_old rfl rfl rfl rfl rfl rfl rfl) rfl rfl ?_ | refine o_put (p_mv (by conv => lhs; whnf)) rfl rfl ?_ | refine o_put (p_as (by conv => lhs; whnf)) rfl rfl ?_ | refine o_put (p_asc rfl) rfl rfl ?_ | refine o_put (p_pick (z := .v _) rfl rfl rfl rfl) rfl rfl ?_ | refine o_put (p_not rfl) rfl rfl ?_ | refine qC (ac_nameOK q1 hn) rfl ?_ | refine qC (ac_nameOK q2 hk) rfl ?_ | refine o_put (p_bin (by first | exact b_eq_t (by omega) | exact b_eq_f (by omega) | exact b_ne_t (by omega) | exact b_ne_f (by omega) | exact b_gt_t (by omega) | exact b_gt_f (by omega) | exact b_seq_t (by assumption) | exact b_seq_f (by assumption) | exact b_sne_t (by assumption) | exact b_sne_f (by assumption)) rfl rfl rfl) rfl rfl ?_ | refine o_put (p_lenm rfl ⟨_, _, _, _, rfl⟩) rfl rfl ?_ | refine o_nil (q_then ?_) | refine c_seq ?_ | refine c_reg ?_ | refine c_dreg (by kernel_rfl) ?_ | refine c_cond_t rfl ?_ | refine c_cond_f rfl ?_ | refine c_block ?_ | refine c_skip ?_ | refine o_skip rfl rfl ?_ | refine q_then ?_ | refine q_thenr ?_ | refine q_thenx ?_ | refine q_blkn ?_ | refine q_blkr ?_ | refine q_blkx ?_ | refine q_blko rfl ?_ | refine c_exit ?_ | refine c_ret ?_ | refine q_ret ?_ | refine q_retn ?_ | refine o_step rfl rfl (p_box (y := .agg _) rfl rfl rfl rfl) (fun e => by cases e) ?_ | refine o_put (p_bin b_eqd rfl rfl rfl) rfl rfl ?_ | refine o_put (p_bin b_seqd rfl rfl rfl) rfl rfl ?_)
      exact ⟨trivial, [], by simp, trivial, ⟨trivial, trivial⟩, trivial, ⟨.inl ⟨rfl, rfl⟩, trivial⟩⟩
  | true =>
    by_cases he : es.length = 0
    case neg =>
      rw [show opB _ = false from by simp [opB, hn, h0, hk, he]]
      as_aux_lemma =>
        refine o_of Th_ok (by kernel_rfl) Try.func112 rfl Try.ntmps112 Try.results112 (by kernel_rfl) rfl ?_
        repeat (first | refine o_put (p_ofld rfl rfl rfl) rfl rfl ?_ | refine o_put (p_old rfl rfl rfl rfl rfl rfl rfl) rfl rfl ?_ | refine o_put (p_mv (by conv => lhs; whnf)) rfl rfl ?_ | refine o_put (p_as (by conv => lhs; whnf)) rfl rfl ?_ | refine o_put (p_asc rfl) rfl rfl ?_ | refine o_put (p_pick (z := .v _) rfl rfl rfl rfl) rfl rfl ?_ | refine o_put (p_not rfl) rfl rfl ?_ | refine qC (ac_nameOK q1 hn) rfl ?_ | refine qC (ac_nameOK q2 hk) rfl ?_ | refine o_put (p_bin (by first | exact b_eq_t (by omega) | exact b_eq_f (by omega) | exact b_ne_t (by omega) | exact b_ne_f (by omega) | exact b_gt_t (by omega) | exact b_gt_f (by omega) | exact b_seq_t (by assumption) | exact b_seq_f (by assumption) | exact b_sne_t (by assumption) | exact b_sne_f (by assumption)) rfl rfl rfl) rfl rfl ?_ | refine o_put (p_lenm rfl ⟨_, _, _, _, rfl⟩) rfl rfl ?_ | refine o_nil (q_then ?_) | refine c_seq ?_ | refine c_reg ?_ | refine c_dreg (by kernel_rfl) ?_ | refine c_cond_t rfl ?_ | refine c_cond_f rfl ?_ | refine c_block ?_ | refine c_skip ?_ | refine o_skip rfl rfl ?_ | refine q_then ?_ | refine q_thenr ?_ | refine q_thenx ?_ | refine q_blkn ?_ | refine q_blkr ?_ | refine q_blkx ?_ | refine q_blko rfl ?_ | refine c_exit ?_ | refine c_ret ?_ | refine q_ret ?_ | refine q_retn ?_ | refine o_step rfl rfl (p_box (y := .agg _) rfl rfl rfl rfl) (fun e => by cases e) ?_ | refine o_put (p_bin b_eqd rfl rfl rfl) rfl rfl ?_ | refine o_put (p_bin b_seqd rfl rfl rfl) rfl rfl ?_)
        exact ⟨trivial, [], by simp, trivial, ⟨trivial, trivial⟩, trivial, ⟨.inl ⟨rfl, rfl⟩, trivial⟩⟩
    rw [show opB _ = true from by simp [opB, hn, h0, hk, he]]
    as_aux_lemma =>
      refine o_of Th_ok (by kernel_rfl) Try.func112 rfl Try.ntmps112 Try.results112 (by kernel_rfl) rfl ?_
      repeat (first | refine o_put (p_ofld rfl rfl rfl) rfl rfl ?_ | refine o_put (p_old rfl rfl rfl rfl rfl rfl rfl) rfl rfl ?_ | refine o_put (p_mv (by conv => lhs; whnf)) rfl rfl ?_ | refine o_put (p_as (by conv => lhs; whnf)) rfl rfl ?_ | refine o_put (p_asc rfl) rfl rfl ?_ | refine o_put (p_pick (z := .v _) rfl rfl rfl rfl) rfl rfl ?_ | refine o_put (p_not rfl) rfl rfl ?_ | refine qC (ac_nameOK q1 hn) rfl ?_ | refine qC (ac_nameOK q2 hk) rfl ?_ | refine o_put (p_bin (by first | exact b_eq_t (by omega) | exact b_eq_f (by omega) | exact b_ne_t (by omega) | exact b_ne_f (by omega) | exact b_gt_t (by omega) | exact b_gt_f (by omega) | exact b_seq_t (by assumption) | exact b_seq_f (by assumption) | exact b_sne_t (by assumption) | exact b_sne_f (by assumption)) rfl rfl rfl) rfl rfl ?_ | refine o_put (p_lenm rfl ⟨_, _, _, _, rfl⟩) rfl rfl ?_ | refine o_nil (q_then ?_) | refine c_seq ?_ | refine c_reg ?_ | refine c_dreg (by kernel_rfl) ?_ | refine c_cond_t rfl ?_ | refine c_cond_f rfl ?_ | refine c_block ?_ | refine c_skip ?_ | refine o_skip rfl rfl ?_ | refine q_then ?_ | refine q_thenr ?_ | refine q_thenx ?_ | refine q_blkn ?_ | refine q_blkr ?_ | refine q_blkx ?_ | refine q_blko rfl ?_ | refine c_exit ?_ | refine c_ret ?_ | refine q_ret ?_ | refine q_retn ?_ | refine o_step rfl rfl (p_box (y := .agg _) rfl rfl rfl rfl) (fun e => by cases e) ?_ | refine o_put (p_bin b_eqd rfl rfl rfl) rfl rfl ?_ | refine o_put (p_bin b_seqd rfl rfl rfl) rfl rfl ?_)
      exact ⟨trivial, [], by simp, trivial, ⟨trivial, trivial⟩, trivial, ⟨.inl ⟨rfl, rfl⟩, trivial⟩⟩
set_option maxHeartbeats 4000000 in
theorem ac_iOp2 {frm : Int} {nm key : ByteArray} {es : List Edt} (q1 : nm.size ≤ maxLen) (q2 : key.size ≤ maxLen) (q3 : es.length ≤ maxLen) (q4 : ∀ e ∈ es, e.key.size ≤ maxLen) (hn : okN nm = true) : AC Try.prog 112 [.agg [.v (.int .i64 2), .v (.int .i64 frm), .v (.string nm), .v (.string key), .lst 3 (es.map edtA)]] ⟨.v (.bool (opB ⟨2, frm, nm, key, es⟩)), []⟩ := by
  have q3' := q3
  unfold maxLen at q3'
  by_cases h0 : frm = 0
  case neg =>
    rw [show opB _ = false from by simp [opB, hn, h0]]
    as_aux_lemma =>
      refine o_of Th_ok (by kernel_rfl) Try.func112 rfl Try.ntmps112 Try.results112 (by kernel_rfl) rfl ?_
      repeat (first | refine o_put (p_ofld rfl rfl rfl) rfl rfl ?_ | refine o_put (p_old rfl rfl rfl rfl rfl rfl rfl) rfl rfl ?_ | refine o_put (p_mv (by conv => lhs; whnf)) rfl rfl ?_ | refine o_put (p_as (by conv => lhs; whnf)) rfl rfl ?_ | refine o_put (p_asc rfl) rfl rfl ?_ | refine o_put (p_pick (z := .v _) rfl rfl rfl rfl) rfl rfl ?_ | refine o_put (p_not rfl) rfl rfl ?_ | refine qC (ac_nameOK q1 hn) rfl ?_ | refine o_put (p_bin (by first | exact b_eq_t (by omega) | exact b_eq_f (by omega) | exact b_ne_t (by omega) | exact b_ne_f (by omega) | exact b_gt_t (by omega) | exact b_gt_f (by omega) | exact b_seq_t (by assumption) | exact b_seq_f (by assumption) | exact b_sne_t (by assumption) | exact b_sne_f (by assumption)) rfl rfl rfl) rfl rfl ?_ | refine o_put (p_lenm rfl ⟨_, _, _, _, rfl⟩) rfl rfl ?_ | refine o_nil (q_then ?_) | refine c_seq ?_ | refine c_reg ?_ | refine c_dreg (by kernel_rfl) ?_ | refine c_cond_t rfl ?_ | refine c_cond_f rfl ?_ | refine c_block ?_ | refine c_skip ?_ | refine o_skip rfl rfl ?_ | refine q_then ?_ | refine q_thenr ?_ | refine q_thenx ?_ | refine q_blkn ?_ | refine q_blkr ?_ | refine q_blkx ?_ | refine q_blko rfl ?_ | refine c_exit ?_ | refine c_ret ?_ | refine q_ret ?_ | refine q_retn ?_ | refine o_step rfl rfl (p_box (y := .agg _) rfl rfl rfl rfl) (fun e => by cases e) ?_ | refine o_put (p_bin b_eqd rfl rfl rfl) rfl rfl ?_ | refine o_put (p_bin b_seqd rfl rfl rfl) rfl rfl ?_)
      exact ⟨trivial, [], by simp, trivial, ⟨trivial, trivial⟩, trivial, ⟨.inl ⟨rfl, rfl⟩, trivial⟩⟩
  by_cases hk : key = eB
  case neg =>
    rw [show opB _ = false from by simp [opB, hn, h0, hk]]
    as_aux_lemma =>
      refine o_of Th_ok (by kernel_rfl) Try.func112 rfl Try.ntmps112 Try.results112 (by kernel_rfl) rfl ?_
      repeat (first | refine o_put (p_ofld rfl rfl rfl) rfl rfl ?_ | refine o_put (p_old rfl rfl rfl rfl rfl rfl rfl) rfl rfl ?_ | refine o_put (p_mv (by conv => lhs; whnf)) rfl rfl ?_ | refine o_put (p_as (by conv => lhs; whnf)) rfl rfl ?_ | refine o_put (p_asc rfl) rfl rfl ?_ | refine o_put (p_pick (z := .v _) rfl rfl rfl rfl) rfl rfl ?_ | refine o_put (p_not rfl) rfl rfl ?_ | refine qC (ac_nameOK q1 hn) rfl ?_ | refine o_put (p_bin (by first | exact b_eq_t (by omega) | exact b_eq_f (by omega) | exact b_ne_t (by omega) | exact b_ne_f (by omega) | exact b_gt_t (by omega) | exact b_gt_f (by omega) | exact b_seq_t (by assumption) | exact b_seq_f (by assumption) | exact b_sne_t (by assumption) | exact b_sne_f (by assumption)) rfl rfl rfl) rfl rfl ?_ | refine o_put (p_lenm rfl ⟨_, _, _, _, rfl⟩) rfl rfl ?_ | refine o_nil (q_then ?_) | refine c_seq ?_ | refine c_reg ?_ | refine c_dreg (by kernel_rfl) ?_ | refine c_cond_t rfl ?_ | refine c_cond_f rfl ?_ | refine c_block ?_ | refine c_skip ?_ | refine o_skip rfl rfl ?_ | refine q_then ?_ | refine q_thenr ?_ | refine q_thenx ?_ | refine q_blkn ?_ | refine q_blkr ?_ | refine q_blkx ?_ | refine q_blko rfl ?_ | refine c_exit ?_ | refine c_ret ?_ | refine q_ret ?_ | refine q_retn ?_ | refine o_step rfl rfl (p_box (y := .agg _) rfl rfl rfl rfl) (fun e => by cases e) ?_ | refine o_put (p_bin b_eqd rfl rfl rfl) rfl rfl ?_ | refine o_put (p_bin b_seqd rfl rfl rfl) rfl rfl ?_)
      exact ⟨trivial, [], by simp, trivial, ⟨trivial, trivial⟩, trivial, ⟨.inl ⟨rfl, rfl⟩, trivial⟩⟩
  by_cases he : es.length = 0
  case neg =>
    rw [show opB _ = false from by simp [opB, hn, h0, hk, he]]
    as_aux_lemma =>
      refine o_of Th_ok (by kernel_rfl) Try.func112 rfl Try.ntmps112 Try.results112 (by kernel_rfl) rfl ?_
      repeat (first | refine o_put (p_ofld rfl rfl rfl) rfl rfl ?_ | refine o_put (p_old rfl rfl rfl rfl rfl rfl rfl) rfl rfl ?_ | refine o_put (p_mv (by conv => lhs; whnf)) rfl rfl ?_ | refine o_put (p_as (by conv => lhs; whnf)) rfl rfl ?_ | refine o_put (p_asc rfl) rfl rfl ?_ | refine o_put (p_pick (z := .v _) rfl rfl rfl rfl) rfl rfl ?_ | refine o_put (p_not rfl) rfl rfl ?_ | refine qC (ac_nameOK q1 hn) rfl ?_ | refine o_put (p_bin (by first | exact b_eq_t (by omega) | exact b_eq_f (by omega) | exact b_ne_t (by omega) | exact b_ne_f (by omega) | exact b_gt_t (by omega) | exact b_gt_f (by omega) | exact b_seq_t (by assumption) | exact b_seq_f (by assumption) | exact b_sne_t (by assumption) | exact b_sne_f (by assumption)) rfl rfl rfl) rfl rfl ?_ | refine o_put (p_lenm rfl ⟨_, _, _, _, rfl⟩) rfl rfl ?_ | refine o_nil (q_then ?_) | refine c_seq ?_ | refine c_reg ?_ | refine c_dreg (by kernel_rfl) ?_ | refine c_cond_t rfl ?_ | refine c_cond_f rfl ?_ | refine c_block ?_ | refine c_skip ?_ | refine o_skip rfl rfl ?_ | refine q_then ?_ | refine q_thenr ?_ | refine q_thenx ?_ | refine q_blkn ?_ | refine q_blkr ?_ | refine q_blkx ?_ | refine q_blko rfl ?_ | refine c_exit ?_ | refine c_ret ?_ | refine q_ret ?_ | refine q_retn ?_ | refine o_step rfl rfl (p_box (y := .agg _) rfl rfl rfl rfl) (fun e => by cases e) ?_ | refine o_put (p_bin b_eqd rfl rfl rfl) rfl rfl ?_ | refine o_put (p_bin b_seqd rfl rfl rfl) rfl rfl ?_)
      exact ⟨trivial, [], by simp, trivial, ⟨trivial, trivial⟩, trivial, ⟨.inl ⟨rfl, rfl⟩, trivial⟩⟩
  rw [show opB _ = true from by simp [opB, hn, h0, hk, he]]
  as_aux_lemma =>
    refine o_of Th_ok (by kernel_rfl) Try.func112 rfl Try.ntmps112 Try.results112 (by kernel_rfl) rfl ?_
    repeat (first | refine o_put (p_ofld rfl rfl rfl) rfl rfl ?_ | refine o_put (p_old rfl rfl rfl rfl rfl rfl rfl) rfl rfl ?_ | refine o_put (p_mv (by conv => lhs; whnf)) rfl rfl ?_ | refine o_put (p_as (by conv => lhs; whnf)) rfl rfl ?_ | refine o_put (p_asc rfl) rfl rfl ?_ | refine o_put (p_pick (z := .v _) rfl rfl rfl rfl) rfl rfl ?_ | refine o_put (p_not rfl) rfl rfl ?_ | refine qC (ac_nameOK q1 hn) rfl ?_ | refine o_put (p_bin (by first | exact b_eq_t (by omega) | exact b_eq_f (by omega) | exact b_ne_t (by omega) | exact b_ne_f (by omega) | exact b_gt_t (by omega) | exact b_gt_f (by omega) | exact b_seq_t (by assumption) | exact b_seq_f (by assumption) | exact b_sne_t (by assumption) | exact b_sne_f (by assumption)) rfl rfl rfl) rfl rfl ?_ | refine o_put (p_lenm rfl ⟨_, _, _, _, rfl⟩) rfl rfl ?_ | refine o_nil (q_then ?_) | refine c_seq ?_ | refine c_reg ?_ | refine c_dreg (by kernel_rfl) ?_ | refine c_cond_t rfl ?_ | refine c_cond_f rfl ?_ | refine c_block ?_ | refine c_skip ?_ | refine o_skip rfl rfl ?_ | refine q_then ?_ | refine q_thenr ?_ | refine q_thenx ?_ | refine q_blkn ?_ | refine q_blkr ?_ | refine q_blkx ?_ | refine q_blko rfl ?_ | refine c_exit ?_ | refine c_ret ?_ | refine q_ret ?_ | refine q_retn ?_ | refine o_step rfl rfl (p_box (y := .agg _) rfl rfl rfl rfl) (fun e => by cases e) ?_ | refine o_put (p_bin b_eqd rfl rfl rfl) rfl rfl ?_ | refine o_put (p_bin b_seqd rfl rfl rfl) rfl rfl ?_)
    exact ⟨trivial, [], by simp, trivial, ⟨trivial, trivial⟩, trivial, ⟨.inl ⟨rfl, rfl⟩, trivial⟩⟩
set_option maxHeartbeats 4000000 in
theorem ac_iOp6 {frm : Int} {nm key : ByteArray} {es : List Edt} (q1 : nm.size ≤ maxLen) (q2 : key.size ≤ maxLen) (q3 : es.length ≤ maxLen) (q4 : ∀ e ∈ es, e.key.size ≤ maxLen) (hn : okN nm = true) : AC Try.prog 112 [.agg [.v (.int .i64 6), .v (.int .i64 frm), .v (.string nm), .v (.string key), .lst 3 (es.map edtA)]] ⟨.v (.bool (opB ⟨6, frm, nm, key, es⟩)), []⟩ := by
  have q3' := q3
  unfold maxLen at q3'
  by_cases h0 : frm = 0
  case neg =>
    rw [show opB _ = false from by simp [opB, hn, h0]]
    as_aux_lemma =>
      refine o_of Th_ok (by kernel_rfl) Try.func112 rfl Try.ntmps112 Try.results112 (by kernel_rfl) rfl ?_
      repeat (first | refine o_put (p_ofld rfl rfl rfl) rfl rfl ?_ | refine o_put (p_old rfl rfl rfl rfl rfl rfl rfl) rfl rfl ?_ | refine o_put (p_mv (by conv => lhs; whnf)) rfl rfl ?_ | refine o_put (p_as (by conv => lhs; whnf)) rfl rfl ?_ | refine o_put (p_asc rfl) rfl rfl ?_ | refine o_put (p_pick (z := .v _) rfl rfl rfl rfl) rfl rfl ?_ | refine o_put (p_not rfl) rfl rfl ?_ | refine qC (ac_nameOK q1 hn) rfl ?_ | refine o_put (p_bin (by first | exact b_eq_t (by omega) | exact b_eq_f (by omega) | exact b_ne_t (by omega) | exact b_ne_f (by omega) | exact b_gt_t (by omega) | exact b_gt_f (by omega) | exact b_seq_t (by assumption) | exact b_seq_f (by assumption) | exact b_sne_t (by assumption) | exact b_sne_f (by assumption)) rfl rfl rfl) rfl rfl ?_ | refine o_put (p_lenm rfl ⟨_, _, _, _, rfl⟩) rfl rfl ?_ | refine o_nil (q_then ?_) | refine c_seq ?_ | refine c_reg ?_ | refine c_dreg (by kernel_rfl) ?_ | refine c_cond_t rfl ?_ | refine c_cond_f rfl ?_ | refine c_block ?_ | refine c_skip ?_ | refine o_skip rfl rfl ?_ | refine q_then ?_ | refine q_thenr ?_ | refine q_thenx ?_ | refine q_blkn ?_ | refine q_blkr ?_ | refine q_blkx ?_ | refine q_blko rfl ?_ | refine c_exit ?_ | refine c_ret ?_ | refine q_ret ?_ | refine q_retn ?_ | refine o_step rfl rfl (p_box (y := .agg _) rfl rfl rfl rfl) (fun e => by cases e) ?_ | refine o_put (p_bin b_eqd rfl rfl rfl) rfl rfl ?_ | refine o_put (p_bin b_seqd rfl rfl rfl) rfl rfl ?_)
      exact ⟨trivial, [], by simp, trivial, ⟨trivial, trivial⟩, trivial, ⟨.inl ⟨rfl, rfl⟩, trivial⟩⟩
  by_cases hk : key = eB
  case neg =>
    rw [show opB _ = false from by simp [opB, hn, h0, hk]]
    as_aux_lemma =>
      refine o_of Th_ok (by kernel_rfl) Try.func112 rfl Try.ntmps112 Try.results112 (by kernel_rfl) rfl ?_
      repeat (first | refine o_put (p_ofld rfl rfl rfl) rfl rfl ?_ | refine o_put (p_old rfl rfl rfl rfl rfl rfl rfl) rfl rfl ?_ | refine o_put (p_mv (by conv => lhs; whnf)) rfl rfl ?_ | refine o_put (p_as (by conv => lhs; whnf)) rfl rfl ?_ | refine o_put (p_asc rfl) rfl rfl ?_ | refine o_put (p_pick (z := .v _) rfl rfl rfl rfl) rfl rfl ?_ | refine o_put (p_not rfl) rfl rfl ?_ | refine qC (ac_nameOK q1 hn) rfl ?_ | refine o_put (p_bin (by first | exact b_eq_t (by omega) | exact b_eq_f (by omega) | exact b_ne_t (by omega) | exact b_ne_f (by omega) | exact b_gt_t (by omega) | exact b_gt_f (by omega) | exact b_seq_t (by assumption) | exact b_seq_f (by assumption) | exact b_sne_t (by assumption) | exact b_sne_f (by assumption)) rfl rfl rfl) rfl rfl ?_ | refine o_put (p_lenm rfl ⟨_, _, _, _, rfl⟩) rfl rfl ?_ | refine o_nil (q_then ?_) | refine c_seq ?_ | refine c_reg ?_ | refine c_dreg (by kernel_rfl) ?_ | refine c_cond_t rfl ?_ | refine c_cond_f rfl ?_ | refine c_block ?_ | refine c_skip ?_ | refine o_skip rfl rfl ?_ | refine q_then ?_ | refine q_thenr ?_ | refine q_thenx ?_ | refine q_blkn ?_ | refine q_blkr ?_ | refine q_blkx ?_ | refine q_blko rfl ?_ | refine c_exit ?_ | refine c_ret ?_ | refine q_ret ?_ | refine q_retn ?_ | refine o_step rfl rfl (p_box (y := .agg _) rfl rfl rfl rfl) (fun e => by cases e) ?_ | refine o_put (p_bin b_eqd rfl rfl rfl) rfl rfl ?_ | refine o_put (p_bin b_seqd rfl rfl rfl) rfl rfl ?_)
      exact ⟨trivial, [], by simp, trivial, ⟨trivial, trivial⟩, trivial, ⟨.inl ⟨rfl, rfl⟩, trivial⟩⟩
  by_cases he : es.length = 0
  case neg =>
    rw [show opB _ = false from by simp [opB, hn, h0, hk, he]]
    as_aux_lemma =>
      refine o_of Th_ok (by kernel_rfl) Try.func112 rfl Try.ntmps112 Try.results112 (by kernel_rfl) rfl ?_
      repeat (first | refine o_put (p_ofld rfl rfl rfl) rfl rfl ?_ | refine o_put (p_old rfl rfl rfl rfl rfl rfl rfl) rfl rfl ?_ | refine o_put (p_mv (by conv => lhs; whnf)) rfl rfl ?_ | refine o_put (p_as (by conv => lhs; whnf)) rfl rfl ?_ | refine o_put (p_asc rfl) rfl rfl ?_ | refine o_put (p_pick (z := .v _) rfl rfl rfl rfl) rfl rfl ?_ | refine o_put (p_not rfl) rfl rfl ?_ | refine qC (ac_nameOK q1 hn) rfl ?_ | refine o_put (p_bin (by first | exact b_eq_t (by omega) | exact b_eq_f (by omega) | exact b_ne_t (by omega) | exact b_ne_f (by omega) | exact b_gt_t (by omega) | exact b_gt_f (by omega) | exact b_seq_t (by assumption) | exact b_seq_f (by assumption) | exact b_sne_t (by assumption) | exact b_sne_f (by assumption)) rfl rfl rfl) rfl rfl ?_ | refine o_put (p_lenm rfl ⟨_, _, _, _, rfl⟩) rfl rfl ?_ | refine o_nil (q_then ?_) | refine c_seq ?_ | refine c_reg ?_ | refine c_dreg (by kernel_rfl) ?_ | refine c_cond_t rfl ?_ | refine c_cond_f rfl ?_ | refine c_block ?_ | refine c_skip ?_ | refine o_skip rfl rfl ?_ | refine q_then ?_ | refine q_thenr ?_ | refine q_thenx ?_ | refine q_blkn ?_ | refine q_blkr ?_ | refine q_blkx ?_ | refine q_blko rfl ?_ | refine c_exit ?_ | refine c_ret ?_ | refine q_ret ?_ | refine q_retn ?_ | refine o_step rfl rfl (p_box (y := .agg _) rfl rfl rfl rfl) (fun e => by cases e) ?_ | refine o_put (p_bin b_eqd rfl rfl rfl) rfl rfl ?_ | refine o_put (p_bin b_seqd rfl rfl rfl) rfl rfl ?_)
      exact ⟨trivial, [], by simp, trivial, ⟨trivial, trivial⟩, trivial, ⟨.inl ⟨rfl, rfl⟩, trivial⟩⟩
  rw [show opB _ = true from by simp [opB, hn, h0, hk, he]]
  as_aux_lemma =>
    refine o_of Th_ok (by kernel_rfl) Try.func112 rfl Try.ntmps112 Try.results112 (by kernel_rfl) rfl ?_
    repeat (first | refine o_put (p_ofld rfl rfl rfl) rfl rfl ?_ | refine o_put (p_old rfl rfl rfl rfl rfl rfl rfl) rfl rfl ?_ | refine o_put (p_mv (by conv => lhs; whnf)) rfl rfl ?_ | refine o_put (p_as (by conv => lhs; whnf)) rfl rfl ?_ | refine o_put (p_asc rfl) rfl rfl ?_ | refine o_put (p_pick (z := .v _) rfl rfl rfl rfl) rfl rfl ?_ | refine o_put (p_not rfl) rfl rfl ?_ | refine qC (ac_nameOK q1 hn) rfl ?_ | refine o_put (p_bin (by first | exact b_eq_t (by omega) | exact b_eq_f (by omega) | exact b_ne_t (by omega) | exact b_ne_f (by omega) | exact b_gt_t (by omega) | exact b_gt_f (by omega) | exact b_seq_t (by assumption) | exact b_seq_f (by assumption) | exact b_sne_t (by assumption) | exact b_sne_f (by assumption)) rfl rfl rfl) rfl rfl ?_ | refine o_put (p_lenm rfl ⟨_, _, _, _, rfl⟩) rfl rfl ?_ | refine o_nil (q_then ?_) | refine c_seq ?_ | refine c_reg ?_ | refine c_dreg (by kernel_rfl) ?_ | refine c_cond_t rfl ?_ | refine c_cond_f rfl ?_ | refine c_block ?_ | refine c_skip ?_ | refine o_skip rfl rfl ?_ | refine q_then ?_ | refine q_thenr ?_ | refine q_thenx ?_ | refine q_blkn ?_ | refine q_blkr ?_ | refine q_blkx ?_ | refine q_blko rfl ?_ | refine c_exit ?_ | refine c_ret ?_ | refine q_ret ?_ | refine q_retn ?_ | refine o_step rfl rfl (p_box (y := .agg _) rfl rfl rfl rfl) (fun e => by cases e) ?_ | refine o_put (p_bin b_eqd rfl rfl rfl) rfl rfl ?_ | refine o_put (p_bin b_seqd rfl rfl rfl) rfl rfl ?_)
    exact ⟨trivial, [], by simp, trivial, ⟨trivial, trivial⟩, trivial, ⟨.inl ⟨rfl, rfl⟩, trivial⟩⟩
set_option maxHeartbeats 4000000 in
theorem ac_iOpOK {o : Opr} (ho : o.ok maxLen) : AC Try.prog 112 [oprA o] ⟨.v (.bool (opB o)), []⟩ := by
  obtain ⟨kind, frm, nm, key, es⟩ := o
  obtain ⟨q1, q2, q3, q4⟩ := ho
  simp only at q1 q2 q3 q4
  have q3' := q3
  unfold maxLen at q3'
  show AC Try.prog 112 [.agg [.v (.int .i64 kind), .v (.int .i64 frm), .v (.string nm), .v (.string key), .lst 3 (es.map edtA)]] _

  cases hn : okN nm with
  | false =>
    rw [show opB _ = false from by simp [opB, hn]]
    as_aux_lemma =>
      refine o_of Th_ok (by kernel_rfl) Try.func112 rfl Try.ntmps112 Try.results112 (by kernel_rfl) rfl ?_
      repeat (first | refine o_put (p_ofld rfl rfl rfl) rfl rfl ?_ | refine o_put (p_old rfl rfl rfl rfl rfl rfl rfl) rfl rfl ?_ | refine o_put (p_mv (by conv => lhs; whnf)) rfl rfl ?_ | refine o_put (p_as (by conv => lhs; whnf)) rfl rfl ?_ | refine o_put (p_asc rfl) rfl rfl ?_ | refine o_put (p_pick (z := .v _) rfl rfl rfl rfl) rfl rfl ?_ | refine o_put (p_not rfl) rfl rfl ?_ | refine qC (ac_nameOK q1 hn) rfl ?_ | refine o_put (p_bin (by first | exact b_eq_t (by omega) | exact b_eq_f (by omega) | exact b_ne_t (by omega) | exact b_ne_f (by omega) | exact b_gt_t (by omega) | exact b_gt_f (by omega) | exact b_seq_t (by assumption) | exact b_seq_f (by assumption) | exact b_sne_t (by assumption) | exact b_sne_f (by assumption)) rfl rfl rfl) rfl rfl ?_ | refine o_put (p_lenm rfl ⟨_, _, _, _, rfl⟩) rfl rfl ?_ | refine o_nil (q_then ?_) | refine c_seq ?_ | refine c_reg ?_ | refine c_dreg (by kernel_rfl) ?_ | refine c_cond_t rfl ?_ | refine c_cond_f rfl ?_ | refine c_block ?_ | refine c_skip ?_ | refine o_skip rfl rfl ?_ | refine q_then ?_ | refine q_thenr ?_ | refine q_thenx ?_ | refine q_blkn ?_ | refine q_blkr ?_ | refine q_blkx ?_ | refine q_blko rfl ?_ | refine c_exit ?_ | refine c_ret ?_ | refine q_ret ?_ | refine q_retn ?_ | refine o_step rfl rfl (p_box (y := .agg _) rfl rfl rfl rfl) (fun e => by cases e) ?_ | refine o_put (p_bin b_eqd rfl rfl rfl) rfl rfl ?_ | refine o_put (p_bin b_seqd rfl rfl rfl) rfl rfl ?_)
      exact ⟨trivial, [], by simp, trivial, ⟨trivial, trivial⟩, trivial, ⟨.inl ⟨rfl, rfl⟩, trivial⟩⟩
  | true =>
  by_cases k1 : kind = 1
  case pos =>
    subst k1
    exact ac_iOp1 q1 q2 q3 q4 hn
  by_cases k2 : kind = 2
  case pos =>
    subst k2
    exact ac_iOp2 q1 q2 q3 q4 hn
  by_cases k3 : kind = 3
  case pos =>
    subst k3
    exact ac_iOp3 q1 q2 q3 q4 hn
  by_cases k4 : kind = 4
  case pos =>
    subst k4
    exact ac_iOp4 q1 q2 q3 q4 hn
  by_cases k5 : kind = 5
  case pos =>
    subst k5
    exact ac_iOp5 q1 q2 q3 q4 hn
  by_cases k6 : kind = 6
  case pos =>
    subst k6
    exact ac_iOp6 q1 q2 q3 q4 hn
  rw [show opB _ = false from by simp [opB, hn, k1, k2, k3, k4, k5, k6]]
  as_aux_lemma =>
    refine o_of Th_ok (by kernel_rfl) Try.func112 rfl Try.ntmps112 Try.results112 (by kernel_rfl) rfl ?_
    repeat (first | refine o_put (p_ofld rfl rfl rfl) rfl rfl ?_ | refine o_put (p_old rfl rfl rfl rfl rfl rfl rfl) rfl rfl ?_ | refine o_put (p_mv (by conv => lhs; whnf)) rfl rfl ?_ | refine o_put (p_as (by conv => lhs; whnf)) rfl rfl ?_ | refine o_put (p_asc rfl) rfl rfl ?_ | refine o_put (p_pick (z := .v _) rfl rfl rfl rfl) rfl rfl ?_ | refine o_put (p_not rfl) rfl rfl ?_ | refine qC (ac_nameOK q1 hn) rfl ?_ | refine o_put (p_bin (by first | exact b_eq_t (by omega) | exact b_eq_f (by omega) | exact b_ne_t (by omega) | exact b_ne_f (by omega) | exact b_gt_t (by omega) | exact b_gt_f (by omega) | exact b_seq_t (by assumption) | exact b_seq_f (by assumption) | exact b_sne_t (by assumption) | exact b_sne_f (by assumption)) rfl rfl rfl) rfl rfl ?_ | refine o_put (p_lenm rfl ⟨_, _, _, _, rfl⟩) rfl rfl ?_ | refine o_nil (q_then ?_) | refine c_seq ?_ | refine c_reg ?_ | refine c_dreg (by kernel_rfl) ?_ | refine c_cond_t rfl ?_ | refine c_cond_f rfl ?_ | refine c_block ?_ | refine c_skip ?_ | refine o_skip rfl rfl ?_ | refine q_then ?_ | refine q_thenr ?_ | refine q_thenx ?_ | refine q_blkn ?_ | refine q_blkr ?_ | refine q_blkx ?_ | refine q_blko rfl ?_ | refine c_exit ?_ | refine c_ret ?_ | refine q_ret ?_ | refine q_retn ?_ | refine o_step rfl rfl (p_box (y := .agg _) rfl rfl rfl rfl) (fun e => by cases e) ?_ | refine o_put (p_bin b_eqd rfl rfl rfl) rfl rfl ?_ | refine o_put (p_bin b_seqd rfl rfl rfl) rfl rfl ?_)
    exact ⟨trivial, [], by simp, trivial, ⟨trivial, trivial⟩, trivial, ⟨.inl ⟨rfl, rfl⟩, trivial⟩⟩
end Go.Proofs.Ytmfmclnklpbiaaa.AM
namespace Go.Proofs.Ytmfmclnklpbiaaa.AM
open Go Go.RowKit
set_option linter.unusedVariables false
set_option linter.unusedSimpArgs false
set_option maxRecDepth 100000
attribute [local irreducible] ACode AOps AOps2 RetG RetM Pre ACG
end Go.Proofs.Ytmfmclnklpbiaaa.AM
namespace Go.Proofs.Ytmfmclnklpbiaaa.AM
open Go Go.RowKit
set_option linter.unusedVariables false
set_option linter.unusedSimpArgs false
set_option maxRecDepth 100000
def szH (o : Wsh) (l : Int) : Int := if l - o.name.size < 0 then -1 else if l - o.name.size - o.source.size < 0 then -1 else if l - o.name.size - o.source.size - o.key.size < 0 then -1 else if szL xSz o.edits (l - o.name.size - o.source.size - o.key.size) < 0 then -1 else szL xSz o.edits (l - o.name.size - o.source.size - o.key.size)
def hasS (k : Int) : Bool := decide (k = 1 ∨ k = 4)
def wshB (w : Wsh) : Bool := if w.kind = 1 ∨ w.kind = 4 then okN w.source && opB ⟨w.kind, 1, w.name, w.key, w.edits⟩ else decide (w.source = eB) && opB ⟨w.kind, 0, w.name, w.key, w.edits⟩
theorem szH_le {o : Wsh} {l : Int} (h : 0 ≤ szH o l) (h1 : l ≤ 1048576) : szH o l ≤ l ∧ o.edits.length ≤ 1048576 := by
  unfold szH at h ⊢
  split at h
  · omega
  split at h
  · omega
  split at h
  · omega
  split at h
  · omega
  · rename_i a b c d
    rw [if_neg a, if_neg b, if_neg c, if_neg d]
    obtain ⟨k1, l1, _⟩ := szL_le h
    omega
attribute [local irreducible] ACode AOps AOps2 RetG RetM Pre ACG
theorem ac_szWish {o : Wsh} {l : Int} (ho : o.ok maxLen) (h0 : 0 ≤ l) (h1 : l ≤ 1048576) : AC Try.prog 65 [wshA o, .v (.int .i64 l)] ⟨.v (.int .i64 (szH o l)), []⟩ := by
  obtain ⟨q1, q2, q3, q4, q5⟩ := ho
  have q1' := q1
  have q2' := q2
  have q3' := q3
  unfold maxLen at q1' q2' q3'
  unfold szH
  by_cases h_0 : l - o.name.size < 0
  · rw [if_pos h_0]
    refine r_of Th_ok (by kernel_rfl) Try.func65 rfl Try.ntmps65 Try.results65 (by kernel_rfl) rfl ?_; conv => whnf
    repeat (first | ((first | refine qb rfl rfl ?_ | refine qi (by assumption) rfl rfl ?_ | refine ql rfl ?_ | refine qo rfl rfl ?_ | refine qs rfl rfl ?_ | refine qn rfl rfl ?_); conv => whnf) | (refine r_step (p_ostore rfl rfl rfl rfl rfl (by conv => lhs; whnf) rfl) rfl rfl (fun e => by first | exact .inl rfl | contradiction | exact .inr (.inl (by kernel_rfl))) ?_; conv => whnf))
    exact r_ret1 rfl trivial
  rw [if_neg h_0]
  by_cases h_1 : l - o.name.size - o.source.size < 0
  · rw [if_pos h_1]
    refine r_of Th_ok (by kernel_rfl) Try.func65 rfl Try.ntmps65 Try.results65 (by kernel_rfl) rfl ?_; conv => whnf
    repeat (first | ((first | refine qb rfl rfl ?_ | refine qi (by assumption) rfl rfl ?_ | refine ql rfl ?_ | refine qo rfl rfl ?_ | refine qs rfl rfl ?_ | refine qn rfl rfl ?_); conv => whnf) | (refine r_step (p_ostore rfl rfl rfl rfl rfl (by conv => lhs; whnf) rfl) rfl rfl (fun e => by first | exact .inl rfl | contradiction | exact .inr (.inl (by kernel_rfl))) ?_; conv => whnf))
    exact r_ret1 rfl trivial
  rw [if_neg h_1]
  by_cases h_2 : l - o.name.size - o.source.size - o.key.size < 0
  · rw [if_pos h_2]
    refine r_of Th_ok (by kernel_rfl) Try.func65 rfl Try.ntmps65 Try.results65 (by kernel_rfl) rfl ?_; conv => whnf
    repeat (first | ((first | refine qb rfl rfl ?_ | refine qi (by assumption) rfl rfl ?_ | refine ql rfl ?_ | refine qo rfl rfl ?_ | refine qs rfl rfl ?_ | refine qn rfl rfl ?_); conv => whnf) | (refine r_step (p_ostore rfl rfl rfl rfl rfl (by conv => lhs; whnf) rfl) rfl rfl (fun e => by first | exact .inl rfl | contradiction | exact .inr (.inl (by kernel_rfl))) ?_; conv => whnf))
    exact r_ret1 rfl trivial
  rw [if_neg h_2]
  have hac := ac_szEditS (l := l - o.name.size - o.source.size - o.key.size) q4 q5 (by omega) (by omega)
  by_cases hn : szL xSz o.edits (l - o.name.size - o.source.size - o.key.size) < 0
  · rw [if_pos hn]
    refine r_of Th_ok (by kernel_rfl) Try.func65 rfl Try.ntmps65 Try.results65 (by kernel_rfl) rfl ?_; conv => whnf
    repeat (first | ((first | refine qb rfl rfl ?_ | refine qi (by assumption) rfl rfl ?_ | refine ql rfl ?_ | refine qo rfl rfl ?_ | refine qs rfl rfl ?_ | refine qn rfl rfl ?_); conv => whnf) | (refine qc (hac) rfl ?_; conv => whnf) | (refine r_step (p_ostore rfl rfl rfl rfl rfl (by conv => lhs; whnf) rfl) rfl rfl (fun e => by first | exact .inl rfl | contradiction | exact .inr (.inl (by kernel_rfl))) ?_; conv => whnf))
    exact r_ret1 rfl trivial
  · rw [if_neg hn]
    refine r_of Th_ok (by kernel_rfl) Try.func65 rfl Try.ntmps65 Try.results65 (by kernel_rfl) rfl ?_; conv => whnf
    repeat (first | ((first | refine qb rfl rfl ?_ | refine qi (by assumption) rfl rfl ?_ | refine ql rfl ?_ | refine qo rfl rfl ?_ | refine qs rfl rfl ?_ | refine qn rfl rfl ?_); conv => whnf) | (refine qc (hac) rfl ?_; conv => whnf) | (refine r_step (p_ostore rfl rfl rfl rfl rfl (by conv => lhs; whnf) rfl) rfl rfl (fun e => by first | exact .inl rfl | contradiction | exact .inr (.inl (by kernel_rfl))) ?_; conv => whnf))
    exact r_ret1 rfl trivial
theorem ac_eqWish {o : Wsh} (hm : o.edits.length ≤ maxLen) : AC Try.prog 72 [wshA o, wshA o] ⟨.v (.bool true), []⟩ := by
  refine r_of Th_ok (by kernel_rfl) Try.func72 rfl Try.ntmps72 Try.results72 (by kernel_rfl) rfl ?_; conv => whnf
  repeat (first | (refine r_put (p_bin (b_sne_f rfl) rfl rfl rfl) rfl rfl ?_; conv => whnf) | (refine r_put (p_bin (b_ne_f rfl) rfl rfl rfl) rfl rfl ?_; conv => whnf) | ((first | refine qb rfl rfl ?_ | refine qi (by assumption) rfl rfl ?_ | refine ql rfl ?_ | refine qo rfl rfl ?_ | refine qs rfl rfl ?_ | refine qn rfl rfl ?_); conv => whnf) | (refine qc (ac_eqEditS hm) rfl ?_; conv => whnf))
  exact r_ret1 rfl trivial
theorem ac_hasS {k : Int} : AC Try.prog 111 [.v (.int .i64 k)] ⟨.v (.bool (hasS k)), []⟩ := by
  unfold hasS
  by_cases h1 : k = 1
  · rw [decide_eq_true (by omega : k = 1 ∨ k = 4)]
    refine o_of Th_ok (by kernel_rfl) Try.func111 rfl Try.ntmps111 Try.results111 (by kernel_rfl) rfl ?_
    repeat (first | first | refine o_put (p_mv (by conv => lhs; whnf)) rfl rfl ?_ | refine o_put (p_as (by conv => lhs; whnf)) rfl rfl ?_ | refine o_put (p_asc rfl) rfl rfl ?_ | refine o_put (p_idx (getA _ (by assumption)) rfl rfl rfl) rfl rfl ?_ | refine o_put (p_fld rfl rfl rfl rfl rfl) rfl rfl ?_ | refine o_put (p_ld rfl rfl rfl rfl) rfl rfl ?_ | refine o_put (p_bin (by first | exact b_lt_t (by omega) | exact b_lt_f (by omega) | exact b_le_t (by omega) | exact b_le_f (by omega) | exact b_gt_t (by omega) | exact b_gt_f (by omega) | exact b_ge_t (by omega) | exact b_ge_f (by omega) | exact b_eq_t (by omega) | exact b_eq_f (by omega) | exact b_ne_t (by omega) | exact b_ne_f (by omega) | exact b_sub rfl (by omega) (by omega) | exact b_add rfl (by omega) (by omega)) rfl rfl rfl) rfl rfl ?_ | refine o_put (p_lenm rfl ⟨_, _, _, _, rfl⟩) rfl rfl ?_ | refine o_put (p_lenom rfl rfl ⟨_, _, _, _, rfl⟩) rfl rfl ?_ | refine o_put (p_len (y := .v (.string _)) rfl rfl rfl) rfl rfl ?_ | refine o_put (p_len rfl rfl ⟨_, _, _, _, rfl⟩) rfl rfl ?_ | refine o_put (p_not rfl) rfl rfl ?_ | refine o_put (p_pick (z := .v _) rfl rfl rfl rfl) rfl rfl ?_ | refine o_put (p_pick rfl rfl rfl rfl) rfl rfl ?_ | refine o_put (p_ext rfl (by conv => lhs; whnf)) rfl rfl ?_ | refine o_skip rfl rfl ?_ | refine o_nil (q_then ?_) | refine c_seq ?_ | refine c_reg ?_ | refine c_dreg (by kernel_rfl) ?_ | refine c_cond_t rfl ?_ | refine c_cond_f rfl ?_ | refine c_block ?_ | refine c_skip ?_ | refine q_then ?_ | refine q_thenr ?_ | refine q_thenx ?_ | refine q_blkn ?_ | refine q_blkr ?_ | refine q_blkx ?_ | refine q_blko rfl ?_ | refine c_exit ?_ | refine c_ret ?_ | refine q_ret ?_ | refine q_retn ?_ | refine o_put (p_ofld rfl rfl rfl) rfl rfl ?_ | refine o_put (p_old rfl rfl rfl rfl rfl rfl rfl) rfl rfl ?_ | refine o_put (p_oidx (by simpa using (by assumption)) rfl rfl rfl rfl rfl) rfl rfl ?_ | refine o_step rfl rfl (p_box (y := .agg _) rfl rfl rfl rfl) (fun e => by cases e) ?_ | refine o_step rfl rfl (p_allo rfl rfl) (fun e => by cases e) ?_)
    exact ⟨trivial, [], by simp, trivial, ⟨trivial, trivial⟩, trivial, ⟨.inl ⟨rfl, rfl⟩, trivial⟩⟩
  by_cases h4 : k = 4
  · rw [decide_eq_true (by omega : k = 1 ∨ k = 4)]
    refine o_of Th_ok (by kernel_rfl) Try.func111 rfl Try.ntmps111 Try.results111 (by kernel_rfl) rfl ?_
    repeat (first | first | refine o_put (p_mv (by conv => lhs; whnf)) rfl rfl ?_ | refine o_put (p_as (by conv => lhs; whnf)) rfl rfl ?_ | refine o_put (p_asc rfl) rfl rfl ?_ | refine o_put (p_idx (getA _ (by assumption)) rfl rfl rfl) rfl rfl ?_ | refine o_put (p_fld rfl rfl rfl rfl rfl) rfl rfl ?_ | refine o_put (p_ld rfl rfl rfl rfl) rfl rfl ?_ | refine o_put (p_bin (by first | exact b_lt_t (by omega) | exact b_lt_f (by omega) | exact b_le_t (by omega) | exact b_le_f (by omega) | exact b_gt_t (by omega) | exact b_gt_f (by omega) | exact b_ge_t (by omega) | exact b_ge_f (by omega) | exact b_eq_t (by omega) | exact b_eq_f (by omega) | exact b_ne_t (by omega) | exact b_ne_f (by omega) | exact b_sub rfl (by omega) (by omega) | exact b_add rfl (by omega) (by omega)) rfl rfl rfl) rfl rfl ?_ | refine o_put (p_lenm rfl ⟨_, _, _, _, rfl⟩) rfl rfl ?_ | refine o_put (p_lenom rfl rfl ⟨_, _, _, _, rfl⟩) rfl rfl ?_ | refine o_put (p_len (y := .v (.string _)) rfl rfl rfl) rfl rfl ?_ | refine o_put (p_len rfl rfl ⟨_, _, _, _, rfl⟩) rfl rfl ?_ | refine o_put (p_not rfl) rfl rfl ?_ | refine o_put (p_pick (z := .v _) rfl rfl rfl rfl) rfl rfl ?_ | refine o_put (p_pick rfl rfl rfl rfl) rfl rfl ?_ | refine o_put (p_ext rfl (by conv => lhs; whnf)) rfl rfl ?_ | refine o_skip rfl rfl ?_ | refine o_nil (q_then ?_) | refine c_seq ?_ | refine c_reg ?_ | refine c_dreg (by kernel_rfl) ?_ | refine c_cond_t rfl ?_ | refine c_cond_f rfl ?_ | refine c_block ?_ | refine c_skip ?_ | refine q_then ?_ | refine q_thenr ?_ | refine q_thenx ?_ | refine q_blkn ?_ | refine q_blkr ?_ | refine q_blkx ?_ | refine q_blko rfl ?_ | refine c_exit ?_ | refine c_ret ?_ | refine q_ret ?_ | refine q_retn ?_ | refine o_put (p_ofld rfl rfl rfl) rfl rfl ?_ | refine o_put (p_old rfl rfl rfl rfl rfl rfl rfl) rfl rfl ?_ | refine o_put (p_oidx (by simpa using (by assumption)) rfl rfl rfl rfl rfl) rfl rfl ?_ | refine o_step rfl rfl (p_box (y := .agg _) rfl rfl rfl rfl) (fun e => by cases e) ?_ | refine o_step rfl rfl (p_allo rfl rfl) (fun e => by cases e) ?_)
    exact ⟨trivial, [], by simp, trivial, ⟨trivial, trivial⟩, trivial, ⟨.inl ⟨rfl, rfl⟩, trivial⟩⟩
  rw [decide_eq_false (by omega : ¬ (k = 1 ∨ k = 4))]
  refine o_of Th_ok (by kernel_rfl) Try.func111 rfl Try.ntmps111 Try.results111 (by kernel_rfl) rfl ?_
  repeat (first | first | refine o_put (p_mv (by conv => lhs; whnf)) rfl rfl ?_ | refine o_put (p_as (by conv => lhs; whnf)) rfl rfl ?_ | refine o_put (p_asc rfl) rfl rfl ?_ | refine o_put (p_idx (getA _ (by assumption)) rfl rfl rfl) rfl rfl ?_ | refine o_put (p_fld rfl rfl rfl rfl rfl) rfl rfl ?_ | refine o_put (p_ld rfl rfl rfl rfl) rfl rfl ?_ | refine o_put (p_bin (by first | exact b_lt_t (by omega) | exact b_lt_f (by omega) | exact b_le_t (by omega) | exact b_le_f (by omega) | exact b_gt_t (by omega) | exact b_gt_f (by omega) | exact b_ge_t (by omega) | exact b_ge_f (by omega) | exact b_eq_t (by omega) | exact b_eq_f (by omega) | exact b_ne_t (by omega) | exact b_ne_f (by omega) | exact b_sub rfl (by omega) (by omega) | exact b_add rfl (by omega) (by omega)) rfl rfl rfl) rfl rfl ?_ | refine o_put (p_lenm rfl ⟨_, _, _, _, rfl⟩) rfl rfl ?_ | refine o_put (p_lenom rfl rfl ⟨_, _, _, _, rfl⟩) rfl rfl ?_ | refine o_put (p_len (y := .v (.string _)) rfl rfl rfl) rfl rfl ?_ | refine o_put (p_len rfl rfl ⟨_, _, _, _, rfl⟩) rfl rfl ?_ | refine o_put (p_not rfl) rfl rfl ?_ | refine o_put (p_pick (z := .v _) rfl rfl rfl rfl) rfl rfl ?_ | refine o_put (p_pick rfl rfl rfl rfl) rfl rfl ?_ | refine o_put (p_ext rfl (by conv => lhs; whnf)) rfl rfl ?_ | refine o_skip rfl rfl ?_ | refine o_nil (q_then ?_) | refine c_seq ?_ | refine c_reg ?_ | refine c_dreg (by kernel_rfl) ?_ | refine c_cond_t rfl ?_ | refine c_cond_f rfl ?_ | refine c_block ?_ | refine c_skip ?_ | refine q_then ?_ | refine q_thenr ?_ | refine q_thenx ?_ | refine q_blkn ?_ | refine q_blkr ?_ | refine q_blkx ?_ | refine q_blko rfl ?_ | refine c_exit ?_ | refine c_ret ?_ | refine q_ret ?_ | refine q_retn ?_ | refine o_put (p_ofld rfl rfl rfl) rfl rfl ?_ | refine o_put (p_old rfl rfl rfl rfl rfl rfl rfl) rfl rfl ?_ | refine o_put (p_oidx (by simpa using (by assumption)) rfl rfl rfl rfl rfl) rfl rfl ?_ | refine o_step rfl rfl (p_box (y := .agg _) rfl rfl rfl rfl) (fun e => by cases e) ?_ | refine o_step rfl rfl (p_allo rfl rfl) (fun e => by cases e) ?_)
  exact ⟨trivial, [], by simp, trivial, ⟨trivial, trivial⟩, trivial, ⟨.inl ⟨rfl, rfl⟩, trivial⟩⟩
theorem ac_opOf {o : Wsh} {f : Int} : AC Try.prog 113 [wshA o, .v (.int .i64 f)] ⟨oprA ⟨o.kind, f, o.name, o.key, o.edits⟩, []⟩ := by
  refine r_of Th_ok (by kernel_rfl) Try.func113 rfl Try.ntmps113 Try.results113 (by kernel_rfl) rfl ?_; conv => whnf
  repeat (first | ((first | refine qb rfl rfl ?_ | refine qi (by assumption) rfl rfl ?_ | refine ql rfl ?_ | refine qo rfl rfl ?_ | refine qs rfl rfl ?_ | refine qn rfl rfl ?_); conv => whnf) | (refine r_step (p_ostore rfl rfl rfl rfl rfl (by conv => lhs; whnf) rfl) rfl rfl (fun e => by first | exact .inl rfl | contradiction | exact .inr (.inl (by kernel_rfl))) ?_; conv => whnf))
  exact r_cell1 (x := oprA ⟨o.kind, f, o.name, o.key, o.edits⟩) rfl rfl rfl rfl trivial
theorem ac_iWishOK {o : Wsh} (ho : o.ok maxLen) : AC Try.prog 98 [wshA o] ⟨.v (.bool (wshB o)), []⟩ := by
  obtain ⟨q1, q2, q3, q4, q5⟩ := ho
  have hs := ac_hasS (k := o.kind)
  have o0 := ac_opOf (o := o) (f := 0)
  have o1 := ac_opOf (o := o) (f := 1)
  have b0 := ac_iOpOK (o := ⟨o.kind, 0, o.name, o.key, o.edits⟩) ⟨q1, q3, q4, q5⟩
  have b1 := ac_iOpOK (o := ⟨o.kind, 1, o.name, o.key, o.edits⟩) ⟨q1, q3, q4, q5⟩
  unfold hasS at hs
  unfold wshB
  by_cases hk : o.kind = 1 ∨ o.kind = 4
  · rw [if_pos hk]
    rw [decide_eq_true hk] at hs
    cases hn : okN o.source with
    | false =>
      rw [Bool.false_and]
      refine r_of Th_ok (by kernel_rfl) Try.func98 rfl Try.ntmps98 Try.results98 (by kernel_rfl) rfl ?_; conv => whnf
      repeat (first | ((first | refine qb rfl rfl ?_ | refine qi (by assumption) rfl rfl ?_ | refine ql rfl ?_ | refine qo rfl rfl ?_ | refine qs rfl rfl ?_ | refine qn rfl rfl ?_); conv => whnf) | (refine r_step (p_ostore rfl rfl rfl rfl rfl (by conv => lhs; whnf) rfl) rfl rfl (fun e => by first | exact .inl rfl | contradiction | exact .inr (.inl (by kernel_rfl))) ?_; conv => whnf) | (refine qc (hs) rfl ?_; conv => whnf) | (refine qc (ac_nameOK q2 hn) rfl ?_; conv => whnf))
      exact r_ret1 rfl trivial
    | true =>
      rw [Bool.true_and]
      refine r_of Th_ok (by kernel_rfl) Try.func98 rfl Try.ntmps98 Try.results98 (by kernel_rfl) rfl ?_; conv => whnf
      repeat (first | ((first | refine qb rfl rfl ?_ | refine qi (by assumption) rfl rfl ?_ | refine ql rfl ?_ | refine qo rfl rfl ?_ | refine qs rfl rfl ?_ | refine qn rfl rfl ?_); conv => whnf) | (refine r_step (p_ostore rfl rfl rfl rfl rfl (by conv => lhs; whnf) rfl) rfl rfl (fun e => by first | exact .inl rfl | contradiction | exact .inr (.inl (by kernel_rfl))) ?_; conv => whnf) | (refine qc (hs) rfl ?_; conv => whnf) | (refine qc (ac_nameOK q2 hn) rfl ?_; conv => whnf) | (refine qc (o1) rfl ?_; conv => whnf) | (refine qc (b1) rfl ?_; conv => whnf))
      exact r_ret1 rfl trivial
  · rw [if_neg hk]
    rw [decide_eq_false hk] at hs
    by_cases hs0 : o.source = eB
    · rw [decide_eq_true hs0, Bool.true_and]
      refine r_of Th_ok (by kernel_rfl) Try.func98 rfl Try.ntmps98 Try.results98 (by kernel_rfl) rfl ?_; conv => whnf
      repeat (first | (refine r_put (p_bin (b_seq_t hs0) rfl rfl rfl) rfl rfl ?_; conv => whnf) | ((first | refine qb rfl rfl ?_ | refine qi (by assumption) rfl rfl ?_ | refine ql rfl ?_ | refine qo rfl rfl ?_ | refine qs rfl rfl ?_ | refine qn rfl rfl ?_); conv => whnf) | (refine r_step (p_ostore rfl rfl rfl rfl rfl (by conv => lhs; whnf) rfl) rfl rfl (fun e => by first | exact .inl rfl | contradiction | exact .inr (.inl (by kernel_rfl))) ?_; conv => whnf) | (refine qc (hs) rfl ?_; conv => whnf) | (refine qc (o0) rfl ?_; conv => whnf) | (refine qc (b0) rfl ?_; conv => whnf))
      exact r_ret1 rfl trivial
    · rw [decide_eq_false hs0, Bool.false_and]
      refine r_of Th_ok (by kernel_rfl) Try.func98 rfl Try.ntmps98 Try.results98 (by kernel_rfl) rfl ?_; conv => whnf
      repeat (first | (refine r_put (p_bin (b_seq_f hs0) rfl rfl rfl) rfl rfl ?_; conv => whnf) | ((first | refine qb rfl rfl ?_ | refine qi (by assumption) rfl rfl ?_ | refine ql rfl ?_ | refine qo rfl rfl ?_ | refine qs rfl rfl ?_ | refine qn rfl rfl ?_); conv => whnf) | (refine r_step (p_ostore rfl rfl rfl rfl rfl (by conv => lhs; whnf) rfl) rfl rfl (fun e => by first | exact .inl rfl | contradiction | exact .inr (.inl (by kernel_rfl))) ?_; conv => whnf) | (refine qc (hs) rfl ?_; conv => whnf))
      exact r_ret1 rfl trivial
end Go.Proofs.Ytmfmclnklpbiaaa.AM
namespace Go.Proofs.Ytmfmclnklpbiaaa.AM
open Go Go.RowKit
set_option linter.unusedVariables false
set_option linter.unusedSimpArgs false
set_option maxRecDepth 100000
section
variable {P : Program} {Θ : Tab} {s : St} {ty : TypeId} {pos : String} {after : Array Edge} {g : Option (Nat × Bool)}
/-- a plain datum stored into a row that owns its lists -/
theorem p_ostored {d : Option Tmp} {t : TypeId} {x y : Operand} {l i c : Nat} {p : List Nat} {ob : OB} {q z v : AV} (hq : ob.xs[i]? = some q) (hx : s.ev x = .optr l i p c) (ho : s.hp l = some ob) (hg : getP q p 0 = some (z, c)) (hs : ((Θ.look t).known && (Nat.beq (asz z) (Θ.look t).size && Nat.beq (asz v) (asz z))) = true) (hy : s.ev y = v) (hv : noLst v = true) (hd : ob.e.deep = true := by rfl) (hc : cOK y = true := by rfl) :
    Pre P Θ ⟨d, .store t x y, ty, pos, after, g⟩ s ⟨.any, some fun s' => s'.set l (some ⟨ob.e, ob.sz, ob.xs.set i (setP q p v)⟩)⟩ := by
  simp only [Bool.and_eq_true] at hs
  exact ⟨cOK_spec hc, hs.1, l, i, p, c, ob, hx, ho, .inr (.inr (.inl ⟨q, z, v, hd, hq, hg, Nat.eq_of_beq_eq_true hs.2.1, hy, hv, Nat.eq_of_beq_eq_true hs.2.2, rfl⟩))⟩
theorem p_leno {d : Option Tmp} {x : Operand} {t : TypeId} {l m : Nat} {ob : OB} (hx : s.ev x = .own l) (ho : s.hp l = some ob) (hm : ob.xs.length = m) (hok : ∃ e sz b z, Θ.look t = .slice e sz b z) : Pre P Θ ⟨d, .call ⟨.builtin .len, #[x], #[t]⟩, ty, pos, after, g⟩ s ⟨.v (.int .i64 (m : Int)), none⟩ :=
  p_len hx (by simp [lenA, ho, hm]) hok
/-- a body that writes into a row, of whatever kind -/
theorem r_ofN (hΘ : TabOK P Θ) (hm : P.follows .mixedOrders = true) {f : FuncId} {fn : Func} {c : Code} {n r : Nat} (hf : P.funcs[f]? = some fn) (hb : fn.body = some c) (hnt : fn.ntmps = n) (hrs : fn.results = #[.tmp r]) (hnm : (fn.name == "runtime.NumGoroutine") = false)
    {args : List AV} {ob : OB} {xs' : List AV} {v : Value} (hlen : Nat.ble (args.length + 1) n = true) (h : runC P Θ n c (RetM r ob.e ob.sz xs' v) (St.initM ob args)) (hsh : ob.e.shut = true := by rfl) : ACM P f ob xs' args v := by
  have hw : ∀ (e : ET) (p : Nat → Bool), e.shut = true → withinE p e = true := fun e p h => by cases e <;> first | rfl | cases h
  refine acg_of (rs := [.tmp r]) hΘ hm hf hb hnt (by rw [hrs]) hnm (Nat.le_of_ble_eq_true hlen) rfl ?_ (acode_mono _ _ (fun e s he => ?_) (runC_sound _ _ _ h))
  · simp only [List.all_cons, List.all_nil, hw _ _ hsh]; rfl
  · have key : (s.sl r = .v v ∧ s.hp 0 = some ⟨ob.e, ob.sz, xs'⟩) → Ret Θ [.tmp r] [⟨ob.e, ob.sz, xs'⟩] ⟨.v v, []⟩ s := fun ⟨h1, h2⟩ => ⟨⟨h2, trivial⟩, [], by simp, trivial, ⟨trivial, trivial⟩, trivial, ⟨.inl ⟨h1, rfl⟩, trivial⟩⟩
    cases e with
    | normal => exact key he
    | ret => exact key he
    | exit id => exact he.elim
end
attribute [local irreducible] ACode AOps AOps2 RetG RetM Pre ACG
end Go.Proofs.Ytmfmclnklpbiaaa.AM
namespace Go.Proofs.Ytmfmclnklpbiaaa.AM
open Go Go.RowKit
set_option linter.unusedVariables false
set_option linter.unusedSimpArgs false
set_option maxRecDepth 100000
attribute [local irreducible] ACode AOps AOps2 RetG RetM Pre ACG
end Go.Proofs.Ytmfmclnklpbiaaa.AM
namespace Go.Proofs.Ytmfmclnklpbiaaa.AM
open Go Go.RowKit
set_option linter.unusedVariables false
set_option linter.unusedSimpArgs false
set_option maxRecDepth 100000
abbrev wshZ : Wsh := ⟨0, eB, eB, eB, []⟩
theorem all_wsh (ws : List Wsh) : ∀ x ∈ ws.map wshA, asz x = 5 := fun x hx => by obtain ⟨e, _, rfl⟩ := List.mem_map.1 hx; rfl
theorem noL_edt {l : List Edt} : ∀ x ∈ l.map edtA, noLst x = true := fun x hx => by obtain ⟨_, _, rfl⟩ := List.mem_map.1 hx; rfl
def szHS (ws : List Wsh) (l : Int) : Int := if l - ws.length < 0 then -1 else szG szH ws (l - ws.length)
theorem szGH_drop {es : List Wsh} {k : Nat} {l : Int} (h : k < es.length) : szG szH (es.drop k) l = if szH es[k] l < 0 then -1 else szG szH (es.drop (k + 1)) (szH es[k] l) := by
  rw [List.drop_eq_getElem_cons h, szG]
def totH : List Wsh → Nat
  | [] => 0
  | w :: ws => w.edits.length + totH ws
theorem totH_take : ∀ (l : List Wsh) (i : Nat), totH (l.take i) ≤ totH l
  | [], i => by simp [totH]
  | c :: l, 0 => by simp [totH]
  | c :: l, i + 1 => by have := totH_take l i; simp only [List.take_succ_cons, totH]; omega
theorem totH_at : ∀ (l : List Wsh) (i : Nat) (h : i < l.length), l[i].edits.length ≤ totH l
  | c :: l, 0, h => by simp [totH]
  | c :: l, i + 1, h => by have := totH_at l i (by simpa using h); simp only [List.getElem_cons_succ, totH]; omega
theorem szH_tot {o : Wsh} {l : Int} (h : 0 ≤ szH o l) : szH o l ≤ l - o.edits.length := by
  unfold szH at h ⊢
  split at h
  · omega
  split at h
  · omega
  split at h
  · omega
  split at h
  · omega
  · rename_i a b c d
    rw [if_neg a, if_neg b, if_neg c, if_neg d]
    unfold szL at h ⊢
    split at h
    · omega
    · rename_i hn
      rw [if_neg hn]
      have := (szF_le h).1
      omega
theorem szGH_tot : ∀ {es : List Wsh} {l : Int}, 0 ≤ szG szH es l → (totH es : Int) ≤ l
  | [], l, h => by simp [totH]; exact h
  | c :: cs, l, h => by
    unfold szG at h
    split at h
    · omega
    · rename_i hn
      have h1 := szGH_tot h
      have h2 := szH_tot (by omega : 0 ≤ szH c l)
      simp only [totH]; omega
theorem szHS_tot {cs : List Wsh} {l : Int} (h : 0 ≤ szHS cs l) : (cs.length : Int) + totH cs ≤ l := by
  unfold szHS at h
  split at h
  · omega
  · have := szGH_tot h; omega
def stepW (w : Wsh) (k : Int) : Int := k + 4 + 3 * w.edits.length
def markW (w : Wsh) (k : Int) : Wsh := ⟨k, markB (k + 1), markB (k + 2), markB (k + 3), markedE w.edits.length (k + 4)⟩
def kW : List Wsh → Int → Int
  | [], k => k
  | c :: cs, k => kW cs (stepW c k)
def markedW : List Wsh → Int → List Wsh
  | [], _ => []
  | c :: cs, k => markW c k :: markedW cs (stepW c k)
theorem kW_app : ∀ (a b : List Wsh) (k : Int), kW (a ++ b) k = kW b (kW a k)
  | [], b, k => rfl
  | c :: a, b, k => by simp only [List.cons_append, kW]; exact kW_app a b _
theorem markedW_app : ∀ (a b : List Wsh) (k : Int), markedW (a ++ b) k = markedW a k ++ markedW b (kW a k)
  | [], b, k => rfl
  | c :: a, b, k => by simp only [List.cons_append, markedW, kW]; rw [markedW_app a b _]
theorem markedW_length : ∀ (l : List Wsh) (k : Int), (markedW l k).length = l.length
  | [], _ => rfl
  | c :: l, k => by simp [markedW, markedW_length l _]
theorem markedW_snoc {l : List Wsh} {i : Nat} {k : Int} (h : i < l.length) : markedW (l.take (i + 1)) k = markedW (l.take i) k ++ [markW l[i] (kW (l.take i) k)] := by
  rw [List.take_succ_eq_append_getElem h, markedW_app]; rfl
theorem kW_snoc {l : List Wsh} {i : Nat} {k : Int} (h : i < l.length) : kW (l.take (i + 1)) k = stepW l[i] (kW (l.take i) k) := by
  rw [List.take_succ_eq_append_getElem h, kW_app]; rfl
theorem markedW_get {l : List Wsh} {i : Nat} {k : Int} (h : i < l.length) : (markedW l k)[i]'(by rw [markedW_length]; exact h) = markW l[i] (kW (l.take i) k) := by
  have h1 : l = l.take i ++ l.drop i := (List.take_append_drop i l).symm
  have h2 : markedW l k = markedW (l.take i) k ++ markedW (l.drop i) (kW (l.take i) k) := by rw [← markedW_app, List.take_append_drop]
  have h3 : (markedW (l.take i) k).length = i := by rw [markedW_length, List.length_take]; omega
  have h4 : (markedW l k)[i]? = some (markW l[i] (kW (l.take i) k)) := by
    rw [h2, List.getElem?_append_right (by omega), h3, Nat.sub_self, List.drop_eq_getElem_cons h]; rfl
  obtain ⟨_, h5⟩ := List.getElem?_eq_some_iff.1 h4
  exact h5
theorem kW_le : ∀ (l : List Wsh) (k : Int), k ≤ kW l k ∧ kW l k = k + 4 * l.length + 3 * totH l
  | [], k => by simp [kW, totH]
  | c :: l, k => by
    have := kW_le l (stepW c k)
    simp only [kW, totH, List.length_cons]
    unfold stepW at *
    omega
section
variable {s : St} {Θ : Tab}
theorem cellM {a t l : Nat} {ob : OB} {t' : Option Nat} {xs : List AV} (h1 : s.sl a = .optr l 0 [] 0) (ho : s.hp l = some ob) (hop : ob.e.open_ = false) (hoe : openE ob.e ob.xs 0 = some (.o t' 0 (.mix xs))) (hof : ofO (.mix xs) = some (.mix xs)) (hk : ((Θ.look t).known && (Θ.look t).isAgg && Nat.beq (aszs xs) (Θ.look t).size) = true) : rvA s (.cell a t) = .mix xs ∧ rvOK Θ s (.cell a t) := by
  have hr : rvA s (.cell a t) = .mix xs := by
    simp only [rvA, h1, ho, hop, hoe, cond_false, hof]; rfl
  simp only [Bool.and_eq_true] at hk
  exact ⟨hr, hk.1.1, by rw [hr]; exact hk.1.2.symm, by rw [hr]; exact Nat.eq_of_beq_eq_true hk.2, .inl ⟨l, ob, _, h1, ho, .inr ⟨hop, _, _, hoe, hof⟩⟩⟩
/-- a struct with one own list is the result -/
theorem r_mix1 {a t l L : Nat} {ob q : OB} {t' : Option Nat} {xs ys : List AV} (h1 : s.sl a = .optr l 0 [] 0) (ho : s.hp l = some ob) (hoe : openE ob.e ob.xs 0 = some (.o t' 0 (.mix xs))) (hq : s.hp L = some q) (hm : AV.mix xs = mapA (fun k => [L].getD k 0) (.mix ys)) (hw : (AV.mix ys).within (fun k => Nat.blt k [L].length) = true) (hof : ofO (.mix xs) = some (.mix xs) := by rfl) (hk : ((Θ.look t).known && (Θ.look t).isAgg && Nat.beq (aszs xs) (Θ.look t).size) = true := by rfl) (hop : ob.e.open_ = false := by rfl) (hok : okL L = true := by rfl) (hsh : q.e.shut = true := by rfl) :
    RetQ Θ [.cell a t] ⟨.mix ys, [q]⟩ .ret s := by
  obtain ⟨c1, c2⟩ := cellM (Θ := Θ) (t := t) h1 ho hop hoe hof hk
  exact ⟨trivial, [L], by simp, ⟨⟨hq, hok, hsh⟩, trivial⟩, ⟨c2, trivial⟩, trivial, ⟨by rw [c1]; exact .inl ⟨hm, hw⟩, trivial⟩⟩
end
attribute [local irreducible] ACode AOps AOps2 RetG RetM Pre ACG
theorem ac_szWishS {es : List Wsh} {l : Int} (hm : es.length ≤ maxLen) (hc : ∀ c ∈ es, c.ok maxLen) (h0 : 0 ≤ l) (h1 : l ≤ 1048576) : AC Try.prog 28 [.lst 5 (es.map wshA), .v (.int .i64 l)] ⟨.v (.int .i64 (szHS es l)), []⟩ := by
  unfold maxLen at hm
  by_cases hn : l - es.length < 0
  · rw [szHS, if_pos hn]
    refine r_of Th_ok (by kernel_rfl) Try.func28 rfl Try.ntmps28 Try.results28 (by kernel_rfl) rfl ?_; conv => whnf
    repeat (((first | refine qb rfl rfl ?_ | refine qi (by assumption) rfl rfl ?_ | refine ql rfl ?_ | refine qo rfl rfl ?_ | refine qs rfl rfl ?_ | refine qn rfl rfl ?_); conv => whnf))
    exact r_ret1 rfl trivial
  · rw [szHS, if_neg hn]
    refine r_of Th_ok (by kernel_rfl) Try.func28 rfl Try.ntmps28 Try.results28 (by kernel_rfl) rfl ?_; conv => whnf
    repeat (((first | refine qb rfl rfl ?_ | refine qi (by assumption) rfl rfl ?_ | refine ql rfl ?_ | refine qo rfl rfl ?_ | refine qs rfl rfl ?_ | refine qn rfl rfl ?_); conv => whnf))
    refine r_loop (ι := { p : Nat × Int // p.1 ≤ es.length ∧ 0 ≤ p.2 ∧ p.2 ≤ l ∧ szG szH (es.drop p.1) p.2 = szG szH es (l - es.length) }) (fun p => ⟨[(0, .lst 5 (es.map wshA)), (1, .v (.int .i64 p.1.2)), (5, .v (.int .i64 (p.1.1 : Int)))], []⟩) (fun p => es.length - p.1.1) ⟨(0, l - es.length), by simp, by omega, by omega, rfl⟩ (by refine ⟨?_, ?_⟩ <;> (repeat (first | trivial | exact ⟨rfl, trivial⟩ | refine ⟨rfl, ?_⟩ | refine ⟨.inl ⟨rfl, rfl⟩, ?_⟩ | refine ⟨.inr ⟨_, _, rfl, rfl, rfl, rfl, rfl⟩, ?_⟩))) ?_
    rintro ⟨⟨k, cur⟩, hkl, hc0, hc1, hsz⟩
    simp only at hkl hc0 hc1 hsz ⊢
    conv => whnf
    by_cases hlt : k < es.length
    · have hd := szGH_drop (l := cur) hlt
      rw [hsz] at hd
      have q1 := hc _ (List.getElem_mem hlt)
      by_cases hneg : szH es[k] cur < 0
      · rw [if_pos hneg] at hd
        rw [hd]
        repeat (first | ((first | refine qb rfl rfl ?_ | refine qi (by assumption) rfl rfl ?_ | refine ql rfl ?_ | refine qo rfl rfl ?_ | refine qs rfl rfl ?_ | refine qn rfl rfl ?_); conv => whnf) | (refine qc (ac_szWish q1 hc0 (by omega)) rfl ?_; conv => whnf))
        exact r_ret1 rfl trivial
      · rw [if_neg hneg] at hd
        have hle := (szH_le (by omega : 0 ≤ szH es[k] cur) (by omega)).1
        repeat (first | ((first | refine qb rfl rfl ?_ | refine qi (by assumption) rfl rfl ?_ | refine ql rfl ?_ | refine qo rfl rfl ?_ | refine qs rfl rfl ?_ | refine qn rfl rfl ?_); conv => whnf) | (refine qc (ac_szWish q1 hc0 (by omega)) rfl ?_; conv => whnf))
        exact ⟨⟨(k + 1, szH es[k] cur), by simp; omega, by omega, by omega, hd.symm⟩, by refine ⟨?_, ?_⟩ <;> (repeat (first | trivial | exact ⟨rfl, trivial⟩ | refine ⟨rfl, ?_⟩ | refine ⟨.inl ⟨rfl, rfl⟩, ?_⟩ | refine ⟨.inr ⟨_, _, rfl, rfl, rfl, rfl, rfl⟩, ?_⟩)), by simp; omega⟩
    · have hkk : k = es.length := by omega
      rw [hkk, List.drop_length] at hsz
      rw [← hsz]
      repeat (((first | refine qb rfl rfl ?_ | refine qi (by assumption) rfl rfl ?_ | refine ql rfl ?_ | refine qo rfl rfl ?_ | refine qs rfl rfl ?_ | refine qn rfl rfl ?_); conv => whnf))
      exact r_ret1 rfl trivial
def wshO (w : Wsh) (l : Nat) : List AV := [.v (.int .i64 w.kind), .v (.string w.name), .v (.string w.source), .v (.string w.key), .own l]
theorem ac_toWishM {o : Wsh} (hm : o.edits.length ≤ 1048576) : AC Try.prog 68 [wshA o] ⟨.mix (wshO o 0), [⟨124, 3, o.edits.map edtA⟩]⟩ := by
  refine r_of Th_ok (by kernel_rfl) Try.func68 rfl Try.ntmps68 Try.results68 (by kernel_rfl) rfl ?_; conv => whnf
  repeat (first | ((first | refine qb rfl rfl ?_ | refine qi (by assumption) rfl rfl ?_ | refine ql rfl ?_ | refine qo rfl rfl ?_ | refine qs rfl rfl ?_ | refine qn rfl rfl ?_); conv => whnf) | (refine qc (ac_toEditS hm) rfl ?_; conv => whnf) | (refine r_step (p_ostored rfl rfl rfl rfl rfl (by conv => lhs; whnf) rfl) rfl rfl (fun e => by first | exact .inl rfl | contradiction | exact .inr (.inl (by kernel_rfl))) ?_; conv => whnf) | (refine r_step (p_ostoreo rfl rfl rfl rfl rfl rfl) rfl rfl (fun e => by first | exact .inl rfl | contradiction | exact .inr (.inl (by kernel_rfl))) ?_; conv => whnf))
  exact r_mix1 rfl rfl rfl rfl rfl rfl
theorem ac_toWishSD {l : List Wsh} (hm : l.length ≤ 1048576) (hc : ∀ c ∈ l, c.edits.length ≤ 1048576) : AC Try.prog 30 [.lst 5 (l.map wshA)] ⟨.own 0, [⟨.d 102, 5, l.map wshA⟩]⟩ := by
  refine r_of Th_ok (by kernel_rfl) Try.func30 rfl Try.ntmps30 Try.results30 (by kernel_rfl) rfl ?_; conv => whnf
  repeat (first | ((first | refine qb rfl rfl ?_ | refine qi (by assumption) rfl rfl ?_ | refine ql rfl ?_ | refine qo rfl rfl ?_ | refine qs rfl rfl ?_ | refine qn rfl rfl ?_); conv => whnf) | (refine r_gh (p_make (n := l.length) (by omega) (by omega) (by simp; rfl) (by simp; rfl) rfl rfl) rfl rfl (fun e => by cases e) (Gh.z2d 8 rfl (Gh.done ?_)); conv => whnf))
  have hrow : List.replicate l.length (wshA wshZ) = (l.take 0 ++ List.replicate (l.length - 0) wshZ).map wshA := by simp
  refine r_loop (ι := { k : Nat // k ≤ l.length }) (fun k => ⟨[(0, .lst 5 (l.map wshA)), (3, .own 8), (4, .v (.int .i64 (k.1 : Int)))], [(8, ⟨.d 102, 5, (l.take k.1 ++ List.replicate (l.length - k.1) wshZ).map wshA⟩)]⟩) (fun k => l.length - k.1) ⟨0, Nat.zero_le _⟩ ⟨⟨congrArg (fun x => some (OB.mk _ _ x)) hrow, trivial⟩, .inl ⟨rfl, rfl⟩, .inl ⟨rfl, rfl⟩, .inl ⟨rfl, rfl⟩, trivial⟩ ?_
  rintro ⟨k, hk⟩
  dsimp only
  conv => whnf
  by_cases hlt : k < l.length
  · have q1 := hc _ (List.getElem_mem hlt)
    have hlt2 : k < (l.take k ++ List.replicate (l.length - k) wshZ).length := by simp; omega
    have hset := congrArg (List.map wshA) (fill_set l wshZ k hlt)
    rw [List.map_set] at hset
    have hopn : openE (.d 102) ((l.take k ++ List.replicate (l.length - k) wshZ).map wshA) k = some (.o (some 102) k (wshA (l.take k ++ List.replicate (l.length - k) wshZ)[k])) := by
      simp only [openE, getA wshA hlt2]
    repeat (first | ((first | refine qb rfl rfl ?_ | refine qi (by assumption) rfl rfl ?_ | refine ql rfl ?_ | refine qo rfl rfl ?_ | refine qs rfl rfl ?_ | refine qn rfl rfl ?_); conv => whnf) | (refine qc (ac_toWishM q1) rfl ?_; conv => whnf) | (refine r_put (p_oidx (by simpa using hlt2) rfl rfl rfl rfl rfl) rfl rfl ?_; conv => whnf))
    refine r_gh (p_ostoreo rfl rfl hopn rfl rfl rfl) rfl rfl (fun e => by cases e) (Gh.s2d 21 rfl noL_edt (Gh.fold 8 21 [4] rfl rfl rfl rfl rfl rfl (Gh.shut 8 (z := wshA wshZ) (y' := wshA l[k]) rfl rfl (Gh.done ?_))))
    conv => whnf
    repeat (((first | refine qb rfl rfl ?_ | refine qi (by assumption) rfl rfl ?_ | refine ql rfl ?_ | refine qo rfl rfl ?_ | refine qs rfl rfl ?_ | refine qn rfl rfl ?_); conv => whnf))
    exact ⟨⟨k + 1, hlt⟩, ⟨⟨congrArg (fun x => some (OB.mk _ _ x)) hset, trivial⟩, .inl ⟨rfl, rfl⟩, .inl ⟨rfl, rfl⟩, .inl ⟨rfl, rfl⟩, trivial⟩, by simp; omega⟩
  · have hkk : k = l.length := by omega
    subst hkk
    repeat (((first | refine qb rfl rfl ?_ | refine qi (by assumption) rfl rfl ?_ | refine ql rfl ?_ | refine qo rfl rfl ?_ | refine qs rfl rfl ?_ | refine qn rfl rfl ?_); conv => whnf))
    exact r_own1 rfl (by show some (OB.mk _ _ _) = _; rw [List.take_length, Nat.sub_self, List.replicate_zero, List.append_nil])
theorem ac_eqWishS {l : List Wsh} (hm : l.length ≤ maxLen) (hc : ∀ c ∈ l, c.edits.length ≤ maxLen) : AC Try.prog 33 [.lst 5 (l.map wshA), .lst 5 (l.map wshA)] ⟨.v (.bool true), []⟩ := by
  unfold maxLen at hm
  refine r_of Th_ok (by kernel_rfl) Try.func33 rfl Try.ntmps33 Try.results33 (by kernel_rfl) rfl ?_; conv => whnf
  repeat (((first | refine qb rfl rfl ?_ | refine qi (by assumption) rfl rfl ?_ | refine ql rfl ?_ | refine qo rfl rfl ?_ | refine qs rfl rfl ?_ | refine qn rfl rfl ?_); conv => whnf))
  refine r_loop (ι := { k : Nat // k ≤ l.length }) (fun k => ⟨[(0, .lst 5 (l.map wshA)), (1, .lst 5 (l.map wshA)), (5, .v (.int .i64 (k.1 : Int)))], []⟩) (fun k => l.length - k.1) ⟨0, Nat.zero_le _⟩ (by refine ⟨?_, ?_⟩ <;> (repeat (first | trivial | exact ⟨rfl, trivial⟩ | refine ⟨rfl, ?_⟩ | refine ⟨.inl ⟨rfl, rfl⟩, ?_⟩ | refine ⟨.inr ⟨_, _, rfl, rfl, rfl, rfl, rfl⟩, ?_⟩))) ?_
  rintro ⟨k, hk⟩
  dsimp only
  conv => whnf
  by_cases hlt : k < l.length
  · have q1 := hc _ (List.getElem_mem hlt)
    repeat (((first | refine qb rfl rfl ?_ | refine qi (by assumption) rfl rfl ?_ | refine ql rfl ?_ | refine qo rfl rfl ?_ | refine qs rfl rfl ?_ | refine qn rfl rfl ?_); conv => whnf))
    refine .inl ⟨by kernel_rfl, ?_⟩
    conv => whnf
    repeat (first | ((first | refine qb rfl rfl ?_ | refine qi (by assumption) rfl rfl ?_ | refine ql rfl ?_ | refine qo rfl rfl ?_ | refine qs rfl rfl ?_ | refine qn rfl rfl ?_); conv => whnf) | (refine qc (ac_eqWish q1) rfl ?_; conv => whnf))
    exact ⟨⟨k + 1, hlt⟩, by refine ⟨?_, ?_⟩ <;> (repeat (first | trivial | exact ⟨rfl, trivial⟩ | refine ⟨rfl, ?_⟩ | refine ⟨.inl ⟨rfl, rfl⟩, ?_⟩ | refine ⟨.inr ⟨_, _, rfl, rfl, rfl, rfl, rfl⟩, ?_⟩)), by simp; omega⟩
  · repeat (((first | refine qb rfl rfl ?_ | refine qi (by assumption) rfl rfl ?_ | refine ql rfl ?_ | refine qo rfl rfl ?_ | refine qs rfl rfl ?_ | refine qn rfl rfl ?_); conv => whnf))
    exact r_ret1 rfl trivial
theorem fold_setW {α : Type} (l : List α) (k : Nat) (a b c : α) : ((l.set k a).set k b).set k c = l.set k c := by simp [List.set_set]
set_option maxHeartbeats 2000000 in
theorem ac_markEditU {l : List Edt} {k0 : Int} (hm : l.length ≤ 1048600) (h0 : 0 ≤ k0) (h1 : k0 ≤ 8388608) : ACM Try.prog 73 ⟨.u, 3, l.map edtA⟩ ((markedE l.length k0).map edtA) [.v (.int .i64 k0)] (.int .i64 (k0 + 3 * l.length)) := by
  refine r_ofN Th_ok (by kernel_rfl) Try.func73 rfl Try.ntmps73 Try.results73 (by kernel_rfl) rfl ?_
  conv => whnf
  refine r_loop (ι := { k : Nat // k ≤ l.length }) (fun k => ⟨[(0, .own 0), (1, .v (.int .i64 (k0 + 3 * (k.1 : Int)))), (5, .v (.int .i64 (k.1 : Int)))], [(0, ⟨.u, 3, (markedE k.1 k0 ++ l.drop k.1).map edtA⟩)]⟩) (fun k => l.length - k.1) ⟨0, Nat.zero_le _⟩ (by
    refine ⟨⟨rfl, trivial⟩, .inl ⟨rfl, rfl⟩, .inl ⟨?_, rfl⟩, .inl ⟨rfl, rfl⟩, trivial⟩
    show AV.v (.int .i64 k0) = _
    simp) ?_
  rintro ⟨k, hk⟩
  dsimp only
  have hml : (markedE k k0 ++ l.drop k).length = l.length := by simp [markedE_length]; omega
  have hml2 : ((markedE k k0 ++ l.drop k).map edtA).length = l.length := by rw [List.length_map]; exact hml
  conv => whnf
  by_cases hlt : k < l.length
  · have hlt' : k < (markedE k k0 ++ l.drop k).length := by omega
    have hset : (markedE k k0 ++ l.drop k).set k ⟨markB (k0 + 3 * k), k0 + 3 * k + 1, (k0 + 3 * k + 2) % 3 == 0⟩ = markedE (k + 1) k0 ++ l.drop (k + 1) := by
      rw [List.set_append_right _ _ (by rw [markedE_length]; exact Nat.le_refl _), markedE_length, Nat.sub_self, List.drop_eq_getElem_cons hlt, List.set_cons_zero, markedE_snoc, List.append_assoc]; rfl
    have hset' : ((markedE k k0 ++ l.drop k).map edtA).set k (edtA ⟨markB (k0 + 3 * k), k0 + 3 * k + 1, (k0 + 3 * k + 2) % 3 == 0⟩) = (markedE (k + 1) k0 ++ l.drop (k + 1)).map edtA := by rw [← List.map_set, hset]
    generalize hX : markedE k k0 ++ l.drop k = X at *
    have hX0 : k < (X.map edtA).length := by simpa using hlt'
    by_cases hz : (k0 + 3 * (k : Int) + 1 + 1) % 3 = 0
    · have hdz : ((k0 + 3 * (k : Int) + 2) % 3 == 0) = true := by rw [beq_iff_eq]; omega
      repeat (first | (refine r_put (p_leno (m := l.length) rfl rfl hml2 ⟨_, _, _, _, rfl⟩) rfl rfl ?_; conv => whnf) | ((first | refine qb rfl rfl ?_ | refine qi (by assumption) rfl rfl ?_ | refine ql rfl ?_ | refine qo rfl rfl ?_ | refine qs rfl rfl ?_ | refine qn rfl rfl ?_); conv => whnf) | (refine .inl (And.intro (by kernel_rfl) ?_); conv => whnf) | (refine qc (ac_markText (k := k0 + 3 * (k : Int)) (by omega) (by omega)) rfl ?_; conv => whnf) | (refine r_put (p_bin (b_rem (by omega) (by omega) (by omega) (by omega) rfl) rfl rfl rfl) rfl rfl ?_; conv => whnf) | (refine r_put (p_oidx (by simpa using hlt') rfl rfl rfl rfl rfl) rfl rfl ?_; conv => whnf) | (refine r_step (p_ostored (getA _ hlt') rfl rfl rfl rfl rfl rfl) rfl rfl (fun e => by first | exact .inl rfl | contradiction | exact .inr (.inl (by kernel_rfl))) ?_; conv => whnf) | (refine r_step (p_ostored (set_at (by simpa using hlt')) rfl rfl rfl rfl rfl rfl) rfl rfl (fun e => by first | exact .inl rfl | contradiction | exact .inr (.inl (by kernel_rfl))) ?_; conv => whnf))
      refine ⟨⟨k + 1, hlt⟩, ⟨⟨?_, trivial⟩, .inl ⟨rfl, rfl⟩, .inl ⟨?_, rfl⟩, .inl ⟨rfl, rfl⟩, trivial⟩, by simp; omega⟩
      · refine congrArg (fun x => some (OB.mk _ _ x)) (Eq.trans (fold_setW _ _ _ _ _) (Eq.trans ?_ hset'))
        rw [hdz]; rfl
      · show AV.v (.int .i64 (k0 + 3 * k + 1 + 1 + 1)) = _
        congr 2
        simp; omega
    · have hdz : ((k0 + 3 * (k : Int) + 2) % 3 == 0) = false := by rw [beq_eq_false_iff_ne]; omega
      repeat (first | (refine r_put (p_leno (m := l.length) rfl rfl hml2 ⟨_, _, _, _, rfl⟩) rfl rfl ?_; conv => whnf) | ((first | refine qb rfl rfl ?_ | refine qi (by assumption) rfl rfl ?_ | refine ql rfl ?_ | refine qo rfl rfl ?_ | refine qs rfl rfl ?_ | refine qn rfl rfl ?_); conv => whnf) | (refine .inl (And.intro (by kernel_rfl) ?_); conv => whnf) | (refine qc (ac_markText (k := k0 + 3 * (k : Int)) (by omega) (by omega)) rfl ?_; conv => whnf) | (refine r_put (p_bin (b_rem (by omega) (by omega) (by omega) (by omega) rfl) rfl rfl rfl) rfl rfl ?_; conv => whnf) | (refine r_put (p_oidx (by simpa using hlt') rfl rfl rfl rfl rfl) rfl rfl ?_; conv => whnf) | (refine r_step (p_ostored (getA _ hlt') rfl rfl rfl rfl rfl rfl) rfl rfl (fun e => by first | exact .inl rfl | contradiction | exact .inr (.inl (by kernel_rfl))) ?_; conv => whnf) | (refine r_step (p_ostored (set_at (by simpa using hlt')) rfl rfl rfl rfl rfl rfl) rfl rfl (fun e => by first | exact .inl rfl | contradiction | exact .inr (.inl (by kernel_rfl))) ?_; conv => whnf))
      refine ⟨⟨k + 1, hlt⟩, ⟨⟨?_, trivial⟩, .inl ⟨rfl, rfl⟩, .inl ⟨?_, rfl⟩, .inl ⟨rfl, rfl⟩, trivial⟩, by simp; omega⟩
      · refine congrArg (fun x => some (OB.mk _ _ x)) (Eq.trans (fold_setW _ _ _ _ _) (Eq.trans ?_ hset'))
        rw [hdz]; rfl
      · show AV.v (.int .i64 (k0 + 3 * k + 1 + 1 + 1)) = _
        congr 2
        simp; omega
  · have hkk : k = l.length := by omega
    subst hkk
    repeat (first | (refine r_put (p_leno (m := l.length) rfl rfl hml2 ⟨_, _, _, _, rfl⟩) rfl rfl ?_; conv => whnf) | ((first | refine qb rfl rfl ?_ | refine qi (by assumption) rfl rfl ?_ | refine ql rfl ?_ | refine qo rfl rfl ?_ | refine qs rfl rfl ?_ | refine qn rfl rfl ?_); conv => whnf) | (rw [hml]))
    exact r_retM rfl (by show some (OB.mk _ _ _) = _; simp)
set_option maxHeartbeats 2000000 in
theorem ac_markWishS {l : List Wsh} {k0 : Int} (hm : l.length ≤ 1048600) (ht : totH l ≤ 1048600) (h0 : 0 ≤ k0) (h1 : kW l k0 ≤ 8388608) : ACM Try.prog 34 ⟨.d 102, 5, l.map wshA⟩ ((markedW l k0).map wshA) [.v (.int .i64 k0)] (.int .i64 (kW l k0)) := by
  refine r_ofN Th_ok (by kernel_rfl) Try.func34 rfl Try.ntmps34 Try.results34 (by kernel_rfl) rfl ?_
  conv => whnf
  refine r_loop (ι := { k : Nat // k ≤ l.length }) (fun k => ⟨[(0, .own 0), (1, .v (.int .i64 (kW (l.take k.1) k0))), (5, .v (.int .i64 (k.1 : Int)))], [(0, ⟨.d 102, 5, (markedW (l.take k.1) k0 ++ l.drop k.1).map wshA⟩)]⟩) (fun k => l.length - k.1) ⟨0, Nat.zero_le _⟩ ⟨⟨rfl, trivial⟩, .inl ⟨rfl, rfl⟩, .inl ⟨rfl, rfl⟩, .inl ⟨rfl, rfl⟩, trivial⟩ ?_
  rintro ⟨i, hi⟩
  dsimp only
  have hmt : (markedW (l.take i) k0).length = i := by rw [markedW_length, List.length_take]; omega
  have hml : (markedW (l.take i) k0 ++ l.drop i).length = l.length := by rw [List.length_append, hmt, List.length_drop]; omega
  have hml2 : ((markedW (l.take i) k0 ++ l.drop i).map wshA).length = l.length := by rw [List.length_map]; exact hml
  conv => whnf
  by_cases hlt : i < l.length
  case neg =>
    have hkk : i = l.length := by omega
    subst hkk
    repeat (first | (refine r_put (p_leno (m := l.length) rfl rfl hml2 ⟨_, _, _, _, rfl⟩) rfl rfl ?_; conv => whnf) | ((first | refine qb rfl rfl ?_ | refine qi (by assumption) rfl rfl ?_ | refine ql rfl ?_ | refine qo rfl rfl ?_ | refine qs rfl rfl ?_ | refine qn rfl rfl ?_); conv => whnf))
    exact r_retM (by show AV.v (.int .i64 (kW (l.take l.length) k0)) = _; rw [List.take_length]) (by show some (OB.mk _ _ _) = _; rw [List.take_length, List.drop_length, List.append_nil])
  have hb := kW_le (l.take i) k0
  have hb0 := kW_le l k0
  have hb2 := totH_take l i
  have hb3 := totH_at l i hlt
  have hb4 : kW l k0 = kW (l.drop i) (kW (l.take i) k0) := by rw [← kW_app, List.take_append_drop]
  have hb5 := kW_le (l.drop i) (kW (l.take i) k0)
  have hb6 : kW (l.drop i) (kW (l.take i) k0) = kW (l.drop (i + 1)) (stepW l[i] (kW (l.take i) k0)) := by rw [List.drop_eq_getElem_cons hlt, kW]
  have hb7 := (kW_le (l.drop (i + 1)) (stepW l[i] (kW (l.take i) k0))).1
  have hb8 : stepW l[i] (kW (l.take i) k0) = kW (l.take i) k0 + 4 + 3 * (l[i]).edits.length := rfl
  have hlt' : i < (markedW (l.take i) k0 ++ l.drop i).length := by omega
  have hat : (markedW (l.take i) k0 ++ l.drop i)[i]? = some l[i] := by
    rw [List.getElem?_append_right (by omega), hmt, Nat.sub_self, List.drop_eq_getElem_cons hlt]; rfl
  have hset : ((markedW (l.take i) k0 ++ l.drop i).map wshA).set i (wshA (markW l[i] (kW (l.take i) k0))) = (markedW (l.take (i + 1)) k0 ++ l.drop (i + 1)).map wshA := by
    rw [← List.map_set, List.set_append_right _ _ (by omega), hmt, Nat.sub_self, List.drop_eq_getElem_cons hlt, List.set_cons_zero, markedW_snoc hlt, List.append_assoc]; rfl
  have hstep := kW_snoc (k := k0) hlt
  generalize hX : (markedW (l.take i) k0 ++ l.drop i).map wshA = X at *
  generalize hK : kW (l.take i) k0 = K at *
  have hK0 : 0 ≤ K := by omega
  have hK1 : K + 4 + 3 * (l[i]).edits.length ≤ 8388608 := by omega
  clear hb hb0 hb4 hb5 hb6 hb7 hb8
  have hXl : i < X.length := by omega
  have hXi : X[i]? = some (wshA l[i]) := by rw [← hX, List.getElem?_map, hat]; rfl
  have hX2 : ∀ y : AV, (X.set i y)[i]? = some y := fun y => set_at hXl
  have hopn2 : ∀ y : AV, openE (.d 102) (X.set i y) i = some (.o (some 102) i y) := fun y => by simp only [openE, hX2 y]
  have hml3 : ∀ y : AV, i < (X.set i y).length := fun y => by rw [List.length_set]; exact hXl
  have hs2 : ∀ a b : AV, (X.set i a).set i b = X.set i b := fun a b => by rw [List.set_set]
  repeat (first | (refine r_put (p_leno (m := l.length) rfl rfl hml2 ⟨_, _, _, _, rfl⟩) rfl rfl ?_; conv => whnf) | ((first | refine qb rfl rfl ?_ | refine qi (by assumption) rfl rfl ?_ | refine ql rfl ?_ | refine qo rfl rfl ?_ | refine qs rfl rfl ?_ | refine qn rfl rfl ?_); conv => whnf) | (refine qc (ac_markText (k := K + 1) (by omega) (by omega)) rfl ?_; conv => whnf) | (refine qc (ac_markText (k := K + 1 + 1) (by omega) (by omega)) rfl ?_; conv => whnf) | (refine qc (ac_markText (k := K + 1 + 1 + 1) (by omega) (by omega)) rfl ?_; conv => whnf) | (refine o_put (p_oidx (hml3 _) rfl rfl rfl rfl rfl) rfl rfl (o_put (p_ofld rfl rfl rfl) rfl rfl ?_); refine r_step (p_oldu rfl rfl (hopn2 _) rfl rfl rfl) rfl rfl (fun e => by first | exact .inl rfl | contradiction | exact .inr (.inl (by kernel_rfl))) ?_; conv => whnf) | (refine r_put (p_oidx hXl rfl rfl rfl rfl rfl) rfl rfl ?_; conv => whnf) | (refine r_put (p_oidx (hml3 _) rfl rfl rfl rfl rfl) rfl rfl ?_; conv => whnf) | (refine r_step (p_ostored hXi rfl rfl rfl rfl rfl rfl) rfl rfl (fun e => by first | exact .inl rfl | contradiction | exact .inr (.inl (by kernel_rfl))) ?_; conv => whnf) | (refine r_step (p_ostored (hX2 _) rfl rfl rfl rfl rfl rfl) rfl rfl (fun e => by first | exact .inl rfl | contradiction | exact .inr (.inl (by kernel_rfl))) ?_; simp only [hs2]; conv => whnf))
  refine r_gh (p_callm (ac_markEditU (l := (l[i]).edits) (k0 := K + 1 + 1 + 1 + 1) (by omega) (by omega) (by omega)) rfl rfl rfl rfl rfl rfl rfl) rfl rfl (fun e => by cases e) (Gh.fold 0 48 [4] rfl rfl rfl rfl rfl rfl (Gh.shut 0 (z := wshA wshZ) (y' := wshA ⟨K, markB (K + 1), markB (K + 1 + 1), markB (K + 1 + 1 + 1), markedE (l[i]).edits.length (K + 1 + 1 + 1 + 1)⟩) rfl rfl (Gh.done ?_)))
  conv => whnf
  repeat (((first | refine qb rfl rfl ?_ | refine qi (by assumption) rfl rfl ?_ | refine ql rfl ?_ | refine qo rfl rfl ?_ | refine qs rfl rfl ?_ | refine qn rfl rfl ?_); conv => whnf))
  have e4 : K + 1 + 1 + 1 + 1 = K + 4 := by omega
  have e3 : K + 1 + 1 + 1 = K + 3 := by omega
  have e2 : K + 1 + 1 = K + 2 := by omega
  have hmk : (⟨K, markB (K + 1), markB (K + 1 + 1), markB (K + 1 + 1 + 1), markedE (l[i]).edits.length (K + 1 + 1 + 1 + 1)⟩ : Wsh) = markW l[i] K := by rw [e4, e3, e2]; rfl
  refine ⟨⟨i + 1, hlt⟩, ⟨⟨?_, trivial⟩, .inl ⟨rfl, rfl⟩, .inl ⟨?_, rfl⟩, .inl ⟨rfl, rfl⟩, trivial⟩, by simp; omega⟩
  · rw [← hmk] at hset
    exact congrArg (fun x => some (OB.mk _ _ x)) (Eq.trans (by simp only [hs2]) hset)
  · show AV.v (.int .i64 (K + 1 + 1 + 1 + 1 + 3 * (l[i]).edits.length)) = _
    rw [hstep, e4]; rfl
set_option maxHeartbeats 4000000 in
theorem ac_heldWishS {l : List Wsh} {k0 : Int} (hm : l.length ≤ 1048600) (ht : totH l ≤ 1048600) (h0 : 0 ≤ k0) (h1 : kW l k0 ≤ 8388608) : AC Try.prog 75 [.lst 5 ((markedW l k0).map wshA), .v (.int .i64 k0)] ⟨.v (.int .i64 (kW l k0)), []⟩ := by
  have hml := markedW_length l k0
  refine r_of Th_ok (by kernel_rfl) Try.func75 rfl Try.ntmps75 Try.results75 (by kernel_rfl) rfl ?_; conv => whnf
  refine r_loop (ι := { k : Nat // k ≤ l.length }) (fun k => ⟨[(0, .lst 5 ((markedW l k0).map wshA)), (1, .v (.int .i64 (kW (l.take k.1) k0))), (5, .v (.int .i64 (k.1 : Int)))], []⟩) (fun k => l.length - k.1) ⟨0, Nat.zero_le _⟩ (by refine ⟨?_, ?_⟩ <;> (repeat (first | trivial | exact ⟨rfl, trivial⟩ | refine ⟨rfl, ?_⟩ | refine ⟨.inl ⟨rfl, rfl⟩, ?_⟩ | refine ⟨.inr ⟨_, _, rfl, rfl, rfl, rfl, rfl⟩, ?_⟩))) ?_
  rintro ⟨i, hi⟩
  dsimp only
  conv => whnf
  by_cases hlt : i < l.length
  case neg =>
    have hkk : i = l.length := by omega
    subst hkk
    rw [List.take_length]
    repeat (first | ((first | refine qb rfl rfl ?_ | refine qi (by assumption) rfl rfl ?_ | refine ql rfl ?_ | refine qo rfl rfl ?_ | refine qs rfl rfl ?_ | refine qn rfl rfl ?_); conv => whnf) | (refine .inl (And.intro (by kernel_rfl) ?_); conv => whnf) | (rw [hml]))
    exact r_ret1 rfl trivial
  have hb := kW_le (l.take i) k0
  have hb2 := totH_take l i
  have hb3 := totH_at l i hlt
  have hb4 : kW l k0 = kW (l.drop i) (kW (l.take i) k0) := by rw [← kW_app, List.take_append_drop]
  have hb6 : kW (l.drop i) (kW (l.take i) k0) = kW (l.drop (i + 1)) (stepW l[i] (kW (l.take i) k0)) := by rw [List.drop_eq_getElem_cons hlt, kW]
  have hb7 := (kW_le (l.drop (i + 1)) (stepW l[i] (kW (l.take i) k0))).1
  have hb8 : stepW l[i] (kW (l.take i) k0) = kW (l.take i) k0 + 4 + 3 * (l[i]).edits.length := rfl
  have hstep := kW_snoc (k := k0) hlt
  have hgi : ((markedW l k0).map wshA)[i]? = some (wshA (markW l[i] (kW (l.take i) k0))) := by
    rw [List.getElem?_map, List.getElem?_eq_getElem (by omega), markedW_get hlt]; rfl
  generalize hK : kW (l.take i) k0 = K at *
  have hK0 : 0 ≤ K := by omega
  have hK1 : K + 4 + 3 * (l[i]).edits.length ≤ 8388608 := by omega
  clear hb hb4 hb6 hb7 hb8
  have e4 : K + 1 + 1 + 1 + 1 = K + 4 := by omega
  have e3 : K + 1 + 1 + 1 = K + 3 := by omega
  have e2 : K + 1 + 1 = K + 2 := by omega
  have hmk : markW l[i] K = (⟨K, markB (K + 1), markB (K + 1 + 1), markB (K + 1 + 1 + 1), markedE (l[i]).edits.length (K + 1 + 1 + 1 + 1)⟩ : Wsh) := by rw [e4, e3, e2]; rfl
  rw [hmk] at hgi
  have hh1 := ac_heldEditS (n := (l[i]).edits.length) (k := K + 1 + 1 + 1 + 1) (by omega) (by omega) (by omega)
  repeat (first | (refine r_put (p_idx hgi rfl rfl rfl) rfl rfl ?_; conv => whnf) | (refine r_put (p_bin (b_sne_f rfl) rfl rfl rfl) rfl rfl ?_; conv => whnf) | (refine r_put (p_bin (b_ne_f rfl) rfl rfl rfl) rfl rfl ?_; conv => whnf) | ((first | refine qb rfl rfl ?_ | refine qi (by assumption) rfl rfl ?_ | refine ql rfl ?_ | refine qo rfl rfl ?_ | refine qs rfl rfl ?_ | refine qn rfl rfl ?_); conv => whnf) | (refine .inl (And.intro (by kernel_rfl) ?_); conv => whnf) | (refine qc (ac_markText (k := K + 1) (by omega) (by omega)) rfl ?_; conv => whnf) | (refine qc (ac_markText (k := K + 1 + 1) (by omega) (by omega)) rfl ?_; conv => whnf) | (refine qc (ac_markText (k := K + 1 + 1 + 1) (by omega) (by omega)) rfl ?_; conv => whnf) | (refine qc (hh1) rfl ?_; conv => whnf))
  refine ⟨⟨i + 1, hlt⟩, ⟨trivial, .inl ⟨rfl, rfl⟩, .inl ⟨?_, rfl⟩, .inl ⟨rfl, rfl⟩, trivial⟩, by simp; omega⟩
  show AV.v (.int .i64 (K + 1 + 1 + 1 + 1 + 3 * (l[i]).edits.length)) = _
  rw [hstep, e4]; rfl
end Go.Proofs.Ytmfmclnklpbiaaa.AM
namespace Go.Proofs.Ytmfmclnklpbiaaa
open Go Go.RowKit
set_option linter.unusedVariables false
set_option linter.unusedSimpArgs false
set_option maxHeartbeats 1000000 in
set_option maxRecDepth 100000 in
theorem cloneEdt_any (A : Option Addr) (n c : Nat) (cs : List Value) (w : World) (hr : Rd w 3 A n cs) (h1 : ∀ u ∈ cs, u.oneCell' = true) (hm : n * 32 ≤ 140737488355328) :
    Calls Try.prog 100 #[.slice A n c] w (OwnPostC 124 3 n cs w) := by
  obtain ⟨i0, hi, hz0, hz1, hz2⟩ := info_parts (show (Try.prog.info? 124).map (fun i => (i.zero, i.size, i.bytes)) = some (some (.agg #[.string ByteArray.empty, .int .i64 0, .bool false]), 3, 32) from by kernel_rfl)
  have Hi := Lib.hid hi; clear hi
  have Hz0 := Lib.hid hz0; clear hz0
  have Hz1 := Lib.hid hz1; clear hz1
  have Hz2 := Lib.hid hz2; clear hz2
  cases A with
  | none =>
    have hn : n = 0 := by
      rcases Nat.eq_zero_or_pos n with h | h
      · exact h
      · obtain ⟨b, off, e, _⟩ := hr.2 h; cases e
    subst hn
    have hcs : cs = [] := List.eq_nil_of_length_eq_zero (by have := hr.1; omega)
    subst hcs
    go_enter Try.func100, Try.ntmps100
    go_wp2_with (rw [Lib.run_eql_slice_nil _ 100 124 _ _ _ _ _ Try.underlying100, Result.andThen_ok])
    go_ret
    exact ⟨_, rfl, World.ownsRow_nil _ _ _ _, Below.refl _ _⟩
  | some ad =>
    have hst := Lib.hid (World.ownsRow_made (base := w.heap.size) (e := 124) (size := 3) w #[] 0 (Nat.le_refl _) (by simp) (by simp))
    have hb3 := Lib.hid ((Below.refl w.heap.size w).alloc (Nat.le_refl _) (.cells #[] 124))
    have hrd3 := Lib.hid (hr.below hb3.out (Nat.le_refl _))
    have hbs3 := hb3.out.size
    go_enter Try.func100, Try.ntmps100
    go_wp2_with (first | (rw [Lib.run_eql_slice_nil _ 100 124 _ _ _ _ _ Try.underlying100, Result.andThen_ok]) | (at_builtin; refine wpList_append_rd (w.alloc (.cells #[] 124)) rfl _ _ 100 rfl w.heap.size 124 i0 _ 3 32 Try.underlying100 Hi.out Hz0.out Hz1.out Hz2.out rfl (by decide) (.slice (some ⟨w.heap.size, 0, none⟩) 0 0) 0 [] rfl hst.out (some ad) n c cs rfl hrd3.out h1 (by omega) (by decide) hbs3 ?_; intro v4 w4 hown4 hgrow4; have HO4 := Lib.hid hown4; clear hown4))
    have hb4 := below_grown hb3.out hgrow4 hst.out hbs3 (Nat.le_refl _)
    go_ret
    have ho := HO4.out
    rw [Nat.zero_add, List.nil_append] at ho
    exact ⟨_, rfl, ho, hb4⟩
set_option maxHeartbeats 1000000 in
set_option maxRecDepth 100000 in
theorem cloneWsh_any (A : Option Addr) (n c : Nat) (cs : List Value) (w : World) (hr : Rd w 5 A n cs) (h1 : ∀ u ∈ cs, u.oneCell' = true) (hm : n * 80 ≤ 140737488355328) :
    Calls Try.prog 99 #[.slice A n c] w (OwnPostC 102 5 n cs w) := by
  obtain ⟨i0, hi, hz0, hz1, hz2⟩ := info_parts (show (Try.prog.info? 102).map (fun i => (i.zero, i.size, i.bytes)) = some (some (.agg #[.int .i64 0, .string ByteArray.empty, .string ByteArray.empty, .string ByteArray.empty, .slice none 0 0]), 5, 80) from by kernel_rfl)
  have Hi := Lib.hid hi; clear hi
  have Hz0 := Lib.hid hz0; clear hz0
  have Hz1 := Lib.hid hz1; clear hz1
  have Hz2 := Lib.hid hz2; clear hz2
  cases A with
  | none =>
    have hn : n = 0 := by
      rcases Nat.eq_zero_or_pos n with h | h
      · exact h
      · obtain ⟨b, off, e, _⟩ := hr.2 h; cases e
    subst hn
    have hcs : cs = [] := List.eq_nil_of_length_eq_zero (by have := hr.1; omega)
    subst hcs
    go_enter Try.func99, Try.ntmps99
    go_wp2_with (rw [Lib.run_eql_slice_nil _ 55 102 _ _ _ _ _ Try.underlying55, Result.andThen_ok])
    go_ret
    exact ⟨_, rfl, World.ownsRow_nil _ _ _ _, Below.refl _ _⟩
  | some ad =>
    have hst := Lib.hid (World.ownsRow_made (base := w.heap.size) (e := 102) (size := 5) w #[] 0 (Nat.le_refl _) (by simp) (by simp))
    have hb3 := Lib.hid ((Below.refl w.heap.size w).alloc (Nat.le_refl _) (.cells #[] 102))
    have hrd3 := Lib.hid (hr.below hb3.out (Nat.le_refl _))
    have hbs3 := hb3.out.size
    go_enter Try.func99, Try.ntmps99
    go_wp2_with (first | (rw [Lib.run_eql_slice_nil _ 55 102 _ _ _ _ _ Try.underlying55, Result.andThen_ok]) | (at_builtin; refine wpList_append_rd (w.alloc (.cells #[] 102)) rfl _ _ 55 rfl w.heap.size 102 i0 _ 5 80 Try.underlying55 Hi.out Hz0.out Hz1.out Hz2.out rfl (by decide) (.slice (some ⟨w.heap.size, 0, none⟩) 0 0) 0 [] rfl hst.out (some ad) n c cs rfl hrd3.out h1 (by omega) (by decide) hbs3 ?_; intro v4 w4 hown4 hgrow4; have HO4 := Lib.hid hown4; clear hown4))
    have hb4 := below_grown hb3.out hgrow4 hst.out hbs3 (Nat.le_refl _)
    go_ret
    have ho := HO4.out
    rw [Nat.zero_add, List.nil_append] at ho
    exact ⟨_, rfl, ho, hb4⟩
end Go.Proofs.Ytmfmclnklpbiaaa
namespace Go.Proofs.Ytmfmclnklpbiaaa.AM
open Go Go.RowKit
set_option linter.unusedVariables false
set_option linter.unusedSimpArgs false
section
variable {w : World}
/-- an argument that is a list, its cells -/
theorem arg_lst {S0 : Nat → Prop} {hp B V} (hS : ∀ b, S0 b → b < w.heap.size) {sz : Nat} {xs : List AV} {u : Value} (h : RV S0 w hp B V (.lst sz xs) u) : ∃ A c cs, u = .slice A xs.length c ∧ RL S0 w xs cs ∧ Rd w sz A xs.length cs ∧ xs.length ≤ maxLen := by
  unfold RV at h
  unfold RA at h
  obtain ⟨A, c, e, h1, h2, h3, _, h4⟩ := h
  simp only [List.cons.injEq, and_true] at e
  rcases h4 with h4 | ⟨b, off, us, rfl, hb, hr, hc⟩
  · subst h4
    exact ⟨A, c, [], e, by unfold RL; rfl, ⟨by simp, fun hn => by simp at hn⟩, by simp⟩
  · refine ⟨_, c, us, e, hr, ⟨by rw [RL.size _ _ hr, aszs_const h3], fun hn => ⟨b, off, rfl, hS b hb, hc⟩⟩, by omega⟩
/-- a contract whose result is a row of its own that reads as an argument does -/
theorem ac_ownR {P : Program} {f : FuncId} {args : List AV} {e : TypeId} {sz : Nat} {xs : List AV} (hent : ∀ vs w, (callFunc f vs).run P w = .ok (.enter f vs) w) (ha : ∀ x ∈ xs, asz x = sz) (h0 : 0 < sz)
    (h : ∀ (w : World) (S0 : Nat → Prop) (vs : List Value), (∀ b, S0 b → b < w.heap.size) → RVs S0 w (fun _ => none) (fun _ => 0) (fun _ => undef) args vs → ∃ cs, RL S0 w xs cs ∧ Calls P f vs.toArray w fun en w' => ∃ v, en = .returned v ∧ w'.ownsRow w.heap.size e sz v xs.length cs ∧ Below w.heap.size w w') : AC P f args ⟨.own 0, [⟨.s e, sz, xs⟩]⟩ :=
  ⟨hent, fun w S0 B0 V0 T0 vs hS _ hv => by
    obtain ⟨cs, hr, hc⟩ := h w S0 vs hS (rvs_none (fun _ => rfl) hv)
    exact hc.mono fun en w' ⟨v, he, ho, hb⟩ =>
      ⟨v, S0, fun _ => (v.ownBlock).getD 0, fun _ => v, fun _ => Fa, fun _ => Fa, he, Grown.of hb _, fun _ h => h, fun b hb' => ⟨Nat.lt_of_lt_of_le (hS b hb') hb.size, .inl hb'⟩, by unfold RV; exact ⟨⟨_, rfl⟩, rfl⟩, rows_one (fun g hg => .inl hg) hS ho ha h0 (RL.mono (fun _ h => h) (fun b hb' => hb.block b (hS b hb')) _ _ hr), rows_none (fun _ => rfl), fun l l' ob ob' g _ e => by cases e⟩⟩
end
theorem ent_100 : ∀ vs w, (callFunc 100 vs).run Try.prog w = .ok (.enter 100 vs) w := ent_of Try.func100 (by kernel_rfl) (by kernel_rfl)
theorem ent_99 : ∀ vs w, (callFunc 99 vs).run Try.prog w = .ok (.enter 99 vs) w := ent_of Try.func99 (by kernel_rfl) (by kernel_rfl)
theorem ac_cloneEdt {es : List Edt} (hm : es.length ≤ 1048576) : AC Try.prog 100 [.lst 3 (es.map edtA)] ⟨.own 0, [⟨124, 3, es.map edtA⟩]⟩ :=
  ac_ownR ent_100 (all_edt _) (by omega) fun w S0 vs hS hv => by
    obtain ⟨u, rfl, h1⟩ := rvs1 hv
    obtain ⟨A, c, cs, rfl, hr, hd, _⟩ := arg_lst hS h1
    refine ⟨cs, hr, (cloneEdt_any A _ c cs w hd (RL.one _ _ hr) (by rw [List.length_map]; omega)).mono ?_⟩
    rintro e w' ⟨v, rfl, ho, hb⟩
    exact ⟨v, rfl, ho, hb⟩
theorem ac_cloneWsh {ws : List Wsh} (hm : ws.length ≤ 1048576) : AC Try.prog 99 [.lst 5 (ws.map wshA)] ⟨.own 0, [⟨102, 5, ws.map wshA⟩]⟩ :=
  ac_ownR ent_99 (all_wsh _) (by omega) fun w S0 vs hS hv => by
    obtain ⟨u, rfl, h1⟩ := rvs1 hv
    obtain ⟨A, c, cs, rfl, hr, hd, _⟩ := arg_lst hS h1
    refine ⟨cs, hr, (cloneWsh_any A _ c cs w hd (RL.one _ _ hr) (by rw [List.length_map]; omega)).mono ?_⟩
    rintro e w' ⟨v, rfl, ho, hb⟩
    exact ⟨v, rfl, ho, hb⟩
end Go.Proofs.Ytmfmclnklpbiaaa.AM
