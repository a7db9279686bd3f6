/- Texts of the machine over data, folded. -/
import Derived.Test.YtmfmclnklpbiaaaGreatKp6
import Derived.Test.YtmfmclnklpbiaaaGreatKp10
import Derived.Test.YtmfmclnklpbiaaaGreatKp9
import Derived.Test.YtmfmclnklpbiaaaGreatKp8
namespace Go.Proofs.YtmfmclnklpbiaaaGreat.AM
open Go Go.RowKit
set_option linter.unusedVariables false
set_option linter.unusedSimpArgs false
set_option maxRecDepth 100000
attribute [local irreducible] ACode AOps AOps2 RetG RetM Pre ACG
set_option maxHeartbeats 4000000 in
theorem ac_iOp5 {frm : Int} {nm key : ByteArray} {es : List Edt} (q1 : nm.size ≤ maxLen) (q2 : key.size ≤ maxLen) (q3 : es.length ≤ maxLen) (q4 : ∀ e ∈ es, e.key.size ≤ maxLen) (hn : okN nm = true) : AC Tryz.prog 138 [.agg [.v (.int .i64 5), .v (.int .i64 frm), .v (.string nm), .v (.string key), .lst 3 (es.map edtA)]] ⟨.v (.bool (opB ⟨5, frm, nm, key, es⟩)), []⟩ := by
  have q3' := q3
  unfold maxLen at q3'
  by_cases h0 : frm = 0
  case neg =>
    rw [show opB _ = false from by simp [opB, hn, h0]]
    as_aux_lemma =>
      refine o_of Th_ok (by kernel_rfl) Tryz.func138 rfl Tryz.ntmps138 Tryz.results138 (by kernel_rfl) rfl ?_
      repeat (first | refine o_put (p_ofld rfl rfl rfl) rfl rfl ?_ | refine o_put (p_old rfl rfl rfl rfl rfl rfl rfl) rfl rfl ?_ | refine o_put (p_mv (by conv => lhs; whnf)) rfl rfl ?_ | refine o_put (p_as (by conv => lhs; whnf)) rfl rfl ?_ | refine o_put (p_asc rfl) rfl rfl ?_ | refine o_put (p_pick (z := .v _) rfl rfl rfl rfl) rfl rfl ?_ | refine o_put (p_not rfl) rfl rfl ?_ | refine qC (ac_nameOK q1 hn) rfl ?_ | refine o_put (p_bin (by first | exact b_eq_t (by omega) | exact b_eq_f (by omega) | exact b_ne_t (by omega) | exact b_ne_f (by omega) | exact b_gt_t (by omega) | exact b_gt_f (by omega) | exact b_seq_t (by assumption) | exact b_seq_f (by assumption) | exact b_sne_t (by assumption) | exact b_sne_f (by assumption)) rfl rfl rfl) rfl rfl ?_ | refine o_put (p_lenm rfl ⟨_, _, _, _, rfl⟩) rfl rfl ?_ | refine o_nil (q_then ?_) | refine c_seq ?_ | refine c_reg ?_ | refine c_dreg (by kernel_rfl) ?_ | refine c_cond_t rfl ?_ | refine c_cond_f rfl ?_ | refine c_block ?_ | refine c_skip ?_ | refine o_skip rfl rfl ?_ | refine q_then ?_ | refine q_thenr ?_ | refine q_thenx ?_ | refine q_blkn ?_ | refine q_blkr ?_ | refine q_blkx ?_ | refine q_blko rfl ?_ | refine c_exit ?_ | refine c_ret ?_ | refine q_ret ?_ | refine q_retn ?_ | refine o_step rfl rfl (p_box (y := .agg _) rfl rfl rfl rfl) (fun e => by cases e) ?_ | refine o_put (p_bin b_eqd rfl rfl rfl) rfl rfl ?_ | refine o_put (p_bin b_seqd rfl rfl rfl) rfl rfl ?_)
      exact ⟨trivial, [], by simp, trivial, ⟨trivial, trivial⟩, trivial, ⟨.inl ⟨rfl, rfl⟩, trivial⟩⟩
  cases hk : okN key with
  | false =>
    rw [show opB _ = false from by simp [opB, hn, h0, hk]]
    as_aux_lemma =>
      refine o_of Th_ok (by kernel_rfl) Tryz.func138 rfl Tryz.ntmps138 Tryz.results138 (by kernel_rfl) rfl ?_
      repeat (first | refine o_put (p_ofld rfl rfl rfl) rfl rfl ?_ | refine o_put (p_old rfl rfl rfl rfl rfl rfl rfl) rfl rfl ?_ | refine o_put (p_mv (by conv => lhs; whnf)) rfl rfl ?_ | refine o_put (p_as (by conv => lhs; whnf)) rfl rfl ?_ | refine o_put (p_asc rfl) rfl rfl ?_ | refine o_put (p_pick (z := .v _) rfl rfl rfl rfl) rfl rfl ?_ | refine o_put (p_not rfl) rfl rfl ?_ | refine qC (ac_nameOK q1 hn) rfl ?_ | refine qC (ac_nameOK q2 hk) rfl ?_ | refine o_put (p_bin (by first | exact b_eq_t (by omega) | exact b_eq_f (by omega) | exact b_ne_t (by omega) | exact b_ne_f (by omega) | exact b_gt_t (by omega) | exact b_gt_f (by omega) | exact b_seq_t (by assumption) | exact b_seq_f (by assumption) | exact b_sne_t (by assumption) | exact b_sne_f (by assumption)) rfl rfl rfl) rfl rfl ?_ | refine o_put (p_lenm rfl ⟨_, _, _, _, rfl⟩) rfl rfl ?_ | refine o_nil (q_then ?_) | refine c_seq ?_ | refine c_reg ?_ | refine c_dreg (by kernel_rfl) ?_ | refine c_cond_t rfl ?_ | refine c_cond_f rfl ?_ | refine c_block ?_ | refine c_skip ?_ | refine o_skip rfl rfl ?_ | refine q_then ?_ | refine q_thenr ?_ | refine q_thenx ?_ | refine q_blkn ?_ | refine q_blkr ?_ | refine q_blkx ?_ | refine q_blko rfl ?_ | refine c_exit ?_ | refine c_ret ?_ | refine q_ret ?_ | refine q_retn ?_ | refine o_step rfl rfl (p_box (y := .agg _) rfl rfl rfl rfl) (fun e => by cases e) ?_ | refine o_put (p_bin b_eqd rfl rfl rfl) rfl rfl ?_ | refine o_put (p_bin b_seqd rfl rfl rfl) rfl rfl ?_)
      exact ⟨trivial, [], by simp, trivial, ⟨trivial, trivial⟩, trivial, ⟨.inl ⟨rfl, rfl⟩, trivial⟩⟩
  | true =>
    by_cases he : es.length = 0
    case neg =>
      rw [show opB _ = false from by simp [opB, hn, h0, hk, he]]
      as_aux_lemma =>
        refine o_of Th_ok (by kernel_rfl) Tryz.func138 rfl Tryz.ntmps138 Tryz.results138 (by kernel_rfl) rfl ?_
        repeat (first | refine o_put (p_ofld rfl rfl rfl) rfl rfl ?_ | refine o_put (p_old rfl rfl rfl rfl rfl rfl rfl) rfl rfl ?_ | refine o_put (p_mv (by conv => lhs; whnf)) rfl rfl ?_ | refine o_put (p_as (by conv => lhs; whnf)) rfl rfl ?_ | refine o_put (p_asc rfl) rfl rfl ?_ | refine o_put (p_pick (z := .v _) rfl rfl rfl rfl) rfl rfl ?_ | refine o_put (p_not rfl) rfl rfl ?_ | refine qC (ac_nameOK q1 hn) rfl ?_ | refine qC (ac_nameOK q2 hk) rfl ?_ | refine o_put (p_bin (by first | exact b_eq_t (by omega) | exact b_eq_f (by omega) | exact b_ne_t (by omega) | exact b_ne_f (by omega) | exact b_gt_t (by omega) | exact b_gt_f (by omega) | exact b_seq_t (by assumption) | exact b_seq_f (by assumption) | exact b_sne_t (by assumption) | exact b_sne_f (by assumption)) rfl rfl rfl) rfl rfl ?_ | refine o_put (p_lenm rfl ⟨_, _, _, _, rfl⟩) rfl rfl ?_ | refine o_nil (q_then ?_) | refine c_seq ?_ | refine c_reg ?_ | refine c_dreg (by kernel_rfl) ?_ | refine c_cond_t rfl ?_ | refine c_cond_f rfl ?_ | refine c_block ?_ | refine c_skip ?_ | refine o_skip rfl rfl ?_ | refine q_then ?_ | refine q_thenr ?_ | refine q_thenx ?_ | refine q_blkn ?_ | refine q_blkr ?_ | refine q_blkx ?_ | refine q_blko rfl ?_ | refine c_exit ?_ | refine c_ret ?_ | refine q_ret ?_ | refine q_retn ?_ | refine o_step rfl rfl (p_box (y := .agg _) rfl rfl rfl rfl) (fun e => by cases e) ?_ | refine o_put (p_bin b_eqd rfl rfl rfl) rfl rfl ?_ | refine o_put (p_bin b_seqd rfl rfl rfl) rfl rfl ?_)
        exact ⟨trivial, [], by simp, trivial, ⟨trivial, trivial⟩, trivial, ⟨.inl ⟨rfl, rfl⟩, trivial⟩⟩
    rw [show opB _ = true from by simp [opB, hn, h0, hk, he]]
    as_aux_lemma =>
      refine o_of Th_ok (by kernel_rfl) Tryz.func138 rfl Tryz.ntmps138 Tryz.results138 (by kernel_rfl) rfl ?_
      repeat (first | refine o_put (p_ofld rfl rfl rfl) rfl rfl ?_ | refine o_put (p_old rfl rfl rfl rfl rfl rfl rfl) rfl rfl ?_ | refine o_put (p_mv (by conv => lhs; whnf)) rfl rfl ?_ | refine o_put (p_as (by conv => lhs; whnf)) rfl rfl ?_ | refine o_put (p_asc rfl) rfl rfl ?_ | refine o_put (p_pick (z := .v _) rfl rfl rfl rfl) rfl rfl ?_ | refine o_put (p_not rfl) rfl rfl ?_ | refine qC (ac_nameOK q1 hn) rfl ?_ | refine qC (ac_nameOK q2 hk) rfl ?_ | refine o_put (p_bin (by first | exact b_eq_t (by omega) | exact b_eq_f (by omega) | exact b_ne_t (by omega) | exact b_ne_f (by omega) | exact b_gt_t (by omega) | exact b_gt_f (by omega) | exact b_seq_t (by assumption) | exact b_seq_f (by assumption) | exact b_sne_t (by assumption) | exact b_sne_f (by assumption)) rfl rfl rfl) rfl rfl ?_ | refine o_put (p_lenm rfl ⟨_, _, _, _, rfl⟩) rfl rfl ?_ | refine o_nil (q_then ?_) | refine c_seq ?_ | refine c_reg ?_ | refine c_dreg (by kernel_rfl) ?_ | refine c_cond_t rfl ?_ | refine c_cond_f rfl ?_ | refine c_block ?_ | refine c_skip ?_ | refine o_skip rfl rfl ?_ | refine q_then ?_ | refine q_thenr ?_ | refine q_thenx ?_ | refine q_blkn ?_ | refine q_blkr ?_ | refine q_blkx ?_ | refine q_blko rfl ?_ | refine c_exit ?_ | refine c_ret ?_ | refine q_ret ?_ | refine q_retn ?_ | refine o_step rfl rfl (p_box (y := .agg _) rfl rfl rfl rfl) (fun e => by cases e) ?_ | refine o_put (p_bin b_eqd rfl rfl rfl) rfl rfl ?_ | refine o_put (p_bin b_seqd rfl rfl rfl) rfl rfl ?_)
      exact ⟨trivial, [], by simp, trivial, ⟨trivial, trivial⟩, trivial, ⟨.inl ⟨rfl, rfl⟩, trivial⟩⟩
set_option maxHeartbeats 4000000 in
theorem ac_iOp2 {frm : Int} {nm key : ByteArray} {es : List Edt} (q1 : nm.size ≤ maxLen) (q2 : key.size ≤ maxLen) (q3 : es.length ≤ maxLen) (q4 : ∀ e ∈ es, e.key.size ≤ maxLen) (hn : okN nm = true) : AC Tryz.prog 138 [.agg [.v (.int .i64 2), .v (.int .i64 frm), .v (.string nm), .v (.string key), .lst 3 (es.map edtA)]] ⟨.v (.bool (opB ⟨2, frm, nm, key, es⟩)), []⟩ := by
  have q3' := q3
  unfold maxLen at q3'
  by_cases h0 : frm = 0
  case neg =>
    rw [show opB _ = false from by simp [opB, hn, h0]]
    as_aux_lemma =>
      refine o_of Th_ok (by kernel_rfl) Tryz.func138 rfl Tryz.ntmps138 Tryz.results138 (by kernel_rfl) rfl ?_
      repeat (first | refine o_put (p_ofld rfl rfl rfl) rfl rfl ?_ | refine o_put (p_old rfl rfl rfl rfl rfl rfl rfl) rfl rfl ?_ | refine o_put (p_mv (by conv => lhs; whnf)) rfl rfl ?_ | refine o_put (p_as (by conv => lhs; whnf)) rfl rfl ?_ | refine o_put (p_asc rfl) rfl rfl ?_ | refine o_put (p_pick (z := .v _) rfl rfl rfl rfl) rfl rfl ?_ | refine o_put (p_not rfl) rfl rfl ?_ | refine qC (ac_nameOK q1 hn) rfl ?_ | refine o_put (p_bin (by first | exact b_eq_t (by omega) | exact b_eq_f (by omega) | exact b_ne_t (by omega) | exact b_ne_f (by omega) | exact b_gt_t (by omega) | exact b_gt_f (by omega) | exact b_seq_t (by assumption) | exact b_seq_f (by assumption) | exact b_sne_t (by assumption) | exact b_sne_f (by assumption)) rfl rfl rfl) rfl rfl ?_ | refine o_put (p_lenm rfl ⟨_, _, _, _, rfl⟩) rfl rfl ?_ | refine o_nil (q_then ?_) | refine c_seq ?_ | refine c_reg ?_ | refine c_dreg (by kernel_rfl) ?_ | refine c_cond_t rfl ?_ | refine c_cond_f rfl ?_ | refine c_block ?_ | refine c_skip ?_ | refine o_skip rfl rfl ?_ | refine q_then ?_ | refine q_thenr ?_ | refine q_thenx ?_ | refine q_blkn ?_ | refine q_blkr ?_ | refine q_blkx ?_ | refine q_blko rfl ?_ | refine c_exit ?_ | refine c_ret ?_ | refine q_ret ?_ | refine q_retn ?_ | refine o_step rfl rfl (p_box (y := .agg _) rfl rfl rfl rfl) (fun e => by cases e) ?_ | refine o_put (p_bin b_eqd rfl rfl rfl) rfl rfl ?_ | refine o_put (p_bin b_seqd rfl rfl rfl) rfl rfl ?_)
      exact ⟨trivial, [], by simp, trivial, ⟨trivial, trivial⟩, trivial, ⟨.inl ⟨rfl, rfl⟩, trivial⟩⟩
  by_cases hk : key = eB
  case neg =>
    rw [show opB _ = false from by simp [opB, hn, h0, hk]]
    as_aux_lemma =>
      refine o_of Th_ok (by kernel_rfl) Tryz.func138 rfl Tryz.ntmps138 Tryz.results138 (by kernel_rfl) rfl ?_
      repeat (first | refine o_put (p_ofld rfl rfl rfl) rfl rfl ?_ | refine o_put (p_old rfl rfl rfl rfl rfl rfl rfl) rfl rfl ?_ | refine o_put (p_mv (by conv => lhs; whnf)) rfl rfl ?_ | refine o_put (p_as (by conv => lhs; whnf)) rfl rfl ?_ | refine o_put (p_asc rfl) rfl rfl ?_ | refine o_put (p_pick (z := .v _) rfl rfl rfl rfl) rfl rfl ?_ | refine o_put (p_not rfl) rfl rfl ?_ | refine qC (ac_nameOK q1 hn) rfl ?_ | refine o_put (p_bin (by first | exact b_eq_t (by omega) | exact b_eq_f (by omega) | exact b_ne_t (by omega) | exact b_ne_f (by omega) | exact b_gt_t (by omega) | exact b_gt_f (by omega) | exact b_seq_t (by assumption) | exact b_seq_f (by assumption) | exact b_sne_t (by assumption) | exact b_sne_f (by assumption)) rfl rfl rfl) rfl rfl ?_ | refine o_put (p_lenm rfl ⟨_, _, _, _, rfl⟩) rfl rfl ?_ | refine o_nil (q_then ?_) | refine c_seq ?_ | refine c_reg ?_ | refine c_dreg (by kernel_rfl) ?_ | refine c_cond_t rfl ?_ | refine c_cond_f rfl ?_ | refine c_block ?_ | refine c_skip ?_ | refine o_skip rfl rfl ?_ | refine q_then ?_ | refine q_thenr ?_ | refine q_thenx ?_ | refine q_blkn ?_ | refine q_blkr ?_ | refine q_blkx ?_ | refine q_blko rfl ?_ | refine c_exit ?_ | refine c_ret ?_ | refine q_ret ?_ | refine q_retn ?_ | refine o_step rfl rfl (p_box (y := .agg _) rfl rfl rfl rfl) (fun e => by cases e) ?_ | refine o_put (p_bin b_eqd rfl rfl rfl) rfl rfl ?_ | refine o_put (p_bin b_seqd rfl rfl rfl) rfl rfl ?_)
      exact ⟨trivial, [], by simp, trivial, ⟨trivial, trivial⟩, trivial, ⟨.inl ⟨rfl, rfl⟩, trivial⟩⟩
  by_cases he : es.length = 0
  case neg =>
    rw [show opB _ = false from by simp [opB, hn, h0, hk, he]]
    as_aux_lemma =>
      refine o_of Th_ok (by kernel_rfl) Tryz.func138 rfl Tryz.ntmps138 Tryz.results138 (by kernel_rfl) rfl ?_
      repeat (first | refine o_put (p_ofld rfl rfl rfl) rfl rfl ?_ | refine o_put (p_old rfl rfl rfl rfl rfl rfl rfl) rfl rfl ?_ | refine o_put (p_mv (by conv => lhs; whnf)) rfl rfl ?_ | refine o_put (p_as (by conv => lhs; whnf)) rfl rfl ?_ | refine o_put (p_asc rfl) rfl rfl ?_ | refine o_put (p_pick (z := .v _) rfl rfl rfl rfl) rfl rfl ?_ | refine o_put (p_not rfl) rfl rfl ?_ | refine qC (ac_nameOK q1 hn) rfl ?_ | refine o_put (p_bin (by first | exact b_eq_t (by omega) | exact b_eq_f (by omega) | exact b_ne_t (by omega) | exact b_ne_f (by omega) | exact b_gt_t (by omega) | exact b_gt_f (by omega) | exact b_seq_t (by assumption) | exact b_seq_f (by assumption) | exact b_sne_t (by assumption) | exact b_sne_f (by assumption)) rfl rfl rfl) rfl rfl ?_ | refine o_put (p_lenm rfl ⟨_, _, _, _, rfl⟩) rfl rfl ?_ | refine o_nil (q_then ?_) | refine c_seq ?_ | refine c_reg ?_ | refine c_dreg (by kernel_rfl) ?_ | refine c_cond_t rfl ?_ | refine c_cond_f rfl ?_ | refine c_block ?_ | refine c_skip ?_ | refine o_skip rfl rfl ?_ | refine q_then ?_ | refine q_thenr ?_ | refine q_thenx ?_ | refine q_blkn ?_ | refine q_blkr ?_ | refine q_blkx ?_ | refine q_blko rfl ?_ | refine c_exit ?_ | refine c_ret ?_ | refine q_ret ?_ | refine q_retn ?_ | refine o_step rfl rfl (p_box (y := .agg _) rfl rfl rfl rfl) (fun e => by cases e) ?_ | refine o_put (p_bin b_eqd rfl rfl rfl) rfl rfl ?_ | refine o_put (p_bin b_seqd rfl rfl rfl) rfl rfl ?_)
      exact ⟨trivial, [], by simp, trivial, ⟨trivial, trivial⟩, trivial, ⟨.inl ⟨rfl, rfl⟩, trivial⟩⟩
  rw [show opB _ = true from by simp [opB, hn, h0, hk, he]]
  as_aux_lemma =>
    refine o_of Th_ok (by kernel_rfl) Tryz.func138 rfl Tryz.ntmps138 Tryz.results138 (by kernel_rfl) rfl ?_
    repeat (first | refine o_put (p_ofld rfl rfl rfl) rfl rfl ?_ | refine o_put (p_old rfl rfl rfl rfl rfl rfl rfl) rfl rfl ?_ | refine o_put (p_mv (by conv => lhs; whnf)) rfl rfl ?_ | refine o_put (p_as (by conv => lhs; whnf)) rfl rfl ?_ | refine o_put (p_asc rfl) rfl rfl ?_ | refine o_put (p_pick (z := .v _) rfl rfl rfl rfl) rfl rfl ?_ | refine o_put (p_not rfl) rfl rfl ?_ | refine qC (ac_nameOK q1 hn) rfl ?_ | refine o_put (p_bin (by first | exact b_eq_t (by omega) | exact b_eq_f (by omega) | exact b_ne_t (by omega) | exact b_ne_f (by omega) | exact b_gt_t (by omega) | exact b_gt_f (by omega) | exact b_seq_t (by assumption) | exact b_seq_f (by assumption) | exact b_sne_t (by assumption) | exact b_sne_f (by assumption)) rfl rfl rfl) rfl rfl ?_ | refine o_put (p_lenm rfl ⟨_, _, _, _, rfl⟩) rfl rfl ?_ | refine o_nil (q_then ?_) | refine c_seq ?_ | refine c_reg ?_ | refine c_dreg (by kernel_rfl) ?_ | refine c_cond_t rfl ?_ | refine c_cond_f rfl ?_ | refine c_block ?_ | refine c_skip ?_ | refine o_skip rfl rfl ?_ | refine q_then ?_ | refine q_thenr ?_ | refine q_thenx ?_ | refine q_blkn ?_ | refine q_blkr ?_ | refine q_blkx ?_ | refine q_blko rfl ?_ | refine c_exit ?_ | refine c_ret ?_ | refine q_ret ?_ | refine q_retn ?_ | refine o_step rfl rfl (p_box (y := .agg _) rfl rfl rfl rfl) (fun e => by cases e) ?_ | refine o_put (p_bin b_eqd rfl rfl rfl) rfl rfl ?_ | refine o_put (p_bin b_seqd rfl rfl rfl) rfl rfl ?_)
    exact ⟨trivial, [], by simp, trivial, ⟨trivial, trivial⟩, trivial, ⟨.inl ⟨rfl, rfl⟩, trivial⟩⟩
set_option maxHeartbeats 4000000 in
theorem ac_iOp6 {frm : Int} {nm key : ByteArray} {es : List Edt} (q1 : nm.size ≤ maxLen) (q2 : key.size ≤ maxLen) (q3 : es.length ≤ maxLen) (q4 : ∀ e ∈ es, e.key.size ≤ maxLen) (hn : okN nm = true) : AC Tryz.prog 138 [.agg [.v (.int .i64 6), .v (.int .i64 frm), .v (.string nm), .v (.string key), .lst 3 (es.map edtA)]] ⟨.v (.bool (opB ⟨6, frm, nm, key, es⟩)), []⟩ := by
  have q3' := q3
  unfold maxLen at q3'
  by_cases h0 : frm = 0
  case neg =>
    rw [show opB _ = false from by simp [opB, hn, h0]]
    as_aux_lemma =>
      refine o_of Th_ok (by kernel_rfl) Tryz.func138 rfl Tryz.ntmps138 Tryz.results138 (by kernel_rfl) rfl ?_
      repeat (first | refine o_put (p_ofld rfl rfl rfl) rfl rfl ?_ | refine o_put (p_old rfl rfl rfl rfl rfl rfl rfl) rfl rfl ?_ | refine o_put (p_mv (by conv => lhs; whnf)) rfl rfl ?_ | refine o_put (p_as (by conv => lhs; whnf)) rfl rfl ?_ | refine o_put (p_asc rfl) rfl rfl ?_ | refine o_put (p_pick (z := .v _) rfl rfl rfl rfl) rfl rfl ?_ | refine o_put (p_not rfl) rfl rfl ?_ | refine qC (ac_nameOK q1 hn) rfl ?_ | refine o_put (p_bin (by first | exact b_eq_t (by omega) | exact b_eq_f (by omega) | exact b_ne_t (by omega) | exact b_ne_f (by omega) | exact b_gt_t (by omega) | exact b_gt_f (by omega) | exact b_seq_t (by assumption) | exact b_seq_f (by assumption) | exact b_sne_t (by assumption) | exact b_sne_f (by assumption)) rfl rfl rfl) rfl rfl ?_ | refine o_put (p_lenm rfl ⟨_, _, _, _, rfl⟩) rfl rfl ?_ | refine o_nil (q_then ?_) | refine c_seq ?_ | refine c_reg ?_ | refine c_dreg (by kernel_rfl) ?_ | refine c_cond_t rfl ?_ | refine c_cond_f rfl ?_ | refine c_block ?_ | refine c_skip ?_ | refine o_skip rfl rfl ?_ | refine q_then ?_ | refine q_thenr ?_ | refine q_thenx ?_ | refine q_blkn ?_ | refine q_blkr ?_ | refine q_blkx ?_ | refine q_blko rfl ?_ | refine c_exit ?_ | refine c_ret ?_ | refine q_ret ?_ | refine q_retn ?_ | refine o_step rfl rfl (p_box (y := .agg _) rfl rfl rfl rfl) (fun e => by cases e) ?_ | refine o_put (p_bin b_eqd rfl rfl rfl) rfl rfl ?_ | refine o_put (p_bin b_seqd rfl rfl rfl) rfl rfl ?_)
      exact ⟨trivial, [], by simp, trivial, ⟨trivial, trivial⟩, trivial, ⟨.inl ⟨rfl, rfl⟩, trivial⟩⟩
  by_cases hk : key = eB
  case neg =>
    rw [show opB _ = false from by simp [opB, hn, h0, hk]]
    as_aux_lemma =>
      refine o_of Th_ok (by kernel_rfl) Tryz.func138 rfl Tryz.ntmps138 Tryz.results138 (by kernel_rfl) rfl ?_
      repeat (first | refine o_put (p_ofld rfl rfl rfl) rfl rfl ?_ | refine o_put (p_old rfl rfl rfl rfl rfl rfl rfl) rfl rfl ?_ | refine o_put (p_mv (by conv => lhs; whnf)) rfl rfl ?_ | refine o_put (p_as (by conv => lhs; whnf)) rfl rfl ?_ | refine o_put (p_asc rfl) rfl rfl ?_ | refine o_put (p_pick (z := .v _) rfl rfl rfl rfl) rfl rfl ?_ | refine o_put (p_not rfl) rfl rfl ?_ | refine qC (ac_nameOK q1 hn) rfl ?_ | refine o_put (p_bin (by first | exact b_eq_t (by omega) | exact b_eq_f (by omega) | exact b_ne_t (by omega) | exact b_ne_f (by omega) | exact b_gt_t (by omega) | exact b_gt_f (by omega) | exact b_seq_t (by assumption) | exact b_seq_f (by assumption) | exact b_sne_t (by assumption) | exact b_sne_f (by assumption)) rfl rfl rfl) rfl rfl ?_ | refine o_put (p_lenm rfl ⟨_, _, _, _, rfl⟩) rfl rfl ?_ | refine o_nil (q_then ?_) | refine c_seq ?_ | refine c_reg ?_ | refine c_dreg (by kernel_rfl) ?_ | refine c_cond_t rfl ?_ | refine c_cond_f rfl ?_ | refine c_block ?_ | refine c_skip ?_ | refine o_skip rfl rfl ?_ | refine q_then ?_ | refine q_thenr ?_ | refine q_thenx ?_ | refine q_blkn ?_ | refine q_blkr ?_ | refine q_blkx ?_ | refine q_blko rfl ?_ | refine c_exit ?_ | refine c_ret ?_ | refine q_ret ?_ | refine q_retn ?_ | refine o_step rfl rfl (p_box (y := .agg _) rfl rfl rfl rfl) (fun e => by cases e) ?_ | refine o_put (p_bin b_eqd rfl rfl rfl) rfl rfl ?_ | refine o_put (p_bin b_seqd rfl rfl rfl) rfl rfl ?_)
      exact ⟨trivial, [], by simp, trivial, ⟨trivial, trivial⟩, trivial, ⟨.inl ⟨rfl, rfl⟩, trivial⟩⟩
  by_cases he : es.length = 0
  case neg =>
    rw [show opB _ = false from by simp [opB, hn, h0, hk, he]]
    as_aux_lemma =>
      refine o_of Th_ok (by kernel_rfl) Tryz.func138 rfl Tryz.ntmps138 Tryz.results138 (by kernel_rfl) rfl ?_
      repeat (first | refine o_put (p_ofld rfl rfl rfl) rfl rfl ?_ | refine o_put (p_old rfl rfl rfl rfl rfl rfl rfl) rfl rfl ?_ | refine o_put (p_mv (by conv => lhs; whnf)) rfl rfl ?_ | refine o_put (p_as (by conv => lhs; whnf)) rfl rfl ?_ | refine o_put (p_asc rfl) rfl rfl ?_ | refine o_put (p_pick (z := .v _) rfl rfl rfl rfl) rfl rfl ?_ | refine o_put (p_not rfl) rfl rfl ?_ | refine qC (ac_nameOK q1 hn) rfl ?_ | refine o_put (p_bin (by first | exact b_eq_t (by omega) | exact b_eq_f (by omega) | exact b_ne_t (by omega) | exact b_ne_f (by omega) | exact b_gt_t (by omega) | exact b_gt_f (by omega) | exact b_seq_t (by assumption) | exact b_seq_f (by assumption) | exact b_sne_t (by assumption) | exact b_sne_f (by assumption)) rfl rfl rfl) rfl rfl ?_ | refine o_put (p_lenm rfl ⟨_, _, _, _, rfl⟩) rfl rfl ?_ | refine o_nil (q_then ?_) | refine c_seq ?_ | refine c_reg ?_ | refine c_dreg (by kernel_rfl) ?_ | refine c_cond_t rfl ?_ | refine c_cond_f rfl ?_ | refine c_block ?_ | refine c_skip ?_ | refine o_skip rfl rfl ?_ | refine q_then ?_ | refine q_thenr ?_ | refine q_thenx ?_ | refine q_blkn ?_ | refine q_blkr ?_ | refine q_blkx ?_ | refine q_blko rfl ?_ | refine c_exit ?_ | refine c_ret ?_ | refine q_ret ?_ | refine q_retn ?_ | refine o_step rfl rfl (p_box (y := .agg _) rfl rfl rfl rfl) (fun e => by cases e) ?_ | refine o_put (p_bin b_eqd rfl rfl rfl) rfl rfl ?_ | refine o_put (p_bin b_seqd rfl rfl rfl) rfl rfl ?_)
      exact ⟨trivial, [], by simp, trivial, ⟨trivial, trivial⟩, trivial, ⟨.inl ⟨rfl, rfl⟩, trivial⟩⟩
  rw [show opB _ = true from by simp [opB, hn, h0, hk, he]]
  as_aux_lemma =>
    refine o_of Th_ok (by kernel_rfl) Tryz.func138 rfl Tryz.ntmps138 Tryz.results138 (by kernel_rfl) rfl ?_
    repeat (first | refine o_put (p_ofld rfl rfl rfl) rfl rfl ?_ | refine o_put (p_old rfl rfl rfl rfl rfl rfl rfl) rfl rfl ?_ | refine o_put (p_mv (by conv => lhs; whnf)) rfl rfl ?_ | refine o_put (p_as (by conv => lhs; whnf)) rfl rfl ?_ | refine o_put (p_asc rfl) rfl rfl ?_ | refine o_put (p_pick (z := .v _) rfl rfl rfl rfl) rfl rfl ?_ | refine o_put (p_not rfl) rfl rfl ?_ | refine qC (ac_nameOK q1 hn) rfl ?_ | refine o_put (p_bin (by first | exact b_eq_t (by omega) | exact b_eq_f (by omega) | exact b_ne_t (by omega) | exact b_ne_f (by omega) | exact b_gt_t (by omega) | exact b_gt_f (by omega) | exact b_seq_t (by assumption) | exact b_seq_f (by assumption) | exact b_sne_t (by assumption) | exact b_sne_f (by assumption)) rfl rfl rfl) rfl rfl ?_ | refine o_put (p_lenm rfl ⟨_, _, _, _, rfl⟩) rfl rfl ?_ | refine o_nil (q_then ?_) | refine c_seq ?_ | refine c_reg ?_ | refine c_dreg (by kernel_rfl) ?_ | refine c_cond_t rfl ?_ | refine c_cond_f rfl ?_ | refine c_block ?_ | refine c_skip ?_ | refine o_skip rfl rfl ?_ | refine q_then ?_ | refine q_thenr ?_ | refine q_thenx ?_ | refine q_blkn ?_ | refine q_blkr ?_ | refine q_blkx ?_ | refine q_blko rfl ?_ | refine c_exit ?_ | refine c_ret ?_ | refine q_ret ?_ | refine q_retn ?_ | refine o_step rfl rfl (p_box (y := .agg _) rfl rfl rfl rfl) (fun e => by cases e) ?_ | refine o_put (p_bin b_eqd rfl rfl rfl) rfl rfl ?_ | refine o_put (p_bin b_seqd rfl rfl rfl) rfl rfl ?_)
    exact ⟨trivial, [], by simp, trivial, ⟨trivial, trivial⟩, trivial, ⟨.inl ⟨rfl, rfl⟩, trivial⟩⟩
set_option maxHeartbeats 4000000 in
theorem ac_iOpOK {o : Opr} (ho : o.ok maxLen) : AC Tryz.prog 138 [oprA o] ⟨.v (.bool (opB o)), []⟩ := by
  obtain ⟨kind, frm, nm, key, es⟩ := o
  obtain ⟨q1, q2, q3, q4⟩ := ho
  simp only at q1 q2 q3 q4
  have q3' := q3
  unfold maxLen at q3'
  show AC Tryz.prog 138 [.agg [.v (.int .i64 kind), .v (.int .i64 frm), .v (.string nm), .v (.string key), .lst 3 (es.map edtA)]] _

  cases hn : okN nm with
  | false =>
    rw [show opB _ = false from by simp [opB, hn]]
    as_aux_lemma =>
      refine o_of Th_ok (by kernel_rfl) Tryz.func138 rfl Tryz.ntmps138 Tryz.results138 (by kernel_rfl) rfl ?_
      repeat (first | refine o_put (p_ofld rfl rfl rfl) rfl rfl ?_ | refine o_put (p_old rfl rfl rfl rfl rfl rfl rfl) rfl rfl ?_ | refine o_put (p_mv (by conv => lhs; whnf)) rfl rfl ?_ | refine o_put (p_as (by conv => lhs; whnf)) rfl rfl ?_ | refine o_put (p_asc rfl) rfl rfl ?_ | refine o_put (p_pick (z := .v _) rfl rfl rfl rfl) rfl rfl ?_ | refine o_put (p_not rfl) rfl rfl ?_ | refine qC (ac_nameOK q1 hn) rfl ?_ | refine o_put (p_bin (by first | exact b_eq_t (by omega) | exact b_eq_f (by omega) | exact b_ne_t (by omega) | exact b_ne_f (by omega) | exact b_gt_t (by omega) | exact b_gt_f (by omega) | exact b_seq_t (by assumption) | exact b_seq_f (by assumption) | exact b_sne_t (by assumption) | exact b_sne_f (by assumption)) rfl rfl rfl) rfl rfl ?_ | refine o_put (p_lenm rfl ⟨_, _, _, _, rfl⟩) rfl rfl ?_ | refine o_nil (q_then ?_) | refine c_seq ?_ | refine c_reg ?_ | refine c_dreg (by kernel_rfl) ?_ | refine c_cond_t rfl ?_ | refine c_cond_f rfl ?_ | refine c_block ?_ | refine c_skip ?_ | refine o_skip rfl rfl ?_ | refine q_then ?_ | refine q_thenr ?_ | refine q_thenx ?_ | refine q_blkn ?_ | refine q_blkr ?_ | refine q_blkx ?_ | refine q_blko rfl ?_ | refine c_exit ?_ | refine c_ret ?_ | refine q_ret ?_ | refine q_retn ?_ | refine o_step rfl rfl (p_box (y := .agg _) rfl rfl rfl rfl) (fun e => by cases e) ?_ | refine o_put (p_bin b_eqd rfl rfl rfl) rfl rfl ?_ | refine o_put (p_bin b_seqd rfl rfl rfl) rfl rfl ?_)
      exact ⟨trivial, [], by simp, trivial, ⟨trivial, trivial⟩, trivial, ⟨.inl ⟨rfl, rfl⟩, trivial⟩⟩
  | true =>
  by_cases k1 : kind = 1
  case pos =>
    subst k1
    exact ac_iOp1 q1 q2 q3 q4 hn
  by_cases k2 : kind = 2
  case pos =>
    subst k2
    exact ac_iOp2 q1 q2 q3 q4 hn
  by_cases k3 : kind = 3
  case pos =>
    subst k3
    exact ac_iOp3 q1 q2 q3 q4 hn
  by_cases k4 : kind = 4
  case pos =>
    subst k4
    exact ac_iOp4 q1 q2 q3 q4 hn
  by_cases k5 : kind = 5
  case pos =>
    subst k5
    exact ac_iOp5 q1 q2 q3 q4 hn
  by_cases k6 : kind = 6
  case pos =>
    subst k6
    exact ac_iOp6 q1 q2 q3 q4 hn
  rw [show opB _ = false from by simp [opB, hn, k1, k2, k3, k4, k5, k6]]
  as_aux_lemma =>
    refine o_of Th_ok (by kernel_rfl) Tryz.func138 rfl Tryz.ntmps138 Tryz.results138 (by kernel_rfl) rfl ?_
    repeat (first | refine o_put (p_ofld rfl rfl rfl) rfl rfl ?_ | refine o_put (p_old rfl rfl rfl rfl rfl rfl rfl) rfl rfl ?_ | refine o_put (p_mv (by conv => lhs; whnf)) rfl rfl ?_ | refine o_put (p_as (by conv => lhs; whnf)) rfl rfl ?_ | refine o_put (p_asc rfl) rfl rfl ?_ | refine o_put (p_pick (z := .v _) rfl rfl rfl rfl) rfl rfl ?_ | refine o_put (p_not rfl) rfl rfl ?_ | refine qC (ac_nameOK q1 hn) rfl ?_ | refine o_put (p_bin (by first | exact b_eq_t (by omega) | exact b_eq_f (by omega) | exact b_ne_t (by omega) | exact b_ne_f (by omega) | exact b_gt_t (by omega) | exact b_gt_f (by omega) | exact b_seq_t (by assumption) | exact b_seq_f (by assumption) | exact b_sne_t (by assumption) | exact b_sne_f (by assumption)) rfl rfl rfl) rfl rfl ?_ | refine o_put (p_lenm rfl ⟨_, _, _, _, rfl⟩) rfl rfl ?_ | refine o_nil (q_then ?_) | refine c_seq ?_ | refine c_reg ?_ | refine c_dreg (by kernel_rfl) ?_ | refine c_cond_t rfl ?_ | refine c_cond_f rfl ?_ | refine c_block ?_ | refine c_skip ?_ | refine o_skip rfl rfl ?_ | refine q_then ?_ | refine q_thenr ?_ | refine q_thenx ?_ | refine q_blkn ?_ | refine q_blkr ?_ | refine q_blkx ?_ | refine q_blko rfl ?_ | refine c_exit ?_ | refine c_ret ?_ | refine q_ret ?_ | refine q_retn ?_ | refine o_step rfl rfl (p_box (y := .agg _) rfl rfl rfl rfl) (fun e => by cases e) ?_ | refine o_put (p_bin b_eqd rfl rfl rfl) rfl rfl ?_ | refine o_put (p_bin b_seqd rfl rfl rfl) rfl rfl ?_)
    exact ⟨trivial, [], by simp, trivial, ⟨trivial, trivial⟩, trivial, ⟨.inl ⟨rfl, rfl⟩, trivial⟩⟩
end Go.Proofs.YtmfmclnklpbiaaaGreat.AM
namespace Go.Proofs.YtmfmclnklpbiaaaGreat.AM
open Go Go.RowKit
set_option linter.unusedVariables false
set_option linter.unusedSimpArgs false
set_option maxRecDepth 100000
attribute [local irreducible] ACode AOps AOps2 RetG RetM Pre ACG
end Go.Proofs.YtmfmclnklpbiaaaGreat.AM
namespace Go.Proofs.YtmfmclnklpbiaaaGreat.AM
open Go Go.RowKit
set_option linter.unusedVariables false
set_option linter.unusedSimpArgs false
set_option maxRecDepth 100000
def szH (o : Wsh) (l : Int) : Int := if l - o.name.size < 0 then -1 else if l - o.name.size - o.source.size < 0 then -1 else if l - o.name.size - o.source.size - o.key.size < 0 then -1 else if szL xSz o.edits (l - o.name.size - o.source.size - o.key.size) < 0 then -1 else szL xSz o.edits (l - o.name.size - o.source.size - o.key.size)
def hasS (k : Int) : Bool := decide (k = 1 ∨ k = 4)
def wshB (w : Wsh) : Bool := if w.kind = 1 ∨ w.kind = 4 then okN w.source && opB ⟨w.kind, 1, w.name, w.key, w.edits⟩ else decide (w.source = eB) && opB ⟨w.kind, 0, w.name, w.key, w.edits⟩
theorem szH_le {o : Wsh} {l : Int} (h : 0 ≤ szH o l) (h1 : l ≤ 1048576) : szH o l ≤ l ∧ o.edits.length ≤ 1048576 := by
  unfold szH at h ⊢
  split at h
  · omega
  split at h
  · omega
  split at h
  · omega
  split at h
  · omega
  · rename_i a b c d
    rw [if_neg a, if_neg b, if_neg c, if_neg d]
    obtain ⟨k1, l1, _⟩ := szL_le h
    omega
attribute [local irreducible] ACode AOps AOps2 RetG RetM Pre ACG
theorem ac_szWish {o : Wsh} {l : Int} (ho : o.ok maxLen) (h0 : 0 ≤ l) (h1 : l ≤ 1048576) : AC Tryz.prog 55 [wshA o, .v (.int .i64 l)] ⟨.v (.int .i64 (szH o l)), []⟩ := by
  obtain ⟨q1, q2, q3, q4, q5⟩ := ho
  have q1' := q1
  have q2' := q2
  have q3' := q3
  unfold maxLen at q1' q2' q3'
  unfold szH
  by_cases h_0 : l - o.name.size < 0
  · rw [if_pos h_0]
    refine r_of Th_ok (by kernel_rfl) Tryz.func55 rfl Tryz.ntmps55 Tryz.results55 (by kernel_rfl) rfl ?_; conv => whnf
    repeat (first | ((first | refine qb rfl rfl ?_ | refine qi (by assumption) rfl rfl ?_ | refine ql rfl ?_ | refine qo rfl rfl ?_ | refine qs rfl rfl ?_ | refine qn rfl rfl ?_); conv => whnf) | (refine r_step (p_ostore rfl rfl rfl rfl rfl (by conv => lhs; whnf) rfl) rfl rfl (fun e => by first | exact .inl rfl | contradiction | exact .inr (.inl (by kernel_rfl))) ?_; conv => whnf))
    exact r_ret1 rfl trivial
  rw [if_neg h_0]
  by_cases h_1 : l - o.name.size - o.source.size < 0
  · rw [if_pos h_1]
    refine r_of Th_ok (by kernel_rfl) Tryz.func55 rfl Tryz.ntmps55 Tryz.results55 (by kernel_rfl) rfl ?_; conv => whnf
    repeat (first | ((first | refine qb rfl rfl ?_ | refine qi (by assumption) rfl rfl ?_ | refine ql rfl ?_ | refine qo rfl rfl ?_ | refine qs rfl rfl ?_ | refine qn rfl rfl ?_); conv => whnf) | (refine r_step (p_ostore rfl rfl rfl rfl rfl (by conv => lhs; whnf) rfl) rfl rfl (fun e => by first | exact .inl rfl | contradiction | exact .inr (.inl (by kernel_rfl))) ?_; conv => whnf))
    exact r_ret1 rfl trivial
  rw [if_neg h_1]
  by_cases h_2 : l - o.name.size - o.source.size - o.key.size < 0
  · rw [if_pos h_2]
    refine r_of Th_ok (by kernel_rfl) Tryz.func55 rfl Tryz.ntmps55 Tryz.results55 (by kernel_rfl) rfl ?_; conv => whnf
    repeat (first | ((first | refine qb rfl rfl ?_ | refine qi (by assumption) rfl rfl ?_ | refine ql rfl ?_ | refine qo rfl rfl ?_ | refine qs rfl rfl ?_ | refine qn rfl rfl ?_); conv => whnf) | (refine r_step (p_ostore rfl rfl rfl rfl rfl (by conv => lhs; whnf) rfl) rfl rfl (fun e => by first | exact .inl rfl | contradiction | exact .inr (.inl (by kernel_rfl))) ?_; conv => whnf))
    exact r_ret1 rfl trivial
  rw [if_neg h_2]
  have hac := ac_szEditS (l := l - o.name.size - o.source.size - o.key.size) q4 q5 (by omega) (by omega)
  by_cases hn : szL xSz o.edits (l - o.name.size - o.source.size - o.key.size) < 0
  · rw [if_pos hn]
    refine r_of Th_ok (by kernel_rfl) Tryz.func55 rfl Tryz.ntmps55 Tryz.results55 (by kernel_rfl) rfl ?_; conv => whnf
    repeat (first | ((first | refine qb rfl rfl ?_ | refine qi (by assumption) rfl rfl ?_ | refine ql rfl ?_ | refine qo rfl rfl ?_ | refine qs rfl rfl ?_ | refine qn rfl rfl ?_); conv => whnf) | (refine qc (hac) rfl ?_; conv => whnf) | (refine r_step (p_ostore rfl rfl rfl rfl rfl (by conv => lhs; whnf) rfl) rfl rfl (fun e => by first | exact .inl rfl | contradiction | exact .inr (.inl (by kernel_rfl))) ?_; conv => whnf))
    exact r_ret1 rfl trivial
  · rw [if_neg hn]
    refine r_of Th_ok (by kernel_rfl) Tryz.func55 rfl Tryz.ntmps55 Tryz.results55 (by kernel_rfl) rfl ?_; conv => whnf
    repeat (first | ((first | refine qb rfl rfl ?_ | refine qi (by assumption) rfl rfl ?_ | refine ql rfl ?_ | refine qo rfl rfl ?_ | refine qs rfl rfl ?_ | refine qn rfl rfl ?_); conv => whnf) | (refine qc (hac) rfl ?_; conv => whnf) | (refine r_step (p_ostore rfl rfl rfl rfl rfl (by conv => lhs; whnf) rfl) rfl rfl (fun e => by first | exact .inl rfl | contradiction | exact .inr (.inl (by kernel_rfl))) ?_; conv => whnf))
    exact r_ret1 rfl trivial
theorem ac_eqWish {o : Wsh} (hm : o.edits.length ≤ maxLen) : AC Tryz.prog 84 [wshA o, wshA o] ⟨.v (.bool true), []⟩ := by
  refine r_of Th_ok (by kernel_rfl) Tryz.func84 rfl Tryz.ntmps84 Tryz.results84 (by kernel_rfl) rfl ?_; conv => whnf
  repeat (first | (refine r_put (p_bin (b_sne_f rfl) rfl rfl rfl) rfl rfl ?_; conv => whnf) | (refine r_put (p_bin (b_ne_f rfl) rfl rfl rfl) rfl rfl ?_; conv => whnf) | ((first | refine qb rfl rfl ?_ | refine qi (by assumption) rfl rfl ?_ | refine ql rfl ?_ | refine qo rfl rfl ?_ | refine qs rfl rfl ?_ | refine qn rfl rfl ?_); conv => whnf) | (refine qc (ac_eqEditS hm) rfl ?_; conv => whnf))
  exact r_ret1 rfl trivial
theorem ac_hasS {k : Int} : AC Tryz.prog 137 [.v (.int .i64 k)] ⟨.v (.bool (hasS k)), []⟩ := by
  unfold hasS
  by_cases h1 : k = 1
  · rw [decide_eq_true (by omega : k = 1 ∨ k = 4)]
    refine o_of Th_ok (by kernel_rfl) Tryz.func137 rfl Tryz.ntmps137 Tryz.results137 (by kernel_rfl) rfl ?_
    repeat (first | first | refine o_put (p_mv (by conv => lhs; whnf)) rfl rfl ?_ | refine o_put (p_as (by conv => lhs; whnf)) rfl rfl ?_ | refine o_put (p_asc rfl) rfl rfl ?_ | refine o_put (p_idx (getA _ (by assumption)) rfl rfl rfl) rfl rfl ?_ | refine o_put (p_fld rfl rfl rfl rfl rfl) rfl rfl ?_ | refine o_put (p_ld rfl rfl rfl rfl) rfl rfl ?_ | refine o_put (p_bin (by first | exact b_lt_t (by omega) | exact b_lt_f (by omega) | exact b_le_t (by omega) | exact b_le_f (by omega) | exact b_gt_t (by omega) | exact b_gt_f (by omega) | exact b_ge_t (by omega) | exact b_ge_f (by omega) | exact b_eq_t (by omega) | exact b_eq_f (by omega) | exact b_ne_t (by omega) | exact b_ne_f (by omega) | exact b_sub rfl (by omega) (by omega) | exact b_add rfl (by omega) (by omega)) rfl rfl rfl) rfl rfl ?_ | refine o_put (p_lenm rfl ⟨_, _, _, _, rfl⟩) rfl rfl ?_ | refine o_put (p_lenom rfl rfl ⟨_, _, _, _, rfl⟩) rfl rfl ?_ | refine o_put (p_len (y := .v (.string _)) rfl rfl rfl) rfl rfl ?_ | refine o_put (p_len rfl rfl ⟨_, _, _, _, rfl⟩) rfl rfl ?_ | refine o_put (p_not rfl) rfl rfl ?_ | refine o_put (p_pick (z := .v _) rfl rfl rfl rfl) rfl rfl ?_ | refine o_put (p_pick rfl rfl rfl rfl) rfl rfl ?_ | refine o_put (p_ext rfl (by conv => lhs; whnf)) rfl rfl ?_ | refine o_skip rfl rfl ?_ | refine o_nil (q_then ?_) | refine c_seq ?_ | refine c_reg ?_ | refine c_dreg (by kernel_rfl) ?_ | refine c_cond_t rfl ?_ | refine c_cond_f rfl ?_ | refine c_block ?_ | refine c_skip ?_ | refine q_then ?_ | refine q_thenr ?_ | refine q_thenx ?_ | refine q_blkn ?_ | refine q_blkr ?_ | refine q_blkx ?_ | refine q_blko rfl ?_ | refine c_exit ?_ | refine c_ret ?_ | refine q_ret ?_ | refine q_retn ?_ | refine o_put (p_ofld rfl rfl rfl) rfl rfl ?_ | refine o_put (p_old rfl rfl rfl rfl rfl rfl rfl) rfl rfl ?_ | refine o_put (p_oidx (by simpa using (by assumption)) rfl rfl rfl rfl rfl) rfl rfl ?_ | refine o_step rfl rfl (p_box (y := .agg _) rfl rfl rfl rfl) (fun e => by cases e) ?_ | refine o_step rfl rfl (p_allo rfl rfl) (fun e => by cases e) ?_)
    exact ⟨trivial, [], by simp, trivial, ⟨trivial, trivial⟩, trivial, ⟨.inl ⟨rfl, rfl⟩, trivial⟩⟩
  by_cases h4 : k = 4
  · rw [decide_eq_true (by omega : k = 1 ∨ k = 4)]
    refine o_of Th_ok (by kernel_rfl) Tryz.func137 rfl Tryz.ntmps137 Tryz.results137 (by kernel_rfl) rfl ?_
    repeat (first | first | refine o_put (p_mv (by conv => lhs; whnf)) rfl rfl ?_ | refine o_put (p_as (by conv => lhs; whnf)) rfl rfl ?_ | refine o_put (p_asc rfl) rfl rfl ?_ | refine o_put (p_idx (getA _ (by assumption)) rfl rfl rfl) rfl rfl ?_ | refine o_put (p_fld rfl rfl rfl rfl rfl) rfl rfl ?_ | refine o_put (p_ld rfl rfl rfl rfl) rfl rfl ?_ | refine o_put (p_bin (by first | exact b_lt_t (by omega) | exact b_lt_f (by omega) | exact b_le_t (by omega) | exact b_le_f (by omega) | exact b_gt_t (by omega) | exact b_gt_f (by omega) | exact b_ge_t (by omega) | exact b_ge_f (by omega) | exact b_eq_t (by omega) | exact b_eq_f (by omega) | exact b_ne_t (by omega) | exact b_ne_f (by omega) | exact b_sub rfl (by omega) (by omega) | exact b_add rfl (by omega) (by omega)) rfl rfl rfl) rfl rfl ?_ | refine o_put (p_lenm rfl ⟨_, _, _, _, rfl⟩) rfl rfl ?_ | refine o_put (p_lenom rfl rfl ⟨_, _, _, _, rfl⟩) rfl rfl ?_ | refine o_put (p_len (y := .v (.string _)) rfl rfl rfl) rfl rfl ?_ | refine o_put (p_len rfl rfl ⟨_, _, _, _, rfl⟩) rfl rfl ?_ | refine o_put (p_not rfl) rfl rfl ?_ | refine o_put (p_pick (z := .v _) rfl rfl rfl rfl) rfl rfl ?_ | refine o_put (p_pick rfl rfl rfl rfl) rfl rfl ?_ | refine o_put (p_ext rfl (by conv => lhs; whnf)) rfl rfl ?_ | refine o_skip rfl rfl ?_ | refine o_nil (q_then ?_) | refine c_seq ?_ | refine c_reg ?_ | refine c_dreg (by kernel_rfl) ?_ | refine c_cond_t rfl ?_ | refine c_cond_f rfl ?_ | refine c_block ?_ | refine c_skip ?_ | refine q_then ?_ | refine q_thenr ?_ | refine q_thenx ?_ | refine q_blkn ?_ | refine q_blkr ?_ | refine q_blkx ?_ | refine q_blko rfl ?_ | refine c_exit ?_ | refine c_ret ?_ | refine q_ret ?_ | refine q_retn ?_ | refine o_put (p_ofld rfl rfl rfl) rfl rfl ?_ | refine o_put (p_old rfl rfl rfl rfl rfl rfl rfl) rfl rfl ?_ | refine o_put (p_oidx (by simpa using (by assumption)) rfl rfl rfl rfl rfl) rfl rfl ?_ | refine o_step rfl rfl (p_box (y := .agg _) rfl rfl rfl rfl) (fun e => by cases e) ?_ | refine o_step rfl rfl (p_allo rfl rfl) (fun e => by cases e) ?_)
    exact ⟨trivial, [], by simp, trivial, ⟨trivial, trivial⟩, trivial, ⟨.inl ⟨rfl, rfl⟩, trivial⟩⟩
  rw [decide_eq_false (by omega : ¬ (k = 1 ∨ k = 4))]
  refine o_of Th_ok (by kernel_rfl) Tryz.func137 rfl Tryz.ntmps137 Tryz.results137 (by kernel_rfl) rfl ?_
  repeat (first | first | refine o_put (p_mv (by conv => lhs; whnf)) rfl rfl ?_ | refine o_put (p_as (by conv => lhs; whnf)) rfl rfl ?_ | refine o_put (p_asc rfl) rfl rfl ?_ | refine o_put (p_idx (getA _ (by assumption)) rfl rfl rfl) rfl rfl ?_ | refine o_put (p_fld rfl rfl rfl rfl rfl) rfl rfl ?_ | refine o_put (p_ld rfl rfl rfl rfl) rfl rfl ?_ | refine o_put (p_bin (by first | exact b_lt_t (by omega) | exact b_lt_f (by omega) | exact b_le_t (by omega) | exact b_le_f (by omega) | exact b_gt_t (by omega) | exact b_gt_f (by omega) | exact b_ge_t (by omega) | exact b_ge_f (by omega) | exact b_eq_t (by omega) | exact b_eq_f (by omega) | exact b_ne_t (by omega) | exact b_ne_f (by omega) | exact b_sub rfl (by omega) (by omega) | exact b_add rfl (by omega) (by omega)) rfl rfl rfl) rfl rfl ?_ | refine o_put (p_lenm rfl ⟨_, _, _, _, rfl⟩) rfl rfl ?_ | refine o_put (p_lenom rfl rfl ⟨_, _, _, _, rfl⟩) rfl rfl ?_ | refine o_put (p_len (y := .v (.string _)) rfl rfl rfl) rfl rfl ?_ | refine o_put (p_len rfl rfl ⟨_, _, _, _, rfl⟩) rfl rfl ?_ | refine o_put (p_not rfl) rfl rfl ?_ | refine o_put (p_pick (z := .v _) rfl rfl rfl rfl) rfl rfl ?_ | refine o_put (p_pick rfl rfl rfl rfl) rfl rfl ?_ | refine o_put (p_ext rfl (by conv => lhs; whnf)) rfl rfl ?_ | refine o_skip rfl rfl ?_ | refine o_nil (q_then ?_) | refine c_seq ?_ | refine c_reg ?_ | refine c_dreg (by kernel_rfl) ?_ | refine c_cond_t rfl ?_ | refine c_cond_f rfl ?_ | refine c_block ?_ | refine c_skip ?_ | refine q_then ?_ | refine q_thenr ?_ | refine q_thenx ?_ | refine q_blkn ?_ | refine q_blkr ?_ | refine q_blkx ?_ | refine q_blko rfl ?_ | refine c_exit ?_ | refine c_ret ?_ | refine q_ret ?_ | refine q_retn ?_ | refine o_put (p_ofld rfl rfl rfl) rfl rfl ?_ | refine o_put (p_old rfl rfl rfl rfl rfl rfl rfl) rfl rfl ?_ | refine o_put (p_oidx (by simpa using (by assumption)) rfl rfl rfl rfl rfl) rfl rfl ?_ | refine o_step rfl rfl (p_box (y := .agg _) rfl rfl rfl rfl) (fun e => by cases e) ?_ | refine o_step rfl rfl (p_allo rfl rfl) (fun e => by cases e) ?_)
  exact ⟨trivial, [], by simp, trivial, ⟨trivial, trivial⟩, trivial, ⟨.inl ⟨rfl, rfl⟩, trivial⟩⟩
theorem ac_opOf {o : Wsh} {f : Int} : AC Tryz.prog 139 [wshA o, .v (.int .i64 f)] ⟨oprA ⟨o.kind, f, o.name, o.key, o.edits⟩, []⟩ := by
  refine r_of Th_ok (by kernel_rfl) Tryz.func139 rfl Tryz.ntmps139 Tryz.results139 (by kernel_rfl) rfl ?_; conv => whnf
  repeat (first | ((first | refine qb rfl rfl ?_ | refine qi (by assumption) rfl rfl ?_ | refine ql rfl ?_ | refine qo rfl rfl ?_ | refine qs rfl rfl ?_ | refine qn rfl rfl ?_); conv => whnf) | (refine r_step (p_ostore rfl rfl rfl rfl rfl (by conv => lhs; whnf) rfl) rfl rfl (fun e => by first | exact .inl rfl | contradiction | exact .inr (.inl (by kernel_rfl))) ?_; conv => whnf))
  exact r_cell1 (x := oprA ⟨o.kind, f, o.name, o.key, o.edits⟩) rfl rfl rfl rfl trivial
theorem ac_iWishOK {o : Wsh} (ho : o.ok maxLen) : AC Tryz.prog 113 [wshA o] ⟨.v (.bool (wshB o)), []⟩ := by
  obtain ⟨q1, q2, q3, q4, q5⟩ := ho
  have hs := ac_hasS (k := o.kind)
  have o0 := ac_opOf (o := o) (f := 0)
  have o1 := ac_opOf (o := o) (f := 1)
  have b0 := ac_iOpOK (o := ⟨o.kind, 0, o.name, o.key, o.edits⟩) ⟨q1, q3, q4, q5⟩
  have b1 := ac_iOpOK (o := ⟨o.kind, 1, o.name, o.key, o.edits⟩) ⟨q1, q3, q4, q5⟩
  unfold hasS at hs
  unfold wshB
  by_cases hk : o.kind = 1 ∨ o.kind = 4
  · rw [if_pos hk]
    rw [decide_eq_true hk] at hs
    cases hn : okN o.source with
    | false =>
      rw [Bool.false_and]
      refine r_of Th_ok (by kernel_rfl) Tryz.func113 rfl Tryz.ntmps113 Tryz.results113 (by kernel_rfl) rfl ?_; conv => whnf
      repeat (first | ((first | refine qb rfl rfl ?_ | refine qi (by assumption) rfl rfl ?_ | refine ql rfl ?_ | refine qo rfl rfl ?_ | refine qs rfl rfl ?_ | refine qn rfl rfl ?_); conv => whnf) | (refine r_step (p_ostore rfl rfl rfl rfl rfl (by conv => lhs; whnf) rfl) rfl rfl (fun e => by first | exact .inl rfl | contradiction | exact .inr (.inl (by kernel_rfl))) ?_; conv => whnf) | (refine qc (hs) rfl ?_; conv => whnf) | (refine qc (ac_nameOK q2 hn) rfl ?_; conv => whnf))
      exact r_ret1 rfl trivial
    | true =>
      rw [Bool.true_and]
      refine r_of Th_ok (by kernel_rfl) Tryz.func113 rfl Tryz.ntmps113 Tryz.results113 (by kernel_rfl) rfl ?_; conv => whnf
      repeat (first | ((first | refine qb rfl rfl ?_ | refine qi (by assumption) rfl rfl ?_ | refine ql rfl ?_ | refine qo rfl rfl ?_ | refine qs rfl rfl ?_ | refine qn rfl rfl ?_); conv => whnf) | (refine r_step (p_ostore rfl rfl rfl rfl rfl (by conv => lhs; whnf) rfl) rfl rfl (fun e => by first | exact .inl rfl | contradiction | exact .inr (.inl (by kernel_rfl))) ?_; conv => whnf) | (refine qc (hs) rfl ?_; conv => whnf) | (refine qc (ac_nameOK q2 hn) rfl ?_; conv => whnf) | (refine qc (o1) rfl ?_; conv => whnf) | (refine qc (b1) rfl ?_; conv => whnf))
      exact r_ret1 rfl trivial
  · rw [if_neg hk]
    rw [decide_eq_false hk] at hs
    by_cases hs0 : o.source = eB
    · rw [decide_eq_true hs0, Bool.true_and]
      refine r_of Th_ok (by kernel_rfl) Tryz.func113 rfl Tryz.ntmps113 Tryz.results113 (by kernel_rfl) rfl ?_; conv => whnf
      repeat (first | (refine r_put (p_bin (b_seq_t hs0) rfl rfl rfl) rfl rfl ?_; conv => whnf) | ((first | refine qb rfl rfl ?_ | refine qi (by assumption) rfl rfl ?_ | refine ql rfl ?_ | refine qo rfl rfl ?_ | refine qs rfl rfl ?_ | refine qn rfl rfl ?_); conv => whnf) | (refine r_step (p_ostore rfl rfl rfl rfl rfl (by conv => lhs; whnf) rfl) rfl rfl (fun e => by first | exact .inl rfl | contradiction | exact .inr (.inl (by kernel_rfl))) ?_; conv => whnf) | (refine qc (hs) rfl ?_; conv => whnf) | (refine qc (o0) rfl ?_; conv => whnf) | (refine qc (b0) rfl ?_; conv => whnf))
      exact r_ret1 rfl trivial
    · rw [decide_eq_false hs0, Bool.false_and]
      refine r_of Th_ok (by kernel_rfl) Tryz.func113 rfl Tryz.ntmps113 Tryz.results113 (by kernel_rfl) rfl ?_; conv => whnf
      repeat (first | (refine r_put (p_bin (b_seq_f hs0) rfl rfl rfl) rfl rfl ?_; conv => whnf) | ((first | refine qb rfl rfl ?_ | refine qi (by assumption) rfl rfl ?_ | refine ql rfl ?_ | refine qo rfl rfl ?_ | refine qs rfl rfl ?_ | refine qn rfl rfl ?_); conv => whnf) | (refine r_step (p_ostore rfl rfl rfl rfl rfl (by conv => lhs; whnf) rfl) rfl rfl (fun e => by first | exact .inl rfl | contradiction | exact .inr (.inl (by kernel_rfl))) ?_; conv => whnf) | (refine qc (hs) rfl ?_; conv => whnf))
      exact r_ret1 rfl trivial
end Go.Proofs.YtmfmclnklpbiaaaGreat.AM
namespace Go.Proofs.YtmfmclnklpbiaaaGreat.AM
open Go Go.RowKit
set_option linter.unusedVariables false
set_option linter.unusedSimpArgs false
set_option maxRecDepth 100000
section
variable {P : Program} {Θ : Tab} {s : St} {ty : TypeId} {pos : String} {after : Array Edge} {g : Option (Nat × Bool)}
/-- a plain datum stored into a row that owns its lists -/
theorem p_ostored {d : Option Tmp} {t : TypeId} {x y : Operand} {l i c : Nat} {p : List Nat} {ob : OB} {q z v : AV} (hq : ob.xs[i]? = some q) (hx : s.ev x = .optr l i p c) (ho : s.hp l = some ob) (hg : getP q p 0 = some (z, c)) (hs : ((Θ.look t).known && (Nat.beq (asz z) (Θ.look t).size && Nat.beq (asz v) (asz z))) = true) (hy : s.ev y = v) (hv : noLst v = true) (hd : ob.e.deep = true := by rfl) (hc : cOK y = true := by rfl) :
    Pre P Θ ⟨d, .store t x y, ty, pos, after, g⟩ s ⟨.any, some fun s' => s'.set l (some ⟨ob.e, ob.sz, ob.xs.set i (setP q p v)⟩)⟩ := by
  simp only [Bool.and_eq_true] at hs
  exact ⟨cOK_spec hc, hs.1, l, i, p, c, ob, hx, ho, .inr (.inr (.inl ⟨q, z, v, hd, hq, hg, Nat.eq_of_beq_eq_true hs.2.1, hy, hv, Nat.eq_of_beq_eq_true hs.2.2, rfl⟩))⟩
theorem p_leno {d : Option Tmp} {x : Operand} {t : TypeId} {l m : Nat} {ob : OB} (hx : s.ev x = .own l) (ho : s.hp l = some ob) (hm : ob.xs.length = m) (hok : ∃ e sz b z, Θ.look t = .slice e sz b z) : Pre P Θ ⟨d, .call ⟨.builtin .len, #[x], #[t]⟩, ty, pos, after, g⟩ s ⟨.v (.int .i64 (m : Int)), none⟩ :=
  p_len hx (by simp [lenA, ho, hm]) hok
/-- a body that writes into a row, of whatever kind -/
theorem r_ofN (hΘ : TabOK P Θ) (hm : P.follows .mixedOrders = true) {f : FuncId} {fn : Func} {c : Code} {n r : Nat} (hf : P.funcs[f]? = some fn) (hb : fn.body = some c) (hnt : fn.ntmps = n) (hrs : fn.results = #[.tmp r]) (hnm : (fn.name == "runtime.NumGoroutine") = false)
    {args : List AV} {ob : OB} {xs' : List AV} {v : Value} (hlen : Nat.ble (args.length + 1) n = true) (h : runC P Θ n c (RetM r ob.e ob.sz xs' v) (St.initM ob args)) (hsh : ob.e.shut = true := by rfl) : ACM P f ob xs' args v := by
  have hw : ∀ (e : ET) (p : Nat → Bool), e.shut = true → withinE p e = true := fun e p h => by cases e <;> first | rfl | cases h
  refine acg_of (rs := [.tmp r]) hΘ hm hf hb hnt (by rw [hrs]) hnm (Nat.le_of_ble_eq_true hlen) rfl ?_ (acode_mono _ _ (fun e s he => ?_) (runC_sound _ _ _ h))
  · simp only [List.all_cons, List.all_nil, hw _ _ hsh]; rfl
  · have key : (s.sl r = .v v ∧ s.hp 0 = some ⟨ob.e, ob.sz, xs'⟩) → Ret Θ [.tmp r] [⟨ob.e, ob.sz, xs'⟩] ⟨.v v, []⟩ s := fun ⟨h1, h2⟩ => ⟨⟨h2, trivial⟩, [], by simp, trivial, ⟨trivial, trivial⟩, trivial, ⟨.inl ⟨h1, rfl⟩, trivial⟩⟩
    cases e with
    | normal => exact key he
    | ret => exact key he
    | exit id => exact he.elim
/-- a struct with two own lists is the result -/
theorem r_cellM {a t l l1 l2 : Nat} {ob o1 o2 : OB} {t' : Option Nat} {Θ : Tab} (h1 : s.sl a = .optr l 0 [] 0) (ho : s.hp l = some ob) (hop : ob.e.open_ = false) (hoe : openE ob.e ob.xs 0 = some (.o t' 0 (.mix [.own l1, .own l2]))) (ho1 : s.hp l1 = some o1) (ho2 : s.hp l2 = some o2) (hn : Nat.beq l1 l2 = false) (hk : ((Θ.look t).known && (Θ.look t).isAgg && Nat.beq 2 (Θ.look t).size) = true) (hok1 : okL l1 = true := by rfl) (hok2 : okL l2 = true := by rfl) (hs1 : o1.e.shut = true := by rfl) (hs2 : o2.e.shut = true := by rfl) :
    RetQ Θ [.cell a t] ⟨.mix [.own 0, .own 1], [o1, o2]⟩ .ret s := by
  have hr : rvA s (.cell a t) = .mix [.own l1, .own l2] := by
    simp only [rvA, h1, ho, hop, hoe, cond_false]; rfl
  simp only [Bool.and_eq_true] at hk
  have hne : l1 ≠ l2 := fun e => by rw [e] at hn; simp at hn
  refine ⟨trivial, [l1, l2], by simp [hne], ⟨⟨ho1, hok1, hs1⟩, ⟨ho2, hok2, hs2⟩, trivial⟩, ⟨⟨hk.1.1, by rw [hr]; exact hk.1.2.symm, by rw [hr]; exact Nat.eq_of_beq_eq_true hk.2, .inl ⟨l, ob, _, h1, ho, .inr ⟨hop, _, _, hoe, rfl⟩⟩⟩, trivial⟩, trivial, ⟨.inl ⟨?_, rfl⟩, trivial⟩⟩
  rw [hr]; rfl
end
theorem noL_int {l : List Int} : ∀ x ∈ l.map intA, noLst x = true := fun x hx => by obtain ⟨_, _, rfl⟩ := List.mem_map.1 hx; rfl
theorem noL_ent {l : List Ent} : ∀ x ∈ l.map entA, noLst x = true := fun x hx => by obtain ⟨_, _, rfl⟩ := List.mem_map.1 hx; rfl
def markedI : Nat → Int → List Int
  | 0, _ => []
  | n + 1, k => k :: markedI n (k + 1)
theorem markedI_length : ∀ (n : Nat) (k : Int), (markedI n k).length = n
  | 0, _ => rfl
  | n + 1, k => by simp [markedI, markedI_length n (k + 1)]
theorem markedI_get : ∀ (n : Nat) (k0 : Int) (k : Nat) (h : k < n), (markedI n k0)[k]'(by rw [markedI_length]; exact h) = k0 + k
  | n + 1, k0, 0, h => by simp [markedI]
  | n + 1, k0, k + 1, h => by
    have := markedI_get n (k0 + 1) k (by omega)
    simp only [markedI, List.getElem_cons_succ]
    rw [this]; omega
theorem markedI_snoc : ∀ (n : Nat) (k : Int), markedI (n + 1) k = markedI n k ++ [k + n]
  | 0, k => by simp [markedI]
  | n + 1, k => by
    rw [markedI, markedI_snoc n (k + 1), markedI]
    have e : k + 1 + (n : Int) = k + ((n + 1 : Nat) : Int) := by omega
    rw [e]; rfl
def stepC (c : Cmt) (k : Int) : Int := k + c.1.length + 2 * c.2.length
def markC (c : Cmt) (k : Int) : Cmt := (markedI c.1.length k, marked c.2.length (k + c.1.length))
def kA : List Cmt → Int → Int
  | [], k => k
  | c :: cs, k => kA cs (stepC c k)
def markedC : List Cmt → Int → List Cmt
  | [], _ => []
  | c :: cs, k => markC c k :: markedC cs (stepC c k)
theorem kA_app : ∀ (a b : List Cmt) (k : Int), kA (a ++ b) k = kA b (kA a k)
  | [], b, k => rfl
  | c :: a, b, k => by simp only [List.cons_append, kA]; exact kA_app a b _
theorem markedC_app : ∀ (a b : List Cmt) (k : Int), markedC (a ++ b) k = markedC a k ++ markedC b (kA a k)
  | [], b, k => rfl
  | c :: a, b, k => by simp only [List.cons_append, markedC, kA]; rw [markedC_app a b _]
theorem markedC_length : ∀ (l : List Cmt) (k : Int), (markedC l k).length = l.length
  | [], _ => rfl
  | c :: l, k => by simp [markedC, markedC_length l _]
theorem markedC_snoc {l : List Cmt} {i : Nat} {k : Int} (h : i < l.length) : markedC (l.take (i + 1)) k = markedC (l.take i) k ++ [markC l[i] (kA (l.take i) k)] := by
  rw [List.take_succ_eq_append_getElem h, markedC_app]; rfl
theorem kA_snoc {l : List Cmt} {i : Nat} {k : Int} (h : i < l.length) : kA (l.take (i + 1)) k = stepC l[i] (kA (l.take i) k) := by
  rw [List.take_succ_eq_append_getElem h, kA_app]; rfl
theorem markedC_get {l : List Cmt} {i : Nat} {k : Int} (h : i < l.length) : (markedC l k)[i]'(by rw [markedC_length]; exact h) = markC l[i] (kA (l.take i) k) := by
  have h1 : l = l.take i ++ l.drop i := (List.take_append_drop i l).symm
  have h2 : markedC l k = markedC (l.take i) k ++ markedC (l.drop i) (kA (l.take i) k) := by rw [← markedC_app, List.take_append_drop]
  have h3 : (markedC (l.take i) k).length = i := by rw [markedC_length, List.length_take]; omega
  have h4 : (markedC l k)[i]? = some (markC l[i] (kA (l.take i) k)) := by
    rw [h2, List.getElem?_append_right (by omega), h3, Nat.sub_self, List.drop_eq_getElem_cons h]; rfl
  obtain ⟨_, h5⟩ := List.getElem?_eq_some_iff.1 h4
  exact h5
def totC : List Cmt → Nat
  | [] => 0
  | c :: cs => c.1.length + c.2.length + totC cs
theorem totC_take : ∀ (l : List Cmt) (i : Nat), totC (l.take i) ≤ totC l
  | [], i => by simp [totC]
  | c :: l, 0 => by simp [totC]
  | c :: l, i + 1 => by have := totC_take l i; simp only [List.take_succ_cons, totC]; omega
theorem totC_at : ∀ (l : List Cmt) (i : Nat) (h : i < l.length), l[i].1.length + l[i].2.length ≤ totC l
  | c :: l, 0, h => by simp [totC]
  | c :: l, i + 1, h => by have := totC_at l i (by simpa using h); simp only [List.getElem_cons_succ, totC]; omega
theorem kA_le : ∀ (l : List Cmt) (k : Int), k ≤ kA l k ∧ kA l k ≤ k + 2 * totC l
  | [], k => by simp [kA, totC]
  | c :: l, k => by
    have := kA_le l (stepC c k)
    simp only [kA, totC]
    unfold stepC at *
    omega
theorem szC_tot {c : Cmt} {l : Int} (h : 0 ≤ szC c l) : szC c l ≤ l - c.1.length - c.2.length := by
  unfold szC at h ⊢
  by_cases h1 : szI c.1.length l < 0
  · rw [if_pos h1] at h; omega
  · rw [if_neg h1] at h ⊢
    by_cases h2 : szL eSz c.2 (szI c.1.length l) < 0
    · rw [if_pos h2] at h; omega
    · rw [if_neg h2] at h ⊢
      have h3 : szI c.1.length l = l - c.1.length := by unfold szI at h1 ⊢; split <;> rename_i hh <;> simp_all
      rw [h3] at h h2 ⊢
      unfold szL at h ⊢
      split at h
      · omega
      · rename_i hn
        rw [if_neg hn]
        have := (szF_le h).1
        omega
attribute [local irreducible] ACode AOps AOps2 RetG RetM Pre ACG
theorem ac_toCommitM {c : Cmt} (hm : c.1.length ≤ 1048576) (hm2 : c.2.length ≤ 1048576) : AC Tryz.prog 67 [comA c] ⟨.mix [.own 0, .own 1], [⟨3, 1, c.1.map intA⟩, ⟨163, 2, c.2.map entA⟩]⟩ := by
  refine r_of Th_ok (by kernel_rfl) Tryz.func67 rfl Tryz.ntmps67 Tryz.results67 (by kernel_rfl) rfl ?_; conv => whnf
  repeat (first | ((first | refine qb rfl rfl ?_ | refine qi (by assumption) rfl rfl ?_ | refine ql rfl ?_ | refine qo rfl rfl ?_ | refine qs rfl rfl ?_ | refine qn rfl rfl ?_); conv => whnf) | (refine qc (ac_toIntS hm) rfl ?_; conv => whnf) | (refine qc (ac_toEntryS hm2) rfl ?_; conv => whnf) | (refine r_step (p_ostoreo rfl rfl rfl rfl rfl rfl) rfl rfl (fun e => by first | exact .inl rfl | contradiction | exact .inr (.inl (by kernel_rfl))) ?_; conv => whnf))
  exact r_cellM rfl rfl rfl rfl rfl rfl rfl rfl
theorem ac_toCommitSD {l : List Cmt} (hm : l.length ≤ 1048576) (hc : ∀ c ∈ l, c.1.length ≤ 1048576 ∧ c.2.length ≤ 1048576) : AC Tryz.prog 29 [.lst 2 (l.map comA)] ⟨.own 0, [⟨.d 123, 2, l.map comA⟩]⟩ := by
  refine r_of Th_ok (by kernel_rfl) Tryz.func29 rfl Tryz.ntmps29 Tryz.results29 (by kernel_rfl) rfl ?_; conv => whnf
  repeat (first | ((first | refine qb rfl rfl ?_ | refine qi (by assumption) rfl rfl ?_ | refine ql rfl ?_ | refine qo rfl rfl ?_ | refine qs rfl rfl ?_ | refine qn rfl rfl ?_); conv => whnf) | (refine r_gh (p_make (n := l.length) (by omega) (by omega) (by simp; rfl) (by simp; rfl) rfl rfl) rfl rfl (fun e => by cases e) (Gh.z2d 8 rfl (Gh.done ?_)); conv => whnf))
  have hrow : List.replicate l.length (AV.agg [.lst 1 [], .lst 2 []]) = (l.take 0 ++ List.replicate (l.length - 0) comZ).map comA := by simp [comA]
  refine r_loop (ι := { k : Nat // k ≤ l.length }) (fun k => ⟨[(0, .lst 2 (l.map comA)), (3, .own 8), (4, .v (.int .i64 (k.1 : Int)))], [(8, ⟨.d 123, 2, (l.take k.1 ++ List.replicate (l.length - k.1) comZ).map comA⟩)]⟩) (fun k => l.length - k.1) ⟨0, Nat.zero_le _⟩ ⟨⟨congrArg (fun x => some (OB.mk _ _ x)) hrow, trivial⟩, .inl ⟨rfl, rfl⟩, .inl ⟨rfl, rfl⟩, .inl ⟨rfl, rfl⟩, trivial⟩ ?_
  rintro ⟨k, hk⟩
  dsimp only
  conv => whnf
  by_cases hlt : k < l.length
  · obtain ⟨q1, q2⟩ := hc _ (List.getElem_mem hlt)
    have hlt2 : k < (l.take k ++ List.replicate (l.length - k) comZ).length := by simp; omega
    have hset := congrArg (List.map comA) (fill_set l comZ k hlt)
    rw [List.map_set] at hset
    have hopn : openE (.d 123) ((l.take k ++ List.replicate (l.length - k) comZ).map comA) k = some (.o (some 123) k (comA (l.take k ++ List.replicate (l.length - k) comZ)[k])) := by
      simp only [openE, getA comA hlt2]
    repeat (first | ((first | refine qb rfl rfl ?_ | refine qi (by assumption) rfl rfl ?_ | refine ql rfl ?_ | refine qo rfl rfl ?_ | refine qs rfl rfl ?_ | refine qn rfl rfl ?_); conv => whnf) | (refine qc (ac_toCommitM q1 q2) rfl ?_; conv => whnf) | (refine r_put (p_oidx (by simpa using hlt2) rfl rfl rfl rfl rfl) rfl rfl ?_; conv => whnf))
    refine r_gh (p_ostoreo rfl rfl hopn rfl rfl rfl) rfl rfl (fun e => by cases e) (Gh.s2d 21 rfl noL_int (Gh.s2d 1021 rfl noL_ent (Gh.fold 8 21 [0] rfl rfl rfl rfl rfl rfl (Gh.fold 8 1021 [1] rfl rfl rfl rfl rfl rfl (Gh.shut 8 (z := .agg [.lst 1 [], .lst 2 []]) (y' := comA l[k]) rfl rfl (Gh.done ?_))))))
    conv => whnf
    repeat (((first | refine qb rfl rfl ?_ | refine qi (by assumption) rfl rfl ?_ | refine ql rfl ?_ | refine qo rfl rfl ?_ | refine qs rfl rfl ?_ | refine qn rfl rfl ?_); conv => whnf))
    exact ⟨⟨k + 1, hlt⟩, ⟨⟨congrArg (fun x => some (OB.mk _ _ x)) hset, trivial⟩, .inl ⟨rfl, rfl⟩, .inl ⟨rfl, rfl⟩, .inl ⟨rfl, rfl⟩, trivial⟩, by simp; omega⟩
  · have hkk : k = l.length := by omega
    subst hkk
    repeat (((first | refine qb rfl rfl ?_ | refine qi (by assumption) rfl rfl ?_ | refine ql rfl ?_ | refine qo rfl rfl ?_ | refine qs rfl rfl ?_ | refine qn rfl rfl ?_); conv => whnf))
    exact r_own1 rfl (by show some (OB.mk _ _ _) = _; rw [List.take_length, Nat.sub_self, List.replicate_zero, List.append_nil])
theorem ac_markIntU {l : List Int} {k0 : Int} (hm : l.length ≤ 1048600) (h0 : 0 ≤ k0) (h1 : k0 ≤ 8388608) : ACM Tryz.prog 85 ⟨.u, 1, l.map intA⟩ ((markedI l.length k0).map intA) [.v (.int .i64 k0)] (.int .i64 (k0 + l.length)) := by
  refine r_ofN Th_ok (by kernel_rfl) Tryz.func85 rfl Tryz.ntmps85 Tryz.results85 (by kernel_rfl) rfl ?_
  conv => whnf
  refine r_loop (ι := { k : Nat // k ≤ l.length }) (fun k => ⟨[(0, .own 0), (1, .v (.int .i64 (k0 + (k.1 : Int)))), (5, .v (.int .i64 (k.1 : Int)))], [(0, ⟨.u, 1, (markedI k.1 k0 ++ l.drop k.1).map intA⟩)]⟩) (fun k => l.length - k.1) ⟨0, Nat.zero_le _⟩ (by
    refine ⟨⟨rfl, trivial⟩, .inl ⟨rfl, rfl⟩, .inl ⟨?_, rfl⟩, .inl ⟨rfl, rfl⟩, trivial⟩
    show AV.v (.int .i64 k0) = _
    simp) ?_
  rintro ⟨k, hk⟩
  dsimp only
  have hml : (markedI k k0 ++ l.drop k).length = l.length := by simp [markedI_length]; omega
  have hml2 : ((markedI k k0 ++ l.drop k).map intA).length = l.length := by rw [List.length_map]; exact hml
  conv => whnf
  by_cases hlt : k < l.length
  · have hlt' : k < (markedI k k0 ++ l.drop k).length := by omega
    have hset : (markedI k k0 ++ l.drop k).set k (k0 + k) = markedI (k + 1) k0 ++ l.drop (k + 1) := by
      rw [List.set_append_right _ _ (by rw [markedI_length]; exact Nat.le_refl _), markedI_length, Nat.sub_self, List.drop_eq_getElem_cons hlt, List.set_cons_zero, markedI_snoc, List.append_assoc]; rfl
    have hset' : ((markedI k k0 ++ l.drop k).map intA).set k (intA (k0 + k)) = (markedI (k + 1) k0 ++ l.drop (k + 1)).map intA := by rw [← List.map_set, hset]
    repeat (first | (refine r_put (p_leno (m := l.length) rfl rfl hml2 ⟨_, _, _, _, rfl⟩) rfl rfl ?_; conv => whnf) | ((first | refine qb rfl rfl ?_ | refine qi (by assumption) rfl rfl ?_ | refine ql rfl ?_ | refine qo rfl rfl ?_ | refine qs rfl rfl ?_ | refine qn rfl rfl ?_); conv => whnf) | (refine r_put (p_oidx (by simpa using hlt') rfl rfl rfl rfl rfl) rfl rfl ?_; conv => whnf) | (refine r_step (p_ostored (getA _ hlt') rfl rfl rfl rfl rfl rfl) rfl rfl (fun e => by first | exact .inl rfl | contradiction | exact .inr (.inl (by kernel_rfl))) ?_; conv => whnf))
    refine ⟨⟨k + 1, hlt⟩, ⟨⟨?_, trivial⟩, .inl ⟨rfl, rfl⟩, .inl ⟨?_, rfl⟩, .inl ⟨rfl, rfl⟩, trivial⟩, by simp; omega⟩
    · exact congrArg (fun x => some (OB.mk _ _ x)) hset'
    · show AV.v (.int .i64 (k0 + k + 1)) = _
      congr 2
      simp; omega
  · have hkk : k = l.length := by omega
    subst hkk
    repeat (first | (refine r_put (p_leno (m := l.length) rfl rfl hml2 ⟨_, _, _, _, rfl⟩) rfl rfl ?_; conv => whnf) | ((first | refine qb rfl rfl ?_ | refine qi (by assumption) rfl rfl ?_ | refine ql rfl ?_ | refine qo rfl rfl ?_ | refine qs rfl rfl ?_ | refine qn rfl rfl ?_); conv => whnf) | (rw [hml]))
    exact r_retM rfl (by show some (OB.mk _ _ _) = _; simp)
theorem ac_heldIntS {n : Nat} {k0 : Int} (hm : n ≤ 1048600) (h0 : 0 ≤ k0) (h1 : k0 ≤ 8388608) : AC Tryz.prog 124 [.lst 1 ((markedI n k0).map intA), .v (.int .i64 k0)] ⟨.v (.int .i64 (k0 + n)), []⟩ := by
  have hml := markedI_length n k0
  refine r_of Th_ok (by kernel_rfl) Tryz.func124 rfl Tryz.ntmps124 Tryz.results124 (by kernel_rfl) rfl ?_; conv => whnf
  refine r_loop (ι := { k : Nat // k ≤ n }) (fun k => ⟨[(0, .lst 1 ((markedI n k0).map intA)), (1, .v (.int .i64 (k0 + (k.1 : Int)))), (5, .v (.int .i64 (k.1 : Int)))], []⟩) (fun k => n - k.1) ⟨0, Nat.zero_le _⟩ (by
    refine ⟨trivial, .inl ⟨rfl, rfl⟩, .inl ⟨?_, rfl⟩, .inl ⟨rfl, rfl⟩, trivial⟩
    show AV.v (.int .i64 k0) = _
    simp) ?_
  rintro ⟨k, hk⟩
  dsimp only
  conv => whnf
  by_cases hlt : k < n
  · have hlt' : k < (markedI n k0).length := by omega
    have hg := markedI_get n k0 k hlt
    repeat (first | ((first | refine qb rfl rfl ?_ | refine qi (by assumption) rfl rfl ?_ | refine ql rfl ?_ | refine qo rfl rfl ?_ | refine qs rfl rfl ?_ | refine qn rfl rfl ?_); conv => whnf) | (refine .inl (And.intro (by kernel_rfl) ?_); conv => whnf) | (refine r_put (p_bin (b_ne_f hg) rfl rfl rfl) rfl rfl ?_; conv => whnf))
    refine ⟨⟨k + 1, hlt⟩, ⟨trivial, .inl ⟨rfl, rfl⟩, .inl ⟨?_, rfl⟩, .inl ⟨rfl, rfl⟩, trivial⟩, by simp; omega⟩
    show AV.v (.int .i64 (k0 + k + 1)) = _
    congr 2
    simp; omega
  · have hkk : k = n := by omega
    subst hkk
    repeat (first | ((first | refine qb rfl rfl ?_ | refine qi (by assumption) rfl rfl ?_ | refine ql rfl ?_ | refine qo rfl rfl ?_ | refine qs rfl rfl ?_ | refine qn rfl rfl ?_); conv => whnf) | (refine .inl (And.intro (by kernel_rfl) ?_); conv => whnf) | (rw [hml]))
    exact r_ret1 rfl trivial
end Go.Proofs.YtmfmclnklpbiaaaGreat.AM
namespace Go.Proofs.YtmfmclnklpbiaaaGreat.AM
open Go Go.RowKit
set_option linter.unusedVariables false
set_option linter.unusedSimpArgs false
set_option maxRecDepth 100000
theorem fold_set2 {α : Type} (l : List α) (k : Nat) (a b : α) : (l.set k a).set k b = l.set k b := by simp [List.set_set]
attribute [local irreducible] ACode AOps AOps2 RetG RetM Pre ACG
theorem ac_markEntryU {l : List Ent} {k0 : Int} (hm : l.length ≤ 1048600) (h0 : 0 ≤ k0) (h1 : k0 ≤ 8388608) : ACM Tryz.prog 86 ⟨.u, 2, l.map entA⟩ ((marked l.length k0).map entA) [.v (.int .i64 k0)] (.int .i64 (k0 + 2 * l.length)) := by
  refine r_ofN Th_ok (by kernel_rfl) Tryz.func86 rfl Tryz.ntmps86 Tryz.results86 (by kernel_rfl) rfl ?_
  conv => whnf
  refine r_loop (ι := { k : Nat // k ≤ l.length }) (fun k => ⟨[(0, .own 0), (1, .v (.int .i64 (k0 + 2 * (k.1 : Int)))), (5, .v (.int .i64 (k.1 : Int)))], [(0, ⟨.u, 2, (marked k.1 k0 ++ l.drop k.1).map entA⟩)]⟩) (fun k => l.length - k.1) ⟨0, Nat.zero_le _⟩ (by
    refine ⟨⟨rfl, trivial⟩, .inl ⟨rfl, rfl⟩, .inl ⟨?_, rfl⟩, .inl ⟨rfl, rfl⟩, trivial⟩
    show AV.v (.int .i64 k0) = _
    simp) ?_
  rintro ⟨k, hk⟩
  dsimp only
  have hml : (marked k k0 ++ l.drop k).length = l.length := by simp [marked_length]; omega
  have hml2 : ((marked k k0 ++ l.drop k).map entA).length = l.length := by rw [List.length_map]; exact hml
  conv => whnf
  by_cases hlt : k < l.length
  · have hlt' : k < (marked k k0 ++ l.drop k).length := by omega
    have hset : (marked k k0 ++ l.drop k).set k (markB (k0 + 2 * k), k0 + 2 * k + 1) = marked (k + 1) k0 ++ l.drop (k + 1) := by
      rw [List.set_append_right _ _ (by rw [marked_length]; exact Nat.le_refl _), marked_length, Nat.sub_self, List.drop_eq_getElem_cons hlt, List.set_cons_zero, marked_snoc, List.append_assoc]; rfl
    have hset' : ((marked k k0 ++ l.drop k).map entA).set k (entA (markB (k0 + 2 * k), k0 + 2 * k + 1)) = (marked (k + 1) k0 ++ l.drop (k + 1)).map entA := by rw [← List.map_set, hset]
    repeat (first | (refine r_put (p_leno (m := l.length) rfl rfl hml2 ⟨_, _, _, _, rfl⟩) rfl rfl ?_; conv => whnf) | ((first | refine qb rfl rfl ?_ | refine qi (by assumption) rfl rfl ?_ | refine ql rfl ?_ | refine qo rfl rfl ?_ | refine qs rfl rfl ?_ | refine qn rfl rfl ?_); conv => whnf) | (refine qc (ac_markText (k := k0 + 2 * (k : Int)) (by omega) (by omega)) rfl ?_; conv => whnf) | (refine r_put (p_oidx (by simpa using hlt') rfl rfl rfl rfl rfl) rfl rfl ?_; conv => whnf) | (refine r_step (p_ostored (getA _ hlt') rfl rfl rfl rfl rfl rfl) rfl rfl (fun e => by first | exact .inl rfl | contradiction | exact .inr (.inl (by kernel_rfl))) ?_; conv => whnf) | (refine r_step (p_ostored (set_at (by simpa using hlt')) rfl rfl rfl rfl rfl rfl) rfl rfl (fun e => by first | exact .inl rfl | contradiction | exact .inr (.inl (by kernel_rfl))) ?_; conv => whnf))
    refine ⟨⟨k + 1, hlt⟩, ⟨⟨?_, trivial⟩, .inl ⟨rfl, rfl⟩, .inl ⟨?_, rfl⟩, .inl ⟨rfl, rfl⟩, trivial⟩, by simp; omega⟩
    · exact congrArg (fun x => some (OB.mk _ _ x)) (Eq.trans (fold_set2 _ _ _ _) hset')
    · show AV.v (.int .i64 (k0 + 2 * k + 1 + 1)) = _
      congr 2
      simp; omega
  · have hkk : k = l.length := by omega
    subst hkk
    repeat (first | (refine r_put (p_leno (m := l.length) rfl rfl hml2 ⟨_, _, _, _, rfl⟩) rfl rfl ?_; conv => whnf) | ((first | refine qb rfl rfl ?_ | refine qi (by assumption) rfl rfl ?_ | refine ql rfl ?_ | refine qo rfl rfl ?_ | refine qs rfl rfl ?_ | refine qn rfl rfl ?_); conv => whnf) | (rw [hml]))
    exact r_retM rfl (by show some (OB.mk _ _ _) = _; simp)
set_option maxHeartbeats 1000000 in
theorem ac_markCommitS {l : List Cmt} {k0 : Int} (hm : l.length ≤ 1048600) (ht : totC l ≤ 1048600) (h0 : 0 ≤ k0) (h1 : k0 ≤ 4194304) : ACM Tryz.prog 42 ⟨.d 123, 2, l.map comA⟩ ((markedC l k0).map comA) [.v (.int .i64 k0)] (.int .i64 (kA l k0)) := by
  refine r_ofN Th_ok (by kernel_rfl) Tryz.func42 rfl Tryz.ntmps42 Tryz.results42 (by kernel_rfl) rfl ?_
  conv => whnf
  refine r_loop (ι := { k : Nat // k ≤ l.length }) (fun k => ⟨[(0, .own 0), (1, .v (.int .i64 (kA (l.take k.1) k0))), (5, .v (.int .i64 (k.1 : Int)))], [(0, ⟨.d 123, 2, (markedC (l.take k.1) k0 ++ l.drop k.1).map comA⟩)]⟩) (fun k => l.length - k.1) ⟨0, Nat.zero_le _⟩ ⟨⟨rfl, trivial⟩, .inl ⟨rfl, rfl⟩, .inl ⟨rfl, rfl⟩, .inl ⟨rfl, rfl⟩, trivial⟩ ?_
  rintro ⟨i, hi⟩
  dsimp only
  have hmt : (markedC (l.take i) k0).length = i := by rw [markedC_length, List.length_take]; omega
  have hml : (markedC (l.take i) k0 ++ l.drop i).length = l.length := by rw [List.length_append, hmt, List.length_drop]; omega
  have hml2 : ((markedC (l.take i) k0 ++ l.drop i).map comA).length = l.length := by rw [List.length_map]; exact hml
  conv => whnf
  by_cases hlt : i < l.length
  case neg =>
    have hkk : i = l.length := by omega
    subst hkk
    repeat (first | (refine r_put (p_leno (m := l.length) rfl rfl hml2 ⟨_, _, _, _, rfl⟩) rfl rfl ?_; conv => whnf) | ((first | refine qb rfl rfl ?_ | refine qi (by assumption) rfl rfl ?_ | refine ql rfl ?_ | refine qo rfl rfl ?_ | refine qs rfl rfl ?_ | refine qn rfl rfl ?_); conv => whnf))
    exact r_retM (by show AV.v (.int .i64 (kA (l.take l.length) k0)) = _; rw [List.take_length]) (by show some (OB.mk _ _ _) = _; rw [List.take_length, List.drop_length, List.append_nil])
  have hb := kA_le (l.take i) k0
  have hb2 := totC_take l i
  have hb3 := totC_at l i hlt
  have hlt' : i < (markedC (l.take i) k0 ++ l.drop i).length := by omega
  have hat : (markedC (l.take i) k0 ++ l.drop i)[i]? = some l[i] := by
    rw [List.getElem?_append_right (by omega), hmt, Nat.sub_self, List.drop_eq_getElem_cons hlt]; rfl
  have hset : ((markedC (l.take i) k0 ++ l.drop i).map comA).set i (comA (markC l[i] (kA (l.take i) k0))) = (markedC (l.take (i + 1)) k0 ++ l.drop (i + 1)).map comA := by
    rw [← List.map_set, List.set_append_right _ _ (by omega), hmt, Nat.sub_self, List.drop_eq_getElem_cons hlt, List.set_cons_zero, markedC_snoc hlt, List.append_assoc]; rfl
  have hstep := kA_snoc (k := k0) hlt
  generalize hX : (markedC (l.take i) k0 ++ l.drop i).map comA = X at *
  generalize hK : kA (l.take i) k0 = K at *
  have hXl : i < X.length := by omega
  have hXi : X[i]? = some (comA l[i]) := by rw [← hX, List.getElem?_map, hat]; rfl
  have hopn : openE (.d 123) X i = some (.o (some 123) i (comA l[i])) := by simp only [openE, hXi]
  have hX2 : ∀ y : AV, (X.set i y)[i]? = some y := fun y => set_at hXl
  have hopn2 : ∀ y : AV, openE (.d 123) (X.set i y) i = some (.o (some 123) i y) := fun y => by simp only [openE, hX2 y]
  have hml3 : ∀ y : AV, i < (X.set i y).length := fun y => by rw [List.length_set]; exact hXl
  repeat (first | (refine r_put (p_leno (m := l.length) rfl rfl hml2 ⟨_, _, _, _, rfl⟩) rfl rfl ?_; conv => whnf) | ((first | refine qb rfl rfl ?_ | refine qi (by assumption) rfl rfl ?_ | refine ql rfl ?_ | refine qo rfl rfl ?_ | refine qs rfl rfl ?_ | refine qn rfl rfl ?_); conv => whnf))
  refine o_put (p_oidx hXl rfl rfl rfl rfl rfl) rfl rfl (o_put (p_ofld rfl rfl rfl) rfl rfl ?_)
  refine r_step (p_oldu rfl rfl hopn rfl rfl rfl) rfl rfl (fun e => by first | exact .inl rfl | contradiction | exact .inr (.inl (by kernel_rfl))) ?_
  conv => whnf
  refine r_gh (p_callm (ac_markIntU (l := (l[i]).1) (k0 := K) (by omega) (by omega) (by omega)) rfl rfl rfl rfl rfl rfl rfl) rfl rfl (fun e => by cases e) (Gh.fold 0 17 [0] rfl rfl rfl rfl rfl rfl (Gh.shut 0 (z := .agg [.lst 1 [], .lst 2 []]) (y' := .agg [.lst 1 ((markedI (l[i]).1.length K).map intA), .lst 2 ((l[i]).2.map entA)]) rfl rfl (Gh.done ?_)))
  conv => whnf
  repeat (((first | refine qb rfl rfl ?_ | refine qi (by assumption) rfl rfl ?_ | refine ql rfl ?_ | refine qo rfl rfl ?_ | refine qs rfl rfl ?_ | refine qn rfl rfl ?_); conv => whnf))
  refine o_put (p_oidx (hml3 _) rfl rfl rfl rfl rfl) rfl rfl (o_put (p_ofld rfl rfl rfl) rfl rfl ?_)
  refine r_step (p_oldu rfl rfl (hopn2 _) rfl rfl rfl) rfl rfl (fun e => by first | exact .inl rfl | contradiction | exact .inr (.inl (by kernel_rfl))) ?_
  conv => whnf
  refine r_gh (p_callm (ac_markEntryU (l := (l[i]).2) (k0 := K + (l[i]).1.length) (by omega) (by omega) (by omega)) rfl rfl rfl rfl rfl rfl rfl) rfl rfl (fun e => by cases e) (Gh.fold 0 24 [1] rfl rfl rfl rfl rfl rfl (Gh.shut 0 (z := .agg [.lst 1 [], .lst 2 []]) (y' := comA (markC l[i] K)) rfl rfl (Gh.done ?_)))
  conv => whnf
  repeat (((first | refine qb rfl rfl ?_ | refine qi (by assumption) rfl rfl ?_ | refine ql rfl ?_ | refine qo rfl rfl ?_ | refine qs rfl rfl ?_ | refine qn rfl rfl ?_); conv => whnf))
  refine ⟨⟨i + 1, hlt⟩, ⟨⟨?_, trivial⟩, .inl ⟨rfl, rfl⟩, .inl ⟨?_, rfl⟩, .inl ⟨rfl, rfl⟩, trivial⟩, by simp; omega⟩
  · exact congrArg (fun x => some (OB.mk _ _ x)) (Eq.trans (fold_set2 _ _ _ _) hset)
  · show AV.v (.int .i64 (K + (l[i]).1.length + 2 * (l[i]).2.length)) = _
    rw [hstep]; rfl
theorem ac_heldCommitS {l : List Cmt} {k0 : Int} (hm : l.length ≤ 1048600) (ht : totC l ≤ 1048600) (h0 : 0 ≤ k0) (h1 : k0 ≤ 4194304) : AC Tryz.prog 89 [.lst 2 ((markedC l k0).map comA), .v (.int .i64 k0)] ⟨.v (.int .i64 (kA l k0)), []⟩ := by
  have hml := markedC_length l k0
  refine r_of Th_ok (by kernel_rfl) Tryz.func89 rfl Tryz.ntmps89 Tryz.results89 (by kernel_rfl) rfl ?_; conv => whnf
  refine r_loop (ι := { k : Nat // k ≤ l.length }) (fun k => ⟨[(0, .lst 2 ((markedC l k0).map comA)), (1, .v (.int .i64 (kA (l.take k.1) k0))), (5, .v (.int .i64 (k.1 : Int)))], []⟩) (fun k => l.length - k.1) ⟨0, Nat.zero_le _⟩ (by refine ⟨?_, ?_⟩ <;> (repeat (first | trivial | exact ⟨rfl, trivial⟩ | refine ⟨rfl, ?_⟩ | refine ⟨.inl ⟨rfl, rfl⟩, ?_⟩ | refine ⟨.inr ⟨_, _, rfl, rfl, rfl, rfl, rfl⟩, ?_⟩))) ?_
  rintro ⟨i, hi⟩
  dsimp only
  conv => whnf
  by_cases hlt : i < l.length
  case neg =>
    have hkk : i = l.length := by omega
    subst hkk
    rw [List.take_length]
    repeat (first | ((first | refine qb rfl rfl ?_ | refine qi (by assumption) rfl rfl ?_ | refine ql rfl ?_ | refine qo rfl rfl ?_ | refine qs rfl rfl ?_ | refine qn rfl rfl ?_); conv => whnf) | (refine .inl (And.intro (by kernel_rfl) ?_); conv => whnf) | (rw [hml]))
    exact r_ret1 rfl trivial
  have hb := kA_le (l.take i) k0
  have hb2 := totC_take l i
  have hb3 := totC_at l i hlt
  have hstep := kA_snoc (k := k0) hlt
  have hgi : ((markedC l k0).map comA)[i]? = some (comA (markC l[i] (kA (l.take i) k0))) := by
    rw [List.getElem?_map, List.getElem?_eq_getElem (by omega), markedC_get hlt]; rfl
  generalize hK : kA (l.take i) k0 = K at *
  have hh1 := ac_heldIntS (n := (l[i]).1.length) (k0 := K) (by omega) (by omega) (by omega)
  have hh2 := ac_heldEntryS (n := (l[i]).2.length) (k := K + (l[i]).1.length) (by omega) (by omega) (by omega)
  repeat (first | (refine r_put (p_idx hgi rfl rfl rfl) rfl rfl ?_; conv => whnf) | ((first | refine qb rfl rfl ?_ | refine qi (by assumption) rfl rfl ?_ | refine ql rfl ?_ | refine qo rfl rfl ?_ | refine qs rfl rfl ?_ | refine qn rfl rfl ?_); conv => whnf) | (refine .inl (And.intro (by kernel_rfl) ?_); conv => whnf) | (refine qc (hh1) rfl ?_; conv => whnf) | (refine qc (hh2) rfl ?_; conv => whnf))
  refine ⟨⟨i + 1, hlt⟩, ⟨trivial, .inl ⟨rfl, rfl⟩, .inl ⟨?_, rfl⟩, .inl ⟨rfl, rfl⟩, trivial⟩, by simp; omega⟩
  show AV.v (.int .i64 (K + (l[i]).1.length + 2 * (l[i]).2.length)) = _
  rw [hstep]; rfl
end Go.Proofs.YtmfmclnklpbiaaaGreat.AM
namespace Go.Proofs.YtmfmclnklpbiaaaGreat.AM
open Go Go.RowKit
set_option linter.unusedVariables false
set_option linter.unusedSimpArgs false
set_option maxRecDepth 100000
attribute [local irreducible] ACode AOps AOps2 RetG RetM Pre ACG
set_option maxHeartbeats 4000000 in
theorem ac_l04OK {l : List Rf} (hm : l.length ≤ maxLen) (hk : ∀ e ∈ l, e.name.size ≤ maxLen) : AC Tryz.prog 57 [.lst 4 (l.map refA)] ⟨.v (.bool (refsB l)), []⟩ := by
  have hm' := hm
  unfold maxLen at hm'
  by_cases hin : l.length ≤ 8
  case neg =>
    rw [refsB_f (fun h => hin h.1)]
    refine r_of Th_ok (by kernel_rfl) Tryz.func57 rfl Tryz.ntmps57 Tryz.results57 (by kernel_rfl) rfl ?_; conv => whnf
    repeat (((first | refine qb rfl rfl ?_ | refine qi (by assumption) rfl rfl ?_ | refine ql rfl ?_ | refine qo rfl rfl ?_ | refine qs rfl rfl ?_ | refine qn rfl rfl ?_); conv => whnf))
    exact r_ret1 rfl trivial
  refine r_of Th_ok (by kernel_rfl) Tryz.func57 rfl Tryz.ntmps57 Tryz.results57 (by kernel_rfl) rfl ?_; conv => whnf
  repeat (((first | refine qb rfl rfl ?_ | refine qi (by assumption) rfl rfl ?_ | refine ql rfl ?_ | refine qo rfl rfl ?_ | refine qs rfl rfl ?_ | refine qn rfl rfl ?_); conv => whnf))
  refine c_loop (fun k : { k : Nat // k ≤ l.length ∧ ∀ i, i < k → refG l i } => ⟨[(0, .lst 4 (l.map refA)), (3, .v (.int .i64 (k.1 : Int)))], [], []⟩) (fun k => l.length - k.1) ⟨0, Nat.zero_le _, fun i h => by omega⟩ ⟨by refine ⟨?_, ?_⟩ <;> (repeat (first | trivial | exact ⟨rfl, trivial⟩ | refine ⟨rfl, ?_⟩ | refine ⟨.inl ⟨rfl, rfl⟩, ?_⟩ | refine ⟨.inr ⟨_, _, rfl, rfl, rfl, rfl, rfl⟩, ?_⟩)), trivial⟩ ?_
  rintro ⟨k, hk', hd⟩
  dsimp only at hk' hd ⊢
  by_cases hlt : k < l.length
  case neg =>
    rw [refsB_t ⟨hin, fun i hi => hd i (by omega)⟩]
    refine runC_sound _ _ _ ?_
    conv => whnf
    repeat (first | ((first | refine qb rfl rfl ?_ | refine qi (by assumption) rfl rfl ?_ | refine ql rfl ?_ | refine qo rfl rfl ?_ | refine qs rfl rfl ?_ | refine qn rfl rfl ?_); conv => whnf))
    exact r_ret1 rfl trivial
  have hsz := hk _ (List.getElem_mem hlt)
  have hpl := ac_l04At (l := l) (x := l[k].name) hm
  have bad : (refB l[k] = true → ¬ rAt (l.take k) l[k].name 0 < 0) → refsB l = false := fun q => refsB_f (fun h => by obtain ⟨_, q1, q2⟩ := h.2 k hlt; exact q q1 q2)
  have nxt : refB l[k] = true → rAt (l.take k) l[k].name 0 < 0 → ∀ i, i < k + 1 → refG l i := fun q1 q2 i hi => by
    rcases Nat.lt_or_ge i k with h | h
    · exact hd i h
    · have : i = k := by omega
      subst this; exact ⟨hlt, q1, q2⟩
  refine c_seq ?_
  refine runC_sound _ _ _ ?_
  conv => whnf
  repeat (first | ((first | refine qb rfl rfl ?_ | refine qi (by assumption) rfl rfl ?_ | refine ql rfl ?_ | refine qo rfl rfl ?_ | refine qs rfl rfl ?_ | refine qn rfl rfl ?_); conv => whnf))
  refine c_seq (c_block ?_)
  obtain ⟨g, hgg⟩ : ∃ g, g = l[k].gone := ⟨_, rfl⟩
  have hik : (l.map refA)[k]? = some (.agg [.v (.string l[k].name), .v (.int .i64 l[k].head), .v (.int .i64 l[k].ver), .v (.bool g)]) := by rw [List.getElem?_map, List.getElem?_eq_getElem hlt, hgg]; rfl
  refine c_cut (ι := Unit) (fun _ => ⟨[(0, .lst 4 (l.map refA)), (3, .v (.int .i64 (k : Int))), (4, .optr 5 0 [] 0)], [(5, ⟨.s 105, 4, [.agg [.v (.string l[k].name), .v (.int .i64 l[k].head), .v (.int .i64 l[k].ver), .v (.bool g)]]⟩)], []⟩) ?_ (fun _ => ?_)
  · refine runC_sound _ _ _ ?_
    conv => whnf
    repeat (first | (refine r_put (p_idx hik rfl rfl rfl) rfl rfl ?_; conv => whnf) | (refine r_step (p_ostore rfl rfl rfl rfl rfl (by conv => lhs; whnf) rfl) rfl rfl (fun e => by first | exact .inl rfl | contradiction | exact .inr (.inl (by kernel_rfl))) ?_; conv => whnf) | ((first | refine qb rfl rfl ?_ | refine qi (by assumption) rfl rfl ?_ | refine ql rfl ?_ | refine qo rfl rfl ?_ | refine qs rfl rfl ?_ | refine qn rfl rfl ?_); conv => whnf))
    exact ⟨(), ⟨by refine ⟨?_, ?_⟩ <;> (repeat (first | trivial | exact ⟨rfl, trivial⟩ | refine ⟨rfl, ?_⟩ | refine ⟨.inl ⟨rfl, rfl⟩, ?_⟩ | refine ⟨.inr ⟨_, _, rfl, rfl, rfl, rfl, rfl⟩, ?_⟩)), trivial⟩⟩
  refine runC_sound _ _ _ ?_
  conv => whnf
  cases hw : okN l[k].name with
  | false =>
    rw [bad (fun q => by rw [refB_n hw] at q; cases q)]
    as_aux_lemma =>
      repeat (first | (refine qc (ac_l00Word hsz hw) rfl ?_; conv => whnf) | ((first | refine qb rfl rfl ?_ | refine qi (by assumption) rfl rfl ?_ | refine ql rfl ?_ | refine qo rfl rfl ?_ | refine qs rfl rfl ?_ | refine qn rfl rfl ?_); conv => whnf))
      exact r_ret1 rfl trivial
  | true =>
    by_cases hv : 1 ≤ l[k].ver ∧ l[k].ver ≤ 1000000
    case neg =>
      rw [bad (fun q => by rw [refB_v hv] at q; cases q)]
      as_aux_lemma =>
        repeat (first | (refine qc (ac_l00Word hsz hw) rfl ?_; conv => whnf) | (refine qc (ac_in_f hv) rfl ?_; conv => whnf) | ((first | refine qb rfl rfl ?_ | refine qi (by assumption) rfl rfl ?_ | refine ql rfl ?_ | refine qo rfl rfl ?_ | refine qs rfl rfl ?_ | refine qn rfl rfl ?_); conv => whnf))
        exact r_ret1 rfl trivial
    by_cases hp : rAt l l[k].name 0 = (k : Int)
    case neg =>
      rw [bad (fun _ q => hp ((rAt_take hlt).2 q))]
      as_aux_lemma =>
        repeat (first | (refine qc (ac_l00Word hsz hw) rfl ?_; conv => whnf) | (refine qc (ac_in_t hv.1 hv.2) rfl ?_; conv => whnf) | (refine qc (hpl) rfl ?_; conv => whnf) | ((first | refine qb rfl rfl ?_ | refine qi (by assumption) rfl rfl ?_ | refine ql rfl ?_ | refine qo rfl rfl ?_ | refine qs rfl rfl ?_ | refine qn rfl rfl ?_); conv => whnf))
        exact r_ret1 rfl trivial
    have hp' := (rAt_take hlt).1 hp
    cases g with
    | true =>
      have hb := refB_g hw hv hgg.symm
      by_cases h0 : l[k].head = 0
      · rw [decide_eq_true h0] at hb
        as_aux_lemma =>
          repeat (first | (refine qc (ac_l00Word hsz hw) rfl ?_; conv => whnf) | (refine qc (ac_in_t hv.1 hv.2) rfl ?_; conv => whnf) | (refine qc (hpl) rfl ?_; conv => whnf) | ((first | refine qb rfl rfl ?_ | refine qi (by assumption) rfl rfl ?_ | refine ql rfl ?_ | refine qo rfl rfl ?_ | refine qs rfl rfl ?_ | refine qn rfl rfl ?_); conv => whnf))
          refine runC_sound _ _ _ ?_
          conv => whnf
          repeat (first | (refine r_put (p_bin (b_add (c := ((k + 1 : Nat) : Int)) (by omega) (by omega) (by omega)) rfl rfl rfl) rfl rfl ?_; conv => whnf) | ((first | refine qb rfl rfl ?_ | refine qi (by assumption) rfl rfl ?_ | refine ql rfl ?_ | refine qo rfl rfl ?_ | refine qs rfl rfl ?_ | refine qn rfl rfl ?_); conv => whnf))
          exact ⟨⟨k + 1, hlt, nxt hb hp'⟩, ⟨by refine ⟨?_, ?_⟩ <;> (repeat (first | trivial | exact ⟨rfl, trivial⟩ | refine ⟨rfl, ?_⟩ | refine ⟨.inl ⟨rfl, rfl⟩, ?_⟩ | refine ⟨.inr ⟨_, _, rfl, rfl, rfl, rfl, rfl⟩, ?_⟩)), trivial⟩, by simp; omega⟩
      · rw [decide_eq_false h0] at hb
        rw [bad (fun q => by rw [hb] at q; cases q)]
        as_aux_lemma =>
          repeat (first | (refine qc (ac_l00Word hsz hw) rfl ?_; conv => whnf) | (refine qc (ac_in_t hv.1 hv.2) rfl ?_; conv => whnf) | (refine qc (hpl) rfl ?_; conv => whnf) | ((first | refine qb rfl rfl ?_ | refine qi (by assumption) rfl rfl ?_ | refine ql rfl ?_ | refine qo rfl rfl ?_ | refine qs rfl rfl ?_ | refine qn rfl rfl ?_); conv => whnf))
          exact r_ret1 rfl trivial
    | false =>
      have hb := refB_h hw hv hgg.symm
      by_cases h0 : 1 ≤ l[k].head ∧ l[k].head ≤ 60
      · rw [decide_eq_true h0] at hb
        as_aux_lemma =>
          repeat (first | (refine qc (ac_l00Word hsz hw) rfl ?_; conv => whnf) | (refine qc (ac_in_t hv.1 hv.2) rfl ?_; conv => whnf) | (refine qc (hpl) rfl ?_; conv => whnf) | (refine qc (ac_in_t h0.1 h0.2) rfl ?_; conv => whnf) | ((first | refine qb rfl rfl ?_ | refine qi (by assumption) rfl rfl ?_ | refine ql rfl ?_ | refine qo rfl rfl ?_ | refine qs rfl rfl ?_ | refine qn rfl rfl ?_); conv => whnf))
          refine runC_sound _ _ _ ?_
          conv => whnf
          repeat (first | (refine r_put (p_bin (b_add (c := ((k + 1 : Nat) : Int)) (by omega) (by omega) (by omega)) rfl rfl rfl) rfl rfl ?_; conv => whnf) | ((first | refine qb rfl rfl ?_ | refine qi (by assumption) rfl rfl ?_ | refine ql rfl ?_ | refine qo rfl rfl ?_ | refine qs rfl rfl ?_ | refine qn rfl rfl ?_); conv => whnf))
          exact ⟨⟨k + 1, hlt, nxt hb hp'⟩, ⟨by refine ⟨?_, ?_⟩ <;> (repeat (first | trivial | exact ⟨rfl, trivial⟩ | refine ⟨rfl, ?_⟩ | refine ⟨.inl ⟨rfl, rfl⟩, ?_⟩ | refine ⟨.inr ⟨_, _, rfl, rfl, rfl, rfl, rfl⟩, ?_⟩)), trivial⟩, by simp; omega⟩
      · rw [decide_eq_false h0] at hb
        rw [bad (fun q => by rw [hb] at q; cases q)]
        as_aux_lemma =>
          repeat (first | (refine qc (ac_l00Word hsz hw) rfl ?_; conv => whnf) | (refine qc (ac_in_t hv.1 hv.2) rfl ?_; conv => whnf) | (refine qc (hpl) rfl ?_; conv => whnf) | (refine qc (ac_in_f h0) rfl ?_; conv => whnf) | ((first | refine qb rfl rfl ?_ | refine qi (by assumption) rfl rfl ?_ | refine ql rfl ?_ | refine qo rfl rfl ?_ | refine qs rfl rfl ?_ | refine qn rfl rfl ?_); conv => whnf))
          exact r_ret1 rfl trivial
end Go.Proofs.YtmfmclnklpbiaaaGreat.AM
