/- Texts of the machine over data, folded. -/
import Derived.Test.YtmfmclnklpbiaaaGreatKp6
import Derived.Test.YtmfmclnklpbiaaaGreatKp11
import Derived.Test.YtmfmclnklpbiaaaGreatKp12
import Derived.Test.YtmfmclnklpbiaaaGreatKp7
import Derived.Laws.StructEq
import Derived.Test.YtmfmclnklpbiaaaGreatKp9
namespace Go.Proofs.YtmfmclnklpbiaaaGreat.AM
open Go Go.RowKit
set_option linter.unusedVariables false
set_option linter.unusedSimpArgs false
set_option maxRecDepth 100000
attribute [local irreducible] ACode AOps AOps2 RetG RetM Pre ACG
set_option maxHeartbeats 4000000 in
theorem ac_sWish1 {nm src key : ByteArray} {es : List Edt} (q1 : nm.size ≤ maxLen) (q2 : src.size ≤ maxLen) (q3 : key.size ≤ maxLen) (q4 : es.length ≤ maxLen) (q5 : ∀ e ∈ es, e.key.size ≤ maxLen) (hn : okN nm = true) (hes : editsOK es = true) : AC Tryz.prog 58 [.agg [.v (.int .i64 1), .v (.string nm), .v (.string src), .v (.string key), .lst 3 (es.map edtA)]] ⟨.v (.bool (wshB ⟨1, nm, src, key, es⟩)), []⟩ := by
  have q4' := q4
  unfold maxLen at q4'
  by_cases he : es.length = 0
  case neg =>
    rw [show wshB _ = false from by simp [wshB, opB, hn, he]]
    as_aux_lemma =>
      refine o_of Th_ok (by kernel_rfl) Tryz.func58 rfl Tryz.ntmps58 Tryz.results58 (by kernel_rfl) rfl ?_
      repeat (first | refine o_put (p_ofld rfl rfl rfl) rfl rfl ?_ | refine o_put (p_old rfl rfl rfl rfl rfl rfl rfl) rfl rfl ?_ | refine o_put (p_mv (by conv => lhs; whnf)) rfl rfl ?_ | refine o_put (p_as (by conv => lhs; whnf)) rfl rfl ?_ | refine o_put (p_asc rfl) rfl rfl ?_ | refine o_put (p_pick (z := .v _) rfl rfl rfl rfl) rfl rfl ?_ | refine o_put (p_not rfl) rfl rfl ?_ | refine qC (ac_l00Word q1 hn) rfl ?_ | refine qC (ac_in_t (by omega : (1 : Int) ≤ 1) (by omega : (1 : Int) ≤ 6)) rfl ?_ | refine qC (ac_sEdts hes q4 q5) rfl ?_ | refine o_put (p_bin (by first | exact b_eq_t (by omega) | exact b_eq_f (by omega) | exact b_ne_t (by omega) | exact b_ne_f (by omega) | exact b_gt_t (by omega) | exact b_gt_f (by omega) | exact b_seq_t (by assumption) | exact b_seq_f (by assumption) | exact b_sne_t (by assumption) | exact b_sne_f (by assumption)) rfl rfl rfl) rfl rfl ?_ | refine o_put (p_lenm rfl ⟨_, _, _, _, rfl⟩) rfl rfl ?_ | refine o_nil (q_then ?_) | refine c_seq ?_ | refine c_reg ?_ | refine c_dreg (by kernel_rfl) ?_ | refine c_cond_t rfl ?_ | refine c_cond_f rfl ?_ | refine c_block ?_ | refine c_skip ?_ | refine o_skip rfl rfl ?_ | refine q_then ?_ | refine q_thenr ?_ | refine q_thenx ?_ | refine q_blkn ?_ | refine q_blkr ?_ | refine q_blkx ?_ | refine q_blko rfl ?_ | refine c_exit ?_ | refine c_ret ?_ | refine q_ret ?_ | refine q_retn ?_ | refine o_step rfl rfl (p_box (y := .agg _) rfl rfl rfl rfl) (fun e => by cases e) ?_ | refine o_put (p_bin b_eqd rfl rfl rfl) rfl rfl ?_ | refine o_put (p_bin b_seqd rfl rfl rfl) rfl rfl ?_)
      exact ⟨trivial, [], by simp, trivial, ⟨trivial, trivial⟩, trivial, ⟨.inl ⟨rfl, rfl⟩, trivial⟩⟩
  cases hs : okN src with
  | false =>
    rw [show wshB _ = false from by simp [wshB, opB, hn, hs]]
    as_aux_lemma =>
      refine o_of Th_ok (by kernel_rfl) Tryz.func58 rfl Tryz.ntmps58 Tryz.results58 (by kernel_rfl) rfl ?_
      repeat (first | refine o_put (p_ofld rfl rfl rfl) rfl rfl ?_ | refine o_put (p_old rfl rfl rfl rfl rfl rfl rfl) rfl rfl ?_ | refine o_put (p_mv (by conv => lhs; whnf)) rfl rfl ?_ | refine o_put (p_as (by conv => lhs; whnf)) rfl rfl ?_ | refine o_put (p_asc rfl) rfl rfl ?_ | refine o_put (p_pick (z := .v _) rfl rfl rfl rfl) rfl rfl ?_ | refine o_put (p_not rfl) rfl rfl ?_ | refine qC (ac_l00Word q1 hn) rfl ?_ | refine qC (ac_in_t (by omega : (1 : Int) ≤ 1) (by omega : (1 : Int) ≤ 6)) rfl ?_ | refine qC (ac_sEdts hes q4 q5) rfl ?_ | refine qC (ac_l00Word q2 hs) rfl ?_ | refine o_put (p_bin (by first | exact b_eq_t (by omega) | exact b_eq_f (by omega) | exact b_ne_t (by omega) | exact b_ne_f (by omega) | exact b_gt_t (by omega) | exact b_gt_f (by omega) | exact b_seq_t (by assumption) | exact b_seq_f (by assumption) | exact b_sne_t (by assumption) | exact b_sne_f (by assumption)) rfl rfl rfl) rfl rfl ?_ | refine o_put (p_lenm rfl ⟨_, _, _, _, rfl⟩) rfl rfl ?_ | refine o_nil (q_then ?_) | refine c_seq ?_ | refine c_reg ?_ | refine c_dreg (by kernel_rfl) ?_ | refine c_cond_t rfl ?_ | refine c_cond_f rfl ?_ | refine c_block ?_ | refine c_skip ?_ | refine o_skip rfl rfl ?_ | refine q_then ?_ | refine q_thenr ?_ | refine q_thenx ?_ | refine q_blkn ?_ | refine q_blkr ?_ | refine q_blkx ?_ | refine q_blko rfl ?_ | refine c_exit ?_ | refine c_ret ?_ | refine q_ret ?_ | refine q_retn ?_ | refine o_step rfl rfl (p_box (y := .agg _) rfl rfl rfl rfl) (fun e => by cases e) ?_ | refine o_put (p_bin b_eqd rfl rfl rfl) rfl rfl ?_ | refine o_put (p_bin b_seqd rfl rfl rfl) rfl rfl ?_)
      exact ⟨trivial, [], by simp, trivial, ⟨trivial, trivial⟩, trivial, ⟨.inl ⟨rfl, rfl⟩, trivial⟩⟩
  | true =>
    by_cases hk : key = eB
    case neg =>
      rw [show wshB _ = false from by simp [wshB, opB, hn, hs, hk]]
      as_aux_lemma =>
        refine o_of Th_ok (by kernel_rfl) Tryz.func58 rfl Tryz.ntmps58 Tryz.results58 (by kernel_rfl) rfl ?_
        repeat (first | refine o_put (p_ofld rfl rfl rfl) rfl rfl ?_ | refine o_put (p_old rfl rfl rfl rfl rfl rfl rfl) rfl rfl ?_ | refine o_put (p_mv (by conv => lhs; whnf)) rfl rfl ?_ | refine o_put (p_as (by conv => lhs; whnf)) rfl rfl ?_ | refine o_put (p_asc rfl) rfl rfl ?_ | refine o_put (p_pick (z := .v _) rfl rfl rfl rfl) rfl rfl ?_ | refine o_put (p_not rfl) rfl rfl ?_ | refine qC (ac_l00Word q1 hn) rfl ?_ | refine qC (ac_in_t (by omega : (1 : Int) ≤ 1) (by omega : (1 : Int) ≤ 6)) rfl ?_ | refine qC (ac_sEdts hes q4 q5) rfl ?_ | refine qC (ac_l00Word q2 hs) rfl ?_ | refine o_put (p_bin (by first | exact b_eq_t (by omega) | exact b_eq_f (by omega) | exact b_ne_t (by omega) | exact b_ne_f (by omega) | exact b_gt_t (by omega) | exact b_gt_f (by omega) | exact b_seq_t (by assumption) | exact b_seq_f (by assumption) | exact b_sne_t (by assumption) | exact b_sne_f (by assumption)) rfl rfl rfl) rfl rfl ?_ | refine o_put (p_lenm rfl ⟨_, _, _, _, rfl⟩) rfl rfl ?_ | refine o_nil (q_then ?_) | refine c_seq ?_ | refine c_reg ?_ | refine c_dreg (by kernel_rfl) ?_ | refine c_cond_t rfl ?_ | refine c_cond_f rfl ?_ | refine c_block ?_ | refine c_skip ?_ | refine o_skip rfl rfl ?_ | refine q_then ?_ | refine q_thenr ?_ | refine q_thenx ?_ | refine q_blkn ?_ | refine q_blkr ?_ | refine q_blkx ?_ | refine q_blko rfl ?_ | refine c_exit ?_ | refine c_ret ?_ | refine q_ret ?_ | refine q_retn ?_ | refine o_step rfl rfl (p_box (y := .agg _) rfl rfl rfl rfl) (fun e => by cases e) ?_ | refine o_put (p_bin b_eqd rfl rfl rfl) rfl rfl ?_ | refine o_put (p_bin b_seqd rfl rfl rfl) rfl rfl ?_)
        exact ⟨trivial, [], by simp, trivial, ⟨trivial, trivial⟩, trivial, ⟨.inl ⟨rfl, rfl⟩, trivial⟩⟩
    rw [show wshB _ = true from by simp [wshB, opB, hn, hs, hk, he]]
    as_aux_lemma =>
      refine o_of Th_ok (by kernel_rfl) Tryz.func58 rfl Tryz.ntmps58 Tryz.results58 (by kernel_rfl) rfl ?_
      repeat (first | refine o_put (p_ofld rfl rfl rfl) rfl rfl ?_ | refine o_put (p_old rfl rfl rfl rfl rfl rfl rfl) rfl rfl ?_ | refine o_put (p_mv (by conv => lhs; whnf)) rfl rfl ?_ | refine o_put (p_as (by conv => lhs; whnf)) rfl rfl ?_ | refine o_put (p_asc rfl) rfl rfl ?_ | refine o_put (p_pick (z := .v _) rfl rfl rfl rfl) rfl rfl ?_ | refine o_put (p_not rfl) rfl rfl ?_ | refine qC (ac_l00Word q1 hn) rfl ?_ | refine qC (ac_in_t (by omega : (1 : Int) ≤ 1) (by omega : (1 : Int) ≤ 6)) rfl ?_ | refine qC (ac_sEdts hes q4 q5) rfl ?_ | refine qC (ac_l00Word q2 hs) rfl ?_ | refine o_put (p_bin (by first | exact b_eq_t (by omega) | exact b_eq_f (by omega) | exact b_ne_t (by omega) | exact b_ne_f (by omega) | exact b_gt_t (by omega) | exact b_gt_f (by omega) | exact b_seq_t (by assumption) | exact b_seq_f (by assumption) | exact b_sne_t (by assumption) | exact b_sne_f (by assumption)) rfl rfl rfl) rfl rfl ?_ | refine o_put (p_lenm rfl ⟨_, _, _, _, rfl⟩) rfl rfl ?_ | refine o_nil (q_then ?_) | refine c_seq ?_ | refine c_reg ?_ | refine c_dreg (by kernel_rfl) ?_ | refine c_cond_t rfl ?_ | refine c_cond_f rfl ?_ | refine c_block ?_ | refine c_skip ?_ | refine o_skip rfl rfl ?_ | refine q_then ?_ | refine q_thenr ?_ | refine q_thenx ?_ | refine q_blkn ?_ | refine q_blkr ?_ | refine q_blkx ?_ | refine q_blko rfl ?_ | refine c_exit ?_ | refine c_ret ?_ | refine q_ret ?_ | refine q_retn ?_ | refine o_step rfl rfl (p_box (y := .agg _) rfl rfl rfl rfl) (fun e => by cases e) ?_ | refine o_put (p_bin b_eqd rfl rfl rfl) rfl rfl ?_ | refine o_put (p_bin b_seqd rfl rfl rfl) rfl rfl ?_)
      exact ⟨trivial, [], by simp, trivial, ⟨trivial, trivial⟩, trivial, ⟨.inl ⟨rfl, rfl⟩, trivial⟩⟩
set_option maxHeartbeats 4000000 in
theorem ac_sWish4 {nm src key : ByteArray} {es : List Edt} (q1 : nm.size ≤ maxLen) (q2 : src.size ≤ maxLen) (q3 : key.size ≤ maxLen) (q4 : es.length ≤ maxLen) (q5 : ∀ e ∈ es, e.key.size ≤ maxLen) (hn : okN nm = true) (hes : editsOK es = true) : AC Tryz.prog 58 [.agg [.v (.int .i64 4), .v (.string nm), .v (.string src), .v (.string key), .lst 3 (es.map edtA)]] ⟨.v (.bool (wshB ⟨4, nm, src, key, es⟩)), []⟩ := by
  have q4' := q4
  unfold maxLen at q4'
  by_cases he : es.length = 0
  case neg =>
    rw [show wshB _ = false from by simp [wshB, opB, hn, he]]
    as_aux_lemma =>
      refine o_of Th_ok (by kernel_rfl) Tryz.func58 rfl Tryz.ntmps58 Tryz.results58 (by kernel_rfl) rfl ?_
      repeat (first | refine o_put (p_ofld rfl rfl rfl) rfl rfl ?_ | refine o_put (p_old rfl rfl rfl rfl rfl rfl rfl) rfl rfl ?_ | refine o_put (p_mv (by conv => lhs; whnf)) rfl rfl ?_ | refine o_put (p_as (by conv => lhs; whnf)) rfl rfl ?_ | refine o_put (p_asc rfl) rfl rfl ?_ | refine o_put (p_pick (z := .v _) rfl rfl rfl rfl) rfl rfl ?_ | refine o_put (p_not rfl) rfl rfl ?_ | refine qC (ac_l00Word q1 hn) rfl ?_ | refine qC (ac_in_t (by omega : (1 : Int) ≤ 4) (by omega : (4 : Int) ≤ 6)) rfl ?_ | refine qC (ac_sEdts hes q4 q5) rfl ?_ | refine o_put (p_bin (by first | exact b_eq_t (by omega) | exact b_eq_f (by omega) | exact b_ne_t (by omega) | exact b_ne_f (by omega) | exact b_gt_t (by omega) | exact b_gt_f (by omega) | exact b_seq_t (by assumption) | exact b_seq_f (by assumption) | exact b_sne_t (by assumption) | exact b_sne_f (by assumption)) rfl rfl rfl) rfl rfl ?_ | refine o_put (p_lenm rfl ⟨_, _, _, _, rfl⟩) rfl rfl ?_ | refine o_nil (q_then ?_) | refine c_seq ?_ | refine c_reg ?_ | refine c_dreg (by kernel_rfl) ?_ | refine c_cond_t rfl ?_ | refine c_cond_f rfl ?_ | refine c_block ?_ | refine c_skip ?_ | refine o_skip rfl rfl ?_ | refine q_then ?_ | refine q_thenr ?_ | refine q_thenx ?_ | refine q_blkn ?_ | refine q_blkr ?_ | refine q_blkx ?_ | refine q_blko rfl ?_ | refine c_exit ?_ | refine c_ret ?_ | refine q_ret ?_ | refine q_retn ?_ | refine o_step rfl rfl (p_box (y := .agg _) rfl rfl rfl rfl) (fun e => by cases e) ?_ | refine o_put (p_bin b_eqd rfl rfl rfl) rfl rfl ?_ | refine o_put (p_bin b_seqd rfl rfl rfl) rfl rfl ?_)
      exact ⟨trivial, [], by simp, trivial, ⟨trivial, trivial⟩, trivial, ⟨.inl ⟨rfl, rfl⟩, trivial⟩⟩
  cases hs : okN src with
  | false =>
    rw [show wshB _ = false from by simp [wshB, opB, hn, hs]]
    as_aux_lemma =>
      refine o_of Th_ok (by kernel_rfl) Tryz.func58 rfl Tryz.ntmps58 Tryz.results58 (by kernel_rfl) rfl ?_
      repeat (first | refine o_put (p_ofld rfl rfl rfl) rfl rfl ?_ | refine o_put (p_old rfl rfl rfl rfl rfl rfl rfl) rfl rfl ?_ | refine o_put (p_mv (by conv => lhs; whnf)) rfl rfl ?_ | refine o_put (p_as (by conv => lhs; whnf)) rfl rfl ?_ | refine o_put (p_asc rfl) rfl rfl ?_ | refine o_put (p_pick (z := .v _) rfl rfl rfl rfl) rfl rfl ?_ | refine o_put (p_not rfl) rfl rfl ?_ | refine qC (ac_l00Word q1 hn) rfl ?_ | refine qC (ac_in_t (by omega : (1 : Int) ≤ 4) (by omega : (4 : Int) ≤ 6)) rfl ?_ | refine qC (ac_sEdts hes q4 q5) rfl ?_ | refine qC (ac_l00Word q2 hs) rfl ?_ | refine o_put (p_bin (by first | exact b_eq_t (by omega) | exact b_eq_f (by omega) | exact b_ne_t (by omega) | exact b_ne_f (by omega) | exact b_gt_t (by omega) | exact b_gt_f (by omega) | exact b_seq_t (by assumption) | exact b_seq_f (by assumption) | exact b_sne_t (by assumption) | exact b_sne_f (by assumption)) rfl rfl rfl) rfl rfl ?_ | refine o_put (p_lenm rfl ⟨_, _, _, _, rfl⟩) rfl rfl ?_ | refine o_nil (q_then ?_) | refine c_seq ?_ | refine c_reg ?_ | refine c_dreg (by kernel_rfl) ?_ | refine c_cond_t rfl ?_ | refine c_cond_f rfl ?_ | refine c_block ?_ | refine c_skip ?_ | refine o_skip rfl rfl ?_ | refine q_then ?_ | refine q_thenr ?_ | refine q_thenx ?_ | refine q_blkn ?_ | refine q_blkr ?_ | refine q_blkx ?_ | refine q_blko rfl ?_ | refine c_exit ?_ | refine c_ret ?_ | refine q_ret ?_ | refine q_retn ?_ | refine o_step rfl rfl (p_box (y := .agg _) rfl rfl rfl rfl) (fun e => by cases e) ?_ | refine o_put (p_bin b_eqd rfl rfl rfl) rfl rfl ?_ | refine o_put (p_bin b_seqd rfl rfl rfl) rfl rfl ?_)
      exact ⟨trivial, [], by simp, trivial, ⟨trivial, trivial⟩, trivial, ⟨.inl ⟨rfl, rfl⟩, trivial⟩⟩
  | true =>
    by_cases hk : key = eB
    case neg =>
      rw [show wshB _ = false from by simp [wshB, opB, hn, hs, hk]]
      as_aux_lemma =>
        refine o_of Th_ok (by kernel_rfl) Tryz.func58 rfl Tryz.ntmps58 Tryz.results58 (by kernel_rfl) rfl ?_
        repeat (first | refine o_put (p_ofld rfl rfl rfl) rfl rfl ?_ | refine o_put (p_old rfl rfl rfl rfl rfl rfl rfl) rfl rfl ?_ | refine o_put (p_mv (by conv => lhs; whnf)) rfl rfl ?_ | refine o_put (p_as (by conv => lhs; whnf)) rfl rfl ?_ | refine o_put (p_asc rfl) rfl rfl ?_ | refine o_put (p_pick (z := .v _) rfl rfl rfl rfl) rfl rfl ?_ | refine o_put (p_not rfl) rfl rfl ?_ | refine qC (ac_l00Word q1 hn) rfl ?_ | refine qC (ac_in_t (by omega : (1 : Int) ≤ 4) (by omega : (4 : Int) ≤ 6)) rfl ?_ | refine qC (ac_sEdts hes q4 q5) rfl ?_ | refine qC (ac_l00Word q2 hs) rfl ?_ | refine o_put (p_bin (by first | exact b_eq_t (by omega) | exact b_eq_f (by omega) | exact b_ne_t (by omega) | exact b_ne_f (by omega) | exact b_gt_t (by omega) | exact b_gt_f (by omega) | exact b_seq_t (by assumption) | exact b_seq_f (by assumption) | exact b_sne_t (by assumption) | exact b_sne_f (by assumption)) rfl rfl rfl) rfl rfl ?_ | refine o_put (p_lenm rfl ⟨_, _, _, _, rfl⟩) rfl rfl ?_ | refine o_nil (q_then ?_) | refine c_seq ?_ | refine c_reg ?_ | refine c_dreg (by kernel_rfl) ?_ | refine c_cond_t rfl ?_ | refine c_cond_f rfl ?_ | refine c_block ?_ | refine c_skip ?_ | refine o_skip rfl rfl ?_ | refine q_then ?_ | refine q_thenr ?_ | refine q_thenx ?_ | refine q_blkn ?_ | refine q_blkr ?_ | refine q_blkx ?_ | refine q_blko rfl ?_ | refine c_exit ?_ | refine c_ret ?_ | refine q_ret ?_ | refine q_retn ?_ | refine o_step rfl rfl (p_box (y := .agg _) rfl rfl rfl rfl) (fun e => by cases e) ?_ | refine o_put (p_bin b_eqd rfl rfl rfl) rfl rfl ?_ | refine o_put (p_bin b_seqd rfl rfl rfl) rfl rfl ?_)
        exact ⟨trivial, [], by simp, trivial, ⟨trivial, trivial⟩, trivial, ⟨.inl ⟨rfl, rfl⟩, trivial⟩⟩
    rw [show wshB _ = true from by simp [wshB, opB, hn, hs, hk, he]]
    as_aux_lemma =>
      refine o_of Th_ok (by kernel_rfl) Tryz.func58 rfl Tryz.ntmps58 Tryz.results58 (by kernel_rfl) rfl ?_
      repeat (first | refine o_put (p_ofld rfl rfl rfl) rfl rfl ?_ | refine o_put (p_old rfl rfl rfl rfl rfl rfl rfl) rfl rfl ?_ | refine o_put (p_mv (by conv => lhs; whnf)) rfl rfl ?_ | refine o_put (p_as (by conv => lhs; whnf)) rfl rfl ?_ | refine o_put (p_asc rfl) rfl rfl ?_ | refine o_put (p_pick (z := .v _) rfl rfl rfl rfl) rfl rfl ?_ | refine o_put (p_not rfl) rfl rfl ?_ | refine qC (ac_l00Word q1 hn) rfl ?_ | refine qC (ac_in_t (by omega : (1 : Int) ≤ 4) (by omega : (4 : Int) ≤ 6)) rfl ?_ | refine qC (ac_sEdts hes q4 q5) rfl ?_ | refine qC (ac_l00Word q2 hs) rfl ?_ | refine o_put (p_bin (by first | exact b_eq_t (by omega) | exact b_eq_f (by omega) | exact b_ne_t (by omega) | exact b_ne_f (by omega) | exact b_gt_t (by omega) | exact b_gt_f (by omega) | exact b_seq_t (by assumption) | exact b_seq_f (by assumption) | exact b_sne_t (by assumption) | exact b_sne_f (by assumption)) rfl rfl rfl) rfl rfl ?_ | refine o_put (p_lenm rfl ⟨_, _, _, _, rfl⟩) rfl rfl ?_ | refine o_nil (q_then ?_) | refine c_seq ?_ | refine c_reg ?_ | refine c_dreg (by kernel_rfl) ?_ | refine c_cond_t rfl ?_ | refine c_cond_f rfl ?_ | refine c_block ?_ | refine c_skip ?_ | refine o_skip rfl rfl ?_ | refine q_then ?_ | refine q_thenr ?_ | refine q_thenx ?_ | refine q_blkn ?_ | refine q_blkr ?_ | refine q_blkx ?_ | refine q_blko rfl ?_ | refine c_exit ?_ | refine c_ret ?_ | refine q_ret ?_ | refine q_retn ?_ | refine o_step rfl rfl (p_box (y := .agg _) rfl rfl rfl rfl) (fun e => by cases e) ?_ | refine o_put (p_bin b_eqd rfl rfl rfl) rfl rfl ?_ | refine o_put (p_bin b_seqd rfl rfl rfl) rfl rfl ?_)
      exact ⟨trivial, [], by simp, trivial, ⟨trivial, trivial⟩, trivial, ⟨.inl ⟨rfl, rfl⟩, trivial⟩⟩
set_option maxHeartbeats 4000000 in
theorem ac_sWish2 {nm src key : ByteArray} {es : List Edt} (q1 : nm.size ≤ maxLen) (q2 : src.size ≤ maxLen) (q3 : key.size ≤ maxLen) (q4 : es.length ≤ maxLen) (q5 : ∀ e ∈ es, e.key.size ≤ maxLen) (hn : okN nm = true) (hes : editsOK es = true) : AC Tryz.prog 58 [.agg [.v (.int .i64 2), .v (.string nm), .v (.string src), .v (.string key), .lst 3 (es.map edtA)]] ⟨.v (.bool (wshB ⟨2, nm, src, key, es⟩)), []⟩ := by
  have q4' := q4
  unfold maxLen at q4'
  by_cases he : es.length = 0
  case neg =>
    rw [show wshB _ = false from by simp [wshB, opB, hn, he]]
    as_aux_lemma =>
      refine o_of Th_ok (by kernel_rfl) Tryz.func58 rfl Tryz.ntmps58 Tryz.results58 (by kernel_rfl) rfl ?_
      repeat (first | refine o_put (p_ofld rfl rfl rfl) rfl rfl ?_ | refine o_put (p_old rfl rfl rfl rfl rfl rfl rfl) rfl rfl ?_ | refine o_put (p_mv (by conv => lhs; whnf)) rfl rfl ?_ | refine o_put (p_as (by conv => lhs; whnf)) rfl rfl ?_ | refine o_put (p_asc rfl) rfl rfl ?_ | refine o_put (p_pick (z := .v _) rfl rfl rfl rfl) rfl rfl ?_ | refine o_put (p_not rfl) rfl rfl ?_ | refine qC (ac_l00Word q1 hn) rfl ?_ | refine qC (ac_in_t (by omega : (1 : Int) ≤ 2) (by omega : (2 : Int) ≤ 6)) rfl ?_ | refine qC (ac_sEdts hes q4 q5) rfl ?_ | refine o_put (p_bin (by first | exact b_eq_t (by omega) | exact b_eq_f (by omega) | exact b_ne_t (by omega) | exact b_ne_f (by omega) | exact b_gt_t (by omega) | exact b_gt_f (by omega) | exact b_seq_t (by assumption) | exact b_seq_f (by assumption) | exact b_sne_t (by assumption) | exact b_sne_f (by assumption)) rfl rfl rfl) rfl rfl ?_ | refine o_put (p_lenm rfl ⟨_, _, _, _, rfl⟩) rfl rfl ?_ | refine o_nil (q_then ?_) | refine c_seq ?_ | refine c_reg ?_ | refine c_dreg (by kernel_rfl) ?_ | refine c_cond_t rfl ?_ | refine c_cond_f rfl ?_ | refine c_block ?_ | refine c_skip ?_ | refine o_skip rfl rfl ?_ | refine q_then ?_ | refine q_thenr ?_ | refine q_thenx ?_ | refine q_blkn ?_ | refine q_blkr ?_ | refine q_blkx ?_ | refine q_blko rfl ?_ | refine c_exit ?_ | refine c_ret ?_ | refine q_ret ?_ | refine q_retn ?_ | refine o_step rfl rfl (p_box (y := .agg _) rfl rfl rfl rfl) (fun e => by cases e) ?_ | refine o_put (p_bin b_eqd rfl rfl rfl) rfl rfl ?_ | refine o_put (p_bin b_seqd rfl rfl rfl) rfl rfl ?_)
      exact ⟨trivial, [], by simp, trivial, ⟨trivial, trivial⟩, trivial, ⟨.inl ⟨rfl, rfl⟩, trivial⟩⟩
  by_cases hs : src = eB
  case neg =>
    rw [show wshB _ = false from by simp [wshB, opB, hn, hs]]
    as_aux_lemma =>
      refine o_of Th_ok (by kernel_rfl) Tryz.func58 rfl Tryz.ntmps58 Tryz.results58 (by kernel_rfl) rfl ?_
      repeat (first | refine o_put (p_ofld rfl rfl rfl) rfl rfl ?_ | refine o_put (p_old rfl rfl rfl rfl rfl rfl rfl) rfl rfl ?_ | refine o_put (p_mv (by conv => lhs; whnf)) rfl rfl ?_ | refine o_put (p_as (by conv => lhs; whnf)) rfl rfl ?_ | refine o_put (p_asc rfl) rfl rfl ?_ | refine o_put (p_pick (z := .v _) rfl rfl rfl rfl) rfl rfl ?_ | refine o_put (p_not rfl) rfl rfl ?_ | refine qC (ac_l00Word q1 hn) rfl ?_ | refine qC (ac_in_t (by omega : (1 : Int) ≤ 2) (by omega : (2 : Int) ≤ 6)) rfl ?_ | refine qC (ac_sEdts hes q4 q5) rfl ?_ | refine o_put (p_bin (by first | exact b_eq_t (by omega) | exact b_eq_f (by omega) | exact b_ne_t (by omega) | exact b_ne_f (by omega) | exact b_gt_t (by omega) | exact b_gt_f (by omega) | exact b_seq_t (by assumption) | exact b_seq_f (by assumption) | exact b_sne_t (by assumption) | exact b_sne_f (by assumption)) rfl rfl rfl) rfl rfl ?_ | refine o_put (p_lenm rfl ⟨_, _, _, _, rfl⟩) rfl rfl ?_ | refine o_nil (q_then ?_) | refine c_seq ?_ | refine c_reg ?_ | refine c_dreg (by kernel_rfl) ?_ | refine c_cond_t rfl ?_ | refine c_cond_f rfl ?_ | refine c_block ?_ | refine c_skip ?_ | refine o_skip rfl rfl ?_ | refine q_then ?_ | refine q_thenr ?_ | refine q_thenx ?_ | refine q_blkn ?_ | refine q_blkr ?_ | refine q_blkx ?_ | refine q_blko rfl ?_ | refine c_exit ?_ | refine c_ret ?_ | refine q_ret ?_ | refine q_retn ?_ | refine o_step rfl rfl (p_box (y := .agg _) rfl rfl rfl rfl) (fun e => by cases e) ?_ | refine o_put (p_bin b_eqd rfl rfl rfl) rfl rfl ?_ | refine o_put (p_bin b_seqd rfl rfl rfl) rfl rfl ?_)
      exact ⟨trivial, [], by simp, trivial, ⟨trivial, trivial⟩, trivial, ⟨.inl ⟨rfl, rfl⟩, trivial⟩⟩
  by_cases hk : key = eB
  case neg =>
    rw [show wshB _ = false from by simp [wshB, opB, hn, hs, hk]]
    as_aux_lemma =>
      refine o_of Th_ok (by kernel_rfl) Tryz.func58 rfl Tryz.ntmps58 Tryz.results58 (by kernel_rfl) rfl ?_
      repeat (first | refine o_put (p_ofld rfl rfl rfl) rfl rfl ?_ | refine o_put (p_old rfl rfl rfl rfl rfl rfl rfl) rfl rfl ?_ | refine o_put (p_mv (by conv => lhs; whnf)) rfl rfl ?_ | refine o_put (p_as (by conv => lhs; whnf)) rfl rfl ?_ | refine o_put (p_asc rfl) rfl rfl ?_ | refine o_put (p_pick (z := .v _) rfl rfl rfl rfl) rfl rfl ?_ | refine o_put (p_not rfl) rfl rfl ?_ | refine qC (ac_l00Word q1 hn) rfl ?_ | refine qC (ac_in_t (by omega : (1 : Int) ≤ 2) (by omega : (2 : Int) ≤ 6)) rfl ?_ | refine qC (ac_sEdts hes q4 q5) rfl ?_ | refine o_put (p_bin (by first | exact b_eq_t (by omega) | exact b_eq_f (by omega) | exact b_ne_t (by omega) | exact b_ne_f (by omega) | exact b_gt_t (by omega) | exact b_gt_f (by omega) | exact b_seq_t (by assumption) | exact b_seq_f (by assumption) | exact b_sne_t (by assumption) | exact b_sne_f (by assumption)) rfl rfl rfl) rfl rfl ?_ | refine o_put (p_lenm rfl ⟨_, _, _, _, rfl⟩) rfl rfl ?_ | refine o_nil (q_then ?_) | refine c_seq ?_ | refine c_reg ?_ | refine c_dreg (by kernel_rfl) ?_ | refine c_cond_t rfl ?_ | refine c_cond_f rfl ?_ | refine c_block ?_ | refine c_skip ?_ | refine o_skip rfl rfl ?_ | refine q_then ?_ | refine q_thenr ?_ | refine q_thenx ?_ | refine q_blkn ?_ | refine q_blkr ?_ | refine q_blkx ?_ | refine q_blko rfl ?_ | refine c_exit ?_ | refine c_ret ?_ | refine q_ret ?_ | refine q_retn ?_ | refine o_step rfl rfl (p_box (y := .agg _) rfl rfl rfl rfl) (fun e => by cases e) ?_ | refine o_put (p_bin b_eqd rfl rfl rfl) rfl rfl ?_ | refine o_put (p_bin b_seqd rfl rfl rfl) rfl rfl ?_)
      exact ⟨trivial, [], by simp, trivial, ⟨trivial, trivial⟩, trivial, ⟨.inl ⟨rfl, rfl⟩, trivial⟩⟩
  rw [show wshB _ = true from by simp [wshB, opB, hn, hs, hk, he]]
  as_aux_lemma =>
    refine o_of Th_ok (by kernel_rfl) Tryz.func58 rfl Tryz.ntmps58 Tryz.results58 (by kernel_rfl) rfl ?_
    repeat (first | refine o_put (p_ofld rfl rfl rfl) rfl rfl ?_ | refine o_put (p_old rfl rfl rfl rfl rfl rfl rfl) rfl rfl ?_ | refine o_put (p_mv (by conv => lhs; whnf)) rfl rfl ?_ | refine o_put (p_as (by conv => lhs; whnf)) rfl rfl ?_ | refine o_put (p_asc rfl) rfl rfl ?_ | refine o_put (p_pick (z := .v _) rfl rfl rfl rfl) rfl rfl ?_ | refine o_put (p_not rfl) rfl rfl ?_ | refine qC (ac_l00Word q1 hn) rfl ?_ | refine qC (ac_in_t (by omega : (1 : Int) ≤ 2) (by omega : (2 : Int) ≤ 6)) rfl ?_ | refine qC (ac_sEdts hes q4 q5) rfl ?_ | refine o_put (p_bin (by first | exact b_eq_t (by omega) | exact b_eq_f (by omega) | exact b_ne_t (by omega) | exact b_ne_f (by omega) | exact b_gt_t (by omega) | exact b_gt_f (by omega) | exact b_seq_t (by assumption) | exact b_seq_f (by assumption) | exact b_sne_t (by assumption) | exact b_sne_f (by assumption)) rfl rfl rfl) rfl rfl ?_ | refine o_put (p_lenm rfl ⟨_, _, _, _, rfl⟩) rfl rfl ?_ | refine o_nil (q_then ?_) | refine c_seq ?_ | refine c_reg ?_ | refine c_dreg (by kernel_rfl) ?_ | refine c_cond_t rfl ?_ | refine c_cond_f rfl ?_ | refine c_block ?_ | refine c_skip ?_ | refine o_skip rfl rfl ?_ | refine q_then ?_ | refine q_thenr ?_ | refine q_thenx ?_ | refine q_blkn ?_ | refine q_blkr ?_ | refine q_blkx ?_ | refine q_blko rfl ?_ | refine c_exit ?_ | refine c_ret ?_ | refine q_ret ?_ | refine q_retn ?_ | refine o_step rfl rfl (p_box (y := .agg _) rfl rfl rfl rfl) (fun e => by cases e) ?_ | refine o_put (p_bin b_eqd rfl rfl rfl) rfl rfl ?_ | refine o_put (p_bin b_seqd rfl rfl rfl) rfl rfl ?_)
    exact ⟨trivial, [], by simp, trivial, ⟨trivial, trivial⟩, trivial, ⟨.inl ⟨rfl, rfl⟩, trivial⟩⟩
set_option maxHeartbeats 4000000 in
theorem ac_sWish6 {nm src key : ByteArray} {es : List Edt} (q1 : nm.size ≤ maxLen) (q2 : src.size ≤ maxLen) (q3 : key.size ≤ maxLen) (q4 : es.length ≤ maxLen) (q5 : ∀ e ∈ es, e.key.size ≤ maxLen) (hn : okN nm = true) (hes : editsOK es = true) : AC Tryz.prog 58 [.agg [.v (.int .i64 6), .v (.string nm), .v (.string src), .v (.string key), .lst 3 (es.map edtA)]] ⟨.v (.bool (wshB ⟨6, nm, src, key, es⟩)), []⟩ := by
  have q4' := q4
  unfold maxLen at q4'
  by_cases he : es.length = 0
  case neg =>
    rw [show wshB _ = false from by simp [wshB, opB, hn, he]]
    as_aux_lemma =>
      refine o_of Th_ok (by kernel_rfl) Tryz.func58 rfl Tryz.ntmps58 Tryz.results58 (by kernel_rfl) rfl ?_
      repeat (first | refine o_put (p_ofld rfl rfl rfl) rfl rfl ?_ | refine o_put (p_old rfl rfl rfl rfl rfl rfl rfl) rfl rfl ?_ | refine o_put (p_mv (by conv => lhs; whnf)) rfl rfl ?_ | refine o_put (p_as (by conv => lhs; whnf)) rfl rfl ?_ | refine o_put (p_asc rfl) rfl rfl ?_ | refine o_put (p_pick (z := .v _) rfl rfl rfl rfl) rfl rfl ?_ | refine o_put (p_not rfl) rfl rfl ?_ | refine qC (ac_l00Word q1 hn) rfl ?_ | refine qC (ac_in_t (by omega : (1 : Int) ≤ 6) (by omega : (6 : Int) ≤ 6)) rfl ?_ | refine qC (ac_sEdts hes q4 q5) rfl ?_ | refine o_put (p_bin (by first | exact b_eq_t (by omega) | exact b_eq_f (by omega) | exact b_ne_t (by omega) | exact b_ne_f (by omega) | exact b_gt_t (by omega) | exact b_gt_f (by omega) | exact b_seq_t (by assumption) | exact b_seq_f (by assumption) | exact b_sne_t (by assumption) | exact b_sne_f (by assumption)) rfl rfl rfl) rfl rfl ?_ | refine o_put (p_lenm rfl ⟨_, _, _, _, rfl⟩) rfl rfl ?_ | refine o_nil (q_then ?_) | refine c_seq ?_ | refine c_reg ?_ | refine c_dreg (by kernel_rfl) ?_ | refine c_cond_t rfl ?_ | refine c_cond_f rfl ?_ | refine c_block ?_ | refine c_skip ?_ | refine o_skip rfl rfl ?_ | refine q_then ?_ | refine q_thenr ?_ | refine q_thenx ?_ | refine q_blkn ?_ | refine q_blkr ?_ | refine q_blkx ?_ | refine q_blko rfl ?_ | refine c_exit ?_ | refine c_ret ?_ | refine q_ret ?_ | refine q_retn ?_ | refine o_step rfl rfl (p_box (y := .agg _) rfl rfl rfl rfl) (fun e => by cases e) ?_ | refine o_put (p_bin b_eqd rfl rfl rfl) rfl rfl ?_ | refine o_put (p_bin b_seqd rfl rfl rfl) rfl rfl ?_)
      exact ⟨trivial, [], by simp, trivial, ⟨trivial, trivial⟩, trivial, ⟨.inl ⟨rfl, rfl⟩, trivial⟩⟩
  by_cases hs : src = eB
  case neg =>
    rw [show wshB _ = false from by simp [wshB, opB, hn, hs]]
    as_aux_lemma =>
      refine o_of Th_ok (by kernel_rfl) Tryz.func58 rfl Tryz.ntmps58 Tryz.results58 (by kernel_rfl) rfl ?_
      repeat (first | refine o_put (p_ofld rfl rfl rfl) rfl rfl ?_ | refine o_put (p_old rfl rfl rfl rfl rfl rfl rfl) rfl rfl ?_ | refine o_put (p_mv (by conv => lhs; whnf)) rfl rfl ?_ | refine o_put (p_as (by conv => lhs; whnf)) rfl rfl ?_ | refine o_put (p_asc rfl) rfl rfl ?_ | refine o_put (p_pick (z := .v _) rfl rfl rfl rfl) rfl rfl ?_ | refine o_put (p_not rfl) rfl rfl ?_ | refine qC (ac_l00Word q1 hn) rfl ?_ | refine qC (ac_in_t (by omega : (1 : Int) ≤ 6) (by omega : (6 : Int) ≤ 6)) rfl ?_ | refine qC (ac_sEdts hes q4 q5) rfl ?_ | refine o_put (p_bin (by first | exact b_eq_t (by omega) | exact b_eq_f (by omega) | exact b_ne_t (by omega) | exact b_ne_f (by omega) | exact b_gt_t (by omega) | exact b_gt_f (by omega) | exact b_seq_t (by assumption) | exact b_seq_f (by assumption) | exact b_sne_t (by assumption) | exact b_sne_f (by assumption)) rfl rfl rfl) rfl rfl ?_ | refine o_put (p_lenm rfl ⟨_, _, _, _, rfl⟩) rfl rfl ?_ | refine o_nil (q_then ?_) | refine c_seq ?_ | refine c_reg ?_ | refine c_dreg (by kernel_rfl) ?_ | refine c_cond_t rfl ?_ | refine c_cond_f rfl ?_ | refine c_block ?_ | refine c_skip ?_ | refine o_skip rfl rfl ?_ | refine q_then ?_ | refine q_thenr ?_ | refine q_thenx ?_ | refine q_blkn ?_ | refine q_blkr ?_ | refine q_blkx ?_ | refine q_blko rfl ?_ | refine c_exit ?_ | refine c_ret ?_ | refine q_ret ?_ | refine q_retn ?_ | refine o_step rfl rfl (p_box (y := .agg _) rfl rfl rfl rfl) (fun e => by cases e) ?_ | refine o_put (p_bin b_eqd rfl rfl rfl) rfl rfl ?_ | refine o_put (p_bin b_seqd rfl rfl rfl) rfl rfl ?_)
      exact ⟨trivial, [], by simp, trivial, ⟨trivial, trivial⟩, trivial, ⟨.inl ⟨rfl, rfl⟩, trivial⟩⟩
  by_cases hk : key = eB
  case neg =>
    rw [show wshB _ = false from by simp [wshB, opB, hn, hs, hk]]
    as_aux_lemma =>
      refine o_of Th_ok (by kernel_rfl) Tryz.func58 rfl Tryz.ntmps58 Tryz.results58 (by kernel_rfl) rfl ?_
      repeat (first | refine o_put (p_ofld rfl rfl rfl) rfl rfl ?_ | refine o_put (p_old rfl rfl rfl rfl rfl rfl rfl) rfl rfl ?_ | refine o_put (p_mv (by conv => lhs; whnf)) rfl rfl ?_ | refine o_put (p_as (by conv => lhs; whnf)) rfl rfl ?_ | refine o_put (p_asc rfl) rfl rfl ?_ | refine o_put (p_pick (z := .v _) rfl rfl rfl rfl) rfl rfl ?_ | refine o_put (p_not rfl) rfl rfl ?_ | refine qC (ac_l00Word q1 hn) rfl ?_ | refine qC (ac_in_t (by omega : (1 : Int) ≤ 6) (by omega : (6 : Int) ≤ 6)) rfl ?_ | refine qC (ac_sEdts hes q4 q5) rfl ?_ | refine o_put (p_bin (by first | exact b_eq_t (by omega) | exact b_eq_f (by omega) | exact b_ne_t (by omega) | exact b_ne_f (by omega) | exact b_gt_t (by omega) | exact b_gt_f (by omega) | exact b_seq_t (by assumption) | exact b_seq_f (by assumption) | exact b_sne_t (by assumption) | exact b_sne_f (by assumption)) rfl rfl rfl) rfl rfl ?_ | refine o_put (p_lenm rfl ⟨_, _, _, _, rfl⟩) rfl rfl ?_ | refine o_nil (q_then ?_) | refine c_seq ?_ | refine c_reg ?_ | refine c_dreg (by kernel_rfl) ?_ | refine c_cond_t rfl ?_ | refine c_cond_f rfl ?_ | refine c_block ?_ | refine c_skip ?_ | refine o_skip rfl rfl ?_ | refine q_then ?_ | refine q_thenr ?_ | refine q_thenx ?_ | refine q_blkn ?_ | refine q_blkr ?_ | refine q_blkx ?_ | refine q_blko rfl ?_ | refine c_exit ?_ | refine c_ret ?_ | refine q_ret ?_ | refine q_retn ?_ | refine o_step rfl rfl (p_box (y := .agg _) rfl rfl rfl rfl) (fun e => by cases e) ?_ | refine o_put (p_bin b_eqd rfl rfl rfl) rfl rfl ?_ | refine o_put (p_bin b_seqd rfl rfl rfl) rfl rfl ?_)
      exact ⟨trivial, [], by simp, trivial, ⟨trivial, trivial⟩, trivial, ⟨.inl ⟨rfl, rfl⟩, trivial⟩⟩
  rw [show wshB _ = true from by simp [wshB, opB, hn, hs, hk, he]]
  as_aux_lemma =>
    refine o_of Th_ok (by kernel_rfl) Tryz.func58 rfl Tryz.ntmps58 Tryz.results58 (by kernel_rfl) rfl ?_
    repeat (first | refine o_put (p_ofld rfl rfl rfl) rfl rfl ?_ | refine o_put (p_old rfl rfl rfl rfl rfl rfl rfl) rfl rfl ?_ | refine o_put (p_mv (by conv => lhs; whnf)) rfl rfl ?_ | refine o_put (p_as (by conv => lhs; whnf)) rfl rfl ?_ | refine o_put (p_asc rfl) rfl rfl ?_ | refine o_put (p_pick (z := .v _) rfl rfl rfl rfl) rfl rfl ?_ | refine o_put (p_not rfl) rfl rfl ?_ | refine qC (ac_l00Word q1 hn) rfl ?_ | refine qC (ac_in_t (by omega : (1 : Int) ≤ 6) (by omega : (6 : Int) ≤ 6)) rfl ?_ | refine qC (ac_sEdts hes q4 q5) rfl ?_ | refine o_put (p_bin (by first | exact b_eq_t (by omega) | exact b_eq_f (by omega) | exact b_ne_t (by omega) | exact b_ne_f (by omega) | exact b_gt_t (by omega) | exact b_gt_f (by omega) | exact b_seq_t (by assumption) | exact b_seq_f (by assumption) | exact b_sne_t (by assumption) | exact b_sne_f (by assumption)) rfl rfl rfl) rfl rfl ?_ | refine o_put (p_lenm rfl ⟨_, _, _, _, rfl⟩) rfl rfl ?_ | refine o_nil (q_then ?_) | refine c_seq ?_ | refine c_reg ?_ | refine c_dreg (by kernel_rfl) ?_ | refine c_cond_t rfl ?_ | refine c_cond_f rfl ?_ | refine c_block ?_ | refine c_skip ?_ | refine o_skip rfl rfl ?_ | refine q_then ?_ | refine q_thenr ?_ | refine q_thenx ?_ | refine q_blkn ?_ | refine q_blkr ?_ | refine q_blkx ?_ | refine q_blko rfl ?_ | refine c_exit ?_ | refine c_ret ?_ | refine q_ret ?_ | refine q_retn ?_ | refine o_step rfl rfl (p_box (y := .agg _) rfl rfl rfl rfl) (fun e => by cases e) ?_ | refine o_put (p_bin b_eqd rfl rfl rfl) rfl rfl ?_ | refine o_put (p_bin b_seqd rfl rfl rfl) rfl rfl ?_)
    exact ⟨trivial, [], by simp, trivial, ⟨trivial, trivial⟩, trivial, ⟨.inl ⟨rfl, rfl⟩, trivial⟩⟩
set_option maxHeartbeats 4000000 in
theorem ac_sWish5 {nm src key : ByteArray} {es : List Edt} (q1 : nm.size ≤ maxLen) (q2 : src.size ≤ maxLen) (q3 : key.size ≤ maxLen) (q4 : es.length ≤ maxLen) (q5 : ∀ e ∈ es, e.key.size ≤ maxLen) (hn : okN nm = true) (hes : editsOK es = true) : AC Tryz.prog 58 [.agg [.v (.int .i64 5), .v (.string nm), .v (.string src), .v (.string key), .lst 3 (es.map edtA)]] ⟨.v (.bool (wshB ⟨5, nm, src, key, es⟩)), []⟩ := by
  have q4' := q4
  unfold maxLen at q4'
  by_cases he : es.length = 0
  case neg =>
    rw [show wshB _ = false from by simp [wshB, opB, hn, he]]
    as_aux_lemma =>
      refine o_of Th_ok (by kernel_rfl) Tryz.func58 rfl Tryz.ntmps58 Tryz.results58 (by kernel_rfl) rfl ?_
      repeat (first | refine o_put (p_ofld rfl rfl rfl) rfl rfl ?_ | refine o_put (p_old rfl rfl rfl rfl rfl rfl rfl) rfl rfl ?_ | refine o_put (p_mv (by conv => lhs; whnf)) rfl rfl ?_ | refine o_put (p_as (by conv => lhs; whnf)) rfl rfl ?_ | refine o_put (p_asc rfl) rfl rfl ?_ | refine o_put (p_pick (z := .v _) rfl rfl rfl rfl) rfl rfl ?_ | refine o_put (p_not rfl) rfl rfl ?_ | refine qC (ac_l00Word q1 hn) rfl ?_ | refine qC (ac_in_t (by omega : (1 : Int) ≤ 5) (by omega : (5 : Int) ≤ 6)) rfl ?_ | refine qC (ac_sEdts hes q4 q5) rfl ?_ | refine o_put (p_bin (by first | exact b_eq_t (by omega) | exact b_eq_f (by omega) | exact b_ne_t (by omega) | exact b_ne_f (by omega) | exact b_gt_t (by omega) | exact b_gt_f (by omega) | exact b_seq_t (by assumption) | exact b_seq_f (by assumption) | exact b_sne_t (by assumption) | exact b_sne_f (by assumption)) rfl rfl rfl) rfl rfl ?_ | refine o_put (p_lenm rfl ⟨_, _, _, _, rfl⟩) rfl rfl ?_ | refine o_nil (q_then ?_) | refine c_seq ?_ | refine c_reg ?_ | refine c_dreg (by kernel_rfl) ?_ | refine c_cond_t rfl ?_ | refine c_cond_f rfl ?_ | refine c_block ?_ | refine c_skip ?_ | refine o_skip rfl rfl ?_ | refine q_then ?_ | refine q_thenr ?_ | refine q_thenx ?_ | refine q_blkn ?_ | refine q_blkr ?_ | refine q_blkx ?_ | refine q_blko rfl ?_ | refine c_exit ?_ | refine c_ret ?_ | refine q_ret ?_ | refine q_retn ?_ | refine o_step rfl rfl (p_box (y := .agg _) rfl rfl rfl rfl) (fun e => by cases e) ?_ | refine o_put (p_bin b_eqd rfl rfl rfl) rfl rfl ?_ | refine o_put (p_bin b_seqd rfl rfl rfl) rfl rfl ?_)
      exact ⟨trivial, [], by simp, trivial, ⟨trivial, trivial⟩, trivial, ⟨.inl ⟨rfl, rfl⟩, trivial⟩⟩
  by_cases hs : src = eB
  case neg =>
    rw [show wshB _ = false from by simp [wshB, opB, hn, hs]]
    as_aux_lemma =>
      refine o_of Th_ok (by kernel_rfl) Tryz.func58 rfl Tryz.ntmps58 Tryz.results58 (by kernel_rfl) rfl ?_
      repeat (first | refine o_put (p_ofld rfl rfl rfl) rfl rfl ?_ | refine o_put (p_old rfl rfl rfl rfl rfl rfl rfl) rfl rfl ?_ | refine o_put (p_mv (by conv => lhs; whnf)) rfl rfl ?_ | refine o_put (p_as (by conv => lhs; whnf)) rfl rfl ?_ | refine o_put (p_asc rfl) rfl rfl ?_ | refine o_put (p_pick (z := .v _) rfl rfl rfl rfl) rfl rfl ?_ | refine o_put (p_not rfl) rfl rfl ?_ | refine qC (ac_l00Word q1 hn) rfl ?_ | refine qC (ac_in_t (by omega : (1 : Int) ≤ 5) (by omega : (5 : Int) ≤ 6)) rfl ?_ | refine qC (ac_sEdts hes q4 q5) rfl ?_ | refine o_put (p_bin (by first | exact b_eq_t (by omega) | exact b_eq_f (by omega) | exact b_ne_t (by omega) | exact b_ne_f (by omega) | exact b_gt_t (by omega) | exact b_gt_f (by omega) | exact b_seq_t (by assumption) | exact b_seq_f (by assumption) | exact b_sne_t (by assumption) | exact b_sne_f (by assumption)) rfl rfl rfl) rfl rfl ?_ | refine o_put (p_lenm rfl ⟨_, _, _, _, rfl⟩) rfl rfl ?_ | refine o_nil (q_then ?_) | refine c_seq ?_ | refine c_reg ?_ | refine c_dreg (by kernel_rfl) ?_ | refine c_cond_t rfl ?_ | refine c_cond_f rfl ?_ | refine c_block ?_ | refine c_skip ?_ | refine o_skip rfl rfl ?_ | refine q_then ?_ | refine q_thenr ?_ | refine q_thenx ?_ | refine q_blkn ?_ | refine q_blkr ?_ | refine q_blkx ?_ | refine q_blko rfl ?_ | refine c_exit ?_ | refine c_ret ?_ | refine q_ret ?_ | refine q_retn ?_ | refine o_step rfl rfl (p_box (y := .agg _) rfl rfl rfl rfl) (fun e => by cases e) ?_ | refine o_put (p_bin b_eqd rfl rfl rfl) rfl rfl ?_ | refine o_put (p_bin b_seqd rfl rfl rfl) rfl rfl ?_)
      exact ⟨trivial, [], by simp, trivial, ⟨trivial, trivial⟩, trivial, ⟨.inl ⟨rfl, rfl⟩, trivial⟩⟩
  cases hk : okN key with
  | false =>
    rw [show wshB _ = false from by simp [wshB, opB, hn, hs, hk]]
    as_aux_lemma =>
      refine o_of Th_ok (by kernel_rfl) Tryz.func58 rfl Tryz.ntmps58 Tryz.results58 (by kernel_rfl) rfl ?_
      repeat (first | refine o_put (p_ofld rfl rfl rfl) rfl rfl ?_ | refine o_put (p_old rfl rfl rfl rfl rfl rfl rfl) rfl rfl ?_ | refine o_put (p_mv (by conv => lhs; whnf)) rfl rfl ?_ | refine o_put (p_as (by conv => lhs; whnf)) rfl rfl ?_ | refine o_put (p_asc rfl) rfl rfl ?_ | refine o_put (p_pick (z := .v _) rfl rfl rfl rfl) rfl rfl ?_ | refine o_put (p_not rfl) rfl rfl ?_ | refine qC (ac_l00Word q1 hn) rfl ?_ | refine qC (ac_in_t (by omega : (1 : Int) ≤ 5) (by omega : (5 : Int) ≤ 6)) rfl ?_ | refine qC (ac_sEdts hes q4 q5) rfl ?_ | refine qC (ac_l00Word q3 hk) rfl ?_ | refine o_put (p_bin (by first | exact b_eq_t (by omega) | exact b_eq_f (by omega) | exact b_ne_t (by omega) | exact b_ne_f (by omega) | exact b_gt_t (by omega) | exact b_gt_f (by omega) | exact b_seq_t (by assumption) | exact b_seq_f (by assumption) | exact b_sne_t (by assumption) | exact b_sne_f (by assumption)) rfl rfl rfl) rfl rfl ?_ | refine o_put (p_lenm rfl ⟨_, _, _, _, rfl⟩) rfl rfl ?_ | refine o_nil (q_then ?_) | refine c_seq ?_ | refine c_reg ?_ | refine c_dreg (by kernel_rfl) ?_ | refine c_cond_t rfl ?_ | refine c_cond_f rfl ?_ | refine c_block ?_ | refine c_skip ?_ | refine o_skip rfl rfl ?_ | refine q_then ?_ | refine q_thenr ?_ | refine q_thenx ?_ | refine q_blkn ?_ | refine q_blkr ?_ | refine q_blkx ?_ | refine q_blko rfl ?_ | refine c_exit ?_ | refine c_ret ?_ | refine q_ret ?_ | refine q_retn ?_ | refine o_step rfl rfl (p_box (y := .agg _) rfl rfl rfl rfl) (fun e => by cases e) ?_ | refine o_put (p_bin b_eqd rfl rfl rfl) rfl rfl ?_ | refine o_put (p_bin b_seqd rfl rfl rfl) rfl rfl ?_)
      exact ⟨trivial, [], by simp, trivial, ⟨trivial, trivial⟩, trivial, ⟨.inl ⟨rfl, rfl⟩, trivial⟩⟩
  | true =>
    rw [show wshB _ = true from by simp [wshB, opB, hn, hs, hk, he]]
    as_aux_lemma =>
      refine o_of Th_ok (by kernel_rfl) Tryz.func58 rfl Tryz.ntmps58 Tryz.results58 (by kernel_rfl) rfl ?_
      repeat (first | refine o_put (p_ofld rfl rfl rfl) rfl rfl ?_ | refine o_put (p_old rfl rfl rfl rfl rfl rfl rfl) rfl rfl ?_ | refine o_put (p_mv (by conv => lhs; whnf)) rfl rfl ?_ | refine o_put (p_as (by conv => lhs; whnf)) rfl rfl ?_ | refine o_put (p_asc rfl) rfl rfl ?_ | refine o_put (p_pick (z := .v _) rfl rfl rfl rfl) rfl rfl ?_ | refine o_put (p_not rfl) rfl rfl ?_ | refine qC (ac_l00Word q1 hn) rfl ?_ | refine qC (ac_in_t (by omega : (1 : Int) ≤ 5) (by omega : (5 : Int) ≤ 6)) rfl ?_ | refine qC (ac_sEdts hes q4 q5) rfl ?_ | refine qC (ac_l00Word q3 hk) rfl ?_ | refine o_put (p_bin (by first | exact b_eq_t (by omega) | exact b_eq_f (by omega) | exact b_ne_t (by omega) | exact b_ne_f (by omega) | exact b_gt_t (by omega) | exact b_gt_f (by omega) | exact b_seq_t (by assumption) | exact b_seq_f (by assumption) | exact b_sne_t (by assumption) | exact b_sne_f (by assumption)) rfl rfl rfl) rfl rfl ?_ | refine o_put (p_lenm rfl ⟨_, _, _, _, rfl⟩) rfl rfl ?_ | refine o_nil (q_then ?_) | refine c_seq ?_ | refine c_reg ?_ | refine c_dreg (by kernel_rfl) ?_ | refine c_cond_t rfl ?_ | refine c_cond_f rfl ?_ | refine c_block ?_ | refine c_skip ?_ | refine o_skip rfl rfl ?_ | refine q_then ?_ | refine q_thenr ?_ | refine q_thenx ?_ | refine q_blkn ?_ | refine q_blkr ?_ | refine q_blkx ?_ | refine q_blko rfl ?_ | refine c_exit ?_ | refine c_ret ?_ | refine q_ret ?_ | refine q_retn ?_ | refine o_step rfl rfl (p_box (y := .agg _) rfl rfl rfl rfl) (fun e => by cases e) ?_ | refine o_put (p_bin b_eqd rfl rfl rfl) rfl rfl ?_ | refine o_put (p_bin b_seqd rfl rfl rfl) rfl rfl ?_)
      exact ⟨trivial, [], by simp, trivial, ⟨trivial, trivial⟩, trivial, ⟨.inl ⟨rfl, rfl⟩, trivial⟩⟩
set_option maxHeartbeats 4000000 in
theorem ac_sWish3 {nm src key : ByteArray} {es : List Edt} (q1 : nm.size ≤ maxLen) (q2 : src.size ≤ maxLen) (q3 : key.size ≤ maxLen) (q4 : es.length ≤ maxLen) (q5 : ∀ e ∈ es, e.key.size ≤ maxLen) (hn : okN nm = true) (hes : editsOK es = true) : AC Tryz.prog 58 [.agg [.v (.int .i64 3), .v (.string nm), .v (.string src), .v (.string key), .lst 3 (es.map edtA)]] ⟨.v (.bool (wshB ⟨3, nm, src, key, es⟩)), []⟩ := by
  have q4' := q4
  unfold maxLen at q4'
  by_cases hs : src = eB
  case neg =>
    rw [show wshB _ = false from by simp [wshB, opB, hn, hs]]
    as_aux_lemma =>
      refine o_of Th_ok (by kernel_rfl) Tryz.func58 rfl Tryz.ntmps58 Tryz.results58 (by kernel_rfl) rfl ?_
      repeat (first | refine o_put (p_ofld rfl rfl rfl) rfl rfl ?_ | refine o_put (p_old rfl rfl rfl rfl rfl rfl rfl) rfl rfl ?_ | refine o_put (p_mv (by conv => lhs; whnf)) rfl rfl ?_ | refine o_put (p_as (by conv => lhs; whnf)) rfl rfl ?_ | refine o_put (p_asc rfl) rfl rfl ?_ | refine o_put (p_pick (z := .v _) rfl rfl rfl rfl) rfl rfl ?_ | refine o_put (p_not rfl) rfl rfl ?_ | refine qC (ac_l00Word q1 hn) rfl ?_ | refine qC (ac_in_t (by omega : (1 : Int) ≤ 3) (by omega : (3 : Int) ≤ 6)) rfl ?_ | refine qC (ac_sEdts hes q4 q5) rfl ?_ | refine o_put (p_bin (by first | exact b_eq_t (by omega) | exact b_eq_f (by omega) | exact b_ne_t (by omega) | exact b_ne_f (by omega) | exact b_gt_t (by omega) | exact b_gt_f (by omega) | exact b_seq_t (by assumption) | exact b_seq_f (by assumption) | exact b_sne_t (by assumption) | exact b_sne_f (by assumption)) rfl rfl rfl) rfl rfl ?_ | refine o_put (p_lenm rfl ⟨_, _, _, _, rfl⟩) rfl rfl ?_ | refine o_nil (q_then ?_) | refine c_seq ?_ | refine c_reg ?_ | refine c_dreg (by kernel_rfl) ?_ | refine c_cond_t rfl ?_ | refine c_cond_f rfl ?_ | refine c_block ?_ | refine c_skip ?_ | refine o_skip rfl rfl ?_ | refine q_then ?_ | refine q_thenr ?_ | refine q_thenx ?_ | refine q_blkn ?_ | refine q_blkr ?_ | refine q_blkx ?_ | refine q_blko rfl ?_ | refine c_exit ?_ | refine c_ret ?_ | refine q_ret ?_ | refine q_retn ?_ | refine o_step rfl rfl (p_box (y := .agg _) rfl rfl rfl rfl) (fun e => by cases e) ?_ | refine o_put (p_bin b_eqd rfl rfl rfl) rfl rfl ?_ | refine o_put (p_bin b_seqd rfl rfl rfl) rfl rfl ?_)
      exact ⟨trivial, [], by simp, trivial, ⟨trivial, trivial⟩, trivial, ⟨.inl ⟨rfl, rfl⟩, trivial⟩⟩
  by_cases hk : key = eB
  case neg =>
    rw [show wshB _ = false from by simp [wshB, opB, hn, hs, hk]]
    as_aux_lemma =>
      refine o_of Th_ok (by kernel_rfl) Tryz.func58 rfl Tryz.ntmps58 Tryz.results58 (by kernel_rfl) rfl ?_
      repeat (first | refine o_put (p_ofld rfl rfl rfl) rfl rfl ?_ | refine o_put (p_old rfl rfl rfl rfl rfl rfl rfl) rfl rfl ?_ | refine o_put (p_mv (by conv => lhs; whnf)) rfl rfl ?_ | refine o_put (p_as (by conv => lhs; whnf)) rfl rfl ?_ | refine o_put (p_asc rfl) rfl rfl ?_ | refine o_put (p_pick (z := .v _) rfl rfl rfl rfl) rfl rfl ?_ | refine o_put (p_not rfl) rfl rfl ?_ | refine qC (ac_l00Word q1 hn) rfl ?_ | refine qC (ac_in_t (by omega : (1 : Int) ≤ 3) (by omega : (3 : Int) ≤ 6)) rfl ?_ | refine qC (ac_sEdts hes q4 q5) rfl ?_ | refine o_put (p_bin (by first | exact b_eq_t (by omega) | exact b_eq_f (by omega) | exact b_ne_t (by omega) | exact b_ne_f (by omega) | exact b_gt_t (by omega) | exact b_gt_f (by omega) | exact b_seq_t (by assumption) | exact b_seq_f (by assumption) | exact b_sne_t (by assumption) | exact b_sne_f (by assumption)) rfl rfl rfl) rfl rfl ?_ | refine o_put (p_lenm rfl ⟨_, _, _, _, rfl⟩) rfl rfl ?_ | refine o_nil (q_then ?_) | refine c_seq ?_ | refine c_reg ?_ | refine c_dreg (by kernel_rfl) ?_ | refine c_cond_t rfl ?_ | refine c_cond_f rfl ?_ | refine c_block ?_ | refine c_skip ?_ | refine o_skip rfl rfl ?_ | refine q_then ?_ | refine q_thenr ?_ | refine q_thenx ?_ | refine q_blkn ?_ | refine q_blkr ?_ | refine q_blkx ?_ | refine q_blko rfl ?_ | refine c_exit ?_ | refine c_ret ?_ | refine q_ret ?_ | refine q_retn ?_ | refine o_step rfl rfl (p_box (y := .agg _) rfl rfl rfl rfl) (fun e => by cases e) ?_ | refine o_put (p_bin b_eqd rfl rfl rfl) rfl rfl ?_ | refine o_put (p_bin b_seqd rfl rfl rfl) rfl rfl ?_)
      exact ⟨trivial, [], by simp, trivial, ⟨trivial, trivial⟩, trivial, ⟨.inl ⟨rfl, rfl⟩, trivial⟩⟩
  rw [show wshB _ = true from by simp [wshB, opB, hn, hs, hk, hes]]
  as_aux_lemma =>
    refine o_of Th_ok (by kernel_rfl) Tryz.func58 rfl Tryz.ntmps58 Tryz.results58 (by kernel_rfl) rfl ?_
    repeat (first | refine o_put (p_ofld rfl rfl rfl) rfl rfl ?_ | refine o_put (p_old rfl rfl rfl rfl rfl rfl rfl) rfl rfl ?_ | refine o_put (p_mv (by conv => lhs; whnf)) rfl rfl ?_ | refine o_put (p_as (by conv => lhs; whnf)) rfl rfl ?_ | refine o_put (p_asc rfl) rfl rfl ?_ | refine o_put (p_pick (z := .v _) rfl rfl rfl rfl) rfl rfl ?_ | refine o_put (p_not rfl) rfl rfl ?_ | refine qC (ac_l00Word q1 hn) rfl ?_ | refine qC (ac_in_t (by omega : (1 : Int) ≤ 3) (by omega : (3 : Int) ≤ 6)) rfl ?_ | refine qC (ac_sEdts hes q4 q5) rfl ?_ | refine o_put (p_bin (by first | exact b_eq_t (by omega) | exact b_eq_f (by omega) | exact b_ne_t (by omega) | exact b_ne_f (by omega) | exact b_gt_t (by omega) | exact b_gt_f (by omega) | exact b_seq_t (by assumption) | exact b_seq_f (by assumption) | exact b_sne_t (by assumption) | exact b_sne_f (by assumption)) rfl rfl rfl) rfl rfl ?_ | refine o_put (p_lenm rfl ⟨_, _, _, _, rfl⟩) rfl rfl ?_ | refine o_nil (q_then ?_) | refine c_seq ?_ | refine c_reg ?_ | refine c_dreg (by kernel_rfl) ?_ | refine c_cond_t rfl ?_ | refine c_cond_f rfl ?_ | refine c_block ?_ | refine c_skip ?_ | refine o_skip rfl rfl ?_ | refine q_then ?_ | refine q_thenr ?_ | refine q_thenx ?_ | refine q_blkn ?_ | refine q_blkr ?_ | refine q_blkx ?_ | refine q_blko rfl ?_ | refine c_exit ?_ | refine c_ret ?_ | refine q_ret ?_ | refine q_retn ?_ | refine o_step rfl rfl (p_box (y := .agg _) rfl rfl rfl rfl) (fun e => by cases e) ?_ | refine o_put (p_bin b_eqd rfl rfl rfl) rfl rfl ?_ | refine o_put (p_bin b_seqd rfl rfl rfl) rfl rfl ?_)
    exact ⟨trivial, [], by simp, trivial, ⟨trivial, trivial⟩, trivial, ⟨.inl ⟨rfl, rfl⟩, trivial⟩⟩
set_option maxHeartbeats 4000000 in
theorem ac_l07Wish {o : Wsh} (ho : o.ok maxLen) : AC Tryz.prog 58 [wshA o] ⟨.v (.bool (wshB o)), []⟩ := by
  obtain ⟨kind, nm, src, key, es⟩ := o
  obtain ⟨q1, q2, q3, q4, q5⟩ := ho
  simp only at q1 q2 q3 q4 q5
  have q4' := q4
  unfold maxLen at q4'
  show AC Tryz.prog 58 [.agg [.v (.int .i64 kind), .v (.string nm), .v (.string src), .v (.string key), .lst 3 (es.map edtA)]] ⟨.v (.bool (wshB ⟨kind, nm, src, key, es⟩)), []⟩
  cases hn : okN nm with
  | false =>
    rw [show wshB _ = false from by simp [wshB, opB, hn]]
    as_aux_lemma =>
      refine o_of Th_ok (by kernel_rfl) Tryz.func58 rfl Tryz.ntmps58 Tryz.results58 (by kernel_rfl) rfl ?_
      repeat (first | refine o_put (p_ofld rfl rfl rfl) rfl rfl ?_ | refine o_put (p_old rfl rfl rfl rfl rfl rfl rfl) rfl rfl ?_ | refine o_put (p_mv (by conv => lhs; whnf)) rfl rfl ?_ | refine o_put (p_as (by conv => lhs; whnf)) rfl rfl ?_ | refine o_put (p_asc rfl) rfl rfl ?_ | refine o_put (p_pick (z := .v _) rfl rfl rfl rfl) rfl rfl ?_ | refine o_put (p_not rfl) rfl rfl ?_ | refine qC (ac_l00Word q1 hn) rfl ?_ | refine o_put (p_bin (by first | exact b_eq_t (by omega) | exact b_eq_f (by omega) | exact b_ne_t (by omega) | exact b_ne_f (by omega) | exact b_gt_t (by omega) | exact b_gt_f (by omega) | exact b_seq_t (by assumption) | exact b_seq_f (by assumption) | exact b_sne_t (by assumption) | exact b_sne_f (by assumption)) rfl rfl rfl) rfl rfl ?_ | refine o_put (p_lenm rfl ⟨_, _, _, _, rfl⟩) rfl rfl ?_ | refine o_nil (q_then ?_) | refine c_seq ?_ | refine c_reg ?_ | refine c_dreg (by kernel_rfl) ?_ | refine c_cond_t rfl ?_ | refine c_cond_f rfl ?_ | refine c_block ?_ | refine c_skip ?_ | refine o_skip rfl rfl ?_ | refine q_then ?_ | refine q_thenr ?_ | refine q_thenx ?_ | refine q_blkn ?_ | refine q_blkr ?_ | refine q_blkx ?_ | refine q_blko rfl ?_ | refine c_exit ?_ | refine c_ret ?_ | refine q_ret ?_ | refine q_retn ?_ | refine o_step rfl rfl (p_box (y := .agg _) rfl rfl rfl rfl) (fun e => by cases e) ?_ | refine o_put (p_bin b_eqd rfl rfl rfl) rfl rfl ?_ | refine o_put (p_bin b_seqd rfl rfl rfl) rfl rfl ?_)
      exact ⟨trivial, [], by simp, trivial, ⟨trivial, trivial⟩, trivial, ⟨.inl ⟨rfl, rfl⟩, trivial⟩⟩
  | true =>
  by_cases hr : 1 ≤ kind ∧ kind ≤ 6
  case neg =>
    have k1 : kind ≠ 1 := by omega
    have k2 : kind ≠ 2 := by omega
    have k3 : kind ≠ 3 := by omega
    have k4 : kind ≠ 4 := by omega
    have k5 : kind ≠ 5 := by omega
    have k6 : kind ≠ 6 := by omega
    rw [show wshB _ = false from by simp [wshB, opB, hn, k1, k2, k3, k4, k5, k6]]
    as_aux_lemma =>
      refine o_of Th_ok (by kernel_rfl) Tryz.func58 rfl Tryz.ntmps58 Tryz.results58 (by kernel_rfl) rfl ?_
      repeat (first | refine o_put (p_ofld rfl rfl rfl) rfl rfl ?_ | refine o_put (p_old rfl rfl rfl rfl rfl rfl rfl) rfl rfl ?_ | refine o_put (p_mv (by conv => lhs; whnf)) rfl rfl ?_ | refine o_put (p_as (by conv => lhs; whnf)) rfl rfl ?_ | refine o_put (p_asc rfl) rfl rfl ?_ | refine o_put (p_pick (z := .v _) rfl rfl rfl rfl) rfl rfl ?_ | refine o_put (p_not rfl) rfl rfl ?_ | refine qC (ac_l00Word q1 hn) rfl ?_ | refine qC (ac_in_f hr) rfl ?_ | refine o_put (p_bin (by first | exact b_eq_t (by omega) | exact b_eq_f (by omega) | exact b_ne_t (by omega) | exact b_ne_f (by omega) | exact b_gt_t (by omega) | exact b_gt_f (by omega) | exact b_seq_t (by assumption) | exact b_seq_f (by assumption) | exact b_sne_t (by assumption) | exact b_sne_f (by assumption)) rfl rfl rfl) rfl rfl ?_ | refine o_put (p_lenm rfl ⟨_, _, _, _, rfl⟩) rfl rfl ?_ | refine o_nil (q_then ?_) | refine c_seq ?_ | refine c_reg ?_ | refine c_dreg (by kernel_rfl) ?_ | refine c_cond_t rfl ?_ | refine c_cond_f rfl ?_ | refine c_block ?_ | refine c_skip ?_ | refine o_skip rfl rfl ?_ | refine q_then ?_ | refine q_thenr ?_ | refine q_thenx ?_ | refine q_blkn ?_ | refine q_blkr ?_ | refine q_blkx ?_ | refine q_blko rfl ?_ | refine c_exit ?_ | refine c_ret ?_ | refine q_ret ?_ | refine q_retn ?_ | refine o_step rfl rfl (p_box (y := .agg _) rfl rfl rfl rfl) (fun e => by cases e) ?_ | refine o_put (p_bin b_eqd rfl rfl rfl) rfl rfl ?_ | refine o_put (p_bin b_seqd rfl rfl rfl) rfl rfl ?_)
      exact ⟨trivial, [], by simp, trivial, ⟨trivial, trivial⟩, trivial, ⟨.inl ⟨rfl, rfl⟩, trivial⟩⟩
  cases hes : editsOK es with
  | false =>
    have hne : es.length ≠ 0 := fun h => by rw [editsOK_nil h] at hes; cases hes
    rw [show wshB _ = false from by simp [wshB, opB, hn, hes, hne]]
    as_aux_lemma =>
      refine o_of Th_ok (by kernel_rfl) Tryz.func58 rfl Tryz.ntmps58 Tryz.results58 (by kernel_rfl) rfl ?_
      repeat (first | refine o_put (p_ofld rfl rfl rfl) rfl rfl ?_ | refine o_put (p_old rfl rfl rfl rfl rfl rfl rfl) rfl rfl ?_ | refine o_put (p_mv (by conv => lhs; whnf)) rfl rfl ?_ | refine o_put (p_as (by conv => lhs; whnf)) rfl rfl ?_ | refine o_put (p_asc rfl) rfl rfl ?_ | refine o_put (p_pick (z := .v _) rfl rfl rfl rfl) rfl rfl ?_ | refine o_put (p_not rfl) rfl rfl ?_ | refine qC (ac_l00Word q1 hn) rfl ?_ | refine qC (ac_in_t hr.1 hr.2) rfl ?_ | refine qC (ac_sEdts hes q4 q5) rfl ?_ | refine o_put (p_bin (by first | exact b_eq_t (by omega) | exact b_eq_f (by omega) | exact b_ne_t (by omega) | exact b_ne_f (by omega) | exact b_gt_t (by omega) | exact b_gt_f (by omega) | exact b_seq_t (by assumption) | exact b_seq_f (by assumption) | exact b_sne_t (by assumption) | exact b_sne_f (by assumption)) rfl rfl rfl) rfl rfl ?_ | refine o_put (p_lenm rfl ⟨_, _, _, _, rfl⟩) rfl rfl ?_ | refine o_nil (q_then ?_) | refine c_seq ?_ | refine c_reg ?_ | refine c_dreg (by kernel_rfl) ?_ | refine c_cond_t rfl ?_ | refine c_cond_f rfl ?_ | refine c_block ?_ | refine c_skip ?_ | refine o_skip rfl rfl ?_ | refine q_then ?_ | refine q_thenr ?_ | refine q_thenx ?_ | refine q_blkn ?_ | refine q_blkr ?_ | refine q_blkx ?_ | refine q_blko rfl ?_ | refine c_exit ?_ | refine c_ret ?_ | refine q_ret ?_ | refine q_retn ?_ | refine o_step rfl rfl (p_box (y := .agg _) rfl rfl rfl rfl) (fun e => by cases e) ?_ | refine o_put (p_bin b_eqd rfl rfl rfl) rfl rfl ?_ | refine o_put (p_bin b_seqd rfl rfl rfl) rfl rfl ?_)
      exact ⟨trivial, [], by simp, trivial, ⟨trivial, trivial⟩, trivial, ⟨.inl ⟨rfl, rfl⟩, trivial⟩⟩
  | true =>
  by_cases k1 : kind = 1
  case pos =>
    subst k1
    exact ac_sWish1 q1 q2 q3 q4 q5 hn hes
  by_cases k2 : kind = 2
  case pos =>
    subst k2
    exact ac_sWish2 q1 q2 q3 q4 q5 hn hes
  by_cases k3 : kind = 3
  case pos =>
    subst k3
    exact ac_sWish3 q1 q2 q3 q4 q5 hn hes
  by_cases k4 : kind = 4
  case pos =>
    subst k4
    exact ac_sWish4 q1 q2 q3 q4 q5 hn hes
  by_cases k5 : kind = 5
  case pos =>
    subst k5
    exact ac_sWish5 q1 q2 q3 q4 q5 hn hes
  obtain rfl : kind = 6 := by omega
  exact ac_sWish6 q1 q2 q3 q4 q5 hn hes
end Go.Proofs.YtmfmclnklpbiaaaGreat.AM
namespace Go.Proofs.YtmfmclnklpbiaaaGreat.AM
open Go Go.RowKit
set_option linter.unusedVariables false
set_option linter.unusedSimpArgs false
set_option maxRecDepth 100000
attribute [local irreducible] ACode AOps AOps2 RetG RetM Pre ACG
end Go.Proofs.YtmfmclnklpbiaaaGreat.AM
namespace Go.Proofs.YtmfmclnklpbiaaaGreat.AM
open Go Go.RowKit
set_option linter.unusedVariables false
set_option linter.unusedSimpArgs false
set_option maxRecDepth 100000
abbrev i0A : AV := .v (.int .i64 0)
abbrev nilV : AV := .v (.slice none 0 0)
/-- a client with nothing finished, its map as z -/
def cliZ (ws : List Wsh) (z : AV) : AV := .agg [.lst 5 (ws.map wshA), i0A, i0A, i0A, i0A, i0A, i0A, i0A, z]
def cliO (l : Nat) : List AV := [.own l, i0A, i0A, i0A, i0A, i0A, i0A, i0A, nilV]
def wssB (ws : List Wsh) : Bool := ws.all wshB
theorem wss_bad {ws : List Wsh} {k : Nat} (h : k < ws.length) (hb : wshB ws[k] = false) : wssB ws = false := by
  unfold wssB
  rw [List.all_eq_false]
  exact ⟨_, List.getElem_mem h, by simp [hb]⟩
theorem wss_ok {ws : List Wsh} (h : ∀ j (hj : j < ws.length), wshB ws[j] = true) : wssB ws = true := by
  unfold wssB
  rw [List.all_eq_true]
  intro x hx
  obtain ⟨j, hj, rfl⟩ := List.getElem_of_mem hx
  exact h j hj
section
variable {s : St} {Θ : Tab}
theorem r_mix1V {a t l L t2 : Nat} {ob q : OB} {t' : Option Nat} {xs ys : List AV} {v : Value} (h1 : s.sl a = .optr l 0 [] 0) (ho : s.hp l = some ob) (hoe : openE ob.e ob.xs 0 = some (.o t' 0 (.mix xs))) (hq : s.hp L = some q) (hm : AV.mix xs = mapA (fun k => [L].getD k 0) (.mix ys)) (hw : (AV.mix ys).within (fun k => Nat.blt k [L].length) = true) (hv : s.sl t2 = .v v) (hof : ofO (.mix xs) = some (.mix xs) := by rfl) (hk : ((Θ.look t).known && (Θ.look t).isAgg && Nat.beq (aszs xs) (Θ.look t).size) = true := by rfl) (hop : ob.e.open_ = false := by rfl) (hok : okL L = true := by rfl) (hsh : q.e.shut = true := by rfl) :
    RetQ Θ [.cell a t, .tmp t2] ⟨.tup [.mix ys, .v v], [q]⟩ .ret s := by
  obtain ⟨c1, c2⟩ := cellM (Θ := Θ) (t := t) h1 ho hop hoe hof hk
  exact ⟨trivial, [L], by simp, ⟨⟨hq, hok, hsh⟩, trivial⟩, ⟨c2, trivial, trivial⟩, ⟨_, rfl⟩, ⟨by rw [c1]; exact .inl ⟨hm, hw⟩, by show retA _ _ (s.sl t2) _; rw [hv]; exact .inl ⟨rfl, rfl⟩, trivial⟩⟩
end
attribute [local irreducible] ACode AOps AOps2 RetG RetM Pre ACG
theorem ac_wishesOK {ws : List Wsh} (hm : ws.length ≤ maxLen) (hc : ∀ c ∈ ws, c.ok maxLen) : AC Tryz.prog 74 [.lst 5 (ws.map wshA)] ⟨.v (.bool (wssB ws)), []⟩ := by
  unfold maxLen at hm
  refine r_of Th_ok (by kernel_rfl) Tryz.func74 rfl Tryz.ntmps74 Tryz.results74 (by kernel_rfl) rfl ?_; conv => whnf
  repeat (((first | refine qb rfl rfl ?_ | refine qi (by assumption) rfl rfl ?_ | refine ql rfl ?_ | refine qo rfl rfl ?_ | refine qs rfl rfl ?_ | refine qn rfl rfl ?_); conv => whnf))
  refine r_loop (ι := { k : Nat // k ≤ ws.length ∧ ∀ j (hj : j < ws.length), j < k → wshB ws[j] = true }) (fun k => ⟨[(5, .lst 5 (ws.map wshA)), (6, .v (.int .i64 (ws.length : Int))), (7, .v (.int .i64 (k.1 : Int)))], []⟩) (fun k => ws.length - k.1) ⟨0, Nat.zero_le _, fun j _ h => by omega⟩ (by refine ⟨?_, ?_⟩ <;> (repeat (first | trivial | exact ⟨rfl, trivial⟩ | refine ⟨rfl, ?_⟩ | refine ⟨.inl ⟨rfl, rfl⟩, ?_⟩ | refine ⟨.inr ⟨_, _, rfl, rfl, rfl, rfl, rfl⟩, ?_⟩))) ?_
  rintro ⟨k, hk, hall⟩
  dsimp only
  conv => whnf
  by_cases hlt : k < ws.length
  · have h1 := ac_iWishOK (hc _ (List.getElem_mem hlt))
    cases hb : wshB ws[k] with
    | false =>
      rw [hb] at h1
      rw [wss_bad hlt hb]
      repeat (first | ((first | refine qb rfl rfl ?_ | refine qi (by assumption) rfl rfl ?_ | refine ql rfl ?_ | refine qo rfl rfl ?_ | refine qs rfl rfl ?_ | refine qn rfl rfl ?_); conv => whnf) | (refine qc (h1) rfl ?_; conv => whnf) | (refine r_step (p_ostore rfl rfl rfl rfl rfl (by conv => lhs; whnf) rfl) rfl rfl (fun e => by first | exact .inl rfl | contradiction | exact .inr (.inl (by kernel_rfl))) ?_; conv => whnf) | (refine .inl (And.intro (by kernel_rfl) ?_); conv => whnf))
      exact r_ret1 rfl trivial
    | true =>
      rw [hb] at h1
      repeat (first | ((first | refine qb rfl rfl ?_ | refine qi (by assumption) rfl rfl ?_ | refine ql rfl ?_ | refine qo rfl rfl ?_ | refine qs rfl rfl ?_ | refine qn rfl rfl ?_); conv => whnf) | (refine qc (h1) rfl ?_; conv => whnf) | (refine r_step (p_ostore rfl rfl rfl rfl rfl (by conv => lhs; whnf) rfl) rfl rfl (fun e => by first | exact .inl rfl | contradiction | exact .inr (.inl (by kernel_rfl))) ?_; conv => whnf) | (refine .inl (And.intro (by kernel_rfl) ?_); conv => whnf))
      exact ⟨⟨k + 1, hlt, fun j hj h => by
        rcases Nat.lt_succ_iff_lt_or_eq.1 h with h | h
        · exact hall j hj h
        · subst h; exact hb⟩, by refine ⟨?_, ?_⟩ <;> (repeat (first | trivial | exact ⟨rfl, trivial⟩ | refine ⟨rfl, ?_⟩ | refine ⟨.inl ⟨rfl, rfl⟩, ?_⟩ | refine ⟨.inr ⟨_, _, rfl, rfl, rfl, rfl, rfl⟩, ?_⟩)), by simp; omega⟩
  · rw [wss_ok (fun j hj => hall j hj (by omega))]
    repeat (((first | refine qb rfl rfl ?_ | refine qi (by assumption) rfl rfl ?_ | refine ql rfl ?_ | refine qo rfl rfl ?_ | refine qs rfl rfl ?_ | refine qn rfl rfl ?_); conv => whnf))
    exact r_ret1 rfl trivial
theorem ac_l07Wishes {ws : List Wsh} (hm : ws.length ≤ 6) (hc : ∀ c ∈ ws, c.ok maxLen) : AC Tryz.prog 25 [.lst 5 (ws.map wshA)] ⟨.v (.bool (wssB ws)), []⟩ := by
  refine r_of Th_ok (by kernel_rfl) Tryz.func25 rfl Tryz.ntmps25 Tryz.results25 (by kernel_rfl) rfl ?_; conv => whnf
  repeat (((first | refine qb rfl rfl ?_ | refine qi (by assumption) rfl rfl ?_ | refine ql rfl ?_ | refine qo rfl rfl ?_ | refine qs rfl rfl ?_ | refine qn rfl rfl ?_); conv => whnf))
  refine r_loop (ι := { k : Nat // k ≤ ws.length ∧ ∀ j (hj : j < ws.length), j < k → wshB ws[j] = true }) (fun k => ⟨[(0, .lst 5 (ws.map wshA)), (3, .v (.int .i64 (k.1 : Int)))], []⟩) (fun k => ws.length - k.1) ⟨0, Nat.zero_le _, fun j _ h => by omega⟩ (by refine ⟨?_, ?_⟩ <;> (repeat (first | trivial | exact ⟨rfl, trivial⟩ | refine ⟨rfl, ?_⟩ | refine ⟨.inl ⟨rfl, rfl⟩, ?_⟩ | refine ⟨.inr ⟨_, _, rfl, rfl, rfl, rfl, rfl⟩, ?_⟩))) ?_
  rintro ⟨k, hk, hall⟩
  dsimp only
  conv => whnf
  by_cases hlt : k < ws.length
  · have h1 := ac_l07Wish (hc _ (List.getElem_mem hlt))
    cases hb : wshB ws[k] with
    | false =>
      rw [hb] at h1
      rw [wss_bad hlt hb]
      repeat (first | ((first | refine qb rfl rfl ?_ | refine qi (by assumption) rfl rfl ?_ | refine ql rfl ?_ | refine qo rfl rfl ?_ | refine qs rfl rfl ?_ | refine qn rfl rfl ?_); conv => whnf) | (refine qc (h1) rfl ?_; conv => whnf) | (refine r_step (p_ostore rfl rfl rfl rfl rfl (by conv => lhs; whnf) rfl) rfl rfl (fun e => by first | exact .inl rfl | contradiction | exact .inr (.inl (by kernel_rfl))) ?_; conv => whnf) | (refine .inl (And.intro (by kernel_rfl) ?_); conv => whnf))
      exact r_ret1 rfl trivial
    | true =>
      rw [hb] at h1
      repeat (first | ((first | refine qb rfl rfl ?_ | refine qi (by assumption) rfl rfl ?_ | refine ql rfl ?_ | refine qo rfl rfl ?_ | refine qs rfl rfl ?_ | refine qn rfl rfl ?_); conv => whnf) | (refine qc (h1) rfl ?_; conv => whnf) | (refine r_step (p_ostore rfl rfl rfl rfl rfl (by conv => lhs; whnf) rfl) rfl rfl (fun e => by first | exact .inl rfl | contradiction | exact .inr (.inl (by kernel_rfl))) ?_; conv => whnf) | (refine .inl (And.intro (by kernel_rfl) ?_); conv => whnf))
      exact ⟨⟨k + 1, hlt, fun j hj h => by
        rcases Nat.lt_succ_iff_lt_or_eq.1 h with h | h
        · exact hall j hj h
        · subst h; exact hb⟩, by refine ⟨?_, ?_⟩ <;> (repeat (first | trivial | exact ⟨rfl, trivial⟩ | refine ⟨rfl, ?_⟩ | refine ⟨.inl ⟨rfl, rfl⟩, ?_⟩ | refine ⟨.inr ⟨_, _, rfl, rfl, rfl, rfl, rfl⟩, ?_⟩)), by simp; omega⟩
  · rw [wss_ok (fun j hj => hall j hj (by omega))]
    repeat (((first | refine qb rfl rfl ?_ | refine qi (by assumption) rfl rfl ?_ | refine ql rfl ?_ | refine qo rfl rfl ?_ | refine qs rfl rfl ?_ | refine qn rfl rfl ?_); conv => whnf))
    exact r_ret1 rfl trivial
theorem ac_copyWishes {ws : List Wsh} (hm : ws.length ≤ 1048576) (hc : ∀ c ∈ ws, c.edits.length ≤ 1048576) : AC Tryz.prog 75 [.lst 5 (ws.map wshA)] ⟨.own 0, [⟨.d 109, 5, ws.map wshA⟩]⟩ := by
  refine r_of Th_ok (by kernel_rfl) Tryz.func75 rfl Tryz.ntmps75 Tryz.results75 (by kernel_rfl) rfl ?_; conv => whnf
  repeat (((first | refine qb rfl rfl ?_ | refine qi (by assumption) rfl rfl ?_ | refine ql rfl ?_ | refine qo rfl rfl ?_ | refine qs rfl rfl ?_ | refine qn rfl rfl ?_); conv => whnf))
  refine r_gh (p_call (ac_cloneWsh hm) rfl (.inl rfl) (by first | exact trivial | exact ⟨⟨rfl, rfl, rfl⟩, trivial⟩ | exact ⟨⟨rfl, rfl, rfl⟩, ⟨rfl, rfl, rfl⟩, trivial⟩ | exact ⟨⟨rfl, rfl, rfl⟩, ⟨rfl, rfl, rfl⟩, ⟨rfl, rfl, rfl⟩, trivial⟩) rfl rfl) rfl rfl (fun e => by cases e) (Gh.s2p 7 rfl (Gh.done ?_))
  conv => whnf
  repeat (first | (refine r_put (p_leno (m := ws.length) rfl rfl (by simp) ⟨_, _, _, _, rfl⟩) rfl rfl ?_; conv => whnf) | ((first | refine qb rfl rfl ?_ | refine qi (by assumption) rfl rfl ?_ | refine ql rfl ?_ | refine qo rfl rfl ?_ | refine qs rfl rfl ?_ | refine qn rfl rfl ?_); conv => whnf))
  refine r_loop (ι := { k : Nat // k ≤ ws.length }) (fun k => ⟨[(3, .own 7), (8, .v (.int .i64 (ws.length : Int))), (9, .v (.int .i64 (k.1 : Int)))], [(7, ⟨.p 109 k.1, 5, ws.map wshA⟩)]⟩) (fun k => ws.length - k.1) ⟨0, Nat.zero_le _⟩ ⟨⟨rfl, trivial⟩, .inl ⟨rfl, rfl⟩, .inl ⟨rfl, rfl⟩, .inl ⟨rfl, rfl⟩, trivial⟩ ?_
  rintro ⟨k, hk⟩
  dsimp only
  conv => whnf
  by_cases hlt : k < ws.length
  · have q1 := hc _ (List.getElem_mem hlt)
    have hx : (ws.map wshA)[k]? = some (wshA ws[k]) := getA wshA hlt
    have hl : k < (ws.map wshA).length := by simpa using hlt
    have hset : (ws.map wshA).set k (wshA ws[k]) = ws.map wshA := by rw [← List.map_set]; congr 1; exact List.set_getElem_self hlt
    repeat (first | ((first | refine qb rfl rfl ?_ | refine qi (by assumption) rfl rfl ?_ | refine ql rfl ?_ | refine qo rfl rfl ?_ | refine qs rfl rfl ?_ | refine qn rfl rfl ?_); conv => whnf) | (refine qc (ac_cloneEdt q1) rfl ?_; conv => whnf) | (refine .inl (And.intro (by kernel_rfl) ?_); conv => whnf) | (refine r_put (p_oidx hl rfl rfl rfl rfl rfl) rfl rfl ?_; conv => whnf) | (refine r_put (p_oldp rfl rfl rfl (Nat.le_refl k) hx rfl rfl rfl rfl) rfl rfl ?_; conv => whnf) | (refine r_step (p_ostoreq rfl rfl rfl hx (j := 4) rfl rfl rfl rfl rfl rfl rfl rfl (.inr ⟨⟨_, rfl⟩, noL_edt⟩)) rfl rfl (fun e => by first | exact .inl rfl | contradiction | exact .inr (.inl (by kernel_rfl))) ?_; conv => whnf))
    refine ⟨⟨k + 1, hlt⟩, ⟨⟨?_, trivial⟩, .inl ⟨rfl, rfl⟩, .inl ⟨rfl, rfl⟩, .inl ⟨rfl, rfl⟩, trivial⟩, by simp; omega⟩
    exact congrArg (fun x => some (OB.mk _ _ x)) hset
  · have hkk : k = ws.length := by omega
    subst hkk
    refine r_gh (p_bin (b_lt_f (by omega)) rfl rfl rfl) rfl rfl (fun e => by cases e) (Gh.p2d 7 rfl (by simp) (Gh.done ?_))
    conv => whnf
    repeat (((first | refine qb rfl rfl ?_ | refine qi (by assumption) rfl rfl ?_ | refine ql rfl ?_ | refine qo rfl rfl ?_ | refine qs rfl rfl ?_ | refine qn rfl rfl ?_); conv => whnf))
    exact r_own1 rfl rfl
theorem ac_l07Copy {ws : List Wsh} (hm : ws.length ≤ 6) (hc : ∀ c ∈ ws, c.edits.length ≤ 1048576) : AC Tryz.prog 104 [.lst 5 (ws.map wshA)] ⟨.own 0, [⟨109, 5, ws.map wshA⟩]⟩ := by
  refine r_of Th_ok (by kernel_rfl) Tryz.func104 rfl Tryz.ntmps104 Tryz.results104 (by kernel_rfl) rfl ?_; conv => whnf
  repeat (((first | refine qb rfl rfl ?_ | refine qi (by assumption) rfl rfl ?_ | refine ql rfl ?_ | refine qo rfl rfl ?_ | refine qs rfl rfl ?_ | refine qn rfl rfl ?_); conv => whnf))
  refine r_loop (ι := { k : Nat // k ≤ ws.length }) (fun k => ⟨[(0, .lst 5 (ws.map wshA)), (3, .own 7), (4, .v (.int .i64 (k.1 : Int)))], [(7, ⟨109, 5, (ws.take k.1).map wshA⟩)]⟩) (fun k => ws.length - k.1) ⟨0, Nat.zero_le _⟩ ⟨⟨rfl, trivial⟩, .inl ⟨rfl, rfl⟩, .inl ⟨rfl, rfl⟩, .inl ⟨rfl, rfl⟩, trivial⟩ ?_
  rintro ⟨k, hk⟩
  dsimp only
  conv => whnf
  by_cases hlt : k < ws.length
  · have q1 := hc _ (List.getElem_mem hlt)
    have hsn : ws.take k ++ [ws[k]] = ws.take (k + 1) := (List.take_succ_eq_append_getElem hlt).symm
    repeat (first | ((first | refine qb rfl rfl ?_ | refine qi (by assumption) rfl rfl ?_ | refine ql rfl ?_ | refine qo rfl rfl ?_ | refine qs rfl rfl ?_ | refine qn rfl rfl ?_); conv => whnf) | (refine r_step (p_ostore rfl rfl rfl rfl rfl (by conv => lhs; whnf) rfl) rfl rfl (fun e => by first | exact .inl rfl | contradiction | exact .inr (.inl (by kernel_rfl))) ?_; conv => whnf) | (refine .inl (And.intro (by kernel_rfl) ?_); conv => whnf) | (refine r_step (p_appl (xs := []) (ys := (ws[k]).edits) (f := edtA) (by simp; omega) rfl rfl rfl rfl rfl rfl) rfl rfl (fun e => by first | exact .inl rfl | contradiction | exact .inr (.inl (by kernel_rfl))) ?_; conv => whnf) | (refine r_step (p_ostoref rfl rfl rfl rfl rfl rfl rfl rfl) rfl rfl (fun e => by first | exact .inl rfl | contradiction | exact .inr (.inl (by kernel_rfl))) ?_; conv => whnf) | (refine r_step (p_app1r (f := wshA) ws[k] _ hsn (by rw [List.length_take]; omega) rfl rfl rfl rfl rfl rfl rfl) rfl rfl (fun e => by first | exact .inl rfl | contradiction | exact .inr (.inl (by kernel_rfl))) ?_; conv => whnf))
    exact ⟨⟨k + 1, hlt⟩, by refine ⟨?_, ?_⟩ <;> (repeat (first | trivial | exact ⟨rfl, trivial⟩ | refine ⟨rfl, ?_⟩ | refine ⟨.inl ⟨rfl, rfl⟩, ?_⟩ | refine ⟨.inr ⟨_, _, rfl, rfl, rfl, rfl, rfl⟩, ?_⟩)), by simp; omega⟩
  · have hkk : k = ws.length := by omega
    subst hkk
    repeat (((first | refine qb rfl rfl ?_ | refine qi (by assumption) rfl rfl ?_ | refine ql rfl ?_ | refine qo rfl rfl ?_ | refine qs rfl rfl ?_ | refine qn rfl rfl ?_); conv => whnf))
    exact r_own1 rfl (by show some (OB.mk _ _ _) = _; rw [List.take_length])
theorem ac_iNewC {ws : List Wsh} (hm : ws.length ≤ 6) (hc : ∀ c ∈ ws, c.ok maxLen) (he : ∀ c ∈ ws, c.edits.length ≤ 1048576) (hb : wssB ws = true) : AC Tryz.prog 34 [.lst 5 (ws.map wshA)] ⟨.tup [.mix (cliO 0), .v (.int .i64 0)], [⟨.d 109, 5, ws.map wshA⟩]⟩ := by
  have h1 := ac_wishesOK (by unfold maxLen; omega) hc
  rw [hb] at h1
  have h2 := ac_copyWishes (by omega) he
  refine r_of Th_ok (by kernel_rfl) Tryz.func34 rfl Tryz.ntmps34 Tryz.results34 (by kernel_rfl) rfl ?_; conv => whnf
  repeat (first | ((first | refine qb rfl rfl ?_ | refine qi (by assumption) rfl rfl ?_ | refine ql rfl ?_ | refine qo rfl rfl ?_ | refine qs rfl rfl ?_ | refine qn rfl rfl ?_); conv => whnf) | (refine .inl (And.intro (by kernel_rfl) ?_); conv => whnf) | (refine qc (h1) rfl ?_; conv => whnf) | (refine qc (h2) rfl ?_; conv => whnf) | (refine r_step (p_ostore rfl rfl rfl rfl rfl (by conv => lhs; whnf) rfl) rfl rfl (fun e => by first | exact .inl rfl | contradiction | exact .inr (.inl (by kernel_rfl))) ?_; conv => whnf))
  refine r_step (p_buildm rfl ⟨⟨_, _, rfl, rfl, rfl⟩, trivial⟩ rfl) rfl rfl (fun e => by first | exact .inl rfl | contradiction | exact .inr (.inl (by kernel_rfl))) ?_
  conv => whnf
  repeat (first | ((first | refine qb rfl rfl ?_ | refine qi (by assumption) rfl rfl ?_ | refine ql rfl ?_ | refine qo rfl rfl ?_ | refine qs rfl rfl ?_ | refine qn rfl rfl ?_); conv => whnf) | (refine r_step (p_ostoreo rfl rfl rfl rfl rfl rfl) rfl rfl (fun e => by first | exact .inl rfl | contradiction | exact .inr (.inl (by kernel_rfl))) ?_; conv => whnf))
  exact r_mix1V rfl rfl rfl rfl rfl rfl rfl
def cliK (ws : List Wsh) : Int := if 4096 < ws.length then 2 else if 6 < ws.length then 6 else if wssB ws then 0 else 1
theorem ac_iNewC_bad {ws : List Wsh} (hm : ws.length ≤ maxLen) (hc : ∀ c ∈ ws, c.ok maxLen) (hb : cliK ws ≠ 0) : AC Tryz.prog 34 [.lst 5 (ws.map wshA)] ⟨.tup [cliZ [] (.lst 2 []), .v (.int .i64 (cliK ws))], []⟩ := by
  have h1 := ac_wishesOK hm hc
  unfold maxLen at hm
  unfold cliK at hb ⊢
  by_cases a1 : 4096 < ws.length
  · rw [if_pos a1]
    refine r_of Th_ok (by kernel_rfl) Tryz.func34 rfl Tryz.ntmps34 Tryz.results34 (by kernel_rfl) rfl ?_; conv => whnf
    repeat (first | ((first | refine qb rfl rfl ?_ | refine qi (by assumption) rfl rfl ?_ | refine ql rfl ?_ | refine qo rfl rfl ?_ | refine qs rfl rfl ?_ | refine qn rfl rfl ?_); conv => whnf) | (refine .inl (And.intro (by kernel_rfl) ?_); conv => whnf) | (refine r_step (p_ostore rfl rfl rfl rfl rfl (by conv => lhs; whnf) rfl) rfl rfl (fun e => by first | exact .inl rfl | contradiction | exact .inr (.inl (by kernel_rfl))) ?_; conv => whnf))
    exact r_tupCV (x := cliZ [] (.lst 2 [])) rfl rfl rfl rfl trivial rfl
  rw [if_neg a1] at hb ⊢
  by_cases a2 : 6 < ws.length
  · rw [if_pos a2]
    refine r_of Th_ok (by kernel_rfl) Tryz.func34 rfl Tryz.ntmps34 Tryz.results34 (by kernel_rfl) rfl ?_; conv => whnf
    repeat (first | ((first | refine qb rfl rfl ?_ | refine qi (by assumption) rfl rfl ?_ | refine ql rfl ?_ | refine qo rfl rfl ?_ | refine qs rfl rfl ?_ | refine qn rfl rfl ?_); conv => whnf) | (refine .inl (And.intro (by kernel_rfl) ?_); conv => whnf) | (refine r_step (p_ostore rfl rfl rfl rfl rfl (by conv => lhs; whnf) rfl) rfl rfl (fun e => by first | exact .inl rfl | contradiction | exact .inr (.inl (by kernel_rfl))) ?_; conv => whnf))
    exact r_tupCV (x := cliZ [] (.lst 2 [])) rfl rfl rfl rfl trivial rfl
  rw [if_neg a2] at hb ⊢
  cases h : wssB ws with
  | true => rw [h] at hb; exact absurd rfl hb
  | false =>
    rw [h] at h1
    refine r_of Th_ok (by kernel_rfl) Tryz.func34 rfl Tryz.ntmps34 Tryz.results34 (by kernel_rfl) rfl ?_; conv => whnf
    repeat (first | ((first | refine qb rfl rfl ?_ | refine qi (by assumption) rfl rfl ?_ | refine ql rfl ?_ | refine qo rfl rfl ?_ | refine qs rfl rfl ?_ | refine qn rfl rfl ?_); conv => whnf) | (refine .inl (And.intro (by kernel_rfl) ?_); conv => whnf) | (refine qc (h1) rfl ?_; conv => whnf) | (refine r_step (p_ostore rfl rfl rfl rfl rfl (by conv => lhs; whnf) rfl) rfl rfl (fun e => by first | exact .inl rfl | contradiction | exact .inr (.inl (by kernel_rfl))) ?_; conv => whnf))
    exact r_tupCV (x := cliZ [] (.lst 2 [])) rfl rfl rfl rfl trivial rfl
end Go.Proofs.YtmfmclnklpbiaaaGreat.AM
namespace Go.Proofs.YtmfmclnklpbiaaaGreat
open Go.RowKit

end Go.Proofs.YtmfmclnklpbiaaaGreat
/- Two stores compared, on both sides; the law of SameStore over data. -/
namespace Go.Proofs.YtmfmclnklpbiaaaGreat.AM
open Go Go.RowKit
set_option linter.unusedVariables false
set_option linter.unusedSimpArgs false
set_option maxRecDepth 100000
attribute [local irreducible] ACode AOps AOps2 RetG RetM Pre ACG
end Go.Proofs.YtmfmclnklpbiaaaGreat.AM
/- The law of SameStore over data. -/
namespace Go.Proofs.YtmfmclnklpbiaaaGreat.AM
open Go Go.RowKit
set_option linter.unusedVariables false
set_option linter.unusedSimpArgs false
set_option maxRecDepth 100000
attribute [local irreducible] ACode AOps AOps2 RetG RetM Pre ACG
theorem comOK_sz' {cs : List Cmt} {l : Int} (h : 0 ≤ szCS cs l) (h1 : l ≤ 1048576) : szCS cs l ≤ l ∧ cs.length ≤ 1048576 ∧ comOK 1048576 cs := by
  obtain ⟨k1, k2⟩ := szCS_le h
  refine ⟨?_, by omega, fun c hc => by obtain ⟨q1, q2, q3⟩ := k2 c hc; exact ⟨by omega, by omega, fun e he => by have := q3 e he; omega⟩⟩
  unfold szCS at h ⊢
  split
  · omega
  · rename_i hn
    rw [if_neg hn] at h
    have := (szG_le h).1
    omega
end Go.Proofs.YtmfmclnklpbiaaaGreat.AM
namespace Go.Proofs.YtmfmclnklpbiaaaGreat.AM
open Go Go.RowKit
set_option linter.unusedVariables false
set_option linter.unusedSimpArgs false
set_option maxRecDepth 100000
instance : DecidableEq Rf := fun a b => decidable_of_iff _ ref_ext.symm
def hdsB (n : Nat) (l : List Rf) : Bool := l.all fun r => decide (r.head ≤ n)
noncomputable def basB (b : Bas) : Bool := stoB b.store && (refsB b.refs && hdsB b.store.length b.refs)
theorem hdsB_drop {n : Nat} {l : List Rf} {k : Nat} (h : k < l.length) : hdsB n (l.drop k) = (decide (l[k].head ≤ n) && hdsB n (l.drop (k + 1))) := by
  unfold hdsB; rw [List.drop_eq_getElem_cons h, List.all_cons]
structure Bas.ok (b : Bas) (N : Nat) : Prop where
  sm : b.store.length ≤ N
  sc : comOK N b.store
  rm : b.refs.length ≤ N
  rk : nmOK N b.refs
def szB (b : Bas) (l : Int) : Int := if szCS b.store l < 0 then -1 else if szL rSz b.refs (szCS b.store l) < 0 then -1 else szL rSz b.refs (szCS b.store l)
attribute [local irreducible] ACode AOps AOps2 RetG RetM Pre ACG
theorem ac_szBase {b : Bas} {l : Int} (hb : b.ok maxLen) (h0 : 0 ≤ l) (h1 : l ≤ 1048576) : AC Tryz.prog 4 [basA b, .v (.int .i64 l)] ⟨.v (.int .i64 (szB b l)), []⟩ := by
  have z1 := ac_szCommitS hb.sm hb.sc h0 h1
  unfold szB
  by_cases ha : szCS b.store l < 0
  · rw [if_pos ha]
    refine r_of Th_ok (by kernel_rfl) Tryz.func4 rfl Tryz.ntmps4 Tryz.results4 (by kernel_rfl) rfl ?_; conv => whnf
    repeat (first | ((first | refine qb rfl rfl ?_ | refine qi (by assumption) rfl rfl ?_ | refine ql rfl ?_ | refine qo rfl rfl ?_ | refine qs rfl rfl ?_ | refine qn rfl rfl ?_); conv => whnf) | (refine qc (z1) rfl ?_; conv => whnf) | (refine r_step (p_ostore rfl rfl rfl rfl rfl (by conv => lhs; whnf) rfl) rfl rfl (fun e => by first | exact .inl rfl | contradiction | exact .inr (.inl (by kernel_rfl))) ?_; conv => whnf))
    exact r_ret1 rfl trivial
  rw [if_neg ha]
  obtain ⟨z0, _, _⟩ := comOK_sz' (by omega : 0 ≤ szCS b.store l) h1
  have z2 := ac_szRefS (l := szCS b.store l) hb.rm hb.rk (by omega) (by omega)
  by_cases hn : szL rSz b.refs (szCS b.store l) < 0
  · rw [if_pos hn]
    refine r_of Th_ok (by kernel_rfl) Tryz.func4 rfl Tryz.ntmps4 Tryz.results4 (by kernel_rfl) rfl ?_; conv => whnf
    repeat (first | ((first | refine qb rfl rfl ?_ | refine qi (by assumption) rfl rfl ?_ | refine ql rfl ?_ | refine qo rfl rfl ?_ | refine qs rfl rfl ?_ | refine qn rfl rfl ?_); conv => whnf) | (refine qc (z1) rfl ?_; conv => whnf) | (refine qc (z2) rfl ?_; conv => whnf) | (refine r_step (p_ostore rfl rfl rfl rfl rfl (by conv => lhs; whnf) rfl) rfl rfl (fun e => by first | exact .inl rfl | contradiction | exact .inr (.inl (by kernel_rfl))) ?_; conv => whnf))
    exact r_ret1 rfl trivial
  · rw [if_neg hn]
    refine r_of Th_ok (by kernel_rfl) Tryz.func4 rfl Tryz.ntmps4 Tryz.results4 (by kernel_rfl) rfl ?_; conv => whnf
    repeat (first | ((first | refine qb rfl rfl ?_ | refine qi (by assumption) rfl rfl ?_ | refine ql rfl ?_ | refine qo rfl rfl ?_ | refine qs rfl rfl ?_ | refine qn rfl rfl ?_); conv => whnf) | (refine qc (z1) rfl ?_; conv => whnf) | (refine qc (z2) rfl ?_; conv => whnf) | (refine r_step (p_ostore rfl rfl rfl rfl rfl (by conv => lhs; whnf) rfl) rfl rfl (fun e => by first | exact .inl rfl | contradiction | exact .inr (.inl (by kernel_rfl))) ?_; conv => whnf))
    exact r_ret1 rfl trivial
theorem szB_le {b : Bas} {l : Int} (h : 0 ≤ szB b l) (h1 : l ≤ 1048576) : szB b l ≤ 1048576 ∧ b.store.length ≤ 1048576 ∧ comOK 1048576 b.store ∧ b.refs.length ≤ 1048576 := by
  unfold szB at h ⊢
  by_cases ha : szCS b.store l < 0
  · rw [if_pos ha] at h; omega
  rw [if_neg ha] at h ⊢
  obtain ⟨z0, z1, z2⟩ := comOK_sz' (by omega : 0 ≤ szCS b.store l) h1
  by_cases hn : szL rSz b.refs (szCS b.store l) < 0
  · rw [if_pos hn] at h; omega
  rw [if_neg hn] at h ⊢
  obtain ⟨k1, k2, _⟩ := szL_le h
  exact ⟨by omega, z1, z2, by omega⟩
theorem ac_toBase {b : Bas} (hm : b.store.length ≤ 1048576) (hc : comOK 1048576 b.store) (hr : b.refs.length ≤ 1048576) : AC Tryz.prog 8 [basA b] ⟨basA b, []⟩ := by
  have h1 := ac_toCommitS hm (fun c h => ⟨(hc c h).1, (hc c h).2.1⟩)
  have h2 := ac_toRefS hr
  refine r_of Th_ok (by kernel_rfl) Tryz.func8 rfl Tryz.ntmps8 Tryz.results8 (by kernel_rfl) rfl ?_; conv => whnf
  repeat (first | ((first | refine qb rfl rfl ?_ | refine qi (by assumption) rfl rfl ?_ | refine ql rfl ?_ | refine qo rfl rfl ?_ | refine qs rfl rfl ?_ | refine qn rfl rfl ?_); conv => whnf) | (refine qf (h1) rfl ?_; conv => whnf) | (refine qf (h2) rfl ?_; conv => whnf) | (refine r_step (p_ostoref rfl rfl rfl rfl rfl rfl rfl rfl) rfl rfl (fun e => by first | exact .inl rfl | contradiction | exact .inr (.inl (by kernel_rfl))) ?_; conv => whnf) | (refine r_step (p_ostore rfl rfl rfl rfl rfl (by conv => lhs; whnf) rfl) rfl rfl (fun e => by first | exact .inl rfl | contradiction | exact .inr (.inl (by kernel_rfl))) ?_; conv => whnf))
  exact r_cell1 (x := basA b) rfl rfl rfl rfl trivial
theorem ac_eqBase {b : Bas} (hb : b.ok maxLen) : AC Tryz.prog 13 [basA b, basA b] ⟨.v (.bool true), []⟩ := by
  have h1 := ac_eqCommitS hb.sm (fun c h => ⟨(hb.sc c h).1, (hb.sc c h).2.1⟩)
  have h2 := ac_eqRefS hb.rm
  refine r_of Th_ok (by kernel_rfl) Tryz.func13 rfl Tryz.ntmps13 Tryz.results13 (by kernel_rfl) rfl ?_; conv => whnf
  repeat (first | ((first | refine qb rfl rfl ?_ | refine qi (by assumption) rfl rfl ?_ | refine ql rfl ?_ | refine qo rfl rfl ?_ | refine qs rfl rfl ?_ | refine qn rfl rfl ?_); conv => whnf) | (refine qc (h1) rfl ?_; conv => whnf) | (refine qc (h2) rfl ?_; conv => whnf) | (refine r_step (p_ostore rfl rfl rfl rfl rfl (by conv => lhs; whnf) rfl) rfl rfl (fun e => by first | exact .inl rfl | contradiction | exact .inr (.inl (by kernel_rfl))) ?_; conv => whnf))
  exact r_ret1 rfl trivial
set_option maxHeartbeats 1000000 in
theorem ac_iBaseOK {b : Bas} (hb : b.ok maxLen) : AC Tryz.prog 32 [basA b] ⟨.v (.bool (basB b)), []⟩ := by
  have h1 := ac_iStoreOK hb.sm hb.sc
  have h2 := ac_iRefsOK hb.rm hb.rk
  have hm := hb.rm
  have hm2 := hb.sm
  unfold maxLen at hm hm2
  unfold basB
  generalize stoB b.store = x at h1
  generalize refsB b.refs = y at h2
  cases x
  case false =>
    refine r_of Th_ok (by kernel_rfl) Tryz.func32 rfl Tryz.ntmps32 Tryz.results32 (by kernel_rfl) rfl ?_; conv => whnf
    repeat (first | ((first | refine qb rfl rfl ?_ | refine qi (by assumption) rfl rfl ?_ | refine ql rfl ?_ | refine qo rfl rfl ?_ | refine qs rfl rfl ?_ | refine qn rfl rfl ?_); conv => whnf) | (refine qc (h1) rfl ?_; conv => whnf) | (refine qc (h2) rfl ?_; conv => whnf))
    exact r_ret1 rfl trivial
  cases y
  case false =>
    refine r_of Th_ok (by kernel_rfl) Tryz.func32 rfl Tryz.ntmps32 Tryz.results32 (by kernel_rfl) rfl ?_; conv => whnf
    repeat (first | ((first | refine qb rfl rfl ?_ | refine qi (by assumption) rfl rfl ?_ | refine ql rfl ?_ | refine qo rfl rfl ?_ | refine qs rfl rfl ?_ | refine qn rfl rfl ?_); conv => whnf) | (refine qc (h1) rfl ?_; conv => whnf) | (refine qc (h2) rfl ?_; conv => whnf))
    exact r_ret1 rfl trivial
  rw [Bool.true_and, Bool.true_and]
  refine r_of Th_ok (by kernel_rfl) Tryz.func32 rfl Tryz.ntmps32 Tryz.results32 (by kernel_rfl) rfl ?_; conv => whnf
  repeat (first | ((first | refine qb rfl rfl ?_ | refine qi (by assumption) rfl rfl ?_ | refine ql rfl ?_ | refine qo rfl rfl ?_ | refine qs rfl rfl ?_ | refine qn rfl rfl ?_); conv => whnf) | (refine qc (h1) rfl ?_; conv => whnf) | (refine qc (h2) rfl ?_; conv => whnf))
  refine r_loop (ι := { k : Nat // k ≤ b.refs.length ∧ hdsB b.store.length (b.refs.drop k) = hdsB b.store.length b.refs }) (fun k => ⟨[(1, .optr 2 0 [] 0), (16, .lst 4 (b.refs.map refA)), (17, .v (.int .i64 (b.refs.length : Int))), (18, .v (.int .i64 (k.1 : Int)))], [(2, ⟨34, 2, [basA b]⟩)]⟩) (fun k => b.refs.length - k.1) ⟨0, Nat.zero_le _, rfl⟩ (by refine ⟨?_, ?_⟩ <;> (repeat (first | trivial | exact ⟨rfl, trivial⟩ | refine ⟨rfl, ?_⟩ | refine ⟨.inl ⟨rfl, rfl⟩, ?_⟩ | refine ⟨.inr ⟨_, _, rfl, rfl, rfl, rfl, rfl⟩, ?_⟩))) ?_
  rintro ⟨k, hk, hd⟩
  dsimp only at hk hd ⊢
  conv => whnf
  by_cases hlt : k < b.refs.length
  · rw [hdsB_drop hlt] at hd
    by_cases he : b.refs[k].head ≤ b.store.length
    · rw [decide_eq_true he, Bool.true_and] at hd
      repeat (first | ((first | refine qb rfl rfl ?_ | refine qi (by assumption) rfl rfl ?_ | refine ql rfl ?_ | refine qo rfl rfl ?_ | refine qs rfl rfl ?_ | refine qn rfl rfl ?_); conv => whnf) | (refine r_step (p_ostore rfl rfl rfl rfl rfl (by conv => lhs; whnf) rfl) rfl rfl (fun e => by first | exact .inl rfl | contradiction | exact .inr (.inl (by kernel_rfl))) ?_; conv => whnf))
      exact ⟨⟨k + 1, hlt, hd⟩, by refine ⟨?_, ?_⟩ <;> (repeat (first | trivial | exact ⟨rfl, trivial⟩ | refine ⟨rfl, ?_⟩ | refine ⟨.inl ⟨rfl, rfl⟩, ?_⟩ | refine ⟨.inr ⟨_, _, rfl, rfl, rfl, rfl, rfl⟩, ?_⟩)), by simp; omega⟩
    · rw [decide_eq_false he, Bool.false_and] at hd
      rw [← hd]
      repeat (first | ((first | refine qb rfl rfl ?_ | refine qi (by assumption) rfl rfl ?_ | refine ql rfl ?_ | refine qo rfl rfl ?_ | refine qs rfl rfl ?_ | refine qn rfl rfl ?_); conv => whnf) | (refine r_step (p_ostore rfl rfl rfl rfl rfl (by conv => lhs; whnf) rfl) rfl rfl (fun e => by first | exact .inl rfl | contradiction | exact .inr (.inl (by kernel_rfl))) ?_; conv => whnf))
      exact r_ret1 rfl trivial
  · rw [← hd, List.drop_eq_nil_of_le (by omega)]
    repeat (((first | refine qb rfl rfl ?_ | refine qi (by assumption) rfl rfl ?_ | refine ql rfl ?_ | refine qo rfl rfl ?_ | refine qs rfl rfl ?_ | refine qn rfl rfl ?_); conv => whnf))
    exact r_ret1 rfl trivial
set_option maxHeartbeats 1000000 in
theorem ac_l05OK {b : Bas} (hb : b.ok maxLen) : AC Tryz.prog 24 [basA b] ⟨.v (.bool (basB b)), []⟩ := by
  have h1 := ac_l03OK hb.sm hb.sc
  have h2 := ac_l04OK hb.rm hb.rk
  have hm := hb.rm
  have hm2 := hb.sm
  unfold maxLen at hm hm2
  unfold basB
  generalize stoB b.store = x at h1
  generalize refsB b.refs = y at h2
  cases x
  case false =>
    refine r_of Th_ok (by kernel_rfl) Tryz.func24 rfl Tryz.ntmps24 Tryz.results24 (by kernel_rfl) rfl ?_; conv => whnf
    repeat (first | ((first | refine qb rfl rfl ?_ | refine qi (by assumption) rfl rfl ?_ | refine ql rfl ?_ | refine qo rfl rfl ?_ | refine qs rfl rfl ?_ | refine qn rfl rfl ?_); conv => whnf) | (refine qc (h1) rfl ?_; conv => whnf) | (refine qc (h2) rfl ?_; conv => whnf))
    exact r_ret1 rfl trivial
  cases y
  case false =>
    refine r_of Th_ok (by kernel_rfl) Tryz.func24 rfl Tryz.ntmps24 Tryz.results24 (by kernel_rfl) rfl ?_; conv => whnf
    repeat (first | ((first | refine qb rfl rfl ?_ | refine qi (by assumption) rfl rfl ?_ | refine ql rfl ?_ | refine qo rfl rfl ?_ | refine qs rfl rfl ?_ | refine qn rfl rfl ?_); conv => whnf) | (refine qc (h1) rfl ?_; conv => whnf) | (refine qc (h2) rfl ?_; conv => whnf))
    exact r_ret1 rfl trivial
  rw [Bool.true_and, Bool.true_and]
  refine r_of Th_ok (by kernel_rfl) Tryz.func24 rfl Tryz.ntmps24 Tryz.results24 (by kernel_rfl) rfl ?_; conv => whnf
  repeat (first | ((first | refine qb rfl rfl ?_ | refine qi (by assumption) rfl rfl ?_ | refine ql rfl ?_ | refine qo rfl rfl ?_ | refine qs rfl rfl ?_ | refine qn rfl rfl ?_); conv => whnf) | (refine qc (h1) rfl ?_; conv => whnf) | (refine qc (h2) rfl ?_; conv => whnf))
  refine r_loop (ι := { k : Nat // k ≤ b.refs.length ∧ hdsB b.store.length (b.refs.drop k) = hdsB b.store.length b.refs }) (fun k => ⟨[(1, .optr 2 0 [] 0), (3, .v (.int .i64 (k.1 : Int)))], [(2, ⟨34, 2, [basA b]⟩)]⟩) (fun k => b.refs.length - k.1) ⟨0, Nat.zero_le _, rfl⟩ (by refine ⟨?_, ?_⟩ <;> (repeat (first | trivial | exact ⟨rfl, trivial⟩ | refine ⟨rfl, ?_⟩ | refine ⟨.inl ⟨rfl, rfl⟩, ?_⟩ | refine ⟨.inr ⟨_, _, rfl, rfl, rfl, rfl, rfl⟩, ?_⟩))) ?_
  rintro ⟨k, hk, hd⟩
  dsimp only at hk hd ⊢
  conv => whnf
  by_cases hlt : k < b.refs.length
  · rw [hdsB_drop hlt] at hd
    by_cases he : b.refs[k].head ≤ b.store.length
    · rw [decide_eq_true he, Bool.true_and] at hd
      repeat (((first | refine qb rfl rfl ?_ | refine qi (by assumption) rfl rfl ?_ | refine ql rfl ?_ | refine qo rfl rfl ?_ | refine qs rfl rfl ?_ | refine qn rfl rfl ?_); conv => whnf))
      refine .inl ⟨by kernel_rfl, ?_⟩
      conv => whnf
      repeat (first | ((first | refine qb rfl rfl ?_ | refine qi (by assumption) rfl rfl ?_ | refine ql rfl ?_ | refine qo rfl rfl ?_ | refine qs rfl rfl ?_ | refine qn rfl rfl ?_); conv => whnf) | (refine r_step (p_ostore rfl rfl rfl rfl rfl (by conv => lhs; whnf) rfl) rfl rfl (fun e => by first | exact .inl rfl | contradiction | exact .inr (.inl (by kernel_rfl))) ?_; conv => whnf))
      exact ⟨⟨k + 1, hlt, hd⟩, by refine ⟨?_, ?_⟩ <;> (repeat (first | trivial | exact ⟨rfl, trivial⟩ | refine ⟨rfl, ?_⟩ | refine ⟨.inl ⟨rfl, rfl⟩, ?_⟩ | refine ⟨.inr ⟨_, _, rfl, rfl, rfl, rfl, rfl⟩, ?_⟩)), by simp; omega⟩
    · rw [decide_eq_false he, Bool.false_and] at hd
      rw [← hd]
      repeat (((first | refine qb rfl rfl ?_ | refine qi (by assumption) rfl rfl ?_ | refine ql rfl ?_ | refine qo rfl rfl ?_ | refine qs rfl rfl ?_ | refine qn rfl rfl ?_); conv => whnf))
      refine .inl ⟨by kernel_rfl, ?_⟩
      conv => whnf
      repeat (first | ((first | refine qb rfl rfl ?_ | refine qi (by assumption) rfl rfl ?_ | refine ql rfl ?_ | refine qo rfl rfl ?_ | refine qs rfl rfl ?_ | refine qn rfl rfl ?_); conv => whnf) | (refine r_step (p_ostore rfl rfl rfl rfl rfl (by conv => lhs; whnf) rfl) rfl rfl (fun e => by first | exact .inl rfl | contradiction | exact .inr (.inl (by kernel_rfl))) ?_; conv => whnf))
      exact r_ret1 rfl trivial
  · rw [← hd, List.drop_eq_nil_of_le (by omega)]
    repeat (((first | refine qb rfl rfl ?_ | refine qi (by assumption) rfl rfl ?_ | refine ql rfl ?_ | refine qo rfl rfl ?_ | refine qs rfl rfl ?_ | refine qn rfl rfl ?_); conv => whnf))
    exact r_ret1 rfl trivial
theorem bas_ext {a b : Bas} : a = b ↔ a.store = b.store ∧ a.refs = b.refs := by cases a; cases b; simp
instance : DecidableEq Bas := fun a b => decidable_of_iff _ bas_ext.symm
end Go.Proofs.YtmfmclnklpbiaaaGreat.AM
