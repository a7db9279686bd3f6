/- Texts of the machine over data, folded. -/
import Derived.Test.YtjhimcddgkoghaaKb5
import Derived.Test.YtjhimcddgkoghaaKb10
import Derived.Test.YtjhimcddgkoghaaKb11
import Derived.Test.YtjhimcddgkoghaaKb12
import Derived.Test.YtjhimcddgkoghaaKb9
import Derived.Test.YtjhimcddgkoghaaKb8
/- Commits copied, on both sides (AOps2). -/
namespace Go.Proofs.Ytjhimcddgkoghaa.AM
open Go Go.RowKit
set_option linter.unusedVariables false
set_option linter.unusedSimpArgs false
set_option maxRecDepth 100000
attribute [local irreducible] ACode AOps AOps2 RetG RetM Pre ACG
theorem in_nuObs {d k : Nat} {obs : List OB} : ∀ l ∈ (nuObs d k obs).map (·.1), inNu (nuObs d k obs) l := by
  have key : ∀ (obs : List OB) (k : Nat), ∀ l ∈ (nuObs d k obs).map (·.1), ∃ j, l = d + 1000 * j ∧ k ≤ j ∧ j < k + obs.length := by
    intro obs
    induction obs with
    | nil => intro k l hl; simp [nuObs] at hl
    | cons ob r ih =>
      intro k l hl
      simp only [nuObs, List.map_cons, List.mem_cons] at hl
      rcases hl with rfl | hl
      · exact ⟨k, rfl, Nat.le_refl _, by simp⟩
      · obtain ⟨j, h1, h2, h3⟩ := ih (k + 1) l hl
        exact ⟨j, h1, by omega, by simp; omega⟩
  intro l hl
  obtain ⟨j, rfl, h2, h3⟩ := key obs k l hl
  exact nuObs_mem obs k j h2 h3
theorem in_one {l : Nat} {ob : OB} : ∀ m ∈ ([(l, some ob)] : List (Nat × Option OB)).map (·.1), inNu [(l, some ob)] m := fun m hm => by
  simp at hm; subst hm; exact in1 _ _
theorem ac_copyCommit {c : Cmt} (hm : c.1.length ≤ 1048576) (hm2 : c.2.length ≤ 1048576) : AC Try.prog 192 [comA c] ⟨.mix [.own 0, .own 1], [⟨3, 1, c.1.map intA⟩, ⟨167, 2, c.2.map entA⟩]⟩ := by
  refine r_of Th_ok (by kernel_rfl) Try.func192 rfl Try.ntmps192 Try.results192 (by kernel_rfl) rfl ?_; conv => whnf
  refine .inr ⟨by kernel_rfl, prodB_ok (by kernel_rfl), ?_⟩
  refine o2_calm (p_ofld rfl rfl rfl) rfl rfl rfl (.inl rfl) (by kernel_rfl) ?_
  refine o2_calm (p_old rfl rfl rfl rfl rfl rfl rfl) rfl rfl rfl (.inr rfl) (by kernel_rfl) ?_
  refine o2_sft (sft_call (ac_cloneInt hm) rfl rfl rfl ⟨⟨rfl, rfl, rfl⟩, trivial⟩ rfl rfl rfl) in_nuObs rfl rfl (by kernel_rfl) ?_
  refine o2_calm (p_ofld rfl rfl rfl) rfl rfl rfl (.inl rfl) (by kernel_rfl) ?_
  refine o2_calm (p_old rfl rfl rfl rfl rfl rfl rfl) rfl rfl rfl (.inr rfl) (by kernel_rfl) ?_
  refine o2_sft (sft_call (ac_cloneEnt hm2) rfl rfl rfl ⟨⟨rfl, rfl, rfl⟩, trivial⟩ rfl rfl rfl) in_nuObs rfl rfl (by kernel_rfl) ?_
  refine o2_tied (p_buildm rfl ⟨⟨_, _, rfl, rfl, rfl⟩, ⟨_, _, rfl, rfl, rfl⟩, trivial⟩ rfl) rfl rfl (by kernel_rfl) ?_
  refine o2_tied (p_ostoreo rfl rfl rfl rfl rfl rfl) rfl rfl (by kernel_rfl) ?_
  refine o2_nil ?_
  conv => whnf
  exact r_cellM rfl rfl rfl rfl rfl rfl rfl rfl
theorem ac_l03Own {c : Cmt} (hm : c.1.length ≤ 1048576) (hm2 : c.2.length ≤ 1048576) : AC Try.prog 195 [comA c] ⟨.mix [.own 0, .own 1], [⟨3, 1, c.1.map intA⟩, ⟨167, 2, c.2.map entA⟩]⟩ := by
  refine r_of Th_ok (by kernel_rfl) Try.func195 rfl Try.ntmps195 Try.results195 (by kernel_rfl) rfl ?_; conv => whnf
  refine .inr ⟨by kernel_rfl, prodB_ok (by kernel_rfl), ?_⟩
  refine o2_sft (sft_bsl0 rfl rfl) in_one rfl rfl (by kernel_rfl) ?_
  refine o2_calm (p_ofld rfl rfl rfl) rfl rfl rfl (.inl rfl) (by kernel_rfl) ?_
  refine o2_calm (p_old rfl rfl rfl rfl rfl rfl rfl) rfl rfl rfl (.inr rfl) (by kernel_rfl) ?_
  refine o2_sft (sft_appl rfl rfl rfl rfl (by simp; omega) rfl) in_one rfl rfl (by kernel_rfl) ?_
  refine o2_sft (sft_bsl0 rfl rfl) in_one rfl rfl (by kernel_rfl) ?_
  refine o2_calm (p_ofld rfl rfl rfl) rfl rfl rfl (.inl rfl) (by kernel_rfl) ?_
  refine o2_calm (p_old rfl rfl rfl rfl rfl rfl rfl) rfl rfl rfl (.inr rfl) (by kernel_rfl) ?_
  refine o2_sft (sft_appl rfl rfl rfl rfl (by simp; omega) rfl) in_one rfl rfl (by kernel_rfl) ?_
  refine o2_tied (p_buildm rfl ⟨⟨_, _, rfl, rfl, rfl⟩, ⟨_, _, rfl, rfl, rfl⟩, trivial⟩ rfl) rfl rfl (by kernel_rfl) ?_
  refine o2_tied (p_ostoreo rfl rfl rfl rfl rfl rfl) rfl rfl (by kernel_rfl) ?_
  refine o2_nil ?_
  conv => whnf
  exact r_cellM rfl rfl rfl rfl rfl rfl rfl rfl
end Go.Proofs.Ytjhimcddgkoghaa.AM
/- Stores copied, on both sides. -/
namespace Go.Proofs.Ytjhimcddgkoghaa.AM
open Go Go.RowKit
set_option linter.unusedVariables false
set_option linter.unusedSimpArgs false
set_option maxRecDepth 100000
section
variable {P : Program} {Θ : Tab} {s : St} {ty : TypeId} {pos : String} {after : Array Edge} {g : Option (Nat × Bool)}
theorem p_bsl0 {d : Nat} {t : TypeId} {el sz b : Nat} {z : AV} (hf : s.hp (d + 1) = none) (ht : Θ.look t = .slice el sz b z) (hok : okL (d + 1) = true := by rfl) :
    Pre P Θ ⟨some d, .buildSlice t 0 #[], ty, pos, after, g⟩ s ⟨.own (d + 1), some fun s' => s'.set (d + 1) (some ⟨.s el, sz, []⟩)⟩ :=
  ⟨d, el, sz, b, z, rfl, hf, hok, ht, by omega, .inl ⟨trivial, fun x hx => by simp at hx, by simp [ownsOf, ownsAL], by simp [ownsOf, ownsAL, frzT, setParts]⟩⟩
theorem p_bslm {d : Nat} {t : TypeId} {x : Operand} {el sz b : Nat} {z y : AV} (hf : s.hp (d + 1) = none) (ht : Θ.look t = .slice el sz b z) (hx : toO (s.ev x) = some y) (hz : Nat.beq (asz y) sz = true) (hsz : Nat.ble sz 65536 = true) (hc : cOK x = true := by rfl) (hok : okL (d + 1) = true := by rfl) :
    Pre P Θ ⟨some d, .buildSlice t 1 #[(0, x)], ty, pos, after, g⟩ s ⟨.own (d + 1), some fun s' => s'.set (d + 1) (some ⟨.o (some el) 0 y, sz, [y]⟩)⟩ :=
  ⟨d, el, sz, b, z, rfl, hf, hok, ht, by rw [Nat.one_mul]; exact Nat.le_of_ble_eq_true hsz, .inr ⟨x, y, rfl, rfl, cOK_spec hc, hx, Nat.eq_of_beq_eq_true hz, rfl⟩⟩
end
attribute [local irreducible] ACode AOps AOps2 RetG RetM Pre ACG
theorem ac_copyStore {l : List Cmt} (hm : l.length ≤ 1048576) (hc : ∀ c ∈ l, c.1.length ≤ 1048576 ∧ c.2.length ≤ 1048576) : AC Try.prog 191 [.lst 2 (l.map comA)] ⟨.own 0, [⟨.d 142, 2, l.map comA⟩]⟩ := by
  refine r_of Th_ok (by kernel_rfl) Try.func191 rfl Try.ntmps191 Try.results191 (by kernel_rfl) rfl ?_; conv => whnf
  repeat (first | ((first | refine qb rfl rfl ?_ | refine qi (by assumption) rfl rfl ?_ | refine ql rfl ?_ | refine qo rfl rfl ?_ | refine qs rfl rfl ?_ | refine qn rfl rfl ?_); conv => whnf) | (refine r_gh (p_make (n := l.length) (by omega) (by omega) (by simp; rfl) (by simp; rfl) rfl rfl) rfl rfl (fun e => by cases e) (Gh.z2d 9 rfl (Gh.done ?_)); conv => whnf))
  have hrow : List.replicate l.length (AV.agg [.lst 1 [], .lst 2 []]) = (l.take 0 ++ List.replicate (l.length - 0) comZ).map comA := by simp [comA]
  refine r_loop (ι := { k : Nat // k ≤ l.length }) (fun k => ⟨[(9, .lst 2 (l.map comA)), (10, .v (.int .i64 (l.length : Int))), (3, .own 9), (11, .v (.int .i64 (k.1 : Int)))], [(9, ⟨.d 142, 2, (l.take k.1 ++ List.replicate (l.length - k.1) comZ).map comA⟩)]⟩) (fun k => l.length - k.1) ⟨0, Nat.zero_le _⟩ ⟨⟨congrArg (fun x => some (OB.mk _ _ x)) hrow, trivial⟩, .inl ⟨rfl, rfl⟩, .inl ⟨rfl, rfl⟩, .inl ⟨rfl, rfl⟩, .inl ⟨rfl, rfl⟩, trivial⟩ ?_
  rintro ⟨k, hk⟩
  dsimp only
  conv => whnf
  by_cases hlt : k < l.length
  · obtain ⟨q1, q2⟩ := hc _ (List.getElem_mem hlt)
    have hlt2 : k < (l.take k ++ List.replicate (l.length - k) comZ).length := by simp; omega
    have hset := congrArg (List.map comA) (fill_set l comZ k hlt)
    rw [List.map_set] at hset
    have hopn : openE (.d 142) ((l.take k ++ List.replicate (l.length - k) comZ).map comA) k = some (.o (some 142) k (comA (l.take k ++ List.replicate (l.length - k) comZ)[k])) := by
      simp only [openE, getA comA hlt2]
    repeat (first | ((first | refine qb rfl rfl ?_ | refine qi (by assumption) rfl rfl ?_ | refine ql rfl ?_ | refine qo rfl rfl ?_ | refine qs rfl rfl ?_ | refine qn rfl rfl ?_); conv => whnf) | (refine r_step (p_ostore rfl rfl rfl rfl rfl (by conv => lhs; whnf) rfl) rfl rfl (fun e => by first | exact .inl rfl | contradiction | exact .inr (.inl (by kernel_rfl))) ?_; conv => whnf) | (refine qc (ac_copyCommit q1 q2) rfl ?_; conv => whnf) | (refine r_put (p_oidx (by simpa using hlt2) rfl rfl rfl rfl rfl) rfl rfl ?_; conv => whnf))
    refine r_gh (p_ostoreo rfl rfl hopn rfl rfl rfl) rfl rfl (fun e => by cases e) (Gh.s2d 20 rfl noL_int (Gh.s2d 1020 rfl noL_ent (Gh.fold 9 20 [0] rfl rfl rfl rfl rfl rfl (Gh.fold 9 1020 [1] rfl rfl rfl rfl rfl rfl (Gh.shut 9 (z := .agg [.lst 1 [], .lst 2 []]) (y' := comA l[k]) rfl rfl (Gh.done ?_))))))
    conv => whnf
    repeat (((first | refine qb rfl rfl ?_ | refine qi (by assumption) rfl rfl ?_ | refine ql rfl ?_ | refine qo rfl rfl ?_ | refine qs rfl rfl ?_ | refine qn rfl rfl ?_); conv => whnf))
    exact ⟨⟨k + 1, hlt⟩, ⟨⟨congrArg (fun x => some (OB.mk _ _ x)) hset, trivial⟩, .inl ⟨rfl, rfl⟩, .inl ⟨rfl, rfl⟩, .inl ⟨rfl, rfl⟩, .inl ⟨rfl, rfl⟩, trivial⟩, by simp; omega⟩
  · have hkk : k = l.length := by omega
    subst hkk
    repeat (((first | refine qb rfl rfl ?_ | refine qi (by assumption) rfl rfl ?_ | refine ql rfl ?_ | refine qo rfl rfl ?_ | refine qs rfl rfl ?_ | refine qn rfl rfl ?_); conv => whnf))
    exact r_own1 rfl (by show some (OB.mk _ _ _) = _; rw [List.take_length, Nat.sub_self, List.replicate_zero, List.append_nil])
theorem ac_l03Copy {l : List Cmt} (hm : l.length ≤ 1048576) (hc : ∀ c ∈ l, c.1.length ≤ 1048576 ∧ c.2.length ≤ 1048576) : AC Try.prog 180 [.lst 2 (l.map comA)] ⟨.own 0, [⟨.d 142, 2, l.map comA⟩]⟩ := by
  refine o_of Th_ok (by kernel_rfl) Try.func180 rfl Try.ntmps180 Try.results180 (by kernel_rfl) rfl ?_
  repeat (first | (refine o_gh rfl rfl (p_bsl0 rfl rfl) (fun e => by cases e) (Gh.s2d 6 rfl (by simp) (Gh.done ?_))) | first | refine o_put (p_mv (by conv => lhs; whnf)) rfl rfl ?_ | refine o_put (p_as (by conv => lhs; whnf)) rfl rfl ?_ | refine o_put (p_asc rfl) rfl rfl ?_ | refine o_put (p_idx (getA _ (by assumption)) rfl rfl rfl) rfl rfl ?_ | refine o_put (p_fld rfl rfl rfl rfl rfl) rfl rfl ?_ | refine o_put (p_ld rfl rfl rfl rfl) rfl rfl ?_ | refine o_put (p_bin (by first | exact b_lt_t (by omega) | exact b_lt_f (by omega) | exact b_le_t (by omega) | exact b_le_f (by omega) | exact b_gt_t (by omega) | exact b_gt_f (by omega) | exact b_ge_t (by omega) | exact b_ge_f (by omega) | exact b_eq_t (by omega) | exact b_eq_f (by omega) | exact b_ne_t (by omega) | exact b_ne_f (by omega) | exact b_sub rfl (by omega) (by omega) | exact b_add rfl (by omega) (by omega)) rfl rfl rfl) rfl rfl ?_ | refine o_put (p_lenm rfl ⟨_, _, _, _, rfl⟩) rfl rfl ?_ | refine o_put (p_lenom rfl rfl ⟨_, _, _, _, rfl⟩) rfl rfl ?_ | refine o_put (p_len (y := .v (.string _)) rfl rfl rfl) rfl rfl ?_ | refine o_put (p_len rfl rfl ⟨_, _, _, _, rfl⟩) rfl rfl ?_ | refine o_put (p_not rfl) rfl rfl ?_ | refine o_put (p_pick (z := .v _) rfl rfl rfl rfl) rfl rfl ?_ | refine o_put (p_pick rfl rfl rfl rfl) rfl rfl ?_ | refine o_put (p_ext rfl (by conv => lhs; whnf)) rfl rfl ?_ | refine o_skip rfl rfl ?_ | refine o_nil (q_then ?_) | refine c_seq ?_ | refine c_reg ?_ | refine c_dreg (by kernel_rfl) ?_ | refine c_cond_t rfl ?_ | refine c_cond_f rfl ?_ | refine c_block ?_ | refine c_skip ?_ | refine q_then ?_ | refine q_thenr ?_ | refine q_thenx ?_ | refine q_blkn ?_ | refine q_blkr ?_ | refine q_blkx ?_ | refine q_blko rfl ?_ | refine c_exit ?_ | refine c_ret ?_ | refine q_ret ?_ | refine q_retn ?_ | refine o_put (p_ofld rfl rfl rfl) rfl rfl ?_ | refine o_put (p_old rfl rfl rfl rfl rfl rfl rfl) rfl rfl ?_ | refine o_put (p_oidx (by simpa using (by assumption)) rfl rfl rfl rfl rfl) rfl rfl ?_ | refine o_step rfl rfl (p_box (y := .agg _) rfl rfl rfl rfl) (fun e => by cases e) ?_ | refine o_step rfl rfl (p_allo rfl rfl) (fun e => by cases e) ?_)
  refine r_loop (ι := { k : Nat // k ≤ l.length }) (fun k => ⟨[(0, .lst 2 (l.map comA)), (3, .own 6), (4, .v (.int .i64 (k.1 : Int)))], [(6, ⟨.d 142, 2, (l.take k.1).map comA⟩)]⟩) (fun k => l.length - k.1) ⟨0, Nat.zero_le _⟩ (by refine ⟨?_, ?_⟩ <;> (repeat (first | trivial | exact ⟨rfl, trivial⟩ | refine ⟨rfl, ?_⟩ | refine ⟨.inl ⟨rfl, rfl⟩, ?_⟩ | refine ⟨.inr ⟨_, _, rfl, rfl, rfl, rfl, rfl⟩, ?_⟩))) ?_
  rintro ⟨k, hk⟩
  dsimp only
  conv => whnf
  by_cases hlt : k < l.length
  · obtain ⟨q1, q2⟩ := hc _ (List.getElem_mem hlt)
    have hsn : (l.take k).map comA ++ [comA l[k]] = (l.take (k + 1)).map comA := by rw [List.take_succ_eq_append_getElem hlt, List.map_append]; rfl
    repeat (first | ((first | refine qb rfl rfl ?_ | refine qi (by assumption) rfl rfl ?_ | refine ql rfl ?_ | refine qo rfl rfl ?_ | refine qs rfl rfl ?_ | refine qn rfl rfl ?_); conv => whnf) | (refine qc (ac_l03Own q1 q2) rfl ?_; conv => whnf))
    refine r_gh (p_bslm rfl rfl rfl rfl rfl) rfl rfl (fun e => by cases e) (Gh.s2d 18 rfl noL_int (Gh.s2d 1018 rfl noL_ent (Gh.fold 19 18 [0] rfl rfl rfl rfl rfl rfl (Gh.fold 19 1018 [1] rfl rfl rfl rfl rfl rfl (Gh.shut 19 (z := .agg [.lst 1 [], .lst 2 []]) (y' := comA l[k]) rfl rfl (Gh.done ?_))))))
    conv => whnf
    refine r_step (p_appd (xs := l.take k) (ys := [l[k]]) (f := comA) (by simp) (by simp; omega) rfl rfl rfl rfl rfl rfl rfl (.inr (.inl rfl))) rfl rfl (fun e => by first | exact .inl rfl | contradiction | exact .inr (.inl (by kernel_rfl))) ?_
    conv => whnf
    repeat (((first | refine qb rfl rfl ?_ | refine qi (by assumption) rfl rfl ?_ | refine ql rfl ?_ | refine qo rfl rfl ?_ | refine qs rfl rfl ?_ | refine qn rfl rfl ?_); conv => whnf))
    exact ⟨⟨k + 1, hlt⟩, ⟨⟨by show some (OB.mk _ _ _) = _; rw [List.map_append]; exact congrArg (fun x => some (OB.mk _ _ x)) hsn, trivial⟩, .inl ⟨rfl, rfl⟩, .inl ⟨rfl, rfl⟩, .inl ⟨rfl, rfl⟩, trivial⟩, by simp; omega⟩
  · have hkk : k = l.length := by omega
    subst hkk
    repeat (first | ((first | refine qb rfl rfl ?_ | refine qi (by assumption) rfl rfl ?_ | refine ql rfl ?_ | refine qo rfl rfl ?_ | refine qs rfl rfl ?_ | refine qn rfl rfl ?_); conv => whnf) | refine c_seq ?_ | refine c_reg ?_ | refine o_put (p_mv (by conv => lhs; whnf)) rfl rfl ?_ | refine o_put (p_as (by conv => lhs; whnf)) rfl rfl ?_ | refine o_nil (q_then ?_) | refine c_ret ?_)
    exact r_own1 rfl (by show some (OB.mk _ _ _) = _; rw [List.take_length])
end Go.Proofs.Ytjhimcddgkoghaa.AM
/- AddCommit of the program, over data. -/
namespace Go.Proofs.Ytjhimcddgkoghaa.AM
open Go Go.RowKit
set_option linter.unusedVariables false
set_option linter.unusedSimpArgs false
set_option maxRecDepth 100000
theorem r_tupOVV {s : St} {t1 t2 t3 l : Nat} {ob : OB} {v v' : Value} {Θ : Tab} (h1 : s.sl t1 = .own l) (h2 : s.sl t2 = .v v) (h3 : s.sl t3 = .v v') (ho : s.hp l = some ob) (hok : okL l = true := by rfl) (hsh : ob.e.shut = true := by rfl) : RetQ Θ [.tmp t1, .tmp t2, .tmp t3] ⟨.tup [.own 0, .v v, .v v'], [ob]⟩ .ret s :=
  ⟨trivial, [l], by simp, ⟨⟨ho, hok, hsh⟩, trivial⟩, ⟨trivial, trivial, trivial, trivial⟩, ⟨_, rfl⟩, ⟨.inl ⟨h1, rfl⟩, .inl ⟨h2, rfl⟩, .inl ⟨h3, rfl⟩, trivial⟩⟩
noncomputable def addB (cs : List Cmt) (c : Cmt) : Bool := (decide (cs.length ≤ 60) && comsB 0 cs) && comB cs.length c
attribute [local irreducible] ACode AOps AOps2 RetG RetM Pre ACG
theorem addB_ok {cs : List Cmt} {c : Cmt} (h : addB cs c = true) : (decide (cs.length ≤ 60) && comsB 0 cs) = true ∧ comB cs.length c = true ∧ cs.length ≤ 60 := by
  unfold addB at h
  simp only [Bool.and_eq_true, decide_eq_true_eq] at h ⊢
  exact ⟨h.1, h.2, h.1.1⟩
theorem ac_iAdd_ok {cs : List Cmt} {c : Cmt} (hc : comOK 1048576 cs) (hc1 : comOK 1048576 [c]) (h : addB cs c = true) (h60 : cs.length ≠ 60) : AC Try.prog 92 [.lst 2 (cs.map comA), comA c] ⟨.tup [.own 0, .v (.int .i64 ((cs.length + 1 : Nat) : Int)), .v (.int .i64 0)], [⟨.d 142, 2, (cs ++ [c]).map comA⟩]⟩ := by
  obtain ⟨b1, b2, b3⟩ := addB_ok h
  have hm' : cs.length ≤ maxLen := by unfold maxLen; omega
  obtain ⟨q1, q2, q3⟩ := hc1 c (by simp)
  have k1 := ac_commitsOK hm' (hc.le (by unfold maxLen; omega))
  have k2 := ac_commitOK (n := cs.length) (c := c) (by omega) (by unfold maxLen; omega) (by unfold maxLen; omega) (fun e he => by have := q3 e he; unfold maxLen; omega)
  have k3 := ac_copyStore (l := cs) (by omega) (fun c h => ⟨(hc c h).1, (hc c h).2.1⟩)
  have k4 := ac_copyCommit q1 q2
  rw [b1] at k1; rw [b2] at k2
  refine r_of Th_ok (by kernel_rfl) Try.func92 rfl Try.ntmps92 Try.results92 (by kernel_rfl) rfl ?_; conv => whnf
  repeat (first | ((first | refine qb rfl rfl ?_ | refine qi (by assumption) rfl rfl ?_ | refine ql rfl ?_ | refine qo rfl rfl ?_ | refine qs rfl rfl ?_ | refine qn rfl rfl ?_); conv => whnf) | (refine r_put (p_bin (b_eq_f (by simp; omega)) rfl rfl rfl) rfl rfl ?_; conv => whnf) | (refine qc (k1) rfl ?_; conv => whnf) | (refine qc (k2) rfl ?_; conv => whnf) | (refine qc (k3) rfl ?_; conv => whnf) | (refine qf (k3) rfl ?_; conv => whnf) | (refine qc (k4) rfl ?_; conv => whnf))
  refine r_gh (p_bslm rfl rfl rfl rfl rfl) rfl rfl (fun e => by cases e) (Gh.s2d 31 rfl noL_int (Gh.s2d 1031 rfl noL_ent (Gh.fold 32 31 [0] rfl rfl rfl rfl rfl rfl (Gh.fold 32 1031 [1] rfl rfl rfl rfl rfl rfl (Gh.shut 32 (z := .agg [.lst 1 [], .lst 2 []]) (y' := comA c) rfl rfl (Gh.done ?_))))))
  conv => whnf
  refine r_step (p_appd (xs := cs) (ys := [c]) (f := comA) (by simp) (by simp; omega) rfl rfl rfl rfl rfl rfl rfl (.inr (.inl rfl))) rfl rfl (fun e => by first | exact .inl rfl | contradiction | exact .inr (.inl (by kernel_rfl))) ?_
  conv => whnf
  repeat (((first | refine qb rfl rfl ?_ | refine qi (by assumption) rfl rfl ?_ | refine ql rfl ?_ | refine qo rfl rfl ?_ | refine qs rfl rfl ?_ | refine qn rfl rfl ?_); conv => whnf))
  have hlen : ((cs ++ [c]).map comA).length = cs.length + 1 := by simp
  rw [← hlen]
  exact r_tupOVV rfl rfl rfl rfl
end Go.Proofs.Ytjhimcddgkoghaa.AM
/- AddCommit of the document, over data. -/
namespace Go.Proofs.Ytjhimcddgkoghaa.AM
open Go Go.RowKit
set_option linter.unusedVariables false
set_option linter.unusedSimpArgs false
set_option maxRecDepth 100000
section
variable {P : Program} {Θ : Tab} {s : St} {ty : TypeId} {pos : String} {after : Array Edge} {g : Option (Nat × Bool)}
theorem sft_len {d : Option Tmp} {x : Operand} {t sz : Nat} {xs : List AV} (hx : s.ev x = .lst sz xs) (hok : ∃ e sz b z, Θ.look t = .slice e sz b z) : Sft P Θ ⟨d, .call ⟨.builtin .len, #[x], #[t]⟩, ty, pos, after, g⟩ s (.v (.int .i64 (xs.length : Int))) [] [] := by
  refine ⟨fun s' h1 h2 => ⟨⟨.v (.int .i64 (xs.length : Int)), none⟩, ?_, fun K hK => .done hK⟩, fun l ob h => by simp [nuAt] at h, fun l hl => (by cases hl), fun l hl => by simp [AV.names] at hl, fun l hl => (inNu_nil hl).elim, fun l ob hl => (inNu_nil hl).elim⟩
  have e1 : s'.ev x = .lst sz xs := (h1 _ (by simp [Op.operands, Call.operands])).trans hx
  exact p_len e1 rfl hok
theorem sft_as {d : Option Tmp} {t : Nat} {y : AV} (hx : s.sl t = y) : Sft P Θ ⟨d, .assign (.tmp t), ty, pos, after, g⟩ s y [] [] := by
  refine ⟨fun s' h1 h2 => ⟨⟨y, none⟩, p_as ((h1 (.tmp t) (by simp [Op.operands])).trans hx), fun K hK => .done hK⟩, fun l ob h => by simp [nuAt] at h, fun l hl => (by cases hl), fun l hl => .inr ⟨t, mem_tmps (by simp [Op.operands]), by rw [hx]; exact hl⟩, fun l hl => (inNu_nil hl).elim, fun l ob hl => (inNu_nil hl).elim⟩
theorem sft_asc {d : Option Tmp} {c : Value} (hc : c.oneCell' = true) : Sft P Θ ⟨d, .assign (.const c), ty, pos, after, g⟩ s (.v c) [] [] := by
  refine ⟨fun s' h1 h2 => ⟨⟨.v c, none⟩, p_asc hc, fun K hK => .done hK⟩, fun l ob h => by simp [nuAt] at h, fun l hl => (by cases hl), fun l hl => by simp [AV.names] at hl, fun l hl => (inNu_nil hl).elim, fun l ob hl => (inNu_nil hl).elim⟩
end
theorem in3 {a b c : Nat} {x y z : Option OB} : ∀ l ∈ ([(a, x), (b, y), (c, z)] : List (Nat × Option OB)).map (·.1), inNu [(a, x), (b, y), (c, z)] l := by
  intro l hl
  simp only [List.map_cons, List.map_nil, List.mem_cons, List.not_mem_nil, or_false] at hl
  unfold inNu
  simp only [nuAt]
  cases e1 : Nat.beq l a with
  | true => exact ⟨_, rfl⟩
  | false =>
    cases e2 : Nat.beq l b with
    | true => exact ⟨_, rfl⟩
    | false =>
      have : l = c := by
        rcases hl with rfl | rfl | rfl
        · rw [Nat.beq_refl] at e1; cases e1
        · rw [Nat.beq_refl] at e2; cases e2
        · rfl
      subst this
      rw [Nat.beq_refl]; exact ⟨_, rfl⟩
theorem in2 {a b : Nat} {x y : Option OB} : ∀ l ∈ ([(a, x), (b, y)] : List (Nat × Option OB)).map (·.1), inNu [(a, x), (b, y)] l := by
  intro l hl
  simp only [List.map_cons, List.map_nil, List.mem_cons, List.not_mem_nil, or_false] at hl
  unfold inNu
  simp only [nuAt]
  cases e1 : Nat.beq l a with
  | true => exact ⟨_, rfl⟩
  | false =>
    have : l = b := by
      rcases hl with rfl | rfl
      · rw [Nat.beq_refl] at e1; cases e1
      · rfl
    subst this
    rw [Nat.beq_refl]; exact ⟨_, rfl⟩
theorem stoB_pos {cs : List Cmt} (h : 0 < cs.length) : stoB cs = (decide (cs.length ≤ 60) && comsB 0 cs) := by
  unfold stoB
  congr 1
  rw [decide_eq_decide]; omega
attribute [local irreducible] ACode AOps AOps2 RetG RetM Pre ACG
set_option maxHeartbeats 1000000 in
theorem ac_sAdd_ok {cs : List Cmt} {c : Cmt} (hc : comOK 1048576 cs) (hc1 : comOK 1048576 [c]) (h : addB cs c = true) (h60 : cs.length ≠ 60) : AC Try.prog 93 [.lst 2 (cs.map comA), comA c] ⟨.tup [.own 0, .v (.int .i64 ((cs.length + 1 : Nat) : Int)), .v (.int .i64 0)], [⟨.d 142, 2, (cs ++ [c]).map comA⟩]⟩ := by
  obtain ⟨b1, b2, b3⟩ := addB_ok h
  have hm' : cs.length ≤ maxLen := by unfold maxLen; omega
  obtain ⟨q1, q2, q3⟩ := hc1 c (by simp)
  have k1 := ac_l03OK hm' (hc.le (by unfold maxLen; omega))
  have k2 := ac_l03Commit (pre := cs) (c := c) hm' (by unfold maxLen; omega) (by unfold maxLen; omega) (fun e he => by have := q3 e he; unfold maxLen; omega)
  have k3 := ac_l03Copy (l := cs) (by omega) (fun c h => ⟨(hc c h).1, (hc c h).2.1⟩)
  have k4 := ac_l03Own q1 q2
  rw [b2] at k2
  have fin : ∀ s : St, s.sl 4 = .own 33 → s.sl 5 = .v (.int .i64 ((cs.length + 1 : Nat) : Int)) → s.sl 6 = .v (.int .i64 0) → s.hp 33 = some ⟨.d 142, 2, cs.map comA ++ [comA c]⟩ → RetQ Th [.tmp 4, .tmp 5, .tmp 6] ⟨.tup [.own 0, .v (.int .i64 ((cs.length + 1 : Nat) : Int)), .v (.int .i64 0)], [⟨.d 142, 2, (cs ++ [c]).map comA⟩]⟩ .ret s := fun s e1 e2 e3 e4 => by
    have e5 : (cs ++ [c]).map comA = cs.map comA ++ [comA c] := by rw [List.map_append]; rfl
    rw [e5]
    exact r_tupOVV e1 e2 e3 e4
  by_cases h0 : 0 < cs.length
  · rw [stoB_pos h0, b1] at k1
    refine r_of Th_ok (by kernel_rfl) Try.func93 rfl Try.ntmps93 Try.results93 (by kernel_rfl) rfl ?_; conv => whnf
    repeat (first | ((first | refine qb rfl rfl ?_ | refine qi (by assumption) rfl rfl ?_ | refine ql rfl ?_ | refine qo rfl rfl ?_ | refine qs rfl rfl ?_ | refine qn rfl rfl ?_); conv => whnf) | (refine r_put (p_bin (b_eq_f (by simp; omega)) rfl rfl rfl) rfl rfl ?_; conv => whnf) | (refine qc (k1) rfl ?_; conv => whnf) | (refine qc (k2) rfl ?_; conv => whnf))
    refine .inr ⟨by kernel_rfl, prodB_ok (by kernel_rfl), ?_⟩
    refine o2_calm (p_mv rfl) rfl rfl rfl (.inl rfl) (by kernel_rfl) ?_
    refine o2_sft (sft_call k3 rfl rfl rfl ⟨⟨rfl, rfl, rfl⟩, trivial⟩ rfl rfl rfl) in_nuObs rfl rfl (by kernel_rfl) ?_
    refine o2_calm (p_old rfl rfl rfl rfl rfl rfl rfl) rfl rfl rfl (.inr rfl) (by kernel_rfl) ?_
    refine o2_sft (sft_call k4 rfl rfl rfl ⟨⟨rfl, rfl, rfl⟩, ⟨rfl, rfl, rfl⟩, trivial⟩ rfl rfl rfl) in_nuObs rfl rfl (by kernel_rfl) ?_
    refine o2_sft (sft_bslm rfl rfl rfl noL_int noL_ent rfl rfl rfl) in3 rfl rfl (by kernel_rfl) ?_
    refine o2_sft (sft_appd (xs := cs.map comA) (ys := [comA c]) rfl rfl rfl rfl rfl rfl (by simp; omega) (by simp) rfl) in2 rfl rfl (by kernel_rfl) ?_
    refine o2_calm (p_mv rfl) rfl rfl rfl (.inl rfl) (by kernel_rfl) ?_
    refine o2_sft (sft_len rfl ⟨_, _, _, _, rfl⟩) (fun l hl => by cases hl) rfl rfl (by kernel_rfl) ?_
    refine o2_calm (p_bin (b_add (c := ((cs.length + 1 : Nat) : Int)) (by simp) (by omega) (by omega)) rfl rfl rfl) rfl rfl rfl (.inl rfl) (by kernel_rfl) ?_
    refine o2_sft (sft_as rfl) (fun l hl => by cases hl) rfl rfl (by kernel_rfl) ?_
    refine o2_sft (sft_as rfl) (fun l hl => by cases hl) rfl rfl (by kernel_rfl) ?_
    refine o2_sft (sft_asc rfl) (fun l hl => by cases hl) rfl rfl (by kernel_rfl) ?_
    refine o2_nil ?_
    conv => whnf
    exact fin _ rfl rfl rfl rfl
  · have hn : cs = [] := List.eq_nil_of_length_eq_zero (by omega)
    refine r_of Th_ok (by kernel_rfl) Try.func93 rfl Try.ntmps93 Try.results93 (by kernel_rfl) rfl ?_; conv => whnf
    repeat (first | ((first | refine qb rfl rfl ?_ | refine qi (by assumption) rfl rfl ?_ | refine ql rfl ?_ | refine qo rfl rfl ?_ | refine qs rfl rfl ?_ | refine qn rfl rfl ?_); conv => whnf) | (refine r_put (p_bin (b_eq_f (by simp; omega)) rfl rfl rfl) rfl rfl ?_; conv => whnf) | (refine qc (k2) rfl ?_; conv => whnf))
    refine .inr ⟨by kernel_rfl, prodB_ok (by kernel_rfl), ?_⟩
    refine o2_calm (p_mv rfl) rfl rfl rfl (.inl rfl) (by kernel_rfl) ?_
    refine o2_sft (sft_call k3 rfl rfl rfl ⟨⟨rfl, rfl, rfl⟩, trivial⟩ rfl rfl rfl) in_nuObs rfl rfl (by kernel_rfl) ?_
    refine o2_calm (p_old rfl rfl rfl rfl rfl rfl rfl) rfl rfl rfl (.inr rfl) (by kernel_rfl) ?_
    refine o2_sft (sft_call k4 rfl rfl rfl ⟨⟨rfl, rfl, rfl⟩, ⟨rfl, rfl, rfl⟩, trivial⟩ rfl rfl rfl) in_nuObs rfl rfl (by kernel_rfl) ?_
    refine o2_sft (sft_bslm rfl rfl rfl noL_int noL_ent rfl rfl rfl) in3 rfl rfl (by kernel_rfl) ?_
    refine o2_sft (sft_appd (xs := cs.map comA) (ys := [comA c]) rfl rfl rfl rfl rfl rfl (by simp; omega) (by simp) rfl) in2 rfl rfl (by kernel_rfl) ?_
    refine o2_calm (p_mv rfl) rfl rfl rfl (.inl rfl) (by kernel_rfl) ?_
    refine o2_sft (sft_len rfl ⟨_, _, _, _, rfl⟩) (fun l hl => by cases hl) rfl rfl (by kernel_rfl) ?_
    refine o2_calm (p_bin (b_add (c := ((cs.length + 1 : Nat) : Int)) (by simp) (by omega) (by omega)) rfl rfl rfl) rfl rfl rfl (.inl rfl) (by kernel_rfl) ?_
    refine o2_sft (sft_as rfl) (fun l hl => by cases hl) rfl rfl (by kernel_rfl) ?_
    refine o2_sft (sft_as rfl) (fun l hl => by cases hl) rfl rfl (by kernel_rfl) ?_
    refine o2_sft (sft_asc rfl) (fun l hl => by cases hl) rfl rfl (by kernel_rfl) ?_
    refine o2_nil ?_
    conv => whnf
    exact fin _ rfl rfl rfl rfl
end Go.Proofs.Ytjhimcddgkoghaa.AM
namespace Go.Proofs.Ytjhimcddgkoghaa.AM
open Go Go.RowKit
set_option linter.unusedVariables false
set_option linter.unusedSimpArgs false
set_option maxRecDepth 100000
theorem nodup_len : ∀ {l k : List ByteArray}, l.Nodup → (∀ x ∈ l, x ∈ k) → l.length ≤ k.length
  | [], k, _, _ => Nat.zero_le _
  | x :: l, k, h, hs => by
    have hx : x ∈ k := hs x (by simp)
    have h1 : (k.filter fun y => decide (y ≠ x)).length < k.length := by
      rcases Nat.lt_or_ge (k.filter fun y => decide (y ≠ x)).length k.length with q | q
      · exact q
      · have e : k.filter (fun y => decide (y ≠ x)) = k := List.Sublist.eq_of_length_le List.filter_sublist q
        rw [← e] at hx
        simp at hx
    rw [List.nodup_cons] at h
    have h2 := nodup_len (l := l) (k := k.filter fun y => decide (y ≠ x)) h.2 fun y hy => by
      rw [List.mem_filter]
      refine ⟨hs y (by simp [hy]), decide_eq_true fun e => ?_⟩
      subst e; exact h.1 hy
    simp; omega
theorem Good.len {es : List Ent} (h : Good es) : es.length ≤ 8 := by
  have h1 : (es.map (·.1)).Nodup := by
    unfold List.Nodup
    rw [List.pairwise_map]
    exact h.1.imp fun hk => klt_ne hk
  have h2 := nodup_len h1 (k := keys8) fun x hx => by
    obtain ⟨e, he, rfl⟩ := List.mem_map.1 hx
    exact (h.2 e he).1
  have e8 : keys8.length = 8 := rfl
  rw [e8] at h2
  simpa using h2
theorem Good.mrg {base a b : List Ent} (hb : Good base) (ha : Good a) (hc : Good b) : Good (mrgL base a b) := by
  unfold mrgL
  refine Good.apply _ ha fun e he => ?_
  have h1 := (hb.diff hc).2 e (List.mem_filter.1 he).1
  exact ⟨h1.1, h1.2.1, h1.2.2.1⟩
theorem comsB_snoc : ∀ (cs : List Cmt) (n : Nat) (c : Cmt), comsB n (cs ++ [c]) = (comsB n cs && comB (n + cs.length) c)
  | [], n, c => by simp [comsB]
  | d :: cs, n, c => by
    have e : n + 1 + cs.length = n + (d :: cs).length := by simp; omega
    rw [List.cons_append, comsB, comsB_snoc cs (n + 1) c, comsB, Bool.and_assoc, e]
structure GoodS (cs : List Cmt) : Prop where
  coms : comsB 0 cs = true
  pos : 1 ≤ cs.length
  maps : ∀ c ∈ cs, Good c.2 ∧ c.1.length ≤ 2
theorem GoodS.sto {cs : List Cmt} (h : GoodS cs) (hl : cs.length ≤ 60) : stoB cs = true := by
  unfold stoB
  rw [h.coms, decide_eq_true ⟨h.pos, hl⟩]; rfl
theorem GoodS.snoc {cs : List Cmt} (h : GoodS cs) {c : Cmt} (hc : comB cs.length c = true) (hg : Good c.2) (hl : c.1.length ≤ 2) : GoodS (cs ++ [c]) := by
  refine ⟨?_, by simp, fun x hx => ?_⟩
  · rw [comsB_snoc, h.coms, Nat.zero_add, hc]; rfl
  · rcases List.mem_append.1 hx with q | q
    · exact h.maps x q
    · rw [List.mem_singleton.1 q]; exact ⟨hg, hl⟩
theorem GoodS.mp {cs : List Cmt} (h : GoodS cs) (k : Nat) : Good (mpN cs k) := by
  unfold mpN
  split
  · rename_i c hc
    obtain ⟨hi, rfl⟩ := List.getElem?_eq_some_iff.1 hc
    exact (h.maps _ (List.getElem_mem hi)).1
  · exact Good.nil
theorem GoodS.comOK {cs : List Cmt} (h : GoodS cs) : comOK 1000 cs := fun c hc => by
  obtain ⟨g, hl⟩ := h.maps c hc
  have := g.len
  refine ⟨by omega, by omega, fun e he => ?_⟩
  have := (keys8_ok (g.2 e he).1).2
  omega
theorem comB_one {n : Nat} {m : List Ent} {p : Nat} (h1 : 1 ≤ p) (h2 : p ≤ n) (hm : Good m) : comB n ([(p : Int)], m) = true := by
  unfold comB
  rw [hm.ok (Nat.le_trans hm.len (by omega)), Bool.true_and]
  refine parB_t ⟨by simp, by simp; omega, fun i hi => ?_⟩
  have : i = 0 := by simp at hi; omega
  subst this
  exact ⟨by simp, by simp; omega, by simp; omega, by simp⟩
theorem comB_two {n : Nat} {m : List Ent} {p q : Nat} (h1 : 1 ≤ p) (h2 : p ≤ n) (h3 : 1 ≤ q) (h4 : q ≤ n) (hpq : q ≠ p) (hm : Good m) : comB n ([(p : Int), (q : Int)], m) = true := by
  unfold comB
  rw [hm.ok (Nat.le_trans hm.len (by omega)), Bool.true_and]
  refine parB_t ⟨by simp, by simp; omega, fun i hi => ?_⟩
  have : i = 0 ∨ i = 1 := by simp at hi; omega
  rcases this with rfl | rfl
  · exact ⟨by simp, by simp; omega, by simp; omega, by simp⟩
  · exact ⟨by simp, by simp; omega, by simp; omega, by simp; omega⟩
/-- one commit is drawn -/
noncomputable def stoOne (c : List UInt8) (s : Src) (out : List Cmt) : Cmt × Src :=
  if (nextS c (edS c (nextS c s out.length).2).2 out.length).1 = (nextS c s out.length).1 then (([(((nextS c s out.length).1 + 1 : Nat) : Int)], applyL (mpN out ((nextS c s out.length).1 + 1)) (edS c (nextS c s out.length).2).1), (nextS c (edS c (nextS c s out.length).2).2 out.length).2)
  else if (nextS c (nextS c (edS c (nextS c s out.length).2).2 out.length).2 3).1 = 2 then
    (([(((nextS c s out.length).1 + 1 : Nat) : Int), (((nextS c (edS c (nextS c s out.length).2).2 out.length).1 + 1 : Nat) : Int)], mrgL (mpN out (baseN out ((nextS c s out.length).1 + 1) ((nextS c (edS c (nextS c s out.length).2).2 out.length).1 + 1))) (applyL (mpN out ((nextS c s out.length).1 + 1)) (edS c (nextS c s out.length).2).1) (mpN out ((nextS c (edS c (nextS c s out.length).2).2 out.length).1 + 1))), (nextS c (nextS c (edS c (nextS c s out.length).2).2 out.length).2 3).2)
  else (([(((nextS c s out.length).1 + 1 : Nat) : Int)], applyL (mpN out ((nextS c s out.length).1 + 1)) (edS c (nextS c s out.length).2).1), (nextS c (nextS c (edS c (nextS c s out.length).2).2 out.length).2 3).2)
theorem stoOne_ok {c : List UInt8} {s : Src} {out : List Cmt} {K : Nat} (h : s.ok K) (hg : GoodS out) : (stoOne c s out).2.ok (K + 13) ∧ comB out.length (stoOne c s out).1 = true ∧ Good (stoOne c s out).1.2 ∧ (stoOne c s out).1.1.length ≤ 2 := by
  obtain ⟨p1, p2⟩ := nextS_ok (c := c) (n := out.length) h hg.pos
  obtain ⟨e1, e2, e3⟩ := edS_ok (c := c) p1
  obtain ⟨q1, q2⟩ := nextS_ok (c := c) (n := out.length) e1 hg.pos
  obtain ⟨r1, r2⟩ := nextS_ok (c := c) (n := 3) q1 (by omega)
  have gm := (hg.mp ((nextS c s out.length).1 + 1)).applyE e2
  unfold stoOne
  generalize (nextS c s out.length).1 = p at *
  generalize (nextS c s out.length).2 = s1 at *
  generalize (nextS c (nextS c (edS c s1).2 out.length).2 3) = x at *
  generalize (nextS c (edS c s1).2 out.length) = q at *
  generalize applyL (mpN out (p + 1)) (edS c s1).1 = m at *
  split
  · exact ⟨q1.le (by omega), comB_one (by omega) (by omega) gm, gm, by simp⟩
  · rename_i hpq
    split
    · have gg := (hg.mp (baseN out (p + 1) (q.1 + 1))).mrg gm (hg.mp (q.1 + 1))
      exact ⟨r1.le (by omega), comB_two (by omega) (by omega) (by omega) (by omega) (by omega) gg, gg, by simp⟩
    · exact ⟨r1.le (by omega), comB_one (by omega) (by omega) gm, gm, by simp⟩
noncomputable def stoL (c : List UInt8) : Nat → Src → List Cmt → List Cmt × Src
  | 0, s, out => (out, s)
  | n + 1, s, out => stoL c n (stoOne c s out).2 (out ++ [(stoOne c s out).1])
theorem stoL_ok {c : List UInt8} : ∀ (n : Nat) (s : Src) (out : List Cmt) (K : Nat), s.ok K → GoodS out → (stoL c n s out).2.ok (K + 13 * n) ∧ GoodS (stoL c n s out).1 ∧ (stoL c n s out).1.length = out.length + n
  | 0, s, out, K, h, hg => ⟨h, hg, rfl⟩
  | n + 1, s, out, K, h, hg => by
    obtain ⟨a1, a2, a3, a4⟩ := stoOne_ok (c := c) h hg
    obtain ⟨b1, b2, b3⟩ := stoL_ok (c := c) n _ (out ++ [(stoOne c s out).1]) (K + 13) a1 (hg.snoc a2 a3 a4)
    refine ⟨b1.le (by omega), b2, ?_⟩
    show (stoL c n _ _).1.length = _
    rw [b3]; simp; omega
def roomS (c : List UInt8) (k : Nat) : Nat := min (1 + c.length / 12) k
theorem GoodS.one {m : List Ent} (h : Good m) : GoodS [([], m)] := by
  refine ⟨?_, by simp, fun x hx => by rw [List.mem_singleton.1 hx]; exact ⟨h, by simp⟩⟩
  unfold comsB comsB comB
  rw [h.ok (Nat.le_trans h.len (by omega)), parB_t ⟨by simp, by simp, fun i hi => by simp at hi⟩]; rfl
noncomputable def stoS (c : List UInt8) (s : Src) : List Cmt × Src := stoL c (nextS c (entS c s).2 (roomS c 10 + 3)).1 (nextS c (entS c s).2 (roomS c 10 + 3)).2 [([], (entS c s).1)]
theorem stoS_ok {c : List UInt8} {s : Src} {K : Nat} (h : s.ok K) : (stoS c s).2.ok (K + 200) ∧ GoodS (stoS c s).1 ∧ (stoS c s).1.length ≤ 13 := by
  obtain ⟨e1, e2, e3⟩ := entS_ok (c := c) h
  have hr : roomS c 10 ≤ 10 := Nat.min_le_right _ _
  obtain ⟨n1, n2⟩ := nextS_ok (c := c) (n := roomS c 10 + 3) e1 (by omega)
  obtain ⟨a1, a2, a3⟩ := stoL_ok (c := c) (nextS c (entS c s).2 (roomS c 10 + 3)).1 _ [([], (entS c s).1)] _ n1 (GoodS.one e2)
  refine ⟨a1.le (by omega), a2, ?_⟩
  unfold stoS
  rw [a3]; simp; omega
section
variable {P : Program} {Θ : Tab} {s : St} {ty : TypeId} {pos : String} {after : Array Edge} {g : Option (Nat × Bool)}
theorem mix_loc {s s' : St} : ∀ (ps : List (Nat × Operand)) (z : List AV), (∀ x ∈ ps, s'.ev x.2 = s.ev x.2) → mixParts s' z ps = mixParts s z ps ∧ (mixOK s z ps → mixOK s' z ps)
  | [], z, _ => ⟨rfl, fun h => h⟩
  | (i, x) :: ps, z, h => by
    have h1 := h (i, x) (by simp)
    simp only at h1
    obtain ⟨q1, q2⟩ := mix_loc ps (z.set i ((toO (s.ev x)).getD .any)) (fun y hy => h y (List.mem_cons_of_mem _ hy))
    unfold mixParts mixOK
    rw [h1]
    exact ⟨q1, fun ⟨a, b⟩ => ⟨a, q2 b⟩⟩
/-- a struct's value put together out of rows of the caller's own -/
theorem sft_bldm {d : Option Tmp} {t : TypeId} {ps : Array (Nat × Operand)} {fs : List (Nat × Nat)} {z : List AV} (ht : Θ.look t = .struct fs z) (hm : mixOK s (nilL z) ps.toList) (hc : csOK (ps.toList.map (·.2)) = true) (hn : ((labs (.mix (mixParts s (nilL z) ps.toList))).all fun l => ps.toList.any fun x => match x.2 with | .tmp t => (s.sl t).names l | _ => false) = true) :
    Sft P Θ ⟨d, .build t ps, ty, pos, after, g⟩ s (.mix (mixParts s (nilL z) ps.toList)) [] [] := by
  refine ⟨fun s' h1 h2 => ⟨⟨.mix (mixParts s (nilL z) ps.toList), none⟩, ?_, fun K hK => .done hK⟩, fun l ob h => by simp [nuAt] at h, fun l hl => (by cases hl), fun l hl => ?_, fun l hl => (inNu_nil hl).elim, fun l ob hl => (inNu_nil hl).elim⟩
  · have hev : ∀ x ∈ ps.toList, s'.ev x.2 = s.ev x.2 := fun x hx => h1 x.2 (by simp [Op.operands]; exact ⟨x.1, by simpa using hx⟩)
    obtain ⟨q1, q2⟩ := mix_loc (s := s) (s' := s') ps.toList (nilL z) hev
    rw [← q1]
    exact p_buildm ht (q2 hm) hc
  · have h3 := List.all_eq_true.1 hn l (names_labs _ hl)
    obtain ⟨x, hx, h4⟩ := List.any_eq_true.1 h3
    obtain ⟨i, x⟩ := x
    cases x with
    | tmp t => exact .inr ⟨t, mem_tmps (by simp [Op.operands]; exact ⟨i, by simpa using hx⟩), h4⟩
    | _ => cases h4
/-- a list of one plain value -/
theorem sft_bsv1 {d : Nat} {t : TypeId} {x : Operand} {el sz b : Nat} {z : AV} {v : Value} (hf : s.hp (d + 1) = none) (ht : Θ.look t = .slice el sz b z) (hx : s.ev x = .v v) (hv : v.oneCell' = true) (hz : Nat.beq (asz (.v v)) (asz z) = true) (hsz : Nat.ble sz 65536 = true) (hok : okL (d + 1) = true := by rfl) :
    Sft P Θ ⟨some d, .buildSlice t 1 #[(0, x)], ty, pos, after, g⟩ s (.own (d + 1)) [] [(d + 1, some ⟨.s el, sz, [.v v]⟩)] := by
  refine ⟨fun s' h1 h2 => ⟨⟨.own (d + 1), some fun s'' => s''.set (d + 1) (some ⟨.s el, sz, [.v v]⟩)⟩, ?_, fun K hK => .done ?_⟩, fun l ob h => ?_, fun l hl => (by cases hl), fun l hl => .inl ?_, fun l ⟨o, hl⟩ => .inl ?_, fun l ob ⟨o, hl⟩ ho => ?_⟩
  · exact p_bsl1 ((h2 _ (.inl (in1 _ _))).1.trans hf) ht ((h1 x (by simp [Op.operands])).trans hx) hv hz hsz hok
  · rw [app_some, shp_set]; exact hK
  · obtain ⟨_, e⟩ := nu1 h; cases e; rfl
  · simp only [AV.names] at hl; rw [← Nat.eq_of_beq_eq_true hl]; exact in1 _ _
  · obtain ⟨rfl, _⟩ := nu1 hl; exact ⟨d, rfl, rfl⟩
  · obtain ⟨rfl, _⟩ := nu1 hl; rw [hf] at ho; cases ho
theorem nu2 {l l' m : Nat} {o1 o2 : Option OB} {o : Option OB} (h : nuAt [(l, o1), (l', o2)] m = some o) : (m = l ∧ o = o1) ∨ (m = l' ∧ o = o2) := by
  simp only [nuAt] at h
  cases e : Nat.beq m l with
  | true => rw [e] at h; simp only [cond_true, Option.some.injEq] at h; exact .inl ⟨Nat.eq_of_beq_eq_true e, h.symm⟩
  | false =>
    rw [e] at h; simp only [cond_false] at h
    cases e' : Nat.beq m l' with
    | true => rw [e'] at h; simp only [cond_true, Option.some.injEq] at h; exact .inr ⟨Nat.eq_of_beq_eq_true e', h.symm⟩
    | false => rw [e'] at h; cases h
theorem inn1 (l l' : Nat) (o1 o2 : Option OB) : inNu [(l, o1), (l', o2)] l := ⟨o1, by simp [nuAt]⟩
theorem inn2 (l l' : Nat) (o1 o2 : Option OB) : inNu [(l, o1), (l', o2)] l' := by
  unfold inNu
  simp only [nuAt]
  cases e : Nat.beq l' l with
  | true => exact ⟨_, rfl⟩
  | false => exact ⟨o2, by simp⟩
theorem shp_two {l l' : Nat} {ob ob' : OB} {s : St} (hne : Nat.beq l l' = false) : (s.set l (some ob)).set l' (some ob') = shp [] [(l, some ob), (l', some ob')] s := by
  unfold shp St.set
  congr 1
  · funext j
    show (bif Nat.beq j l' then some ob' else bif Nat.beq j l then some ob else s.hp j) = (match (bif Nat.beq j l then some (some ob) else bif Nat.beq j l' then some (some ob') else none) with | some o => o | none => s.hp j)
    cases e : Nat.beq j l with
    | true =>
      have : Nat.beq j l' = false := by rw [Nat.eq_of_beq_eq_true e]; exact hne
      rw [this]; rfl
    | false => cases Nat.beq j l' <;> rfl
  · funext j
    show (bif Nat.beq j l' then none else bif Nat.beq j l then none else s.mp j) = (match (bif Nat.beq j l then some (some ob) else bif Nat.beq j l' then some (some ob') else none) with | some _ => none | none => s.mp j)
    cases Nat.beq j l <;> cases Nat.beq j l' <;> rfl
/-- a call that is handed one row by its pointer and makes one -/
theorem sft_callg1 {f : FuncId} {ts : Array TypeId} {t a l : Nat} {ri ro ob : OB} (hac : ACG P f [.optr 0 0 [] 0] [ri] [ro] ⟨.own 0, [ob]⟩) (hx : s.sl a = .optr l 0 [] 0) (ho : s.hp l = some ri) (hsz : ro.sz = ri.sz) (hf : s.hp (t + 1) = none) (hne : Nat.beq l (t + 1) = false) (hri : ri.e.shut = true) (hro : ro.e.shut = true) (hob : ob.e.shut = true) (hok : okL (t + 1) = true := by rfl) :
    Sft P Θ ⟨some t, .call ⟨.value (.func f), #[.tmp a], ts⟩, ty, pos, after, g⟩ s (.own (t + 1)) [] [(l, some ro), (t + 1, some ob)] := by
  have hsub : ∀ o : OB, o.e.shut = true → subO [l] o = o := fun o h => by
    obtain ⟨e, sz, xs⟩ := o
    cases e <;> first | rfl | cases h
  have hwi : ∀ o : OB, o.e.shut = true → ∀ p, withinE p o.e = true := fun o h p => by
    obtain ⟨e, sz, xs⟩ := o
    cases e <;> first | rfl | cases h
  refine ⟨fun s' h1 h2 => ⟨⟨.own (t + 1), some fun s => setObs (t + 1) 0 [ob] (setHanded [l] [l] [ro] s)⟩, ?_, fun K hK => .done ?_⟩, fun m o h => ?_, fun l hl => (by cases hl), fun m hl => .inl ?_, fun m ⟨o, hl⟩ => ?_, fun m o ⟨o', hl⟩ hm => ?_⟩
  · have ea : s'.ev (.tmp a) = .optr l 0 [] 0 := (h1 (.tmp a) (by simp [Op.operands, Call.operands])).trans hx
    have ho' : s'.hp l = some ri := (h2 l (.inl (inn1 _ _ _ _))).1.trans ho
    have hf' : s'.hp (t + 1) = none := (h2 _ (.inl (inn2 _ _ _ _))).1.trans hf
    have e2 : (([] : List AV) ++ [Operand.tmp a].map s'.ev ++ []) = [.optr l 0 [] 0] := by simp [ea]
    refine p_callg (x := .func f) (xs := []) (ys := []) (out := ⟨.own 0, [ob]⟩) [l] hac rfl ?_ ⟨ho'.trans (congrArg some (hsub ri hri).symm), trivial⟩ rfl (by simp [hsz]) ⟨⟨hf', hok, hob⟩, trivial⟩ ?_ ?_ ?_ (.inl ?_) rfl
    · show s'.datHL [l] ([] ++ [Operand.tmp a].map s'.ev ++ []) = _
      rw [e2]
      simp [St.datHL, St.datH, subAL, mapAL, mapA, subl]
    · show argsH s' [l] ([] ++ [Operand.tmp a].map s'.ev ++ []) = true
      rw [e2]; simp [argsH, argH]
    · simp [withinL, AV.within, rowsF]
    · simp [hwi ri hri, hwi ro hro]
    · show (readsL [l] (ownsAL ([] ++ [Operand.tmp a].map s'.ev ++ []))).isEmpty = true
      rw [e2]; simp [ownsAL, ownsA, readsL]
  · have e3 : setObs (t + 1) 0 [ob] (setHanded [l] [l] [ro] s') = shp [] [(l, some ro), (t + 1, some ob)] s' := by
      show (s'.set l (some (subO [l] ro))).set (t + 1 + 1000 * 0) (some ob) = _
      rw [hsub ro hro]
      exact shp_two hne
    rw [app_some, e3]; exact hK
  · rcases nu2 h with ⟨_, e⟩ | ⟨_, e⟩ <;> (cases e; assumption)
  · simp only [AV.names] at hl; rw [← Nat.eq_of_beq_eq_true hl]; exact inn2 _ _ _ _
  · rcases nu2 hl with ⟨rfl, _⟩ | ⟨rfl, _⟩
    · exact .inr ⟨a, mem_tmps (by simp [Op.operands, Call.operands]), by rw [hx]; simp [AV.names]⟩
    · exact .inl ⟨t, rfl, rfl⟩
  · rcases nu2 hl with ⟨rfl, _⟩ | ⟨rfl, _⟩
    · rw [ho] at hm; cases hm; exact hri
    · rw [hf] at hm; cases hm
theorem o2_gnil {n k : Nat} {ops : Array Oper} {K : St → Prop} (h : Gh K s) : AOps2 P Θ n ops k [] s K := h
end
abbrev stoO (l : List Cmt) : OB := ⟨142, 2, l.map comA⟩
attribute [local irreducible] ACode AOps AOps2 RetG RetM Pre ACG
theorem ac_room {c : List UInt8} {s : Src} (hc : c.length ≤ maxLen) : ACG Try.prog 246 [.optr 0 0 [] 0, .v (.int .i64 10)] [srcO c s] [srcO c s] ⟨.v (.int .i64 ((roomS c 10 : Nat) : Int)), []⟩ := by
  unfold maxLen at hc
  have d1 : (c.length : Int) / 12 = ((c.length / 12 : Nat) : Int) := by omega
  have d2 : c.length / 12 ≤ c.length := Nat.div_le_self _ _
  refine acg_of (rs := [.tmp 4]) Th_ok (by kernel_rfl) Try.func246 rfl Try.ntmps246 (by rw [Try.results246]) (by kernel_rfl) (by simp) rfl rfl (runC_sound _ _ _ ?_); conv => whnf
  repeat (first | (refine r_put (p_bin (b_quo3 (by omega) (by omega) (by omega) d1) rfl rfl rfl) rfl rfl ?_; conv => whnf) | (refine r_put (p_bin (b_add (c := ((1 + c.length / 12 : Nat) : Int)) (by omega) (by omega) (by omega)) rfl rfl rfl) rfl rfl ?_; conv => whnf) | (refine r_put (p_min (a := 1 + c.length / 12) (b := 10) rfl rfl) rfl rfl ?_; conv => whnf) | ((first | refine qb rfl rfl ?_ | refine qi (by assumption) rfl rfl ?_ | refine ql rfl ?_ | refine qo rfl rfl ?_ | refine qs rfl rfl ?_ | refine qn rfl rfl ?_); conv => whnf))
  exact r_ret1s rfl rfl
set_option maxHeartbeats 8000000 in
theorem ac_store {c : List UInt8} {s : Src} {K : Nat} (hc : c.length ≤ maxLen) (hs : s.ok K) (hK : K ≤ 800000000) : ACG Try.prog 181 [.optr 0 0 [] 0] [srcO c s] [srcO c (stoS c s).2] ⟨.own 0, [stoO (stoS c s).1]⟩ := by
  have hr : roomS c 10 ≤ 10 := Nat.min_le_right _ _
  obtain ⟨e1, e2, e3⟩ := entS_ok (c := c) hs
  obtain ⟨n1, n2⟩ := nextS_ok (c := c) (n := roomS c 10 + 3) e1 (by omega)
  have h1 := ac_entries (c := c) hc hs (by omega)
  have h2 := ac_room (c := c) (s := (entS c s).2) hc
  have h3 := ac_next (n := roomS c 10 + 3) hc e1 (by omega) (by omega)
  have g1 := GoodS.one e2
  refine acg_of (rs := [.tmp 2]) Th_ok (by kernel_rfl) Try.func181 rfl Try.ntmps181 (by rw [Try.results181]) (by kernel_rfl) (by simp) rfl rfl (runC_sound _ _ _ ?_); conv => whnf
  (refine r_step (p_callg [0] (h1) rfl rfl (by first | exact ⟨rfl, trivial⟩ | exact ⟨rfl, rfl, trivial⟩ | exact ⟨rfl, rfl, rfl, trivial⟩) rfl rfl (by first | exact trivial | exact ⟨⟨rfl, rfl, rfl⟩, trivial⟩ | exact ⟨⟨rfl, rfl, rfl⟩, ⟨rfl, rfl, rfl⟩, trivial⟩ | exact ⟨⟨rfl, rfl, rfl⟩, ⟨rfl, rfl, rfl⟩, ⟨rfl, rfl, rfl⟩, trivial⟩) rfl rfl rfl (.inl rfl) rfl) rfl rfl (fun e => by first | exact .inl rfl | contradiction | exact .inr (.inl (by kernel_rfl))) ?_; conv => whnf)
  refine r_step (p_buildm rfl ⟨⟨_, _, rfl, rfl, rfl⟩, ⟨_, _, rfl, rfl, rfl⟩, trivial⟩ rfl) rfl rfl (fun e => by first | exact .inl rfl | contradiction | exact .inr (.inl (by kernel_rfl))) ?_
  conv => whnf
  refine r_gh (p_bslm rfl rfl rfl rfl rfl) rfl rfl (fun e => by cases e) (Gh.foldr 15 11 [0] rfl rfl rfl rfl rfl rfl (Gh.foldr 15 13 [1] rfl rfl rfl rfl rfl rfl (Gh.shuts 15 rfl rfl (Gh.done ?_))))
  conv => whnf
  repeat (first | (refine r_step (p_callg [0] (h2) rfl rfl (by first | exact ⟨rfl, trivial⟩ | exact ⟨rfl, rfl, trivial⟩ | exact ⟨rfl, rfl, rfl, trivial⟩) rfl rfl (by first | exact trivial | exact ⟨⟨rfl, rfl, rfl⟩, trivial⟩ | exact ⟨⟨rfl, rfl, rfl⟩, ⟨rfl, rfl, rfl⟩, trivial⟩ | exact ⟨⟨rfl, rfl, rfl⟩, ⟨rfl, rfl, rfl⟩, ⟨rfl, rfl, rfl⟩, trivial⟩) rfl rfl rfl (.inl rfl) rfl) rfl rfl (fun e => by first | exact .inl rfl | contradiction | exact .inr (.inl (by kernel_rfl))) ?_; conv => whnf) | (refine r_step (p_callg [0] (h3) rfl rfl (by first | exact ⟨rfl, trivial⟩ | exact ⟨rfl, rfl, trivial⟩ | exact ⟨rfl, rfl, rfl, trivial⟩) rfl rfl (by first | exact trivial | exact ⟨⟨rfl, rfl, rfl⟩, trivial⟩ | exact ⟨⟨rfl, rfl, rfl⟩, ⟨rfl, rfl, rfl⟩, trivial⟩ | exact ⟨⟨rfl, rfl, rfl⟩, ⟨rfl, rfl, rfl⟩, ⟨rfl, rfl, rfl⟩, trivial⟩) rfl rfl rfl (.inl rfl) rfl) rfl rfl (fun e => by first | exact .inl rfl | contradiction | exact .inr (.inl (by kernel_rfl))) ?_; conv => whnf) | (refine r_put (p_bin (b_add (c := ((roomS c 10 + 3 : Nat) : Int)) (by omega) (by omega) (by omega)) rfl rfl rfl) rfl rfl ?_; conv => whnf) | ((first | refine qb rfl rfl ?_ | refine qi (by assumption) rfl rfl ?_ | refine ql rfl ?_ | refine qo rfl rfl ?_ | refine qs rfl rfl ?_ | refine qn rfl rfl ?_); conv => whnf))
  have hS : stoS c s = stoL c (nextS c (entS c s).2 (roomS c 10 + 3)).1 (nextS c (entS c s).2 (roomS c 10 + 3)).2 [([], (entS c s).1)] := rfl
  generalize stoS c s = Z at hS ⊢
  generalize (entS c s).1 = es at *
  generalize (nextS c (entS c s).2 (roomS c 10 + 3)).2 = s1 at *
  generalize (nextS c (entS c s).2 (roomS c 10 + 3)).1 = n0 at *
  refine r_loop (ι := { p : Nat × Src × List Cmt // p.2.1.ok (K + 12 + 13 * (12 - p.1)) ∧ p.1 ≤ 12 ∧ GoodS p.2.2 ∧ p.2.2.length + p.1 ≤ 13 ∧ Z = stoL c p.1 p.2.1 p.2.2 }) (fun p => ⟨[(0, .optr 0 0 [] 0), (3, .own 15), (4, .v (.int .i64 (p.1.1 : Int)))], [(0, srcO c p.1.2.1), (15, stoO p.1.2.2)]⟩) (fun p => p.1.1) ⟨(n0, s1, [([], es)]), n1.le (by omega), by omega, g1, by simp; omega, hS⟩ (by refine ⟨?_, ?_⟩ <;> (repeat (first | trivial | exact ⟨rfl, trivial⟩ | refine ⟨rfl, ?_⟩ | refine ⟨.inl ⟨rfl, rfl⟩, ?_⟩ | refine ⟨.inr ⟨_, _, rfl, rfl, rfl, rfl, rfl⟩, ?_⟩))) ?_
  rintro ⟨⟨n, s2, out⟩, h1, h2, h3, h4, h5⟩
  dsimp only at h1 h2 h3 h4 h5 ⊢
  conv => whnf
  cases n with
  | zero =>
    have h6 : Z = (out, s2) := h5
    subst h6
    repeat (((first | refine qb rfl rfl ?_ | refine qi (by assumption) rfl rfl ?_ | refine ql rfl ?_ | refine qo rfl rfl ?_ | refine qs rfl rfl ?_ | refine qn rfl rfl ?_); conv => whnf))
    exact r_own1s rfl rfl rfl
  | succ n =>
    obtain ⟨p1, p2⟩ := nextS_ok (c := c) (n := out.length) h1 h3.pos
    obtain ⟨q1, q2, q3⟩ := edS_ok (c := c) p1
    obtain ⟨r1, r2⟩ := nextS_ok (c := c) (n := out.length) q1 h3.pos
    obtain ⟨t1, t2⟩ := nextS_ok (c := c) (n := 3) r1 (by omega)
    obtain ⟨u1, u2, u3, u4⟩ := stoOne_ok (c := c) h1 h3
    have hso := h3.sto (by omega)
    have gm := (h3.mp ((nextS c s2 out.length).1 + 1)).applyE q2
    have hst : stoL c (n + 1) s2 out = stoL c n (stoOne c s2 out).2 (out ++ [(stoOne c s2 out).1]) := rfl
    rw [hst] at h5
    have c1 := ac_next (n := out.length) hc h1 (by omega) (by omega)
    have c2 := ac_edits (c := c) hc p1 (by omega)
    have c3 := ac_next (n := out.length) hc q1 (by omega) (by omega)
    have c4 := ac_chance (n := 3) hc r1 (by omega) (by omega) (by omega)
    have hmp : mpN out ((nextS c s2 out.length).1 + 1) = (out[(nextS c s2 out.length).1]).2 := mpN_eq (k := (nextS c s2 out.length).1 + 1) p2
    have lmp := mpN_le hso ((nextS c s2 out.length).1 + 1)
    have c5 := ac_l01Apply (es := mpN out ((nextS c s2 out.length).1 + 1)) (xs := (edS c (nextS c s2 out.length).2).1) (by omega)
    have hone : stoOne c s2 out = if (nextS c (edS c (nextS c s2 out.length).2).2 out.length).1 = (nextS c s2 out.length).1 then (([(((nextS c s2 out.length).1 + 1 : Nat) : Int)], applyL (mpN out ((nextS c s2 out.length).1 + 1)) (edS c (nextS c s2 out.length).2).1), (nextS c (edS c (nextS c s2 out.length).2).2 out.length).2)
      else if (nextS c (nextS c (edS c (nextS c s2 out.length).2).2 out.length).2 3).1 = 2 then
        (([(((nextS c s2 out.length).1 + 1 : Nat) : Int), (((nextS c (edS c (nextS c s2 out.length).2).2 out.length).1 + 1 : Nat) : Int)], mrgL (mpN out (baseN out ((nextS c s2 out.length).1 + 1) ((nextS c (edS c (nextS c s2 out.length).2).2 out.length).1 + 1))) (applyL (mpN out ((nextS c s2 out.length).1 + 1)) (edS c (nextS c s2 out.length).2).1) (mpN out ((nextS c (edS c (nextS c s2 out.length).2).2 out.length).1 + 1))), (nextS c (nextS c (edS c (nextS c s2 out.length).2).2 out.length).2 3).2)
      else (([(((nextS c s2 out.length).1 + 1 : Nat) : Int)], applyL (mpN out ((nextS c s2 out.length).1 + 1)) (edS c (nextS c s2 out.length).2).1), (nextS c (nextS c (edS c (nextS c s2 out.length).2).2 out.length).2 3).2) := rfl
    generalize stoOne c s2 out = one at *
    generalize nextS c s2 out.length = pp at *
    obtain ⟨p, sp⟩ := pp
    dsimp only at *
    generalize edS c sp = ee at *
    obtain ⟨xs, se⟩ := ee
    dsimp only at *
    generalize nextS c se out.length = qq at *
    obtain ⟨q, sq⟩ := qq
    dsimp only at *
    generalize nextS c sq 3 = tt at *
    obtain ⟨r, sr⟩ := tt
    dsimp only at *
    generalize hm : applyL (mpN out (p + 1)) xs = m at *
    rw [hmp] at c5
    have hi : (out.map comA)[p]? = some (comA out[p]) := by simp [p2]
    have hOK := ac_l01OK' (gm.ok (Nat.le_trans gm.len (by omega))) (Nat.le_trans gm.len (by unfold maxLen; omega)) gm.small
    repeat (first | (refine r_step (p_callg [0] (c1) rfl rfl (by first | exact ⟨rfl, trivial⟩ | exact ⟨rfl, rfl, trivial⟩ | exact ⟨rfl, rfl, rfl, trivial⟩) rfl rfl (by first | exact trivial | exact ⟨⟨rfl, rfl, rfl⟩, trivial⟩ | exact ⟨⟨rfl, rfl, rfl⟩, ⟨rfl, rfl, rfl⟩, trivial⟩ | exact ⟨⟨rfl, rfl, rfl⟩, ⟨rfl, rfl, rfl⟩, ⟨rfl, rfl, rfl⟩, trivial⟩) rfl rfl rfl (.inl rfl) rfl) rfl rfl (fun e => by first | exact .inl rfl | contradiction | exact .inr (.inl (by kernel_rfl))) ?_; conv => whnf) | (refine r_put (p_bin (b_add (c := ((p + 1 : Nat) : Int)) (by omega) (by omega) (by omega)) rfl rfl rfl) rfl rfl ?_; conv => whnf) | ((first | refine qb rfl rfl ?_ | refine qi (by assumption) rfl rfl ?_ | refine ql rfl ?_ | refine qo rfl rfl ?_ | refine qs rfl rfl ?_ | refine qn rfl rfl ?_); conv => whnf))
    refine .inr ⟨by kernel_rfl, prodB_ok (by kernel_rfl), ?_⟩
    refine o2_calm (p_mv rfl) rfl rfl rfl (.inl rfl) (by kernel_rfl) ?_
    refine o2_sft (sft_bsv1 rfl rfl rfl rfl rfl rfl) in_o1 rfl rfl (by kernel_rfl) ?_
    refine o2_calm (p_mv rfl) rfl rfl rfl (.inl rfl) (by kernel_rfl) ?_
    refine o2_calm (p_mv rfl) rfl rfl rfl (.inl rfl) (by kernel_rfl) ?_
    refine o2_calm (p_bin (b_sub (c := (p : Int)) (by omega) (by omega) (by omega)) rfl rfl rfl) rfl rfl rfl (.inl rfl) (by kernel_rfl) ?_
    refine o2_sft (sft_rd (p_oidx (by simpa using p2) rfl rfl rfl rfl rfl) rfl rfl) in_o0 rfl rfl (by kernel_rfl) ?_
    refine o2_calm (p_ofld rfl rfl rfl) rfl rfl rfl (.inl rfl) (by kernel_rfl) ?_
    refine o2_calm (p_old rfl rfl hi rfl rfl rfl rfl) rfl rfl rfl (.inr rfl) (by kernel_rfl) ?_
    refine o2_calm (p_mv rfl) rfl rfl rfl (.inl rfl) (by kernel_rfl) ?_
    refine o2_sft (sft_callg1 c2 rfl rfl rfl rfl rfl rfl rfl rfl) in2 rfl rfl (by kernel_rfl) ?_
    refine o2_sft (sft_callo c5 rfl ⟨by simp [flatA, flatL], flat_o1 (flat_map flat_ent _)⟩ ⟨⟨rfl, rfl, rfl⟩, trivial⟩ rfl rfl rfl) in_nuO rfl rfl (by kernel_rfl) ?_
    refine o2_sft (sft_bldm rfl ⟨⟨_, _, rfl, rfl, rfl⟩, ⟨_, _, rfl, rfl, rfl⟩, trivial⟩ rfl rfl) in_o0 rfl rfl (by kernel_rfl) ?_
    refine o2_sft (sft_allo rfl rfl) in_o1 rfl rfl (by kernel_rfl) ?_
    refine o2_tied (p_ostoreo rfl rfl rfl rfl rfl rfl) rfl rfl (by kernel_rfl) ?_
    refine o2_gnil (Gh.foldr 7 40 [1] rfl rfl rfl rfl rfl rfl (Gh.done ?_))
    conv => whnf
    repeat (first | (refine r_step (p_callg [0] (c3) rfl rfl (by first | exact ⟨rfl, trivial⟩ | exact ⟨rfl, rfl, trivial⟩ | exact ⟨rfl, rfl, rfl, trivial⟩) rfl rfl (by first | exact trivial | exact ⟨⟨rfl, rfl, rfl⟩, trivial⟩ | exact ⟨⟨rfl, rfl, rfl⟩, ⟨rfl, rfl, rfl⟩, trivial⟩ | exact ⟨⟨rfl, rfl, rfl⟩, ⟨rfl, rfl, rfl⟩, ⟨rfl, rfl, rfl⟩, trivial⟩) rfl rfl rfl (.inl rfl) rfl) rfl rfl (fun e => by first | exact .inl rfl | contradiction | exact .inr (.inl (by kernel_rfl))) ?_; conv => whnf) | (refine r_put (p_bin (b_add (c := ((q + 1 : Nat) : Int)) (by omega) (by omega) (by omega)) rfl rfl rfl) rfl rfl ?_; conv => whnf) | ((first | refine qb rfl rfl ?_ | refine qi (by assumption) rfl rfl ?_ | refine ql rfl ?_ | refine qo rfl rfl ?_ | refine qs rfl rfl ?_ | refine qn rfl rfl ?_); conv => whnf))
    by_cases hqp : q = p
    · rw [if_pos hqp] at hone
      subst hone
      dsimp only at *
      repeat (((first | refine qb rfl rfl ?_ | refine qi (by assumption) rfl rfl ?_ | refine ql rfl ?_ | refine qo rfl rfl ?_ | refine qs rfl rfl ?_ | refine qn rfl rfl ?_); conv => whnf))
      refine r_gh (p_call hOK rfl (.inl rfl) trivial rfl rfl) rfl rfl (fun e => by cases e) (Gh.foldr 7 31 [0] rfl rfl rfl rfl rfl rfl (Gh.shuts 7 rfl rfl (Gh.done ?_)))
      conv => whnf
      refine r_step (p_app1r (f := comA) (xs := out) ([((p + 1 : Nat) : Int)], m) (out ++ [([((p + 1 : Nat) : Int)], m)]) rfl (by omega) rfl rfl rfl rfl rfl rfl rfl) rfl rfl (fun e => by first | exact .inl rfl | contradiction | exact .inr (.inl (by kernel_rfl))) ?_
      conv => whnf
      repeat (first | (refine r_put (p_bin (b_sub (c := (n : Int)) (by omega) (by omega) (by omega)) rfl rfl rfl) rfl rfl ?_; conv => whnf) | ((first | refine qb rfl rfl ?_ | refine qi (by assumption) rfl rfl ?_ | refine ql rfl ?_ | refine qo rfl rfl ?_ | refine qs rfl rfl ?_ | refine qn rfl rfl ?_); conv => whnf))
      exact ⟨⟨(n, sq, out ++ [([((p + 1 : Nat) : Int)], m)]), u1.le (by omega), by omega, h3.snoc u2 u3 u4, by simp; omega, h5⟩, by refine ⟨?_, ?_⟩ <;> (repeat (first | trivial | exact ⟨rfl, trivial⟩ | refine ⟨rfl, ?_⟩ | refine ⟨.inl ⟨rfl, rfl⟩, ?_⟩ | refine ⟨.inr ⟨_, _, rfl, rfl, rfl, rfl, rfl⟩, ?_⟩)), by simp⟩
    rw [if_neg hqp] at hone
    repeat (((first | refine qb rfl rfl ?_ | refine qi (by assumption) rfl rfl ?_ | refine ql rfl ?_ | refine qo rfl rfl ?_ | refine qs rfl rfl ?_ | refine qn rfl rfl ?_); conv => whnf))
    (refine r_step (p_callg [0] (c4) rfl rfl (by first | exact ⟨rfl, trivial⟩ | exact ⟨rfl, rfl, trivial⟩ | exact ⟨rfl, rfl, rfl, trivial⟩) rfl rfl (by first | exact trivial | exact ⟨⟨rfl, rfl, rfl⟩, trivial⟩ | exact ⟨⟨rfl, rfl, rfl⟩, ⟨rfl, rfl, rfl⟩, trivial⟩ | exact ⟨⟨rfl, rfl, rfl⟩, ⟨rfl, rfl, rfl⟩, ⟨rfl, rfl, rfl⟩, trivial⟩) rfl rfl rfl (.inl rfl) rfl) rfl rfl (fun e => by first | exact .inl rfl | contradiction | exact .inr (.inl (by kernel_rfl))) ?_; conv => whnf)
    by_cases hr2 : r = 2
    case neg =>
      rw [if_neg hr2] at hone
      rw [decide_eq_false (by omega)]
      subst hone
      dsimp only at *
      conv => whnf
      repeat (((first | refine qb rfl rfl ?_ | refine qi (by assumption) rfl rfl ?_ | refine ql rfl ?_ | refine qo rfl rfl ?_ | refine qs rfl rfl ?_ | refine qn rfl rfl ?_); conv => whnf))
      refine r_gh (p_call hOK rfl (.inl rfl) trivial rfl rfl) rfl rfl (fun e => by cases e) (Gh.foldr 7 31 [0] rfl rfl rfl rfl rfl rfl (Gh.shuts 7 rfl rfl (Gh.done ?_)))
      conv => whnf
      refine r_step (p_app1r (f := comA) (xs := out) ([((p + 1 : Nat) : Int)], m) (out ++ [([((p + 1 : Nat) : Int)], m)]) rfl (by omega) rfl rfl rfl rfl rfl rfl rfl) rfl rfl (fun e => by first | exact .inl rfl | contradiction | exact .inr (.inl (by kernel_rfl))) ?_
      conv => whnf
      repeat (first | (refine r_put (p_bin (b_sub (c := (n : Int)) (by omega) (by omega) (by omega)) rfl rfl rfl) rfl rfl ?_; conv => whnf) | ((first | refine qb rfl rfl ?_ | refine qi (by assumption) rfl rfl ?_ | refine ql rfl ?_ | refine qo rfl rfl ?_ | refine qs rfl rfl ?_ | refine qn rfl rfl ?_); conv => whnf))
      exact ⟨⟨(n, sr, out ++ [([((p + 1 : Nat) : Int)], m)]), u1.le (by omega), by omega, h3.snoc u2 u3 u4, by simp; omega, h5⟩, by refine ⟨?_, ?_⟩ <;> (repeat (first | trivial | exact ⟨rfl, trivial⟩ | refine ⟨rfl, ?_⟩ | refine ⟨.inl ⟨rfl, rfl⟩, ?_⟩ | refine ⟨.inr ⟨_, _, rfl, rfl, rfl, rfl, rfl⟩, ?_⟩)), by simp⟩
    rw [if_pos hr2] at hone
    rw [decide_eq_true (by omega)]
    subst hone
    dsimp only at *
    have hB := baseN_in hso (a := p + 1) (b := q + 1) (by omega) (by omega) (by omega) (by omega)
    have k1 := ac_l03Base hso (a := p + 1) (b := q + 1) (by omega) (by omega) (by omega) (by omega)
    generalize hBe : baseN out (p + 1) (q + 1) = B at *
    have hB1 : B - 1 < out.length := by omega
    have hmb : mpN out B = (out[B - 1]).2 := mpN_eq hB1
    have hmq : mpN out (q + 1) = (out[q]).2 := mpN_eq (k := q + 1) r2
    have lb := mpN_le hso B
    have lq := mpN_le hso (q + 1)
    have lm := gm.len
    have gM := (h3.mp B).mrg gm (h3.mp (q + 1))
    have k2 := ac_l02Merge (base := mpN out B) (a := m) (b := mpN out (q + 1)) (by omega) (by omega) (by omega)
    generalize mrgL (mpN out B) m (mpN out (q + 1)) = M at *
    rw [hmb, hmq] at k2
    have hib : (out.map comA)[B - 1]? = some (comA out[B - 1]) := by simp [hB1]
    have hiq : (out.map comA)[q]? = some (comA out[q]) := by simp [r2]
    have lM := gM.len
    have hOK := ac_l01OK' (gM.ok (Nat.le_trans gM.len (by omega))) (Nat.le_trans gM.len (by unfold maxLen; omega)) gM.small
    conv => whnf
    repeat (((first | refine qb rfl rfl ?_ | refine qi (by assumption) rfl rfl ?_ | refine ql rfl ?_ | refine qo rfl rfl ?_ | refine qs rfl rfl ?_ | refine qn rfl rfl ?_); conv => whnf))
    refine r_step (p_app1r (f := intA) (xs := [((p + 1 : Nat) : Int)]) ((q + 1 : Nat) : Int) [((p + 1 : Nat) : Int), ((q + 1 : Nat) : Int)] rfl (by simp) rfl rfl rfl rfl rfl rfl rfl) rfl rfl (fun e => by first | exact .inl rfl | contradiction | exact .inr (.inl (by kernel_rfl))) ?_
    conv => whnf
    refine r_step (p_ostoreo rfl rfl rfl rfl rfl rfl) rfl rfl (fun e => by first | exact .inl rfl | contradiction | exact .inr (.inl (by kernel_rfl))) ?_
    conv => whnf
    refine .inr ⟨by kernel_rfl, prodB_ok (by kernel_rfl), ?_⟩
    iterate 4 refine o2_calm (p_mv rfl) rfl rfl rfl (.inl rfl) (by kernel_rfl) ?_
    refine o2_sft (sft_callo k1 rfl ⟨by simp [flatA, flatL], flat_o0⟩ trivial rfl rfl rfl) in_nuO rfl rfl (by kernel_rfl) ?_
    refine o2_calm (p_bin (b_sub (c := ((B - 1 : Nat) : Int)) (by omega) (by omega) (by omega)) rfl rfl rfl) rfl rfl rfl (.inl rfl) (by kernel_rfl) ?_
    refine o2_sft (sft_rd (p_oidx (by simpa using hB1) rfl rfl rfl rfl rfl) rfl rfl) in_o0 rfl rfl (by kernel_rfl) ?_
    refine o2_calm (p_ofld rfl rfl rfl) rfl rfl rfl (.inl rfl) (by kernel_rfl) ?_
    refine o2_calm (p_old rfl rfl hib rfl rfl rfl rfl) rfl rfl rfl (.inr rfl) (by kernel_rfl) ?_
    refine o2_calm (p_ofld rfl rfl rfl) rfl rfl rfl (.inl rfl) (by kernel_rfl) ?_
    refine o2_calm (p_oldo rfl rfl rfl rfl rfl rfl rfl rfl) rfl rfl rfl (.inr rfl) (by kernel_rfl) ?_
    iterate 2 refine o2_calm (p_mv rfl) rfl rfl rfl (.inl rfl) (by kernel_rfl) ?_
    refine o2_calm (p_bin (b_sub (c := (q : Int)) (by omega) (by omega) (by omega)) rfl rfl rfl) rfl rfl rfl (.inl rfl) (by kernel_rfl) ?_
    refine o2_sft (sft_rd (p_oidx (by simpa using r2) rfl rfl rfl rfl rfl) rfl rfl) in_o0 rfl rfl (by kernel_rfl) ?_
    refine o2_calm (p_ofld rfl rfl rfl) rfl rfl rfl (.inl rfl) (by kernel_rfl) ?_
    refine o2_calm (p_old rfl rfl hiq rfl rfl rfl rfl) rfl rfl rfl (.inr rfl) (by kernel_rfl) ?_
    refine o2_sft (sft_call k2 rfl rfl rfl ⟨⟨rfl, rfl, rfl⟩, ⟨rfl, rfl, rfl⟩, trivial⟩ rfl rfl rfl) in_nuO rfl rfl (by kernel_rfl) ?_
    refine o2_calm (p_mv rfl) rfl rfl rfl (.inl rfl) (by kernel_rfl) ?_
    refine o2_calm (p_ext rfl rfl) rfl rfl rfl (.inl rfl) (by kernel_rfl) ?_
    refine o2_calm (p_ext rfl rfl) rfl rfl rfl (.inl rfl) (by kernel_rfl) ?_
    iterate 2 refine o2_sft (sft_as2 rfl) in_o0 rfl rfl (by kernel_rfl) ?_
    refine o2_nil ?_
    conv => whnf
    repeat (first | (refine r_put (p_bin (b_le_t (by simp; omega)) rfl rfl rfl) rfl rfl ?_; conv => whnf) | ((first | refine qb rfl rfl ?_ | refine qi (by assumption) rfl rfl ?_ | refine ql rfl ?_ | refine qo rfl rfl ?_ | refine qs rfl rfl ?_ | refine qn rfl rfl ?_); conv => whnf))
    refine r_gh (p_ostoreo rfl rfl rfl rfl rfl rfl) rfl rfl (fun e => by cases e) (Gh.foldr 7 78 [1] rfl rfl rfl rfl rfl rfl (Gh.done ?_))
    conv => whnf
    repeat (((first | refine qb rfl rfl ?_ | refine qi (by assumption) rfl rfl ?_ | refine ql rfl ?_ | refine qo rfl rfl ?_ | refine qs rfl rfl ?_ | refine qn rfl rfl ?_); conv => whnf))
    refine r_gh (p_call hOK rfl (.inl rfl) trivial rfl rfl) rfl rfl (fun e => by cases e) (Gh.foldr 7 31 [0] rfl rfl rfl rfl rfl rfl (Gh.shuts 7 rfl rfl (Gh.done ?_)))
    conv => whnf
    refine r_step (p_app1r (f := comA) (xs := out) ([((p + 1 : Nat) : Int), ((q + 1 : Nat) : Int)], M) (out ++ [([((p + 1 : Nat) : Int), ((q + 1 : Nat) : Int)], M)]) rfl (by omega) rfl rfl rfl rfl rfl rfl rfl) rfl rfl (fun e => by first | exact .inl rfl | contradiction | exact .inr (.inl (by kernel_rfl))) ?_
    conv => whnf
    repeat (first | (refine r_put (p_bin (b_sub (c := (n : Int)) (by omega) (by omega) (by omega)) rfl rfl rfl) rfl rfl ?_; conv => whnf) | ((first | refine qb rfl rfl ?_ | refine qi (by assumption) rfl rfl ?_ | refine ql rfl ?_ | refine qo rfl rfl ?_ | refine qs rfl rfl ?_ | refine qn rfl rfl ?_); conv => whnf))
    exact ⟨⟨(n, sr, out ++ [([((p + 1 : Nat) : Int), ((q + 1 : Nat) : Int)], M)]), u1.le (by omega), by omega, h3.snoc u2 u3 u4, by simp; omega, h5⟩, by refine ⟨?_, ?_⟩ <;> (repeat (first | trivial | exact ⟨rfl, trivial⟩ | refine ⟨rfl, ?_⟩ | refine ⟨.inl ⟨rfl, rfl⟩, ?_⟩ | refine ⟨.inr ⟨_, _, rfl, rfl, rfl, rfl, rfl⟩, ?_⟩)), by simp⟩
noncomputable def stoD (c : List UInt8) : List Cmt := (stoS c (src0 c)).1
theorem stoD_ok (c : List UInt8) : GoodS (stoD c) ∧ (stoD c).length ≤ 13 := (stoS_ok (src0_ok c)).2
theorem ac_StoreDrawn {c : List UInt8} (hc : c.length ≤ maxLen) : AC Try.prog 79 [.lst 1 (c.map bytA)] ⟨.lst 2 ((stoD c).map comA), []⟩ := by
  obtain ⟨g1, g2⟩ := stoD_ok c
  have h1 := ac_source hc
  have h2 := ac_store hc (src0_ok c) (by omega)
  have h3 := ac_l03Copy (l := stoD c) (by omega) (fun x hx => by obtain ⟨a1, a2, _⟩ := g1.comOK x hx; exact ⟨by omega, by omega⟩)
  unfold stoD at *
  refine r_of Th_ok (by kernel_rfl) Try.func79 rfl Try.ntmps79 Try.results79 (by kernel_rfl) rfl ?_; conv => whnf
  repeat (first | ((first | refine qb rfl rfl ?_ | refine qi (by assumption) rfl rfl ?_ | refine ql rfl ?_ | refine qo rfl rfl ?_ | refine qs rfl rfl ?_ | refine qn rfl rfl ?_); conv => whnf) | (refine qf (h1) rfl ?_; conv => whnf))
  (refine r_step (p_callg [5] (h2) rfl rfl (by first | exact ⟨rfl, trivial⟩ | exact ⟨rfl, rfl, trivial⟩ | exact ⟨rfl, rfl, rfl, trivial⟩) rfl rfl (by first | exact trivial | exact ⟨⟨rfl, rfl, rfl⟩, trivial⟩ | exact ⟨⟨rfl, rfl, rfl⟩, ⟨rfl, rfl, rfl⟩, trivial⟩ | exact ⟨⟨rfl, rfl, rfl⟩, ⟨rfl, rfl, rfl⟩, ⟨rfl, rfl, rfl⟩, trivial⟩) rfl rfl rfl (.inl rfl) rfl) rfl rfl (fun e => by first | exact .inl rfl | contradiction | exact .inr (.inl (by kernel_rfl))) ?_; conv => whnf)
  repeat (first | ((first | refine qb rfl rfl ?_ | refine qi (by assumption) rfl rfl ?_ | refine ql rfl ?_ | refine qo rfl rfl ?_ | refine qs rfl rfl ?_ | refine qn rfl rfl ?_); conv => whnf) | (refine qf (h3) rfl ?_; conv => whnf))
  exact r_lst1 rfl rfl
end Go.Proofs.Ytjhimcddgkoghaa.AM
namespace Go.Proofs.Ytjhimcddgkoghaa.AM
open Go Go.RowKit
set_option linter.unusedVariables false
set_option linter.unusedSimpArgs false
set_option maxRecDepth 100000
/-- the first parent, its first parent, and so on -/
def tl (cs : List Cmt) : Nat → Nat → List Int
  | 0, _ => []
  | n + 1, id => match parsN cs id with
    | [] => []
    | p :: _ => (p : Int) :: tl cs n p
theorem tl_len {cs : List Cmt} : ∀ n id, (tl cs n id).length ≤ n
  | 0, _ => Nat.le_refl _
  | n + 1, id => by
    unfold tl
    split
    · simp
    · rename_i p _ _
      have := tl_len (cs := cs) n p
      simp; omega
theorem tl_fuel {cs : List Cmt} (hb : stoB cs = true) : ∀ (n m id : Nat), 1 ≤ id → id ≤ n → id ≤ m → id ≤ cs.length → tl cs n id = tl cs m id := by
  intro n
  induction n with
  | zero => intro m id h1 h2; omega
  | succ n ih =>
    intro m id h1 h2 h3 h4
    obtain ⟨m, rfl⟩ : ∃ m', m = m' + 1 := ⟨m - 1, by omega⟩
    unfold tl
    split
    · rfl
    · rename_i p ps hp
      obtain ⟨q1, q2⟩ := parsN_lt hb h1 h4 p (by rw [hp]; simp)
      rw [ih m p q1 (by omega) (by omega) (by omega)]
theorem tl_nil {cs : List Cmt} {id : Nat} (h : (parsN cs id).length = 0) : tl cs id id = [] := by
  cases id with
  | zero => rfl
  | succ n => unfold tl; rw [List.eq_nil_of_length_eq_zero h]
theorem tl_cons {cs : List Cmt} (hb : stoB cs = true) {id : Nat} (h1 : 1 ≤ id) (h2 : id ≤ cs.length) (h : 0 < (parsN cs id).length) : tl cs id id = (((parsN cs id)[0] : Nat) : Int) :: tl cs (parsN cs id)[0] (parsN cs id)[0] := by
  obtain ⟨n, rfl⟩ : ∃ n, id = n + 1 := ⟨id - 1, by omega⟩
  obtain ⟨p, ps, hp⟩ : ∃ p ps, parsN cs (n + 1) = p :: ps := List.exists_cons_of_length_pos h
  have e0 : (parsN cs (n + 1))[0] = p := by simp [hp]
  obtain ⟨q1, q2⟩ := parsN_lt hb h1 h2 p (by rw [hp]; simp)
  have : tl cs (n + 1) (n + 1) = (p : Int) :: tl cs n p := by rw [tl, hp]
  rw [this, e0, tl_fuel hb n p p q1 (by omega) (Nat.le_refl _) (by omega)]
def lineN (cs : List Cmt) (id : Nat) : List Int := (id : Int) :: tl cs id id
noncomputable def lineR (cs : List Cmt) (id : Int) : List Int × Int := if askR cs [id] = 0 then (lineN cs id.toNat, 0) else ([], askR cs [id])
theorem lineN_len (cs : List Cmt) (id : Nat) : (lineN cs id).length ≤ id + 1 := by
  have := tl_len (cs := cs) id id
  simp [lineN]; omega
theorem parsN_eq {cs : List Cmt} {id : Nat} (h1 : 1 ≤ id) (h2 : id ≤ cs.length) : parsN cs id = ((cs[id - 1]'(by omega)).1).map Int.toNat := by
  unfold parsN
  rw [List.getElem?_eq_getElem (by omega)]
attribute [local irreducible] ACode AOps AOps2 RetG RetM Pre ACG
theorem ac_sFirstLine {cs : List Cmt} {id : Int} (hm : cs.length ≤ maxLen) (hc : comOK maxLen cs) : AC Try.prog 88 [.lst 2 (cs.map comA), .v (.int .i64 id)] ⟨.tup [.own 0, .v (.int .i64 (lineR cs id).2)], [⟨3, 1, (lineR cs id).1.map intA⟩]⟩ := by
  have h1 := ac_l03Ask (ids := [id]) hm hc (by unfold maxLen; simp)
  unfold maxLen at hm
  unfold lineR
  by_cases hl : cs.length ≤ 4096
  case neg =>
    have h0 := askR_long (ids := [id]) hl
    rw [h0, if_neg (by omega)]
    refine r_of Th_ok (by kernel_rfl) Try.func88 rfl Try.ntmps88 Try.results88 (by kernel_rfl) rfl ?_; conv => whnf
    repeat (first | ((first | refine qb rfl rfl ?_ | refine qi (by assumption) rfl rfl ?_ | refine ql rfl ?_ | refine qo rfl rfl ?_ | refine qs rfl rfl ?_ | refine qn rfl rfl ?_); conv => whnf) | (refine .inl (And.intro (by kernel_rfl) ?_); conv => whnf))
    exact r_tupOV rfl rfl rfl
  by_cases h0 : askR cs [id] = 0
  case neg =>
    rw [if_neg h0]
    refine r_of Th_ok (by kernel_rfl) Try.func88 rfl Try.ntmps88 Try.results88 (by kernel_rfl) rfl ?_; conv => whnf
    repeat (first | ((first | refine qb rfl rfl ?_ | refine qi (by assumption) rfl rfl ?_ | refine ql rfl ?_ | refine qo rfl rfl ?_ | refine qs rfl rfl ?_ | refine qn rfl rfl ?_); conv => whnf) | (refine .inl (And.intro (by kernel_rfl) ?_); conv => whnf) | (refine qc (h1) rfl ?_; conv => whnf))
    exact r_tupOV rfl rfl rfl
  obtain ⟨hb, hids⟩ := askR_0 h0
  obtain ⟨hl1, hl2⟩ := sto_len hb
  obtain ⟨a1, a2⟩ := hids id (by simp)
  obtain ⟨id, rfl⟩ : ∃ a' : Nat, id = (a' : Int) := ⟨id.toNat, by omega⟩
  rw [if_pos h0]
  rw [h0] at h1
  simp only [Int.toNat_natCast]
  have hln := lineN_len cs id
  refine r_of Th_ok (by kernel_rfl) Try.func88 rfl Try.ntmps88 Try.results88 (by kernel_rfl) rfl ?_; conv => whnf
  repeat (first | ((first | refine qb rfl rfl ?_ | refine qi (by assumption) rfl rfl ?_ | refine ql rfl ?_ | refine qo rfl rfl ?_ | refine qs rfl rfl ?_ | refine qn rfl rfl ?_); conv => whnf) | (refine .inl (And.intro (by kernel_rfl) ?_); conv => whnf) | (refine qc (h1) rfl ?_; conv => whnf))
  refine r_loop (ι := { p : List Int × Nat // 1 ≤ p.2 ∧ p.2 ≤ cs.length ∧ p.1 ++ tl cs p.2 p.2 = lineN cs id }) (fun p => ⟨[(0, .lst 2 (cs.map comA)), (1, .v (.int .i64 (p.1.2 : Int))), (7, .own 22)], [(22, ⟨3, 1, p.1.1.map intA⟩)]⟩) (fun p => p.1.2) ⟨([(id : Int)], id), by omega, by omega, rfl⟩ (by refine ⟨?_, ?_⟩ <;> (repeat (first | trivial | exact ⟨rfl, trivial⟩ | refine ⟨rfl, ?_⟩ | refine ⟨.inl ⟨rfl, rfl⟩, ?_⟩ | refine ⟨.inr ⟨_, _, rfl, rfl, rfl, rfl, rfl⟩, ?_⟩))) ?_
  rintro ⟨⟨out, k⟩, k1, k2, k3⟩
  dsimp only at k1 k2 k3 ⊢
  conv => whnf
  have hk : k - 1 < cs.length := by omega
  have hpn := parsN_eq k1 k2
  have hol : out.length ≤ 61 := by
    have : (out ++ tl cs k k).length = (lineN cs id).length := by rw [k3]
    rw [List.length_append] at this; omega
  by_cases h0' : 0 < (cs[k - 1]).1.length
  case neg =>
    have hnil : tl cs k k = [] := tl_nil (by rw [hpn, List.length_map]; omega)
    rw [hnil, List.append_nil] at k3
    rw [← k3]
    repeat (first | (refine r_put (p_bin (b_sub (c := ((k - 1 : Nat) : Int)) (by omega) (by omega) (by omega)) rfl rfl rfl) rfl rfl ?_; conv => whnf) | ((first | refine qb rfl rfl ?_ | refine qi (by assumption) rfl rfl ?_ | refine ql rfl ?_ | refine qo rfl rfl ?_ | refine qs rfl rfl ?_ | refine qn rfl rfl ?_); conv => whnf) | (refine .inl (And.intro (by kernel_rfl) ?_); conv => whnf))
    exact r_tupOV rfl rfl rfl
  have hpl : 0 < (parsN cs k).length := by rw [hpn, List.length_map]; exact h0'
  have hco := tl_cons hb k1 k2 hpl
  have hp0 := parsN_lt hb k1 k2 _ (List.getElem_mem hpl)
  have hpe : (cs[k - 1]).1[0] = (((parsN cs k)[0] : Nat) : Int) := by
    obtain ⟨_, g1, _, _⟩ := (sto_par hb hk).2.2 0 h0'
    have : (parsN cs k)[0] = ((cs[k - 1]).1[0]).toNat := by simp [hpn]
    rw [this]; omega
  have hgp : ((cs[k - 1]).1.map intA)[0]? = some (AV.v (.int .i64 (((parsN cs k)[0] : Nat) : Int))) := by
    rw [List.getElem?_map, List.getElem?_eq_getElem h0', ← hpe]; rfl
  rw [hco] at k3
  generalize (parsN cs k)[0] = p at *
  have hap : out ++ [(p : Int)] = out ++ [(p : Int)] := rfl
  repeat (first | (refine r_put (p_bin (b_sub (c := ((k - 1 : Nat) : Int)) (by omega) (by omega) (by omega)) rfl rfl rfl) rfl rfl ?_; conv => whnf) | (refine r_put (p_idx (j := 0) hgp rfl rfl rfl) rfl rfl ?_; conv => whnf) | ((first | refine qb rfl rfl ?_ | refine qi (by assumption) rfl rfl ?_ | refine ql rfl ?_ | refine qo rfl rfl ?_ | refine qs rfl rfl ?_ | refine qn rfl rfl ?_); conv => whnf) | (refine .inl (And.intro (by kernel_rfl) ?_); conv => whnf) | (refine r_step (p_app1r (f := intA) (p : Int) _ hap (by omega) rfl rfl rfl rfl rfl rfl rfl) rfl rfl (fun e => by first | exact .inl rfl | contradiction | exact .inr (.inl (by kernel_rfl))) ?_; conv => whnf))
  exact ⟨⟨(out ++ [(p : Int)], p), hp0.1, by omega, by rw [List.append_assoc]; exact k3⟩, by refine ⟨?_, ?_⟩ <;> (repeat (first | trivial | exact ⟨rfl, trivial⟩ | refine ⟨rfl, ?_⟩ | refine ⟨.inl ⟨rfl, rfl⟩, ?_⟩ | refine ⟨.inr ⟨_, _, rfl, rfl, rfl, rfl, rfl⟩, ?_⟩)), by simp; omega⟩
theorem ac_iFirstLine {cs : List Cmt} {id : Int} (hm : cs.length ≤ maxLen) (hc : comOK maxLen cs) : AC Try.prog 87 [.lst 2 (cs.map comA), .v (.int .i64 id)] ⟨.tup [.own 0, .v (.int .i64 (lineR cs id).2)], [⟨3, 1, (lineR cs id).1.map intA⟩]⟩ := by
  have h1 := ac_graphCode (ids := [id]) hm hc (by unfold maxLen; simp)
  unfold lineR
  by_cases h0 : askR cs [id] = 0
  case neg =>
    rw [if_neg h0]
    refine r_of Th_ok (by kernel_rfl) Try.func87 rfl Try.ntmps87 Try.results87 (by kernel_rfl) rfl ?_; conv => whnf
    repeat (first | ((first | refine qb rfl rfl ?_ | refine qi (by assumption) rfl rfl ?_ | refine ql rfl ?_ | refine qo rfl rfl ?_ | refine qs rfl rfl ?_ | refine qn rfl rfl ?_); conv => whnf) | (refine .inl (And.intro (by kernel_rfl) ?_); conv => whnf) | (refine qc (h1) rfl ?_; conv => whnf))
    exact r_tupOV rfl rfl rfl
  obtain ⟨hb, hids⟩ := askR_0 h0
  obtain ⟨hl1, hl2⟩ := sto_len hb
  obtain ⟨a1, a2⟩ := hids id (by simp)
  obtain ⟨id, rfl⟩ : ∃ a' : Nat, id = (a' : Int) := ⟨id.toNat, by omega⟩
  rw [if_pos h0]
  rw [h0] at h1
  simp only [Int.toNat_natCast]
  have hln := lineN_len cs id
  have h2 := ac_nodeOf (id := id) hb (by omega) (by omega)
  obtain ⟨id, rfl⟩ : ∃ n, id = n + 1 := ⟨id - 1, by omega⟩
  refine r_of Th_ok (by kernel_rfl) Try.func87 rfl Try.ntmps87 Try.results87 (by kernel_rfl) rfl ?_; conv => whnf
  repeat (first | ((first | refine qb rfl rfl ?_ | refine qi (by assumption) rfl rfl ?_ | refine ql rfl ?_ | refine qo rfl rfl ?_ | refine qs rfl rfl ?_ | refine qn rfl rfl ?_); conv => whnf) | (refine .inl (And.intro (by kernel_rfl) ?_); conv => whnf) | (refine qc (h1) rfl ?_; conv => whnf) | (refine qc (h2) rfl ?_; conv => whnf))
  refine r_loop (ι := { p : List Int × Nat // 1 ≤ p.2 ∧ p.2 ≤ cs.length ∧ p.1 ++ tl cs p.2 p.2 = lineN cs (id + 1) }) (fun p => ⟨[(7, .ptr (nodeA cs p.1.2 p.1.2)), (8, .own 24)], [(24, ⟨3, 1, p.1.1.map intA⟩)]⟩) (fun p => p.1.2) ⟨([((id + 1 : Nat) : Int)], id + 1), by omega, by omega, rfl⟩ (by refine ⟨?_, ?_⟩ <;> (repeat (first | trivial | exact ⟨rfl, trivial⟩ | refine ⟨rfl, ?_⟩ | refine ⟨.inl ⟨rfl, rfl⟩, ?_⟩ | refine ⟨.inr ⟨_, _, rfl, rfl, rfl, rfl, rfl⟩, ?_⟩))) ?_
  rintro ⟨⟨out, k⟩, k1, k2, k3⟩
  dsimp only at k1 k2 k3 ⊢
  have hpn := parsN_eq k1 k2
  have hol : out.length ≤ 61 := by
    have : (out ++ tl cs k k).length = (lineN cs (id + 1)).length := by rw [k3]
    rw [List.length_append] at this; omega
  have hpl2 := parsN_len hb k
  by_cases h0' : 0 < (parsN cs k).length
  case neg =>
    have hnil : tl cs k k = [] := tl_nil (by omega)
    rw [hnil, List.append_nil] at k3
    rw [← k3]
    obtain ⟨k, rfl⟩ : ∃ n, k = n + 1 := ⟨k - 1, by omega⟩
    conv => whnf
    repeat (first | ((first | refine qb rfl rfl ?_ | refine qi (by assumption) rfl rfl ?_ | refine ql rfl ?_ | refine qo rfl rfl ?_ | refine qs rfl rfl ?_ | refine qn rfl rfl ?_); conv => whnf) | (refine .inl (And.intro (by kernel_rfl) ?_); conv => whnf))
    exact r_tupOV rfl rfl rfl
  have hco := tl_cons hb k1 k2 h0'
  have hp0 := parsN_lt hb k1 k2 _ (List.getElem_mem h0')
  rw [hco] at k3
  obtain ⟨k, rfl⟩ : ∃ n, k = n + 1 := ⟨k - 1, by omega⟩
  have hgp : ((parsN cs (k + 1)).map fun p => AV.ptr (nodeA cs k p))[0]? = some (AV.ptr (nodeA cs (parsN cs (k + 1))[0] (parsN cs (k + 1))[0])) := by
    rw [List.getElem?_map, List.getElem?_eq_getElem h0', nodeA_fuel hb (parsN cs (k + 1))[0] k _ hp0.1 (Nat.le_refl _) (by omega) (by omega)]; rfl
  generalize (parsN cs (k + 1))[0] = p at *
  obtain ⟨p, rfl⟩ : ∃ n, p = n + 1 := ⟨p - 1, by omega⟩
  have hap : out ++ [((p + 1 : Nat) : Int)] = out ++ [((p + 1 : Nat) : Int)] := rfl
  conv => whnf
  repeat (first | (refine r_put (p_idx (j := 0) hgp rfl rfl rfl) rfl rfl ?_; conv => whnf) | ((first | refine qb rfl rfl ?_ | refine qi (by assumption) rfl rfl ?_ | refine ql rfl ?_ | refine qo rfl rfl ?_ | refine qs rfl rfl ?_ | refine qn rfl rfl ?_); conv => whnf) | (refine .inl (And.intro (by kernel_rfl) ?_); conv => whnf) | (refine r_step (p_app1r (f := intA) ((p + 1 : Nat) : Int) _ hap (by omega) rfl rfl rfl rfl rfl rfl rfl) rfl rfl (fun e => by first | exact .inl rfl | contradiction | exact .inr (.inl (by kernel_rfl))) ?_; conv => whnf))
  exact ⟨⟨(out ++ [((p + 1 : Nat) : Int)], p + 1), hp0.1, by omega, by rw [List.append_assoc]; exact k3⟩, by refine ⟨?_, ?_⟩ <;> (repeat (first | trivial | exact ⟨rfl, trivial⟩ | refine ⟨rfl, ?_⟩ | refine ⟨.inl ⟨rfl, rfl⟩, ?_⟩ | refine ⟨.inr ⟨_, _, rfl, rfl, rfl, rfl, rfl⟩, ?_⟩)), by simp; omega⟩
end Go.Proofs.Ytjhimcddgkoghaa.AM
