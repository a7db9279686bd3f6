/- The machine over data (F6, F7, F8). -/
import Derived.Test.YtnlobdhkpmeniaaF4
/- The law of RefsOK; LoadRef on both sides and its law. -/
namespace Go.Proofs.Ytnlobdhkpmeniaa.AM
open Go Go.RowKit
set_option linter.unusedVariables false
set_option linter.unusedSimpArgs false
set_option maxRecDepth 100000
def nmOK (N : Nat) (l : List Rf) : Prop := ∀ e ∈ l, e.name.size ≤ N
attribute [local irreducible] ACode AOps AOps2 RetG RetM Pre ACG
end Go.Proofs.Ytnlobdhkpmeniaa.AM
/- LoadRef and LiveRefs on both sides, and their laws. -/
namespace Go.Proofs.Ytnlobdhkpmeniaa.AM
open Go Go.RowKit
set_option linter.unusedVariables false
set_option linter.unusedSimpArgs false
set_option maxRecDepth 100000
attribute [local irreducible] ACode AOps AOps2 RetG RetM Pre ACG
end Go.Proofs.Ytnlobdhkpmeniaa.AM
/- References marked and held; LiveRefs on both sides, and its law. -/
namespace Go.Proofs.Ytnlobdhkpmeniaa.AM
open Go Go.RowKit
set_option linter.unusedVariables false
set_option linter.unusedSimpArgs false
set_option maxRecDepth 100000
def markR (k : Int) : Rf := ⟨markB k, k + 1, k + 1 + 1, decide ((k + 1 + 1 + 1) % 3 = 0)⟩
def markedR : Nat → Int → List Rf
  | 0, _ => []
  | n + 1, k => markR k :: markedR n (k + 4)
theorem markedR_length : ∀ (n : Nat) (k : Int), (markedR n k).length = n
  | 0, _ => rfl
  | n + 1, k => by simp [markedR, markedR_length n (k + 4)]
theorem markedR_get : ∀ (n : Nat) (k0 : Int) (k : Nat) (h : k < n), (markedR n k0)[k]'(by rw [markedR_length]; exact h) = markR (k0 + 4 * k)
  | n + 1, k0, 0, h => by simp [markedR]
  | n + 1, k0, k + 1, h => by
    have := markedR_get n (k0 + 4) k (by omega)
    simp only [markedR, List.getElem_cons_succ]
    rw [this]; congr 1; omega
theorem markedR_snoc : ∀ (n : Nat) (k : Int), markedR (n + 1) k = markedR n k ++ [markR (k + 4 * n)]
  | 0, k => by simp [markedR]
  | n + 1, k => by
    rw [markedR, markedR_snoc n (k + 4), markedR]
    have e : k + 4 + 4 * (n : Int) = k + 4 * ((n + 1 : Nat) : Int) := by omega
    rw [e]; rfl
theorem fold_set4 {α : Type} (l : List α) (k : Nat) (a b c d : α) : (((l.set k a).set k b).set k c).set k d = l.set k d := by simp [List.set_set]
attribute [local irreducible] ACode AOps AOps2 RetG RetM Pre ACG
set_option maxHeartbeats 2000000 in
theorem ac_markRefS {l : List Rf} {k0 : Int} (hm : l.length ≤ 1048600) (h0 : 0 ≤ k0) (h1 : k0 ≤ 8388608) : ACM Try.prog 52 ⟨92, 4, l.map refA⟩ ((markedR l.length k0).map refA) [.v (.int .i64 k0)] (.int .i64 (k0 + 4 * l.length)) := by
  refine r_ofM Th_ok (by kernel_rfl) Try.func52 rfl Try.ntmps52 Try.results52 (by kernel_rfl) rfl ?_ ?_
  · exact flat_map flat_ref _
  conv => whnf
  refine r_loop (ι := { k : Nat // k ≤ l.length }) (fun k => ⟨[(0, .own 0), (1, .v (.int .i64 (k0 + 4 * (k.1 : Int)))), (5, .v (.int .i64 (k.1 : Int)))], [(0, ⟨92, 4, (markedR k.1 k0 ++ l.drop k.1).map refA⟩)]⟩) (fun k => l.length - k.1) ⟨0, Nat.zero_le _⟩ (by
    refine ⟨⟨rfl, trivial⟩, .inl ⟨rfl, rfl⟩, .inl ⟨?_, rfl⟩, .inl ⟨rfl, rfl⟩, trivial⟩
    show AV.v (.int .i64 k0) = _
    simp) ?_
  rintro ⟨k, hk⟩
  dsimp only
  have hml : (markedR k k0 ++ l.drop k).length = l.length := by simp [markedR_length]; omega
  conv => whnf
  by_cases hlt : k < l.length
  · have hlt' : k < (markedR k k0 ++ l.drop k).length := by omega
    have hset : (markedR k k0 ++ l.drop k).set k (markR (k0 + 4 * k)) = markedR (k + 1) k0 ++ l.drop (k + 1) := by
      rw [List.set_append_right _ _ (by rw [markedR_length]; exact Nat.le_refl _), markedR_length, Nat.sub_self, List.drop_eq_getElem_cons hlt, List.set_cons_zero, markedR_snoc, List.append_assoc]; rfl
    have hset' : ((markedR k k0 ++ l.drop k).map refA).set k (refA (markR (k0 + 4 * k))) = (markedR (k + 1) k0 ++ l.drop (k + 1)).map refA := by rw [← List.map_set, hset]
    generalize hX : markedR k k0 ++ l.drop k = X at *
    have hX0 : k < (X.map refA).length := by simpa using hlt'
    by_cases hz : (k0 + 4 * (k : Int) + 1 + 1 + 1) % 3 = 0
    · have hdz : decide ((k0 + 4 * (k : Int) + 1 + 1 + 1) % 3 = 0) = true := decide_eq_true hz
      repeat (first | first | (refine r_put (p_bin (by first | exact b_lt_t (by omega) | exact b_lt_f (by omega) | exact b_le_t (by omega) | exact b_le_f (by omega) | exact b_gt_t (by omega) | exact b_gt_f (by omega) | exact b_ge_t (by omega) | exact b_ge_f (by omega) | exact b_eq_t (by omega) | exact b_eq_f (by omega) | exact b_ne_t (by omega) | exact b_ne_f (by omega) | exact b_sub rfl (by omega) (by omega) | exact b_add rfl (by omega) (by omega)) rfl rfl rfl) rfl rfl ?_; conv => whnf) | (refine r_put (p_idx (getA _ (by assumption)) rfl rfl rfl) rfl rfl ?_; conv => whnf) | (refine r_put (p_lenm rfl ⟨_, _, _, _, rfl⟩) rfl rfl ?_; conv => whnf) | (refine r_put (p_lenom rfl rfl ⟨_, _, _, _, rfl⟩) rfl rfl ?_; conv => whnf) | (refine r_put (p_len (y := .v (.string _)) rfl rfl rfl) rfl rfl ?_; conv => whnf) | (refine r_put (p_len rfl rfl ⟨_, _, _, _, rfl⟩) rfl rfl ?_; conv => whnf) | (refine .inl (And.intro (by kernel_rfl) ?_); conv => whnf) | (refine r_step (p_call (ac_markText (k := k0 + 4 * (k : Int)) (by omega) (by omega)) rfl (by first | exact .inl rfl | exact .inr ⟨by simp [flatA, flatL], by first | exact flat_o0 | exact flat_o1 (by first | exact flat_map flat_str _ | exact flat_map flat_ent _ | exact flat_map flat_edt _ | exact flat_map flat_ref _ | exact flat_map flat_int _ | exact flat_map flat_evt _) | exact flat_o2 (by first | exact flat_map flat_str _ | exact flat_map flat_ent _ | exact flat_map flat_edt _ | exact flat_map flat_ref _ | exact flat_map flat_int _ | exact flat_map flat_evt _) (by first | exact flat_map flat_str _ | exact flat_map flat_ent _ | exact flat_map flat_edt _ | exact flat_map flat_ref _ | exact flat_map flat_int _ | exact flat_map flat_evt _)⟩) (by first | exact trivial | exact ⟨⟨rfl, rfl, rfl⟩, trivial⟩ | exact ⟨⟨rfl, rfl, rfl⟩, ⟨rfl, rfl, rfl⟩, trivial⟩ | exact ⟨⟨rfl, rfl, rfl⟩, ⟨rfl, rfl, rfl⟩, ⟨rfl, rfl, rfl⟩, trivial⟩) rfl rfl) rfl rfl (fun e => by first | exact .inl rfl | contradiction | exact .inr (.inl (by kernel_rfl))) ?_; conv => whnf) | (refine r_put (p_bin (b_rem (by omega) (by omega) (by omega) (by omega) rfl) rfl rfl rfl) rfl rfl ?_; conv => whnf) | (refine r_put (p_oidx (by simpa using hlt') rfl rfl rfl rfl rfl) rfl rfl ?_; conv => whnf) | (refine r_step (p_ostore (getA _ hlt') rfl rfl rfl rfl rfl rfl) rfl rfl (fun e => by first | exact .inl rfl | contradiction | exact .inr (.inl (by kernel_rfl))) ?_; conv => whnf) | (refine r_step (p_ostore (set_at (by simpa using hlt')) rfl rfl rfl rfl rfl rfl) rfl rfl (fun e => by first | exact .inl rfl | contradiction | exact .inr (.inl (by kernel_rfl))) ?_; conv => whnf))
      refine ⟨⟨k + 1, hlt⟩, ⟨⟨?_, trivial⟩, .inl ⟨rfl, rfl⟩, .inl ⟨?_, rfl⟩, .inl ⟨rfl, rfl⟩, trivial⟩, by simp; omega⟩
      · refine congrArg (fun x => some (OB.mk _ _ x)) (Eq.trans (fold_set4 _ _ _ _ _ _) (Eq.trans ?_ hset'))
        show _ = List.set _ k (refA (markR (k0 + 4 * k)))
        unfold markR; rw [hdz]; rfl
      · show AV.v (.int .i64 (k0 + 4 * k + 1 + 1 + 1 + 1)) = _
        congr 2
        simp; omega
    · have hdz : decide ((k0 + 4 * (k : Int) + 1 + 1 + 1) % 3 = 0) = false := decide_eq_false hz
      repeat (first | first | (refine r_put (p_bin (by first | exact b_lt_t (by omega) | exact b_lt_f (by omega) | exact b_le_t (by omega) | exact b_le_f (by omega) | exact b_gt_t (by omega) | exact b_gt_f (by omega) | exact b_ge_t (by omega) | exact b_ge_f (by omega) | exact b_eq_t (by omega) | exact b_eq_f (by omega) | exact b_ne_t (by omega) | exact b_ne_f (by omega) | exact b_sub rfl (by omega) (by omega) | exact b_add rfl (by omega) (by omega)) rfl rfl rfl) rfl rfl ?_; conv => whnf) | (refine r_put (p_idx (getA _ (by assumption)) rfl rfl rfl) rfl rfl ?_; conv => whnf) | (refine r_put (p_lenm rfl ⟨_, _, _, _, rfl⟩) rfl rfl ?_; conv => whnf) | (refine r_put (p_lenom rfl rfl ⟨_, _, _, _, rfl⟩) rfl rfl ?_; conv => whnf) | (refine r_put (p_len (y := .v (.string _)) rfl rfl rfl) rfl rfl ?_; conv => whnf) | (refine r_put (p_len rfl rfl ⟨_, _, _, _, rfl⟩) rfl rfl ?_; conv => whnf) | (refine .inl (And.intro (by kernel_rfl) ?_); conv => whnf) | (refine r_step (p_call (ac_markText (k := k0 + 4 * (k : Int)) (by omega) (by omega)) rfl (by first | exact .inl rfl | exact .inr ⟨by simp [flatA, flatL], by first | exact flat_o0 | exact flat_o1 (by first | exact flat_map flat_str _ | exact flat_map flat_ent _ | exact flat_map flat_edt _ | exact flat_map flat_ref _ | exact flat_map flat_int _ | exact flat_map flat_evt _) | exact flat_o2 (by first | exact flat_map flat_str _ | exact flat_map flat_ent _ | exact flat_map flat_edt _ | exact flat_map flat_ref _ | exact flat_map flat_int _ | exact flat_map flat_evt _) (by first | exact flat_map flat_str _ | exact flat_map flat_ent _ | exact flat_map flat_edt _ | exact flat_map flat_ref _ | exact flat_map flat_int _ | exact flat_map flat_evt _)⟩) (by first | exact trivial | exact ⟨⟨rfl, rfl, rfl⟩, trivial⟩ | exact ⟨⟨rfl, rfl, rfl⟩, ⟨rfl, rfl, rfl⟩, trivial⟩ | exact ⟨⟨rfl, rfl, rfl⟩, ⟨rfl, rfl, rfl⟩, ⟨rfl, rfl, rfl⟩, trivial⟩) rfl rfl) rfl rfl (fun e => by first | exact .inl rfl | contradiction | exact .inr (.inl (by kernel_rfl))) ?_; conv => whnf) | (refine r_put (p_bin (b_rem (by omega) (by omega) (by omega) (by omega) rfl) rfl rfl rfl) rfl rfl ?_; conv => whnf) | (refine r_put (p_oidx (by simpa using hlt') rfl rfl rfl rfl rfl) rfl rfl ?_; conv => whnf) | (refine r_step (p_ostore (getA _ hlt') rfl rfl rfl rfl rfl rfl) rfl rfl (fun e => by first | exact .inl rfl | contradiction | exact .inr (.inl (by kernel_rfl))) ?_; conv => whnf) | (refine r_step (p_ostore (set_at (by simpa using hlt')) rfl rfl rfl rfl rfl rfl) rfl rfl (fun e => by first | exact .inl rfl | contradiction | exact .inr (.inl (by kernel_rfl))) ?_; conv => whnf))
      refine ⟨⟨k + 1, hlt⟩, ⟨⟨?_, trivial⟩, .inl ⟨rfl, rfl⟩, .inl ⟨?_, rfl⟩, .inl ⟨rfl, rfl⟩, trivial⟩, by simp; omega⟩
      · refine congrArg (fun x => some (OB.mk _ _ x)) (Eq.trans (fold_set4 _ _ _ _ _ _) (Eq.trans ?_ hset'))
        show _ = List.set _ k (refA (markR (k0 + 4 * k)))
        unfold markR; rw [hdz]; rfl
      · show AV.v (.int .i64 (k0 + 4 * k + 1 + 1 + 1 + 1)) = _
        congr 2
        simp; omega
  · have hkk : k = l.length := by omega
    subst hkk
    repeat (first | first | (refine r_put (p_bin (by first | exact b_lt_t (by omega) | exact b_lt_f (by omega) | exact b_le_t (by omega) | exact b_le_f (by omega) | exact b_gt_t (by omega) | exact b_gt_f (by omega) | exact b_ge_t (by omega) | exact b_ge_f (by omega) | exact b_eq_t (by omega) | exact b_eq_f (by omega) | exact b_ne_t (by omega) | exact b_ne_f (by omega) | exact b_sub rfl (by omega) (by omega) | exact b_add rfl (by omega) (by omega)) rfl rfl rfl) rfl rfl ?_; conv => whnf) | (refine r_put (p_idx (getA _ (by assumption)) rfl rfl rfl) rfl rfl ?_; conv => whnf) | (refine r_put (p_lenm rfl ⟨_, _, _, _, rfl⟩) rfl rfl ?_; conv => whnf) | (refine r_put (p_lenom rfl rfl ⟨_, _, _, _, rfl⟩) rfl rfl ?_; conv => whnf) | (refine r_put (p_len (y := .v (.string _)) rfl rfl rfl) rfl rfl ?_; conv => whnf) | (refine r_put (p_len rfl rfl ⟨_, _, _, _, rfl⟩) rfl rfl ?_; conv => whnf) | (refine .inl (And.intro (by kernel_rfl) ?_); conv => whnf) | (rw [hml]))
    exact r_retM rfl (by show some (OB.mk _ _ _) = _; simp)
set_option maxHeartbeats 2000000 in
theorem ac_heldRefS {n : Nat} {k0 : Int} (hm : n ≤ 1048600) (h0 : 0 ≤ k0) (h1 : k0 ≤ 8388608) : AC Try.prog 68 [.lst 4 ((markedR n k0).map refA), .v (.int .i64 k0)] ⟨.v (.int .i64 (k0 + 4 * n)), []⟩ := by
  have hml := markedR_length n k0
  refine r_of Th_ok (by kernel_rfl) Try.func68 rfl Try.ntmps68 Try.results68 (by kernel_rfl) rfl ?_; conv => whnf
  refine r_loop (ι := { k : Nat // k ≤ n }) (fun k => ⟨[(0, .lst 4 ((markedR n k0).map refA)), (1, .v (.int .i64 (k0 + 4 * (k.1 : Int)))), (5, .v (.int .i64 (k.1 : Int)))], []⟩) (fun k => n - k.1) ⟨0, Nat.zero_le _⟩ (by
    refine ⟨trivial, .inl ⟨rfl, rfl⟩, .inl ⟨?_, rfl⟩, .inl ⟨rfl, rfl⟩, trivial⟩
    show AV.v (.int .i64 k0) = _
    simp) ?_
  rintro ⟨k, hk⟩
  dsimp only
  conv => whnf
  by_cases hlt : k < n
  · have hlt' : k < (markedR n k0).length := by omega
    have hg := markedR_get n k0 k hlt
    have hg1 : (markedR n k0)[k].name = markB (k0 + 4 * k) := by rw [hg]; rfl
    have hg2 : (markedR n k0)[k].head = k0 + 4 * k + 1 := by rw [hg]; rfl
    have hg3 : (markedR n k0)[k].ver = k0 + 4 * k + 1 + 1 := by rw [hg]; rfl
    have hg4 : (markedR n k0)[k].gone = decide ((k0 + 4 * (k : Int) + 1 + 1 + 1) % 3 = 0) := by rw [hg]; rfl
    by_cases hz : (k0 + 4 * (k : Int) + 1 + 1 + 1) % 3 = 0
    · rw [decide_eq_true hz] at hg4
      repeat (first | first | (refine r_put (p_bin (by first | exact b_lt_t (by omega) | exact b_lt_f (by omega) | exact b_le_t (by omega) | exact b_le_f (by omega) | exact b_gt_t (by omega) | exact b_gt_f (by omega) | exact b_ge_t (by omega) | exact b_ge_f (by omega) | exact b_eq_t (by omega) | exact b_eq_f (by omega) | exact b_ne_t (by omega) | exact b_ne_f (by omega) | exact b_sub rfl (by omega) (by omega) | exact b_add rfl (by omega) (by omega)) rfl rfl rfl) rfl rfl ?_; conv => whnf) | (refine r_put (p_idx (getA _ (by assumption)) rfl rfl rfl) rfl rfl ?_; conv => whnf) | (refine r_put (p_lenm rfl ⟨_, _, _, _, rfl⟩) rfl rfl ?_; conv => whnf) | (refine r_put (p_lenom rfl rfl ⟨_, _, _, _, rfl⟩) rfl rfl ?_; conv => whnf) | (refine r_put (p_len (y := .v (.string _)) rfl rfl rfl) rfl rfl ?_; conv => whnf) | (refine r_put (p_len rfl rfl ⟨_, _, _, _, rfl⟩) rfl rfl ?_; conv => whnf) | (refine .inl (And.intro (by kernel_rfl) ?_); conv => whnf) | (refine r_step (p_call (ac_markText (k := k0 + 4 * (k : Int)) (by omega) (by omega)) rfl (by first | exact .inl rfl | exact .inr ⟨by simp [flatA, flatL], by first | exact flat_o0 | exact flat_o1 (by first | exact flat_map flat_str _ | exact flat_map flat_ent _ | exact flat_map flat_edt _ | exact flat_map flat_ref _ | exact flat_map flat_int _ | exact flat_map flat_evt _) | exact flat_o2 (by first | exact flat_map flat_str _ | exact flat_map flat_ent _ | exact flat_map flat_edt _ | exact flat_map flat_ref _ | exact flat_map flat_int _ | exact flat_map flat_evt _) (by first | exact flat_map flat_str _ | exact flat_map flat_ent _ | exact flat_map flat_edt _ | exact flat_map flat_ref _ | exact flat_map flat_int _ | exact flat_map flat_evt _)⟩) (by first | exact trivial | exact ⟨⟨rfl, rfl, rfl⟩, trivial⟩ | exact ⟨⟨rfl, rfl, rfl⟩, ⟨rfl, rfl, rfl⟩, trivial⟩ | exact ⟨⟨rfl, rfl, rfl⟩, ⟨rfl, rfl, rfl⟩, ⟨rfl, rfl, rfl⟩, trivial⟩) rfl rfl) rfl rfl (fun e => by first | exact .inl rfl | contradiction | exact .inr (.inl (by kernel_rfl))) ?_; conv => whnf) | (refine r_put (p_bin (b_sne_f hg1) rfl rfl rfl) rfl rfl ?_; conv => whnf) | (refine r_put (p_bin (b_rem (by omega) (by omega) (by omega) (by omega) rfl) rfl rfl rfl) rfl rfl ?_; conv => whnf) | (rw [hg4]; conv => whnf) | (refine r_put (p_bin (b_bne Try.underlying4) rfl rfl rfl) rfl rfl ?_; rw [hg4]; conv => whnf) | (refine r_put (p_bin (b_bne Try.underlying4) rfl rfl rfl) rfl rfl ?_; conv => whnf))
      refine ⟨⟨k + 1, hlt⟩, ⟨trivial, .inl ⟨rfl, rfl⟩, .inl ⟨?_, rfl⟩, .inl ⟨rfl, rfl⟩, trivial⟩, by simp; omega⟩
      show AV.v (.int .i64 (k0 + 4 * k + 1 + 1 + 1 + 1)) = _
      congr 2
      simp; omega
    · rw [decide_eq_false hz] at hg4
      repeat (first | first | (refine r_put (p_bin (by first | exact b_lt_t (by omega) | exact b_lt_f (by omega) | exact b_le_t (by omega) | exact b_le_f (by omega) | exact b_gt_t (by omega) | exact b_gt_f (by omega) | exact b_ge_t (by omega) | exact b_ge_f (by omega) | exact b_eq_t (by omega) | exact b_eq_f (by omega) | exact b_ne_t (by omega) | exact b_ne_f (by omega) | exact b_sub rfl (by omega) (by omega) | exact b_add rfl (by omega) (by omega)) rfl rfl rfl) rfl rfl ?_; conv => whnf) | (refine r_put (p_idx (getA _ (by assumption)) rfl rfl rfl) rfl rfl ?_; conv => whnf) | (refine r_put (p_lenm rfl ⟨_, _, _, _, rfl⟩) rfl rfl ?_; conv => whnf) | (refine r_put (p_lenom rfl rfl ⟨_, _, _, _, rfl⟩) rfl rfl ?_; conv => whnf) | (refine r_put (p_len (y := .v (.string _)) rfl rfl rfl) rfl rfl ?_; conv => whnf) | (refine r_put (p_len rfl rfl ⟨_, _, _, _, rfl⟩) rfl rfl ?_; conv => whnf) | (refine .inl (And.intro (by kernel_rfl) ?_); conv => whnf) | (refine r_step (p_call (ac_markText (k := k0 + 4 * (k : Int)) (by omega) (by omega)) rfl (by first | exact .inl rfl | exact .inr ⟨by simp [flatA, flatL], by first | exact flat_o0 | exact flat_o1 (by first | exact flat_map flat_str _ | exact flat_map flat_ent _ | exact flat_map flat_edt _ | exact flat_map flat_ref _ | exact flat_map flat_int _ | exact flat_map flat_evt _) | exact flat_o2 (by first | exact flat_map flat_str _ | exact flat_map flat_ent _ | exact flat_map flat_edt _ | exact flat_map flat_ref _ | exact flat_map flat_int _ | exact flat_map flat_evt _) (by first | exact flat_map flat_str _ | exact flat_map flat_ent _ | exact flat_map flat_edt _ | exact flat_map flat_ref _ | exact flat_map flat_int _ | exact flat_map flat_evt _)⟩) (by first | exact trivial | exact ⟨⟨rfl, rfl, rfl⟩, trivial⟩ | exact ⟨⟨rfl, rfl, rfl⟩, ⟨rfl, rfl, rfl⟩, trivial⟩ | exact ⟨⟨rfl, rfl, rfl⟩, ⟨rfl, rfl, rfl⟩, ⟨rfl, rfl, rfl⟩, trivial⟩) rfl rfl) rfl rfl (fun e => by first | exact .inl rfl | contradiction | exact .inr (.inl (by kernel_rfl))) ?_; conv => whnf) | (refine r_put (p_bin (b_sne_f hg1) rfl rfl rfl) rfl rfl ?_; conv => whnf) | (refine r_put (p_bin (b_rem (by omega) (by omega) (by omega) (by omega) rfl) rfl rfl rfl) rfl rfl ?_; conv => whnf) | (rw [hg4]; conv => whnf) | (refine r_put (p_bin (b_bne Try.underlying4) rfl rfl rfl) rfl rfl ?_; rw [hg4]; conv => whnf) | (refine r_put (p_bin (b_bne Try.underlying4) rfl rfl rfl) rfl rfl ?_; conv => whnf))
      refine ⟨⟨k + 1, hlt⟩, ⟨trivial, .inl ⟨rfl, rfl⟩, .inl ⟨?_, rfl⟩, .inl ⟨rfl, rfl⟩, trivial⟩, by simp; omega⟩
      show AV.v (.int .i64 (k0 + 4 * k + 1 + 1 + 1 + 1)) = _
      congr 2
      simp; omega
  · have hkk : k = n := by omega
    subst hkk
    repeat (first | first | (refine r_put (p_bin (by first | exact b_lt_t (by omega) | exact b_lt_f (by omega) | exact b_le_t (by omega) | exact b_le_f (by omega) | exact b_gt_t (by omega) | exact b_gt_f (by omega) | exact b_ge_t (by omega) | exact b_ge_f (by omega) | exact b_eq_t (by omega) | exact b_eq_f (by omega) | exact b_ne_t (by omega) | exact b_ne_f (by omega) | exact b_sub rfl (by omega) (by omega) | exact b_add rfl (by omega) (by omega)) rfl rfl rfl) rfl rfl ?_; conv => whnf) | (refine r_put (p_idx (getA _ (by assumption)) rfl rfl rfl) rfl rfl ?_; conv => whnf) | (refine r_put (p_lenm rfl ⟨_, _, _, _, rfl⟩) rfl rfl ?_; conv => whnf) | (refine r_put (p_lenom rfl rfl ⟨_, _, _, _, rfl⟩) rfl rfl ?_; conv => whnf) | (refine r_put (p_len (y := .v (.string _)) rfl rfl rfl) rfl rfl ?_; conv => whnf) | (refine r_put (p_len rfl rfl ⟨_, _, _, _, rfl⟩) rfl rfl ?_; conv => whnf) | (refine .inl (And.intro (by kernel_rfl) ?_); conv => whnf) | (rw [hml]))
    exact r_ret1 rfl trivial
end Go.Proofs.Ytnlobdhkpmeniaa.AM
