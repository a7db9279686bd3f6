/- The laws' helpers over data: lists of strings compared, marked, held; edits' sizes. -/
import Derived.Test.YtnkceemdnefomaaA1
namespace Go.Proofs.Ytnkceemdnefomaa.AM
open Go Go.RowKit
set_option linter.unusedVariables false
set_option maxRecDepth 100000

section
variable {P : Program} {t : TypeId} {x y : Operand} {a b : ByteArray}
theorem b_sne_t (h : a ≠ b) : BinOK P .neq t x y (.string a) (.string b) (.bool true) := b_str fun w => by simp [Op.stringOp, toList_beq, h]
theorem b_sne_f (h : a = b) : BinOK P .neq t x y (.string a) (.string b) (.bool false) := b_str fun w => by simp [Op.stringOp, h]
theorem b_seq_t (h : a = b) : BinOK P .eql t x y (.string a) (.string b) (.bool true) := b_str fun w => by simp [Op.stringOp, h]
theorem b_seq_f (h : a ≠ b) : BinOK P .eql t x y (.string a) (.string b) (.bool false) := b_str fun w => by simp [Op.stringOp, toList_beq, h]
end
attribute [local irreducible] ACode AOps RetG RetM Pre ACG

theorem ac_eqStringS {l : List ByteArray} (hm : l.length ≤ maxLen) : AC Try.prog 33 [.lst 1 (l.map strA), .lst 1 (l.map strA)] ⟨.v (.bool true), []⟩ := by
  unfold maxLen at hm
  refine r_of Th_ok (by kernel_rfl) Try.func33 rfl Try.ntmps33 Try.results33 (by kernel_rfl) rfl ?_; conv => whnf
  repeat (first | (refine r_put (p_bin (by first | exact b_lt_t (by omega) | exact b_lt_f (by omega) | exact b_le_t (by omega) | exact b_le_f (by omega) | exact b_gt_t (by omega) | exact b_gt_f (by omega) | exact b_ge_t (by omega) | exact b_ge_f (by omega) | exact b_eq_t (by omega) | exact b_eq_f (by omega) | exact b_ne_t (by omega) | exact b_ne_f (by omega) | exact b_sub rfl (by omega) (by omega) | exact b_add rfl (by omega) (by omega)) rfl rfl rfl) rfl rfl ?_; conv => whnf) | (refine r_put (p_idx (getA _ (by assumption)) rfl rfl rfl) rfl rfl ?_; conv => whnf) | (refine r_put (p_lenm rfl ⟨_, _, _, _, rfl⟩) rfl rfl ?_; conv => whnf) | (refine r_put (p_lenom rfl rfl ⟨_, _, _, _, rfl⟩) rfl rfl ?_; conv => whnf) | (refine r_put (p_len (y := .v (.string _)) rfl rfl rfl) rfl rfl ?_; conv => whnf) | (refine r_put (p_len rfl rfl ⟨_, _, _, _, rfl⟩) rfl rfl ?_; conv => whnf))
  refine r_loop (ι := { k : Nat // k ≤ l.length }) (fun k => ⟨[(0, .lst 1 (l.map strA)), (1, .lst 1 (l.map strA)), (5, .v (.int .i64 (k.1 : Int)))], []⟩) (fun k => l.length - k.1) ⟨0, Nat.zero_le _⟩ (by refine ⟨?_, ?_⟩ <;> (repeat (first | trivial | exact ⟨rfl, trivial⟩ | refine ⟨rfl, ?_⟩ | refine ⟨.inl ⟨rfl, rfl⟩, ?_⟩ | refine ⟨.inr ⟨_, _, rfl, rfl, rfl, rfl, rfl⟩, ?_⟩))) ?_
  rintro ⟨k, hk⟩
  dsimp only
  conv => whnf
  by_cases hlt : k < l.length
  · repeat (first | (refine r_put (p_bin (by first | exact b_lt_t (by omega) | exact b_lt_f (by omega) | exact b_le_t (by omega) | exact b_le_f (by omega) | exact b_gt_t (by omega) | exact b_gt_f (by omega) | exact b_ge_t (by omega) | exact b_ge_f (by omega) | exact b_eq_t (by omega) | exact b_eq_f (by omega) | exact b_ne_t (by omega) | exact b_ne_f (by omega) | exact b_sub rfl (by omega) (by omega) | exact b_add rfl (by omega) (by omega)) rfl rfl rfl) rfl rfl ?_; conv => whnf) | (refine r_put (p_idx (getA _ (by assumption)) rfl rfl rfl) rfl rfl ?_; conv => whnf) | (refine r_put (p_lenm rfl ⟨_, _, _, _, rfl⟩) rfl rfl ?_; conv => whnf) | (refine r_put (p_lenom rfl rfl ⟨_, _, _, _, rfl⟩) rfl rfl ?_; conv => whnf) | (refine r_put (p_len (y := .v (.string _)) rfl rfl rfl) rfl rfl ?_; conv => whnf) | (refine r_put (p_len rfl rfl ⟨_, _, _, _, rfl⟩) rfl rfl ?_; conv => whnf))
    refine ⟨by kernel_rfl, ?_⟩
    conv => whnf
    repeat (first | first | (refine r_put (p_bin (by first | exact b_lt_t (by omega) | exact b_lt_f (by omega) | exact b_le_t (by omega) | exact b_le_f (by omega) | exact b_gt_t (by omega) | exact b_gt_f (by omega) | exact b_ge_t (by omega) | exact b_ge_f (by omega) | exact b_eq_t (by omega) | exact b_eq_f (by omega) | exact b_ne_t (by omega) | exact b_ne_f (by omega) | exact b_sub rfl (by omega) (by omega) | exact b_add rfl (by omega) (by omega)) rfl rfl rfl) rfl rfl ?_; conv => whnf) | (refine r_put (p_idx (getA _ (by assumption)) rfl rfl rfl) rfl rfl ?_; conv => whnf) | (refine r_put (p_lenm rfl ⟨_, _, _, _, rfl⟩) rfl rfl ?_; conv => whnf) | (refine r_put (p_lenom rfl rfl ⟨_, _, _, _, rfl⟩) rfl rfl ?_; conv => whnf) | (refine r_put (p_len (y := .v (.string _)) rfl rfl rfl) rfl rfl ?_; conv => whnf) | (refine r_put (p_len rfl rfl ⟨_, _, _, _, rfl⟩) rfl rfl ?_; conv => whnf) | (refine r_put (p_bin (b_sne_f rfl) rfl rfl rfl) rfl rfl ?_; conv => whnf))
    exact ⟨⟨k + 1, hlt⟩, by refine ⟨?_, ?_⟩ <;> (repeat (first | trivial | exact ⟨rfl, trivial⟩ | refine ⟨rfl, ?_⟩ | refine ⟨.inl ⟨rfl, rfl⟩, ?_⟩ | refine ⟨.inr ⟨_, _, rfl, rfl, rfl, rfl, rfl⟩, ?_⟩)), by simp; omega⟩
  · repeat (first | (refine r_put (p_bin (by first | exact b_lt_t (by omega) | exact b_lt_f (by omega) | exact b_le_t (by omega) | exact b_le_f (by omega) | exact b_gt_t (by omega) | exact b_gt_f (by omega) | exact b_ge_t (by omega) | exact b_ge_f (by omega) | exact b_eq_t (by omega) | exact b_eq_f (by omega) | exact b_ne_t (by omega) | exact b_ne_f (by omega) | exact b_sub rfl (by omega) (by omega) | exact b_add rfl (by omega) (by omega)) rfl rfl rfl) rfl rfl ?_; conv => whnf) | (refine r_put (p_idx (getA _ (by assumption)) rfl rfl rfl) rfl rfl ?_; conv => whnf) | (refine r_put (p_lenm rfl ⟨_, _, _, _, rfl⟩) rfl rfl ?_; conv => whnf) | (refine r_put (p_lenom rfl rfl ⟨_, _, _, _, rfl⟩) rfl rfl ?_; conv => whnf) | (refine r_put (p_len (y := .v (.string _)) rfl rfl rfl) rfl rfl ?_; conv => whnf) | (refine r_put (p_len rfl rfl ⟨_, _, _, _, rfl⟩) rfl rfl ?_; conv => whnf))
    exact r_ret1 rfl trivial

def markedS : Nat → Int → List ByteArray
  | 0, _ => []
  | n + 1, k => markB k :: markedS n (k + 1)
theorem markedS_length : ∀ (n : Nat) (k : Int), (markedS n k).length = n
  | 0, _ => rfl
  | n + 1, k => by simp [markedS, markedS_length n (k + 1)]
theorem markedS_get : ∀ (n : Nat) (k0 : Int) (k : Nat) (h : k < n), (markedS n k0)[k]'(by rw [markedS_length]; exact h) = markB (k0 + k)
  | n + 1, k0, 0, h => by simp [markedS]
  | n + 1, k0, k + 1, h => by
    have := markedS_get n (k0 + 1) k (by omega)
    simp only [markedS, List.getElem_cons_succ]
    rw [this]; congr 1; omega
theorem markedS_snoc : ∀ (n : Nat) (k : Int), markedS (n + 1) k = markedS n k ++ [markB (k + n)]
  | 0, k => by simp [markedS]
  | n + 1, k => by
    rw [markedS, markedS_snoc n (k + 1), markedS]
    have e : k + 1 + (n : Int) = k + ((n + 1 : Nat) : Int) := by omega
    rw [e]; rfl

theorem ac_markStringS {l : List ByteArray} {k0 : Int} (hm : l.length ≤ 1048600) (h0 : 0 ≤ k0) (h1 : k0 ≤ 8388608) : ACM Try.prog 34 ⟨9, 1, l.map strA⟩ ((markedS l.length k0).map strA) [.v (.int .i64 k0)] (.int .i64 (k0 + l.length)) := by
  refine r_ofM Th_ok (by kernel_rfl) Try.func34 rfl Try.ntmps34 Try.results34 (by kernel_rfl) rfl ?_ ?_
  · exact flat_map flat_str _
  conv => whnf
  refine r_loop (ι := { k : Nat // k ≤ l.length }) (fun k => ⟨[(0, .own 0), (1, .v (.int .i64 (k0 + (k.1 : Int)))), (5, .v (.int .i64 (k.1 : Int)))], [(0, ⟨9, 1, (markedS k.1 k0 ++ l.drop k.1).map strA⟩)]⟩) (fun k => l.length - k.1) ⟨0, Nat.zero_le _⟩ (by
    refine ⟨⟨rfl, trivial⟩, .inl ⟨rfl, rfl⟩, .inl ⟨?_, rfl⟩, .inl ⟨rfl, rfl⟩, trivial⟩
    show AV.v (.int .i64 k0) = _
    simp) ?_
  rintro ⟨k, hk⟩
  dsimp only
  have hml : (markedS k k0 ++ l.drop k).length = l.length := by simp [markedS_length]; omega
  conv => whnf
  by_cases hlt : k < l.length
  · have hlt' : k < (markedS k k0 ++ l.drop k).length := by omega
    have hset : (markedS k k0 ++ l.drop k).set k (markB (k0 + k)) = markedS (k + 1) k0 ++ l.drop (k + 1) := by
      rw [List.set_append_right _ _ (by rw [markedS_length]; exact Nat.le_refl _), markedS_length, Nat.sub_self, List.drop_eq_getElem_cons hlt, List.set_cons_zero, markedS_snoc, List.append_assoc]; rfl
    have hset' : ((markedS k k0 ++ l.drop k).map strA).set k (strA (markB (k0 + k))) = (markedS (k + 1) k0 ++ l.drop (k + 1)).map strA := by rw [← List.map_set, hset]
    repeat (first | first | (refine r_put (p_bin (by first | exact b_lt_t (by omega) | exact b_lt_f (by omega) | exact b_le_t (by omega) | exact b_le_f (by omega) | exact b_gt_t (by omega) | exact b_gt_f (by omega) | exact b_ge_t (by omega) | exact b_ge_f (by omega) | exact b_eq_t (by omega) | exact b_eq_f (by omega) | exact b_ne_t (by omega) | exact b_ne_f (by omega) | exact b_sub rfl (by omega) (by omega) | exact b_add rfl (by omega) (by omega)) rfl rfl rfl) rfl rfl ?_; conv => whnf) | (refine r_put (p_idx (getA _ (by assumption)) rfl rfl rfl) rfl rfl ?_; conv => whnf) | (refine r_put (p_lenm rfl ⟨_, _, _, _, rfl⟩) rfl rfl ?_; conv => whnf) | (refine r_put (p_lenom rfl rfl ⟨_, _, _, _, rfl⟩) rfl rfl ?_; conv => whnf) | (refine r_put (p_len (y := .v (.string _)) rfl rfl rfl) rfl rfl ?_; conv => whnf) | (refine r_put (p_len rfl rfl ⟨_, _, _, _, rfl⟩) rfl rfl ?_; conv => whnf) | (refine r_put (p_call (ac_markText (by omega) (by omega)) rfl (.inl rfl) trivial rfl rfl) rfl rfl ?_; conv => whnf) | (refine r_put (p_oidx (by simpa using hlt') rfl rfl rfl rfl rfl) rfl rfl ?_; conv => whnf) | (refine r_step (p_ostore (getA _ hlt') rfl rfl rfl rfl rfl rfl) rfl rfl (fun e => by cases e) ?_; conv => whnf))
    refine ⟨⟨k + 1, hlt⟩, ⟨⟨?_, trivial⟩, .inl ⟨rfl, rfl⟩, .inl ⟨?_, rfl⟩, .inl ⟨rfl, rfl⟩, trivial⟩, by simp; omega⟩
    · exact congrArg (fun x => some (OB.mk _ _ x)) hset'
    · show AV.v (.int .i64 (k0 + k + 1)) = _
      congr 2
      simp; omega
  · have hkk : k = l.length := by omega
    subst hkk
    repeat (first | first | (refine r_put (p_bin (by first | exact b_lt_t (by omega) | exact b_lt_f (by omega) | exact b_le_t (by omega) | exact b_le_f (by omega) | exact b_gt_t (by omega) | exact b_gt_f (by omega) | exact b_ge_t (by omega) | exact b_ge_f (by omega) | exact b_eq_t (by omega) | exact b_eq_f (by omega) | exact b_ne_t (by omega) | exact b_ne_f (by omega) | exact b_sub rfl (by omega) (by omega) | exact b_add rfl (by omega) (by omega)) rfl rfl rfl) rfl rfl ?_; conv => whnf) | (refine r_put (p_idx (getA _ (by assumption)) rfl rfl rfl) rfl rfl ?_; conv => whnf) | (refine r_put (p_lenm rfl ⟨_, _, _, _, rfl⟩) rfl rfl ?_; conv => whnf) | (refine r_put (p_lenom rfl rfl ⟨_, _, _, _, rfl⟩) rfl rfl ?_; conv => whnf) | (refine r_put (p_len (y := .v (.string _)) rfl rfl rfl) rfl rfl ?_; conv => whnf) | (refine r_put (p_len rfl rfl ⟨_, _, _, _, rfl⟩) rfl rfl ?_; conv => whnf) | (rw [hml]))
    exact r_retM rfl (by show some (OB.mk _ _ _) = _; simp)

theorem ac_heldStringS {n : Nat} {k0 : Int} (hm : n ≤ 1048600) (h0 : 0 ≤ k0) (h1 : k0 ≤ 8388608) : AC Try.prog 35 [.lst 1 ((markedS n k0).map strA), .v (.int .i64 k0)] ⟨.v (.int .i64 (k0 + n)), []⟩ := by
  have hml := markedS_length n k0
  refine r_of Th_ok (by kernel_rfl) Try.func35 rfl Try.ntmps35 Try.results35 (by kernel_rfl) rfl ?_; conv => whnf
  refine r_loop (ι := { k : Nat // k ≤ n }) (fun k => ⟨[(0, .lst 1 ((markedS n k0).map strA)), (1, .v (.int .i64 (k0 + (k.1 : Int)))), (5, .v (.int .i64 (k.1 : Int)))], []⟩) (fun k => n - k.1) ⟨0, Nat.zero_le _⟩ (by
    refine ⟨trivial, .inl ⟨rfl, rfl⟩, .inl ⟨?_, rfl⟩, .inl ⟨rfl, rfl⟩, trivial⟩
    show AV.v (.int .i64 k0) = _
    simp) ?_
  rintro ⟨k, hk⟩
  dsimp only
  conv => whnf
  by_cases hlt : k < n
  · have hlt' : k < (markedS n k0).length := by omega
    have hg := markedS_get n k0 k hlt
    repeat (first | (refine r_put (p_bin (by first | exact b_lt_t (by omega) | exact b_lt_f (by omega) | exact b_le_t (by omega) | exact b_le_f (by omega) | exact b_gt_t (by omega) | exact b_gt_f (by omega) | exact b_ge_t (by omega) | exact b_ge_f (by omega) | exact b_eq_t (by omega) | exact b_eq_f (by omega) | exact b_ne_t (by omega) | exact b_ne_f (by omega) | exact b_sub rfl (by omega) (by omega) | exact b_add rfl (by omega) (by omega)) rfl rfl rfl) rfl rfl ?_; conv => whnf) | (refine r_put (p_idx (getA _ (by assumption)) rfl rfl rfl) rfl rfl ?_; conv => whnf) | (refine r_put (p_lenm rfl ⟨_, _, _, _, rfl⟩) rfl rfl ?_; conv => whnf) | (refine r_put (p_lenom rfl rfl ⟨_, _, _, _, rfl⟩) rfl rfl ?_; conv => whnf) | (refine r_put (p_len (y := .v (.string _)) rfl rfl rfl) rfl rfl ?_; conv => whnf) | (refine r_put (p_len rfl rfl ⟨_, _, _, _, rfl⟩) rfl rfl ?_; conv => whnf))
    refine ⟨by kernel_rfl, ?_⟩
    conv => whnf
    repeat (first | first | (refine r_put (p_bin (by first | exact b_lt_t (by omega) | exact b_lt_f (by omega) | exact b_le_t (by omega) | exact b_le_f (by omega) | exact b_gt_t (by omega) | exact b_gt_f (by omega) | exact b_ge_t (by omega) | exact b_ge_f (by omega) | exact b_eq_t (by omega) | exact b_eq_f (by omega) | exact b_ne_t (by omega) | exact b_ne_f (by omega) | exact b_sub rfl (by omega) (by omega) | exact b_add rfl (by omega) (by omega)) rfl rfl rfl) rfl rfl ?_; conv => whnf) | (refine r_put (p_idx (getA _ (by assumption)) rfl rfl rfl) rfl rfl ?_; conv => whnf) | (refine r_put (p_lenm rfl ⟨_, _, _, _, rfl⟩) rfl rfl ?_; conv => whnf) | (refine r_put (p_lenom rfl rfl ⟨_, _, _, _, rfl⟩) rfl rfl ?_; conv => whnf) | (refine r_put (p_len (y := .v (.string _)) rfl rfl rfl) rfl rfl ?_; conv => whnf) | (refine r_put (p_len rfl rfl ⟨_, _, _, _, rfl⟩) rfl rfl ?_; conv => whnf) | (refine r_put (p_call (ac_markText (by omega) (by omega)) rfl (.inl rfl) trivial rfl rfl) rfl rfl ?_; conv => whnf) | (refine r_put (p_bin (b_sne_f hg) rfl rfl rfl) rfl rfl ?_; conv => whnf))
    refine ⟨⟨k + 1, hlt⟩, ⟨trivial, .inl ⟨rfl, rfl⟩, .inl ⟨?_, rfl⟩, .inl ⟨rfl, rfl⟩, trivial⟩, by simp; omega⟩
    show AV.v (.int .i64 (k0 + k + 1)) = _
    congr 2
    simp; omega
  · have hkk : k = n := by omega
    subst hkk
    repeat (first | first | (refine r_put (p_bin (by first | exact b_lt_t (by omega) | exact b_lt_f (by omega) | exact b_le_t (by omega) | exact b_le_f (by omega) | exact b_gt_t (by omega) | exact b_gt_f (by omega) | exact b_ge_t (by omega) | exact b_ge_f (by omega) | exact b_eq_t (by omega) | exact b_eq_f (by omega) | exact b_ne_t (by omega) | exact b_ne_f (by omega) | exact b_sub rfl (by omega) (by omega) | exact b_add rfl (by omega) (by omega)) rfl rfl rfl) rfl rfl ?_; conv => whnf) | (refine r_put (p_idx (getA _ (by assumption)) rfl rfl rfl) rfl rfl ?_; conv => whnf) | (refine r_put (p_lenm rfl ⟨_, _, _, _, rfl⟩) rfl rfl ?_; conv => whnf) | (refine r_put (p_lenom rfl rfl ⟨_, _, _, _, rfl⟩) rfl rfl ?_; conv => whnf) | (refine r_put (p_len (y := .v (.string _)) rfl rfl rfl) rfl rfl ?_; conv => whnf) | (refine r_put (p_len rfl rfl ⟨_, _, _, _, rfl⟩) rfl rfl ?_; conv => whnf) | (rw [hml]))
    exact r_ret1 rfl trivial

end Go.Proofs.Ytnkceemdnefomaa.AM
