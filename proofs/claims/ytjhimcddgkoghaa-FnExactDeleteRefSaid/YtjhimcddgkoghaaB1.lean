/- Chapter 3 over data: keys of edits; Changed. -/
import Derived.Test.YtjhimcddgkoghaaA2
import Derived.Test.YtjhimcddgkoghaaI8
namespace Go.Proofs.Ytjhimcddgkoghaa.AM
open Go Go.RowKit
set_option linter.unusedVariables false
set_option linter.unusedSimpArgs false
set_option maxRecDepth 100000
attribute [local irreducible] ACode AOps AOps2 RetG RetM Pre ACG
def keysL (es : List Edt) : List ByteArray := es.map fun e => e.key
theorem keysL_snoc (es : List Edt) (k : Nat) (h : k < es.length) : keysL (es.take k) ++ [es[k].key] = keysL (es.take (k + 1)) := by
  unfold keysL
  rw [List.take_succ_eq_append_getElem h, List.map_append]; rfl
theorem keysL_length (es : List Edt) : (keysL es).length = es.length := by simp [keysL]

theorem ac_l02Keys {es : List Edt} (hm : es.length ≤ 1048576) : AC Try.prog 170 [.lst 3 (es.map edtA)] ⟨.own 0, [⟨9, 1, (keysL es).map strA⟩]⟩ := by
  refine r_of Th_ok (by kernel_rfl) Try.func170 rfl Try.ntmps170 Try.results170 (by kernel_rfl) rfl ?_; conv => whnf
  refine r_loop (ι := { k : Nat // k ≤ es.length }) (fun k => ⟨[(0, .lst 3 (es.map edtA)), (3, .own 6), (4, .v (.int .i64 (k.1 : Int)))], [(6, ⟨9, 1, (keysL (es.take k.1)).map strA⟩)]⟩) (fun k => es.length - k.1) ⟨0, Nat.zero_le _⟩ (by refine ⟨?_, ?_⟩ <;> (repeat (first | trivial | exact ⟨rfl, trivial⟩ | refine ⟨rfl, ?_⟩ | refine ⟨.inl ⟨rfl, rfl⟩, ?_⟩ | refine ⟨.inr ⟨_, _, rfl, rfl, rfl, rfl, rfl⟩, ?_⟩))) ?_
  rintro ⟨k, hk⟩
  dsimp only
  conv => whnf
  by_cases hlt : k < es.length
  · repeat (first | (refine r_put (p_bin (by first | exact b_lt_t (by omega) | exact b_lt_f (by omega) | exact b_le_t (by omega) | exact b_le_f (by omega) | exact b_gt_t (by omega) | exact b_gt_f (by omega) | exact b_ge_t (by omega) | exact b_ge_f (by omega) | exact b_eq_t (by omega) | exact b_eq_f (by omega) | exact b_ne_t (by omega) | exact b_ne_f (by omega) | exact b_sub rfl (by omega) (by omega) | exact b_add rfl (by omega) (by omega)) rfl rfl rfl) rfl rfl ?_; conv => whnf) | (refine r_put (p_idx (getA _ (by assumption)) rfl rfl rfl) rfl rfl ?_; conv => whnf) | (refine r_put (p_lenm rfl ⟨_, _, _, _, rfl⟩) rfl rfl ?_; conv => whnf) | (refine r_put (p_lenom rfl rfl ⟨_, _, _, _, rfl⟩) rfl rfl ?_; conv => whnf) | (refine r_put (p_len (y := .v (.string _)) rfl rfl rfl) rfl rfl ?_; conv => whnf) | (refine r_put (p_len rfl rfl ⟨_, _, _, _, rfl⟩) rfl rfl ?_; conv => whnf))
    refine r_step (p_app1r _ _ (keysL_snoc es k hlt) (by rw [keysL_length, List.length_take]; omega) rfl rfl rfl rfl rfl rfl rfl) rfl rfl (fun e => by cases e) ?_
    conv => whnf
    repeat (first | (refine r_put (p_bin (by first | exact b_lt_t (by omega) | exact b_lt_f (by omega) | exact b_le_t (by omega) | exact b_le_f (by omega) | exact b_gt_t (by omega) | exact b_gt_f (by omega) | exact b_ge_t (by omega) | exact b_ge_f (by omega) | exact b_eq_t (by omega) | exact b_eq_f (by omega) | exact b_ne_t (by omega) | exact b_ne_f (by omega) | exact b_sub rfl (by omega) (by omega) | exact b_add rfl (by omega) (by omega)) rfl rfl rfl) rfl rfl ?_; conv => whnf) | (refine r_put (p_idx (getA _ (by assumption)) rfl rfl rfl) rfl rfl ?_; conv => whnf) | (refine r_put (p_lenm rfl ⟨_, _, _, _, rfl⟩) rfl rfl ?_; conv => whnf) | (refine r_put (p_lenom rfl rfl ⟨_, _, _, _, rfl⟩) rfl rfl ?_; conv => whnf) | (refine r_put (p_len (y := .v (.string _)) rfl rfl rfl) rfl rfl ?_; conv => whnf) | (refine r_put (p_len rfl rfl ⟨_, _, _, _, rfl⟩) rfl rfl ?_; conv => whnf))
    exact ⟨⟨k + 1, hlt⟩, by refine ⟨?_, ?_⟩ <;> (repeat (first | trivial | exact ⟨rfl, trivial⟩ | refine ⟨rfl, ?_⟩ | refine ⟨.inl ⟨rfl, rfl⟩, ?_⟩ | refine ⟨.inr ⟨_, _, rfl, rfl, rfl, rfl, rfl⟩, ?_⟩)), by simp; omega⟩
  · repeat (first | (refine r_put (p_bin (by first | exact b_lt_t (by omega) | exact b_lt_f (by omega) | exact b_le_t (by omega) | exact b_le_f (by omega) | exact b_gt_t (by omega) | exact b_gt_f (by omega) | exact b_ge_t (by omega) | exact b_ge_f (by omega) | exact b_eq_t (by omega) | exact b_eq_f (by omega) | exact b_ne_t (by omega) | exact b_ne_f (by omega) | exact b_sub rfl (by omega) (by omega) | exact b_add rfl (by omega) (by omega)) rfl rfl rfl) rfl rfl ?_; conv => whnf) | (refine r_put (p_idx (getA _ (by assumption)) rfl rfl rfl) rfl rfl ?_; conv => whnf) | (refine r_put (p_lenm rfl ⟨_, _, _, _, rfl⟩) rfl rfl ?_; conv => whnf) | (refine r_put (p_lenom rfl rfl ⟨_, _, _, _, rfl⟩) rfl rfl ?_; conv => whnf) | (refine r_put (p_len (y := .v (.string _)) rfl rfl rfl) rfl rfl ?_; conv => whnf) | (refine r_put (p_len rfl rfl ⟨_, _, _, _, rfl⟩) rfl rfl ?_; conv => whnf))
    have hkk : k = es.length := by omega
    subst hkk
    exact r_own1 rfl (by show some (OB.mk _ _ _) = _; rw [List.take_length])

def changedR (a b : List Ent) : List ByteArray × Int := (keysL (diffR a b).1, (diffR a b).2)
theorem diffL_le (f : Nat) (a b : List Ent) : (diffL f a b).length ≤ a.length + b.length := by
  induction f generalizing a b with
  | zero => simp [diffL]
  | succ f ih =>
    match a, b with
    | [], [] => simp [diffL]
    | x :: a, [] =>
      have := ih a []
      simp only [diffL, List.length_cons]; simp at *; omega
    | [], y :: b =>
      have := ih [] b
      simp only [diffL, List.length_cons]; simp at *; omega
    | x :: a, y :: b =>
      rw [diffL]
      split
      · have := ih a (y :: b); simp at *; omega
      · split
        · have := ih (x :: a) b; simp at *; omega
        · have := ih a b
          split <;> simp at * <;> omega
theorem diffM_len (a b : List Ent) : (diffM a b).length ≤ a.length + b.length := by
  unfold diffM; exact diffL_le _ _ _
theorem diffR_le (a b : List Ent) : (diffR a b).1.length ≤ 8192 := by
  unfold diffR
  split
  · simp
  · split
    · have := diffM_len a b
      show (diffM a b).length ≤ 8192
      omega
    · simp
theorem ac_sChanged {a b : List Ent} (hm : a.length ≤ 1048576) (hm' : b.length ≤ 1048576) (hk : ∀ e ∈ a, e.1.size ≤ maxLen) (hk' : ∀ e ∈ b, e.1.size ≤ maxLen) : AC Try.prog 63 [.lst 2 (a.map entA), .lst 2 (b.map entA)] ⟨.tup [.own 0, .v (.int .i64 (changedR a b).2)], [⟨9, 1, (changedR a b).1.map strA⟩]⟩ := by
  have hml : a.length ≤ maxLen := by unfold maxLen; omega
  have hml' : b.length ≤ maxLen := by unfold maxLen; omega
  unfold changedR
  refine r_of Th_ok (by kernel_rfl) Try.func63 rfl Try.ntmps63 Try.results63 (by kernel_rfl) rfl ?_; conv => whnf
  by_cases h1 : 4096 < a.length
  · rw [diffR_long (.inl h1)]
    repeat (first | (refine r_put (p_bin (by first | exact b_lt_t (by omega) | exact b_lt_f (by omega) | exact b_le_t (by omega) | exact b_le_f (by omega) | exact b_gt_t (by omega) | exact b_gt_f (by omega) | exact b_ge_t (by omega) | exact b_ge_f (by omega) | exact b_eq_t (by omega) | exact b_eq_f (by omega) | exact b_ne_t (by omega) | exact b_ne_f (by omega) | exact b_sub rfl (by omega) (by omega) | exact b_add rfl (by omega) (by omega)) rfl rfl rfl) rfl rfl ?_; conv => whnf) | (refine r_put (p_idx (getA _ (by assumption)) rfl rfl rfl) rfl rfl ?_; conv => whnf) | (refine r_put (p_lenm rfl ⟨_, _, _, _, rfl⟩) rfl rfl ?_; conv => whnf) | (refine r_put (p_lenom rfl rfl ⟨_, _, _, _, rfl⟩) rfl rfl ?_; conv => whnf) | (refine r_put (p_len (y := .v (.string _)) rfl rfl rfl) rfl rfl ?_; conv => whnf) | (refine r_put (p_len rfl rfl ⟨_, _, _, _, rfl⟩) rfl rfl ?_; conv => whnf))
    exact r_tupOV rfl rfl rfl
  · by_cases h2 : 4096 < b.length
    · rw [diffR_long (.inr h2)]
      repeat (first | (refine r_put (p_bin (by first | exact b_lt_t (by omega) | exact b_lt_f (by omega) | exact b_le_t (by omega) | exact b_le_f (by omega) | exact b_gt_t (by omega) | exact b_gt_f (by omega) | exact b_ge_t (by omega) | exact b_ge_f (by omega) | exact b_eq_t (by omega) | exact b_eq_f (by omega) | exact b_ne_t (by omega) | exact b_ne_f (by omega) | exact b_sub rfl (by omega) (by omega) | exact b_add rfl (by omega) (by omega)) rfl rfl rfl) rfl rfl ?_; conv => whnf) | (refine r_put (p_idx (getA _ (by assumption)) rfl rfl rfl) rfl rfl ?_; conv => whnf) | (refine r_put (p_lenm rfl ⟨_, _, _, _, rfl⟩) rfl rfl ?_; conv => whnf) | (refine r_put (p_lenom rfl rfl ⟨_, _, _, _, rfl⟩) rfl rfl ?_; conv => whnf) | (refine r_put (p_len (y := .v (.string _)) rfl rfl rfl) rfl rfl ?_; conv => whnf) | (refine r_put (p_len rfl rfl ⟨_, _, _, _, rfl⟩) rfl rfl ?_; conv => whnf))
      exact r_tupOV rfl rfl rfl
    · have hlong : ¬(4096 < a.length ∨ 4096 < b.length) := by omega
      have hd := diffM_len a b
      cases ha : mapOK a with
      | false =>
        rw [diffR_bad hlong (.inl ha)]
        repeat (first | first | (refine r_put (p_bin (by first | exact b_lt_t (by omega) | exact b_lt_f (by omega) | exact b_le_t (by omega) | exact b_le_f (by omega) | exact b_gt_t (by omega) | exact b_gt_f (by omega) | exact b_ge_t (by omega) | exact b_ge_f (by omega) | exact b_eq_t (by omega) | exact b_eq_f (by omega) | exact b_ne_t (by omega) | exact b_ne_f (by omega) | exact b_sub rfl (by omega) (by omega) | exact b_add rfl (by omega) (by omega)) rfl rfl rfl) rfl rfl ?_; conv => whnf) | (refine r_put (p_idx (getA _ (by assumption)) rfl rfl rfl) rfl rfl ?_; conv => whnf) | (refine r_put (p_lenm rfl ⟨_, _, _, _, rfl⟩) rfl rfl ?_; conv => whnf) | (refine r_put (p_lenom rfl rfl ⟨_, _, _, _, rfl⟩) rfl rfl ?_; conv => whnf) | (refine r_put (p_len (y := .v (.string _)) rfl rfl rfl) rfl rfl ?_; conv => whnf) | (refine r_put (p_len rfl rfl ⟨_, _, _, _, rfl⟩) rfl rfl ?_; conv => whnf) | (refine r_step (p_call (ac_l01OK' ha hml hk) rfl (by first | exact .inl rfl | exact .inr ⟨by simp [flatA, flatL], by first | exact flat_o0 | exact flat_o1 (by first | exact flat_map flat_str _ | exact flat_map flat_ent _ | exact flat_map flat_edt _ | exact flat_map flat_ref _ | exact flat_map flat_int _ | exact flat_map flat_evt _) | exact flat_o2 (by first | exact flat_map flat_str _ | exact flat_map flat_ent _ | exact flat_map flat_edt _ | exact flat_map flat_ref _ | exact flat_map flat_int _ | exact flat_map flat_evt _) (by first | exact flat_map flat_str _ | exact flat_map flat_ent _ | exact flat_map flat_edt _ | exact flat_map flat_ref _ | exact flat_map flat_int _ | exact flat_map flat_evt _)⟩) (by first | exact trivial | exact ⟨⟨rfl, rfl, rfl⟩, trivial⟩ | exact ⟨⟨rfl, rfl, rfl⟩, ⟨rfl, rfl, rfl⟩, trivial⟩ | exact ⟨⟨rfl, rfl, rfl⟩, ⟨rfl, rfl, rfl⟩, ⟨rfl, rfl, rfl⟩, trivial⟩) rfl rfl) rfl rfl (fun e => by first | exact .inl rfl | contradiction | exact .inr (.inl (by kernel_rfl))) ?_; conv => whnf))
        exact r_tupOV rfl rfl rfl
      | true =>
        cases hb : mapOK b with
        | false =>
          rw [diffR_bad hlong (.inr hb)]
          repeat (first | first | (refine r_put (p_bin (by first | exact b_lt_t (by omega) | exact b_lt_f (by omega) | exact b_le_t (by omega) | exact b_le_f (by omega) | exact b_gt_t (by omega) | exact b_gt_f (by omega) | exact b_ge_t (by omega) | exact b_ge_f (by omega) | exact b_eq_t (by omega) | exact b_eq_f (by omega) | exact b_ne_t (by omega) | exact b_ne_f (by omega) | exact b_sub rfl (by omega) (by omega) | exact b_add rfl (by omega) (by omega)) rfl rfl rfl) rfl rfl ?_; conv => whnf) | (refine r_put (p_idx (getA _ (by assumption)) rfl rfl rfl) rfl rfl ?_; conv => whnf) | (refine r_put (p_lenm rfl ⟨_, _, _, _, rfl⟩) rfl rfl ?_; conv => whnf) | (refine r_put (p_lenom rfl rfl ⟨_, _, _, _, rfl⟩) rfl rfl ?_; conv => whnf) | (refine r_put (p_len (y := .v (.string _)) rfl rfl rfl) rfl rfl ?_; conv => whnf) | (refine r_put (p_len rfl rfl ⟨_, _, _, _, rfl⟩) rfl rfl ?_; conv => whnf) | (refine r_step (p_call (ac_l01OK' ha hml hk) rfl (by first | exact .inl rfl | exact .inr ⟨by simp [flatA, flatL], by first | exact flat_o0 | exact flat_o1 (by first | exact flat_map flat_str _ | exact flat_map flat_ent _ | exact flat_map flat_edt _ | exact flat_map flat_ref _ | exact flat_map flat_int _ | exact flat_map flat_evt _) | exact flat_o2 (by first | exact flat_map flat_str _ | exact flat_map flat_ent _ | exact flat_map flat_edt _ | exact flat_map flat_ref _ | exact flat_map flat_int _ | exact flat_map flat_evt _) (by first | exact flat_map flat_str _ | exact flat_map flat_ent _ | exact flat_map flat_edt _ | exact flat_map flat_ref _ | exact flat_map flat_int _ | exact flat_map flat_evt _)⟩) (by first | exact trivial | exact ⟨⟨rfl, rfl, rfl⟩, trivial⟩ | exact ⟨⟨rfl, rfl, rfl⟩, ⟨rfl, rfl, rfl⟩, trivial⟩ | exact ⟨⟨rfl, rfl, rfl⟩, ⟨rfl, rfl, rfl⟩, ⟨rfl, rfl, rfl⟩, trivial⟩) rfl rfl) rfl rfl (fun e => by first | exact .inl rfl | contradiction | exact .inr (.inl (by kernel_rfl))) ?_; conv => whnf) | (refine r_step (p_call (ac_l01OK' hb hml' hk') rfl (by first | exact .inl rfl | exact .inr ⟨by simp [flatA, flatL], by first | exact flat_o0 | exact flat_o1 (by first | exact flat_map flat_str _ | exact flat_map flat_ent _ | exact flat_map flat_edt _ | exact flat_map flat_ref _ | exact flat_map flat_int _ | exact flat_map flat_evt _) | exact flat_o2 (by first | exact flat_map flat_str _ | exact flat_map flat_ent _ | exact flat_map flat_edt _ | exact flat_map flat_ref _ | exact flat_map flat_int _ | exact flat_map flat_evt _) (by first | exact flat_map flat_str _ | exact flat_map flat_ent _ | exact flat_map flat_edt _ | exact flat_map flat_ref _ | exact flat_map flat_int _ | exact flat_map flat_evt _)⟩) (by first | exact trivial | exact ⟨⟨rfl, rfl, rfl⟩, trivial⟩ | exact ⟨⟨rfl, rfl, rfl⟩, ⟨rfl, rfl, rfl⟩, trivial⟩ | exact ⟨⟨rfl, rfl, rfl⟩, ⟨rfl, rfl, rfl⟩, ⟨rfl, rfl, rfl⟩, trivial⟩) rfl rfl) rfl rfl (fun e => by first | exact .inl rfl | contradiction | exact .inr (.inl (by kernel_rfl))) ?_; conv => whnf))
          exact r_tupOV rfl rfl rfl
        | true =>
          rw [diffR_ok hlong ha hb]
          repeat (first | first | (refine r_put (p_bin (by first | exact b_lt_t (by omega) | exact b_lt_f (by omega) | exact b_le_t (by omega) | exact b_le_f (by omega) | exact b_gt_t (by omega) | exact b_gt_f (by omega) | exact b_ge_t (by omega) | exact b_ge_f (by omega) | exact b_eq_t (by omega) | exact b_eq_f (by omega) | exact b_ne_t (by omega) | exact b_ne_f (by omega) | exact b_sub rfl (by omega) (by omega) | exact b_add rfl (by omega) (by omega)) rfl rfl rfl) rfl rfl ?_; conv => whnf) | (refine r_put (p_idx (getA _ (by assumption)) rfl rfl rfl) rfl rfl ?_; conv => whnf) | (refine r_put (p_lenm rfl ⟨_, _, _, _, rfl⟩) rfl rfl ?_; conv => whnf) | (refine r_put (p_lenom rfl rfl ⟨_, _, _, _, rfl⟩) rfl rfl ?_; conv => whnf) | (refine r_put (p_len (y := .v (.string _)) rfl rfl rfl) rfl rfl ?_; conv => whnf) | (refine r_put (p_len rfl rfl ⟨_, _, _, _, rfl⟩) rfl rfl ?_; conv => whnf) | (refine r_step (p_call (ac_l01OK' ha hml hk) rfl (by first | exact .inl rfl | exact .inr ⟨by simp [flatA, flatL], by first | exact flat_o0 | exact flat_o1 (by first | exact flat_map flat_str _ | exact flat_map flat_ent _ | exact flat_map flat_edt _ | exact flat_map flat_ref _ | exact flat_map flat_int _ | exact flat_map flat_evt _) | exact flat_o2 (by first | exact flat_map flat_str _ | exact flat_map flat_ent _ | exact flat_map flat_edt _ | exact flat_map flat_ref _ | exact flat_map flat_int _ | exact flat_map flat_evt _) (by first | exact flat_map flat_str _ | exact flat_map flat_ent _ | exact flat_map flat_edt _ | exact flat_map flat_ref _ | exact flat_map flat_int _ | exact flat_map flat_evt _)⟩) (by first | exact trivial | exact ⟨⟨rfl, rfl, rfl⟩, trivial⟩ | exact ⟨⟨rfl, rfl, rfl⟩, ⟨rfl, rfl, rfl⟩, trivial⟩ | exact ⟨⟨rfl, rfl, rfl⟩, ⟨rfl, rfl, rfl⟩, ⟨rfl, rfl, rfl⟩, trivial⟩) rfl rfl) rfl rfl (fun e => by first | exact .inl rfl | contradiction | exact .inr (.inl (by kernel_rfl))) ?_; conv => whnf) | (refine r_step (p_call (ac_l01OK' hb hml' hk') rfl (by first | exact .inl rfl | exact .inr ⟨by simp [flatA, flatL], by first | exact flat_o0 | exact flat_o1 (by first | exact flat_map flat_str _ | exact flat_map flat_ent _ | exact flat_map flat_edt _ | exact flat_map flat_ref _ | exact flat_map flat_int _ | exact flat_map flat_evt _) | exact flat_o2 (by first | exact flat_map flat_str _ | exact flat_map flat_ent _ | exact flat_map flat_edt _ | exact flat_map flat_ref _ | exact flat_map flat_int _ | exact flat_map flat_evt _) (by first | exact flat_map flat_str _ | exact flat_map flat_ent _ | exact flat_map flat_edt _ | exact flat_map flat_ref _ | exact flat_map flat_int _ | exact flat_map flat_evt _)⟩) (by first | exact trivial | exact ⟨⟨rfl, rfl, rfl⟩, trivial⟩ | exact ⟨⟨rfl, rfl, rfl⟩, ⟨rfl, rfl, rfl⟩, trivial⟩ | exact ⟨⟨rfl, rfl, rfl⟩, ⟨rfl, rfl, rfl⟩, ⟨rfl, rfl, rfl⟩, trivial⟩) rfl rfl) rfl rfl (fun e => by first | exact .inl rfl | contradiction | exact .inr (.inl (by kernel_rfl))) ?_; conv => whnf) | (refine r_step (p_call (ac_l01Diff (es := a) (es' := b) (by omega) (by omega)) rfl (by first | exact .inl rfl | exact .inr ⟨by simp [flatA, flatL], by first | exact flat_o0 | exact flat_o1 (by first | exact flat_map flat_str _ | exact flat_map flat_ent _ | exact flat_map flat_edt _ | exact flat_map flat_ref _ | exact flat_map flat_int _ | exact flat_map flat_evt _) | exact flat_o2 (by first | exact flat_map flat_str _ | exact flat_map flat_ent _ | exact flat_map flat_edt _ | exact flat_map flat_ref _ | exact flat_map flat_int _ | exact flat_map flat_evt _) (by first | exact flat_map flat_str _ | exact flat_map flat_ent _ | exact flat_map flat_edt _ | exact flat_map flat_ref _ | exact flat_map flat_int _ | exact flat_map flat_evt _)⟩) (by first | exact trivial | exact ⟨⟨rfl, rfl, rfl⟩, trivial⟩ | exact ⟨⟨rfl, rfl, rfl⟩, ⟨rfl, rfl, rfl⟩, trivial⟩ | exact ⟨⟨rfl, rfl, rfl⟩, ⟨rfl, rfl, rfl⟩, ⟨rfl, rfl, rfl⟩, trivial⟩) rfl rfl) rfl rfl (fun e => by first | exact .inl rfl | contradiction | exact .inr (.inl (by kernel_rfl))) ?_; conv => whnf) | (refine r_step (p_call (ac_l02Keys (es := diffM a b) (by omega)) rfl (by first | exact .inl rfl | exact .inr ⟨by simp [flatA, flatL], by first | exact flat_o0 | exact flat_o1 (by first | exact flat_map flat_str _ | exact flat_map flat_ent _ | exact flat_map flat_edt _ | exact flat_map flat_ref _ | exact flat_map flat_int _ | exact flat_map flat_evt _) | exact flat_o2 (by first | exact flat_map flat_str _ | exact flat_map flat_ent _ | exact flat_map flat_edt _ | exact flat_map flat_ref _ | exact flat_map flat_int _ | exact flat_map flat_evt _) (by first | exact flat_map flat_str _ | exact flat_map flat_ent _ | exact flat_map flat_edt _ | exact flat_map flat_ref _ | exact flat_map flat_int _ | exact flat_map flat_evt _)⟩) (by first | exact trivial | exact ⟨⟨rfl, rfl, rfl⟩, trivial⟩ | exact ⟨⟨rfl, rfl, rfl⟩, ⟨rfl, rfl, rfl⟩, trivial⟩ | exact ⟨⟨rfl, rfl, rfl⟩, ⟨rfl, rfl, rfl⟩, ⟨rfl, rfl, rfl⟩, trivial⟩) rfl rfl) rfl rfl (fun e => by first | exact .inl rfl | contradiction | exact .inr (.inl (by kernel_rfl))) ?_; conv => whnf))
          exact r_tupOV rfl rfl rfl
theorem fill_set {α : Type} (l : List α) (z : α) (k : Nat) (h : k < l.length) : (l.take k ++ List.replicate (l.length - k) z).set k l[k] = l.take (k + 1) ++ List.replicate (l.length - (k + 1)) z := by
  have h1 : l.length - k = (l.length - (k + 1)) + 1 := by omega
  rw [h1, List.replicate_succ, List.set_append_right _ _ (by simp; omega), List.take_succ_eq_append_getElem h, List.append_assoc]
  have : k - (l.take k).length = 0 := by simp; omega
  rw [this]; rfl
theorem diffR_ne {a b : List Ent} (h : ¬ (diffR a b).2 = 0) : (diffR a b).1 = [] := by
  unfold diffR at *
  split
  · rfl
  · rename_i h1
    rw [if_neg h1] at h
    split
    · rename_i h2; rw [if_pos h2] at h; exact absurd rfl h
    · rfl
theorem ent_60 : ∀ vs w, (callFunc 60 vs).run Try.prog w = .ok (.enter 60 vs) w := ent_of Try.func60 (by kernel_rfl) (by kernel_rfl)
theorem ac_implDiff {a b : List Ent} (hm : a.length ≤ maxLen) (hm' : b.length ≤ maxLen) (hk : ∀ e ∈ a, e.1.size ≤ maxLen) (hk' : ∀ e ∈ b, e.1.size ≤ maxLen) : AC Try.prog 60 [.lst 2 (a.map entA), .lst 2 (b.map entA)] ⟨.tup [.own 0, .v (.int .i64 (diffR a b).2)], [⟨117, 3, (diffR a b).1.map edtA⟩]⟩ :=
  ac_ownv (cs := edtsC (diffR a b).1) ent_60 (all_edt _) (by omega) (fun S w => rl_edtA.2 rfl) rfl fun w S0 vs hS hv => by
    obtain ⟨u, us, rfl, h1, hv⟩ := rvsc hv
    obtain ⟨u', rfl, h2⟩ := rvs1 hv
    obtain ⟨A, c, rfl, _, _, hr⟩ := arg_ents hS h1
    obtain ⟨A', c', rfl, _, _, hr'⟩ := arg_ents hS h2
    rw [List.length_map]
    exact implDiff_any A _ c a A' _ c' b w hr hr' hm hm' hk hk'
theorem ac_iChanged {a b : List Ent} (hm : a.length ≤ 1048576) (hm' : b.length ≤ 1048576) (hk : ∀ e ∈ a, e.1.size ≤ maxLen) (hk' : ∀ e ∈ b, e.1.size ≤ maxLen) : AC Try.prog 62 [.lst 2 (a.map entA), .lst 2 (b.map entA)] ⟨.tup [.own 0, .v (.int .i64 (changedR a b).2)], [⟨9, 1, (changedR a b).1.map strA⟩]⟩ := by
  have hml : a.length ≤ maxLen := by unfold maxLen; omega
  have hml' : b.length ≤ maxLen := by unfold maxLen; omega
  unfold changedR
  have hd := diffR_le a b
  refine r_of Th_ok (by kernel_rfl) Try.func62 rfl Try.ntmps62 Try.results62 (by kernel_rfl) rfl ?_; conv => whnf
  (refine r_step (p_call (ac_implDiff hml hml' hk hk') rfl (by first | exact .inl rfl | exact .inr ⟨by simp [flatA, flatL], by first | exact flat_o0 | exact flat_o1 (by first | exact flat_map flat_str _ | exact flat_map flat_ent _ | exact flat_map flat_edt _ | exact flat_map flat_ref _ | exact flat_map flat_int _ | exact flat_map flat_evt _) | exact flat_o2 (by first | exact flat_map flat_str _ | exact flat_map flat_ent _ | exact flat_map flat_edt _ | exact flat_map flat_ref _ | exact flat_map flat_int _ | exact flat_map flat_evt _) (by first | exact flat_map flat_str _ | exact flat_map flat_ent _ | exact flat_map flat_edt _ | exact flat_map flat_ref _ | exact flat_map flat_int _ | exact flat_map flat_evt _)⟩) (by first | exact trivial | exact ⟨⟨rfl, rfl, rfl⟩, trivial⟩ | exact ⟨⟨rfl, rfl, rfl⟩, ⟨rfl, rfl, rfl⟩, trivial⟩ | exact ⟨⟨rfl, rfl, rfl⟩, ⟨rfl, rfl, rfl⟩, ⟨rfl, rfl, rfl⟩, trivial⟩) rfl rfl) rfl rfl (fun e => by first | exact .inl rfl | contradiction | exact .inr (.inl (by kernel_rfl))) ?_; conv => whnf)
  by_cases hc : (diffR a b).2 = 0
  · repeat (first | first | (refine r_put (p_bin (by first | exact b_lt_t (by omega) | exact b_lt_f (by omega) | exact b_le_t (by omega) | exact b_le_f (by omega) | exact b_gt_t (by omega) | exact b_gt_f (by omega) | exact b_ge_t (by omega) | exact b_ge_f (by omega) | exact b_eq_t (by omega) | exact b_eq_f (by omega) | exact b_ne_t (by omega) | exact b_ne_f (by omega) | exact b_sub rfl (by omega) (by omega) | exact b_add rfl (by omega) (by omega)) rfl rfl rfl) rfl rfl ?_; conv => whnf) | (refine r_put (p_idx (getA _ (by assumption)) rfl rfl rfl) rfl rfl ?_; conv => whnf) | (refine r_put (p_lenm rfl ⟨_, _, _, _, rfl⟩) rfl rfl ?_; conv => whnf) | (refine r_put (p_lenom rfl rfl ⟨_, _, _, _, rfl⟩) rfl rfl ?_; conv => whnf) | (refine r_put (p_len (y := .v (.string _)) rfl rfl rfl) rfl rfl ?_; conv => whnf) | (refine r_put (p_len rfl rfl ⟨_, _, _, _, rfl⟩) rfl rfl ?_; conv => whnf) | (refine r_step (p_make (n := (diffR a b).1.length) (by omega) (by omega) (by simp; rfl) (by simp; rfl) rfl rfl) rfl rfl (fun e => by first | exact .inl rfl | contradiction | exact .inr (.inl (by kernel_rfl))) ?_; conv => whnf))
    have hkl := keysL_length (diffR a b).1
    generalize hE : (diffR a b).1 = E at *
    have hrow : List.replicate E.length (AV.v (.string ByteArray.empty)) = ((keysL E).take 0 ++ List.replicate ((keysL E).length - 0) ByteArray.empty).map strA := by simp [hkl, strA]
    refine r_loop (ι := { k : Nat // k ≤ E.length }) (fun k => ⟨[(8, .own 23), (23, .lst 3 (E.map edtA)), (24, .v (.int .i64 (E.length : Int))), (25, .v (.int .i64 (k.1 : Int)))], [(23, ⟨9, 1, ((keysL E).take k.1 ++ List.replicate ((keysL E).length - k.1) ByteArray.empty).map strA⟩)]⟩) (fun k => E.length - k.1) ⟨0, Nat.zero_le _⟩ ⟨⟨congrArg (fun x => some (OB.mk _ _ x)) hrow, trivial⟩, .inl ⟨rfl, rfl⟩, .inr ⟨_, _, rfl, rfl, rfl, rfl, rfl⟩, .inl ⟨rfl, rfl⟩, .inl ⟨rfl, rfl⟩, trivial⟩ ?_
    rintro ⟨k, hk⟩
    dsimp only
    conv => whnf
    by_cases hlt : k < E.length
    · have hlt' : k < (keysL E).length := by omega
      have hlt2 : k < ((keysL E).take k ++ List.replicate ((keysL E).length - k) ByteArray.empty).length := by simp; omega
      have hset := congrArg (List.map strA) (fill_set (keysL E) ByteArray.empty k hlt')
      rw [List.map_set, show (keysL E)[k] = E[k].key by simp [keysL]] at hset
      repeat (first | first | (refine r_put (p_bin (by first | exact b_lt_t (by omega) | exact b_lt_f (by omega) | exact b_le_t (by omega) | exact b_le_f (by omega) | exact b_gt_t (by omega) | exact b_gt_f (by omega) | exact b_ge_t (by omega) | exact b_ge_f (by omega) | exact b_eq_t (by omega) | exact b_eq_f (by omega) | exact b_ne_t (by omega) | exact b_ne_f (by omega) | exact b_sub rfl (by omega) (by omega) | exact b_add rfl (by omega) (by omega)) rfl rfl rfl) rfl rfl ?_; conv => whnf) | (refine r_put (p_idx (getA _ (by assumption)) rfl rfl rfl) rfl rfl ?_; conv => whnf) | (refine r_put (p_lenm rfl ⟨_, _, _, _, rfl⟩) rfl rfl ?_; conv => whnf) | (refine r_put (p_lenom rfl rfl ⟨_, _, _, _, rfl⟩) rfl rfl ?_; conv => whnf) | (refine r_put (p_len (y := .v (.string _)) rfl rfl rfl) rfl rfl ?_; conv => whnf) | (refine r_put (p_len rfl rfl ⟨_, _, _, _, rfl⟩) rfl rfl ?_; conv => whnf) | (refine r_put (p_oidx (by simpa using hlt2) rfl rfl rfl rfl rfl) rfl rfl ?_; conv => whnf) | (refine r_step (p_ostore (getA _ hlt2) rfl rfl rfl rfl rfl rfl) rfl rfl (fun e => by first | exact .inl rfl | contradiction | exact .inr (.inl (by kernel_rfl))) ?_; conv => whnf) | (refine r_step (p_ostore rfl rfl rfl rfl rfl (by conv => lhs; whnf) rfl) rfl rfl (fun e => by first | exact .inl rfl | contradiction | exact .inr (.inl (by kernel_rfl))) ?_; conv => whnf))
      exact ⟨⟨k + 1, hlt⟩, ⟨⟨congrArg (fun x => some (OB.mk _ _ x)) hset, trivial⟩, .inl ⟨rfl, rfl⟩, .inl ⟨rfl, rfl⟩, .inl ⟨rfl, rfl⟩, .inl ⟨rfl, rfl⟩, trivial⟩, by simp; omega⟩
    · have hkk : k = E.length := by omega
      subst hkk
      repeat (first | (refine r_put (p_bin (by first | exact b_lt_t (by omega) | exact b_lt_f (by omega) | exact b_le_t (by omega) | exact b_le_f (by omega) | exact b_gt_t (by omega) | exact b_gt_f (by omega) | exact b_ge_t (by omega) | exact b_ge_f (by omega) | exact b_eq_t (by omega) | exact b_eq_f (by omega) | exact b_ne_t (by omega) | exact b_ne_f (by omega) | exact b_sub rfl (by omega) (by omega) | exact b_add rfl (by omega) (by omega)) rfl rfl rfl) rfl rfl ?_; conv => whnf) | (refine r_put (p_idx (getA _ (by assumption)) rfl rfl rfl) rfl rfl ?_; conv => whnf) | (refine r_put (p_lenm rfl ⟨_, _, _, _, rfl⟩) rfl rfl ?_; conv => whnf) | (refine r_put (p_lenom rfl rfl ⟨_, _, _, _, rfl⟩) rfl rfl ?_; conv => whnf) | (refine r_put (p_len (y := .v (.string _)) rfl rfl rfl) rfl rfl ?_; conv => whnf) | (refine r_put (p_len rfl rfl ⟨_, _, _, _, rfl⟩) rfl rfl ?_; conv => whnf))
      rw [hc]
      exact r_tupOV rfl rfl (by show some (OB.mk _ _ _) = _; rw [← hkl, List.take_length, Nat.sub_self, List.replicate_zero, List.append_nil])
  · have h0 := diffR_ne hc
    repeat (first | (refine r_put (p_bin (by first | exact b_lt_t (by omega) | exact b_lt_f (by omega) | exact b_le_t (by omega) | exact b_le_f (by omega) | exact b_gt_t (by omega) | exact b_gt_f (by omega) | exact b_ge_t (by omega) | exact b_ge_f (by omega) | exact b_eq_t (by omega) | exact b_eq_f (by omega) | exact b_ne_t (by omega) | exact b_ne_f (by omega) | exact b_sub rfl (by omega) (by omega) | exact b_add rfl (by omega) (by omega)) rfl rfl rfl) rfl rfl ?_; conv => whnf) | (refine r_put (p_idx (getA _ (by assumption)) rfl rfl rfl) rfl rfl ?_; conv => whnf) | (refine r_put (p_lenm rfl ⟨_, _, _, _, rfl⟩) rfl rfl ?_; conv => whnf) | (refine r_put (p_lenom rfl rfl ⟨_, _, _, _, rfl⟩) rfl rfl ?_; conv => whnf) | (refine r_put (p_len (y := .v (.string _)) rfl rfl rfl) rfl rfl ?_; conv => whnf) | (refine r_put (p_len rfl rfl ⟨_, _, _, _, rfl⟩) rfl rfl ?_; conv => whnf))
    exact r_tupOV rfl rfl (by show some (OB.mk _ _ _) = _; rw [h0]; rfl)
end Go.Proofs.Ytjhimcddgkoghaa.AM
