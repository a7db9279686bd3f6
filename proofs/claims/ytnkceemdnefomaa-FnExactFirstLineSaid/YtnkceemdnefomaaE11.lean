/- The machine over data (E8, E9, E10, E11). -/
import Derived.Test.YtnkceemdnefomaaE4
import Derived.Test.YtnkceemdnefomaaA3
/- What a store and numbers are asked for first, on both sides. -/
namespace Go.Proofs.Ytnkceemdnefomaa.AM
open Go Go.RowKit
set_option linter.unusedVariables false
set_option linter.unusedSimpArgs false
set_option maxRecDepth 100000
attribute [local irreducible] ACode AOps RetG RetM Pre ACG
def idOK (n : Nat) (x : Int) : Prop := 1 ≤ x ∧ x ≤ (n : Int)
open Classical in
/-- the code with which functions of a store and numbers begin -/
noncomputable def askR (cs : List Cmt) (ids : List Int) : Int := if cs.length ≤ 4096 then (if stoB cs = true then (if ∀ x ∈ ids, idOK cs.length x then 0 else 5) else 1) else 2
theorem askR_long {cs : List Cmt} {ids : List Int} (h : ¬ cs.length ≤ 4096) : askR cs ids = 2 := by unfold askR; rw [if_neg h]
theorem askR_bad {cs : List Cmt} {ids : List Int} (h : cs.length ≤ 4096) (hb : stoB cs = false) : askR cs ids = 1 := by unfold askR; rw [if_pos h, hb]; simp
theorem askR_none {cs : List Cmt} {ids : List Int} (h : cs.length ≤ 4096) (hb : stoB cs = true) (hi : ¬ ∀ x ∈ ids, idOK cs.length x) : askR cs ids = 5 := by unfold askR; rw [if_pos h, if_pos hb, if_neg hi]
theorem askR_ok {cs : List Cmt} {ids : List Int} (h : cs.length ≤ 4096) (hb : stoB cs = true) (hi : ∀ x ∈ ids, idOK cs.length x) : askR cs ids = 0 := by unfold askR; rw [if_pos h, if_pos hb, if_pos hi]
theorem askR_0 {cs : List Cmt} {ids : List Int} (h : askR cs ids = 0) : stoB cs = true ∧ ∀ x ∈ ids, idOK cs.length x := by
  unfold askR at h
  split at h
  · split at h
    · split at h
      · rename_i h1 h2 h3; exact ⟨h2, h3⟩
      · omega
    · omega
  · omega
theorem ac_l03Ask {cs : List Cmt} {ids : List Int} (hm : cs.length ≤ maxLen) (hc : comOK maxLen cs) (hi : ids.length ≤ maxLen) : AC Try.prog 91 [.lst 2 (cs.map comA), .lst 1 (ids.map intA)] ⟨.v (.int .i64 (askR cs ids)), []⟩ := by
  have h1 := ac_l03OK hm hc
  unfold maxLen at hm hi
  by_cases hl : cs.length ≤ 4096
  case neg =>
    rw [askR_long hl]
    refine r_of Th_ok (by kernel_rfl) Try.func91 rfl Try.ntmps91 Try.results91 (by kernel_rfl) rfl ?_; conv => whnf
    repeat (first | (refine r_put (p_bin (by first | exact b_lt_t (by omega) | exact b_lt_f (by omega) | exact b_le_t (by omega) | exact b_le_f (by omega) | exact b_gt_t (by omega) | exact b_gt_f (by omega) | exact b_ge_t (by omega) | exact b_ge_f (by omega) | exact b_eq_t (by omega) | exact b_eq_f (by omega) | exact b_ne_t (by omega) | exact b_ne_f (by omega) | exact b_sub rfl (by omega) (by omega) | exact b_add rfl (by omega) (by omega)) rfl rfl rfl) rfl rfl ?_; conv => whnf) | (refine r_put (p_idx (getA _ (by assumption)) rfl rfl rfl) rfl rfl ?_; conv => whnf) | (refine r_put (p_lenm rfl ⟨_, _, _, _, rfl⟩) rfl rfl ?_; conv => whnf) | (refine r_put (p_lenom rfl rfl ⟨_, _, _, _, rfl⟩) rfl rfl ?_; conv => whnf) | (refine r_put (p_len (y := .v (.string _)) rfl rfl rfl) rfl rfl ?_; conv => whnf) | (refine r_put (p_len rfl rfl ⟨_, _, _, _, rfl⟩) rfl rfl ?_; conv => whnf))
    exact r_ret1 rfl trivial
  cases hb : stoB cs with
  | false =>
    rw [askR_bad hl hb]
    rw [hb] at h1
    refine r_of Th_ok (by kernel_rfl) Try.func91 rfl Try.ntmps91 Try.results91 (by kernel_rfl) rfl ?_; conv => whnf
    repeat (first | first | (refine r_put (p_bin (by first | exact b_lt_t (by omega) | exact b_lt_f (by omega) | exact b_le_t (by omega) | exact b_le_f (by omega) | exact b_gt_t (by omega) | exact b_gt_f (by omega) | exact b_ge_t (by omega) | exact b_ge_f (by omega) | exact b_eq_t (by omega) | exact b_eq_f (by omega) | exact b_ne_t (by omega) | exact b_ne_f (by omega) | exact b_sub rfl (by omega) (by omega) | exact b_add rfl (by omega) (by omega)) rfl rfl rfl) rfl rfl ?_; conv => whnf) | (refine r_put (p_idx (getA _ (by assumption)) rfl rfl rfl) rfl rfl ?_; conv => whnf) | (refine r_put (p_lenm rfl ⟨_, _, _, _, rfl⟩) rfl rfl ?_; conv => whnf) | (refine r_put (p_lenom rfl rfl ⟨_, _, _, _, rfl⟩) rfl rfl ?_; conv => whnf) | (refine r_put (p_len (y := .v (.string _)) rfl rfl rfl) rfl rfl ?_; conv => whnf) | (refine r_put (p_len rfl rfl ⟨_, _, _, _, rfl⟩) rfl rfl ?_; conv => whnf) | (refine r_step (p_call (h1) rfl (by first | exact .inl rfl | exact .inr ⟨by simp [flatA, flatL], by first | exact flat_o0 | exact flat_o1 (by first | exact flat_map flat_str _ | exact flat_map flat_ent _ | exact flat_map flat_edt _ | exact flat_map flat_ref _ | exact flat_map flat_int _) | exact flat_o2 (by first | exact flat_map flat_str _ | exact flat_map flat_ent _ | exact flat_map flat_edt _ | exact flat_map flat_ref _ | exact flat_map flat_int _) (by first | exact flat_map flat_str _ | exact flat_map flat_ent _ | exact flat_map flat_edt _ | exact flat_map flat_ref _ | exact flat_map flat_int _)⟩) (by first | exact trivial | exact ⟨⟨rfl, rfl, rfl⟩, trivial⟩ | exact ⟨⟨rfl, rfl, rfl⟩, ⟨rfl, rfl, rfl⟩, trivial⟩ | exact ⟨⟨rfl, rfl, rfl⟩, ⟨rfl, rfl, rfl⟩, ⟨rfl, rfl, rfl⟩, trivial⟩) rfl rfl) rfl rfl (fun e => by first | exact .inl rfl | contradiction | exact .inr (.inl (by kernel_rfl))) ?_; conv => whnf))
    exact r_ret1 rfl trivial
  | true =>
    rw [hb] at h1
    refine r_of Th_ok (by kernel_rfl) Try.func91 rfl Try.ntmps91 Try.results91 (by kernel_rfl) rfl ?_; conv => whnf
    repeat (first | first | (refine r_put (p_bin (by first | exact b_lt_t (by omega) | exact b_lt_f (by omega) | exact b_le_t (by omega) | exact b_le_f (by omega) | exact b_gt_t (by omega) | exact b_gt_f (by omega) | exact b_ge_t (by omega) | exact b_ge_f (by omega) | exact b_eq_t (by omega) | exact b_eq_f (by omega) | exact b_ne_t (by omega) | exact b_ne_f (by omega) | exact b_sub rfl (by omega) (by omega) | exact b_add rfl (by omega) (by omega)) rfl rfl rfl) rfl rfl ?_; conv => whnf) | (refine r_put (p_idx (getA _ (by assumption)) rfl rfl rfl) rfl rfl ?_; conv => whnf) | (refine r_put (p_lenm rfl ⟨_, _, _, _, rfl⟩) rfl rfl ?_; conv => whnf) | (refine r_put (p_lenom rfl rfl ⟨_, _, _, _, rfl⟩) rfl rfl ?_; conv => whnf) | (refine r_put (p_len (y := .v (.string _)) rfl rfl rfl) rfl rfl ?_; conv => whnf) | (refine r_put (p_len rfl rfl ⟨_, _, _, _, rfl⟩) rfl rfl ?_; conv => whnf) | (refine r_step (p_call (h1) rfl (by first | exact .inl rfl | exact .inr ⟨by simp [flatA, flatL], by first | exact flat_o0 | exact flat_o1 (by first | exact flat_map flat_str _ | exact flat_map flat_ent _ | exact flat_map flat_edt _ | exact flat_map flat_ref _ | exact flat_map flat_int _) | exact flat_o2 (by first | exact flat_map flat_str _ | exact flat_map flat_ent _ | exact flat_map flat_edt _ | exact flat_map flat_ref _ | exact flat_map flat_int _) (by first | exact flat_map flat_str _ | exact flat_map flat_ent _ | exact flat_map flat_edt _ | exact flat_map flat_ref _ | exact flat_map flat_int _)⟩) (by first | exact trivial | exact ⟨⟨rfl, rfl, rfl⟩, trivial⟩ | exact ⟨⟨rfl, rfl, rfl⟩, ⟨rfl, rfl, rfl⟩, trivial⟩ | exact ⟨⟨rfl, rfl, rfl⟩, ⟨rfl, rfl, rfl⟩, ⟨rfl, rfl, rfl⟩, trivial⟩) rfl rfl) rfl rfl (fun e => by first | exact .inl rfl | contradiction | exact .inr (.inl (by kernel_rfl))) ?_; conv => whnf))
    refine r_loop (ι := { k : Nat // k ≤ ids.length ∧ ∀ i (h : i < ids.length), i < k → idOK cs.length ids[i] }) (fun k => ⟨[(0, .lst 2 (cs.map comA)), (1, .lst 1 (ids.map intA)), (5, .v (.int .i64 (k.1 : Int)))], []⟩) (fun k => ids.length - k.1) ⟨0, Nat.zero_le _, fun i h h' => by omega⟩ (by refine ⟨?_, ?_⟩ <;> (repeat (first | trivial | exact ⟨rfl, trivial⟩ | refine ⟨rfl, ?_⟩ | refine ⟨.inl ⟨rfl, rfl⟩, ?_⟩ | refine ⟨.inr ⟨_, _, rfl, rfl, rfl, rfl, rfl⟩, ?_⟩))) ?_
    rintro ⟨k, hk, hg⟩
    dsimp only at hk hg ⊢
    conv => whnf
    by_cases hlt : k < ids.length
    case neg =>
      rw [askR_ok hl hb (fun x hx => by obtain ⟨i, hi', rfl⟩ := List.getElem_of_mem hx; exact hg i hi' (by omega))]
      repeat (first | (refine r_put (p_bin (by first | exact b_lt_t (by omega) | exact b_lt_f (by omega) | exact b_le_t (by omega) | exact b_le_f (by omega) | exact b_gt_t (by omega) | exact b_gt_f (by omega) | exact b_ge_t (by omega) | exact b_ge_f (by omega) | exact b_eq_t (by omega) | exact b_eq_f (by omega) | exact b_ne_t (by omega) | exact b_ne_f (by omega) | exact b_sub rfl (by omega) (by omega) | exact b_add rfl (by omega) (by omega)) rfl rfl rfl) rfl rfl ?_; conv => whnf) | (refine r_put (p_idx (getA _ (by assumption)) rfl rfl rfl) rfl rfl ?_; conv => whnf) | (refine r_put (p_lenm rfl ⟨_, _, _, _, rfl⟩) rfl rfl ?_; conv => whnf) | (refine r_put (p_lenom rfl rfl ⟨_, _, _, _, rfl⟩) rfl rfl ?_; conv => whnf) | (refine r_put (p_len (y := .v (.string _)) rfl rfl rfl) rfl rfl ?_; conv => whnf) | (refine r_put (p_len rfl rfl ⟨_, _, _, _, rfl⟩) rfl rfl ?_; conv => whnf))
      exact r_ret1 rfl trivial
    by_cases hin : 1 ≤ ids[k] ∧ ids[k] ≤ (cs.length : Int)
    · repeat (first | first | (refine r_put (p_bin (by first | exact b_lt_t (by omega) | exact b_lt_f (by omega) | exact b_le_t (by omega) | exact b_le_f (by omega) | exact b_gt_t (by omega) | exact b_gt_f (by omega) | exact b_ge_t (by omega) | exact b_ge_f (by omega) | exact b_eq_t (by omega) | exact b_eq_f (by omega) | exact b_ne_t (by omega) | exact b_ne_f (by omega) | exact b_sub rfl (by omega) (by omega) | exact b_add rfl (by omega) (by omega)) rfl rfl rfl) rfl rfl ?_; conv => whnf) | (refine r_put (p_idx (getA _ (by assumption)) rfl rfl rfl) rfl rfl ?_; conv => whnf) | (refine r_put (p_lenm rfl ⟨_, _, _, _, rfl⟩) rfl rfl ?_; conv => whnf) | (refine r_put (p_lenom rfl rfl ⟨_, _, _, _, rfl⟩) rfl rfl ?_; conv => whnf) | (refine r_put (p_len (y := .v (.string _)) rfl rfl rfl) rfl rfl ?_; conv => whnf) | (refine r_put (p_len rfl rfl ⟨_, _, _, _, rfl⟩) rfl rfl ?_; conv => whnf) | (refine r_step (p_call (ac_in_t hin.1 hin.2) rfl (by first | exact .inl rfl | exact .inr ⟨by simp [flatA, flatL], by first | exact flat_o0 | exact flat_o1 (by first | exact flat_map flat_str _ | exact flat_map flat_ent _ | exact flat_map flat_edt _ | exact flat_map flat_ref _ | exact flat_map flat_int _) | exact flat_o2 (by first | exact flat_map flat_str _ | exact flat_map flat_ent _ | exact flat_map flat_edt _ | exact flat_map flat_ref _ | exact flat_map flat_int _) (by first | exact flat_map flat_str _ | exact flat_map flat_ent _ | exact flat_map flat_edt _ | exact flat_map flat_ref _ | exact flat_map flat_int _)⟩) (by first | exact trivial | exact ⟨⟨rfl, rfl, rfl⟩, trivial⟩ | exact ⟨⟨rfl, rfl, rfl⟩, ⟨rfl, rfl, rfl⟩, trivial⟩ | exact ⟨⟨rfl, rfl, rfl⟩, ⟨rfl, rfl, rfl⟩, ⟨rfl, rfl, rfl⟩, trivial⟩) rfl rfl) rfl rfl (fun e => by first | exact .inl rfl | contradiction | exact .inr (.inl (by kernel_rfl))) ?_; conv => whnf))
      exact ⟨⟨k + 1, hlt, fun i h h' => by
        rcases Nat.lt_or_ge i k with h2 | h2
        · exact hg i h h2
        · have : i = k := by omega
          subst this; exact hin⟩, by refine ⟨?_, ?_⟩ <;> (repeat (first | trivial | exact ⟨rfl, trivial⟩ | refine ⟨rfl, ?_⟩ | refine ⟨.inl ⟨rfl, rfl⟩, ?_⟩ | refine ⟨.inr ⟨_, _, rfl, rfl, rfl, rfl, rfl⟩, ?_⟩)), by simp; omega⟩
    · rw [askR_none hl hb (fun h => hin (h _ (List.getElem_mem hlt)))]
      repeat (first | first | (refine r_put (p_bin (by first | exact b_lt_t (by omega) | exact b_lt_f (by omega) | exact b_le_t (by omega) | exact b_le_f (by omega) | exact b_gt_t (by omega) | exact b_gt_f (by omega) | exact b_ge_t (by omega) | exact b_ge_f (by omega) | exact b_eq_t (by omega) | exact b_eq_f (by omega) | exact b_ne_t (by omega) | exact b_ne_f (by omega) | exact b_sub rfl (by omega) (by omega) | exact b_add rfl (by omega) (by omega)) rfl rfl rfl) rfl rfl ?_; conv => whnf) | (refine r_put (p_idx (getA _ (by assumption)) rfl rfl rfl) rfl rfl ?_; conv => whnf) | (refine r_put (p_lenm rfl ⟨_, _, _, _, rfl⟩) rfl rfl ?_; conv => whnf) | (refine r_put (p_lenom rfl rfl ⟨_, _, _, _, rfl⟩) rfl rfl ?_; conv => whnf) | (refine r_put (p_len (y := .v (.string _)) rfl rfl rfl) rfl rfl ?_; conv => whnf) | (refine r_put (p_len rfl rfl ⟨_, _, _, _, rfl⟩) rfl rfl ?_; conv => whnf) | (refine r_step (p_call (ac_in_f hin) rfl (by first | exact .inl rfl | exact .inr ⟨by simp [flatA, flatL], by first | exact flat_o0 | exact flat_o1 (by first | exact flat_map flat_str _ | exact flat_map flat_ent _ | exact flat_map flat_edt _ | exact flat_map flat_ref _ | exact flat_map flat_int _) | exact flat_o2 (by first | exact flat_map flat_str _ | exact flat_map flat_ent _ | exact flat_map flat_edt _ | exact flat_map flat_ref _ | exact flat_map flat_int _) (by first | exact flat_map flat_str _ | exact flat_map flat_ent _ | exact flat_map flat_edt _ | exact flat_map flat_ref _ | exact flat_map flat_int _)⟩) (by first | exact trivial | exact ⟨⟨rfl, rfl, rfl⟩, trivial⟩ | exact ⟨⟨rfl, rfl, rfl⟩, ⟨rfl, rfl, rfl⟩, trivial⟩ | exact ⟨⟨rfl, rfl, rfl⟩, ⟨rfl, rfl, rfl⟩, ⟨rfl, rfl, rfl⟩, trivial⟩) rfl rfl) rfl rfl (fun e => by first | exact .inl rfl | contradiction | exact .inr (.inl (by kernel_rfl))) ?_; conv => whnf))
      exact r_ret1 rfl trivial
theorem ac_graphCode {cs : List Cmt} {ids : List Int} (hm : cs.length ≤ maxLen) (hc : comOK maxLen cs) (hi : ids.length ≤ maxLen) : AC Try.prog 93 [.lst 2 (cs.map comA), .lst 1 (ids.map intA)] ⟨.v (.int .i64 (askR cs ids)), []⟩ := by
  have h1 := ac_iStoreOK hm hc
  unfold maxLen at hm hi
  by_cases hl : cs.length ≤ 4096
  case neg =>
    rw [askR_long hl]
    refine r_of Th_ok (by kernel_rfl) Try.func93 rfl Try.ntmps93 Try.results93 (by kernel_rfl) rfl ?_; conv => whnf
    repeat (first | (refine r_put (p_bin (by first | exact b_lt_t (by omega) | exact b_lt_f (by omega) | exact b_le_t (by omega) | exact b_le_f (by omega) | exact b_gt_t (by omega) | exact b_gt_f (by omega) | exact b_ge_t (by omega) | exact b_ge_f (by omega) | exact b_eq_t (by omega) | exact b_eq_f (by omega) | exact b_ne_t (by omega) | exact b_ne_f (by omega) | exact b_sub rfl (by omega) (by omega) | exact b_add rfl (by omega) (by omega)) rfl rfl rfl) rfl rfl ?_; conv => whnf) | (refine r_put (p_idx (getA _ (by assumption)) rfl rfl rfl) rfl rfl ?_; conv => whnf) | (refine r_put (p_lenm rfl ⟨_, _, _, _, rfl⟩) rfl rfl ?_; conv => whnf) | (refine r_put (p_lenom rfl rfl ⟨_, _, _, _, rfl⟩) rfl rfl ?_; conv => whnf) | (refine r_put (p_len (y := .v (.string _)) rfl rfl rfl) rfl rfl ?_; conv => whnf) | (refine r_put (p_len rfl rfl ⟨_, _, _, _, rfl⟩) rfl rfl ?_; conv => whnf))
    exact r_ret1 rfl trivial
  cases hb : stoB cs with
  | false =>
    rw [askR_bad hl hb]
    rw [hb] at h1
    refine r_of Th_ok (by kernel_rfl) Try.func93 rfl Try.ntmps93 Try.results93 (by kernel_rfl) rfl ?_; conv => whnf
    repeat (first | first | (refine r_put (p_bin (by first | exact b_lt_t (by omega) | exact b_lt_f (by omega) | exact b_le_t (by omega) | exact b_le_f (by omega) | exact b_gt_t (by omega) | exact b_gt_f (by omega) | exact b_ge_t (by omega) | exact b_ge_f (by omega) | exact b_eq_t (by omega) | exact b_eq_f (by omega) | exact b_ne_t (by omega) | exact b_ne_f (by omega) | exact b_sub rfl (by omega) (by omega) | exact b_add rfl (by omega) (by omega)) rfl rfl rfl) rfl rfl ?_; conv => whnf) | (refine r_put (p_idx (getA _ (by assumption)) rfl rfl rfl) rfl rfl ?_; conv => whnf) | (refine r_put (p_lenm rfl ⟨_, _, _, _, rfl⟩) rfl rfl ?_; conv => whnf) | (refine r_put (p_lenom rfl rfl ⟨_, _, _, _, rfl⟩) rfl rfl ?_; conv => whnf) | (refine r_put (p_len (y := .v (.string _)) rfl rfl rfl) rfl rfl ?_; conv => whnf) | (refine r_put (p_len rfl rfl ⟨_, _, _, _, rfl⟩) rfl rfl ?_; conv => whnf) | (refine r_step (p_call (h1) rfl (by first | exact .inl rfl | exact .inr ⟨by simp [flatA, flatL], by first | exact flat_o0 | exact flat_o1 (by first | exact flat_map flat_str _ | exact flat_map flat_ent _ | exact flat_map flat_edt _ | exact flat_map flat_ref _ | exact flat_map flat_int _) | exact flat_o2 (by first | exact flat_map flat_str _ | exact flat_map flat_ent _ | exact flat_map flat_edt _ | exact flat_map flat_ref _ | exact flat_map flat_int _) (by first | exact flat_map flat_str _ | exact flat_map flat_ent _ | exact flat_map flat_edt _ | exact flat_map flat_ref _ | exact flat_map flat_int _)⟩) (by first | exact trivial | exact ⟨⟨rfl, rfl, rfl⟩, trivial⟩ | exact ⟨⟨rfl, rfl, rfl⟩, ⟨rfl, rfl, rfl⟩, trivial⟩ | exact ⟨⟨rfl, rfl, rfl⟩, ⟨rfl, rfl, rfl⟩, ⟨rfl, rfl, rfl⟩, trivial⟩) rfl rfl) rfl rfl (fun e => by first | exact .inl rfl | contradiction | exact .inr (.inl (by kernel_rfl))) ?_; conv => whnf))
    exact r_ret1 rfl trivial
  | true =>
    rw [hb] at h1
    refine r_of Th_ok (by kernel_rfl) Try.func93 rfl Try.ntmps93 Try.results93 (by kernel_rfl) rfl ?_; conv => whnf
    repeat (first | first | (refine r_put (p_bin (by first | exact b_lt_t (by omega) | exact b_lt_f (by omega) | exact b_le_t (by omega) | exact b_le_f (by omega) | exact b_gt_t (by omega) | exact b_gt_f (by omega) | exact b_ge_t (by omega) | exact b_ge_f (by omega) | exact b_eq_t (by omega) | exact b_eq_f (by omega) | exact b_ne_t (by omega) | exact b_ne_f (by omega) | exact b_sub rfl (by omega) (by omega) | exact b_add rfl (by omega) (by omega)) rfl rfl rfl) rfl rfl ?_; conv => whnf) | (refine r_put (p_idx (getA _ (by assumption)) rfl rfl rfl) rfl rfl ?_; conv => whnf) | (refine r_put (p_lenm rfl ⟨_, _, _, _, rfl⟩) rfl rfl ?_; conv => whnf) | (refine r_put (p_lenom rfl rfl ⟨_, _, _, _, rfl⟩) rfl rfl ?_; conv => whnf) | (refine r_put (p_len (y := .v (.string _)) rfl rfl rfl) rfl rfl ?_; conv => whnf) | (refine r_put (p_len rfl rfl ⟨_, _, _, _, rfl⟩) rfl rfl ?_; conv => whnf) | (refine r_step (p_call (h1) rfl (by first | exact .inl rfl | exact .inr ⟨by simp [flatA, flatL], by first | exact flat_o0 | exact flat_o1 (by first | exact flat_map flat_str _ | exact flat_map flat_ent _ | exact flat_map flat_edt _ | exact flat_map flat_ref _ | exact flat_map flat_int _) | exact flat_o2 (by first | exact flat_map flat_str _ | exact flat_map flat_ent _ | exact flat_map flat_edt _ | exact flat_map flat_ref _ | exact flat_map flat_int _) (by first | exact flat_map flat_str _ | exact flat_map flat_ent _ | exact flat_map flat_edt _ | exact flat_map flat_ref _ | exact flat_map flat_int _)⟩) (by first | exact trivial | exact ⟨⟨rfl, rfl, rfl⟩, trivial⟩ | exact ⟨⟨rfl, rfl, rfl⟩, ⟨rfl, rfl, rfl⟩, trivial⟩ | exact ⟨⟨rfl, rfl, rfl⟩, ⟨rfl, rfl, rfl⟩, ⟨rfl, rfl, rfl⟩, trivial⟩) rfl rfl) rfl rfl (fun e => by first | exact .inl rfl | contradiction | exact .inr (.inl (by kernel_rfl))) ?_; conv => whnf))
    refine r_loop (ι := { k : Nat // k ≤ ids.length ∧ ∀ i (h : i < ids.length), i < k → idOK cs.length ids[i] }) (fun k => ⟨[(0, .lst 2 (cs.map comA)), (13, .lst 1 (ids.map intA)), (14, .v (.int .i64 (ids.length : Int))), (15, .v (.int .i64 (k.1 : Int)))], []⟩) (fun k => ids.length - k.1) ⟨0, Nat.zero_le _, fun i h h' => by omega⟩ (by refine ⟨?_, ?_⟩ <;> (repeat (first | trivial | exact ⟨rfl, trivial⟩ | refine ⟨rfl, ?_⟩ | refine ⟨.inl ⟨rfl, rfl⟩, ?_⟩ | refine ⟨.inr ⟨_, _, rfl, rfl, rfl, rfl, rfl⟩, ?_⟩))) ?_
    rintro ⟨k, hk, hg⟩
    dsimp only at hk hg ⊢
    conv => whnf
    by_cases hlt : k < ids.length
    case neg =>
      rw [askR_ok hl hb (fun x hx => by obtain ⟨i, hi', rfl⟩ := List.getElem_of_mem hx; exact hg i hi' (by omega))]
      repeat (first | (refine r_put (p_bin (by first | exact b_lt_t (by omega) | exact b_lt_f (by omega) | exact b_le_t (by omega) | exact b_le_f (by omega) | exact b_gt_t (by omega) | exact b_gt_f (by omega) | exact b_ge_t (by omega) | exact b_ge_f (by omega) | exact b_eq_t (by omega) | exact b_eq_f (by omega) | exact b_ne_t (by omega) | exact b_ne_f (by omega) | exact b_sub rfl (by omega) (by omega) | exact b_add rfl (by omega) (by omega)) rfl rfl rfl) rfl rfl ?_; conv => whnf) | (refine r_put (p_idx (getA _ (by assumption)) rfl rfl rfl) rfl rfl ?_; conv => whnf) | (refine r_put (p_lenm rfl ⟨_, _, _, _, rfl⟩) rfl rfl ?_; conv => whnf) | (refine r_put (p_lenom rfl rfl ⟨_, _, _, _, rfl⟩) rfl rfl ?_; conv => whnf) | (refine r_put (p_len (y := .v (.string _)) rfl rfl rfl) rfl rfl ?_; conv => whnf) | (refine r_put (p_len rfl rfl ⟨_, _, _, _, rfl⟩) rfl rfl ?_; conv => whnf))
      exact r_ret1 rfl trivial
    by_cases h2 : ids[k] < 1
    · rw [askR_none hl hb (fun h => by have := (h _ (List.getElem_mem hlt)).1; omega)]
      repeat (first | (refine r_put (p_bin (by first | exact b_lt_t (by omega) | exact b_lt_f (by omega) | exact b_le_t (by omega) | exact b_le_f (by omega) | exact b_gt_t (by omega) | exact b_gt_f (by omega) | exact b_ge_t (by omega) | exact b_ge_f (by omega) | exact b_eq_t (by omega) | exact b_eq_f (by omega) | exact b_ne_t (by omega) | exact b_ne_f (by omega) | exact b_sub rfl (by omega) (by omega) | exact b_add rfl (by omega) (by omega)) rfl rfl rfl) rfl rfl ?_; conv => whnf) | (refine r_put (p_idx (getA _ (by assumption)) rfl rfl rfl) rfl rfl ?_; conv => whnf) | (refine r_put (p_lenm rfl ⟨_, _, _, _, rfl⟩) rfl rfl ?_; conv => whnf) | (refine r_put (p_lenom rfl rfl ⟨_, _, _, _, rfl⟩) rfl rfl ?_; conv => whnf) | (refine r_put (p_len (y := .v (.string _)) rfl rfl rfl) rfl rfl ?_; conv => whnf) | (refine r_put (p_len rfl rfl ⟨_, _, _, _, rfl⟩) rfl rfl ?_; conv => whnf))
      exact r_ret1 rfl trivial
    by_cases h3 : ids[k] > (cs.length : Int)
    · rw [askR_none hl hb (fun h => by have := (h _ (List.getElem_mem hlt)).2; omega)]
      repeat (first | (refine r_put (p_bin (by first | exact b_lt_t (by omega) | exact b_lt_f (by omega) | exact b_le_t (by omega) | exact b_le_f (by omega) | exact b_gt_t (by omega) | exact b_gt_f (by omega) | exact b_ge_t (by omega) | exact b_ge_f (by omega) | exact b_eq_t (by omega) | exact b_eq_f (by omega) | exact b_ne_t (by omega) | exact b_ne_f (by omega) | exact b_sub rfl (by omega) (by omega) | exact b_add rfl (by omega) (by omega)) rfl rfl rfl) rfl rfl ?_; conv => whnf) | (refine r_put (p_idx (getA _ (by assumption)) rfl rfl rfl) rfl rfl ?_; conv => whnf) | (refine r_put (p_lenm rfl ⟨_, _, _, _, rfl⟩) rfl rfl ?_; conv => whnf) | (refine r_put (p_lenom rfl rfl ⟨_, _, _, _, rfl⟩) rfl rfl ?_; conv => whnf) | (refine r_put (p_len (y := .v (.string _)) rfl rfl rfl) rfl rfl ?_; conv => whnf) | (refine r_put (p_len rfl rfl ⟨_, _, _, _, rfl⟩) rfl rfl ?_; conv => whnf))
      exact r_ret1 rfl trivial
    repeat (first | (refine r_put (p_bin (by first | exact b_lt_t (by omega) | exact b_lt_f (by omega) | exact b_le_t (by omega) | exact b_le_f (by omega) | exact b_gt_t (by omega) | exact b_gt_f (by omega) | exact b_ge_t (by omega) | exact b_ge_f (by omega) | exact b_eq_t (by omega) | exact b_eq_f (by omega) | exact b_ne_t (by omega) | exact b_ne_f (by omega) | exact b_sub rfl (by omega) (by omega) | exact b_add rfl (by omega) (by omega)) rfl rfl rfl) rfl rfl ?_; conv => whnf) | (refine r_put (p_idx (getA _ (by assumption)) rfl rfl rfl) rfl rfl ?_; conv => whnf) | (refine r_put (p_lenm rfl ⟨_, _, _, _, rfl⟩) rfl rfl ?_; conv => whnf) | (refine r_put (p_lenom rfl rfl ⟨_, _, _, _, rfl⟩) rfl rfl ?_; conv => whnf) | (refine r_put (p_len (y := .v (.string _)) rfl rfl rfl) rfl rfl ?_; conv => whnf) | (refine r_put (p_len rfl rfl ⟨_, _, _, _, rfl⟩) rfl rfl ?_; conv => whnf))
    exact ⟨⟨k + 1, hlt, fun i h h' => by
      rcases Nat.lt_or_ge i k with h2' | h2'
      · exact hg i h h2'
      · have : i = k := by omega
        subst this; exact ⟨by omega, by omega⟩⟩, by refine ⟨?_, ?_⟩ <;> (repeat (first | trivial | exact ⟨rfl, trivial⟩ | refine ⟨rfl, ?_⟩ | refine ⟨.inl ⟨rfl, rfl⟩, ?_⟩ | refine ⟨.inr ⟨_, _, rfl, rfl, rfl, rfl, rfl⟩, ?_⟩)), by simp; omega⟩

/-! ### ancestors -/
/-- p is a parent of commit q -/
def Par (cs : List Cmt) (q p : Nat) : Prop := ∃ h : q - 1 < cs.length, 1 ≤ q ∧ (p : Int) ∈ (cs[q - 1]).1
inductive Anc (cs : List Cmt) (b : Nat) : Nat → Prop
  | refl : Anc cs b b
  | up {q p : Nat} : Anc cs b q → Par cs q p → Anc cs b p
theorem Anc.iff {cs : List Cmt} {b a : Nat} : Anc cs b a ↔ a = b ∨ ∃ q, Anc cs b q ∧ Par cs q a :=
  ⟨fun h => by cases h with
    | refl => exact .inl rfl
    | up h1 h2 => exact .inr ⟨_, h1, h2⟩, fun h => by
    rcases h with rfl | ⟨q, h1, h2⟩
    · exact .refl
    · exact .up h1 h2⟩
theorem comsB_at : ∀ {cs : List Cmt} {n : Nat}, comsB n cs = true → ∀ i (h : i < cs.length), comB (n + i) cs[i] = true
  | [], n, _, i, h => by simp at h
  | c :: cs, n, hb, 0, h => by
    unfold comsB at hb
    simp only [Bool.and_eq_true] at hb
    exact hb.1
  | c :: cs, n, hb, i + 1, h => by
    unfold comsB at hb
    simp only [Bool.and_eq_true] at hb
    have := comsB_at hb.2 i (by simpa using h)
    simpa [Nat.add_assoc, Nat.add_comm 1 i] using this
theorem sto_par {cs : List Cmt} (hb : stoB cs = true) {i : Nat} (h : i < cs.length) : parOK i (cs[i]).1 := by
  unfold stoB at hb
  simp only [Bool.and_eq_true] at hb
  have := comsB_at hb.2 i h
  unfold comB at this
  simp only [Bool.and_eq_true] at this
  have h2 := this.2
  rw [Nat.zero_add] at h2
  unfold parB at h2
  simpa using h2
theorem sto_len {cs : List Cmt} (hb : stoB cs = true) : 1 ≤ cs.length ∧ cs.length ≤ 60 := by
  unfold stoB at hb
  simp only [Bool.and_eq_true, decide_eq_true_eq] at hb
  exact hb.1
/-- parents come ahead -/
theorem Par.lt {cs : List Cmt} (hb : stoB cs = true) {q p : Nat} (h : Par cs q p) : 1 ≤ p ∧ p < q ∧ q ≤ cs.length := by
  obtain ⟨h1, h2, h3⟩ := h
  obtain ⟨_, _, k⟩ := sto_par hb h1
  obtain ⟨i, hi, e⟩ := List.getElem_of_mem h3
  obtain ⟨_, k1, k2, _⟩ := k i hi
  rw [e] at k1 k2
  exact ⟨by omega, by omega, by omega⟩
theorem Anc.le {cs : List Cmt} (hb : stoB cs = true) {b a : Nat} (h : Anc cs b a) (h1 : 1 ≤ b) : 1 ≤ a ∧ a ≤ b := by
  induction h with
  | refl => exact ⟨h1, Nat.le_refl _⟩
  | up _ hp ih => have := hp.lt hb; omega
open Classical in
noncomputable def reachL (cs : List Cmt) (b : Nat) : List Bool := (List.range (cs.length + 1)).map fun a => decide (Anc cs b a)
end Go.Proofs.Ytnkceemdnefomaa.AM
/- The commits that a commit is made of: the reference's side. -/
namespace Go.Proofs.Ytnkceemdnefomaa.AM
open Go Go.RowKit
set_option linter.unusedVariables false
set_option linter.unusedSimpArgs false
set_option maxRecDepth 100000
def bA (b : Bool) : AV := .v (.bool b)
theorem flat_bA (e : Bool) : flatA (bA e) := by unfold bA; simp [flatA]
def rng (m : Nat) (f : Nat → Bool) : List AV := ((List.range m).map f).map bA
theorem rng_len {m : Nat} {f : Nat → Bool} : (rng m f).length = m := by simp [rng]
theorem rng_get {m j : Nat} {f : Nat → Bool} (h : j < m) : (rng m f)[j]? = some (bA (f j)) := by simp [rng, h]
theorem rng_set {m j : Nat} {f : Nat → Bool} (h : j < m) : (rng m f).set j (bA true) = rng m (fun x => f x || decide (x = j)) := by
  unfold rng
  apply List.ext_getElem
  · simp
  · intro i h1 h2
    rw [List.getElem_set]
    split
    · rename_i e; subst e; simp
    · rename_i e; simp [Ne.symm e]
theorem rng_rep {m : Nat} : List.replicate m (AV.v (.bool false)) = rng m (fun _ => false) := by
  unfold rng
  apply List.ext_getElem
  · simp
  · intro i h1 h2; simp [bA]
theorem rng_ext {m : Nat} {f g : Nat → Bool} (h : ∀ j, j < m → f j = g j) : rng m f = rng m g := by
  unfold rng
  congr 1
  apply List.map_congr_left
  intro j hj; exact h j (List.mem_range.1 hj)
open Classical in
noncomputable def ancB (cs : List Cmt) (b a : Nat) : Bool := decide (Anc cs b a)
theorem ancB_t {cs : List Cmt} {b a : Nat} : ancB cs b a = true ↔ Anc cs b a := by simp [ancB]
/-- what is marked when every commit above i is done -/
def Stg (cs : List Cmt) (b i : Nat) (f : Nat → Bool) : Prop := ∀ j, f j = true ↔ (j = b ∨ ∃ q, i < q ∧ Anc cs b q ∧ Par cs q j)
theorem Stg.at {cs : List Cmt} (hb : stoB cs = true) {b i : Nat} {f : Nat → Bool} (h : Stg cs b i f) : f i = true ↔ Anc cs b i := by
  rw [h i, Anc.iff]
  constructor
  · rintro (h | ⟨q, _, h1, h2⟩)
    · exact .inl h
    · exact .inr ⟨q, h1, h2⟩
  · rintro (h | ⟨q, h1, h2⟩)
    · exact .inl h
    · exact .inr ⟨q, by have := h2.lt hb; omega, h1, h2⟩
theorem Stg.end {cs : List Cmt} (hb : stoB cs = true) {b : Nat} {f : Nat → Bool} (h : Stg cs b 0 f) : ∀ j, f j = ancB cs b j := fun j => by
  have : f j = true ↔ ancB cs b j = true := by
    rw [h j, ancB_t, Anc.iff]
    constructor
    · rintro (h | ⟨q, _, h1, h2⟩)
      · exact .inl h
      · exact .inr ⟨q, h1, h2⟩
    · rintro (h | ⟨q, h1, h2⟩)
      · exact .inl h
      · exact .inr ⟨q, by have := h2.lt hb; omega, h1, h2⟩
  cases h1 : f j <;> cases h2 : ancB cs b j <;> simp_all
theorem Stg.skip {cs : List Cmt} (hb : stoB cs = true) {b i : Nat} {f : Nat → Bool} (h : Stg cs b (i + 1) f) (hn : ¬ f (i + 1) = true) : Stg cs b i f := fun j => by
  rw [h j]
  constructor
  · rintro (h | ⟨q, h0, h1, h2⟩)
    · exact .inl h
    · exact .inr ⟨q, by omega, h1, h2⟩
  · rintro (h' | ⟨q, h0, h1, h2⟩)
    · exact .inl h'
    · rcases Nat.lt_or_ge (i + 1) q with h3 | h3
      · exact .inr ⟨q, h3, h1, h2⟩
      · have : q = i + 1 := by omega
        subst this
        exact absurd ((h.at hb).2 h1) hn
/-- and k of i's parents besides -/
def Stp (cs : List Cmt) (b i : Nat) (ps : List Int) (k : Nat) (f : Nat → Bool) : Prop := ∀ j, f j = true ↔ (j = b ∨ (∃ q, i < q ∧ Anc cs b q ∧ Par cs q j) ∨ ∃ x ∈ ps.take k, x = (j : Int))
theorem Stp.zero {cs : List Cmt} {b i : Nat} {ps : List Int} {f : Nat → Bool} (h : Stg cs b i f) : Stp cs b i ps 0 f := fun j => by rw [h j]; simp
theorem Stp.next {cs : List Cmt} {b i k p : Nat} {ps : List Int} {f : Nat → Bool} (h : Stp cs b i ps k f) (hk : k < ps.length) (hp : ps[k] = (p : Int)) : Stp cs b i ps (k + 1) (fun x => f x || decide (x = p)) := fun j => by
  simp only [Bool.or_eq_true, decide_eq_true_eq]
  rw [h j, List.take_succ_eq_append_getElem hk]
  simp only [List.mem_append, List.mem_singleton]
  constructor
  · rintro ((h | h | ⟨x, h, e⟩) | h)
    · exact .inl h
    · exact .inr (.inl h)
    · exact .inr (.inr ⟨x, .inl h, e⟩)
    · exact .inr (.inr ⟨_, .inr rfl, by rw [hp, h]⟩)
  · rintro (h | h | ⟨x, h | h, e⟩)
    · exact .inl (.inl h)
    · exact .inl (.inr (.inl h))
    · exact .inl (.inr (.inr ⟨x, h, e⟩))
    · refine .inr ?_
      rw [h, hp] at e; omega
theorem Stp.done {cs : List Cmt} {b i : Nat} {f : Nat → Bool} (hi : i < cs.length) (h : Stp cs b (i + 1) (cs[i]).1 (cs[i]).1.length f) (ha : Anc cs b (i + 1)) : Stg cs b i f := fun j => by
  rw [h j, List.take_length]
  constructor
  · rintro (h | ⟨q, h0, h1, h2⟩ | ⟨x, h, e⟩)
    · exact .inl h
    · exact .inr ⟨q, by omega, h1, h2⟩
    · exact .inr ⟨i + 1, by omega, ha, ⟨by simpa using hi, by omega, by subst e; simpa using h⟩⟩
  · rintro (h' | ⟨q, h0, h1, h2⟩)
    · exact .inl h'
    · rcases Nat.lt_or_ge (i + 1) q with h3 | h3
      · exact .inr (.inl ⟨q, h3, h1, h2⟩)
      · have : q = i + 1 := by omega
        subst this
        obtain ⟨_, _, h4⟩ := h2
        exact .inr (.inr ⟨_, by simpa using h4, rfl⟩)
attribute [local irreducible] ACode AOps RetG RetM Pre ACG
theorem ac_l03Reach {cs : List Cmt} {b : Nat} (hb : stoB cs = true) (h1 : 1 ≤ b) (h2 : b ≤ cs.length) : AC Try.prog 92 [.lst 2 (cs.map comA), .v (.int .i64 (b : Int))] ⟨.own 0, [⟨4, 1, rng (cs.length + 1) (ancB cs b)⟩]⟩ := by
  obtain ⟨hl1, hl2⟩ := sto_len hb
  have hrow : (List.replicate (cs.length + 1) (AV.v (.bool false))).set b (bA true) = rng (cs.length + 1) (fun x => decide (x = b)) := by
    rw [rng_rep, rng_set (by omega)]; exact rng_ext (fun j _ => by simp)
  have hst0 : Stg cs b b (fun x => decide (x = b)) := fun j => by
    simp only [decide_eq_true_eq]
    constructor
    · exact .inl
    · rintro (h | ⟨q, h3, h4, _⟩)
      · exact h
      · have := h4.le hb h1; omega
  have hq0 : (List.replicate (cs.length + 1) (AV.v (.bool false)))[b]? = some (AV.v (.bool false)) := by
    rw [List.getElem?_replicate, if_pos (by omega)]
  refine r_of Th_ok (by kernel_rfl) Try.func92 rfl Try.ntmps92 Try.results92 (by kernel_rfl) rfl ?_; conv => whnf
  repeat (first | first | (refine r_put (p_bin (by first | exact b_lt_t (by omega) | exact b_lt_f (by omega) | exact b_le_t (by omega) | exact b_le_f (by omega) | exact b_gt_t (by omega) | exact b_gt_f (by omega) | exact b_ge_t (by omega) | exact b_ge_f (by omega) | exact b_eq_t (by omega) | exact b_eq_f (by omega) | exact b_ne_t (by omega) | exact b_ne_f (by omega) | exact b_sub rfl (by omega) (by omega) | exact b_add rfl (by omega) (by omega)) rfl rfl rfl) rfl rfl ?_; conv => whnf) | (refine r_put (p_idx (getA _ (by assumption)) rfl rfl rfl) rfl rfl ?_; conv => whnf) | (refine r_put (p_lenm rfl ⟨_, _, _, _, rfl⟩) rfl rfl ?_; conv => whnf) | (refine r_put (p_lenom rfl rfl ⟨_, _, _, _, rfl⟩) rfl rfl ?_; conv => whnf) | (refine r_put (p_len (y := .v (.string _)) rfl rfl rfl) rfl rfl ?_; conv => whnf) | (refine r_put (p_len rfl rfl ⟨_, _, _, _, rfl⟩) rfl rfl ?_; conv => whnf) | (refine r_step (p_make (n := cs.length + 1) (by omega) (by omega) rfl rfl rfl rfl) rfl rfl (fun e => by first | exact .inl rfl | contradiction | exact .inr (.inl (by kernel_rfl))) ?_; conv => whnf) | (refine r_put (p_oidx (j := b) (by simp; omega) rfl rfl rfl rfl rfl) rfl rfl ?_; conv => whnf) | (refine r_step (p_ostore hq0 rfl rfl rfl rfl rfl rfl) rfl rfl (fun e => by first | exact .inl rfl | contradiction | exact .inr (.inl (by kernel_rfl))) ?_; conv => whnf))
  refine r_loop (ι := { p : Nat × (Nat → Bool) // p.1 ≤ cs.length ∧ Stg cs b p.1 p.2 }) (fun p => ⟨[(0, .lst 2 (cs.map comA)), (5, .own 12), (6, .v (.int .i64 (p.1.1 : Int)))], [(12, ⟨4, 1, rng (cs.length + 1) p.1.2⟩)]⟩) (fun p => p.1.1) ⟨(b, fun x => decide (x = b)), h2, hst0⟩ ⟨⟨congrArg (fun x => some (OB.mk _ _ x)) hrow, trivial⟩, .inl ⟨rfl, rfl⟩, .inl ⟨rfl, rfl⟩, .inl ⟨rfl, rfl⟩, trivial⟩ ?_
  rintro ⟨⟨k, f⟩, hk, hst⟩
  dsimp only at hk hst ⊢
  conv => whnf
  cases k with
  | zero =>
    repeat (first | (refine r_put (p_bin (by first | exact b_lt_t (by omega) | exact b_lt_f (by omega) | exact b_le_t (by omega) | exact b_le_f (by omega) | exact b_gt_t (by omega) | exact b_gt_f (by omega) | exact b_ge_t (by omega) | exact b_ge_f (by omega) | exact b_eq_t (by omega) | exact b_eq_f (by omega) | exact b_ne_t (by omega) | exact b_ne_f (by omega) | exact b_sub rfl (by omega) (by omega) | exact b_add rfl (by omega) (by omega)) rfl rfl rfl) rfl rfl ?_; conv => whnf) | (refine r_put (p_idx (getA _ (by assumption)) rfl rfl rfl) rfl rfl ?_; conv => whnf) | (refine r_put (p_lenm rfl ⟨_, _, _, _, rfl⟩) rfl rfl ?_; conv => whnf) | (refine r_put (p_lenom rfl rfl ⟨_, _, _, _, rfl⟩) rfl rfl ?_; conv => whnf) | (refine r_put (p_len (y := .v (.string _)) rfl rfl rfl) rfl rfl ?_; conv => whnf) | (refine r_put (p_len rfl rfl ⟨_, _, _, _, rfl⟩) rfl rfl ?_; conv => whnf))
    exact r_own1 rfl (congrArg (fun x => some (OB.mk _ _ x)) (rng_ext fun j _ => hst.end hb j))
  | succ i =>
    have hi : i < cs.length := hk
    have hlt : i + 1 < cs.length + 1 := by omega
    cases hf : f (i + 1) with
    | false =>
      have hget : (rng (cs.length + 1) f)[i + 1]? = some (AV.v (.bool false)) := by rw [rng_get hlt, hf]; rfl
      repeat (first | (refine r_put (p_bin (b_sub (c := (i : Int)) (by omega) (by omega) (by omega)) rfl rfl rfl) rfl rfl ?_; conv => whnf) | first | (refine r_put (p_bin (by first | exact b_lt_t (by omega) | exact b_lt_f (by omega) | exact b_le_t (by omega) | exact b_le_f (by omega) | exact b_gt_t (by omega) | exact b_gt_f (by omega) | exact b_ge_t (by omega) | exact b_ge_f (by omega) | exact b_eq_t (by omega) | exact b_eq_f (by omega) | exact b_ne_t (by omega) | exact b_ne_f (by omega) | exact b_sub rfl (by omega) (by omega) | exact b_add rfl (by omega) (by omega)) rfl rfl rfl) rfl rfl ?_; conv => whnf) | (refine r_put (p_idx (getA _ (by assumption)) rfl rfl rfl) rfl rfl ?_; conv => whnf) | (refine r_put (p_lenm rfl ⟨_, _, _, _, rfl⟩) rfl rfl ?_; conv => whnf) | (refine r_put (p_lenom rfl rfl ⟨_, _, _, _, rfl⟩) rfl rfl ?_; conv => whnf) | (refine r_put (p_len (y := .v (.string _)) rfl rfl rfl) rfl rfl ?_; conv => whnf) | (refine r_put (p_len rfl rfl ⟨_, _, _, _, rfl⟩) rfl rfl ?_; conv => whnf) | (refine o_put (p_oidx (j := i + 1) (by rw [rng_len]; exact hlt) rfl rfl rfl rfl rfl) rfl rfl ?_) | (refine r_put (p_old rfl rfl hget rfl rfl rfl rfl) rfl rfl ?_; conv => whnf))
      exact ⟨⟨(i, f), by omega, hst.skip hb (by simp [hf])⟩, by refine ⟨?_, ?_⟩ <;> (repeat (first | trivial | exact ⟨rfl, trivial⟩ | refine ⟨rfl, ?_⟩ | refine ⟨.inl ⟨rfl, rfl⟩, ?_⟩ | refine ⟨.inr ⟨_, _, rfl, rfl, rfl, rfl, rfl⟩, ?_⟩)), by simp⟩
    | true =>
      have ha : Anc cs b (i + 1) := (hst.at hb).1 hf
      have hget : (rng (cs.length + 1) f)[i + 1]? = some (AV.v (.bool true)) := by rw [rng_get hlt, hf]; rfl
      repeat (first | (refine r_put (p_bin (b_sub (c := (i : Int)) (by omega) (by omega) (by omega)) rfl rfl rfl) rfl rfl ?_; conv => whnf) | first | (refine r_put (p_bin (by first | exact b_lt_t (by omega) | exact b_lt_f (by omega) | exact b_le_t (by omega) | exact b_le_f (by omega) | exact b_gt_t (by omega) | exact b_gt_f (by omega) | exact b_ge_t (by omega) | exact b_ge_f (by omega) | exact b_eq_t (by omega) | exact b_eq_f (by omega) | exact b_ne_t (by omega) | exact b_ne_f (by omega) | exact b_sub rfl (by omega) (by omega) | exact b_add rfl (by omega) (by omega)) rfl rfl rfl) rfl rfl ?_; conv => whnf) | (refine r_put (p_idx (getA _ (by assumption)) rfl rfl rfl) rfl rfl ?_; conv => whnf) | (refine r_put (p_lenm rfl ⟨_, _, _, _, rfl⟩) rfl rfl ?_; conv => whnf) | (refine r_put (p_lenom rfl rfl ⟨_, _, _, _, rfl⟩) rfl rfl ?_; conv => whnf) | (refine r_put (p_len (y := .v (.string _)) rfl rfl rfl) rfl rfl ?_; conv => whnf) | (refine r_put (p_len rfl rfl ⟨_, _, _, _, rfl⟩) rfl rfl ?_; conv => whnf) | (refine o_put (p_oidx (j := i + 1) (by rw [rng_len]; exact hlt) rfl rfl rfl rfl rfl) rfl rfl ?_) | (refine r_put (p_old rfl rfl hget rfl rfl rfl rfl) rfl rfl ?_; conv => whnf))
      have hpar := sto_par hb hi
      refine r_loop (ι := { p : Nat × (Nat → Bool) // p.1 ≤ (cs[i]).1.length ∧ Stp cs b (i + 1) (cs[i]).1 p.1 p.2 }) (fun p => ⟨[(0, .lst 2 (cs.map comA)), (5, .own 12), (6, .v (.int .i64 ((i + 1 : Nat) : Int))), (7, .v (.int .i64 (p.1.1 : Int)))], [(12, ⟨4, 1, rng (cs.length + 1) p.1.2⟩)]⟩) (fun p => (cs[i]).1.length - p.1.1) ⟨(0, f), Nat.zero_le _, Stp.zero hst⟩ (by refine ⟨?_, ?_⟩ <;> (repeat (first | trivial | exact ⟨rfl, trivial⟩ | refine ⟨rfl, ?_⟩ | refine ⟨.inl ⟨rfl, rfl⟩, ?_⟩ | refine ⟨.inr ⟨_, _, rfl, rfl, rfl, rfl, rfl⟩, ?_⟩))) ?_
      rintro ⟨⟨kk, g⟩, hkk, hsp⟩
      dsimp only at hkk hsp ⊢
      conv => whnf
      have hl3 : (cs[i]).1.length ≤ 2 := hpar.1
      by_cases hlk : kk < (cs[i]).1.length
      · obtain ⟨_, g1, g2, _⟩ := hpar.2.2 kk hlk
        obtain ⟨p, hp⟩ : ∃ p : Nat, (cs[i]).1[kk] = (p : Int) := ⟨((cs[i]).1[kk]).toNat, by omega⟩
        have hpl : p < cs.length + 1 := by omega
        repeat (first | (refine r_put (p_bin (b_sub (c := (i : Int)) (by omega) (by omega) (by omega)) rfl rfl rfl) rfl rfl ?_; conv => whnf) | first | (refine r_put (p_bin (by first | exact b_lt_t (by omega) | exact b_lt_f (by omega) | exact b_le_t (by omega) | exact b_le_f (by omega) | exact b_gt_t (by omega) | exact b_gt_f (by omega) | exact b_ge_t (by omega) | exact b_ge_f (by omega) | exact b_eq_t (by omega) | exact b_eq_f (by omega) | exact b_ne_t (by omega) | exact b_ne_f (by omega) | exact b_sub rfl (by omega) (by omega) | exact b_add rfl (by omega) (by omega)) rfl rfl rfl) rfl rfl ?_; conv => whnf) | (refine r_put (p_idx (getA _ (by assumption)) rfl rfl rfl) rfl rfl ?_; conv => whnf) | (refine r_put (p_lenm rfl ⟨_, _, _, _, rfl⟩) rfl rfl ?_; conv => whnf) | (refine r_put (p_lenom rfl rfl ⟨_, _, _, _, rfl⟩) rfl rfl ?_; conv => whnf) | (refine r_put (p_len (y := .v (.string _)) rfl rfl rfl) rfl rfl ?_; conv => whnf) | (refine r_put (p_len rfl rfl ⟨_, _, _, _, rfl⟩) rfl rfl ?_; conv => whnf) | (refine r_put (p_oidx (j := p) (by rw [rng_len]; exact hpl) rfl rfl (by show AV.v (.int .i64 (cs[i]).1[kk]) = _; rw [hp]) rfl rfl) rfl rfl ?_; conv => whnf) | (refine r_step (p_ostore (rng_get hpl) rfl rfl rfl rfl rfl rfl) rfl rfl (fun e => by first | exact .inl rfl | contradiction | exact .inr (.inl (by kernel_rfl))) ?_; conv => whnf))
        exact ⟨⟨(kk + 1, fun x => g x || decide (x = p)), hlk, hsp.next hlk hp⟩, ⟨⟨congrArg (fun x => some (OB.mk _ _ x)) (rng_set hpl), trivial⟩, .inl ⟨rfl, rfl⟩, .inl ⟨rfl, rfl⟩, .inl ⟨rfl, rfl⟩, .inl ⟨rfl, rfl⟩, trivial⟩, by simp; omega⟩
      · have hke : kk = (cs[i]).1.length := by omega
        rw [hke] at hsp
        repeat (first | (refine r_put (p_bin (b_sub (c := (i : Int)) (by omega) (by omega) (by omega)) rfl rfl rfl) rfl rfl ?_; conv => whnf) | first | (refine r_put (p_bin (by first | exact b_lt_t (by omega) | exact b_lt_f (by omega) | exact b_le_t (by omega) | exact b_le_f (by omega) | exact b_gt_t (by omega) | exact b_gt_f (by omega) | exact b_ge_t (by omega) | exact b_ge_f (by omega) | exact b_eq_t (by omega) | exact b_eq_f (by omega) | exact b_ne_t (by omega) | exact b_ne_f (by omega) | exact b_sub rfl (by omega) (by omega) | exact b_add rfl (by omega) (by omega)) rfl rfl rfl) rfl rfl ?_; conv => whnf) | (refine r_put (p_idx (getA _ (by assumption)) rfl rfl rfl) rfl rfl ?_; conv => whnf) | (refine r_put (p_lenm rfl ⟨_, _, _, _, rfl⟩) rfl rfl ?_; conv => whnf) | (refine r_put (p_lenom rfl rfl ⟨_, _, _, _, rfl⟩) rfl rfl ?_; conv => whnf) | (refine r_put (p_len (y := .v (.string _)) rfl rfl rfl) rfl rfl ?_; conv => whnf) | (refine r_put (p_len rfl rfl ⟨_, _, _, _, rfl⟩) rfl rfl ?_; conv => whnf))
        exact ⟨⟨(i, g), by omega, hsp.done hi ha⟩, by refine ⟨?_, ?_⟩ <;> (repeat (first | trivial | exact ⟨rfl, trivial⟩ | refine ⟨rfl, ?_⟩ | refine ⟨.inl ⟨rfl, rfl⟩, ?_⟩ | refine ⟨.inr ⟨_, _, rfl, rfl, rfl, rfl, rfl⟩, ?_⟩)), by simp⟩
end Go.Proofs.Ytnkceemdnefomaa.AM
/- IsAncestor: the reference's side. -/
namespace Go.Proofs.Ytnkceemdnefomaa.AM
open Go Go.RowKit
set_option linter.unusedVariables false
set_option linter.unusedSimpArgs false
set_option maxRecDepth 100000
theorem r_tup2 {s : St} {Θ : Tab} {t1 t2 : Nat} {y1 y2 : AV} (h1 : retA s [] (s.sl t1) y1) (h2 : retA s [] (s.sl t2) y2) : RetQ Θ [.tmp t1, .tmp t2] ⟨.tup [y1, y2], []⟩ .ret s :=
  ⟨trivial, [], by simp, trivial, ⟨trivial, trivial, trivial⟩, ⟨_, rfl⟩, ⟨h1, h2, trivial⟩⟩
noncomputable def isAncR (cs : List Cmt) (a b : Int) : Bool := if askR cs [a, b] = 0 then ancB cs b.toNat a.toNat else false
attribute [local irreducible] ACode AOps RetG RetM Pre ACG
theorem ac_sIsAncestor {cs : List Cmt} {a b : Int} (hm : cs.length ≤ maxLen) (hc : comOK maxLen cs) : AC Try.prog 42 [.lst 2 (cs.map comA), .v (.int .i64 a), .v (.int .i64 b)] ⟨.tup [.v (.bool (isAncR cs a b)), .v (.int .i64 (askR cs [a, b]))], []⟩ := by
  have h1 := ac_l03Ask (ids := [a, b]) hm hc (by unfold maxLen; simp)
  unfold maxLen at hm
  by_cases hl : cs.length ≤ 4096
  case neg =>
    have h0 := askR_long (ids := [a, b]) hl
    unfold isAncR
    rw [h0, if_neg (by omega)]
    refine r_of Th_ok (by kernel_rfl) Try.func42 rfl Try.ntmps42 Try.results42 (by kernel_rfl) rfl ?_; conv => whnf
    repeat (first | (refine r_put (p_bin (by first | exact b_lt_t (by omega) | exact b_lt_f (by omega) | exact b_le_t (by omega) | exact b_le_f (by omega) | exact b_gt_t (by omega) | exact b_gt_f (by omega) | exact b_ge_t (by omega) | exact b_ge_f (by omega) | exact b_eq_t (by omega) | exact b_eq_f (by omega) | exact b_ne_t (by omega) | exact b_ne_f (by omega) | exact b_sub rfl (by omega) (by omega) | exact b_add rfl (by omega) (by omega)) rfl rfl rfl) rfl rfl ?_; conv => whnf) | (refine r_put (p_idx (getA _ (by assumption)) rfl rfl rfl) rfl rfl ?_; conv => whnf) | (refine r_put (p_lenm rfl ⟨_, _, _, _, rfl⟩) rfl rfl ?_; conv => whnf) | (refine r_put (p_lenom rfl rfl ⟨_, _, _, _, rfl⟩) rfl rfl ?_; conv => whnf) | (refine r_put (p_len (y := .v (.string _)) rfl rfl rfl) rfl rfl ?_; conv => whnf) | (refine r_put (p_len rfl rfl ⟨_, _, _, _, rfl⟩) rfl rfl ?_; conv => whnf))
    exact r_tup2 (ra_x rfl trivial) (ra_x rfl trivial)
  by_cases h0 : askR cs [a, b] = 0
  case neg =>
    unfold isAncR
    rw [if_neg h0]
    refine r_of Th_ok (by kernel_rfl) Try.func42 rfl Try.ntmps42 Try.results42 (by kernel_rfl) rfl ?_; conv => whnf
    repeat (first | first | (refine r_put (p_bin (by first | exact b_lt_t (by omega) | exact b_lt_f (by omega) | exact b_le_t (by omega) | exact b_le_f (by omega) | exact b_gt_t (by omega) | exact b_gt_f (by omega) | exact b_ge_t (by omega) | exact b_ge_f (by omega) | exact b_eq_t (by omega) | exact b_eq_f (by omega) | exact b_ne_t (by omega) | exact b_ne_f (by omega) | exact b_sub rfl (by omega) (by omega) | exact b_add rfl (by omega) (by omega)) rfl rfl rfl) rfl rfl ?_; conv => whnf) | (refine r_put (p_idx (getA _ (by assumption)) rfl rfl rfl) rfl rfl ?_; conv => whnf) | (refine r_put (p_lenm rfl ⟨_, _, _, _, rfl⟩) rfl rfl ?_; conv => whnf) | (refine r_put (p_lenom rfl rfl ⟨_, _, _, _, rfl⟩) rfl rfl ?_; conv => whnf) | (refine r_put (p_len (y := .v (.string _)) rfl rfl rfl) rfl rfl ?_; conv => whnf) | (refine r_put (p_len rfl rfl ⟨_, _, _, _, rfl⟩) rfl rfl ?_; conv => whnf) | (refine r_step (p_call (h1) rfl (by first | exact .inl rfl | exact .inr ⟨by simp [flatA, flatL], by first | exact flat_o0 | exact flat_o1 (by first | exact flat_map flat_str _ | exact flat_map flat_ent _ | exact flat_map flat_edt _ | exact flat_map flat_ref _ | exact flat_map flat_int _) | exact flat_o2 (by first | exact flat_map flat_str _ | exact flat_map flat_ent _ | exact flat_map flat_edt _ | exact flat_map flat_ref _ | exact flat_map flat_int _) (by first | exact flat_map flat_str _ | exact flat_map flat_ent _ | exact flat_map flat_edt _ | exact flat_map flat_ref _ | exact flat_map flat_int _)⟩) (by first | exact trivial | exact ⟨⟨rfl, rfl, rfl⟩, trivial⟩ | exact ⟨⟨rfl, rfl, rfl⟩, ⟨rfl, rfl, rfl⟩, trivial⟩ | exact ⟨⟨rfl, rfl, rfl⟩, ⟨rfl, rfl, rfl⟩, ⟨rfl, rfl, rfl⟩, trivial⟩) rfl rfl) rfl rfl (fun e => by first | exact .inl rfl | contradiction | exact .inr (.inl (by kernel_rfl))) ?_; conv => whnf))
    exact r_tup2 (ra_x rfl trivial) (ra_x rfl trivial)
  obtain ⟨hb, hids⟩ := askR_0 h0
  obtain ⟨a1, a2⟩ := hids a (by simp)
  obtain ⟨b1, b2⟩ := hids b (by simp)
  obtain ⟨a', rfl⟩ : ∃ a' : Nat, a = (a' : Int) := ⟨a.toNat, by omega⟩
  obtain ⟨b', rfl⟩ : ∃ b' : Nat, b = (b' : Int) := ⟨b.toNat, by omega⟩
  have hr : isAncR cs a' b' = ancB cs b' a' := by unfold isAncR; rw [if_pos h0]; simp
  have hal : a' < cs.length + 1 := by omega
  rw [hr]
  rw [h0] at h1 ⊢
  have h2 := ac_l03Reach (b := b') hb (by omega) (by omega)
  refine r_of Th_ok (by kernel_rfl) Try.func42 rfl Try.ntmps42 Try.results42 (by kernel_rfl) rfl ?_; conv => whnf
  repeat (first | first | (refine r_put (p_bin (by first | exact b_lt_t (by omega) | exact b_lt_f (by omega) | exact b_le_t (by omega) | exact b_le_f (by omega) | exact b_gt_t (by omega) | exact b_gt_f (by omega) | exact b_ge_t (by omega) | exact b_ge_f (by omega) | exact b_eq_t (by omega) | exact b_eq_f (by omega) | exact b_ne_t (by omega) | exact b_ne_f (by omega) | exact b_sub rfl (by omega) (by omega) | exact b_add rfl (by omega) (by omega)) rfl rfl rfl) rfl rfl ?_; conv => whnf) | (refine r_put (p_idx (getA _ (by assumption)) rfl rfl rfl) rfl rfl ?_; conv => whnf) | (refine r_put (p_lenm rfl ⟨_, _, _, _, rfl⟩) rfl rfl ?_; conv => whnf) | (refine r_put (p_lenom rfl rfl ⟨_, _, _, _, rfl⟩) rfl rfl ?_; conv => whnf) | (refine r_put (p_len (y := .v (.string _)) rfl rfl rfl) rfl rfl ?_; conv => whnf) | (refine r_put (p_len rfl rfl ⟨_, _, _, _, rfl⟩) rfl rfl ?_; conv => whnf) | (refine r_step (p_call (h1) rfl (by first | exact .inl rfl | exact .inr ⟨by simp [flatA, flatL], by first | exact flat_o0 | exact flat_o1 (by first | exact flat_map flat_str _ | exact flat_map flat_ent _ | exact flat_map flat_edt _ | exact flat_map flat_ref _ | exact flat_map flat_int _) | exact flat_o2 (by first | exact flat_map flat_str _ | exact flat_map flat_ent _ | exact flat_map flat_edt _ | exact flat_map flat_ref _ | exact flat_map flat_int _) (by first | exact flat_map flat_str _ | exact flat_map flat_ent _ | exact flat_map flat_edt _ | exact flat_map flat_ref _ | exact flat_map flat_int _)⟩) (by first | exact trivial | exact ⟨⟨rfl, rfl, rfl⟩, trivial⟩ | exact ⟨⟨rfl, rfl, rfl⟩, ⟨rfl, rfl, rfl⟩, trivial⟩ | exact ⟨⟨rfl, rfl, rfl⟩, ⟨rfl, rfl, rfl⟩, ⟨rfl, rfl, rfl⟩, trivial⟩) rfl rfl) rfl rfl (fun e => by first | exact .inl rfl | contradiction | exact .inr (.inl (by kernel_rfl))) ?_; conv => whnf) | (refine r_step (p_call (h2) rfl (by first | exact .inl rfl | exact .inr ⟨by simp [flatA, flatL], by first | exact flat_o0 | exact flat_o1 (by first | exact flat_map flat_str _ | exact flat_map flat_ent _ | exact flat_map flat_edt _ | exact flat_map flat_ref _ | exact flat_map flat_int _) | exact flat_o2 (by first | exact flat_map flat_str _ | exact flat_map flat_ent _ | exact flat_map flat_edt _ | exact flat_map flat_ref _ | exact flat_map flat_int _) (by first | exact flat_map flat_str _ | exact flat_map flat_ent _ | exact flat_map flat_edt _ | exact flat_map flat_ref _ | exact flat_map flat_int _)⟩) (by first | exact trivial | exact ⟨⟨rfl, rfl, rfl⟩, trivial⟩ | exact ⟨⟨rfl, rfl, rfl⟩, ⟨rfl, rfl, rfl⟩, trivial⟩ | exact ⟨⟨rfl, rfl, rfl⟩, ⟨rfl, rfl, rfl⟩, ⟨rfl, rfl, rfl⟩, trivial⟩) rfl rfl) rfl rfl (fun e => by first | exact .inl rfl | contradiction | exact .inr (.inl (by kernel_rfl))) ?_; conv => whnf) | (refine o_put (p_oidx (j := a') (by rw [rng_len]; exact hal) rfl rfl rfl rfl rfl) rfl rfl ?_) | (refine r_put (p_old rfl rfl (rng_get hal) rfl rfl rfl rfl) rfl rfl ?_; conv => whnf))
  exact r_tup2 (ra_x rfl trivial) (ra_x rfl trivial)
end Go.Proofs.Ytnkceemdnefomaa.AM
/- The commits that a commit is made of: the program's side (the walk's closure). -/
namespace Go.Proofs.Ytnkceemdnefomaa.AM
open Go Go.RowKit
set_option linter.unusedVariables false
set_option linter.unusedSimpArgs false
set_option maxRecDepth 100000
def parsN (cs : List Cmt) (id : Nat) : List Nat := match cs[id - 1]? with
  | some c => c.1.map Int.toNat
  | none => []
def nodeA (cs : List Cmt) : Nat → Nat → AV
  | 0, id => .agg [.v (.int .i64 (id : Int)), .lst 1 []]
  | n + 1, id => .agg [.v (.int .i64 (id : Int)), .lst 1 ((parsN cs id).map fun p => .ptr (nodeA cs n p))]
def mark (f : Nat → Bool) (i : Nat) : Nat → Bool := fun x => f x || decide (x = i)
def walkM (cs : List Cmt) : Nat → Nat → (Nat → Bool) → Nat → Bool
  | 0, id, f => f
  | n + 1, id, f => match f id with
    | true => f
    | false => (parsN cs id).foldl (fun g p => walkM cs n p g) (mark f id)
theorem getP_rng {m j : Nat} {f : Nat → Bool} (h : j < m) : getP (.agg (rng m f)) [j] 0 = some (bA (f j), 0 + j * 1) := by
  have hz : ∀ (k : Nat), k ≤ m → aszs ((rng m f).take k) = k := fun k hk => by
    rw [aszs_const (sz := 1) (fun x hx => by
      have := List.mem_of_mem_take hx
      unfold rng at this
      obtain ⟨b, _, rfl⟩ := List.mem_map.1 this
      rfl), List.length_take, rng_len, Nat.min_eq_left hk, Nat.mul_one]
  simp [getP, rng_get h, hz j (by omega)]
def seenO (f : Nat → Bool) : OB := ⟨.s 107, 61, [.agg (rng 61 f)]⟩
def walkO (x : AV) : OB := ⟨.o (some 151) 0 (.fn 129 [] [.optr 0 0 [] 0, .optr 1000000 0 [] 0]), 1, [x]⟩
theorem set_rng {j : Nat} {f : Nat → Bool} (h : j < 61) : setP (.agg (rng 61 f)) [j] (.v (.bool true)) = .agg (rng 61 (mark f j)) := by
  have := rng_set (m := 61) (f := f) h
  simp only [setP, rng_get h]
  exact congrArg AV.agg this
theorem r_retG0 {s : St} {Θ : Tab} {rout : List OB} (h : retIn s 0 rout) : RetG Θ [] rout ⟨.tup [], []⟩ .ret s := ⟨h, [], by simp, trivial, trivial, ⟨_, rfl⟩, trivial⟩
theorem r_retG0n {s : St} {Θ : Tab} {rout : List OB} (h : retIn s 0 rout) : RetG Θ [] rout ⟨.tup [], []⟩ .normal s := ⟨h, [], by simp, trivial, trivial, ⟨_, rfl⟩, trivial⟩
theorem parsN_lt {cs : List Cmt} (hb : stoB cs = true) {id : Nat} (h1 : 1 ≤ id) (h3 : id ≤ cs.length) : ∀ p ∈ parsN cs id, 1 ≤ p ∧ p < id := fun p hp => by
  have hi : id - 1 < cs.length := by omega
  unfold parsN at hp
  rw [List.getElem?_eq_getElem hi] at hp
  obtain ⟨y, hy, rfl⟩ := List.mem_map.1 hp
  obtain ⟨i, hi2, rfl⟩ := List.getElem_of_mem hy
  obtain ⟨_, k1, k2, _⟩ := (sto_par hb hi).2.2 i hi2
  omega
theorem parsN_len {cs : List Cmt} (hb : stoB cs = true) (id : Nat) : (parsN cs id).length ≤ 2 := by
  unfold parsN
  split
  · rename_i c h
    obtain ⟨hi, rfl⟩ := List.getElem?_eq_some_iff.1 h
    rw [List.length_map]; exact (sto_par hb hi).1
  · simp
attribute [local irreducible] ACode AOps RetG RetM Pre ACG
theorem acg_walk {cs : List Cmt} (hb : stoB cs = true) {x : AV} : ∀ (n id : Nat) (f : Nat → Bool), 1 ≤ id → id ≤ n → id ≤ cs.length → ACG Try.prog 129 [.ptr (nodeA cs n id), .optr 0 0 [] 0, .optr 1000000 0 [] 0] [seenO f, walkO x] [seenO (walkM cs n id f), walkO x] ⟨.tup [], []⟩ := by
  intro n
  induction n with
  | zero => intro id f h1 h2; omega
  | succ n ih =>
    intro id f h1 h2 h3
    obtain ⟨hl1, hl2⟩ := sto_len hb
    have h61 : id < 61 := by omega
    refine r_ofG Th_ok (by kernel_rfl) Try.func129 rfl Try.ntmps129 Try.results129 (by kernel_rfl) rfl rfl rfl ?_
    conv => whnf
    cases hf : f id with
    | true =>
      have hw : walkM cs (n + 1) id f = f := by simp [walkM, hf]
      rw [hw]
      have hget : getP (.agg (rng 61 f)) [id] 0 = some (AV.v (.bool true), 0 + id * 1) := by rw [getP_rng h61, hf]; rfl
      repeat (first | first | (refine r_put (p_bin (by first | exact b_lt_t (by omega) | exact b_lt_f (by omega) | exact b_le_t (by omega) | exact b_le_f (by omega) | exact b_gt_t (by omega) | exact b_gt_f (by omega) | exact b_ge_t (by omega) | exact b_ge_f (by omega) | exact b_eq_t (by omega) | exact b_eq_f (by omega) | exact b_ne_t (by omega) | exact b_ne_f (by omega) | exact b_sub rfl (by omega) (by omega) | exact b_add rfl (by omega) (by omega)) rfl rfl rfl) rfl rfl ?_; conv => whnf) | (refine r_put (p_idx (getA _ (by assumption)) rfl rfl rfl) rfl rfl ?_; conv => whnf) | (refine r_put (p_lenm rfl ⟨_, _, _, _, rfl⟩) rfl rfl ?_; conv => whnf) | (refine r_put (p_lenom rfl rfl ⟨_, _, _, _, rfl⟩) rfl rfl ?_; conv => whnf) | (refine r_put (p_len (y := .v (.string _)) rfl rfl rfl) rfl rfl ?_; conv => whnf) | (refine r_put (p_len rfl rfl ⟨_, _, _, _, rfl⟩) rfl rfl ?_; conv => whnf) | (refine o_put (p_aidx h61 rfl rfl rfl) rfl rfl ?_) | (refine r_put (p_old rfl rfl rfl hget rfl rfl rfl) rfl rfl ?_; conv => whnf))
      exact r_retG0 ⟨rfl, rfl, trivial⟩
    | false =>
      have hw : walkM cs (n + 1) id f = (parsN cs id).foldl (fun g p => walkM cs n p g) (mark f id) := by simp [walkM, hf]
      have hget : getP (.agg (rng 61 f)) [id] 0 = some (AV.v (.bool false), 0 + id * 1) := by rw [getP_rng h61, hf]; rfl
      repeat (first | first | (refine r_put (p_bin (by first | exact b_lt_t (by omega) | exact b_lt_f (by omega) | exact b_le_t (by omega) | exact b_le_f (by omega) | exact b_gt_t (by omega) | exact b_gt_f (by omega) | exact b_ge_t (by omega) | exact b_ge_f (by omega) | exact b_eq_t (by omega) | exact b_eq_f (by omega) | exact b_ne_t (by omega) | exact b_ne_f (by omega) | exact b_sub rfl (by omega) (by omega) | exact b_add rfl (by omega) (by omega)) rfl rfl rfl) rfl rfl ?_; conv => whnf) | (refine r_put (p_idx (getA _ (by assumption)) rfl rfl rfl) rfl rfl ?_; conv => whnf) | (refine r_put (p_lenm rfl ⟨_, _, _, _, rfl⟩) rfl rfl ?_; conv => whnf) | (refine r_put (p_lenom rfl rfl ⟨_, _, _, _, rfl⟩) rfl rfl ?_; conv => whnf) | (refine r_put (p_len (y := .v (.string _)) rfl rfl rfl) rfl rfl ?_; conv => whnf) | (refine r_put (p_len rfl rfl ⟨_, _, _, _, rfl⟩) rfl rfl ?_; conv => whnf) | (refine o_put (p_aidx h61 rfl rfl rfl) rfl rfl ?_) | (refine r_put (p_old rfl rfl rfl hget rfl rfl rfl) rfl rfl ?_; conv => whnf) | (refine r_step (p_ostore rfl rfl rfl hget rfl rfl rfl) rfl rfl (fun e => by first | exact .inl rfl | contradiction | exact .inr (.inl (by kernel_rfl))) ?_; conv => whnf))
      rw [hw]
      have hpl := parsN_lt hb h1 h3
      have hp2 := parsN_len hb id
      refine r_loop (ι := { k : Nat // k ≤ (parsN cs id).length }) (fun k => ⟨[(2, .optr 1000000 0 [] 0), (20, .lst 1 ((parsN cs id).map fun p => .ptr (nodeA cs n p))), (21, .v (.int .i64 ((parsN cs id).length : Int))), (22, .v (.int .i64 (k.1 : Int)))], [(0, seenO (((parsN cs id).take k.1).foldl (fun g p => walkM cs n p g) (mark f id))), (1000000, walkO x)]⟩) (fun k => (parsN cs id).length - k.1) ⟨0, Nat.zero_le _⟩ ⟨⟨congrArg (fun y => some (OB.mk _ _ [y])) (set_rng h61), rfl, trivial⟩, .inl ⟨rfl, rfl⟩, .inl ⟨rfl, rfl⟩, .inl ⟨rfl, rfl⟩, .inl ⟨rfl, rfl⟩, trivial⟩ ?_
      rintro ⟨k, hk⟩
      dsimp only at hk ⊢
      conv => whnf
      by_cases hlt : k < (parsN cs id).length
      · obtain ⟨p1, p2⟩ := hpl _ (List.getElem_mem hlt)
        have hfold : walkM cs n (parsN cs id)[k] (((parsN cs id).take k).foldl (fun g p => walkM cs n p g) (mark f id)) = ((parsN cs id).take (k + 1)).foldl (fun g p => walkM cs n p g) (mark f id) := by
          rw [List.take_succ_eq_append_getElem hlt, List.foldl_append]; rfl
        have hac := ih (parsN cs id)[k] (((parsN cs id).take k).foldl (fun g p => walkM cs n p g) (mark f id)) p1 (by omega) (by omega)
        rw [hfold] at hac
        repeat (first | first | (refine r_put (p_bin (by first | exact b_lt_t (by omega) | exact b_lt_f (by omega) | exact b_le_t (by omega) | exact b_le_f (by omega) | exact b_gt_t (by omega) | exact b_gt_f (by omega) | exact b_ge_t (by omega) | exact b_ge_f (by omega) | exact b_eq_t (by omega) | exact b_eq_f (by omega) | exact b_ne_t (by omega) | exact b_ne_f (by omega) | exact b_sub rfl (by omega) (by omega) | exact b_add rfl (by omega) (by omega)) rfl rfl rfl) rfl rfl ?_; conv => whnf) | (refine r_put (p_idx (getA _ (by assumption)) rfl rfl rfl) rfl rfl ?_; conv => whnf) | (refine r_put (p_lenm rfl ⟨_, _, _, _, rfl⟩) rfl rfl ?_; conv => whnf) | (refine r_put (p_lenom rfl rfl ⟨_, _, _, _, rfl⟩) rfl rfl ?_; conv => whnf) | (refine r_put (p_len (y := .v (.string _)) rfl rfl rfl) rfl rfl ?_; conv => whnf) | (refine r_put (p_len rfl rfl ⟨_, _, _, _, rfl⟩) rfl rfl ?_; conv => whnf) | (refine r_step (p_callg [0, 1000000] hac rfl rfl ⟨rfl, rfl, trivial⟩ rfl rfl trivial rfl rfl rfl (.inl rfl) rfl) rfl rfl (fun e => by first | exact .inl rfl | contradiction | exact .inr (.inl (by kernel_rfl))) ?_; conv => whnf))
        exact ⟨⟨k + 1, hlt⟩, ⟨⟨rfl, rfl, trivial⟩, .inl ⟨rfl, rfl⟩, .inl ⟨rfl, rfl⟩, .inl ⟨rfl, rfl⟩, .inl ⟨rfl, rfl⟩, trivial⟩, by simp; omega⟩
      · have hke : k = (parsN cs id).length := by omega
        subst hke
        repeat (first | (refine r_put (p_bin (by first | exact b_lt_t (by omega) | exact b_lt_f (by omega) | exact b_le_t (by omega) | exact b_le_f (by omega) | exact b_gt_t (by omega) | exact b_gt_f (by omega) | exact b_ge_t (by omega) | exact b_ge_f (by omega) | exact b_eq_t (by omega) | exact b_eq_f (by omega) | exact b_ne_t (by omega) | exact b_ne_f (by omega) | exact b_sub rfl (by omega) (by omega) | exact b_add rfl (by omega) (by omega)) rfl rfl rfl) rfl rfl ?_; conv => whnf) | (refine r_put (p_idx (getA _ (by assumption)) rfl rfl rfl) rfl rfl ?_; conv => whnf) | (refine r_put (p_lenm rfl ⟨_, _, _, _, rfl⟩) rfl rfl ?_; conv => whnf) | (refine r_put (p_lenom rfl rfl ⟨_, _, _, _, rfl⟩) rfl rfl ?_; conv => whnf) | (refine r_put (p_len (y := .v (.string _)) rfl rfl rfl) rfl rfl ?_; conv => whnf) | (refine r_put (p_len rfl rfl ⟨_, _, _, _, rfl⟩) rfl rfl ?_; conv => whnf))
        first
          | exact r_retG0 ⟨by rw [List.take_length]; rfl, rfl, trivial⟩
          | exact r_retG0n ⟨by show some (seenO _) = _; rw [List.take_length], rfl, trivial⟩
          | exact r_retG0 ⟨by show some (seenO _) = _; rw [List.take_length], rfl, trivial⟩
end Go.Proofs.Ytnkceemdnefomaa.AM
