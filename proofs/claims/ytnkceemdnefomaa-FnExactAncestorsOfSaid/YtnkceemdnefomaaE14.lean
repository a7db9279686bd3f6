/- IsAncestor and BaseOf: the program's side, the reference's base, their laws. -/
import Derived.Test.YtnkceemdnefomaaE13
import Derived.Test.YtnkceemdnefomaaE4
namespace Go.Proofs.Ytnkceemdnefomaa.AM
open Go Go.RowKit
set_option linter.unusedVariables false
set_option linter.unusedSimpArgs false
set_option maxRecDepth 100000
theorem anc_one {cs : List Cmt} (hb : stoB cs = true) : ∀ (n b : Nat), b ≤ n → 1 ≤ b → b ≤ cs.length → Anc cs b 1 := by
  intro n
  induction n with
  | zero => intro b h1 h2; omega
  | succ n ih =>
    intro b h1 h2 h3
    by_cases hb1 : b = 1
    · subst hb1; exact .refl
    · have hi : b - 1 < cs.length := by omega
      obtain ⟨_, q2, q3⟩ := sto_par hb hi
      have hl : 0 < (cs[b - 1]).1.length := by
        rcases Nat.eq_zero_or_pos (cs[b - 1]).1.length with h | h
        · have := q2.1 h; omega
        · exact h
      obtain ⟨_, g1, g2, _⟩ := q3 0 hl
      have hpar : Par cs b ((cs[b - 1]).1[0]).toNat := ⟨hi, h2, by rw [Int.toNat_of_nonneg (by omega)]; exact List.getElem_mem hl⟩
      obtain ⟨k1, k2, _⟩ := hpar.lt hb
      exact hpar.anc.trans (ih _ (by omega) k1 (by omega))
def bsF (F : Nat → Bool) : Nat → Nat
  | 0 => 0
  | k + 1 => if F (k + 1) = true then k + 1 else bsF F k
theorem bsF_le {F : Nat → Bool} : ∀ k, bsF F k ≤ k
  | 0 => Nat.le_refl _
  | k + 1 => by unfold bsF; split; exact Nat.le_refl _; exact Nat.le_succ_of_le (bsF_le k)
noncomputable def comF (cs : List Cmt) (a b : Nat) : Nat → Bool := fun k => ancB cs a k && ancB cs b k
noncomputable def baseN (cs : List Cmt) (a b : Nat) : Nat := bsF (comF cs a b) (min a b)
theorem comF_one {cs : List Cmt} (hb : stoB cs = true) {a b : Nat} (h1 : 1 ≤ a) (h2 : a ≤ cs.length) (h3 : 1 ≤ b) (h4 : b ≤ cs.length) : comF cs a b 1 = true := by
  unfold comF
  rw [ancB_t.2 (anc_one hb a a (Nat.le_refl _) h1 h2), ancB_t.2 (anc_one hb b b (Nat.le_refl _) h3 h4)]; rfl
theorem p_min {P : Program} {Θ : Tab} {s : St} {d : Option Tmp} {ty : TypeId} {pos : String} {after : Array Edge} {g : Option (Nat × Bool)} {x y : Operand} {ts : Array TypeId} {a b : Nat} (hx : s.ev x = .v (.int .i64 (a : Int))) (hy : s.ev y = .v (.int .i64 (b : Int))) : Pre P Θ ⟨d, .call ⟨.builtin .min, #[x, y], ts⟩, ty, pos, after, g⟩ s ⟨.v (.int .i64 ((min a b : Nat) : Int)), none⟩ := by
  refine ⟨[.int .i64 (a : Int), .int .i64 (b : Int)], .int .i64 ((min a b : Nat) : Int), by simp [hx, hy, conc], fun w => ?_, rfl, rfl⟩
  rcases Nat.lt_or_ge b a with h | h
  · rw [Nat.min_eq_right (by omega)]
    have h' : (b : Int) < a := by omega
    simp [builtin, Builtin.min_, Builtin.min2, Result.andThen, h', h]
  · rw [Nat.min_eq_left h]
    have h' : ¬ (b : Int) < a := by omega
    simp [builtin, Builtin.min_, Builtin.min2, Result.andThen, h', Nat.not_lt.2 h]
attribute [local irreducible] rng
attribute [local irreducible] ACode AOps RetG RetM Pre ACG
theorem ac_iIsAncestor {cs : List Cmt} {a b : Int} (hm : cs.length ≤ maxLen) (hc : comOK maxLen cs) : AC Try.prog 44 [.lst 2 (cs.map comA), .v (.int .i64 a), .v (.int .i64 b)] ⟨.tup [.v (.bool (isAncR cs a b)), .v (.int .i64 (askR cs [a, b]))], []⟩ := by
  have h1 := ac_graphCode (ids := [a, b]) hm hc (by unfold maxLen; simp)
  by_cases h0 : askR cs [a, b] = 0
  case neg =>
    unfold isAncR
    rw [if_neg h0]
    refine r_of Th_ok (by kernel_rfl) Try.func44 rfl Try.ntmps44 Try.results44 (by kernel_rfl) rfl ?_; conv => whnf
    repeat (first | first | (refine r_put (p_bin (by first | exact b_lt_t (by omega) | exact b_lt_f (by omega) | exact b_le_t (by omega) | exact b_le_f (by omega) | exact b_gt_t (by omega) | exact b_gt_f (by omega) | exact b_ge_t (by omega) | exact b_ge_f (by omega) | exact b_eq_t (by omega) | exact b_eq_f (by omega) | exact b_ne_t (by omega) | exact b_ne_f (by omega) | exact b_sub rfl (by omega) (by omega) | exact b_add rfl (by omega) (by omega)) rfl rfl rfl) rfl rfl ?_; conv => whnf) | (refine r_put (p_idx (getA _ (by assumption)) rfl rfl rfl) rfl rfl ?_; conv => whnf) | (refine r_put (p_lenm rfl ⟨_, _, _, _, rfl⟩) rfl rfl ?_; conv => whnf) | (refine r_put (p_lenom rfl rfl ⟨_, _, _, _, rfl⟩) rfl rfl ?_; conv => whnf) | (refine r_put (p_len (y := .v (.string _)) rfl rfl rfl) rfl rfl ?_; conv => whnf) | (refine r_put (p_len rfl rfl ⟨_, _, _, _, rfl⟩) rfl rfl ?_; conv => whnf) | (refine And.intro (by kernel_rfl) ?_; conv => whnf) | (refine r_step (p_call (h1) rfl (by first | exact .inl rfl | exact .inr ⟨by simp [flatA, flatL], by first | exact flat_o0 | exact flat_o1 (by first | exact flat_map flat_str _ | exact flat_map flat_ent _ | exact flat_map flat_edt _ | exact flat_map flat_ref _ | exact flat_map flat_int _) | exact flat_o2 (by first | exact flat_map flat_str _ | exact flat_map flat_ent _ | exact flat_map flat_edt _ | exact flat_map flat_ref _ | exact flat_map flat_int _) (by first | exact flat_map flat_str _ | exact flat_map flat_ent _ | exact flat_map flat_edt _ | exact flat_map flat_ref _ | exact flat_map flat_int _)⟩) (by first | exact trivial | exact ⟨⟨rfl, rfl, rfl⟩, trivial⟩ | exact ⟨⟨rfl, rfl, rfl⟩, ⟨rfl, rfl, rfl⟩, trivial⟩ | exact ⟨⟨rfl, rfl, rfl⟩, ⟨rfl, rfl, rfl⟩, ⟨rfl, rfl, rfl⟩, trivial⟩) rfl rfl) rfl rfl (fun e => by first | exact .inl rfl | contradiction | exact .inr (.inl (by kernel_rfl))) ?_; conv => whnf))
    exact r_tup2 (ra_x rfl trivial) (ra_x rfl trivial)
  obtain ⟨hb, hids⟩ := askR_0 h0
  obtain ⟨hl1, hl2⟩ := sto_len hb
  obtain ⟨a1, a2⟩ := hids a (by simp)
  obtain ⟨b1, b2⟩ := hids b (by simp)
  obtain ⟨a', rfl⟩ : ∃ a' : Nat, a = (a' : Int) := ⟨a.toNat, by omega⟩
  obtain ⟨b', rfl⟩ : ∃ b' : Nat, b = (b' : Int) := ⟨b.toNat, by omega⟩
  have hr : isAncR cs a' b' = ancB cs b' a' := by unfold isAncR; rw [if_pos h0]; simp
  rw [hr]
  rw [h0] at h1 ⊢
  have h2 := ac_nodeOf (id := b') hb (by omega) (by omega)
  have h3 := ac_ancestors (id := b') hb (by omega) (by omega)
  refine r_of Th_ok (by kernel_rfl) Try.func44 rfl Try.ntmps44 Try.results44 (by kernel_rfl) rfl ?_; conv => whnf
  repeat (first | first | (refine r_put (p_bin (by first | exact b_lt_t (by omega) | exact b_lt_f (by omega) | exact b_le_t (by omega) | exact b_le_f (by omega) | exact b_gt_t (by omega) | exact b_gt_f (by omega) | exact b_ge_t (by omega) | exact b_ge_f (by omega) | exact b_eq_t (by omega) | exact b_eq_f (by omega) | exact b_ne_t (by omega) | exact b_ne_f (by omega) | exact b_sub rfl (by omega) (by omega) | exact b_add rfl (by omega) (by omega)) rfl rfl rfl) rfl rfl ?_; conv => whnf) | (refine r_put (p_idx (getA _ (by assumption)) rfl rfl rfl) rfl rfl ?_; conv => whnf) | (refine r_put (p_lenm rfl ⟨_, _, _, _, rfl⟩) rfl rfl ?_; conv => whnf) | (refine r_put (p_lenom rfl rfl ⟨_, _, _, _, rfl⟩) rfl rfl ?_; conv => whnf) | (refine r_put (p_len (y := .v (.string _)) rfl rfl rfl) rfl rfl ?_; conv => whnf) | (refine r_put (p_len rfl rfl ⟨_, _, _, _, rfl⟩) rfl rfl ?_; conv => whnf) | (refine And.intro (by kernel_rfl) ?_; conv => whnf) | (refine r_step (p_call (h1) rfl (by first | exact .inl rfl | exact .inr ⟨by simp [flatA, flatL], by first | exact flat_o0 | exact flat_o1 (by first | exact flat_map flat_str _ | exact flat_map flat_ent _ | exact flat_map flat_edt _ | exact flat_map flat_ref _ | exact flat_map flat_int _) | exact flat_o2 (by first | exact flat_map flat_str _ | exact flat_map flat_ent _ | exact flat_map flat_edt _ | exact flat_map flat_ref _ | exact flat_map flat_int _) (by first | exact flat_map flat_str _ | exact flat_map flat_ent _ | exact flat_map flat_edt _ | exact flat_map flat_ref _ | exact flat_map flat_int _)⟩) (by first | exact trivial | exact ⟨⟨rfl, rfl, rfl⟩, trivial⟩ | exact ⟨⟨rfl, rfl, rfl⟩, ⟨rfl, rfl, rfl⟩, trivial⟩ | exact ⟨⟨rfl, rfl, rfl⟩, ⟨rfl, rfl, rfl⟩, ⟨rfl, rfl, rfl⟩, trivial⟩) rfl rfl) rfl rfl (fun e => by first | exact .inl rfl | contradiction | exact .inr (.inl (by kernel_rfl))) ?_; conv => whnf) | (refine r_step (p_call (h2) rfl (by first | exact .inl rfl | exact .inr ⟨by simp [flatA, flatL], by first | exact flat_o0 | exact flat_o1 (by first | exact flat_map flat_str _ | exact flat_map flat_ent _ | exact flat_map flat_edt _ | exact flat_map flat_ref _ | exact flat_map flat_int _) | exact flat_o2 (by first | exact flat_map flat_str _ | exact flat_map flat_ent _ | exact flat_map flat_edt _ | exact flat_map flat_ref _ | exact flat_map flat_int _) (by first | exact flat_map flat_str _ | exact flat_map flat_ent _ | exact flat_map flat_edt _ | exact flat_map flat_ref _ | exact flat_map flat_int _)⟩) (by first | exact trivial | exact ⟨⟨rfl, rfl, rfl⟩, trivial⟩ | exact ⟨⟨rfl, rfl, rfl⟩, ⟨rfl, rfl, rfl⟩, trivial⟩ | exact ⟨⟨rfl, rfl, rfl⟩, ⟨rfl, rfl, rfl⟩, ⟨rfl, rfl, rfl⟩, trivial⟩) rfl rfl) rfl rfl (fun e => by first | exact .inl rfl | contradiction | exact .inr (.inl (by kernel_rfl))) ?_; conv => whnf) | (refine r_step (p_call (h3) rfl (by first | exact .inl rfl | exact .inr ⟨by simp [flatA, flatL], by first | exact flat_o0 | exact flat_o1 (by first | exact flat_map flat_str _ | exact flat_map flat_ent _ | exact flat_map flat_edt _ | exact flat_map flat_ref _ | exact flat_map flat_int _) | exact flat_o2 (by first | exact flat_map flat_str _ | exact flat_map flat_ent _ | exact flat_map flat_edt _ | exact flat_map flat_ref _ | exact flat_map flat_int _) (by first | exact flat_map flat_str _ | exact flat_map flat_ent _ | exact flat_map flat_edt _ | exact flat_map flat_ref _ | exact flat_map flat_int _)⟩) (by first | exact trivial | exact ⟨⟨rfl, rfl, rfl⟩, trivial⟩ | exact ⟨⟨rfl, rfl, rfl⟩, ⟨rfl, rfl, rfl⟩, trivial⟩ | exact ⟨⟨rfl, rfl, rfl⟩, ⟨rfl, rfl, rfl⟩, ⟨rfl, rfl, rfl⟩, trivial⟩) rfl rfl) rfl rfl (fun e => by first | exact .inl rfl | contradiction | exact .inr (.inl (by kernel_rfl))) ?_; conv => whnf) | (refine r_put (p_arr (rng_get (m := 61) (j := a') (by omega)) rfl rfl rfl rng_len (rng_all _) rfl rfl rfl) rfl rfl ?_; conv => whnf))
  exact r_tup2 (ra_x rfl trivial) (ra_x rfl trivial)
end Go.Proofs.Ytnkceemdnefomaa.AM
