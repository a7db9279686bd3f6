/- References as data: sizes, copies, comparisons, marks of the laws. -/
import Derived.Test.YtnlobdhkpmeniaaA2
import Derived.Test.YtnlobdhkpmeniaaB1
import Derived.Test.YtnlobdhkpmeniaaE2
namespace Go.Proofs.Ytnlobdhkpmeniaa.AM
open Go Go.RowKit
set_option linter.unusedVariables false
set_option linter.unusedSimpArgs false
set_option maxRecDepth 100000

structure Rf where
  name : ByteArray
  head : Int
  ver : Int
  gone : Bool
def refA (r : Rf) : AV := .agg [.v (.string r.name), .v (.int .i64 r.head), .v (.int .i64 r.ver), .v (.bool r.gone)]
theorem flat_ref (e : Rf) : flatA (refA e) := by unfold refA; simp [flatA, flatL]
theorem ref_ext {a b : Rf} : a = b ↔ a.name = b.name ∧ a.head = b.head ∧ a.ver = b.ver ∧ a.gone = b.gone := by
  cases a; cases b; simp
theorem b_rem {P : Program} {t : TypeId} {x y : Operand} {a b c : Int} (h0 : 0 ≤ a) (hb : 0 < b) (h1 : b ≤ 1000) (h2 : a ≤ 1000000000) (hc : c = a % b) : BinOK P .rem t x y (.int .i64 a) (.int .i64 b) (.int .i64 c) := fun w => by
  have hb0 : b ≠ 0 := by omega
  have hr : (Op.intDiv .rem .i64 a b).run P w = .ok (.int .i64 (a.tmod b)) w := by simp [Op.intDiv, hb0]
  subst hc
  rw [← Int.tmod_eq_emod_of_nonneg h0]
  simp [eqGuard, binOp, hr]
theorem set_at {α : Type} {xs : List α} {k : Nat} {y : α} (h : k < xs.length) : (xs.set k y)[k]? = some y := by simp [h]
attribute [local irreducible] ACode AOps AOps2 RetG RetM Pre ACG

theorem ac_eqRef {c : Rf} : AC Try.prog 109 [refA c, refA c] ⟨.v (.bool true), []⟩ := by
  have hb : (c.gone != c.gone) = false := by simp
  refine r_of Th_ok (by kernel_rfl) Try.func109 rfl Try.ntmps109 Try.results109 (by kernel_rfl) rfl ?_; conv => whnf
  repeat (first | (refine r_put (p_bin (b_sne_f rfl) rfl rfl rfl) rfl rfl ?_; conv => whnf) | first | (refine r_put (p_bin (by first | exact b_lt_t (by omega) | exact b_lt_f (by omega) | exact b_le_t (by omega) | exact b_le_f (by omega) | exact b_gt_t (by omega) | exact b_gt_f (by omega) | exact b_ge_t (by omega) | exact b_ge_f (by omega) | exact b_eq_t (by omega) | exact b_eq_f (by omega) | exact b_ne_t (by omega) | exact b_ne_f (by omega) | exact b_sub rfl (by omega) (by omega) | exact b_add rfl (by omega) (by omega)) rfl rfl rfl) rfl rfl ?_; conv => whnf) | (refine r_put (p_idx (getA _ (by assumption)) rfl rfl rfl) rfl rfl ?_; conv => whnf) | (refine r_put (p_lenm rfl ⟨_, _, _, _, rfl⟩) rfl rfl ?_; conv => whnf) | (refine r_put (p_lenom rfl rfl ⟨_, _, _, _, rfl⟩) rfl rfl ?_; conv => whnf) | (refine r_put (p_len (y := .v (.string _)) rfl rfl rfl) rfl rfl ?_; conv => whnf) | (refine r_put (p_len rfl rfl ⟨_, _, _, _, rfl⟩) rfl rfl ?_; conv => whnf) | (refine r_put (p_bin (b_bne Try.underlying4) rfl rfl rfl) rfl rfl ?_; rw [hb]; conv => whnf))
  exact r_ret1 rfl trivial
theorem ac_eqRefS {l : List Rf} (hm : l.length ≤ maxLen) : AC Try.prog 51 [.lst 4 (l.map refA), .lst 4 (l.map refA)] ⟨.v (.bool true), []⟩ := by
  unfold maxLen at hm
  refine r_of Th_ok (by kernel_rfl) Try.func51 rfl Try.ntmps51 Try.results51 (by kernel_rfl) rfl ?_; conv => whnf
  repeat (first | (refine r_put (p_bin (by first | exact b_lt_t (by omega) | exact b_lt_f (by omega) | exact b_le_t (by omega) | exact b_le_f (by omega) | exact b_gt_t (by omega) | exact b_gt_f (by omega) | exact b_ge_t (by omega) | exact b_ge_f (by omega) | exact b_eq_t (by omega) | exact b_eq_f (by omega) | exact b_ne_t (by omega) | exact b_ne_f (by omega) | exact b_sub rfl (by omega) (by omega) | exact b_add rfl (by omega) (by omega)) rfl rfl rfl) rfl rfl ?_; conv => whnf) | (refine r_put (p_idx (getA _ (by assumption)) rfl rfl rfl) rfl rfl ?_; conv => whnf) | (refine r_put (p_lenm rfl ⟨_, _, _, _, rfl⟩) rfl rfl ?_; conv => whnf) | (refine r_put (p_lenom rfl rfl ⟨_, _, _, _, rfl⟩) rfl rfl ?_; conv => whnf) | (refine r_put (p_len (y := .v (.string _)) rfl rfl rfl) rfl rfl ?_; conv => whnf) | (refine r_put (p_len rfl rfl ⟨_, _, _, _, rfl⟩) rfl rfl ?_; conv => whnf))
  refine r_loop (ι := { k : Nat // k ≤ l.length }) (fun k => ⟨[(0, .lst 4 (l.map refA)), (1, .lst 4 (l.map refA)), (5, .v (.int .i64 (k.1 : Int)))], []⟩) (fun k => l.length - k.1) ⟨0, Nat.zero_le _⟩ (by refine ⟨?_, ?_⟩ <;> (repeat (first | trivial | exact ⟨rfl, trivial⟩ | refine ⟨rfl, ?_⟩ | refine ⟨.inl ⟨rfl, rfl⟩, ?_⟩ | refine ⟨.inr ⟨_, _, rfl, rfl, rfl, rfl, rfl⟩, ?_⟩))) ?_
  rintro ⟨k, hk⟩
  dsimp only
  conv => whnf
  by_cases hlt : k < l.length
  · repeat (first | (refine r_put (p_bin (by first | exact b_lt_t (by omega) | exact b_lt_f (by omega) | exact b_le_t (by omega) | exact b_le_f (by omega) | exact b_gt_t (by omega) | exact b_gt_f (by omega) | exact b_ge_t (by omega) | exact b_ge_f (by omega) | exact b_eq_t (by omega) | exact b_eq_f (by omega) | exact b_ne_t (by omega) | exact b_ne_f (by omega) | exact b_sub rfl (by omega) (by omega) | exact b_add rfl (by omega) (by omega)) rfl rfl rfl) rfl rfl ?_; conv => whnf) | (refine r_put (p_idx (getA _ (by assumption)) rfl rfl rfl) rfl rfl ?_; conv => whnf) | (refine r_put (p_lenm rfl ⟨_, _, _, _, rfl⟩) rfl rfl ?_; conv => whnf) | (refine r_put (p_lenom rfl rfl ⟨_, _, _, _, rfl⟩) rfl rfl ?_; conv => whnf) | (refine r_put (p_len (y := .v (.string _)) rfl rfl rfl) rfl rfl ?_; conv => whnf) | (refine r_put (p_len rfl rfl ⟨_, _, _, _, rfl⟩) rfl rfl ?_; conv => whnf))
    refine .inl ⟨by kernel_rfl, ?_⟩
    conv => whnf
    repeat (first | first | (refine r_put (p_bin (by first | exact b_lt_t (by omega) | exact b_lt_f (by omega) | exact b_le_t (by omega) | exact b_le_f (by omega) | exact b_gt_t (by omega) | exact b_gt_f (by omega) | exact b_ge_t (by omega) | exact b_ge_f (by omega) | exact b_eq_t (by omega) | exact b_eq_f (by omega) | exact b_ne_t (by omega) | exact b_ne_f (by omega) | exact b_sub rfl (by omega) (by omega) | exact b_add rfl (by omega) (by omega)) rfl rfl rfl) rfl rfl ?_; conv => whnf) | (refine r_put (p_idx (getA _ (by assumption)) rfl rfl rfl) rfl rfl ?_; conv => whnf) | (refine r_put (p_lenm rfl ⟨_, _, _, _, rfl⟩) rfl rfl ?_; conv => whnf) | (refine r_put (p_lenom rfl rfl ⟨_, _, _, _, rfl⟩) rfl rfl ?_; conv => whnf) | (refine r_put (p_len (y := .v (.string _)) rfl rfl rfl) rfl rfl ?_; conv => whnf) | (refine r_put (p_len rfl rfl ⟨_, _, _, _, rfl⟩) rfl rfl ?_; conv => whnf) | (refine r_step (p_call (ac_eqRef (c := l[k])) rfl (by first | exact .inl rfl | exact .inr ⟨by simp [flatA, flatL], by first | exact flat_o0 | exact flat_o1 (by first | exact flat_map flat_str _ | exact flat_map flat_ent _ | exact flat_map flat_edt _ | exact flat_map flat_ref _ | exact flat_map flat_int _ | exact flat_map flat_evt _) | exact flat_o2 (by first | exact flat_map flat_str _ | exact flat_map flat_ent _ | exact flat_map flat_edt _ | exact flat_map flat_ref _ | exact flat_map flat_int _ | exact flat_map flat_evt _) (by first | exact flat_map flat_str _ | exact flat_map flat_ent _ | exact flat_map flat_edt _ | exact flat_map flat_ref _ | exact flat_map flat_int _ | exact flat_map flat_evt _)⟩) (by first | exact trivial | exact ⟨⟨rfl, rfl, rfl⟩, trivial⟩ | exact ⟨⟨rfl, rfl, rfl⟩, ⟨rfl, rfl, rfl⟩, trivial⟩ | exact ⟨⟨rfl, rfl, rfl⟩, ⟨rfl, rfl, rfl⟩, ⟨rfl, rfl, rfl⟩, trivial⟩) rfl rfl) rfl rfl (fun e => by first | exact .inl rfl | contradiction | exact .inr (.inl (by kernel_rfl))) ?_; conv => whnf))
    exact ⟨⟨k + 1, hlt⟩, by refine ⟨?_, ?_⟩ <;> (repeat (first | trivial | exact ⟨rfl, trivial⟩ | refine ⟨rfl, ?_⟩ | refine ⟨.inl ⟨rfl, rfl⟩, ?_⟩ | refine ⟨.inr ⟨_, _, rfl, rfl, rfl, rfl, rfl⟩, ?_⟩)), by simp; omega⟩
  · repeat (first | (refine r_put (p_bin (by first | exact b_lt_t (by omega) | exact b_lt_f (by omega) | exact b_le_t (by omega) | exact b_le_f (by omega) | exact b_gt_t (by omega) | exact b_gt_f (by omega) | exact b_ge_t (by omega) | exact b_ge_f (by omega) | exact b_eq_t (by omega) | exact b_eq_f (by omega) | exact b_ne_t (by omega) | exact b_ne_f (by omega) | exact b_sub rfl (by omega) (by omega) | exact b_add rfl (by omega) (by omega)) rfl rfl rfl) rfl rfl ?_; conv => whnf) | (refine r_put (p_idx (getA _ (by assumption)) rfl rfl rfl) rfl rfl ?_; conv => whnf) | (refine r_put (p_lenm rfl ⟨_, _, _, _, rfl⟩) rfl rfl ?_; conv => whnf) | (refine r_put (p_lenom rfl rfl ⟨_, _, _, _, rfl⟩) rfl rfl ?_; conv => whnf) | (refine r_put (p_len (y := .v (.string _)) rfl rfl rfl) rfl rfl ?_; conv => whnf) | (refine r_put (p_len rfl rfl ⟨_, _, _, _, rfl⟩) rfl rfl ?_; conv => whnf))
    exact r_ret1 rfl trivial
end Go.Proofs.Ytnlobdhkpmeniaa.AM
