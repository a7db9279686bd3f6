/- Whether a store is valid, on both sides. -/
import Derived.Test.YtjhimcddgkoghaaE1
import Derived.Test.YtjhimcddgkoghaaA3
namespace Go.Proofs.Ytjhimcddgkoghaa.AM
open Go Go.RowKit
set_option linter.unusedVariables false
set_option linter.unusedSimpArgs false
set_option maxRecDepth 100000

theorem run_beqIn {P : Program} {w : World} {t : TypeId} {a b : Bool} (d : Nat) (h : P.underlying t = some .bool) : (Op.equalIn (d + 1) t (.bool a) (.bool b)).run P w = .ok (a == b) w := by
  simp [Op.equalIn, run_underlying h]
theorem run_beq {P : Program} {w : World} {t : TypeId} {a b : Bool} (h : P.underlying t = some .bool) : (Op.equal t (.bool a) (.bool b)).run P w = .ok (a == b) w := by
  exact run_beqIn 9999 h
theorem b_bne {P : Program} {t : TypeId} {x y : Operand} {a b : Bool} (h : P.underlying t = some .bool) : BinOK P .neq t x y (.bool a) (.bool b) (.bool (a != b)) := fun w => by
  simp [eqGuard, binOp, run_beq h]; cases a <;> cases b <;> rfl
theorem b_beq {P : Program} {t : TypeId} {x y : Operand} {a b : Bool} (h : P.underlying t = some .bool) : BinOK P .eql t x y (.bool a) (.bool b) (.bool (a == b)) := fun w => by
  simp [eqGuard, binOp, run_beq h]
theorem p_lslm {P : Program} {Θ : Tab} {s : St} {d : Option Tmp} {ty : TypeId} {pos : String} {after : Array Edge} {g : Option (Nat × Bool)} {α : Type} {f : α → AV} {t : TypeId} {x y : Operand} {el sz b h : Nat} {k : IntKind} {z : AV} {xs : List α} (hh : h ≤ xs.length) (ht : Θ.look t = .slice el sz b z) (hx : s.ev x = .lst sz (xs.map f)) (hy : s.ev y = .v (.int k (h : Int))) : Pre P Θ ⟨d, .slice t x none (some y) none, ty, pos, after, g⟩ s ⟨.lst sz ((xs.take h).map f), none⟩ := by
  have := p_lslice (P := P) (Θ := Θ) (s := s) (d := d) (ty := ty) (pos := pos) (after := after) (g := g) (t := t) (x := x) (lo := none) (hi := some y) (l := 0) (h := h) (xs := xs.map f) (Nat.zero_le _) (by simpa using hh) ht hx rfl ⟨k, hy⟩
  rw [List.drop_zero, ← List.map_take] at this
  exact this
attribute [local irreducible] ACode AOps AOps2 RetG RetM Pre ACG

theorem ac_in_t {x lo hi : Int} (h : lo ≤ x) (h' : x ≤ hi) : AC Try.prog 155 [.v (.int .i64 x), .v (.int .i64 lo), .v (.int .i64 hi)] ⟨.v (.bool true), []⟩ := by
  refine r_of Th_ok (by kernel_rfl) Try.func155 rfl Try.ntmps155 Try.results155 (by kernel_rfl) rfl ?_; conv => whnf
  repeat (first | (refine r_put (p_bin (by first | exact b_lt_t (by omega) | exact b_lt_f (by omega) | exact b_le_t (by omega) | exact b_le_f (by omega) | exact b_gt_t (by omega) | exact b_gt_f (by omega) | exact b_ge_t (by omega) | exact b_ge_f (by omega) | exact b_eq_t (by omega) | exact b_eq_f (by omega) | exact b_ne_t (by omega) | exact b_ne_f (by omega) | exact b_sub rfl (by omega) (by omega) | exact b_add rfl (by omega) (by omega)) rfl rfl rfl) rfl rfl ?_; conv => whnf) | (refine r_put (p_idx (getA _ (by assumption)) rfl rfl rfl) rfl rfl ?_; conv => whnf) | (refine r_put (p_lenm rfl ⟨_, _, _, _, rfl⟩) rfl rfl ?_; conv => whnf) | (refine r_put (p_lenom rfl rfl ⟨_, _, _, _, rfl⟩) rfl rfl ?_; conv => whnf) | (refine r_put (p_len (y := .v (.string _)) rfl rfl rfl) rfl rfl ?_; conv => whnf) | (refine r_put (p_len rfl rfl ⟨_, _, _, _, rfl⟩) rfl rfl ?_; conv => whnf))
  exact r_ret1 rfl trivial
theorem ac_in_f {x lo hi : Int} (h : ¬ (lo ≤ x ∧ x ≤ hi)) : AC Try.prog 155 [.v (.int .i64 x), .v (.int .i64 lo), .v (.int .i64 hi)] ⟨.v (.bool false), []⟩ := by
  by_cases h1 : lo ≤ x
  · refine r_of Th_ok (by kernel_rfl) Try.func155 rfl Try.ntmps155 Try.results155 (by kernel_rfl) rfl ?_; conv => whnf
    repeat (first | (refine r_put (p_bin (by first | exact b_lt_t (by omega) | exact b_lt_f (by omega) | exact b_le_t (by omega) | exact b_le_f (by omega) | exact b_gt_t (by omega) | exact b_gt_f (by omega) | exact b_ge_t (by omega) | exact b_ge_f (by omega) | exact b_eq_t (by omega) | exact b_eq_f (by omega) | exact b_ne_t (by omega) | exact b_ne_f (by omega) | exact b_sub rfl (by omega) (by omega) | exact b_add rfl (by omega) (by omega)) rfl rfl rfl) rfl rfl ?_; conv => whnf) | (refine r_put (p_idx (getA _ (by assumption)) rfl rfl rfl) rfl rfl ?_; conv => whnf) | (refine r_put (p_lenm rfl ⟨_, _, _, _, rfl⟩) rfl rfl ?_; conv => whnf) | (refine r_put (p_lenom rfl rfl ⟨_, _, _, _, rfl⟩) rfl rfl ?_; conv => whnf) | (refine r_put (p_len (y := .v (.string _)) rfl rfl rfl) rfl rfl ?_; conv => whnf) | (refine r_put (p_len rfl rfl ⟨_, _, _, _, rfl⟩) rfl rfl ?_; conv => whnf))
    exact r_ret1 rfl trivial
  · refine r_of Th_ok (by kernel_rfl) Try.func155 rfl Try.ntmps155 Try.results155 (by kernel_rfl) rfl ?_; conv => whnf
    repeat (first | (refine r_put (p_bin (by first | exact b_lt_t (by omega) | exact b_lt_f (by omega) | exact b_le_t (by omega) | exact b_le_f (by omega) | exact b_gt_t (by omega) | exact b_gt_f (by omega) | exact b_ge_t (by omega) | exact b_ge_f (by omega) | exact b_eq_t (by omega) | exact b_eq_f (by omega) | exact b_ne_t (by omega) | exact b_ne_f (by omega) | exact b_sub rfl (by omega) (by omega) | exact b_add rfl (by omega) (by omega)) rfl rfl rfl) rfl rfl ?_; conv => whnf) | (refine r_put (p_idx (getA _ (by assumption)) rfl rfl rfl) rfl rfl ?_; conv => whnf) | (refine r_put (p_lenm rfl ⟨_, _, _, _, rfl⟩) rfl rfl ?_; conv => whnf) | (refine r_put (p_lenom rfl rfl ⟨_, _, _, _, rfl⟩) rfl rfl ?_; conv => whnf) | (refine r_put (p_len (y := .v (.string _)) rfl rfl rfl) rfl rfl ?_; conv => whnf) | (refine r_put (p_len rfl rfl ⟨_, _, _, _, rfl⟩) rfl rfl ?_; conv => whnf))
    exact r_ret1 rfl trivial

end Go.Proofs.Ytjhimcddgkoghaa.AM
