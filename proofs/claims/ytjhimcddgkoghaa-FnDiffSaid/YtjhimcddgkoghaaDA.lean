/- The document's source of choices over data: a byte, a number below a bound, one of some texts, a key. -/
import Derived.Test.YtjhimcddgkoghaaN16
import Derived.Test.YtjhimcddgkoghaaAmP
import Derived.Test.YtjhimcddgkoghaaF1
import Derived.Test.YtjhimcddgkoghaaOpen3
import Derived.Test.YtjhimcddgkoghaaA2
namespace Go.Proofs.Ytjhimcddgkoghaa.AM
open Go Go.RowKit
set_option linter.unusedVariables false
set_option linter.unusedSimpArgs false
set_option maxRecDepth 100000
def bytA (b : UInt8) : AV := .v (.int .u8 b.toNat)
theorem all_byt (l : List UInt8) : ∀ x ∈ l.map bytA, asz x = 1 := fun x hx => by obtain ⟨_, _, rfl⟩ := List.mem_map.1 hx; rfl
theorem rl_byts {S : Nat → Prop} {w : World} : ∀ (l : List UInt8), RL S w (l.map bytA) (l.map fun b => .int .u8 b.toNat)
  | [] => by simp only [List.map_nil]; exact rl_nil
  | x :: l => by simp only [List.map_cons]; exact rl_cons (c1 := [_]) (ra_v rfl) (rl_byts l)
theorem rv_byts {w : World} {hp : Nat → Option OB} {B : Nat → Nat} {V : Nat → Value} {A : Option Addr} {n c : Nat} {bs : List UInt8} (hc : n ≤ c ∧ c ≤ maxLen) (h : Rd w 1 A n (bs.map fun b => .int .u8 b.toNat)) : RV (InW w) w hp B V (.lst 1 (bs.map bytA)) (.slice A n c) := by
  have hl : bs.length = n := by have := h.1; simpa using this
  unfold RV RA
  refine ⟨A, c, by rw [List.length_map, hl], by rw [List.length_map, hl]; exact hc.1, hc.2, all_byt bs, by omega, ?_⟩
  rcases Nat.eq_zero_or_pos n with h0 | h0
  · left
    rw [List.eq_nil_of_length_eq_zero (hl.trans h0)]; rfl
  · obtain ⟨b, off, rfl, hlt, hcl⟩ := rd_at h h0
    exact .inr ⟨b, off, _, rfl, hlt, rl_byts bs, hcl⟩
structure Src where
  at_ : Nat
  seed : Int
def srcA (c : List UInt8) (s : Src) : AV := .agg [.lst 1 (c.map bytA), .v (.int .i64 s.at_), .v (.int .i64 s.seed)]
abbrev srcO (c : List UInt8) (s : Src) : OB := ⟨265, 3, [srcA c s]⟩
def Src.ok (s : Src) (K : Nat) : Prop := s.at_ ≤ K ∧ 0 ≤ s.seed ∧ s.seed < 2147483648
def stepS (x : Int) : Int := x % 2147483648
theorem stepS_lt (x : Int) : 0 ≤ stepS x ∧ stepS x < 2147483648 := ⟨Int.emod_nonneg _ (by decide), Int.emod_lt_of_pos _ (by decide)⟩
/-- a byte of the source -/
def byteS (c : List UInt8) (s : Src) : Int × Src :=
  if h : s.at_ < c.length then (((c[s.at_]).toNat : Int), ⟨s.at_ + 1, stepS (s.seed * 31 + ((c[s.at_]).toNat : Int) + 7)⟩)
  else if 3000 < s.at_ + 1 then (0, ⟨s.at_ + 1, s.seed⟩)
  else (stepS (s.seed * 1103515245 + 12345) / 65536 % 256, ⟨s.at_ + 1, stepS (s.seed * 1103515245 + 12345)⟩)
theorem byteS_ok {c : List UInt8} {s : Src} {K : Nat} (h : s.ok K) : (byteS c s).2.ok (K + 1) ∧ 0 ≤ (byteS c s).1 ∧ (byteS c s).1 < 256 := by
  obtain ⟨h1, h2, h3⟩ := h
  unfold byteS
  split
  · rename_i hl
    refine ⟨⟨by simp; omega, (stepS_lt _).1, (stepS_lt _).2⟩, by simp, ?_⟩
    have := (c[s.at_]).toNat_lt
    show ((c[s.at_]).toNat : Int) < 256
    omega
  · split
    · exact ⟨⟨by simp; omega, h2, h3⟩, by simp, by simp⟩
    · exact ⟨⟨by simp; omega, (stepS_lt _).1, (stepS_lt _).2⟩, Int.emod_nonneg _ (by decide), Int.emod_lt_of_pos _ (by decide)⟩
section
variable {P : Program} {t : TypeId} {x y : Operand} {a b c : Int}
theorem b_rem2 (h0 : 0 ≤ a) (hb : 0 < b) (hc : a % b = c) : BinOK P .rem t x y (.int .i64 a) (.int .i64 b) (.int .i64 c) := fun w => by
  have hb0 : b ≠ 0 := by omega
  have hr : (Op.intDiv .rem .i64 a b).run P w = .ok (.int .i64 (a.tmod b)) w := by simp [Op.intDiv, hb0]
  subst hc
  rw [← Int.tmod_eq_emod_of_nonneg h0]
  simp [eqGuard, binOp, hr]
theorem b_quo2 (h0 : 0 ≤ a) (h1 : a ≤ 9223372036854775807) (hb : 1 < b) (hc : a / b = c) : BinOK P .quo t x y (.int .i64 a) (.int .i64 b) (.int .i64 c) := fun w => by
  have hb0 : b ≠ 0 := by omega
  have hle : a / b ≤ a := Int.ediv_le_self b h0
  have hnn : 0 ≤ a / b := Int.ediv_nonneg h0 (by omega)
  have hw : IntKind.i64.wrap (a.tdiv b) = c := by rw [Int.tdiv_eq_ediv_of_nonneg h0, IntKind.wrap_i64, hc]; omega
  have hr : (Op.intDiv .quo .i64 a b).run P w = .ok (.int .i64 c) w := by simp [Op.intDiv, hb0, hw]
  simp [eqGuard, binOp, hr]
theorem b_mul2 (h : a * b = c) (hl : -9223372036854775808 ≤ c) (hu : c ≤ 9223372036854775807) : BinOK P .mul t x y (.int .i64 a) (.int .i64 b) (.int .i64 c) := fun w => by
  have hw : IntKind.i64.wrap (a * b) = c := by rw [IntKind.wrap_i64, h]; omega
  simp [eqGuard, binOp, Op.intArith, hw]
end
theorem p_conv8 {Θ : Tab} {s : St} {d : Option Tmp} {ty : TypeId} {pos : String} {after : Array Edge} {g : Option (Nat × Bool)} {x : Operand} {n : Nat} (hx : s.ev x = .v (.int .u8 (n : Int))) (hn : n < 256) : Pre Try.prog Θ ⟨d, .convert 5 3 x, ty, pos, after, g⟩ s ⟨.v (.int .i64 (n : Int)), none⟩ := by
  refine ⟨.int .u8 n, .int .i64 n, by rw [hx]; rfl, fun w => ?_, rfl, rfl⟩
  have hw : IntKind.i64.wrap (n : Int) = n := by rw [IntKind.wrap_i64]; omega
  have h1 : (underlying 5).run Try.prog w = .ok (.int .u8) w := run_underlying Try.underlying5 w
  have h2 : (underlying 3).run Try.prog w = .ok (.int .i64) w := run_underlying Try.underlying3 w
  simp [convert, h1, h2, Conv.intToInt, hw]
theorem r_ret1s {s : St} {Θ : Tab} {r : Nat} {v : Value} {o1 : OB} (h1 : s.sl r = .v v) (h2 : s.hp 0 = some o1) : RetG Θ [.tmp r] [o1] ⟨.v v, []⟩ .ret s := ⟨⟨h2, trivial⟩, [], by simp, trivial, ⟨trivial, trivial⟩, trivial, ⟨.inl ⟨h1, rfl⟩, trivial⟩⟩
attribute [local irreducible] ACode AOps AOps2 RetG RetM Pre ACG
set_option maxHeartbeats 8000000 in
theorem ac_byte {c : List UInt8} {s : Src} {K : Nat} (hc : c.length ≤ maxLen) (hs : s.ok K) (hK : K ≤ 1000000000) : ACG Try.prog 261 [.optr 0 0 [] 0] [srcO c s] [srcO c (byteS c s).2] ⟨.v (.int .i64 (byteS c s).1), []⟩ := by
  unfold maxLen at hc
  obtain ⟨h1, h2, h3⟩ := hs
  have hlen : (s.at_ + 1 : Nat) ≤ 1000000001 := by omega
  unfold byteS
  refine acg_of (rs := [.tmp 2]) Th_ok (by kernel_rfl) Try.func261 rfl Try.ntmps261 (by rw [Try.results261]) (by kernel_rfl) (by simp) rfl rfl (runC_sound _ _ _ ?_)
  conv => whnf
  by_cases h : s.at_ < c.length
  · rw [dif_pos h]
    have hb : (c[s.at_]).toNat < 256 := (c[s.at_]).toNat_lt
    repeat (first | (refine r_put (p_bin (b_add (c := ((s.at_ + 1 : Nat) : Int)) (by omega) (by omega) (by omega)) rfl rfl rfl) rfl rfl ?_; conv => whnf) | (refine r_put (p_bin (b_sub (c := (s.at_ : Int)) (by omega) (by omega) (by omega)) rfl rfl rfl) rfl rfl ?_; conv => whnf) | (refine r_put (p_bin (b_mul2 rfl (by omega) (by omega)) rfl rfl rfl) rfl rfl ?_; conv => whnf) | (refine r_put (p_bin (b_rem2 (by omega) (by omega) rfl) rfl rfl rfl) rfl rfl ?_; conv => whnf) | (refine r_put (p_conv8 rfl hb) rfl rfl ?_; conv => whnf) | first | (refine r_put (p_bin (by first | exact b_lt_t (by omega) | exact b_lt_f (by omega) | exact b_le_t (by omega) | exact b_le_f (by omega) | exact b_gt_t (by omega) | exact b_gt_f (by omega) | exact b_ge_t (by omega) | exact b_ge_f (by omega) | exact b_eq_t (by omega) | exact b_eq_f (by omega) | exact b_ne_t (by omega) | exact b_ne_f (by omega) | exact b_sub rfl (by omega) (by omega) | exact b_add rfl (by omega) (by omega)) rfl rfl rfl) rfl rfl ?_; conv => whnf) | (refine r_put (p_idx (getA _ (by assumption)) rfl rfl rfl) rfl rfl ?_; conv => whnf) | (refine r_put (p_lenm rfl ⟨_, _, _, _, rfl⟩) rfl rfl ?_; conv => whnf) | (refine r_put (p_lenom rfl rfl ⟨_, _, _, _, rfl⟩) rfl rfl ?_; conv => whnf) | (refine r_put (p_len (y := .v (.string _)) rfl rfl rfl) rfl rfl ?_; conv => whnf) | (refine r_put (p_len rfl rfl ⟨_, _, _, _, rfl⟩) rfl rfl ?_; conv => whnf) | (refine .inl (And.intro (by kernel_rfl) ?_); conv => whnf) | (refine r_step (p_ostore rfl rfl rfl rfl rfl (by conv => lhs; whnf) rfl) rfl rfl (fun e => by first | exact .inl rfl | contradiction | exact .inr (.inl (by kernel_rfl))) ?_; conv => whnf))
    exact r_ret1s rfl rfl
  rw [dif_neg h]
  by_cases h3 : 3000 < s.at_ + 1
  · rw [if_pos h3]
    repeat (first | (refine r_put (p_bin (b_add (c := ((s.at_ + 1 : Nat) : Int)) (by omega) (by omega) (by omega)) rfl rfl rfl) rfl rfl ?_; conv => whnf) | first | (refine r_put (p_bin (by first | exact b_lt_t (by omega) | exact b_lt_f (by omega) | exact b_le_t (by omega) | exact b_le_f (by omega) | exact b_gt_t (by omega) | exact b_gt_f (by omega) | exact b_ge_t (by omega) | exact b_ge_f (by omega) | exact b_eq_t (by omega) | exact b_eq_f (by omega) | exact b_ne_t (by omega) | exact b_ne_f (by omega) | exact b_sub rfl (by omega) (by omega) | exact b_add rfl (by omega) (by omega)) rfl rfl rfl) rfl rfl ?_; conv => whnf) | (refine r_put (p_idx (getA _ (by assumption)) rfl rfl rfl) rfl rfl ?_; conv => whnf) | (refine r_put (p_lenm rfl ⟨_, _, _, _, rfl⟩) rfl rfl ?_; conv => whnf) | (refine r_put (p_lenom rfl rfl ⟨_, _, _, _, rfl⟩) rfl rfl ?_; conv => whnf) | (refine r_put (p_len (y := .v (.string _)) rfl rfl rfl) rfl rfl ?_; conv => whnf) | (refine r_put (p_len rfl rfl ⟨_, _, _, _, rfl⟩) rfl rfl ?_; conv => whnf) | (refine .inl (And.intro (by kernel_rfl) ?_); conv => whnf) | (refine r_step (p_ostore rfl rfl rfl rfl rfl (by conv => lhs; whnf) rfl) rfl rfl (fun e => by first | exact .inl rfl | contradiction | exact .inr (.inl (by kernel_rfl))) ?_; conv => whnf))
    exact r_ret1s rfl rfl
  · rw [if_neg h3]
    have hst := stepS_lt (s.seed * 1103515245 + 12345)
    repeat (first | (refine r_put (p_bin (b_add (c := ((s.at_ + 1 : Nat) : Int)) (by omega) (by omega) (by omega)) rfl rfl rfl) rfl rfl ?_; conv => whnf) | (refine r_put (p_bin (b_mul2 rfl (by omega) (by omega)) rfl rfl rfl) rfl rfl ?_; conv => whnf) | (refine r_put (p_bin (b_rem2 (c := stepS (s.seed * 1103515245 + 12345)) (by omega) (by omega) rfl) rfl rfl rfl) rfl rfl ?_; conv => whnf) | (refine r_put (p_bin (b_quo2 hst.1 (by omega) (by omega) rfl) rfl rfl rfl) rfl rfl ?_; conv => whnf) | (refine r_put (p_bin (b_rem2 (Int.ediv_nonneg hst.1 (by decide)) (by omega) rfl) rfl rfl rfl) rfl rfl ?_; conv => whnf) | first | (refine r_put (p_bin (by first | exact b_lt_t (by omega) | exact b_lt_f (by omega) | exact b_le_t (by omega) | exact b_le_f (by omega) | exact b_gt_t (by omega) | exact b_gt_f (by omega) | exact b_ge_t (by omega) | exact b_ge_f (by omega) | exact b_eq_t (by omega) | exact b_eq_f (by omega) | exact b_ne_t (by omega) | exact b_ne_f (by omega) | exact b_sub rfl (by omega) (by omega) | exact b_add rfl (by omega) (by omega)) rfl rfl rfl) rfl rfl ?_; conv => whnf) | (refine r_put (p_idx (getA _ (by assumption)) rfl rfl rfl) rfl rfl ?_; conv => whnf) | (refine r_put (p_lenm rfl ⟨_, _, _, _, rfl⟩) rfl rfl ?_; conv => whnf) | (refine r_put (p_lenom rfl rfl ⟨_, _, _, _, rfl⟩) rfl rfl ?_; conv => whnf) | (refine r_put (p_len (y := .v (.string _)) rfl rfl rfl) rfl rfl ?_; conv => whnf) | (refine r_put (p_len rfl rfl ⟨_, _, _, _, rfl⟩) rfl rfl ?_; conv => whnf) | (refine .inl (And.intro (by kernel_rfl) ?_); conv => whnf) | (refine r_step (p_ostore rfl rfl rfl rfl rfl (by conv => lhs; whnf) rfl) rfl rfl (fun e => by first | exact .inl rfl | contradiction | exact .inr (.inl (by kernel_rfl))) ?_; conv => whnf))
    exact r_ret1s rfl rfl
end Go.Proofs.Ytjhimcddgkoghaa.AM
