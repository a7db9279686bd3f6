/- Texts of the machine over data, folded. -/
import Derived.Test.YtmfmclnklpbiaaaKq5
import Derived.Test.YtmfmclnklpbiaaaKq7
import Derived.Test.YtmfmclnklpbiaaaKq6
import Derived.Conc.LoneCalls
import Derived.Conc.LoneSelect
namespace Go.Proofs.Ytmfmclnklpbiaaa.AM
open Go Go.RowKit
set_option linter.unusedVariables false
set_option linter.unusedSimpArgs false
set_option maxRecDepth 100000
/-- the i-th choice out of n -/
def atS (m : List UInt8) (i n : Nat) : Nat := if n ≤ 1 then 0 else if m.length = 0 then i * 7 % n else ((m.getD (i % m.length) 0).toNat * 31 + (m.getD ((i + 1) % m.length) 0).toNat + i / m.length) % n
theorem atS_lt {m : List UInt8} {i n : Nat} (hn : 0 < n) : atS m i n < n := by
  unfold atS
  split
  · exact hn
  · split <;> exact Nat.mod_lt _ hn
theorem b_quo3 {P : Program} {t : TypeId} {x y : Operand} {a b c : Int} (h0 : 0 ≤ a) (h1 : a ≤ 9223372036854775807) (hb : 0 < b) (hc : a / b = c) : BinOK P .quo t x y (.int .i64 a) (.int .i64 b) (.int .i64 c) := fun w => by
  have hb0 : b ≠ 0 := by omega
  have hle : a / b ≤ a := Int.ediv_le_self b h0
  have hnn : 0 ≤ a / b := Int.ediv_nonneg h0 (by omega)
  have hw : IntKind.i64.wrap (a.tdiv b) = c := by rw [Int.tdiv_eq_ediv_of_nonneg h0, IntKind.wrap_i64, hc]; omega
  have hr : (Op.intDiv .quo .i64 a b).run P w = .ok (.int .i64 c) w := by simp [Op.intDiv, hb0, hw]
  simp [eqGuard, binOp, hr]
attribute [local irreducible] ACode AOps AOps2 RetG RetM Pre ACG
set_option maxHeartbeats 8000000 in
theorem ac_at {m : List UInt8} {i n : Nat} (hm : m.length ≤ maxLen) (hi : i ≤ 1000) (hn : n ≤ 1000) : AC Try.prog 16 [.lst 1 (m.map bytA), .v (.int .i64 (i : Int)), .v (.int .i64 (n : Int))] ⟨.v (.int .i64 (atS m i n : Int)), []⟩ := by
  unfold maxLen at hm
  unfold atS
  by_cases h1 : n ≤ 1
  · rw [if_pos h1]
    refine r_of Th_ok (by kernel_rfl) Try.func16 rfl Try.ntmps16 Try.results16 (by kernel_rfl) rfl ?_; conv => whnf
    repeat (((first | refine qb rfl rfl ?_ | refine qi (by assumption) rfl rfl ?_ | refine ql rfl ?_ | refine qo rfl rfl ?_ | refine qs rfl rfl ?_ | refine qn rfl rfl ?_); conv => whnf))
    exact r_ret1 rfl trivial
  rw [if_neg h1]
  by_cases h2 : m.length = 0
  · rw [if_pos h2]
    have hr : (i : Int) * 7 % (n : Int) = ((i * 7 % n : Nat) : Int) := by rw [Int.natCast_emod, Int.natCast_mul]; rfl
    refine r_of Th_ok (by kernel_rfl) Try.func16 rfl Try.ntmps16 Try.results16 (by kernel_rfl) rfl ?_; conv => whnf
    repeat (first | (refine r_put (p_bin (b_mul2 (c := (i : Int) * 7) rfl (by omega) (by omega)) rfl rfl rfl) rfl rfl ?_; conv => whnf) | (refine r_put (p_bin (b_rem2 (by omega) (by omega) hr) rfl rfl rfl) rfl rfl ?_; conv => whnf) | ((first | refine qb rfl rfl ?_ | refine qi (by assumption) rfl rfl ?_ | refine ql rfl ?_ | refine qo rfl rfl ?_ | refine qs rfl rfl ?_ | refine qn rfl rfl ?_); conv => whnf))
    exact r_ret1 rfl trivial
  rw [if_neg h2]
  have hl : 0 < m.length := by omega
  have j1 : i % m.length < m.length := Nat.mod_lt _ hl
  have j2 : (i + 1) % m.length < m.length := Nat.mod_lt _ hl
  have g1 : m.getD (i % m.length) 0 = m[i % m.length] := by simp [j1]
  have g2 : m.getD ((i + 1) % m.length) 0 = m[(i + 1) % m.length] := by simp [j2]
  rw [g1, g2]
  have b1 : (m[i % m.length]).toNat < 256 := (m[i % m.length]).toNat_lt
  have b2 : (m[(i + 1) % m.length]).toNat < 256 := (m[(i + 1) % m.length]).toNat_lt
  have r1 : (i : Int) % (m.length : Int) = ((i % m.length : Nat) : Int) := (Int.natCast_emod _ _).symm
  have r2 : ((i + 1 : Nat) : Int) % (m.length : Int) = (((i + 1) % m.length : Nat) : Int) := (Int.natCast_emod _ _).symm
  have d1 : (i : Int) / (m.length : Int) = ((i / m.length : Nat) : Int) := (Int.natCast_ediv _ _).symm
  have d2 : i / m.length ≤ i := Nat.div_le_self _ _
  have hr : (((m[i % m.length]).toNat : Int) * 31 + ((m[(i + 1) % m.length]).toNat : Int) + ((i / m.length : Nat) : Int)) % (n : Int) = ((((m[i % m.length]).toNat * 31 + (m[(i + 1) % m.length]).toNat + i / m.length) % n : Nat) : Int) := by
    rw [Int.natCast_emod]; congr 1
  generalize i / m.length = q at *
  generalize hp1 : i % m.length = p1 at *
  generalize hp2 : (i + 1) % m.length = p2 at *
  refine r_of Th_ok (by kernel_rfl) Try.func16 rfl Try.ntmps16 Try.results16 (by kernel_rfl) rfl ?_; conv => whnf
  repeat (first | (refine r_put (p_bin (b_add (c := ((i + 1 : Nat) : Int)) (by omega) (by omega) (by omega)) rfl rfl rfl) rfl rfl ?_; conv => whnf) | (refine r_put (p_bin (b_rem2 (by omega) (by omega) r1) rfl rfl rfl) rfl rfl ?_; conv => whnf) | (refine r_put (p_bin (b_rem2 (by omega) (by omega) r2) rfl rfl rfl) rfl rfl ?_; conv => whnf) | (refine r_put (p_bin (b_quo3 (by omega) (by omega) (by omega) d1) rfl rfl rfl) rfl rfl ?_; conv => whnf) | (refine r_put (p_conv8 rfl b1) rfl rfl ?_; conv => whnf) | (refine r_put (p_conv8 rfl b2) rfl rfl ?_; conv => whnf) | (refine r_put (p_bin (b_mul2 rfl (by omega) (by omega)) rfl rfl rfl) rfl rfl ?_; conv => whnf) | (refine r_put (p_bin (b_add rfl (by omega) (by omega)) rfl rfl rfl) rfl rfl ?_; conv => whnf) | (refine r_put (p_bin (b_rem2 (by omega) (by omega) hr) rfl rfl rfl) rfl rfl ?_; conv => whnf) | ((first | refine qb rfl rfl ?_ | refine qi (by assumption) rfl rfl ?_ | refine ql rfl ?_ | refine qo rfl rfl ?_ | refine qs rfl rfl ?_ | refine qn rfl rfl ?_); conv => whnf) | (refine .inl (And.intro (by kernel_rfl) ?_); conv => whnf))
  exact r_ret1 rfl trivial
def names4 : List ByteArray := [⟨#[109, 97, 105, 110]⟩, ⟨#[100, 101, 118]⟩, ⟨#[102, 105, 120]⟩, ⟨#[111, 108, 100]⟩]
def Nam (x : ByteArray) : Prop := okN x = true ∧ x.size ≤ 12
theorem names6_ok {x : ByteArray} (h : x ∈ names6) : Nam x := by
  have h1 : (names6.all fun k => okN k && decide (k.size ≤ 12)) = true := by decide +kernel
  have := List.all_eq_true.1 h1 x h
  simpa [Nam] using this
theorem names4_ok {x : ByteArray} (h : x ∈ names4) : Nam x := by
  have h1 : (names4.all fun k => okN k && decide (k.size ≤ 12)) = true := by decide +kernel
  have := List.all_eq_true.1 h1 x h
  simpa [Nam] using this
theorem pickS_ok {c : List UInt8} {s : Src} {K : Nat} {l : List ByteArray} (h : s.ok K) (h0 : 0 < l.length) : (pickS c s l).2.ok (K + 1) ∧ (pickS c s l).1 ∈ l := by
  obtain ⟨h1, h2⟩ := nextS_ok (c := c) (n := l.length) h h0
  refine ⟨h1, ?_⟩
  have e : (pickS c s l).1 = l[(nextS c s l.length).1] := by simp [pickS, h2]
  rw [e]; exact List.getElem_mem h2
theorem ac_branch {c : List UInt8} {s : Src} {K : Nat} (hc : c.length ≤ maxLen) (hs : s.ok K) (hK : K ≤ 1000000000) : ACG Try.prog 86 [.optr 0 0 [] 0] [srcO c s] [srcO c (pickS c s names4).2] ⟨.v (.string (pickS c s names4).1), []⟩ := by
  have hb : ACG Try.prog 93 [.optr 0 0 [] 0, .own 1000000] [srcO c s, strO names4] [srcO c (pickS c s names4).2, strO names4] ⟨.v (.string (pickS c s names4).1), []⟩ := ac_pick hc hs hK (by decide) (by decide)
  refine acg_of (rs := [.tmp 2]) Th_ok (by kernel_rfl) Try.func86 rfl Try.ntmps86 (by rw [Try.results86]) (by kernel_rfl) (by simp) rfl rfl (runC_sound _ _ _ ?_); conv => whnf
  (refine r_step (p_callg [0,5] (hb) rfl rfl (by first | exact ⟨rfl, trivial⟩ | exact ⟨rfl, rfl, trivial⟩ | exact ⟨rfl, rfl, rfl, trivial⟩) rfl rfl (by first | exact trivial | exact ⟨⟨rfl, rfl, rfl⟩, trivial⟩ | exact ⟨⟨rfl, rfl, rfl⟩, ⟨rfl, rfl, rfl⟩, trivial⟩ | exact ⟨⟨rfl, rfl, rfl⟩, ⟨rfl, rfl, rfl⟩, ⟨rfl, rfl, rfl⟩, trivial⟩) rfl rfl rfl (.inl rfl) rfl) rfl rfl (fun e => by first | exact .inl rfl | contradiction | exact .inr (.inl (by kernel_rfl))) ?_; conv => whnf)
  repeat (((first | refine qb rfl rfl ?_ | refine qi (by assumption) rfl rfl ?_ | refine ql rfl ?_ | refine qo rfl rfl ?_ | refine qs rfl rfl ?_ | refine qn rfl rfl ?_); conv => whnf))
  exact r_ret1s rfl rfl
/-- one reference is drawn -/
def rfS1 (c : List UInt8) (s : Src) : ByteArray × Src := pickS c s names6
def rfS2 (c : List UInt8) (s : Src) : Nat × Src := nextS c (rfS1 c s).2 9
def rfS3 (c : List UInt8) (s : Src) : Nat × Src := nextS c (rfS2 c s).2 4
def rfS4 (c : List UInt8) (s : Src) : Nat × Src := nextS c (rfS3 c s).2 5
def rfS (c : List UInt8) (s : Src) : Rf := if (rfS4 c s).1 = 5 - 1 then ⟨(rfS1 c s).1, 0, 1 + ((rfS3 c s).1 : Int), true⟩ else ⟨(rfS1 c s).1, 1 + ((rfS2 c s).1 : Int), 1 + ((rfS3 c s).1 : Int), false⟩
theorem rfS_ok {c : List UInt8} {s : Src} {K : Nat} (h : s.ok K) : ((rfS1 c s).2.ok (K + 1) ∧ (rfS2 c s).2.ok (K + 2) ∧ (rfS3 c s).2.ok (K + 3) ∧ (rfS4 c s).2.ok (K + 4)) ∧ refB (rfS c s) = true ∧ (rfS c s).ver ≤ 4 ∧ (rfS c s).name.size ≤ 12 ∧ (rfS c s).name = (rfS1 c s).1 := by
  obtain ⟨h1, n1⟩ := pickS_ok (c := c) (l := names6) h (by decide)
  obtain ⟨h2, n2⟩ := nextS_ok (c := c) (n := 9) h1 (by omega)
  obtain ⟨h3, n3⟩ := nextS_ok (c := c) (n := 4) h2 (by omega)
  obtain ⟨h4, n4⟩ := nextS_ok (c := c) (n := 5) h3 (by omega)
  obtain ⟨k1, k2⟩ := names6_ok n1
  have n2' : (rfS2 c s).1 < 9 := n2
  have n3' : (rfS3 c s).1 < 4 := n3
  refine ⟨⟨h1, h2, h3, h4⟩, ?_, ?_, ?_, ?_⟩
  · rw [refB_iff]
    unfold rfS
    split
    · exact ⟨k1, ⟨by simp only; omega, by simp only; omega⟩, by simp⟩
    · exact ⟨k1, ⟨by simp only; omega, by simp only; omega⟩, by simp; omega⟩
  · unfold rfS; split <;> (simp only; omega)
  · unfold rfS; split <;> exact k2
  · unfold rfS; split <;> rfl
def addR (l : List Rf) (r : Rf) : List Rf := if rAt l r.name 0 < 0 then l ++ [r] else l
def refsL (c : List UInt8) : Nat → Src → List Rf → List Rf × Src
  | 0, s, l => (l, s)
  | n + 1, s, l => refsL c n (rfS4 c s).2 (addR l (rfS c s))
theorem addR_ok {l : List Rf} {r : Rf} (h : GoodR l) (hl : l.length < 8) (hr : refB r = true) (hv : r.ver ≤ 4) (hs : r.name.size ≤ 12) : GoodR (addR l r) ∧ (addR l r).length ≤ l.length + 1 := by
  unfold addR
  split
  · rename_i hn; exact ⟨h.snoc hl hr hv hs hn, by simp⟩
  · exact ⟨h, by omega⟩
theorem refsL_ok {c : List UInt8} : ∀ (n : Nat) (s : Src) (l : List Rf) (K : Nat), s.ok K → GoodR l → l.length + n ≤ 8 → (refsL c n s l).2.ok (K + 4 * n) ∧ GoodR (refsL c n s l).1 ∧ (refsL c n s l).1.length ≤ 8
  | 0, s, l, K, h, hg, hl => ⟨h, hg, hl⟩
  | n + 1, s, l, K, h, hg, hl => by
    obtain ⟨⟨_, _, _, h4⟩, a, b, d, _⟩ := rfS_ok (c := c) h
    obtain ⟨g1, g2⟩ := addR_ok hg (by omega) a b d
    obtain ⟨k1, k2, k3⟩ := refsL_ok n (rfS4 c s).2 (addR l (rfS c s)) (K + 4) h4 g1 (by omega)
    exact ⟨k1.le (by omega), k2, k3⟩
def refsS (c : List UInt8) (s : Src) : List Rf × Src := refsL c (nextS c s 5).1 (nextS c s 5).2 []
theorem refsS_ok {c : List UInt8} {s : Src} {K : Nat} (h : s.ok K) : (refsS c s).2.ok (K + 17) ∧ GoodR (refsS c s).1 ∧ (refsS c s).1.length ≤ 8 := by
  obtain ⟨h1, h2⟩ := nextS_ok (c := c) (n := 5) h (by omega)
  obtain ⟨a1, a2, a3⟩ := refsL_ok (c := c) (nextS c s 5).1 _ [] _ h1 GoodR.nil (by simp; omega)
  exact ⟨a1.le (by omega), a2, a3⟩
set_option maxHeartbeats 4000000 in
theorem ac_refs {c : List UInt8} {s : Src} {K : Nat} (hc : c.length ≤ maxLen) (hs : s.ok K) (hK : K ≤ 900000000) : ACG Try.prog 64 [.optr 0 0 [] 0] [srcO c s] [srcO c (refsS c s).2] ⟨.own 0, [refO (refsS c s).1]⟩ := by
  have hb := ac_next (n := 5) hc hs (by omega) (by omega)
  obtain ⟨n1, n2⟩ := nextS_ok (c := c) (n := 5) hs (by omega)
  refine acg_of (rs := [.tmp 2]) Th_ok (by kernel_rfl) Try.func64 rfl Try.ntmps64 (by rw [Try.results64]) (by kernel_rfl) (by simp) rfl rfl (runC_sound _ _ _ ?_); conv => whnf
  repeat (first | ((first | refine qb rfl rfl ?_ | refine qi (by assumption) rfl rfl ?_ | refine ql rfl ?_ | refine qo rfl rfl ?_ | refine qs rfl rfl ?_ | refine qn rfl rfl ?_); conv => whnf) | (refine r_step (p_callg [0] (hb) rfl rfl (by first | exact ⟨rfl, trivial⟩ | exact ⟨rfl, rfl, trivial⟩ | exact ⟨rfl, rfl, rfl, trivial⟩) rfl rfl (by first | exact trivial | exact ⟨⟨rfl, rfl, rfl⟩, trivial⟩ | exact ⟨⟨rfl, rfl, rfl⟩, ⟨rfl, rfl, rfl⟩, trivial⟩ | exact ⟨⟨rfl, rfl, rfl⟩, ⟨rfl, rfl, rfl⟩, ⟨rfl, rfl, rfl⟩, trivial⟩) rfl rfl rfl (.inl rfl) rfl) rfl rfl (fun e => by first | exact .inl rfl | contradiction | exact .inr (.inl (by kernel_rfl))) ?_; conv => whnf))
  unfold refsS
  generalize (nextS c s 5).2 = s1 at n1 ⊢
  generalize hn0 : (nextS c s 5).1 = n0 at n2 ⊢
  refine r_loop (ι := { p : Nat × Src × List Rf // p.2.1.ok (K + 1 + 4 * (4 - p.1)) ∧ p.1 ≤ 4 ∧ GoodR p.2.2 ∧ p.2.2.length + p.1 ≤ 4 ∧ refsL c p.1 p.2.1 p.2.2 = refsL c n0 s1 [] }) (fun p => ⟨[(0, .optr 0 0 [] 0), (3, .own 7), (4, .v (.int .i64 (p.1.1 : Int)))], [(0, srcO c p.1.2.1), (7, refO p.1.2.2)]⟩) (fun p => p.1.1) ⟨(n0, s1, []), n1.le (by omega), by omega, GoodR.nil, by simp; omega, rfl⟩ (by refine ⟨?_, ?_⟩ <;> (repeat (first | trivial | exact ⟨rfl, trivial⟩ | refine ⟨rfl, ?_⟩ | refine ⟨.inl ⟨rfl, rfl⟩, ?_⟩ | refine ⟨.inr ⟨_, _, rfl, rfl, rfl, rfl, rfl⟩, ?_⟩))) ?_
  rintro ⟨⟨n, s2, m⟩, h1, h2, h3, h4, h5⟩
  dsimp only at h1 h2 h3 h4 h5 ⊢
  conv => whnf
  cases n with
  | zero =>
    rw [← h5]
    repeat (((first | refine qb rfl rfl ?_ | refine qi (by assumption) rfl rfl ?_ | refine ql rfl ?_ | refine qo rfl rfl ?_ | refine qs rfl rfl ?_ | refine qn rfl rfl ?_); conv => whnf))
    exact r_own1s rfl rfl rfl
  | succ n =>
    obtain ⟨⟨k1, k2, k3, k4⟩, a, b, d, e⟩ := rfS_ok (c := c) h1
    have c1 : ACG Try.prog 93 [.optr 0 0 [] 0, .own 1000000] [srcO c s2, strO names6] [srcO c (rfS1 c s2).2, strO names6] ⟨.v (.string (rfS1 c s2).1), []⟩ := ac_pick hc h1 (by omega) (by decide) (by decide)
    have c2 := ac_next (n := 9) hc k1 (by omega) (by omega)
    have c3 := ac_next (n := 4) hc k2 (by omega) (by omega)
    have c4 := ac_chance (n := 5) hc k3 (by omega) (by omega) (by omega)
    have n2' : (nextS c (rfS1 c s2).2 9).1 < 9 := (nextS_ok (c := c) (n := 9) k1 (by omega)).2
    have n3' : (nextS c (rfS2 c s2).2 4).1 < 4 := (nextS_ok (c := c) (n := 4) k2 (by omega)).2
    have h5' : refsL c n (rfS4 c s2).2 (addR m (rfS c s2)) = refsL c n0 s1 [] := h5
    obtain ⟨g1, g2⟩ := addR_ok h3 (by omega) a b d
    have hat := ac_l04At (l := m) (x := (rfS1 c s2).1) (by unfold maxLen; omega)
    repeat (first | ((first | refine qb rfl rfl ?_ | refine qi (by assumption) rfl rfl ?_ | refine ql rfl ?_ | refine qo rfl rfl ?_ | refine qs rfl rfl ?_ | refine qn rfl rfl ?_); conv => whnf) | (refine r_step (p_callg [0,15] (c1) rfl rfl (by first | exact ⟨rfl, trivial⟩ | exact ⟨rfl, rfl, trivial⟩ | exact ⟨rfl, rfl, rfl, trivial⟩) rfl rfl (by first | exact trivial | exact ⟨⟨rfl, rfl, rfl⟩, trivial⟩ | exact ⟨⟨rfl, rfl, rfl⟩, ⟨rfl, rfl, rfl⟩, trivial⟩ | exact ⟨⟨rfl, rfl, rfl⟩, ⟨rfl, rfl, rfl⟩, ⟨rfl, rfl, rfl⟩, trivial⟩) rfl rfl rfl (.inl rfl) rfl) rfl rfl (fun e => by first | exact .inl rfl | contradiction | exact .inr (.inl (by kernel_rfl))) ?_; conv => whnf) | (refine r_step (p_callg [0] (c2) rfl rfl (by first | exact ⟨rfl, trivial⟩ | exact ⟨rfl, rfl, trivial⟩ | exact ⟨rfl, rfl, rfl, trivial⟩) rfl rfl (by first | exact trivial | exact ⟨⟨rfl, rfl, rfl⟩, trivial⟩ | exact ⟨⟨rfl, rfl, rfl⟩, ⟨rfl, rfl, rfl⟩, trivial⟩ | exact ⟨⟨rfl, rfl, rfl⟩, ⟨rfl, rfl, rfl⟩, ⟨rfl, rfl, rfl⟩, trivial⟩) rfl rfl rfl (.inl rfl) rfl) rfl rfl (fun e => by first | exact .inl rfl | contradiction | exact .inr (.inl (by kernel_rfl))) ?_; conv => whnf) | (refine r_step (p_callg [0] (c3) rfl rfl (by first | exact ⟨rfl, trivial⟩ | exact ⟨rfl, rfl, trivial⟩ | exact ⟨rfl, rfl, rfl, trivial⟩) rfl rfl (by first | exact trivial | exact ⟨⟨rfl, rfl, rfl⟩, trivial⟩ | exact ⟨⟨rfl, rfl, rfl⟩, ⟨rfl, rfl, rfl⟩, trivial⟩ | exact ⟨⟨rfl, rfl, rfl⟩, ⟨rfl, rfl, rfl⟩, ⟨rfl, rfl, rfl⟩, trivial⟩) rfl rfl rfl (.inl rfl) rfl) rfl rfl (fun e => by first | exact .inl rfl | contradiction | exact .inr (.inl (by kernel_rfl))) ?_; conv => whnf) | (refine r_step (p_callg [0] (c4) rfl rfl (by first | exact ⟨rfl, trivial⟩ | exact ⟨rfl, rfl, trivial⟩ | exact ⟨rfl, rfl, rfl, trivial⟩) rfl rfl (by first | exact trivial | exact ⟨⟨rfl, rfl, rfl⟩, trivial⟩ | exact ⟨⟨rfl, rfl, rfl⟩, ⟨rfl, rfl, rfl⟩, trivial⟩ | exact ⟨⟨rfl, rfl, rfl⟩, ⟨rfl, rfl, rfl⟩, ⟨rfl, rfl, rfl⟩, trivial⟩) rfl rfl rfl (.inl rfl) rfl) rfl rfl (fun e => by first | exact .inl rfl | contradiction | exact .inr (.inl (by kernel_rfl))) ?_; conv => whnf) | (refine r_step (p_ostore rfl rfl rfl rfl rfl (by conv => lhs; whnf) rfl) rfl rfl (fun e => by first | exact .inl rfl | contradiction | exact .inr (.inl (by kernel_rfl))) ?_; conv => whnf))
    by_cases h6 : (nextS c (rfS3 c s2).2 5).1 = 5 - 1
    · rw [decide_eq_true h6]
      have hf : rfS c s2 = ⟨(rfS1 c s2).1, 0, 1 + ((nextS c (rfS2 c s2).2 4).1 : Int), true⟩ := by unfold rfS; rw [if_pos (show (rfS4 c s2).1 = 5 - 1 from h6)]; rfl
      rw [hf] at h5' g1 g2
      conv => whnf
      by_cases hat0 : rAt m (rfS1 c s2).1 0 < 0
      · have had : addR m ⟨(rfS1 c s2).1, 0, 1 + ((nextS c (rfS2 c s2).2 4).1 : Int), true⟩ = m ++ [⟨(rfS1 c s2).1, 0, 1 + ((nextS c (rfS2 c s2).2 4).1 : Int), true⟩] := by unfold addR; rw [if_pos hat0]
        rw [had] at h5' g1 g2
        repeat (first | (refine r_put (p_bin (b_sub (c := (n : Int)) (by omega) (by omega) (by omega)) rfl rfl rfl) rfl rfl ?_; conv => whnf) | ((first | refine qb rfl rfl ?_ | refine qi (by assumption) rfl rfl ?_ | refine ql rfl ?_ | refine qo rfl rfl ?_ | refine qs rfl rfl ?_ | refine qn rfl rfl ?_); conv => whnf) | (refine r_step (p_ostore rfl rfl rfl rfl rfl (by conv => lhs; whnf) rfl) rfl rfl (fun e => by first | exact .inl rfl | contradiction | exact .inr (.inl (by kernel_rfl))) ?_; conv => whnf) | (refine qc (hat) rfl ?_; conv => whnf) | (refine r_step (p_app1r (f := refA) (xs := m) ⟨(rfS1 c s2).1, 0, 1 + ((nextS c (rfS2 c s2).2 4).1 : Int), true⟩ (m ++ [⟨(rfS1 c s2).1, 0, 1 + ((nextS c (rfS2 c s2).2 4).1 : Int), true⟩]) rfl (by omega) rfl rfl rfl rfl rfl rfl rfl) rfl rfl (fun e => by first | exact .inl rfl | contradiction | exact .inr (.inl (by kernel_rfl))) ?_; conv => whnf))
        exact ⟨⟨(n, (rfS4 c s2).2, m ++ [⟨(rfS1 c s2).1, 0, 1 + ((nextS c (rfS2 c s2).2 4).1 : Int), true⟩]), k4.le (by omega), by omega, g1, by simp; omega, h5'⟩, by refine ⟨?_, ?_⟩ <;> (repeat (first | trivial | exact ⟨rfl, trivial⟩ | refine ⟨rfl, ?_⟩ | refine ⟨.inl ⟨rfl, rfl⟩, ?_⟩ | refine ⟨.inr ⟨_, _, rfl, rfl, rfl, rfl, rfl⟩, ?_⟩)), by simp⟩
      · have had : addR m ⟨(rfS1 c s2).1, 0, 1 + ((nextS c (rfS2 c s2).2 4).1 : Int), true⟩ = m := by unfold addR; rw [if_neg hat0]
        rw [had] at h5' g1 g2
        repeat (first | (refine r_put (p_bin (b_sub (c := (n : Int)) (by omega) (by omega) (by omega)) rfl rfl rfl) rfl rfl ?_; conv => whnf) | ((first | refine qb rfl rfl ?_ | refine qi (by assumption) rfl rfl ?_ | refine ql rfl ?_ | refine qo rfl rfl ?_ | refine qs rfl rfl ?_ | refine qn rfl rfl ?_); conv => whnf) | (refine r_step (p_ostore rfl rfl rfl rfl rfl (by conv => lhs; whnf) rfl) rfl rfl (fun e => by first | exact .inl rfl | contradiction | exact .inr (.inl (by kernel_rfl))) ?_; conv => whnf) | (refine qc (hat) rfl ?_; conv => whnf))
        exact ⟨⟨(n, (rfS4 c s2).2, m), k4.le (by omega), by omega, g1, by simp; omega, h5'⟩, by refine ⟨?_, ?_⟩ <;> (repeat (first | trivial | exact ⟨rfl, trivial⟩ | refine ⟨rfl, ?_⟩ | refine ⟨.inl ⟨rfl, rfl⟩, ?_⟩ | refine ⟨.inr ⟨_, _, rfl, rfl, rfl, rfl, rfl⟩, ?_⟩)), by simp⟩
    · rw [decide_eq_false h6]
      have hf : rfS c s2 = ⟨(rfS1 c s2).1, 1 + ((nextS c (rfS1 c s2).2 9).1 : Int), 1 + ((nextS c (rfS2 c s2).2 4).1 : Int), false⟩ := by unfold rfS; rw [if_neg (show ¬ (rfS4 c s2).1 = 5 - 1 from h6)]; rfl
      rw [hf] at h5' g1 g2
      conv => whnf
      by_cases hat0 : rAt m (rfS1 c s2).1 0 < 0
      · have had : addR m ⟨(rfS1 c s2).1, 1 + ((nextS c (rfS1 c s2).2 9).1 : Int), 1 + ((nextS c (rfS2 c s2).2 4).1 : Int), false⟩ = m ++ [⟨(rfS1 c s2).1, 1 + ((nextS c (rfS1 c s2).2 9).1 : Int), 1 + ((nextS c (rfS2 c s2).2 4).1 : Int), false⟩] := by unfold addR; rw [if_pos hat0]
        rw [had] at h5' g1 g2
        repeat (first | (refine r_put (p_bin (b_sub (c := (n : Int)) (by omega) (by omega) (by omega)) rfl rfl rfl) rfl rfl ?_; conv => whnf) | ((first | refine qb rfl rfl ?_ | refine qi (by assumption) rfl rfl ?_ | refine ql rfl ?_ | refine qo rfl rfl ?_ | refine qs rfl rfl ?_ | refine qn rfl rfl ?_); conv => whnf) | (refine r_step (p_ostore rfl rfl rfl rfl rfl (by conv => lhs; whnf) rfl) rfl rfl (fun e => by first | exact .inl rfl | contradiction | exact .inr (.inl (by kernel_rfl))) ?_; conv => whnf) | (refine qc (hat) rfl ?_; conv => whnf) | (refine r_step (p_app1r (f := refA) (xs := m) ⟨(rfS1 c s2).1, 1 + ((nextS c (rfS1 c s2).2 9).1 : Int), 1 + ((nextS c (rfS2 c s2).2 4).1 : Int), false⟩ (m ++ [⟨(rfS1 c s2).1, 1 + ((nextS c (rfS1 c s2).2 9).1 : Int), 1 + ((nextS c (rfS2 c s2).2 4).1 : Int), false⟩]) rfl (by omega) rfl rfl rfl rfl rfl rfl rfl) rfl rfl (fun e => by first | exact .inl rfl | contradiction | exact .inr (.inl (by kernel_rfl))) ?_; conv => whnf))
        exact ⟨⟨(n, (rfS4 c s2).2, m ++ [⟨(rfS1 c s2).1, 1 + ((nextS c (rfS1 c s2).2 9).1 : Int), 1 + ((nextS c (rfS2 c s2).2 4).1 : Int), false⟩]), k4.le (by omega), by omega, g1, by simp; omega, h5'⟩, by refine ⟨?_, ?_⟩ <;> (repeat (first | trivial | exact ⟨rfl, trivial⟩ | refine ⟨rfl, ?_⟩ | refine ⟨.inl ⟨rfl, rfl⟩, ?_⟩ | refine ⟨.inr ⟨_, _, rfl, rfl, rfl, rfl, rfl⟩, ?_⟩)), by simp⟩
      · have had : addR m ⟨(rfS1 c s2).1, 1 + ((nextS c (rfS1 c s2).2 9).1 : Int), 1 + ((nextS c (rfS2 c s2).2 4).1 : Int), false⟩ = m := by unfold addR; rw [if_neg hat0]
        rw [had] at h5' g1 g2
        repeat (first | (refine r_put (p_bin (b_sub (c := (n : Int)) (by omega) (by omega) (by omega)) rfl rfl rfl) rfl rfl ?_; conv => whnf) | ((first | refine qb rfl rfl ?_ | refine qi (by assumption) rfl rfl ?_ | refine ql rfl ?_ | refine qo rfl rfl ?_ | refine qs rfl rfl ?_ | refine qn rfl rfl ?_); conv => whnf) | (refine r_step (p_ostore rfl rfl rfl rfl rfl (by conv => lhs; whnf) rfl) rfl rfl (fun e => by first | exact .inl rfl | contradiction | exact .inr (.inl (by kernel_rfl))) ?_; conv => whnf) | (refine qc (hat) rfl ?_; conv => whnf))
        exact ⟨⟨(n, (rfS4 c s2).2, m), k4.le (by omega), by omega, g1, by simp; omega, h5'⟩, by refine ⟨?_, ?_⟩ <;> (repeat (first | trivial | exact ⟨rfl, trivial⟩ | refine ⟨rfl, ?_⟩ | refine ⟨.inl ⟨rfl, rfl⟩, ?_⟩ | refine ⟨.inr ⟨_, _, rfl, rfl, rfl, rfl, rfl⟩, ?_⟩)), by simp⟩
noncomputable def rfD (c : List UInt8) : List Rf := (refsS c (src0 c)).1
theorem rfD_ok (c : List UInt8) : GoodR (rfD c) ∧ (rfD c).length ≤ 8 := (refsS_ok (src0_ok c)).2
theorem ac_RefsDrawn {c : List UInt8} (hc : c.length ≤ maxLen) : AC Try.prog 27 [.lst 1 (c.map bytA)] ⟨.lst 4 ((rfD c).map refA), []⟩ := by
  have h1 := ac_source hc
  have h2 := ac_refs hc (src0_ok c) (by omega)
  unfold rfD
  refine r_of Th_ok (by kernel_rfl) Try.func27 rfl Try.ntmps27 Try.results27 (by kernel_rfl) rfl ?_; conv => whnf
  repeat (first | ((first | refine qb rfl rfl ?_ | refine qi (by assumption) rfl rfl ?_ | refine ql rfl ?_ | refine qo rfl rfl ?_ | refine qs rfl rfl ?_ | refine qn rfl rfl ?_); conv => whnf) | (refine qf (h1) rfl ?_; conv => whnf))
  (refine r_step (p_callg [5] (h2) rfl rfl (by first | exact ⟨rfl, trivial⟩ | exact ⟨rfl, rfl, trivial⟩ | exact ⟨rfl, rfl, rfl, trivial⟩) rfl rfl (by first | exact trivial | exact ⟨⟨rfl, rfl, rfl⟩, trivial⟩ | exact ⟨⟨rfl, rfl, rfl⟩, ⟨rfl, rfl, rfl⟩, trivial⟩ | exact ⟨⟨rfl, rfl, rfl⟩, ⟨rfl, rfl, rfl⟩, ⟨rfl, rfl, rfl⟩, trivial⟩) rfl rfl rfl (.inl rfl) rfl) rfl rfl (fun e => by first | exact .inl rfl | contradiction | exact .inr (.inl (by kernel_rfl))) ?_; conv => whnf)
  repeat (((first | refine qb rfl rfl ?_ | refine qi (by assumption) rfl rfl ?_ | refine ql rfl ?_ | refine qo rfl rfl ?_ | refine qs rfl rfl ?_ | refine qn rfl rfl ?_); conv => whnf))
  exact r_lst1 rfl rfl
end Go.Proofs.Ytmfmclnklpbiaaa.AM
namespace Go.Proofs.Ytmfmclnklpbiaaa.AM
open Go Go.RowKit
set_option linter.unusedVariables false
set_option linter.unusedSimpArgs false
set_option maxRecDepth 100000

structure Evt where
  ver : Int
  head : Int
  lag : Bool
def evtA (e : Evt) : AV := .agg [.v (.int .i64 e.ver), .v (.int .i64 e.head), .v (.bool e.lag)]
theorem flat_evt (e : Evt) : flatA (evtA e) := by unfold evtA; simp [flatA, flatL]
theorem evt_ext {a b : Evt} : a = b ↔ a.ver = b.ver ∧ a.head = b.head ∧ a.lag = b.lag := by
  cases a; cases b; simp
instance : DecidableEq Evt := fun a b => decidable_of_iff _ evt_ext.symm
abbrev evtZ : Evt := ⟨0, 0, false⟩
structure Wat where
  name : ByteArray
  seen : Int
  queue : List Evt
def watA (w : Wat) : AV := .agg [.v (.string w.name), .v (.int .i64 w.seen), .lst 3 (w.queue.map evtA)]
def Wat.ok (w : Wat) (N : Nat) : Prop := w.name.size ≤ N ∧ w.queue.length ≤ N
attribute [local irreducible] ACode AOps AOps2 RetG RetM Pre ACG
end Go.Proofs.Ytmfmclnklpbiaaa.AM
/- Channels as objects: what a label of one stands for; contracts of functions that are walked by the machine of one goroutine. -/
namespace Go.Proofs.Ytmfmclnklpbiaaa.AM
open Go Go.RowKit
set_option linter.unusedVariables false
set_option linter.unusedSimpArgs false
/-- a channel, open, of a capacity; what waits in it -/
def chanQ (cap : Nat) (es : List AV) : AbsR where
  rel w b T := (∀ g, T g ↔ g = b) ∧ ∃ s r buf, w.heap[b]? = some (.chan cap buf false s r false) ∧ buf.toList.map some = es.map conc
  frame := by
    rintro w w' b T h ⟨h1, s, r, buf, h2, h3⟩
    exact ⟨h1, s, r, buf, (h b ((h1 b).2 rfl)).trans h2, h3⟩
abbrev chanO (cap : Nat) (es : List AV) : OB := ⟨.c (chanQ cap es), 2, []⟩
section
variable {P : Program} {f : FuncId} {args : List AV} {cap : Nat} {es es' : List AV}
theorem ro_chan {S : Nat → Prop} {w : World} {hp : Nat → Option OB} {B : Nat → Nat} {V : Nat → Value} {T : Nat → Prop} {b s r : Nat} {buf : Array Value} (hT : ∀ g, T g ↔ g = b) (hb : w.heap[b]? = some (.chan cap buf false s r false)) (he : buf.toList.map some = es.map conc) : RO S w hp B V T (chanO cap es) b (.slice none 0 0) :=
  ⟨0, [], ⟨fun t' e => (by cases e), hT, s, r, buf, hb, he⟩, ⟨rfl, rfl, fun g hg => by rw [(hT g).1 hg]; exact (Array.getElem?_eq_some_iff.1 hb).1⟩, fun x hx => (by cases hx), Nat.succ_pos 1, World.ownsRow_nil _ _ _ _, fun g hg => by simp [Value.ownBlock] at hg⟩
end
end Go.Proofs.Ytmfmclnklpbiaaa.AM
/- Regions that send, receive or select, over data. -/
namespace Go.Proofs.Ytmfmclnklpbiaaa.AM
open Go Go.RowKit Go.Conc
set_option linter.unusedVariables false
set_option linter.unusedSimpArgs false
/-- does the region make a channel, send, receive or select? -/
def hasComm (ops : Array Oper) : Bool := ops.toList.any fun o => match o.op with | .send _ _ => true | .recv _ _ _ => true | .select _ _ => true | .makeChan _ _ => true | _ => false
section
variable {P : Program} {Θ : Tab} {n : Nat}
/-- the code run, as runC; a region that communicates stands still -/
def runCC (P : Program) (Θ : Tab) (n : Nat) : Code → (AEx → St → Prop) → St → Prop
  | .region id ops false, Q, s => bif hasComm ops then RegS P n id ops s (Q .normal) else runK P Θ n ops false 0 ops.toList s (Q .normal)
  | .seq a b, Q, s => runCC P Θ n a (AEx.then (runCC P Θ n b Q) Q) s
  | .cond c x y, Q, s => match s.ev c with
    | .v (.bool true) => runCC P Θ n x Q s
    | .v (.bool false) => runCC P Θ n y Q s
    | _ => ACode P Θ n (.cond c x y) Q s
  | .block id c, Q, s => runCC P Θ n c (AEx.inBlock id Q) s
  | c, Q, s => runC P Θ n c Q s
theorem runCC_sound : ∀ (c : Code) (Q : AEx → St → Prop) (s : St), runCC P Θ n c Q s → ACode P Θ n c Q s := by
  intro c
  induction c with
  | region id ops draw =>
    intro Q s h
    cases draw with
    | false =>
      simp only [runCC] at h
      cases hc : hasComm ops with
      | true => rw [hc] at h; exact .inr (.inr ⟨rfl, h⟩)
      | false => rw [hc] at h; exact .inl ⟨(fun e => by cases e), runK_sound _ _ _ h⟩
    | true => exact runC_sound _ Q s h
  | seq a b iha ihb =>
    intro Q s h
    exact .inl (acode_mono a s (fun e s he => by cases e <;> first | exact ihb Q s he | exact he) (iha _ s h))
  | cond c x y ihx ihy =>
    intro Q s h
    simp only [runCC] at h
    split at h
    · rename_i hc; exact ⟨true, hc, ihx Q s h⟩
    · rename_i hc; exact ⟨false, hc, ihy Q s h⟩
    · exact h
  | block id c ih => intro Q s h; exact ih _ s h
  | _ => intro Q s h; exact runC_sound _ Q s h
theorem rc_loop {c : Code} {Q : AEx → St → Prop} {s : St} {ι : Type} (I : ι → Inv) (μ : ι → Nat) (i0 : ι) (h0 : s.le (I i0)) (h : ∀ i, runCC P Θ n c (AEx.then (fun s' => ∃ j, s'.le (I j) ∧ μ j < μ i) Q) (I i).st) : ACode P Θ n (.loop c) Q s :=
  c_loop (fun i => (I i).m) μ i0 ⟨h0, trivial⟩ fun i => acode_mono (Q := AEx.then (fun s' => ∃ j, s'.le (I j) ∧ μ j < μ i) Q) c _ (fun e s he => by
    cases e with
    | normal => obtain ⟨j, h1, h2⟩ := he; exact ⟨j, ⟨h1, trivial⟩, h2⟩
    | _ => exact he) (runCC_sound _ _ _ (h i))
end
section
variable {P : Program} {Θ : Tab} {n : Nat} {ops : Array Oper} {K : St → Prop} {s : St} {k : Nat}
/-- one operation is done -/
theorem step_of_wp {b : Frame} {a : Act} {w : World} {kk : List Item} {cs : List Frame} {i : Nat} {rest : List Nat} {o : Oper} {R : Act → World → Prop} (ho : ops[i]? = some o) (hw : Region.wanted o (yielded ops a.tmps) = true) (h : o.wp P a w R (fun _ _ _ => False)) :
    ∃ a' w', R a' w' ∧ Steps P (lone (b.at a (.inRegion ops (i :: rest) :: kk)) cs w) (lone (b.at a' (.inRegion ops rest :: kk)) cs w') := by
  simp only [Oper.wp, Oper.upon] at h
  have hg := stepG_op (P := P) (b := b) (k := kk) (cs := cs) (w := w) (rest := rest) ho hw
  have hfin : ∀ v, (b.at a (.inRegion ops (i :: rest) :: kk)).finish v = b.at (a.put o.dst v) (.inRegion ops rest :: kk) := fun v => by rw [Frame.finish_at, ho]; rfl
  split at h
  · rename_i v w' hr
    refine ⟨_, w', h, .one (step_lone_go ?_)⟩
    rw [hg, ← hfin]; simp [stepG.apply, hr]
  · rename_i w' hr
    refine ⟨_, w', h, .one (step_lone_go ?_)⟩
    rw [hg, ← hfin]; simp [stepG.apply, hr]
  · rename_i d w' hr
    refine ⟨_, w', h, .one (step_lone_go ?_)⟩
    have e1 : (Frame.finish { b.at a (.inRegion ops (i :: rest) :: kk) with defers := d :: a.defers } undef) = b.at ({ a with defers := d :: a.defers }.put o.dst undef) (.inRegion ops rest :: kk) := by
      have := Frame.finish_at b { a with defers := d :: a.defers } ops i rest kk undef
      rw [ho] at this; exact this
    rw [hg]
    simp only [stepG.apply, Sem.runT_eq, hr, GStep.bare_after]
    exact congrArg (fun fr => GStep.go { frame := fr, callers := cs, status := .running, dying := none } w') e1
  · rename_i f args w' hr
    obtain ⟨e, w2, fr, hR, hsteps, _, hleave⟩ := h (b.at a (.inRegion ops (i :: rest) :: kk) :: cs)
    have henter : step P (lone (b.at a (.inRegion ops (i :: rest) :: kk)) cs w) = .next (lone (Frame.enter P f args .normal) (b.at a (.inRegion ops (i :: rest) :: kk) :: cs) w') :=
      step_lone_go (by rw [hg]; simp [stepG.apply, hr, Frame.at])
    cases e with
    | returned v =>
      refine ⟨_, w2, hR, .head henter (Steps.trans hsteps (.one ?_))⟩
      rw [← hfin]; exact step_leave_returned hleave
    | panicked chain => exact hR.elim
    | outgrown => obtain ⟨_, _, hq⟩ := hR; exact hq.elim
  · rename_i row args w' hr
    obtain ⟨v, w2, hR, hsteps⟩ := h (b.at a (.inRegion ops (i :: rest) :: kk)) cs
    have henter : step P (lone (b.at a (.inRegion ops (i :: rest) :: kk)) cs w) = .next (lone (Frame.ofRow P row args .normal) (b.at a (.inRegion ops (i :: rest) :: kk) :: cs) w') :=
      step_lone_go (by rw [hg]; simp [stepG.apply, hr, Frame.at])
    refine ⟨_, w2, hR, .head henter ?_⟩
    rw [← hfin]; exact hsteps
  · exact h.elim
  · exact h.elim
/-- the operations from the k-th on -/
def OpsC (P : Program) (n : Nat) (ops : Array Oper) (k : Nat) (s : St) (K : St → Prop) : Prop :=
  ∀ (W : World) (M : Hand) (S0 : Nat → Prop) (a : Act) (w : World), Sim W M S0 n s a w → ∀ (b : Frame), b.kind = .normal → ∀ (kk : List Item) (cs : List Frame), ∃ a' w' s', K s' ∧ Sim W M S0 n s' a' w' ∧
    Steps P (lone (b.at a (.inRegion ops ((List.range ops.size).drop k) :: kk)) cs w) (lone (b.at a' kk) cs w')
theorem regS_of {id : Nat} (h : OpsC P n ops 0 s K) : RegS P n id ops s K := fun W M S0 a w hs b hb kk cs => by
  obtain ⟨a', w', s', hk, hs', hst⟩ := h W M S0 a w hs b hb kk cs
  exact ⟨.normal, a', w', ⟨rfl, s', hk, hs'⟩, Steps.head step_region hst⟩
theorem oc_nil (hk : Nat.ble ops.size k = true) (h : K s) : OpsC P n ops k s K := fun W M S0 a w hs b hb kk cs => by
  have : (List.range ops.size).drop k = [] := List.drop_eq_nil_of_le (by rw [List.length_range]; exact Nat.le_of_ble_eq_true hk)
  rw [this]
  exact ⟨a, w, s, h, hs, .one step_region_end⟩
theorem range_drop {m k : Nat} (h : k < m) : (List.range m).drop k = k :: (List.range m).drop (k + 1) := by
  rw [List.drop_eq_getElem_cons (by simpa using h), List.getElem_range]
theorem wanted_of {o : Oper} {a : Act} (h : o.guard = none) : Region.wanted o (yielded ops a.tmps) = true := by
  unfold Region.wanted; rw [h]
theorem lt_of_get {o : Oper} (ho : ops[k]? = some o) : k < ops.size := (Array.getElem?_eq_some_iff.1 ho).1
theorem oc_put (hΘ : TabOK P Θ) {o : Oper} {e : Eff} (ho : ops[k]? = some o) (hg : o.guard = none) (hin : inN n o.dst = true) (hp : Pre P Θ o s e) (h : OpsC P n ops (k + 1) (s.app o.dst e) K) : OpsC P n ops k s K := fun W M S0 a w hs b hb kk cs => by
  obtain ⟨a1, w1, hs1, st1⟩ := step_of_wp (b := b) (kk := kk) (cs := cs) (rest := (List.range ops.size).drop (k + 1)) ho (wanted_of hg) (pre_sound hΘ hs hp hin (fun a' w' h => h))
  obtain ⟨a', w', s', hk, hs', st⟩ := h W M S0 a1 w1 hs1 b hb kk cs
  rw [range_drop (lt_of_get ho)]
  exact ⟨a', w', s', hk, hs', Steps.trans st1 st⟩
/-- a communication is done, its value is put -/
theorem oc_comm {o : Oper} {s1 : St} (ho : ops[k]? = some o)
    (hst : ∀ (W : World) (M : Hand) (S0 : Nat → Prop) (a : Act) (w : World), Sim W M S0 n s a w → ∀ (b : Frame), b.kind = .normal → ∀ (kk : List Item) (cs : List Frame) (rest : List Nat), ∃ v w', Sim W M S0 n s1 (a.put o.dst v) w' ∧
      step P (lone (b.at a (.inRegion ops (k :: rest) :: kk)) cs w) = .next (lone ((b.at a (.inRegion ops (k :: rest) :: kk)).finish v) cs w'))
    (h : OpsC P n ops (k + 1) s1 K) : OpsC P n ops k s K := fun W M S0 a w hs b hb kk cs => by
  obtain ⟨v, w1, hs1, st1⟩ := hst W M S0 a w hs b hb kk cs ((List.range ops.size).drop (k + 1))
  obtain ⟨a', w', s', hk, hs', st⟩ := h W M S0 _ w1 hs1 b hb kk cs
  rw [range_drop (lt_of_get ho)]
  refine ⟨a', w', s', hk, hs', Steps.head st1 ?_⟩
  rw [Frame.finish_at, ho]
  exact st
variable {W : World} {M : Hand} {S0 : Nat → Prop} {S : Nat → Prop} {B : Nat → Nat} {V : Nat → Value} {T : Nat → Nat → Prop} {tmps : Array Value} {w : World}
/-- a channel's block changes -/
theorem SimW.chan (h : SimW W M S0 s tmps w S B V T) {l cap : Nat} {es : List AV} (hl : s.hp l = some (chanO cap es)) :
    ∃ sq rq buf, w.heap[B l]? = some (.chan cap buf false sq rq false) ∧ buf.toList.map some = es.map conc ∧
      ∀ (buf' : Array Value) (s' r' : Nat) (es' : List AV), buf'.toList.map some = es'.map conc → ∃ T', SimW W M S0 (s.set l (some (chanO cap es'))) tmps (w.setChan (B l) cap buf' false s' r' false) S B V T' := by
  obtain ⟨t0, cs, ⟨_, r0⟩, r2, r3, r4, r5, r6⟩ := h.rows.ro l _ hl
  obtain ⟨hT, sq, rq, buf, hc, hq⟩ := r0
  refine ⟨sq, rq, buf, hc, hq, fun buf' s' r' es' he => ?_⟩
  have hlt := (Array.getElem?_eq_some_iff.1 hc).1
  have hTb : T l (B l) := (hT _).2 rfl
  have hoth : ∀ g, g ≠ B l → (w.setChan (B l) cap buf' false s' r' false).heap[g]? = w.heap[g]? := fun g hg => by
    simp [World.setChan, Array.getElem?_setIfInBounds_ne (Ne.symm hg)]
  have hown : ∀ g, ¬ (V l).ownBlock = some g := fun g e => by
    have := r6 g e
    subst this
    exact h.rows.nd l _ _ hl e hTb
  have hgr : Grown w (w.setChan (B l) cap buf' false s' r' false) (Blk V T l) := ⟨rfl, rfl, rfl, by simp [World.setChan], fun g _ hg => hoth g (fun e => hg (by rw [e]; exact .inr hTb))⟩
  refine ⟨_, h.inpl (ob' := chanO cap es') hl rfl hgr ?_ (fun g hg => hg)⟩
  exact ⟨t0, [], ⟨fun t' e => (by cases e), hT, s', r', buf', heap_setChan _ _ _ _ _ _ _ _ hlt, he⟩, ⟨rfl, rfl, fun g hg => by rw [(hT g).1 hg]; simp [World.setChan]; exact hlt⟩, fun x hx => (by cases hx), Nat.succ_pos 1, by
    have := owns_carry (w' := w.setChan (B l) cap buf' false s' r' false) r5 (fun g hg => absurd hg (hown g))
    exact ⟨rfl, this.2.imp id (fun ⟨g, cap1, cur, q1, q2⟩ => absurd (show (V l).ownBlock = some g by rw [q1]; rfl) (hown g))⟩, r6⟩
theorem SimW.newChan (h : SimW W M S0 s tmps w S B V T) {d cap : Nat} (hok : okL d = true) (hf : s.hp d = none) :
    SimW W M S0 (s.set d (some (chanO cap []))) tmps (w.alloc (.chan cap #[] false 0 0 false)) S (upd B d w.heap.size) (upd V d (.slice none 0 0)) (upd T d (fun g => g = w.heap.size)) := by
  have hb : Below w.heap.size w (w.alloc (.chan cap #[] false 0 0 false)) := (Below.refl _ _).alloc (Nat.le_refl _) _
  obtain ⟨hn1, hn2⟩ := fresh_names h hf
  have hnew := heap_alloc_new w (.chan cap #[] false 0 0 false)
  have hlt : w.heap.size < (w.alloc (.chan cap #[] false 0 0 false)).heap.size := (Array.getElem?_eq_some_iff.1 hnew).1
  exact h.repl (l := d) (ob' := chanO cap []) (b' := w.heap.size) (v' := .slice none 0 0) (T' := fun g => g = w.heap.size) hok hn1 (fun j o _ ho => hn2 j o ho) (Grown.of hb _) (ro_chan (fun g => Iff.rfl) hnew rfl) (fun g hg => by
    rcases hg with hg | hg
    · simp [Value.ownBlock] at hg
    · exact ⟨by rw [hg]; exact hlt, .inl (.inl (by rw [hg]; exact Nat.le_refl _))⟩) (fun g hg => by simp [Value.ownBlock] at hg)
theorem SimW.ev_chan {a : Act} (h : SimW W M S0 s a.tmps w S B V T) {l cap : Nat} {es : List AV} (hl : s.hp l = some (chanO cap es)) {x : Operand} (hx : s.ev x = .mapv l) : a.eval x = .chan (some (B l)) := by
  have := ev_tmp h hx (fun c => by simp)
  unfold RV at this
  obtain ⟨ob, ho1, e⟩ := this
  rw [hl] at ho1; cases ho1
  exact e
end
def plainV : AV → Bool
  | .v x => x.oneCell'
  | _ => false
def plainA : AV → Bool
  | .v x => x.oneCell'
  | .agg xs => xs.all plainV
  | _ => false
theorem rl_plain {S : Nat → Prop} {w : World} : ∀ xs : List AV, xs.all plainV = true → ∃ cs, conc.concL xs = some cs ∧ ∀ (S : Nat → Prop) (w : World), RL S w xs cs
  | [], _ => ⟨[], rfl, fun S w => by unfold RL; rfl⟩
  | x :: xs, h => by
    simp only [List.all_cons, Bool.and_eq_true] at h
    obtain ⟨cs, h1, h2⟩ := rl_plain (S := S) (w := w) xs h.2
    cases x with
    | v u => exact ⟨u :: cs, by simp [conc.concL, h1], fun S w => by unfold RL; exact ⟨[u], cs, rfl, by unfold RA; exact ⟨rfl, h.1⟩, h2 S w⟩⟩
    | _ => simp [plainV] at h
theorem rv_plain {v : AV} (h : plainA v = true) : ∃ u, conc v = some u ∧ ∀ S w hp B V, RV S w hp B V v u := by
  cases v with
  | v x => exact ⟨x, rfl, fun S w hp B V => by unfold RV; exact ⟨rfl, h⟩⟩
  | agg xs =>
    obtain ⟨cs, h1, h2⟩ := rl_plain (S := fun _ => False) (w := default) xs h
    exact ⟨.agg cs.toArray, by simp [conc, h1], fun S w hp B V => by unfold RV; exact ⟨cs, rfl, h2 S w⟩⟩
  | _ => simp [plainA] at h
section
variable {P : Program} {Θ : Tab} {n : Nat} {ops : Array Oper} {K : St → Prop} {s : St} {k : Nat} {x y : Operand} {ty : TypeId} {pos : String} {after : Array Edge} {l cap : Nat} {es r : List AV} {u z : Value} {v : AV} {t : Nat} {elem : TypeId}
theorem ex_selr {d : Option Tmp} {ρ : Operand → Value} {c : Nat} {w : World} (hρ : ρ x = .chan (some c)) (hz : (zeroValue elem).run P w = .ok z w) : (execOp ρ ⟨d, .select #[⟨x, none, elem⟩] false, ty, pos, after, none⟩).run P w = .ok (.comm #[rcase c z] false .select) w := by
  simp [go_sem, execOp, rcase, hz, hρ]
theorem ex_sels {d : Option Tmp} {ρ : Operand → Value} {c : Nat} {u : Value} {w : World} (hρ : ρ x = .chan (some c)) (hy : ρ y = u) (hz : (zeroValue elem).run P w = .ok z w) : (execOp ρ ⟨d, .select #[⟨x, some y, elem⟩] false, ty, pos, after, none⟩).run P w = .ok (.comm #[scase c u z] false .select) w := by
  simp [go_sem, execOp, scase, hz, hρ, hy]
theorem oc_mkchan {dir : ChanDir} {d : Nat} (ho : ops[k]? = some ⟨some d, .makeChan elem (.const (.int .i64 (cap : Int))), ty, pos, after, none⟩) (hin : inN n (some d) = true) (hf : s.hp (d + 1) = none) (ht : P.underlying elem = some (.chan dir t)) (hi : ∃ i, P.info? t = some i ∧ (i.bytes : Int) * cap ≤ 281474976710544) (h63 : (cap : Int) ≤ 9223372036854775807) (h : OpsC P n ops (k + 1) ((s.set (d + 1) (some (chanO cap []))).put (some d) (.mapv (d + 1))) K) (hok : okL (d + 1) = true := by rfl) : OpsC P n ops k s K := by
  refine oc_comm ho (fun W M S0 a w hs b hb kk cs rest => ?_) h
  obtain ⟨hn, hdf, S, B, V, T, hw⟩ := hs
  obtain ⟨i, hi1, hi2⟩ := hi
  have hrun := run_makeChan (P := P) (w := w) ht hi1 .i64 cap h63 hi2
  refine ⟨.chan (some w.heap.size), _, Sim.put hn hdf (hw.newChan (cap := cap) hok hf) (some d) ?_ hin, ?_⟩
  · unfold RV
    exact ⟨_, set_hp, by rw [upd_same]; rfl⟩
  · refine step_lone_go ?_
    rw [stepG_op ho rfl]
    have hr : (execOp a.eval ⟨some d, .makeChan elem (.const (.int .i64 (cap : Int))), ty, pos, after, none⟩).run P w = .ok (.value (.chan (some w.heap.size))) (w.alloc (.chan cap #[] false 0 0 false)) := by
      simp only [execOp, Act.eval, Sem.run_bind, hrun, Result.andThen_ok, Sem.run_pure]
    simp [stepG.apply, hr]
theorem oc_send (ho : ops[k]? = some ⟨none, .send x y, ty, pos, after, none⟩) (hx : s.ev x = .mapv l) (hl : s.hp l = some (chanO cap es)) (hy : s.ev y = v) (hlen : es.length < cap) (hv : plainA v = true) (h : OpsC P n ops (k + 1) (s.set l (some (chanO cap (es ++ [v])))) K) : OpsC P n ops k s K := by
  obtain ⟨u, hu, _⟩ := rv_plain hv
  refine oc_comm ho (fun W M S0 a w hs b hb kk cs rest => ?_) h
  obtain ⟨hn, hdf, S, B, V, T, hw⟩ := hs
  obtain ⟨sq, rq, buf, hcb, hq, hup⟩ := hw.chan hl
  have hex := hw.ev_chan hl hx
  have hey : a.eval y = u := ev_conc hw (by rw [hy]; exact hu)
  have hbl : buf.size = es.length := by have := congrArg List.length hq; simpa using this
  obtain ⟨T', hsim⟩ := hup (buf.push u) (sq + 1) rq (es ++ [v]) (by simp [hq, hu])
  refine ⟨undef, _, ⟨hn, hdf, S, B, V, T', hsim⟩, ?_⟩
  exact step_lone_send_room (P := P) (c := B l) (cap := cap) (buf := buf) (s := sq) (r := rq) (tm := false) (v := u) (z' := .tuple #[]) (stepG_comm (cases := #[scase (B l) u (.tuple #[])]) (blocking := true) (shape := .send) (w' := w) ho rfl (by rw [hb]; simp) (by simp [execOp, hex, hey, scase])) hcb (by omega)
theorem oc_selr (ho : ops[k]? = some ⟨some t, .select #[⟨x, none, elem⟩] false, ty, pos, after, none⟩) (hin : inN n (some t) = true) (hx : s.ev x = .mapv l) (hl : s.hp l = some (chanO cap (v :: r))) (hz : ∀ w, (zeroValue elem).run P w = .ok z w) (hv : plainA v = true) (h : OpsC P n ops (k + 1) ((s.set l (some (chanO cap r))).put (some t) (.tup [.v (.int .i64 0), .v (.bool true), v])) K) : OpsC P n ops k s K := by
  obtain ⟨u, hu, hrv⟩ := rv_plain hv
  refine oc_comm ho (fun W M S0 a w hs b hb kk cs rest => ?_) h
  obtain ⟨hn, hdf, S, B, V, T, hw⟩ := hs
  obtain ⟨sq, rq, buf, hcb, hq, hup⟩ := hw.chan hl
  have hex := hw.ev_chan hl hx
  obtain ⟨bl⟩ := buf
  cases bl with
  | nil => simp at hq
  | cons u0 bl =>
    simp only [List.map_cons, List.cons.injEq, hu, Option.some.injEq] at hq
    obtain ⟨rfl, hq⟩ := hq
    obtain ⟨T', hsim⟩ := hup ((⟨u0 :: bl⟩ : Array Value).extract 1 (⟨u0 :: bl⟩ : Array Value).size) sq (rq + 1) r (by simpa using hq)
    refine ⟨.tuple #[goInt 0, .bool true, u0], _, Sim.put hn hdf hsim (some t) ?_ hin, ?_⟩
    · unfold RV
      refine ⟨[goInt 0, .bool true, u0], rfl, ?_⟩
      unfold RVs
      refine ⟨_, _, rfl, by unfold RV; exact ⟨rfl, rfl⟩, ?_⟩
      unfold RVs
      refine ⟨_, _, rfl, by unfold RV; exact ⟨rfl, rfl⟩, ?_⟩
      unfold RVs
      refine ⟨_, _, rfl, hrv _ _ _ _ _, ?_⟩
      unfold RVs; rfl
    · exact step_lone_select_recv_buf (P := P) (c := B l) (cap := cap) (buf := ⟨u0 :: bl⟩) (closed := false) (s := sq) (r := rq) (tm := false) (z := z) (stepG_comm (cases := #[rcase (B l) z]) (blocking := false) (shape := .select) (w' := w) ho rfl (by rw [hb]; simp) (ex_selr hex (hz w))) hcb (by simp)
theorem oc_selr0 (ho : ops[k]? = some ⟨some t, .select #[⟨x, none, elem⟩] false, ty, pos, after, none⟩) (hin : inN n (some t) = true) (hx : s.ev x = .mapv l) (hl : s.hp l = some (chanO cap [])) (hz : ∀ w, (zeroValue elem).run P w = .ok z w) (h : OpsC P n ops (k + 1) (s.put (some t) (.tup [.v (.int .i64 (-1)), .v (.bool false), .any])) K) : OpsC P n ops k s K := by
  refine oc_comm ho (fun W M S0 a w hs b hb kk cs rest => ?_) h
  obtain ⟨hn, hdf, S, B, V, T, hw⟩ := hs
  obtain ⟨sq, rq, buf, hcb, hq, hup⟩ := hw.chan hl
  have hex := hw.ev_chan hl hx
  obtain ⟨bl⟩ := buf
  cases bl with
  | cons u0 bl => simp at hq
  | nil =>
    refine ⟨.tuple #[goInt (-1), .bool false, z], w, Sim.put hn hdf hw (some t) ?_ hin, ?_⟩
    · unfold RV
      refine ⟨[goInt (-1), .bool false, z], rfl, ?_⟩
      unfold RVs
      refine ⟨_, _, rfl, by unfold RV; exact ⟨rfl, rfl⟩, ?_⟩
      unfold RVs
      refine ⟨_, _, rfl, by unfold RV; exact ⟨rfl, rfl⟩, ?_⟩
      unfold RVs
      refine ⟨_, _, rfl, by unfold RV; trivial, ?_⟩
      unfold RVs; rfl
    · exact step_lone_select_default (P := P) (c := B l) (cap := cap) (s := sq) (r := rq) (tm := false) (z := z) (stepG_comm (cases := #[rcase (B l) z]) (blocking := false) (shape := .select) (w' := w) ho rfl (by rw [hb]; simp) (ex_selr hex (hz w))) hcb
theorem oc_sels (ho : ops[k]? = some ⟨some t, .select #[⟨x, some y, elem⟩] false, ty, pos, after, none⟩) (hin : inN n (some t) = true) (hx : s.ev x = .mapv l) (hl : s.hp l = some (chanO cap es)) (hy : s.ev y = v) (hlen : es.length < cap) (hz : ∀ w, (zeroValue elem).run P w = .ok z w) (hv : plainA v = true) (h : OpsC P n ops (k + 1) ((s.set l (some (chanO cap (es ++ [v])))).put (some t) (.tup [.v (.int .i64 0), .v (.bool false)])) K) : OpsC P n ops k s K := by
  obtain ⟨u, hu, _⟩ := rv_plain hv
  refine oc_comm ho (fun W M S0 a w hs b hb kk cs rest => ?_) h
  obtain ⟨hn, hdf, S, B, V, T, hw⟩ := hs
  obtain ⟨sq, rq, buf, hcb, hq, hup⟩ := hw.chan hl
  have hex := hw.ev_chan hl hx
  have hey : a.eval y = u := ev_conc hw (by rw [hy]; exact hu)
  have hbl : buf.size = es.length := by have := congrArg List.length hq; simpa using this
  obtain ⟨T', hsim⟩ := hup (buf.push u) (sq + 1) rq (es ++ [v]) (by simp [hq, hu])
  refine ⟨.tuple #[goInt 0, .bool false], _, Sim.put hn hdf hsim (some t) ?_ hin, ?_⟩
  · unfold RV
    refine ⟨[goInt 0, .bool false], rfl, ?_⟩
    unfold RVs
    refine ⟨_, _, rfl, by unfold RV; exact ⟨rfl, rfl⟩, ?_⟩
    unfold RVs
    refine ⟨_, _, rfl, by unfold RV; exact ⟨rfl, rfl⟩, ?_⟩
    unfold RVs; rfl
  · exact step_lone_select_send_room (P := P) (c := B l) (cap := cap) (buf := buf) (s := sq) (r := rq) (tm := false) (v := u) (z' := z) (stepG_comm (cases := #[scase (B l) u z]) (blocking := false) (shape := .select) (w' := w) ho rfl (by rw [hb]; simp) (ex_sels hex hey (hz w))) hcb (by omega)
theorem oc_sels0 (ho : ops[k]? = some ⟨some t, .select #[⟨x, some y, elem⟩] false, ty, pos, after, none⟩) (hin : inN n (some t) = true) (hx : s.ev x = .mapv l) (hl : s.hp l = some (chanO cap es)) (hlen : es.length = cap) (hz : ∀ w, (zeroValue elem).run P w = .ok z w) (h : OpsC P n ops (k + 1) (s.put (some t) (.tup [.v (.int .i64 (-1)), .v (.bool false)])) K) : OpsC P n ops k s K := by
  refine oc_comm ho (fun W M S0 a w hs b hb kk cs rest => ?_) h
  obtain ⟨hn, hdf, S, B, V, T, hw⟩ := hs
  obtain ⟨sq, rq, buf, hcb, hq, hup⟩ := hw.chan hl
  have hex := hw.ev_chan hl hx
  have hbl : buf.size = es.length := by have := congrArg List.length hq; simpa using this
  refine ⟨.tuple #[goInt (-1), .bool false], w, Sim.put hn hdf hw (some t) ?_ hin, ?_⟩
  · unfold RV
    refine ⟨[goInt (-1), .bool false], rfl, ?_⟩
    unfold RVs
    refine ⟨_, _, rfl, by unfold RV; exact ⟨rfl, rfl⟩, ?_⟩
    unfold RVs
    refine ⟨_, _, rfl, by unfold RV; exact ⟨rfl, rfl⟩, ?_⟩
    unfold RVs; rfl
  · exact step_lone_select_send_full (P := P) (c := B l) (cap := cap) (buf := buf) (s := sq) (r := rq) (tm := false) (v := a.eval y) (z' := z) (stepG_comm (cases := #[scase (B l) (a.eval y) z]) (blocking := false) (shape := .select) (w' := w) ho rfl (by rw [hb]; simp) (ex_sels hex rfl (hz w))) hcb (by omega)
end
end Go.Proofs.Ytmfmclnklpbiaaa.AM
/- The program's queue of events in a channel, over data. -/
namespace Go.Proofs.Ytmfmclnklpbiaaa.AM
open Go Go.RowKit
set_option linter.unusedVariables false
set_option linter.unusedSimpArgs false
set_option maxRecDepth 100000
theorem under_chan : ∃ dir, Try.prog.underlying 81 = some (.chan dir 40) := ⟨_, Try.underlying81⟩
theorem info_evt : (Try.prog.info? 40).map (fun i => (i.zero, i.size, i.bytes)) = some (some (.agg #[.int .i64 0, .int .i64 0, .bool false]), 3, 24) := by kernel_rfl
theorem zero_evt : ∀ w, (zeroValue 40).run Try.prog w = .ok (.agg #[.int .i64 0, .int .i64 0, .bool false]) w := fun w => by
  obtain ⟨i0, hi, hz0, hz1, hz2⟩ := info_parts info_evt
  simp [zeroValue, typeInfo, hi, hz0, Result.andThen]
theorem r_objC {s : St} {t l cap : Nat} {es : List AV} {Θ : Tab} (h1 : s.sl t = .mapv l) (ho : s.hp l = some (chanO cap es)) (hok : okL l = true := by rfl) : RetQ Θ [.tmp t] ⟨.mapv 0, [chanO cap es]⟩ .ret s :=
  ⟨trivial, [l], by simp, ⟨⟨ho, hok, rfl⟩, trivial⟩, ⟨trivial, trivial⟩, trivial, ⟨.inl ⟨h1, rfl⟩, trivial⟩⟩
theorem r_cv1in {s : St} {a t t2 l : Nat} {ob o0 : OB} {x : AV} {v : Value} {Θ : Tab} (h1 : s.sl a = .optr l 0 [] 0) (ho : s.hp l = some ob) (hx : ob.xs[0]? = some x) (hk : ((Θ.look t).known && (Bool.xor (isAggA x) (Θ.look t).isAgg).not && Nat.beq (asz x) (Θ.look t).size) = true) (hd : (match x with | .v _ | .agg _ | .lst _ _ | .any => True | _ => False)) (h2 : s.sl t2 = .v v) (h0 : s.hp 0 = some o0) (hop : ob.e.open_ = true := by rfl) :
    RetG Θ [.cell a t, .tmp t2] [o0] ⟨.tup [x, .v v], []⟩ .ret s := by
  have hr : rvA s (.cell a t) = x := by
    simp only [rvA, h1, ho, hop, hx, cond_true, Option.getD_some]
  simp only [Bool.and_eq_true] at hk
  refine ⟨⟨h0, trivial⟩, [], by simp, trivial, ⟨⟨hk.1.1, by rw [hr]; exact xor_not hk.1.2, by rw [hr]; exact Nat.eq_of_beq_eq_true hk.2, .inl ⟨l, ob, x, h1, ho, .inl ⟨hop, hx⟩⟩⟩, trivial, trivial⟩, ⟨_, rfl⟩, ⟨.inl ?_, .inl ⟨h2, rfl⟩, trivial⟩⟩
  rw [hr]
  cases x <;> first | exact ⟨rfl, rfl⟩ | exact hd.elim
theorem r_own1in {s : St} {t l : Nat} {ob o0 : OB} {Θ : Tab} (h1 : s.sl t = .own l) (ho : s.hp l = some ob) (h0 : s.hp 0 = some o0) (hok : okL l = true := by rfl) (hsh : ob.e.shut = true := by rfl) : RetG Θ [.tmp t] [o0] ⟨.own 0, [ob]⟩ .ret s :=
  ⟨⟨h0, trivial⟩, [l], by simp, ⟨⟨ho, hok, hsh⟩, trivial⟩, ⟨trivial, trivial⟩, trivial, ⟨.inl ⟨h1, rfl⟩, trivial⟩⟩
theorem r_0nn {s : St} {o0 : OB} {Θ : Tab} (h0 : s.hp 0 = some o0) : RetG Θ [] [o0] ⟨.tup [], []⟩ .normal s :=
  ⟨⟨h0, trivial⟩, [], by simp, trivial, trivial, ⟨_, rfl⟩, trivial⟩
theorem chan_ext {cap : Nat} {a b : List AV} (h : a = b) : some (chanO cap a) = some (chanO cap b) := by rw [h]
attribute [local irreducible] ACode AOps AOps2 RetG RetM Pre ACG
theorem ac_newPending {l : List Evt} (hm : l.length ≤ 4) : AC Try.prog 52 [.lst 3 (l.map evtA)] ⟨.mapv 0, [chanO 4 (l.map evtA)]⟩ := by
  obtain ⟨i0, hi, hz0, hz1, hz2⟩ := info_parts info_evt
  obtain ⟨dir, hdir⟩ := under_chan
  refine acg_of (rs := [.tmp 2]) Th_ok (by kernel_rfl) Try.func52 rfl Try.ntmps52 (by rw [Try.results52]) (by kernel_rfl) (by simp) rfl rfl (runCC_sound _ _ _ ?_)
  conv => whnf
  refine regS_of (oc_mkchan (cap := 4) rfl rfl rfl hdir ⟨i0, hi, by rw [hz2]; omega⟩ (by omega) (oc_put Th_ok rfl rfl rfl (p_as rfl) (oc_nil rfl ?_)))
  conv => whnf
  repeat (((first | refine qb rfl rfl ?_ | refine qi (by assumption) rfl rfl ?_ | refine ql rfl ?_ | refine qo rfl rfl ?_ | refine qs rfl rfl ?_ | refine qn rfl rfl ?_); conv => whnf))
  refine rc_loop (ι := { k : Nat // k ≤ l.length }) (fun k => ⟨[(3, .mapv 7), (7, .lst 3 (l.map evtA)), (8, .v (.int .i64 (l.length : Int))), (9, .v (.int .i64 (k.1 : Int)))], [(7, chanO 4 ((l.take k.1).map evtA))]⟩) (fun k => l.length - k.1) ⟨0, Nat.zero_le _⟩ (by refine ⟨?_, ?_⟩ <;> (repeat (first | trivial | exact ⟨rfl, trivial⟩ | refine ⟨rfl, ?_⟩ | refine ⟨.inl ⟨rfl, rfl⟩, ?_⟩ | refine ⟨.inr ⟨_, _, rfl, rfl, rfl, rfl, rfl⟩, ?_⟩))) ?_
  rintro ⟨k, hk⟩
  dsimp only at hk ⊢
  conv => whnf
  by_cases hlt : k < l.length
  · repeat (first | ((first | refine qb rfl rfl ?_ | refine qi (by assumption) rfl rfl ?_ | refine ql rfl ?_ | refine qo rfl rfl ?_ | refine qs rfl rfl ?_ | refine qn rfl rfl ?_); conv => whnf) | (refine r_step (p_ostore rfl rfl rfl rfl rfl (by conv => lhs; whnf) rfl) rfl rfl (fun e => by first | exact .inl rfl | contradiction | exact .inr (.inl (by kernel_rfl))) ?_; conv => whnf))
    refine regS_of (oc_put Th_ok rfl rfl rfl (p_mv rfl) (oc_put Th_ok rfl rfl rfl (p_old rfl rfl rfl rfl rfl rfl rfl) (oc_send rfl rfl rfl rfl (by simp; omega) rfl (oc_nil rfl ?_))))
    conv => whnf
    repeat (((first | refine qb rfl rfl ?_ | refine qi (by assumption) rfl rfl ?_ | refine ql rfl ?_ | refine qo rfl rfl ?_ | refine qs rfl rfl ?_ | refine qn rfl rfl ?_); conv => whnf))
    refine ⟨⟨k + 1, hlt⟩, ⟨⟨?_, trivial⟩, .inl ⟨rfl, rfl⟩, .inl ⟨rfl, rfl⟩, .inl ⟨rfl, rfl⟩, .inl ⟨rfl, rfl⟩, trivial⟩, by simp; omega⟩
    exact chan_ext (by show _ = (l.take (k + 1)).map evtA; rw [List.take_succ_eq_append_getElem hlt, List.map_append]; rfl)
  · have hkk : k = l.length := by omega
    subst hkk
    repeat (((first | refine qb rfl rfl ?_ | refine qi (by assumption) rfl rfl ?_ | refine ql rfl ?_ | refine qo rfl rfl ?_ | refine qs rfl rfl ?_ | refine qn rfl rfl ?_); conv => whnf))
    exact r_objC rfl (chan_ext (by rw [List.take_length]))
theorem ac_take {l : List Evt} : ACG Try.prog 53 [.mapv 0] [chanO 4 (l.map evtA)] [chanO 4 ((l.drop 1).map evtA)] ⟨.tup [evtA (l.getD 0 evtZ), .v (.bool (decide (0 < l.length)))], []⟩ := by
  refine acg_of (rs := [.cell 2 40, .tmp 3]) Th_ok (by kernel_rfl) Try.func53 rfl Try.ntmps53 (by rw [Try.results53]) (by kernel_rfl) (by simp) rfl rfl (runCC_sound _ _ _ ?_)
  cases l with
  | nil =>
    conv => whnf
    refine regS_of (oc_selr0 rfl rfl rfl rfl zero_evt (oc_put Th_ok rfl rfl rfl (p_ext rfl rfl) (oc_put Th_ok rfl rfl rfl (p_bin (b_eq_f (by omega)) rfl rfl rfl) (oc_nil rfl ?_))))
    conv => whnf
    repeat (first | ((first | refine qb rfl rfl ?_ | refine qi (by assumption) rfl rfl ?_ | refine ql rfl ?_ | refine qo rfl rfl ?_ | refine qs rfl rfl ?_ | refine qn rfl rfl ?_); conv => whnf) | (refine r_step (p_ostore rfl rfl rfl rfl rfl (by conv => lhs; whnf) rfl) rfl rfl (fun e => by first | exact .inl rfl | contradiction | exact .inr (.inl (by kernel_rfl))) ?_; conv => whnf))
    exact r_cv1in (x := evtA evtZ) rfl rfl rfl rfl trivial rfl rfl
  | cons e r =>
    conv => whnf
    refine regS_of (oc_selr (v := evtA e) (r := r.map evtA) rfl rfl rfl rfl zero_evt rfl (oc_put Th_ok rfl rfl rfl (p_ext rfl rfl) (oc_put Th_ok rfl rfl rfl (p_bin (b_eq_t (by omega)) rfl rfl rfl) (oc_nil rfl ?_))))
    conv => whnf
    repeat (first | ((first | refine qb rfl rfl ?_ | refine qi (by assumption) rfl rfl ?_ | refine ql rfl ?_ | refine qo rfl rfl ?_ | refine qs rfl rfl ?_ | refine qn rfl rfl ?_); conv => whnf) | (refine r_step (p_ostore rfl rfl rfl rfl rfl (by conv => lhs; whnf) rfl) rfl rfl (fun e => by first | exact .inl rfl | contradiction | exact .inr (.inl (by kernel_rfl))) ?_; conv => whnf))
    exact r_cv1in (x := evtA e) rfl rfl rfl rfl trivial rfl rfl
theorem getD_drop {l : List Evt} {k : Nat} : (l.drop k).getD 0 evtZ = l.getD k evtZ := by simp [List.getD_eq_getElem?_getD]
theorem getD_at {l : List Evt} {k : Nat} (h : k < l.length) : l.getD k evtZ = l[k] := by simp [List.getD_eq_getElem?_getD, h]
theorem ac_takeAll {l : List Evt} (hm : l.length ≤ 4) : ACG Try.prog 54 [.mapv 0] [chanO 4 (l.map evtA)] [chanO 4 []] ⟨.own 0, [⟨40, 3, l.map evtA⟩]⟩ := by
  have t0 := ac_take (l := l)
  refine acg_of (rs := [.tmp 2]) Th_ok (by kernel_rfl) Try.func54 rfl Try.ntmps54 (by rw [Try.results54]) (by kernel_rfl) (by simp) rfl rfl (runCC_sound _ _ _ ?_)
  conv => whnf
  refine r_step (p_callg [0] t0 rfl rfl ⟨rfl, trivial⟩ rfl rfl trivial rfl rfl rfl (.inl rfl) rfl) rfl rfl (fun e => by first | exact .inl rfl | contradiction | exact .inr (.inl (by kernel_rfl))) ?_
  conv => whnf
  repeat (first | ((first | refine qb rfl rfl ?_ | refine qi (by assumption) rfl rfl ?_ | refine ql rfl ?_ | refine qo rfl rfl ?_ | refine qs rfl rfl ?_ | refine qn rfl rfl ?_); conv => whnf) | (refine r_step (p_ostore rfl rfl rfl rfl rfl (by conv => lhs; whnf) rfl) rfl rfl (fun e => by first | exact .inl rfl | contradiction | exact .inr (.inl (by kernel_rfl))) ?_; conv => whnf))
  refine rc_loop (ι := { k : Nat // k ≤ l.length }) (fun k => ⟨[(0, .mapv 0), (3, .own 4), (4, .optr 5 0 [] 0), (5, .v (.bool (decide (k.1 < l.length))))], [(0, chanO 4 ((l.drop (k.1 + 1)).map evtA)), (4, ⟨40, 3, (l.take k.1).map evtA⟩), (5, ⟨40, 3, [evtA (l.getD k.1 evtZ)]⟩)]⟩) (fun k => l.length - k.1) ⟨0, Nat.zero_le _⟩ (by refine ⟨?_, ?_⟩ <;> (repeat (first | trivial | exact ⟨rfl, trivial⟩ | refine ⟨rfl, ?_⟩ | refine ⟨.inl ⟨rfl, rfl⟩, ?_⟩ | refine ⟨.inr ⟨_, _, rfl, rfl, rfl, rfl, rfl⟩, ?_⟩))) ?_
  rintro ⟨k, hk⟩
  dsimp only at hk ⊢
  by_cases hlt : k < l.length
  · have h1 := ac_take (l := l.drop (k + 1))
    rw [List.drop_drop, getD_drop] at h1
    have h2 : decide (0 < (l.drop (k + 1)).length) = decide (k + 1 < l.length) := by rw [decide_eq_decide, List.length_drop]; omega
    rw [h2] at h1
    rw [decide_eq_true hlt]
    conv => whnf
    have hsn : l.take k ++ [l.getD k evtZ] = l.take (k + 1) := by rw [getD_at hlt, List.take_succ_eq_append_getElem hlt]
    repeat (((first | refine qb rfl rfl ?_ | refine qi (by assumption) rfl rfl ?_ | refine ql rfl ?_ | refine qo rfl rfl ?_ | refine qs rfl rfl ?_ | refine qn rfl rfl ?_); conv => whnf))
    refine r_gh (p_app1r (f := evtA) (l.getD k evtZ) _ hsn (by simp; omega) rfl rfl rfl rfl rfl rfl rfl) rfl rfl (fun e => by cases e) (Gh.frz 5 rfl (Gh.done ?_))
    conv => whnf
    repeat (first | ((first | refine qb rfl rfl ?_ | refine qi (by assumption) rfl rfl ?_ | refine ql rfl ?_ | refine qo rfl rfl ?_ | refine qs rfl rfl ?_ | refine qn rfl rfl ?_); conv => whnf) | (refine r_step (p_ostore rfl rfl rfl rfl rfl (by conv => lhs; whnf) rfl) rfl rfl (fun e => by first | exact .inl rfl | contradiction | exact .inr (.inl (by kernel_rfl))) ?_; conv => whnf))
    refine r_step (p_callg [0] h1 rfl rfl ⟨rfl, trivial⟩ rfl rfl trivial rfl rfl rfl (.inl rfl) rfl) rfl rfl (fun e => by first | exact .inl rfl | contradiction | exact .inr (.inl (by kernel_rfl))) ?_
    conv => whnf
    repeat (first | ((first | refine qb rfl rfl ?_ | refine qi (by assumption) rfl rfl ?_ | refine ql rfl ?_ | refine qo rfl rfl ?_ | refine qs rfl rfl ?_ | refine qn rfl rfl ?_); conv => whnf) | (refine r_step (p_ostore rfl rfl rfl rfl rfl (by conv => lhs; whnf) rfl) rfl rfl (fun e => by first | exact .inl rfl | contradiction | exact .inr (.inl (by kernel_rfl))) ?_; conv => whnf))
    exact ⟨⟨k + 1, hlt⟩, by refine ⟨?_, ?_⟩ <;> (repeat (first | trivial | exact ⟨rfl, trivial⟩ | refine ⟨rfl, ?_⟩ | refine ⟨.inl ⟨rfl, rfl⟩, ?_⟩ | refine ⟨.inr ⟨_, _, rfl, rfl, rfl, rfl, rfl⟩, ?_⟩)), by simp; omega⟩
  · have hkk : k = l.length := by omega
    subst hkk
    rw [decide_eq_false hlt]
    conv => whnf
    repeat (((first | refine qb rfl rfl ?_ | refine qi (by assumption) rfl rfl ?_ | refine ql rfl ?_ | refine qo rfl rfl ?_ | refine qs rfl rfl ?_ | refine qn rfl rfl ?_); conv => whnf))
    exact r_own1in rfl (by show some (OB.mk _ _ _) = _; rw [List.take_length]) (chan_ext (by rw [List.drop_eq_nil_of_le (by omega)]; rfl))
/-- what waits after one more event came -/
def addE (l : List Evt) (e : Evt) : List Evt := if l.length < 4 then l ++ [e] else [⟨e.ver, e.head, true⟩]
theorem ac_add {l : List Evt} {e : Evt} (hm : l.length ≤ 4) : ACG Try.prog 59 [.mapv 0, evtA e] [chanO 4 (l.map evtA)] [chanO 4 ((addE l e).map evtA)] ⟨.tup [], []⟩ := by
  have t1 := ac_takeAll hm
  refine acg_of (rs := []) Th_ok (by kernel_rfl) Try.func59 rfl Try.ntmps59 (by rw [Try.results59]) (by kernel_rfl) (by simp) rfl rfl (runCC_sound _ _ _ ?_)
  unfold addE
  by_cases h4 : l.length < 4
  · rw [if_pos h4]
    conv => whnf
    refine regS_of (oc_sels rfl rfl rfl rfl rfl (by simpa using h4) zero_evt rfl (oc_put Th_ok rfl rfl rfl (p_ext rfl rfl) (oc_put Th_ok rfl rfl rfl (p_bin (b_eq_t (by omega)) rfl rfl rfl) (oc_nil rfl ?_))))
    conv => whnf
    repeat (first | ((first | refine qb rfl rfl ?_ | refine qi (by assumption) rfl rfl ?_ | refine ql rfl ?_ | refine qo rfl rfl ?_ | refine qs rfl rfl ?_ | refine qn rfl rfl ?_); conv => whnf) | (refine r_step (p_ostore rfl rfl rfl rfl rfl (by conv => lhs; whnf) rfl) rfl rfl (fun e => by first | exact .inl rfl | contradiction | exact .inr (.inl (by kernel_rfl))) ?_; conv => whnf))
    exact r_0nn (chan_ext (by rw [List.map_append]; rfl))
  · rw [if_neg h4]
    conv => whnf
    refine regS_of (oc_sels0 rfl rfl rfl rfl (by simp; omega) zero_evt (oc_put Th_ok rfl rfl rfl (p_ext rfl rfl) (oc_put Th_ok rfl rfl rfl (p_bin (b_eq_f (by omega)) rfl rfl rfl) (oc_nil rfl ?_))))
    conv => whnf
    refine r_step (p_callg [0] t1 rfl rfl ⟨rfl, trivial⟩ rfl rfl ⟨⟨rfl, rfl, rfl⟩, trivial⟩ rfl rfl rfl (.inl rfl) rfl) rfl rfl (fun e => by first | exact .inl rfl | contradiction | exact .inr (.inl (by kernel_rfl))) ?_
    conv => whnf
    repeat (first | ((first | refine qb rfl rfl ?_ | refine qi (by assumption) rfl rfl ?_ | refine ql rfl ?_ | refine qo rfl rfl ?_ | refine qs rfl rfl ?_ | refine qn rfl rfl ?_); conv => whnf) | (refine r_step (p_ostore rfl rfl rfl rfl rfl (by conv => lhs; whnf) rfl) rfl rfl (fun e => by first | exact .inl rfl | contradiction | exact .inr (.inl (by kernel_rfl))) ?_; conv => whnf))
    refine regS_of (oc_put Th_ok rfl rfl rfl (p_mv rfl) (oc_put Th_ok rfl rfl rfl (p_old rfl rfl rfl rfl rfl rfl rfl) (oc_send (es := []) rfl rfl rfl rfl (by simp) rfl (oc_nil rfl ?_))))
    conv => whnf
    repeat (((first | refine qb rfl rfl ?_ | refine qi (by assumption) rfl rfl ?_ | refine ql rfl ?_ | refine qo rfl rfl ?_ | refine qs rfl rfl ?_ | refine qn rfl rfl ?_); conv => whnf))
    exact r_0nn rfl
end Go.Proofs.Ytmfmclnklpbiaaa.AM
