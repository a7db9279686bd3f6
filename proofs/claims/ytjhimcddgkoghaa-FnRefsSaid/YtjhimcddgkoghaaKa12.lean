/- Texts of the machine over data, folded. -/
import Derived.Test.YtjhimcddgkoghaaKa5
import Derived.Test.YtjhimcddgkoghaaKa10
import Derived.Test.YtjhimcddgkoghaaKa8
import Derived.Test.YtjhimcddgkoghaaKa11
namespace Go.Proofs.Ytjhimcddgkoghaa.AM
open Go Go.RowKit
set_option linter.unusedVariables false
set_option linter.unusedSimpArgs false
set_option maxRecDepth 100000
def goneS (c : List UInt8) (s : Src) (e : Ent) : Edt := if (nextS c s 3).1 = 2 then ⟨e.1, 0, true⟩ else ⟨e.1, e.2, false⟩
def edL (c : List UInt8) : List Ent → Src → List Edt → List Edt × Src
  | [], s, out => (out, s)
  | e :: m, s, out => edL c m (nextS c s 3).2 (out ++ [goneS c s e])
theorem edL_ok {c : List UInt8} : ∀ (m : List Ent) (s : Src) (out : List Edt) (K : Nat), s.ok K → (∀ e ∈ m, e.1 ∈ keys8 ∧ 0 ≤ e.2 ∧ e.2 < 9) →
    (edL c m s out).2.ok (K + m.length) ∧ ∃ xs, (edL c m s out).1 = out ++ xs ∧ xs.map (·.key) = m.map (·.1) ∧ ∀ e ∈ xs, e.key ∈ keys8 ∧ 0 ≤ e.val ∧ e.val < 9 ∧ (e.gone = true → e.val = 0)
  | [], s, out, K, h, _ => ⟨h, [], by simp [edL], rfl, by simp⟩
  | e :: m, s, out, K, h, hm => by
    obtain ⟨h1, _⟩ := nextS_ok (c := c) (n := 3) h (by omega)
    obtain ⟨a1, xs, a2, a3, a4⟩ := edL_ok (c := c) m (nextS c s 3).2 (out ++ [goneS c s e]) (K + 1) h1 (fun x hx => hm x (by simp [hx]))
    obtain ⟨m1, m2, m3⟩ := hm e (by simp)
    refine ⟨a1.le (by simp; omega), goneS c s e :: xs, by rw [edL, a2]; simp, ?_, fun x hx => ?_⟩
    · have : (goneS c s e).key = e.1 := by unfold goneS; split <;> rfl
      simp [this, a3]
    · rcases List.mem_cons.1 hx with rfl | hx
      · unfold goneS
        split
        · exact ⟨m1, by simp, by simp, fun _ => rfl⟩
        · exact ⟨m1, m2, m3, fun h => by cases h⟩
      · exact a4 x hx
def edS (c : List UInt8) (s : Src) : List Edt × Src := edL c (entL c (nextS c s 4).1 (nextS c s 4).2 []).1 (entL c (nextS c s 4).1 (nextS c s 4).2 []).2 []
theorem edS_ok {c : List UInt8} {s : Src} {K : Nat} (h : s.ok K) : (edS c s).2.ok (K + 10) ∧ GoodE (edS c s).1 ∧ (edS c s).1.length ≤ 3 := by
  obtain ⟨h1, h2⟩ := nextS_ok (c := c) (n := 4) h (by omega)
  obtain ⟨a1, a2, a3⟩ := entL_ok (c := c) (nextS c s 4).1 _ [] _ h1 Good.nil
  obtain ⟨b1, xs, b2, b3, b4⟩ := edL_ok (c := c) _ _ [] _ a1 a2.2
  simp only [List.length_nil] at a3
  have hx : (edS c s).1 = xs := by unfold edS; rw [b2]; rfl
  have hlen : xs.length = (entL c (nextS c s 4).1 (nextS c s 4).2 []).1.length := by have := congrArg List.length b3; simpa using this
  refine ⟨b1.le (by omega), ?_, by rw [hx]; omega⟩
  rw [hx]
  refine ⟨?_, b4⟩
  have h5 : (xs.map (·.key)).Pairwise (fun a b => klt a b = true) := by
    rw [b3, List.pairwise_map]; exact a2.1
  rwa [List.pairwise_map] at h5
theorem r_lst1 {s : St} {t l sz : Nat} {e : ET} {xs : List AV} {Θ : Tab} (h : s.sl t = .own l) (ho : s.hp l = some ⟨e, sz, xs⟩) (hok : okL l = true := by rfl) (hsh : e.shut = true := by rfl) : RetQ Θ [.tmp t] ⟨.lst sz xs, []⟩ .ret s :=
  ⟨trivial, [], by simp, trivial, ⟨trivial, trivial⟩, trivial, ⟨ra_o h ho hok hsh, trivial⟩⟩
theorem r_ptr1 {s : St} {t l : Nat} {ob : OB} {Θ : Tab} (h : s.sl t = .optr l 0 [] 0) (ho : s.hp l = some ob) (hok : okL l = true := by rfl) (hsh : ob.e.shut = true := by rfl) : RetQ Θ [.tmp t] ⟨.optr 0 0 [] 0, [ob]⟩ .ret s :=
  ⟨trivial, [l], by simp, ⟨⟨ho, hok, hsh⟩, trivial⟩, ⟨trivial, trivial⟩, trivial, ⟨.inl ⟨h, rfl⟩, trivial⟩⟩
theorem r_tup3s {s : St} {Θ : Tab} {t1 t2 t3 : Nat} {y1 y2 y3 : AV} {o0 : OB} (h1 : retA s [] (s.sl t1) y1) (h2 : retA s [] (s.sl t2) y2) (h3 : retA s [] (s.sl t3) y3) (h0 : s.hp 0 = some o0) : RetG Θ [.tmp t1, .tmp t2, .tmp t3] [o0] ⟨.tup [y1, y2, y3], []⟩ .ret s :=
  ⟨⟨h0, trivial⟩, [], by simp, trivial, ⟨trivial, trivial, trivial, trivial⟩, ⟨_, rfl⟩, ⟨h1, h2, h3, trivial⟩⟩
attribute [local irreducible] ACode AOps AOps2 RetG RetM Pre ACG
theorem ac_edits {c : List UInt8} {s : Src} {K : Nat} (hc : c.length ≤ maxLen) (hs : s.ok K) (hK : K ≤ 900000000) : ACG Try.prog 174 [.optr 0 0 [] 0] [srcO c s] [srcO c (edS c s).2] ⟨.own 0, [edtO (edS c s).1]⟩ := by
  have hb := ac_next (n := 4) hc hs (by omega) (by omega)
  obtain ⟨n1, n2⟩ := nextS_ok (c := c) (n := 4) hs (by omega)
  refine acg_of (rs := [.tmp 2]) Th_ok (by kernel_rfl) Try.func174 rfl Try.ntmps174 (by rw [Try.results174]) (by kernel_rfl) (by simp) rfl rfl (runC_sound _ _ _ ?_); conv => whnf
  repeat (first | ((first | refine qb rfl rfl ?_ | refine qi (by assumption) rfl rfl ?_ | refine ql rfl ?_ | refine qo rfl rfl ?_ | refine qs rfl rfl ?_ | refine qn rfl rfl ?_); conv => whnf) | (refine r_step (p_callg [0] (hb) rfl rfl (by first | exact ⟨rfl, trivial⟩ | exact ⟨rfl, rfl, trivial⟩ | exact ⟨rfl, rfl, rfl, trivial⟩) rfl rfl (by first | exact trivial | exact ⟨⟨rfl, rfl, rfl⟩, trivial⟩ | exact ⟨⟨rfl, rfl, rfl⟩, ⟨rfl, rfl, rfl⟩, trivial⟩ | exact ⟨⟨rfl, rfl, rfl⟩, ⟨rfl, rfl, rfl⟩, ⟨rfl, rfl, rfl⟩, trivial⟩) rfl rfl rfl (.inl rfl) rfl) rfl rfl (fun e => by first | exact .inl rfl | contradiction | exact .inr (.inl (by kernel_rfl))) ?_; conv => whnf))
  unfold edS
  generalize (nextS c s 4).2 = s1 at n1 ⊢
  generalize hn0 : (nextS c s 4).1 = n0 at n2 ⊢
  refine r_loop (ι := { p : Nat × Src × List Ent // p.2.1.ok (K + 1 + 2 * (3 - p.1)) ∧ p.1 ≤ 3 ∧ Good p.2.2 ∧ p.2.2.length + p.1 ≤ 3 ∧ entL c p.1 p.2.1 p.2.2 = entL c n0 s1 [] }) (fun p => ⟨[(0, .optr 0 0 [] 0), (3, .own 8), (4, .v (.int .i64 (p.1.1 : Int)))], [(0, srcO c p.1.2.1), (8, entO p.1.2.2)]⟩) (fun p => p.1.1) ⟨(n0, s1, []), n1.le (by omega), by omega, Good.nil, by simp; omega, rfl⟩ (by refine ⟨?_, ?_⟩ <;> (repeat (first | trivial | exact ⟨rfl, trivial⟩ | refine ⟨rfl, ?_⟩ | refine ⟨.inl ⟨rfl, rfl⟩, ?_⟩ | refine ⟨.inr ⟨_, _, rfl, rfl, rfl, rfl, rfl⟩, ?_⟩))) ?_
  rintro ⟨⟨n, s2, m⟩, h1, h2, h3, h4, h5⟩
  dsimp only at h1 h2 h3 h4 h5 ⊢
  conv => whnf
  cases n with
  | succ n =>
    obtain ⟨k1, k2⟩ := keyS_ok (c := c) h1
    obtain ⟨k3, k4⟩ := nextS_ok (c := c) (n := 9) k1 (by omega)
    have hk := ac_key (c := c) hc h1 (by omega)
    have hx := ac_next (n := 9) hc k1 (by omega) (by omega)
    have hl := putL_length m (keyS c s2).1 (nextS c (keyS c s2).2 9).1
    have hp := ac_l01Put (es := m) (k := (keyS c s2).1) (v := (nextS c (keyS c s2).2 9).1) (by omega)
    repeat (first | ((first | refine qb rfl rfl ?_ | refine qi (by assumption) rfl rfl ?_ | refine ql rfl ?_ | refine qo rfl rfl ?_ | refine qs rfl rfl ?_ | refine qn rfl rfl ?_); conv => whnf) | (refine r_step (p_callg [0] (hk) rfl rfl (by first | exact ⟨rfl, trivial⟩ | exact ⟨rfl, rfl, trivial⟩ | exact ⟨rfl, rfl, rfl, trivial⟩) rfl rfl (by first | exact trivial | exact ⟨⟨rfl, rfl, rfl⟩, trivial⟩ | exact ⟨⟨rfl, rfl, rfl⟩, ⟨rfl, rfl, rfl⟩, trivial⟩ | exact ⟨⟨rfl, rfl, rfl⟩, ⟨rfl, rfl, rfl⟩, ⟨rfl, rfl, rfl⟩, trivial⟩) rfl rfl rfl (.inl rfl) rfl) rfl rfl (fun e => by first | exact .inl rfl | contradiction | exact .inr (.inl (by kernel_rfl))) ?_; conv => whnf) | (refine r_step (p_callg [0] (hx) rfl rfl (by first | exact ⟨rfl, trivial⟩ | exact ⟨rfl, rfl, trivial⟩ | exact ⟨rfl, rfl, rfl, trivial⟩) rfl rfl (by first | exact trivial | exact ⟨⟨rfl, rfl, rfl⟩, trivial⟩ | exact ⟨⟨rfl, rfl, rfl⟩, ⟨rfl, rfl, rfl⟩, trivial⟩ | exact ⟨⟨rfl, rfl, rfl⟩, ⟨rfl, rfl, rfl⟩, ⟨rfl, rfl, rfl⟩, trivial⟩) rfl rfl rfl (.inl rfl) rfl) rfl rfl (fun e => by first | exact .inl rfl | contradiction | exact .inr (.inl (by kernel_rfl))) ?_; conv => whnf))
    refine qC (hp) rfl ?_
    refine r_step (p_asl 8 rfl rfl rfl) rfl rfl (fun e => by first | exact .inl rfl | contradiction | exact .inr (.inl (by kernel_rfl))) ?_; conv => whnf
    repeat (first | (refine r_put (p_bin (b_sub (c := (n : Int)) (by omega) (by omega) (by omega)) rfl rfl rfl) rfl rfl ?_; conv => whnf) | ((first | refine qb rfl rfl ?_ | refine qi (by assumption) rfl rfl ?_ | refine ql rfl ?_ | refine qo rfl rfl ?_ | refine qs rfl rfl ?_ | refine qn rfl rfl ?_); conv => whnf))
    exact ⟨⟨(n, (nextS c (keyS c s2).2 9).2, putL m (keyS c s2).1 (nextS c (keyS c s2).2 9).1), k3.le (by omega), by omega, h3.put k2 (by omega) (by omega), by simp; omega, h5⟩, by refine ⟨?_, ?_⟩ <;> (repeat (first | trivial | exact ⟨rfl, trivial⟩ | refine ⟨rfl, ?_⟩ | refine ⟨.inl ⟨rfl, rfl⟩, ?_⟩ | refine ⟨.inr ⟨_, _, rfl, rfl, rfl, rfl, rfl⟩, ?_⟩)), by simp⟩
  | zero =>
    have he : (m, s2) = entL c n0 s1 [] := h5
    rw [← he]
    repeat (((first | refine qb rfl rfl ?_ | refine qi (by assumption) rfl rfl ?_ | refine ql rfl ?_ | refine qo rfl rfl ?_ | refine qs rfl rfl ?_ | refine qn rfl rfl ?_); conv => whnf))
    refine r_loop (ι := { p : Nat × Src × List Edt // p.2.1.ok (K + 7 + p.1) ∧ p.1 ≤ m.length ∧ p.2.2.length = p.1 ∧ edL c (m.drop p.1) p.2.1 p.2.2 = edL c m s2 [] }) (fun p => ⟨[(0, .optr 0 0 [] 0), (3, .own 8), (5, .own 21), (6, .v (.int .i64 (p.1.1 : Int)))], [(0, srcO c p.1.2.1), (8, entO m), (21, edtO p.1.2.2)]⟩) (fun p => m.length - p.1.1) ⟨(0, s2, []), h1.le (by omega), by omega, rfl, rfl⟩ (by refine ⟨?_, ?_⟩ <;> (repeat (first | trivial | exact ⟨rfl, trivial⟩ | refine ⟨rfl, ?_⟩ | refine ⟨.inl ⟨rfl, rfl⟩, ?_⟩ | refine ⟨.inr ⟨_, _, rfl, rfl, rfl, rfl, rfl⟩, ?_⟩))) ?_
    rintro ⟨⟨k, s3, out⟩, g1, g2, g3, g4⟩
    dsimp only at g1 g2 g3 g4 ⊢
    conv => whnf
    by_cases hlt : k < m.length
    case neg =>
      have hkk : k = m.length := by omega
      rw [hkk, List.drop_length] at g4
      rw [← g4]
      repeat (((first | refine qb rfl rfl ?_ | refine qi (by assumption) rfl rfl ?_ | refine ql rfl ?_ | refine qo rfl rfl ?_ | refine qs rfl rfl ?_ | refine qn rfl rfl ?_); conv => whnf))
      exact r_own1s rfl rfl rfl
    rw [List.drop_eq_getElem_cons hlt, edL] at g4
    have hch := ac_chance (n := 3) hc g1 (by omega) (by omega) (by omega)
    obtain ⟨c1, c2⟩ := nextS_ok (c := c) (n := 3) g1 (by omega)
    have hi : (m.map entA)[k]? = some (entA m[k]) := by simp [hlt]
    repeat (first | ((first | refine qb rfl rfl ?_ | refine qi (by assumption) rfl rfl ?_ | refine ql rfl ?_ | refine qo rfl rfl ?_ | refine qs rfl rfl ?_ | refine qn rfl rfl ?_); conv => whnf) | (refine r_step (p_callg [0] (hch) rfl rfl (by first | exact ⟨rfl, trivial⟩ | exact ⟨rfl, rfl, trivial⟩ | exact ⟨rfl, rfl, rfl, trivial⟩) rfl rfl (by first | exact trivial | exact ⟨⟨rfl, rfl, rfl⟩, trivial⟩ | exact ⟨⟨rfl, rfl, rfl⟩, ⟨rfl, rfl, rfl⟩, trivial⟩ | exact ⟨⟨rfl, rfl, rfl⟩, ⟨rfl, rfl, rfl⟩, ⟨rfl, rfl, rfl⟩, trivial⟩) rfl rfl rfl (.inl rfl) rfl) rfl rfl (fun e => by first | exact .inl rfl | contradiction | exact .inr (.inl (by kernel_rfl))) ?_; conv => whnf))
    by_cases h2 : (nextS c s3 3).1 = 3 - 1
    · rw [decide_eq_true h2]
      have hg : goneS c s3 m[k] = ⟨m[k].1, 0, true⟩ := by unfold goneS; rw [if_pos (by omega)]
      rw [hg] at g4
      conv => whnf
      repeat (((first | refine qb rfl rfl ?_ | refine qi (by assumption) rfl rfl ?_ | refine ql rfl ?_ | refine qo rfl rfl ?_ | refine qs rfl rfl ?_ | refine qn rfl rfl ?_); conv => whnf))
      refine o_put (p_oidx (by simpa using hlt) rfl rfl rfl rfl rfl) rfl rfl ?_
      refine o_put (p_ofld rfl rfl rfl) rfl rfl ?_
      refine r_put (p_old rfl rfl hi rfl rfl rfl rfl) rfl rfl ?_
      conv => whnf
      refine r_step (p_app1r (f := edtA) (xs := out) ⟨m[k].1, 0, true⟩ (out ++ [⟨m[k].1, 0, true⟩]) rfl (by omega) rfl rfl rfl rfl rfl rfl rfl) rfl rfl (fun e => by first | exact .inl rfl | contradiction | exact .inr (.inl (by kernel_rfl))) ?_
      conv => whnf
      repeat (((first | refine qb rfl rfl ?_ | refine qi (by assumption) rfl rfl ?_ | refine ql rfl ?_ | refine qo rfl rfl ?_ | refine qs rfl rfl ?_ | refine qn rfl rfl ?_); conv => whnf))
      exact ⟨⟨(k + 1, (nextS c s3 3).2, out ++ [⟨m[k].1, 0, true⟩]), c1.le (by omega), by omega, by simp; omega, g4⟩, by refine ⟨?_, ?_⟩ <;> (repeat (first | trivial | exact ⟨rfl, trivial⟩ | refine ⟨rfl, ?_⟩ | refine ⟨.inl ⟨rfl, rfl⟩, ?_⟩ | refine ⟨.inr ⟨_, _, rfl, rfl, rfl, rfl, rfl⟩, ?_⟩)), by simp; omega⟩
    · rw [decide_eq_false h2]
      have hg : goneS c s3 m[k] = ⟨m[k].1, m[k].2, false⟩ := by unfold goneS; rw [if_neg (by omega)]
      rw [hg] at g4
      conv => whnf
      refine .inr ⟨by kernel_rfl, prodB_ok (by kernel_rfl), ?_⟩
      refine o2_calm (p_mv rfl) rfl rfl rfl (.inl rfl) (by kernel_rfl) ?_
      refine o2_calm (p_mv rfl) rfl rfl rfl (.inl rfl) (by kernel_rfl) ?_
      refine o2_calm (p_mv rfl) rfl rfl rfl (.inl rfl) (by kernel_rfl) ?_
      refine o2_sft (sft_rd (p_oidx (by simpa using hlt) rfl rfl rfl rfl rfl) rfl rfl) in_o0 rfl rfl (by kernel_rfl) ?_
      refine o2_calm (p_ofld rfl rfl rfl) rfl rfl rfl (.inl rfl) (by kernel_rfl) ?_
      refine o2_calm (p_old rfl rfl hi rfl rfl rfl rfl) rfl rfl rfl (.inr rfl) (by kernel_rfl) ?_
      refine o2_calm (p_mv rfl) rfl rfl rfl (.inl rfl) (by kernel_rfl) ?_
      refine o2_calm (p_mv rfl) rfl rfl rfl (.inl rfl) (by kernel_rfl) ?_
      refine o2_sft (sft_rd (p_oidx (by simpa using hlt) rfl rfl rfl rfl rfl) rfl rfl) in_o0 rfl rfl (by kernel_rfl) ?_
      refine o2_calm (p_ofld rfl rfl rfl) rfl rfl rfl (.inl rfl) (by kernel_rfl) ?_
      refine o2_calm (p_old rfl rfl hi rfl rfl rfl rfl) rfl rfl rfl (.inr rfl) (by kernel_rfl) ?_
      refine o2_sft (sft_bld rfl ⟨⟨_, rfl, rfl⟩, rfl, ⟨_, rfl, rfl⟩, rfl, trivial⟩ rfl rfl rfl) in_o0 rfl rfl (by kernel_rfl) ?_
      refine o2_sft (sft_bsd1 rfl rfl rfl rfl rfl) in_o1 rfl rfl (by kernel_rfl) ?_
      refine o2_tied (p_app1r (f := edtA) (xs := out) ⟨m[k].1, m[k].2, false⟩ (out ++ [⟨m[k].1, m[k].2, false⟩]) rfl (by omega) rfl rfl rfl rfl rfl rfl rfl) rfl rfl (by kernel_rfl) ?_
      refine o2_tied (p_as rfl) rfl rfl (by kernel_rfl) ?_
      refine o2_nil ?_
      conv => whnf
      repeat (((first | refine qb rfl rfl ?_ | refine qi (by assumption) rfl rfl ?_ | refine ql rfl ?_ | refine qo rfl rfl ?_ | refine qs rfl rfl ?_ | refine qn rfl rfl ?_); conv => whnf))
      exact ⟨⟨(k + 1, (nextS c s3 3).2, out ++ [⟨m[k].1, m[k].2, false⟩]), c1.le (by omega), by omega, by simp; omega, g4⟩, by refine ⟨?_, ?_⟩ <;> (repeat (first | trivial | exact ⟨rfl, trivial⟩ | refine ⟨rfl, ?_⟩ | refine ⟨.inl ⟨rfl, rfl⟩, ?_⟩ | refine ⟨.inr ⟨_, _, rfl, rfl, rfl, rfl, rfl⟩, ?_⟩)), by simp; omega⟩
def src0 (c : List UInt8) : Src := ⟨0, ((c.length % 1000 : Nat) : Int)⟩
theorem src0_ok (c : List UInt8) : (src0 c).ok 0 := ⟨Nat.le_refl _, by unfold src0; simp only; omega, by unfold src0; simp only; omega⟩
theorem ac_source {c : List UInt8} (hc : c.length ≤ maxLen) : AC Try.prog 166 [.lst 1 (c.map bytA)] ⟨.optr 0 0 [] 0, [srcO c (src0 c)]⟩ := by
  unfold maxLen at hc
  have hm : ((c.length : Nat) : Int) % 1000 = ((c.length % 1000 : Nat) : Int) := by omega
  refine r_of Th_ok (by kernel_rfl) Try.func166 rfl Try.ntmps166 Try.results166 (by kernel_rfl) rfl ?_; conv => whnf
  repeat (first | (refine r_put (p_bin (b_rem2 (by omega) (by omega) hm) rfl rfl rfl) rfl rfl ?_; conv => whnf) | ((first | refine qb rfl rfl ?_ | refine qi (by assumption) rfl rfl ?_ | refine ql rfl ?_ | refine qo rfl rfl ?_ | refine qs rfl rfl ?_ | refine qn rfl rfl ?_); conv => whnf))
  exact r_ptr1 rfl rfl
noncomputable def edD (c : List UInt8) : List Edt := (edS c (src0 c)).1
theorem edD_ok (c : List UInt8) : GoodE (edD c) ∧ (edD c).length ≤ 3 := (edS_ok (src0_ok c)).2
theorem ac_EditsDrawn {c : List UInt8} (hc : c.length ≤ maxLen) : AC Try.prog 69 [.lst 1 (c.map bytA)] ⟨.lst 3 ((edD c).map edtA), []⟩ := by
  have h1 := ac_source hc
  have h2 := ac_edits hc (src0_ok c) (by omega)
  unfold edD
  refine r_of Th_ok (by kernel_rfl) Try.func69 rfl Try.ntmps69 Try.results69 (by kernel_rfl) rfl ?_; conv => whnf
  repeat (first | ((first | refine qb rfl rfl ?_ | refine qi (by assumption) rfl rfl ?_ | refine ql rfl ?_ | refine qo rfl rfl ?_ | refine qs rfl rfl ?_ | refine qn rfl rfl ?_); conv => whnf) | (refine qf (h1) rfl ?_; conv => whnf))
  (refine r_step (p_callg [5] (h2) rfl rfl (by first | exact ⟨rfl, trivial⟩ | exact ⟨rfl, rfl, trivial⟩ | exact ⟨rfl, rfl, rfl, trivial⟩) rfl rfl (by first | exact trivial | exact ⟨⟨rfl, rfl, rfl⟩, trivial⟩ | exact ⟨⟨rfl, rfl, rfl⟩, ⟨rfl, rfl, rfl⟩, trivial⟩ | exact ⟨⟨rfl, rfl, rfl⟩, ⟨rfl, rfl, rfl⟩, ⟨rfl, rfl, rfl⟩, trivial⟩) rfl rfl rfl (.inl rfl) rfl) rfl rfl (fun e => by first | exact .inl rfl | contradiction | exact .inr (.inl (by kernel_rfl))) ?_; conv => whnf)
  repeat (((first | refine qb rfl rfl ?_ | refine qi (by assumption) rfl rfl ?_ | refine ql rfl ?_ | refine qo rfl rfl ?_ | refine qs rfl rfl ?_ | refine qn rfl rfl ?_); conv => whnf))
  exact r_lst1 rfl rfl
/-- the sides of a merge -/
def sidS (c : List UInt8) (s : Src) : (List Ent × List Ent × List Ent) × Src :=
  let b := entS c s
  let x := edS c b.2
  let y := edS c x.2
  ((b.1, applyL b.1 x.1, applyL b.1 y.1), y.2)
theorem sidS_ok {c : List UInt8} {s : Src} {K : Nat} (h : s.ok K) : (Good (sidS c s).1.1 ∧ (sidS c s).1.1.length ≤ 5) ∧ (Good (sidS c s).1.2.1 ∧ (sidS c s).1.2.1.length ≤ 8) ∧ Good (sidS c s).1.2.2 ∧ (sidS c s).1.2.2.length ≤ 8 := by
  obtain ⟨a1, a2, a3⟩ := entS_ok (c := c) h
  obtain ⟨b1, b2, b3⟩ := edS_ok (c := c) a1
  obtain ⟨c1, c2, c3⟩ := edS_ok (c := c) b1
  have l1 := applyL_length (entS c s).1 (edS c (entS c s).2).1
  have l2 := applyL_length (entS c s).1 (edS c (edS c (entS c s).2).2).1
  exact ⟨⟨a2, a3⟩, ⟨a2.applyE b2, by unfold sidS; simp only; omega⟩, a2.applyE c2, by unfold sidS; simp only; omega⟩
theorem ac_sides {c : List UInt8} {s : Src} {K : Nat} (hc : c.length ≤ maxLen) (hs : s.ok K) (hK : K ≤ 800000000) : ACG Try.prog 179 [.optr 0 0 [] 0] [srcO c s] [srcO c (sidS c s).2] ⟨.tup [.lst 2 ((sidS c s).1.1.map entA), .lst 2 ((sidS c s).1.2.1.map entA), .lst 2 ((sidS c s).1.2.2.map entA)], []⟩ := by
  obtain ⟨a1, a2, a3⟩ := entS_ok (c := c) hs
  obtain ⟨b1, b2, b3⟩ := edS_ok (c := c) a1
  obtain ⟨c1, c2, c3⟩ := edS_ok (c := c) b1
  have h1 := ac_entries (c := c) hc hs (by omega)
  have h2 := ac_edits (c := c) hc a1 (by omega)
  have h3 := ac_edits (c := c) hc b1 (by omega)
  have h4 := ac_l01Apply (es := (entS c s).1) (xs := (edS c (entS c s).2).1) (by omega)
  have h5 := ac_l01Apply (es := (entS c s).1) (xs := (edS c (edS c (entS c s).2).2).1) (by omega)
  refine acg_of (rs := [.tmp 2, .tmp 3, .tmp 4]) Th_ok (by kernel_rfl) Try.func179 rfl Try.ntmps179 (by rw [Try.results179]) (by kernel_rfl) (by simp) rfl rfl (runC_sound _ _ _ ?_); conv => whnf
  (refine r_step (p_callg [0] (h1) rfl rfl (by first | exact ⟨rfl, trivial⟩ | exact ⟨rfl, rfl, trivial⟩ | exact ⟨rfl, rfl, rfl, trivial⟩) rfl rfl (by first | exact trivial | exact ⟨⟨rfl, rfl, rfl⟩, trivial⟩ | exact ⟨⟨rfl, rfl, rfl⟩, ⟨rfl, rfl, rfl⟩, trivial⟩ | exact ⟨⟨rfl, rfl, rfl⟩, ⟨rfl, rfl, rfl⟩, ⟨rfl, rfl, rfl⟩, trivial⟩) rfl rfl rfl (.inl rfl) rfl) rfl rfl (fun e => by first | exact .inl rfl | contradiction | exact .inr (.inl (by kernel_rfl))) ?_; conv => whnf)
  repeat (((first | refine qb rfl rfl ?_ | refine qi (by assumption) rfl rfl ?_ | refine ql rfl ?_ | refine qo rfl rfl ?_ | refine qs rfl rfl ?_ | refine qn rfl rfl ?_); conv => whnf))
  (refine r_step (p_callg [0] (h2) rfl rfl (by first | exact ⟨rfl, trivial⟩ | exact ⟨rfl, rfl, trivial⟩ | exact ⟨rfl, rfl, rfl, trivial⟩) rfl rfl (by first | exact trivial | exact ⟨⟨rfl, rfl, rfl⟩, trivial⟩ | exact ⟨⟨rfl, rfl, rfl⟩, ⟨rfl, rfl, rfl⟩, trivial⟩ | exact ⟨⟨rfl, rfl, rfl⟩, ⟨rfl, rfl, rfl⟩, ⟨rfl, rfl, rfl⟩, trivial⟩) rfl rfl rfl (.inl rfl) rfl) rfl rfl (fun e => by first | exact .inl rfl | contradiction | exact .inr (.inl (by kernel_rfl))) ?_; conv => whnf)
  (refine qc (h4) rfl ?_; conv => whnf)
  (refine r_step (p_callg [0] (h3) rfl rfl (by first | exact ⟨rfl, trivial⟩ | exact ⟨rfl, rfl, trivial⟩ | exact ⟨rfl, rfl, rfl, trivial⟩) rfl rfl (by first | exact trivial | exact ⟨⟨rfl, rfl, rfl⟩, trivial⟩ | exact ⟨⟨rfl, rfl, rfl⟩, ⟨rfl, rfl, rfl⟩, trivial⟩ | exact ⟨⟨rfl, rfl, rfl⟩, ⟨rfl, rfl, rfl⟩, ⟨rfl, rfl, rfl⟩, trivial⟩) rfl rfl rfl (.inl rfl) rfl) rfl rfl (fun e => by first | exact .inl rfl | contradiction | exact .inr (.inl (by kernel_rfl))) ?_; conv => whnf)
  (refine qc (h5) rfl ?_; conv => whnf)
  repeat (((first | refine qb rfl rfl ?_ | refine qi (by assumption) rfl rfl ?_ | refine ql rfl ?_ | refine qo rfl rfl ?_ | refine qs rfl rfl ?_ | refine qn rfl rfl ?_); conv => whnf))
  exact r_tup3s (ra_o rfl rfl) (ra_o rfl rfl) (ra_o rfl rfl) rfl
theorem ac_SidesDrawn {c : List UInt8} (hc : c.length ≤ maxLen) : AC Try.prog 75 [.lst 1 (c.map bytA)] ⟨.tup [.lst 2 ((sidS c (src0 c)).1.1.map entA), .lst 2 ((sidS c (src0 c)).1.2.1.map entA), .lst 2 ((sidS c (src0 c)).1.2.2.map entA)], []⟩ := by
  have h1 := ac_source hc
  have h2 := ac_sides hc (src0_ok c) (by omega)
  refine r_of Th_ok (by kernel_rfl) Try.func75 rfl Try.ntmps75 Try.results75 (by kernel_rfl) rfl ?_; conv => whnf
  repeat (first | ((first | refine qb rfl rfl ?_ | refine qi (by assumption) rfl rfl ?_ | refine ql rfl ?_ | refine qo rfl rfl ?_ | refine qs rfl rfl ?_ | refine qn rfl rfl ?_); conv => whnf) | (refine qf (h1) rfl ?_; conv => whnf))
  (refine r_step (p_callg [7] (h2) rfl rfl (by first | exact ⟨rfl, trivial⟩ | exact ⟨rfl, rfl, trivial⟩ | exact ⟨rfl, rfl, rfl, trivial⟩) rfl rfl (by first | exact trivial | exact ⟨⟨rfl, rfl, rfl⟩, trivial⟩ | exact ⟨⟨rfl, rfl, rfl⟩, ⟨rfl, rfl, rfl⟩, trivial⟩ | exact ⟨⟨rfl, rfl, rfl⟩, ⟨rfl, rfl, rfl⟩, ⟨rfl, rfl, rfl⟩, trivial⟩) rfl rfl rfl (.inl rfl) rfl) rfl rfl (fun e => by first | exact .inl rfl | contradiction | exact .inr (.inl (by kernel_rfl))) ?_; conv => whnf)
  repeat (((first | refine qb rfl rfl ?_ | refine qi (by assumption) rfl rfl ?_ | refine ql rfl ?_ | refine qo rfl rfl ?_ | refine qs rfl rfl ?_ | refine qn rfl rfl ?_); conv => whnf))
  exact r_tup3 (ra_x rfl trivial) (ra_x rfl trivial) (ra_x rfl trivial)
theorem ac_SameMap_t {m : List Ent} (h : mapOK m = true) (hk : ∀ e ∈ m, e.1.size ≤ maxLen) : AC Try.prog 67 [.lst 2 (m.map entA), .lst 2 (m.map entA)] ⟨.v (.bool true), []⟩ := by
  have hl := mapOK_le h
  have hm : m.length ≤ maxLen := by unfold maxLen; omega
  have h1 := ac_implMapOK' h hm hk
  have h2 := ac_eqlEnts hm hm
  rw [decide_eq_true rfl] at h2
  refine r_of Th_ok (by kernel_rfl) Try.func67 rfl Try.ntmps67 Try.results67 (by kernel_rfl) rfl ?_; conv => whnf
  repeat (first | ((first | refine qb rfl rfl ?_ | refine qi (by assumption) rfl rfl ?_ | refine ql rfl ?_ | refine qo rfl rfl ?_ | refine qs rfl rfl ?_ | refine qn rfl rfl ?_); conv => whnf) | (refine qc (h1) rfl ?_; conv => whnf) | (refine qc (h2) rfl ?_; conv => whnf))
  exact r_ret1 rfl trivial
end Go.Proofs.Ytjhimcddgkoghaa.AM
namespace Go.Proofs.Ytjhimcddgkoghaa.AM
open Go Go.RowKit
set_option linter.unusedVariables false
/-- the value of a key -/
def lk (m : List Ent) (k : ByteArray) : Option Int := (m.find? fun e => decide (e.1 = k)).map (·.2)
theorem lk_cons (e : Ent) (m : List Ent) (k : ByteArray) : lk (e :: m) k = if e.1 = k then some e.2 else lk m k := by
  unfold lk
  rw [List.find?_cons]
  by_cases h : e.1 = k <;> simp [h]
theorem lk_none_of {m : List Ent} {k : ByteArray} (h : ∀ e ∈ m, e.1 ≠ k) : lk m k = none := by
  induction m with
  | nil => rfl
  | cons e m ih => rw [lk_cons, if_neg (h e (by simp)), ih (fun x hx => h x (by simp [hx]))]
theorem lk_lt {m : List Ent} {k : ByteArray} (h : ∀ e ∈ m, klt k e.1 = true) : lk m k = none := lk_none_of fun e he hk => klt_ne (h e he) hk.symm
theorem lk_mem {m : List Ent} {k : ByteArray} {v : Int} (h : lk m k = some v) : (k, v) ∈ m := by
  induction m with
  | nil => cases h
  | cons e m ih =>
    rw [lk_cons] at h
    by_cases he : e.1 = k
    · rw [if_pos he] at h; cases h
      have : e = (k, e.2) := by rw [← he]
      rw [← this]; simp
    · rw [if_neg he] at h; exact List.mem_cons_of_mem _ (ih h)
theorem srt_ext : ∀ (a b : List Ent), Srt a → Srt b → (∀ k, lk a k = lk b k) → a = b
  | [], [], _, _, _ => rfl
  | [], y :: b, _, _, h => by have := h y.1; rw [lk_cons, if_pos rfl] at this; cases this
  | x :: a, [], _, _, h => by have := h x.1; rw [lk_cons, if_pos rfl] at this; cases this
  | x :: a, y :: b, ha, hb, h => by
    obtain ⟨p, q⟩ := List.pairwise_cons.1 ha
    obtain ⟨p', q'⟩ := List.pairwise_cons.1 hb
    have hxy : x.1 = y.1 := Classical.byContradiction fun hne => by
      by_cases hlt : klt x.1 y.1 = true
      · have := h x.1
        rw [lk_cons, if_pos rfl, lk_cons, if_neg (fun e => hne e.symm), lk_lt (fun e he => klt_trans hlt (p' e he))] at this
        cases this
      · have hlt' := klt_tri (by simpa using hlt) hne
        have := h y.1
        rw [lk_cons, if_neg hne, lk_lt (fun e he => klt_trans hlt' (p e he)), lk_cons, if_pos rfl] at this
        cases this
    have hv : x.2 = y.2 := by
      have := h x.1
      rw [lk_cons, if_pos rfl, lk_cons, if_pos hxy.symm] at this
      exact Option.some.inj this
    have he : x = y := Prod.ext hxy hv
    subst he
    refine congrArg _ (srt_ext a b q q' fun k => ?_)
    have := h k
    rw [lk_cons, lk_cons] at this
    by_cases hk : x.1 = k
    · rw [lk_lt (fun e he => by rw [← hk]; exact p e he), lk_lt (fun e he => by rw [← hk]; exact p' e he)]
    · rwa [if_neg hk, if_neg hk] at this
theorem lk_del (m : List Ent) (k j : ByteArray) : lk (delL m k) j = if k = j then none else lk m j := by
  unfold delL
  induction m with
  | nil => simp [lk]
  | cons e m ih =>
    rw [List.filter_cons]
    by_cases he : e.1 = k
    · rw [if_neg (by simp [he]), ih, lk_cons]
      by_cases hj : k = j
      · rw [if_pos hj, if_pos hj]
      · rw [if_neg hj, if_neg hj, if_neg (by rw [he]; exact hj)]
    · rw [if_pos (by simp [he]), lk_cons, lk_cons, ih]
      by_cases hj : e.1 = j
      · rw [if_pos hj, if_pos hj, if_neg (fun h => he (by rw [hj, h]))]
      · rw [if_neg hj, if_neg hj]
theorem lk_put : ∀ (m : List Ent) (k : ByteArray) (v : Int) (j : ByteArray), Srt m → lk (putL m k v) j = if k = j then some v else lk m j
  | [], k, v, j, _ => by
    have : putL [] k v = [(k, v)] := rfl
    rw [this, lk_cons]
  | e :: m, k, v, j, hs => by
    obtain ⟨p, q⟩ := List.pairwise_cons.1 hs
    cases h : klt e.1 k with
    | true =>
      rw [putL_cons_lt e m k v h, lk_cons, lk_cons, lk_put m k v j q]
      by_cases hj : e.1 = j
      · rw [if_pos hj, if_pos hj, if_neg (fun hk => klt_ne h (by rw [hj, hk]))]
      · rw [if_neg hj, if_neg hj]
    | false =>
      rw [putL_cons_ge e m k v h, lk_cons]
      by_cases hj : k = j
      · rw [if_pos hj, if_pos hj]
      · rw [if_neg hj, if_neg hj]
        have := lk_del (e :: m) k j
        rw [if_neg hj] at this
        exact this
/-- what an edit makes of a key -/
def edV (o : Option Edt) (d : Option Int) : Option Int := match o with | none => d | some e => if e.gone then none else some e.val
theorem fndE_cons (e : Edt) (es : List Edt) (k : ByteArray) : fndE (e :: es) k = if e.key = k then some e else fndE es k := by
  unfold fndE
  rw [List.find?_cons]
  by_cases h : e.key = k <;> simp [h]
theorem fndE_lt {es : List Edt} {k : ByteArray} (h : ∀ e ∈ es, klt k e.key = true) : fndE es k = none := by
  unfold fndE
  rw [List.find?_eq_none]
  intro e he
  have := klt_ne (h e he)
  simp only [decide_eq_true_eq]
  exact fun h => this h.symm
theorem lk_apply : ∀ (xs : List Edt) (m : List Ent) (j : ByteArray), Srt m → SrtE xs → lk (applyL m xs) j = edV (fndE xs j) (lk m j)
  | [], m, j, _, _ => rfl
  | e :: xs, m, j, hm, hs => by
    obtain ⟨p, q⟩ := List.pairwise_cons.1 hs
    have hone : Srt (applyOne m e) := by
      unfold applyOne; split
      · exact srt_delL hm _
      · exact srt_putL hm _ _
    have h1 : lk (applyOne m e) j = if e.key = j then (if e.gone then none else some e.val) else lk m j := by
      unfold applyOne
      split
      · rename_i hg
        rw [lk_del]
      · rename_i hg
        rw [lk_put m _ _ _ hm]
    show lk (applyL (applyOne m e) xs) j = _
    rw [lk_apply xs _ j hone q, fndE_cons, h1]
    by_cases hj : e.key = j
    · rw [if_pos hj, if_pos hj, fndE_lt (fun x hx => by rw [← hj]; exact p x hx)]
      rfl
    · rw [if_neg hj, if_neg hj]
/-- what the difference has for a key -/
def dfE (k : ByteArray) (x y : Option Int) : Option Edt := match x, y with
  | _, some v => if x = some v then none else some ⟨k, v, false⟩
  | some _, none => some ⟨k, 0, true⟩
  | none, none => none
theorem dfE_same (k : ByteArray) (x : Option Int) : dfE k x x = none := by cases x <;> simp [dfE]
theorem fnd_diffL : ∀ (f : Nat) (a b : List Ent) (k : ByteArray), a.length + b.length ≤ f → Srt a → Srt b → fndE (diffL f a b) k = dfE k (lk a k) (lk b k) := by
  intro f
  induction f with
  | zero =>
    intro a b k h _ _
    have ha : a = [] := List.eq_nil_of_length_eq_zero (by omega)
    have hb : b = [] := List.eq_nil_of_length_eq_zero (by omega)
    subst ha hb
    rfl
  | succ f ih =>
    intro a b k h ha hb
    match a, b, h, ha, hb with
    | [], [], _, _, _ => rfl
    | x :: a, [], h, ha, hb =>
      obtain ⟨p, q⟩ := List.pairwise_cons.1 ha
      rw [diffL, fndE_cons, lk_cons]
      by_cases hk : x.1 = k
      · rw [if_pos hk, if_pos hk, hk]; rfl
      · rw [if_neg hk, if_neg hk]
        exact ih a [] k (by simp at h ⊢; omega) q hb
    | [], y :: b, h, ha, hb =>
      obtain ⟨p, q⟩ := List.pairwise_cons.1 hb
      rw [diffL, fndE_cons, lk_cons]
      by_cases hk : y.1 = k
      · rw [if_pos hk, if_pos hk, hk]; rfl
      · rw [if_neg hk, if_neg hk]
        exact ih [] b k (by simp at h ⊢; omega) ha q
    | x :: a, y :: b, h, ha, hb =>
      obtain ⟨p, q⟩ := List.pairwise_cons.1 ha
      obtain ⟨p', q'⟩ := List.pairwise_cons.1 hb
      rw [diffL]
      split
      · rename_i hxy
        rw [fndE_cons, lk_cons x]
        by_cases hk : x.1 = k
        · have : lk (y :: b) k = none := lk_lt fun e he => by
            rw [← hk]
            rcases List.mem_cons.1 he with rfl | he
            · exact hxy
            · exact klt_trans hxy (p' e he)
          rw [if_pos hk, if_pos hk, this, hk]; rfl
        · rw [if_neg hk, if_neg hk]
          exact ih a (y :: b) k (by simp at h ⊢; omega) q hb
      · split
        · rename_i hyx
          rw [fndE_cons, lk_cons y]
          by_cases hk : y.1 = k
          · have : lk (x :: a) k = none := lk_lt fun e he => by
              rw [← hk]
              rcases List.mem_cons.1 he with rfl | he
              · exact hyx
              · exact klt_trans hyx (p e he)
            rw [if_pos hk, if_pos hk, this, hk]; rfl
          · rw [if_neg hk, if_neg hk]
            exact ih (x :: a) b k (by simp at h ⊢; omega) ha q'
        · rename_i hxy hyx
          have he : x.1 = y.1 := Classical.byContradiction fun hne => hyx (klt_tri (by simpa using hxy) hne)
          have hrec := ih a b k (by simp at h ⊢; omega) q q'
          rw [lk_cons, lk_cons]
          by_cases hk : x.1 = k
          · have hk' : y.1 = k := by rw [← he]; exact hk
            have n1 : lk a k = none := lk_lt fun e hm => by rw [← hk]; exact p e hm
            have n2 : lk b k = none := lk_lt fun e hm => by rw [← hk']; exact p' e hm
            rw [if_pos hk, if_pos hk']
            rw [n1, n2] at hrec
            split
            · rename_i hv
              rw [hv, dfE_same]
              simpa [dfE] using hrec
            · rename_i hv
              show fndE (⟨y.1, y.2, false⟩ :: diffL f a b) k = _
              rw [fndE_cons, if_pos hk', hk']
              simp [dfE, hv]
          · have hk' : ¬ y.1 = k := by rw [← he]; exact hk
            rw [if_neg hk, if_neg hk']
            split
            · simpa using hrec
            · show fndE (⟨y.1, y.2, false⟩ :: diffL f a b) k = _
              rw [fndE_cons, if_neg hk']
              exact hrec
theorem fnd_diff {a b : List Ent} (ha : Srt a) (hb : Srt b) (k : ByteArray) : fndE (diffM a b) k = dfE k (lk a k) (lk b k) := fnd_diffL _ a b k (Nat.le_refl _) ha hb
theorem edV_df (k : ByteArray) (x y : Option Int) : edV (dfE k x y) x = y := by
  cases x <;> cases y <;> simp [dfE, edV]
  rename_i v w
  by_cases h : v = w <;> simp [h]
theorem merge3_of {base x y : List Ent} (hb : mapOK base = true) (hx : mapOK x = true) (hy : mapOK y = true) : merge3R base x y = toldR (mrgL base x y) (clsL base x y) := by
  have := mapOK_le hb
  have := mapOK_le hx
  have := mapOK_le hy
  unfold merge3R
  rw [if_neg (by omega), if_pos ⟨hb, hx, hy⟩]
section
variable {base a : List Ent} (hb : mapOK base = true) (ha : mapOK a = true)
include hb ha
end
end Go.Proofs.Ytjhimcddgkoghaa.AM
namespace Go.Proofs.Ytjhimcddgkoghaa.AM
open Go Go.RowKit
set_option linter.unusedVariables false
set_option linter.unusedSimpArgs false
set_option maxRecDepth 100000
theorem diffL_mem : ∀ (f : Nat) (a b : List Ent) (e : Edt), e ∈ diffL f a b → (∃ y ∈ b, e = ⟨y.1, y.2, false⟩) ∨ ∃ x ∈ a, e = ⟨x.1, 0, true⟩ := by
  intro f
  induction f with
  | zero => intro a b e he; simp [diffL] at he
  | succ f ih =>
    intro a b e he
    match a, b with
    | [], [] => simp [diffL] at he
    | x :: a, [] =>
      rw [diffL] at he
      rcases List.mem_cons.1 he with rfl | he
      · exact .inr ⟨x, by simp, rfl⟩
      · rcases ih a [] e he with ⟨y, hy, _⟩ | ⟨y, hy, h⟩
        · cases hy
        · exact .inr ⟨y, by simp [hy], h⟩
    | [], y :: b =>
      rw [diffL] at he
      rcases List.mem_cons.1 he with rfl | he
      · exact .inl ⟨y, by simp, rfl⟩
      · rcases ih [] b e he with ⟨z, hz, h⟩ | ⟨z, hz, _⟩
        · exact .inl ⟨z, by simp [hz], h⟩
        · cases hz
    | x :: a, y :: b =>
      rw [diffL] at he
      split at he
      · rcases List.mem_cons.1 he with rfl | he
        · exact .inr ⟨x, by simp, rfl⟩
        · rcases ih a (y :: b) e he with h | ⟨z, hz, h⟩
          · exact .inl h
          · exact .inr ⟨z, by simp [hz], h⟩
      · split at he
        · rcases List.mem_cons.1 he with rfl | he
          · exact .inl ⟨y, by simp, rfl⟩
          · rcases ih (x :: a) b e he with ⟨z, hz, h⟩ | h
            · exact .inl ⟨z, by simp [hz], h⟩
            · exact .inr h
        · rcases List.mem_append.1 he with he | he
          · split at he
            · cases he
            · rcases List.mem_singleton.1 he with rfl
              exact .inl ⟨y, by simp, rfl⟩
          · rcases ih a b e he with ⟨z, hz, h⟩ | ⟨z, hz, h⟩
            · exact .inl ⟨z, by simp [hz], h⟩
            · exact .inr ⟨z, by simp [hz], h⟩
theorem Good.diff {a b : List Ent} (ha : Good a) (hb : Good b) : GoodE (diffM a b) :=
  ⟨srt_diffM ha.1 hb.1, fun e he => by
    rcases diffL_mem _ a b e he with ⟨y, hy, rfl⟩ | ⟨x, hx, rfl⟩
    · obtain ⟨h1, h2, h3⟩ := hb.2 y hy
      exact ⟨h1, h2, h3, fun h => by cases h⟩
    · exact ⟨(ha.2 x hx).1, by simp, by simp, fun _ => rfl⟩⟩
theorem GoodE.ok {xs : List Edt} (h : GoodE xs) (hl : xs.length ≤ 6) : editsOK xs = true := by
  refine editsOK_of hl fun i hi => ?_
  have he := h.2 _ (List.getElem_mem hi)
  have hs : Srt (kv xs) := by unfold Srt kv; rw [List.pairwise_map]; exact h.1
  refine ⟨ordM_at (ordM_of_srt hs fun e hm => ?_) (by rw [kv_length]; exact hi), ?_⟩
  · unfold kv at hm
    obtain ⟨x, hx, rfl⟩ := List.mem_map.1 hm
    exact (keys8_ok (h.2 x hx).1).1
  · rw [edtAt_eq xs i hi, valB, decide_eq_true (by omega), decide_eq_true (by omega)]
    cases hg : xs[i].gone with
    | false => rfl
    | true => rw [decide_eq_true (he.2.2.2 hg)]; rfl
theorem r_tupVV {s : St} {Θ : Tab} {t1 t2 : Nat} {y1 y2 : AV} (h1 : retA s [] (s.sl t1) y1) (h2 : retA s [] (s.sl t2) y2) : RetQ Θ [.tmp t1, .tmp t2] ⟨.tup [y1, y2], []⟩ .ret s :=
  ⟨trivial, [], by simp, trivial, ⟨trivial, trivial, trivial⟩, ⟨_, rfl⟩, ⟨h1, h2, trivial⟩⟩
attribute [local irreducible] ACode AOps AOps2 RetG RetM Pre ACG
theorem ac_sameEdits_t {xs : List Edt} (hm : xs.length ≤ 1048576) : AC Try.prog 64 [.lst 3 (xs.map edtA), .lst 3 (xs.map edtA)] ⟨.v (.bool true), []⟩ := by
  refine r_of Th_ok (by kernel_rfl) Try.func64 rfl Try.ntmps64 Try.results64 (by kernel_rfl) rfl ?_; conv => whnf
  repeat (((first | refine qb rfl rfl ?_ | refine qi (by assumption) rfl rfl ?_ | refine ql rfl ?_ | refine qo rfl rfl ?_ | refine qs rfl rfl ?_ | refine qn rfl rfl ?_); conv => whnf))
  refine r_loop (ι := { k : Nat // k ≤ xs.length }) (fun k => ⟨[(0, .lst 3 (xs.map edtA)), (1, .lst 3 (xs.map edtA)), (5, .v (.int .i64 (k.1 : Int)))], []⟩) (fun k => xs.length - k.1) ⟨0, Nat.zero_le _⟩ (by refine ⟨?_, ?_⟩ <;> (repeat (first | trivial | exact ⟨rfl, trivial⟩ | refine ⟨rfl, ?_⟩ | refine ⟨.inl ⟨rfl, rfl⟩, ?_⟩ | refine ⟨.inr ⟨_, _, rfl, rfl, rfl, rfl, rfl⟩, ?_⟩))) ?_
  rintro ⟨k, hk⟩
  dsimp only
  conv => whnf
  by_cases hlt : k < xs.length
  · repeat (((first | refine qb rfl rfl ?_ | refine qi (by assumption) rfl rfl ?_ | refine ql rfl ?_ | refine qo rfl rfl ?_ | refine qs rfl rfl ?_ | refine qn rfl rfl ?_); conv => whnf))
    refine .inl ⟨by kernel_rfl, ?_⟩
    conv => whnf
    repeat (first | ((first | refine qb rfl rfl ?_ | refine qi (by assumption) rfl rfl ?_ | refine ql rfl ?_ | refine qo rfl rfl ?_ | refine qs rfl rfl ?_ | refine qn rfl rfl ?_); conv => whnf) | (refine r_put (p_binA (b_edtne (a := xs[k]) (b := xs[k]) (r := false) (by simp)) rfl rfl rfl) rfl rfl ?_; conv => whnf))
    exact ⟨⟨k + 1, hlt⟩, by refine ⟨?_, ?_⟩ <;> (repeat (first | trivial | exact ⟨rfl, trivial⟩ | refine ⟨rfl, ?_⟩ | refine ⟨.inl ⟨rfl, rfl⟩, ?_⟩ | refine ⟨.inr ⟨_, _, rfl, rfl, rfl, rfl, rfl⟩, ?_⟩)), by simp; omega⟩
  · repeat (((first | refine qb rfl rfl ?_ | refine qi (by assumption) rfl rfl ?_ | refine ql rfl ?_ | refine qo rfl rfl ?_ | refine qs rfl rfl ?_ | refine qn rfl rfl ?_); conv => whnf))
    exact r_ret1 rfl trivial
theorem ac_sameTexts_t {xs : List ByteArray} (hm : xs.length ≤ 1048576) : AC Try.prog 65 [.lst 1 (xs.map strA), .lst 1 (xs.map strA)] ⟨.v (.bool true), []⟩ := by
  refine r_of Th_ok (by kernel_rfl) Try.func65 rfl Try.ntmps65 Try.results65 (by kernel_rfl) rfl ?_; conv => whnf
  repeat (((first | refine qb rfl rfl ?_ | refine qi (by assumption) rfl rfl ?_ | refine ql rfl ?_ | refine qo rfl rfl ?_ | refine qs rfl rfl ?_ | refine qn rfl rfl ?_); conv => whnf))
  refine r_loop (ι := { k : Nat // k ≤ xs.length }) (fun k => ⟨[(0, .lst 1 (xs.map strA)), (1, .lst 1 (xs.map strA)), (5, .v (.int .i64 (k.1 : Int)))], []⟩) (fun k => xs.length - k.1) ⟨0, Nat.zero_le _⟩ (by refine ⟨?_, ?_⟩ <;> (repeat (first | trivial | exact ⟨rfl, trivial⟩ | refine ⟨rfl, ?_⟩ | refine ⟨.inl ⟨rfl, rfl⟩, ?_⟩ | refine ⟨.inr ⟨_, _, rfl, rfl, rfl, rfl, rfl⟩, ?_⟩))) ?_
  rintro ⟨k, hk⟩
  dsimp only
  conv => whnf
  by_cases hlt : k < xs.length
  · repeat (((first | refine qb rfl rfl ?_ | refine qi (by assumption) rfl rfl ?_ | refine ql rfl ?_ | refine qo rfl rfl ?_ | refine qs rfl rfl ?_ | refine qn rfl rfl ?_); conv => whnf))
    refine .inl ⟨by kernel_rfl, ?_⟩
    conv => whnf
    repeat (first | (refine r_put (p_bin (b_sne_f rfl) rfl rfl rfl) rfl rfl ?_; conv => whnf) | ((first | refine qb rfl rfl ?_ | refine qi (by assumption) rfl rfl ?_ | refine ql rfl ?_ | refine qo rfl rfl ?_ | refine qs rfl rfl ?_ | refine qn rfl rfl ?_); conv => whnf))
    exact ⟨⟨k + 1, hlt⟩, by refine ⟨?_, ?_⟩ <;> (repeat (first | trivial | exact ⟨rfl, trivial⟩ | refine ⟨rfl, ?_⟩ | refine ⟨.inl ⟨rfl, rfl⟩, ?_⟩ | refine ⟨.inr ⟨_, _, rfl, rfl, rfl, rfl, rfl⟩, ?_⟩)), by simp; omega⟩
  · repeat (((first | refine qb rfl rfl ?_ | refine qi (by assumption) rfl rfl ?_ | refine ql rfl ?_ | refine qo rfl rfl ?_ | refine qs rfl rfl ?_ | refine qn rfl rfl ?_); conv => whnf))
    exact r_ret1 rfl trivial
/-- a key's value, or nothing -/
def valR (o : Option Int) : Int × Bool := match o with | some v => (v, true) | none => (0, false)
theorem ac_value {m : List Ent} {k : ByteArray} {o : Option Int} (ho : lk m k = o) (hm : m.length ≤ 1048576) : AC Try.prog 71 [.lst 2 (m.map entA), .v (.string k)] ⟨.tup [.v (.int .i64 (valR o).1), .v (.bool (valR o).2)], []⟩ := by
  refine r_of Th_ok (by kernel_rfl) Try.func71 rfl Try.ntmps71 Try.results71 (by kernel_rfl) rfl ?_; conv => whnf
  refine r_loop (ι := { i : Nat // i ≤ m.length ∧ lk (m.drop i) k = o }) (fun i => ⟨[(0, .lst 2 (m.map entA)), (1, .v (.string k)), (6, .v (.int .i64 (i.1 : Int)))], []⟩) (fun i => m.length - i.1) ⟨0, Nat.zero_le _, ho⟩ (by refine ⟨?_, ?_⟩ <;> (repeat (first | trivial | exact ⟨rfl, trivial⟩ | refine ⟨rfl, ?_⟩ | refine ⟨.inl ⟨rfl, rfl⟩, ?_⟩ | refine ⟨.inr ⟨_, _, rfl, rfl, rfl, rfl, rfl⟩, ?_⟩))) ?_
  rintro ⟨i, hi, hf⟩
  dsimp only at hi hf ⊢
  conv => whnf
  by_cases hlt : i < m.length
  · rw [List.drop_eq_getElem_cons hlt, lk_cons] at hf
    by_cases hk : m[i].1 = k
    · rw [if_pos hk] at hf
      subst hf
      repeat (first | (refine r_put (p_bin (b_seq_t hk) rfl rfl rfl) rfl rfl ?_; conv => whnf) | ((first | refine qb rfl rfl ?_ | refine qi (by assumption) rfl rfl ?_ | refine ql rfl ?_ | refine qo rfl rfl ?_ | refine qs rfl rfl ?_ | refine qn rfl rfl ?_); conv => whnf))
      exact r_tupVV (ra_x rfl trivial) (ra_x rfl trivial)
    · rw [if_neg hk] at hf
      repeat (first | (refine r_put (p_bin (b_seq_f hk) rfl rfl rfl) rfl rfl ?_; conv => whnf) | ((first | refine qb rfl rfl ?_ | refine qi (by assumption) rfl rfl ?_ | refine ql rfl ?_ | refine qo rfl rfl ?_ | refine qs rfl rfl ?_ | refine qn rfl rfl ?_); conv => whnf))
      exact ⟨⟨i + 1, hlt, hf⟩, by refine ⟨?_, ?_⟩ <;> (repeat (first | trivial | exact ⟨rfl, trivial⟩ | refine ⟨rfl, ?_⟩ | refine ⟨.inl ⟨rfl, rfl⟩, ?_⟩ | refine ⟨.inr ⟨_, _, rfl, rfl, rfl, rfl, rfl⟩, ?_⟩)), by simp; omega⟩
  · rw [List.drop_eq_nil_of_le (by omega)] at hf
    have hf' : o = none := hf.symm
    subst hf'
    repeat (((first | refine qb rfl rfl ?_ | refine qi (by assumption) rfl rfl ?_ | refine ql rfl ?_ | refine qo rfl rfl ?_ | refine qs rfl rfl ?_ | refine qn rfl rfl ?_); conv => whnf))
    exact r_tupVV (ra_x rfl trivial) (ra_x rfl trivial)
theorem b_beq' {P : Program} {t : TypeId} {x y : Operand} {a b r : Bool} (h : P.underlying t = some .bool) (hr : (a == b) = r) : BinOK P .eql t x y (.bool a) (.bool b) (.bool r) := hr ▸ b_beq h
end Go.Proofs.Ytjhimcddgkoghaa.AM
