/- Texts of the machine over data, folded. -/
import Derived.Test.YtjhimcddgkoghaaKb5
import Derived.Test.YtjhimcddgkoghaaKb9
import Derived.Test.YtjhimcddgkoghaaKb10
import Derived.Test.YtjhimcddgkoghaaKb8
import Derived.Test.YtjhimcddgkoghaaKb6
import Derived.WalkSpells
import Derived.Test.YtjhimcddgkoghaaKb7
import Derived.Laws.LoneSync
import Derived.Laws.ResultCell
import Derived.Laws.StructEq
import Derived.Laws.Rows
import Derived.StillTailTactics
namespace Go.Proofs.Ytjhimcddgkoghaa.AM
open Go Go.RowKit
set_option linter.unusedVariables false
set_option linter.unusedSimpArgs false
set_option maxRecDepth 100000
def goneS (c : List UInt8) (s : Src) (e : Ent) : Edt := if (nextS c s 3).1 = 2 then ⟨e.1, 0, true⟩ else ⟨e.1, e.2, false⟩
def edL (c : List UInt8) : List Ent → Src → List Edt → List Edt × Src
  | [], s, out => (out, s)
  | e :: m, s, out => edL c m (nextS c s 3).2 (out ++ [goneS c s e])
theorem edL_ok {c : List UInt8} : ∀ (m : List Ent) (s : Src) (out : List Edt) (K : Nat), s.ok K → (∀ e ∈ m, e.1 ∈ keys8 ∧ 0 ≤ e.2 ∧ e.2 < 9) →
    (edL c m s out).2.ok (K + m.length) ∧ ∃ xs, (edL c m s out).1 = out ++ xs ∧ xs.map (·.key) = m.map (·.1) ∧ ∀ e ∈ xs, e.key ∈ keys8 ∧ 0 ≤ e.val ∧ e.val < 9 ∧ (e.gone = true → e.val = 0)
  | [], s, out, K, h, _ => ⟨h, [], by simp [edL], rfl, by simp⟩
  | e :: m, s, out, K, h, hm => by
    obtain ⟨h1, _⟩ := nextS_ok (c := c) (n := 3) h (by omega)
    obtain ⟨a1, xs, a2, a3, a4⟩ := edL_ok (c := c) m (nextS c s 3).2 (out ++ [goneS c s e]) (K + 1) h1 (fun x hx => hm x (by simp [hx]))
    obtain ⟨m1, m2, m3⟩ := hm e (by simp)
    refine ⟨a1.le (by simp; omega), goneS c s e :: xs, by rw [edL, a2]; simp, ?_, fun x hx => ?_⟩
    · have : (goneS c s e).key = e.1 := by unfold goneS; split <;> rfl
      simp [this, a3]
    · rcases List.mem_cons.1 hx with rfl | hx
      · unfold goneS
        split
        · exact ⟨m1, by simp, by simp, fun _ => rfl⟩
        · exact ⟨m1, m2, m3, fun h => by cases h⟩
      · exact a4 x hx
def edS (c : List UInt8) (s : Src) : List Edt × Src := edL c (entL c (nextS c s 4).1 (nextS c s 4).2 []).1 (entL c (nextS c s 4).1 (nextS c s 4).2 []).2 []
theorem edS_ok {c : List UInt8} {s : Src} {K : Nat} (h : s.ok K) : (edS c s).2.ok (K + 10) ∧ GoodE (edS c s).1 ∧ (edS c s).1.length ≤ 3 := by
  obtain ⟨h1, h2⟩ := nextS_ok (c := c) (n := 4) h (by omega)
  obtain ⟨a1, a2, a3⟩ := entL_ok (c := c) (nextS c s 4).1 _ [] _ h1 Good.nil
  obtain ⟨b1, xs, b2, b3, b4⟩ := edL_ok (c := c) _ _ [] _ a1 a2.2
  simp only [List.length_nil] at a3
  have hx : (edS c s).1 = xs := by unfold edS; rw [b2]; rfl
  have hlen : xs.length = (entL c (nextS c s 4).1 (nextS c s 4).2 []).1.length := by have := congrArg List.length b3; simpa using this
  refine ⟨b1.le (by omega), ?_, by rw [hx]; omega⟩
  rw [hx]
  refine ⟨?_, b4⟩
  have h5 : (xs.map (·.key)).Pairwise (fun a b => klt a b = true) := by
    rw [b3, List.pairwise_map]; exact a2.1
  rwa [List.pairwise_map] at h5
theorem r_lst1 {s : St} {t l sz : Nat} {e : ET} {xs : List AV} {Θ : Tab} (h : s.sl t = .own l) (ho : s.hp l = some ⟨e, sz, xs⟩) (hok : okL l = true := by rfl) (hsh : e.shut = true := by rfl) : RetQ Θ [.tmp t] ⟨.lst sz xs, []⟩ .ret s :=
  ⟨trivial, [], by simp, trivial, ⟨trivial, trivial⟩, trivial, ⟨ra_o h ho hok hsh, trivial⟩⟩
theorem r_ptr1 {s : St} {t l : Nat} {ob : OB} {Θ : Tab} (h : s.sl t = .optr l 0 [] 0) (ho : s.hp l = some ob) (hok : okL l = true := by rfl) (hsh : ob.e.shut = true := by rfl) : RetQ Θ [.tmp t] ⟨.optr 0 0 [] 0, [ob]⟩ .ret s :=
  ⟨trivial, [l], by simp, ⟨⟨ho, hok, hsh⟩, trivial⟩, ⟨trivial, trivial⟩, trivial, ⟨.inl ⟨h, rfl⟩, trivial⟩⟩
attribute [local irreducible] ACode AOps AOps2 RetG RetM Pre ACG
theorem ac_edits {c : List UInt8} {s : Src} {K : Nat} (hc : c.length ≤ maxLen) (hs : s.ok K) (hK : K ≤ 900000000) : ACG Try.prog 174 [.optr 0 0 [] 0] [srcO c s] [srcO c (edS c s).2] ⟨.own 0, [edtO (edS c s).1]⟩ := by
  have hb := ac_next (n := 4) hc hs (by omega) (by omega)
  obtain ⟨n1, n2⟩ := nextS_ok (c := c) (n := 4) hs (by omega)
  refine acg_of (rs := [.tmp 2]) Th_ok (by kernel_rfl) Try.func174 rfl Try.ntmps174 (by rw [Try.results174]) (by kernel_rfl) (by simp) rfl rfl (runC_sound _ _ _ ?_); conv => whnf
  repeat (first | ((first | refine qb rfl rfl ?_ | refine qi (by assumption) rfl rfl ?_ | refine ql rfl ?_ | refine qo rfl rfl ?_ | refine qs rfl rfl ?_ | refine qn rfl rfl ?_); conv => whnf) | (refine r_step (p_callg [0] (hb) rfl rfl (by first | exact ⟨rfl, trivial⟩ | exact ⟨rfl, rfl, trivial⟩ | exact ⟨rfl, rfl, rfl, trivial⟩) rfl rfl (by first | exact trivial | exact ⟨⟨rfl, rfl, rfl⟩, trivial⟩ | exact ⟨⟨rfl, rfl, rfl⟩, ⟨rfl, rfl, rfl⟩, trivial⟩ | exact ⟨⟨rfl, rfl, rfl⟩, ⟨rfl, rfl, rfl⟩, ⟨rfl, rfl, rfl⟩, trivial⟩) rfl rfl rfl (.inl rfl) rfl) rfl rfl (fun e => by first | exact .inl rfl | contradiction | exact .inr (.inl (by kernel_rfl))) ?_; conv => whnf))
  unfold edS
  generalize (nextS c s 4).2 = s1 at n1 ⊢
  generalize hn0 : (nextS c s 4).1 = n0 at n2 ⊢
  refine r_loop (ι := { p : Nat × Src × List Ent // p.2.1.ok (K + 1 + 2 * (3 - p.1)) ∧ p.1 ≤ 3 ∧ Good p.2.2 ∧ p.2.2.length + p.1 ≤ 3 ∧ entL c p.1 p.2.1 p.2.2 = entL c n0 s1 [] }) (fun p => ⟨[(0, .optr 0 0 [] 0), (3, .own 8), (4, .v (.int .i64 (p.1.1 : Int)))], [(0, srcO c p.1.2.1), (8, entO p.1.2.2)]⟩) (fun p => p.1.1) ⟨(n0, s1, []), n1.le (by omega), by omega, Good.nil, by simp; omega, rfl⟩ (by refine ⟨?_, ?_⟩ <;> (repeat (first | trivial | exact ⟨rfl, trivial⟩ | refine ⟨rfl, ?_⟩ | refine ⟨.inl ⟨rfl, rfl⟩, ?_⟩ | refine ⟨.inr ⟨_, _, rfl, rfl, rfl, rfl, rfl⟩, ?_⟩))) ?_
  rintro ⟨⟨n, s2, m⟩, h1, h2, h3, h4, h5⟩
  dsimp only at h1 h2 h3 h4 h5 ⊢
  conv => whnf
  cases n with
  | succ n =>
    obtain ⟨k1, k2⟩ := keyS_ok (c := c) h1
    obtain ⟨k3, k4⟩ := nextS_ok (c := c) (n := 9) k1 (by omega)
    have hk := ac_key (c := c) hc h1 (by omega)
    have hx := ac_next (n := 9) hc k1 (by omega) (by omega)
    have hl := putL_length m (keyS c s2).1 (nextS c (keyS c s2).2 9).1
    have hp := ac_l01Put (es := m) (k := (keyS c s2).1) (v := (nextS c (keyS c s2).2 9).1) (by omega)
    repeat (first | ((first | refine qb rfl rfl ?_ | refine qi (by assumption) rfl rfl ?_ | refine ql rfl ?_ | refine qo rfl rfl ?_ | refine qs rfl rfl ?_ | refine qn rfl rfl ?_); conv => whnf) | (refine r_step (p_callg [0] (hk) rfl rfl (by first | exact ⟨rfl, trivial⟩ | exact ⟨rfl, rfl, trivial⟩ | exact ⟨rfl, rfl, rfl, trivial⟩) rfl rfl (by first | exact trivial | exact ⟨⟨rfl, rfl, rfl⟩, trivial⟩ | exact ⟨⟨rfl, rfl, rfl⟩, ⟨rfl, rfl, rfl⟩, trivial⟩ | exact ⟨⟨rfl, rfl, rfl⟩, ⟨rfl, rfl, rfl⟩, ⟨rfl, rfl, rfl⟩, trivial⟩) rfl rfl rfl (.inl rfl) rfl) rfl rfl (fun e => by first | exact .inl rfl | contradiction | exact .inr (.inl (by kernel_rfl))) ?_; conv => whnf) | (refine r_step (p_callg [0] (hx) rfl rfl (by first | exact ⟨rfl, trivial⟩ | exact ⟨rfl, rfl, trivial⟩ | exact ⟨rfl, rfl, rfl, trivial⟩) rfl rfl (by first | exact trivial | exact ⟨⟨rfl, rfl, rfl⟩, trivial⟩ | exact ⟨⟨rfl, rfl, rfl⟩, ⟨rfl, rfl, rfl⟩, trivial⟩ | exact ⟨⟨rfl, rfl, rfl⟩, ⟨rfl, rfl, rfl⟩, ⟨rfl, rfl, rfl⟩, trivial⟩) rfl rfl rfl (.inl rfl) rfl) rfl rfl (fun e => by first | exact .inl rfl | contradiction | exact .inr (.inl (by kernel_rfl))) ?_; conv => whnf))
    refine qC (hp) rfl ?_
    refine r_step (p_asl 8 rfl rfl rfl) rfl rfl (fun e => by first | exact .inl rfl | contradiction | exact .inr (.inl (by kernel_rfl))) ?_; conv => whnf
    repeat (first | (refine r_put (p_bin (b_sub (c := (n : Int)) (by omega) (by omega) (by omega)) rfl rfl rfl) rfl rfl ?_; conv => whnf) | ((first | refine qb rfl rfl ?_ | refine qi (by assumption) rfl rfl ?_ | refine ql rfl ?_ | refine qo rfl rfl ?_ | refine qs rfl rfl ?_ | refine qn rfl rfl ?_); conv => whnf))
    exact ⟨⟨(n, (nextS c (keyS c s2).2 9).2, putL m (keyS c s2).1 (nextS c (keyS c s2).2 9).1), k3.le (by omega), by omega, h3.put k2 (by omega) (by omega), by simp; omega, h5⟩, by refine ⟨?_, ?_⟩ <;> (repeat (first | trivial | exact ⟨rfl, trivial⟩ | refine ⟨rfl, ?_⟩ | refine ⟨.inl ⟨rfl, rfl⟩, ?_⟩ | refine ⟨.inr ⟨_, _, rfl, rfl, rfl, rfl, rfl⟩, ?_⟩)), by simp⟩
  | zero =>
    have he : (m, s2) = entL c n0 s1 [] := h5
    rw [← he]
    repeat (((first | refine qb rfl rfl ?_ | refine qi (by assumption) rfl rfl ?_ | refine ql rfl ?_ | refine qo rfl rfl ?_ | refine qs rfl rfl ?_ | refine qn rfl rfl ?_); conv => whnf))
    refine r_loop (ι := { p : Nat × Src × List Edt // p.2.1.ok (K + 7 + p.1) ∧ p.1 ≤ m.length ∧ p.2.2.length = p.1 ∧ edL c (m.drop p.1) p.2.1 p.2.2 = edL c m s2 [] }) (fun p => ⟨[(0, .optr 0 0 [] 0), (3, .own 8), (5, .own 21), (6, .v (.int .i64 (p.1.1 : Int)))], [(0, srcO c p.1.2.1), (8, entO m), (21, edtO p.1.2.2)]⟩) (fun p => m.length - p.1.1) ⟨(0, s2, []), h1.le (by omega), by omega, rfl, rfl⟩ (by refine ⟨?_, ?_⟩ <;> (repeat (first | trivial | exact ⟨rfl, trivial⟩ | refine ⟨rfl, ?_⟩ | refine ⟨.inl ⟨rfl, rfl⟩, ?_⟩ | refine ⟨.inr ⟨_, _, rfl, rfl, rfl, rfl, rfl⟩, ?_⟩))) ?_
    rintro ⟨⟨k, s3, out⟩, g1, g2, g3, g4⟩
    dsimp only at g1 g2 g3 g4 ⊢
    conv => whnf
    by_cases hlt : k < m.length
    case neg =>
      have hkk : k = m.length := by omega
      rw [hkk, List.drop_length] at g4
      rw [← g4]
      repeat (((first | refine qb rfl rfl ?_ | refine qi (by assumption) rfl rfl ?_ | refine ql rfl ?_ | refine qo rfl rfl ?_ | refine qs rfl rfl ?_ | refine qn rfl rfl ?_); conv => whnf))
      exact r_own1s rfl rfl rfl
    rw [List.drop_eq_getElem_cons hlt, edL] at g4
    have hch := ac_chance (n := 3) hc g1 (by omega) (by omega) (by omega)
    obtain ⟨c1, c2⟩ := nextS_ok (c := c) (n := 3) g1 (by omega)
    have hi : (m.map entA)[k]? = some (entA m[k]) := by simp [hlt]
    repeat (first | ((first | refine qb rfl rfl ?_ | refine qi (by assumption) rfl rfl ?_ | refine ql rfl ?_ | refine qo rfl rfl ?_ | refine qs rfl rfl ?_ | refine qn rfl rfl ?_); conv => whnf) | (refine r_step (p_callg [0] (hch) rfl rfl (by first | exact ⟨rfl, trivial⟩ | exact ⟨rfl, rfl, trivial⟩ | exact ⟨rfl, rfl, rfl, trivial⟩) rfl rfl (by first | exact trivial | exact ⟨⟨rfl, rfl, rfl⟩, trivial⟩ | exact ⟨⟨rfl, rfl, rfl⟩, ⟨rfl, rfl, rfl⟩, trivial⟩ | exact ⟨⟨rfl, rfl, rfl⟩, ⟨rfl, rfl, rfl⟩, ⟨rfl, rfl, rfl⟩, trivial⟩) rfl rfl rfl (.inl rfl) rfl) rfl rfl (fun e => by first | exact .inl rfl | contradiction | exact .inr (.inl (by kernel_rfl))) ?_; conv => whnf))
    by_cases h2 : (nextS c s3 3).1 = 3 - 1
    · rw [decide_eq_true h2]
      have hg : goneS c s3 m[k] = ⟨m[k].1, 0, true⟩ := by unfold goneS; rw [if_pos (by omega)]
      rw [hg] at g4
      conv => whnf
      repeat (((first | refine qb rfl rfl ?_ | refine qi (by assumption) rfl rfl ?_ | refine ql rfl ?_ | refine qo rfl rfl ?_ | refine qs rfl rfl ?_ | refine qn rfl rfl ?_); conv => whnf))
      refine o_put (p_oidx (by simpa using hlt) rfl rfl rfl rfl rfl) rfl rfl ?_
      refine o_put (p_ofld rfl rfl rfl) rfl rfl ?_
      refine r_put (p_old rfl rfl hi rfl rfl rfl rfl) rfl rfl ?_
      conv => whnf
      refine r_step (p_app1r (f := edtA) (xs := out) ⟨m[k].1, 0, true⟩ (out ++ [⟨m[k].1, 0, true⟩]) rfl (by omega) rfl rfl rfl rfl rfl rfl rfl) rfl rfl (fun e => by first | exact .inl rfl | contradiction | exact .inr (.inl (by kernel_rfl))) ?_
      conv => whnf
      repeat (((first | refine qb rfl rfl ?_ | refine qi (by assumption) rfl rfl ?_ | refine ql rfl ?_ | refine qo rfl rfl ?_ | refine qs rfl rfl ?_ | refine qn rfl rfl ?_); conv => whnf))
      exact ⟨⟨(k + 1, (nextS c s3 3).2, out ++ [⟨m[k].1, 0, true⟩]), c1.le (by omega), by omega, by simp; omega, g4⟩, by refine ⟨?_, ?_⟩ <;> (repeat (first | trivial | exact ⟨rfl, trivial⟩ | refine ⟨rfl, ?_⟩ | refine ⟨.inl ⟨rfl, rfl⟩, ?_⟩ | refine ⟨.inr ⟨_, _, rfl, rfl, rfl, rfl, rfl⟩, ?_⟩)), by simp; omega⟩
    · rw [decide_eq_false h2]
      have hg : goneS c s3 m[k] = ⟨m[k].1, m[k].2, false⟩ := by unfold goneS; rw [if_neg (by omega)]
      rw [hg] at g4
      conv => whnf
      refine .inr ⟨by kernel_rfl, prodB_ok (by kernel_rfl), ?_⟩
      refine o2_calm (p_mv rfl) rfl rfl rfl (.inl rfl) (by kernel_rfl) ?_
      refine o2_calm (p_mv rfl) rfl rfl rfl (.inl rfl) (by kernel_rfl) ?_
      refine o2_calm (p_mv rfl) rfl rfl rfl (.inl rfl) (by kernel_rfl) ?_
      refine o2_sft (sft_rd (p_oidx (by simpa using hlt) rfl rfl rfl rfl rfl) rfl rfl) in_o0 rfl rfl (by kernel_rfl) ?_
      refine o2_calm (p_ofld rfl rfl rfl) rfl rfl rfl (.inl rfl) (by kernel_rfl) ?_
      refine o2_calm (p_old rfl rfl hi rfl rfl rfl rfl) rfl rfl rfl (.inr rfl) (by kernel_rfl) ?_
      refine o2_calm (p_mv rfl) rfl rfl rfl (.inl rfl) (by kernel_rfl) ?_
      refine o2_calm (p_mv rfl) rfl rfl rfl (.inl rfl) (by kernel_rfl) ?_
      refine o2_sft (sft_rd (p_oidx (by simpa using hlt) rfl rfl rfl rfl rfl) rfl rfl) in_o0 rfl rfl (by kernel_rfl) ?_
      refine o2_calm (p_ofld rfl rfl rfl) rfl rfl rfl (.inl rfl) (by kernel_rfl) ?_
      refine o2_calm (p_old rfl rfl hi rfl rfl rfl rfl) rfl rfl rfl (.inr rfl) (by kernel_rfl) ?_
      refine o2_sft (sft_bld rfl ⟨⟨_, rfl, rfl⟩, rfl, ⟨_, rfl, rfl⟩, rfl, trivial⟩ rfl rfl rfl) in_o0 rfl rfl (by kernel_rfl) ?_
      refine o2_sft (sft_bsd1 rfl rfl rfl rfl rfl) in_o1 rfl rfl (by kernel_rfl) ?_
      refine o2_tied (p_app1r (f := edtA) (xs := out) ⟨m[k].1, m[k].2, false⟩ (out ++ [⟨m[k].1, m[k].2, false⟩]) rfl (by omega) rfl rfl rfl rfl rfl rfl rfl) rfl rfl (by kernel_rfl) ?_
      refine o2_tied (p_as rfl) rfl rfl (by kernel_rfl) ?_
      refine o2_nil ?_
      conv => whnf
      repeat (((first | refine qb rfl rfl ?_ | refine qi (by assumption) rfl rfl ?_ | refine ql rfl ?_ | refine qo rfl rfl ?_ | refine qs rfl rfl ?_ | refine qn rfl rfl ?_); conv => whnf))
      exact ⟨⟨(k + 1, (nextS c s3 3).2, out ++ [⟨m[k].1, m[k].2, false⟩]), c1.le (by omega), by omega, by simp; omega, g4⟩, by refine ⟨?_, ?_⟩ <;> (repeat (first | trivial | exact ⟨rfl, trivial⟩ | refine ⟨rfl, ?_⟩ | refine ⟨.inl ⟨rfl, rfl⟩, ?_⟩ | refine ⟨.inr ⟨_, _, rfl, rfl, rfl, rfl, rfl⟩, ?_⟩)), by simp; omega⟩
def src0 (c : List UInt8) : Src := ⟨0, ((c.length % 1000 : Nat) : Int)⟩
theorem src0_ok (c : List UInt8) : (src0 c).ok 0 := ⟨Nat.le_refl _, by unfold src0; simp only; omega, by unfold src0; simp only; omega⟩
theorem ac_source {c : List UInt8} (hc : c.length ≤ maxLen) : AC Try.prog 166 [.lst 1 (c.map bytA)] ⟨.optr 0 0 [] 0, [srcO c (src0 c)]⟩ := by
  unfold maxLen at hc
  have hm : ((c.length : Nat) : Int) % 1000 = ((c.length % 1000 : Nat) : Int) := by omega
  refine r_of Th_ok (by kernel_rfl) Try.func166 rfl Try.ntmps166 Try.results166 (by kernel_rfl) rfl ?_; conv => whnf
  repeat (first | (refine r_put (p_bin (b_rem2 (by omega) (by omega) hm) rfl rfl rfl) rfl rfl ?_; conv => whnf) | ((first | refine qb rfl rfl ?_ | refine qi (by assumption) rfl rfl ?_ | refine ql rfl ?_ | refine qo rfl rfl ?_ | refine qs rfl rfl ?_ | refine qn rfl rfl ?_); conv => whnf))
  exact r_ptr1 rfl rfl
theorem ac_SameMap_t {m : List Ent} (h : mapOK m = true) (hk : ∀ e ∈ m, e.1.size ≤ maxLen) : AC Try.prog 67 [.lst 2 (m.map entA), .lst 2 (m.map entA)] ⟨.v (.bool true), []⟩ := by
  have hl := mapOK_le h
  have hm : m.length ≤ maxLen := by unfold maxLen; omega
  have h1 := ac_implMapOK' h hm hk
  have h2 := ac_eqlEnts hm hm
  rw [decide_eq_true rfl] at h2
  refine r_of Th_ok (by kernel_rfl) Try.func67 rfl Try.ntmps67 Try.results67 (by kernel_rfl) rfl ?_; conv => whnf
  repeat (first | ((first | refine qb rfl rfl ?_ | refine qi (by assumption) rfl rfl ?_ | refine ql rfl ?_ | refine qo rfl rfl ?_ | refine qs rfl rfl ?_ | refine qn rfl rfl ?_); conv => whnf) | (refine qc (h1) rfl ?_; conv => whnf) | (refine qc (h2) rfl ?_; conv => whnf))
  exact r_ret1 rfl trivial
end Go.Proofs.Ytjhimcddgkoghaa.AM
namespace Go.Proofs.Ytjhimcddgkoghaa.AM
open Go Go.RowKit
set_option linter.unusedVariables false
set_option linter.unusedSimpArgs false
set_option maxRecDepth 100000

abbrev okN (s : ByteArray) : Bool := Nm.nameOK s.data.toList
def refB (r : Rf) : Bool := okN r.name && (decide (1 ≤ r.ver ∧ r.ver ≤ 1000000) && (if r.gone = true then decide (r.head = 0) else decide (1 ≤ r.head ∧ r.head ≤ 60)))
def rAt : List Rf → ByteArray → Nat → Int
  | [], _, _ => -1
  | y :: l, x, k => if y.name = x then k else rAt l x (k + 1)
def refG (l : List Rf) (i : Nat) : Prop := ∃ h : i < l.length, refB l[i] = true ∧ rAt (l.take i) l[i].name 0 < 0
open Classical in
noncomputable def refsB (l : List Rf) : Bool := decide (l.length ≤ 8 ∧ ∀ i, i < l.length → refG l i)
theorem refsB_t {l : List Rf} (h : l.length ≤ 8 ∧ ∀ i, i < l.length → refG l i) : refsB l = true := by unfold refsB; simpa using h
theorem refsB_of {l : List Rf} (h : refsB l = true) : l.length ≤ 8 ∧ ∀ i, i < l.length → refG l i := by unfold refsB at h; simpa using h
attribute [local irreducible] ACode AOps AOps2 RetG RetM Pre ACG
end Go.Proofs.Ytjhimcddgkoghaa.AM
namespace Go.Proofs.Ytjhimcddgkoghaa.AM
open Go Go.RowKit
set_option linter.unusedVariables false
set_option linter.unusedSimpArgs false
set_option maxRecDepth 100000
attribute [local irreducible] ACode AOps AOps2 RetG RetM Pre ACG
end Go.Proofs.Ytjhimcddgkoghaa.AM
namespace Go.Proofs.Ytjhimcddgkoghaa.AM
open Go Go.RowKit
set_option linter.unusedVariables false
set_option linter.unusedSimpArgs false
set_option maxRecDepth 100000
attribute [local irreducible] ACode AOps AOps2 RetG RetM Pre ACG
end Go.Proofs.Ytjhimcddgkoghaa.AM
/- The law of RefsOK; LoadRef on both sides and its law. -/
namespace Go.Proofs.Ytjhimcddgkoghaa.AM
open Go Go.RowKit
set_option linter.unusedVariables false
set_option linter.unusedSimpArgs false
set_option maxRecDepth 100000
attribute [local irreducible] ACode AOps AOps2 RetG RetM Pre ACG
end Go.Proofs.Ytjhimcddgkoghaa.AM
/- LoadRef and LiveRefs on both sides, and their laws. -/
namespace Go.Proofs.Ytjhimcddgkoghaa.AM
open Go Go.RowKit
set_option linter.unusedVariables false
set_option linter.unusedSimpArgs false
set_option maxRecDepth 100000
attribute [local irreducible] ACode AOps AOps2 RetG RetM Pre ACG
end Go.Proofs.Ytjhimcddgkoghaa.AM
/- References marked and held; LiveRefs on both sides, and its law. -/
namespace Go.Proofs.Ytjhimcddgkoghaa.AM
open Go Go.RowKit
set_option linter.unusedVariables false
set_option linter.unusedSimpArgs false
set_option maxRecDepth 100000
attribute [local irreducible] ACode AOps AOps2 RetG RetM Pre ACG
end Go.Proofs.Ytjhimcddgkoghaa.AM
namespace Go.Proofs.Ytjhimcddgkoghaa.AM
open Go Go.RowKit
set_option linter.unusedVariables false
set_option linter.unusedSimpArgs false
set_option maxRecDepth 100000
attribute [local irreducible] ACode AOps AOps2 RetG RetM Pre ACG
end Go.Proofs.Ytjhimcddgkoghaa.AM
namespace Go.Proofs.Ytjhimcddgkoghaa
open Go.RowKit

theorem run_append_of_nil {P : Program} (w : World) (base : Nat) (t ty e : TypeId) (i : TypeInfo) (size : Nat) (ht : P.underlying t = some (.slice e)) (hi : P.info? e = some i)
    (v : Value) (n : Nat) (xs : List Value) (hown : w.ownsRow base e size v n xs) (c : Nat) : (Builtin.append_ #[t, t] ty #[v, .slice none 0 c]).run P w = .ok v w := by
  rcases hown.2 with ⟨rfl, rfl⟩ | ⟨g, cap, cur, rfl, _, _, hnc, _⟩
  · simp [Builtin.append_, run_underlying ht, sizeOf, typeInfo, hi, Builtin.lenOf, Builtin.firstCells]
  · simp [Builtin.append_, run_underlying ht, sizeOf, typeInfo, hi, Builtin.lenOf, Builtin.firstCells, hnc, storeCells]

theorem run_append_rd {P : Program} (w : World) (base : Nat) (t ty e : TypeId) (i : TypeInfo) (z : Value) (size bytes : Nat) (ht : P.underlying t = some (.slice e)) (hi : P.info? e = some i) (hz : i.zero = some z)
    (hsize : i.size = size) (hby : i.bytes = bytes) (hzs : z.cells.size = size) (hsz : 0 < size)
    (v : Value) (n : Nat) (xs : List Value) (hown : w.ownsRow base e size v n xs)
    (A : Option Addr) (m c : Nat) (news : List Value) (hr : Rd w size A m news) (h1 : ∀ u ∈ news, u.oneCell' = true)
    (hsmall : (n + m) * bytes ≤ 140737488355328) (hb1 : 1 ≤ bytes) (hbase : base ≤ w.heap.size) :
    ∃ v' w', (Builtin.append_ #[t, t] ty #[v, .slice A m c]).run P w = .ok v' w' ∧ w'.ownsRow base e size v' (n + m) (xs ++ news) ∧ w.grownBy w' v.ownBlock := by
  have h63 : n + m ≤ maxLen := by
    have : (n + m) * 1 ≤ (n + m) * bytes := Nat.mul_le_mul_left _ hb1
    unfold maxLen; omega
  rcases Nat.eq_zero_or_pos m with h0 | h0
  · subst h0
    have hn : news = [] := List.eq_nil_of_length_eq_zero (by simpa using hr.1)
    subst hn
    cases A with
    | none => exact ⟨v, w, run_append_of_nil w base t ty e i size ht hi v n xs hown c, by simpa using hown, World.grownBy.mk rfl rfl rfl (Nat.le_refl _) (fun _ _ _ => rfl)⟩
    | some ad =>
      obtain ⟨v', w', hrun, h2, h3, _⟩ := run_append_own (P := P) w base t ty e i z size bytes ht hi hz hsize hby hzs hsz v n xs hown ad 0 c [] (by simp) (by simp) (by simp) h63 hsmall hbase
      exact ⟨v', w', hrun, h2, h3⟩
  · obtain ⟨b, off, rfl, _, hc⟩ := hr.2 h0
    obtain ⟨v', w', hrun, h2, h3, _⟩ := run_append_own (P := P) w base t ty e i z size bytes ht hi hz hsize hby hzs hsz v n xs hown ⟨b, off, none⟩ m c news hr.1 (fun j u hu => by
      have hadd : (⟨b, off, none⟩ : Addr).add j = ⟨b, off + j, none⟩ := by unfold Addr.add; split <;> simp_all
      rw [hadd]; exact hc j u hu) h1 h63 hsmall hbase
    exact ⟨v', w', hrun, h2, h3⟩

theorem wpList_append_rd {P : Program} (w : World) {ops : Array Oper} {rest : List Oper} {o : Oper} {a : Act} {Q : Exit → Act → World → Prop} (hgd : o.guard = none) (s x : Operand) (t : TypeId)
    (ho : o.op = .call { callee := .builtin .append, args := #[s, x], argTypes := #[t, t] })
    (base : Nat) (e : TypeId) (i : TypeInfo) (z : Value) (size bytes : Nat) (ht : P.underlying t = some (.slice e)) (hi : P.info? e = some i) (hz : i.zero = some z)
    (hsize : i.size = size) (hby : i.bytes = bytes) (hzs : z.cells.size = size) (hsz : 0 < size)
    (v : Value) (n : Nat) (xs : List Value) (hs : a.eval s = v) (hown : w.ownsRow base e size v n xs)
    (A : Option Addr) (m c : Nat) (news : List Value) (hx : a.eval x = .slice A m c) (hr : Rd w size A m news) (h1 : ∀ u ∈ news, u.oneCell' = true)
    (hsmall : (n + m) * bytes ≤ 140737488355328) (hb1 : 1 ≤ bytes) (hbase : base ≤ w.heap.size)
    (h : ∀ v' w', w'.ownsRow base e size v' (n + m) (xs ++ news) → w.grownBy w' v.ownBlock → wpList P ops Q rest (a.put o.dst v') w') : wpList P ops Q (o :: rest) a w := by
  obtain ⟨v', w', hrun, h2, h3⟩ := run_append_rd (P := P) w base t o.type e i z size bytes ht hi hz hsize hby hzs hsz v n xs hown A m c news hr h1 hsmall hb1 hbase
  refine wpList_plain hgd fun K hK => ?_
  unfold Oper.wp execOp
  simp only [ho, resolve, invoke, builtin, Sem.run_bind, Sem.run_pure, Result.andThen_ok, List.map_toArray, List.map_cons, List.map_nil, hs, hx, hrun]
  exact hK _ _ (h v' w' h2 h3)

end Go.Proofs.Ytjhimcddgkoghaa
namespace Go.Proofs.Ytjhimcddgkoghaa
open Go Go.RowKit
set_option linter.unusedVariables false
set_option linter.unusedSimpArgs false
/-- what a clone of a list leaves: a row of its own that reads as the list -/
def OwnPostC (e : TypeId) (sz n : Nat) (cs : List Value) (w : World) (e' : Ending) (w' : World) : Prop := ∃ v, e' = .returned v ∧ w'.ownsRow w.heap.size e sz v n cs ∧ Below w.heap.size w w'
set_option maxHeartbeats 1000000 in
set_option maxRecDepth 100000 in
theorem cloneEnt_any (A : Option Addr) (n c : Nat) (cs : List Value) (w : World) (hr : Rd w 2 A n cs) (h1 : ∀ u ∈ cs, u.oneCell' = true) (hm : n * 24 ≤ 140737488355328) :
    Calls Try.prog 250 #[.slice A n c] w (OwnPostC 167 2 n cs w) := by
  obtain ⟨i0, hi, hz0, hz1, hz2⟩ := info_parts (show (Try.prog.info? 167).map (fun i => (i.zero, i.size, i.bytes)) = some (some (.agg #[.string ByteArray.empty, .int .i64 0]), 2, 24) from by kernel_rfl)
  have Hi := Lib.hid hi; clear hi
  have Hz0 := Lib.hid hz0; clear hz0
  have Hz1 := Lib.hid hz1; clear hz1
  have Hz2 := Lib.hid hz2; clear hz2
  cases A with
  | none =>
    have hn : n = 0 := by
      rcases Nat.eq_zero_or_pos n with h | h
      · exact h
      · obtain ⟨b, off, e, _⟩ := hr.2 h; cases e
    subst hn
    have hcs : cs = [] := List.eq_nil_of_length_eq_zero (by have := hr.1; omega)
    subst hcs
    go_enter Try.func250, Try.ntmps250
    go_wp2_with (rw [Lib.run_eql_slice_nil _ 36 167 _ _ _ _ _ Try.underlying36, Result.andThen_ok])
    go_ret
    exact ⟨_, rfl, World.ownsRow_nil _ _ _ _, Below.refl _ _⟩
  | some ad =>
    have hst := Lib.hid (World.ownsRow_made (base := w.heap.size) (e := 167) (size := 2) w #[] 0 (Nat.le_refl _) (by simp) (by simp))
    have hb3 := Lib.hid ((Below.refl w.heap.size w).alloc (Nat.le_refl _) (.cells #[] 167))
    have hrd3 := Lib.hid (hr.below hb3.out (Nat.le_refl _))
    have hbs3 := hb3.out.size
    go_enter Try.func250, Try.ntmps250
    go_wp2_with (first | (rw [Lib.run_eql_slice_nil _ 36 167 _ _ _ _ _ Try.underlying36, Result.andThen_ok]) | (at_builtin; refine wpList_append_rd (w.alloc (.cells #[] 167)) rfl _ _ 36 rfl w.heap.size 167 i0 _ 2 24 Try.underlying36 Hi.out Hz0.out Hz1.out Hz2.out rfl (by decide) (.slice (some ⟨w.heap.size, 0, none⟩) 0 0) 0 [] rfl hst.out (some ad) n c cs rfl hrd3.out h1 (by omega) (by decide) hbs3 ?_; intro v4 w4 hown4 hgrow4; have HO4 := Lib.hid hown4; clear hown4))
    have hb4 := below_grown hb3.out hgrow4 hst.out hbs3 (Nat.le_refl _)
    go_ret
    have ho := HO4.out
    rw [Nat.zero_add, List.nil_append] at ho
    exact ⟨_, rfl, ho, hb4⟩
set_option maxHeartbeats 1000000 in
set_option maxRecDepth 100000 in
theorem cloneInt_any (A : Option Addr) (n c : Nat) (cs : List Value) (w : World) (hr : Rd w 1 A n cs) (h1 : ∀ u ∈ cs, u.oneCell' = true) (hm : n * 8 ≤ 140737488355328) :
    Calls Try.prog 249 #[.slice A n c] w (OwnPostC 3 1 n cs w) := by
  obtain ⟨i0, hi, hz0, hz1, hz2⟩ := info_parts (show (Try.prog.info? 3).map (fun i => (i.zero, i.size, i.bytes)) = some (some (.int .i64 0), 1, 8) from by kernel_rfl)
  have Hi := Lib.hid hi; clear hi
  have Hz0 := Lib.hid hz0; clear hz0
  have Hz1 := Lib.hid hz1; clear hz1
  have Hz2 := Lib.hid hz2; clear hz2
  cases A with
  | none =>
    have hn : n = 0 := by
      rcases Nat.eq_zero_or_pos n with h | h
      · exact h
      · obtain ⟨b, off, e, _⟩ := hr.2 h; cases e
    subst hn
    have hcs : cs = [] := List.eq_nil_of_length_eq_zero (by have := hr.1; omega)
    subst hcs
    go_enter Try.func249, Try.ntmps249
    go_wp2_with (rw [Lib.run_eql_slice_nil _ 129 3 _ _ _ _ _ Try.underlying129, Result.andThen_ok])
    go_ret
    exact ⟨_, rfl, World.ownsRow_nil _ _ _ _, Below.refl _ _⟩
  | some ad =>
    have hst := Lib.hid (World.ownsRow_made (base := w.heap.size) (e := 3) (size := 1) w #[] 0 (Nat.le_refl _) (by simp) (by simp))
    have hb3 := Lib.hid ((Below.refl w.heap.size w).alloc (Nat.le_refl _) (.cells #[] 3))
    have hrd3 := Lib.hid (hr.below hb3.out (Nat.le_refl _))
    have hbs3 := hb3.out.size
    go_enter Try.func249, Try.ntmps249
    go_wp2_with (first | (rw [Lib.run_eql_slice_nil _ 129 3 _ _ _ _ _ Try.underlying129, Result.andThen_ok]) | (at_builtin; refine wpList_append_rd (w.alloc (.cells #[] 3)) rfl _ _ 129 rfl w.heap.size 3 i0 _ 1 8 Try.underlying129 Hi.out Hz0.out Hz1.out Hz2.out rfl (by decide) (.slice (some ⟨w.heap.size, 0, none⟩) 0 0) 0 [] rfl hst.out (some ad) n c cs rfl hrd3.out h1 (by omega) (by decide) hbs3 ?_; intro v4 w4 hown4 hgrow4; have HO4 := Lib.hid hown4; clear hown4))
    have hb4 := below_grown hb3.out hgrow4 hst.out hbs3 (Nat.le_refl _)
    go_ret
    have ho := HO4.out
    rw [Nat.zero_add, List.nil_append] at ho
    exact ⟨_, rfl, ho, hb4⟩
end Go.Proofs.Ytjhimcddgkoghaa
namespace Go.Proofs.Ytjhimcddgkoghaa.AM
open Go Go.RowKit Go.ChangeShapes Go.WideShapes Go.Deep
set_option linter.unusedVariables false
set_option linter.unusedSimpArgs false
def refC (r : Rf) : List Value := [.string r.name, .int .i64 r.head, .int .i64 r.ver, .bool r.gone]
def refsC (l : List Rf) : List Value := l.flatMap refC
theorem refsC_length : ∀ l : List Rf, (refsC l).length = l.length * 4
  | [] => rfl
  | r :: l => by
    have := refsC_length l
    simp only [refsC, List.flatMap_cons, List.length_append, List.length_cons] at *
    rw [this]; simp [refC]; omega
section
variable {S : Nat → Prop} {w : World}
end
section
variable {H : Type} {enc : TypeId × Value → H} {P : Program} {w : World} {base : Nat} {held : Bool}
end
end Go.Proofs.Ytjhimcddgkoghaa.AM
namespace Go.Proofs.Ytjhimcddgkoghaa.AM
open Go Go.RowKit
set_option linter.unusedVariables false
set_option linter.unusedSimpArgs false
section
variable {w : World}
/-- an argument whose cells the data say -/
theorem arg_flat {S0 : Nat → Prop} {hp B V} (hS : ∀ b, S0 b → b < w.heap.size) {sz : Nat} {xs : List AV} {cs : List Value} {u : Value} (hd : ∀ us, RL S0 w xs us → us = cs) (hl : cs.length = xs.length * sz) (h : RV S0 w hp B V (.lst sz xs) u) : ∃ A c, u = .slice A xs.length c ∧ Rd w sz A xs.length cs := by
  unfold RV at h
  unfold RA at h
  obtain ⟨A, c, e, h1, h2, _, _, h4⟩ := h
  simp only [List.cons.injEq, and_true] at e
  refine ⟨A, c, e, hl, fun hn => ?_⟩
  rcases h4 with h4 | ⟨b, off, us, rfl, hb, hr, hc⟩
  · subst h4; simp at hn
  · rw [hd us hr] at hc
    exact ⟨b, off, rfl, hS b hb, hc⟩
theorem rl_det {α : Type} {f : α → AV} {g : α → List Value} (h1 : ∀ (S : Nat → Prop) (w : World) x cs, RA S w (f x) cs → cs = g x) : ∀ {S : Nat → Prop} {w : World} {l : List α} {us : List Value}, RL S w (l.map f) us → us = l.flatMap g
  | S, w, [], us, h => by rw [List.map_nil] at h; unfold RL at h; exact h
  | S, w, x :: l, us, h => by
    rw [List.map_cons] at h
    unfold RL at h
    obtain ⟨c1, c2, rfl, k1, k2⟩ := h
    rw [h1 S w x c1 k1, rl_det h1 k2, List.flatMap_cons]
end
theorem ra_int {S : Nat → Prop} {w : World} {x : Int} {cs : List Value} (h : RA S w (intA x) cs) : cs = [.int .i64 x] := by
  unfold intA RA at h; exact h.1
theorem ent_250 : ∀ vs w, (callFunc 250 vs).run Try.prog w = .ok (.enter 250 vs) w := ent_of Try.func250 (by kernel_rfl) (by kernel_rfl)
theorem ent_249 : ∀ vs w, (callFunc 249 vs).run Try.prog w = .ok (.enter 249 vs) w := ent_of Try.func249 (by kernel_rfl) (by kernel_rfl)
theorem ac_cloneEnt {es : List Ent} (hm : es.length ≤ 1048576) : AC Try.prog 250 [.lst 2 (es.map entA)] ⟨.own 0, [⟨167, 2, es.map entA⟩]⟩ :=
  ac_own (cs := entsC es) ent_250 (all_ent _) (by omega) (fun S w => rl_entA.2 rfl) fun w S0 vs hS hv => by
    obtain ⟨u, rfl, h1⟩ := rvs1 hv
    obtain ⟨A, c, rfl, _, _, hr⟩ := arg_ents hS h1
    refine (cloneEnt_any A es.length c (entsC es) w hr (entsC_one es) (by omega)).mono ?_
    rintro e w' ⟨v, rfl, ho, hb⟩
    exact ⟨v, rfl, by rw [List.length_map]; exact ho, hb⟩
theorem ac_cloneInt {l : List Int} (hm : l.length ≤ 1048576) : AC Try.prog 249 [.lst 1 (l.map intA)] ⟨.own 0, [⟨3, 1, l.map intA⟩]⟩ :=
  ac_own (cs := l.map fun x => .int .i64 x) ent_249 (all_int l) (by omega) (fun S w => rl_intA l) fun w S0 vs hS hv => by
    obtain ⟨u, rfl, h1⟩ := rvs1 hv
    obtain ⟨A, c, rfl, hr⟩ := arg_flat (cs := l.map fun x => .int .i64 x) hS (fun us h => by
      have := rl_det (g := fun x => [.int .i64 x]) (fun S w x cs h => ra_int h) h
      rw [this, List.map_eq_flatMap]) (by simp) h1
    refine (cloneInt_any A _ c _ w hr (fun u hu => by obtain ⟨x, _, rfl⟩ := List.mem_map.1 hu; rfl) (by rw [List.length_map]; omega)).mono ?_
    rintro e w' ⟨v, rfl, ho, hb⟩
    exact ⟨v, rfl, ho, hb⟩
end Go.Proofs.Ytjhimcddgkoghaa.AM
/- Rules of the machine: a function entered without a run. -/
namespace Go.Proofs.Ytjhimcddgkoghaa.AM
open Go Go.RowKit
set_option linter.unusedVariables false
theorem o_of {P : Program} {Θ : Tab} (hΘ : TabOK P Θ) (hm : P.follows .mixedOrders = true) {f : FuncId} {fn : Func} {c : Code} {n : Nat} {rs : List ResultVar} (hf : P.funcs[f]? = some fn) (hb : fn.body = some c) (hnt : fn.ntmps = n) (hrs : fn.results = rs.toArray) (hnm : (fn.name == "runtime.NumGoroutine") = false)
    {args : List AV} {out : Out} (hlen : Nat.ble args.length n = true) (h : ACode P Θ n c (RetQ Θ rs out) (St.init args)) : AC P f args out :=
  acg_of hΘ hm hf hb hnt (by rw [hrs]) hnm (Nat.le_of_ble_eq_true hlen) rfl rfl h
end Go.Proofs.Ytjhimcddgkoghaa.AM
/- A law's arguments opened: structs (an operation, a repository, a result, a commit). -/
namespace Go.Proofs.Ytjhimcddgkoghaa.AM
open Go Go.RowKit Go.ChangeShapes Go.WideShapes Go.Deep
set_option linter.unusedVariables false
set_option linter.unusedSimpArgs false
structure Opr where
  kind : Int
  frm : Int
  name : ByteArray
  key : ByteArray
  edits : List Edt
structure Bas where
  store : List Cmt
  refs : List Rf
structure Rst where
  code : Int
  com : Int
  val : Int
  keys : List ByteArray
  map : List Ent
def Opr.ok (o : Opr) (N : Nat) : Prop := o.name.size ≤ N ∧ o.key.size ≤ N ∧ o.edits.length ≤ N ∧ ∀ e ∈ o.edits, e.key.size ≤ N
def Rst.ok (r : Rst) (N : Nat) : Prop := r.keys.length ≤ N ∧ (∀ k ∈ r.keys, k.size ≤ N) ∧ r.map.length ≤ N ∧ ∀ e ∈ r.map, e.1.size ≤ N
section
variable {S : Nat → Prop} {w : World}
end
section
variable {H : Type} {enc : TypeId × Value → H} {P : Program} {w : World} {base : Nat} {held : Bool}
end
end Go.Proofs.Ytjhimcddgkoghaa.AM
namespace Go.Proofs.Ytjhimcddgkoghaa
open Go Go.RowKit
set_option linter.unusedVariables false
set_option linter.unusedSimpArgs false
set_option maxRecDepth 100000
/-- the cells of a reference -/
def refV (n : ByteArray) (h v : Int) (g : Bool) : Array Value := #[.string n, .int .i64 h, .int .i64 v, .bool g]
/-- the board: a row of cells, each a pointer to a reference in a block of its own; those of D hold rs -/
def PBoard (w : World) (base g n : Nat) (D : Nat → Prop) (rs : Nat → AM.Rf) : Prop :=
  base ≤ g ∧ ∃ cur : Array Value, w.heap[g]? = some (.cells cur 262 (0, 0)) ∧ cur.size = n ∧ ∀ j, j < n → D j → ∃ b, cur[j]? = some (.pointer (some ⟨b, 0, none⟩)) ∧ base ≤ b ∧ w.heap[b]? = some (.cells (refV (rs j).name (rs j).head (rs j).ver (rs j).gone) 83 (0, 0))
theorem PBoard.below {w w' : World} {base g n : Nat} {D : Nat → Prop} {rs : Nat → AM.Rf} (h : PBoard w base g n D rs) (hb : Below w.heap.size w w') : PBoard w' base g n D rs := by
  obtain ⟨h0, cur, h1, h2, h3⟩ := h
  refine ⟨h0, cur, (hb.block g (Array.getElem?_eq_some_iff.1 h1).1).trans h1, h2, fun j hj hD => ?_⟩
  obtain ⟨b, k1, k2, k3⟩ := h3 j hj hD
  exact ⟨b, k1, k2, (hb.block b (Array.getElem?_eq_some_iff.1 k3).1).trans k3⟩
theorem PBoard.cell {w : World} {base g n : Nat} {D : Nat → Prop} {rs : Nat → AM.Rf} (h : PBoard w base g n D rs) {j : Nat} (hj : j < n) : (∃ u, w.cell? ⟨g, j, none⟩ = some u) ∧ w.frozen? ⟨g, j, none⟩ = false ∧ g < w.heap.size := by
  obtain ⟨h0, cur, h1, h2, h3⟩ := h
  refine ⟨⟨cur[j]'(by omega), ?_⟩, ?_, (Array.getElem?_eq_some_iff.1 h1).1⟩
  · rw [cell_of_row _ g j _ _ _ h1, Array.getElem?_eq_getElem (by omega)]
  · unfold World.frozen?; simp only [h1]; simp
theorem PBoard.get {w : World} {base g n : Nat} {D : Nat → Prop} {rs : Nat → AM.Rf} (h : PBoard w base g n D rs) {j : Nat} (hj : j < n) (hD : D j) : ∃ b, w.cell? ⟨g, j, none⟩ = some (.pointer (some ⟨b, 0, none⟩)) ∧ w.heap[b]? = some (.cells (refV (rs j).name (rs j).head (rs j).ver (rs j).gone) 83 (0, 0)) := by
  obtain ⟨h0, cur, h1, h2, h3⟩ := h
  obtain ⟨b, k1, k2, k3⟩ := h3 j hj hD
  exact ⟨b, by rw [cell_of_row _ g j _ _ _ h1]; exact k1, k3⟩
theorem PBoard.put {w : World} {base g n : Nat} {D D' : Nat → Prop} {rs rs' : Nat → AM.Rf} (h : PBoard w base g n D rs) {j b : Nat} (hj : j < n) (hbb : base ≤ b) {r : AM.Rf} (hb : w.heap[b]? = some (.cells (refV r.name r.head r.ver r.gone) 83 (0, 0)))
    (hD : ∀ i, D' i → i = j ∨ (D i ∧ rs' i = rs i)) (hr : rs' j = r) : PBoard (w.setCell ⟨g, j, none⟩ (.pointer (some ⟨b, 0, none⟩))) base g n D' rs' := by
  obtain ⟨h0, cur, h1, h2, h3⟩ := h
  have hne : ∀ (b' : Nat) (cs : Array Value), w.heap[b']? = some (.cells cs 83 (0, 0)) → b' ≠ g := fun b' cs hb' e => by
    subst e; rw [h1] at hb'; injection hb' with hb'; injection hb' with _ h4 _; revert h4; decide
  refine ⟨h0, cur.setIfInBounds j _, heap_setCell_same w g j cur _ _ h1, by simpa using h2, fun i hi hi' => ?_⟩
  rcases Classical.em (i = j) with e | e
  · subst e
    refine ⟨b, by rw [Array.getElem?_setIfInBounds_self]; simp [h2, hi], hbb, ?_⟩
    rw [heap_setCell_other _ _ _ _ (hne b _ hb), hr]; exact hb
  · rcases hD i hi' with e' | ⟨e1, e2⟩
    · exact absurd e' e
    · obtain ⟨b', k1, k2, k3⟩ := h3 i hi e1
      refine ⟨b', by rw [Array.getElem?_setIfInBounds_ne (Ne.symm e)]; exact k1, k2, ?_⟩
      rw [heap_setCell_other _ _ _ _ (hne b' _ k3), e2]; exact k3
theorem refsC_get : ∀ (l : List AM.Rf) (k : Nat) (h : k < l.length), (AM.refsC l)[k * 4]? = some (.string l[k].name) ∧ (AM.refsC l)[k * 4 + 1]? = some (.int .i64 l[k].head) ∧ (AM.refsC l)[k * 4 + 2]? = some (.int .i64 l[k].ver) ∧ (AM.refsC l)[k * 4 + 3]? = some (.bool l[k].gone)
  | r :: l, 0, _ => by simp [AM.refsC, AM.refC]
  | r :: l, k + 1, h => by
    have ih := refsC_get l k (by simpa using h)
    have e : AM.refsC (r :: l) = AM.refC r ++ AM.refsC l := rfl
    have hx : ∀ i, (AM.refsC (r :: l))[(k + 1) * 4 + i]? = (AM.refsC l)[k * 4 + i]? := fun i => by
      rw [e, List.getElem?_append_right (by simp [AM.refC]; omega)]
      congr 1; simp [AM.refC]; omega
    have h0 := hx 0
    simp only [Nat.add_zero] at h0
    rw [h0, hx 1, hx 2, hx 3]
    exact ih
theorem Rd.rf {w wr : World} {A : Option Addr} {n : Nat} {l : List AM.Rf} (h : Rd w 4 A n (AM.refsC l)) (hb : Below w.heap.size w wr) {k : Nat} (hk : k < l.length) :
    ∃ b off, A = some ⟨b, off, none⟩ ∧ b < w.heap.size ∧ b < wr.heap.size ∧ wr.cell? ⟨b, off + k * 4, none⟩ = some (.string l[k].name) ∧ wr.cell? ⟨b, off + k * 4 + 1, none⟩ = some (.int .i64 l[k].head) ∧ wr.cell? ⟨b, off + k * 4 + 2, none⟩ = some (.int .i64 l[k].ver) ∧ wr.cell? ⟨b, off + k * 4 + 3, none⟩ = some (.bool l[k].gone) := by
  have hl := AM.refsC_length l
  obtain ⟨b, off, e, hlt, hc⟩ := h.2 (by have := h.1; omega)
  obtain ⟨e1, e2, e3, e4⟩ := refsC_get l k hk
  refine ⟨b, off, e, hlt, Nat.lt_of_lt_of_le hlt hb.size, ?_, ?_, ?_, ?_⟩
  · exact (hb.cell (p := ⟨b, off + k * 4, none⟩) hlt).trans (hc _ _ e1)
  · exact (hb.cell (p := ⟨b, off + k * 4 + 1, none⟩) hlt).trans (hc _ _ e2)
  · exact (hb.cell (p := ⟨b, off + k * 4 + 2, none⟩) hlt).trans (hc _ _ e3)
  · exact (hb.cell (p := ⟨b, off + k * 4 + 3, none⟩) hlt).trans (hc _ _ e4)
end Go.Proofs.Ytjhimcddgkoghaa
namespace Go.Proofs.Ytjhimcddgkoghaa.AM
open Go Go.RowKit
set_option linter.unusedVariables false
set_option linter.unusedSimpArgs false
set_option maxRecDepth 100000
structure GoodR (l : List Rf) : Prop where
  ok : refsB l = true
  small : ∀ r ∈ l, r.ver ≤ 4 ∧ r.name.size ≤ 12
theorem GoodR.nil : GoodR [] := ⟨refsB_t ⟨by simp, fun i h => by simp at h⟩, by simp⟩
theorem GoodR.snoc {l : List Rf} (h : GoodR l) (hl : l.length < 8) {r : Rf} (hr : refB r = true) (hv : r.ver ≤ 4) (hs : r.name.size ≤ 12) (hn : rAt l r.name 0 < 0) : GoodR (l ++ [r]) := by
  obtain ⟨_, h2⟩ := refsB_of h.ok
  refine ⟨refsB_t ⟨by simp; omega, fun i hi => ?_⟩, fun x hx => ?_⟩
  · rcases Nat.lt_or_ge i l.length with q | q
    · obtain ⟨_, a, b⟩ := h2 i q
      refine ⟨hi, by rw [List.getElem_append_left q]; exact a, ?_⟩
      rw [List.getElem_append_left q, List.take_append_of_le_length (by omega)]; exact b
    · have : i = l.length := by simp at hi; omega
      subst this
      refine ⟨hi, by simpa using hr, ?_⟩
      have e : (l ++ [r])[l.length] = r := by simp
      rw [e, List.take_append_of_le_length (by omega), List.take_length]; exact hn
  · rcases List.mem_append.1 hx with hx | hx
    · exact h.small x hx
    · rw [List.mem_singleton.1 hx]; exact ⟨hv, hs⟩
attribute [local irreducible] ACode AOps AOps2 RetG RetM Pre ACG
end Go.Proofs.Ytjhimcddgkoghaa.AM
namespace Go.Proofs.Ytjhimcddgkoghaa.AM
open Go Go.RowKit
set_option linter.unusedVariables false
set_option linter.unusedSimpArgs false
set_option maxRecDepth 100000
attribute [local irreducible] ACode AOps AOps2 RetG RetM Pre ACG
end Go.Proofs.Ytjhimcddgkoghaa.AM
namespace Go.Proofs.Ytjhimcddgkoghaa.AM
open Go Go.RowKit
set_option linter.unusedVariables false
set_option linter.unusedSimpArgs false
set_option maxRecDepth 100000
/-- the i-th choice out of n -/
def atS (m : List UInt8) (i n : Nat) : Nat := if n ≤ 1 then 0 else if m.length = 0 then i * 7 % n else ((m.getD (i % m.length) 0).toNat * 31 + (m.getD ((i + 1) % m.length) 0).toNat + i / m.length) % n
theorem atS_lt {m : List UInt8} {i n : Nat} (hn : 0 < n) : atS m i n < n := by
  unfold atS
  split
  · exact hn
  · split <;> exact Nat.mod_lt _ hn
theorem b_quo3 {P : Program} {t : TypeId} {x y : Operand} {a b c : Int} (h0 : 0 ≤ a) (h1 : a ≤ 9223372036854775807) (hb : 0 < b) (hc : a / b = c) : BinOK P .quo t x y (.int .i64 a) (.int .i64 b) (.int .i64 c) := fun w => by
  have hb0 : b ≠ 0 := by omega
  have hle : a / b ≤ a := Int.ediv_le_self b h0
  have hnn : 0 ≤ a / b := Int.ediv_nonneg h0 (by omega)
  have hw : IntKind.i64.wrap (a.tdiv b) = c := by rw [Int.tdiv_eq_ediv_of_nonneg h0, IntKind.wrap_i64, hc]; omega
  have hr : (Op.intDiv .quo .i64 a b).run P w = .ok (.int .i64 c) w := by simp [Op.intDiv, hb0, hw]
  simp [eqGuard, binOp, hr]
attribute [local irreducible] ACode AOps AOps2 RetG RetM Pre ACG
set_option maxHeartbeats 8000000 in
theorem ac_at {m : List UInt8} {i n : Nat} (hm : m.length ≤ maxLen) (hi : i ≤ 1000) (hn : n ≤ 1000) : AC Try.prog 80 [.lst 1 (m.map bytA), .v (.int .i64 (i : Int)), .v (.int .i64 (n : Int))] ⟨.v (.int .i64 (atS m i n : Int)), []⟩ := by
  unfold maxLen at hm
  unfold atS
  by_cases h1 : n ≤ 1
  · rw [if_pos h1]
    refine r_of Th_ok (by kernel_rfl) Try.func80 rfl Try.ntmps80 Try.results80 (by kernel_rfl) rfl ?_; conv => whnf
    repeat (((first | refine qb rfl rfl ?_ | refine qi (by assumption) rfl rfl ?_ | refine ql rfl ?_ | refine qo rfl rfl ?_ | refine qs rfl rfl ?_ | refine qn rfl rfl ?_); conv => whnf))
    exact r_ret1 rfl trivial
  rw [if_neg h1]
  by_cases h2 : m.length = 0
  · rw [if_pos h2]
    have hr : (i : Int) * 7 % (n : Int) = ((i * 7 % n : Nat) : Int) := by rw [Int.natCast_emod, Int.natCast_mul]; rfl
    refine r_of Th_ok (by kernel_rfl) Try.func80 rfl Try.ntmps80 Try.results80 (by kernel_rfl) rfl ?_; conv => whnf
    repeat (first | (refine r_put (p_bin (b_mul2 (c := (i : Int) * 7) rfl (by omega) (by omega)) rfl rfl rfl) rfl rfl ?_; conv => whnf) | (refine r_put (p_bin (b_rem2 (by omega) (by omega) hr) rfl rfl rfl) rfl rfl ?_; conv => whnf) | ((first | refine qb rfl rfl ?_ | refine qi (by assumption) rfl rfl ?_ | refine ql rfl ?_ | refine qo rfl rfl ?_ | refine qs rfl rfl ?_ | refine qn rfl rfl ?_); conv => whnf))
    exact r_ret1 rfl trivial
  rw [if_neg h2]
  have hl : 0 < m.length := by omega
  have j1 : i % m.length < m.length := Nat.mod_lt _ hl
  have j2 : (i + 1) % m.length < m.length := Nat.mod_lt _ hl
  have g1 : m.getD (i % m.length) 0 = m[i % m.length] := by simp [j1]
  have g2 : m.getD ((i + 1) % m.length) 0 = m[(i + 1) % m.length] := by simp [j2]
  rw [g1, g2]
  have b1 : (m[i % m.length]).toNat < 256 := (m[i % m.length]).toNat_lt
  have b2 : (m[(i + 1) % m.length]).toNat < 256 := (m[(i + 1) % m.length]).toNat_lt
  have r1 : (i : Int) % (m.length : Int) = ((i % m.length : Nat) : Int) := (Int.natCast_emod _ _).symm
  have r2 : ((i + 1 : Nat) : Int) % (m.length : Int) = (((i + 1) % m.length : Nat) : Int) := (Int.natCast_emod _ _).symm
  have d1 : (i : Int) / (m.length : Int) = ((i / m.length : Nat) : Int) := (Int.natCast_ediv _ _).symm
  have d2 : i / m.length ≤ i := Nat.div_le_self _ _
  have hr : (((m[i % m.length]).toNat : Int) * 31 + ((m[(i + 1) % m.length]).toNat : Int) + ((i / m.length : Nat) : Int)) % (n : Int) = ((((m[i % m.length]).toNat * 31 + (m[(i + 1) % m.length]).toNat + i / m.length) % n : Nat) : Int) := by
    rw [Int.natCast_emod]; congr 1
  generalize i / m.length = q at *
  generalize hp1 : i % m.length = p1 at *
  generalize hp2 : (i + 1) % m.length = p2 at *
  refine r_of Th_ok (by kernel_rfl) Try.func80 rfl Try.ntmps80 Try.results80 (by kernel_rfl) rfl ?_; conv => whnf
  repeat (first | (refine r_put (p_bin (b_add (c := ((i + 1 : Nat) : Int)) (by omega) (by omega) (by omega)) rfl rfl rfl) rfl rfl ?_; conv => whnf) | (refine r_put (p_bin (b_rem2 (by omega) (by omega) r1) rfl rfl rfl) rfl rfl ?_; conv => whnf) | (refine r_put (p_bin (b_rem2 (by omega) (by omega) r2) rfl rfl rfl) rfl rfl ?_; conv => whnf) | (refine r_put (p_bin (b_quo3 (by omega) (by omega) (by omega) d1) rfl rfl rfl) rfl rfl ?_; conv => whnf) | (refine r_put (p_conv8 rfl b1) rfl rfl ?_; conv => whnf) | (refine r_put (p_conv8 rfl b2) rfl rfl ?_; conv => whnf) | (refine r_put (p_bin (b_mul2 rfl (by omega) (by omega)) rfl rfl rfl) rfl rfl ?_; conv => whnf) | (refine r_put (p_bin (b_add rfl (by omega) (by omega)) rfl rfl rfl) rfl rfl ?_; conv => whnf) | (refine r_put (p_bin (b_rem2 (by omega) (by omega) hr) rfl rfl rfl) rfl rfl ?_; conv => whnf) | ((first | refine qb rfl rfl ?_ | refine qi (by assumption) rfl rfl ?_ | refine ql rfl ?_ | refine qo rfl rfl ?_ | refine qs rfl rfl ?_ | refine qn rfl rfl ?_); conv => whnf) | (refine .inl (And.intro (by kernel_rfl) ?_); conv => whnf))
  exact r_ret1 rfl trivial
end Go.Proofs.Ytjhimcddgkoghaa.AM
namespace Go.Proofs.Ytjhimcddgkoghaa.AM
open Go Go.RowKit
set_option linter.unusedVariables false
section
variable {base a : List Ent} (hb : mapOK base = true) (ha : mapOK a = true)
include hb ha
end
end Go.Proofs.Ytjhimcddgkoghaa.AM
namespace Go.Proofs.Ytjhimcddgkoghaa.AM
open Go Go.RowKit
set_option linter.unusedVariables false
set_option linter.unusedSimpArgs false
set_option maxRecDepth 100000
theorem diffL_mem : ∀ (f : Nat) (a b : List Ent) (e : Edt), e ∈ diffL f a b → (∃ y ∈ b, e = ⟨y.1, y.2, false⟩) ∨ ∃ x ∈ a, e = ⟨x.1, 0, true⟩ := by
  intro f
  induction f with
  | zero => intro a b e he; simp [diffL] at he
  | succ f ih =>
    intro a b e he
    match a, b with
    | [], [] => simp [diffL] at he
    | x :: a, [] =>
      rw [diffL] at he
      rcases List.mem_cons.1 he with rfl | he
      · exact .inr ⟨x, by simp, rfl⟩
      · rcases ih a [] e he with ⟨y, hy, _⟩ | ⟨y, hy, h⟩
        · cases hy
        · exact .inr ⟨y, by simp [hy], h⟩
    | [], y :: b =>
      rw [diffL] at he
      rcases List.mem_cons.1 he with rfl | he
      · exact .inl ⟨y, by simp, rfl⟩
      · rcases ih [] b e he with ⟨z, hz, h⟩ | ⟨z, hz, _⟩
        · exact .inl ⟨z, by simp [hz], h⟩
        · cases hz
    | x :: a, y :: b =>
      rw [diffL] at he
      split at he
      · rcases List.mem_cons.1 he with rfl | he
        · exact .inr ⟨x, by simp, rfl⟩
        · rcases ih a (y :: b) e he with h | ⟨z, hz, h⟩
          · exact .inl h
          · exact .inr ⟨z, by simp [hz], h⟩
      · split at he
        · rcases List.mem_cons.1 he with rfl | he
          · exact .inl ⟨y, by simp, rfl⟩
          · rcases ih (x :: a) b e he with ⟨z, hz, h⟩ | h
            · exact .inl ⟨z, by simp [hz], h⟩
            · exact .inr h
        · rcases List.mem_append.1 he with he | he
          · split at he
            · cases he
            · rcases List.mem_singleton.1 he with rfl
              exact .inl ⟨y, by simp, rfl⟩
          · rcases ih a b e he with ⟨z, hz, h⟩ | ⟨z, hz, h⟩
            · exact .inl ⟨z, by simp [hz], h⟩
            · exact .inr ⟨z, by simp [hz], h⟩
theorem Good.diff {a b : List Ent} (ha : Good a) (hb : Good b) : GoodE (diffM a b) :=
  ⟨srt_diffM ha.1 hb.1, fun e he => by
    rcases diffL_mem _ a b e he with ⟨y, hy, rfl⟩ | ⟨x, hx, rfl⟩
    · obtain ⟨h1, h2, h3⟩ := hb.2 y hy
      exact ⟨h1, h2, h3, fun h => by cases h⟩
    · exact ⟨(ha.2 x hx).1, by simp, by simp, fun _ => rfl⟩⟩
theorem GoodE.ok {xs : List Edt} (h : GoodE xs) (hl : xs.length ≤ 6) : editsOK xs = true := by
  refine editsOK_of hl fun i hi => ?_
  have he := h.2 _ (List.getElem_mem hi)
  have hs : Srt (kv xs) := by unfold Srt kv; rw [List.pairwise_map]; exact h.1
  refine ⟨ordM_at (ordM_of_srt hs fun e hm => ?_) (by rw [kv_length]; exact hi), ?_⟩
  · unfold kv at hm
    obtain ⟨x, hx, rfl⟩ := List.mem_map.1 hm
    exact (keys8_ok (h.2 x hx).1).1
  · rw [edtAt_eq xs i hi, valB, decide_eq_true (by omega), decide_eq_true (by omega)]
    cases hg : xs[i].gone with
    | false => rfl
    | true => rw [decide_eq_true (he.2.2.2 hg)]; rfl
attribute [local irreducible] ACode AOps AOps2 RetG RetM Pre ACG
theorem ac_sameTexts_t {xs : List ByteArray} (hm : xs.length ≤ 1048576) : AC Try.prog 65 [.lst 1 (xs.map strA), .lst 1 (xs.map strA)] ⟨.v (.bool true), []⟩ := by
  refine r_of Th_ok (by kernel_rfl) Try.func65 rfl Try.ntmps65 Try.results65 (by kernel_rfl) rfl ?_; conv => whnf
  repeat (((first | refine qb rfl rfl ?_ | refine qi (by assumption) rfl rfl ?_ | refine ql rfl ?_ | refine qo rfl rfl ?_ | refine qs rfl rfl ?_ | refine qn rfl rfl ?_); conv => whnf))
  refine r_loop (ι := { k : Nat // k ≤ xs.length }) (fun k => ⟨[(0, .lst 1 (xs.map strA)), (1, .lst 1 (xs.map strA)), (5, .v (.int .i64 (k.1 : Int)))], []⟩) (fun k => xs.length - k.1) ⟨0, Nat.zero_le _⟩ (by refine ⟨?_, ?_⟩ <;> (repeat (first | trivial | exact ⟨rfl, trivial⟩ | refine ⟨rfl, ?_⟩ | refine ⟨.inl ⟨rfl, rfl⟩, ?_⟩ | refine ⟨.inr ⟨_, _, rfl, rfl, rfl, rfl, rfl⟩, ?_⟩))) ?_
  rintro ⟨k, hk⟩
  dsimp only
  conv => whnf
  by_cases hlt : k < xs.length
  · repeat (((first | refine qb rfl rfl ?_ | refine qi (by assumption) rfl rfl ?_ | refine ql rfl ?_ | refine qo rfl rfl ?_ | refine qs rfl rfl ?_ | refine qn rfl rfl ?_); conv => whnf))
    refine .inl ⟨by kernel_rfl, ?_⟩
    conv => whnf
    repeat (first | (refine r_put (p_bin (b_sne_f rfl) rfl rfl rfl) rfl rfl ?_; conv => whnf) | ((first | refine qb rfl rfl ?_ | refine qi (by assumption) rfl rfl ?_ | refine ql rfl ?_ | refine qo rfl rfl ?_ | refine qs rfl rfl ?_ | refine qn rfl rfl ?_); conv => whnf))
    exact ⟨⟨k + 1, hlt⟩, by refine ⟨?_, ?_⟩ <;> (repeat (first | trivial | exact ⟨rfl, trivial⟩ | refine ⟨rfl, ?_⟩ | refine ⟨.inl ⟨rfl, rfl⟩, ?_⟩ | refine ⟨.inr ⟨_, _, rfl, rfl, rfl, rfl, rfl⟩, ?_⟩)), by simp; omega⟩
  · repeat (((first | refine qb rfl rfl ?_ | refine qi (by assumption) rfl rfl ?_ | refine ql rfl ?_ | refine qo rfl rfl ?_ | refine qs rfl rfl ?_ | refine qn rfl rfl ?_); conv => whnf))
    exact r_ret1 rfl trivial
end Go.Proofs.Ytjhimcddgkoghaa.AM
/- What a store and numbers are asked for first, on both sides. -/
namespace Go.Proofs.Ytjhimcddgkoghaa.AM
open Go Go.RowKit
set_option linter.unusedVariables false
set_option linter.unusedSimpArgs false
set_option maxRecDepth 100000
attribute [local irreducible] ACode AOps AOps2 RetG RetM Pre ACG
def idOK (n : Nat) (x : Int) : Prop := 1 ≤ x ∧ x ≤ (n : Int)
open Classical in
/-- the code with which functions of a store and numbers begin -/
noncomputable def askR (cs : List Cmt) (ids : List Int) : Int := if cs.length ≤ 4096 then (if stoB cs = true then (if ∀ x ∈ ids, idOK cs.length x then 0 else 5) else 1) else 2
theorem askR_long {cs : List Cmt} {ids : List Int} (h : ¬ cs.length ≤ 4096) : askR cs ids = 2 := by unfold askR; rw [if_neg h]
theorem askR_bad {cs : List Cmt} {ids : List Int} (h : cs.length ≤ 4096) (hb : stoB cs = false) : askR cs ids = 1 := by unfold askR; rw [if_pos h, hb]; simp
theorem askR_none {cs : List Cmt} {ids : List Int} (h : cs.length ≤ 4096) (hb : stoB cs = true) (hi : ¬ ∀ x ∈ ids, idOK cs.length x) : askR cs ids = 5 := by unfold askR; rw [if_pos h, if_pos hb, if_neg hi]
theorem askR_ok {cs : List Cmt} {ids : List Int} (h : cs.length ≤ 4096) (hb : stoB cs = true) (hi : ∀ x ∈ ids, idOK cs.length x) : askR cs ids = 0 := by unfold askR; rw [if_pos h, if_pos hb, if_pos hi]
theorem askR_0 {cs : List Cmt} {ids : List Int} (h : askR cs ids = 0) : stoB cs = true ∧ ∀ x ∈ ids, idOK cs.length x := by
  unfold askR at h
  split at h
  · split at h
    · split at h
      · rename_i h1 h2 h3; exact ⟨h2, h3⟩
      · omega
    · omega
  · omega
theorem ac_l03Ask {cs : List Cmt} {ids : List Int} (hm : cs.length ≤ maxLen) (hc : comOK maxLen cs) (hi : ids.length ≤ maxLen) : AC Try.prog 185 [.lst 2 (cs.map comA), .lst 1 (ids.map intA)] ⟨.v (.int .i64 (askR cs ids)), []⟩ := by
  have h1 := ac_l03OK hm hc
  unfold maxLen at hm hi
  by_cases hl : cs.length ≤ 4096
  case neg =>
    rw [askR_long hl]
    refine r_of Th_ok (by kernel_rfl) Try.func185 rfl Try.ntmps185 Try.results185 (by kernel_rfl) rfl ?_; conv => whnf
    repeat (((first | refine qb rfl rfl ?_ | refine qi (by assumption) rfl rfl ?_ | refine ql rfl ?_ | refine qo rfl rfl ?_ | refine qs rfl rfl ?_ | refine qn rfl rfl ?_); conv => whnf))
    exact r_ret1 rfl trivial
  cases hb : stoB cs with
  | false =>
    rw [askR_bad hl hb]
    rw [hb] at h1
    refine r_of Th_ok (by kernel_rfl) Try.func185 rfl Try.ntmps185 Try.results185 (by kernel_rfl) rfl ?_; conv => whnf
    repeat (first | ((first | refine qb rfl rfl ?_ | refine qi (by assumption) rfl rfl ?_ | refine ql rfl ?_ | refine qo rfl rfl ?_ | refine qs rfl rfl ?_ | refine qn rfl rfl ?_); conv => whnf) | (refine qc (h1) rfl ?_; conv => whnf))
    exact r_ret1 rfl trivial
  | true =>
    rw [hb] at h1
    refine r_of Th_ok (by kernel_rfl) Try.func185 rfl Try.ntmps185 Try.results185 (by kernel_rfl) rfl ?_; conv => whnf
    repeat (first | ((first | refine qb rfl rfl ?_ | refine qi (by assumption) rfl rfl ?_ | refine ql rfl ?_ | refine qo rfl rfl ?_ | refine qs rfl rfl ?_ | refine qn rfl rfl ?_); conv => whnf) | (refine qc (h1) rfl ?_; conv => whnf))
    refine r_loop (ι := { k : Nat // k ≤ ids.length ∧ ∀ i (h : i < ids.length), i < k → idOK cs.length ids[i] }) (fun k => ⟨[(0, .lst 2 (cs.map comA)), (1, .lst 1 (ids.map intA)), (5, .v (.int .i64 (k.1 : Int)))], []⟩) (fun k => ids.length - k.1) ⟨0, Nat.zero_le _, fun i h h' => by omega⟩ (by refine ⟨?_, ?_⟩ <;> (repeat (first | trivial | exact ⟨rfl, trivial⟩ | refine ⟨rfl, ?_⟩ | refine ⟨.inl ⟨rfl, rfl⟩, ?_⟩ | refine ⟨.inr ⟨_, _, rfl, rfl, rfl, rfl, rfl⟩, ?_⟩))) ?_
    rintro ⟨k, hk, hg⟩
    dsimp only at hk hg ⊢
    conv => whnf
    by_cases hlt : k < ids.length
    case neg =>
      rw [askR_ok hl hb (fun x hx => by obtain ⟨i, hi', rfl⟩ := List.getElem_of_mem hx; exact hg i hi' (by omega))]
      repeat (((first | refine qb rfl rfl ?_ | refine qi (by assumption) rfl rfl ?_ | refine ql rfl ?_ | refine qo rfl rfl ?_ | refine qs rfl rfl ?_ | refine qn rfl rfl ?_); conv => whnf))
      exact r_ret1 rfl trivial
    by_cases hin : 1 ≤ ids[k] ∧ ids[k] ≤ (cs.length : Int)
    · repeat (first | ((first | refine qb rfl rfl ?_ | refine qi (by assumption) rfl rfl ?_ | refine ql rfl ?_ | refine qo rfl rfl ?_ | refine qs rfl rfl ?_ | refine qn rfl rfl ?_); conv => whnf) | (refine qc (ac_in_t hin.1 hin.2) rfl ?_; conv => whnf))
      exact ⟨⟨k + 1, hlt, fun i h h' => by
        rcases Nat.lt_or_ge i k with h2 | h2
        · exact hg i h h2
        · have : i = k := by omega
          subst this; exact hin⟩, by refine ⟨?_, ?_⟩ <;> (repeat (first | trivial | exact ⟨rfl, trivial⟩ | refine ⟨rfl, ?_⟩ | refine ⟨.inl ⟨rfl, rfl⟩, ?_⟩ | refine ⟨.inr ⟨_, _, rfl, rfl, rfl, rfl, rfl⟩, ?_⟩)), by simp; omega⟩
    · rw [askR_none hl hb (fun h => hin (h _ (List.getElem_mem hlt)))]
      repeat (first | ((first | refine qb rfl rfl ?_ | refine qi (by assumption) rfl rfl ?_ | refine ql rfl ?_ | refine qo rfl rfl ?_ | refine qs rfl rfl ?_ | refine qn rfl rfl ?_); conv => whnf) | (refine qc (ac_in_f hin) rfl ?_; conv => whnf))
      exact r_ret1 rfl trivial
theorem ac_graphCode {cs : List Cmt} {ids : List Int} (hm : cs.length ≤ maxLen) (hc : comOK maxLen cs) (hi : ids.length ≤ maxLen) : AC Try.prog 182 [.lst 2 (cs.map comA), .lst 1 (ids.map intA)] ⟨.v (.int .i64 (askR cs ids)), []⟩ := by
  have h1 := ac_iStoreOK hm hc
  unfold maxLen at hm hi
  by_cases hl : cs.length ≤ 4096
  case neg =>
    rw [askR_long hl]
    refine r_of Th_ok (by kernel_rfl) Try.func182 rfl Try.ntmps182 Try.results182 (by kernel_rfl) rfl ?_; conv => whnf
    repeat (((first | refine qb rfl rfl ?_ | refine qi (by assumption) rfl rfl ?_ | refine ql rfl ?_ | refine qo rfl rfl ?_ | refine qs rfl rfl ?_ | refine qn rfl rfl ?_); conv => whnf))
    exact r_ret1 rfl trivial
  cases hb : stoB cs with
  | false =>
    rw [askR_bad hl hb]
    rw [hb] at h1
    refine r_of Th_ok (by kernel_rfl) Try.func182 rfl Try.ntmps182 Try.results182 (by kernel_rfl) rfl ?_; conv => whnf
    repeat (first | ((first | refine qb rfl rfl ?_ | refine qi (by assumption) rfl rfl ?_ | refine ql rfl ?_ | refine qo rfl rfl ?_ | refine qs rfl rfl ?_ | refine qn rfl rfl ?_); conv => whnf) | (refine qc (h1) rfl ?_; conv => whnf))
    exact r_ret1 rfl trivial
  | true =>
    rw [hb] at h1
    refine r_of Th_ok (by kernel_rfl) Try.func182 rfl Try.ntmps182 Try.results182 (by kernel_rfl) rfl ?_; conv => whnf
    repeat (first | ((first | refine qb rfl rfl ?_ | refine qi (by assumption) rfl rfl ?_ | refine ql rfl ?_ | refine qo rfl rfl ?_ | refine qs rfl rfl ?_ | refine qn rfl rfl ?_); conv => whnf) | (refine qc (h1) rfl ?_; conv => whnf))
    refine r_loop (ι := { k : Nat // k ≤ ids.length ∧ ∀ i (h : i < ids.length), i < k → idOK cs.length ids[i] }) (fun k => ⟨[(0, .lst 2 (cs.map comA)), (13, .lst 1 (ids.map intA)), (14, .v (.int .i64 (ids.length : Int))), (15, .v (.int .i64 (k.1 : Int)))], []⟩) (fun k => ids.length - k.1) ⟨0, Nat.zero_le _, fun i h h' => by omega⟩ (by refine ⟨?_, ?_⟩ <;> (repeat (first | trivial | exact ⟨rfl, trivial⟩ | refine ⟨rfl, ?_⟩ | refine ⟨.inl ⟨rfl, rfl⟩, ?_⟩ | refine ⟨.inr ⟨_, _, rfl, rfl, rfl, rfl, rfl⟩, ?_⟩))) ?_
    rintro ⟨k, hk, hg⟩
    dsimp only at hk hg ⊢
    conv => whnf
    by_cases hlt : k < ids.length
    case neg =>
      rw [askR_ok hl hb (fun x hx => by obtain ⟨i, hi', rfl⟩ := List.getElem_of_mem hx; exact hg i hi' (by omega))]
      repeat (((first | refine qb rfl rfl ?_ | refine qi (by assumption) rfl rfl ?_ | refine ql rfl ?_ | refine qo rfl rfl ?_ | refine qs rfl rfl ?_ | refine qn rfl rfl ?_); conv => whnf))
      exact r_ret1 rfl trivial
    by_cases h2 : ids[k] < 1
    · rw [askR_none hl hb (fun h => by have := (h _ (List.getElem_mem hlt)).1; omega)]
      repeat (((first | refine qb rfl rfl ?_ | refine qi (by assumption) rfl rfl ?_ | refine ql rfl ?_ | refine qo rfl rfl ?_ | refine qs rfl rfl ?_ | refine qn rfl rfl ?_); conv => whnf))
      exact r_ret1 rfl trivial
    by_cases h3 : ids[k] > (cs.length : Int)
    · rw [askR_none hl hb (fun h => by have := (h _ (List.getElem_mem hlt)).2; omega)]
      repeat (((first | refine qb rfl rfl ?_ | refine qi (by assumption) rfl rfl ?_ | refine ql rfl ?_ | refine qo rfl rfl ?_ | refine qs rfl rfl ?_ | refine qn rfl rfl ?_); conv => whnf))
      exact r_ret1 rfl trivial
    repeat (((first | refine qb rfl rfl ?_ | refine qi (by assumption) rfl rfl ?_ | refine ql rfl ?_ | refine qo rfl rfl ?_ | refine qs rfl rfl ?_ | refine qn rfl rfl ?_); conv => whnf))
    exact ⟨⟨k + 1, hlt, fun i h h' => by
      rcases Nat.lt_or_ge i k with h2' | h2'
      · exact hg i h h2'
      · have : i = k := by omega
        subst this; exact ⟨by omega, by omega⟩⟩, by refine ⟨?_, ?_⟩ <;> (repeat (first | trivial | exact ⟨rfl, trivial⟩ | refine ⟨rfl, ?_⟩ | refine ⟨.inl ⟨rfl, rfl⟩, ?_⟩ | refine ⟨.inr ⟨_, _, rfl, rfl, rfl, rfl, rfl⟩, ?_⟩)), by simp; omega⟩

/-! ### ancestors -/
/-- p is a parent of commit q -/
def Par (cs : List Cmt) (q p : Nat) : Prop := ∃ h : q - 1 < cs.length, 1 ≤ q ∧ (p : Int) ∈ (cs[q - 1]).1
inductive Anc (cs : List Cmt) (b : Nat) : Nat → Prop
  | refl : Anc cs b b
  | up {q p : Nat} : Anc cs b q → Par cs q p → Anc cs b p
theorem Anc.iff {cs : List Cmt} {b a : Nat} : Anc cs b a ↔ a = b ∨ ∃ q, Anc cs b q ∧ Par cs q a :=
  ⟨fun h => by cases h with
    | refl => exact .inl rfl
    | up h1 h2 => exact .inr ⟨_, h1, h2⟩, fun h => by
    rcases h with rfl | ⟨q, h1, h2⟩
    · exact .refl
    · exact .up h1 h2⟩
theorem comsB_at : ∀ {cs : List Cmt} {n : Nat}, comsB n cs = true → ∀ i (h : i < cs.length), comB (n + i) cs[i] = true
  | [], n, _, i, h => by simp at h
  | c :: cs, n, hb, 0, h => by
    unfold comsB at hb
    simp only [Bool.and_eq_true] at hb
    exact hb.1
  | c :: cs, n, hb, i + 1, h => by
    unfold comsB at hb
    simp only [Bool.and_eq_true] at hb
    have := comsB_at hb.2 i (by simpa using h)
    simpa [Nat.add_assoc, Nat.add_comm 1 i] using this
theorem sto_par {cs : List Cmt} (hb : stoB cs = true) {i : Nat} (h : i < cs.length) : parOK i (cs[i]).1 := by
  unfold stoB at hb
  simp only [Bool.and_eq_true] at hb
  have := comsB_at hb.2 i h
  unfold comB at this
  simp only [Bool.and_eq_true] at this
  have h2 := this.2
  rw [Nat.zero_add] at h2
  unfold parB at h2
  simpa using h2
theorem sto_len {cs : List Cmt} (hb : stoB cs = true) : 1 ≤ cs.length ∧ cs.length ≤ 60 := by
  unfold stoB at hb
  simp only [Bool.and_eq_true, decide_eq_true_eq] at hb
  exact hb.1
/-- parents come ahead -/
theorem Par.lt {cs : List Cmt} (hb : stoB cs = true) {q p : Nat} (h : Par cs q p) : 1 ≤ p ∧ p < q ∧ q ≤ cs.length := by
  obtain ⟨h1, h2, h3⟩ := h
  obtain ⟨_, _, k⟩ := sto_par hb h1
  obtain ⟨i, hi, e⟩ := List.getElem_of_mem h3
  obtain ⟨_, k1, k2, _⟩ := k i hi
  rw [e] at k1 k2
  exact ⟨by omega, by omega, by omega⟩
theorem Anc.le {cs : List Cmt} (hb : stoB cs = true) {b a : Nat} (h : Anc cs b a) (h1 : 1 ≤ b) : 1 ≤ a ∧ a ≤ b := by
  induction h with
  | refl => exact ⟨h1, Nat.le_refl _⟩
  | up _ hp ih => have := hp.lt hb; omega
end Go.Proofs.Ytjhimcddgkoghaa.AM
/- The commits that a commit is made of: the reference's side. -/
namespace Go.Proofs.Ytjhimcddgkoghaa.AM
open Go Go.RowKit
set_option linter.unusedVariables false
set_option linter.unusedSimpArgs false
set_option maxRecDepth 100000
def bA (b : Bool) : AV := .v (.bool b)
def rng (m : Nat) (f : Nat → Bool) : List AV := ((List.range m).map f).map bA
theorem rng_len {m : Nat} {f : Nat → Bool} : (rng m f).length = m := by simp [rng]
theorem rng_get {m j : Nat} {f : Nat → Bool} (h : j < m) : (rng m f)[j]? = some (bA (f j)) := by simp [rng, h]
theorem rng_set {m j : Nat} {f : Nat → Bool} (h : j < m) : (rng m f).set j (bA true) = rng m (fun x => f x || decide (x = j)) := by
  unfold rng
  apply List.ext_getElem
  · simp
  · intro i h1 h2
    rw [List.getElem_set]
    split
    · rename_i e; subst e; simp
    · rename_i e; simp [Ne.symm e]
theorem rng_rep {m : Nat} : List.replicate m (AV.v (.bool false)) = rng m (fun _ => false) := by
  unfold rng
  apply List.ext_getElem
  · simp
  · intro i h1 h2; simp [bA]
theorem rng_ext {m : Nat} {f g : Nat → Bool} (h : ∀ j, j < m → f j = g j) : rng m f = rng m g := by
  unfold rng
  congr 1
  apply List.map_congr_left
  intro j hj; exact h j (List.mem_range.1 hj)
open Classical in
noncomputable def ancB (cs : List Cmt) (b a : Nat) : Bool := decide (Anc cs b a)
theorem ancB_t {cs : List Cmt} {b a : Nat} : ancB cs b a = true ↔ Anc cs b a := by simp [ancB]
/-- what is marked when every commit above i is done -/
def Stg (cs : List Cmt) (b i : Nat) (f : Nat → Bool) : Prop := ∀ j, f j = true ↔ (j = b ∨ ∃ q, i < q ∧ Anc cs b q ∧ Par cs q j)
theorem Stg.at {cs : List Cmt} (hb : stoB cs = true) {b i : Nat} {f : Nat → Bool} (h : Stg cs b i f) : f i = true ↔ Anc cs b i := by
  rw [h i, Anc.iff]
  constructor
  · rintro (h | ⟨q, _, h1, h2⟩)
    · exact .inl h
    · exact .inr ⟨q, h1, h2⟩
  · rintro (h | ⟨q, h1, h2⟩)
    · exact .inl h
    · exact .inr ⟨q, by have := h2.lt hb; omega, h1, h2⟩
theorem Stg.end {cs : List Cmt} (hb : stoB cs = true) {b : Nat} {f : Nat → Bool} (h : Stg cs b 0 f) : ∀ j, f j = ancB cs b j := fun j => by
  have : f j = true ↔ ancB cs b j = true := by
    rw [h j, ancB_t, Anc.iff]
    constructor
    · rintro (h | ⟨q, _, h1, h2⟩)
      · exact .inl h
      · exact .inr ⟨q, h1, h2⟩
    · rintro (h | ⟨q, h1, h2⟩)
      · exact .inl h
      · exact .inr ⟨q, by have := h2.lt hb; omega, h1, h2⟩
  cases h1 : f j <;> cases h2 : ancB cs b j <;> simp_all
theorem Stg.skip {cs : List Cmt} (hb : stoB cs = true) {b i : Nat} {f : Nat → Bool} (h : Stg cs b (i + 1) f) (hn : ¬ f (i + 1) = true) : Stg cs b i f := fun j => by
  rw [h j]
  constructor
  · rintro (h | ⟨q, h0, h1, h2⟩)
    · exact .inl h
    · exact .inr ⟨q, by omega, h1, h2⟩
  · rintro (h' | ⟨q, h0, h1, h2⟩)
    · exact .inl h'
    · rcases Nat.lt_or_ge (i + 1) q with h3 | h3
      · exact .inr ⟨q, h3, h1, h2⟩
      · have : q = i + 1 := by omega
        subst this
        exact absurd ((h.at hb).2 h1) hn
/-- and k of i's parents besides -/
def Stp (cs : List Cmt) (b i : Nat) (ps : List Int) (k : Nat) (f : Nat → Bool) : Prop := ∀ j, f j = true ↔ (j = b ∨ (∃ q, i < q ∧ Anc cs b q ∧ Par cs q j) ∨ ∃ x ∈ ps.take k, x = (j : Int))
theorem Stp.zero {cs : List Cmt} {b i : Nat} {ps : List Int} {f : Nat → Bool} (h : Stg cs b i f) : Stp cs b i ps 0 f := fun j => by rw [h j]; simp
theorem Stp.next {cs : List Cmt} {b i k p : Nat} {ps : List Int} {f : Nat → Bool} (h : Stp cs b i ps k f) (hk : k < ps.length) (hp : ps[k] = (p : Int)) : Stp cs b i ps (k + 1) (fun x => f x || decide (x = p)) := fun j => by
  simp only [Bool.or_eq_true, decide_eq_true_eq]
  rw [h j, List.take_succ_eq_append_getElem hk]
  simp only [List.mem_append, List.mem_singleton]
  constructor
  · rintro ((h | h | ⟨x, h, e⟩) | h)
    · exact .inl h
    · exact .inr (.inl h)
    · exact .inr (.inr ⟨x, .inl h, e⟩)
    · exact .inr (.inr ⟨_, .inr rfl, by rw [hp, h]⟩)
  · rintro (h | h | ⟨x, h | h, e⟩)
    · exact .inl (.inl h)
    · exact .inl (.inr (.inl h))
    · exact .inl (.inr (.inr ⟨x, h, e⟩))
    · refine .inr ?_
      rw [h, hp] at e; omega
theorem Stp.done {cs : List Cmt} {b i : Nat} {f : Nat → Bool} (hi : i < cs.length) (h : Stp cs b (i + 1) (cs[i]).1 (cs[i]).1.length f) (ha : Anc cs b (i + 1)) : Stg cs b i f := fun j => by
  rw [h j, List.take_length]
  constructor
  · rintro (h | ⟨q, h0, h1, h2⟩ | ⟨x, h, e⟩)
    · exact .inl h
    · exact .inr ⟨q, by omega, h1, h2⟩
    · exact .inr ⟨i + 1, by omega, ha, ⟨by simpa using hi, by omega, by subst e; simpa using h⟩⟩
  · rintro (h' | ⟨q, h0, h1, h2⟩)
    · exact .inl h'
    · rcases Nat.lt_or_ge (i + 1) q with h3 | h3
      · exact .inr (.inl ⟨q, h3, h1, h2⟩)
      · have : q = i + 1 := by omega
        subst this
        obtain ⟨_, _, h4⟩ := h2
        exact .inr (.inr ⟨_, by simpa using h4, rfl⟩)
attribute [local irreducible] ACode AOps AOps2 RetG RetM Pre ACG
theorem ac_l03Reach {cs : List Cmt} {b : Nat} (hb : stoB cs = true) (h1 : 1 ≤ b) (h2 : b ≤ cs.length) : AC Try.prog 186 [.lst 2 (cs.map comA), .v (.int .i64 (b : Int))] ⟨.own 0, [⟨4, 1, rng (cs.length + 1) (ancB cs b)⟩]⟩ := by
  obtain ⟨hl1, hl2⟩ := sto_len hb
  have hrow : (List.replicate (cs.length + 1) (AV.v (.bool false))).set b (bA true) = rng (cs.length + 1) (fun x => decide (x = b)) := by
    rw [rng_rep, rng_set (by omega)]; exact rng_ext (fun j _ => by simp)
  have hst0 : Stg cs b b (fun x => decide (x = b)) := fun j => by
    simp only [decide_eq_true_eq]
    constructor
    · exact .inl
    · rintro (h | ⟨q, h3, h4, _⟩)
      · exact h
      · have := h4.le hb h1; omega
  have hq0 : (List.replicate (cs.length + 1) (AV.v (.bool false)))[b]? = some (AV.v (.bool false)) := by
    rw [List.getElem?_replicate, if_pos (by omega)]
  refine r_of Th_ok (by kernel_rfl) Try.func186 rfl Try.ntmps186 Try.results186 (by kernel_rfl) rfl ?_; conv => whnf
  repeat (first | ((first | refine qb rfl rfl ?_ | refine qi (by assumption) rfl rfl ?_ | refine ql rfl ?_ | refine qo rfl rfl ?_ | refine qs rfl rfl ?_ | refine qn rfl rfl ?_); conv => whnf) | (refine r_step (p_make (n := cs.length + 1) (by omega) (by omega) rfl rfl rfl rfl) rfl rfl (fun e => by first | exact .inl rfl | contradiction | exact .inr (.inl (by kernel_rfl))) ?_; conv => whnf) | (refine r_put (p_oidx (j := b) (by simp; omega) rfl rfl rfl rfl rfl) rfl rfl ?_; conv => whnf) | (refine r_step (p_ostore hq0 rfl rfl rfl rfl rfl rfl) rfl rfl (fun e => by first | exact .inl rfl | contradiction | exact .inr (.inl (by kernel_rfl))) ?_; conv => whnf))
  refine r_loop (ι := { p : Nat × (Nat → Bool) // p.1 ≤ cs.length ∧ Stg cs b p.1 p.2 }) (fun p => ⟨[(0, .lst 2 (cs.map comA)), (5, .own 12), (6, .v (.int .i64 (p.1.1 : Int)))], [(12, ⟨4, 1, rng (cs.length + 1) p.1.2⟩)]⟩) (fun p => p.1.1) ⟨(b, fun x => decide (x = b)), h2, hst0⟩ ⟨⟨congrArg (fun x => some (OB.mk _ _ x)) hrow, trivial⟩, .inl ⟨rfl, rfl⟩, .inl ⟨rfl, rfl⟩, .inl ⟨rfl, rfl⟩, trivial⟩ ?_
  rintro ⟨⟨k, f⟩, hk, hst⟩
  dsimp only at hk hst ⊢
  conv => whnf
  cases k with
  | zero =>
    repeat (((first | refine qb rfl rfl ?_ | refine qi (by assumption) rfl rfl ?_ | refine ql rfl ?_ | refine qo rfl rfl ?_ | refine qs rfl rfl ?_ | refine qn rfl rfl ?_); conv => whnf))
    exact r_own1 rfl (congrArg (fun x => some (OB.mk _ _ x)) (rng_ext fun j _ => hst.end hb j))
  | succ i =>
    have hi : i < cs.length := hk
    have hlt : i + 1 < cs.length + 1 := by omega
    cases hf : f (i + 1) with
    | false =>
      have hget : (rng (cs.length + 1) f)[i + 1]? = some (AV.v (.bool false)) := by rw [rng_get hlt, hf]; rfl
      repeat (first | (refine r_put (p_bin (b_sub (c := (i : Int)) (by omega) (by omega) (by omega)) rfl rfl rfl) rfl rfl ?_; conv => whnf) | ((first | refine qb rfl rfl ?_ | refine qi (by assumption) rfl rfl ?_ | refine ql rfl ?_ | refine qo rfl rfl ?_ | refine qs rfl rfl ?_ | refine qn rfl rfl ?_); conv => whnf) | (refine o_put (p_oidx (j := i + 1) (by rw [rng_len]; exact hlt) rfl rfl rfl rfl rfl) rfl rfl ?_) | (refine r_put (p_old rfl rfl hget rfl rfl rfl rfl) rfl rfl ?_; conv => whnf))
      exact ⟨⟨(i, f), by omega, hst.skip hb (by simp [hf])⟩, by refine ⟨?_, ?_⟩ <;> (repeat (first | trivial | exact ⟨rfl, trivial⟩ | refine ⟨rfl, ?_⟩ | refine ⟨.inl ⟨rfl, rfl⟩, ?_⟩ | refine ⟨.inr ⟨_, _, rfl, rfl, rfl, rfl, rfl⟩, ?_⟩)), by simp⟩
    | true =>
      have ha : Anc cs b (i + 1) := (hst.at hb).1 hf
      have hget : (rng (cs.length + 1) f)[i + 1]? = some (AV.v (.bool true)) := by rw [rng_get hlt, hf]; rfl
      repeat (first | (refine r_put (p_bin (b_sub (c := (i : Int)) (by omega) (by omega) (by omega)) rfl rfl rfl) rfl rfl ?_; conv => whnf) | ((first | refine qb rfl rfl ?_ | refine qi (by assumption) rfl rfl ?_ | refine ql rfl ?_ | refine qo rfl rfl ?_ | refine qs rfl rfl ?_ | refine qn rfl rfl ?_); conv => whnf) | (refine o_put (p_oidx (j := i + 1) (by rw [rng_len]; exact hlt) rfl rfl rfl rfl rfl) rfl rfl ?_) | (refine r_put (p_old rfl rfl hget rfl rfl rfl rfl) rfl rfl ?_; conv => whnf))
      have hpar := sto_par hb hi
      refine r_loop (ι := { p : Nat × (Nat → Bool) // p.1 ≤ (cs[i]).1.length ∧ Stp cs b (i + 1) (cs[i]).1 p.1 p.2 }) (fun p => ⟨[(0, .lst 2 (cs.map comA)), (5, .own 12), (6, .v (.int .i64 ((i + 1 : Nat) : Int))), (7, .v (.int .i64 (p.1.1 : Int)))], [(12, ⟨4, 1, rng (cs.length + 1) p.1.2⟩)]⟩) (fun p => (cs[i]).1.length - p.1.1) ⟨(0, f), Nat.zero_le _, Stp.zero hst⟩ (by refine ⟨?_, ?_⟩ <;> (repeat (first | trivial | exact ⟨rfl, trivial⟩ | refine ⟨rfl, ?_⟩ | refine ⟨.inl ⟨rfl, rfl⟩, ?_⟩ | refine ⟨.inr ⟨_, _, rfl, rfl, rfl, rfl, rfl⟩, ?_⟩))) ?_
      rintro ⟨⟨kk, g⟩, hkk, hsp⟩
      dsimp only at hkk hsp ⊢
      conv => whnf
      have hl3 : (cs[i]).1.length ≤ 2 := hpar.1
      by_cases hlk : kk < (cs[i]).1.length
      · obtain ⟨_, g1, g2, _⟩ := hpar.2.2 kk hlk
        obtain ⟨p, hp⟩ : ∃ p : Nat, (cs[i]).1[kk] = (p : Int) := ⟨((cs[i]).1[kk]).toNat, by omega⟩
        have hpl : p < cs.length + 1 := by omega
        repeat (first | (refine r_put (p_bin (b_sub (c := (i : Int)) (by omega) (by omega) (by omega)) rfl rfl rfl) rfl rfl ?_; conv => whnf) | ((first | refine qb rfl rfl ?_ | refine qi (by assumption) rfl rfl ?_ | refine ql rfl ?_ | refine qo rfl rfl ?_ | refine qs rfl rfl ?_ | refine qn rfl rfl ?_); conv => whnf) | (refine r_put (p_oidx (j := p) (by rw [rng_len]; exact hpl) rfl rfl (by show AV.v (.int .i64 (cs[i]).1[kk]) = _; rw [hp]) rfl rfl) rfl rfl ?_; conv => whnf) | (refine r_step (p_ostore (rng_get hpl) rfl rfl rfl rfl rfl rfl) rfl rfl (fun e => by first | exact .inl rfl | contradiction | exact .inr (.inl (by kernel_rfl))) ?_; conv => whnf))
        exact ⟨⟨(kk + 1, fun x => g x || decide (x = p)), hlk, hsp.next hlk hp⟩, ⟨⟨congrArg (fun x => some (OB.mk _ _ x)) (rng_set hpl), trivial⟩, .inl ⟨rfl, rfl⟩, .inl ⟨rfl, rfl⟩, .inl ⟨rfl, rfl⟩, .inl ⟨rfl, rfl⟩, trivial⟩, by simp; omega⟩
      · have hke : kk = (cs[i]).1.length := by omega
        rw [hke] at hsp
        repeat (first | (refine r_put (p_bin (b_sub (c := (i : Int)) (by omega) (by omega) (by omega)) rfl rfl rfl) rfl rfl ?_; conv => whnf) | ((first | refine qb rfl rfl ?_ | refine qi (by assumption) rfl rfl ?_ | refine ql rfl ?_ | refine qo rfl rfl ?_ | refine qs rfl rfl ?_ | refine qn rfl rfl ?_); conv => whnf))
        exact ⟨⟨(i, g), by omega, hsp.done hi ha⟩, by refine ⟨?_, ?_⟩ <;> (repeat (first | trivial | exact ⟨rfl, trivial⟩ | refine ⟨rfl, ?_⟩ | refine ⟨.inl ⟨rfl, rfl⟩, ?_⟩ | refine ⟨.inr ⟨_, _, rfl, rfl, rfl, rfl, rfl⟩, ?_⟩)), by simp⟩
end Go.Proofs.Ytjhimcddgkoghaa.AM
/- IsAncestor: the reference's side. -/
namespace Go.Proofs.Ytjhimcddgkoghaa.AM
open Go Go.RowKit
set_option linter.unusedVariables false
set_option linter.unusedSimpArgs false
set_option maxRecDepth 100000
theorem r_tup2 {s : St} {Θ : Tab} {t1 t2 : Nat} {y1 y2 : AV} (h1 : retA s [] (s.sl t1) y1) (h2 : retA s [] (s.sl t2) y2) : RetQ Θ [.tmp t1, .tmp t2] ⟨.tup [y1, y2], []⟩ .ret s :=
  ⟨trivial, [], by simp, trivial, ⟨trivial, trivial, trivial⟩, ⟨_, rfl⟩, ⟨h1, h2, trivial⟩⟩
noncomputable def isAncR (cs : List Cmt) (a b : Int) : Bool := if askR cs [a, b] = 0 then ancB cs b.toNat a.toNat else false
attribute [local irreducible] ACode AOps AOps2 RetG RetM Pre ACG
end Go.Proofs.Ytjhimcddgkoghaa.AM
/- The commits that a commit is made of: the program's side (the walk's closure). -/
namespace Go.Proofs.Ytjhimcddgkoghaa.AM
open Go Go.RowKit
set_option linter.unusedVariables false
set_option linter.unusedSimpArgs false
set_option maxRecDepth 100000
def parsN (cs : List Cmt) (id : Nat) : List Nat := match cs[id - 1]? with
  | some c => c.1.map Int.toNat
  | none => []
def nodeA (cs : List Cmt) : Nat → Nat → AV
  | 0, id => .agg [.v (.int .i64 (id : Int)), .lst 1 []]
  | n + 1, id => .agg [.v (.int .i64 (id : Int)), .lst 1 ((parsN cs id).map fun p => .ptr (nodeA cs n p))]
def mark (f : Nat → Bool) (i : Nat) : Nat → Bool := fun x => f x || decide (x = i)
def walkM (cs : List Cmt) : Nat → Nat → (Nat → Bool) → Nat → Bool
  | 0, id, f => f
  | n + 1, id, f => match f id with
    | true => f
    | false => (parsN cs id).foldl (fun g p => walkM cs n p g) (mark f id)
theorem getP_rng {m j : Nat} {f : Nat → Bool} (h : j < m) : getP (.agg (rng m f)) [j] 0 = some (bA (f j), 0 + j * 1) := by
  have hz : ∀ (k : Nat), k ≤ m → aszs ((rng m f).take k) = k := fun k hk => by
    rw [aszs_const (sz := 1) (fun x hx => by
      have := List.mem_of_mem_take hx
      unfold rng at this
      obtain ⟨b, _, rfl⟩ := List.mem_map.1 this
      rfl), List.length_take, rng_len, Nat.min_eq_left hk, Nat.mul_one]
  simp [getP, rng_get h, hz j (by omega)]
def seenO (f : Nat → Bool) : OB := ⟨.s 212, 61, [.agg (rng 61 f)]⟩
def walkO (x : AV) : OB := ⟨.o (some 277) 0 (.fn 247 [] [.optr 0 0 [] 0, .optr 1000000 0 [] 0]), 1, [x]⟩
theorem set_rng {j : Nat} {f : Nat → Bool} (h : j < 61) : setP (.agg (rng 61 f)) [j] (.v (.bool true)) = .agg (rng 61 (mark f j)) := by
  have := rng_set (m := 61) (f := f) h
  simp only [setP, rng_get h]
  exact congrArg AV.agg this
theorem r_retG0 {s : St} {Θ : Tab} {rout : List OB} (h : retIn s 0 rout) : RetG Θ [] rout ⟨.tup [], []⟩ .ret s := ⟨h, [], by simp, trivial, trivial, ⟨_, rfl⟩, trivial⟩
theorem r_retG0n {s : St} {Θ : Tab} {rout : List OB} (h : retIn s 0 rout) : RetG Θ [] rout ⟨.tup [], []⟩ .normal s := ⟨h, [], by simp, trivial, trivial, ⟨_, rfl⟩, trivial⟩
theorem parsN_lt {cs : List Cmt} (hb : stoB cs = true) {id : Nat} (h1 : 1 ≤ id) (h3 : id ≤ cs.length) : ∀ p ∈ parsN cs id, 1 ≤ p ∧ p < id := fun p hp => by
  have hi : id - 1 < cs.length := by omega
  unfold parsN at hp
  rw [List.getElem?_eq_getElem hi] at hp
  obtain ⟨y, hy, rfl⟩ := List.mem_map.1 hp
  obtain ⟨i, hi2, rfl⟩ := List.getElem_of_mem hy
  obtain ⟨_, k1, k2, _⟩ := (sto_par hb hi).2.2 i hi2
  omega
theorem parsN_len {cs : List Cmt} (hb : stoB cs = true) (id : Nat) : (parsN cs id).length ≤ 2 := by
  unfold parsN
  split
  · rename_i c h
    obtain ⟨hi, rfl⟩ := List.getElem?_eq_some_iff.1 h
    rw [List.length_map]; exact (sto_par hb hi).1
  · simp
attribute [local irreducible] ACode AOps AOps2 RetG RetM Pre ACG
theorem acg_walk {cs : List Cmt} (hb : stoB cs = true) {x : AV} : ∀ (n id : Nat) (f : Nat → Bool), 1 ≤ id → id ≤ n → id ≤ cs.length → ACG Try.prog 247 [.ptr (nodeA cs n id), .optr 0 0 [] 0, .optr 1000000 0 [] 0] [seenO f, walkO x] [seenO (walkM cs n id f), walkO x] ⟨.tup [], []⟩ := by
  intro n
  induction n with
  | zero => intro id f h1 h2; omega
  | succ n ih =>
    intro id f h1 h2 h3
    obtain ⟨hl1, hl2⟩ := sto_len hb
    have h61 : id < 61 := by omega
    refine r_ofG Th_ok (by kernel_rfl) Try.func247 rfl Try.ntmps247 Try.results247 (by kernel_rfl) rfl rfl rfl ?_
    conv => whnf
    cases hf : f id with
    | true =>
      have hw : walkM cs (n + 1) id f = f := by simp [walkM, hf]
      rw [hw]
      have hget : getP (.agg (rng 61 f)) [id] 0 = some (AV.v (.bool true), 0 + id * 1) := by rw [getP_rng h61, hf]; rfl
      repeat (first | ((first | refine qb rfl rfl ?_ | refine qi (by assumption) rfl rfl ?_ | refine ql rfl ?_ | refine qo rfl rfl ?_ | refine qs rfl rfl ?_ | refine qn rfl rfl ?_); conv => whnf) | (refine o_put (p_aidx h61 rfl rfl rfl) rfl rfl ?_) | (refine r_put (p_old rfl rfl rfl hget rfl rfl rfl) rfl rfl ?_; conv => whnf))
      exact r_retG0 ⟨rfl, rfl, trivial⟩
    | false =>
      have hw : walkM cs (n + 1) id f = (parsN cs id).foldl (fun g p => walkM cs n p g) (mark f id) := by simp [walkM, hf]
      have hget : getP (.agg (rng 61 f)) [id] 0 = some (AV.v (.bool false), 0 + id * 1) := by rw [getP_rng h61, hf]; rfl
      repeat (first | ((first | refine qb rfl rfl ?_ | refine qi (by assumption) rfl rfl ?_ | refine ql rfl ?_ | refine qo rfl rfl ?_ | refine qs rfl rfl ?_ | refine qn rfl rfl ?_); conv => whnf) | (refine o_put (p_aidx h61 rfl rfl rfl) rfl rfl ?_) | (refine r_put (p_old rfl rfl rfl hget rfl rfl rfl) rfl rfl ?_; conv => whnf) | (refine r_step (p_ostore rfl rfl rfl hget rfl rfl rfl) rfl rfl (fun e => by first | exact .inl rfl | contradiction | exact .inr (.inl (by kernel_rfl))) ?_; conv => whnf))
      rw [hw]
      have hpl := parsN_lt hb h1 h3
      have hp2 := parsN_len hb id
      refine r_loop (ι := { k : Nat // k ≤ (parsN cs id).length }) (fun k => ⟨[(2, .optr 1000000 0 [] 0), (20, .lst 1 ((parsN cs id).map fun p => .ptr (nodeA cs n p))), (21, .v (.int .i64 ((parsN cs id).length : Int))), (22, .v (.int .i64 (k.1 : Int)))], [(0, seenO (((parsN cs id).take k.1).foldl (fun g p => walkM cs n p g) (mark f id))), (1000000, walkO x)]⟩) (fun k => (parsN cs id).length - k.1) ⟨0, Nat.zero_le _⟩ ⟨⟨congrArg (fun y => some (OB.mk _ _ [y])) (set_rng h61), rfl, trivial⟩, .inl ⟨rfl, rfl⟩, .inl ⟨rfl, rfl⟩, .inl ⟨rfl, rfl⟩, .inl ⟨rfl, rfl⟩, trivial⟩ ?_
      rintro ⟨k, hk⟩
      dsimp only at hk ⊢
      conv => whnf
      by_cases hlt : k < (parsN cs id).length
      · obtain ⟨p1, p2⟩ := hpl _ (List.getElem_mem hlt)
        have hfold : walkM cs n (parsN cs id)[k] (((parsN cs id).take k).foldl (fun g p => walkM cs n p g) (mark f id)) = ((parsN cs id).take (k + 1)).foldl (fun g p => walkM cs n p g) (mark f id) := by
          rw [List.take_succ_eq_append_getElem hlt, List.foldl_append]; rfl
        have hac := ih (parsN cs id)[k] (((parsN cs id).take k).foldl (fun g p => walkM cs n p g) (mark f id)) p1 (by omega) (by omega)
        rw [hfold] at hac
        repeat (first | ((first | refine qb rfl rfl ?_ | refine qi (by assumption) rfl rfl ?_ | refine ql rfl ?_ | refine qo rfl rfl ?_ | refine qs rfl rfl ?_ | refine qn rfl rfl ?_); conv => whnf) | (refine r_step (p_callg [0, 1000000] hac rfl rfl ⟨rfl, rfl, trivial⟩ rfl rfl trivial rfl rfl rfl (.inl rfl) rfl) rfl rfl (fun e => by first | exact .inl rfl | contradiction | exact .inr (.inl (by kernel_rfl))) ?_; conv => whnf))
        exact ⟨⟨k + 1, hlt⟩, ⟨⟨rfl, rfl, trivial⟩, .inl ⟨rfl, rfl⟩, .inl ⟨rfl, rfl⟩, .inl ⟨rfl, rfl⟩, .inl ⟨rfl, rfl⟩, trivial⟩, by simp; omega⟩
      · have hke : k = (parsN cs id).length := by omega
        subst hke
        repeat (((first | refine qb rfl rfl ?_ | refine qi (by assumption) rfl rfl ?_ | refine ql rfl ?_ | refine qo rfl rfl ?_ | refine qs rfl rfl ?_ | refine qn rfl rfl ?_); conv => whnf))
        first
          | exact r_retG0 ⟨by rw [List.take_length]; rfl, rfl, trivial⟩
          | exact r_retG0n ⟨by show some (seenO _) = _; rw [List.take_length], rfl, trivial⟩
          | exact r_retG0 ⟨by show some (seenO _) = _; rw [List.take_length], rfl, trivial⟩
end Go.Proofs.Ytjhimcddgkoghaa.AM
