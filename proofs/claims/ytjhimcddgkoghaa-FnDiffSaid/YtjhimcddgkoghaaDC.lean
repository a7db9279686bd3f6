/- The document's draws over data: edits, sides of a merge; the drawn arguments of the laws; maps compared. -/
import Derived.Test.YtjhimcddgkoghaaDB
import Derived.Test.YtjhimcddgkoghaaE7
import Derived.Test.YtjhimcddgkoghaaK9
namespace Go.Proofs.Ytjhimcddgkoghaa.AM
open Go Go.RowKit
set_option linter.unusedVariables false
set_option linter.unusedSimpArgs false
set_option maxRecDepth 100000
def goneS (c : List UInt8) (s : Src) (e : Ent) : Edt := if (nextS c s 3).1 = 2 then ⟨e.1, 0, true⟩ else ⟨e.1, e.2, false⟩
def edL (c : List UInt8) : List Ent → Src → List Edt → List Edt × Src
  | [], s, out => (out, s)
  | e :: m, s, out => edL c m (nextS c s 3).2 (out ++ [goneS c s e])
theorem edL_ok {c : List UInt8} : ∀ (m : List Ent) (s : Src) (out : List Edt) (K : Nat), s.ok K → (∀ e ∈ m, e.1 ∈ keys8 ∧ 0 ≤ e.2 ∧ e.2 < 9) →
    (edL c m s out).2.ok (K + m.length) ∧ ∃ xs, (edL c m s out).1 = out ++ xs ∧ xs.map (·.key) = m.map (·.1) ∧ ∀ e ∈ xs, e.key ∈ keys8 ∧ 0 ≤ e.val ∧ e.val < 9 ∧ (e.gone = true → e.val = 0)
  | [], s, out, K, h, _ => ⟨h, [], by simp [edL], rfl, by simp⟩
  | e :: m, s, out, K, h, hm => by
    obtain ⟨h1, _⟩ := nextS_ok (c := c) (n := 3) h (by omega)
    obtain ⟨a1, xs, a2, a3, a4⟩ := edL_ok (c := c) m (nextS c s 3).2 (out ++ [goneS c s e]) (K + 1) h1 (fun x hx => hm x (by simp [hx]))
    obtain ⟨m1, m2, m3⟩ := hm e (by simp)
    refine ⟨a1.le (by simp; omega), goneS c s e :: xs, by rw [edL, a2]; simp, ?_, fun x hx => ?_⟩
    · have : (goneS c s e).key = e.1 := by unfold goneS; split <;> rfl
      simp [this, a3]
    · rcases List.mem_cons.1 hx with rfl | hx
      · unfold goneS
        split
        · exact ⟨m1, by simp, by simp, fun _ => rfl⟩
        · exact ⟨m1, m2, m3, fun h => by cases h⟩
      · exact a4 x hx
def edS (c : List UInt8) (s : Src) : List Edt × Src := edL c (entL c (nextS c s 4).1 (nextS c s 4).2 []).1 (entL c (nextS c s 4).1 (nextS c s 4).2 []).2 []
theorem edS_ok {c : List UInt8} {s : Src} {K : Nat} (h : s.ok K) : (edS c s).2.ok (K + 10) ∧ GoodE (edS c s).1 ∧ (edS c s).1.length ≤ 3 := by
  obtain ⟨h1, h2⟩ := nextS_ok (c := c) (n := 4) h (by omega)
  obtain ⟨a1, a2, a3⟩ := entL_ok (c := c) (nextS c s 4).1 _ [] _ h1 Good.nil
  obtain ⟨b1, xs, b2, b3, b4⟩ := edL_ok (c := c) _ _ [] _ a1 a2.2
  simp only [List.length_nil] at a3
  have hx : (edS c s).1 = xs := by unfold edS; rw [b2]; rfl
  have hlen : xs.length = (entL c (nextS c s 4).1 (nextS c s 4).2 []).1.length := by have := congrArg List.length b3; simpa using this
  refine ⟨b1.le (by omega), ?_, by rw [hx]; omega⟩
  rw [hx]
  refine ⟨?_, b4⟩
  have h5 : (xs.map (·.key)).Pairwise (fun a b => klt a b = true) := by
    rw [b3, List.pairwise_map]; exact a2.1
  rwa [List.pairwise_map] at h5
theorem r_lst1 {s : St} {t l sz : Nat} {e : ET} {xs : List AV} {Θ : Tab} (h : s.sl t = .own l) (ho : s.hp l = some ⟨e, sz, xs⟩) (hok : okL l = true := by rfl) (hsh : e.shut = true := by rfl) : RetQ Θ [.tmp t] ⟨.lst sz xs, []⟩ .ret s :=
  ⟨trivial, [], by simp, trivial, ⟨trivial, trivial⟩, trivial, ⟨ra_o h ho hok hsh, trivial⟩⟩
theorem r_ptr1 {s : St} {t l : Nat} {ob : OB} {Θ : Tab} (h : s.sl t = .optr l 0 [] 0) (ho : s.hp l = some ob) (hok : okL l = true := by rfl) (hsh : ob.e.shut = true := by rfl) : RetQ Θ [.tmp t] ⟨.optr 0 0 [] 0, [ob]⟩ .ret s :=
  ⟨trivial, [l], by simp, ⟨⟨ho, hok, hsh⟩, trivial⟩, ⟨trivial, trivial⟩, trivial, ⟨.inl ⟨h, rfl⟩, trivial⟩⟩
attribute [local irreducible] ACode AOps AOps2 RetG RetM Pre ACG
theorem ac_edits {c : List UInt8} {s : Src} {K : Nat} (hc : c.length ≤ maxLen) (hs : s.ok K) (hK : K ≤ 900000000) : ACG Try.prog 174 [.optr 0 0 [] 0] [srcO c s] [srcO c (edS c s).2] ⟨.own 0, [edtO (edS c s).1]⟩ := by
  have hb := ac_next (n := 4) hc hs (by omega) (by omega)
  obtain ⟨n1, n2⟩ := nextS_ok (c := c) (n := 4) hs (by omega)
  refine acg_of (rs := [.tmp 2]) Th_ok (by kernel_rfl) Try.func174 rfl Try.ntmps174 (by rw [Try.results174]) (by kernel_rfl) (by simp) rfl rfl (runC_sound _ _ _ ?_); conv => whnf
  repeat (first | first | (refine r_put (p_bin (by first | exact b_lt_t (by omega) | exact b_lt_f (by omega) | exact b_le_t (by omega) | exact b_le_f (by omega) | exact b_gt_t (by omega) | exact b_gt_f (by omega) | exact b_ge_t (by omega) | exact b_ge_f (by omega) | exact b_eq_t (by omega) | exact b_eq_f (by omega) | exact b_ne_t (by omega) | exact b_ne_f (by omega) | exact b_sub rfl (by omega) (by omega) | exact b_add rfl (by omega) (by omega)) rfl rfl rfl) rfl rfl ?_; conv => whnf) | (refine r_put (p_idx (getA _ (by assumption)) rfl rfl rfl) rfl rfl ?_; conv => whnf) | (refine r_put (p_lenm rfl ⟨_, _, _, _, rfl⟩) rfl rfl ?_; conv => whnf) | (refine r_put (p_lenom rfl rfl ⟨_, _, _, _, rfl⟩) rfl rfl ?_; conv => whnf) | (refine r_put (p_len (y := .v (.string _)) rfl rfl rfl) rfl rfl ?_; conv => whnf) | (refine r_put (p_len rfl rfl ⟨_, _, _, _, rfl⟩) rfl rfl ?_; conv => whnf) | (refine r_step (p_callg [0] (hb) rfl rfl (by first | exact ⟨rfl, trivial⟩ | exact ⟨rfl, rfl, trivial⟩ | exact ⟨rfl, rfl, rfl, trivial⟩) rfl rfl (by first | exact trivial | exact ⟨⟨rfl, rfl, rfl⟩, trivial⟩ | exact ⟨⟨rfl, rfl, rfl⟩, ⟨rfl, rfl, rfl⟩, trivial⟩ | exact ⟨⟨rfl, rfl, rfl⟩, ⟨rfl, rfl, rfl⟩, ⟨rfl, rfl, rfl⟩, trivial⟩) rfl rfl rfl (.inl rfl) rfl) rfl rfl (fun e => by first | exact .inl rfl | contradiction | exact .inr (.inl (by kernel_rfl))) ?_; conv => whnf))
  unfold edS
  generalize (nextS c s 4).2 = s1 at n1 ⊢
  generalize hn0 : (nextS c s 4).1 = n0 at n2 ⊢
  refine r_loop (ι := { p : Nat × Src × List Ent // p.2.1.ok (K + 1 + 2 * (3 - p.1)) ∧ p.1 ≤ 3 ∧ Good p.2.2 ∧ p.2.2.length + p.1 ≤ 3 ∧ entL c p.1 p.2.1 p.2.2 = entL c n0 s1 [] }) (fun p => ⟨[(0, .optr 0 0 [] 0), (3, .own 8), (4, .v (.int .i64 (p.1.1 : Int)))], [(0, srcO c p.1.2.1), (8, entO p.1.2.2)]⟩) (fun p => p.1.1) ⟨(n0, s1, []), n1.le (by omega), by omega, Good.nil, by simp; omega, rfl⟩ (by refine ⟨?_, ?_⟩ <;> (repeat (first | trivial | exact ⟨rfl, trivial⟩ | refine ⟨rfl, ?_⟩ | refine ⟨.inl ⟨rfl, rfl⟩, ?_⟩ | refine ⟨.inr ⟨_, _, rfl, rfl, rfl, rfl, rfl⟩, ?_⟩))) ?_
  rintro ⟨⟨n, s2, m⟩, h1, h2, h3, h4, h5⟩
  dsimp only at h1 h2 h3 h4 h5 ⊢
  conv => whnf
  cases n with
  | succ n =>
    obtain ⟨k1, k2⟩ := keyS_ok (c := c) h1
    obtain ⟨k3, k4⟩ := nextS_ok (c := c) (n := 9) k1 (by omega)
    have hk := ac_key (c := c) hc h1 (by omega)
    have hx := ac_next (n := 9) hc k1 (by omega) (by omega)
    have hl := putL_length m (keyS c s2).1 (nextS c (keyS c s2).2 9).1
    have hp := ac_l01Put (es := m) (k := (keyS c s2).1) (v := (nextS c (keyS c s2).2 9).1) (by omega)
    repeat (first | first | (refine r_put (p_bin (by first | exact b_lt_t (by omega) | exact b_lt_f (by omega) | exact b_le_t (by omega) | exact b_le_f (by omega) | exact b_gt_t (by omega) | exact b_gt_f (by omega) | exact b_ge_t (by omega) | exact b_ge_f (by omega) | exact b_eq_t (by omega) | exact b_eq_f (by omega) | exact b_ne_t (by omega) | exact b_ne_f (by omega) | exact b_sub rfl (by omega) (by omega) | exact b_add rfl (by omega) (by omega)) rfl rfl rfl) rfl rfl ?_; conv => whnf) | (refine r_put (p_idx (getA _ (by assumption)) rfl rfl rfl) rfl rfl ?_; conv => whnf) | (refine r_put (p_lenm rfl ⟨_, _, _, _, rfl⟩) rfl rfl ?_; conv => whnf) | (refine r_put (p_lenom rfl rfl ⟨_, _, _, _, rfl⟩) rfl rfl ?_; conv => whnf) | (refine r_put (p_len (y := .v (.string _)) rfl rfl rfl) rfl rfl ?_; conv => whnf) | (refine r_put (p_len rfl rfl ⟨_, _, _, _, rfl⟩) rfl rfl ?_; conv => whnf) | (refine r_step (p_callg [0] (hk) rfl rfl (by first | exact ⟨rfl, trivial⟩ | exact ⟨rfl, rfl, trivial⟩ | exact ⟨rfl, rfl, rfl, trivial⟩) rfl rfl (by first | exact trivial | exact ⟨⟨rfl, rfl, rfl⟩, trivial⟩ | exact ⟨⟨rfl, rfl, rfl⟩, ⟨rfl, rfl, rfl⟩, trivial⟩ | exact ⟨⟨rfl, rfl, rfl⟩, ⟨rfl, rfl, rfl⟩, ⟨rfl, rfl, rfl⟩, trivial⟩) rfl rfl rfl (.inl rfl) rfl) rfl rfl (fun e => by first | exact .inl rfl | contradiction | exact .inr (.inl (by kernel_rfl))) ?_; conv => whnf) | (refine r_step (p_callg [0] (hx) rfl rfl (by first | exact ⟨rfl, trivial⟩ | exact ⟨rfl, rfl, trivial⟩ | exact ⟨rfl, rfl, rfl, trivial⟩) rfl rfl (by first | exact trivial | exact ⟨⟨rfl, rfl, rfl⟩, trivial⟩ | exact ⟨⟨rfl, rfl, rfl⟩, ⟨rfl, rfl, rfl⟩, trivial⟩ | exact ⟨⟨rfl, rfl, rfl⟩, ⟨rfl, rfl, rfl⟩, ⟨rfl, rfl, rfl⟩, trivial⟩) rfl rfl rfl (.inl rfl) rfl) rfl rfl (fun e => by first | exact .inl rfl | contradiction | exact .inr (.inl (by kernel_rfl))) ?_; conv => whnf))
    refine o_step rfl rfl (p_call (hp) rfl (by first | exact .inl rfl | exact .inr ⟨by simp [flatA, flatL], by first | exact flat_o0 | exact flat_o1 (by first | exact flat_map flat_str _ | exact flat_map flat_ent _ | exact flat_map flat_edt _ | exact flat_map flat_ref _ | exact flat_map flat_int _ | exact flat_map flat_evt _) | exact flat_o2 (by first | exact flat_map flat_str _ | exact flat_map flat_ent _ | exact flat_map flat_edt _ | exact flat_map flat_ref _ | exact flat_map flat_int _ | exact flat_map flat_evt _) (by first | exact flat_map flat_str _ | exact flat_map flat_ent _ | exact flat_map flat_edt _ | exact flat_map flat_ref _ | exact flat_map flat_int _ | exact flat_map flat_evt _)⟩) (by first | exact trivial | exact ⟨⟨rfl, rfl, rfl⟩, trivial⟩ | exact ⟨⟨rfl, rfl, rfl⟩, ⟨rfl, rfl, rfl⟩, trivial⟩ | exact ⟨⟨rfl, rfl, rfl⟩, ⟨rfl, rfl, rfl⟩, ⟨rfl, rfl, rfl⟩, trivial⟩) rfl rfl) (fun e => by first | exact .inl rfl | contradiction | exact .inr (.inl (by kernel_rfl))) ?_
    refine r_step (p_asl 8 rfl rfl rfl) rfl rfl (fun e => by first | exact .inl rfl | contradiction | exact .inr (.inl (by kernel_rfl))) ?_; conv => whnf
    repeat (first | (refine r_put (p_bin (b_sub (c := (n : Int)) (by omega) (by omega) (by omega)) rfl rfl rfl) rfl rfl ?_; conv => whnf) | first | (refine r_put (p_bin (by first | exact b_lt_t (by omega) | exact b_lt_f (by omega) | exact b_le_t (by omega) | exact b_le_f (by omega) | exact b_gt_t (by omega) | exact b_gt_f (by omega) | exact b_ge_t (by omega) | exact b_ge_f (by omega) | exact b_eq_t (by omega) | exact b_eq_f (by omega) | exact b_ne_t (by omega) | exact b_ne_f (by omega) | exact b_sub rfl (by omega) (by omega) | exact b_add rfl (by omega) (by omega)) rfl rfl rfl) rfl rfl ?_; conv => whnf) | (refine r_put (p_idx (getA _ (by assumption)) rfl rfl rfl) rfl rfl ?_; conv => whnf) | (refine r_put (p_lenm rfl ⟨_, _, _, _, rfl⟩) rfl rfl ?_; conv => whnf) | (refine r_put (p_lenom rfl rfl ⟨_, _, _, _, rfl⟩) rfl rfl ?_; conv => whnf) | (refine r_put (p_len (y := .v (.string _)) rfl rfl rfl) rfl rfl ?_; conv => whnf) | (refine r_put (p_len rfl rfl ⟨_, _, _, _, rfl⟩) rfl rfl ?_; conv => whnf))
    exact ⟨⟨(n, (nextS c (keyS c s2).2 9).2, putL m (keyS c s2).1 (nextS c (keyS c s2).2 9).1), k3.le (by omega), by omega, h3.put k2 (by omega) (by omega), by simp; omega, h5⟩, by refine ⟨?_, ?_⟩ <;> (repeat (first | trivial | exact ⟨rfl, trivial⟩ | refine ⟨rfl, ?_⟩ | refine ⟨.inl ⟨rfl, rfl⟩, ?_⟩ | refine ⟨.inr ⟨_, _, rfl, rfl, rfl, rfl, rfl⟩, ?_⟩)), by simp⟩
  | zero =>
    have he : (m, s2) = entL c n0 s1 [] := h5
    rw [← he]
    repeat (first | (refine r_put (p_bin (by first | exact b_lt_t (by omega) | exact b_lt_f (by omega) | exact b_le_t (by omega) | exact b_le_f (by omega) | exact b_gt_t (by omega) | exact b_gt_f (by omega) | exact b_ge_t (by omega) | exact b_ge_f (by omega) | exact b_eq_t (by omega) | exact b_eq_f (by omega) | exact b_ne_t (by omega) | exact b_ne_f (by omega) | exact b_sub rfl (by omega) (by omega) | exact b_add rfl (by omega) (by omega)) rfl rfl rfl) rfl rfl ?_; conv => whnf) | (refine r_put (p_idx (getA _ (by assumption)) rfl rfl rfl) rfl rfl ?_; conv => whnf) | (refine r_put (p_lenm rfl ⟨_, _, _, _, rfl⟩) rfl rfl ?_; conv => whnf) | (refine r_put (p_lenom rfl rfl ⟨_, _, _, _, rfl⟩) rfl rfl ?_; conv => whnf) | (refine r_put (p_len (y := .v (.string _)) rfl rfl rfl) rfl rfl ?_; conv => whnf) | (refine r_put (p_len rfl rfl ⟨_, _, _, _, rfl⟩) rfl rfl ?_; conv => whnf))
    refine r_loop (ι := { p : Nat × Src × List Edt // p.2.1.ok (K + 7 + p.1) ∧ p.1 ≤ m.length ∧ p.2.2.length = p.1 ∧ edL c (m.drop p.1) p.2.1 p.2.2 = edL c m s2 [] }) (fun p => ⟨[(0, .optr 0 0 [] 0), (3, .own 8), (5, .own 21), (6, .v (.int .i64 (p.1.1 : Int)))], [(0, srcO c p.1.2.1), (8, entO m), (21, edtO p.1.2.2)]⟩) (fun p => m.length - p.1.1) ⟨(0, s2, []), h1.le (by omega), by omega, rfl, rfl⟩ (by refine ⟨?_, ?_⟩ <;> (repeat (first | trivial | exact ⟨rfl, trivial⟩ | refine ⟨rfl, ?_⟩ | refine ⟨.inl ⟨rfl, rfl⟩, ?_⟩ | refine ⟨.inr ⟨_, _, rfl, rfl, rfl, rfl, rfl⟩, ?_⟩))) ?_
    rintro ⟨⟨k, s3, out⟩, g1, g2, g3, g4⟩
    dsimp only at g1 g2 g3 g4 ⊢
    conv => whnf
    by_cases hlt : k < m.length
    case neg =>
      have hkk : k = m.length := by omega
      rw [hkk, List.drop_length] at g4
      rw [← g4]
      repeat (first | (refine r_put (p_bin (by first | exact b_lt_t (by omega) | exact b_lt_f (by omega) | exact b_le_t (by omega) | exact b_le_f (by omega) | exact b_gt_t (by omega) | exact b_gt_f (by omega) | exact b_ge_t (by omega) | exact b_ge_f (by omega) | exact b_eq_t (by omega) | exact b_eq_f (by omega) | exact b_ne_t (by omega) | exact b_ne_f (by omega) | exact b_sub rfl (by omega) (by omega) | exact b_add rfl (by omega) (by omega)) rfl rfl rfl) rfl rfl ?_; conv => whnf) | (refine r_put (p_idx (getA _ (by assumption)) rfl rfl rfl) rfl rfl ?_; conv => whnf) | (refine r_put (p_lenm rfl ⟨_, _, _, _, rfl⟩) rfl rfl ?_; conv => whnf) | (refine r_put (p_lenom rfl rfl ⟨_, _, _, _, rfl⟩) rfl rfl ?_; conv => whnf) | (refine r_put (p_len (y := .v (.string _)) rfl rfl rfl) rfl rfl ?_; conv => whnf) | (refine r_put (p_len rfl rfl ⟨_, _, _, _, rfl⟩) rfl rfl ?_; conv => whnf))
      exact r_own1s rfl rfl rfl
    rw [List.drop_eq_getElem_cons hlt, edL] at g4
    have hch := ac_chance (n := 3) hc g1 (by omega) (by omega) (by omega)
    obtain ⟨c1, c2⟩ := nextS_ok (c := c) (n := 3) g1 (by omega)
    have hi : (m.map entA)[k]? = some (entA m[k]) := by simp [hlt]
    repeat (first | first | (refine r_put (p_bin (by first | exact b_lt_t (by omega) | exact b_lt_f (by omega) | exact b_le_t (by omega) | exact b_le_f (by omega) | exact b_gt_t (by omega) | exact b_gt_f (by omega) | exact b_ge_t (by omega) | exact b_ge_f (by omega) | exact b_eq_t (by omega) | exact b_eq_f (by omega) | exact b_ne_t (by omega) | exact b_ne_f (by omega) | exact b_sub rfl (by omega) (by omega) | exact b_add rfl (by omega) (by omega)) rfl rfl rfl) rfl rfl ?_; conv => whnf) | (refine r_put (p_idx (getA _ (by assumption)) rfl rfl rfl) rfl rfl ?_; conv => whnf) | (refine r_put (p_lenm rfl ⟨_, _, _, _, rfl⟩) rfl rfl ?_; conv => whnf) | (refine r_put (p_lenom rfl rfl ⟨_, _, _, _, rfl⟩) rfl rfl ?_; conv => whnf) | (refine r_put (p_len (y := .v (.string _)) rfl rfl rfl) rfl rfl ?_; conv => whnf) | (refine r_put (p_len rfl rfl ⟨_, _, _, _, rfl⟩) rfl rfl ?_; conv => whnf) | (refine r_step (p_callg [0] (hch) rfl rfl (by first | exact ⟨rfl, trivial⟩ | exact ⟨rfl, rfl, trivial⟩ | exact ⟨rfl, rfl, rfl, trivial⟩) rfl rfl (by first | exact trivial | exact ⟨⟨rfl, rfl, rfl⟩, trivial⟩ | exact ⟨⟨rfl, rfl, rfl⟩, ⟨rfl, rfl, rfl⟩, trivial⟩ | exact ⟨⟨rfl, rfl, rfl⟩, ⟨rfl, rfl, rfl⟩, ⟨rfl, rfl, rfl⟩, trivial⟩) rfl rfl rfl (.inl rfl) rfl) rfl rfl (fun e => by first | exact .inl rfl | contradiction | exact .inr (.inl (by kernel_rfl))) ?_; conv => whnf))
    by_cases h2 : (nextS c s3 3).1 = 3 - 1
    · rw [decide_eq_true h2]
      have hg : goneS c s3 m[k] = ⟨m[k].1, 0, true⟩ := by unfold goneS; rw [if_pos (by omega)]
      rw [hg] at g4
      conv => whnf
      repeat (first | (refine r_put (p_bin (by first | exact b_lt_t (by omega) | exact b_lt_f (by omega) | exact b_le_t (by omega) | exact b_le_f (by omega) | exact b_gt_t (by omega) | exact b_gt_f (by omega) | exact b_ge_t (by omega) | exact b_ge_f (by omega) | exact b_eq_t (by omega) | exact b_eq_f (by omega) | exact b_ne_t (by omega) | exact b_ne_f (by omega) | exact b_sub rfl (by omega) (by omega) | exact b_add rfl (by omega) (by omega)) rfl rfl rfl) rfl rfl ?_; conv => whnf) | (refine r_put (p_idx (getA _ (by assumption)) rfl rfl rfl) rfl rfl ?_; conv => whnf) | (refine r_put (p_lenm rfl ⟨_, _, _, _, rfl⟩) rfl rfl ?_; conv => whnf) | (refine r_put (p_lenom rfl rfl ⟨_, _, _, _, rfl⟩) rfl rfl ?_; conv => whnf) | (refine r_put (p_len (y := .v (.string _)) rfl rfl rfl) rfl rfl ?_; conv => whnf) | (refine r_put (p_len rfl rfl ⟨_, _, _, _, rfl⟩) rfl rfl ?_; conv => whnf))
      refine o_put (p_oidx (by simpa using hlt) rfl rfl rfl rfl rfl) rfl rfl ?_
      refine o_put (p_ofld rfl rfl rfl) rfl rfl ?_
      refine r_put (p_old rfl rfl hi rfl rfl rfl rfl) rfl rfl ?_
      conv => whnf
      refine r_step (p_app1r (f := edtA) (xs := out) ⟨m[k].1, 0, true⟩ (out ++ [⟨m[k].1, 0, true⟩]) rfl (by omega) rfl rfl rfl rfl rfl rfl rfl) rfl rfl (fun e => by first | exact .inl rfl | contradiction | exact .inr (.inl (by kernel_rfl))) ?_
      conv => whnf
      repeat (first | (refine r_put (p_bin (by first | exact b_lt_t (by omega) | exact b_lt_f (by omega) | exact b_le_t (by omega) | exact b_le_f (by omega) | exact b_gt_t (by omega) | exact b_gt_f (by omega) | exact b_ge_t (by omega) | exact b_ge_f (by omega) | exact b_eq_t (by omega) | exact b_eq_f (by omega) | exact b_ne_t (by omega) | exact b_ne_f (by omega) | exact b_sub rfl (by omega) (by omega) | exact b_add rfl (by omega) (by omega)) rfl rfl rfl) rfl rfl ?_; conv => whnf) | (refine r_put (p_idx (getA _ (by assumption)) rfl rfl rfl) rfl rfl ?_; conv => whnf) | (refine r_put (p_lenm rfl ⟨_, _, _, _, rfl⟩) rfl rfl ?_; conv => whnf) | (refine r_put (p_lenom rfl rfl ⟨_, _, _, _, rfl⟩) rfl rfl ?_; conv => whnf) | (refine r_put (p_len (y := .v (.string _)) rfl rfl rfl) rfl rfl ?_; conv => whnf) | (refine r_put (p_len rfl rfl ⟨_, _, _, _, rfl⟩) rfl rfl ?_; conv => whnf))
      exact ⟨⟨(k + 1, (nextS c s3 3).2, out ++ [⟨m[k].1, 0, true⟩]), c1.le (by omega), by omega, by simp; omega, g4⟩, by refine ⟨?_, ?_⟩ <;> (repeat (first | trivial | exact ⟨rfl, trivial⟩ | refine ⟨rfl, ?_⟩ | refine ⟨.inl ⟨rfl, rfl⟩, ?_⟩ | refine ⟨.inr ⟨_, _, rfl, rfl, rfl, rfl, rfl⟩, ?_⟩)), by simp; omega⟩
    · rw [decide_eq_false h2]
      have hg : goneS c s3 m[k] = ⟨m[k].1, m[k].2, false⟩ := by unfold goneS; rw [if_neg (by omega)]
      rw [hg] at g4
      conv => whnf
      refine .inr ⟨by kernel_rfl, prodB_ok (by kernel_rfl), ?_⟩
      refine o2_calm (p_mv rfl) rfl rfl rfl (.inl rfl) (by kernel_rfl) ?_
      refine o2_calm (p_mv rfl) rfl rfl rfl (.inl rfl) (by kernel_rfl) ?_
      refine o2_calm (p_mv rfl) rfl rfl rfl (.inl rfl) (by kernel_rfl) ?_
      refine o2_sft (sft_rd (p_oidx (by simpa using hlt) rfl rfl rfl rfl rfl) rfl rfl) in_o0 rfl rfl (by kernel_rfl) ?_
      refine o2_calm (p_ofld rfl rfl rfl) rfl rfl rfl (.inl rfl) (by kernel_rfl) ?_
      refine o2_calm (p_old rfl rfl hi rfl rfl rfl rfl) rfl rfl rfl (.inr rfl) (by kernel_rfl) ?_
      refine o2_calm (p_mv rfl) rfl rfl rfl (.inl rfl) (by kernel_rfl) ?_
      refine o2_calm (p_mv rfl) rfl rfl rfl (.inl rfl) (by kernel_rfl) ?_
      refine o2_sft (sft_rd (p_oidx (by simpa using hlt) rfl rfl rfl rfl rfl) rfl rfl) in_o0 rfl rfl (by kernel_rfl) ?_
      refine o2_calm (p_ofld rfl rfl rfl) rfl rfl rfl (.inl rfl) (by kernel_rfl) ?_
      refine o2_calm (p_old rfl rfl hi rfl rfl rfl rfl) rfl rfl rfl (.inr rfl) (by kernel_rfl) ?_
      refine o2_sft (sft_bld rfl ⟨⟨_, rfl, rfl⟩, rfl, ⟨_, rfl, rfl⟩, rfl, trivial⟩ rfl rfl rfl) in_o0 rfl rfl (by kernel_rfl) ?_
      refine o2_sft (sft_bsd1 rfl rfl rfl rfl rfl) in_o1 rfl rfl (by kernel_rfl) ?_
      refine o2_tied (p_app1r (f := edtA) (xs := out) ⟨m[k].1, m[k].2, false⟩ (out ++ [⟨m[k].1, m[k].2, false⟩]) rfl (by omega) rfl rfl rfl rfl rfl rfl rfl) rfl rfl (by kernel_rfl) ?_
      refine o2_tied (p_as rfl) rfl rfl (by kernel_rfl) ?_
      refine o2_nil ?_
      conv => whnf
      repeat (first | (refine r_put (p_bin (by first | exact b_lt_t (by omega) | exact b_lt_f (by omega) | exact b_le_t (by omega) | exact b_le_f (by omega) | exact b_gt_t (by omega) | exact b_gt_f (by omega) | exact b_ge_t (by omega) | exact b_ge_f (by omega) | exact b_eq_t (by omega) | exact b_eq_f (by omega) | exact b_ne_t (by omega) | exact b_ne_f (by omega) | exact b_sub rfl (by omega) (by omega) | exact b_add rfl (by omega) (by omega)) rfl rfl rfl) rfl rfl ?_; conv => whnf) | (refine r_put (p_idx (getA _ (by assumption)) rfl rfl rfl) rfl rfl ?_; conv => whnf) | (refine r_put (p_lenm rfl ⟨_, _, _, _, rfl⟩) rfl rfl ?_; conv => whnf) | (refine r_put (p_lenom rfl rfl ⟨_, _, _, _, rfl⟩) rfl rfl ?_; conv => whnf) | (refine r_put (p_len (y := .v (.string _)) rfl rfl rfl) rfl rfl ?_; conv => whnf) | (refine r_put (p_len rfl rfl ⟨_, _, _, _, rfl⟩) rfl rfl ?_; conv => whnf))
      exact ⟨⟨(k + 1, (nextS c s3 3).2, out ++ [⟨m[k].1, m[k].2, false⟩]), c1.le (by omega), by omega, by simp; omega, g4⟩, by refine ⟨?_, ?_⟩ <;> (repeat (first | trivial | exact ⟨rfl, trivial⟩ | refine ⟨rfl, ?_⟩ | refine ⟨.inl ⟨rfl, rfl⟩, ?_⟩ | refine ⟨.inr ⟨_, _, rfl, rfl, rfl, rfl, rfl⟩, ?_⟩)), by simp; omega⟩
def src0 (c : List UInt8) : Src := ⟨0, ((c.length % 1000 : Nat) : Int)⟩
theorem src0_ok (c : List UInt8) : (src0 c).ok 0 := ⟨Nat.le_refl _, by unfold src0; simp only; omega, by unfold src0; simp only; omega⟩
theorem ac_source {c : List UInt8} (hc : c.length ≤ maxLen) : AC Try.prog 166 [.lst 1 (c.map bytA)] ⟨.optr 0 0 [] 0, [srcO c (src0 c)]⟩ := by
  unfold maxLen at hc
  have hm : ((c.length : Nat) : Int) % 1000 = ((c.length % 1000 : Nat) : Int) := by omega
  refine r_of Th_ok (by kernel_rfl) Try.func166 rfl Try.ntmps166 Try.results166 (by kernel_rfl) rfl ?_; conv => whnf
  repeat (first | (refine r_put (p_bin (b_rem2 (by omega) (by omega) hm) rfl rfl rfl) rfl rfl ?_; conv => whnf) | first | (refine r_put (p_bin (by first | exact b_lt_t (by omega) | exact b_lt_f (by omega) | exact b_le_t (by omega) | exact b_le_f (by omega) | exact b_gt_t (by omega) | exact b_gt_f (by omega) | exact b_ge_t (by omega) | exact b_ge_f (by omega) | exact b_eq_t (by omega) | exact b_eq_f (by omega) | exact b_ne_t (by omega) | exact b_ne_f (by omega) | exact b_sub rfl (by omega) (by omega) | exact b_add rfl (by omega) (by omega)) rfl rfl rfl) rfl rfl ?_; conv => whnf) | (refine r_put (p_idx (getA _ (by assumption)) rfl rfl rfl) rfl rfl ?_; conv => whnf) | (refine r_put (p_lenm rfl ⟨_, _, _, _, rfl⟩) rfl rfl ?_; conv => whnf) | (refine r_put (p_lenom rfl rfl ⟨_, _, _, _, rfl⟩) rfl rfl ?_; conv => whnf) | (refine r_put (p_len (y := .v (.string _)) rfl rfl rfl) rfl rfl ?_; conv => whnf) | (refine r_put (p_len rfl rfl ⟨_, _, _, _, rfl⟩) rfl rfl ?_; conv => whnf))
  exact r_ptr1 rfl rfl
noncomputable def entD (c : List UInt8) : List Ent := (entS c (src0 c)).1
noncomputable def edD (c : List UInt8) : List Edt := (edS c (src0 c)).1
theorem entD_ok (c : List UInt8) : Good (entD c) ∧ (entD c).length ≤ 5 := (entS_ok (src0_ok c)).2
theorem edD_ok (c : List UInt8) : GoodE (edD c) ∧ (edD c).length ≤ 3 := (edS_ok (src0_ok c)).2
theorem ac_EntriesDrawn {c : List UInt8} (hc : c.length ≤ maxLen) : AC Try.prog 59 [.lst 1 (c.map bytA)] ⟨.lst 2 ((entD c).map entA), []⟩ := by
  have h1 := ac_source hc
  have h2 := ac_entries hc (src0_ok c) (by omega)
  unfold entD
  refine r_of Th_ok (by kernel_rfl) Try.func59 rfl Try.ntmps59 Try.results59 (by kernel_rfl) rfl ?_; conv => whnf
  repeat (first | first | (refine r_put (p_bin (by first | exact b_lt_t (by omega) | exact b_lt_f (by omega) | exact b_le_t (by omega) | exact b_le_f (by omega) | exact b_gt_t (by omega) | exact b_gt_f (by omega) | exact b_ge_t (by omega) | exact b_ge_f (by omega) | exact b_eq_t (by omega) | exact b_eq_f (by omega) | exact b_ne_t (by omega) | exact b_ne_f (by omega) | exact b_sub rfl (by omega) (by omega) | exact b_add rfl (by omega) (by omega)) rfl rfl rfl) rfl rfl ?_; conv => whnf) | (refine r_put (p_idx (getA _ (by assumption)) rfl rfl rfl) rfl rfl ?_; conv => whnf) | (refine r_put (p_lenm rfl ⟨_, _, _, _, rfl⟩) rfl rfl ?_; conv => whnf) | (refine r_put (p_lenom rfl rfl ⟨_, _, _, _, rfl⟩) rfl rfl ?_; conv => whnf) | (refine r_put (p_len (y := .v (.string _)) rfl rfl rfl) rfl rfl ?_; conv => whnf) | (refine r_put (p_len rfl rfl ⟨_, _, _, _, rfl⟩) rfl rfl ?_; conv => whnf) | (refine r_step (p_callf (h1) rfl (by first | exact trivial | exact ⟨⟨rfl, rfl, rfl⟩, trivial⟩ | exact ⟨⟨rfl, rfl, rfl⟩, ⟨rfl, rfl, rfl⟩, trivial⟩ | exact ⟨⟨rfl, rfl, rfl⟩, ⟨rfl, rfl, rfl⟩, ⟨rfl, rfl, rfl⟩, trivial⟩) rfl rfl) rfl rfl (fun e => by first | exact .inl rfl | contradiction | exact .inr (.inl (by kernel_rfl))) ?_; conv => whnf))
  (refine r_step (p_callg [5] (h2) rfl rfl (by first | exact ⟨rfl, trivial⟩ | exact ⟨rfl, rfl, trivial⟩ | exact ⟨rfl, rfl, rfl, trivial⟩) rfl rfl (by first | exact trivial | exact ⟨⟨rfl, rfl, rfl⟩, trivial⟩ | exact ⟨⟨rfl, rfl, rfl⟩, ⟨rfl, rfl, rfl⟩, trivial⟩ | exact ⟨⟨rfl, rfl, rfl⟩, ⟨rfl, rfl, rfl⟩, ⟨rfl, rfl, rfl⟩, trivial⟩) rfl rfl rfl (.inl rfl) rfl) rfl rfl (fun e => by first | exact .inl rfl | contradiction | exact .inr (.inl (by kernel_rfl))) ?_; conv => whnf)
  repeat (first | (refine r_put (p_bin (by first | exact b_lt_t (by omega) | exact b_lt_f (by omega) | exact b_le_t (by omega) | exact b_le_f (by omega) | exact b_gt_t (by omega) | exact b_gt_f (by omega) | exact b_ge_t (by omega) | exact b_ge_f (by omega) | exact b_eq_t (by omega) | exact b_eq_f (by omega) | exact b_ne_t (by omega) | exact b_ne_f (by omega) | exact b_sub rfl (by omega) (by omega) | exact b_add rfl (by omega) (by omega)) rfl rfl rfl) rfl rfl ?_; conv => whnf) | (refine r_put (p_idx (getA _ (by assumption)) rfl rfl rfl) rfl rfl ?_; conv => whnf) | (refine r_put (p_lenm rfl ⟨_, _, _, _, rfl⟩) rfl rfl ?_; conv => whnf) | (refine r_put (p_lenom rfl rfl ⟨_, _, _, _, rfl⟩) rfl rfl ?_; conv => whnf) | (refine r_put (p_len (y := .v (.string _)) rfl rfl rfl) rfl rfl ?_; conv => whnf) | (refine r_put (p_len rfl rfl ⟨_, _, _, _, rfl⟩) rfl rfl ?_; conv => whnf))
  exact r_lst1 rfl rfl
theorem ac_EditsDrawn {c : List UInt8} (hc : c.length ≤ maxLen) : AC Try.prog 69 [.lst 1 (c.map bytA)] ⟨.lst 3 ((edD c).map edtA), []⟩ := by
  have h1 := ac_source hc
  have h2 := ac_edits hc (src0_ok c) (by omega)
  unfold edD
  refine r_of Th_ok (by kernel_rfl) Try.func69 rfl Try.ntmps69 Try.results69 (by kernel_rfl) rfl ?_; conv => whnf
  repeat (first | first | (refine r_put (p_bin (by first | exact b_lt_t (by omega) | exact b_lt_f (by omega) | exact b_le_t (by omega) | exact b_le_f (by omega) | exact b_gt_t (by omega) | exact b_gt_f (by omega) | exact b_ge_t (by omega) | exact b_ge_f (by omega) | exact b_eq_t (by omega) | exact b_eq_f (by omega) | exact b_ne_t (by omega) | exact b_ne_f (by omega) | exact b_sub rfl (by omega) (by omega) | exact b_add rfl (by omega) (by omega)) rfl rfl rfl) rfl rfl ?_; conv => whnf) | (refine r_put (p_idx (getA _ (by assumption)) rfl rfl rfl) rfl rfl ?_; conv => whnf) | (refine r_put (p_lenm rfl ⟨_, _, _, _, rfl⟩) rfl rfl ?_; conv => whnf) | (refine r_put (p_lenom rfl rfl ⟨_, _, _, _, rfl⟩) rfl rfl ?_; conv => whnf) | (refine r_put (p_len (y := .v (.string _)) rfl rfl rfl) rfl rfl ?_; conv => whnf) | (refine r_put (p_len rfl rfl ⟨_, _, _, _, rfl⟩) rfl rfl ?_; conv => whnf) | (refine r_step (p_callf (h1) rfl (by first | exact trivial | exact ⟨⟨rfl, rfl, rfl⟩, trivial⟩ | exact ⟨⟨rfl, rfl, rfl⟩, ⟨rfl, rfl, rfl⟩, trivial⟩ | exact ⟨⟨rfl, rfl, rfl⟩, ⟨rfl, rfl, rfl⟩, ⟨rfl, rfl, rfl⟩, trivial⟩) rfl rfl) rfl rfl (fun e => by first | exact .inl rfl | contradiction | exact .inr (.inl (by kernel_rfl))) ?_; conv => whnf))
  (refine r_step (p_callg [5] (h2) rfl rfl (by first | exact ⟨rfl, trivial⟩ | exact ⟨rfl, rfl, trivial⟩ | exact ⟨rfl, rfl, rfl, trivial⟩) rfl rfl (by first | exact trivial | exact ⟨⟨rfl, rfl, rfl⟩, trivial⟩ | exact ⟨⟨rfl, rfl, rfl⟩, ⟨rfl, rfl, rfl⟩, trivial⟩ | exact ⟨⟨rfl, rfl, rfl⟩, ⟨rfl, rfl, rfl⟩, ⟨rfl, rfl, rfl⟩, trivial⟩) rfl rfl rfl (.inl rfl) rfl) rfl rfl (fun e => by first | exact .inl rfl | contradiction | exact .inr (.inl (by kernel_rfl))) ?_; conv => whnf)
  repeat (first | (refine r_put (p_bin (by first | exact b_lt_t (by omega) | exact b_lt_f (by omega) | exact b_le_t (by omega) | exact b_le_f (by omega) | exact b_gt_t (by omega) | exact b_gt_f (by omega) | exact b_ge_t (by omega) | exact b_ge_f (by omega) | exact b_eq_t (by omega) | exact b_eq_f (by omega) | exact b_ne_t (by omega) | exact b_ne_f (by omega) | exact b_sub rfl (by omega) (by omega) | exact b_add rfl (by omega) (by omega)) rfl rfl rfl) rfl rfl ?_; conv => whnf) | (refine r_put (p_idx (getA _ (by assumption)) rfl rfl rfl) rfl rfl ?_; conv => whnf) | (refine r_put (p_lenm rfl ⟨_, _, _, _, rfl⟩) rfl rfl ?_; conv => whnf) | (refine r_put (p_lenom rfl rfl ⟨_, _, _, _, rfl⟩) rfl rfl ?_; conv => whnf) | (refine r_put (p_len (y := .v (.string _)) rfl rfl rfl) rfl rfl ?_; conv => whnf) | (refine r_put (p_len rfl rfl ⟨_, _, _, _, rfl⟩) rfl rfl ?_; conv => whnf))
  exact r_lst1 rfl rfl
theorem ac_SameMap_t {m : List Ent} (h : mapOK m = true) (hk : ∀ e ∈ m, e.1.size ≤ maxLen) : AC Try.prog 67 [.lst 2 (m.map entA), .lst 2 (m.map entA)] ⟨.v (.bool true), []⟩ := by
  have hl := mapOK_le h
  have hm : m.length ≤ maxLen := by unfold maxLen; omega
  have h1 := ac_implMapOK' h hm hk
  have h2 := ac_eqlEnts hm hm
  rw [decide_eq_true rfl] at h2
  refine r_of Th_ok (by kernel_rfl) Try.func67 rfl Try.ntmps67 Try.results67 (by kernel_rfl) rfl ?_; conv => whnf
  repeat (first | first | (refine r_put (p_bin (by first | exact b_lt_t (by omega) | exact b_lt_f (by omega) | exact b_le_t (by omega) | exact b_le_f (by omega) | exact b_gt_t (by omega) | exact b_gt_f (by omega) | exact b_ge_t (by omega) | exact b_ge_f (by omega) | exact b_eq_t (by omega) | exact b_eq_f (by omega) | exact b_ne_t (by omega) | exact b_ne_f (by omega) | exact b_sub rfl (by omega) (by omega) | exact b_add rfl (by omega) (by omega)) rfl rfl rfl) rfl rfl ?_; conv => whnf) | (refine r_put (p_idx (getA _ (by assumption)) rfl rfl rfl) rfl rfl ?_; conv => whnf) | (refine r_put (p_lenm rfl ⟨_, _, _, _, rfl⟩) rfl rfl ?_; conv => whnf) | (refine r_put (p_lenom rfl rfl ⟨_, _, _, _, rfl⟩) rfl rfl ?_; conv => whnf) | (refine r_put (p_len (y := .v (.string _)) rfl rfl rfl) rfl rfl ?_; conv => whnf) | (refine r_put (p_len rfl rfl ⟨_, _, _, _, rfl⟩) rfl rfl ?_; conv => whnf) | (refine r_step (p_call (h1) rfl (by first | exact .inl rfl | exact .inr ⟨by simp [flatA, flatL], by first | exact flat_o0 | exact flat_o1 (by first | exact flat_map flat_str _ | exact flat_map flat_ent _ | exact flat_map flat_edt _ | exact flat_map flat_ref _ | exact flat_map flat_int _ | exact flat_map flat_evt _) | exact flat_o2 (by first | exact flat_map flat_str _ | exact flat_map flat_ent _ | exact flat_map flat_edt _ | exact flat_map flat_ref _ | exact flat_map flat_int _ | exact flat_map flat_evt _) (by first | exact flat_map flat_str _ | exact flat_map flat_ent _ | exact flat_map flat_edt _ | exact flat_map flat_ref _ | exact flat_map flat_int _ | exact flat_map flat_evt _)⟩) (by first | exact trivial | exact ⟨⟨rfl, rfl, rfl⟩, trivial⟩ | exact ⟨⟨rfl, rfl, rfl⟩, ⟨rfl, rfl, rfl⟩, trivial⟩ | exact ⟨⟨rfl, rfl, rfl⟩, ⟨rfl, rfl, rfl⟩, ⟨rfl, rfl, rfl⟩, trivial⟩) rfl rfl) rfl rfl (fun e => by first | exact .inl rfl | contradiction | exact .inr (.inl (by kernel_rfl))) ?_; conv => whnf) | (refine r_step (p_call (h2) rfl (by first | exact .inl rfl | exact .inr ⟨by simp [flatA, flatL], by first | exact flat_o0 | exact flat_o1 (by first | exact flat_map flat_str _ | exact flat_map flat_ent _ | exact flat_map flat_edt _ | exact flat_map flat_ref _ | exact flat_map flat_int _ | exact flat_map flat_evt _) | exact flat_o2 (by first | exact flat_map flat_str _ | exact flat_map flat_ent _ | exact flat_map flat_edt _ | exact flat_map flat_ref _ | exact flat_map flat_int _ | exact flat_map flat_evt _) (by first | exact flat_map flat_str _ | exact flat_map flat_ent _ | exact flat_map flat_edt _ | exact flat_map flat_ref _ | exact flat_map flat_int _ | exact flat_map flat_evt _)⟩) (by first | exact trivial | exact ⟨⟨rfl, rfl, rfl⟩, trivial⟩ | exact ⟨⟨rfl, rfl, rfl⟩, ⟨rfl, rfl, rfl⟩, trivial⟩ | exact ⟨⟨rfl, rfl, rfl⟩, ⟨rfl, rfl, rfl⟩, ⟨rfl, rfl, rfl⟩, trivial⟩) rfl rfl) rfl rfl (fun e => by first | exact .inl rfl | contradiction | exact .inr (.inl (by kernel_rfl))) ?_; conv => whnf))
  exact r_ret1 rfl trivial
end Go.Proofs.Ytjhimcddgkoghaa.AM
