/- Texts of the machine over data, folded. -/
import Derived.Test.YtjhimcddgkoghaaKb5
import Derived.Test.YtjhimcddgkoghaaKb13
import Derived.Test.YtjhimcddgkoghaaKb11
namespace Go.Proofs.Ytjhimcddgkoghaa.AM
open Go Go.RowKit
set_option linter.unusedVariables false
set_option linter.unusedSimpArgs false
set_option maxRecDepth 100000
theorem bsF_max {F : Nat → Bool} : ∀ k j, F j = true → 1 ≤ j → j ≤ k → j ≤ bsF F k
  | 0, j, _, h1, h2 => by omega
  | k + 1, j, hf, h1, h2 => by
    unfold bsF
    split
    · exact h2
    · rename_i hn
      rcases Nat.lt_or_ge k j with q | q
      · have : j = k + 1 := by omega
        subst this; exact absurd hf hn
      · exact bsF_max k j hf h1 q
theorem bsF_at {F : Nat → Bool} (h : F 1 = true) : ∀ k, 1 ≤ k → F (bsF F k) = true
  | 0, h0 => by omega
  | 1, _ => by simp [bsF, h]
  | k + 2, _ => by
    unfold bsF
    split
    · rename_i hh; exact hh
    · exact bsF_at h (k + 1) (by omega)
theorem comF_comm (cs : List Cmt) (a b : Nat) : comF cs b a = comF cs a b := by
  funext k; unfold comF; rw [Bool.and_comm]
theorem baseN_comm (cs : List Cmt) (a b : Nat) : baseN cs b a = baseN cs a b := by unfold baseN; rw [comF_comm, Nat.min_comm]
theorem baseN_max {cs : List Cmt} (hb : stoB cs = true) {a b j : Nat} (h1 : 1 ≤ a) (h2 : 1 ≤ b) (h3 : ancB cs a j = true) (h4 : ancB cs b j = true) : j ≤ baseN cs a b := by
  have q1 := (ancB_t.1 h3).le hb h1
  have q2 := (ancB_t.1 h4).le hb h2
  unfold baseN
  exact bsF_max _ j (by unfold comF; rw [h3, h4]; rfl) q1.1 (by omega)
theorem baseN_at {cs : List Cmt} (hb : stoB cs = true) {a b : Nat} (h1 : 1 ≤ a) (h2 : a ≤ cs.length) (h3 : 1 ≤ b) (h4 : b ≤ cs.length) : ancB cs a (baseN cs a b) = true ∧ ancB cs b (baseN cs a b) = true := by
  have := bsF_at (comF_one hb h1 h2 h3 h4) (min a b) (by omega)
  unfold baseN
  unfold comF at this ⊢
  simpa only [Bool.and_eq_true] using this
theorem ancL_mem {f : Nat → Bool} : ∀ k (x : Int), x ∈ ancL f k ↔ ∃ j, j < k ∧ f j = true ∧ x = (j : Int)
  | 0, x => by simp [ancL]
  | k + 1, x => by
    unfold ancL
    split
    · rename_i h
      rw [List.mem_append, ancL_mem k x, List.mem_singleton]
      constructor
      · rintro (⟨j, h1, h2, h3⟩ | h3)
        · exact ⟨j, by omega, h2, h3⟩
        · exact ⟨k, by omega, h, h3⟩
      · rintro ⟨j, h1, h2, h3⟩
        rcases Nat.lt_or_ge j k with q | q
        · exact .inl ⟨j, q, h2, h3⟩
        · have : j = k := by omega
          subst this; exact .inr h3
    · rename_i h
      rw [ancL_mem k x]
      constructor
      · rintro ⟨j, h1, h2, h3⟩; exact ⟨j, by omega, h2, h3⟩
      · rintro ⟨j, h1, h2, h3⟩
        rcases Nat.lt_or_ge j k with q | q
        · exact ⟨j, q, h2, h3⟩
        · have : j = k := by omega
          subst this; exact absurd h2 h
/-- is i among the first k -/
def inK (l : List Int) (i : Int) (k : Nat) : Bool := decide (i ∈ l.take k)
theorem inK_0 (l : List Int) (i : Int) : inK l i 0 = false := by simp [inK]
theorem inK_succ {l : List Int} {i : Int} {k : Nat} (h : k < l.length) : inK l i (k + 1) = (inK l i k || decide (l[k] = i)) := by
  unfold inK
  rw [List.take_succ_eq_append_getElem h]
  simp only [List.mem_append, List.mem_singleton, Bool.decide_or]
  congr 1
  rw [decide_eq_decide]; exact eq_comm
theorem inK_all {f : Nat → Bool} {k n i : Nat} (hn : (ancL f k).length ≤ n) (hi : i < k) : inK (ancL f k) (i : Int) n = f i := by
  unfold inK
  rw [List.take_of_length_le hn]
  cases h : f i with
  | true => exact decide_eq_true ((ancL_mem k _).2 ⟨i, hi, h, rfl⟩)
  | false =>
    refine decide_eq_false fun q => ?_
    obtain ⟨j, h1, h2, h3⟩ := (ancL_mem k _).1 q
    have : i = j := by omega
    subst this; rw [h] at h2; cases h2
theorem flat_d1 {t sz : Nat} {xs : List AV} : ∀ ob ∈ [(⟨.d t, sz, xs⟩ : OB)], flatO ob := fun ob h => by rw [List.mem_singleton] at h; subst h; trivial
theorem askA_pre {cs : List Cmt} (hb : stoB cs = true) {ids : List Int} (h : ∀ x ∈ ids, idOK cs.length x) : askR cs ids = 0 := askR_ok (by have := (sto_len hb).2; omega) hb h
theorem b_bneR {P : Program} {t : TypeId} {x y : Operand} {a b r : Bool} (h : P.underlying t = some .bool) (hr : (a != b) = r) : BinOK P .neq t x y (.bool a) (.bool b) (.bool r) := hr ▸ b_bne h
attribute [local irreducible] ACode AOps AOps2 RetG RetM Pre ACG
theorem ac_sameInts_t {xs : List Int} (hm : xs.length ≤ 1048576) : AC Try.prog 89 [.lst 1 (xs.map intA), .lst 1 (xs.map intA)] ⟨.v (.bool true), []⟩ := by
  refine r_of Th_ok (by kernel_rfl) Try.func89 rfl Try.ntmps89 Try.results89 (by kernel_rfl) rfl ?_; conv => whnf
  repeat (((first | refine qb rfl rfl ?_ | refine qi (by assumption) rfl rfl ?_ | refine ql rfl ?_ | refine qo rfl rfl ?_ | refine qs rfl rfl ?_ | refine qn rfl rfl ?_); conv => whnf))
  refine r_loop (ι := { k : Nat // k ≤ xs.length }) (fun k => ⟨[(0, .lst 1 (xs.map intA)), (1, .lst 1 (xs.map intA)), (5, .v (.int .i64 (k.1 : Int)))], []⟩) (fun k => xs.length - k.1) ⟨0, Nat.zero_le _⟩ (by refine ⟨?_, ?_⟩ <;> (repeat (first | trivial | exact ⟨rfl, trivial⟩ | refine ⟨rfl, ?_⟩ | refine ⟨.inl ⟨rfl, rfl⟩, ?_⟩ | refine ⟨.inr ⟨_, _, rfl, rfl, rfl, rfl, rfl⟩, ?_⟩))) ?_
  rintro ⟨k, hk⟩
  dsimp only
  conv => whnf
  by_cases hlt : k < xs.length
  · repeat (((first | refine qb rfl rfl ?_ | refine qi (by assumption) rfl rfl ?_ | refine ql rfl ?_ | refine qo rfl rfl ?_ | refine qs rfl rfl ?_ | refine qn rfl rfl ?_); conv => whnf))
    refine .inl ⟨by kernel_rfl, ?_⟩
    conv => whnf
    repeat (first | (refine r_put (p_bin (b_ne_f rfl) rfl rfl rfl) rfl rfl ?_; conv => whnf) | ((first | refine qb rfl rfl ?_ | refine qi (by assumption) rfl rfl ?_ | refine ql rfl ?_ | refine qo rfl rfl ?_ | refine qs rfl rfl ?_ | refine qn rfl rfl ?_); conv => whnf))
    exact ⟨⟨k + 1, hlt⟩, by refine ⟨?_, ?_⟩ <;> (repeat (first | trivial | exact ⟨rfl, trivial⟩ | refine ⟨rfl, ?_⟩ | refine ⟨.inl ⟨rfl, rfl⟩, ?_⟩ | refine ⟨.inr ⟨_, _, rfl, rfl, rfl, rfl, rfl⟩, ?_⟩)), by simp; omega⟩
  · repeat (((first | refine qb rfl rfl ?_ | refine qi (by assumption) rfl rfl ?_ | refine ql rfl ?_ | refine qo rfl rfl ?_ | refine qs rfl rfl ?_ | refine qn rfl rfl ?_); conv => whnf))
    exact r_ret1 rfl trivial
set_option maxHeartbeats 8000000 in
theorem law_Commits {c m : List UInt8} (hc : c.length ≤ maxLen) (hm : m.length ≤ maxLen) : AC Try.prog 14 [.lst 1 (c.map bytA), .lst 1 (m.map bytA)] ⟨.v (.bool true), []⟩ := by
  have hc' := hc
  have hm' := hm
  unfold maxLen at hc' hm'
  by_cases l0 : 1048576 < c.length
  · refine r_of Th_ok (by kernel_rfl) Try.func14 rfl Try.ntmps14 Try.results14 (by kernel_rfl) rfl ?_; conv => whnf
    repeat (((first | refine qb rfl rfl ?_ | refine qi (by assumption) rfl rfl ?_ | refine ql rfl ?_ | refine qo rfl rfl ?_ | refine qs rfl rfl ?_ | refine qn rfl rfl ?_); conv => whnf))
    exact r_ret1 rfl trivial
  by_cases l1 : 1048576 < m.length
  · refine r_of Th_ok (by kernel_rfl) Try.func14 rfl Try.ntmps14 Try.results14 (by kernel_rfl) rfl ?_; conv => whnf
    repeat (((first | refine qb rfl rfl ?_ | refine qi (by assumption) rfl rfl ?_ | refine ql rfl ?_ | refine qo rfl rfl ?_ | refine qs rfl rfl ?_ | refine qn rfl rfl ?_); conv => whnf))
    exact r_ret1 rfl trivial
  have e1 := ac_StoreDrawn hc
  obtain ⟨g, gl⟩ := stoD_ok c
  generalize stoD c = cs at *
  have hpos := g.pos
  have e2 := ac_at (i := 0) (n := cs.length) hm (by omega) (by omega)
  have e3 := ac_at (i := 1) (n := cs.length) hm (by omega) (by omega)
  have at0 := atS_lt (m := m) (i := 0) (n := cs.length) (by omega)
  have at1 := atS_lt (m := m) (i := 1) (n := cs.length) (by omega)
  generalize atS m 0 cs.length = A0 at *
  generalize atS m 1 cs.length = B0 at *
  obtain ⟨A, hA⟩ : ∃ A, A = A0 + 1 := ⟨_, rfl⟩
  obtain ⟨B, hB⟩ : ∃ B, B = B0 + 1 := ⟨_, rfl⟩
  have hb := g.sto (by omega)
  have hcm : comOK maxLen cs := g.comOK.le (by unfold maxLen; omega)
  have hml : cs.length ≤ maxLen := by unfold maxLen; omega
  have kA1 : askR cs [(A : Int)] = 0 := askA_pre hb (by intro x hx; simp at hx; subst hx; exact ⟨by omega, by omega⟩)
  have kAB : askR cs [(A : Int), (B : Int)] = 0 := askA_pre hb (by intro x hx; simp at hx; rcases hx with rfl | rfl <;> exact ⟨by omega, by omega⟩)
  have kBA : askR cs [(B : Int), (A : Int)] = 0 := askA_pre hb (by intro x hx; simp at hx; rcases hx with rfl | rfl <;> exact ⟨by omega, by omega⟩)
  have a1 := ac_iAncestorsOf (id := (A : Int)) hml hcm
  have a2 := ac_sAncestorsOf (id := (A : Int)) hml hcm
  have a3 := ac_iBaseOf (a := (A : Int)) (b := (B : Int)) hml hcm
  have a4 := ac_sBaseOf (a := (A : Int)) (b := (B : Int)) hml hcm
  have a5 := ac_iBaseOf (a := (B : Int)) (b := (A : Int)) hml hcm
  have a6 := ac_iMergeCommits (a := (A : Int)) (b := (B : Int)) hml hcm
  have a7 := ac_sMergeCommits (a := (A : Int)) (b := (B : Int)) hml hcm
  have a8 := ac_iFirstLine (id := (A : Int)) hml hcm
  have a9 := ac_sFirstLine (id := (A : Int)) hml hcm
  have a10 := ac_iStoreOK hml hcm
  rw [hb] at a10
  have rA : ancR cs (A : Int) = (ancL (ancB cs A) (A + 1), 0) := by unfold ancR; rw [if_pos kA1]; rfl
  have rB : baseR cs (A : Int) (B : Int) = ((baseN cs A B : Nat) : Int) := by unfold baseR; rw [if_pos kAB]; rfl
  have rB' : baseR cs (B : Int) (A : Int) = ((baseN cs A B : Nat) : Int) := by unfold baseR; rw [if_pos kBA, ← baseN_comm cs A B]; rfl
  have rL : lineR cs (A : Int) = (lineN cs A, 0) := by unfold lineR; rw [if_pos kA1]; rfl
  have hMl := mcR_bd cs (A : Int) (B : Int)
  have hGM : (mcR cs (A : Int) (B : Int)).2.2 = 0 → Good (mcR cs (A : Int) (B : Int)).1 := fun h => by
    unfold mcR at h ⊢
    rw [if_pos kAB] at h ⊢
    have gg := (g.mp (baseN cs (A : Int).toNat (B : Int).toNat)).mrg (g.mp (A : Int).toNat) (g.mp (B : Int).toNat)
    unfold toldR at h ⊢
    split
    · rename_i hh; rw [if_pos hh] at h; cases h
    · rename_i hh
      rw [if_neg hh] at h
      split
      · exact Good.nil
      · exact gg
  have hSM : (mcR cs (A : Int) (B : Int)).2.2 = 0 → AC Try.prog 67 [.lst 2 ((mcR cs (A : Int) (B : Int)).1.map entA), .lst 2 ((mcR cs (A : Int) (B : Int)).1.map entA)] ⟨.v (.bool true), []⟩ := fun h => ac_SameMap_t ((hGM h).ok hMl.1) (hGM h).small
  have hWl := ancL_len (f := ancB cs A) (A + 1)
  have hLl := lineN_len cs A
  have hD := baseN_at hb (a := A) (b := B) (by omega) (by omega) (by omega) (by omega)
  have hDi := baseN_in hb (a := A) (b := B) (by omega) (by omega) (by omega) (by omega)
  have hmax : ∀ j, ancB cs A j = true → ancB cs B j = true → j ≤ baseN cs A B := fun j => baseN_max hb (by omega) (by omega)
  have hall : ∀ i, inK (ancL (ancB cs A) (A + 1)) ((i : Nat) : Int) (ancL (ancB cs A) (A + 1)).length = ancB cs A i := fun i => by
    rcases Nat.lt_or_ge i (A + 1) with q | q
    · exact inK_all (Nat.le_refl _) q
    · rw [ancB_out hb (by omega) (.inl (by omega))]
      unfold inK
      rw [List.take_length]
      refine decide_eq_false fun h => ?_
      obtain ⟨j, h1, h2, h3⟩ := (ancL_mem _ _).1 h
      omega
  have hIA : ∀ i, 1 ≤ i → i ≤ cs.length → AC Try.prog 91 [.lst 2 (cs.map comA), .v (.int .i64 ((i : Nat) : Int)), .v (.int .i64 ((A : Nat) : Int))] ⟨.tup [.v (.bool (ancB cs A i)), .v (.int .i64 0)], []⟩ := fun i h1 h2 => by
    have h := ac_iIsAncestor (a := (i : Int)) (b := (A : Int)) hml hcm
    have hk : askR cs [(i : Int), (A : Int)] = 0 := askA_pre hb (by intro x hx; simp at hx; rcases hx with rfl | rfl <;> exact ⟨by omega, by omega⟩)
    have hi : isAncR cs (i : Int) (A : Int) = ancB cs A i := by unfold isAncR; rw [if_pos hk]; rfl
    rw [hk, hi] at h; exact h
  have hIB : ∀ i, 1 ≤ i → i ≤ cs.length → AC Try.prog 91 [.lst 2 (cs.map comA), .v (.int .i64 ((i : Nat) : Int)), .v (.int .i64 ((B : Nat) : Int))] ⟨.tup [.v (.bool (ancB cs B i)), .v (.int .i64 0)], []⟩ := fun i h1 h2 => by
    have h := ac_iIsAncestor (a := (i : Int)) (b := (B : Int)) hml hcm
    have hk : askR cs [(i : Int), (B : Int)] = 0 := askA_pre hb (by intro x hx; simp at hx; rcases hx with rfl | rfl <;> exact ⟨by omega, by omega⟩)
    have hi : isAncR cs (i : Int) (B : Int) = ancB cs B i := by unfold isAncR; rw [if_pos hk]; rfl
    rw [hk, hi] at h; exact h
  rw [rA] at a1 a2
  rw [rB, kAB] at a3 a4
  rw [rB', kBA] at a5
  rw [rL] at a8 a9
  dsimp only at a1 a2 a3 a4 a5 a8 a9
  have t1 := ac_sameInts_t (xs := ancL (ancB cs A) (A + 1)) (by omega)
  have t2 := ac_sameTexts_t (xs := (mcR cs (A : Int) (B : Int)).2.1) (by omega)
  have t3 := ac_sameInts_t (xs := lineN cs A) (by omega)
  have gA : comB cs.length ([(A : Int)], mpN cs B) = true := comB_one (by omega) (by omega) (g.mp B)
  have hadd : addB cs ([(A : Int)], mpN cs B) = true := by unfold addB; rw [decide_eq_true (by omega), g.coms, gA]; rfl
  have gX := g.snoc gA (g.mp B) (by simp)
  have hX : stoB (cs ++ [([(A : Int)], mpN cs B)]) = true := gX.sto (by simp; omega)
  have hcX : comOK maxLen (cs ++ [([(A : Int)], mpN cs B)]) := gX.comOK.le (by unfold maxLen; omega)
  have hc1 : comOK 1048576 [([(A : Int)], mpN cs B)] := fun x hx => gX.comOK.le (by omega) x (List.mem_append_right _ hx)
  have k1 := ac_iAdd_ok (g.comOK.le (by omega)) hc1 hadd (by omega)
  have k2 := ac_sAdd_ok (g.comOK.le (by omega)) hc1 hadd (by omega)
  have hXl : (cs ++ [([(A : Int)], mpN cs B)]).length ≤ maxLen := by unfold maxLen; simp; omega
  have k3 := ac_iSameStore hXl hXl hcX hcX
  have hsm : samB (cs ++ [([(A : Int)], mpN cs B)]) (cs ++ [([(A : Int)], mpN cs B)]) = true := by unfold samB; rw [hX]; simp
  rw [hsm] at k3
  have hBl : B - 1 < cs.length := by omega
  have hib : (cs.map comA)[B - 1]? = some (.agg [.lst 1 ((cs[B - 1]).1.map intA), .lst 2 ((mpN cs B).map entA)]) := by rw [mpN_eq hBl, List.getElem?_map, List.getElem?_eq_getElem hBl]; rfl
  clear hX hcX hc1 hsm hadd gA gX
  generalize mpN cs B = mB at *
  generalize (mcR cs (A : Int) (B : Int)).1 = M at *
  generalize (mcR cs (A : Int) (B : Int)).2.1 = Ks at *
  generalize (mcR cs (A : Int) (B : Int)).2.2 = cd at *
  generalize ancL (ancB cs A) (A + 1) = W at *
  generalize lineN cs A = L at *
  generalize baseN cs A B = D at *
  as_aux_lemma =>
    refine o_of Th_ok (by kernel_rfl) Try.func14 rfl Try.ntmps14 Try.results14 (by kernel_rfl) rfl ?_
    refine c_seq ?_
    refine runC_sound _ _ _ ?_
    conv => whnf
    repeat (first | ((first | refine qb rfl rfl ?_ | refine qi (by assumption) rfl rfl ?_ | refine ql rfl ?_ | refine qo rfl rfl ?_ | refine qs rfl rfl ?_ | refine qn rfl rfl ?_); conv => whnf))
    refine c_seq ?_
    refine runC_sound _ _ _ ?_
    conv => whnf
    repeat (first | ((first | refine qb rfl rfl ?_ | refine qi (by assumption) rfl rfl ?_ | refine ql rfl ?_ | refine qo rfl rfl ?_ | refine qs rfl rfl ?_ | refine qn rfl rfl ?_); conv => whnf))
    refine c_cut (ι := Unit) (fun _ => ⟨[(1, .lst 1 (m.map bytA)), (5, .lst 2 (cs.map comA))], [], []⟩) ?_ (fun _ => ?_)
    · refine runC_sound _ _ _ ?_
      conv => whnf
      repeat (first | (refine qf (e1) rfl ?_; conv => whnf) | ((first | refine qb rfl rfl ?_ | refine qi (by assumption) rfl rfl ?_ | refine ql rfl ?_ | refine qo rfl rfl ?_ | refine qs rfl rfl ?_ | refine qn rfl rfl ?_); conv => whnf))
      exact ⟨(), ⟨by refine ⟨?_, ?_⟩ <;> (repeat (first | trivial | exact ⟨rfl, trivial⟩ | refine ⟨rfl, ?_⟩ | refine ⟨.inl ⟨rfl, rfl⟩, ?_⟩ | refine ⟨.inr ⟨_, _, rfl, rfl, rfl, rfl, rfl⟩, ?_⟩)), trivial⟩⟩
    refine c_cut (ι := Unit) (fun _ => ⟨[(1, .lst 1 (m.map bytA)), (5, .lst 2 (cs.map comA)), (6, .v (.int .i64 ((A : Nat) : Int)))], [], []⟩) ?_ (fun _ => ?_)
    · refine runC_sound _ _ _ ?_
      conv => whnf
      repeat (first | (refine qc (e2) rfl ?_; conv => whnf) | (refine r_put (p_bin (b_add (c := ((A : Nat) : Int)) (by omega) (by omega) (by omega)) rfl rfl rfl) rfl rfl ?_; conv => whnf) | ((first | refine qb rfl rfl ?_ | refine qi (by assumption) rfl rfl ?_ | refine ql rfl ?_ | refine qo rfl rfl ?_ | refine qs rfl rfl ?_ | refine qn rfl rfl ?_); conv => whnf))
      exact ⟨(), ⟨by refine ⟨?_, ?_⟩ <;> (repeat (first | trivial | exact ⟨rfl, trivial⟩ | refine ⟨rfl, ?_⟩ | refine ⟨.inl ⟨rfl, rfl⟩, ?_⟩ | refine ⟨.inr ⟨_, _, rfl, rfl, rfl, rfl, rfl⟩, ?_⟩)), trivial⟩⟩
    refine c_cut (ι := Unit) (fun _ => ⟨[(5, .lst 2 (cs.map comA)), (6, .v (.int .i64 ((A : Nat) : Int))), (7, .v (.int .i64 ((B : Nat) : Int)))], [], []⟩) ?_ (fun _ => ?_)
    · refine runC_sound _ _ _ ?_
      conv => whnf
      repeat (first | (refine qc (e3) rfl ?_; conv => whnf) | (refine r_put (p_bin (b_add (c := ((B : Nat) : Int)) (by omega) (by omega) (by omega)) rfl rfl rfl) rfl rfl ?_; conv => whnf) | ((first | refine qb rfl rfl ?_ | refine qi (by assumption) rfl rfl ?_ | refine ql rfl ?_ | refine qo rfl rfl ?_ | refine qs rfl rfl ?_ | refine qn rfl rfl ?_); conv => whnf))
      exact ⟨(), ⟨by refine ⟨?_, ?_⟩ <;> (repeat (first | trivial | exact ⟨rfl, trivial⟩ | refine ⟨rfl, ?_⟩ | refine ⟨.inl ⟨rfl, rfl⟩, ?_⟩ | refine ⟨.inr ⟨_, _, rfl, rfl, rfl, rfl, rfl⟩, ?_⟩)), trivial⟩⟩
    refine c_seq ?_
    refine runC_sound _ _ _ ?_
    conv => whnf
    repeat (first | (refine qc (a1) rfl ?_; conv => whnf) | ((first | refine qb rfl rfl ?_ | refine qi (by assumption) rfl rfl ?_ | refine ql rfl ?_ | refine qo rfl rfl ?_ | refine qs rfl rfl ?_ | refine qn rfl rfl ?_); conv => whnf))
    refine c_seq ?_
    refine runC_sound _ _ _ ?_
    conv => whnf
    repeat (first | (refine qc (a2) rfl ?_; conv => whnf) | ((first | refine qb rfl rfl ?_ | refine qi (by assumption) rfl rfl ?_ | refine ql rfl ?_ | refine qo rfl rfl ?_ | refine qs rfl rfl ?_ | refine qn rfl rfl ?_); conv => whnf))
    refine c_cut (ι := Unit) (fun _ => ⟨[(5, .lst 2 (cs.map comA)), (6, .v (.int .i64 ((A : Nat) : Int))), (7, .v (.int .i64 ((B : Nat) : Int))), (8, .lst 1 (W.map intA)), (9, .v (.int .i64 0)), (10, .lst 1 (W.map intA)), (12, .v (.int .i64 ((D : Nat) : Int))), (13, .v (.int .i64 0))], [], []⟩) ?_ (fun _ => ?_)
    · refine runC_sound _ _ _ ?_
      conv => whnf
      repeat (first | (refine qc (a3) rfl ?_; conv => whnf) | ((first | refine qb rfl rfl ?_ | refine qi (by assumption) rfl rfl ?_ | refine ql rfl ?_ | refine qo rfl rfl ?_ | refine qs rfl rfl ?_ | refine qn rfl rfl ?_); conv => whnf))
      exact ⟨(), ⟨by refine ⟨?_, ?_⟩ <;> (repeat (first | trivial | exact ⟨rfl, trivial⟩ | refine ⟨rfl, ?_⟩ | refine ⟨.inl ⟨rfl, rfl⟩, ?_⟩ | refine ⟨.inr ⟨_, _, rfl, rfl, rfl, rfl, rfl⟩, ?_⟩)), trivial⟩⟩
    refine c_seq ?_
    refine runC_sound _ _ _ ?_
    conv => whnf
    repeat (first | (refine qc (a4) rfl ?_; conv => whnf) | ((first | refine qb rfl rfl ?_ | refine qi (by assumption) rfl rfl ?_ | refine ql rfl ?_ | refine qo rfl rfl ?_ | refine qs rfl rfl ?_ | refine qn rfl rfl ?_); conv => whnf))
    refine c_seq ?_
    refine runC_sound _ _ _ ?_
    conv => whnf
    repeat (first | (refine qc (a5) rfl ?_; conv => whnf) | ((first | refine qb rfl rfl ?_ | refine qi (by assumption) rfl rfl ?_ | refine ql rfl ?_ | refine qo rfl rfl ?_ | refine qs rfl rfl ?_ | refine qn rfl rfl ?_); conv => whnf))
    refine c_cut (ι := Unit) (fun _ => ⟨[(5, .lst 2 (cs.map comA)), (6, .v (.int .i64 ((A : Nat) : Int))), (7, .v (.int .i64 ((B : Nat) : Int))), (8, .lst 1 (W.map intA)), (9, .v (.int .i64 0)), (10, .lst 1 (W.map intA)), (12, .v (.int .i64 ((D : Nat) : Int))), (13, .v (.int .i64 0)), (14, .v (.int .i64 ((D : Nat) : Int))), (16, .v (.int .i64 ((D : Nat) : Int))), (17, .v (.int .i64 0)), (18, .lst 2 (M.map entA)), (19, .lst 1 (Ks.map strA)), (20, .v (.int .i64 cd))], [], []⟩) ?_ (fun _ => ?_)
    · refine runC_sound _ _ _ ?_
      conv => whnf
      repeat (first | (refine qc (a6) rfl ?_; conv => whnf) | ((first | refine qb rfl rfl ?_ | refine qi (by assumption) rfl rfl ?_ | refine ql rfl ?_ | refine qo rfl rfl ?_ | refine qs rfl rfl ?_ | refine qn rfl rfl ?_); conv => whnf))
      exact ⟨(), ⟨by refine ⟨?_, ?_⟩ <;> (repeat (first | trivial | exact ⟨rfl, trivial⟩ | refine ⟨rfl, ?_⟩ | refine ⟨.inl ⟨rfl, rfl⟩, ?_⟩ | refine ⟨.inr ⟨_, _, rfl, rfl, rfl, rfl, rfl⟩, ?_⟩)), trivial⟩⟩
    refine c_seq ?_
    refine runC_sound _ _ _ ?_
    conv => whnf
    repeat (first | (refine qf (a7) rfl ?_; conv => whnf) | ((first | refine qb rfl rfl ?_ | refine qi (by assumption) rfl rfl ?_ | refine ql rfl ?_ | refine qo rfl rfl ?_ | refine qs rfl rfl ?_ | refine qn rfl rfl ?_); conv => whnf))
    refine c_seq ?_
    refine runC_sound _ _ _ ?_
    conv => whnf
    repeat (first | (refine qc (a8) rfl ?_; conv => whnf) | ((first | refine qb rfl rfl ?_ | refine qi (by assumption) rfl rfl ?_ | refine ql rfl ?_ | refine qo rfl rfl ?_ | refine qs rfl rfl ?_ | refine qn rfl rfl ?_); conv => whnf))
    refine c_cut (ι := Unit) (fun _ => ⟨[(5, .lst 2 (cs.map comA)), (6, .v (.int .i64 ((A : Nat) : Int))), (7, .v (.int .i64 ((B : Nat) : Int))), (8, .lst 1 (W.map intA)), (9, .v (.int .i64 0)), (10, .lst 1 (W.map intA)), (12, .v (.int .i64 ((D : Nat) : Int))), (13, .v (.int .i64 0)), (14, .v (.int .i64 ((D : Nat) : Int))), (16, .v (.int .i64 ((D : Nat) : Int))), (17, .v (.int .i64 0)), (18, .lst 2 (M.map entA)), (19, .lst 1 (Ks.map strA)), (20, .v (.int .i64 cd)), (21, .lst 2 (M.map entA)), (22, .lst 1 (Ks.map strA)), (23, .v (.int .i64 cd)), (24, .lst 1 (L.map intA)), (25, .v (.int .i64 0)), (26, .lst 1 (L.map intA))], [], []⟩) ?_ (fun _ => ?_)
    · refine runC_sound _ _ _ ?_
      conv => whnf
      repeat (first | (refine qc (a9) rfl ?_; conv => whnf) | ((first | refine qb rfl rfl ?_ | refine qi (by assumption) rfl rfl ?_ | refine ql rfl ?_ | refine qo rfl rfl ?_ | refine qs rfl rfl ?_ | refine qn rfl rfl ?_); conv => whnf))
      exact ⟨(), ⟨by refine ⟨?_, ?_⟩ <;> (repeat (first | trivial | exact ⟨rfl, trivial⟩ | refine ⟨rfl, ?_⟩ | refine ⟨.inl ⟨rfl, rfl⟩, ?_⟩ | refine ⟨.inr ⟨_, _, rfl, rfl, rfl, rfl, rfl⟩, ?_⟩)), trivial⟩⟩
    refine c_cut (ι := Unit) (fun _ => ⟨[(5, .lst 2 (cs.map comA)), (6, .v (.int .i64 ((A : Nat) : Int))), (7, .v (.int .i64 ((B : Nat) : Int))), (10, .lst 1 (W.map intA)), (14, .v (.int .i64 ((D : Nat) : Int)))], [], []⟩) ?_ (fun _ => ?_)
    · clear hall hmax hIA hIB hGM hD hDi e1 e2 e3 a1 a2 a3 a4 a5 a6 a7 a8 a9 kA1 kAB kBA rA rB rB' rL
      by_cases hcd : cd = 0
      · have sM := hSM hcd
        refine runC_sound _ _ _ ?_
        conv => whnf
        repeat (first | (refine r_put (p_bin (b_ne_f rfl) rfl rfl rfl) rfl rfl ?_; conv => whnf) | (refine qc (t1) rfl ?_; conv => whnf) | (refine qc (t2) rfl ?_; conv => whnf) | (refine qc (t3) rfl ?_; conv => whnf) | (refine qc (a10) rfl ?_; conv => whnf) | (refine qc (sM) rfl ?_; conv => whnf) | ((first | refine qb rfl rfl ?_ | refine qi (by assumption) rfl rfl ?_ | refine ql rfl ?_ | refine qo rfl rfl ?_ | refine qs rfl rfl ?_ | refine qn rfl rfl ?_); conv => whnf))
        exact ⟨(), ⟨by refine ⟨?_, ?_⟩ <;> (repeat (first | trivial | exact ⟨rfl, trivial⟩ | refine ⟨rfl, ?_⟩ | refine ⟨.inl ⟨rfl, rfl⟩, ?_⟩ | refine ⟨.inr ⟨_, _, rfl, rfl, rfl, rfl, rfl⟩, ?_⟩)), trivial⟩⟩
      · clear hSM
        refine runC_sound _ _ _ ?_
        conv => whnf
        repeat (first | (refine r_put (p_bin (b_ne_f rfl) rfl rfl rfl) rfl rfl ?_; conv => whnf) | (refine qc (t1) rfl ?_; conv => whnf) | (refine qc (t2) rfl ?_; conv => whnf) | (refine qc (t3) rfl ?_; conv => whnf) | (refine qc (a10) rfl ?_; conv => whnf) | ((first | refine qb rfl rfl ?_ | refine qi (by assumption) rfl rfl ?_ | refine ql rfl ?_ | refine qo rfl rfl ?_ | refine qs rfl rfl ?_ | refine qn rfl rfl ?_); conv => whnf))
        exact ⟨(), ⟨by refine ⟨?_, ?_⟩ <;> (repeat (first | trivial | exact ⟨rfl, trivial⟩ | refine ⟨rfl, ?_⟩ | refine ⟨.inl ⟨rfl, rfl⟩, ?_⟩ | refine ⟨.inr ⟨_, _, rfl, rfl, rfl, rfl, rfl⟩, ?_⟩)), trivial⟩⟩
    clear a1 a2 a3 a4 a5 a6 a7 a8 a9 e1 e2 e3 t1 t2 t3 a10 hGM hSM kA1 kAB kBA rA rB rB' rL
    refine c_seq ?_
    refine c_seq ?_
    refine runC_sound _ _ _ ?_
    conv => whnf
    repeat (first | ((first | refine qb rfl rfl ?_ | refine qi (by assumption) rfl rfl ?_ | refine ql rfl ?_ | refine qo rfl rfl ?_ | refine qs rfl rfl ?_ | refine qn rfl rfl ?_); conv => whnf))
    repeat (first | refine c_block ?_ | refine q_then ?_)
    refine c_loop (fun i : { k : Nat // k ≤ cs.length } => ⟨[(5, .lst 2 (cs.map comA)), (6, .v (.int .i64 ((A : Nat) : Int))), (7, .v (.int .i64 ((B : Nat) : Int))), (10, .lst 1 (W.map intA)), (14, .v (.int .i64 ((D : Nat) : Int))), (28, .v (.int .i64 ((i.1 + 1 : Nat) : Int)))], [], []⟩) (fun i => cs.length - i.1) ⟨0, Nat.zero_le _⟩ ⟨by refine ⟨?_, ?_⟩ <;> (repeat (first | trivial | exact ⟨rfl, trivial⟩ | refine ⟨rfl, ?_⟩ | refine ⟨.inl ⟨rfl, rfl⟩, ?_⟩ | refine ⟨.inr ⟨_, _, rfl, rfl, rfl, rfl, rfl⟩, ?_⟩)), trivial⟩ ?_
    rintro ⟨k, hk⟩
    dsimp only
    by_cases hlt : k < cs.length
    · have i1 := hIA (k + 1) (by omega) (by omega)
      have i2 := hIB (k + 1) (by omega) (by omega)
      have hmx : ancB cs A (k + 1) = true → ancB cs B (k + 1) = true → k + 1 ≤ D := fun h1 h2 => hmax (k + 1) h1 h2
      have hatD : k + 1 = D → ancB cs A (k + 1) = true ∧ ancB cs B (k + 1) = true := fun h => by rw [h]; exact hD
      have hin0 : false = inK W ((k + 1 : Nat) : Int) 0 := (inK_0 _ _).symm
      have hinl : inK W ((k + 1 : Nat) : Int) W.length = ancB cs A (k + 1) := hall (k + 1)
      generalize ancB cs A (k + 1) = P at *
      generalize ancB cs B (k + 1) = Q at *
      clear hall hmax hIA hIB hD
      refine c_seq ?_
      refine runC_sound _ _ _ ?_
      conv => whnf
      repeat (first | (refine r_put (p_bin (b_le_t (by simp; omega)) rfl rfl rfl) rfl rfl ?_; conv => whnf) | ((first | refine qb rfl rfl ?_ | refine qi (by assumption) rfl rfl ?_ | refine ql rfl ?_ | refine qo rfl rfl ?_ | refine qs rfl rfl ?_ | refine qn rfl rfl ?_); conv => whnf))
      refine c_seq (c_block ?_)
      refine c_seq ?_
      refine runC_sound _ _ _ ?_
      conv => whnf
      repeat (first | (refine qc (i1) rfl ?_; conv => whnf) | ((first | refine qb rfl rfl ?_ | refine qi (by assumption) rfl rfl ?_ | refine ql rfl ?_ | refine qo rfl rfl ?_ | refine qs rfl rfl ?_ | refine qn rfl rfl ?_); conv => whnf))
      refine c_seq ?_
      refine runC_sound _ _ _ ?_
      conv => whnf
      repeat (first | (refine qc (i2) rfl ?_; conv => whnf) | ((first | refine qb rfl rfl ?_ | refine qi (by assumption) rfl rfl ?_ | refine ql rfl ?_ | refine qo rfl rfl ?_ | refine qs rfl rfl ?_ | refine qn rfl rfl ?_); conv => whnf))
      refine c_seq ?_
      refine runC_sound _ _ _ ?_
      conv => whnf
      repeat (first | ((first | refine qb rfl rfl ?_ | refine qi (by assumption) rfl rfl ?_ | refine ql rfl ?_ | refine qo rfl rfl ?_ | refine qs rfl rfl ?_ | refine qn rfl rfl ?_); conv => whnf))
      refine c_cut (ι := Unit) (fun _ => ⟨[(5, .lst 2 (cs.map comA)), (6, .v (.int .i64 ((A : Nat) : Int))), (7, .v (.int .i64 ((B : Nat) : Int))), (10, .lst 1 (W.map intA)), (14, .v (.int .i64 ((D : Nat) : Int))), (28, .v (.int .i64 ((k + 1 : Nat) : Int))), (29, .v (.bool P)), (30, .v (.int .i64 0)), (31, .v (.bool Q)), (32, .v (.int .i64 0)), (33, .v (.bool P))], [], []⟩) ?_ (fun _ => ?_)
      · refine c_seq ?_
        refine runC_sound _ _ _ ?_
        conv => whnf
        repeat (first | ((first | refine qb rfl rfl ?_ | refine qi (by assumption) rfl rfl ?_ | refine ql rfl ?_ | refine qo rfl rfl ?_ | refine qs rfl rfl ?_ | refine qn rfl rfl ?_); conv => whnf))
        repeat (first | refine c_block ?_ | refine q_then ?_)
        refine c_loop (fun i : { p : Nat × Bool // p.1 ≤ W.length ∧ p.2 = inK W ((k + 1 : Nat) : Int) p.1 } => ⟨[(5, .lst 2 (cs.map comA)), (6, .v (.int .i64 ((A : Nat) : Int))), (7, .v (.int .i64 ((B : Nat) : Int))), (10, .lst 1 (W.map intA)), (14, .v (.int .i64 ((D : Nat) : Int))), (28, .v (.int .i64 ((k + 1 : Nat) : Int))), (29, .v (.bool P)), (30, .v (.int .i64 0)), (31, .v (.bool Q)), (32, .v (.int .i64 0)), (33, .v (.bool i.1.2)), (34, .v (.int .i64 ((i.1.1 : Nat) : Int)))], [], []⟩) (fun i => W.length - i.1.1) ⟨(0, false), Nat.zero_le _, hin0⟩ ⟨by refine ⟨?_, ?_⟩ <;> (repeat (first | trivial | exact ⟨rfl, trivial⟩ | refine ⟨rfl, ?_⟩ | refine ⟨.inl ⟨rfl, rfl⟩, ?_⟩ | refine ⟨.inr ⟨_, _, rfl, rfl, rfl, rfl, rfl⟩, ?_⟩)), trivial⟩ ?_
        rintro ⟨⟨n, x⟩, hn, hx⟩
        dsimp only at hn hx ⊢
        by_cases hl : n < W.length
        · have hs := inK_succ (i := ((k + 1 : Nat) : Int)) hl
          rw [← hx] at hs
          cases x with
          | true =>
            refine runC_sound _ _ _ ?_
            conv => whnf
            repeat (first | (refine r_put (p_bin (b_add (c := ((n + 1 : Nat) : Int)) (by omega) (by omega) (by omega)) rfl rfl rfl) rfl rfl ?_; conv => whnf) | ((first | refine qb rfl rfl ?_ | refine qi (by assumption) rfl rfl ?_ | refine ql rfl ?_ | refine qo rfl rfl ?_ | refine qs rfl rfl ?_ | refine qn rfl rfl ?_); conv => whnf))
            exact ⟨⟨(n + 1, true), hl, by rw [hs]; rfl⟩, ⟨by refine ⟨?_, ?_⟩ <;> (repeat (first | trivial | exact ⟨rfl, trivial⟩ | refine ⟨rfl, ?_⟩ | refine ⟨.inl ⟨rfl, rfl⟩, ?_⟩ | refine ⟨.inr ⟨_, _, rfl, rfl, rfl, rfl, rfl⟩, ?_⟩)), trivial⟩, by simp; omega⟩
          | false =>
            by_cases he : W[n] = ((k + 1 : Nat) : Int)
            · rw [decide_eq_true he] at hs
              refine runC_sound _ _ _ ?_
              conv => whnf
              repeat (first | (refine r_put (p_bin (b_eq_t he) rfl rfl rfl) rfl rfl ?_; conv => whnf) | (refine r_put (p_bin (b_add (c := ((n + 1 : Nat) : Int)) (by omega) (by omega) (by omega)) rfl rfl rfl) rfl rfl ?_; conv => whnf) | ((first | refine qb rfl rfl ?_ | refine qi (by assumption) rfl rfl ?_ | refine ql rfl ?_ | refine qo rfl rfl ?_ | refine qs rfl rfl ?_ | refine qn rfl rfl ?_); conv => whnf))
              exact ⟨⟨(n + 1, true), hl, by rw [hs]; rfl⟩, ⟨by refine ⟨?_, ?_⟩ <;> (repeat (first | trivial | exact ⟨rfl, trivial⟩ | refine ⟨rfl, ?_⟩ | refine ⟨.inl ⟨rfl, rfl⟩, ?_⟩ | refine ⟨.inr ⟨_, _, rfl, rfl, rfl, rfl, rfl⟩, ?_⟩)), trivial⟩, by simp; omega⟩
            · rw [decide_eq_false he] at hs
              refine runC_sound _ _ _ ?_
              conv => whnf
              repeat (first | (refine r_put (p_bin (b_eq_f he) rfl rfl rfl) rfl rfl ?_; conv => whnf) | (refine r_put (p_bin (b_add (c := ((n + 1 : Nat) : Int)) (by omega) (by omega) (by omega)) rfl rfl rfl) rfl rfl ?_; conv => whnf) | ((first | refine qb rfl rfl ?_ | refine qi (by assumption) rfl rfl ?_ | refine ql rfl ?_ | refine qo rfl rfl ?_ | refine qs rfl rfl ?_ | refine qn rfl rfl ?_); conv => whnf))
              exact ⟨⟨(n + 1, false), hl, by rw [hs]; rfl⟩, ⟨by refine ⟨?_, ?_⟩ <;> (repeat (first | trivial | exact ⟨rfl, trivial⟩ | refine ⟨rfl, ?_⟩ | refine ⟨.inl ⟨rfl, rfl⟩, ?_⟩ | refine ⟨.inr ⟨_, _, rfl, rfl, rfl, rfl, rfl⟩, ?_⟩)), trivial⟩, by simp; omega⟩
        · have hkk : n = W.length := by omega
          subst hkk
          have hxP : x = P := hx.trans hinl
          subst hxP
          refine runC_sound _ _ _ ?_
          conv => whnf
          repeat (first | ((first | refine qb rfl rfl ?_ | refine qi (by assumption) rfl rfl ?_ | refine ql rfl ?_ | refine qo rfl rfl ?_ | refine qs rfl rfl ?_ | refine qn rfl rfl ?_); conv => whnf))
          exact ⟨(), ⟨by refine ⟨?_, ?_⟩ <;> (repeat (first | trivial | exact ⟨rfl, trivial⟩ | refine ⟨rfl, ?_⟩ | refine ⟨.inl ⟨rfl, rfl⟩, ?_⟩ | refine ⟨.inr ⟨_, _, rfl, rfl, rfl, rfl, rfl⟩, ?_⟩)), trivial⟩⟩
      cases P with
      | true =>
        cases Q with
        | true =>
          have q1 := hmx rfl rfl
          by_cases q2 : k + 1 = D
          · refine runC_sound _ _ _ ?_
            conv => whnf
            repeat (first | (refine r_put (p_bin (b_bneR (r := false) Try.underlying4 (by rfl)) rfl rfl rfl) rfl rfl ?_; conv => whnf) | ((first | refine qb rfl rfl ?_ | refine qi (by assumption) rfl rfl ?_ | refine ql rfl ?_ | refine qo rfl rfl ?_ | refine qs rfl rfl ?_ | refine qn rfl rfl ?_); conv => whnf))
            refine runC_sound _ _ _ ?_
            conv => whnf
            repeat (first | (refine r_put (p_bin (b_add (c := ((k + 1 + 1 : Nat) : Int)) (by omega) (by omega) (by omega)) rfl rfl rfl) rfl rfl ?_; conv => whnf) | ((first | refine qb rfl rfl ?_ | refine qi (by assumption) rfl rfl ?_ | refine ql rfl ?_ | refine qo rfl rfl ?_ | refine qs rfl rfl ?_ | refine qn rfl rfl ?_); conv => whnf))
            exact ⟨⟨k + 1, hlt⟩, ⟨by refine ⟨?_, ?_⟩ <;> (repeat (first | trivial | exact ⟨rfl, trivial⟩ | refine ⟨rfl, ?_⟩ | refine ⟨.inl ⟨rfl, rfl⟩, ?_⟩ | refine ⟨.inr ⟨_, _, rfl, rfl, rfl, rfl, rfl⟩, ?_⟩)), trivial⟩, by simp; omega⟩
          · refine runC_sound _ _ _ ?_
            conv => whnf
            repeat (first | (refine r_put (p_bin (b_bneR (r := false) Try.underlying4 (by rfl)) rfl rfl rfl) rfl rfl ?_; conv => whnf) | ((first | refine qb rfl rfl ?_ | refine qi (by assumption) rfl rfl ?_ | refine ql rfl ?_ | refine qo rfl rfl ?_ | refine qs rfl rfl ?_ | refine qn rfl rfl ?_); conv => whnf))
            refine runC_sound _ _ _ ?_
            conv => whnf
            repeat (first | (refine r_put (p_bin (b_add (c := ((k + 1 + 1 : Nat) : Int)) (by omega) (by omega) (by omega)) rfl rfl rfl) rfl rfl ?_; conv => whnf) | ((first | refine qb rfl rfl ?_ | refine qi (by assumption) rfl rfl ?_ | refine ql rfl ?_ | refine qo rfl rfl ?_ | refine qs rfl rfl ?_ | refine qn rfl rfl ?_); conv => whnf))
            exact ⟨⟨k + 1, hlt⟩, ⟨by refine ⟨?_, ?_⟩ <;> (repeat (first | trivial | exact ⟨rfl, trivial⟩ | refine ⟨rfl, ?_⟩ | refine ⟨.inl ⟨rfl, rfl⟩, ?_⟩ | refine ⟨.inr ⟨_, _, rfl, rfl, rfl, rfl, rfl⟩, ?_⟩)), trivial⟩, by simp; omega⟩
        | false =>
          have q1 : k + 1 ≠ D := fun h => by have := (hatD h).2; cases this
          refine runC_sound _ _ _ ?_
          conv => whnf
          repeat (first | (refine r_put (p_bin (b_bneR (r := false) Try.underlying4 (by rfl)) rfl rfl rfl) rfl rfl ?_; conv => whnf) | ((first | refine qb rfl rfl ?_ | refine qi (by assumption) rfl rfl ?_ | refine ql rfl ?_ | refine qo rfl rfl ?_ | refine qs rfl rfl ?_ | refine qn rfl rfl ?_); conv => whnf))
          refine runC_sound _ _ _ ?_
          conv => whnf
          repeat (first | (refine r_put (p_bin (b_add (c := ((k + 1 + 1 : Nat) : Int)) (by omega) (by omega) (by omega)) rfl rfl rfl) rfl rfl ?_; conv => whnf) | ((first | refine qb rfl rfl ?_ | refine qi (by assumption) rfl rfl ?_ | refine ql rfl ?_ | refine qo rfl rfl ?_ | refine qs rfl rfl ?_ | refine qn rfl rfl ?_); conv => whnf))
          exact ⟨⟨k + 1, hlt⟩, ⟨by refine ⟨?_, ?_⟩ <;> (repeat (first | trivial | exact ⟨rfl, trivial⟩ | refine ⟨rfl, ?_⟩ | refine ⟨.inl ⟨rfl, rfl⟩, ?_⟩ | refine ⟨.inr ⟨_, _, rfl, rfl, rfl, rfl, rfl⟩, ?_⟩)), trivial⟩, by simp; omega⟩
      | false =>
        have q1 : k + 1 ≠ D := fun h => by have := (hatD h).1; cases this
        refine runC_sound _ _ _ ?_
        conv => whnf
        repeat (first | (refine r_put (p_bin (b_bneR (r := false) Try.underlying4 (by rfl)) rfl rfl rfl) rfl rfl ?_; conv => whnf) | ((first | refine qb rfl rfl ?_ | refine qi (by assumption) rfl rfl ?_ | refine ql rfl ?_ | refine qo rfl rfl ?_ | refine qs rfl rfl ?_ | refine qn rfl rfl ?_); conv => whnf))
        refine runC_sound _ _ _ ?_
        conv => whnf
        repeat (first | (refine r_put (p_bin (b_add (c := ((k + 1 + 1 : Nat) : Int)) (by omega) (by omega) (by omega)) rfl rfl rfl) rfl rfl ?_; conv => whnf) | ((first | refine qb rfl rfl ?_ | refine qi (by assumption) rfl rfl ?_ | refine ql rfl ?_ | refine qo rfl rfl ?_ | refine qs rfl rfl ?_ | refine qn rfl rfl ?_); conv => whnf))
        exact ⟨⟨k + 1, hlt⟩, ⟨by refine ⟨?_, ?_⟩ <;> (repeat (first | trivial | exact ⟨rfl, trivial⟩ | refine ⟨rfl, ?_⟩ | refine ⟨.inl ⟨rfl, rfl⟩, ?_⟩ | refine ⟨.inr ⟨_, _, rfl, rfl, rfl, rfl, rfl⟩, ?_⟩)), trivial⟩, by simp; omega⟩

    · have hkk : k = cs.length := by omega
      subst hkk
      clear hall hmax hIA hIB hD
      refine runC_sound _ _ _ ?_
      conv => whnf
      repeat (first | (refine r_put (p_bin (b_le_f (by simp; omega)) rfl rfl rfl) rfl rfl ?_; conv => whnf) | ((first | refine qb rfl rfl ?_ | refine qi (by assumption) rfl rfl ?_ | refine ql rfl ?_ | refine qo rfl rfl ?_ | refine qs rfl rfl ?_ | refine qn rfl rfl ?_); conv => whnf))
      refine c_cut (ι := Unit) (fun _ => ⟨[(5, .lst 2 (cs.map comA)), (6, .v (.int .i64 ((A : Nat) : Int))), (7, .v (.int .i64 ((B : Nat) : Int))), (35, .own 266), (36, .v (.int .i64 ((cs.length + 1 : Nat) : Int))), (37, .v (.int .i64 0))], [(266, ⟨.d 142, 2, (cs ++ [([(A : Int)], mB)]).map comA⟩)], []⟩) ?_ (fun _ => ?_)
      · refine runC_sound _ _ _ ?_
        conv => whnf
        repeat (first | (refine r_put (p_bin (b_sub (c := ((B - 1 : Nat) : Int)) (by omega) (by omega) (by omega)) rfl rfl rfl) rfl rfl ?_; conv => whnf) | (refine r_put (p_idx hib rfl rfl rfl) rfl rfl ?_; conv => whnf) | ((first | refine qb rfl rfl ?_ | refine qi (by assumption) rfl rfl ?_ | refine ql rfl ?_ | refine qo rfl rfl ?_ | refine qs rfl rfl ?_ | refine qn rfl rfl ?_); conv => whnf))
        refine r_step (p_buildm rfl ⟨⟨_, _, rfl, rfl, rfl⟩, ⟨_, _, rfl, rfl, rfl⟩, trivial⟩ rfl) rfl rfl (fun e => by first | exact .inl rfl | contradiction | exact .inr (.inl (by kernel_rfl))) ?_
        conv => whnf
        repeat (first | (refine r_step (p_call k1 rfl (.inr ⟨by simp [flatA, flatL], flat_d1⟩) (by first | exact trivial | exact ⟨⟨rfl, rfl, rfl⟩, trivial⟩ | exact ⟨⟨rfl, rfl, rfl⟩, ⟨rfl, rfl, rfl⟩, trivial⟩ | exact ⟨⟨rfl, rfl, rfl⟩, ⟨rfl, rfl, rfl⟩, ⟨rfl, rfl, rfl⟩, trivial⟩) rfl rfl) rfl rfl (fun e => by first | exact .inl rfl | contradiction | exact .inr (.inl (by kernel_rfl))) ?_; conv => whnf) | ((first | refine qb rfl rfl ?_ | refine qi (by assumption) rfl rfl ?_ | refine ql rfl ?_ | refine qo rfl rfl ?_ | refine qs rfl rfl ?_ | refine qn rfl rfl ?_); conv => whnf))
        exact ⟨(), ⟨by refine ⟨?_, ?_⟩ <;> (repeat (first | trivial | exact ⟨rfl, trivial⟩ | refine ⟨rfl, ?_⟩ | refine ⟨.inl ⟨rfl, rfl⟩, ?_⟩ | refine ⟨.inr ⟨_, _, rfl, rfl, rfl, rfl, rfl⟩, ?_⟩)), trivial⟩⟩
      refine c_seq ?_
      refine runC_sound _ _ _ ?_
      conv => whnf
      repeat (first | (refine r_put (p_bin (b_sub (c := ((B - 1 : Nat) : Int)) (by omega) (by omega) (by omega)) rfl rfl rfl) rfl rfl ?_; conv => whnf) | (refine r_put (p_idx hib rfl rfl rfl) rfl rfl ?_; conv => whnf) | ((first | refine qb rfl rfl ?_ | refine qi (by assumption) rfl rfl ?_ | refine ql rfl ?_ | refine qo rfl rfl ?_ | refine qs rfl rfl ?_ | refine qn rfl rfl ?_); conv => whnf))
      refine r_step (p_buildm rfl ⟨⟨_, _, rfl, rfl, rfl⟩, ⟨_, _, rfl, rfl, rfl⟩, trivial⟩ rfl) rfl rfl (fun e => by first | exact .inl rfl | contradiction | exact .inr (.inl (by kernel_rfl))) ?_
      conv => whnf
      repeat (first | (refine r_step (p_call k2 rfl (.inr ⟨by simp [flatA, flatL], flat_d1⟩) (by first | exact trivial | exact ⟨⟨rfl, rfl, rfl⟩, trivial⟩ | exact ⟨⟨rfl, rfl, rfl⟩, ⟨rfl, rfl, rfl⟩, trivial⟩ | exact ⟨⟨rfl, rfl, rfl⟩, ⟨rfl, rfl, rfl⟩, ⟨rfl, rfl, rfl⟩, trivial⟩) rfl rfl) rfl rfl (fun e => by first | exact .inl rfl | contradiction | exact .inr (.inl (by kernel_rfl))) ?_; conv => whnf) | ((first | refine qb rfl rfl ?_ | refine qi (by assumption) rfl rfl ?_ | refine ql rfl ?_ | refine qo rfl rfl ?_ | refine qs rfl rfl ?_ | refine qn rfl rfl ?_); conv => whnf))
      refine runC_sound _ _ _ ?_
      conv => whnf
      repeat (first | (refine qc (k3) rfl ?_; conv => whnf) | (refine r_put (p_bin (b_add (c := ((cs.length + 1 : Nat) : Int)) (by omega) (by omega) (by omega)) rfl rfl rfl) rfl rfl ?_; conv => whnf) | (refine r_put (p_bin (b_eq_t rfl) rfl rfl rfl) rfl rfl ?_; conv => whnf) | ((first | refine qb rfl rfl ?_ | refine qi (by assumption) rfl rfl ?_ | refine ql rfl ?_ | refine qo rfl rfl ?_ | refine qs rfl rfl ?_ | refine qn rfl rfl ?_); conv => whnf))
      exact r_ret1 rfl trivial

end Go.Proofs.Ytjhimcddgkoghaa.AM
