/- Texts of the machine over data, folded. -/
import Derived.Test.YtjhimcddgkoghaaKb5
import Derived.Test.YtjhimcddgkoghaaKb11
import Derived.Test.YtjhimcddgkoghaaKb10
import Derived.Test.YtjhimcddgkoghaaKb9
import Derived.Test.YtjhimcddgkoghaaKb8
/- Rules of the machine: soft changes of rows, nodes; the nodes of a store. -/
namespace Go.Proofs.Ytjhimcddgkoghaa.AM
open Go Go.RowKit
set_option linter.unusedVariables false
set_option linter.unusedSimpArgs false
set_option maxRecDepth 100000
theorem nodeA_fuel {cs : List Cmt} (hb : stoB cs = true) : ∀ (n m id : Nat), 1 ≤ id → id ≤ n → id ≤ m → id ≤ cs.length → nodeA cs n id = nodeA cs m id := by
  intro n
  induction n with
  | zero => intro m id h1 h2; omega
  | succ n ih =>
    intro m id h1 h2 h3 h4
    obtain ⟨m, rfl⟩ : ∃ m', m = m' + 1 := ⟨m - 1, by omega⟩
    have : (parsN cs id).map (fun p => AV.ptr (nodeA cs n p)) = (parsN cs id).map fun p => .ptr (nodeA cs m p) := List.map_congr_left fun p hp => by
      obtain ⟨q1, q2⟩ := parsN_lt hb h1 h4 p hp
      rw [ih m p q1 (by omega) (by omega) (by omega)]
    simp only [nodeA]
    rw [this]
def ndE (cs : List Cmt) (i j : Nat) : AV := if j < i then .ptr (nodeA cs (j + 1) (j + 1)) else .v (.pointer none)
def ndL (cs : List Cmt) (i n : Nat) : List AV := (List.range n).map (ndE cs i)
theorem ndL_len {cs : List Cmt} {i n : Nat} : (ndL cs i n).length = n := by simp [ndL]
theorem ndL_at {cs : List Cmt} {i n j : Nat} (h : j < n) : (ndL cs i n)[j]? = some (ndE cs i j) := by simp [ndL, h]
theorem ndL_rep {cs : List Cmt} {n : Nat} : List.replicate n (AV.v (.pointer none)) = ndL cs 0 n := by
  apply List.ext_getElem
  · simp [ndL]
  · intro i h1 h2; simp [ndL, ndE]
theorem ndL_set {cs : List Cmt} {i n : Nat} (h : i < n) : (ndL cs i n).set i (.ptr (nodeA cs (i + 1) (i + 1))) = ndL cs (i + 1) n := by
  apply List.ext_getElem
  · simp [ndL]
  · intro j h1 h2
    rw [List.getElem_set]
    split
    · rename_i e; subst e; simp [ndL, ndE]
    · rename_i e
      simp only [ndL, List.getElem_map, List.getElem_range, ndE]
      have : j < i ↔ j < i + 1 := by omega
      simp [this]
theorem ndL_get {cs : List Cmt} (hb : stoB cs = true) {i n p : Nat} (h0 : 1 ≤ p) (h1 : p ≤ i) (h2 : i ≤ n) (h3 : i ≤ cs.length) : (ndL cs i n)[p - 1]? = some (.ptr (nodeA cs i p)) := by
  rw [ndL_at (by omega), ndE, if_pos (by omega)]
  have : p - 1 + 1 = p := by omega
  rw [this, nodeA_fuel hb p i p h0 (Nat.le_refl _) h1 (by omega)]
attribute [local irreducible] ACode AOps AOps2 RetG RetM Pre ACG
theorem ac_nodeOf {cs : List Cmt} {id : Nat} (hb : stoB cs = true) (h1 : 1 ≤ id) (h2 : id ≤ cs.length) : AC Try.prog 183 [.lst 2 (cs.map comA), .v (.int .i64 (id : Int))] ⟨.ptr (nodeA cs id id), []⟩ := by
  obtain ⟨hl1, hl2⟩ := sto_len hb
  refine r_of Th_ok (by kernel_rfl) Try.func183 rfl Try.ntmps183 Try.results183 (by kernel_rfl) rfl ?_; conv => whnf
  repeat (first | ((first | refine qb rfl rfl ?_ | refine qi (by assumption) rfl rfl ?_ | refine ql rfl ?_ | refine qo rfl rfl ?_ | refine qs rfl rfl ?_ | refine qn rfl rfl ?_); conv => whnf) | (refine r_step (p_make (n := id) (by omega) (by omega) rfl rfl rfl rfl) rfl rfl (fun e => by first | exact .inl rfl | contradiction | exact .inr (.inl (by kernel_rfl))) ?_; conv => whnf) | (refine r_put (p_lslm (h := id) (xs := cs) (f := comA) h2 rfl rfl rfl) rfl rfl ?_; conv => whnf))
  have hlen : (cs.take id).length = id := by simp; omega
  refine r_loop (ι := { i : Nat // i ≤ id }) (fun i => ⟨[(1, .v (.int .i64 (id : Int))), (5, .own 13), (15, .lst 2 ((cs.take id).map comA)), (16, .v (.int .i64 ((cs.take id).length : Int))), (17, .v (.int .i64 (i.1 : Int)))], [(13, ⟨213, 1, ndL cs i.1 id⟩)]⟩) (fun i => id - i.1) ⟨0, Nat.zero_le _⟩ ⟨⟨congrArg (fun x => some (OB.mk _ _ x)) ndL_rep, trivial⟩, .inl ⟨rfl, rfl⟩, .inl ⟨rfl, rfl⟩, .inl ⟨rfl, rfl⟩, .inl ⟨rfl, rfl⟩, .inl ⟨rfl, rfl⟩, trivial⟩ ?_
  rintro ⟨i, hi⟩
  dsimp only at hi ⊢
  conv => whnf
  by_cases hlt : i < id
  case neg =>
    have hie : i = id := by omega
    subst hie
    have hget := ndL_get hb (n := i) h1 (Nat.le_refl _) (Nat.le_refl _) h2
    repeat (first | (refine r_put (p_bin (b_sub (c := ((i - 1 : Nat) : Int)) (by omega) (by omega) (by omega)) rfl rfl rfl) rfl rfl ?_; conv => whnf) | ((first | refine qb rfl rfl ?_ | refine qi (by assumption) rfl rfl ?_ | refine ql rfl ?_ | refine qo rfl rfl ?_ | refine qs rfl rfl ?_ | refine qn rfl rfl ?_); conv => whnf) | (refine o_put (p_oidx (j := i - 1) (by rw [ndL_len]; omega) rfl rfl rfl rfl rfl) rfl rfl ?_) | (refine r_put (p_old rfl rfl hget rfl rfl rfl rfl) rfl rfl ?_; conv => whnf))
    exact r_retp rfl
  have hic : i < cs.length := by omega
  have hic2 : i < (cs.take id).length := by omega
  have hgi : ((cs.take id).map comA)[i]? = some (comA cs[i]) := by
    rw [List.getElem?_map, List.getElem?_take, if_pos hlt, List.getElem?_eq_getElem hic]; rfl
  have hpar := sto_par hb hic
  have hpn : parsN cs (i + 1) = (cs[i]).1.map Int.toNat := by
    unfold parsN
    rw [Nat.add_sub_cancel, List.getElem?_eq_getElem hic]
  have hl3 : (cs[i]).1.length ≤ 2 := hpar.1
  ((first | refine qb rfl rfl ?_ | refine qi (by assumption) rfl rfl ?_ | refine ql rfl ?_ | refine qo rfl rfl ?_ | refine qs rfl rfl ?_ | refine qn rfl rfl ?_); conv => whnf)
  repeat (first | (refine r_put (p_idx hgi rfl rfl rfl) rfl rfl ?_; conv => whnf) | (refine r_step (p_ostore rfl rfl rfl rfl rfl (by conv => lhs; whnf) rfl) rfl rfl (fun e => by first | exact .inl rfl | contradiction | exact .inr (.inl (by kernel_rfl))) ?_; conv => whnf))
  refine o_put (p_bin (a := .int .i64 (i : Int)) (b := .int .i64 1) (b_add (c := ((i + 1 : Nat) : Int)) (by omega) (by omega) (by omega)) rfl rfl rfl) rfl rfl ?_
  refine o_put (p_buildm rfl ⟨⟨_, _, rfl, rfl, rfl⟩, trivial⟩ rfl) rfl rfl ?_
  refine r_gh (p_boxo rfl rfl rfl) rfl rfl (fun e => by cases e) (Gh.nilx 26 0 900000 [1] (.s 213) 1 rfl rfl rfl rfl rfl rfl (by omega) (Gh.done ?_))
  conv => whnf
  repeat (((first | refine qb rfl rfl ?_ | refine qi (by assumption) rfl rfl ?_ | refine ql rfl ?_ | refine qo rfl rfl ?_ | refine qs rfl rfl ?_ | refine qn rfl rfl ?_); conv => whnf))
  have hpl : (parsN cs (i + 1)).length = (cs[i]).1.length := by rw [hpn, List.length_map]
  refine r_loop (ι := { k : Nat // k ≤ (cs[i]).1.length }) (fun k => ⟨[(1, .v (.int .i64 (id : Int))), (5, .own 13), (6, .v (.int .i64 (i : Int))), (8, .optr 26 0 [] 0), (15, .lst 2 ((cs.take id).map comA)), (16, .v (.int .i64 ((cs.take id).length : Int))), (17, .v (.int .i64 (i : Int))), (27, .lst 1 ((cs[i]).1.map intA)), (28, .v (.int .i64 ((cs[i]).1.length : Int))), (29, .v (.int .i64 (k.1 : Int)))], [(13, ⟨213, 1, ndL cs i id⟩), (26, ⟨.o (some 221) 0 (.mix [.v (.int .i64 ((i + 1 : Nat) : Int)), .own 900000]), 2, [.mix [.v (.int .i64 ((i + 1 : Nat) : Int)), .v (.slice none 0 0)]]⟩), (900000, ⟨213, 1, ((parsN cs (i + 1)).take k.1).map fun p => .ptr (nodeA cs i p)⟩)]⟩) (fun k => (cs[i]).1.length - k.1) ⟨0, Nat.zero_le _⟩ (by refine ⟨?_, ?_⟩ <;> (repeat (first | trivial | exact ⟨rfl, trivial⟩ | refine ⟨rfl, ?_⟩ | refine ⟨.inl ⟨rfl, rfl⟩, ?_⟩ | refine ⟨.inr ⟨_, _, rfl, rfl, rfl, rfl, rfl⟩, ?_⟩))) ?_
  rintro ⟨k, hk⟩
  dsimp only at hk ⊢
  conv => whnf
  by_cases hlk : k < (cs[i]).1.length
  case neg =>
    have hke : k = (cs[i]).1.length := by omega
    have hgi2 : (ndL cs i id)[i]? = some (.v (.pointer none)) := by rw [ndL_at hlt]; simp [ndE]
    have hrow : (ndL cs i id).set i (.ptr (.agg [.v (.int .i64 ((i + 1 : Nat) : Int)), .lst 1 (((parsN cs (i + 1)).take k).map fun p => .ptr (nodeA cs i p))])) = ndL cs (i + 1) id := by
      rw [← ndL_set hlt, List.take_of_length_le (by omega)]; rfl
    repeat (((first | refine qb rfl rfl ?_ | refine qi (by assumption) rfl rfl ?_ | refine ql rfl ?_ | refine qo rfl rfl ?_ | refine qs rfl rfl ?_ | refine qn rfl rfl ?_); conv => whnf))
    refine r_gh (p_oidx (j := i) (by rw [ndL_len]; omega) rfl rfl rfl rfl rfl) rfl rfl (fun e => by cases e) (Gh.foldr 26 900000 [1] rfl rfl rfl rfl rfl rfl (Gh.shuts 26 rfl rfl (Gh.done ?_)))
    conv => whnf
    refine r_step (p_ostorep hgi2 rfl rfl rfl rfl rfl rfl rfl rfl) rfl rfl (fun e => by first | exact .inl rfl | contradiction | exact .inr (.inl (by kernel_rfl))) ?_
    conv => whnf
    repeat (((first | refine qb rfl rfl ?_ | refine qi (by assumption) rfl rfl ?_ | refine ql rfl ?_ | refine qo rfl rfl ?_ | refine qs rfl rfl ?_ | refine qn rfl rfl ?_); conv => whnf))
    exact ⟨⟨i + 1, hlt⟩, ⟨⟨congrArg (fun x => some (OB.mk _ _ x)) hrow, trivial⟩, .inl ⟨rfl, rfl⟩, .inl ⟨rfl, rfl⟩, .inl ⟨rfl, rfl⟩, .inl ⟨rfl, rfl⟩, .inl ⟨rfl, rfl⟩, trivial⟩, by simp; omega⟩
  obtain ⟨_, g1, g2, _⟩ := hpar.2.2 k hlk
  obtain ⟨p, hp⟩ : ∃ p : Nat, (cs[i]).1[k] = (p : Int) := ⟨((cs[i]).1[k]).toNat, by omega⟩
  have hget := ndL_get hb (i := i) (n := id) (p := p) (by omega) (by omega) (by omega) (by omega)
  have hsn : (parsN cs (i + 1)).take k ++ [p] = (parsN cs (i + 1)).take (k + 1) := by
    rw [List.take_succ_eq_append_getElem (by omega)]
    congr 2
    have : (parsN cs (i + 1))[k]'(by omega) = ((cs[i]).1[k]).toNat := by simp [hpn]
    rw [this, hp]; rfl
  have hmap : ∀ q : Nat, [AV.ptr (nodeA cs i q)] = [(fun p => AV.ptr (nodeA cs i p)) q] := fun q => rfl
  repeat (first | (refine .inl (And.intro (by kernel_rfl) ?_); conv => whnf) | (refine r_put (p_bin (b_sub (c := ((p - 1 : Nat) : Int)) (by omega) (by omega) (by omega)) rfl rfl rfl) rfl rfl ?_; conv => whnf) | ((first | refine qb rfl rfl ?_ | refine qi (by assumption) rfl rfl ?_ | refine ql rfl ?_ | refine qo rfl rfl ?_ | refine qs rfl rfl ?_ | refine qn rfl rfl ?_); conv => whnf) | (refine o_put (p_oidx (j := p - 1) (by rw [ndL_len]; omega) rfl rfl rfl rfl rfl) rfl rfl ?_) | (refine r_put (p_old rfl rfl hget rfl rfl rfl rfl) rfl rfl ?_; conv => whnf))
  refine r_step (p_bsl1 rfl rfl rfl rfl rfl rfl) rfl rfl (fun _ => .inr (.inr (soft_set (by kernel_rfl) (by kernel_rfl)))) ?_
  conv => whnf
  refine r_step (p_app1r (f := fun p => AV.ptr (nodeA cs i p)) p _ hsn (by rw [List.length_take]; omega) rfl rfl rfl rfl rfl rfl rfl) rfl rfl (fun _ => .inr (.inr (soft_app (by kernel_rfl) (by kernel_rfl)))) ?_
  conv => whnf
  refine r_step (p_ostoreo rfl rfl rfl rfl rfl rfl) rfl rfl (fun e => by first | exact .inl rfl | contradiction | exact .inr (.inl (by kernel_rfl))) ?_
  conv => whnf
  repeat (((first | refine qb rfl rfl ?_ | refine qi (by assumption) rfl rfl ?_ | refine ql rfl ?_ | refine qo rfl rfl ?_ | refine qs rfl rfl ?_ | refine qn rfl rfl ?_); conv => whnf))
  exact ⟨⟨k + 1, hlk⟩, by refine ⟨?_, ?_⟩ <;> (repeat (first | trivial | exact ⟨rfl, trivial⟩ | refine ⟨rfl, ?_⟩ | refine ⟨.inl ⟨rfl, rfl⟩, ?_⟩ | refine ⟨.inr ⟨_, _, rfl, rfl, rfl, rfl, rfl⟩, ?_⟩)), by simp; omega⟩
end Go.Proofs.Ytjhimcddgkoghaa.AM
/- The commits that a commit is made of: what the program's walk marks. -/
namespace Go.Proofs.Ytjhimcddgkoghaa.AM
open Go Go.RowKit
set_option linter.unusedVariables false
set_option linter.unusedSimpArgs false
set_option maxRecDepth 100000
theorem parsN_par {cs : List Cmt} {q p : Nat} (hb : stoB cs = true) (h1 : 1 ≤ q) (h2 : q ≤ cs.length) : p ∈ parsN cs q ↔ Par cs q p := by
  have hi : q - 1 < cs.length := by omega
  unfold parsN
  rw [List.getElem?_eq_getElem hi]
  constructor
  · intro h
    obtain ⟨y, hy, rfl⟩ := List.mem_map.1 h
    obtain ⟨i, hi2, rfl⟩ := List.getElem_of_mem hy
    obtain ⟨_, k1, _⟩ := (sto_par hb hi).2.2 i hi2
    refine ⟨hi, h1, ?_⟩
    rw [Int.toNat_of_nonneg (by omega)]; exact hy
  · rintro ⟨_, _, h⟩
    exact List.mem_map.2 ⟨_, h, by simp⟩
theorem Anc.trans {cs : List Cmt} {a b c : Nat} (h : Anc cs a b) (k : Anc cs b c) : Anc cs a c := by
  induction k with
  | refl => exact h
  | up _ hp ih => exact .up ih hp
theorem Par.anc {cs : List Cmt} {a b : Nat} (h : Par cs a b) : Anc cs a b := .up .refl h
/-- every number that is seen, up to id, has its parents seen -/
def ClosedB (cs : List Cmt) (id : Nat) (f : Nat → Bool) : Prop := ∀ q j, q ≤ id → f q = true → Par cs q j → f j = true
def WalkOK (cs : List Cmt) (id : Nat) (f g : Nat → Bool) : Prop := (∀ j, f j = true → g j = true) ∧ g id = true ∧ (∀ j, g j = true → f j = true ∨ Anc cs id j) ∧ ClosedB cs id g
theorem walk_ok {cs : List Cmt} (hb : stoB cs = true) : ∀ (n id : Nat) (f : Nat → Bool), 1 ≤ id → id ≤ n → id ≤ cs.length → ClosedB cs id f → WalkOK cs id f (walkM cs n id f) := by
  intro n
  induction n with
  | zero => intro id f h1 h2; omega
  | succ n ih =>
    intro id f h1 h2 h3 hc
    cases hf : f id with
    | true =>
      have hw : walkM cs (n + 1) id f = f := by simp [walkM, hf]
      rw [hw]
      exact ⟨fun j h => h, hf, fun j h => .inl h, hc⟩
    | false =>
      have hw : walkM cs (n + 1) id f = (parsN cs id).foldl (fun g p => walkM cs n p g) (mark f id) := by simp [walkM, hf]
      rw [hw]
      have hm : ∀ j, mark f id j = true ↔ (f j = true ∨ j = id) := fun j => by simp [mark]
      have key : ∀ (ps : List Nat) (g : Nat → Bool), (∀ p ∈ ps, Par cs id p) → (∀ q j, q < id → g q = true → Par cs q j → g j = true) →
          (∀ j, g j = true → (ps.foldl (fun g p => walkM cs n p g) g) j = true) ∧ (∀ p ∈ ps, (ps.foldl (fun g p => walkM cs n p g) g) p = true) ∧ (∀ j, (ps.foldl (fun g p => walkM cs n p g) g) j = true → g j = true ∨ Anc cs id j) ∧ (∀ q j, q < id → (ps.foldl (fun g p => walkM cs n p g) g) q = true → Par cs q j → (ps.foldl (fun g p => walkM cs n p g) g) j = true) := by
        intro ps
        induction ps with
        | nil => intro g _ hg; exact ⟨fun j h => h, by simp, fun j h => .inl h, hg⟩
        | cons p ps ihp =>
          intro g hp hg
          have hpp := hp p (by simp)
          obtain ⟨l1, l2, l3⟩ := hpp.lt hb
          obtain ⟨w1, w2, w3, w4⟩ := ih p g l1 (by omega) (by omega) (fun q j hq hgq hpar => hg q j (by omega) hgq hpar)
          have hg' : ∀ q j, q < id → walkM cs n p g q = true → Par cs q j → walkM cs n p g j = true := fun q j hq hw hpar => by
            rcases Nat.lt_or_ge p q with h | h
            · rcases w3 q hw with h5 | h5
              · exact w1 j (hg q j hq h5 hpar)
              · have := (h5.le hb l1).2; omega
            · exact w4 q j h hw hpar
          obtain ⟨k1, k2, k3, k4⟩ := ihp (walkM cs n p g) (fun r hr => hp r (List.mem_cons_of_mem _ hr)) hg'
          simp only [List.foldl_cons]
          refine ⟨fun j h => k1 j (w1 j h), fun r hr => ?_, fun j h => ?_, k4⟩
          · rcases List.mem_cons.1 hr with rfl | hr
            · exact k1 _ w2
            · exact k2 r hr
          · rcases k3 j h with h5 | h5
            · rcases w3 j h5 with h6 | h6
              · exact .inl h6
              · exact .inr (hpp.anc.trans h6)
            · exact .inr h5
      obtain ⟨k1, k2, k3, k4⟩ := key (parsN cs id) (mark f id) (fun p hp => (parsN_par hb h1 h3).1 hp) (fun q j hq hgq hpar => by
        rcases (hm q).1 hgq with h | h
        · exact (hm j).2 (.inl (hc q j (by omega) h hpar))
        · omega)
      refine ⟨fun j h => k1 j ((hm j).2 (.inl h)), k1 id ((hm id).2 (.inr rfl)), fun j h => ?_, fun q j hq hgq hpar => ?_⟩
      · rcases k3 j h with h5 | h5
        · rcases (hm j).1 h5 with h6 | h6
          · exact .inl h6
          · exact .inr (h6 ▸ .refl)
        · exact .inr h5
      · rcases Nat.lt_or_ge q id with h | h
        · exact k4 q j h hgq hpar
        · have : q = id := by omega
          subst this
          exact k2 j ((parsN_par hb h1 h3).2 hpar)
theorem walk_anc {cs : List Cmt} (hb : stoB cs = true) {id : Nat} (h1 : 1 ≤ id) (h2 : id ≤ cs.length) (j : Nat) : walkM cs id id (fun _ => false) j = ancB cs id j := by
  obtain ⟨_, w2, w3, w4⟩ := walk_ok hb id id (fun _ => false) h1 (Nat.le_refl _) h2 (fun q j _ h => by cases h)
  have : walkM cs id id (fun _ => false) j = true ↔ ancB cs id j = true := by
    rw [ancB_t]
    constructor
    · intro h
      rcases w3 j h with h | h
      · cases h
      · exact h
    · intro h
      induction h with
      | refl => exact w2
      | up hq hp ih => exact w4 _ _ (hq.le hb h1).2 ih hp
  cases h3 : walkM cs id id (fun _ => false) j <;> cases h4 : ancB cs id j <;> simp_all
theorem aszs_bA : ∀ l : List Bool, aszs (l.map bA) = l.length
  | [] => rfl
  | b :: l => by simp only [List.map_cons, aszs, List.length_cons, aszs_bA l]; simp [bA, asz]; omega
theorem asz_rng {m : Nat} {f : Nat → Bool} : asz (.agg (rng m f)) = m := by
  simp only [asz, rng, aszs_bA, List.length_map, List.length_range]
theorem rng_all (f : Nat → Bool) {m : Nat} : ∀ x ∈ rng m f, asz x = 1 := fun x hx => by
  unfold rng at hx
  obtain ⟨b, _, rfl⟩ := List.mem_map.1 hx
  rfl
theorem noLst_bA : ∀ l : List Bool, noLstL (l.map bA) = true
  | [] => rfl
  | b :: l => by simp only [List.map_cons, noLstL, noLst_bA l]; rfl
theorem noLst_rng {m : Nat} {f : Nat → Bool} : noLst (.agg (rng m f)) = true := by simp only [noLst, rng, noLst_bA]
section
variable {s : St} {ty : TypeId} {pos : String} {after : Array Edge} {g : Option (Nat × Bool)} {f : Nat → Bool}
theorem p_alla {d : Nat} (hf : s.hp (d + 1) = none) (hok : okL (d + 1) = true := by rfl) : Pre Try.prog Th ⟨some d, .alloc 212, ty, pos, after, g⟩ s ⟨.optr (d + 1) 0 [] 0, some fun s => s.set (d + 1) (some ⟨.s 212, 61, [.agg (rng 61 fun _ => false)]⟩)⟩ := by
  have h := p_allo (P := Try.prog) (Θ := Th) (s := s) (ty := ty) (pos := pos) (after := after) (g := g) (t := 212) (d := d) hf rfl hok
  have e : (⟨kz 212 (Th.look 212).zero, (Th.look 212).size, [(Th.look 212).zero]⟩ : OB) = ⟨.s 212, 61, [.agg (rng 61 fun _ => false)]⟩ := by
    show OB.mk (kz 212 (.agg (List.replicate 61 zB))) (61 * 1) [.agg (List.replicate 61 zB)] = _
    rw [rng_rep]
    unfold kz
    rw [noLst_rng]; rfl
  rw [e] at h
  exact h
theorem p_lda {d : Option Tmp} {x : Operand} {l t0 : Nat} (hx : s.ev x = .optr l 0 [] 0) (ho : s.hp l = some ⟨.s t0, 61, [.agg (rng 61 f)]⟩) : Pre Try.prog Th ⟨d, .load 212 x, ty, pos, after, g⟩ s ⟨.agg (rng 61 f), none⟩ :=
  p_old hx ho rfl rfl rfl rfl asz_rng
theorem p_sta {d : Option Tmp} {x y : Operand} {l t0 : Nat} {f' : Nat → Bool} (hx : s.ev x = .optr l 0 [] 0) (ho : s.hp l = some ⟨.s t0, 61, [.agg (rng 61 f')]⟩) (hy : s.ev y = .agg (rng 61 f)) : Pre Try.prog Th ⟨d, .store 212 x y, ty, pos, after, g⟩ s ⟨.any, some fun s' => s'.set l (some ⟨.s t0, 61, [.agg (rng 61 f)]⟩)⟩ :=
  p_ostore (q := .agg (rng 61 f')) (z := .agg (rng 61 f')) (v := .agg (rng 61 f)) rfl hx ho rfl (by rw [asz_rng, asz_rng]; rfl) hy rfl
theorem p_mkf {d : Option Tmp} {f : FuncId} {fs cs : Array Operand} {xs ys : List AV} (hx : fs.toList.map s.ev = xs) (hy : cs.toList.map s.ev = ys) (hc : csOK (fs.toList ++ cs.toList) = true) : Pre Try.prog Th ⟨d, .makeFunc (.func f) fs cs, ty, pos, after, g⟩ s ⟨.fn f xs ys, none⟩ :=
  ⟨f, rfl, csOK_spec hc, by rw [hx, hy]⟩
end
attribute [local irreducible] rng
attribute [local irreducible] ACode AOps AOps2 RetG RetM Pre ACG
theorem ac_ancestors {cs : List Cmt} {id : Nat} (hb : stoB cs = true) (h1 : 1 ≤ id) (h2 : id ≤ cs.length) : AC Try.prog 184 [.ptr (nodeA cs id id)] ⟨.agg (rng 61 (ancB cs id)), []⟩ := by
  have hr : rng 61 (walkM cs id id fun _ => false) = rng 61 (ancB cs id) := rng_ext fun j _ => walk_anc hb h1 h2 j
  rw [← hr]
  refine acg_of Th_ok (by kernel_rfl) Try.func184 rfl Try.ntmps184 (rs := [.cell 2 212]) (by rw [Try.results184]) (by kernel_rfl) (Nat.le_of_ble_eq_true rfl) rfl rfl ?_
  refine c_seq (c_reg (o_step rfl rfl (p_alla rfl) (fun e => by cases e) (o_nil (q_then ?_))))
  refine c_seq (c_reg (o_step rfl rfl (p_alla rfl) (fun e => by cases e) (o_nil (q_then ?_))))
  refine c_seq (c_reg (o_step rfl rfl (p_allo rfl rfl) (fun e => by cases e) (o_nil (q_then ?_))))
  refine c_seq (c_reg (o_put (p_mkf (xs := []) (ys := [.optr 4 0 [] 0, .optr 5 0 [] 0]) rfl rfl rfl) rfl rfl ?_))
  refine o_step rfl rfl (p_ostoren (y' := .fn 247 [] [.optr 4 0 [] 0, .optr 5 0 [] 0]) rfl rfl rfl rfl) (fun e => by cases e) (o_nil (q_then ?_))
  refine c_seq (c_reg (o_put (p_oldo rfl rfl rfl rfl rfl rfl rfl rfl) rfl rfl (o_put (p_mv rfl) rfl rfl ?_)))
  refine o_step rfl rfl (p_callg [4, 5] (acg_walk hb (x := .fn 247 [] [.optr 4 0 [] 0, .optr 5 0 [] 0]) id id (fun _ => false) h1 (Nat.le_refl _) h2) rfl rfl ⟨rfl, rfl, trivial⟩ rfl rfl trivial rfl rfl rfl (.inl rfl) rfl) (fun e => by cases e) (o_nil (q_then ?_))
  refine c_seq (c_reg (o_put (p_lda rfl rfl) rfl rfl ?_))
  refine o_step rfl rfl (p_sta rfl rfl rfl) (fun e => by cases e) (o_nil (q_then ?_))
  refine c_ret ?_
  exact r_cell1 (x := .agg (rng 61 (walkM cs id id fun _ => false))) rfl rfl rfl (by rw [asz_rng]; rfl) trivial
end Go.Proofs.Ytjhimcddgkoghaa.AM
/- IsAncestor and BaseOf: the program's side, the reference's base, their laws. -/
namespace Go.Proofs.Ytjhimcddgkoghaa.AM
open Go Go.RowKit
set_option linter.unusedVariables false
set_option linter.unusedSimpArgs false
set_option maxRecDepth 100000
theorem anc_one {cs : List Cmt} (hb : stoB cs = true) : ∀ (n b : Nat), b ≤ n → 1 ≤ b → b ≤ cs.length → Anc cs b 1 := by
  intro n
  induction n with
  | zero => intro b h1 h2; omega
  | succ n ih =>
    intro b h1 h2 h3
    by_cases hb1 : b = 1
    · subst hb1; exact .refl
    · have hi : b - 1 < cs.length := by omega
      obtain ⟨_, q2, q3⟩ := sto_par hb hi
      have hl : 0 < (cs[b - 1]).1.length := by
        rcases Nat.eq_zero_or_pos (cs[b - 1]).1.length with h | h
        · have := q2.1 h; omega
        · exact h
      obtain ⟨_, g1, g2, _⟩ := q3 0 hl
      have hpar : Par cs b ((cs[b - 1]).1[0]).toNat := ⟨hi, h2, by rw [Int.toNat_of_nonneg (by omega)]; exact List.getElem_mem hl⟩
      obtain ⟨k1, k2, _⟩ := hpar.lt hb
      exact hpar.anc.trans (ih _ (by omega) k1 (by omega))
def bsF (F : Nat → Bool) : Nat → Nat
  | 0 => 0
  | k + 1 => if F (k + 1) = true then k + 1 else bsF F k
theorem bsF_le {F : Nat → Bool} : ∀ k, bsF F k ≤ k
  | 0 => Nat.le_refl _
  | k + 1 => by unfold bsF; split; exact Nat.le_refl _; exact Nat.le_succ_of_le (bsF_le k)
noncomputable def comF (cs : List Cmt) (a b : Nat) : Nat → Bool := fun k => ancB cs a k && ancB cs b k
noncomputable def baseN (cs : List Cmt) (a b : Nat) : Nat := bsF (comF cs a b) (min a b)
theorem comF_one {cs : List Cmt} (hb : stoB cs = true) {a b : Nat} (h1 : 1 ≤ a) (h2 : a ≤ cs.length) (h3 : 1 ≤ b) (h4 : b ≤ cs.length) : comF cs a b 1 = true := by
  unfold comF
  rw [ancB_t.2 (anc_one hb a a (Nat.le_refl _) h1 h2), ancB_t.2 (anc_one hb b b (Nat.le_refl _) h3 h4)]; rfl
theorem p_min {P : Program} {Θ : Tab} {s : St} {d : Option Tmp} {ty : TypeId} {pos : String} {after : Array Edge} {g : Option (Nat × Bool)} {x y : Operand} {ts : Array TypeId} {a b : Nat} (hx : s.ev x = .v (.int .i64 (a : Int))) (hy : s.ev y = .v (.int .i64 (b : Int))) : Pre P Θ ⟨d, .call ⟨.builtin .min, #[x, y], ts⟩, ty, pos, after, g⟩ s ⟨.v (.int .i64 ((min a b : Nat) : Int)), none⟩ := by
  refine ⟨[.int .i64 (a : Int), .int .i64 (b : Int)], .int .i64 ((min a b : Nat) : Int), by simp [hx, hy, conc], fun w => ?_, rfl, rfl⟩
  rcases Nat.lt_or_ge b a with h | h
  · rw [Nat.min_eq_right (by omega)]
    have h' : (b : Int) < a := by omega
    simp [builtin, Builtin.min_, Builtin.min2, Result.andThen, h', h]
  · rw [Nat.min_eq_left h]
    have h' : ¬ (b : Int) < a := by omega
    simp [builtin, Builtin.min_, Builtin.min2, Result.andThen, h', Nat.not_lt.2 h]
attribute [local irreducible] rng
attribute [local irreducible] ACode AOps AOps2 RetG RetM Pre ACG
theorem ac_iIsAncestor {cs : List Cmt} {a b : Int} (hm : cs.length ≤ maxLen) (hc : comOK maxLen cs) : AC Try.prog 91 [.lst 2 (cs.map comA), .v (.int .i64 a), .v (.int .i64 b)] ⟨.tup [.v (.bool (isAncR cs a b)), .v (.int .i64 (askR cs [a, b]))], []⟩ := by
  have h1 := ac_graphCode (ids := [a, b]) hm hc (by unfold maxLen; simp)
  by_cases h0 : askR cs [a, b] = 0
  case neg =>
    unfold isAncR
    rw [if_neg h0]
    refine r_of Th_ok (by kernel_rfl) Try.func91 rfl Try.ntmps91 Try.results91 (by kernel_rfl) rfl ?_; conv => whnf
    repeat (first | ((first | refine qb rfl rfl ?_ | refine qi (by assumption) rfl rfl ?_ | refine ql rfl ?_ | refine qo rfl rfl ?_ | refine qs rfl rfl ?_ | refine qn rfl rfl ?_); conv => whnf) | (refine .inl (And.intro (by kernel_rfl) ?_); conv => whnf) | (refine qc (h1) rfl ?_; conv => whnf))
    exact r_tup2 (ra_x rfl trivial) (ra_x rfl trivial)
  obtain ⟨hb, hids⟩ := askR_0 h0
  obtain ⟨hl1, hl2⟩ := sto_len hb
  obtain ⟨a1, a2⟩ := hids a (by simp)
  obtain ⟨b1, b2⟩ := hids b (by simp)
  obtain ⟨a', rfl⟩ : ∃ a' : Nat, a = (a' : Int) := ⟨a.toNat, by omega⟩
  obtain ⟨b', rfl⟩ : ∃ b' : Nat, b = (b' : Int) := ⟨b.toNat, by omega⟩
  have hr : isAncR cs a' b' = ancB cs b' a' := by unfold isAncR; rw [if_pos h0]; simp
  rw [hr]
  rw [h0] at h1 ⊢
  have h2 := ac_nodeOf (id := b') hb (by omega) (by omega)
  have h3 := ac_ancestors (id := b') hb (by omega) (by omega)
  refine r_of Th_ok (by kernel_rfl) Try.func91 rfl Try.ntmps91 Try.results91 (by kernel_rfl) rfl ?_; conv => whnf
  repeat (first | ((first | refine qb rfl rfl ?_ | refine qi (by assumption) rfl rfl ?_ | refine ql rfl ?_ | refine qo rfl rfl ?_ | refine qs rfl rfl ?_ | refine qn rfl rfl ?_); conv => whnf) | (refine .inl (And.intro (by kernel_rfl) ?_); conv => whnf) | (refine qc (h1) rfl ?_; conv => whnf) | (refine qc (h2) rfl ?_; conv => whnf) | (refine qc (h3) rfl ?_; conv => whnf) | (refine r_put (p_arr (rng_get (m := 61) (j := a') (by omega)) rfl rfl rfl rng_len (rng_all _) rfl rfl rfl) rfl rfl ?_; conv => whnf))
  exact r_tup2 (ra_x rfl trivial) (ra_x rfl trivial)
end Go.Proofs.Ytjhimcddgkoghaa.AM
/- BaseOf on both sides; the laws of IsAncestor and BaseOf over data. -/
namespace Go.Proofs.Ytjhimcddgkoghaa.AM
open Go Go.RowKit
set_option linter.unusedVariables false
set_option linter.unusedSimpArgs false
set_option maxRecDepth 100000
noncomputable def baseR (cs : List Cmt) (a b : Int) : Int := if askR cs [a, b] = 0 then (baseN cs a.toNat b.toNat : Int) else 0
attribute [local irreducible] rng
attribute [local irreducible] ACode AOps AOps2 RetG RetM Pre ACG
theorem ac_l03Base {cs : List Cmt} {a b : Nat} (hb : stoB cs = true) (h1 : 1 ≤ a) (h2 : a ≤ cs.length) (h3 : 1 ≤ b) (h4 : b ≤ cs.length) : AC Try.prog 188 [.lst 2 (cs.map comA), .v (.int .i64 (a : Int)), .v (.int .i64 (b : Int))] ⟨.v (.int .i64 (baseN cs a b : Int)), []⟩ := by
  obtain ⟨hl1, hl2⟩ := sto_len hb
  have r1 := ac_l03Reach hb h1 h2
  have r2 := ac_l03Reach hb h3 h4
  have hmn : min a b ≤ a := Nat.min_le_left _ _
  have hm1 : 1 ≤ min a b := by omega
  refine r_of Th_ok (by kernel_rfl) Try.func188 rfl Try.ntmps188 Try.results188 (by kernel_rfl) rfl ?_; conv => whnf
  repeat (first | ((first | refine qb rfl rfl ?_ | refine qi (by assumption) rfl rfl ?_ | refine ql rfl ?_ | refine qo rfl rfl ?_ | refine qs rfl rfl ?_ | refine qn rfl rfl ?_); conv => whnf) | (refine .inl (And.intro (by kernel_rfl) ?_); conv => whnf) | (refine qc (r1) rfl ?_; conv => whnf) | (refine qc (r2) rfl ?_; conv => whnf) | (refine r_put (p_min rfl rfl) rfl rfl ?_; conv => whnf))
  refine r_loop (ι := { k : Nat // 1 ≤ k ∧ k ≤ min a b ∧ bsF (comF cs a b) k = baseN cs a b }) (fun k => ⟨[(7, .own 13), (8, .own 16), (9, .v (.int .i64 (k.1 : Int)))], [(13, ⟨4, 1, rng (cs.length + 1) (ancB cs a)⟩), (16, ⟨4, 1, rng (cs.length + 1) (ancB cs b)⟩)]⟩) (fun k => k.1) ⟨min a b, hm1, Nat.le_refl _, rfl⟩ (by refine ⟨?_, ?_⟩ <;> (repeat (first | trivial | exact ⟨rfl, trivial⟩ | refine ⟨rfl, ?_⟩ | refine ⟨.inl ⟨rfl, rfl⟩, ?_⟩ | refine ⟨.inr ⟨_, _, rfl, rfl, rfl, rfl, rfl⟩, ?_⟩))) ?_
  rintro ⟨k, k1, k2, k3⟩
  dsimp only at k1 k2 k3 ⊢
  obtain ⟨k, rfl⟩ : ∃ k', k = k' + 1 := ⟨k - 1, by omega⟩
  conv => whnf
  have hlt : k + 1 < cs.length + 1 := by omega
  have nxt : comF cs a b (k + 1) = false → 1 ≤ k ∧ bsF (comF cs a b) k = baseN cs a b := fun h => by
    refine ⟨?_, ?_⟩
    · rcases Nat.eq_zero_or_pos k with h0 | h0
      · subst h0; rw [comF_one hb h1 h2 h3 h4] at h; cases h
      · exact h0
    · rw [← k3]; simp [bsF, h]
  cases ha : ancB cs a (k + 1) with
  | false =>
    have hget : (rng (cs.length + 1) (ancB cs a))[k + 1]? = some (AV.v (.bool false)) := by rw [rng_get hlt, ha]; rfl
    obtain ⟨n1, n2⟩ := nxt (by unfold comF; rw [ha]; rfl)
    repeat (first | (refine r_put (p_bin (b_sub (c := (k : Int)) (by omega) (by omega) (by omega)) rfl rfl rfl) rfl rfl ?_; conv => whnf) | ((first | refine qb rfl rfl ?_ | refine qi (by assumption) rfl rfl ?_ | refine ql rfl ?_ | refine qo rfl rfl ?_ | refine qs rfl rfl ?_ | refine qn rfl rfl ?_); conv => whnf) | (refine .inl (And.intro (by kernel_rfl) ?_); conv => whnf) | (refine o_put (p_oidx (j := k + 1) (by rw [rng_len]; exact hlt) rfl rfl rfl rfl rfl) rfl rfl ?_) | (refine r_put (p_old rfl rfl hget rfl rfl rfl rfl) rfl rfl ?_; conv => whnf))
    exact ⟨⟨k, n1, by omega, n2⟩, by refine ⟨?_, ?_⟩ <;> (repeat (first | trivial | exact ⟨rfl, trivial⟩ | refine ⟨rfl, ?_⟩ | refine ⟨.inl ⟨rfl, rfl⟩, ?_⟩ | refine ⟨.inr ⟨_, _, rfl, rfl, rfl, rfl, rfl⟩, ?_⟩)), by simp⟩
  | true =>
    have hget : (rng (cs.length + 1) (ancB cs a))[k + 1]? = some (AV.v (.bool true)) := by rw [rng_get hlt, ha]; rfl
    cases hbk : ancB cs b (k + 1) with
    | false =>
      have hget2 : (rng (cs.length + 1) (ancB cs b))[k + 1]? = some (AV.v (.bool false)) := by rw [rng_get hlt, hbk]; rfl
      obtain ⟨n1, n2⟩ := nxt (by unfold comF; rw [ha, hbk]; rfl)
      repeat (first | (refine r_put (p_bin (b_sub (c := (k : Int)) (by omega) (by omega) (by omega)) rfl rfl rfl) rfl rfl ?_; conv => whnf) | ((first | refine qb rfl rfl ?_ | refine qi (by assumption) rfl rfl ?_ | refine ql rfl ?_ | refine qo rfl rfl ?_ | refine qs rfl rfl ?_ | refine qn rfl rfl ?_); conv => whnf) | (refine .inl (And.intro (by kernel_rfl) ?_); conv => whnf) | (refine o_put (p_oidx (j := k + 1) (by rw [rng_len]; exact hlt) rfl rfl rfl rfl rfl) rfl rfl ?_) | (refine r_put (p_old rfl rfl hget rfl rfl rfl rfl) rfl rfl ?_; conv => whnf) | (refine r_put (p_old rfl rfl hget2 rfl rfl rfl rfl) rfl rfl ?_; conv => whnf))
      exact ⟨⟨k, n1, by omega, n2⟩, by refine ⟨?_, ?_⟩ <;> (repeat (first | trivial | exact ⟨rfl, trivial⟩ | refine ⟨rfl, ?_⟩ | refine ⟨.inl ⟨rfl, rfl⟩, ?_⟩ | refine ⟨.inr ⟨_, _, rfl, rfl, rfl, rfl, rfl⟩, ?_⟩)), by simp⟩
    | true =>
      have hget2 : (rng (cs.length + 1) (ancB cs b))[k + 1]? = some (AV.v (.bool true)) := by rw [rng_get hlt, hbk]; rfl
      have hf : baseN cs a b = k + 1 := by rw [← k3]; simp [bsF, comF, ha, hbk]
      rw [hf]
      repeat (first | ((first | refine qb rfl rfl ?_ | refine qi (by assumption) rfl rfl ?_ | refine ql rfl ?_ | refine qo rfl rfl ?_ | refine qs rfl rfl ?_ | refine qn rfl rfl ?_); conv => whnf) | (refine .inl (And.intro (by kernel_rfl) ?_); conv => whnf) | (refine o_put (p_oidx (j := k + 1) (by rw [rng_len]; exact hlt) rfl rfl rfl rfl rfl) rfl rfl ?_) | (refine r_put (p_old rfl rfl hget rfl rfl rfl rfl) rfl rfl ?_; conv => whnf) | (refine r_put (p_old rfl rfl hget2 rfl rfl rfl rfl) rfl rfl ?_; conv => whnf))
      exact r_ret1 rfl trivial
theorem ac_baseOf {cs : List Cmt} {a b : Nat} (hb : stoB cs = true) (h1 : 1 ≤ a) (h2 : a ≤ cs.length) (h3 : 1 ≤ b) (h4 : b ≤ cs.length) : AC Try.prog 187 [.lst 2 (cs.map comA), .v (.int .i64 (a : Int)), .v (.int .i64 (b : Int))] ⟨.v (.int .i64 (baseN cs a b : Int)), []⟩ := by
  obtain ⟨hl1, hl2⟩ := sto_len hb
  have n1 := ac_nodeOf hb h1 h2
  have n2 := ac_nodeOf hb h3 h4
  have r1 := ac_ancestors hb h1 h2
  have r2 := ac_ancestors hb h3 h4
  have hmn : min a b ≤ a := Nat.min_le_left _ _
  have hm1 : 1 ≤ min a b := by omega
  refine acg_of Th_ok (by kernel_rfl) Try.func187 rfl Try.ntmps187 (rs := [.tmp 6]) (by rw [Try.results187]) (by kernel_rfl) (Nat.le_of_ble_eq_true rfl) rfl rfl ?_
  refine c_seq (c_reg (o_put (p_asc rfl) rfl rfl (o_nil (q_then ?_))))
  refine c_seq (c_reg ?_)
  refine o_put (p_mv rfl) rfl rfl (o_put (p_mv rfl) rfl rfl ?_)
  refine qC (n1) rfl ?_
  refine qC (r1) rfl ?_
  refine o_put (p_mv rfl) rfl rfl (o_put (p_mv rfl) rfl rfl ?_)
  refine qC (n2) rfl ?_
  refine qC (r2) rfl ?_
  refine o_step rfl rfl (p_alla rfl) (fun e => by cases e) (o_step rfl rfl (p_alla rfl) (fun e => by cases e) ?_)
  refine o_step rfl rfl (p_sta rfl rfl rfl) (fun e => by cases e) (o_step rfl rfl (p_sta rfl rfl rfl) (fun e => by cases e) (o_nil (q_then ?_)))
  refine runC_sound _ _ _ ?_
  conv => whnf
  repeat (first | ((first | refine qb rfl rfl ?_ | refine qi (by assumption) rfl rfl ?_ | refine ql rfl ?_ | refine qo rfl rfl ?_ | refine qs rfl rfl ?_ | refine qn rfl rfl ?_); conv => whnf) | (refine .inl (And.intro (by kernel_rfl) ?_); conv => whnf) | (refine r_put (p_min rfl rfl) rfl rfl ?_; conv => whnf))
  refine r_loop (ι := { k : Nat // 1 ≤ k ∧ k ≤ min a b ∧ bsF (comF cs a b) k = baseN cs a b }) (fun k => ⟨[(7, .optr 8 0 [] 0), (8, .optr 9 0 [] 0), (9, .v (.int .i64 (k.1 : Int)))], [(8, ⟨.s 212, 61, [.agg (rng 61 (ancB cs a))]⟩), (9, ⟨.s 212, 61, [.agg (rng 61 (ancB cs b))]⟩)]⟩) (fun k => k.1) ⟨min a b, hm1, Nat.le_refl _, rfl⟩ (by refine ⟨?_, ?_⟩ <;> (repeat (first | trivial | exact ⟨rfl, trivial⟩ | refine ⟨rfl, ?_⟩ | refine ⟨.inl ⟨rfl, rfl⟩, ?_⟩ | refine ⟨.inr ⟨_, _, rfl, rfl, rfl, rfl, rfl⟩, ?_⟩))) ?_
  rintro ⟨k, k1, k2, k3⟩
  dsimp only at k1 k2 k3 ⊢
  obtain ⟨k, rfl⟩ : ∃ k', k = k' + 1 := ⟨k - 1, by omega⟩
  conv => whnf
  have h61 : k + 1 < 61 := by omega
  have nxt : comF cs a b (k + 1) = false → 1 ≤ k ∧ bsF (comF cs a b) k = baseN cs a b := fun h => by
    refine ⟨?_, ?_⟩
    · rcases Nat.eq_zero_or_pos k with h0 | h0
      · subst h0; rw [comF_one hb h1 h2 h3 h4] at h; cases h
      · exact h0
    · rw [← k3]; simp [bsF, h]
  cases ha : ancB cs a (k + 1) with
  | false =>
    have hget : getP (.agg (rng 61 (ancB cs a))) [k + 1] 0 = some (AV.v (.bool false), 0 + (k + 1) * 1) := by rw [getP_rng h61, ha]; rfl
    obtain ⟨n1, n2⟩ := nxt (by unfold comF; rw [ha]; rfl)
    repeat (first | (refine r_put (p_bin (b_sub (c := (k : Int)) (by omega) (by omega) (by omega)) rfl rfl rfl) rfl rfl ?_; conv => whnf) | ((first | refine qb rfl rfl ?_ | refine qi (by assumption) rfl rfl ?_ | refine ql rfl ?_ | refine qo rfl rfl ?_ | refine qs rfl rfl ?_ | refine qn rfl rfl ?_); conv => whnf) | (refine .inl (And.intro (by kernel_rfl) ?_); conv => whnf) | (refine o_put (p_aidx h61 rfl rfl rfl) rfl rfl ?_) | (refine r_put (p_old rfl rfl rfl hget rfl rfl rfl) rfl rfl ?_; conv => whnf))
    exact ⟨⟨k, n1, by omega, n2⟩, by refine ⟨?_, ?_⟩ <;> (repeat (first | trivial | exact ⟨rfl, trivial⟩ | refine ⟨rfl, ?_⟩ | refine ⟨.inl ⟨rfl, rfl⟩, ?_⟩ | refine ⟨.inr ⟨_, _, rfl, rfl, rfl, rfl, rfl⟩, ?_⟩)), by simp⟩
  | true =>
    have hget : getP (.agg (rng 61 (ancB cs a))) [k + 1] 0 = some (AV.v (.bool true), 0 + (k + 1) * 1) := by rw [getP_rng h61, ha]; rfl
    cases hbk : ancB cs b (k + 1) with
    | false =>
      have hget2 : getP (.agg (rng 61 (ancB cs b))) [k + 1] 0 = some (AV.v (.bool false), 0 + (k + 1) * 1) := by rw [getP_rng h61, hbk]; rfl
      obtain ⟨n1, n2⟩ := nxt (by unfold comF; rw [ha, hbk]; rfl)
      repeat (first | (refine r_put (p_bin (b_sub (c := (k : Int)) (by omega) (by omega) (by omega)) rfl rfl rfl) rfl rfl ?_; conv => whnf) | ((first | refine qb rfl rfl ?_ | refine qi (by assumption) rfl rfl ?_ | refine ql rfl ?_ | refine qo rfl rfl ?_ | refine qs rfl rfl ?_ | refine qn rfl rfl ?_); conv => whnf) | (refine .inl (And.intro (by kernel_rfl) ?_); conv => whnf) | (refine o_put (p_aidx h61 rfl rfl rfl) rfl rfl ?_) | (refine r_put (p_old rfl rfl rfl hget rfl rfl rfl) rfl rfl ?_; conv => whnf) | (refine r_put (p_old rfl rfl rfl hget2 rfl rfl rfl) rfl rfl ?_; conv => whnf))
      exact ⟨⟨k, n1, by omega, n2⟩, by refine ⟨?_, ?_⟩ <;> (repeat (first | trivial | exact ⟨rfl, trivial⟩ | refine ⟨rfl, ?_⟩ | refine ⟨.inl ⟨rfl, rfl⟩, ?_⟩ | refine ⟨.inr ⟨_, _, rfl, rfl, rfl, rfl, rfl⟩, ?_⟩)), by simp⟩
    | true =>
      have hget2 : getP (.agg (rng 61 (ancB cs b))) [k + 1] 0 = some (AV.v (.bool true), 0 + (k + 1) * 1) := by rw [getP_rng h61, hbk]; rfl
      have hf : baseN cs a b = k + 1 := by rw [← k3]; simp [bsF, comF, ha, hbk]
      rw [hf]
      repeat (first | ((first | refine qb rfl rfl ?_ | refine qi (by assumption) rfl rfl ?_ | refine ql rfl ?_ | refine qo rfl rfl ?_ | refine qs rfl rfl ?_ | refine qn rfl rfl ?_); conv => whnf) | (refine .inl (And.intro (by kernel_rfl) ?_); conv => whnf) | (refine o_put (p_aidx h61 rfl rfl rfl) rfl rfl ?_) | (refine r_put (p_old rfl rfl rfl hget rfl rfl rfl) rfl rfl ?_; conv => whnf) | (refine r_put (p_old rfl rfl rfl hget2 rfl rfl rfl) rfl rfl ?_; conv => whnf))
      exact r_ret1 rfl trivial
end Go.Proofs.Ytjhimcddgkoghaa.AM
/- BaseOf on both sides; its law over data. -/
namespace Go.Proofs.Ytjhimcddgkoghaa.AM
open Go Go.RowKit
set_option linter.unusedVariables false
set_option linter.unusedSimpArgs false
set_option maxRecDepth 100000
theorem baseR_ne {cs : List Cmt} {a b : Int} (h : ¬ askR cs [a, b] = 0) : baseR cs a b = 0 := by unfold baseR; rw [if_neg h]
attribute [local irreducible] rng
attribute [local irreducible] ACode AOps AOps2 RetG RetM Pre ACG
theorem ac_sBaseOf {cs : List Cmt} {a b : Int} (hm : cs.length ≤ maxLen) (hc : comOK maxLen cs) : AC Try.prog 84 [.lst 2 (cs.map comA), .v (.int .i64 a), .v (.int .i64 b)] ⟨.tup [.v (.int .i64 (baseR cs a b)), .v (.int .i64 (askR cs [a, b]))], []⟩ := by
  have h1 := ac_l03Ask (ids := [a, b]) hm hc (by unfold maxLen; simp)
  unfold maxLen at hm
  by_cases hl : cs.length ≤ 4096
  case neg =>
    have h0 := askR_long (ids := [a, b]) hl
    rw [baseR_ne (by omega), h0]
    refine r_of Th_ok (by kernel_rfl) Try.func84 rfl Try.ntmps84 Try.results84 (by kernel_rfl) rfl ?_; conv => whnf
    repeat (first | ((first | refine qb rfl rfl ?_ | refine qi (by assumption) rfl rfl ?_ | refine ql rfl ?_ | refine qo rfl rfl ?_ | refine qs rfl rfl ?_ | refine qn rfl rfl ?_); conv => whnf) | (refine .inl (And.intro (by kernel_rfl) ?_); conv => whnf))
    exact r_tup2 (ra_x rfl trivial) (ra_x rfl trivial)
  by_cases h0 : askR cs [a, b] = 0
  case neg =>
    rw [baseR_ne h0]
    refine r_of Th_ok (by kernel_rfl) Try.func84 rfl Try.ntmps84 Try.results84 (by kernel_rfl) rfl ?_; conv => whnf
    repeat (first | ((first | refine qb rfl rfl ?_ | refine qi (by assumption) rfl rfl ?_ | refine ql rfl ?_ | refine qo rfl rfl ?_ | refine qs rfl rfl ?_ | refine qn rfl rfl ?_); conv => whnf) | (refine .inl (And.intro (by kernel_rfl) ?_); conv => whnf) | (refine qc (h1) rfl ?_; conv => whnf))
    exact r_tup2 (ra_x rfl trivial) (ra_x rfl trivial)
  obtain ⟨hb, hids⟩ := askR_0 h0
  obtain ⟨a1, a2⟩ := hids a (by simp)
  obtain ⟨b1, b2⟩ := hids b (by simp)
  obtain ⟨a', rfl⟩ : ∃ a' : Nat, a = (a' : Int) := ⟨a.toNat, by omega⟩
  obtain ⟨b', rfl⟩ : ∃ b' : Nat, b = (b' : Int) := ⟨b.toNat, by omega⟩
  have hr : baseR cs a' b' = (baseN cs a' b' : Int) := by unfold baseR; rw [if_pos h0]; simp
  rw [hr]
  rw [h0] at h1 ⊢
  have h2 := ac_l03Base (a := a') (b := b') hb (by omega) (by omega) (by omega) (by omega)
  refine r_of Th_ok (by kernel_rfl) Try.func84 rfl Try.ntmps84 Try.results84 (by kernel_rfl) rfl ?_; conv => whnf
  repeat (first | ((first | refine qb rfl rfl ?_ | refine qi (by assumption) rfl rfl ?_ | refine ql rfl ?_ | refine qo rfl rfl ?_ | refine qs rfl rfl ?_ | refine qn rfl rfl ?_); conv => whnf) | (refine .inl (And.intro (by kernel_rfl) ?_); conv => whnf) | (refine qc (h1) rfl ?_; conv => whnf) | (refine qc (h2) rfl ?_; conv => whnf))
  exact r_tup2 (ra_x rfl trivial) (ra_x rfl trivial)
theorem ac_iBaseOf {cs : List Cmt} {a b : Int} (hm : cs.length ≤ maxLen) (hc : comOK maxLen cs) : AC Try.prog 83 [.lst 2 (cs.map comA), .v (.int .i64 a), .v (.int .i64 b)] ⟨.tup [.v (.int .i64 (baseR cs a b)), .v (.int .i64 (askR cs [a, b]))], []⟩ := by
  have h1 := ac_graphCode (ids := [a, b]) hm hc (by unfold maxLen; simp)
  by_cases h0 : askR cs [a, b] = 0
  case neg =>
    rw [baseR_ne h0]
    refine r_of Th_ok (by kernel_rfl) Try.func83 rfl Try.ntmps83 Try.results83 (by kernel_rfl) rfl ?_; conv => whnf
    repeat (first | ((first | refine qb rfl rfl ?_ | refine qi (by assumption) rfl rfl ?_ | refine ql rfl ?_ | refine qo rfl rfl ?_ | refine qs rfl rfl ?_ | refine qn rfl rfl ?_); conv => whnf) | (refine .inl (And.intro (by kernel_rfl) ?_); conv => whnf) | (refine qc (h1) rfl ?_; conv => whnf))
    exact r_tup2 (ra_x rfl trivial) (ra_x rfl trivial)
  obtain ⟨hb, hids⟩ := askR_0 h0
  obtain ⟨a1, a2⟩ := hids a (by simp)
  obtain ⟨b1, b2⟩ := hids b (by simp)
  obtain ⟨a', rfl⟩ : ∃ a' : Nat, a = (a' : Int) := ⟨a.toNat, by omega⟩
  obtain ⟨b', rfl⟩ : ∃ b' : Nat, b = (b' : Int) := ⟨b.toNat, by omega⟩
  have hr : baseR cs a' b' = (baseN cs a' b' : Int) := by unfold baseR; rw [if_pos h0]; simp
  rw [hr]
  rw [h0] at h1 ⊢
  have h2 := ac_baseOf (a := a') (b := b') hb (by omega) (by omega) (by omega) (by omega)
  refine r_of Th_ok (by kernel_rfl) Try.func83 rfl Try.ntmps83 Try.results83 (by kernel_rfl) rfl ?_; conv => whnf
  repeat (first | ((first | refine qb rfl rfl ?_ | refine qi (by assumption) rfl rfl ?_ | refine ql rfl ?_ | refine qo rfl rfl ?_ | refine qs rfl rfl ?_ | refine qn rfl rfl ?_); conv => whnf) | (refine .inl (And.intro (by kernel_rfl) ?_); conv => whnf) | (refine qc (h1) rfl ?_; conv => whnf) | (refine qc (h2) rfl ?_; conv => whnf))
  exact r_tup2 (ra_x rfl trivial) (ra_x rfl trivial)
end Go.Proofs.Ytjhimcddgkoghaa.AM
namespace Go.Proofs.Ytjhimcddgkoghaa.AM
open Go Go.RowKit
set_option linter.unusedVariables false
set_option linter.unusedSimpArgs false
set_option maxRecDepth 100000
section
variable {P : Program} {Θ : Tab} {s : St} {ty : TypeId} {pos : String} {after : Array Edge} {g : Option (Nat × Bool)}
/-- a struct with two own lists is the result -/
theorem r_cellM {a t l l1 l2 : Nat} {ob o1 o2 : OB} {t' : Option Nat} {Θ : Tab} (h1 : s.sl a = .optr l 0 [] 0) (ho : s.hp l = some ob) (hop : ob.e.open_ = false) (hoe : openE ob.e ob.xs 0 = some (.o t' 0 (.mix [.own l1, .own l2]))) (ho1 : s.hp l1 = some o1) (ho2 : s.hp l2 = some o2) (hn : Nat.beq l1 l2 = false) (hk : ((Θ.look t).known && (Θ.look t).isAgg && Nat.beq 2 (Θ.look t).size) = true) (hok1 : okL l1 = true := by rfl) (hok2 : okL l2 = true := by rfl) (hs1 : o1.e.shut = true := by rfl) (hs2 : o2.e.shut = true := by rfl) :
    RetQ Θ [.cell a t] ⟨.mix [.own 0, .own 1], [o1, o2]⟩ .ret s := by
  have hr : rvA s (.cell a t) = .mix [.own l1, .own l2] := by
    simp only [rvA, h1, ho, hop, hoe, cond_false]; rfl
  simp only [Bool.and_eq_true] at hk
  have hne : l1 ≠ l2 := fun e => by rw [e] at hn; simp at hn
  refine ⟨trivial, [l1, l2], by simp [hne], ⟨⟨ho1, hok1, hs1⟩, ⟨ho2, hok2, hs2⟩, trivial⟩, ⟨⟨hk.1.1, by rw [hr]; exact hk.1.2.symm, by rw [hr]; exact Nat.eq_of_beq_eq_true hk.2, .inl ⟨l, ob, _, h1, ho, .inr ⟨hop, _, _, hoe, rfl⟩⟩⟩, trivial⟩, trivial, ⟨.inl ⟨?_, rfl⟩, trivial⟩⟩
  rw [hr]; rfl
end
theorem noL_int {l : List Int} : ∀ x ∈ l.map intA, noLst x = true := fun x hx => by obtain ⟨_, _, rfl⟩ := List.mem_map.1 hx; rfl
theorem noL_ent {l : List Ent} : ∀ x ∈ l.map entA, noLst x = true := fun x hx => by obtain ⟨_, _, rfl⟩ := List.mem_map.1 hx; rfl
attribute [local irreducible] ACode AOps AOps2 RetG RetM Pre ACG
end Go.Proofs.Ytjhimcddgkoghaa.AM
namespace Go.Proofs.Ytjhimcddgkoghaa.AM
open Go Go.RowKit
set_option linter.unusedVariables false
set_option linter.unusedSimpArgs false
set_option maxRecDepth 100000
attribute [local irreducible] ACode AOps AOps2 RetG RetM Pre ACG
end Go.Proofs.Ytjhimcddgkoghaa.AM
namespace Go.Proofs.Ytjhimcddgkoghaa.AM
open Go Go.RowKit
set_option linter.unusedVariables false
set_option linter.unusedSimpArgs false
set_option maxRecDepth 100000
/-- the numbers below k that f has -/
def ancL (f : Nat → Bool) : Nat → List Int
  | 0 => []
  | k + 1 => if f k = true then ancL f k ++ [(k : Int)] else ancL f k
theorem ancL_len {f : Nat → Bool} : ∀ k, (ancL f k).length ≤ k
  | 0 => Nat.le_refl _
  | k + 1 => by
    have := ancL_len (f := f) k
    unfold ancL
    split
    · simp; omega
    · omega
theorem ancL_t {f : Nat → Bool} {k : Nat} (h : f k = true) : ancL f k ++ [(k : Int)] = ancL f (k + 1) := by rw [ancL, if_pos h]
theorem ancL_f {f : Nat → Bool} {k : Nat} (h : f k = false) : ancL f (k + 1) = ancL f k := by rw [ancL, if_neg (by simp [h])]
theorem ancL_up {f : Nat → Bool} {n : Nat} (h : ∀ j, n ≤ j → f j = false) : ∀ m, n ≤ m → ancL f m = ancL f n := by
  intro m
  induction m with
  | zero => intro h0; have : n = 0 := by omega
            rw [this]
  | succ m ih =>
    intro h0
    rcases Nat.lt_or_ge m n with h1 | h1
    · have : n = m + 1 := by omega
      rw [this]
    · rw [ancL_f (h m h1)]; exact ih h1
theorem ancB_out {cs : List Cmt} (hb : stoB cs = true) {id j : Nat} (h1 : 1 ≤ id) (h : id < j ∨ j = 0) : ancB cs id j = false := by
  cases hn : ancB cs id j with
  | false => rfl
  | true => have := (ancB_t.1 hn).le hb h1; omega
noncomputable def ancR (cs : List Cmt) (id : Int) : List Int × Int := if askR cs [id] = 0 then (ancL (ancB cs id.toNat) (id.toNat + 1), 0) else ([], askR cs [id])
attribute [local irreducible] rng
attribute [local irreducible] ACode AOps AOps2 RetG RetM Pre ACG
theorem ac_sAncestorsOf {cs : List Cmt} {id : Int} (hm : cs.length ≤ maxLen) (hc : comOK maxLen cs) : AC Try.prog 82 [.lst 2 (cs.map comA), .v (.int .i64 id)] ⟨.tup [.own 0, .v (.int .i64 (ancR cs id).2)], [⟨3, 1, (ancR cs id).1.map intA⟩]⟩ := by
  have h1 := ac_l03Ask (ids := [id]) hm hc (by unfold maxLen; simp)
  unfold maxLen at hm
  unfold ancR
  by_cases hl : cs.length ≤ 4096
  case neg =>
    have h0 := askR_long (ids := [id]) hl
    rw [h0, if_neg (by omega)]
    refine r_of Th_ok (by kernel_rfl) Try.func82 rfl Try.ntmps82 Try.results82 (by kernel_rfl) rfl ?_; conv => whnf
    repeat (first | ((first | refine qb rfl rfl ?_ | refine qi (by assumption) rfl rfl ?_ | refine ql rfl ?_ | refine qo rfl rfl ?_ | refine qs rfl rfl ?_ | refine qn rfl rfl ?_); conv => whnf) | (refine .inl (And.intro (by kernel_rfl) ?_); conv => whnf))
    exact r_tupOV rfl rfl rfl
  by_cases h0 : askR cs [id] = 0
  case neg =>
    rw [if_neg h0]
    refine r_of Th_ok (by kernel_rfl) Try.func82 rfl Try.ntmps82 Try.results82 (by kernel_rfl) rfl ?_; conv => whnf
    repeat (first | ((first | refine qb rfl rfl ?_ | refine qi (by assumption) rfl rfl ?_ | refine ql rfl ?_ | refine qo rfl rfl ?_ | refine qs rfl rfl ?_ | refine qn rfl rfl ?_); conv => whnf) | (refine .inl (And.intro (by kernel_rfl) ?_); conv => whnf) | (refine qc (h1) rfl ?_; conv => whnf))
    exact r_tupOV rfl rfl rfl
  obtain ⟨hb, hids⟩ := askR_0 h0
  obtain ⟨hl1, hl2⟩ := sto_len hb
  obtain ⟨a1, a2⟩ := hids id (by simp)
  obtain ⟨id, rfl⟩ : ∃ a' : Nat, id = (a' : Int) := ⟨id.toNat, by omega⟩
  rw [if_pos h0]
  rw [h0] at h1
  have h2 := ac_l03Reach hb (b := id) (by omega) (by omega)
  have hz : ancB cs id 0 = false := ancB_out hb (by omega) (.inr rfl)
  have e1 : ancL (ancB cs id) 1 = [] := by rw [ancL_f hz]; rfl
  refine r_of Th_ok (by kernel_rfl) Try.func82 rfl Try.ntmps82 Try.results82 (by kernel_rfl) rfl ?_; conv => whnf
  repeat (first | ((first | refine qb rfl rfl ?_ | refine qi (by assumption) rfl rfl ?_ | refine ql rfl ?_ | refine qo rfl rfl ?_ | refine qs rfl rfl ?_ | refine qn rfl rfl ?_); conv => whnf) | (refine .inl (And.intro (by kernel_rfl) ?_); conv => whnf) | (refine qc (h1) rfl ?_; conv => whnf) | (refine qc (h2) rfl ?_; conv => whnf))
  refine r_loop (ι := { k : Nat // k ≤ id }) (fun k => ⟨[(1, .v (.int .i64 (id : Int))), (7, .own 25), (8, .own 26), (9, .v (.int .i64 ((k.1 + 1 : Nat) : Int)))], [(25, ⟨4, 1, rng (cs.length + 1) (ancB cs id)⟩), (26, ⟨3, 1, (ancL (ancB cs id) (k.1 + 1)).map intA⟩)]⟩) (fun k => id - k.1) ⟨0, Nat.zero_le _⟩ ⟨⟨rfl, (show some (OB.mk _ _ []) = some (OB.mk _ _ ((ancL (ancB cs id) 1).map intA)) by rw [e1]; rfl), trivial⟩, .inl ⟨rfl, rfl⟩, .inl ⟨rfl, rfl⟩, .inl ⟨rfl, rfl⟩, .inl ⟨rfl, rfl⟩, trivial⟩ ?_
  rintro ⟨k, hk⟩
  dsimp only at hk ⊢
  conv => whnf
  by_cases hlt : k < id
  case neg =>
    have hke : k = id := by omega
    subst hke
    repeat (first | ((first | refine qb rfl rfl ?_ | refine qi (by assumption) rfl rfl ?_ | refine ql rfl ?_ | refine qo rfl rfl ?_ | refine qs rfl rfl ?_ | refine qn rfl rfl ?_); conv => whnf) | (refine .inl (And.intro (by kernel_rfl) ?_); conv => whnf))
    exact r_tupOV rfl rfl (by show some (OB.mk _ _ _) = some (OB.mk _ _ _); simp)
  have hal : k + 1 < cs.length + 1 := by omega
  have hle := ancL_len (f := ancB cs id) (k + 1)
  cases hf : ancB cs id (k + 1) with
  | false =>
    have hget : (rng (cs.length + 1) (ancB cs id))[k + 1]? = some (AV.v (.bool false)) := by rw [rng_get hal, hf]; rfl
    repeat (first | ((first | refine qb rfl rfl ?_ | refine qi (by assumption) rfl rfl ?_ | refine ql rfl ?_ | refine qo rfl rfl ?_ | refine qs rfl rfl ?_ | refine qn rfl rfl ?_); conv => whnf) | (refine .inl (And.intro (by kernel_rfl) ?_); conv => whnf) | (refine o_put (p_oidx (j := k + 1) (by rw [rng_len]; exact hal) rfl rfl rfl rfl rfl) rfl rfl ?_) | (refine r_put (p_old rfl rfl hget rfl rfl rfl rfl) rfl rfl ?_; conv => whnf))
    exact ⟨⟨k + 1, hlt⟩, ⟨⟨rfl, (show some (OB.mk _ _ ((ancL (ancB cs id) (k + 1)).map intA)) = some (OB.mk _ _ ((ancL (ancB cs id) (k + 1 + 1)).map intA)) by rw [ancL_f hf]), trivial⟩, .inl ⟨rfl, rfl⟩, .inl ⟨rfl, rfl⟩, .inl ⟨rfl, rfl⟩, .inl ⟨rfl, rfl⟩, trivial⟩, by simp; omega⟩
  | true =>
    have hget : (rng (cs.length + 1) (ancB cs id))[k + 1]? = some (AV.v (.bool true)) := by rw [rng_get hal, hf]; rfl
    repeat (first | ((first | refine qb rfl rfl ?_ | refine qi (by assumption) rfl rfl ?_ | refine ql rfl ?_ | refine qo rfl rfl ?_ | refine qs rfl rfl ?_ | refine qn rfl rfl ?_); conv => whnf) | (refine .inl (And.intro (by kernel_rfl) ?_); conv => whnf) | (refine o_put (p_oidx (j := k + 1) (by rw [rng_len]; exact hal) rfl rfl rfl rfl rfl) rfl rfl ?_) | (refine r_put (p_old rfl rfl hget rfl rfl rfl rfl) rfl rfl ?_; conv => whnf) | (refine r_step (p_app1r (f := intA) ((k + 1 : Nat) : Int) _ (ancL_t hf) (by omega) rfl rfl rfl rfl rfl rfl rfl) rfl rfl (fun e => by first | exact .inl rfl | contradiction | exact .inr (.inl (by kernel_rfl))) ?_; conv => whnf))
    exact ⟨⟨k + 1, hlt⟩, by refine ⟨?_, ?_⟩ <;> (repeat (first | trivial | exact ⟨rfl, trivial⟩ | refine ⟨rfl, ?_⟩ | refine ⟨.inl ⟨rfl, rfl⟩, ?_⟩ | refine ⟨.inr ⟨_, _, rfl, rfl, rfl, rfl, rfl⟩, ?_⟩)), by simp; omega⟩
theorem ac_iAncestorsOf {cs : List Cmt} {id : Int} (hm : cs.length ≤ maxLen) (hc : comOK maxLen cs) : AC Try.prog 81 [.lst 2 (cs.map comA), .v (.int .i64 id)] ⟨.tup [.own 0, .v (.int .i64 (ancR cs id).2)], [⟨3, 1, (ancR cs id).1.map intA⟩]⟩ := by
  have h1 := ac_graphCode (ids := [id]) hm hc (by unfold maxLen; simp)
  unfold ancR
  by_cases h0 : askR cs [id] = 0
  case neg =>
    rw [if_neg h0]
    refine r_of Th_ok (by kernel_rfl) Try.func81 rfl Try.ntmps81 Try.results81 (by kernel_rfl) rfl ?_; conv => whnf
    repeat (first | ((first | refine qb rfl rfl ?_ | refine qi (by assumption) rfl rfl ?_ | refine ql rfl ?_ | refine qo rfl rfl ?_ | refine qs rfl rfl ?_ | refine qn rfl rfl ?_); conv => whnf) | (refine .inl (And.intro (by kernel_rfl) ?_); conv => whnf) | (refine qc (h1) rfl ?_; conv => whnf))
    exact r_tupOV rfl rfl rfl
  obtain ⟨hb, hids⟩ := askR_0 h0
  obtain ⟨hl1, hl2⟩ := sto_len hb
  obtain ⟨a1, a2⟩ := hids id (by simp)
  obtain ⟨id, rfl⟩ : ∃ a' : Nat, id = (a' : Int) := ⟨id.toNat, by omega⟩
  rw [if_pos h0]
  rw [h0] at h1
  have h2 := ac_nodeOf (id := id) hb (by omega) (by omega)
  have h3 := ac_ancestors (id := id) hb (by omega) (by omega)
  have hup : ancL (ancB cs id) 61 = ancL (ancB cs id) (id + 1) := ancL_up (fun j hj => ancB_out hb (by omega) (.inl (by omega))) 61 (by omega)
  refine r_of Th_ok (by kernel_rfl) Try.func81 rfl Try.ntmps81 Try.results81 (by kernel_rfl) rfl ?_; conv => whnf
  repeat (first | ((first | refine qb rfl rfl ?_ | refine qi (by assumption) rfl rfl ?_ | refine ql rfl ?_ | refine qo rfl rfl ?_ | refine qs rfl rfl ?_ | refine qn rfl rfl ?_); conv => whnf) | (refine .inl (And.intro (by kernel_rfl) ?_); conv => whnf) | (refine qc (h1) rfl ?_; conv => whnf) | (refine qc (h2) rfl ?_; conv => whnf) | (refine qc (h3) rfl ?_; conv => whnf))
  refine r_loop (ι := { k : Nat // k ≤ 61 }) (fun k => ⟨[(7, .own 8), (20, .agg (rng 61 (ancB cs id))), (21, .v (.int .i64 (k.1 : Int)))], [(8, ⟨3, 1, (ancL (ancB cs id) k.1).map intA⟩)]⟩) (fun k => 61 - k.1) ⟨0, Nat.zero_le _⟩ (by refine ⟨?_, ?_⟩ <;> (repeat (first | trivial | exact ⟨rfl, trivial⟩ | refine ⟨rfl, ?_⟩ | refine ⟨.inl ⟨rfl, rfl⟩, ?_⟩ | refine ⟨.inr ⟨_, _, rfl, rfl, rfl, rfl, rfl⟩, ?_⟩))) ?_
  rintro ⟨k, hk⟩
  dsimp only at hk ⊢
  conv => whnf
  by_cases hlt : k < 61
  case neg =>
    have hke : k = 61 := by omega
    subst hke
    repeat (first | ((first | refine qb rfl rfl ?_ | refine qi (by assumption) rfl rfl ?_ | refine ql rfl ?_ | refine qo rfl rfl ?_ | refine qs rfl rfl ?_ | refine qn rfl rfl ?_); conv => whnf) | (refine .inl (And.intro (by kernel_rfl) ?_); conv => whnf))
    exact r_tupOV rfl rfl (show some (OB.mk _ _ ((ancL (ancB cs id) 61).map intA)) = some (OB.mk _ _ ((ancL (ancB cs id) (id + 1)).map intA)) by rw [hup])
  have hle := ancL_len (f := ancB cs id) k
  cases hf : ancB cs id k with
  | false =>
    have hget : (rng 61 (ancB cs id))[k]? = some (AV.v (.bool false)) := by rw [rng_get hlt, hf]; rfl
    repeat (first | ((first | refine qb rfl rfl ?_ | refine qi (by assumption) rfl rfl ?_ | refine ql rfl ?_ | refine qo rfl rfl ?_ | refine qs rfl rfl ?_ | refine qn rfl rfl ?_); conv => whnf) | (refine .inl (And.intro (by kernel_rfl) ?_); conv => whnf) | (refine r_put (p_arr hget rfl rfl rfl rng_len (rng_all _) rfl rfl rfl) rfl rfl ?_; conv => whnf))
    exact ⟨⟨k + 1, hlt⟩, ⟨⟨(show some (OB.mk _ _ ((ancL (ancB cs id) k).map intA)) = some (OB.mk _ _ ((ancL (ancB cs id) (k + 1)).map intA)) by rw [ancL_f hf]), trivial⟩, .inl ⟨rfl, rfl⟩, .inl ⟨rfl, rfl⟩, .inl ⟨rfl, rfl⟩, trivial⟩, by simp; omega⟩
  | true =>
    have hget : (rng 61 (ancB cs id))[k]? = some (AV.v (.bool true)) := by rw [rng_get hlt, hf]; rfl
    repeat (first | ((first | refine qb rfl rfl ?_ | refine qi (by assumption) rfl rfl ?_ | refine ql rfl ?_ | refine qo rfl rfl ?_ | refine qs rfl rfl ?_ | refine qn rfl rfl ?_); conv => whnf) | (refine .inl (And.intro (by kernel_rfl) ?_); conv => whnf) | (refine r_put (p_arr hget rfl rfl rfl rng_len (rng_all _) rfl rfl rfl) rfl rfl ?_; conv => whnf) | (refine r_step (p_app1r (f := intA) (k : Int) _ (ancL_t hf) (by omega) rfl rfl rfl rfl rfl rfl rfl) rfl rfl (fun e => by first | exact .inl rfl | contradiction | exact .inr (.inl (by kernel_rfl))) ?_; conv => whnf))
    exact ⟨⟨k + 1, hlt⟩, by refine ⟨?_, ?_⟩ <;> (repeat (first | trivial | exact ⟨rfl, trivial⟩ | refine ⟨rfl, ?_⟩ | refine ⟨.inl ⟨rfl, rfl⟩, ?_⟩ | refine ⟨.inr ⟨_, _, rfl, rfl, rfl, rfl, rfl⟩, ?_⟩)), by simp; omega⟩
end Go.Proofs.Ytjhimcddgkoghaa.AM
namespace Go.Proofs.Ytjhimcddgkoghaa.AM
open Go Go.RowKit
set_option linter.unusedVariables false
set_option linter.unusedSimpArgs false
set_option maxRecDepth 100000
theorem sto_map {cs : List Cmt} (hb : stoB cs = true) {i : Nat} (h : i < cs.length) : mapOK (cs[i]).2 = true := by
  unfold stoB at hb
  simp only [Bool.and_eq_true] at hb
  have := comsB_at hb.2 i h
  unfold comB at this
  simp only [Bool.and_eq_true] at this
  exact this.1
theorem bsF_ge {F : Nat → Bool} (h : F 1 = true) : ∀ k, 1 ≤ k → 1 ≤ bsF F k
  | 0, h0 => by omega
  | 1, _ => by simp [bsF, h]
  | k + 2, _ => by
    unfold bsF
    split
    · omega
    · exact bsF_ge h (k + 1) (by omega)
def mpN (cs : List Cmt) (k : Nat) : List Ent := match cs[k - 1]? with
  | some c => c.2
  | none => []
theorem mpN_eq {cs : List Cmt} {k : Nat} (h : k - 1 < cs.length) : mpN cs k = (cs[k - 1]).2 := by unfold mpN; rw [List.getElem?_eq_getElem h]
noncomputable def mcR (cs : List Cmt) (a b : Int) : List Ent × List ByteArray × Int := if askR cs [a, b] = 0 then toldR (mrgL (mpN cs (baseN cs a.toNat b.toNat)) (mpN cs a.toNat) (mpN cs b.toNat)) (clsL (mpN cs (baseN cs a.toNat b.toNat)) (mpN cs a.toNat) (mpN cs b.toNat)) else ([], [], askR cs [a, b])
theorem baseN_in {cs : List Cmt} (hb : stoB cs = true) {a b : Nat} (h1 : 1 ≤ a) (h2 : a ≤ cs.length) (h3 : 1 ≤ b) (h4 : b ≤ cs.length) : 1 ≤ baseN cs a b ∧ baseN cs a b ≤ a ∧ baseN cs a b ≤ b := by
  have q1 := bsF_ge (comF_one hb h1 h2 h3 h4) (min a b) (by omega)
  have q2 := bsF_le (F := comF cs a b) (min a b)
  unfold baseN
  omega
theorem mpN_le {cs : List Cmt} (hb : stoB cs = true) (k : Nat) : (mpN cs k).length ≤ 12 := by
  unfold mpN
  split
  · rename_i c h
    obtain ⟨hi, rfl⟩ := List.getElem?_eq_some_iff.1 h
    exact AM.mapOK_le (sto_map hb hi)
  · simp
theorem mcR_bd (cs : List Cmt) (a b : Int) : (mcR cs a b).1.length ≤ 12 ∧ (mcR cs a b).2.1.length ≤ 100 := by
  unfold mcR
  split
  · rename_i h
    obtain ⟨hb, _⟩ := askR_0 h
    have q1 := mpN_le hb (baseN cs a.toNat b.toNat)
    have q2 := mpN_le hb b.toNat
    have := clsL_length (mpN cs (baseN cs a.toNat b.toNat)) (mpN cs a.toNat) (mpN cs b.toNat)
    exact toldR_bd _ (by omega)
  · simp
attribute [local irreducible] ACode AOps AOps2 RetG RetM Pre ACG
theorem ac_sMergeCommits {cs : List Cmt} {a b : Int} (hm : cs.length ≤ maxLen) (hc : comOK maxLen cs) : AC Try.prog 86 [.lst 2 (cs.map comA), .v (.int .i64 a), .v (.int .i64 b)] ⟨.tup [.lst 2 ((mcR cs a b).1.map entA), .lst 1 ((mcR cs a b).2.1.map strA), .v (.int .i64 (mcR cs a b).2.2)], []⟩ := by
  have h1 := ac_l03Ask (ids := [a, b]) hm hc (by unfold maxLen; simp)
  unfold maxLen at hm
  by_cases hl : cs.length ≤ 4096
  case neg =>
    have h0 := askR_long (ids := [a, b]) hl
    have hr : mcR cs a b = ([], [], 2) := by unfold mcR; rw [h0, if_neg (by omega)]
    rw [hr]
    refine r_of Th_ok (by kernel_rfl) Try.func86 rfl Try.ntmps86 Try.results86 (by kernel_rfl) rfl ?_; conv => whnf
    repeat (first | ((first | refine qb rfl rfl ?_ | refine qi (by assumption) rfl rfl ?_ | refine ql rfl ?_ | refine qo rfl rfl ?_ | refine qs rfl rfl ?_ | refine qn rfl rfl ?_); conv => whnf) | (refine .inl (And.intro (by kernel_rfl) ?_); conv => whnf))
    exact r_tup3 (ra_o rfl rfl) (ra_o rfl rfl) (ra_x rfl trivial)
  by_cases h0 : askR cs [a, b] = 0
  case neg =>
    have hr : mcR cs a b = ([], [], askR cs [a, b]) := by unfold mcR; rw [if_neg h0]
    rw [hr]
    refine r_of Th_ok (by kernel_rfl) Try.func86 rfl Try.ntmps86 Try.results86 (by kernel_rfl) rfl ?_; conv => whnf
    repeat (first | ((first | refine qb rfl rfl ?_ | refine qi (by assumption) rfl rfl ?_ | refine ql rfl ?_ | refine qo rfl rfl ?_ | refine qs rfl rfl ?_ | refine qn rfl rfl ?_); conv => whnf) | (refine .inl (And.intro (by kernel_rfl) ?_); conv => whnf) | (refine qc (h1) rfl ?_; conv => whnf))
    exact r_tup3 (ra_o rfl rfl) (ra_o rfl rfl) (ra_x rfl trivial)
  obtain ⟨hb, hids⟩ := askR_0 h0
  obtain ⟨hl1, hl2⟩ := sto_len hb
  obtain ⟨a1, a2⟩ := hids a (by simp)
  obtain ⟨b1, b2⟩ := hids b (by simp)
  obtain ⟨a, rfl⟩ : ∃ a' : Nat, a = (a' : Int) := ⟨a.toNat, by omega⟩
  obtain ⟨b, rfl⟩ : ∃ b' : Nat, b = (b' : Int) := ⟨b.toNat, by omega⟩
  have h2 := ac_l03Base (a := a) (b := b) hb (by omega) (by omega) (by omega) (by omega)
  obtain ⟨n1, n2, n3⟩ := baseN_in hb (a := a) (b := b) (by omega) (by omega) (by omega) (by omega)
  have hka : a - 1 < cs.length := by omega
  have hkb : b - 1 < cs.length := by omega
  have hr : mcR cs a b = toldR (mrgL (mpN cs (baseN cs a b)) (mpN cs a) (mpN cs b)) (clsL (mpN cs (baseN cs a b)) (mpN cs a) (mpN cs b)) := by unfold mcR; rw [if_pos h0]; rfl
  rw [hr]
  rw [h0] at h1
  generalize baseN cs a b = c at *
  have hkc : c - 1 < cs.length := by omega
  rw [mpN_eq hka, mpN_eq hkb, mpN_eq hkc]
  have l1 := AM.mapOK_le (sto_map hb hka)
  have l2 := AM.mapOK_le (sto_map hb hkb)
  have l3 := AM.mapOK_le (sto_map hb hkc)
  have g1 := mrgL_length (cs[c - 1]).2 (cs[a - 1]).2 (cs[b - 1]).2
  have g2 := clsL_length (cs[c - 1]).2 (cs[a - 1]).2 (cs[b - 1]).2
  refine r_of Th_ok (by kernel_rfl) Try.func86 rfl Try.ntmps86 Try.results86 (by kernel_rfl) rfl ?_; conv => whnf
  repeat (first | (refine r_put (p_bin (b_sub (c := ((c - 1 : Nat) : Int)) (by omega) (by omega) (by omega)) rfl rfl rfl) rfl rfl ?_; conv => whnf) | (refine r_put (p_bin (b_sub (c := ((a - 1 : Nat) : Int)) (by omega) (by omega) (by omega)) rfl rfl rfl) rfl rfl ?_; conv => whnf) | (refine r_put (p_bin (b_sub (c := ((b - 1 : Nat) : Int)) (by omega) (by omega) (by omega)) rfl rfl rfl) rfl rfl ?_; conv => whnf) | ((first | refine qb rfl rfl ?_ | refine qi (by assumption) rfl rfl ?_ | refine ql rfl ?_ | refine qo rfl rfl ?_ | refine qs rfl rfl ?_ | refine qn rfl rfl ?_); conv => whnf) | (refine .inl (And.intro (by kernel_rfl) ?_); conv => whnf) | (refine qc (h1) rfl ?_; conv => whnf) | (refine qc (h2) rfl ?_; conv => whnf) | (refine qc (ac_l02Merge (base := (cs[c - 1]).2) (a := (cs[a - 1]).2) (b := (cs[b - 1]).2) (by omega) (by omega) (by omega)) rfl ?_; conv => whnf) | (refine qf (ac_l02Told (m := mrgL (cs[c - 1]).2 (cs[a - 1]).2 (cs[b - 1]).2) (c := clsL (cs[c - 1]).2 (cs[a - 1]).2 (cs[b - 1]).2) (by omega) (by omega)) rfl ?_; conv => whnf))
  exact r_tup3 (ra_x rfl trivial) (ra_x rfl trivial) (ra_x rfl trivial)
theorem ac_iMergeCommits {cs : List Cmt} {a b : Int} (hm : cs.length ≤ maxLen) (hc : comOK maxLen cs) : AC Try.prog 85 [.lst 2 (cs.map comA), .v (.int .i64 a), .v (.int .i64 b)] ⟨.tup [.own 0, .own 1, .v (.int .i64 (mcR cs a b).2.2)], [⟨167, 2, (mcR cs a b).1.map entA⟩, ⟨9, 1, (mcR cs a b).2.1.map strA⟩]⟩ := by
  have h1 := ac_graphCode (ids := [a, b]) hm hc (by unfold maxLen; simp)
  by_cases h0 : askR cs [a, b] = 0
  case neg =>
    have hr : mcR cs a b = ([], [], askR cs [a, b]) := by unfold mcR; rw [if_neg h0]
    rw [hr]
    refine r_of Th_ok (by kernel_rfl) Try.func85 rfl Try.ntmps85 Try.results85 (by kernel_rfl) rfl ?_; conv => whnf
    repeat (first | ((first | refine qb rfl rfl ?_ | refine qi (by assumption) rfl rfl ?_ | refine ql rfl ?_ | refine qo rfl rfl ?_ | refine qs rfl rfl ?_ | refine qn rfl rfl ?_); conv => whnf) | (refine .inl (And.intro (by kernel_rfl) ?_); conv => whnf) | (refine qc (h1) rfl ?_; conv => whnf))
    exact r_tupOOV rfl rfl rfl rfl rfl rfl
  obtain ⟨hb, hids⟩ := askR_0 h0
  obtain ⟨hl1, hl2⟩ := sto_len hb
  obtain ⟨a1, a2⟩ := hids a (by simp)
  obtain ⟨b1, b2⟩ := hids b (by simp)
  obtain ⟨a, rfl⟩ : ∃ a' : Nat, a = (a' : Int) := ⟨a.toNat, by omega⟩
  obtain ⟨b, rfl⟩ : ∃ b' : Nat, b = (b' : Int) := ⟨b.toNat, by omega⟩
  have h2 := ac_baseOf (a := a) (b := b) hb (by omega) (by omega) (by omega) (by omega)
  obtain ⟨n1, n2, n3⟩ := baseN_in hb (a := a) (b := b) (by omega) (by omega) (by omega) (by omega)
  have hka : a - 1 < cs.length := by omega
  have hkb : b - 1 < cs.length := by omega
  have hr : mcR cs a b = toldR (mrgL (mpN cs (baseN cs a b)) (mpN cs a) (mpN cs b)) (clsL (mpN cs (baseN cs a b)) (mpN cs a) (mpN cs b)) := by unfold mcR; rw [if_pos h0]; rfl
  rw [hr]
  rw [h0] at h1
  generalize baseN cs a b = c at *
  have hkc : c - 1 < cs.length := by omega
  rw [mpN_eq hka, mpN_eq hkb, mpN_eq hkc]
  have l1 := AM.mapOK_le (sto_map hb hka)
  have l2 := AM.mapOK_le (sto_map hb hkb)
  have l3 := AM.mapOK_le (sto_map hb hkc)
  have h3 := ac_merged cc_ok (base := (cs[c - 1]).2) (a := (cs[a - 1]).2) (b := (cs[b - 1]).2) (srt_of_mapOK (sto_map hb hkc)) (srt_of_mapOK (sto_map hb hka)) (srt_of_mapOK (sto_map hb hkb)) (by omega) (by omega) (by omega)
  refine r_of Th_ok (by kernel_rfl) Try.func85 rfl Try.ntmps85 Try.results85 (by kernel_rfl) rfl ?_; conv => whnf
  repeat (first | (refine r_put (p_bin (b_sub (c := ((c - 1 : Nat) : Int)) (by omega) (by omega) (by omega)) rfl rfl rfl) rfl rfl ?_; conv => whnf) | (refine r_put (p_bin (b_sub (c := ((a - 1 : Nat) : Int)) (by omega) (by omega) (by omega)) rfl rfl rfl) rfl rfl ?_; conv => whnf) | (refine r_put (p_bin (b_sub (c := ((b - 1 : Nat) : Int)) (by omega) (by omega) (by omega)) rfl rfl rfl) rfl rfl ?_; conv => whnf) | ((first | refine qb rfl rfl ?_ | refine qi (by assumption) rfl rfl ?_ | refine ql rfl ?_ | refine qo rfl rfl ?_ | refine qs rfl rfl ?_ | refine qn rfl rfl ?_); conv => whnf) | (refine .inl (And.intro (by kernel_rfl) ?_); conv => whnf) | (refine qc (h1) rfl ?_; conv => whnf) | (refine qc (h2) rfl ?_; conv => whnf) | (refine qc (h3) rfl ?_; conv => whnf))
  exact r_tupOOV rfl rfl rfl rfl rfl rfl
end Go.Proofs.Ytjhimcddgkoghaa.AM
