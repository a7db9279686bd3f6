/- The commits that a commit is made of: the reference's side. -/
import Derived.Test.YtnkceemdnefomaaE8
namespace Go.Proofs.Ytnkceemdnefomaa.AM
open Go Go.RowKit
set_option linter.unusedVariables false
set_option linter.unusedSimpArgs false
set_option maxRecDepth 100000
def bA (b : Bool) : AV := .v (.bool b)
theorem flat_bA (e : Bool) : flatA (bA e) := by unfold bA; simp [flatA]
def rng (m : Nat) (f : Nat → Bool) : List AV := ((List.range m).map f).map bA
theorem rng_len {m : Nat} {f : Nat → Bool} : (rng m f).length = m := by simp [rng]
theorem rng_get {m j : Nat} {f : Nat → Bool} (h : j < m) : (rng m f)[j]? = some (bA (f j)) := by simp [rng, h]
theorem rng_set {m j : Nat} {f : Nat → Bool} (h : j < m) : (rng m f).set j (bA true) = rng m (fun x => f x || decide (x = j)) := by
  unfold rng
  apply List.ext_getElem
  · simp
  · intro i h1 h2
    rw [List.getElem_set]
    split
    · rename_i e; subst e; simp
    · rename_i e; simp [Ne.symm e]
theorem rng_rep {m : Nat} : List.replicate m (AV.v (.bool false)) = rng m (fun _ => false) := by
  unfold rng
  apply List.ext_getElem
  · simp
  · intro i h1 h2; simp [bA]
theorem rng_ext {m : Nat} {f g : Nat → Bool} (h : ∀ j, j < m → f j = g j) : rng m f = rng m g := by
  unfold rng
  congr 1
  apply List.map_congr_left
  intro j hj; exact h j (List.mem_range.1 hj)
open Classical in
noncomputable def ancB (cs : List Cmt) (b a : Nat) : Bool := decide (Anc cs b a)
theorem ancB_t {cs : List Cmt} {b a : Nat} : ancB cs b a = true ↔ Anc cs b a := by simp [ancB]
/-- what is marked when every commit above i is done -/
def Stg (cs : List Cmt) (b i : Nat) (f : Nat → Bool) : Prop := ∀ j, f j = true ↔ (j = b ∨ ∃ q, i < q ∧ Anc cs b q ∧ Par cs q j)
theorem Stg.at {cs : List Cmt} (hb : stoB cs = true) {b i : Nat} {f : Nat → Bool} (h : Stg cs b i f) : f i = true ↔ Anc cs b i := by
  rw [h i, Anc.iff]
  constructor
  · rintro (h | ⟨q, _, h1, h2⟩)
    · exact .inl h
    · exact .inr ⟨q, h1, h2⟩
  · rintro (h | ⟨q, h1, h2⟩)
    · exact .inl h
    · exact .inr ⟨q, by have := h2.lt hb; omega, h1, h2⟩
theorem Stg.end {cs : List Cmt} (hb : stoB cs = true) {b : Nat} {f : Nat → Bool} (h : Stg cs b 0 f) : ∀ j, f j = ancB cs b j := fun j => by
  have : f j = true ↔ ancB cs b j = true := by
    rw [h j, ancB_t, Anc.iff]
    constructor
    · rintro (h | ⟨q, _, h1, h2⟩)
      · exact .inl h
      · exact .inr ⟨q, h1, h2⟩
    · rintro (h | ⟨q, h1, h2⟩)
      · exact .inl h
      · exact .inr ⟨q, by have := h2.lt hb; omega, h1, h2⟩
  cases h1 : f j <;> cases h2 : ancB cs b j <;> simp_all
theorem Stg.skip {cs : List Cmt} (hb : stoB cs = true) {b i : Nat} {f : Nat → Bool} (h : Stg cs b (i + 1) f) (hn : ¬ f (i + 1) = true) : Stg cs b i f := fun j => by
  rw [h j]
  constructor
  · rintro (h | ⟨q, h0, h1, h2⟩)
    · exact .inl h
    · exact .inr ⟨q, by omega, h1, h2⟩
  · rintro (h' | ⟨q, h0, h1, h2⟩)
    · exact .inl h'
    · rcases Nat.lt_or_ge (i + 1) q with h3 | h3
      · exact .inr ⟨q, h3, h1, h2⟩
      · have : q = i + 1 := by omega
        subst this
        exact absurd ((h.at hb).2 h1) hn
/-- and k of i's parents besides -/
def Stp (cs : List Cmt) (b i : Nat) (ps : List Int) (k : Nat) (f : Nat → Bool) : Prop := ∀ j, f j = true ↔ (j = b ∨ (∃ q, i < q ∧ Anc cs b q ∧ Par cs q j) ∨ ∃ x ∈ ps.take k, x = (j : Int))
theorem Stp.zero {cs : List Cmt} {b i : Nat} {ps : List Int} {f : Nat → Bool} (h : Stg cs b i f) : Stp cs b i ps 0 f := fun j => by rw [h j]; simp
theorem Stp.next {cs : List Cmt} {b i k p : Nat} {ps : List Int} {f : Nat → Bool} (h : Stp cs b i ps k f) (hk : k < ps.length) (hp : ps[k] = (p : Int)) : Stp cs b i ps (k + 1) (fun x => f x || decide (x = p)) := fun j => by
  simp only [Bool.or_eq_true, decide_eq_true_eq]
  rw [h j, List.take_succ_eq_append_getElem hk]
  simp only [List.mem_append, List.mem_singleton]
  constructor
  · rintro ((h | h | ⟨x, h, e⟩) | h)
    · exact .inl h
    · exact .inr (.inl h)
    · exact .inr (.inr ⟨x, .inl h, e⟩)
    · exact .inr (.inr ⟨_, .inr rfl, by rw [hp, h]⟩)
  · rintro (h | h | ⟨x, h | h, e⟩)
    · exact .inl (.inl h)
    · exact .inl (.inr (.inl h))
    · exact .inl (.inr (.inr ⟨x, h, e⟩))
    · refine .inr ?_
      rw [h, hp] at e; omega
theorem Stp.done {cs : List Cmt} {b i : Nat} {f : Nat → Bool} (hi : i < cs.length) (h : Stp cs b (i + 1) (cs[i]).1 (cs[i]).1.length f) (ha : Anc cs b (i + 1)) : Stg cs b i f := fun j => by
  rw [h j, List.take_length]
  constructor
  · rintro (h | ⟨q, h0, h1, h2⟩ | ⟨x, h, e⟩)
    · exact .inl h
    · exact .inr ⟨q, by omega, h1, h2⟩
    · exact .inr ⟨i + 1, by omega, ha, ⟨by simpa using hi, by omega, by subst e; simpa using h⟩⟩
  · rintro (h' | ⟨q, h0, h1, h2⟩)
    · exact .inl h'
    · rcases Nat.lt_or_ge (i + 1) q with h3 | h3
      · exact .inr (.inl ⟨q, h3, h1, h2⟩)
      · have : q = i + 1 := by omega
        subst this
        obtain ⟨_, _, h4⟩ := h2
        exact .inr (.inr ⟨_, by simpa using h4, rfl⟩)
attribute [local irreducible] ACode AOps RetG RetM Pre ACG
theorem ac_l03Reach {cs : List Cmt} {b : Nat} (hb : stoB cs = true) (h1 : 1 ≤ b) (h2 : b ≤ cs.length) : AC Try.prog 92 [.lst 2 (cs.map comA), .v (.int .i64 (b : Int))] ⟨.own 0, [⟨4, 1, rng (cs.length + 1) (ancB cs b)⟩]⟩ := by
  obtain ⟨hl1, hl2⟩ := sto_len hb
  have hrow : (List.replicate (cs.length + 1) (AV.v (.bool false))).set b (bA true) = rng (cs.length + 1) (fun x => decide (x = b)) := by
    rw [rng_rep, rng_set (by omega)]; exact rng_ext (fun j _ => by simp)
  have hst0 : Stg cs b b (fun x => decide (x = b)) := fun j => by
    simp only [decide_eq_true_eq]
    constructor
    · exact .inl
    · rintro (h | ⟨q, h3, h4, _⟩)
      · exact h
      · have := h4.le hb h1; omega
  have hq0 : (List.replicate (cs.length + 1) (AV.v (.bool false)))[b]? = some (AV.v (.bool false)) := by
    rw [List.getElem?_replicate, if_pos (by omega)]
  refine r_of Th_ok (by kernel_rfl) Try.func92 rfl Try.ntmps92 Try.results92 (by kernel_rfl) rfl ?_; conv => whnf
  repeat (first | first | (refine r_put (p_bin (by first | exact b_lt_t (by omega) | exact b_lt_f (by omega) | exact b_le_t (by omega) | exact b_le_f (by omega) | exact b_gt_t (by omega) | exact b_gt_f (by omega) | exact b_ge_t (by omega) | exact b_ge_f (by omega) | exact b_eq_t (by omega) | exact b_eq_f (by omega) | exact b_ne_t (by omega) | exact b_ne_f (by omega) | exact b_sub rfl (by omega) (by omega) | exact b_add rfl (by omega) (by omega)) rfl rfl rfl) rfl rfl ?_; conv => whnf) | (refine r_put (p_idx (getA _ (by assumption)) rfl rfl rfl) rfl rfl ?_; conv => whnf) | (refine r_put (p_lenm rfl ⟨_, _, _, _, rfl⟩) rfl rfl ?_; conv => whnf) | (refine r_put (p_lenom rfl rfl ⟨_, _, _, _, rfl⟩) rfl rfl ?_; conv => whnf) | (refine r_put (p_len (y := .v (.string _)) rfl rfl rfl) rfl rfl ?_; conv => whnf) | (refine r_put (p_len rfl rfl ⟨_, _, _, _, rfl⟩) rfl rfl ?_; conv => whnf) | (refine r_step (p_make (n := cs.length + 1) (by omega) (by omega) rfl rfl rfl rfl) rfl rfl (fun e => by first | exact .inl rfl | contradiction | exact .inr (.inl (by kernel_rfl))) ?_; conv => whnf) | (refine r_put (p_oidx (j := b) (by simp; omega) rfl rfl rfl rfl rfl) rfl rfl ?_; conv => whnf) | (refine r_step (p_ostore hq0 rfl rfl rfl rfl rfl rfl) rfl rfl (fun e => by first | exact .inl rfl | contradiction | exact .inr (.inl (by kernel_rfl))) ?_; conv => whnf))
  refine r_loop (ι := { p : Nat × (Nat → Bool) // p.1 ≤ cs.length ∧ Stg cs b p.1 p.2 }) (fun p => ⟨[(0, .lst 2 (cs.map comA)), (5, .own 12), (6, .v (.int .i64 (p.1.1 : Int)))], [(12, ⟨4, 1, rng (cs.length + 1) p.1.2⟩)]⟩) (fun p => p.1.1) ⟨(b, fun x => decide (x = b)), h2, hst0⟩ ⟨⟨congrArg (fun x => some (OB.mk _ _ x)) hrow, trivial⟩, .inl ⟨rfl, rfl⟩, .inl ⟨rfl, rfl⟩, .inl ⟨rfl, rfl⟩, trivial⟩ ?_
  rintro ⟨⟨k, f⟩, hk, hst⟩
  dsimp only at hk hst ⊢
  conv => whnf
  cases k with
  | zero =>
    repeat (first | (refine r_put (p_bin (by first | exact b_lt_t (by omega) | exact b_lt_f (by omega) | exact b_le_t (by omega) | exact b_le_f (by omega) | exact b_gt_t (by omega) | exact b_gt_f (by omega) | exact b_ge_t (by omega) | exact b_ge_f (by omega) | exact b_eq_t (by omega) | exact b_eq_f (by omega) | exact b_ne_t (by omega) | exact b_ne_f (by omega) | exact b_sub rfl (by omega) (by omega) | exact b_add rfl (by omega) (by omega)) rfl rfl rfl) rfl rfl ?_; conv => whnf) | (refine r_put (p_idx (getA _ (by assumption)) rfl rfl rfl) rfl rfl ?_; conv => whnf) | (refine r_put (p_lenm rfl ⟨_, _, _, _, rfl⟩) rfl rfl ?_; conv => whnf) | (refine r_put (p_lenom rfl rfl ⟨_, _, _, _, rfl⟩) rfl rfl ?_; conv => whnf) | (refine r_put (p_len (y := .v (.string _)) rfl rfl rfl) rfl rfl ?_; conv => whnf) | (refine r_put (p_len rfl rfl ⟨_, _, _, _, rfl⟩) rfl rfl ?_; conv => whnf))
    exact r_own1 rfl (congrArg (fun x => some (OB.mk _ _ x)) (rng_ext fun j _ => hst.end hb j))
  | succ i =>
    have hi : i < cs.length := hk
    have hlt : i + 1 < cs.length + 1 := by omega
    cases hf : f (i + 1) with
    | false =>
      have hget : (rng (cs.length + 1) f)[i + 1]? = some (AV.v (.bool false)) := by rw [rng_get hlt, hf]; rfl
      repeat (first | (refine r_put (p_bin (b_sub (c := (i : Int)) (by omega) (by omega) (by omega)) rfl rfl rfl) rfl rfl ?_; conv => whnf) | first | (refine r_put (p_bin (by first | exact b_lt_t (by omega) | exact b_lt_f (by omega) | exact b_le_t (by omega) | exact b_le_f (by omega) | exact b_gt_t (by omega) | exact b_gt_f (by omega) | exact b_ge_t (by omega) | exact b_ge_f (by omega) | exact b_eq_t (by omega) | exact b_eq_f (by omega) | exact b_ne_t (by omega) | exact b_ne_f (by omega) | exact b_sub rfl (by omega) (by omega) | exact b_add rfl (by omega) (by omega)) rfl rfl rfl) rfl rfl ?_; conv => whnf) | (refine r_put (p_idx (getA _ (by assumption)) rfl rfl rfl) rfl rfl ?_; conv => whnf) | (refine r_put (p_lenm rfl ⟨_, _, _, _, rfl⟩) rfl rfl ?_; conv => whnf) | (refine r_put (p_lenom rfl rfl ⟨_, _, _, _, rfl⟩) rfl rfl ?_; conv => whnf) | (refine r_put (p_len (y := .v (.string _)) rfl rfl rfl) rfl rfl ?_; conv => whnf) | (refine r_put (p_len rfl rfl ⟨_, _, _, _, rfl⟩) rfl rfl ?_; conv => whnf) | (refine o_put (p_oidx (j := i + 1) (by rw [rng_len]; exact hlt) rfl rfl rfl rfl rfl) rfl rfl ?_) | (refine r_put (p_old rfl rfl hget rfl rfl rfl rfl) rfl rfl ?_; conv => whnf))
      exact ⟨⟨(i, f), by omega, hst.skip hb (by simp [hf])⟩, by refine ⟨?_, ?_⟩ <;> (repeat (first | trivial | exact ⟨rfl, trivial⟩ | refine ⟨rfl, ?_⟩ | refine ⟨.inl ⟨rfl, rfl⟩, ?_⟩ | refine ⟨.inr ⟨_, _, rfl, rfl, rfl, rfl, rfl⟩, ?_⟩)), by simp⟩
    | true =>
      have ha : Anc cs b (i + 1) := (hst.at hb).1 hf
      have hget : (rng (cs.length + 1) f)[i + 1]? = some (AV.v (.bool true)) := by rw [rng_get hlt, hf]; rfl
      repeat (first | (refine r_put (p_bin (b_sub (c := (i : Int)) (by omega) (by omega) (by omega)) rfl rfl rfl) rfl rfl ?_; conv => whnf) | first | (refine r_put (p_bin (by first | exact b_lt_t (by omega) | exact b_lt_f (by omega) | exact b_le_t (by omega) | exact b_le_f (by omega) | exact b_gt_t (by omega) | exact b_gt_f (by omega) | exact b_ge_t (by omega) | exact b_ge_f (by omega) | exact b_eq_t (by omega) | exact b_eq_f (by omega) | exact b_ne_t (by omega) | exact b_ne_f (by omega) | exact b_sub rfl (by omega) (by omega) | exact b_add rfl (by omega) (by omega)) rfl rfl rfl) rfl rfl ?_; conv => whnf) | (refine r_put (p_idx (getA _ (by assumption)) rfl rfl rfl) rfl rfl ?_; conv => whnf) | (refine r_put (p_lenm rfl ⟨_, _, _, _, rfl⟩) rfl rfl ?_; conv => whnf) | (refine r_put (p_lenom rfl rfl ⟨_, _, _, _, rfl⟩) rfl rfl ?_; conv => whnf) | (refine r_put (p_len (y := .v (.string _)) rfl rfl rfl) rfl rfl ?_; conv => whnf) | (refine r_put (p_len rfl rfl ⟨_, _, _, _, rfl⟩) rfl rfl ?_; conv => whnf) | (refine o_put (p_oidx (j := i + 1) (by rw [rng_len]; exact hlt) rfl rfl rfl rfl rfl) rfl rfl ?_) | (refine r_put (p_old rfl rfl hget rfl rfl rfl rfl) rfl rfl ?_; conv => whnf))
      have hpar := sto_par hb hi
      refine r_loop (ι := { p : Nat × (Nat → Bool) // p.1 ≤ (cs[i]).1.length ∧ Stp cs b (i + 1) (cs[i]).1 p.1 p.2 }) (fun p => ⟨[(0, .lst 2 (cs.map comA)), (5, .own 12), (6, .v (.int .i64 ((i + 1 : Nat) : Int))), (7, .v (.int .i64 (p.1.1 : Int)))], [(12, ⟨4, 1, rng (cs.length + 1) p.1.2⟩)]⟩) (fun p => (cs[i]).1.length - p.1.1) ⟨(0, f), Nat.zero_le _, Stp.zero hst⟩ (by refine ⟨?_, ?_⟩ <;> (repeat (first | trivial | exact ⟨rfl, trivial⟩ | refine ⟨rfl, ?_⟩ | refine ⟨.inl ⟨rfl, rfl⟩, ?_⟩ | refine ⟨.inr ⟨_, _, rfl, rfl, rfl, rfl, rfl⟩, ?_⟩))) ?_
      rintro ⟨⟨kk, g⟩, hkk, hsp⟩
      dsimp only at hkk hsp ⊢
      conv => whnf
      have hl3 : (cs[i]).1.length ≤ 2 := hpar.1
      by_cases hlk : kk < (cs[i]).1.length
      · obtain ⟨_, g1, g2, _⟩ := hpar.2.2 kk hlk
        obtain ⟨p, hp⟩ : ∃ p : Nat, (cs[i]).1[kk] = (p : Int) := ⟨((cs[i]).1[kk]).toNat, by omega⟩
        have hpl : p < cs.length + 1 := by omega
        repeat (first | (refine r_put (p_bin (b_sub (c := (i : Int)) (by omega) (by omega) (by omega)) rfl rfl rfl) rfl rfl ?_; conv => whnf) | first | (refine r_put (p_bin (by first | exact b_lt_t (by omega) | exact b_lt_f (by omega) | exact b_le_t (by omega) | exact b_le_f (by omega) | exact b_gt_t (by omega) | exact b_gt_f (by omega) | exact b_ge_t (by omega) | exact b_ge_f (by omega) | exact b_eq_t (by omega) | exact b_eq_f (by omega) | exact b_ne_t (by omega) | exact b_ne_f (by omega) | exact b_sub rfl (by omega) (by omega) | exact b_add rfl (by omega) (by omega)) rfl rfl rfl) rfl rfl ?_; conv => whnf) | (refine r_put (p_idx (getA _ (by assumption)) rfl rfl rfl) rfl rfl ?_; conv => whnf) | (refine r_put (p_lenm rfl ⟨_, _, _, _, rfl⟩) rfl rfl ?_; conv => whnf) | (refine r_put (p_lenom rfl rfl ⟨_, _, _, _, rfl⟩) rfl rfl ?_; conv => whnf) | (refine r_put (p_len (y := .v (.string _)) rfl rfl rfl) rfl rfl ?_; conv => whnf) | (refine r_put (p_len rfl rfl ⟨_, _, _, _, rfl⟩) rfl rfl ?_; conv => whnf) | (refine r_put (p_oidx (j := p) (by rw [rng_len]; exact hpl) rfl rfl (by show AV.v (.int .i64 (cs[i]).1[kk]) = _; rw [hp]) rfl rfl) rfl rfl ?_; conv => whnf) | (refine r_step (p_ostore (rng_get hpl) rfl rfl rfl rfl rfl rfl) rfl rfl (fun e => by first | exact .inl rfl | contradiction | exact .inr (.inl (by kernel_rfl))) ?_; conv => whnf))
        exact ⟨⟨(kk + 1, fun x => g x || decide (x = p)), hlk, hsp.next hlk hp⟩, ⟨⟨congrArg (fun x => some (OB.mk _ _ x)) (rng_set hpl), trivial⟩, .inl ⟨rfl, rfl⟩, .inl ⟨rfl, rfl⟩, .inl ⟨rfl, rfl⟩, .inl ⟨rfl, rfl⟩, trivial⟩, by simp; omega⟩
      · have hke : kk = (cs[i]).1.length := by omega
        rw [hke] at hsp
        repeat (first | (refine r_put (p_bin (b_sub (c := (i : Int)) (by omega) (by omega) (by omega)) rfl rfl rfl) rfl rfl ?_; conv => whnf) | first | (refine r_put (p_bin (by first | exact b_lt_t (by omega) | exact b_lt_f (by omega) | exact b_le_t (by omega) | exact b_le_f (by omega) | exact b_gt_t (by omega) | exact b_gt_f (by omega) | exact b_ge_t (by omega) | exact b_ge_f (by omega) | exact b_eq_t (by omega) | exact b_eq_f (by omega) | exact b_ne_t (by omega) | exact b_ne_f (by omega) | exact b_sub rfl (by omega) (by omega) | exact b_add rfl (by omega) (by omega)) rfl rfl rfl) rfl rfl ?_; conv => whnf) | (refine r_put (p_idx (getA _ (by assumption)) rfl rfl rfl) rfl rfl ?_; conv => whnf) | (refine r_put (p_lenm rfl ⟨_, _, _, _, rfl⟩) rfl rfl ?_; conv => whnf) | (refine r_put (p_lenom rfl rfl ⟨_, _, _, _, rfl⟩) rfl rfl ?_; conv => whnf) | (refine r_put (p_len (y := .v (.string _)) rfl rfl rfl) rfl rfl ?_; conv => whnf) | (refine r_put (p_len rfl rfl ⟨_, _, _, _, rfl⟩) rfl rfl ?_; conv => whnf))
        exact ⟨⟨(i, g), by omega, hsp.done hi ha⟩, by refine ⟨?_, ?_⟩ <;> (repeat (first | trivial | exact ⟨rfl, trivial⟩ | refine ⟨rfl, ?_⟩ | refine ⟨.inl ⟨rfl, rfl⟩, ?_⟩ | refine ⟨.inr ⟨_, _, rfl, rfl, rfl, rfl, rfl⟩, ?_⟩)), by simp⟩
end Go.Proofs.Ytnkceemdnefomaa.AM
