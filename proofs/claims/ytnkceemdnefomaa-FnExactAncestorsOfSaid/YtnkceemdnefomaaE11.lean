/- The commits that a commit is made of: the program's side (the walk's closure). -/
import Derived.Test.YtnkceemdnefomaaE10
namespace Go.Proofs.Ytnkceemdnefomaa.AM
open Go Go.RowKit
set_option linter.unusedVariables false
set_option linter.unusedSimpArgs false
set_option maxRecDepth 100000
def parsN (cs : List Cmt) (id : Nat) : List Nat := match cs[id - 1]? with
  | some c => c.1.map Int.toNat
  | none => []
def nodeA (cs : List Cmt) : Nat → Nat → AV
  | 0, id => .agg [.v (.int .i64 (id : Int)), .lst 1 []]
  | n + 1, id => .agg [.v (.int .i64 (id : Int)), .lst 1 ((parsN cs id).map fun p => .ptr (nodeA cs n p))]
def mark (f : Nat → Bool) (i : Nat) : Nat → Bool := fun x => f x || decide (x = i)
def walkM (cs : List Cmt) : Nat → Nat → (Nat → Bool) → Nat → Bool
  | 0, id, f => f
  | n + 1, id, f => match f id with
    | true => f
    | false => (parsN cs id).foldl (fun g p => walkM cs n p g) (mark f id)
theorem getP_rng {m j : Nat} {f : Nat → Bool} (h : j < m) : getP (.agg (rng m f)) [j] 0 = some (bA (f j), 0 + j * 1) := by
  have hz : ∀ (k : Nat), k ≤ m → aszs ((rng m f).take k) = k := fun k hk => by
    rw [aszs_const (sz := 1) (fun x hx => by
      have := List.mem_of_mem_take hx
      unfold rng at this
      obtain ⟨b, _, rfl⟩ := List.mem_map.1 this
      rfl), List.length_take, rng_len, Nat.min_eq_left hk, Nat.mul_one]
  simp [getP, rng_get h, hz j (by omega)]
def seenO (f : Nat → Bool) : OB := ⟨.s 107, 61, [.agg (rng 61 f)]⟩
def walkO (x : AV) : OB := ⟨.o (some 151) 0 (.fn 129 [] [.optr 0 0 [] 0, .optr 1000000 0 [] 0]), 1, [x]⟩
theorem set_rng {j : Nat} {f : Nat → Bool} (h : j < 61) : setP (.agg (rng 61 f)) [j] (.v (.bool true)) = .agg (rng 61 (mark f j)) := by
  have := rng_set (m := 61) (f := f) h
  simp only [setP, rng_get h]
  exact congrArg AV.agg this
theorem r_retG0 {s : St} {Θ : Tab} {rout : List OB} (h : retIn s 0 rout) : RetG Θ [] rout ⟨.tup [], []⟩ .ret s := ⟨h, [], by simp, trivial, trivial, ⟨_, rfl⟩, trivial⟩
theorem r_retG0n {s : St} {Θ : Tab} {rout : List OB} (h : retIn s 0 rout) : RetG Θ [] rout ⟨.tup [], []⟩ .normal s := ⟨h, [], by simp, trivial, trivial, ⟨_, rfl⟩, trivial⟩
theorem parsN_lt {cs : List Cmt} (hb : stoB cs = true) {id : Nat} (h1 : 1 ≤ id) (h3 : id ≤ cs.length) : ∀ p ∈ parsN cs id, 1 ≤ p ∧ p < id := fun p hp => by
  have hi : id - 1 < cs.length := by omega
  unfold parsN at hp
  rw [List.getElem?_eq_getElem hi] at hp
  obtain ⟨y, hy, rfl⟩ := List.mem_map.1 hp
  obtain ⟨i, hi2, rfl⟩ := List.getElem_of_mem hy
  obtain ⟨_, k1, k2, _⟩ := (sto_par hb hi).2.2 i hi2
  omega
theorem parsN_len {cs : List Cmt} (hb : stoB cs = true) (id : Nat) : (parsN cs id).length ≤ 2 := by
  unfold parsN
  split
  · rename_i c h
    obtain ⟨hi, rfl⟩ := List.getElem?_eq_some_iff.1 h
    rw [List.length_map]; exact (sto_par hb hi).1
  · simp
attribute [local irreducible] ACode AOps RetG RetM Pre ACG
theorem acg_walk {cs : List Cmt} (hb : stoB cs = true) {x : AV} : ∀ (n id : Nat) (f : Nat → Bool), 1 ≤ id → id ≤ n → id ≤ cs.length → ACG Try.prog 129 [.ptr (nodeA cs n id), .optr 0 0 [] 0, .optr 1000000 0 [] 0] [seenO f, walkO x] [seenO (walkM cs n id f), walkO x] ⟨.tup [], []⟩ := by
  intro n
  induction n with
  | zero => intro id f h1 h2; omega
  | succ n ih =>
    intro id f h1 h2 h3
    obtain ⟨hl1, hl2⟩ := sto_len hb
    have h61 : id < 61 := by omega
    refine r_ofG Th_ok (by kernel_rfl) Try.func129 rfl Try.ntmps129 Try.results129 (by kernel_rfl) rfl rfl rfl ?_
    conv => whnf
    cases hf : f id with
    | true =>
      have hw : walkM cs (n + 1) id f = f := by simp [walkM, hf]
      rw [hw]
      have hget : getP (.agg (rng 61 f)) [id] 0 = some (AV.v (.bool true), 0 + id * 1) := by rw [getP_rng h61, hf]; rfl
      repeat (first | first | (refine r_put (p_bin (by first | exact b_lt_t (by omega) | exact b_lt_f (by omega) | exact b_le_t (by omega) | exact b_le_f (by omega) | exact b_gt_t (by omega) | exact b_gt_f (by omega) | exact b_ge_t (by omega) | exact b_ge_f (by omega) | exact b_eq_t (by omega) | exact b_eq_f (by omega) | exact b_ne_t (by omega) | exact b_ne_f (by omega) | exact b_sub rfl (by omega) (by omega) | exact b_add rfl (by omega) (by omega)) rfl rfl rfl) rfl rfl ?_; conv => whnf) | (refine r_put (p_idx (getA _ (by assumption)) rfl rfl rfl) rfl rfl ?_; conv => whnf) | (refine r_put (p_lenm rfl ⟨_, _, _, _, rfl⟩) rfl rfl ?_; conv => whnf) | (refine r_put (p_lenom rfl rfl ⟨_, _, _, _, rfl⟩) rfl rfl ?_; conv => whnf) | (refine r_put (p_len (y := .v (.string _)) rfl rfl rfl) rfl rfl ?_; conv => whnf) | (refine r_put (p_len rfl rfl ⟨_, _, _, _, rfl⟩) rfl rfl ?_; conv => whnf) | (refine o_put (p_aidx h61 rfl rfl rfl) rfl rfl ?_) | (refine r_put (p_old rfl rfl rfl hget rfl rfl rfl) rfl rfl ?_; conv => whnf))
      exact r_retG0 ⟨rfl, rfl, trivial⟩
    | false =>
      have hw : walkM cs (n + 1) id f = (parsN cs id).foldl (fun g p => walkM cs n p g) (mark f id) := by simp [walkM, hf]
      have hget : getP (.agg (rng 61 f)) [id] 0 = some (AV.v (.bool false), 0 + id * 1) := by rw [getP_rng h61, hf]; rfl
      repeat (first | first | (refine r_put (p_bin (by first | exact b_lt_t (by omega) | exact b_lt_f (by omega) | exact b_le_t (by omega) | exact b_le_f (by omega) | exact b_gt_t (by omega) | exact b_gt_f (by omega) | exact b_ge_t (by omega) | exact b_ge_f (by omega) | exact b_eq_t (by omega) | exact b_eq_f (by omega) | exact b_ne_t (by omega) | exact b_ne_f (by omega) | exact b_sub rfl (by omega) (by omega) | exact b_add rfl (by omega) (by omega)) rfl rfl rfl) rfl rfl ?_; conv => whnf) | (refine r_put (p_idx (getA _ (by assumption)) rfl rfl rfl) rfl rfl ?_; conv => whnf) | (refine r_put (p_lenm rfl ⟨_, _, _, _, rfl⟩) rfl rfl ?_; conv => whnf) | (refine r_put (p_lenom rfl rfl ⟨_, _, _, _, rfl⟩) rfl rfl ?_; conv => whnf) | (refine r_put (p_len (y := .v (.string _)) rfl rfl rfl) rfl rfl ?_; conv => whnf) | (refine r_put (p_len rfl rfl ⟨_, _, _, _, rfl⟩) rfl rfl ?_; conv => whnf) | (refine o_put (p_aidx h61 rfl rfl rfl) rfl rfl ?_) | (refine r_put (p_old rfl rfl rfl hget rfl rfl rfl) rfl rfl ?_; conv => whnf) | (refine r_step (p_ostore rfl rfl rfl hget rfl rfl rfl) rfl rfl (fun e => by first | exact .inl rfl | contradiction | exact .inr (.inl (by kernel_rfl))) ?_; conv => whnf))
      rw [hw]
      have hpl := parsN_lt hb h1 h3
      have hp2 := parsN_len hb id
      refine r_loop (ι := { k : Nat // k ≤ (parsN cs id).length }) (fun k => ⟨[(2, .optr 1000000 0 [] 0), (20, .lst 1 ((parsN cs id).map fun p => .ptr (nodeA cs n p))), (21, .v (.int .i64 ((parsN cs id).length : Int))), (22, .v (.int .i64 (k.1 : Int)))], [(0, seenO (((parsN cs id).take k.1).foldl (fun g p => walkM cs n p g) (mark f id))), (1000000, walkO x)]⟩) (fun k => (parsN cs id).length - k.1) ⟨0, Nat.zero_le _⟩ ⟨⟨congrArg (fun y => some (OB.mk _ _ [y])) (set_rng h61), rfl, trivial⟩, .inl ⟨rfl, rfl⟩, .inl ⟨rfl, rfl⟩, .inl ⟨rfl, rfl⟩, .inl ⟨rfl, rfl⟩, trivial⟩ ?_
      rintro ⟨k, hk⟩
      dsimp only at hk ⊢
      conv => whnf
      by_cases hlt : k < (parsN cs id).length
      · obtain ⟨p1, p2⟩ := hpl _ (List.getElem_mem hlt)
        have hfold : walkM cs n (parsN cs id)[k] (((parsN cs id).take k).foldl (fun g p => walkM cs n p g) (mark f id)) = ((parsN cs id).take (k + 1)).foldl (fun g p => walkM cs n p g) (mark f id) := by
          rw [List.take_succ_eq_append_getElem hlt, List.foldl_append]; rfl
        have hac := ih (parsN cs id)[k] (((parsN cs id).take k).foldl (fun g p => walkM cs n p g) (mark f id)) p1 (by omega) (by omega)
        rw [hfold] at hac
        repeat (first | first | (refine r_put (p_bin (by first | exact b_lt_t (by omega) | exact b_lt_f (by omega) | exact b_le_t (by omega) | exact b_le_f (by omega) | exact b_gt_t (by omega) | exact b_gt_f (by omega) | exact b_ge_t (by omega) | exact b_ge_f (by omega) | exact b_eq_t (by omega) | exact b_eq_f (by omega) | exact b_ne_t (by omega) | exact b_ne_f (by omega) | exact b_sub rfl (by omega) (by omega) | exact b_add rfl (by omega) (by omega)) rfl rfl rfl) rfl rfl ?_; conv => whnf) | (refine r_put (p_idx (getA _ (by assumption)) rfl rfl rfl) rfl rfl ?_; conv => whnf) | (refine r_put (p_lenm rfl ⟨_, _, _, _, rfl⟩) rfl rfl ?_; conv => whnf) | (refine r_put (p_lenom rfl rfl ⟨_, _, _, _, rfl⟩) rfl rfl ?_; conv => whnf) | (refine r_put (p_len (y := .v (.string _)) rfl rfl rfl) rfl rfl ?_; conv => whnf) | (refine r_put (p_len rfl rfl ⟨_, _, _, _, rfl⟩) rfl rfl ?_; conv => whnf) | (refine r_step (p_callg [0, 1000000] hac rfl rfl ⟨rfl, rfl, trivial⟩ rfl rfl trivial rfl rfl rfl (.inl rfl) rfl) rfl rfl (fun e => by first | exact .inl rfl | contradiction | exact .inr (.inl (by kernel_rfl))) ?_; conv => whnf))
        exact ⟨⟨k + 1, hlt⟩, ⟨⟨rfl, rfl, trivial⟩, .inl ⟨rfl, rfl⟩, .inl ⟨rfl, rfl⟩, .inl ⟨rfl, rfl⟩, .inl ⟨rfl, rfl⟩, trivial⟩, by simp; omega⟩
      · have hke : k = (parsN cs id).length := by omega
        subst hke
        repeat (first | (refine r_put (p_bin (by first | exact b_lt_t (by omega) | exact b_lt_f (by omega) | exact b_le_t (by omega) | exact b_le_f (by omega) | exact b_gt_t (by omega) | exact b_gt_f (by omega) | exact b_ge_t (by omega) | exact b_ge_f (by omega) | exact b_eq_t (by omega) | exact b_eq_f (by omega) | exact b_ne_t (by omega) | exact b_ne_f (by omega) | exact b_sub rfl (by omega) (by omega) | exact b_add rfl (by omega) (by omega)) rfl rfl rfl) rfl rfl ?_; conv => whnf) | (refine r_put (p_idx (getA _ (by assumption)) rfl rfl rfl) rfl rfl ?_; conv => whnf) | (refine r_put (p_lenm rfl ⟨_, _, _, _, rfl⟩) rfl rfl ?_; conv => whnf) | (refine r_put (p_lenom rfl rfl ⟨_, _, _, _, rfl⟩) rfl rfl ?_; conv => whnf) | (refine r_put (p_len (y := .v (.string _)) rfl rfl rfl) rfl rfl ?_; conv => whnf) | (refine r_put (p_len rfl rfl ⟨_, _, _, _, rfl⟩) rfl rfl ?_; conv => whnf))
        first
          | exact r_retG0 ⟨by rw [List.take_length]; rfl, rfl, trivial⟩
          | exact r_retG0n ⟨by show some (seenO _) = _; rw [List.take_length], rfl, trivial⟩
          | exact r_retG0 ⟨by show some (seenO _) = _; rw [List.take_length], rfl, trivial⟩
end Go.Proofs.Ytnkceemdnefomaa.AM
