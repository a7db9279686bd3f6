/- Whether references are valid, on both sides. -/
import Derived.Test.YtjhimcddgkoghaaF1
import Derived.Test.YtjhimcddgkoghaaNames
namespace Go.Proofs.Ytjhimcddgkoghaa.AM
open Go Go.RowKit
set_option linter.unusedVariables false
set_option linter.unusedSimpArgs false
set_option maxRecDepth 100000

abbrev okN (s : ByteArray) : Bool := Nm.nameOK s.data.toList
def refB (r : Rf) : Bool := okN r.name && (decide (1 ≤ r.ver ∧ r.ver ≤ 1000000) && (if r.gone = true then decide (r.head = 0) else decide (1 ≤ r.head ∧ r.head ≤ 60)))
def rAt : List Rf → ByteArray → Nat → Int
  | [], _, _ => -1
  | y :: l, x, k => if y.name = x then k else rAt l x (k + 1)
theorem rAt_drop {l : List Rf} {x : ByteArray} {k : Nat} (h : k < l.length) : rAt (l.drop k) x k = if l[k].name = x then (k : Int) else rAt (l.drop (k + 1)) x (k + 1) := by
  rw [List.drop_eq_getElem_cons h, rAt]
theorem rAt_spec : ∀ (l : List Rf) (x : ByteArray) (k : Nat), (rAt l x k = -1 ∧ ∀ i (h : i < l.length), l[i].name ≠ x) ∨ ∃ j, ∃ h : j < l.length, rAt l x k = ((k + j : Nat) : Int) ∧ l[j].name = x ∧ ∀ i (hi : i < j), (l[i]'(by omega)).name ≠ x
  | [], x, k => .inl ⟨rfl, fun i h => by simp at h⟩
  | y :: l, x, k => by
    unfold rAt
    by_cases e : y.name = x
    · rw [if_pos e]; exact .inr ⟨0, by simp, by simp, e, fun i h => by omega⟩
    · rw [if_neg e]
      rcases rAt_spec l x (k + 1) with ⟨h1, h2⟩ | ⟨j, hj, h1, h2, h3⟩
      · refine .inl ⟨h1, fun i h => ?_⟩
        cases i with
        | zero => exact e
        | succ i => exact h2 i (by simpa using h)
      · refine .inr ⟨j + 1, by simpa using hj, by rw [h1]; omega, h2, fun i h => ?_⟩
        cases i with
        | zero => exact e
        | succ i => exact h3 i (by omega)
theorem rAt_take {l : List Rf} {i : Nat} (h : i < l.length) : rAt l l[i].name 0 = (i : Int) ↔ rAt (l.take i) l[i].name 0 < 0 := by
  rcases rAt_spec (l.take i) l[i].name 0 with ⟨h1, h2⟩ | ⟨j, hj, h1, h2, h3⟩
  · rw [h1]
    refine ⟨fun _ => by omega, fun _ => ?_⟩
    rcases rAt_spec l l[i].name 0 with ⟨k1, k2⟩ | ⟨j, hj, k1, k2, k3⟩
    · exact absurd rfl (k2 i h)
    · rw [k1]
      rcases Nat.lt_trichotomy j i with q | q | q
      · exact absurd (by rw [List.getElem_take]; exact k2) (h2 j (by simp; omega))
      · omega
      · exact absurd rfl (k3 i q)
  · rw [h1]
    have hji : j < i := by simp at hj; omega
    refine ⟨fun e => ?_, fun e => by omega⟩
    rcases rAt_spec l l[i].name 0 with ⟨k1, k2⟩ | ⟨j', hj', k1, k2, k3⟩
    · omega
    · rw [k1] at e
      have : j' = i := by omega
      subst this
      exact absurd (by rw [← h2, List.getElem_take]) (k3 j hji)
theorem rAt_lt {l : List Rf} {x : ByteArray} (h : 0 ≤ rAt l x 0) : ∃ j, ∃ hj : j < l.length, rAt l x 0 = (j : Int) ∧ l[j].name = x := by
  rcases rAt_spec l x 0 with ⟨h1, _⟩ | ⟨j, hj, h1, h2, _⟩
  · omega
  · exact ⟨j, hj, by rw [h1]; simp, h2⟩
theorem rAt_ge {l : List Rf} {x : ByteArray} : -1 ≤ rAt l x 0 ∧ rAt l x 0 ≤ l.length := by
  rcases rAt_spec l x 0 with ⟨h1, _⟩ | ⟨j, hj, h1, h2, _⟩ <;> rw [h1] <;> omega
def refG (l : List Rf) (i : Nat) : Prop := ∃ h : i < l.length, refB l[i] = true ∧ rAt (l.take i) l[i].name 0 < 0
open Classical in
noncomputable def refsB (l : List Rf) : Bool := decide (l.length ≤ 8 ∧ ∀ i, i < l.length → refG l i)
theorem refsB_f {l : List Rf} (h : ¬ (l.length ≤ 8 ∧ ∀ i, i < l.length → refG l i)) : refsB l = false := by unfold refsB; simpa using h
theorem refsB_t {l : List Rf} (h : l.length ≤ 8 ∧ ∀ i, i < l.length → refG l i) : refsB l = true := by unfold refsB; simpa using h
theorem refsB_of {l : List Rf} (h : refsB l = true) : l.length ≤ 8 ∧ ∀ i, i < l.length → refG l i := by unfold refsB at h; simpa using h
theorem ent_154 : ∀ vs w, (callFunc 154 vs).run Try.prog w = .ok (.enter 154 vs) w := ent_of Try.func154 (by kernel_rfl) (by kernel_rfl)
theorem ent_109 : ∀ vs w, (callFunc 109 vs).run Try.prog w = .ok (.enter 109 vs) w := ent_of Try.func109 (by kernel_rfl) (by kernel_rfl)
theorem ac_l00Word {s : ByteArray} {b : Bool} (hs : s.size ≤ maxLen) (hb : okN s = b) : AC Try.prog 154 [.v (.string s)] ⟨.v (.bool b), []⟩ :=
  hb ▸ ac_val ent_154 rfl fun w S0 vs hS hv => by
    obtain ⟨u', rfl, h2⟩ := rvs1 hv
    rw [arg_v h2]
    exact (l00Word_any s w hs).mono fun e w' ⟨h1, h2⟩ => ⟨h1, by subst h2; exact Below.refl _ _⟩
theorem ac_nameOK {s : ByteArray} {b : Bool} (hs : s.size ≤ maxLen) (hb : okN s = b) : AC Try.prog 109 [.v (.string s)] ⟨.v (.bool b), []⟩ :=
  hb ▸ ac_val ent_109 rfl fun w S0 vs hS hv => by
    obtain ⟨u', rfl, h2⟩ := rvs1 hv
    rw [arg_v h2]
    exact (nameOK_any s w hs).mono fun e w' ⟨h1, h2⟩ => ⟨h1, by subst h2; exact Below.refl _ _⟩
attribute [local irreducible] ACode AOps AOps2 RetG RetM Pre ACG
theorem ac_headOK_t {x : Int} (h : 1 ≤ x) (h' : x ≤ 60) : AC Try.prog 158 [.v (.int .i64 x)] ⟨.v (.bool true), []⟩ := by
  refine r_of Th_ok (by kernel_rfl) Try.func158 rfl Try.ntmps158 Try.results158 (by kernel_rfl) rfl ?_; conv => whnf
  repeat (first | (refine r_put (p_bin (by first | exact b_lt_t (by omega) | exact b_lt_f (by omega) | exact b_le_t (by omega) | exact b_le_f (by omega) | exact b_gt_t (by omega) | exact b_gt_f (by omega) | exact b_ge_t (by omega) | exact b_ge_f (by omega) | exact b_eq_t (by omega) | exact b_eq_f (by omega) | exact b_ne_t (by omega) | exact b_ne_f (by omega) | exact b_sub rfl (by omega) (by omega) | exact b_add rfl (by omega) (by omega)) rfl rfl rfl) rfl rfl ?_; conv => whnf) | (refine r_put (p_idx (getA _ (by assumption)) rfl rfl rfl) rfl rfl ?_; conv => whnf) | (refine r_put (p_lenm rfl ⟨_, _, _, _, rfl⟩) rfl rfl ?_; conv => whnf) | (refine r_put (p_lenom rfl rfl ⟨_, _, _, _, rfl⟩) rfl rfl ?_; conv => whnf) | (refine r_put (p_len (y := .v (.string _)) rfl rfl rfl) rfl rfl ?_; conv => whnf) | (refine r_put (p_len rfl rfl ⟨_, _, _, _, rfl⟩) rfl rfl ?_; conv => whnf))
  exact r_ret1 rfl trivial
theorem ac_headOK_f {x : Int} (h : ¬ (1 ≤ x ∧ x ≤ 60)) : AC Try.prog 158 [.v (.int .i64 x)] ⟨.v (.bool false), []⟩ := by
  by_cases h1 : 1 ≤ x
  · refine r_of Th_ok (by kernel_rfl) Try.func158 rfl Try.ntmps158 Try.results158 (by kernel_rfl) rfl ?_; conv => whnf
    repeat (first | (refine r_put (p_bin (by first | exact b_lt_t (by omega) | exact b_lt_f (by omega) | exact b_le_t (by omega) | exact b_le_f (by omega) | exact b_gt_t (by omega) | exact b_gt_f (by omega) | exact b_ge_t (by omega) | exact b_ge_f (by omega) | exact b_eq_t (by omega) | exact b_eq_f (by omega) | exact b_ne_t (by omega) | exact b_ne_f (by omega) | exact b_sub rfl (by omega) (by omega) | exact b_add rfl (by omega) (by omega)) rfl rfl rfl) rfl rfl ?_; conv => whnf) | (refine r_put (p_idx (getA _ (by assumption)) rfl rfl rfl) rfl rfl ?_; conv => whnf) | (refine r_put (p_lenm rfl ⟨_, _, _, _, rfl⟩) rfl rfl ?_; conv => whnf) | (refine r_put (p_lenom rfl rfl ⟨_, _, _, _, rfl⟩) rfl rfl ?_; conv => whnf) | (refine r_put (p_len (y := .v (.string _)) rfl rfl rfl) rfl rfl ?_; conv => whnf) | (refine r_put (p_len rfl rfl ⟨_, _, _, _, rfl⟩) rfl rfl ?_; conv => whnf))
    exact r_ret1 rfl trivial
  · refine r_of Th_ok (by kernel_rfl) Try.func158 rfl Try.ntmps158 Try.results158 (by kernel_rfl) rfl ?_; conv => whnf
    repeat (first | (refine r_put (p_bin (by first | exact b_lt_t (by omega) | exact b_lt_f (by omega) | exact b_le_t (by omega) | exact b_le_f (by omega) | exact b_gt_t (by omega) | exact b_gt_f (by omega) | exact b_ge_t (by omega) | exact b_ge_f (by omega) | exact b_eq_t (by omega) | exact b_eq_f (by omega) | exact b_ne_t (by omega) | exact b_ne_f (by omega) | exact b_sub rfl (by omega) (by omega) | exact b_add rfl (by omega) (by omega)) rfl rfl rfl) rfl rfl ?_; conv => whnf) | (refine r_put (p_idx (getA _ (by assumption)) rfl rfl rfl) rfl rfl ?_; conv => whnf) | (refine r_put (p_lenm rfl ⟨_, _, _, _, rfl⟩) rfl rfl ?_; conv => whnf) | (refine r_put (p_lenom rfl rfl ⟨_, _, _, _, rfl⟩) rfl rfl ?_; conv => whnf) | (refine r_put (p_len (y := .v (.string _)) rfl rfl rfl) rfl rfl ?_; conv => whnf) | (refine r_put (p_len rfl rfl ⟨_, _, _, _, rfl⟩) rfl rfl ?_; conv => whnf))
    exact r_ret1 rfl trivial
theorem ac_l04At {l : List Rf} {x : ByteArray} (hm : l.length ≤ maxLen) : AC Try.prog 223 [.lst 4 (l.map refA), .v (.string x)] ⟨.v (.int .i64 (rAt l x 0)), []⟩ := by
  unfold maxLen at hm
  refine r_of Th_ok (by kernel_rfl) Try.func223 rfl Try.ntmps223 Try.results223 (by kernel_rfl) rfl ?_; conv => whnf
  refine r_loop (ι := { k : Nat // k ≤ l.length ∧ rAt (l.drop k) x k = rAt l x 0 }) (fun k => ⟨[(0, .lst 4 (l.map refA)), (1, .v (.string x)), (5, .v (.int .i64 (k.1 : Int)))], []⟩) (fun k => l.length - k.1) ⟨0, Nat.zero_le _, rfl⟩ (by refine ⟨?_, ?_⟩ <;> (repeat (first | trivial | exact ⟨rfl, trivial⟩ | refine ⟨rfl, ?_⟩ | refine ⟨.inl ⟨rfl, rfl⟩, ?_⟩ | refine ⟨.inr ⟨_, _, rfl, rfl, rfl, rfl, rfl⟩, ?_⟩))) ?_
  rintro ⟨k, hk, hd⟩
  dsimp only at hk hd ⊢
  conv => whnf
  by_cases hlt : k < l.length
  · rw [rAt_drop hlt] at hd
    by_cases he : l[k].name = x
    · rw [if_pos he] at hd
      rw [← hd]
      repeat (first | first | (refine r_put (p_bin (by first | exact b_lt_t (by omega) | exact b_lt_f (by omega) | exact b_le_t (by omega) | exact b_le_f (by omega) | exact b_gt_t (by omega) | exact b_gt_f (by omega) | exact b_ge_t (by omega) | exact b_ge_f (by omega) | exact b_eq_t (by omega) | exact b_eq_f (by omega) | exact b_ne_t (by omega) | exact b_ne_f (by omega) | exact b_sub rfl (by omega) (by omega) | exact b_add rfl (by omega) (by omega)) rfl rfl rfl) rfl rfl ?_; conv => whnf) | (refine r_put (p_idx (getA _ (by assumption)) rfl rfl rfl) rfl rfl ?_; conv => whnf) | (refine r_put (p_lenm rfl ⟨_, _, _, _, rfl⟩) rfl rfl ?_; conv => whnf) | (refine r_put (p_lenom rfl rfl ⟨_, _, _, _, rfl⟩) rfl rfl ?_; conv => whnf) | (refine r_put (p_len (y := .v (.string _)) rfl rfl rfl) rfl rfl ?_; conv => whnf) | (refine r_put (p_len rfl rfl ⟨_, _, _, _, rfl⟩) rfl rfl ?_; conv => whnf) | (refine r_put (p_bin (b_seq_t he) rfl rfl rfl) rfl rfl ?_; conv => whnf))
      exact r_ret1 rfl trivial
    · rw [if_neg he] at hd
      repeat (first | first | (refine r_put (p_bin (by first | exact b_lt_t (by omega) | exact b_lt_f (by omega) | exact b_le_t (by omega) | exact b_le_f (by omega) | exact b_gt_t (by omega) | exact b_gt_f (by omega) | exact b_ge_t (by omega) | exact b_ge_f (by omega) | exact b_eq_t (by omega) | exact b_eq_f (by omega) | exact b_ne_t (by omega) | exact b_ne_f (by omega) | exact b_sub rfl (by omega) (by omega) | exact b_add rfl (by omega) (by omega)) rfl rfl rfl) rfl rfl ?_; conv => whnf) | (refine r_put (p_idx (getA _ (by assumption)) rfl rfl rfl) rfl rfl ?_; conv => whnf) | (refine r_put (p_lenm rfl ⟨_, _, _, _, rfl⟩) rfl rfl ?_; conv => whnf) | (refine r_put (p_lenom rfl rfl ⟨_, _, _, _, rfl⟩) rfl rfl ?_; conv => whnf) | (refine r_put (p_len (y := .v (.string _)) rfl rfl rfl) rfl rfl ?_; conv => whnf) | (refine r_put (p_len rfl rfl ⟨_, _, _, _, rfl⟩) rfl rfl ?_; conv => whnf) | (refine r_put (p_bin (b_seq_f he) rfl rfl rfl) rfl rfl ?_; conv => whnf))
      exact ⟨⟨k + 1, hlt, hd⟩, by refine ⟨?_, ?_⟩ <;> (repeat (first | trivial | exact ⟨rfl, trivial⟩ | refine ⟨rfl, ?_⟩ | refine ⟨.inl ⟨rfl, rfl⟩, ?_⟩ | refine ⟨.inr ⟨_, _, rfl, rfl, rfl, rfl, rfl⟩, ?_⟩)), by simp; omega⟩
  · rw [← hd, List.drop_eq_nil_of_le (by omega)]
    repeat (first | (refine r_put (p_bin (by first | exact b_lt_t (by omega) | exact b_lt_f (by omega) | exact b_le_t (by omega) | exact b_le_f (by omega) | exact b_gt_t (by omega) | exact b_gt_f (by omega) | exact b_ge_t (by omega) | exact b_ge_f (by omega) | exact b_eq_t (by omega) | exact b_eq_f (by omega) | exact b_ne_t (by omega) | exact b_ne_f (by omega) | exact b_sub rfl (by omega) (by omega) | exact b_add rfl (by omega) (by omega)) rfl rfl rfl) rfl rfl ?_; conv => whnf) | (refine r_put (p_idx (getA _ (by assumption)) rfl rfl rfl) rfl rfl ?_; conv => whnf) | (refine r_put (p_lenm rfl ⟨_, _, _, _, rfl⟩) rfl rfl ?_; conv => whnf) | (refine r_put (p_lenom rfl rfl ⟨_, _, _, _, rfl⟩) rfl rfl ?_; conv => whnf) | (refine r_put (p_len (y := .v (.string _)) rfl rfl rfl) rfl rfl ?_; conv => whnf) | (refine r_put (p_len rfl rfl ⟨_, _, _, _, rfl⟩) rfl rfl ?_; conv => whnf))
    exact r_ret1 rfl trivial
theorem ac_placeF {r : Rf} {x : ByteArray} {b : Bool} (hb : decide (r.name = x) = b) : AC Try.prog 232 [refA r, .ptr (.v (.string x))] ⟨.v (.bool b), []⟩ := by
  by_cases h : r.name = x
  · rw [← hb, decide_eq_true h]
    refine r_of Th_ok (by kernel_rfl) Try.func232 rfl Try.ntmps232 Try.results232 (by kernel_rfl) rfl ?_; conv => whnf
    repeat (first | first | (refine r_put (p_bin (by first | exact b_lt_t (by omega) | exact b_lt_f (by omega) | exact b_le_t (by omega) | exact b_le_f (by omega) | exact b_gt_t (by omega) | exact b_gt_f (by omega) | exact b_ge_t (by omega) | exact b_ge_f (by omega) | exact b_eq_t (by omega) | exact b_eq_f (by omega) | exact b_ne_t (by omega) | exact b_ne_f (by omega) | exact b_sub rfl (by omega) (by omega) | exact b_add rfl (by omega) (by omega)) rfl rfl rfl) rfl rfl ?_; conv => whnf) | (refine r_put (p_idx (getA _ (by assumption)) rfl rfl rfl) rfl rfl ?_; conv => whnf) | (refine r_put (p_lenm rfl ⟨_, _, _, _, rfl⟩) rfl rfl ?_; conv => whnf) | (refine r_put (p_lenom rfl rfl ⟨_, _, _, _, rfl⟩) rfl rfl ?_; conv => whnf) | (refine r_put (p_len (y := .v (.string _)) rfl rfl rfl) rfl rfl ?_; conv => whnf) | (refine r_put (p_len rfl rfl ⟨_, _, _, _, rfl⟩) rfl rfl ?_; conv => whnf) | (refine r_put (p_bin (b_seq_t h) rfl rfl rfl) rfl rfl ?_; conv => whnf))
    exact r_ret1 rfl trivial
  · rw [← hb, decide_eq_false h]
    refine r_of Th_ok (by kernel_rfl) Try.func232 rfl Try.ntmps232 Try.results232 (by kernel_rfl) rfl ?_; conv => whnf
    repeat (first | first | (refine r_put (p_bin (by first | exact b_lt_t (by omega) | exact b_lt_f (by omega) | exact b_le_t (by omega) | exact b_le_f (by omega) | exact b_gt_t (by omega) | exact b_gt_f (by omega) | exact b_ge_t (by omega) | exact b_ge_f (by omega) | exact b_eq_t (by omega) | exact b_eq_f (by omega) | exact b_ne_t (by omega) | exact b_ne_f (by omega) | exact b_sub rfl (by omega) (by omega) | exact b_add rfl (by omega) (by omega)) rfl rfl rfl) rfl rfl ?_; conv => whnf) | (refine r_put (p_idx (getA _ (by assumption)) rfl rfl rfl) rfl rfl ?_; conv => whnf) | (refine r_put (p_lenm rfl ⟨_, _, _, _, rfl⟩) rfl rfl ?_; conv => whnf) | (refine r_put (p_lenom rfl rfl ⟨_, _, _, _, rfl⟩) rfl rfl ?_; conv => whnf) | (refine r_put (p_len (y := .v (.string _)) rfl rfl rfl) rfl rfl ?_; conv => whnf) | (refine r_put (p_len rfl rfl ⟨_, _, _, _, rfl⟩) rfl rfl ?_; conv => whnf) | (refine r_put (p_bin (b_seq_f h) rfl rfl rfl) rfl rfl ?_; conv => whnf))
    exact r_ret1 rfl trivial
theorem ac_indexRef {l : List Rf} {x : ByteArray} (hm : l.length ≤ maxLen) : AC Try.prog 231 [.lst 4 (l.map refA), .fn 232 [] [.ptr (.v (.string x))]] ⟨.v (.int .i64 (rAt l x 0)), []⟩ := by
  unfold maxLen at hm
  refine r_of Th_ok (by kernel_rfl) Try.func231 rfl Try.ntmps231 Try.results231 (by kernel_rfl) rfl ?_; conv => whnf
  repeat (first | (refine r_put (p_bin (by first | exact b_lt_t (by omega) | exact b_lt_f (by omega) | exact b_le_t (by omega) | exact b_le_f (by omega) | exact b_gt_t (by omega) | exact b_gt_f (by omega) | exact b_ge_t (by omega) | exact b_ge_f (by omega) | exact b_eq_t (by omega) | exact b_eq_f (by omega) | exact b_ne_t (by omega) | exact b_ne_f (by omega) | exact b_sub rfl (by omega) (by omega) | exact b_add rfl (by omega) (by omega)) rfl rfl rfl) rfl rfl ?_; conv => whnf) | (refine r_put (p_idx (getA _ (by assumption)) rfl rfl rfl) rfl rfl ?_; conv => whnf) | (refine r_put (p_lenm rfl ⟨_, _, _, _, rfl⟩) rfl rfl ?_; conv => whnf) | (refine r_put (p_lenom rfl rfl ⟨_, _, _, _, rfl⟩) rfl rfl ?_; conv => whnf) | (refine r_put (p_len (y := .v (.string _)) rfl rfl rfl) rfl rfl ?_; conv => whnf) | (refine r_put (p_len rfl rfl ⟨_, _, _, _, rfl⟩) rfl rfl ?_; conv => whnf))
  refine r_loop (ι := { k : Nat // k ≤ l.length ∧ rAt (l.drop k) x k = rAt l x 0 }) (fun k => ⟨[(0, .lst 4 (l.map refA)), (1, .fn 232 [] [.ptr (.v (.string x))]), (7, .v (.int .i64 (l.length : Int))), (8, .v (.int .i64 (k.1 : Int)))], []⟩) (fun k => l.length - k.1) ⟨0, Nat.zero_le _, rfl⟩ (by refine ⟨?_, ?_⟩ <;> (repeat (first | trivial | exact ⟨rfl, trivial⟩ | refine ⟨rfl, ?_⟩ | refine ⟨.inl ⟨rfl, rfl⟩, ?_⟩ | refine ⟨.inr ⟨_, _, rfl, rfl, rfl, rfl, rfl⟩, ?_⟩))) ?_
  rintro ⟨k, hk, hd⟩
  dsimp only at hk hd ⊢
  conv => whnf
  by_cases hlt : k < l.length
  · rw [rAt_drop hlt] at hd
    by_cases he : l[k].name = x
    · rw [if_pos he] at hd
      rw [← hd]
      repeat (first | first | (refine r_put (p_bin (by first | exact b_lt_t (by omega) | exact b_lt_f (by omega) | exact b_le_t (by omega) | exact b_le_f (by omega) | exact b_gt_t (by omega) | exact b_gt_f (by omega) | exact b_ge_t (by omega) | exact b_ge_f (by omega) | exact b_eq_t (by omega) | exact b_eq_f (by omega) | exact b_ne_t (by omega) | exact b_ne_f (by omega) | exact b_sub rfl (by omega) (by omega) | exact b_add rfl (by omega) (by omega)) rfl rfl rfl) rfl rfl ?_; conv => whnf) | (refine r_put (p_idx (getA _ (by assumption)) rfl rfl rfl) rfl rfl ?_; conv => whnf) | (refine r_put (p_lenm rfl ⟨_, _, _, _, rfl⟩) rfl rfl ?_; conv => whnf) | (refine r_put (p_lenom rfl rfl ⟨_, _, _, _, rfl⟩) rfl rfl ?_; conv => whnf) | (refine r_put (p_len (y := .v (.string _)) rfl rfl rfl) rfl rfl ?_; conv => whnf) | (refine r_put (p_len rfl rfl ⟨_, _, _, _, rfl⟩) rfl rfl ?_; conv => whnf) | (refine r_step (p_callv (ac_placeF (r := l[k]) (decide_eq_true he)) rfl rfl (.inl rfl) trivial rfl rfl) rfl rfl (fun e => by first | exact .inl rfl | contradiction | exact .inr (.inl (by kernel_rfl))) ?_; conv => whnf))
      exact r_ret1 rfl trivial
    · rw [if_neg he] at hd
      repeat (first | first | (refine r_put (p_bin (by first | exact b_lt_t (by omega) | exact b_lt_f (by omega) | exact b_le_t (by omega) | exact b_le_f (by omega) | exact b_gt_t (by omega) | exact b_gt_f (by omega) | exact b_ge_t (by omega) | exact b_ge_f (by omega) | exact b_eq_t (by omega) | exact b_eq_f (by omega) | exact b_ne_t (by omega) | exact b_ne_f (by omega) | exact b_sub rfl (by omega) (by omega) | exact b_add rfl (by omega) (by omega)) rfl rfl rfl) rfl rfl ?_; conv => whnf) | (refine r_put (p_idx (getA _ (by assumption)) rfl rfl rfl) rfl rfl ?_; conv => whnf) | (refine r_put (p_lenm rfl ⟨_, _, _, _, rfl⟩) rfl rfl ?_; conv => whnf) | (refine r_put (p_lenom rfl rfl ⟨_, _, _, _, rfl⟩) rfl rfl ?_; conv => whnf) | (refine r_put (p_len (y := .v (.string _)) rfl rfl rfl) rfl rfl ?_; conv => whnf) | (refine r_put (p_len rfl rfl ⟨_, _, _, _, rfl⟩) rfl rfl ?_; conv => whnf) | (refine r_step (p_callv (ac_placeF (r := l[k]) (decide_eq_false he)) rfl rfl (.inl rfl) trivial rfl rfl) rfl rfl (fun e => by first | exact .inl rfl | contradiction | exact .inr (.inl (by kernel_rfl))) ?_; conv => whnf))
      exact ⟨⟨k + 1, hlt, hd⟩, by refine ⟨?_, ?_⟩ <;> (repeat (first | trivial | exact ⟨rfl, trivial⟩ | refine ⟨rfl, ?_⟩ | refine ⟨.inl ⟨rfl, rfl⟩, ?_⟩ | refine ⟨.inr ⟨_, _, rfl, rfl, rfl, rfl, rfl⟩, ?_⟩)), by simp; omega⟩
  · rw [← hd, List.drop_eq_nil_of_le (by omega)]
    repeat (first | (refine r_put (p_bin (by first | exact b_lt_t (by omega) | exact b_lt_f (by omega) | exact b_le_t (by omega) | exact b_le_f (by omega) | exact b_gt_t (by omega) | exact b_gt_f (by omega) | exact b_ge_t (by omega) | exact b_ge_f (by omega) | exact b_eq_t (by omega) | exact b_eq_f (by omega) | exact b_ne_t (by omega) | exact b_ne_f (by omega) | exact b_sub rfl (by omega) (by omega) | exact b_add rfl (by omega) (by omega)) rfl rfl rfl) rfl rfl ?_; conv => whnf) | (refine r_put (p_idx (getA _ (by assumption)) rfl rfl rfl) rfl rfl ?_; conv => whnf) | (refine r_put (p_lenm rfl ⟨_, _, _, _, rfl⟩) rfl rfl ?_; conv => whnf) | (refine r_put (p_lenom rfl rfl ⟨_, _, _, _, rfl⟩) rfl rfl ?_; conv => whnf) | (refine r_put (p_len (y := .v (.string _)) rfl rfl rfl) rfl rfl ?_; conv => whnf) | (refine r_put (p_len rfl rfl ⟨_, _, _, _, rfl⟩) rfl rfl ?_; conv => whnf))
    exact r_ret1 rfl trivial
theorem ac_placeOfRef {l : List Rf} {x : ByteArray} (hm : l.length ≤ maxLen) : AC Try.prog 159 [.lst 4 (l.map refA), .v (.string x)] ⟨.v (.int .i64 (rAt l x 0)), []⟩ := by
  refine r_of Th_ok (by kernel_rfl) Try.func159 rfl Try.ntmps159 Try.results159 (by kernel_rfl) rfl ?_; conv => whnf
  repeat (first | first | (refine r_put (p_bin (by first | exact b_lt_t (by omega) | exact b_lt_f (by omega) | exact b_le_t (by omega) | exact b_le_f (by omega) | exact b_gt_t (by omega) | exact b_gt_f (by omega) | exact b_ge_t (by omega) | exact b_ge_f (by omega) | exact b_eq_t (by omega) | exact b_eq_f (by omega) | exact b_ne_t (by omega) | exact b_ne_f (by omega) | exact b_sub rfl (by omega) (by omega) | exact b_add rfl (by omega) (by omega)) rfl rfl rfl) rfl rfl ?_; conv => whnf) | (refine r_put (p_idx (getA _ (by assumption)) rfl rfl rfl) rfl rfl ?_; conv => whnf) | (refine r_put (p_lenm rfl ⟨_, _, _, _, rfl⟩) rfl rfl ?_; conv => whnf) | (refine r_put (p_lenom rfl rfl ⟨_, _, _, _, rfl⟩) rfl rfl ?_; conv => whnf) | (refine r_put (p_len (y := .v (.string _)) rfl rfl rfl) rfl rfl ?_; conv => whnf) | (refine r_put (p_len rfl rfl ⟨_, _, _, _, rfl⟩) rfl rfl ?_; conv => whnf) | (refine r_step (p_box (y := .v _) rfl rfl rfl rfl) rfl rfl (fun e => by first | exact .inl rfl | contradiction | exact .inr (.inl (by kernel_rfl))) ?_; conv => whnf))
  refine r_step (p_callg [] (ac_indexRef hm) rfl rfl trivial rfl rfl trivial rfl rfl rfl (.inr ⟨⟨by simp [flatA], flat_o0⟩, by simp⟩) rfl) rfl rfl (fun e => by first | exact .inl rfl | contradiction | exact .inr (.inl (by kernel_rfl))) ?_
  conv => whnf
  repeat (first | (refine r_put (p_bin (by first | exact b_lt_t (by omega) | exact b_lt_f (by omega) | exact b_le_t (by omega) | exact b_le_f (by omega) | exact b_gt_t (by omega) | exact b_gt_f (by omega) | exact b_ge_t (by omega) | exact b_ge_f (by omega) | exact b_eq_t (by omega) | exact b_eq_f (by omega) | exact b_ne_t (by omega) | exact b_ne_f (by omega) | exact b_sub rfl (by omega) (by omega) | exact b_add rfl (by omega) (by omega)) rfl rfl rfl) rfl rfl ?_; conv => whnf) | (refine r_put (p_idx (getA _ (by assumption)) rfl rfl rfl) rfl rfl ?_; conv => whnf) | (refine r_put (p_lenm rfl ⟨_, _, _, _, rfl⟩) rfl rfl ?_; conv => whnf) | (refine r_put (p_lenom rfl rfl ⟨_, _, _, _, rfl⟩) rfl rfl ?_; conv => whnf) | (refine r_put (p_len (y := .v (.string _)) rfl rfl rfl) rfl rfl ?_; conv => whnf) | (refine r_put (p_len rfl rfl ⟨_, _, _, _, rfl⟩) rfl rfl ?_; conv => whnf))
  exact r_ret1 rfl trivial
end Go.Proofs.Ytjhimcddgkoghaa.AM
