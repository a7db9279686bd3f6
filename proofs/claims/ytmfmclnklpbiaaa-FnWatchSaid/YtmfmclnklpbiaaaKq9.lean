/- Texts of the machine over data, folded. -/
import Derived.Test.YtmfmclnklpbiaaaKq5
import Derived.Test.YtmfmclnklpbiaaaKq8
import Derived.Test.YtmfmclnklpbiaaaKq7
import Derived.Test.YtmfmclnklpbiaaaKq6
/- Whether events are valid, on both sides. -/
namespace Go.Proofs.Ytmfmclnklpbiaaa.AM
open Go Go.RowKit
set_option linter.unusedVariables false
set_option linter.unusedSimpArgs false
set_option maxRecDepth 100000
def evOKB (e : Evt) : Bool := decide (1 ≤ e.ver ∧ e.ver ≤ 1000000) && decide (0 ≤ e.head ∧ e.head ≤ 60)
def fB (e b : Evt) : Bool := decide (e.ver = b.ver + 1) || (e.lag && decide (b.ver < e.ver))
def evG (l : List Evt) (i : Nat) : Prop := ∃ h : i < l.length, evOKB l[i] = true ∧ ∀ m, (hm : m + 1 = i) → fB l[i] (l[m]'(by omega)) = true
open Classical in
noncomputable def evsB (l : List Evt) : Bool := decide (∀ i, i < l.length → evG l i)
theorem evsB_f {l : List Evt} (h : ¬ ∀ i, i < l.length → evG l i) : evsB l = false := by unfold evsB; simpa using h
theorem evsB_t {l : List Evt} (h : ∀ i, i < l.length → evG l i) : evsB l = true := by unfold evsB; simpa using h
theorem evsB_of {l : List Evt} (h : evsB l = true) : ∀ i, i < l.length → evG l i := by unfold evsB at h; simpa using h
theorem eB_t {e : Evt} (h1 : 1 ≤ e.ver ∧ e.ver ≤ 1000000) (h2 : 0 ≤ e.head ∧ e.head ≤ 60) : evOKB e = true := by unfold evOKB; simp [h1, h2]
theorem eB_of {e : Evt} (h : evOKB e = true) : (1 ≤ e.ver ∧ e.ver ≤ 1000000) ∧ (0 ≤ e.head ∧ e.head ≤ 60) := by unfold evOKB at h; simpa using h
theorem fB_t {e b : Evt} (h : e.ver = b.ver + 1 ∨ (e.lag = true ∧ b.ver < e.ver)) : fB e b = true := by unfold fB; simpa using h
attribute [local irreducible] ACode AOps AOps2 RetG RetM Pre ACG
theorem ac_eventOK {e : Evt} : AC Try.prog 62 [evtA e] ⟨.v (.bool (evOKB e)), []⟩ := by
  by_cases h1 : 1 ≤ e.ver
  case neg =>
    rw [show evOKB e = false by unfold evOKB; simp [h1]]
    refine r_of Th_ok (by kernel_rfl) Try.func62 rfl Try.ntmps62 Try.results62 (by kernel_rfl) rfl ?_; conv => whnf
    repeat (((first | refine qb rfl rfl ?_ | refine qi (by assumption) rfl rfl ?_ | refine ql rfl ?_ | refine qo rfl rfl ?_ | refine qs rfl rfl ?_ | refine qn rfl rfl ?_); conv => whnf))
    exact r_ret1 rfl trivial
  by_cases h2 : e.ver ≤ 1000000
  case neg =>
    rw [show evOKB e = false by unfold evOKB; simp [h2]]
    refine r_of Th_ok (by kernel_rfl) Try.func62 rfl Try.ntmps62 Try.results62 (by kernel_rfl) rfl ?_; conv => whnf
    repeat (((first | refine qb rfl rfl ?_ | refine qi (by assumption) rfl rfl ?_ | refine ql rfl ?_ | refine qo rfl rfl ?_ | refine qs rfl rfl ?_ | refine qn rfl rfl ?_); conv => whnf))
    exact r_ret1 rfl trivial
  by_cases h3 : e.head = 0
  · rw [eB_t ⟨h1, h2⟩ ⟨by omega, by omega⟩]
    refine r_of Th_ok (by kernel_rfl) Try.func62 rfl Try.ntmps62 Try.results62 (by kernel_rfl) rfl ?_; conv => whnf
    repeat (((first | refine qb rfl rfl ?_ | refine qi (by assumption) rfl rfl ?_ | refine ql rfl ?_ | refine qo rfl rfl ?_ | refine qs rfl rfl ?_ | refine qn rfl rfl ?_); conv => whnf))
    exact r_ret1 rfl trivial
  by_cases h4 : 1 ≤ e.head ∧ e.head ≤ 60
  · rw [eB_t ⟨h1, h2⟩ ⟨by omega, by omega⟩]
    refine r_of Th_ok (by kernel_rfl) Try.func62 rfl Try.ntmps62 Try.results62 (by kernel_rfl) rfl ?_; conv => whnf
    repeat (first | ((first | refine qb rfl rfl ?_ | refine qi (by assumption) rfl rfl ?_ | refine ql rfl ?_ | refine qo rfl rfl ?_ | refine qs rfl rfl ?_ | refine qn rfl rfl ?_); conv => whnf) | (refine qc (ac_headOK_t h4.1 h4.2) rfl ?_; conv => whnf))
    exact r_ret1 rfl trivial
  · rw [show evOKB e = false by
      cases hh : evOKB e with
      | false => rfl
      | true => exact absurd (eB_of hh).2 (by omega)]
    refine r_of Th_ok (by kernel_rfl) Try.func62 rfl Try.ntmps62 Try.results62 (by kernel_rfl) rfl ?_; conv => whnf
    repeat (first | ((first | refine qb rfl rfl ?_ | refine qi (by assumption) rfl rfl ?_ | refine ql rfl ?_ | refine qo rfl rfl ?_ | refine qs rfl rfl ?_ | refine qn rfl rfl ?_); conv => whnf) | (refine qc (ac_headOK_f h4) rfl ?_; conv => whnf))
    exact r_ret1 rfl trivial
theorem ac_follows {e b : Evt} (hb : 1 ≤ b.ver ∧ b.ver ≤ 1000000) : AC Try.prog 63 [evtA e, evtA b] ⟨.v (.bool (fB e b)), []⟩ := by
  by_cases h1 : e.ver = b.ver + 1
  · rw [fB_t (.inl h1)]
    refine r_of Th_ok (by kernel_rfl) Try.func63 rfl Try.ntmps63 Try.results63 (by kernel_rfl) rfl ?_; conv => whnf
    repeat (((first | refine qb rfl rfl ?_ | refine qi (by assumption) rfl rfl ?_ | refine ql rfl ?_ | refine qo rfl rfl ?_ | refine qs rfl rfl ?_ | refine qn rfl rfl ?_); conv => whnf))
    exact r_ret1 rfl trivial
  cases hl : e.lag with
  | false =>
    rw [show fB e b = false by unfold fB; simp [h1, hl]]
    refine r_of Th_ok (by kernel_rfl) Try.func63 rfl Try.ntmps63 Try.results63 (by kernel_rfl) rfl ?_; conv => whnf
    repeat (first | ((first | refine qb rfl rfl ?_ | refine qi (by assumption) rfl rfl ?_ | refine ql rfl ?_ | refine qo rfl rfl ?_ | refine qs rfl rfl ?_ | refine qn rfl rfl ?_); conv => whnf) | (rw [hl]; conv => whnf))
    exact r_ret1 rfl trivial
  | true =>
    by_cases h2 : b.ver < e.ver
    · rw [fB_t (.inr ⟨hl, h2⟩)]
      refine r_of Th_ok (by kernel_rfl) Try.func63 rfl Try.ntmps63 Try.results63 (by kernel_rfl) rfl ?_; conv => whnf
      repeat (first | ((first | refine qb rfl rfl ?_ | refine qi (by assumption) rfl rfl ?_ | refine ql rfl ?_ | refine qo rfl rfl ?_ | refine qs rfl rfl ?_ | refine qn rfl rfl ?_); conv => whnf) | (rw [hl]; conv => whnf))
      exact r_ret1 rfl trivial
    · rw [show fB e b = false by unfold fB; simp [h1, h2]]
      refine r_of Th_ok (by kernel_rfl) Try.func63 rfl Try.ntmps63 Try.results63 (by kernel_rfl) rfl ?_; conv => whnf
      repeat (first | ((first | refine qb rfl rfl ?_ | refine qi (by assumption) rfl rfl ?_ | refine ql rfl ?_ | refine qo rfl rfl ?_ | refine qs rfl rfl ?_ | refine qn rfl rfl ?_); conv => whnf) | (rw [hl]; conv => whnf))
      exact r_ret1 rfl trivial
noncomputable def lnB (l : List Evt) : Bool := decide (l.length ≤ 4096) && evsB l
set_option maxHeartbeats 1000000 in
theorem ac_iEventsOK {l : List Evt} (hm : l.length ≤ maxLen) : AC Try.prog 26 [.lst 3 (l.map evtA)] ⟨.v (.bool (lnB l)), []⟩ := by
  have hm' := hm
  unfold maxLen at hm'
  by_cases hin : l.length ≤ 4096
  case neg =>
    rw [show lnB l = false by unfold lnB; simp [hin]]
    refine r_of Th_ok (by kernel_rfl) Try.func26 rfl Try.ntmps26 Try.results26 (by kernel_rfl) rfl ?_; conv => whnf
    repeat (((first | refine qb rfl rfl ?_ | refine qi (by assumption) rfl rfl ?_ | refine ql rfl ?_ | refine qo rfl rfl ?_ | refine qs rfl rfl ?_ | refine qn rfl rfl ?_); conv => whnf))
    exact r_ret1 rfl trivial
  rw [show lnB l = evsB l by unfold lnB; simp [hin]]
  refine r_of Th_ok (by kernel_rfl) Try.func26 rfl Try.ntmps26 Try.results26 (by kernel_rfl) rfl ?_; conv => whnf
  repeat (((first | refine qb rfl rfl ?_ | refine qi (by assumption) rfl rfl ?_ | refine ql rfl ?_ | refine qo rfl rfl ?_ | refine qs rfl rfl ?_ | refine qn rfl rfl ?_); conv => whnf))
  refine r_loop (ι := { k : Nat // k ≤ l.length ∧ ∀ i, i < k → evG l i }) (fun k => ⟨[(0, .lst 3 (l.map evtA)), (8, .lst 3 (l.map evtA)), (9, .v (.int .i64 (l.length : Int))), (10, .v (.int .i64 (k.1 : Int)))], []⟩) (fun k => l.length - k.1) ⟨0, Nat.zero_le _, fun i h => by omega⟩ (by refine ⟨?_, ?_⟩ <;> (repeat (first | trivial | exact ⟨rfl, trivial⟩ | refine ⟨rfl, ?_⟩ | refine ⟨.inl ⟨rfl, rfl⟩, ?_⟩ | refine ⟨.inr ⟨_, _, rfl, rfl, rfl, rfl, rfl⟩, ?_⟩))) ?_
  rintro ⟨k, hk', hd⟩
  dsimp only at hk' hd ⊢
  conv => whnf
  by_cases hlt : k < l.length
  case neg =>
    rw [evsB_t (fun i hi => hd i (by omega))]
    repeat (((first | refine qb rfl rfl ?_ | refine qi (by assumption) rfl rfl ?_ | refine ql rfl ?_ | refine qo rfl rfl ?_ | refine qs rfl rfl ?_ | refine qn rfl rfl ?_); conv => whnf))
    exact r_ret1 rfl trivial
  have hac := ac_eventOK (e := l[k])
  have nxt : evG l k → ∀ i, i < k + 1 → evG l i := fun q i hi => by
    rcases Nat.lt_or_ge i k with h | h
    · exact hd i h
    · have : i = k := by omega
      subst this; exact q
  cases hb : evOKB l[k] with
  | false =>
    rw [hb] at hac
    rw [evsB_f (fun h => by obtain ⟨_, q, _⟩ := h k hlt; rw [hb] at q; cases q)]
    repeat (first | ((first | refine qb rfl rfl ?_ | refine qi (by assumption) rfl rfl ?_ | refine ql rfl ?_ | refine qo rfl rfl ?_ | refine qs rfl rfl ?_ | refine qn rfl rfl ?_); conv => whnf) | (refine qc (hac) rfl ?_; conv => whnf) | (refine r_step (p_ostore rfl rfl rfl rfl rfl (by conv => lhs; whnf) rfl) rfl rfl (fun e => by first | exact .inl rfl | contradiction | exact .inr (.inl (by kernel_rfl))) ?_; conv => whnf) | (refine .inl (And.intro (by kernel_rfl) ?_); conv => whnf))
    exact r_ret1 rfl trivial
  | true =>
    rw [hb] at hac
    cases k with
    | zero =>
      repeat (first | ((first | refine qb rfl rfl ?_ | refine qi (by assumption) rfl rfl ?_ | refine ql rfl ?_ | refine qo rfl rfl ?_ | refine qs rfl rfl ?_ | refine qn rfl rfl ?_); conv => whnf) | (refine qc (hac) rfl ?_; conv => whnf) | (refine r_step (p_ostore rfl rfl rfl rfl rfl (by conv => lhs; whnf) rfl) rfl rfl (fun e => by first | exact .inl rfl | contradiction | exact .inr (.inl (by kernel_rfl))) ?_; conv => whnf) | (refine .inl (And.intro (by kernel_rfl) ?_); conv => whnf))
      exact ⟨⟨0 + 1, hlt, nxt ⟨hlt, hb, fun m hm => by omega⟩⟩, by refine ⟨?_, ?_⟩ <;> (repeat (first | trivial | exact ⟨rfl, trivial⟩ | refine ⟨rfl, ?_⟩ | refine ⟨.inl ⟨rfl, rfl⟩, ?_⟩ | refine ⟨.inr ⟨_, _, rfl, rfl, rfl, rfl, rfl⟩, ?_⟩)), by simp; omega⟩
    | succ m =>
      have hlm : m < l.length := by omega
      obtain ⟨_, p1, _⟩ := hd m (by omega)
      have hfo := ac_follows (e := l[m + 1]) (b := l[m]) (eB_of p1).1
      cases hf : fB l[m + 1] l[m] with
      | false =>
        rw [hf] at hfo
        rw [evsB_f (fun h => by obtain ⟨_, _, q⟩ := h (m + 1) hlt; rw [q m rfl] at hf; cases hf)]
        repeat (first | (refine r_put (p_bin (b_sub (c := ((m : Nat) : Int)) (by simp) (by omega) (by omega)) rfl rfl rfl) rfl rfl ?_; conv => whnf) | ((first | refine qb rfl rfl ?_ | refine qi (by assumption) rfl rfl ?_ | refine ql rfl ?_ | refine qo rfl rfl ?_ | refine qs rfl rfl ?_ | refine qn rfl rfl ?_); conv => whnf) | (refine qc (hac) rfl ?_; conv => whnf) | (refine qc (hfo) rfl ?_; conv => whnf) | (refine r_step (p_ostore rfl rfl rfl rfl rfl (by conv => lhs; whnf) rfl) rfl rfl (fun e => by first | exact .inl rfl | contradiction | exact .inr (.inl (by kernel_rfl))) ?_; conv => whnf) | (refine .inl (And.intro (by kernel_rfl) ?_); conv => whnf))
        exact r_ret1 rfl trivial
      | true =>
        rw [hf] at hfo
        repeat (first | (refine r_put (p_bin (b_sub (c := ((m : Nat) : Int)) (by simp) (by omega) (by omega)) rfl rfl rfl) rfl rfl ?_; conv => whnf) | ((first | refine qb rfl rfl ?_ | refine qi (by assumption) rfl rfl ?_ | refine ql rfl ?_ | refine qo rfl rfl ?_ | refine qs rfl rfl ?_ | refine qn rfl rfl ?_); conv => whnf) | (refine qc (hac) rfl ?_; conv => whnf) | (refine qc (hfo) rfl ?_; conv => whnf) | (refine r_step (p_ostore rfl rfl rfl rfl rfl (by conv => lhs; whnf) rfl) rfl rfl (fun e => by first | exact .inl rfl | contradiction | exact .inr (.inl (by kernel_rfl))) ?_; conv => whnf) | (refine .inl (And.intro (by kernel_rfl) ?_); conv => whnf))
        exact ⟨⟨m + 1 + 1, hlt, nxt ⟨hlt, hb, fun m' hm' => by
          have : m' = m := by omega
          subst this; exact hf⟩⟩, by refine ⟨?_, ?_⟩ <;> (repeat (first | trivial | exact ⟨rfl, trivial⟩ | refine ⟨rfl, ?_⟩ | refine ⟨.inl ⟨rfl, rfl⟩, ?_⟩ | refine ⟨.inr ⟨_, _, rfl, rfl, rfl, rfl, rfl⟩, ?_⟩)), by simp; omega⟩
set_option maxHeartbeats 4000000 in
theorem ac_l06Events {l : List Evt} (hm : l.length ≤ maxLen) : AC Try.prog 89 [.lst 3 (l.map evtA)] ⟨.v (.bool (evsB l)), []⟩ := by
  have hm' := hm
  unfold maxLen at hm'
  refine r_of Th_ok (by kernel_rfl) Try.func89 rfl Try.ntmps89 Try.results89 (by kernel_rfl) rfl ?_; conv => whnf
  refine c_loop (fun k : { k : Nat // k ≤ l.length ∧ ∀ i, i < k → evG l i } => ⟨[(0, .lst 3 (l.map evtA)), (3, .v (.int .i64 (k.1 : Int)))], [], []⟩) (fun k => l.length - k.1) ⟨0, Nat.zero_le _, fun i h => by omega⟩ ⟨by refine ⟨?_, ?_⟩ <;> (repeat (first | trivial | exact ⟨rfl, trivial⟩ | refine ⟨rfl, ?_⟩ | refine ⟨.inl ⟨rfl, rfl⟩, ?_⟩ | refine ⟨.inr ⟨_, _, rfl, rfl, rfl, rfl, rfl⟩, ?_⟩)), trivial⟩ ?_
  rintro ⟨k, hk', hd⟩
  dsimp only at hk' hd ⊢
  by_cases hlt : k < l.length
  case neg =>
    rw [evsB_t (fun i hi => hd i (by omega))]
    refine runC_sound _ _ _ ?_
    conv => whnf
    repeat (first | ((first | refine qb rfl rfl ?_ | refine qi (by assumption) rfl rfl ?_ | refine ql rfl ?_ | refine qo rfl rfl ?_ | refine qs rfl rfl ?_ | refine qn rfl rfl ?_); conv => whnf))
    exact r_ret1 rfl trivial
  have nxt : evG l k → ∀ i, i < k + 1 → evG l i := fun q i hi => by
    rcases Nat.lt_or_ge i k with h | h
    · exact hd i h
    · have : i = k := by omega
      subst this; exact q
  refine c_seq ?_
  refine runC_sound _ _ _ ?_
  conv => whnf
  repeat (first | ((first | refine qb rfl rfl ?_ | refine qi (by assumption) rfl rfl ?_ | refine ql rfl ?_ | refine qo rfl rfl ?_ | refine qs rfl rfl ?_ | refine qn rfl rfl ?_); conv => whnf))
  refine c_seq (c_block ?_)
  obtain ⟨b, hbg⟩ : ∃ b, b = l[k].lag := ⟨_, rfl⟩
  have hik : (l.map evtA)[k]? = some (.agg [.v (.int .i64 l[k].ver), .v (.int .i64 l[k].head), .v (.bool b)]) := by rw [List.getElem?_map, List.getElem?_eq_getElem hlt, hbg]; rfl
  refine c_cut (ι := Unit) (fun _ => ⟨[(0, .lst 3 (l.map evtA)), (3, .v (.int .i64 (k : Int))), (4, .optr 5 0 [] 0)], [(5, ⟨.s 40, 3, [.agg [.v (.int .i64 l[k].ver), .v (.int .i64 l[k].head), .v (.bool b)]]⟩)], []⟩) ?_ (fun _ => ?_)
  · refine runC_sound _ _ _ ?_
    conv => whnf
    repeat (first | (refine r_put (p_idx hik rfl rfl rfl) rfl rfl ?_; conv => whnf) | (refine r_step (p_ostore rfl rfl rfl rfl rfl (by conv => lhs; whnf) rfl) rfl rfl (fun e => by first | exact .inl rfl | contradiction | exact .inr (.inl (by kernel_rfl))) ?_; conv => whnf) | ((first | refine qb rfl rfl ?_ | refine qi (by assumption) rfl rfl ?_ | refine ql rfl ?_ | refine qo rfl rfl ?_ | refine qs rfl rfl ?_ | refine qn rfl rfl ?_); conv => whnf))
    exact ⟨(), ⟨by refine ⟨?_, ?_⟩ <;> (repeat (first | trivial | exact ⟨rfl, trivial⟩ | refine ⟨rfl, ?_⟩ | refine ⟨.inl ⟨rfl, rfl⟩, ?_⟩ | refine ⟨.inr ⟨_, _, rfl, rfl, rfl, rfl, rfl⟩, ?_⟩)), trivial⟩⟩
  refine runC_sound _ _ _ ?_
  conv => whnf
  (refine .inl (And.intro (by kernel_rfl) ?_); conv => whnf)
  by_cases h1 : 1 ≤ l[k].ver ∧ l[k].ver ≤ 1000000
  case neg =>
    rw [evsB_f (fun h => by obtain ⟨_, q, _⟩ := h k hlt; exact h1 (eB_of q).1)]
    as_aux_lemma =>
      repeat (first | (refine qc (ac_in_f h1) rfl ?_; conv => whnf) | ((first | refine qb rfl rfl ?_ | refine qi (by assumption) rfl rfl ?_ | refine ql rfl ?_ | refine qo rfl rfl ?_ | refine qs rfl rfl ?_ | refine qn rfl rfl ?_); conv => whnf))
      exact r_ret1 rfl trivial
  by_cases h2 : 0 ≤ l[k].head ∧ l[k].head ≤ 60
  case neg =>
    rw [evsB_f (fun h => by obtain ⟨_, q, _⟩ := h k hlt; exact h2 (eB_of q).2)]
    as_aux_lemma =>
      repeat (first | (refine qc (ac_in_t h1.1 h1.2) rfl ?_; conv => whnf) | (refine qc (ac_in_f h2) rfl ?_; conv => whnf) | ((first | refine qb rfl rfl ?_ | refine qi (by assumption) rfl rfl ?_ | refine ql rfl ?_ | refine qo rfl rfl ?_ | refine qs rfl rfl ?_ | refine qn rfl rfl ?_); conv => whnf))
      exact r_ret1 rfl trivial
  have hb : evOKB l[k] = true := eB_t h1 h2
  cases k with
  | zero =>
    as_aux_lemma =>
      repeat (first | (refine qc (ac_in_t h1.1 h1.2) rfl ?_; conv => whnf) | (refine qc (ac_in_t h2.1 h2.2) rfl ?_; conv => whnf) | ((first | refine qb rfl rfl ?_ | refine qi (by assumption) rfl rfl ?_ | refine ql rfl ?_ | refine qo rfl rfl ?_ | refine qs rfl rfl ?_ | refine qn rfl rfl ?_); conv => whnf))
      refine runC_sound _ _ _ ?_
      conv => whnf
      repeat (first | (refine r_put (p_bin (b_add (c := ((0 + 1 : Nat) : Int)) (by omega) (by omega) (by omega)) rfl rfl rfl) rfl rfl ?_; conv => whnf) | ((first | refine qb rfl rfl ?_ | refine qi (by assumption) rfl rfl ?_ | refine ql rfl ?_ | refine qo rfl rfl ?_ | refine qs rfl rfl ?_ | refine qn rfl rfl ?_); conv => whnf))
      exact ⟨⟨0 + 1, hlt, nxt ⟨hlt, hb, fun m hm => by omega⟩⟩, ⟨by refine ⟨?_, ?_⟩ <;> (repeat (first | trivial | exact ⟨rfl, trivial⟩ | refine ⟨rfl, ?_⟩ | refine ⟨.inl ⟨rfl, rfl⟩, ?_⟩ | refine ⟨.inr ⟨_, _, rfl, rfl, rfl, rfl, rfl⟩, ?_⟩)), trivial⟩, by simp; omega⟩
  | succ m =>
    have hlm : m < l.length := by omega
    obtain ⟨_, p1, _⟩ := hd m (by omega)
    have p2 := (eB_of p1).1
    have him : (l.map evtA)[m]? = some (evtA l[m]) := by simp [hlm]
    have bad : fB l[m + 1] l[m] = false → evsB l = false := fun q => evsB_f (fun h => by obtain ⟨_, _, q'⟩ := h (m + 1) hlt; rw [q' m rfl] at q; cases q)
    have good : fB l[m + 1] l[m] = true → evG l (m + 1) := fun q => ⟨hlt, hb, fun m' hm' => by
      have : m' = m := by omega
      subst this; exact q⟩
    by_cases h3 : l[m].ver < l[m + 1].ver
    case neg =>
      rw [bad (by unfold fB; simp [h3]; omega)]
      as_aux_lemma =>
        repeat (first | (refine qc (ac_in_t h1.1 h1.2) rfl ?_; conv => whnf) | (refine qc (ac_in_t h2.1 h2.2) rfl ?_; conv => whnf) | (refine r_put (p_bin (b_sub (c := ((m : Nat) : Int)) (by simp) (by omega) (by omega)) rfl rfl rfl) rfl rfl ?_; conv => whnf) | (refine r_put (p_idx him rfl rfl rfl) rfl rfl ?_; conv => whnf) | ((first | refine qb rfl rfl ?_ | refine qi (by assumption) rfl rfl ?_ | refine ql rfl ?_ | refine qo rfl rfl ?_ | refine qs rfl rfl ?_ | refine qn rfl rfl ?_); conv => whnf))
        exact r_ret1 rfl trivial
    cases b with
    | true =>
      have hq := good (fB_t (.inr ⟨hbg.symm, h3⟩))
      as_aux_lemma =>
        repeat (first | (refine qc (ac_in_t h1.1 h1.2) rfl ?_; conv => whnf) | (refine qc (ac_in_t h2.1 h2.2) rfl ?_; conv => whnf) | (refine r_put (p_bin (b_sub (c := ((m : Nat) : Int)) (by simp) (by omega) (by omega)) rfl rfl rfl) rfl rfl ?_; conv => whnf) | (refine r_put (p_idx him rfl rfl rfl) rfl rfl ?_; conv => whnf) | ((first | refine qb rfl rfl ?_ | refine qi (by assumption) rfl rfl ?_ | refine ql rfl ?_ | refine qo rfl rfl ?_ | refine qs rfl rfl ?_ | refine qn rfl rfl ?_); conv => whnf))
        refine runC_sound _ _ _ ?_
        conv => whnf
        repeat (first | (refine r_put (p_bin (b_add (c := (((m + 1) + 1 : Nat) : Int)) (by omega) (by omega) (by omega)) rfl rfl rfl) rfl rfl ?_; conv => whnf) | ((first | refine qb rfl rfl ?_ | refine qi (by assumption) rfl rfl ?_ | refine ql rfl ?_ | refine qo rfl rfl ?_ | refine qs rfl rfl ?_ | refine qn rfl rfl ?_); conv => whnf))
        exact ⟨⟨m + 1 + 1, hlt, nxt hq⟩, ⟨by refine ⟨?_, ?_⟩ <;> (repeat (first | trivial | exact ⟨rfl, trivial⟩ | refine ⟨rfl, ?_⟩ | refine ⟨.inl ⟨rfl, rfl⟩, ?_⟩ | refine ⟨.inr ⟨_, _, rfl, rfl, rfl, rfl, rfl⟩, ?_⟩)), trivial⟩, by simp; omega⟩
    | false =>
      by_cases h4 : l[m + 1].ver = l[m].ver + 1
      · have hq := good (fB_t (.inl h4))
        as_aux_lemma =>
          repeat (first | (refine qc (ac_in_t h1.1 h1.2) rfl ?_; conv => whnf) | (refine qc (ac_in_t h2.1 h2.2) rfl ?_; conv => whnf) | (refine r_put (p_bin (b_sub (c := ((m : Nat) : Int)) (by simp) (by omega) (by omega)) rfl rfl rfl) rfl rfl ?_; conv => whnf) | (refine r_put (p_idx him rfl rfl rfl) rfl rfl ?_; conv => whnf) | (refine r_put (p_bin (b_add (c := l[m].ver + 1) (by omega) (by omega) (by omega)) rfl rfl rfl) rfl rfl ?_; conv => whnf) | ((first | refine qb rfl rfl ?_ | refine qi (by assumption) rfl rfl ?_ | refine ql rfl ?_ | refine qo rfl rfl ?_ | refine qs rfl rfl ?_ | refine qn rfl rfl ?_); conv => whnf))
          refine runC_sound _ _ _ ?_
          conv => whnf
          repeat (first | (refine r_put (p_bin (b_add (c := (((m + 1) + 1 : Nat) : Int)) (by omega) (by omega) (by omega)) rfl rfl rfl) rfl rfl ?_; conv => whnf) | ((first | refine qb rfl rfl ?_ | refine qi (by assumption) rfl rfl ?_ | refine ql rfl ?_ | refine qo rfl rfl ?_ | refine qs rfl rfl ?_ | refine qn rfl rfl ?_); conv => whnf))
          exact ⟨⟨m + 1 + 1, hlt, nxt hq⟩, ⟨by refine ⟨?_, ?_⟩ <;> (repeat (first | trivial | exact ⟨rfl, trivial⟩ | refine ⟨rfl, ?_⟩ | refine ⟨.inl ⟨rfl, rfl⟩, ?_⟩ | refine ⟨.inr ⟨_, _, rfl, rfl, rfl, rfl, rfl⟩, ?_⟩)), trivial⟩, by simp; omega⟩
      · rw [bad (by unfold fB; simp [h4, ← hbg])]
        as_aux_lemma =>
          repeat (first | (refine qc (ac_in_t h1.1 h1.2) rfl ?_; conv => whnf) | (refine qc (ac_in_t h2.1 h2.2) rfl ?_; conv => whnf) | (refine r_put (p_bin (b_sub (c := ((m : Nat) : Int)) (by simp) (by omega) (by omega)) rfl rfl rfl) rfl rfl ?_; conv => whnf) | (refine r_put (p_idx him rfl rfl rfl) rfl rfl ?_; conv => whnf) | (refine r_put (p_bin (b_add (c := l[m].ver + 1) (by omega) (by omega) (by omega)) rfl rfl rfl) rfl rfl ?_; conv => whnf) | ((first | refine qb rfl rfl ?_ | refine qi (by assumption) rfl rfl ?_ | refine ql rfl ?_ | refine qo rfl rfl ?_ | refine qs rfl rfl ?_ | refine qn rfl rfl ?_); conv => whnf))
          exact r_ret1 rfl trivial
end Go.Proofs.Ytmfmclnklpbiaaa.AM
/- Whether watches are valid, and equal, on both sides; the laws. -/
namespace Go.Proofs.Ytmfmclnklpbiaaa.AM
open Go Go.RowKit
set_option linter.unusedVariables false
set_option linter.unusedSimpArgs false
set_option maxRecDepth 100000
theorem hu_Event : Try.prog.underlying 40 = some (.struct (Try.prog.fieldsOf 40)) := by kernel_rfl
theorem held_Event : Try.prog.stoodInHeld 40 = false := by kernel_rfl
theorem guard_Event : Try.prog.eqGuardType Try.prog.depth 40 = false := by kernel_rfl
theorem event_eq (x y u v : Int) (g h : Bool) (w : World) : (Op.equalIn 10000 40 (.agg #[.int .i64 x, .int .i64 u, .bool g]) (.agg #[.int .i64 y, .int .i64 v, .bool h])).run Try.prog w = .ok (decide (x = y ∧ u = v ∧ g = h)) w := by
  have hf := Option.some.inj (hu_Event.symm.trans Try.underlying40)
  injection hf with hf
  rw [run_equalIn_struct w 9999 _ _ _ hu_Event held_Event, hf]
  have q0 : ∀ (n m : Int) (c : Bool) (w : World), (part 3 #[.int .i64 n, .int .i64 m, .bool c] 0).run Try.prog w = .ok (.int .i64 n) w := fun n m c w => rfl
  have q1 : ∀ (n m : Int) (c : Bool) (w : World), (part 3 #[.int .i64 n, .int .i64 m, .bool c] 1).run Try.prog w = .ok (.int .i64 m) w := fun n m c w => rfl
  have q2 : ∀ (n m : Int) (c : Bool) (w : World), (part 4 #[.int .i64 n, .int .i64 m, .bool c] 2).run Try.prog w = .ok (.bool c) w := fun n m c w => rfl
  have r1 := fun a b w => run_equalIn_int (P := Try.prog) w 9998 3 .i64 .i64 a b Try.underlying3
  have r2 := fun a b w => run_equalIn_bool' (P := Try.prog) w 9998 4 a b Try.underlying4
  by_cases h2 : x = y
  · subst h2
    by_cases h3 : u = v
    · subst h3
      cases g <;> cases h <;> simp [Op.eqFields, q0, q1, q2, r1, r2, Result.andThen]
    · simp [Op.eqFields, q0, q1, q2, r1, r2, Result.andThen, h3]
  · simp [Op.eqFields, q0, q1, q2, r1, r2, Result.andThen, h2]
theorem b_evtne {a b : Evt} {x y : Operand} {r : Bool} (h : decide (a ≠ b) = r) : BinOK Try.prog .neq 40 x y (.agg #[.int .i64 a.ver, .int .i64 a.head, .bool a.lag]) (.agg #[.int .i64 b.ver, .int .i64 b.head, .bool b.lag]) (.bool r) := fun w => by
  rw [Sem.run_bind, run_eqGuard_agg w _ _ _ _ _ _ guard_Event, Result.andThen_ok, run_neq_struct, event_eq, Result.andThen_ok, ← h]
  have : decide (a.ver = b.ver ∧ a.head = b.head ∧ a.lag = b.lag) = decide (a = b) := by
    rw [decide_eq_decide]; exact evt_ext.symm
  rw [this]
  by_cases e : a = b <;> simp [e]
theorem p_ldrm {P : Program} {Θ : Tab} {s : St} {d : Option Tmp} {ty : TypeId} {pos : String} {after : Array Edge} {g : Option (Nat × Bool)} {α : Type} {f : α → AV} {t : TypeId} {x y : Operand} {el sz b h : Nat} {k : IntKind} {z : AV} {xs : List α} (hh : h ≤ xs.length) (ht : Θ.look t = .slice el sz b z) (hx : s.ev x = .lst sz (xs.map f)) (hy : s.ev y = .v (.int k (h : Int))) : Pre P Θ ⟨d, .slice t x (some y) none none, ty, pos, after, g⟩ s ⟨.lst sz ((xs.drop h).map f), none⟩ := by
  have := p_lslice (P := P) (Θ := Θ) (s := s) (d := d) (ty := ty) (pos := pos) (after := after) (g := g) (t := t) (x := x) (lo := some y) (hi := none) (l := h) (h := (xs.map f).length) (xs := xs.map f) (by simpa using hh) (Nat.le_refl _) ht hx ⟨k, hy⟩ rfl
  rw [List.take_length, ← List.map_drop] at this
  exact this
def iAt : List Evt → Nat → Int
  | [], _ => -1
  | y :: l, k => if y.lag = true then k else iAt l (k + 1)
theorem iAt_drop {l : List Evt} {k : Nat} (h : k < l.length) : iAt (l.drop k) k = if l[k].lag = true then (k : Int) else iAt (l.drop (k + 1)) (k + 1) := by
  rw [List.drop_eq_getElem_cons h, iAt]
theorem iAt_any : ∀ (l : List Evt) (k : Nat), decide (0 ≤ iAt l k) = l.any (·.lag)
  | [], k => by simp [iAt]
  | y :: l, k => by
    unfold iAt
    rw [List.any_cons]
    cases h : y.lag with
    | true => rw [if_pos rfl]; simp <;> omega
    | false => rw [if_neg (by simp), iAt_any l (k + 1), Bool.false_or]
theorem iAt_le : ∀ (l : List Evt) (k : Nat), -1 ≤ iAt l k ∧ iAt l k ≤ k + l.length
  | [], k => by simp [iAt] <;> omega
  | y :: l, k => by
    unfold iAt
    split
    · simp; omega
    · have := iAt_le l (k + 1)
      simp only [List.length_cons]; omega
def lagB (l : List Evt) : Bool := (l.drop 1).any (·.lag)
noncomputable def qB (l : List Evt) (s : Int) : Bool := decide (l.length ≤ 4) && (evsB l && (decide ((l.getLast?.map (·.ver)) = some s) && !lagB l))
noncomputable def watB (w : Wat) : Bool := okN w.name && (decide (0 ≤ w.seen ∧ w.seen ≤ 1000000) && (decide (w.queue = []) || qB w.queue w.seen))
theorem last_at {l : List Evt} {m : Nat} (h : l.length = m + 1) : l.getLast? = some (l[m]'(by omega)) := by
  rw [List.getLast?_eq_getElem?, List.getElem?_eq_getElem (by omega)]
  congr 1
  have : l.length - 1 = m := by omega
  simp [this]
attribute [local irreducible] ACode AOps AOps2 RetG RetM Pre ACG
theorem ac_queueF {e : Evt} : AC Try.prog 92 [evtA e] ⟨.v (.bool e.lag), []⟩ := by
  refine r_of Th_ok (by kernel_rfl) Try.func92 rfl Try.ntmps92 Try.results92 (by kernel_rfl) rfl ?_; conv => whnf
  repeat (((first | refine qb rfl rfl ?_ | refine qi (by assumption) rfl rfl ?_ | refine ql rfl ?_ | refine qo rfl rfl ?_ | refine qs rfl rfl ?_ | refine qn rfl rfl ?_); conv => whnf))
  exact r_ret1 rfl trivial
theorem ac_indexEvt {l : List Evt} (hm : l.length ≤ 4096) : AC Try.prog 107 [.lst 3 (l.map evtA), .fn 92 [] []] ⟨.v (.int .i64 (iAt l 0)), []⟩ := by
  refine r_of Th_ok (by kernel_rfl) Try.func107 rfl Try.ntmps107 Try.results107 (by kernel_rfl) rfl ?_; conv => whnf
  repeat (((first | refine qb rfl rfl ?_ | refine qi (by assumption) rfl rfl ?_ | refine ql rfl ?_ | refine qo rfl rfl ?_ | refine qs rfl rfl ?_ | refine qn rfl rfl ?_); conv => whnf))
  refine r_loop (ι := { k : Nat // k ≤ l.length ∧ iAt (l.drop k) k = iAt l 0 }) (fun k => ⟨[(0, .lst 3 (l.map evtA)), (1, .fn 92 [] []), (7, .v (.int .i64 (l.length : Int))), (8, .v (.int .i64 (k.1 : Int)))], []⟩) (fun k => l.length - k.1) ⟨0, Nat.zero_le _, rfl⟩ (by refine ⟨?_, ?_⟩ <;> (repeat (first | trivial | exact ⟨rfl, trivial⟩ | refine ⟨rfl, ?_⟩ | refine ⟨.inl ⟨rfl, rfl⟩, ?_⟩ | refine ⟨.inr ⟨_, _, rfl, rfl, rfl, rfl, rfl⟩, ?_⟩))) ?_
  rintro ⟨k, hk, hd⟩
  dsimp only at hk hd ⊢
  conv => whnf
  by_cases hlt : k < l.length
  · rw [iAt_drop hlt] at hd
    have hq := ac_queueF (e := l[k])
    cases he : l[k].lag with
    | true =>
      rw [he, if_pos rfl] at hd
      rw [he] at hq
      rw [← hd]
      repeat (first | ((first | refine qb rfl rfl ?_ | refine qi (by assumption) rfl rfl ?_ | refine ql rfl ?_ | refine qo rfl rfl ?_ | refine qs rfl rfl ?_ | refine qn rfl rfl ?_); conv => whnf) | (refine r_step (p_callv hq rfl rfl (.inl rfl) trivial rfl rfl) rfl rfl (fun e => by first | exact .inl rfl | contradiction | exact .inr (.inl (by kernel_rfl))) ?_; conv => whnf))
      exact r_ret1 rfl trivial
    | false =>
      rw [he, if_neg (by simp)] at hd
      rw [he] at hq
      repeat (first | ((first | refine qb rfl rfl ?_ | refine qi (by assumption) rfl rfl ?_ | refine ql rfl ?_ | refine qo rfl rfl ?_ | refine qs rfl rfl ?_ | refine qn rfl rfl ?_); conv => whnf) | (refine r_step (p_callv hq rfl rfl (.inl rfl) trivial rfl rfl) rfl rfl (fun e => by first | exact .inl rfl | contradiction | exact .inr (.inl (by kernel_rfl))) ?_; conv => whnf))
      exact ⟨⟨k + 1, hlt, hd⟩, by refine ⟨?_, ?_⟩ <;> (repeat (first | trivial | exact ⟨rfl, trivial⟩ | refine ⟨rfl, ?_⟩ | refine ⟨.inl ⟨rfl, rfl⟩, ?_⟩ | refine ⟨.inr ⟨_, _, rfl, rfl, rfl, rfl, rfl⟩, ?_⟩)), by simp; omega⟩
  · rw [← hd, List.drop_eq_nil_of_le (by omega)]
    repeat (((first | refine qb rfl rfl ?_ | refine qi (by assumption) rfl rfl ?_ | refine ql rfl ?_ | refine qo rfl rfl ?_ | refine qs rfl rfl ?_ | refine qn rfl rfl ?_); conv => whnf))
    exact r_ret1 rfl trivial
theorem ac_containsEvt {l : List Evt} (hm : l.length ≤ 4096) : AC Try.prog 91 [.lst 3 (l.map evtA), .fn 92 [] []] ⟨.v (.bool (l.any (·.lag))), []⟩ := by
  have h1 := ac_indexEvt hm
  have h2 := iAt_any l 0
  obtain ⟨h3, h4⟩ := iAt_le l 0
  rw [← h2]
  generalize iAt l 0 = r at h1 h3 h4
  by_cases h : 0 ≤ r
  · rw [decide_eq_true h]
    refine r_of Th_ok (by kernel_rfl) Try.func91 rfl Try.ntmps91 Try.results91 (by kernel_rfl) rfl ?_; conv => whnf
    repeat (first | ((first | refine qb rfl rfl ?_ | refine qi (by assumption) rfl rfl ?_ | refine ql rfl ?_ | refine qo rfl rfl ?_ | refine qs rfl rfl ?_ | refine qn rfl rfl ?_); conv => whnf) | (refine qc (h1) rfl ?_; conv => whnf))
    exact r_ret1 rfl trivial
  · rw [decide_eq_false h]
    refine r_of Th_ok (by kernel_rfl) Try.func91 rfl Try.ntmps91 Try.results91 (by kernel_rfl) rfl ?_; conv => whnf
    repeat (first | ((first | refine qb rfl rfl ?_ | refine qi (by assumption) rfl rfl ?_ | refine ql rfl ?_ | refine qo rfl rfl ?_ | refine qs rfl rfl ?_ | refine qn rfl rfl ?_); conv => whnf) | (refine qc (h1) rfl ?_; conv => whnf))
    exact r_ret1 rfl trivial
theorem ac_queueOK {l : List Evt} {s : Int} (hm : l.length ≤ maxLen) (h0 : 0 < l.length) (hs : -9000000000000000000 ≤ s ∧ s ≤ 9000000000000000000) : AC Try.prog 61 [.lst 3 (l.map evtA), .v (.int .i64 s)] ⟨.v (.bool (qB l s)), []⟩ := by
  have hm' := hm
  unfold maxLen at hm'
  by_cases h4 : l.length ≤ 4
  case neg =>
    rw [show qB l s = false by unfold qB; simp [h4]]
    refine r_of Th_ok (by kernel_rfl) Try.func61 rfl Try.ntmps61 Try.results61 (by kernel_rfl) rfl ?_; conv => whnf
    repeat (((first | refine qb rfl rfl ?_ | refine qi (by assumption) rfl rfl ?_ | refine ql rfl ?_ | refine qo rfl rfl ?_ | refine qs rfl rfl ?_ | refine qn rfl rfl ?_); conv => whnf))
    exact r_ret1 rfl trivial
  have h1 := ac_iEventsOK hm
  rw [show lnB l = evsB l by unfold lnB; simp; intro; omega] at h1
  have hq : qB l s = (evsB l && (decide ((l.getLast?.map (·.ver)) = some s) && !lagB l)) := by unfold qB; simp [h4]
  rw [hq]
  generalize evsB l = x at h1
  cases x
  case false =>
    rw [Bool.false_and]
    refine r_of Th_ok (by kernel_rfl) Try.func61 rfl Try.ntmps61 Try.results61 (by kernel_rfl) rfl ?_; conv => whnf
    repeat (first | ((first | refine qb rfl rfl ?_ | refine qi (by assumption) rfl rfl ?_ | refine ql rfl ?_ | refine qo rfl rfl ?_ | refine qs rfl rfl ?_ | refine qn rfl rfl ?_); conv => whnf) | (refine qc (h1) rfl ?_; conv => whnf))
    exact r_ret1 rfl trivial
  rw [Bool.true_and]
  obtain ⟨m, hl⟩ : ∃ m, l.length = m + 1 := ⟨l.length - 1, by omega⟩
  have hlm : m < l.length := by omega
  rw [last_at hl]
  by_cases hv : l[m].ver = s
  case neg =>
    rw [show (decide (Option.map (·.ver) (some l[m]) = some s) && !lagB l) = false by simp [hv]]
    refine r_of Th_ok (by kernel_rfl) Try.func61 rfl Try.ntmps61 Try.results61 (by kernel_rfl) rfl ?_; conv => whnf
    repeat (first | (refine r_put (p_bin (b_sub (c := ((m : Nat) : Int)) (by omega) (by omega) (by omega)) rfl rfl rfl) rfl rfl ?_; conv => whnf) | ((first | refine qb rfl rfl ?_ | refine qi (by assumption) rfl rfl ?_ | refine ql rfl ?_ | refine qo rfl rfl ?_ | refine qs rfl rfl ?_ | refine qn rfl rfl ?_); conv => whnf) | (refine qc (h1) rfl ?_; conv => whnf))
    exact r_ret1 rfl trivial
  rw [show (decide (Option.map (·.ver) (some l[m]) = some s) && !lagB l) = !lagB l by simp [hv]]
  have h5 := ac_containsEvt (l := l.drop 1) (by simp; omega)
  unfold lagB
  generalize (l.drop 1).any (·.lag) = x at h5
  cases x
  all_goals
    refine r_of Th_ok (by kernel_rfl) Try.func61 rfl Try.ntmps61 Try.results61 (by kernel_rfl) rfl ?_; conv => whnf
    repeat (first | (refine r_put (p_bin (b_sub (c := ((m : Nat) : Int)) (by omega) (by omega) (by omega)) rfl rfl rfl) rfl rfl ?_; conv => whnf) | ((first | refine qb rfl rfl ?_ | refine qi (by assumption) rfl rfl ?_ | refine ql rfl ?_ | refine qo rfl rfl ?_ | refine qs rfl rfl ?_ | refine qn rfl rfl ?_); conv => whnf) | (refine qc (h1) rfl ?_; conv => whnf) | (refine r_put (p_ldrm (h := 1) (xs := l) (f := evtA) (by omega) rfl rfl rfl) rfl rfl ?_; conv => whnf) | (refine qc (h5) rfl ?_; conv => whnf))
    exact r_ret1 rfl trivial
theorem ac_iWatchOK {w : Wat} (hw : w.ok maxLen) : AC Try.prog 22 [watA w] ⟨.v (.bool (watB w)), []⟩ := by
  obtain ⟨hk, hq⟩ := hw
  have hk' := hk
  have hq' := hq
  unfold maxLen at hk' hq'
  have h1 := ac_nameOK hk rfl
  unfold watB
  generalize okN w.name = x at h1
  cases x
  case false =>
    rw [Bool.false_and]
    refine r_of Th_ok (by kernel_rfl) Try.func22 rfl Try.ntmps22 Try.results22 (by kernel_rfl) rfl ?_; conv => whnf
    repeat (first | ((first | refine qb rfl rfl ?_ | refine qi (by assumption) rfl rfl ?_ | refine ql rfl ?_ | refine qo rfl rfl ?_ | refine qs rfl rfl ?_ | refine qn rfl rfl ?_); conv => whnf) | (refine qc (h1) rfl ?_; conv => whnf))
    exact r_ret1 rfl trivial
  rw [Bool.true_and]
  by_cases s0 : 0 ≤ w.seen
  case neg =>
    rw [decide_eq_false (fun h => s0 h.1), Bool.false_and]
    refine r_of Th_ok (by kernel_rfl) Try.func22 rfl Try.ntmps22 Try.results22 (by kernel_rfl) rfl ?_; conv => whnf
    repeat (first | ((first | refine qb rfl rfl ?_ | refine qi (by assumption) rfl rfl ?_ | refine ql rfl ?_ | refine qo rfl rfl ?_ | refine qs rfl rfl ?_ | refine qn rfl rfl ?_); conv => whnf) | (refine qc (h1) rfl ?_; conv => whnf))
    exact r_ret1 rfl trivial
  by_cases s1 : w.seen ≤ 1000000
  case neg =>
    rw [decide_eq_false (fun h => s1 h.2), Bool.false_and]
    refine r_of Th_ok (by kernel_rfl) Try.func22 rfl Try.ntmps22 Try.results22 (by kernel_rfl) rfl ?_; conv => whnf
    repeat (first | ((first | refine qb rfl rfl ?_ | refine qi (by assumption) rfl rfl ?_ | refine ql rfl ?_ | refine qo rfl rfl ?_ | refine qs rfl rfl ?_ | refine qn rfl rfl ?_); conv => whnf) | (refine qc (h1) rfl ?_; conv => whnf))
    exact r_ret1 rfl trivial
  rw [decide_eq_true ⟨s0, s1⟩, Bool.true_and]
  by_cases hn : w.queue.length = 0
  · have : w.queue = [] := List.eq_nil_of_length_eq_zero hn
    rw [decide_eq_true this, Bool.true_or]
    refine r_of Th_ok (by kernel_rfl) Try.func22 rfl Try.ntmps22 Try.results22 (by kernel_rfl) rfl ?_; conv => whnf
    repeat (first | ((first | refine qb rfl rfl ?_ | refine qi (by assumption) rfl rfl ?_ | refine ql rfl ?_ | refine qo rfl rfl ?_ | refine qs rfl rfl ?_ | refine qn rfl rfl ?_); conv => whnf) | (refine qc (h1) rfl ?_; conv => whnf))
    exact r_ret1 rfl trivial
  have hne : ¬ w.queue = [] := fun e => hn (by rw [e]; rfl)
  rw [decide_eq_false hne, Bool.false_or]
  have h2 := ac_queueOK (s := w.seen) hq (by omega) (by omega)
  refine r_of Th_ok (by kernel_rfl) Try.func22 rfl Try.ntmps22 Try.results22 (by kernel_rfl) rfl ?_; conv => whnf
  repeat (first | ((first | refine qb rfl rfl ?_ | refine qi (by assumption) rfl rfl ?_ | refine ql rfl ?_ | refine qo rfl rfl ?_ | refine qs rfl rfl ?_ | refine qn rfl rfl ?_); conv => whnf) | (refine qc (h1) rfl ?_; conv => whnf) | (refine qc (h2) rfl ?_; conv => whnf))
  exact r_ret1 rfl trivial
end Go.Proofs.Ytmfmclnklpbiaaa.AM
namespace Go.Proofs.Ytmfmclnklpbiaaa.AM
open Go Go.RowKit
set_option linter.unusedVariables false
set_option linter.unusedSimpArgs false
set_option maxRecDepth 100000
theorem lagB_f {l : List Evt} (h : ∀ i, (hi : i < l.length) → 1 ≤ i → l[i].lag = false) : lagB l = false := by
  unfold lagB
  rw [List.any_eq_false]
  intro x hx
  obtain ⟨i, hi, rfl⟩ := List.getElem_of_mem hx
  rw [List.getElem_drop]
  simp only [Bool.not_eq_true]
  exact h (1 + i) (by simp at hi; omega) (by omega)
theorem lagB_t {l : List Evt} {i : Nat} (hi : i < l.length) (h1 : 1 ≤ i) (h : l[i].lag = true) : lagB l = true := by
  unfold lagB
  rw [List.any_eq_true]
  refine ⟨l[i], ?_, h⟩
  rw [List.mem_iff_getElem]
  refine ⟨i - 1, by simp; omega, ?_⟩
  rw [List.getElem_drop]
  congr 1; omega
theorem watB_n {w : Wat} (h : okN w.name = false) : watB w = false := by unfold watB; rw [h, Bool.false_and]
theorem watB_s {w : Wat} (h : ¬ (0 ≤ w.seen ∧ w.seen ≤ 1000000)) : watB w = false := by unfold watB; rw [decide_eq_false h]; simp
theorem watB_q {w : Wat} (hn : okN w.name = true) (hs : 0 ≤ w.seen ∧ w.seen ≤ 1000000) : watB w = (decide (w.queue = []) || qB w.queue w.seen) := by unfold watB; rw [hn, decide_eq_true hs]; simp
theorem watB_4 {w : Wat} (hn : okN w.name = true) (hs : 0 ≤ w.seen ∧ w.seen ≤ 1000000) (h : ¬ w.queue.length ≤ 4) : watB w = false := by
  rw [watB_q hn hs]
  have : ¬ w.queue = [] := fun e => h (by rw [e]; simp)
  unfold qB; simp [h, this]
theorem evsB_nil : evsB [] = true := evsB_t (fun i h => by simp at h)
theorem watB_e {w : Wat} (hn : okN w.name = true) (hs : 0 ≤ w.seen ∧ w.seen ≤ 1000000) (h4 : w.queue.length ≤ 4) (h : evsB w.queue = false) : watB w = false := by
  rw [watB_q hn hs]
  have : ¬ w.queue = [] := fun e => by rw [e, evsB_nil] at h; cases h
  unfold qB; simp [h, this]
theorem watB_0 {w : Wat} (hn : okN w.name = true) (hs : 0 ≤ w.seen ∧ w.seen ≤ 1000000) (h0 : w.queue.length = 0) : watB w = true := by
  rw [watB_q hn hs, List.eq_nil_of_length_eq_zero h0]; simp
theorem watB_m {w : Wat} (hn : okN w.name = true) (hs : 0 ≤ w.seen ∧ w.seen ≤ 1000000) (h4 : w.queue.length ≤ 4) (he : evsB w.queue = true) {m : Nat} (hl : w.queue.length = m + 1) : watB w = (decide ((w.queue[m]'(by omega)).ver = w.seen) && !lagB w.queue) := by
  rw [watB_q hn hs]
  have : ¬ w.queue = [] := fun e => by rw [e] at hl; simp at hl
  unfold qB; simp [h4, he, this, last_at hl]
attribute [local irreducible] ACode AOps AOps2 RetG RetM Pre ACG
set_option maxHeartbeats 4000000 in
theorem ac_l06OK {w : Wat} (hw : w.ok maxLen) : AC Try.prog 55 [watA w] ⟨.v (.bool (watB w)), []⟩ := by
  obtain ⟨hk, hq⟩ := hw
  have hq' := hq
  unfold maxLen at hq'
  have e1 := ac_l06Events hq
  refine r_of Th_ok (by kernel_rfl) Try.func55 rfl Try.ntmps55 Try.results55 (by kernel_rfl) rfl ?_; conv => whnf
  repeat (((first | refine qb rfl rfl ?_ | refine qi (by assumption) rfl rfl ?_ | refine ql rfl ?_ | refine qo rfl rfl ?_ | refine qs rfl rfl ?_ | refine qn rfl rfl ?_); conv => whnf))
  (refine .inl (And.intro (by kernel_rfl) ?_); conv => whnf)
  cases hn : okN w.name with
  | false =>
    rw [watB_n hn]
    as_aux_lemma =>
      repeat (first | (refine qc (ac_l00Word hk hn) rfl ?_; conv => whnf) | ((first | refine qb rfl rfl ?_ | refine qi (by assumption) rfl rfl ?_ | refine ql rfl ?_ | refine qo rfl rfl ?_ | refine qs rfl rfl ?_ | refine qn rfl rfl ?_); conv => whnf) | (refine .inl (And.intro (by kernel_rfl) ?_); conv => whnf))
      exact r_ret1 rfl trivial
  | true =>
  by_cases hs : 0 ≤ w.seen ∧ w.seen ≤ 1000000
  case neg =>
    rw [watB_s hs]
    as_aux_lemma =>
      repeat (first | (refine qc (ac_l00Word hk hn) rfl ?_; conv => whnf) | (refine qc (ac_in_f hs) rfl ?_; conv => whnf) | ((first | refine qb rfl rfl ?_ | refine qi (by assumption) rfl rfl ?_ | refine ql rfl ?_ | refine qo rfl rfl ?_ | refine qs rfl rfl ?_ | refine qn rfl rfl ?_); conv => whnf) | (refine .inl (And.intro (by kernel_rfl) ?_); conv => whnf))
      exact r_ret1 rfl trivial
  by_cases h4 : w.queue.length ≤ 4
  case neg =>
    rw [watB_4 hn hs h4]
    as_aux_lemma =>
      repeat (first | (refine qc (ac_l00Word hk hn) rfl ?_; conv => whnf) | (refine qc (ac_in_t hs.1 hs.2) rfl ?_; conv => whnf) | ((first | refine qb rfl rfl ?_ | refine qi (by assumption) rfl rfl ?_ | refine ql rfl ?_ | refine qo rfl rfl ?_ | refine qs rfl rfl ?_ | refine qn rfl rfl ?_); conv => whnf) | (refine .inl (And.intro (by kernel_rfl) ?_); conv => whnf))
      exact r_ret1 rfl trivial
  cases he : evsB w.queue with
  | false =>
    rw [watB_e hn hs h4 he]
    rw [he] at e1
    as_aux_lemma =>
      repeat (first | (refine qc (ac_l00Word hk hn) rfl ?_; conv => whnf) | (refine qc (ac_in_t hs.1 hs.2) rfl ?_; conv => whnf) | (refine qc (e1) rfl ?_; conv => whnf) | ((first | refine qb rfl rfl ?_ | refine qi (by assumption) rfl rfl ?_ | refine ql rfl ?_ | refine qo rfl rfl ?_ | refine qs rfl rfl ?_ | refine qn rfl rfl ?_); conv => whnf) | (refine .inl (And.intro (by kernel_rfl) ?_); conv => whnf))
      exact r_ret1 rfl trivial
  | true =>
  rw [he] at e1
  by_cases h0 : w.queue.length = 0
  · rw [watB_0 hn hs h0]
    as_aux_lemma =>
      repeat (first | (refine qc (ac_l00Word hk hn) rfl ?_; conv => whnf) | (refine qc (ac_in_t hs.1 hs.2) rfl ?_; conv => whnf) | (refine qc (e1) rfl ?_; conv => whnf) | ((first | refine qb rfl rfl ?_ | refine qi (by assumption) rfl rfl ?_ | refine ql rfl ?_ | refine qo rfl rfl ?_ | refine qs rfl rfl ?_ | refine qn rfl rfl ?_); conv => whnf) | (refine .inl (And.intro (by kernel_rfl) ?_); conv => whnf))
      refine r_loop (ι := Unit) (fun _ => ⟨[(3, .v (.int .i64 (w.queue.length : Int))), (4, .v (.int .i64 1))], []⟩) (fun _ => 0) () (by refine ⟨?_, ?_⟩ <;> (repeat (first | trivial | exact ⟨rfl, trivial⟩ | refine ⟨rfl, ?_⟩ | refine ⟨.inl ⟨rfl, rfl⟩, ?_⟩ | refine ⟨.inr ⟨_, _, rfl, rfl, rfl, rfl, rfl⟩, ?_⟩))) ?_
      rintro ⟨⟩
      conv => whnf
      repeat (first | ((first | refine qb rfl rfl ?_ | refine qi (by assumption) rfl rfl ?_ | refine ql rfl ?_ | refine qo rfl rfl ?_ | refine qs rfl rfl ?_ | refine qn rfl rfl ?_); conv => whnf) | (refine .inl (And.intro (by kernel_rfl) ?_); conv => whnf))
      repeat (first | ((first | refine qb rfl rfl ?_ | refine qi (by assumption) rfl rfl ?_ | refine ql rfl ?_ | refine qo rfl rfl ?_ | refine qs rfl rfl ?_ | refine qn rfl rfl ?_); conv => whnf) | (refine .inl (And.intro (by kernel_rfl) ?_); conv => whnf))
      exact r_ret1 rfl trivial
  obtain ⟨m, hl⟩ : ∃ m, w.queue.length = m + 1 := ⟨w.queue.length - 1, by omega⟩
  have hlm : m < w.queue.length := by omega
  rw [watB_m hn hs h4 he hl]
  by_cases hv : w.queue[m].ver = w.seen
  case neg =>
    rw [decide_eq_false hv, Bool.false_and]
    as_aux_lemma =>
      repeat (first | (refine qc (ac_l00Word hk hn) rfl ?_; conv => whnf) | (refine qc (ac_in_t hs.1 hs.2) rfl ?_; conv => whnf) | (refine qc (e1) rfl ?_; conv => whnf) | (refine r_put (p_bin (b_sub (c := ((m : Nat) : Int)) (by omega) (by omega) (by omega)) rfl rfl rfl) rfl rfl ?_; conv => whnf) | ((first | refine qb rfl rfl ?_ | refine qi (by assumption) rfl rfl ?_ | refine ql rfl ?_ | refine qo rfl rfl ?_ | refine qs rfl rfl ?_ | refine qn rfl rfl ?_); conv => whnf) | (refine .inl (And.intro (by kernel_rfl) ?_); conv => whnf))
      exact r_ret1 rfl trivial
  rw [decide_eq_true hv, Bool.true_and]
  as_aux_lemma =>
    repeat (first | (refine qc (ac_l00Word hk hn) rfl ?_; conv => whnf) | (refine qc (ac_in_t hs.1 hs.2) rfl ?_; conv => whnf) | (refine qc (e1) rfl ?_; conv => whnf) | (refine r_put (p_bin (b_sub (c := ((m : Nat) : Int)) (by omega) (by omega) (by omega)) rfl rfl rfl) rfl rfl ?_; conv => whnf) | ((first | refine qb rfl rfl ?_ | refine qi (by assumption) rfl rfl ?_ | refine ql rfl ?_ | refine qo rfl rfl ?_ | refine qs rfl rfl ?_ | refine qn rfl rfl ?_); conv => whnf) | (refine .inl (And.intro (by kernel_rfl) ?_); conv => whnf))
    refine r_loop (ι := { k : Nat // 1 ≤ k ∧ k ≤ w.queue.length ∧ ∀ i, (hi : i < w.queue.length) → 1 ≤ i → i < k → w.queue[i].lag = false }) (fun k => ⟨[(1, .optr 2 0 [] 0), (3, .v (.int .i64 (w.queue.length : Int))), (4, .v (.int .i64 (k.1 : Int)))], [(2, ⟨26, 3, [watA w]⟩)]⟩) (fun k => w.queue.length - k.1) ⟨1, by omega, by omega, fun i _ _ _ => by omega⟩ (by refine ⟨?_, ?_⟩ <;> (repeat (first | trivial | exact ⟨rfl, trivial⟩ | refine ⟨rfl, ?_⟩ | refine ⟨.inl ⟨rfl, rfl⟩, ?_⟩ | refine ⟨.inr ⟨_, _, rfl, rfl, rfl, rfl, rfl⟩, ?_⟩))) ?_
    rintro ⟨k, hk1, hk2, hd⟩
    dsimp only at hk1 hk2 hd ⊢
    conv => whnf
    by_cases hlt : k < w.queue.length
    · cases hg : w.queue[k].lag with
      | true =>
        rw [lagB_t hlt hk1 hg]
        repeat (first | ((first | refine qb rfl rfl ?_ | refine qi (by assumption) rfl rfl ?_ | refine ql rfl ?_ | refine qo rfl rfl ?_ | refine qs rfl rfl ?_ | refine qn rfl rfl ?_); conv => whnf) | (rw [hg]; conv => whnf))
        repeat (first | ((first | refine qb rfl rfl ?_ | refine qi (by assumption) rfl rfl ?_ | refine ql rfl ?_ | refine qo rfl rfl ?_ | refine qs rfl rfl ?_ | refine qn rfl rfl ?_); conv => whnf) | (refine .inl (And.intro (by kernel_rfl) ?_); conv => whnf))
        exact r_ret1 rfl trivial
      | false =>
        repeat (first | ((first | refine qb rfl rfl ?_ | refine qi (by assumption) rfl rfl ?_ | refine ql rfl ?_ | refine qo rfl rfl ?_ | refine qs rfl rfl ?_ | refine qn rfl rfl ?_); conv => whnf) | (rw [hg]; conv => whnf))
        exact ⟨⟨k + 1, by omega, hlt, fun i hi h1 h2 => by
          rcases Nat.lt_or_ge i k with h | h
          · exact hd i hi h1 h
          · have : i = k := by omega
            subst this; exact hg⟩, by refine ⟨?_, ?_⟩ <;> (repeat (first | trivial | exact ⟨rfl, trivial⟩ | refine ⟨rfl, ?_⟩ | refine ⟨.inl ⟨rfl, rfl⟩, ?_⟩ | refine ⟨.inr ⟨_, _, rfl, rfl, rfl, rfl, rfl⟩, ?_⟩)), by simp; omega⟩
    · rw [lagB_f (fun i hi h1 => hd i hi h1 (by omega))]
      repeat (first | ((first | refine qb rfl rfl ?_ | refine qi (by assumption) rfl rfl ?_ | refine ql rfl ?_ | refine qo rfl rfl ?_ | refine qs rfl rfl ?_ | refine qn rfl rfl ?_); conv => whnf) | (refine .inl (And.intro (by kernel_rfl) ?_); conv => whnf))
      repeat (first | ((first | refine qb rfl rfl ?_ | refine qi (by assumption) rfl rfl ?_ | refine ql rfl ?_ | refine qo rfl rfl ?_ | refine qs rfl rfl ?_ | refine qn rfl rfl ?_); conv => whnf) | (refine .inl (And.intro (by kernel_rfl) ?_); conv => whnf))
      exact r_ret1 rfl trivial
theorem wat_ext {a b : Wat} : a = b ↔ a.name = b.name ∧ a.seen = b.seen ∧ a.queue = b.queue := by cases a; cases b; simp
instance : DecidableEq Wat := fun a b => decidable_of_iff _ wat_ext.symm
theorem ac_eqlEvts {a b : List Evt} (hm : a.length ≤ maxLen) (hm' : b.length ≤ maxLen) : AC Try.prog 57 [.lst 3 (a.map evtA), .lst 3 (b.map evtA)] ⟨.v (.bool (decide (a = b))), []⟩ := by
  unfold maxLen at hm hm'
  by_cases hl : a.length = b.length
  case neg =>
    rw [decide_eq_false (fun e => hl (by rw [e]))]
    refine r_of Th_ok (by kernel_rfl) Try.func57 rfl Try.ntmps57 Try.results57 (by kernel_rfl) rfl ?_; conv => whnf
    repeat (((first | refine qb rfl rfl ?_ | refine qi (by assumption) rfl rfl ?_ | refine ql rfl ?_ | refine qo rfl rfl ?_ | refine qs rfl rfl ?_ | refine qn rfl rfl ?_); conv => whnf))
    exact r_ret1 rfl trivial
  refine r_of Th_ok (by kernel_rfl) Try.func57 rfl Try.ntmps57 Try.results57 (by kernel_rfl) rfl ?_; conv => whnf
  repeat (((first | refine qb rfl rfl ?_ | refine qi (by assumption) rfl rfl ?_ | refine ql rfl ?_ | refine qo rfl rfl ?_ | refine qs rfl rfl ?_ | refine qn rfl rfl ?_); conv => whnf))
  refine r_loop (ι := { k : Nat // k ≤ a.length ∧ Agree a b k }) (fun k => ⟨[(0, .lst 3 (a.map evtA)), (1, .lst 3 (b.map evtA)), (12, .v (.int .i64 (a.length : Int))), (13, .v (.int .i64 (k.1 : Int)))], []⟩) (fun k => a.length - k.1) ⟨0, Nat.zero_le _, fun i h => by omega⟩ (by refine ⟨?_, ?_⟩ <;> (repeat (first | trivial | exact ⟨rfl, trivial⟩ | refine ⟨rfl, ?_⟩ | refine ⟨.inl ⟨rfl, rfl⟩, ?_⟩ | refine ⟨.inr ⟨_, _, rfl, rfl, rfl, rfl, rfl⟩, ?_⟩))) ?_
  rintro ⟨k, hk, hg⟩
  dsimp only at hk hg ⊢
  conv => whnf
  by_cases hlt : k < a.length
  case neg =>
    rw [decide_eq_true (ext_to hl (fun i hi => hg i (by omega)))]
    repeat (((first | refine qb rfl rfl ?_ | refine qi (by assumption) rfl rfl ?_ | refine ql rfl ?_ | refine qo rfl rfl ?_ | refine qs rfl rfl ?_ | refine qn rfl rfl ?_); conv => whnf))
    exact r_ret1 rfl trivial
  have hlt' : k < b.length := by omega
  by_cases he : a[k] = b[k]
  · repeat (((first | refine qb rfl rfl ?_ | refine qi (by assumption) rfl rfl ?_ | refine ql rfl ?_ | refine qo rfl rfl ?_ | refine qs rfl rfl ?_ | refine qn rfl rfl ?_); conv => whnf))
    refine .inl ⟨by kernel_rfl, ?_⟩
    conv => whnf
    repeat (first | ((first | refine qb rfl rfl ?_ | refine qi (by assumption) rfl rfl ?_ | refine ql rfl ?_ | refine qo rfl rfl ?_ | refine qs rfl rfl ?_ | refine qn rfl rfl ?_); conv => whnf) | (refine r_put (p_binA (b_evtne (a := a[k]) (b := b[k]) (r := false) (by simp [he])) rfl rfl rfl) rfl rfl ?_; conv => whnf))
    exact ⟨⟨k + 1, hlt, hg.snoc hlt hlt' he⟩, by refine ⟨?_, ?_⟩ <;> (repeat (first | trivial | exact ⟨rfl, trivial⟩ | refine ⟨rfl, ?_⟩ | refine ⟨.inl ⟨rfl, rfl⟩, ?_⟩ | refine ⟨.inr ⟨_, _, rfl, rfl, rfl, rfl, rfl⟩, ?_⟩)), by simp; omega⟩
  · rw [decide_eq_false (fun e => he (by subst e; rfl))]
    repeat (((first | refine qb rfl rfl ?_ | refine qi (by assumption) rfl rfl ?_ | refine ql rfl ?_ | refine qo rfl rfl ?_ | refine qs rfl rfl ?_ | refine qn rfl rfl ?_); conv => whnf))
    refine .inl ⟨by kernel_rfl, ?_⟩
    conv => whnf
    repeat (first | ((first | refine qb rfl rfl ?_ | refine qi (by assumption) rfl rfl ?_ | refine ql rfl ?_ | refine qo rfl rfl ?_ | refine qs rfl rfl ?_ | refine qn rfl rfl ?_); conv => whnf) | (refine r_put (p_binA (b_evtne (a := a[k]) (b := b[k]) (r := true) (by simp [he])) rfl rfl rfl) rfl rfl ?_; conv => whnf))
    exact r_ret1 rfl trivial
noncomputable def swtB (a b : Wat) : Bool := watB a && (watB b && decide (a = b))
set_option maxHeartbeats 4000000 in
theorem ac_iSameWatch {a b : Wat} (ha : a.ok maxLen) (hb : b.ok maxLen) : AC Try.prog 19 [watA a, watA b] ⟨.v (.bool (swtB a b)), []⟩ := by
  have h1 := ac_iWatchOK ha
  have h2 := ac_iWatchOK hb
  have h3 := ac_eqlEvts ha.2 hb.2
  unfold swtB
  generalize watB a = x at h1
  cases x
  case false =>
    rw [Bool.false_and]
    as_aux_lemma =>
      refine o_of Th_ok (by kernel_rfl) Try.func19 rfl Try.ntmps19 Try.results19 (by kernel_rfl) rfl ?_
      refine c_cut (ι := Unit) (fun _ => ⟨[(2, .optr 3 0 [] 0), (3, .optr 4 0 [] 0)], [(3, ⟨.s 26, 3, [.agg [.v (.string a.name), .v (.int .i64 a.seen), .lst 3 (a.queue.map evtA)]]⟩), (4, ⟨.s 26, 3, [.agg [.v (.string b.name), .v (.int .i64 b.seen), .lst 3 (b.queue.map evtA)]]⟩)], []⟩) ?_ (fun _ => ?_)
      · refine runC_sound _ _ _ ?_
        conv => whnf
        repeat (((first | refine qb rfl rfl ?_ | refine qi (by assumption) rfl rfl ?_ | refine ql rfl ?_ | refine qo rfl rfl ?_ | refine qs rfl rfl ?_ | refine qn rfl rfl ?_); conv => whnf))
        exact ⟨(), ⟨by refine ⟨?_, ?_⟩ <;> (repeat (first | trivial | exact ⟨rfl, trivial⟩ | refine ⟨rfl, ?_⟩ | refine ⟨.inl ⟨rfl, rfl⟩, ?_⟩ | refine ⟨.inr ⟨_, _, rfl, rfl, rfl, rfl, rfl⟩, ?_⟩)), trivial⟩⟩
      refine runC_sound _ _ _ ?_
      conv => whnf
      repeat (first | (refine qc (h1) rfl ?_; conv => whnf) | (refine r_put (p_bin (b_sne_t (by assumption)) rfl rfl rfl) rfl rfl ?_; conv => whnf) | (refine r_put (p_bin (b_sne_f (by assumption)) rfl rfl rfl) rfl rfl ?_; conv => whnf) | (refine r_put (p_bin (b_seq_t (by assumption)) rfl rfl rfl) rfl rfl ?_; conv => whnf) | (refine r_put (p_bin (b_seq_f (by assumption)) rfl rfl rfl) rfl rfl ?_; conv => whnf) | ((first | refine qb rfl rfl ?_ | refine qi (by assumption) rfl rfl ?_ | refine ql rfl ?_ | refine qo rfl rfl ?_ | refine qs rfl rfl ?_ | refine qn rfl rfl ?_); conv => whnf) | (refine .inl (And.intro (by kernel_rfl) ?_); conv => whnf))
      exact r_ret1 rfl trivial
  generalize watB b = y at h2
  cases y
  case false =>
    rw [Bool.true_and, Bool.false_and]
    as_aux_lemma =>
      refine o_of Th_ok (by kernel_rfl) Try.func19 rfl Try.ntmps19 Try.results19 (by kernel_rfl) rfl ?_
      refine c_cut (ι := Unit) (fun _ => ⟨[(2, .optr 3 0 [] 0), (3, .optr 4 0 [] 0)], [(3, ⟨.s 26, 3, [.agg [.v (.string a.name), .v (.int .i64 a.seen), .lst 3 (a.queue.map evtA)]]⟩), (4, ⟨.s 26, 3, [.agg [.v (.string b.name), .v (.int .i64 b.seen), .lst 3 (b.queue.map evtA)]]⟩)], []⟩) ?_ (fun _ => ?_)
      · refine runC_sound _ _ _ ?_
        conv => whnf
        repeat (((first | refine qb rfl rfl ?_ | refine qi (by assumption) rfl rfl ?_ | refine ql rfl ?_ | refine qo rfl rfl ?_ | refine qs rfl rfl ?_ | refine qn rfl rfl ?_); conv => whnf))
        exact ⟨(), ⟨by refine ⟨?_, ?_⟩ <;> (repeat (first | trivial | exact ⟨rfl, trivial⟩ | refine ⟨rfl, ?_⟩ | refine ⟨.inl ⟨rfl, rfl⟩, ?_⟩ | refine ⟨.inr ⟨_, _, rfl, rfl, rfl, rfl, rfl⟩, ?_⟩)), trivial⟩⟩
      refine runC_sound _ _ _ ?_
      conv => whnf
      repeat (first | (refine qc (h1) rfl ?_; conv => whnf) | (refine qc (h2) rfl ?_; conv => whnf) | (refine r_put (p_bin (b_sne_t (by assumption)) rfl rfl rfl) rfl rfl ?_; conv => whnf) | (refine r_put (p_bin (b_sne_f (by assumption)) rfl rfl rfl) rfl rfl ?_; conv => whnf) | (refine r_put (p_bin (b_seq_t (by assumption)) rfl rfl rfl) rfl rfl ?_; conv => whnf) | (refine r_put (p_bin (b_seq_f (by assumption)) rfl rfl rfl) rfl rfl ?_; conv => whnf) | ((first | refine qb rfl rfl ?_ | refine qi (by assumption) rfl rfl ?_ | refine ql rfl ?_ | refine qo rfl rfl ?_ | refine qs rfl rfl ?_ | refine qn rfl rfl ?_); conv => whnf) | (refine .inl (And.intro (by kernel_rfl) ?_); conv => whnf))
      exact r_ret1 rfl trivial
  rw [Bool.true_and, Bool.true_and]
  by_cases n1 : a.name = b.name
  case neg =>
    rw [decide_eq_false (fun e => n1 (by rw [e]))]
    as_aux_lemma =>
      refine o_of Th_ok (by kernel_rfl) Try.func19 rfl Try.ntmps19 Try.results19 (by kernel_rfl) rfl ?_
      refine c_cut (ι := Unit) (fun _ => ⟨[(2, .optr 3 0 [] 0), (3, .optr 4 0 [] 0)], [(3, ⟨.s 26, 3, [.agg [.v (.string a.name), .v (.int .i64 a.seen), .lst 3 (a.queue.map evtA)]]⟩), (4, ⟨.s 26, 3, [.agg [.v (.string b.name), .v (.int .i64 b.seen), .lst 3 (b.queue.map evtA)]]⟩)], []⟩) ?_ (fun _ => ?_)
      · refine runC_sound _ _ _ ?_
        conv => whnf
        repeat (((first | refine qb rfl rfl ?_ | refine qi (by assumption) rfl rfl ?_ | refine ql rfl ?_ | refine qo rfl rfl ?_ | refine qs rfl rfl ?_ | refine qn rfl rfl ?_); conv => whnf))
        exact ⟨(), ⟨by refine ⟨?_, ?_⟩ <;> (repeat (first | trivial | exact ⟨rfl, trivial⟩ | refine ⟨rfl, ?_⟩ | refine ⟨.inl ⟨rfl, rfl⟩, ?_⟩ | refine ⟨.inr ⟨_, _, rfl, rfl, rfl, rfl, rfl⟩, ?_⟩)), trivial⟩⟩
      refine runC_sound _ _ _ ?_
      conv => whnf
      repeat (first | (refine qc (h1) rfl ?_; conv => whnf) | (refine qc (h2) rfl ?_; conv => whnf) | (refine r_put (p_bin (b_sne_t (by assumption)) rfl rfl rfl) rfl rfl ?_; conv => whnf) | (refine r_put (p_bin (b_sne_f (by assumption)) rfl rfl rfl) rfl rfl ?_; conv => whnf) | (refine r_put (p_bin (b_seq_t (by assumption)) rfl rfl rfl) rfl rfl ?_; conv => whnf) | (refine r_put (p_bin (b_seq_f (by assumption)) rfl rfl rfl) rfl rfl ?_; conv => whnf) | ((first | refine qb rfl rfl ?_ | refine qi (by assumption) rfl rfl ?_ | refine ql rfl ?_ | refine qo rfl rfl ?_ | refine qs rfl rfl ?_ | refine qn rfl rfl ?_); conv => whnf) | (refine .inl (And.intro (by kernel_rfl) ?_); conv => whnf))
      exact r_ret1 rfl trivial
  by_cases n2 : a.seen = b.seen
  case neg =>
    rw [decide_eq_false (fun e => n2 (by rw [e]))]
    as_aux_lemma =>
      refine o_of Th_ok (by kernel_rfl) Try.func19 rfl Try.ntmps19 Try.results19 (by kernel_rfl) rfl ?_
      refine c_cut (ι := Unit) (fun _ => ⟨[(2, .optr 3 0 [] 0), (3, .optr 4 0 [] 0)], [(3, ⟨.s 26, 3, [.agg [.v (.string a.name), .v (.int .i64 a.seen), .lst 3 (a.queue.map evtA)]]⟩), (4, ⟨.s 26, 3, [.agg [.v (.string b.name), .v (.int .i64 b.seen), .lst 3 (b.queue.map evtA)]]⟩)], []⟩) ?_ (fun _ => ?_)
      · refine runC_sound _ _ _ ?_
        conv => whnf
        repeat (((first | refine qb rfl rfl ?_ | refine qi (by assumption) rfl rfl ?_ | refine ql rfl ?_ | refine qo rfl rfl ?_ | refine qs rfl rfl ?_ | refine qn rfl rfl ?_); conv => whnf))
        exact ⟨(), ⟨by refine ⟨?_, ?_⟩ <;> (repeat (first | trivial | exact ⟨rfl, trivial⟩ | refine ⟨rfl, ?_⟩ | refine ⟨.inl ⟨rfl, rfl⟩, ?_⟩ | refine ⟨.inr ⟨_, _, rfl, rfl, rfl, rfl, rfl⟩, ?_⟩)), trivial⟩⟩
      refine runC_sound _ _ _ ?_
      conv => whnf
      repeat (first | (refine qc (h1) rfl ?_; conv => whnf) | (refine qc (h2) rfl ?_; conv => whnf) | (refine r_put (p_bin (b_sne_t (by assumption)) rfl rfl rfl) rfl rfl ?_; conv => whnf) | (refine r_put (p_bin (b_sne_f (by assumption)) rfl rfl rfl) rfl rfl ?_; conv => whnf) | (refine r_put (p_bin (b_seq_t (by assumption)) rfl rfl rfl) rfl rfl ?_; conv => whnf) | (refine r_put (p_bin (b_seq_f (by assumption)) rfl rfl rfl) rfl rfl ?_; conv => whnf) | ((first | refine qb rfl rfl ?_ | refine qi (by assumption) rfl rfl ?_ | refine ql rfl ?_ | refine qo rfl rfl ?_ | refine qs rfl rfl ?_ | refine qn rfl rfl ?_); conv => whnf) | (refine .inl (And.intro (by kernel_rfl) ?_); conv => whnf))
      exact r_ret1 rfl trivial
  have hd0 : decide (a = b) = decide (a.queue = b.queue) := by simp [wat_ext, n1, n2]
  rw [hd0]
  as_aux_lemma =>
    refine o_of Th_ok (by kernel_rfl) Try.func19 rfl Try.ntmps19 Try.results19 (by kernel_rfl) rfl ?_
    refine c_cut (ι := Unit) (fun _ => ⟨[(2, .optr 3 0 [] 0), (3, .optr 4 0 [] 0)], [(3, ⟨.s 26, 3, [.agg [.v (.string a.name), .v (.int .i64 a.seen), .lst 3 (a.queue.map evtA)]]⟩), (4, ⟨.s 26, 3, [.agg [.v (.string b.name), .v (.int .i64 b.seen), .lst 3 (b.queue.map evtA)]]⟩)], []⟩) ?_ (fun _ => ?_)
    · refine runC_sound _ _ _ ?_
      conv => whnf
      repeat (((first | refine qb rfl rfl ?_ | refine qi (by assumption) rfl rfl ?_ | refine ql rfl ?_ | refine qo rfl rfl ?_ | refine qs rfl rfl ?_ | refine qn rfl rfl ?_); conv => whnf))
      exact ⟨(), ⟨by refine ⟨?_, ?_⟩ <;> (repeat (first | trivial | exact ⟨rfl, trivial⟩ | refine ⟨rfl, ?_⟩ | refine ⟨.inl ⟨rfl, rfl⟩, ?_⟩ | refine ⟨.inr ⟨_, _, rfl, rfl, rfl, rfl, rfl⟩, ?_⟩)), trivial⟩⟩
    refine runC_sound _ _ _ ?_
    conv => whnf
    repeat (first | (refine qc (h1) rfl ?_; conv => whnf) | (refine qc (h2) rfl ?_; conv => whnf) | (refine qc (h3) rfl ?_; conv => whnf) | (refine r_put (p_bin (b_sne_t (by assumption)) rfl rfl rfl) rfl rfl ?_; conv => whnf) | (refine r_put (p_bin (b_sne_f (by assumption)) rfl rfl rfl) rfl rfl ?_; conv => whnf) | (refine r_put (p_bin (b_seq_t (by assumption)) rfl rfl rfl) rfl rfl ?_; conv => whnf) | (refine r_put (p_bin (b_seq_f (by assumption)) rfl rfl rfl) rfl rfl ?_; conv => whnf) | ((first | refine qb rfl rfl ?_ | refine qi (by assumption) rfl rfl ?_ | refine ql rfl ?_ | refine qo rfl rfl ?_ | refine qs rfl rfl ?_ | refine qn rfl rfl ?_); conv => whnf) | (refine .inl (And.intro (by kernel_rfl) ?_); conv => whnf))
    exact r_ret1 rfl trivial
end Go.Proofs.Ytmfmclnklpbiaaa.AM
/- Watches noted, taken from and drained, on both sides. -/
namespace Go.Proofs.Ytmfmclnklpbiaaa.AM
open Go Go.RowKit
set_option linter.unusedVariables false
set_option linter.unusedSimpArgs false
set_option maxRecDepth 100000
theorem in_1 {l : Nat} {ob : OB} : ∀ m ∈ ([(l, some ob)] : List (Nat × Option OB)).map (·.1), inNu [(l, some ob)] m := fun m hm => by
  simp at hm; subst hm; exact in1 _ _
/-! ### what reads so reads otherwise too -/
section
variable {P : Program} {f : FuncId} {args args' : List AV} {rin rout : List OB} {out : Out}
theorem acg_arg (h : ACG P f args rin rout out) (hs : ∀ S w hp B V us, RVs S w hp B V args' us → RVs S w hp B V args us) : ACG P f args' rin rout out :=
  ⟨h.1, fun w S0 B0 V0 T0 vs hS hr hv => h.2 w S0 B0 V0 T0 vs hS hr (hs _ _ _ _ _ _ hv)⟩
theorem acg_out {v : AV} (h : ACG P f args rin rout out) (hs : ∀ S w hp B V u, RV S w hp B V out.val u → RV S w hp B V v u) : ACG P f args rin rout ⟨v, out.obs⟩ :=
  ⟨h.1, fun w S0 B0 V0 T0 vs hS hr hv => (h.2 w S0 B0 V0 T0 vs hS hr hv).mono fun e w' ⟨v', S, B, V, T, T1, h1, h2, h3, h4, h5, h6⟩ => ⟨v', S, B, V, T, T1, h1, h2, h3, h4, hs _ _ _ _ _ _ h5, h6⟩⟩
end
/-- a watch whose fields may be set to what is owned -/
def watM (w : Wat) : AV := .mix [.v (.string w.name), .v (.int .i64 w.seen), .rd (.lst 3 (w.queue.map evtA))]
/-- a watch whose queue is a row of the call's own -/
def watO (w : Wat) (l : Nat) : AV := .mix [.v (.string w.name), .v (.int .i64 w.seen), .own l]
abbrev evtO (q : List Evt) : OB := ⟨40, 3, q.map evtA⟩
theorem watM_rv {w : Wat} {S : Nat → Prop} {wd : World} {hp : Nat → Option OB} {B : Nat → Nat} {V : Nat → Value} {u : Value} (h : RV S wd hp B V (watA w) u) : RV S wd hp B V (watM w) u := by
  unfold watA at h
  unfold RV at h
  obtain ⟨cs, rfl, h⟩ := h
  unfold RL at h
  obtain ⟨c1, d1, rfl, h1, h⟩ := h
  unfold RL at h
  obtain ⟨c2, d2, rfl, h2, h⟩ := h
  unfold RL at h
  obtain ⟨c3, d3, rfl, h3, h⟩ := h
  unfold RL at h
  subst h
  unfold watM RV
  refine ⟨_, rfl, ?_⟩
  unfold ROs
  refine ⟨c1, _, Fa, Fa, rfl, Split.l0 noF, ?_, ?_⟩
  · unfold RO1; unfold RD; unfold RA at h1; exact ⟨noF, h1⟩
  unfold ROs
  refine ⟨c2, _, Fa, Fa, rfl, Split.l0 noF, ?_, ?_⟩
  · unfold RO1; unfold RD; unfold RA at h2; exact ⟨noF, h2⟩
  unfold ROs
  refine ⟨c3, _, Fa, Fa, rfl, Split.l0 noF, ?_, ?_⟩
  · unfold RO1; exact ⟨noF, h3⟩
  unfold ROs; exact ⟨rfl, noF⟩
theorem ac_watM {P : Program} {f : FuncId} {w : Wat} {out : Out} (h : AC P f [watM w] out) : AC P f [watA w] out := acg_arg h fun S wd hp B V us hv => by
  unfold RVs at hv ⊢
  obtain ⟨u, us', rfl, h1, h2⟩ := hv
  exact ⟨u, us', rfl, watM_rv h1, h2⟩
theorem ac_watM2 {P : Program} {f : FuncId} {w : Wat} {x : AV} {out : Out} (h : AC P f [watM w, x] out) : AC P f [watA w, x] out := acg_arg h fun S wd hp B V us hv => by
  unfold RVs at hv ⊢
  obtain ⟨u, us', rfl, h1, h2⟩ := hv
  exact ⟨u, us', rfl, watM_rv h1, h2⟩
/-! ### ends -/
section
variable {s : St} {Θ : Tab}
theorem cellO {a t l : Nat} {ob : OB} {t' : Option Nat} {xs : List AV} (h1 : s.sl a = .optr l 0 [] 0) (ho : s.hp l = some ob) (hop : ob.e.open_ = false) (hoe : openE ob.e ob.xs 0 = some (.o t' 0 (.mix xs))) (hp : plainM xs = true) (hk : ((Θ.look t).known && (Θ.look t).isAgg && Nat.beq (aszs xs) (Θ.look t).size) = true) : rvA s (.cell a t) = .mix xs ∧ rvOK Θ s (.cell a t) := by
  have hof : ofO (.mix xs) = some (.mix xs) := by simp [ofO, hp]
  have hr : rvA s (.cell a t) = .mix xs := by
    simp only [rvA, h1, ho, hop, hoe, cond_false, hof]; rfl
  simp only [Bool.and_eq_true] at hk
  exact ⟨hr, hk.1.1, by rw [hr]; exact hk.1.2.symm, by rw [hr]; exact Nat.eq_of_beq_eq_true hk.2, .inl ⟨l, ob, _, h1, ho, .inr ⟨hop, _, _, hoe, hof⟩⟩⟩
theorem cellC {a t l : Nat} {ob : OB} {x : AV} (h1 : s.sl a = .optr l 0 [] 0) (ho : s.hp l = some ob) (hx : ob.xs[0]? = some x) (hk : ((Θ.look t).known && (Bool.xor (isAggA x) (Θ.look t).isAgg).not && Nat.beq (asz x) (Θ.look t).size) = true) (hop : ob.e.open_ = true := by rfl) : rvA s (.cell a t) = x ∧ rvOK Θ s (.cell a t) := by
  have hr : rvA s (.cell a t) = x := by
    simp only [rvA, h1, ho, hop, hx, cond_true, Option.getD_some]
  simp only [Bool.and_eq_true] at hk
  exact ⟨hr, hk.1.1, by rw [hr]; exact xor_not hk.1.2, by rw [hr]; exact Nat.eq_of_beq_eq_true hk.2, .inl ⟨l, ob, x, h1, ho, .inl ⟨hop, hx⟩⟩⟩
theorem retA_watO {w : Wat} {L : Nat} {Ls : List Nat} {j : Nat} (hj : Ls.getD j 0 = L) (hlt : Nat.blt j Ls.length = true) : retA s Ls (watO w L) (watO w j) :=
  .inl ⟨by unfold watO; simp [mapA, mapAL, ← hj], by unfold watO; simp only [AV.within, withinL, hlt]; rfl⟩
theorem retA_own {L : Nat} {Ls : List Nat} {j : Nat} (hj : Ls.getD j 0 = L) (hlt : Nat.blt j Ls.length = true) : retA s Ls (.own L) (.own j) :=
  .inl ⟨by simp [mapA, ← hj], hlt⟩
theorem retA_v {v : Value} {Ls : List Nat} : retA s Ls (.v v) (.v v) := .inl ⟨rfl, rfl⟩
theorem retA_evt {e : Evt} {Ls : List Nat} : retA s Ls (evtA e) (evtA e) := .inl ⟨rfl, rfl⟩
theorem retA_wat {w : Wat} {Ls : List Nat} : retA s Ls (watA w) (watA w) := .inl ⟨rfl, rfl⟩
/-- a watch with a queue of its own -/
theorem r_wat {a l L : Nat} {ob : OB} {t' : Option Nat} {w : Wat} {q : OB} {t : Nat} (h1 : s.sl a = .optr l 0 [] 0) (ho : s.hp l = some ob) (hop : ob.e.open_ = false) (hoe : openE ob.e ob.xs 0 = some (.o t' 0 (watO w L))) (hq : s.hp L = some q) (hk : ((Θ.look t).known && (Θ.look t).isAgg && Nat.beq 3 (Θ.look t).size) = true) (hok : okL L = true := by rfl) (hsh : q.e.shut = true := by rfl) :
    RetQ Θ [.cell a t] ⟨watO w 0, [q]⟩ .ret s := by
  obtain ⟨c1, c2⟩ := cellO (Θ := Θ) (t := t) h1 ho hop hoe rfl hk
  exact ⟨trivial, [L], by simp, ⟨⟨hq, hok, hsh⟩, trivial⟩, ⟨c2, trivial⟩, trivial, ⟨by rw [c1]; exact retA_watO rfl rfl, trivial⟩⟩
theorem r_watV {a l L t2 : Nat} {ob : OB} {t' : Option Nat} {w : Wat} {q : OB} {t : Nat} {v : Value} (h1 : s.sl a = .optr l 0 [] 0) (ho : s.hp l = some ob) (hop : ob.e.open_ = false) (hoe : openE ob.e ob.xs 0 = some (.o t' 0 (watO w L))) (hq : s.hp L = some q) (hk : ((Θ.look t).known && (Θ.look t).isAgg && Nat.beq 3 (Θ.look t).size) = true) (hv : s.sl t2 = .v v) (hok : okL L = true := by rfl) (hsh : q.e.shut = true := by rfl) :
    RetQ Θ [.cell a t, .tmp t2] ⟨.tup [watO w 0, .v v], [q]⟩ .ret s := by
  obtain ⟨c1, c2⟩ := cellO (Θ := Θ) (t := t) h1 ho hop hoe rfl hk
  exact ⟨trivial, [L], by simp, ⟨⟨hq, hok, hsh⟩, trivial⟩, ⟨c2, trivial, trivial⟩, ⟨_, rfl⟩, ⟨by rw [c1]; exact retA_watO rfl rfl, by show retA _ _ (s.sl t2) _; rw [hv]; exact retA_v, trivial⟩⟩
end
section
variable {P : Program} {Θ : Tab} {s : St} {ty : TypeId} {pos : String} {after : Array Edge} {g : Option (Nat × Bool)}
theorem sft_bsl1 {d : Nat} {t : TypeId} {x : Operand} {el sz b : Nat} {z : AV} {ys : List AV} (hf : s.hp (d + 1) = none) (ht : Θ.look t = .slice el sz b z) (hx : s.ev x = .agg ys) (hz : Nat.beq (asz (.agg ys)) (asz z) = true) (hsz : Nat.ble sz 65536 = true) (hok : okL (d + 1) = true := by rfl) :
    Sft P Θ ⟨some d, .buildSlice t 1 #[(0, x)], ty, pos, after, g⟩ s (.own (d + 1)) [] [(d + 1, some ⟨.s el, sz, [.agg ys]⟩)] := by
  refine ⟨fun s' h1 h2 => ⟨⟨.own (d + 1), some fun s'' => s''.set (d + 1) (some ⟨.s el, sz, [.agg ys]⟩)⟩, ?_, fun K hK => .done ?_⟩, fun l ob h => ?_, fun l hl => (by cases hl), fun l hl => .inl ?_, fun l ⟨o, hl⟩ => .inl ?_, fun l ob ⟨o, hl⟩ ho => ?_⟩
  · exact p_bsl1 ((h2 _ (.inl (in1 _ _))).1.trans hf) ht ((h1 x (by simp [Op.operands])).trans hx) rfl hz hsz hok
  · rw [app_some, shp_set]; exact hK
  · obtain ⟨_, e⟩ := nu1 h; cases e; rfl
  · simp only [AV.names] at hl; rw [← Nat.eq_of_beq_eq_true hl]; exact in1 _ _
  · obtain ⟨rfl, _⟩ := nu1 hl; exact ⟨d, rfl, rfl⟩
  · obtain ⟨rfl, _⟩ := nu1 hl; rw [hf] at ho; cases ho
theorem sft_app1 {d : Option Tmp} {tx ty' : Tmp} {t el sz b l l' : Nat} {e0 e' : ET} {z : AV} {xs ys : List AV} (hx : s.sl tx = .own l) (hy : s.sl ty' = .own l') (ho : s.hp l = some ⟨e0, sz, xs⟩) (ho' : s.hp l' = some ⟨e', sz, ys⟩) (hn : Nat.beq l' l = false) (ht : Θ.look t = .slice el sz b z) (hb : (xs.length + ys.length) * b ≤ 140737488355328) (hb1 : Nat.ble 1 b = true) (he : (e0 = .s el ∨ e0 = .z el) := by first | exact .inl rfl | exact .inr rfl) (he' : e'.open_ = true := by rfl) (hok : okL l = true := by rfl) :
    Sft P Θ ⟨d, .call ⟨.builtin .append, #[.tmp tx, .tmp ty'], #[t, t]⟩, ty, pos, after, g⟩ s (.own l) [l] [(l, some ⟨.s el, sz, xs ++ ys⟩)] := by
  have hb1' := Nat.le_of_ble_eq_true hb1
  have hm : xs.length + ys.length ≤ maxLen := by
    have : (xs.length + ys.length) * 1 ≤ (xs.length + ys.length) * b := Nat.mul_le_mul_left _ hb1'
    unfold maxLen; omega
  have hne : l' ≠ l := fun e => by rw [e] at hn; simp at hn
  have m1 : tx ∈ tmpsOf (⟨d, .call ⟨.builtin .append, #[.tmp tx, .tmp ty'], #[t, t]⟩, ty, pos, after, g⟩ : Oper) := mem_tmps (by simp [Op.operands, Call.operands])
  have m2 : ty' ∈ tmpsOf (⟨d, .call ⟨.builtin .append, #[.tmp tx, .tmp ty'], #[t, t]⟩, ty, pos, after, g⟩ : Oper) := mem_tmps (by simp [Op.operands, Call.operands])
  have n1 : namedBy s (⟨d, .call ⟨.builtin .append, #[.tmp tx, .tmp ty'], #[t, t]⟩, ty, pos, after, g⟩ : Oper) l := ⟨tx, m1, by rw [hx]; simp [AV.names]⟩
  have n2 : namedBy s (⟨d, .call ⟨.builtin .append, #[.tmp tx, .tmp ty'], #[t, t]⟩, ty, pos, after, g⟩ : Oper) l' := ⟨ty', m2, by rw [hy]; simp [AV.names]⟩
  refine ⟨fun s' h1 h2 => ⟨⟨.own l, some fun s'' => (s''.kill l).set l (some ⟨.s el, sz, xs ++ ys⟩)⟩, ?_, fun K hK => .done ?_⟩, fun m ob h => ?_, fun m hl => ?_, fun m hl => .inl ?_, fun m ⟨o, hl⟩ => .inr ?_, fun m ob ⟨o, hl⟩ hob => ?_⟩
  · have e1 : s'.ev (.tmp tx) = .own l := (h1 _ (by simp [Op.operands, Call.operands])).trans hx
    have e2 : s'.ev (.tmp ty') = .own l' := (h1 _ (by simp [Op.operands, Call.operands])).trans hy
    exact ⟨.tmp tx, .tmp ty', t, el, sz, b, z, l, _, ys, rfl, rfl, ht, e1, (h2 _ (.inl (in1 _ _))).1.trans ho, hok, rfl, hb, hm, .inl ⟨el, he, rfl, .inr ⟨l', _, e2, hne, (h2 _ (.inr n2)).1.trans ho', he', rfl, rfl⟩, rfl⟩⟩
  · rw [app_some, shp_app]; exact hK
  · obtain ⟨_, e⟩ := nu1 h; cases e; rfl
  · rw [List.mem_singleton] at hl; subst hl; exact in1 _ _
  · simp only [AV.names] at hl; rw [← Nat.eq_of_beq_eq_true hl]; exact in1 _ _
  · obtain ⟨rfl, _⟩ := nu1 hl; exact n1
  · obtain ⟨rfl, _⟩ := nu1 hl
    rw [ho] at hob; cases hob
    rcases he with rfl | rfl <;> rfl
end
def noteW (w : Wat) (r : Rf) : Wat := ⟨w.name, r.ver, addE w.queue ⟨r.ver, r.head, false⟩⟩
attribute [local irreducible] ACode AOps AOps2 RetG RetM Pre ACG
theorem ac_l06Own' {w : Wat} (hm : w.queue.length ≤ 1048576) : AC Try.prog 56 [watM w] ⟨watO w 0, [evtO w.queue]⟩ := by
  refine r_of Th_ok (by kernel_rfl) Try.func56 rfl Try.ntmps56 Try.results56 (by kernel_rfl) rfl ?_; conv => whnf
  refine r_step (p_boxo rfl rfl rfl) rfl rfl (fun e => by first | exact .inl rfl | contradiction | exact .inr (.inl (by kernel_rfl))) ?_
  conv => whnf
  refine r_step (p_appl (xs := []) (ys := w.queue) (f := evtA) (by simp; omega) rfl rfl rfl rfl rfl rfl) rfl rfl (fun e => by first | exact .inl rfl | contradiction | exact .inr (.inl (by kernel_rfl))) ?_
  conv => whnf
  repeat (first | ((first | refine qb rfl rfl ?_ | refine qi (by assumption) rfl rfl ?_ | refine ql rfl ?_ | refine qo rfl rfl ?_ | refine qs rfl rfl ?_ | refine qn rfl rfl ?_); conv => whnf) | (refine r_step (p_ostoreo rfl rfl rfl rfl rfl rfl) rfl rfl (fun e => by first | exact .inl rfl | contradiction | exact .inr (.inl (by kernel_rfl))) ?_; conv => whnf))
  exact r_wat rfl rfl rfl rfl rfl rfl
theorem ac_l06Own {w : Wat} (hm : w.queue.length ≤ 1048576) : AC Try.prog 56 [watA w] ⟨watO w 0, [evtO w.queue]⟩ := ac_watM (ac_l06Own' hm)
theorem ac_l06Note {w : Wat} {r : Rf} (hm : w.queue.length ≤ 4) : AC Try.prog 60 [watA w, refA r] ⟨watA (noteW w r), []⟩ := by
  have fin : ∀ q : List Evt, q = addE w.queue ⟨r.ver, r.head, false⟩ → watA ⟨w.name, r.ver, q⟩ = watA (noteW w r) := fun q e => by rw [e]; rfl
  by_cases h4 : w.queue.length = 4
  · rw [← fin [⟨r.ver, r.head, true⟩] (by unfold addE; rw [if_neg (by omega)])]
    refine r_of Th_ok (by kernel_rfl) Try.func60 rfl Try.ntmps60 Try.results60 (by kernel_rfl) rfl ?_; conv => whnf
    repeat (first | ((first | refine qb rfl rfl ?_ | refine qi (by assumption) rfl rfl ?_ | refine ql rfl ?_ | refine qo rfl rfl ?_ | refine qs rfl rfl ?_ | refine qn rfl rfl ?_); conv => whnf) | (refine r_step (p_ostore rfl rfl rfl rfl rfl (by conv => lhs; whnf) rfl) rfl rfl (fun e => by first | exact .inl rfl | contradiction | exact .inr (.inl (by kernel_rfl))) ?_; conv => whnf) | (refine r_step (p_ostoref rfl rfl rfl rfl rfl rfl rfl rfl) rfl rfl (fun e => by first | exact .inl rfl | contradiction | exact .inr (.inl (by kernel_rfl))) ?_; conv => whnf))
    refine .inr ⟨by kernel_rfl, prodB_ok (by kernel_rfl), ?_⟩
    refine o2_sft (sft_bsl0 rfl rfl) in_1 rfl rfl (by kernel_rfl) ?_
    refine o2_calm (p_ofld rfl rfl rfl) rfl rfl rfl (.inl rfl) (by kernel_rfl) ?_
    refine o2_calm (p_old rfl rfl rfl rfl rfl rfl rfl) rfl rfl rfl (.inr rfl) (by kernel_rfl) ?_
    refine o2_sft (sft_appl rfl rfl rfl rfl (by simp <;> omega) rfl) in_1 rfl rfl (by kernel_rfl) ?_
    refine o2_calm (p_old rfl rfl rfl rfl rfl rfl rfl) rfl rfl rfl (.inr rfl) (by kernel_rfl) ?_
    refine o2_sft (sft_bsl1 rfl rfl rfl rfl rfl) in_1 rfl rfl (by kernel_rfl) ?_
    refine o2_sft (sft_app1 rfl rfl rfl rfl rfl rfl (by simp <;> omega) rfl) in_1 rfl rfl (by kernel_rfl) ?_
    refine o2_calm (p_ofld rfl rfl rfl) rfl rfl rfl (.inl rfl) (by kernel_rfl) ?_
    refine o2_tied (p_ostoref rfl rfl rfl rfl rfl rfl rfl rfl) rfl rfl (by kernel_rfl) ?_
    refine o2_nil ?_
    conv => whnf
    repeat (first | ((first | refine qb rfl rfl ?_ | refine qi (by assumption) rfl rfl ?_ | refine ql rfl ?_ | refine qo rfl rfl ?_ | refine qs rfl rfl ?_ | refine qn rfl rfl ?_); conv => whnf) | (refine r_step (p_ostore rfl rfl rfl rfl rfl (by conv => lhs; whnf) rfl) rfl rfl (fun e => by first | exact .inl rfl | contradiction | exact .inr (.inl (by kernel_rfl))) ?_; conv => whnf))
    exact r_cell1 (x := watA ⟨w.name, r.ver, [⟨r.ver, r.head, true⟩]⟩) rfl rfl rfl rfl trivial
  · rw [← fin (w.queue ++ [⟨r.ver, r.head, false⟩]) (by unfold addE; rw [if_pos (by omega)])]
    refine r_of Th_ok (by kernel_rfl) Try.func60 rfl Try.ntmps60 Try.results60 (by kernel_rfl) rfl ?_; conv => whnf
    repeat (first | ((first | refine qb rfl rfl ?_ | refine qi (by assumption) rfl rfl ?_ | refine ql rfl ?_ | refine qo rfl rfl ?_ | refine qs rfl rfl ?_ | refine qn rfl rfl ?_); conv => whnf) | (refine r_step (p_ostore rfl rfl rfl rfl rfl (by conv => lhs; whnf) rfl) rfl rfl (fun e => by first | exact .inl rfl | contradiction | exact .inr (.inl (by kernel_rfl))) ?_; conv => whnf) | (refine r_step (p_ostoref rfl rfl rfl rfl rfl rfl rfl rfl) rfl rfl (fun e => by first | exact .inl rfl | contradiction | exact .inr (.inl (by kernel_rfl))) ?_; conv => whnf))
    refine .inr ⟨by kernel_rfl, prodB_ok (by kernel_rfl), ?_⟩
    refine o2_sft (sft_bsl0 rfl rfl) in_1 rfl rfl (by kernel_rfl) ?_
    refine o2_calm (p_ofld rfl rfl rfl) rfl rfl rfl (.inl rfl) (by kernel_rfl) ?_
    refine o2_calm (p_old rfl rfl rfl rfl rfl rfl rfl) rfl rfl rfl (.inr rfl) (by kernel_rfl) ?_
    refine o2_sft (sft_appl rfl rfl rfl rfl (by simp; omega) rfl) in_1 rfl rfl (by kernel_rfl) ?_
    refine o2_calm (p_old rfl rfl rfl rfl rfl rfl rfl) rfl rfl rfl (.inr rfl) (by kernel_rfl) ?_
    refine o2_sft (sft_bsl1 rfl rfl rfl rfl rfl) in_1 rfl rfl (by kernel_rfl) ?_
    refine o2_sft (sft_app1 rfl rfl rfl rfl rfl rfl (by simp; omega) rfl) in_1 rfl rfl (by kernel_rfl) ?_
    refine o2_calm (p_ofld rfl rfl rfl) rfl rfl rfl (.inl rfl) (by kernel_rfl) ?_
    refine o2_tied (p_ostoref rfl rfl rfl rfl rfl rfl rfl rfl) rfl rfl (by kernel_rfl) ?_
    refine o2_nil ?_
    conv => whnf
    repeat (first | ((first | refine qb rfl rfl ?_ | refine qi (by assumption) rfl rfl ?_ | refine ql rfl ?_ | refine qo rfl rfl ?_ | refine qs rfl rfl ?_ | refine qn rfl rfl ?_); conv => whnf) | (refine r_step (p_ostore rfl rfl rfl rfl rfl (by conv => lhs; whnf) rfl) rfl rfl (fun e => by first | exact .inl rfl | contradiction | exact .inr (.inl (by kernel_rfl))) ?_; conv => whnf))
    have hq : watA ⟨w.name, r.ver, w.queue ++ [⟨r.ver, r.head, false⟩]⟩ = .agg [.v (.string w.name), .v (.int .i64 r.ver), .lst 3 (w.queue.map evtA ++ [evtA ⟨r.ver, r.head, false⟩])] := by unfold watA; simp
    rw [hq]
    exact r_cell1 (x := .agg [.v (.string w.name), .v (.int .i64 r.ver), .lst 3 (w.queue.map evtA ++ [evtA ⟨r.ver, r.head, false⟩])]) rfl rfl rfl rfl trivial
end Go.Proofs.Ytmfmclnklpbiaaa.AM
/- NoteRef, NextEvent and DrainWatch on both sides. -/
namespace Go.Proofs.Ytmfmclnklpbiaaa.AM
open Go Go.RowKit
set_option linter.unusedVariables false
set_option linter.unusedSimpArgs false
set_option maxRecDepth 100000
abbrev watZ : Wat := ⟨ByteArray.empty, 0, []⟩
/-- a watch whose queue is nil -/
def watN (w : Wat) : AV := .mix [.v (.string w.name), .v (.int .i64 w.seen), .v (.slice none 0 0)]
theorem watN_rv {w : Wat} {S : Nat → Prop} {wd : World} {hp : Nat → Option OB} {B : Nat → Nat} {V : Nat → Value} {u : Value} (h : RV S wd hp B V (watN w) u) : RV S wd hp B V (watA ⟨w.name, w.seen, []⟩) u := by
  unfold watN at h
  unfold RV at h
  obtain ⟨cs, rfl, h⟩ := h
  unfold ROs at h
  obtain ⟨c1, d1, _, _, rfl, _, h1, h⟩ := h
  unfold ROs at h
  obtain ⟨c2, d2, _, _, rfl, _, h2, h⟩ := h
  unfold ROs at h
  obtain ⟨c3, d3, _, _, rfl, _, h3, h⟩ := h
  unfold ROs at h
  obtain ⟨rfl, _⟩ := h
  unfold RO1 RD at h1 h2 h3
  obtain ⟨_, rfl, _⟩ := h1
  obtain ⟨_, rfl, _⟩ := h2
  obtain ⟨_, rfl, _⟩ := h3
  unfold watA RV
  refine ⟨_, rfl, ?_⟩
  exact rl_cons (c1 := [_]) (ra_v rfl) (rl_cons (c1 := [_]) (ra_v rfl) (rl_cons (c1 := [_]) (ra_nil (by omega)) rl_nil))
section
variable {s : St} {Θ : Tab}
theorem retA_watN {w : Wat} {Ls : List Nat} : retA s Ls (watN w) (watN w) := .inl ⟨rfl, rfl⟩
/-- a watch with a queue of its own, an event, a code -/
theorem r_watEV {a a2 l l2 L t2 : Nat} {ob ob2 : OB} {t' : Option Nat} {w : Wat} {q : OB} {t u : Nat} {v : Value} {e : Evt} (h1 : s.sl a = .optr l 0 [] 0) (ho : s.hp l = some ob) (hop : ob.e.open_ = false) (hoe : openE ob.e ob.xs 0 = some (.o t' 0 (watO w L))) (hq : s.hp L = some q) (hk : ((Θ.look t).known && (Θ.look t).isAgg && Nat.beq 3 (Θ.look t).size) = true)
    (h2 : s.sl a2 = .optr l2 0 [] 0) (ho2 : s.hp l2 = some ob2) (hx2 : ob2.xs[0]? = some (evtA e)) (hk2 : ((Θ.look u).known && (Bool.xor true (Θ.look u).isAgg).not && Nat.beq 3 (Θ.look u).size) = true) (hv : s.sl t2 = .v v) (hop2 : ob2.e.open_ = true := by rfl) (hok : okL L = true := by rfl) (hsh : q.e.shut = true := by rfl) :
    RetQ Θ [.cell a t, .cell a2 u, .tmp t2] ⟨.tup [watO w 0, evtA e, .v v], [q]⟩ .ret s := by
  obtain ⟨c1, c2⟩ := cellO (Θ := Θ) (t := t) h1 ho hop hoe rfl hk
  obtain ⟨c3, c4⟩ := cellC (Θ := Θ) (t := u) h2 ho2 hx2 hk2 hop2
  exact ⟨trivial, [L], by simp, ⟨⟨hq, hok, hsh⟩, trivial⟩, ⟨c2, c4, trivial, trivial⟩, ⟨_, rfl⟩, ⟨by rw [c1]; exact retA_watO rfl rfl, by rw [c3]; exact retA_evt, by show retA _ _ (s.sl t2) _; rw [hv]; exact retA_v, trivial⟩⟩
/-- a watch, a list, a code -/
theorem r_cov {a l L t2 t3 : Nat} {ob q : OB} {w : Wat} {t : Nat} {v : Value} (h1 : s.sl a = .optr l 0 [] 0) (ho : s.hp l = some ob) (hx : ob.xs[0]? = some (watA w)) (hk : ((Θ.look t).known && (Bool.xor true (Θ.look t).isAgg).not && Nat.beq 3 (Θ.look t).size) = true) (hl : s.sl t2 = .own L) (hq : s.hp L = some q) (hv : s.sl t3 = .v v) (hop : ob.e.open_ = true := by rfl) (hok : okL L = true := by rfl) (hsh : q.e.shut = true := by rfl) :
    RetQ Θ [.cell a t, .tmp t2, .tmp t3] ⟨.tup [watA w, .own 0, .v v], [q]⟩ .ret s := by
  obtain ⟨c1, c2⟩ := cellC (Θ := Θ) (t := t) h1 ho hx hk hop
  exact ⟨trivial, [L], by simp, ⟨⟨hq, hok, hsh⟩, trivial⟩, ⟨c2, trivial, trivial, trivial⟩, ⟨_, rfl⟩, ⟨by rw [c1]; exact retA_wat, by show retA _ _ (s.sl t2) _; rw [hl]; exact retA_own rfl rfl, by show retA _ _ (s.sl t3) _; rw [hv]; exact retA_v, trivial⟩⟩
theorem r_nov {a l L t2 t3 : Nat} {ob q : OB} {t' : Option Nat} {w : Wat} {t : Nat} {v : Value} (h1 : s.sl a = .optr l 0 [] 0) (ho : s.hp l = some ob) (hop : ob.e.open_ = false) (hoe : openE ob.e ob.xs 0 = some (.o t' 0 (watN w))) (hk : ((Θ.look t).known && (Θ.look t).isAgg && Nat.beq 3 (Θ.look t).size) = true) (hl : s.sl t2 = .own L) (hq : s.hp L = some q) (hv : s.sl t3 = .v v) (hok : okL L = true := by rfl) (hsh : q.e.shut = true := by rfl) :
    RetQ Θ [.cell a t, .tmp t2, .tmp t3] ⟨.tup [watN w, .own 0, .v v], [q]⟩ .ret s := by
  obtain ⟨c1, c2⟩ := cellO (Θ := Θ) (t := t) h1 ho hop hoe rfl hk
  exact ⟨trivial, [L], by simp, ⟨⟨hq, hok, hsh⟩, trivial⟩, ⟨c2, trivial, trivial, trivial⟩, ⟨_, rfl⟩, ⟨by rw [c1]; exact retA_watN, by show retA _ _ (s.sl t2) _; rw [hl]; exact retA_own rfl rfl, by show retA _ _ (s.sl t3) _; rw [hv]; exact retA_v, trivial⟩⟩
end
theorem watB_of {w : Wat} (h : watB w = true) : (0 ≤ w.seen ∧ w.seen ≤ 1000000) ∧ w.queue.length ≤ 4 := by
  unfold watB at h
  simp only [Bool.and_eq_true, decide_eq_true_eq, Bool.or_eq_true] at h
  refine ⟨h.2.1, ?_⟩
  rcases h.2.2 with h | h
  · rw [h]; simp
  · unfold qB at h
    simp only [Bool.and_eq_true, decide_eq_true_eq] at h
    exact h.1
attribute [local irreducible] ACode AOps AOps2 RetG RetM Pre ACG
theorem ac_iDrain {w : Wat} (hw : w.ok maxLen) (hb : watB w = true) : AC Try.prog 23 [watA w] ⟨.tup [watA ⟨w.name, w.seen, []⟩, .own 0, .v (.int .i64 0)], [evtO w.queue]⟩ := by
  have h1 := ac_iWatchOK hw
  rw [hb] at h1
  have h2 := ac_newPending (watB_of hb).2
  have h3 := ac_takeAll (watB_of hb).2
  have key : AC Try.prog 23 [watM w] ⟨.tup [watN w, .own 0, .v (.int .i64 0)], [evtO w.queue]⟩ := by
    refine r_of Th_ok (by kernel_rfl) Try.func23 rfl Try.ntmps23 Try.results23 (by kernel_rfl) rfl ?_; conv => whnf
    refine r_step (p_boxo rfl rfl rfl) rfl rfl (fun e => by first | exact .inl rfl | contradiction | exact .inr (.inl (by kernel_rfl))) ?_
    conv => whnf
    repeat (first | ((first | refine qb rfl rfl ?_ | refine qi (by assumption) rfl rfl ?_ | refine ql rfl ?_ | refine qo rfl rfl ?_ | refine qs rfl rfl ?_ | refine qn rfl rfl ?_); conv => whnf) | (refine qc (h1) rfl ?_; conv => whnf) | (refine r_step (p_ostore rfl rfl rfl rfl rfl (by conv => lhs; whnf) rfl) rfl rfl (fun e => by first | exact .inl rfl | contradiction | exact .inr (.inl (by kernel_rfl))) ?_; conv => whnf) | (refine qc (h2) rfl ?_; conv => whnf))
    refine r_step (p_callg [13] h3 rfl rfl ⟨rfl, trivial⟩ rfl rfl ⟨⟨rfl, rfl, rfl⟩, trivial⟩ rfl rfl rfl (.inl rfl) rfl) rfl rfl (fun e => by first | exact .inl rfl | contradiction | exact .inr (.inl (by kernel_rfl))) ?_
    conv => whnf
    repeat (first | ((first | refine qb rfl rfl ?_ | refine qi (by assumption) rfl rfl ?_ | refine ql rfl ?_ | refine qo rfl rfl ?_ | refine qs rfl rfl ?_ | refine qn rfl rfl ?_); conv => whnf) | (refine r_step (p_ostoreo rfl rfl rfl rfl rfl rfl) rfl rfl (fun e => by first | exact .inl rfl | contradiction | exact .inr (.inl (by kernel_rfl))) ?_; conv => whnf))
    exact r_nov rfl rfl rfl rfl rfl rfl rfl rfl
  exact ac_watM (acg_out key fun S wd hp B V u h => by
    unfold RV at h ⊢
    obtain ⟨us, rfl, h⟩ := h
    refine ⟨us, rfl, ?_⟩
    unfold RVs at h ⊢
    obtain ⟨u, us', rfl, h1, h2⟩ := h
    exact ⟨u, us', rfl, watN_rv h1, h2⟩)
/-- what NextEvent answers for a valid watch -/
def nextR (w : Wat) : Wat × Evt × Int := (⟨w.name, w.seen, w.queue.drop 1⟩, w.queue.getD 0 evtZ, if 0 < w.queue.length then 0 else 5)
theorem ac_iNext {w : Wat} (hw : w.ok maxLen) (hb : watB w = true) : AC Try.prog 17 [watA w] ⟨.tup [watO (nextR w).1 0, evtA (nextR w).2.1, .v (.int .i64 (nextR w).2.2)], [evtO (nextR w).1.queue]⟩ := by
  have h1 := ac_iWatchOK hw
  rw [hb] at h1
  have h2 := ac_newPending (watB_of hb).2
  have h3 := ac_take (l := w.queue)
  have h4 := ac_takeAll (l := w.queue.drop 1) (by have := (watB_of hb).2; simp; omega)
  refine ac_watM ?_
  unfold nextR
  by_cases h0 : 0 < w.queue.length
  · rw [if_pos h0]
    rw [decide_eq_true h0] at h3
    refine r_of Th_ok (by kernel_rfl) Try.func17 rfl Try.ntmps17 Try.results17 (by kernel_rfl) rfl ?_; conv => whnf
    refine r_step (p_boxo rfl rfl rfl) rfl rfl (fun e => by first | exact .inl rfl | contradiction | exact .inr (.inl (by kernel_rfl))) ?_
    conv => whnf
    repeat (first | ((first | refine qb rfl rfl ?_ | refine qi (by assumption) rfl rfl ?_ | refine ql rfl ?_ | refine qo rfl rfl ?_ | refine qs rfl rfl ?_ | refine qn rfl rfl ?_); conv => whnf) | (refine qc (h1) rfl ?_; conv => whnf) | (refine qc (h2) rfl ?_; conv => whnf))
    refine r_step (p_callg [17] h3 rfl rfl ⟨rfl, trivial⟩ rfl rfl trivial rfl rfl rfl (.inl rfl) rfl) rfl rfl (fun e => by first | exact .inl rfl | contradiction | exact .inr (.inl (by kernel_rfl))) ?_
    conv => whnf
    repeat (first | ((first | refine qb rfl rfl ?_ | refine qi (by assumption) rfl rfl ?_ | refine ql rfl ?_ | refine qo rfl rfl ?_ | refine qs rfl rfl ?_ | refine qn rfl rfl ?_); conv => whnf) | (refine r_step (p_ostore rfl rfl rfl rfl rfl (by conv => lhs; whnf) rfl) rfl rfl (fun e => by first | exact .inl rfl | contradiction | exact .inr (.inl (by kernel_rfl))) ?_; conv => whnf))
    refine r_step (p_callg [17] h4 rfl rfl ⟨rfl, trivial⟩ rfl rfl ⟨⟨rfl, rfl, rfl⟩, trivial⟩ rfl rfl rfl (.inl rfl) rfl) rfl rfl (fun e => by first | exact .inl rfl | contradiction | exact .inr (.inl (by kernel_rfl))) ?_
    conv => whnf
    repeat (first | ((first | refine qb rfl rfl ?_ | refine qi (by assumption) rfl rfl ?_ | refine ql rfl ?_ | refine qo rfl rfl ?_ | refine qs rfl rfl ?_ | refine qn rfl rfl ?_); conv => whnf) | (refine r_step (p_ostoreo rfl rfl rfl rfl rfl rfl) rfl rfl (fun e => by first | exact .inl rfl | contradiction | exact .inr (.inl (by kernel_rfl))) ?_; conv => whnf))
    (refine .inl (And.intro (by kernel_rfl) ?_); conv => whnf)
    refine r_step (p_ostoreo rfl rfl rfl rfl rfl rfl) rfl rfl (fun _ => .inr (.inr (soft_set (by kernel_rfl) (by kernel_rfl)))) ?_
    conv => whnf
    refine r_step (p_ostore rfl rfl rfl rfl rfl (by conv => lhs; whnf) rfl) rfl rfl (fun _ => .inr (.inr (soft_set (by kernel_rfl) (by kernel_rfl)))) ?_
    conv => whnf
    exact r_watEV rfl rfl rfl rfl rfl rfl rfl rfl rfl rfl rfl
  · rw [if_neg h0]
    rw [decide_eq_false h0] at h3
    refine r_of Th_ok (by kernel_rfl) Try.func17 rfl Try.ntmps17 Try.results17 (by kernel_rfl) rfl ?_; conv => whnf
    refine r_step (p_boxo rfl rfl rfl) rfl rfl (fun e => by first | exact .inl rfl | contradiction | exact .inr (.inl (by kernel_rfl))) ?_
    conv => whnf
    repeat (first | ((first | refine qb rfl rfl ?_ | refine qi (by assumption) rfl rfl ?_ | refine ql rfl ?_ | refine qo rfl rfl ?_ | refine qs rfl rfl ?_ | refine qn rfl rfl ?_); conv => whnf) | (refine qc (h1) rfl ?_; conv => whnf) | (refine qc (h2) rfl ?_; conv => whnf))
    refine r_step (p_callg [17] h3 rfl rfl ⟨rfl, trivial⟩ rfl rfl trivial rfl rfl rfl (.inl rfl) rfl) rfl rfl (fun e => by first | exact .inl rfl | contradiction | exact .inr (.inl (by kernel_rfl))) ?_
    conv => whnf
    repeat (first | ((first | refine qb rfl rfl ?_ | refine qi (by assumption) rfl rfl ?_ | refine ql rfl ?_ | refine qo rfl rfl ?_ | refine qs rfl rfl ?_ | refine qn rfl rfl ?_); conv => whnf) | (refine r_step (p_ostore rfl rfl rfl rfl rfl (by conv => lhs; whnf) rfl) rfl rfl (fun e => by first | exact .inl rfl | contradiction | exact .inr (.inl (by kernel_rfl))) ?_; conv => whnf))
    refine r_step (p_callg [17] h4 rfl rfl ⟨rfl, trivial⟩ rfl rfl ⟨⟨rfl, rfl, rfl⟩, trivial⟩ rfl rfl rfl (.inl rfl) rfl) rfl rfl (fun e => by first | exact .inl rfl | contradiction | exact .inr (.inl (by kernel_rfl))) ?_
    conv => whnf
    repeat (first | ((first | refine qb rfl rfl ?_ | refine qi (by assumption) rfl rfl ?_ | refine ql rfl ?_ | refine qo rfl rfl ?_ | refine qs rfl rfl ?_ | refine qn rfl rfl ?_); conv => whnf) | (refine r_step (p_ostoreo rfl rfl rfl rfl rfl rfl) rfl rfl (fun e => by first | exact .inl rfl | contradiction | exact .inr (.inl (by kernel_rfl))) ?_; conv => whnf))
    (refine .inl (And.intro (by kernel_rfl) ?_); conv => whnf)
    refine r_step (p_ostoreo rfl rfl rfl rfl rfl rfl) rfl rfl (fun _ => .inr (.inr (soft_set (by kernel_rfl) (by kernel_rfl)))) ?_
    conv => whnf
    refine r_step (p_ostore rfl rfl rfl rfl rfl (by conv => lhs; whnf) rfl) rfl rfl (fun _ => .inr (.inr (soft_set (by kernel_rfl) (by kernel_rfl)))) ?_
    conv => whnf
    exact r_watEV rfl rfl rfl rfl rfl rfl rfl rfl rfl rfl rfl
end Go.Proofs.Ytmfmclnklpbiaaa.AM
