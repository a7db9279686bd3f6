/- Texts of the machine over data, folded. -/
import Derived.Test.YtmfmclnklpbiaaaKq9
import Derived.Test.YtmfmclnklpbiaaaKq5
import Derived.Test.YtmfmclnklpbiaaaKq8
import Derived.Test.YtmfmclnklpbiaaaKq7
namespace Go.Proofs.Ytmfmclnklpbiaaa.AM
open Go Go.RowKit
set_option linter.unusedVariables false
set_option linter.unusedSimpArgs false
theorem evs_iff (l : List Evt) : evsB l = true ↔ (∀ e ∈ l, evOKB e = true) ∧ ∀ m (h : m + 1 < l.length), fB l[m + 1] (l[m]'(by omega)) = true := by
  constructor
  · intro h
    have h := evsB_of h
    refine ⟨fun e he => ?_, fun m hm => ?_⟩
    · obtain ⟨i, hi, rfl⟩ := List.getElem_of_mem he
      exact (h i hi).2.1
    · exact (h (m + 1) hm).2.2 m rfl
  · rintro ⟨h1, h2⟩
    refine evsB_t fun i hi => ?_
    refine ⟨hi, h1 _ (List.getElem_mem hi), fun m hm => ?_⟩
    subst hm
    exact h2 m hi
theorem evs_left {a b : List Evt} (h : evsB (a ++ b) = true) : evsB a = true := by
  rw [evs_iff] at h ⊢
  refine ⟨fun e he => h.1 e (List.mem_append_left _ he), fun m hm => ?_⟩
  have := h.2 m (by simp; omega)
  rw [List.getElem_append_left (by omega), List.getElem_append_left (by omega)] at this
  exact this
theorem evs_tail {x : Evt} {l : List Evt} (h : evsB (x :: l) = true) : evsB l = true := by
  rw [evs_iff] at h ⊢
  refine ⟨fun e he => h.1 e (by simp [he]), fun m hm => ?_⟩
  have := h.2 (m + 1) (by simp; omega)
  simpa using this
theorem evs_snoc {l : List Evt} {e : Evt} (h : evsB l = true) (he : evOKB e = true) (hl : ∀ b ∈ l.getLast?, fB e b = true) : evsB (l ++ [e]) = true := by
  rw [evs_iff] at h ⊢
  refine ⟨fun x hx => ?_, fun m hm => ?_⟩
  · rcases List.mem_append.1 hx with hx | hx
    · exact h.1 x hx
    · rw [List.mem_singleton.1 hx]; exact he
  · simp only [List.length_append, List.length_singleton] at hm
    rcases Nat.lt_or_ge (m + 1) l.length with q | q
    · rw [List.getElem_append_left q, List.getElem_append_left (by omega)]
      exact h.2 m q
    · have hm1 : m + 1 = l.length := by omega
      have e1 : (l ++ [e])[m + 1]'(by simp; omega) = e := by rw [List.getElem_append_right (by omega)]; simp
      have e2 : (l ++ [e])[m]'(by simp; omega) = l[m]'(by omega) := List.getElem_append_left (by omega)
      rw [e1, e2]
      refine hl _ ?_
      rw [List.getLast?_eq_getElem?]
      have : l.length - 1 = m := by omega
      rw [this, List.getElem?_eq_getElem (by omega)]; rfl
theorem evs_nil : evsB [] = true := by rw [evs_iff]; exact ⟨by simp, fun m h => by simp at h⟩
theorem evs_one {e : Evt} (he : evOKB e = true) : evsB [e] = true := by rw [evs_iff]; exact ⟨by simpa using he, fun m h => by simp at h⟩
/-- a watch as the draws make one -/
theorem watB_iff (w : Wat) : watB w = true ↔ okN w.name = true ∧ (0 ≤ w.seen ∧ w.seen ≤ 1000000) ∧ (w.queue = [] ∨ (w.queue.length ≤ 4 ∧ evsB w.queue = true ∧ w.queue.getLast?.map (·.ver) = some w.seen ∧ lagB w.queue = false)) := by
  unfold watB qB
  simp only [Bool.and_eq_true, Bool.or_eq_true, decide_eq_true_eq, Bool.not_eq_true']
theorem watB_qe {w : Wat} (h : watB w = true) : w.queue.length ≤ 4 ∧ evsB w.queue = true := by
  rcases ((watB_iff w).1 h).2.2 with e | e
  · rw [e]; exact ⟨by simp, evs_nil⟩
  · exact ⟨e.1, e.2.1⟩
theorem lag_snoc {l : List Evt} {e : Evt} (h : lagB l = false) (he : e.lag = false) : lagB (l ++ [e]) = false := by
  unfold lagB at h ⊢
  cases l with
  | nil => simp
  | cons x l => simp at h ⊢; exact ⟨h, he⟩
theorem lag_tail {x : Evt} {l : List Evt} (h : lagB (x :: l) = false) : lagB l = false := by
  unfold lagB at h ⊢
  cases l with
  | nil => simp
  | cons y l => simp at h ⊢; exact h.2
theorem watB_drop {w : Wat} (h : watB w = true) : watB ⟨w.name, w.seen, w.queue.drop 1⟩ = true := by
  rw [watB_iff] at h ⊢
  obtain ⟨h1, h2, h3⟩ := h
  refine ⟨h1, h2, ?_⟩
  match hq : w.queue with
  | [] => exact .inl rfl
  | [x] => exact .inl rfl
  | x :: y :: l =>
    rw [hq] at h3
    rcases h3 with e | ⟨a, b, c, d⟩
    · cases e
    · exact .inr ⟨by simp at a ⊢; omega, evs_tail b, by simpa [List.getLast?_cons_cons] using c, lag_tail d⟩
theorem watB_note {w : Wat} {r : Rf} (h : watB w = true) (hv : r.ver = w.seen + 1) (hs : r.ver ≤ 1000000) (h0 : 0 ≤ r.head) (h1 : r.head ≤ 60) : watB (noteW w r) = true := by
  have hq := watB_qe h
  rw [watB_iff] at h ⊢
  obtain ⟨a, b, c⟩ := h
  refine ⟨a, ⟨by show 0 ≤ r.ver; omega, hs⟩, .inr ?_⟩
  have hx : ∀ g, evOKB ⟨r.ver, r.head, g⟩ = true := fun g => by unfold evOKB; simp; omega
  show (addE w.queue ⟨r.ver, r.head, false⟩).length ≤ 4 ∧ evsB (addE w.queue ⟨r.ver, r.head, false⟩) = true ∧ (addE w.queue ⟨r.ver, r.head, false⟩).getLast?.map (·.ver) = some r.ver ∧ lagB (addE w.queue ⟨r.ver, r.head, false⟩) = false
  unfold addE
  split
  · rename_i hl
    refine ⟨by simp; omega, evs_snoc hq.2 (hx _) fun b hb => ?_, by simp, ?_⟩
    · rcases c with e | ⟨_, _, c3, _⟩
      · rw [e] at hb; cases hb
      · rw [Option.mem_def] at hb
        rw [hb] at c3
        simp at c3
        unfold fB; simp; omega
    · rcases c with e | ⟨_, _, _, c4⟩
      · rw [e]; rfl
      · exact lag_snoc c4 rfl
  · exact ⟨by simp, evs_one (hx _), by simp, rfl⟩
/-- the events behind a version -/
def newE (s : Int) (q : List Evt) : List Evt := q.filter fun e => decide (s < e.ver)
structure WInv (start : Int) (w : Wat) (list : List Evt) (room : Bool) : Prop where
  ok : watB w = true
  evs : evsB (list ++ newE start w.queue) = true
  vers : ∀ e ∈ list ++ newE start w.queue, start < e.ver ∧ e.ver ≤ w.seen
  last : (list ++ newE start w.queue = [] ∧ w.seen = start) ∨ ∃ b, (list ++ newE start w.queue).getLast? = some b ∧ b.ver = w.seen
  room : room = true → ∀ i (h : i < (list ++ newE start w.queue).length), (list ++ newE start w.queue)[i].lag = false ∧ (list ++ newE start w.queue)[i].ver = start + 1 + i
theorem newE_nil {s : Int} {q : List Evt} (h : ∀ e ∈ q, e.ver ≤ s) : newE s q = [] := by
  unfold newE; rw [List.filter_eq_nil_iff]; intro e he; have := h e he; simp; omega
theorem evs_lt {l : List Evt} (h : evsB l = true) : ∀ i j, (hij : i < j) → (hj : j < l.length) → (l[i]'(Nat.lt_trans hij hj)).ver < l[j].ver := by
  rw [evs_iff] at h
  intro i j hij
  induction j with
  | zero => omega
  | succ j ih =>
    intro hj
    have h2 := h.2 j hj
    have hlt : (l[j]'(by omega)).ver < l[j + 1].ver := by
      unfold fB at h2
      simp only [Bool.or_eq_true, decide_eq_true_eq, Bool.and_eq_true] at h2
      rcases h2 with e | e <;> omega
    rcases Nat.lt_or_ge i j with q | q
    · exact Int.lt_trans (ih q (by omega)) hlt
    · have : i = j := by omega
      subst this; exact hlt
theorem watB_vers {w : Wat} (h : watB w = true) : ∀ e ∈ w.queue, e.ver ≤ w.seen := by
  intro e he
  have hq := (watB_qe h).2
  obtain ⟨i, hi, rfl⟩ := List.getElem_of_mem he
  rcases ((watB_iff w).1 h).2.2 with e | ⟨_, _, c, _⟩
  · rw [e] at hi; simp at hi
  · rw [List.getLast?_eq_getElem?, List.getElem?_eq_getElem (by omega)] at c
    simp at c
    rcases Nat.lt_or_ge i (w.queue.length - 1) with q | q
    · have := evs_lt hq i (w.queue.length - 1) q (by omega); omega
    · have : i = w.queue.length - 1 := by omega
      subst this; omega
theorem WInv.start {w : Wat} (h : watB w = true) : WInv w.seen w [] true := by
  have e : newE w.seen w.queue = [] := newE_nil (watB_vers h)
  constructor
  · exact h
  · rw [e]; exact evs_nil
  · rw [e]; simp
  · rw [e]; exact .inl ⟨rfl, rfl⟩
  · rw [e]; intro _ i hi; simp at hi
theorem WInv.seen {start : Int} {w : Wat} {list : List Evt} {room : Bool} (h : WInv start w list room) : start ≤ w.seen := by
  rcases h.last with ⟨_, e⟩ | ⟨b, hb, e⟩
  · omega
  · have := h.vers b (List.mem_of_getLast? hb); omega
/-- the first event is taken -/
theorem WInv.next {start : Int} {w : Wat} {list : List Evt} {room : Bool} {e : Evt} {q : List Evt} (h : WInv start w list room) (hq : w.queue = e :: q) : WInv start ⟨w.name, w.seen, w.queue.drop 1⟩ (if start < e.ver then list ++ [e] else list) room := by
  have hk := watB_drop h.ok
  have hL : (if start < e.ver then list ++ [e] else list) ++ newE start q = list ++ newE start w.queue := by
    rw [hq]; unfold newE
    rw [List.filter_cons]
    by_cases hs : start < e.ver
    · rw [if_pos hs, if_pos (by simpa using hs)]; simp
    · rw [if_neg hs, if_neg (by simpa using hs)]
  have hd : w.queue.drop 1 = q := by rw [hq]; rfl
  obtain ⟨h1, h2, h3, h4, h5⟩ := h
  rw [hd] at hk ⊢
  constructor
  · exact hk
  · show evsB ((if start < e.ver then list ++ [e] else list) ++ newE start q) = true
    rw [hL]; exact h2
  · show ∀ x ∈ (if start < e.ver then list ++ [e] else list) ++ newE start q, _
    rw [hL]; exact h3
  · show ((if start < e.ver then list ++ [e] else list) ++ newE start q = [] ∧ _) ∨ ∃ b, ((if start < e.ver then list ++ [e] else list) ++ newE start q).getLast? = some b ∧ _
    rw [hL]; exact h4
  · show room = true → ∀ i (hi : i < ((if start < e.ver then list ++ [e] else list) ++ newE start q).length), ((if start < e.ver then list ++ [e] else list) ++ newE start q)[i].lag = false ∧ _
    intro hr i hi
    have := h5 hr i (by rw [← hL]; exact hi)
    simp only [hL]
    exact this
theorem WInv.empty {start : Int} {w : Wat} {list : List Evt} {room : Bool} (h : WInv start w list room) (hq : w.queue = []) : WInv start ⟨w.name, w.seen, w.queue.drop 1⟩ list room := by
  have : (⟨w.name, w.seen, w.queue.drop 1⟩ : Wat) = w := by cases w; simp at hq ⊢; rw [hq]; rfl
  rw [this]; exact h
/-- a reference is noted -/
theorem WInv.note {start : Int} {w : Wat} {list : List Evt} {room : Bool} {r : Rf} (h : WInv start w list room) (hv : r.ver = w.seen + 1) (hs : r.ver ≤ 1000000) (h0 : 0 ≤ r.head) (h1 : r.head ≤ 60) : WInv start (noteW w r) list (room && decide (w.queue.length < 4)) := by
  have hk := watB_note h.ok hv hs h0 h1
  have hse := h.seen
  have hw0 := ((watB_iff w).1 h.ok).2.1
  have hx : ∀ g, evOKB ⟨r.ver, r.head, g⟩ = true := fun g => by unfold evOKB; simp; omega
  obtain ⟨a1, a2, a3, a4, a5⟩ := h
  have hqn : (noteW w r).queue = addE w.queue ⟨r.ver, r.head, false⟩ := rfl
  by_cases hl : w.queue.length < 4
  · have hL : list ++ newE start (noteW w r).queue = (list ++ newE start w.queue) ++ [⟨r.ver, r.head, false⟩] := by
      rw [hqn]; unfold addE; rw [if_pos hl]; unfold newE
      rw [List.filter_append, List.filter_cons, if_pos (by simp; omega)]; simp
    constructor
    · exact hk
    · rw [hL]
      refine evs_snoc a2 (hx _) fun b hb => ?_
      rcases a4 with ⟨e, _⟩ | ⟨b', hb', e⟩
      · rw [e] at hb; cases hb
      · rw [Option.mem_def, hb'] at hb
        cases hb
        unfold fB; simp; omega
    · rw [hL]
      intro e he
      rcases List.mem_append.1 he with he | he
      · have := a3 e he
        refine ⟨this.1, ?_⟩
        show e.ver ≤ r.ver; omega
      · rw [List.mem_singleton.1 he]; exact ⟨by show start < r.ver; omega, Int.le_refl _⟩
    · rw [hL]; exact .inr ⟨⟨r.ver, r.head, false⟩, by simp, rfl⟩
    · intro hr i hi
      rw [Bool.and_eq_true] at hr
      simp only [hL] at hi ⊢
      rw [List.length_append, List.length_singleton] at hi
      rcases Nat.lt_or_ge i (list ++ newE start w.queue).length with q | q
      · rw [List.getElem_append_left q]; exact a5 hr.1 i q
      · have hi' : i = (list ++ newE start w.queue).length := by omega
        have e1 : ((list ++ newE start w.queue) ++ [(⟨r.ver, r.head, false⟩ : Evt)])[i]'(by simp; simp at hi'; omega) = ⟨r.ver, r.head, false⟩ := by rw [List.getElem_append_right (by omega)]; simp
        rw [e1]
        refine ⟨rfl, ?_⟩
        show r.ver = _
        rcases a4 with ⟨e, e2⟩ | ⟨b, hb, e⟩
        · have : i = 0 := by rw [hi', e]; rfl
          rw [this, hv, e2]; simp
        · rw [List.getLast?_eq_getElem?] at hb
          have hpos : 0 < (list ++ newE start w.queue).length := by
            rcases Nat.eq_zero_or_pos (list ++ newE start w.queue).length with z | z
            · rw [List.eq_nil_of_length_eq_zero z] at hb; simp at hb
            · exact z
          have h6 := a5 hr.1 ((list ++ newE start w.queue).length - 1) (by omega)
          rw [List.getElem?_eq_getElem (by omega)] at hb
          injection hb with hb
          rw [hb] at h6
          omega
  · have hL : list ++ newE start (noteW w r).queue = list ++ [⟨r.ver, r.head, true⟩] := by
      rw [hqn]; unfold addE; rw [if_neg hl]; unfold newE
      rw [List.filter_cons, if_pos (by simp; omega)]; rfl
    constructor
    · exact hk
    · rw [hL]
      refine evs_snoc (evs_left a2) (hx _) fun b hb => ?_
      have := a3 b (List.mem_append_left _ (List.mem_of_getLast? hb))
      unfold fB; simp; omega
    · rw [hL]
      intro e he
      rcases List.mem_append.1 he with he | he
      · have := a3 e (List.mem_append_left _ he)
        refine ⟨this.1, ?_⟩
        show e.ver ≤ r.ver; omega
      · rw [List.mem_singleton.1 he]; exact ⟨by show start < r.ver; omega, Int.le_refl _⟩
    · rw [hL]; exact .inr ⟨⟨r.ver, r.head, true⟩, by simp, rfl⟩
    · intro hr
      rw [decide_eq_false hl, Bool.and_false] at hr; cases hr
end Go.Proofs.Ytmfmclnklpbiaaa.AM
/- The other side of NextEvent and DrainWatch. -/
namespace Go.Proofs.Ytmfmclnklpbiaaa.AM
open Go Go.RowKit
set_option linter.unusedVariables false
set_option linter.unusedSimpArgs false
set_option maxRecDepth 100000
theorem soft_call1 {Θ : Tab} {ops : Array Oper} {k d : Nat} {s : St} {ob : OB} {v : AV} (hs : soft Θ ops true k = true) (hc : condB ops k s [d] = true) : SoftE Θ ops (fun j => Nat.blt j k) k s ⟨v, setU d [ob]⟩ := soft_set (l := d) (o := some ob) hs hc
attribute [local irreducible] ACode AOps AOps2 RetG RetM Pre ACG
theorem ac_sNext {w : Wat} (hw : w.ok maxLen) (hb : watB w = true) : AC Try.prog 18 [watA w] ⟨.tup [watO (nextR w).1 0, evtA (nextR w).2.1, .v (.int .i64 (nextR w).2.2)], [evtO (nextR w).1.queue]⟩ := by
  have h1 := ac_l06OK hw
  rw [hb] at h1
  have h4 := (watB_of hb).2
  obtain ⟨nm, sn, qu⟩ := w
  cases qu with
  | nil =>
    have h3 := ac_l06Own (w := ⟨nm, sn, []⟩) (by simp)
    refine r_of Th_ok (by kernel_rfl) Try.func18 rfl Try.ntmps18 Try.results18 (by kernel_rfl) rfl ?_; conv => whnf
    repeat (first | ((first | refine qb rfl rfl ?_ | refine qi (by assumption) rfl rfl ?_ | refine ql rfl ?_ | refine qo rfl rfl ?_ | refine qs rfl rfl ?_ | refine qn rfl rfl ?_); conv => whnf) | (refine qc (h1) rfl ?_; conv => whnf) | (refine qc (h3) rfl ?_; conv => whnf) | (refine r_step (p_ostore rfl rfl rfl rfl rfl (by conv => lhs; whnf) rfl) rfl rfl (fun e => by first | exact .inl rfl | contradiction | exact .inr (.inl (by kernel_rfl))) ?_; conv => whnf) | (refine r_step (p_ostoreo rfl rfl rfl rfl rfl rfl) rfl rfl (fun e => by first | exact .inl rfl | contradiction | exact .inr (.inl (by kernel_rfl))) ?_; conv => whnf) | (refine r_put (p_bin (b_eq_t (by simp)) rfl rfl rfl) rfl rfl ?_; conv => whnf))
    exact r_watEV rfl rfl rfl rfl rfl rfl rfl rfl rfl rfl rfl
  | cons e r =>
    have h3 := ac_l06Own (w := ⟨nm, sn, r⟩) (by simp at h4 ⊢; omega)
    refine r_of Th_ok (by kernel_rfl) Try.func18 rfl Try.ntmps18 Try.results18 (by kernel_rfl) rfl ?_; conv => whnf
    repeat (first | ((first | refine qb rfl rfl ?_ | refine qi (by assumption) rfl rfl ?_ | refine ql rfl ?_ | refine qo rfl rfl ?_ | refine qs rfl rfl ?_ | refine qn rfl rfl ?_); conv => whnf) | (refine qc (h1) rfl ?_; conv => whnf) | (refine r_put (p_bin (b_eq_f (by simp; omega)) rfl rfl rfl) rfl rfl ?_; conv => whnf) | (refine r_put (p_idx (y := evtA e) (j := 0) (xs := (e :: r).map evtA) rfl rfl rfl rfl) rfl rfl ?_; conv => whnf) | (refine r_step (p_ostore rfl rfl rfl rfl rfl (by conv => lhs; whnf) rfl) rfl rfl (fun e => by first | exact .inl rfl | contradiction | exact .inr (.inl (by kernel_rfl))) ?_; conv => whnf))
    refine r_put (p_ldrm (f := evtA) (xs := e :: r) (h := 1) (by simp) rfl rfl rfl) rfl rfl ?_
    conv => whnf
    repeat (first | ((first | refine qb rfl rfl ?_ | refine qi (by assumption) rfl rfl ?_ | refine ql rfl ?_ | refine qo rfl rfl ?_ | refine qs rfl rfl ?_ | refine qn rfl rfl ?_); conv => whnf) | (refine r_step (p_ostore rfl rfl rfl rfl rfl (by conv => lhs; whnf) rfl) rfl rfl (fun e => by first | exact .inl rfl | contradiction | exact .inr (.inl (by kernel_rfl))) ?_; conv => whnf))
    (refine .inl (And.intro (by kernel_rfl) ?_); conv => whnf)
    refine r_step (p_call h3 rfl (.inl rfl) (by first | exact trivial | exact ⟨⟨rfl, rfl, rfl⟩, trivial⟩ | exact ⟨⟨rfl, rfl, rfl⟩, ⟨rfl, rfl, rfl⟩, trivial⟩ | exact ⟨⟨rfl, rfl, rfl⟩, ⟨rfl, rfl, rfl⟩, ⟨rfl, rfl, rfl⟩, trivial⟩) rfl rfl) rfl rfl (fun _ => .inr (.inr (soft_call1 (by kernel_rfl) (by kernel_rfl)))) ?_
    conv => whnf
    refine r_step (p_ostoreo rfl rfl rfl rfl rfl rfl) rfl rfl (fun _ => .inr (.inr (soft_set (by kernel_rfl) (by kernel_rfl)))) ?_
    conv => whnf
    refine r_step (p_ostore rfl rfl rfl rfl rfl (by conv => lhs; whnf) rfl) rfl rfl (fun _ => .inr (.inr (soft_set (by kernel_rfl) (by kernel_rfl)))) ?_
    conv => whnf
    exact r_watEV rfl rfl rfl rfl rfl rfl rfl rfl rfl rfl rfl
theorem ac_sDrain {w : Wat} (hw : w.ok maxLen) (hb : watB w = true) : AC Try.prog 24 [watA w] ⟨.tup [watA ⟨w.name, w.seen, []⟩, .own 0, .v (.int .i64 0)], [evtO w.queue]⟩ := by
  have h1 := ac_l06OK hw
  rw [hb] at h1
  refine r_of Th_ok (by kernel_rfl) Try.func24 rfl Try.ntmps24 Try.results24 (by kernel_rfl) rfl ?_; conv => whnf
  repeat (first | ((first | refine qb rfl rfl ?_ | refine qi (by assumption) rfl rfl ?_ | refine ql rfl ?_ | refine qo rfl rfl ?_ | refine qs rfl rfl ?_ | refine qn rfl rfl ?_); conv => whnf) | (refine qc (h1) rfl ?_; conv => whnf) | (refine r_step (p_ostore rfl rfl rfl rfl rfl (by conv => lhs; whnf) rfl) rfl rfl (fun e => by first | exact .inl rfl | contradiction | exact .inr (.inl (by kernel_rfl))) ?_; conv => whnf))
  refine r_step (p_appl (xs := []) (ys := w.queue) (f := evtA) (by have := (watB_of hb).2; simp; omega) rfl rfl rfl rfl rfl rfl) rfl rfl (fun e => by first | exact .inl rfl | contradiction | exact .inr (.inl (by kernel_rfl))) ?_
  conv => whnf
  repeat (first | ((first | refine qb rfl rfl ?_ | refine qi (by assumption) rfl rfl ?_ | refine ql rfl ?_ | refine qo rfl rfl ?_ | refine qs rfl rfl ?_ | refine qn rfl rfl ?_); conv => whnf) | (refine r_step (p_ostore rfl rfl rfl rfl rfl (by conv => lhs; whnf) rfl) rfl rfl (fun e => by first | exact .inl rfl | contradiction | exact .inr (.inl (by kernel_rfl))) ?_; conv => whnf) | (refine r_step (p_ostoref rfl rfl rfl rfl rfl rfl rfl rfl) rfl rfl (fun e => by first | exact .inl rfl | contradiction | exact .inr (.inl (by kernel_rfl))) ?_; conv => whnf))
  exact r_cov rfl rfl rfl rfl rfl rfl rfl
end Go.Proofs.Ytmfmclnklpbiaaa.AM
/- Events and watches marked and held. -/
namespace Go.Proofs.Ytmfmclnklpbiaaa.AM
open Go Go.RowKit
set_option linter.unusedVariables false
set_option linter.unusedSimpArgs false
set_option maxRecDepth 100000
attribute [local irreducible] ACode AOps AOps2 RetG RetM Pre ACG
end Go.Proofs.Ytmfmclnklpbiaaa.AM
/- The laws of NextEvent, DrainWatch and NoteRef. -/
namespace Go.Proofs.Ytmfmclnklpbiaaa.AM
open Go Go.RowKit
set_option linter.unusedVariables false
set_option linter.unusedSimpArgs false
set_option maxRecDepth 100000
attribute [local irreducible] ACode AOps AOps2 RetG RetM Pre ACG
end Go.Proofs.Ytmfmclnklpbiaaa.AM
namespace Go.Proofs.Ytmfmclnklpbiaaa.AM
open Go Go.RowKit
set_option linter.unusedVariables false
set_option linter.unusedSimpArgs false
set_option maxRecDepth 100000
/-- one step of the draw of a watch -/
def watStep (c : List UInt8) (s : Src) (w : Wat) : Wat × Src :=
  if (nextS c (nextS c s 9).2 4).1 = 3 then (⟨(noteW w ⟨w.name, ((nextS c s 9).1 : Int), w.seen + 1, false⟩).name, (noteW w ⟨w.name, ((nextS c s 9).1 : Int), w.seen + 1, false⟩).seen, (noteW w ⟨w.name, ((nextS c s 9).1 : Int), w.seen + 1, false⟩).queue.drop 1⟩, (nextS c (nextS c s 9).2 4).2)
  else (noteW w ⟨w.name, ((nextS c s 9).1 : Int), w.seen + 1, false⟩, (nextS c (nextS c s 9).2 4).2)
theorem watStep_ok {c : List UInt8} {s : Src} {w : Wat} {K : Nat} (h : s.ok K) (hw : watB w = true) (hs : w.seen ≤ 1000) : (watStep c s w).2.ok (K + 2) ∧ watB (watStep c s w).1 = true ∧ (watStep c s w).1.name = w.name ∧ (watStep c s w).1.seen = w.seen + 1 := by
  obtain ⟨h1, h2⟩ := nextS_ok (c := c) (n := 9) h (by omega)
  obtain ⟨h3, h4⟩ := nextS_ok (c := c) (n := 4) h1 (by omega)
  have hn := watB_note (r := ⟨w.name, ((nextS c s 9).1 : Int), w.seen + 1, false⟩) hw rfl (by show w.seen + 1 ≤ 1000000; omega) (by show (0 : Int) ≤ ((nextS c s 9).1 : Int); omega) (by show ((nextS c s 9).1 : Int) ≤ 60; omega)
  unfold watStep
  split
  · exact ⟨h3, watB_drop hn, rfl, rfl⟩
  · exact ⟨h3, hn, rfl, rfl⟩
def watL (c : List UInt8) : Nat → Src → Wat → Wat × Src
  | 0, s, w => (w, s)
  | n + 1, s, w => watL c n (watStep c s w).2 (watStep c s w).1
theorem watL_ok {c : List UInt8} : ∀ (n : Nat) (s : Src) (w : Wat) (K : Nat), s.ok K → watB w = true → w.seen + n ≤ 1000 → (watL c n s w).2.ok (K + 2 * n) ∧ watB (watL c n s w).1 = true ∧ (watL c n s w).1.name = w.name ∧ (watL c n s w).1.seen = w.seen + n
  | 0, s, w, K, h, hw, hs => ⟨h, hw, rfl, by simp [watL]⟩
  | n + 1, s, w, K, h, hw, hs => by
    obtain ⟨a1, a2, a3, a4⟩ := watStep_ok (c := c) h hw (by omega)
    obtain ⟨b1, b2, b3, b4⟩ := watL_ok (c := c) n _ _ (K + 2) a1 a2 (by rw [a4]; omega)
    refine ⟨b1.le (by omega), b2, b3.trans a3, ?_⟩
    show (watL c n _ _).1.seen = _
    rw [b4, a4]; omega
noncomputable def watS (c : List UInt8) (s : Src) : Wat × Src := watL c (nextS c (nextS c (pickS c s names4).2 4).2 8).1 (nextS c (nextS c (pickS c s names4).2 4).2 8).2 ⟨(pickS c s names4).1, ((nextS c (pickS c s names4).2 4).1 : Int), []⟩
theorem watB_empty {x : ByteArray} {v : Int} (hx : okN x = true) (h0 : 0 ≤ v) (h1 : v ≤ 1000000) : watB ⟨x, v, []⟩ = true := (watB_iff _).2 ⟨hx, ⟨h0, h1⟩, .inl rfl⟩
theorem watS_ok {c : List UInt8} {s : Src} {K : Nat} (h : s.ok K) : (watS c s).2.ok (K + 20) ∧ watB (watS c s).1 = true ∧ (watS c s).1.seen ≤ 10 ∧ (watS c s).1.name.size ≤ 12 := by
  obtain ⟨h1, n1⟩ := pickS_ok (c := c) (l := names4) h (by decide)
  obtain ⟨h2, n2⟩ := nextS_ok (c := c) (n := 4) h1 (by omega)
  obtain ⟨h3, n3⟩ := nextS_ok (c := c) (n := 8) h2 (by omega)
  obtain ⟨k1, k2⟩ := names4_ok n1
  obtain ⟨a1, a2, a3, a4⟩ := watL_ok (c := c) (nextS c (nextS c (pickS c s names4).2 4).2 8).1 _ ⟨(pickS c s names4).1, ((nextS c (pickS c s names4).2 4).1 : Int), []⟩ _ h3 (watB_empty k1 (by omega) (by omega)) (by show ((nextS c (pickS c s names4).2 4).1 : Int) + _ ≤ 1000; omega)
  refine ⟨a1.le (by omega), a2, ?_, ?_⟩
  · show (watL c _ _ _).1.seen ≤ 10
    rw [a4]; show ((nextS c (pickS c s names4).2 4).1 : Int) + _ ≤ 10; omega
  · show (watL c _ _ _).1.name.size ≤ 12
    rw [a3]; exact k2
section
variable {P : Program} {Θ : Tab} {s : St} {ty : TypeId} {pos : String} {after : Array Edge} {g : Option (Nat × Bool)}
/-- a call that is handed one row by its pointer, and a plain value -/
theorem sft_callg0 {f : FuncId} {ts : Array TypeId} {t a l : Nat} {c v : Value} {ri ro : OB} (hac : ACG P f [.optr 0 0 [] 0, .v c] [ri] [ro] ⟨.v v, []⟩) (hx : s.sl a = .optr l 0 [] 0) (ho : s.hp l = some ri) (hsz : ro.sz = ri.sz) (hri : ri.e.shut = true) (hro : ro.e.shut = true) (hc : c.oneCell' = true) :
    Sft P Θ ⟨some t, .call ⟨.value (.func f), #[.tmp a, .const c], ts⟩, ty, pos, after, g⟩ s (.v v) [] [(l, some ro)] := by
  have hsub : ∀ o : OB, o.e.shut = true → subO [l] o = o := fun o h => by
    obtain ⟨e, sz, xs⟩ := o
    cases e <;> first | rfl | cases h
  have hwi : ∀ o : OB, o.e.shut = true → ∀ p, withinE p o.e = true := fun o h p => by
    obtain ⟨e, sz, xs⟩ := o
    cases e <;> first | rfl | cases h
  refine ⟨fun s' h1 h2 => ⟨⟨.v v, some fun s => setObs (t + 1) 0 [] (setHanded [l] [l] [ro] s)⟩, ?_, fun K hK => .done ?_⟩, fun m o h => ?_, fun l hl => (by cases hl), fun m hl => by simp [AV.names] at hl, fun m ⟨o, hl⟩ => ?_, fun m o ⟨o', hl⟩ hm => ?_⟩
  · have ea : s'.ev (.tmp a) = .optr l 0 [] 0 := (h1 (.tmp a) (by simp [Op.operands, Call.operands])).trans hx
    have ho' : s'.hp l = some ri := (h2 l (.inl (in1 _ _))).1.trans ho
    have e2 : (([] : List AV) ++ [Operand.tmp a, .const c].map s'.ev ++ []) = [.optr l 0 [] 0, .v c] := by show [s'.sl a, AV.v c] = _; rw [show s'.sl a = .optr l 0 [] 0 from ea]
    refine p_callg (x := .func f) (xs := []) (ys := []) (out := ⟨.v v, []⟩) [l] hac rfl ?_ ⟨ho'.trans (congrArg some (hsub ri hri).symm), trivial⟩ rfl (by simp [hsz]) trivial ?_ ?_ ?_ (.inl ?_) (by simp [csOK, cOK, hc])
    · show s'.datHL [l] ([] ++ [Operand.tmp a, .const c].map s'.ev ++ []) = _
      rw [e2]
      simp [St.datHL, St.datH, subAL, mapAL, mapA, subl]
    · show argsH s' [l] ([] ++ [Operand.tmp a, .const c].map s'.ev ++ []) = true
      rw [e2]; simp [argsH, argH, isDataA, hc]
    · simp [withinL, AV.within, rowsF]
    · simp [hwi ri hri, hwi ro hro]
    · show (readsL [l] (ownsAL ([] ++ [Operand.tmp a, .const c].map s'.ev ++ []))).isEmpty = true
      rw [e2]; simp [ownsAL, ownsA, readsL]
  · have e3 : setObs (t + 1) 0 [] (setHanded [l] [l] [ro] s') = shp [] [(l, some ro)] s' := by
      show s'.set l (some (subO [l] ro)) = _
      rw [hsub ro hro]
      exact shp_set _ _ _
    rw [app_some, e3]; exact hK
  · obtain ⟨_, e⟩ := nu1 h; cases e; exact hro
  · obtain ⟨rfl, _⟩ := nu1 hl
    exact .inr ⟨a, mem_tmps (by simp [Op.operands, Call.operands]), by rw [hx]; simp [AV.names]⟩
  · obtain ⟨rfl, _⟩ := nu1 hl
    rw [ho] at hm; cases hm; exact hri
/-- a watch is the result, a row stays handed -/
theorem r_watG {a l L : Nat} {ob o0 : OB} {t' : Option Nat} {w : Wat} {q : OB} {t : Nat} (h0 : s.hp 0 = some o0) (h1 : s.sl a = .optr l 0 [] 0) (ho : s.hp l = some ob) (hop : ob.e.open_ = false) (hoe : openE ob.e ob.xs 0 = some (.o t' 0 (watO w L))) (hq : s.hp L = some q) (hk : ((Θ.look t).known && (Θ.look t).isAgg && Nat.beq 3 (Θ.look t).size) = true) (hok : okL L = true := by rfl) (hsh : q.e.shut = true := by rfl) :
    RetG Θ [.cell a t] [o0] ⟨watO w 0, [q]⟩ .ret s := by
  obtain ⟨c1, c2⟩ := cellO (Θ := Θ) (t := t) h1 ho hop hoe rfl hk
  exact ⟨⟨h0, trivial⟩, [L], by simp, ⟨⟨hq, hok, hsh⟩, trivial⟩, ⟨c2, trivial⟩, trivial, ⟨by rw [c1]; exact retA_watO rfl rfl, trivial⟩⟩
end
attribute [local irreducible] ACode AOps AOps2 RetG RetM Pre ACG
set_option maxHeartbeats 8000000 in
theorem ac_watch {c : List UInt8} {s : Src} {K : Nat} (hc : c.length ≤ maxLen) (hs : s.ok K) (hK : K ≤ 900000000) : ACG Try.prog 51 [.optr 0 0 [] 0] [srcO c s] [srcO c (watS c s).2] ⟨watO (watS c s).1 0, [evtO (watS c s).1.queue]⟩ := by
  obtain ⟨h1, n1⟩ := pickS_ok (c := c) (l := names4) hs (by decide)
  obtain ⟨h2, n2⟩ := nextS_ok (c := c) (n := 4) h1 (by omega)
  obtain ⟨h3, n3⟩ := nextS_ok (c := c) (n := 8) h2 (by omega)
  obtain ⟨k1, k2⟩ := names4_ok n1
  have a1 := ac_branch (c := c) hc hs (by omega)
  have a2 := ac_next (n := 4) hc h1 (by omega) (by omega)
  have a3 := ac_next (n := 8) hc h2 (by omega) (by omega)
  have hS : watS c s = watL c (nextS c (nextS c (pickS c s names4).2 4).2 8).1 (nextS c (nextS c (pickS c s names4).2 4).2 8).2 ⟨(pickS c s names4).1, ((nextS c (pickS c s names4).2 4).1 : Int), []⟩ := rfl
  have hw0 : watB ⟨(pickS c s names4).1, ((nextS c (pickS c s names4).2 4).1 : Int), []⟩ = true := watB_empty k1 (by omega) (by omega)
  refine acg_of (rs := [.cell 2 26]) Th_ok (by kernel_rfl) Try.func51 rfl Try.ntmps51 (by rw [Try.results51]) (by kernel_rfl) (by simp) rfl rfl (runC_sound _ _ _ ?_)
  conv => whnf
  repeat (first | (refine r_step (p_callg [0] (a1) rfl rfl (by first | exact ⟨rfl, trivial⟩ | exact ⟨rfl, rfl, trivial⟩ | exact ⟨rfl, rfl, rfl, trivial⟩) rfl rfl (by first | exact trivial | exact ⟨⟨rfl, rfl, rfl⟩, trivial⟩ | exact ⟨⟨rfl, rfl, rfl⟩, ⟨rfl, rfl, rfl⟩, trivial⟩ | exact ⟨⟨rfl, rfl, rfl⟩, ⟨rfl, rfl, rfl⟩, ⟨rfl, rfl, rfl⟩, trivial⟩) rfl rfl rfl (.inl rfl) rfl) rfl rfl (fun e => by first | exact .inl rfl | contradiction | exact .inr (.inl (by kernel_rfl))) ?_; conv => whnf) | (refine r_step (p_callg [0] (a2) rfl rfl (by first | exact ⟨rfl, trivial⟩ | exact ⟨rfl, rfl, trivial⟩ | exact ⟨rfl, rfl, rfl, trivial⟩) rfl rfl (by first | exact trivial | exact ⟨⟨rfl, rfl, rfl⟩, trivial⟩ | exact ⟨⟨rfl, rfl, rfl⟩, ⟨rfl, rfl, rfl⟩, trivial⟩ | exact ⟨⟨rfl, rfl, rfl⟩, ⟨rfl, rfl, rfl⟩, ⟨rfl, rfl, rfl⟩, trivial⟩) rfl rfl rfl (.inl rfl) rfl) rfl rfl (fun e => by first | exact .inl rfl | contradiction | exact .inr (.inl (by kernel_rfl))) ?_; conv => whnf) | ((first | refine qb rfl rfl ?_ | refine qi (by assumption) rfl rfl ?_ | refine ql rfl ?_ | refine qo rfl rfl ?_ | refine qs rfl rfl ?_ | refine qn rfl rfl ?_); conv => whnf))
  refine r_step (p_buildm rfl ⟨⟨_, _, rfl, rfl, rfl⟩, ⟨_, _, rfl, rfl, rfl⟩, ⟨_, _, rfl, rfl, rfl⟩, trivial⟩ rfl) rfl rfl (fun e => by first | exact .inl rfl | contradiction | exact .inr (.inl (by kernel_rfl))) ?_
  conv => whnf
  refine r_gh (p_ostoreo rfl rfl rfl rfl rfl rfl) rfl rfl (fun e => by cases e) (Gh.foldr 4 10 [2] rfl rfl rfl rfl rfl rfl (Gh.shuts 4 rfl rfl (Gh.done ?_)))
  conv => whnf
  (refine r_step (p_callg [0] (a3) rfl rfl (by first | exact ⟨rfl, trivial⟩ | exact ⟨rfl, rfl, trivial⟩ | exact ⟨rfl, rfl, rfl, trivial⟩) rfl rfl (by first | exact trivial | exact ⟨⟨rfl, rfl, rfl⟩, trivial⟩ | exact ⟨⟨rfl, rfl, rfl⟩, ⟨rfl, rfl, rfl⟩, trivial⟩ | exact ⟨⟨rfl, rfl, rfl⟩, ⟨rfl, rfl, rfl⟩, ⟨rfl, rfl, rfl⟩, trivial⟩) rfl rfl rfl (.inl rfl) rfl) rfl rfl (fun e => by first | exact .inl rfl | contradiction | exact .inr (.inl (by kernel_rfl))) ?_; conv => whnf)
  generalize watS c s = Z at hS ⊢
  generalize (pickS c s names4).1 = nm at *
  generalize (nextS c (pickS c s names4).2 4).1 = sn at *
  generalize (nextS c (nextS c (pickS c s names4).2 4).2 8).2 = s1 at *
  generalize (nextS c (nextS c (pickS c s names4).2 4).2 8).1 = n0 at *
  refine r_loop (ι := { p : Nat × Src × Wat // p.2.1.ok (K + 3 + 2 * (7 - p.1)) ∧ p.1 ≤ 7 ∧ watB p.2.2 = true ∧ p.2.2.seen + p.1 ≤ 10 ∧ Z = watL c p.1 p.2.1 p.2.2 }) (fun p => ⟨[(0, .optr 0 0 [] 0), (2, .optr 3 0 [] 0), (3, .optr 4 0 [] 0), (4, .v (.int .i64 (p.1.1 : Int)))], [(0, srcO c p.1.2.1), (3, ⟨.z 26, 3, [watA watZ]⟩), (4, ⟨.s 26, 3, [watA p.1.2.2]⟩)]⟩) (fun p => p.1.1) ⟨(n0, s1, ⟨nm, (sn : Int), []⟩), h3.le (by omega), by omega, hw0, by show (sn : Int) + n0 ≤ 10; omega, hS⟩ (by refine ⟨?_, ?_⟩ <;> (repeat (first | trivial | exact ⟨rfl, trivial⟩ | refine ⟨rfl, ?_⟩ | refine ⟨.inl ⟨rfl, rfl⟩, ?_⟩ | refine ⟨.inr ⟨_, _, rfl, rfl, rfl, rfl, rfl⟩, ?_⟩))) ?_
  rintro ⟨⟨n, s2, w⟩, g1, g2, g3, g4, g5⟩
  dsimp only at g1 g2 g3 g4 g5 ⊢
  conv => whnf
  cases n with
  | zero =>
    have g6 : Z = (w, s2) := g5
    subst g6
    have hq4 := (watB_of g3).2
    have b1 := ac_l06Own (w := w) (by omega)
    repeat (first | ((first | refine qb rfl rfl ?_ | refine qi (by assumption) rfl rfl ?_ | refine ql rfl ?_ | refine qo rfl rfl ?_ | refine qs rfl rfl ?_ | refine qn rfl rfl ?_); conv => whnf) | (refine qc (b1) rfl ?_; conv => whnf))
    refine r_step (p_ostoreo rfl rfl rfl rfl rfl rfl) rfl rfl (fun e => by first | exact .inl rfl | contradiction | exact .inr (.inl (by kernel_rfl))) ?_
    conv => whnf
    exact r_watG rfl rfl rfl rfl rfl rfl rfl
  | succ n =>
    obtain ⟨p1, p2⟩ := nextS_ok (c := c) (n := 9) g1 (by omega)
    obtain ⟨q1, q2⟩ := nextS_ok (c := c) (n := 4) p1 (by omega)
    have hs0 := ((watB_iff w).1 g3).2.1
    obtain ⟨u1, u2, u3, u4⟩ := watStep_ok (c := c) g1 g3 (by omega)
    have hst : watL c (n + 1) s2 w = watL c n (watStep c s2 w).2 (watStep c s2 w).1 := rfl
    rw [hst] at g5
    have hone : watStep c s2 w = if (nextS c (nextS c s2 9).2 4).1 = 3 then (⟨(noteW w ⟨w.name, ((nextS c s2 9).1 : Int), w.seen + 1, false⟩).name, (noteW w ⟨w.name, ((nextS c s2 9).1 : Int), w.seen + 1, false⟩).seen, (noteW w ⟨w.name, ((nextS c s2 9).1 : Int), w.seen + 1, false⟩).queue.drop 1⟩, (nextS c (nextS c s2 9).2 4).2) else (noteW w ⟨w.name, ((nextS c s2 9).1 : Int), w.seen + 1, false⟩, (nextS c (nextS c s2 9).2 4).2) := rfl
    have b1 := ac_next (n := 9) hc g1 (by omega) (by omega)
    have b2 := ac_chance (n := 4) hc p1 (by omega) (by omega) (by omega)
    have hq4 := (watB_of g3).2
    have b3 := ac_l06Note (w := w) (r := ⟨w.name, ((nextS c s2 9).1 : Int), w.seen + 1, false⟩) hq4
    have hql : 1 ≤ (noteW w ⟨w.name, ((nextS c s2 9).1 : Int), w.seen + 1, false⟩).queue.length := by
      show 1 ≤ (addE _ _).length
      unfold addE; split <;> simp
    generalize watStep c s2 w = one at *
    generalize nextS c s2 9 = pp at *
    obtain ⟨hd, sp⟩ := pp
    dsimp only at *
    generalize nextS c sp 4 = qq at *
    obtain ⟨k, sq⟩ := qq
    dsimp only at *
    generalize hw1 : noteW w ⟨w.name, (hd : Int), w.seen + 1, false⟩ = w1 at *
    have hnm : w1.seen = w.seen + 1 := by rw [← hw1]; rfl
    repeat (((first | refine qb rfl rfl ?_ | refine qi (by assumption) rfl rfl ?_ | refine ql rfl ?_ | refine qo rfl rfl ?_ | refine qs rfl rfl ?_ | refine qn rfl rfl ?_); conv => whnf))
    refine .inr ⟨by kernel_rfl, prodB_ok (by kernel_rfl), ?_⟩
    refine o2_calm (p_old rfl rfl rfl rfl rfl rfl rfl) rfl rfl rfl (.inr rfl) (by kernel_rfl) ?_
    refine o2_calm (p_ofld rfl rfl rfl) rfl rfl rfl (.inl rfl) (by kernel_rfl) ?_
    refine o2_calm (p_old rfl rfl rfl rfl rfl rfl rfl) rfl rfl rfl (.inr rfl) (by kernel_rfl) ?_
    refine o2_calm (p_ofld rfl rfl rfl) rfl rfl rfl (.inl rfl) (by kernel_rfl) ?_
    refine o2_calm (p_old rfl rfl rfl rfl rfl rfl rfl) rfl rfl rfl (.inr rfl) (by kernel_rfl) ?_
    refine o2_calm (p_bin (b_add (c := w.seen + 1) (by omega) (by omega) (by omega)) rfl rfl rfl) rfl rfl rfl (.inl rfl) (by kernel_rfl) ?_
    refine o2_calm (p_mv rfl) rfl rfl rfl (.inl rfl) (by kernel_rfl) ?_
    refine o2_sft (sft_callg0 b1 rfl rfl rfl rfl rfl rfl) in_o1 rfl rfl (by kernel_rfl) ?_
    refine o2_sft (sft_bld rfl ⟨⟨_, rfl, rfl⟩, rfl, ⟨_, rfl, rfl⟩, rfl, ⟨_, rfl, rfl⟩, rfl, trivial⟩ rfl rfl rfl) in_o0 rfl rfl (by kernel_rfl) ?_
    refine o2_sft (sft_call b3 rfl rfl rfl trivial rfl rfl rfl) in_nuO rfl rfl (by kernel_rfl) ?_
    refine o2_tied (p_ostore rfl rfl rfl rfl rfl (by conv => lhs; whnf) rfl) rfl rfl (by kernel_rfl) ?_
    refine o2_nil ?_
    conv => whnf
    repeat (first | (refine r_step (p_callg [0] (b2) rfl rfl (by first | exact ⟨rfl, trivial⟩ | exact ⟨rfl, rfl, trivial⟩ | exact ⟨rfl, rfl, rfl, trivial⟩) rfl rfl (by first | exact trivial | exact ⟨⟨rfl, rfl, rfl⟩, trivial⟩ | exact ⟨⟨rfl, rfl, rfl⟩, ⟨rfl, rfl, rfl⟩, trivial⟩ | exact ⟨⟨rfl, rfl, rfl⟩, ⟨rfl, rfl, rfl⟩, ⟨rfl, rfl, rfl⟩, trivial⟩) rfl rfl rfl (.inl rfl) rfl) rfl rfl (fun e => by first | exact .inl rfl | contradiction | exact .inr (.inl (by kernel_rfl))) ?_; conv => whnf) | ((first | refine qb rfl rfl ?_ | refine qi (by assumption) rfl rfl ?_ | refine ql rfl ?_ | refine qo rfl rfl ?_ | refine qs rfl rfl ?_ | refine qn rfl rfl ?_); conv => whnf))
    by_cases hk3 : k = 3
    · rw [if_pos hk3] at hone
      rw [decide_eq_true (by omega)]
      subst hone
      dsimp only at *
      conv => whnf
      refine r_put (p_ldrm (f := evtA) (xs := w1.queue) (h := 1) hql rfl rfl rfl) rfl rfl ?_
      conv => whnf
      repeat (first | (refine r_step (p_ostore rfl rfl rfl rfl rfl (by conv => lhs; whnf) rfl) rfl rfl (fun e => by first | exact .inl rfl | contradiction | exact .inr (.inl (by kernel_rfl))) ?_; conv => whnf) | (refine r_put (p_bin (b_sub (c := (n : Int)) (by omega) (by omega) (by omega)) rfl rfl rfl) rfl rfl ?_; conv => whnf) | ((first | refine qb rfl rfl ?_ | refine qi (by assumption) rfl rfl ?_ | refine ql rfl ?_ | refine qo rfl rfl ?_ | refine qs rfl rfl ?_ | refine qn rfl rfl ?_); conv => whnf))
      exact ⟨⟨(n, sq, ⟨w1.name, w1.seen, w1.queue.drop 1⟩), u1.le (by omega), by omega, u2, by show w1.seen + n ≤ 10; omega, g5⟩, by refine ⟨?_, ?_⟩ <;> (repeat (first | trivial | exact ⟨rfl, trivial⟩ | refine ⟨rfl, ?_⟩ | refine ⟨.inl ⟨rfl, rfl⟩, ?_⟩ | refine ⟨.inr ⟨_, _, rfl, rfl, rfl, rfl, rfl⟩, ?_⟩)), by simp⟩
    · rw [if_neg hk3] at hone
      rw [decide_eq_false (by omega)]
      subst hone
      dsimp only at *
      conv => whnf
      repeat (first | (refine r_put (p_bin (b_sub (c := (n : Int)) (by omega) (by omega) (by omega)) rfl rfl rfl) rfl rfl ?_; conv => whnf) | ((first | refine qb rfl rfl ?_ | refine qi (by assumption) rfl rfl ?_ | refine ql rfl ?_ | refine qo rfl rfl ?_ | refine qs rfl rfl ?_ | refine qn rfl rfl ?_); conv => whnf))
      exact ⟨⟨(n, sq, w1), u1.le (by omega), by omega, u2, by show w1.seen + n ≤ 10; omega, g5⟩, by refine ⟨?_, ?_⟩ <;> (repeat (first | trivial | exact ⟨rfl, trivial⟩ | refine ⟨rfl, ?_⟩ | refine ⟨.inl ⟨rfl, rfl⟩, ?_⟩ | refine ⟨.inr ⟨_, _, rfl, rfl, rfl, rfl, rfl⟩, ?_⟩)), by simp⟩
noncomputable def watD (c : List UInt8) : Wat := (watS c (src0 c)).1
theorem watD_ok (c : List UInt8) : watB (watD c) = true ∧ (watD c).seen ≤ 10 ∧ (watD c).name.size ≤ 12 := (watS_ok (src0_ok c)).2
theorem ac_WatchDrawn {c : List UInt8} (hc : c.length ≤ maxLen) : AC Try.prog 15 [.lst 1 (c.map bytA)] ⟨watO (watD c) 0, [evtO (watD c).queue]⟩ := by
  have h1 := ac_source hc
  have h2 := ac_watch hc (src0_ok c) (by omega)
  unfold watD
  refine r_of Th_ok (by kernel_rfl) Try.func15 rfl Try.ntmps15 Try.results15 (by kernel_rfl) rfl ?_; conv => whnf
  repeat (first | ((first | refine qb rfl rfl ?_ | refine qi (by assumption) rfl rfl ?_ | refine ql rfl ?_ | refine qo rfl rfl ?_ | refine qs rfl rfl ?_ | refine qn rfl rfl ?_); conv => whnf) | (refine qf (h1) rfl ?_; conv => whnf))
  (refine r_step (p_callg [5] (h2) rfl rfl (by first | exact ⟨rfl, trivial⟩ | exact ⟨rfl, rfl, trivial⟩ | exact ⟨rfl, rfl, rfl, trivial⟩) rfl rfl (by first | exact trivial | exact ⟨⟨rfl, rfl, rfl⟩, trivial⟩ | exact ⟨⟨rfl, rfl, rfl⟩, ⟨rfl, rfl, rfl⟩, trivial⟩ | exact ⟨⟨rfl, rfl, rfl⟩, ⟨rfl, rfl, rfl⟩, ⟨rfl, rfl, rfl⟩, trivial⟩) rfl rfl rfl (.inl rfl) rfl) rfl rfl (fun e => by first | exact .inl rfl | contradiction | exact .inr (.inl (by kernel_rfl))) ?_; conv => whnf)
  refine r_step (p_ostoreo rfl rfl rfl rfl rfl rfl) rfl rfl (fun e => by first | exact .inl rfl | contradiction | exact .inr (.inl (by kernel_rfl))) ?_
  conv => whnf
  exact r_wat rfl rfl rfl rfl rfl rfl
end Go.Proofs.Ytmfmclnklpbiaaa.AM
namespace Go.Proofs.Ytmfmclnklpbiaaa.AM
open Go Go.RowKit
set_option linter.unusedVariables false
set_option linter.unusedSimpArgs false
set_option maxRecDepth 100000
/-- what NoteRef answers for a valid watch and ref -/
noncomputable def noteR (w : Wat) (r : Rf) : Wat × Int := if r.name = w.name then (if r.ver = w.seen + 1 then (noteW w r, 0) else (w, 16)) else (w, 10)
theorem addE_len {l : List Evt} {e : Evt} (h : l.length ≤ 4) : (addE l e).length ≤ 4 := by
  unfold addE
  split <;> simp <;> omega
theorem refsB_one {r : Rf} : refsB [r] = refB r := by
  cases h : refB r with
  | false => exact refsB_f fun ⟨_, h2⟩ => by obtain ⟨_, h3, _⟩ := h2 0 (by simp); simp [h] at h3
  | true => exact refsB_t ⟨by simp, fun i hi => by
      have : i = 0 := by simpa using hi
      subst this
      exact ⟨by simp, by simpa using h, by simp [rAt]⟩⟩
attribute [local irreducible] ACode AOps AOps2 RetG RetM Pre ACG
theorem ac_iNote {w : Wat} {r : Rf} (hw : w.ok maxLen) (hr : r.name.size ≤ maxLen) (hb : watB w = true) (hb2 : refB r = true) : AC Try.prog 20 [watA w, refA r] ⟨.tup [watO (noteR w r).1 0, .v (.int .i64 (noteR w r).2)], [evtO (noteR w r).1.queue]⟩ := by
  have h1 := ac_iWatchOK hw
  have h2 := ac_refOK hr
  rw [hb] at h1
  rw [hb2] at h2
  obtain ⟨hs, h4⟩ := watB_of hb
  have h3 := ac_newPending h4
  refine ac_watM2 ?_
  unfold noteR
  by_cases hn : r.name = w.name
  case neg =>
    rw [if_neg hn]
    have h5 := ac_takeAll h4
    refine r_of Th_ok (by kernel_rfl) Try.func20 rfl Try.ntmps20 Try.results20 (by kernel_rfl) rfl ?_; conv => whnf
    refine r_step (p_boxo rfl rfl rfl) rfl rfl (fun e => by first | exact .inl rfl | contradiction | exact .inr (.inl (by kernel_rfl))) ?_
    conv => whnf
    repeat (first | (refine r_put (p_bin (b_sne_t hn) rfl rfl rfl) rfl rfl ?_; conv => whnf) | ((first | refine qb rfl rfl ?_ | refine qi (by assumption) rfl rfl ?_ | refine ql rfl ?_ | refine qo rfl rfl ?_ | refine qs rfl rfl ?_ | refine qn rfl rfl ?_); conv => whnf) | (refine qc (h1) rfl ?_; conv => whnf) | (refine qc (h2) rfl ?_; conv => whnf) | (refine qc (h3) rfl ?_; conv => whnf))
    refine r_step (p_callg [20] h5 rfl rfl ⟨rfl, trivial⟩ rfl rfl ⟨⟨rfl, rfl, rfl⟩, trivial⟩ rfl rfl rfl (.inl rfl) rfl) rfl rfl (fun e => by first | exact .inl rfl | contradiction | exact .inr (.inl (by kernel_rfl))) ?_
    conv => whnf
    repeat (first | ((first | refine qb rfl rfl ?_ | refine qi (by assumption) rfl rfl ?_ | refine ql rfl ?_ | refine qo rfl rfl ?_ | refine qs rfl rfl ?_ | refine qn rfl rfl ?_); conv => whnf) | (refine r_step (p_ostoreo rfl rfl rfl rfl rfl rfl) rfl rfl (fun e => by first | exact .inl rfl | contradiction | exact .inr (.inl (by kernel_rfl))) ?_; conv => whnf))
    exact r_watV rfl rfl rfl rfl rfl rfl rfl
  rw [if_pos hn]
  by_cases hv : r.ver = w.seen + 1
  case neg =>
    rw [if_neg hv]
    have h5 := ac_takeAll h4
    refine r_of Th_ok (by kernel_rfl) Try.func20 rfl Try.ntmps20 Try.results20 (by kernel_rfl) rfl ?_; conv => whnf
    refine r_step (p_boxo rfl rfl rfl) rfl rfl (fun e => by first | exact .inl rfl | contradiction | exact .inr (.inl (by kernel_rfl))) ?_
    conv => whnf
    repeat (first | (refine r_put (p_bin (b_sne_f hn) rfl rfl rfl) rfl rfl ?_; conv => whnf) | ((first | refine qb rfl rfl ?_ | refine qi (by assumption) rfl rfl ?_ | refine ql rfl ?_ | refine qo rfl rfl ?_ | refine qs rfl rfl ?_ | refine qn rfl rfl ?_); conv => whnf) | (refine qc (h1) rfl ?_; conv => whnf) | (refine qc (h2) rfl ?_; conv => whnf) | (refine qc (h3) rfl ?_; conv => whnf) | (refine r_put (p_bin (b_add (c := w.seen + 1) (by omega) (by omega) (by omega)) rfl rfl rfl) rfl rfl ?_; conv => whnf))
    refine r_step (p_callg [20] h5 rfl rfl ⟨rfl, trivial⟩ rfl rfl ⟨⟨rfl, rfl, rfl⟩, trivial⟩ rfl rfl rfl (.inl rfl) rfl) rfl rfl (fun e => by first | exact .inl rfl | contradiction | exact .inr (.inl (by kernel_rfl))) ?_
    conv => whnf
    repeat (first | ((first | refine qb rfl rfl ?_ | refine qi (by assumption) rfl rfl ?_ | refine ql rfl ?_ | refine qo rfl rfl ?_ | refine qs rfl rfl ?_ | refine qn rfl rfl ?_); conv => whnf) | (refine r_step (p_ostoreo rfl rfl rfl rfl rfl rfl) rfl rfl (fun e => by first | exact .inl rfl | contradiction | exact .inr (.inl (by kernel_rfl))) ?_; conv => whnf))
    exact r_watV rfl rfl rfl rfl rfl rfl rfl
  rw [if_pos hv]
  have h6 := ac_add (e := ⟨r.ver, r.head, false⟩) h4
  have h5 := ac_takeAll (addE_len (e := ⟨r.ver, r.head, false⟩) h4)
  refine r_of Th_ok (by kernel_rfl) Try.func20 rfl Try.ntmps20 Try.results20 (by kernel_rfl) rfl ?_; conv => whnf
  refine r_step (p_boxo rfl rfl rfl) rfl rfl (fun e => by first | exact .inl rfl | contradiction | exact .inr (.inl (by kernel_rfl))) ?_
  conv => whnf
  repeat (first | (refine r_put (p_bin (b_sne_f hn) rfl rfl rfl) rfl rfl ?_; conv => whnf) | ((first | refine qb rfl rfl ?_ | refine qi (by assumption) rfl rfl ?_ | refine ql rfl ?_ | refine qo rfl rfl ?_ | refine qs rfl rfl ?_ | refine qn rfl rfl ?_); conv => whnf) | (refine qc (h1) rfl ?_; conv => whnf) | (refine qc (h2) rfl ?_; conv => whnf) | (refine qc (h3) rfl ?_; conv => whnf) | (refine r_put (p_bin (b_add (c := w.seen + 1) (by omega) (by omega) (by omega)) rfl rfl rfl) rfl rfl ?_; conv => whnf) | (refine r_step (p_ostore rfl rfl rfl rfl rfl (by conv => lhs; whnf) rfl) rfl rfl (fun e => by first | exact .inl rfl | contradiction | exact .inr (.inl (by kernel_rfl))) ?_; conv => whnf) | (refine r_step (p_ostoreo rfl rfl rfl rfl rfl rfl) rfl rfl (fun e => by first | exact .inl rfl | contradiction | exact .inr (.inl (by kernel_rfl))) ?_; conv => whnf))
  refine r_step (p_callg [20] h6 rfl rfl ⟨rfl, trivial⟩ rfl rfl trivial rfl rfl rfl (.inl rfl) rfl) rfl rfl (fun e => by first | exact .inl rfl | contradiction | exact .inr (.inl (by kernel_rfl))) ?_
  conv => whnf
  repeat (first | ((first | refine qb rfl rfl ?_ | refine qi (by assumption) rfl rfl ?_ | refine ql rfl ?_ | refine qo rfl rfl ?_ | refine qs rfl rfl ?_ | refine qn rfl rfl ?_); conv => whnf) | (refine r_step (p_ostore rfl rfl rfl rfl rfl (by conv => lhs; whnf) rfl) rfl rfl (fun e => by first | exact .inl rfl | contradiction | exact .inr (.inl (by kernel_rfl))) ?_; conv => whnf) | (refine r_step (p_ostoreo rfl rfl rfl rfl rfl rfl) rfl rfl (fun e => by first | exact .inl rfl | contradiction | exact .inr (.inl (by kernel_rfl))) ?_; conv => whnf))
  refine r_step (p_callg [20] h5 rfl rfl ⟨rfl, trivial⟩ rfl rfl ⟨⟨rfl, rfl, rfl⟩, trivial⟩ rfl rfl rfl (.inl rfl) rfl) rfl rfl (fun e => by first | exact .inl rfl | contradiction | exact .inr (.inl (by kernel_rfl))) ?_
  conv => whnf
  repeat (first | ((first | refine qb rfl rfl ?_ | refine qi (by assumption) rfl rfl ?_ | refine ql rfl ?_ | refine qo rfl rfl ?_ | refine qs rfl rfl ?_ | refine qn rfl rfl ?_); conv => whnf) | (refine r_step (p_ostoreo rfl rfl rfl rfl rfl rfl) rfl rfl (fun e => by first | exact .inl rfl | contradiction | exact .inr (.inl (by kernel_rfl))) ?_; conv => whnf))
  exact r_watV rfl rfl rfl rfl rfl rfl rfl
theorem ac_sNote {w : Wat} {r : Rf} (hw : w.ok maxLen) (hr : r.name.size ≤ maxLen) (hb : watB w = true) (hb2 : refB r = true) : AC Try.prog 21 [watA w, refA r] ⟨.tup [watO (noteR w r).1 0, .v (.int .i64 (noteR w r).2)], [evtO (noteR w r).1.queue]⟩ := by
  have h1 := ac_l06OK hw
  have h2 := ac_l04OK (l := [r]) (by simp [maxLen]) (by simpa using hr)
  rw [refsB_one] at h2
  rw [hb] at h1
  rw [hb2] at h2
  obtain ⟨hs, h4⟩ := watB_of hb
  have h3 := ac_l06Own (w := w) (by omega)
  unfold noteR
  by_cases hn : r.name = w.name
  case neg =>
    rw [if_neg hn]
    refine r_of Th_ok (by kernel_rfl) Try.func21 rfl Try.ntmps21 Try.results21 (by kernel_rfl) rfl ?_; conv => whnf
    repeat (first | (refine r_put (p_bin (b_sne_t hn) rfl rfl rfl) rfl rfl ?_; conv => whnf) | ((first | refine qb rfl rfl ?_ | refine qi (by assumption) rfl rfl ?_ | refine ql rfl ?_ | refine qo rfl rfl ?_ | refine qs rfl rfl ?_ | refine qn rfl rfl ?_); conv => whnf) | (refine qc (h1) rfl ?_; conv => whnf) | (refine qc (h2) rfl ?_; conv => whnf) | (refine qc (h3) rfl ?_; conv => whnf) | (refine r_step (p_ostoreo rfl rfl rfl rfl rfl rfl) rfl rfl (fun e => by first | exact .inl rfl | contradiction | exact .inr (.inl (by kernel_rfl))) ?_; conv => whnf))
    exact r_watV rfl rfl rfl rfl rfl rfl rfl
  rw [if_pos hn]
  by_cases hv : r.ver = w.seen + 1
  case neg =>
    rw [if_neg hv]
    refine r_of Th_ok (by kernel_rfl) Try.func21 rfl Try.ntmps21 Try.results21 (by kernel_rfl) rfl ?_; conv => whnf
    repeat (first | (refine r_put (p_bin (b_sne_f hn) rfl rfl rfl) rfl rfl ?_; conv => whnf) | (refine r_put (p_bin (b_add (c := w.seen + 1) (by omega) (by omega) (by omega)) rfl rfl rfl) rfl rfl ?_; conv => whnf) | ((first | refine qb rfl rfl ?_ | refine qi (by assumption) rfl rfl ?_ | refine ql rfl ?_ | refine qo rfl rfl ?_ | refine qs rfl rfl ?_ | refine qn rfl rfl ?_); conv => whnf) | (refine qc (h1) rfl ?_; conv => whnf) | (refine qc (h2) rfl ?_; conv => whnf) | (refine qc (h3) rfl ?_; conv => whnf) | (refine r_step (p_ostoreo rfl rfl rfl rfl rfl rfl) rfl rfl (fun e => by first | exact .inl rfl | contradiction | exact .inr (.inl (by kernel_rfl))) ?_; conv => whnf))
    exact r_watV rfl rfl rfl rfl rfl rfl rfl
  rw [if_pos hv]
  have h4' := ac_l06Note (r := r) h4
  have h5 := ac_l06Own (w := noteW w r) (by have := addE_len (e := ⟨r.ver, r.head, false⟩) h4; show (addE _ _).length ≤ _; omega)
  refine r_of Th_ok (by kernel_rfl) Try.func21 rfl Try.ntmps21 Try.results21 (by kernel_rfl) rfl ?_; conv => whnf
  repeat (first | (refine r_put (p_bin (b_sne_f hn) rfl rfl rfl) rfl rfl ?_; conv => whnf) | (refine r_put (p_bin (b_add (c := w.seen + 1) (by omega) (by omega) (by omega)) rfl rfl rfl) rfl rfl ?_; conv => whnf) | ((first | refine qb rfl rfl ?_ | refine qi (by assumption) rfl rfl ?_ | refine ql rfl ?_ | refine qo rfl rfl ?_ | refine qs rfl rfl ?_ | refine qn rfl rfl ?_); conv => whnf) | (refine qc (h1) rfl ?_; conv => whnf) | (refine qc (h2) rfl ?_; conv => whnf) | (refine qc (h4') rfl ?_; conv => whnf) | (refine qc (h5) rfl ?_; conv => whnf) | (refine r_step (p_ostoreo rfl rfl rfl rfl rfl rfl) rfl rfl (fun e => by first | exact .inl rfl | contradiction | exact .inr (.inl (by kernel_rfl))) ?_; conv => whnf))
  exact r_watV rfl rfl rfl rfl rfl rfl rfl
end Go.Proofs.Ytmfmclnklpbiaaa.AM
namespace Go.Proofs.Ytmfmclnklpbiaaa.AM
open Go Go.RowKit
set_option linter.unusedVariables false
set_option linter.unusedSimpArgs false
set_option maxRecDepth 100000
noncomputable def verAt (l : List Rf) (x : ByteArray) : Int := if 0 ≤ rAt l x 0 then (l.getD (rAt l x 0).toNat ⟨ByteArray.empty, 0, 0, false⟩).ver else 0
theorem verAt_no {l : List Rf} {x : ByteArray} (h : rAt l x 0 < 0) : verAt l x = 0 := by unfold verAt; rw [if_neg (by omega)]
theorem verAt_at {l : List Rf} {x : ByteArray} {j : Nat} (hj : j < l.length) (h : rAt l x 0 = (j : Int)) : verAt l x = l[j].ver := by
  unfold verAt
  rw [if_pos (by omega), h]
  simp [List.getD, hj]
attribute [local irreducible] ACode AOps AOps2 RetG RetM Pre ACG
theorem ac_versionOf {l : List Rf} {x : ByteArray} (hm : l.length ≤ maxLen) : AC Try.prog 44 [.lst 4 (l.map refA), .v (.string x)] ⟨.v (.int .i64 (verAt l x)), []⟩ := by
  have h2 := ac_placeOfRef (x := x) hm
  by_cases hp : rAt l x 0 < 0
  · rw [verAt_no hp]
    refine r_of Th_ok (by kernel_rfl) Try.func44 rfl Try.ntmps44 Try.results44 (by kernel_rfl) rfl ?_; conv => whnf
    repeat (first | ((first | refine qb rfl rfl ?_ | refine qi (by assumption) rfl rfl ?_ | refine ql rfl ?_ | refine qo rfl rfl ?_ | refine qs rfl rfl ?_ | refine qn rfl rfl ?_); conv => whnf) | (refine .inl (And.intro (by kernel_rfl) ?_); conv => whnf) | (refine qc (h2) rfl ?_; conv => whnf))
    exact r_ret1 rfl trivial
  · obtain ⟨j, hj, e, e2⟩ := rAt_lt (by omega : 0 ≤ rAt l x 0)
    rw [verAt_at hj e]
    rw [e] at h2
    refine r_of Th_ok (by kernel_rfl) Try.func44 rfl Try.ntmps44 Try.results44 (by kernel_rfl) rfl ?_; conv => whnf
    repeat (first | ((first | refine qb rfl rfl ?_ | refine qi (by assumption) rfl rfl ?_ | refine ql rfl ?_ | refine qo rfl rfl ?_ | refine qs rfl rfl ?_ | refine qn rfl rfl ?_); conv => whnf) | (refine .inl (And.intro (by kernel_rfl) ?_); conv => whnf) | (refine qc (h2) rfl ?_; conv => whnf))
    exact r_ret1 rfl trivial
theorem ac_iNew {l : List Rf} {x : ByteArray} (hm : l.length ≤ maxLen) (hk : nmOK maxLen l) (hx : x.size ≤ maxLen) (hc : askF l x = 0) (hn : okN x = true) : AC Try.prog 9 [.lst 4 (l.map refA), .v (.string x)] ⟨.tup [watA ⟨x, verAt l x, []⟩, .v (.int .i64 0)], []⟩ := by
  have h1 := ac_refsCode hm hk hx
  rw [hc] at h1
  have h2 := ac_versionOf (x := x) hm
  refine r_of Th_ok (by kernel_rfl) Try.func9 rfl Try.ntmps9 Try.results9 (by kernel_rfl) rfl ?_; conv => whnf
  repeat (first | ((first | refine qb rfl rfl ?_ | refine qi (by assumption) rfl rfl ?_ | refine ql rfl ?_ | refine qo rfl rfl ?_ | refine qs rfl rfl ?_ | refine qn rfl rfl ?_); conv => whnf) | (refine .inl (And.intro (by kernel_rfl) ?_); conv => whnf) | (refine qc (h1) rfl ?_; conv => whnf) | (refine qc (ac_nameOK hx hn) rfl ?_; conv => whnf) | (refine qc (h2) rfl ?_; conv => whnf) | (refine r_step (p_ostore rfl rfl rfl rfl rfl (by conv => lhs; whnf) rfl) rfl rfl (fun e => by first | exact .inl rfl | contradiction | exact .inr (.inl (by kernel_rfl))) ?_; conv => whnf))
  exact r_tupCV (x := watA ⟨x, verAt l x, []⟩) rfl rfl rfl rfl trivial rfl
theorem askF_0 {l : List Rf} {x : ByteArray} (h : askF l x = 0) : l.length ≤ 4096 ∧ x.size ≤ 65536 ∧ refsB l = true := by
  unfold askF at h
  split at h
  · omega
  · split at h
    · rename_i a b
      exact ⟨by omega, by omega, b⟩
    · omega
theorem ac_l06New {l : List Rf} {x : ByteArray} (hm : l.length ≤ maxLen) : AC Try.prog 40 [.lst 4 (l.map refA), .v (.string x)] ⟨watO ⟨x, verAt l x, []⟩ 0, [evtO []]⟩ := by
  have h2 := ac_l04At (x := x) hm
  by_cases hp : rAt l x 0 < 0
  · rw [verAt_no hp]
    refine r_of Th_ok (by kernel_rfl) Try.func40 rfl Try.ntmps40 Try.results40 (by kernel_rfl) rfl ?_; conv => whnf
    refine r_step (p_buildm rfl ⟨⟨_, _, rfl, rfl, rfl⟩, ⟨_, _, rfl, rfl, rfl⟩, trivial⟩ rfl) rfl rfl (fun e => by first | exact .inl rfl | contradiction | exact .inr (.inl (by kernel_rfl))) ?_
    conv => whnf
    repeat (first | ((first | refine qb rfl rfl ?_ | refine qi (by assumption) rfl rfl ?_ | refine ql rfl ?_ | refine qo rfl rfl ?_ | refine qs rfl rfl ?_ | refine qn rfl rfl ?_); conv => whnf) | (refine .inl (And.intro (by kernel_rfl) ?_); conv => whnf) | (refine qc (h2) rfl ?_; conv => whnf) | (refine r_step (p_ostore rfl rfl rfl rfl rfl (by conv => lhs; whnf) rfl) rfl rfl (fun e => by first | exact .inl rfl | contradiction | exact .inr (.inl (by kernel_rfl))) ?_; conv => whnf) | (refine r_step (p_ostoreo rfl rfl rfl rfl rfl rfl) rfl rfl (fun e => by first | exact .inl rfl | contradiction | exact .inr (.inl (by kernel_rfl))) ?_; conv => whnf))
    exact r_wat rfl rfl rfl rfl rfl rfl
  · obtain ⟨j, hj, e, e2⟩ := rAt_lt (by omega : 0 ≤ rAt l x 0)
    rw [verAt_at hj e]
    rw [e] at h2
    refine r_of Th_ok (by kernel_rfl) Try.func40 rfl Try.ntmps40 Try.results40 (by kernel_rfl) rfl ?_; conv => whnf
    refine r_step (p_buildm rfl ⟨⟨_, _, rfl, rfl, rfl⟩, ⟨_, _, rfl, rfl, rfl⟩, trivial⟩ rfl) rfl rfl (fun e => by first | exact .inl rfl | contradiction | exact .inr (.inl (by kernel_rfl))) ?_
    conv => whnf
    repeat (first | ((first | refine qb rfl rfl ?_ | refine qi (by assumption) rfl rfl ?_ | refine ql rfl ?_ | refine qo rfl rfl ?_ | refine qs rfl rfl ?_ | refine qn rfl rfl ?_); conv => whnf) | (refine .inl (And.intro (by kernel_rfl) ?_); conv => whnf) | (refine qc (h2) rfl ?_; conv => whnf) | (refine r_step (p_ostore rfl rfl rfl rfl rfl (by conv => lhs; whnf) rfl) rfl rfl (fun e => by first | exact .inl rfl | contradiction | exact .inr (.inl (by kernel_rfl))) ?_; conv => whnf) | (refine r_step (p_ostoreo rfl rfl rfl rfl rfl rfl) rfl rfl (fun e => by first | exact .inl rfl | contradiction | exact .inr (.inl (by kernel_rfl))) ?_; conv => whnf))
    exact r_wat rfl rfl rfl rfl rfl rfl
theorem ac_sNew {l : List Rf} {x : ByteArray} (hm : l.length ≤ maxLen) (hk : nmOK maxLen l) (hx : x.size ≤ maxLen) (hc : askF l x = 0) (hn : okN x = true) : AC Try.prog 7 [.lst 4 (l.map refA), .v (.string x)] ⟨.tup [watO ⟨x, verAt l x, []⟩ 0, .v (.int .i64 0)], [evtO []]⟩ := by
  have h1 := ac_l04OK hm hk
  have h2 := ac_l06New (x := x) hm
  obtain ⟨a1, a2, a3⟩ := askF_0 hc
  rw [a3] at h1
  refine r_of Th_ok (by kernel_rfl) Try.func7 rfl Try.ntmps7 Try.results7 (by kernel_rfl) rfl ?_; conv => whnf
  repeat (first | ((first | refine qb rfl rfl ?_ | refine qi (by assumption) rfl rfl ?_ | refine ql rfl ?_ | refine qo rfl rfl ?_ | refine qs rfl rfl ?_ | refine qn rfl rfl ?_); conv => whnf) | (refine .inl (And.intro (by kernel_rfl) ?_); conv => whnf) | (refine qc (h1) rfl ?_; conv => whnf) | (refine qc (ac_l00Word hx hn) rfl ?_; conv => whnf) | (refine qc (h2) rfl ?_; conv => whnf) | (refine r_step (p_ostore rfl rfl rfl rfl rfl (by conv => lhs; whnf) rfl) rfl rfl (fun e => by first | exact .inl rfl | contradiction | exact .inr (.inl (by kernel_rfl))) ?_; conv => whnf) | (refine r_step (p_ostoreo rfl rfl rfl rfl rfl rfl) rfl rfl (fun e => by first | exact .inl rfl | contradiction | exact .inr (.inl (by kernel_rfl))) ?_; conv => whnf))
  exact r_watV rfl rfl rfl rfl rfl rfl rfl
end Go.Proofs.Ytmfmclnklpbiaaa.AM
