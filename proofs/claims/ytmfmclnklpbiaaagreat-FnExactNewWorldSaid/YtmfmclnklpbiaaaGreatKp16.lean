/- Texts of the machine over data, folded. -/
import Derived.Test.YtmfmclnklpbiaaaGreatKp6
import Derived.Test.YtmfmclnklpbiaaaGreatKp15
import Derived.Test.YtmfmclnklpbiaaaGreatKp14
namespace Go.Proofs.YtmfmclnklpbiaaaGreat.AM
open Go Go.RowKit
set_option linter.unusedVariables false
set_option linter.unusedSimpArgs false
set_option maxRecDepth 100000
/-- a client with marks: its wishes, and the first of its numbers -/
def mcA (p : List Wsh × Int) : AV := .agg [.lst 5 (p.1.map wshA), .v (.int .i64 p.2), .v (.int .i64 (p.2 + 1)), .v (.int .i64 (p.2 + 1 + 1)), .v (.int .i64 (p.2 + 1 + 1 + 1)), .v (.int .i64 (p.2 + 1 + 1 + 1 + 1)), .v (.int .i64 (p.2 + 1 + 1 + 1 + 1 + 1)), .v (.int .i64 (p.2 + 1 + 1 + 1 + 1 + 1 + 1)), .lst 2 []]
def stC (ws : List Wsh) (k : Int) : Int := kW ws k + 7
def mkC (ws : List Wsh) (k : Int) : List Wsh × Int := (markedW ws k, kW ws k)
def nC (ws : List Wsh) : Nat := mkN ws + 7
theorem stC_st (ws : List Wsh) (k : Int) : stC ws k = k + nC ws := by
  unfold stC nC mkN
  rw [kW_st]; omega
def stT (w : Wat) (k : Int) : Int := k + 2
def mkT (w : Wat) (k : Int) : Wat := ⟨markB k, k + 1, []⟩
theorem stT_st (w : Wat) (k : Int) : stT w k = k + ((2 : Nat) : Int) := rfl
theorem sG_const {α : Type} {c : Nat} : ∀ (l : List α), sG (fun _ => c) l = c * l.length
  | [] => by simp [sG]
  | x :: l => by simp only [sG, sG_const l, List.length_cons, Nat.mul_add, Nat.mul_one]; omega
attribute [local irreducible] ACode AOps AOps2 RetG RetM Pre ACG
theorem ac_eqClientZ {ws : List Wsh} (hm : ws.length ≤ maxLen) (hc : ∀ c ∈ ws, c.edits.length ≤ maxLen) : AC Tryz.prog 79 [cA ws, cA ws] ⟨.v (.bool true), []⟩ := by
  have h1 := ac_eqWishS hm hc
  have h2 := ac_eqEntryS (es := []) (es' := []) (by simp) (by simp)
  rw [decide_eq_true rfl] at h2
  refine r_of Th_ok (by kernel_rfl) Tryz.func79 rfl Tryz.ntmps79 Tryz.results79 (by kernel_rfl) rfl ?_; conv => whnf
  repeat (first | (refine r_put (p_bin (b_ne_f rfl) rfl rfl rfl) rfl rfl ?_; conv => whnf) | ((first | refine qb rfl rfl ?_ | refine qi (by assumption) rfl rfl ?_ | refine ql rfl ?_ | refine qo rfl rfl ?_ | refine qs rfl rfl ?_ | refine qn rfl rfl ?_); conv => whnf) | (refine qc (h1) rfl ?_; conv => whnf) | (refine qc (h2) rfl ?_; conv => whnf))
  exact r_ret1 rfl trivial
theorem ac_eqClientS {l : List (List Wsh)} (hm : l.length ≤ maxLen) (hc : ∀ ws ∈ l, ws.length ≤ maxLen ∧ ∀ c ∈ ws, c.edits.length ≤ maxLen) : AC Tryz.prog 36 [.lst 9 (l.map cA), .lst 9 (l.map cA)] ⟨.v (.bool true), []⟩ := by
  unfold maxLen at hm
  refine r_of Th_ok (by kernel_rfl) Tryz.func36 rfl Tryz.ntmps36 Tryz.results36 (by kernel_rfl) rfl ?_; conv => whnf
  repeat (((first | refine qb rfl rfl ?_ | refine qi (by assumption) rfl rfl ?_ | refine ql rfl ?_ | refine qo rfl rfl ?_ | refine qs rfl rfl ?_ | refine qn rfl rfl ?_); conv => whnf))
  refine r_loop (ι := { k : Nat // k ≤ l.length }) (fun k => ⟨[(0, .lst 9 (l.map cA)), (1, .lst 9 (l.map cA)), (5, .v (.int .i64 (k.1 : Int)))], []⟩) (fun k => l.length - k.1) ⟨0, Nat.zero_le _⟩ (by refine ⟨?_, ?_⟩ <;> (repeat (first | trivial | exact ⟨rfl, trivial⟩ | refine ⟨rfl, ?_⟩ | refine ⟨.inl ⟨rfl, rfl⟩, ?_⟩ | refine ⟨.inr ⟨_, _, rfl, rfl, rfl, rfl, rfl⟩, ?_⟩))) ?_
  rintro ⟨k, hk⟩
  dsimp only
  conv => whnf
  by_cases hlt : k < l.length
  · obtain ⟨q1, q2⟩ := hc _ (List.getElem_mem hlt)
    repeat (((first | refine qb rfl rfl ?_ | refine qi (by assumption) rfl rfl ?_ | refine ql rfl ?_ | refine qo rfl rfl ?_ | refine qs rfl rfl ?_ | refine qn rfl rfl ?_); conv => whnf))
    refine .inl ⟨by kernel_rfl, ?_⟩
    conv => whnf
    repeat (first | ((first | refine qb rfl rfl ?_ | refine qi (by assumption) rfl rfl ?_ | refine ql rfl ?_ | refine qo rfl rfl ?_ | refine qs rfl rfl ?_ | refine qn rfl rfl ?_); conv => whnf) | (refine qc (ac_eqClientZ q1 q2) rfl ?_; conv => whnf))
    exact ⟨⟨k + 1, hlt⟩, by refine ⟨?_, ?_⟩ <;> (repeat (first | trivial | exact ⟨rfl, trivial⟩ | refine ⟨rfl, ?_⟩ | refine ⟨.inl ⟨rfl, rfl⟩, ?_⟩ | refine ⟨.inr ⟨_, _, rfl, rfl, rfl, rfl, rfl⟩, ?_⟩)), by simp; omega⟩
  · repeat (((first | refine qb rfl rfl ?_ | refine qi (by assumption) rfl rfl ?_ | refine ql rfl ?_ | refine qo rfl rfl ?_ | refine qs rfl rfl ?_ | refine qn rfl rfl ?_); conv => whnf))
    exact r_ret1 rfl trivial
theorem ac_eqWatchS {l : List Wat} (hm : l.length ≤ maxLen) (hc : ∀ w ∈ l, w.queue.length ≤ maxLen) : AC Tryz.prog 37 [.lst 3 (l.map watA), .lst 3 (l.map watA)] ⟨.v (.bool true), []⟩ := by
  unfold maxLen at hm
  refine r_of Th_ok (by kernel_rfl) Tryz.func37 rfl Tryz.ntmps37 Tryz.results37 (by kernel_rfl) rfl ?_; conv => whnf
  repeat (((first | refine qb rfl rfl ?_ | refine qi (by assumption) rfl rfl ?_ | refine ql rfl ?_ | refine qo rfl rfl ?_ | refine qs rfl rfl ?_ | refine qn rfl rfl ?_); conv => whnf))
  refine r_loop (ι := { k : Nat // k ≤ l.length }) (fun k => ⟨[(0, .lst 3 (l.map watA)), (1, .lst 3 (l.map watA)), (5, .v (.int .i64 (k.1 : Int)))], []⟩) (fun k => l.length - k.1) ⟨0, Nat.zero_le _⟩ (by refine ⟨?_, ?_⟩ <;> (repeat (first | trivial | exact ⟨rfl, trivial⟩ | refine ⟨rfl, ?_⟩ | refine ⟨.inl ⟨rfl, rfl⟩, ?_⟩ | refine ⟨.inr ⟨_, _, rfl, rfl, rfl, rfl, rfl⟩, ?_⟩))) ?_
  rintro ⟨k, hk⟩
  dsimp only
  conv => whnf
  by_cases hlt : k < l.length
  · have q1 := hc _ (List.getElem_mem hlt)
    repeat (((first | refine qb rfl rfl ?_ | refine qi (by assumption) rfl rfl ?_ | refine ql rfl ?_ | refine qo rfl rfl ?_ | refine qs rfl rfl ?_ | refine qn rfl rfl ?_); conv => whnf))
    refine .inl ⟨by kernel_rfl, ?_⟩
    conv => whnf
    repeat (first | ((first | refine qb rfl rfl ?_ | refine qi (by assumption) rfl rfl ?_ | refine ql rfl ?_ | refine qo rfl rfl ?_ | refine qs rfl rfl ?_ | refine qn rfl rfl ?_); conv => whnf) | (refine qc (ac_eqWatch q1) rfl ?_; conv => whnf))
    exact ⟨⟨k + 1, hlt⟩, by refine ⟨?_, ?_⟩ <;> (repeat (first | trivial | exact ⟨rfl, trivial⟩ | refine ⟨rfl, ?_⟩ | refine ⟨.inl ⟨rfl, rfl⟩, ?_⟩ | refine ⟨.inr ⟨_, _, rfl, rfl, rfl, rfl, rfl⟩, ?_⟩)), by simp; omega⟩
  · repeat (((first | refine qb rfl rfl ?_ | refine qi (by assumption) rfl rfl ?_ | refine ql rfl ?_ | refine qo rfl rfl ?_ | refine qs rfl rfl ?_ | refine qn rfl rfl ?_); conv => whnf))
    exact r_ret1 rfl trivial
theorem ac_eqMomN : AC Tryz.prog 38 [nilV, .lst 13 []] ⟨.v (.bool true), []⟩ := by
  refine r_of Th_ok (by kernel_rfl) Tryz.func38 rfl Tryz.ntmps38 Tryz.results38 (by kernel_rfl) rfl ?_; conv => whnf
  repeat (first | ((first | refine qb rfl rfl ?_ | refine qi (by assumption) rfl rfl ?_ | refine ql rfl ?_ | refine qo rfl rfl ?_ | refine qs rfl rfl ?_ | refine qn rfl rfl ?_); conv => whnf) | (refine .inl (And.intro (by kernel_rfl) ?_); conv => whnf) | (refine r_put (p_bin (b_ne_f (by simp)) rfl rfl rfl) rfl rfl ?_; conv => whnf))
  refine r_loop (ι := Unit) (fun _ => ⟨[(0, nilV), (1, .lst 13 []), (5, .v (.int .i64 0))], []⟩) (fun _ => 0) () (by refine ⟨?_, ?_⟩ <;> (repeat (first | trivial | exact ⟨rfl, trivial⟩ | refine ⟨rfl, ?_⟩ | refine ⟨.inl ⟨rfl, rfl⟩, ?_⟩ | refine ⟨.inr ⟨_, _, rfl, rfl, rfl, rfl, rfl⟩, ?_⟩))) ?_
  rintro ⟨⟩
  try dsimp only
  conv => whnf
  repeat (first | ((first | refine qb rfl rfl ?_ | refine qi (by assumption) rfl rfl ?_ | refine ql rfl ?_ | refine qo rfl rfl ?_ | refine qs rfl rfl ?_ | refine qn rfl rfl ?_); conv => whnf) | (refine .inl (And.intro (by kernel_rfl) ?_); conv => whnf) | (refine r_put (p_bin (b_lt_f (by simp)) rfl rfl rfl) rfl rfl ?_; conv => whnf))
  exact r_ret1 rfl trivial
theorem ac_eqMom0 : AC Tryz.prog 38 [.lst 13 [], .lst 13 []] ⟨.v (.bool true), []⟩ := by
  refine r_of Th_ok (by kernel_rfl) Tryz.func38 rfl Tryz.ntmps38 Tryz.results38 (by kernel_rfl) rfl ?_; conv => whnf
  repeat (first | ((first | refine qb rfl rfl ?_ | refine qi (by assumption) rfl rfl ?_ | refine ql rfl ?_ | refine qo rfl rfl ?_ | refine qs rfl rfl ?_ | refine qn rfl rfl ?_); conv => whnf) | (refine .inl (And.intro (by kernel_rfl) ?_); conv => whnf) | (refine r_put (p_bin (b_ne_f (by simp)) rfl rfl rfl) rfl rfl ?_; conv => whnf))
  refine r_loop (ι := Unit) (fun _ => ⟨[(0, .lst 13 []), (1, .lst 13 []), (5, .v (.int .i64 0))], []⟩) (fun _ => 0) () (by refine ⟨?_, ?_⟩ <;> (repeat (first | trivial | exact ⟨rfl, trivial⟩ | refine ⟨rfl, ?_⟩ | refine ⟨.inl ⟨rfl, rfl⟩, ?_⟩ | refine ⟨.inr ⟨_, _, rfl, rfl, rfl, rfl, rfl⟩, ?_⟩))) ?_
  rintro ⟨⟩
  try dsimp only
  conv => whnf
  repeat (first | ((first | refine qb rfl rfl ?_ | refine qi (by assumption) rfl rfl ?_ | refine ql rfl ?_ | refine qo rfl rfl ?_ | refine qs rfl rfl ?_ | refine qn rfl rfl ?_); conv => whnf) | (refine .inl (And.intro (by kernel_rfl) ?_); conv => whnf) | (refine r_put (p_bin (b_lt_f (by simp)) rfl rfl rfl) rfl rfl ?_; conv => whnf))
  exact r_ret1 rfl trivial
theorem ac_eqWorldN {B : Bas} {css : List (List Wsh)} {wts : List Wat} (hB : B.ok maxLen) (hm : css.length ≤ maxLen) (hc : ∀ ws ∈ css, ws.length ≤ maxLen ∧ ∀ c ∈ ws, c.edits.length ≤ maxLen) (hw : wts.length ≤ maxLen) (hq : ∀ w ∈ wts, w.queue.length ≤ maxLen) : AC Tryz.prog 12 [wldZ B css wts nilV, wldZ B css wts (.lst 13 [])] ⟨.v (.bool true), []⟩ := by
  have h1 := ac_eqBase hB
  have h2 := ac_eqClientS hm hc
  have h3 := ac_eqWatchS hw hq
  have h4 := ac_eqMomN
  refine r_of Th_ok (by kernel_rfl) Tryz.func12 rfl Tryz.ntmps12 Tryz.results12 (by kernel_rfl) rfl ?_; conv => whnf
  repeat (first | (refine r_put (p_bin (b_ne_f rfl) rfl rfl rfl) rfl rfl ?_; conv => whnf) | ((first | refine qb rfl rfl ?_ | refine qi (by assumption) rfl rfl ?_ | refine ql rfl ?_ | refine qo rfl rfl ?_ | refine qs rfl rfl ?_ | refine qn rfl rfl ?_); conv => whnf) | (refine qc (h1) rfl ?_; conv => whnf) | (refine qc (h2) rfl ?_; conv => whnf) | (refine qc (h3) rfl ?_; conv => whnf) | (refine qc (h4) rfl ?_; conv => whnf))
  exact r_ret1 rfl trivial
theorem ac_eqWorld0 : AC Tryz.prog 12 [wld0, wld0] ⟨.v (.bool true), []⟩ := by
  have h1 := ac_eqBase (b := ⟨[], []⟩) ⟨by simp, (fun c hc => by cases hc), by simp, (fun r hr => by cases hr)⟩
  have h2 := ac_eqClientS (l := []) (by simp) (fun c h => by cases h)
  have h3 := ac_eqWatchS (l := []) (by simp) (fun c h => by cases h)
  have h4 := ac_eqMom0
  refine r_of Th_ok (by kernel_rfl) Tryz.func12 rfl Tryz.ntmps12 Tryz.results12 (by kernel_rfl) rfl ?_; conv => whnf
  repeat (first | (refine r_put (p_bin (b_ne_f rfl) rfl rfl rfl) rfl rfl ?_; conv => whnf) | ((first | refine qb rfl rfl ?_ | refine qi (by assumption) rfl rfl ?_ | refine ql rfl ?_ | refine qo rfl rfl ?_ | refine qs rfl rfl ?_ | refine qn rfl rfl ?_); conv => whnf) | (refine qc (h1) rfl ?_; conv => whnf) | (refine qc (h2) rfl ?_; conv => whnf) | (refine qc (h3) rfl ?_; conv => whnf) | (refine qc (h4) rfl ?_; conv => whnf))
  exact r_ret1 rfl trivial
theorem ac_markMomN {k0 : Int} : AC Tryz.prog 48 [nilV, .v (.int .i64 k0)] ⟨.v (.int .i64 k0), []⟩ := by
  refine r_of Th_ok (by kernel_rfl) Tryz.func48 rfl Tryz.ntmps48 Tryz.results48 (by kernel_rfl) rfl ?_; conv => whnf
  refine r_loop (ι := Unit) (fun _ => ⟨[(0, nilV), (1, .v (.int .i64 k0)), (5, .v (.int .i64 0))], []⟩) (fun _ => 0) () (by refine ⟨?_, ?_⟩ <;> (repeat (first | trivial | exact ⟨rfl, trivial⟩ | refine ⟨rfl, ?_⟩ | refine ⟨.inl ⟨rfl, rfl⟩, ?_⟩ | refine ⟨.inr ⟨_, _, rfl, rfl, rfl, rfl, rfl⟩, ?_⟩))) ?_
  rintro ⟨⟩
  try dsimp only
  conv => whnf
  repeat (first | (refine r_put (p_bin (b_lt_f (by simp)) rfl rfl rfl) rfl rfl ?_; conv => whnf) | ((first | refine qb rfl rfl ?_ | refine qi (by assumption) rfl rfl ?_ | refine ql rfl ?_ | refine qo rfl rfl ?_ | refine qs rfl rfl ?_ | refine qn rfl rfl ?_); conv => whnf))
  exact r_ret1 rfl trivial
theorem ac_markMom0 {k0 : Int} : AC Tryz.prog 48 [.lst 13 [], .v (.int .i64 k0)] ⟨.v (.int .i64 k0), []⟩ := by
  refine r_of Th_ok (by kernel_rfl) Tryz.func48 rfl Tryz.ntmps48 Tryz.results48 (by kernel_rfl) rfl ?_; conv => whnf
  refine r_loop (ι := Unit) (fun _ => ⟨[(0, .lst 13 []), (1, .v (.int .i64 k0)), (5, .v (.int .i64 0))], []⟩) (fun _ => 0) () (by refine ⟨?_, ?_⟩ <;> (repeat (first | trivial | exact ⟨rfl, trivial⟩ | refine ⟨rfl, ?_⟩ | refine ⟨.inl ⟨rfl, rfl⟩, ?_⟩ | refine ⟨.inr ⟨_, _, rfl, rfl, rfl, rfl, rfl⟩, ?_⟩))) ?_
  rintro ⟨⟩
  try dsimp only
  conv => whnf
  repeat (first | (refine r_put (p_bin (b_lt_f (by simp)) rfl rfl rfl) rfl rfl ?_; conv => whnf) | ((first | refine qb rfl rfl ?_ | refine qi (by assumption) rfl rfl ?_ | refine ql rfl ?_ | refine qo rfl rfl ?_ | refine qs rfl rfl ?_ | refine qn rfl rfl ?_); conv => whnf))
  exact r_ret1 rfl trivial
theorem ac_markCli0 {k0 : Int} : AC Tryz.prog 46 [.lst 9 [], .v (.int .i64 k0)] ⟨.v (.int .i64 k0), []⟩ := by
  refine r_of Th_ok (by kernel_rfl) Tryz.func46 rfl Tryz.ntmps46 Tryz.results46 (by kernel_rfl) rfl ?_; conv => whnf
  refine r_loop (ι := Unit) (fun _ => ⟨[(0, .lst 9 []), (1, .v (.int .i64 k0)), (5, .v (.int .i64 0))], []⟩) (fun _ => 0) () (by refine ⟨?_, ?_⟩ <;> (repeat (first | trivial | exact ⟨rfl, trivial⟩ | refine ⟨rfl, ?_⟩ | refine ⟨.inl ⟨rfl, rfl⟩, ?_⟩ | refine ⟨.inr ⟨_, _, rfl, rfl, rfl, rfl, rfl⟩, ?_⟩))) ?_
  rintro ⟨⟩
  try dsimp only
  conv => whnf
  repeat (first | (refine r_put (p_bin (b_lt_f (by simp)) rfl rfl rfl) rfl rfl ?_; conv => whnf) | ((first | refine qb rfl rfl ?_ | refine qi (by assumption) rfl rfl ?_ | refine ql rfl ?_ | refine qo rfl rfl ?_ | refine qs rfl rfl ?_ | refine qn rfl rfl ?_); conv => whnf))
  exact r_ret1 rfl trivial
theorem ac_markWat0 {k0 : Int} : AC Tryz.prog 47 [.lst 3 [], .v (.int .i64 k0)] ⟨.v (.int .i64 k0), []⟩ := by
  refine r_of Th_ok (by kernel_rfl) Tryz.func47 rfl Tryz.ntmps47 Tryz.results47 (by kernel_rfl) rfl ?_; conv => whnf
  refine r_loop (ι := Unit) (fun _ => ⟨[(0, .lst 3 []), (1, .v (.int .i64 k0)), (5, .v (.int .i64 0))], []⟩) (fun _ => 0) () (by refine ⟨?_, ?_⟩ <;> (repeat (first | trivial | exact ⟨rfl, trivial⟩ | refine ⟨rfl, ?_⟩ | refine ⟨.inl ⟨rfl, rfl⟩, ?_⟩ | refine ⟨.inr ⟨_, _, rfl, rfl, rfl, rfl, rfl⟩, ?_⟩))) ?_
  rintro ⟨⟩
  try dsimp only
  conv => whnf
  repeat (first | (refine r_put (p_bin (b_lt_f (by simp)) rfl rfl rfl) rfl rfl ?_; conv => whnf) | ((first | refine qb rfl rfl ?_ | refine qi (by assumption) rfl rfl ?_ | refine ql rfl ?_ | refine qo rfl rfl ?_ | refine qs rfl rfl ?_ | refine qn rfl rfl ?_); conv => whnf))
  exact r_ret1 rfl trivial
theorem ac_markWorld0 {k0 : Int} : AC Tryz.prog 19 [wld0, .v (.int .i64 k0)] ⟨.v (.int .i64 k0), []⟩ := by
  have h1 := ac_markBase0 (k0 := k0)
  have h2 := ac_markCli0 (k0 := k0)
  have h3 := ac_markWat0 (k0 := k0)
  have h4 := ac_markMom0 (k0 := k0)
  refine r_of Th_ok (by kernel_rfl) Tryz.func19 rfl Tryz.ntmps19 Tryz.results19 (by kernel_rfl) rfl ?_; conv => whnf
  repeat (first | ((first | refine qb rfl rfl ?_ | refine qi (by assumption) rfl rfl ?_ | refine ql rfl ?_ | refine qo rfl rfl ?_ | refine qs rfl rfl ?_ | refine qn rfl rfl ?_); conv => whnf) | (refine qc (h1) rfl ?_; conv => whnf) | (refine qc (h2) rfl ?_; conv => whnf) | (refine qc (h3) rfl ?_; conv => whnf) | (refine qc (h4) rfl ?_; conv => whnf))
  exact r_ret1 rfl trivial
theorem ac_heldMomN {k0 : Int} : AC Tryz.prog 52 [nilV, .v (.int .i64 k0)] ⟨.v (.int .i64 k0), []⟩ := by
  refine r_of Th_ok (by kernel_rfl) Tryz.func52 rfl Tryz.ntmps52 Tryz.results52 (by kernel_rfl) rfl ?_; conv => whnf
  refine r_loop (ι := Unit) (fun _ => ⟨[(0, nilV), (1, .v (.int .i64 k0)), (5, .v (.int .i64 0))], []⟩) (fun _ => 0) () (by refine ⟨?_, ?_⟩ <;> (repeat (first | trivial | exact ⟨rfl, trivial⟩ | refine ⟨rfl, ?_⟩ | refine ⟨.inl ⟨rfl, rfl⟩, ?_⟩ | refine ⟨.inr ⟨_, _, rfl, rfl, rfl, rfl, rfl⟩, ?_⟩))) ?_
  rintro ⟨⟩
  try dsimp only
  conv => whnf
  repeat (first | (refine r_put (p_bin (b_lt_f (by simp)) rfl rfl rfl) rfl rfl ?_; conv => whnf) | ((first | refine qb rfl rfl ?_ | refine qi (by assumption) rfl rfl ?_ | refine ql rfl ?_ | refine qo rfl rfl ?_ | refine qs rfl rfl ?_ | refine qn rfl rfl ?_); conv => whnf))
  exact r_ret1 rfl trivial
theorem ac_heldMom0 {k0 : Int} : AC Tryz.prog 52 [.lst 13 [], .v (.int .i64 k0)] ⟨.v (.int .i64 k0), []⟩ := by
  refine r_of Th_ok (by kernel_rfl) Tryz.func52 rfl Tryz.ntmps52 Tryz.results52 (by kernel_rfl) rfl ?_; conv => whnf
  refine r_loop (ι := Unit) (fun _ => ⟨[(0, .lst 13 []), (1, .v (.int .i64 k0)), (5, .v (.int .i64 0))], []⟩) (fun _ => 0) () (by refine ⟨?_, ?_⟩ <;> (repeat (first | trivial | exact ⟨rfl, trivial⟩ | refine ⟨rfl, ?_⟩ | refine ⟨.inl ⟨rfl, rfl⟩, ?_⟩ | refine ⟨.inr ⟨_, _, rfl, rfl, rfl, rfl, rfl⟩, ?_⟩))) ?_
  rintro ⟨⟩
  try dsimp only
  conv => whnf
  repeat (first | (refine r_put (p_bin (b_lt_f (by simp)) rfl rfl rfl) rfl rfl ?_; conv => whnf) | ((first | refine qb rfl rfl ?_ | refine qi (by assumption) rfl rfl ?_ | refine ql rfl ?_ | refine qo rfl rfl ?_ | refine qs rfl rfl ?_ | refine qn rfl rfl ?_); conv => whnf))
  exact r_ret1 rfl trivial
set_option maxHeartbeats 4000000 in
theorem ac_heldClientS {l : List (List Wsh)} {k0 : Int} (hm : l.length ≤ 1048600) (hc : ∀ ws ∈ l, wsN ws ≤ 1048576) (h0 : 0 ≤ k0) (h1 : k0 + sG nC l ≤ 8388608) : AC Tryz.prog 50 [.lst 9 ((mG stC mkC l k0).map mcA), .v (.int .i64 k0)] ⟨.v (.int .i64 (kG stC l k0)), []⟩ := by
  have hml := mG_length (st := stC) (mk := mkC) l k0
  refine r_of Th_ok (by kernel_rfl) Tryz.func50 rfl Tryz.ntmps50 Tryz.results50 (by kernel_rfl) rfl ?_; conv => whnf
  refine r_loop (ι := { k : Nat // k ≤ l.length }) (fun k => ⟨[(0, .lst 9 ((mG stC mkC l k0).map mcA)), (1, .v (.int .i64 (kG stC (l.take k.1) k0))), (5, .v (.int .i64 (k.1 : Int)))], []⟩) (fun k => l.length - k.1) ⟨0, Nat.zero_le _⟩ (by refine ⟨?_, ?_⟩ <;> (repeat (first | trivial | exact ⟨rfl, trivial⟩ | refine ⟨rfl, ?_⟩ | refine ⟨.inl ⟨rfl, rfl⟩, ?_⟩ | refine ⟨.inr ⟨_, _, rfl, rfl, rfl, rfl, rfl⟩, ?_⟩))) ?_
  rintro ⟨i, hi⟩
  dsimp only
  conv => whnf
  by_cases hlt : i < l.length
  case neg =>
    have hkk : i = l.length := by omega
    subst hkk
    rw [List.take_length]
    repeat (first | ((first | refine qb rfl rfl ?_ | refine qi (by assumption) rfl rfl ?_ | refine ql rfl ?_ | refine qo rfl rfl ?_ | refine qs rfl rfl ?_ | refine qn rfl rfl ?_); conv => whnf) | (refine .inl (And.intro (by kernel_rfl) ?_); conv => whnf) | (rw [hml]))
    exact r_ret1 rfl trivial
  have hb := kG_sum (n := nC) stC_st (l.take i) k0
  have hb3 := sG_at (n := nC) l i hlt
  have hc1 := hc _ (List.getElem_mem hlt)
  have hstep := kG_snoc (st := stC) (k := k0) hlt
  have hgi : ((mG stC mkC l k0).map mcA)[i]? = some (mcA (mkC l[i] (kG stC (l.take i) k0))) := by
    rw [List.getElem?_map, List.getElem?_eq_getElem (by omega), mG_get hlt]; rfl
  generalize hK : kG stC (l.take i) k0 = K at *
  have hK0 : 0 ≤ K := by omega
  have hkw := kW_st l[i] K
  have hnC : nC l[i] = 4 * l[i].length + 3 * totH l[i] + 7 := rfl
  have hK1 : kW l[i] K + 7 ≤ 8388608 := by omega
  have hK2 : 0 ≤ kW l[i] K := by omega
  have d1 := ac_heldWishS (l := l[i]) (k0 := K) (by unfold wsN at hc1; omega) (by unfold wsN at hc1; omega) hK0 (by omega)
  have hmk : mcA (mkC l[i] K) = mcA (markedW l[i] K, kW l[i] K) := rfl
  rw [hmk] at hgi
  have hst : stC l[i] K = kW l[i] K + 1 + 1 + 1 + 1 + 1 + 1 + 1 := by unfold stC; omega
  generalize hW : kW l[i] K = W at *
  have d2 := ac_heldEntryS (n := 0) (k := W + 1 + 1 + 1 + 1 + 1 + 1 + 1) (by simp) (by omega) (by omega)
  have e0 : W + 1 + 1 + 1 + 1 + 1 + 1 + 1 + 2 * ((0 : Nat) : Int) = W + 1 + 1 + 1 + 1 + 1 + 1 + 1 := by simp
  rw [e0] at d2
  clear hb hb3 hkw
  repeat (first | (refine r_put (p_idx hgi rfl rfl rfl) rfl rfl ?_; conv => whnf) | (refine r_put (p_bin (b_ne_f rfl) rfl rfl rfl) rfl rfl ?_; conv => whnf) | ((first | refine qb rfl rfl ?_ | refine qi (by assumption) rfl rfl ?_ | refine ql rfl ?_ | refine qo rfl rfl ?_ | refine qs rfl rfl ?_ | refine qn rfl rfl ?_); conv => whnf) | (refine .inl (And.intro (by kernel_rfl) ?_); conv => whnf) | (refine qc (d1) rfl ?_; conv => whnf) | (refine qc (d2) rfl ?_; conv => whnf))
  refine ⟨⟨i + 1, hlt⟩, ⟨trivial, .inl ⟨rfl, rfl⟩, .inl ⟨?_, rfl⟩, .inl ⟨rfl, rfl⟩, trivial⟩, by simp; omega⟩
  show AV.v (.int .i64 (W + 1 + 1 + 1 + 1 + 1 + 1 + 1)) = _
  rw [hstep, hst]
theorem ac_heldWatchS {l : List Wat} {k0 : Int} (hm : l.length ≤ 1048600) (h0 : 0 ≤ k0) (h1 : k0 + 2 * l.length ≤ 8388608) : AC Tryz.prog 51 [.lst 3 ((mG stT mkT l k0).map watA), .v (.int .i64 k0)] ⟨.v (.int .i64 (kG stT l k0)), []⟩ := by
  have hml := mG_length (st := stT) (mk := mkT) l k0
  refine r_of Th_ok (by kernel_rfl) Tryz.func51 rfl Tryz.ntmps51 Tryz.results51 (by kernel_rfl) rfl ?_; conv => whnf
  refine r_loop (ι := { k : Nat // k ≤ l.length }) (fun k => ⟨[(0, .lst 3 ((mG stT mkT l k0).map watA)), (1, .v (.int .i64 (kG stT (l.take k.1) k0))), (5, .v (.int .i64 (k.1 : Int)))], []⟩) (fun k => l.length - k.1) ⟨0, Nat.zero_le _⟩ (by refine ⟨?_, ?_⟩ <;> (repeat (first | trivial | exact ⟨rfl, trivial⟩ | refine ⟨rfl, ?_⟩ | refine ⟨.inl ⟨rfl, rfl⟩, ?_⟩ | refine ⟨.inr ⟨_, _, rfl, rfl, rfl, rfl, rfl⟩, ?_⟩))) ?_
  rintro ⟨i, hi⟩
  dsimp only
  conv => whnf
  by_cases hlt : i < l.length
  case neg =>
    have hkk : i = l.length := by omega
    subst hkk
    rw [List.take_length]
    repeat (first | ((first | refine qb rfl rfl ?_ | refine qi (by assumption) rfl rfl ?_ | refine ql rfl ?_ | refine qo rfl rfl ?_ | refine qs rfl rfl ?_ | refine qn rfl rfl ?_); conv => whnf) | (refine .inl (And.intro (by kernel_rfl) ?_); conv => whnf) | (rw [hml]))
    exact r_ret1 rfl trivial
  have hb := kG_sum (n := fun _ => 2) stT_st (l.take i) k0
  rw [sG_const, List.length_take, Nat.min_eq_left (by omega)] at hb
  have hstep := kG_snoc (st := stT) (k := k0) hlt
  have hgi : ((mG stT mkT l k0).map watA)[i]? = some (watA (mkT l[i] (kG stT (l.take i) k0))) := by
    rw [List.getElem?_map, List.getElem?_eq_getElem (by omega), mG_get hlt]; rfl
  generalize hK : kG stT (l.take i) k0 = K at *
  have hK0 : 0 ≤ K := by omega
  have hK1 : K + 2 ≤ 8388608 := by omega
  have d2 : AC Tryz.prog 93 [.lst 3 [], .v (.int .i64 (K + 1 + 1))] ⟨.v (.int .i64 (K + 1 + 1)), []⟩ := by
    have := ac_heldEventS (n := 0) (k0 := K + 1 + 1) (by simp) (by omega) (by omega)
    have e0 : K + 1 + 1 + 3 * ((0 : Nat) : Int) = K + 1 + 1 := by simp
    rw [e0] at this; exact this
  clear hb
  repeat (first | (refine r_put (p_idx hgi rfl rfl rfl) rfl rfl ?_; conv => whnf) | (refine r_put (p_bin (b_sne_f rfl) rfl rfl rfl) rfl rfl ?_; conv => whnf) | (refine r_put (p_bin (b_ne_f rfl) rfl rfl rfl) rfl rfl ?_; conv => whnf) | ((first | refine qb rfl rfl ?_ | refine qi (by assumption) rfl rfl ?_ | refine ql rfl ?_ | refine qo rfl rfl ?_ | refine qs rfl rfl ?_ | refine qn rfl rfl ?_); conv => whnf) | (refine .inl (And.intro (by kernel_rfl) ?_); conv => whnf) | (refine qc (ac_markText (k := K) (by omega) (by omega)) rfl ?_; conv => whnf) | (refine qc (d2) rfl ?_; conv => whnf))
  refine ⟨⟨i + 1, hlt⟩, ⟨trivial, .inl ⟨rfl, rfl⟩, .inl ⟨?_, rfl⟩, .inl ⟨rfl, rfl⟩, trivial⟩, by simp; omega⟩
  show AV.v (.int .i64 (K + 1 + 1)) = _
  rw [hstep]; unfold stT; congr 2; omega
set_option maxHeartbeats 2000000 in
theorem ac_markWatchS {l : List Wat} {k0 : Int} (hm : l.length ≤ 1048600) (hq : ∀ w ∈ l, w.queue = []) (h0 : 0 ≤ k0) (h1 : k0 + 2 * l.length ≤ 8388608) : ACM Tryz.prog 47 ⟨75, 3, l.map watA⟩ ((mG stT mkT l k0).map watA) [.v (.int .i64 k0)] (.int .i64 (kG stT l k0)) := by
  refine r_ofN Th_ok (by kernel_rfl) Tryz.func47 rfl Tryz.ntmps47 Tryz.results47 (by kernel_rfl) rfl ?_
  conv => whnf
  refine r_loop (ι := { k : Nat // k ≤ l.length }) (fun k => ⟨[(0, .own 0), (1, .v (.int .i64 (kG stT (l.take k.1) k0))), (5, .v (.int .i64 (k.1 : Int)))], [(0, ⟨.s 75, 3, (mG stT mkT (l.take k.1) k0).map watA ++ (l.drop k.1).map watA⟩)]⟩) (fun k => l.length - k.1) ⟨0, Nat.zero_le _⟩ ⟨⟨rfl, trivial⟩, .inl ⟨rfl, rfl⟩, .inl ⟨rfl, rfl⟩, .inl ⟨rfl, rfl⟩, trivial⟩ ?_
  rintro ⟨i, hi⟩
  dsimp only
  have hml2 := mG_len (st := stT) (mk := mkT) (A := watA) (B := watA) (k0 := k0) hi
  conv => whnf
  by_cases hlt : i < l.length
  case neg =>
    have hkk : i = l.length := by omega
    subst hkk
    repeat (first | (refine r_put (p_leno (m := l.length) rfl rfl hml2 ⟨_, _, _, _, rfl⟩) rfl rfl ?_; conv => whnf) | ((first | refine qb rfl rfl ?_ | refine qi (by assumption) rfl rfl ?_ | refine ql rfl ?_ | refine qo rfl rfl ?_ | refine qs rfl rfl ?_ | refine qn rfl rfl ?_); conv => whnf))
    exact r_retM (by show AV.v (.int .i64 (kG stT (l.take l.length) k0)) = _; rw [List.take_length]) (by show some (OB.mk _ _ _) = _; rw [List.take_length, List.drop_length, List.map_nil, List.append_nil]; rfl)
  have hb := kG_sum (n := fun _ => 2) stT_st (l.take i) k0
  rw [sG_const, List.length_take, Nat.min_eq_left (by omega)] at hb
  have hc1 := hq _ (List.getElem_mem hlt)
  have hset := mG_set (st := stT) (mk := mkT) (A := watA) (B := watA) (k0 := k0) hlt
  have hXi := mG_row (st := stT) (mk := mkT) (A := watA) (B := watA) (k0 := k0) hlt
  have hstep := kG_snoc (st := stT) (k := k0) hlt
  generalize (mG stT mkT (l.take i) k0).map watA ++ (l.drop i).map watA = X at *
  generalize hK : kG stT (l.take i) k0 = K at *
  have hK0 : 0 ≤ K := by omega
  have hK1 : K + 2 ≤ 8388608 := by omega
  have hXl : i < X.length := by omega
  have hwi : watA l[i] = .agg [.v (.string l[i].name), .v (.int .i64 l[i].seen), .lst 3 []] := by
    unfold watA; rw [hc1]; rfl
  rw [hwi] at hXi
  have hX2 : ∀ y : AV, (X.set i y)[i]? = some y := fun y => set_at hXl
  have hml3 : ∀ y : AV, i < (X.set i y).length := fun y => by rw [List.length_set]; exact hXl
  have hs2 : ∀ a b : AV, (X.set i a).set i b = X.set i b := fun a b => by rw [List.set_set]
  clear hb
  repeat (first | (refine r_put (p_leno (m := l.length) rfl rfl hml2 ⟨_, _, _, _, rfl⟩) rfl rfl ?_; conv => whnf) | ((first | refine qb rfl rfl ?_ | refine qi (by assumption) rfl rfl ?_ | refine ql rfl ?_ | refine qo rfl rfl ?_ | refine qs rfl rfl ?_ | refine qn rfl rfl ?_); conv => whnf) | (refine qc (ac_markText (k := K) (by omega) (by omega)) rfl ?_; conv => whnf) | (refine qc (ac_markEventS0) rfl ?_; conv => whnf) | (refine o_put (p_oidx (hml3 _) rfl rfl rfl rfl rfl) rfl rfl (o_put (p_ofld rfl rfl rfl) rfl rfl ?_); refine r_put (p_old rfl rfl (hX2 _) rfl rfl rfl rfl) rfl rfl ?_; conv => whnf) | (refine r_put (p_oidx hXl rfl rfl rfl rfl rfl) rfl rfl ?_; conv => whnf) | (refine r_put (p_oidx (hml3 _) rfl rfl rfl rfl rfl) rfl rfl ?_; conv => whnf) | (refine r_step (p_ostore hXi rfl rfl rfl rfl rfl rfl) rfl rfl (fun e => by first | exact .inl rfl | contradiction | exact .inr (.inl (by kernel_rfl))) ?_; conv => whnf) | (refine r_step (p_ostore (hX2 _) rfl rfl rfl rfl rfl rfl) rfl rfl (fun e => by first | exact .inl rfl | contradiction | exact .inr (.inl (by kernel_rfl))) ?_; simp only [hs2]; conv => whnf))
  refine ⟨⟨i + 1, hlt⟩, ⟨⟨?_, trivial⟩, .inl ⟨rfl, rfl⟩, .inl ⟨?_, rfl⟩, .inl ⟨rfl, rfl⟩, trivial⟩, by simp; omega⟩
  · exact congrArg (fun x => some (OB.mk _ _ x)) (Eq.trans (by first | rfl | (simp only [hs2]; rfl)) hset)
  · show AV.v (.int .i64 (K + 1 + 1)) = _
    rw [hstep]; unfold stT; congr 2; omega
end Go.Proofs.YtmfmclnklpbiaaaGreat.AM
namespace Go.Proofs.YtmfmclnklpbiaaaGreat.AM
open Go Go.RowKit
set_option linter.unusedVariables false
set_option linter.unusedSimpArgs false
set_option maxRecDepth 100000
theorem r_ret4 {s : St} {Θ : Tab} {r : Nat} {v : Value} {o1 o2 o3 o4 : OB} (h1 : s.sl r = .v v) (h2 : s.hp 0 = some o1) (h3 : s.hp 1000000 = some o2) (h4 : s.hp 2000000 = some o3) (h5 : s.hp 3000000 = some o4) : RetG Θ [.tmp r] [o1, o2, o3, o4] ⟨.v v, []⟩ .ret s := ⟨⟨h2, h3, h4, h5, trivial⟩, [], by simp, trivial, ⟨trivial, trivial⟩, trivial, ⟨.inl ⟨h1, rfl⟩, trivial⟩⟩
attribute [local irreducible] ACode AOps AOps2 RetG RetM Pre ACG
set_option maxHeartbeats 4000000 in
theorem ac_markClientS {l : List (List Wsh)} {k0 : Int} (hm : l.length ≤ 1048600) (hc : ∀ ws ∈ l, wsN ws ≤ 1048576) (h0 : 0 ≤ k0) (h1 : k0 + sG nC l ≤ 8388608) : ACM Tryz.prog 46 ⟨.d 70, 9, l.map cA⟩ ((mG stC mkC l k0).map mcA) [.v (.int .i64 k0)] (.int .i64 (kG stC l k0)) := by
  refine r_ofN Th_ok (by kernel_rfl) Tryz.func46 rfl Tryz.ntmps46 Tryz.results46 (by kernel_rfl) rfl ?_
  conv => whnf
  refine r_loop (ι := { k : Nat // k ≤ l.length }) (fun k => ⟨[(0, .own 0), (1, .v (.int .i64 (kG stC (l.take k.1) k0))), (5, .v (.int .i64 (k.1 : Int)))], [(0, ⟨.d 70, 9, (mG stC mkC (l.take k.1) k0).map mcA ++ (l.drop k.1).map cA⟩)]⟩) (fun k => l.length - k.1) ⟨0, Nat.zero_le _⟩ ⟨⟨rfl, trivial⟩, .inl ⟨rfl, rfl⟩, .inl ⟨rfl, rfl⟩, .inl ⟨rfl, rfl⟩, trivial⟩ ?_
  rintro ⟨i, hi⟩
  dsimp only
  have hml2 := mG_len (st := stC) (mk := mkC) (A := mcA) (B := cA) (k0 := k0) hi
  conv => whnf
  by_cases hlt : i < l.length
  case neg =>
    have hkk : i = l.length := by omega
    subst hkk
    repeat (first | (refine r_put (p_leno (m := l.length) rfl rfl hml2 ⟨_, _, _, _, rfl⟩) rfl rfl ?_; conv => whnf) | ((first | refine qb rfl rfl ?_ | refine qi (by assumption) rfl rfl ?_ | refine ql rfl ?_ | refine qo rfl rfl ?_ | refine qs rfl rfl ?_ | refine qn rfl rfl ?_); conv => whnf))
    exact r_retM (by show AV.v (.int .i64 (kG stC (l.take l.length) k0)) = _; rw [List.take_length]) (by show some (OB.mk _ _ _) = _; rw [List.take_length, List.drop_length, List.map_nil, List.append_nil])
  have hb := kG_sum (n := nC) stC_st (l.take i) k0
  have hb3 := sG_at (n := nC) l i hlt
  have hc1 := hc _ (List.getElem_mem hlt)
  have hset := mG_set (st := stC) (mk := mkC) (A := mcA) (B := cA) (k0 := k0) hlt
  have hXi := mG_row (st := stC) (mk := mkC) (A := mcA) (B := cA) (k0 := k0) hlt
  have hstep := kG_snoc (st := stC) (k := k0) hlt
  generalize (mG stC mkC (l.take i) k0).map mcA ++ (l.drop i).map cA = X at *
  generalize hK : kG stC (l.take i) k0 = K at *
  have hK0 : 0 ≤ K := by omega
  have hkw := kW_st l[i] K
  have hnC : nC l[i] = 4 * l[i].length + 3 * totH l[i] + 7 := rfl
  have hK1 : kW l[i] K + 7 ≤ 8388608 := by omega
  have hXl : i < X.length := by omega
  have m0 := ac_markWishU (l := l[i]) (k0 := K) (by unfold wsN at hc1; omega) (by unfold wsN at hc1; omega) hK0 (by omega)
  have hmk : mcA (mkC l[i] K) = mcA (markedW l[i] K, kW l[i] K) := rfl
  rw [hmk] at hset
  have hst : stC l[i] K = kW l[i] K + 1 + 1 + 1 + 1 + 1 + 1 + 1 := by unfold stC; omega
  have hW0 : 0 ≤ kW l[i] K := by omega
  clear hb hb3 hkw
  generalize hW : kW l[i] K = W at *
  have hopn : openE (.d 70) X i = some (.o (some 70) i (cA l[i])) := by simp only [openE, hXi]
  have hX2 : ∀ y : AV, (X.set i y)[i]? = some y := fun y => set_at hXl
  have hopn2 : ∀ y : AV, openE (.d 70) (X.set i y) i = some (.o (some 70) i y) := fun y => by simp only [openE, hX2 y]
  have hml3 : ∀ y : AV, i < (X.set i y).length := fun y => by rw [List.length_set]; exact hXl
  have hs2 : ∀ a b : AV, (X.set i a).set i b = X.set i b := fun a b => by rw [List.set_set]
  repeat (first | (refine r_put (p_leno (m := l.length) rfl rfl hml2 ⟨_, _, _, _, rfl⟩) rfl rfl ?_; conv => whnf) | ((first | refine qb rfl rfl ?_ | refine qi (by assumption) rfl rfl ?_ | refine ql rfl ?_ | refine qo rfl rfl ?_ | refine qs rfl rfl ?_ | refine qn rfl rfl ?_); conv => whnf))
  refine o_put (p_oidx hXl rfl rfl rfl rfl rfl) rfl rfl (o_put (p_ofld rfl rfl rfl) rfl rfl ?_)
  refine r_step (p_oldu rfl rfl hopn rfl rfl rfl) rfl rfl (fun e => by first | exact .inl rfl | contradiction | exact .inr (.inl (by kernel_rfl))) ?_
  conv => whnf
  repeat (((first | refine qb rfl rfl ?_ | refine qi (by assumption) rfl rfl ?_ | refine ql rfl ?_ | refine qo rfl rfl ?_ | refine qs rfl rfl ?_ | refine qn rfl rfl ?_); conv => whnf))
  refine r_gh (p_callm m0 rfl rfl rfl rfl rfl rfl rfl) rfl rfl (fun e => by cases e) (Gh.fold 0 17 [0] rfl rfl rfl rfl rfl rfl (Gh.shut 0 (z := cA []) (y' := cA (markedW l[i] K)) rfl rfl (Gh.done ?_)))
  conv => whnf
  have hrest : ∀ y : AV, ∀ (e : y = mcA (markedW l[i] K, W)), X.set i y = (mG stC mkC (l.take (i + 1)) k0).map mcA ++ (l.drop (i + 1)).map cA := fun y e => by rw [e]; exact hset
  repeat (first | ((first | refine qb rfl rfl ?_ | refine qi (by assumption) rfl rfl ?_ | refine ql rfl ?_ | refine qo rfl rfl ?_ | refine qs rfl rfl ?_ | refine qn rfl rfl ?_); conv => whnf) | (refine o_put (p_oidx (hml3 _) rfl rfl rfl rfl rfl) rfl rfl (o_put (p_ofld rfl rfl rfl) rfl rfl ?_); refine r_step (p_oldu rfl rfl (hopn2 _) rfl rfl rfl) rfl rfl (fun e => by first | exact .inl rfl | contradiction | exact .inr (.inl (by kernel_rfl))) ?_; conv => whnf) | (refine r_put (p_oidx (hml3 _) rfl rfl rfl rfl rfl) rfl rfl ?_; conv => whnf) | (refine r_step (p_ostored (hX2 _) rfl rfl rfl rfl rfl rfl) rfl rfl (fun e => by first | exact .inl rfl | contradiction | exact .inr (.inl (by kernel_rfl))) ?_; simp only [hs2]; conv => whnf))
  refine r_gh (p_call (ac_markEnt0 (k0 := W + 1 + 1 + 1 + 1 + 1 + 1 + 1)) rfl (.inr ⟨by simp [flatA], flat_o0⟩) (by first | exact trivial | exact ⟨⟨rfl, rfl, rfl⟩, trivial⟩ | exact ⟨⟨rfl, rfl, rfl⟩, ⟨rfl, rfl, rfl⟩, trivial⟩ | exact ⟨⟨rfl, rfl, rfl⟩, ⟨rfl, rfl, rfl⟩, ⟨rfl, rfl, rfl⟩, trivial⟩) rfl rfl) rfl rfl (fun e => by cases e) (Gh.fold 0 73 [8] rfl rfl rfl rfl rfl rfl (Gh.shut 0 (z := cA []) (y' := mcA (markedW l[i] K, W)) rfl rfl (Gh.done ?_)))
  conv => whnf
  repeat (((first | refine qb rfl rfl ?_ | refine qi (by assumption) rfl rfl ?_ | refine ql rfl ?_ | refine qo rfl rfl ?_ | refine qs rfl rfl ?_ | refine qn rfl rfl ?_); conv => whnf))
  refine ⟨⟨i + 1, hlt⟩, ⟨⟨?_, trivial⟩, .inl ⟨rfl, rfl⟩, .inl ⟨?_, rfl⟩, .inl ⟨rfl, rfl⟩, trivial⟩, by first | (simp; done) | (simp; omega)⟩
  · first | exact congrArg (fun x => some (OB.mk _ _ x)) hset | exact congrArg (fun x => some (OB.mk _ _ x)) (Eq.trans (by simp only [hs2]) hset) | exact congrArg (fun x => some (OB.mk _ _ x)) (Eq.trans (by simp only [hs2]; rfl) hset)
  · show AV.v (.int .i64 (W + 1 + 1 + 1 + 1 + 1 + 1 + 1)) = _
    rw [hstep, hst]
theorem ac_markWorld {B : Bas} {css : List (List Wsh)} {wts : List Wat} {k0 K1 K2 K3 K4 : Int} (e1 : kA B.store k0 = K1) (e2 : K1 + 4 * B.refs.length = K2) (e3 : kG stC css K2 = K3) (e4 : kG stT wts K3 = K4) (hm : B.store.length ≤ 1048600) (ht : totC B.store ≤ 1048600) (hr : B.refs.length ≤ 1048600) (hcm : css.length ≤ 1048600) (hc : ∀ ws ∈ css, wsN ws ≤ 1048576) (hwm : wts.length ≤ 1048600) (hq : ∀ w ∈ wts, w.queue = []) (h0 : 0 ≤ k0) (h1 : k0 ≤ 4194304) (p1 : 0 ≤ K1) (p2 : K1 ≤ 8388608) (p3 : 0 ≤ K2) (p4 : K2 + sG nC css ≤ 8388608) (p5 : 0 ≤ K3) (p6 : K3 + 2 * wts.length ≤ 8388608) :
    ACG Tryz.prog 19 [.mix (wldO 0 1000000 2000000 3000000), .v (.int .i64 k0)] [⟨.d 123, 2, B.store.map comA⟩, ⟨105, 4, B.refs.map refA⟩, ⟨.d 70, 9, css.map cA⟩, ⟨75, 3, wts.map watA⟩] [⟨.d 123, 2, (markedC B.store k0).map comA⟩, ⟨105, 4, (markedR B.refs.length K1).map refA⟩, ⟨.d 70, 9, (mG stC mkC css K2).map mcA⟩, ⟨75, 3, (mG stT mkT wts K3).map watA⟩] ⟨.v (.int .i64 K4), []⟩ := by
  have m1 := ac_markBaseM (L := B.store) (R := B.refs) (k0 := k0) hm ht hr h0 h1 (by omega) (by omega)
  have m2 := ac_markClientS (l := css) (k0 := K2) hcm hc p3 p4
  have m3 := ac_markWatchS (l := wts) (k0 := K3) hwm hq p5 p6
  have m4 := ac_markMomN (k0 := K4)
  rw [e1, e2] at m1
  rw [e3] at m2
  rw [e4] at m3
  refine acg_of (rs := [.tmp 4]) Th_ok (by kernel_rfl) Tryz.func19 rfl Tryz.ntmps19 (by rw [Tryz.results19]) (by kernel_rfl) (by simp) rfl rfl (runC_sound _ _ _ ?_)
  conv => whnf
  repeat (first | ((first | refine qb rfl rfl ?_ | refine qi (by assumption) rfl rfl ?_ | refine ql rfl ?_ | refine qo rfl rfl ?_ | refine qs rfl rfl ?_ | refine qn rfl rfl ?_); conv => whnf) | (refine r_step (p_boxo rfl rfl rfl) rfl rfl (fun e => by first | exact .inl rfl | contradiction | exact .inr (.inl (by kernel_rfl))) ?_; conv => whnf) | (refine r_put (p_oldo rfl rfl rfl rfl rfl rfl rfl rfl) rfl rfl ?_; conv => whnf))
  refine r_step (p_callg [0, 1000000] m1 rfl rfl ⟨rfl, rfl, trivial⟩ rfl rfl trivial rfl rfl rfl (.inl rfl) rfl) rfl rfl (fun e => by first | exact .inl rfl | contradiction | exact .inr (.inl (by kernel_rfl))) ?_
  conv => whnf
  repeat (first | ((first | refine qb rfl rfl ?_ | refine qi (by assumption) rfl rfl ?_ | refine ql rfl ?_ | refine qo rfl rfl ?_ | refine qs rfl rfl ?_ | refine qn rfl rfl ?_); conv => whnf) | (refine r_put (p_oldo rfl rfl rfl rfl rfl rfl rfl rfl) rfl rfl ?_; conv => whnf) | (refine r_step (p_callm (m2) rfl rfl rfl rfl rfl rfl rfl) rfl rfl (fun e => by first | exact .inl rfl | contradiction | exact .inr (.inl (by kernel_rfl))) ?_; conv => whnf) | (refine r_step (p_callm (m3) rfl rfl rfl rfl rfl rfl rfl) rfl rfl (fun e => by first | exact .inl rfl | contradiction | exact .inr (.inl (by kernel_rfl))) ?_; conv => whnf) | (refine qc (m4) rfl ?_; conv => whnf))
  exact r_ret4 rfl rfl rfl rfl rfl
/-- a marked world -/
def mwA (B : Bas) (css : List (List Wsh × Int)) (wts : List Wat) (z : AV) : AV := .agg [basA B, .lst 9 (css.map mcA), .lst 3 (wts.map watA), z, i0A]
theorem ac_heldWorld {B : Bas} {css : List (List Wsh)} {wts : List Wat} {k0 K1 K2 K3 K4 : Int} (e1 : kA B.store k0 = K1) (e2 : K1 + 4 * B.refs.length = K2) (e3 : kG stC css K2 = K3) (e4 : kG stT wts K3 = K4) (hm : B.store.length ≤ 1048600) (ht : totC B.store ≤ 1048600) (hr : B.refs.length ≤ 1048600) (hcm : css.length ≤ 1048600) (hc : ∀ ws ∈ css, wsN ws ≤ 1048576) (hwm : wts.length ≤ 1048600) (h0 : 0 ≤ k0) (h1 : k0 ≤ 4194304) (p1 : 0 ≤ K1) (p2 : K1 ≤ 8388608) (p3 : 0 ≤ K2) (p4 : K2 + sG nC css ≤ 8388608) (p5 : 0 ≤ K3) (p6 : K3 + 2 * wts.length ≤ 8388608) (p7 : 0 ≤ K4) :
    AC Tryz.prog 20 [mwA ⟨markedC B.store k0, markedR B.refs.length K1⟩ (mG stC mkC css K2) (mG stT mkT wts K3) nilV, .v (.int .i64 k0)] ⟨.v (.int .i64 K4), []⟩ := by
  have d1 := ac_heldBase (L := B.store) (n := B.refs.length) (k0 := k0) hm ht hr h0 h1 (by omega) (by omega)
  have d2 := ac_heldClientS (l := css) (k0 := K2) hcm hc p3 p4
  have d3 := ac_heldWatchS (l := wts) (k0 := K3) hwm p5 p6
  have d4 := ac_heldMomN (k0 := K4)
  rw [e1, e2] at d1
  rw [e3] at d2
  rw [e4] at d3
  refine r_of Th_ok (by kernel_rfl) Tryz.func20 rfl Tryz.ntmps20 Tryz.results20 (by kernel_rfl) rfl ?_; conv => whnf
  repeat (first | ((first | refine qb rfl rfl ?_ | refine qi (by assumption) rfl rfl ?_ | refine ql rfl ?_ | refine qo rfl rfl ?_ | refine qs rfl rfl ?_ | refine qn rfl rfl ?_); conv => whnf) | (refine qc (d1) rfl ?_; conv => whnf) | (refine qc (d2) rfl ?_; conv => whnf) | (refine qc (d3) rfl ?_; conv => whnf) | (refine qc (d4) rfl ?_; conv => whnf))
  exact r_ret1 rfl trivial
theorem ac_heldWorld0 {k0 : Int} (h0 : 0 ≤ k0) (h1 : k0 ≤ 4194304) : AC Tryz.prog 20 [wld0, .v (.int .i64 k0)] ⟨.v (.int .i64 k0), []⟩ := by
  have d1 : AC Tryz.prog 49 [basA ⟨[], []⟩, .v (.int .i64 k0)] ⟨.v (.int .i64 k0), []⟩ := by
    have := ac_heldBase (L := []) (n := 0) (k0 := k0) (by simp) (by simp [totC]) (by simp) h0 h1 (by simpa [kA] using h0) (by simp only [kA]; omega)
    have e : kA [] k0 + 4 * ((0 : Nat) : Int) = k0 := by simp [kA]
    rw [e] at this; exact this
  have d2 : AC Tryz.prog 50 [.lst 9 [], .v (.int .i64 k0)] ⟨.v (.int .i64 k0), []⟩ := ac_heldClientS (l := []) (k0 := k0) (by simp) (fun ws h => by cases h) h0 (by simp only [sG]; omega)
  have d3 : AC Tryz.prog 51 [.lst 3 [], .v (.int .i64 k0)] ⟨.v (.int .i64 k0), []⟩ := ac_heldWatchS (l := []) (k0 := k0) (by simp) h0 (by simp; omega)
  have d4 := ac_heldMom0 (k0 := k0)
  refine r_of Th_ok (by kernel_rfl) Tryz.func20 rfl Tryz.ntmps20 Tryz.results20 (by kernel_rfl) rfl ?_; conv => whnf
  repeat (first | ((first | refine qb rfl rfl ?_ | refine qi (by assumption) rfl rfl ?_ | refine ql rfl ?_ | refine qo rfl rfl ?_ | refine qs rfl rfl ?_ | refine qn rfl rfl ?_); conv => whnf) | (refine qc (d1) rfl ?_; conv => whnf) | (refine qc (d2) rfl ?_; conv => whnf) | (refine qc (d3) rfl ?_; conv => whnf) | (refine qc (d4) rfl ?_; conv => whnf))
  exact r_ret1 rfl trivial
end Go.Proofs.YtmfmclnklpbiaaaGreat.AM
namespace Go.Proofs.YtmfmclnklpbiaaaGreat.AM
open Go Go.RowKit
set_option linter.unusedVariables false
set_option linter.unusedSimpArgs false
set_option maxRecDepth 100000
theorem cliK_0 {ws : List Wsh} (h : (decide (ws.length ≤ 6) && wssB ws) = true) : ws.length ≤ 6 ∧ wssB ws = true := by simpa using h
theorem cliK_n {ws : List Wsh} (h : (decide (ws.length ≤ 6) && wssB ws) = false) : cliK ws ≠ 0 ∧ 0 ≤ cliK ws := by
  unfold cliK
  by_cases a : 4096 < ws.length
  · rw [if_pos a]; omega
  · rw [if_neg a]
    by_cases b : 6 < ws.length
    · rw [if_pos b]; omega
    · rw [if_neg b]
      rw [decide_eq_true (by omega), Bool.true_and] at h
      rw [h]; simp
attribute [local irreducible] ACode AOps AOps2 RetG RetM Pre ACG
theorem ac_iNewW_pre {B : Bas} {css : List (List Wsh)} {xs : List ByteArray} {code : Int} (hB : B.ok maxLen) (hm : css.length ≤ maxLen) (hm2 : xs.length ≤ maxLen) (hk : ((4096 < css.length ∨ 4096 < xs.length) ∧ code = 2) ∨ (¬ (4096 < css.length ∨ 4096 < xs.length) ∧ basB B = false ∧ code = 1) ∨ (¬ (4096 < css.length ∨ 4096 < xs.length) ∧ basB B = true ∧ (5 < css.length ∨ 3 < xs.length) ∧ code = 6)) :
    AC Tryz.prog 11 [basA B, .lst 1 (css.map wssA), .lst 1 (xs.map strA)] ⟨.tup [wld0, .v (.int .i64 code)], []⟩ := by
  have h1 := ac_iBaseOK hB
  unfold maxLen at hm hm2
  rcases hk with ⟨a, rfl⟩ | ⟨a, b, rfl⟩ | ⟨a, b, c, rfl⟩
  · by_cases a1 : 4096 < css.length
    · refine r_of Th_ok (by kernel_rfl) Tryz.func11 rfl Tryz.ntmps11 Tryz.results11 (by kernel_rfl) rfl ?_; conv => whnf
      repeat (first | ((first | refine qb rfl rfl ?_ | refine qi (by assumption) rfl rfl ?_ | refine ql rfl ?_ | refine qo rfl rfl ?_ | refine qs rfl rfl ?_ | refine qn rfl rfl ?_); conv => whnf) | (refine .inl (And.intro (by kernel_rfl) ?_); conv => whnf) | (refine r_step (p_ostore rfl rfl rfl rfl rfl (by conv => lhs; whnf) rfl) rfl rfl (fun e => by first | exact .inl rfl | contradiction | exact .inr (.inl (by kernel_rfl))) ?_; conv => whnf))
      exact r_tupCV (x := wld0) rfl rfl rfl rfl trivial rfl
    · refine r_of Th_ok (by kernel_rfl) Tryz.func11 rfl Tryz.ntmps11 Tryz.results11 (by kernel_rfl) rfl ?_; conv => whnf
      repeat (first | ((first | refine qb rfl rfl ?_ | refine qi (by assumption) rfl rfl ?_ | refine ql rfl ?_ | refine qo rfl rfl ?_ | refine qs rfl rfl ?_ | refine qn rfl rfl ?_); conv => whnf) | (refine .inl (And.intro (by kernel_rfl) ?_); conv => whnf) | (refine r_step (p_ostore rfl rfl rfl rfl rfl (by conv => lhs; whnf) rfl) rfl rfl (fun e => by first | exact .inl rfl | contradiction | exact .inr (.inl (by kernel_rfl))) ?_; conv => whnf))
      exact r_tupCV (x := wld0) rfl rfl rfl rfl trivial rfl
  · rw [b] at h1
    refine r_of Th_ok (by kernel_rfl) Tryz.func11 rfl Tryz.ntmps11 Tryz.results11 (by kernel_rfl) rfl ?_; conv => whnf
    repeat (first | ((first | refine qb rfl rfl ?_ | refine qi (by assumption) rfl rfl ?_ | refine ql rfl ?_ | refine qo rfl rfl ?_ | refine qs rfl rfl ?_ | refine qn rfl rfl ?_); conv => whnf) | (refine .inl (And.intro (by kernel_rfl) ?_); conv => whnf) | (refine qc (h1) rfl ?_; conv => whnf) | (refine r_step (p_ostore rfl rfl rfl rfl rfl (by conv => lhs; whnf) rfl) rfl rfl (fun e => by first | exact .inl rfl | contradiction | exact .inr (.inl (by kernel_rfl))) ?_; conv => whnf))
    exact r_tupCV (x := wld0) rfl rfl rfl rfl trivial rfl
  · rw [b] at h1
    by_cases a1 : 5 < css.length
    · refine r_of Th_ok (by kernel_rfl) Tryz.func11 rfl Tryz.ntmps11 Tryz.results11 (by kernel_rfl) rfl ?_; conv => whnf
      repeat (first | ((first | refine qb rfl rfl ?_ | refine qi (by assumption) rfl rfl ?_ | refine ql rfl ?_ | refine qo rfl rfl ?_ | refine qs rfl rfl ?_ | refine qn rfl rfl ?_); conv => whnf) | (refine .inl (And.intro (by kernel_rfl) ?_); conv => whnf) | (refine qc (h1) rfl ?_; conv => whnf) | (refine r_step (p_ostore rfl rfl rfl rfl rfl (by conv => lhs; whnf) rfl) rfl rfl (fun e => by first | exact .inl rfl | contradiction | exact .inr (.inl (by kernel_rfl))) ?_; conv => whnf))
      exact r_tupCV (x := wld0) rfl rfl rfl rfl trivial rfl
    · refine r_of Th_ok (by kernel_rfl) Tryz.func11 rfl Tryz.ntmps11 Tryz.results11 (by kernel_rfl) rfl ?_; conv => whnf
      repeat (first | ((first | refine qb rfl rfl ?_ | refine qi (by assumption) rfl rfl ?_ | refine ql rfl ?_ | refine qo rfl rfl ?_ | refine qs rfl rfl ?_ | refine qn rfl rfl ?_); conv => whnf) | (refine .inl (And.intro (by kernel_rfl) ?_); conv => whnf) | (refine qc (h1) rfl ?_; conv => whnf) | (refine r_step (p_ostore rfl rfl rfl rfl rfl (by conv => lhs; whnf) rfl) rfl rfl (fun e => by first | exact .inl rfl | contradiction | exact .inr (.inl (by kernel_rfl))) ?_; conv => whnf))
      exact r_tupCV (x := wld0) rfl rfl rfl rfl trivial rfl
theorem ac_sNewW_pre {B : Bas} {css : List (List Wsh)} {xs : List ByteArray} {code : Int} (hB : B.ok maxLen) (hm : css.length ≤ maxLen) (hm2 : xs.length ≤ maxLen) (hk : ((4096 < css.length ∨ 4096 < xs.length) ∧ code = 2) ∨ (¬ (4096 < css.length ∨ 4096 < xs.length) ∧ basB B = false ∧ code = 1) ∨ (¬ (4096 < css.length ∨ 4096 < xs.length) ∧ basB B = true ∧ (5 < css.length ∨ 3 < xs.length) ∧ code = 6)) :
    AC Tryz.prog 7 [basA B, .lst 1 (css.map wssA), .lst 1 (xs.map strA)] ⟨.tup [wld0, .v (.int .i64 code)], []⟩ := by
  have h1 := ac_l05OK hB
  unfold maxLen at hm hm2
  rcases hk with ⟨a, rfl⟩ | ⟨a, b, rfl⟩ | ⟨a, b, c, rfl⟩
  · by_cases a1 : 4096 < css.length
    · refine r_of Th_ok (by kernel_rfl) Tryz.func7 rfl Tryz.ntmps7 Tryz.results7 (by kernel_rfl) rfl ?_; conv => whnf
      repeat (first | ((first | refine qb rfl rfl ?_ | refine qi (by assumption) rfl rfl ?_ | refine ql rfl ?_ | refine qo rfl rfl ?_ | refine qs rfl rfl ?_ | refine qn rfl rfl ?_); conv => whnf) | (refine .inl (And.intro (by kernel_rfl) ?_); conv => whnf) | (refine r_step (p_ostore rfl rfl rfl rfl rfl (by conv => lhs; whnf) rfl) rfl rfl (fun e => by first | exact .inl rfl | contradiction | exact .inr (.inl (by kernel_rfl))) ?_; conv => whnf))
      exact r_tupCV (x := wld0) rfl rfl rfl rfl trivial rfl
    · refine r_of Th_ok (by kernel_rfl) Tryz.func7 rfl Tryz.ntmps7 Tryz.results7 (by kernel_rfl) rfl ?_; conv => whnf
      repeat (first | ((first | refine qb rfl rfl ?_ | refine qi (by assumption) rfl rfl ?_ | refine ql rfl ?_ | refine qo rfl rfl ?_ | refine qs rfl rfl ?_ | refine qn rfl rfl ?_); conv => whnf) | (refine .inl (And.intro (by kernel_rfl) ?_); conv => whnf) | (refine r_step (p_ostore rfl rfl rfl rfl rfl (by conv => lhs; whnf) rfl) rfl rfl (fun e => by first | exact .inl rfl | contradiction | exact .inr (.inl (by kernel_rfl))) ?_; conv => whnf))
      exact r_tupCV (x := wld0) rfl rfl rfl rfl trivial rfl
  · rw [b] at h1
    refine r_of Th_ok (by kernel_rfl) Tryz.func7 rfl Tryz.ntmps7 Tryz.results7 (by kernel_rfl) rfl ?_; conv => whnf
    repeat (first | ((first | refine qb rfl rfl ?_ | refine qi (by assumption) rfl rfl ?_ | refine ql rfl ?_ | refine qo rfl rfl ?_ | refine qs rfl rfl ?_ | refine qn rfl rfl ?_); conv => whnf) | (refine .inl (And.intro (by kernel_rfl) ?_); conv => whnf) | (refine qc (h1) rfl ?_; conv => whnf) | (refine r_step (p_ostore rfl rfl rfl rfl rfl (by conv => lhs; whnf) rfl) rfl rfl (fun e => by first | exact .inl rfl | contradiction | exact .inr (.inl (by kernel_rfl))) ?_; conv => whnf))
    exact r_tupCV (x := wld0) rfl rfl rfl rfl trivial rfl
  · rw [b] at h1
    by_cases a1 : 5 < css.length
    · refine r_of Th_ok (by kernel_rfl) Tryz.func7 rfl Tryz.ntmps7 Tryz.results7 (by kernel_rfl) rfl ?_; conv => whnf
      repeat (first | ((first | refine qb rfl rfl ?_ | refine qi (by assumption) rfl rfl ?_ | refine ql rfl ?_ | refine qo rfl rfl ?_ | refine qs rfl rfl ?_ | refine qn rfl rfl ?_); conv => whnf) | (refine .inl (And.intro (by kernel_rfl) ?_); conv => whnf) | (refine qc (h1) rfl ?_; conv => whnf) | (refine r_step (p_ostore rfl rfl rfl rfl rfl (by conv => lhs; whnf) rfl) rfl rfl (fun e => by first | exact .inl rfl | contradiction | exact .inr (.inl (by kernel_rfl))) ?_; conv => whnf))
      exact r_tupCV (x := wld0) rfl rfl rfl rfl trivial rfl
    · refine r_of Th_ok (by kernel_rfl) Tryz.func7 rfl Tryz.ntmps7 Tryz.results7 (by kernel_rfl) rfl ?_; conv => whnf
      repeat (first | ((first | refine qb rfl rfl ?_ | refine qi (by assumption) rfl rfl ?_ | refine ql rfl ?_ | refine qo rfl rfl ?_ | refine qs rfl rfl ?_ | refine qn rfl rfl ?_); conv => whnf) | (refine .inl (And.intro (by kernel_rfl) ?_); conv => whnf) | (refine qc (h1) rfl ?_; conv => whnf) | (refine r_step (p_ostore rfl rfl rfl rfl rfl (by conv => lhs; whnf) rfl) rfl rfl (fun e => by first | exact .inl rfl | contradiction | exact .inr (.inl (by kernel_rfl))) ?_; conv => whnf))
      exact r_tupCV (x := wld0) rfl rfl rfl rfl trivial rfl
theorem ac_iNewW_w {B : Bas} {css : List (List Wsh)} {xs : List ByteArray} (hB : B.ok maxLen) (hcl : ∀ ws ∈ css, ws.length ≤ maxLen) (hcs : ∀ ws ∈ css, ∀ c ∈ ws, c.ok maxLen) (hxs : ∀ x ∈ xs, x.size ≤ maxLen) (hsm : B.store.length ≤ 1048576) (hsc : ∀ c ∈ B.store, c.1.length ≤ 1048576 ∧ c.2.length ≤ 1048576) (hrm : B.refs.length ≤ 1048576) (he : ∀ ws ∈ css, ∀ c ∈ ws, c.edits.length ≤ 1048576)
    (hb : basB B = true) (h5 : css.length ≤ 5) (h3 : xs.length ≤ 3) (hw : css.all (fun ws => decide (ws.length ≤ 6) && wssB ws) = false) :
    AC Tryz.prog 11 [basA B, .lst 1 (css.map wssA), .lst 1 (xs.map strA)] ⟨.tup [wld0, .v (.int .i64 1)], []⟩ := by
  have h1 := ac_iBaseOK hB
  rw [hb] at h1
  have h2 := ac_copyBase hsm hsc hrm
  have e0 : css.take 0 = [] := rfl
  refine r_of Th_ok (by kernel_rfl) Tryz.func11 rfl Tryz.ntmps11 Tryz.results11 (by kernel_rfl) rfl ?_; conv => whnf
  repeat (first | ((first | refine qb rfl rfl ?_ | refine qi (by assumption) rfl rfl ?_ | refine ql rfl ?_ | refine qo rfl rfl ?_ | refine qs rfl rfl ?_ | refine qn rfl rfl ?_); conv => whnf) | (refine .inl (And.intro (by kernel_rfl) ?_); conv => whnf) | (refine qc (h1) rfl ?_; conv => whnf) | (refine qc (h2) rfl ?_; conv => whnf) | (refine r_step (p_ostore rfl rfl rfl rfl rfl (by conv => lhs; whnf) rfl) rfl rfl (fun e => by first | exact .inl rfl | contradiction | exact .inr (.inl (by kernel_rfl))) ?_; conv => whnf))
  refine r_step (p_buildm rfl ⟨⟨_, _, rfl, rfl, rfl⟩, trivial⟩ rfl) rfl rfl (fun e => by first | exact .inl rfl | contradiction | exact .inr (.inl (by kernel_rfl))) ?_
  conv => whnf
  refine r_gh (p_ostoreo rfl rfl rfl rfl rfl rfl) rfl rfl (fun e => by cases e) (Gh.nilx 9 0 3009 [1] (.d 70) 9 rfl rfl rfl rfl rfl rfl (by omega) (Gh.nilx 9 0 4009 [2] (.s 75) 3 rfl rfl rfl rfl rfl rfl (by omega) (Gh.done ?_)))
  conv => whnf
  repeat (((first | refine qb rfl rfl ?_ | refine qi (by assumption) rfl rfl ?_ | refine ql rfl ?_ | refine qo rfl rfl ?_ | refine qs rfl rfl ?_ | refine qn rfl rfl ?_); conv => whnf))
  refine r_loop (ι := { k : Nat // k ≤ css.length ∧ ∀ j (hj : j < css.length), j < k → (decide (css[j].length ≤ 6) && wssB css[j]) = true }) (fun k => ⟨[(2, .lst 1 (xs.map strA)), (3, .optr 4 0 [] 0), (6, .optr 7 0 [] 0), (8, .optr 9 0 [] 0), (45, .lst 1 (css.map wssA)), (46, .v (.int .i64 (css.length : Int))), (47, .v (.int .i64 (k.1 : Int)))], [(4, ⟨.s 34, 2, [basA B]⟩), (7, ⟨.z 39, 6, [wld0]⟩), (9, ⟨.o (some 39) 0 (.mix (wldO 44 1044 3009 4009)), 6, [wld0]⟩), (44, ⟨.d 123, 2, B.store.map comA⟩), (1044, ⟨105, 4, B.refs.map refA⟩), (3009, ⟨.d 70, 9, (css.take k.1).map cA⟩), (4009, ⟨75, 3, []⟩)]⟩) (fun k => css.length - k.1) ⟨0, Nat.zero_le _, fun j _ h => by omega⟩ (by refine ⟨?_, ?_⟩ <;> (repeat (first | trivial | exact ⟨rfl, trivial⟩ | refine ⟨rfl, ?_⟩ | refine ⟨.inl ⟨rfl, rfl⟩, ?_⟩ | refine ⟨.inr ⟨_, _, rfl, rfl, rfl, rfl, rfl⟩, ?_⟩))) ?_
  rintro ⟨k, hk, hall⟩
  dsimp only
  conv => whnf
  by_cases hlt : k < css.length
  · have hmem := List.getElem_mem hlt
    cases hg : (decide (css[k].length ≤ 6) && wssB css[k]) with
    | false =>
      obtain ⟨n1, n2⟩ := cliK_n hg
      have h4 := ac_iNewC_bad (hcl _ hmem) (hcs _ hmem) n1
      generalize cliK css[k] = c at h4 n1 n2
      repeat (first | (refine r_put (p_bin (b_ne_t n1) rfl rfl rfl) rfl rfl ?_; conv => whnf) | ((first | refine qb rfl rfl ?_ | refine qi (by assumption) rfl rfl ?_ | refine ql rfl ?_ | refine qo rfl rfl ?_ | refine qs rfl rfl ?_ | refine qn rfl rfl ?_); conv => whnf) | (refine .inl (And.intro (by kernel_rfl) ?_); conv => whnf) | (refine qc (h4) rfl ?_; conv => whnf) | (refine r_step (p_ostore rfl rfl rfl rfl rfl (by conv => lhs; whnf) rfl) rfl rfl (fun e => by first | exact .inl rfl | contradiction | exact .inr (.inl (by kernel_rfl))) ?_; conv => whnf))
      exact r_tupCV (x := wld0) rfl rfl rfl rfl trivial rfl
    | true =>
      obtain ⟨w1, w2⟩ := cliK_0 hg
      have h3 := ac_iNewC w1 (hcs _ hmem) (he _ hmem) w2
      have hsn : (css.take k).map cA ++ [cA css[k]] = (css.take (k + 1)).map cA := by rw [List.take_succ_eq_append_getElem hlt, List.map_append]; rfl
      repeat (first | ((first | refine qb rfl rfl ?_ | refine qi (by assumption) rfl rfl ?_ | refine ql rfl ?_ | refine qo rfl rfl ?_ | refine qs rfl rfl ?_ | refine qn rfl rfl ?_); conv => whnf) | (refine .inl (And.intro (by kernel_rfl) ?_); conv => whnf) | (refine qc (h3) rfl ?_; conv => whnf) | (refine r_step (p_ostoreo rfl rfl rfl rfl rfl rfl) rfl rfl (fun e => by first | exact .inl rfl | contradiction | exact .inr (.inl (by kernel_rfl))) ?_; conv => whnf) | (refine r_put (p_oldo rfl rfl rfl rfl rfl rfl rfl rfl) rfl rfl ?_; conv => whnf))
      refine r_gh (p_bslm rfl rfl rfl rfl rfl) rfl rfl (fun e => by cases e) (Gh.fold 63 54 [0] rfl rfl rfl rfl rfl rfl (Gh.shut 63 (z := cA []) (y' := cA css[k]) rfl rfl (Gh.done ?_)))
      conv => whnf
      refine r_step (p_appd (xs := css.take k) (ys := [css[k]]) (f := cA) (by simp) (by simp; omega) rfl rfl rfl rfl rfl rfl rfl (.inr (.inl rfl))) rfl rfl (fun e => by first | exact .inl rfl | contradiction | exact .inr (.inl (by kernel_rfl))) ?_
      conv => whnf
      repeat (first | ((first | refine qb rfl rfl ?_ | refine qi (by assumption) rfl rfl ?_ | refine ql rfl ?_ | refine qo rfl rfl ?_ | refine qs rfl rfl ?_ | refine qn rfl rfl ?_); conv => whnf) | (refine r_step (p_ostoreo rfl rfl rfl rfl rfl rfl) rfl rfl (fun e => by first | exact .inl rfl | contradiction | exact .inr (.inl (by kernel_rfl))) ?_; conv => whnf))
      refine ⟨⟨k + 1, hlt, fun j hj h => by
          rcases Nat.lt_succ_iff_lt_or_eq.1 h with h | h
          · exact hall j hj h
          · subst h; exact hg⟩, ⟨⟨rfl, rfl, rfl, rfl, rfl, ?_, rfl, trivial⟩, .inl ⟨rfl, rfl⟩, .inl ⟨rfl, rfl⟩, .inl ⟨rfl, rfl⟩, .inl ⟨rfl, rfl⟩, .inl ⟨rfl, rfl⟩, .inl ⟨rfl, rfl⟩, .inl ⟨rfl, rfl⟩, trivial⟩, by simp; omega⟩
      first | exact congrArg (fun x => some (OB.mk _ _ x)) hsn | exact congrArg (fun x => some (OB.mk _ _ x)) ((List.map_append ..).trans hsn)
  · exfalso
    have : css.all (fun ws => decide (ws.length ≤ 6) && wssB ws) = true := by
      rw [List.all_eq_true]
      intro ws h
      obtain ⟨j, hj, rfl⟩ := List.getElem_of_mem h
      exact hall j hj (by omega)
    rw [this] at hw; cases hw
theorem ac_iNewW_n {B : Bas} {css : List (List Wsh)} {xs : List ByteArray} (hB : B.ok maxLen) (hcl : ∀ ws ∈ css, ws.length ≤ maxLen) (hcs : ∀ ws ∈ css, ∀ c ∈ ws, c.ok maxLen) (hxs : ∀ x ∈ xs, x.size ≤ maxLen) (hsm : B.store.length ≤ 1048576) (hsc : ∀ c ∈ B.store, c.1.length ≤ 1048576 ∧ c.2.length ≤ 1048576) (hrm : B.refs.length ≤ 1048576) (he : ∀ ws ∈ css, ∀ c ∈ ws, c.edits.length ≤ 1048576)
    (hb : basB B = true) (h5 : css.length ≤ 5) (h3 : xs.length ≤ 3) (hw : ∀ ws ∈ css, ws.length ≤ 6 ∧ wssB ws = true) (hn : xs.all okN = false) (ha : ∀ x, okN x = true → askF B.refs x = 0) :
    AC Tryz.prog 11 [basA B, .lst 1 (css.map wssA), .lst 1 (xs.map strA)] ⟨.tup [wld0, .v (.int .i64 10)], []⟩ := by
  have h1 := ac_iBaseOK hB
  rw [hb] at h1
  have h2 := ac_copyBase hsm hsc hrm
  have e0 : css.take 0 = [] := rfl
  refine r_of Th_ok (by kernel_rfl) Tryz.func11 rfl Tryz.ntmps11 Tryz.results11 (by kernel_rfl) rfl ?_; conv => whnf
  repeat (first | ((first | refine qb rfl rfl ?_ | refine qi (by assumption) rfl rfl ?_ | refine ql rfl ?_ | refine qo rfl rfl ?_ | refine qs rfl rfl ?_ | refine qn rfl rfl ?_); conv => whnf) | (refine .inl (And.intro (by kernel_rfl) ?_); conv => whnf) | (refine qc (h1) rfl ?_; conv => whnf) | (refine qc (h2) rfl ?_; conv => whnf) | (refine r_step (p_ostore rfl rfl rfl rfl rfl (by conv => lhs; whnf) rfl) rfl rfl (fun e => by first | exact .inl rfl | contradiction | exact .inr (.inl (by kernel_rfl))) ?_; conv => whnf))
  refine r_step (p_buildm rfl ⟨⟨_, _, rfl, rfl, rfl⟩, trivial⟩ rfl) rfl rfl (fun e => by first | exact .inl rfl | contradiction | exact .inr (.inl (by kernel_rfl))) ?_
  conv => whnf
  refine r_gh (p_ostoreo rfl rfl rfl rfl rfl rfl) rfl rfl (fun e => by cases e) (Gh.nilx 9 0 3009 [1] (.d 70) 9 rfl rfl rfl rfl rfl rfl (by omega) (Gh.nilx 9 0 4009 [2] (.s 75) 3 rfl rfl rfl rfl rfl rfl (by omega) (Gh.done ?_)))
  conv => whnf
  repeat (((first | refine qb rfl rfl ?_ | refine qi (by assumption) rfl rfl ?_ | refine ql rfl ?_ | refine qo rfl rfl ?_ | refine qs rfl rfl ?_ | refine qn rfl rfl ?_); conv => whnf))
  refine r_loop (ι := { k : Nat // k ≤ css.length }) (fun k => ⟨[(2, .lst 1 (xs.map strA)), (3, .optr 4 0 [] 0), (6, .optr 7 0 [] 0), (8, .optr 9 0 [] 0), (45, .lst 1 (css.map wssA)), (46, .v (.int .i64 (css.length : Int))), (47, .v (.int .i64 (k.1 : Int)))], [(4, ⟨.s 34, 2, [basA B]⟩), (7, ⟨.z 39, 6, [wld0]⟩), (9, ⟨.o (some 39) 0 (.mix (wldO 44 1044 3009 4009)), 6, [wld0]⟩), (44, ⟨.d 123, 2, B.store.map comA⟩), (1044, ⟨105, 4, B.refs.map refA⟩), (3009, ⟨.d 70, 9, (css.take k.1).map cA⟩), (4009, ⟨75, 3, []⟩)]⟩) (fun k => css.length - k.1) ⟨0, Nat.zero_le _⟩ (by refine ⟨?_, ?_⟩ <;> (repeat (first | trivial | exact ⟨rfl, trivial⟩ | refine ⟨rfl, ?_⟩ | refine ⟨.inl ⟨rfl, rfl⟩, ?_⟩ | refine ⟨.inr ⟨_, _, rfl, rfl, rfl, rfl, rfl⟩, ?_⟩))) ?_
  rintro ⟨k, hk⟩
  dsimp only
  conv => whnf
  by_cases hlt : k < css.length
  · have hmem := List.getElem_mem hlt
    obtain ⟨w1, w2⟩ := hw _ hmem
    have h3 := ac_iNewC w1 (hcs _ hmem) (he _ hmem) w2
    have hsn : (css.take k).map cA ++ [cA css[k]] = (css.take (k + 1)).map cA := by rw [List.take_succ_eq_append_getElem hlt, List.map_append]; rfl
    repeat (first | ((first | refine qb rfl rfl ?_ | refine qi (by assumption) rfl rfl ?_ | refine ql rfl ?_ | refine qo rfl rfl ?_ | refine qs rfl rfl ?_ | refine qn rfl rfl ?_); conv => whnf) | (refine .inl (And.intro (by kernel_rfl) ?_); conv => whnf) | (refine qc (h3) rfl ?_; conv => whnf) | (refine r_step (p_ostoreo rfl rfl rfl rfl rfl rfl) rfl rfl (fun e => by first | exact .inl rfl | contradiction | exact .inr (.inl (by kernel_rfl))) ?_; conv => whnf) | (refine r_put (p_oldo rfl rfl rfl rfl rfl rfl rfl rfl) rfl rfl ?_; conv => whnf))
    refine r_gh (p_bslm rfl rfl rfl rfl rfl) rfl rfl (fun e => by cases e) (Gh.fold 63 54 [0] rfl rfl rfl rfl rfl rfl (Gh.shut 63 (z := cA []) (y' := cA css[k]) rfl rfl (Gh.done ?_)))
    conv => whnf
    refine r_step (p_appd (xs := css.take k) (ys := [css[k]]) (f := cA) (by simp) (by simp; omega) rfl rfl rfl rfl rfl rfl rfl (.inr (.inl rfl))) rfl rfl (fun e => by first | exact .inl rfl | contradiction | exact .inr (.inl (by kernel_rfl))) ?_
    conv => whnf
    repeat (first | ((first | refine qb rfl rfl ?_ | refine qi (by assumption) rfl rfl ?_ | refine ql rfl ?_ | refine qo rfl rfl ?_ | refine qs rfl rfl ?_ | refine qn rfl rfl ?_); conv => whnf) | (refine r_step (p_ostoreo rfl rfl rfl rfl rfl rfl) rfl rfl (fun e => by first | exact .inl rfl | contradiction | exact .inr (.inl (by kernel_rfl))) ?_; conv => whnf))
    refine ⟨⟨k + 1, hlt⟩, ⟨⟨rfl, rfl, rfl, rfl, rfl, ?_, rfl, trivial⟩, .inl ⟨rfl, rfl⟩, .inl ⟨rfl, rfl⟩, .inl ⟨rfl, rfl⟩, .inl ⟨rfl, rfl⟩, .inl ⟨rfl, rfl⟩, .inl ⟨rfl, rfl⟩, .inl ⟨rfl, rfl⟩, trivial⟩, by simp; omega⟩
    first | exact congrArg (fun x => some (OB.mk _ _ x)) hsn | exact congrArg (fun x => some (OB.mk _ _ x)) ((List.map_append ..).trans hsn)
  have hkk : k = css.length := by omega
  subst hkk
  repeat (((first | refine qb rfl rfl ?_ | refine qi (by assumption) rfl rfl ?_ | refine ql rfl ?_ | refine qo rfl rfl ?_ | refine qs rfl rfl ?_ | refine qn rfl rfl ?_); conv => whnf))
  refine r_loop (ι := { k : Nat // k ≤ xs.length ∧ ∀ j (hj : j < xs.length), j < k → okN xs[j] = true }) (fun k => ⟨[(3, .optr 4 0 [] 0), (6, .optr 7 0 [] 0), (8, .optr 9 0 [] 0), (66, .lst 1 (xs.map strA)), (67, .v (.int .i64 (xs.length : Int))), (68, .v (.int .i64 (k.1 : Int)))], [(4, ⟨.s 34, 2, [basA B]⟩), (7, ⟨.z 39, 6, [wld0]⟩), (9, ⟨.o (some 39) 0 (.mix (wldO 44 1044 3009 4009)), 6, [wld0]⟩), (44, ⟨.d 123, 2, B.store.map comA⟩), (1044, ⟨105, 4, B.refs.map refA⟩), (3009, ⟨.d 70, 9, css.map cA⟩), (4009, ⟨75, 3, ((xs.take k.1).map (wtOf B.refs)).map watA⟩)]⟩) (fun k => xs.length - k.1) ⟨0, Nat.zero_le _, fun j _ h => by omega⟩ ⟨⟨rfl, rfl, rfl, rfl, rfl, by show some (OB.mk _ _ _) = _; rw [List.take_length], rfl, trivial⟩, .inl ⟨rfl, rfl⟩, .inl ⟨rfl, rfl⟩, .inl ⟨rfl, rfl⟩, .inl ⟨rfl, rfl⟩, .inl ⟨rfl, rfl⟩, .inl ⟨rfl, rfl⟩, trivial⟩ ?_
  rintro ⟨k, hk, hall⟩
  dsimp only
  conv => whnf
  by_cases hlt : k < xs.length
  · have hmem := List.getElem_mem hlt
    cases hg : okN xs[k] with
    | false =>
      obtain ⟨c, n1, n2, h4⟩ := ac_iNew_no (l := B.refs) hB.rm hB.rk (hxs _ hmem) hg
      repeat (first | (refine r_put (p_bin (b_ne_t n1) rfl rfl rfl) rfl rfl ?_; conv => whnf) | ((first | refine qb rfl rfl ?_ | refine qi (by assumption) rfl rfl ?_ | refine ql rfl ?_ | refine qo rfl rfl ?_ | refine qs rfl rfl ?_ | refine qn rfl rfl ?_); conv => whnf) | (refine .inl (And.intro (by kernel_rfl) ?_); conv => whnf) | (refine qc (h4) rfl ?_; conv => whnf) | (refine r_step (p_ostore rfl rfl rfl rfl rfl (by conv => lhs; whnf) rfl) rfl rfl (fun e => by first | exact .inl rfl | contradiction | exact .inr (.inl (by kernel_rfl))) ?_; conv => whnf))
      exact r_tupCV (x := wld0) rfl rfl rfl rfl trivial rfl
    | true =>
      have h4 := ac_iNew (l := B.refs) (x := xs[k]) hB.rm hB.rk (hxs _ hmem) (ha _ hg) hg
      have hsn : (xs.take k).map (wtOf B.refs) ++ [wtOf B.refs xs[k]] = (xs.take (k + 1)).map (wtOf B.refs) := by rw [List.take_succ_eq_append_getElem hlt, List.map_append]; rfl
      repeat (first | ((first | refine qb rfl rfl ?_ | refine qi (by assumption) rfl rfl ?_ | refine ql rfl ?_ | refine qo rfl rfl ?_ | refine qs rfl rfl ?_ | refine qn rfl rfl ?_); conv => whnf) | (refine .inl (And.intro (by kernel_rfl) ?_); conv => whnf) | (refine qc (h4) rfl ?_; conv => whnf) | (refine r_step (p_ostore rfl rfl rfl rfl rfl (by conv => lhs; whnf) rfl) rfl rfl (fun e => by first | exact .inl rfl | contradiction | exact .inr (.inl (by kernel_rfl))) ?_; conv => whnf) | (refine r_put (p_oldo rfl rfl rfl rfl rfl rfl rfl rfl) rfl rfl ?_; conv => whnf) | (refine r_step (p_bsl1 rfl rfl rfl rfl rfl rfl) rfl rfl (fun e => by first | exact .inl rfl | contradiction | exact .inr (.inl (by kernel_rfl))) ?_; conv => whnf))
      refine r_step (p_app1r (f := watA) (wtOf B.refs xs[k]) _ hsn (by simp; omega) rfl rfl rfl rfl rfl rfl rfl) rfl rfl (fun e => by first | exact .inl rfl | contradiction | exact .inr (.inl (by kernel_rfl))) ?_
      conv => whnf
      repeat (first | ((first | refine qb rfl rfl ?_ | refine qi (by assumption) rfl rfl ?_ | refine ql rfl ?_ | refine qo rfl rfl ?_ | refine qs rfl rfl ?_ | refine qn rfl rfl ?_); conv => whnf) | (refine r_step (p_ostoreo rfl rfl rfl rfl rfl rfl) rfl rfl (fun e => by first | exact .inl rfl | contradiction | exact .inr (.inl (by kernel_rfl))) ?_; conv => whnf))
      exact ⟨⟨k + 1, hlt, fun j hj h => by
          rcases Nat.lt_succ_iff_lt_or_eq.1 h with h | h
          · exact hall j hj h
          · subst h; exact hg⟩, by refine ⟨?_, ?_⟩ <;> (repeat (first | trivial | exact ⟨rfl, trivial⟩ | refine ⟨rfl, ?_⟩ | refine ⟨.inl ⟨rfl, rfl⟩, ?_⟩ | refine ⟨.inr ⟨_, _, rfl, rfl, rfl, rfl, rfl⟩, ?_⟩)), by simp; omega⟩
  · exfalso
    have : xs.all okN = true := by
      rw [List.all_eq_true]
      intro x h
      obtain ⟨j, hj, rfl⟩ := List.getElem_of_mem h
      exact hall j hj (by omega)
    rw [this] at hn; cases hn
theorem ac_l07W6 {ws : List Wsh} (hl : ws.length ≤ maxLen) (hc : ∀ c ∈ ws, c.ok maxLen) : AC Tryz.prog 25 [.lst 5 (ws.map wshA)] ⟨.v (.bool (decide (ws.length ≤ 6) && wssB ws)), []⟩ := by
  by_cases h : ws.length ≤ 6
  · rw [decide_eq_true h, Bool.true_and]; exact ac_l07Wishes h hc
  · rw [decide_eq_false h, Bool.false_and]
    unfold maxLen at hl
    refine r_of Th_ok (by kernel_rfl) Tryz.func25 rfl Tryz.ntmps25 Tryz.results25 (by kernel_rfl) rfl ?_; conv => whnf
    repeat (((first | refine qb rfl rfl ?_ | refine qi (by assumption) rfl rfl ?_ | refine ql rfl ?_ | refine qo rfl rfl ?_ | refine qs rfl rfl ?_ | refine qn rfl rfl ?_); conv => whnf))
    exact r_ret1 rfl trivial
theorem ac_sNewW_w {B : Bas} {css : List (List Wsh)} {xs : List ByteArray} (hB : B.ok maxLen) (hcl : ∀ ws ∈ css, ws.length ≤ maxLen) (hcs : ∀ ws ∈ css, ∀ c ∈ ws, c.ok maxLen) (hxs : ∀ x ∈ xs, x.size ≤ maxLen) (hsm : B.store.length ≤ 1048576) (hsc : ∀ c ∈ B.store, c.1.length ≤ 1048576 ∧ c.2.length ≤ 1048576) (hrm : B.refs.length ≤ 1048576) (he : ∀ ws ∈ css, ∀ c ∈ ws, c.edits.length ≤ 1048576)
    (hb : basB B = true) (h5 : css.length ≤ 5) (h3 : xs.length ≤ 3) (hw : css.all (fun ws => decide (ws.length ≤ 6) && wssB ws) = false) :
    AC Tryz.prog 7 [basA B, .lst 1 (css.map wssA), .lst 1 (xs.map strA)] ⟨.tup [wld0, .v (.int .i64 1)], []⟩ := by
  have h1 := ac_l05OK hB
  rw [hb] at h1
  refine r_of Th_ok (by kernel_rfl) Tryz.func7 rfl Tryz.ntmps7 Tryz.results7 (by kernel_rfl) rfl ?_; conv => whnf
  repeat (first | ((first | refine qb rfl rfl ?_ | refine qi (by assumption) rfl rfl ?_ | refine ql rfl ?_ | refine qo rfl rfl ?_ | refine qs rfl rfl ?_ | refine qn rfl rfl ?_); conv => whnf) | (refine .inl (And.intro (by kernel_rfl) ?_); conv => whnf) | (refine qc (h1) rfl ?_; conv => whnf))
  refine r_loop (ι := { k : Nat // k ≤ css.length ∧ ∀ j (hj : j < css.length), j < k → (decide (css[j].length ≤ 6) && wssB css[j]) = true }) (fun k => ⟨[(1, .lst 1 (css.map wssA)), (2, .lst 1 (xs.map strA)), (3, .optr 4 0 [] 0), (6, .optr 7 0 [] 0), (8, .v (.int .i64 (k.1 : Int)))], [(4, ⟨.s 34, 2, [basA B]⟩), (7, ⟨.z 39, 6, [wld0]⟩)]⟩) (fun k => css.length - k.1) ⟨0, Nat.zero_le _, fun j _ h => by omega⟩ (by refine ⟨?_, ?_⟩ <;> (repeat (first | trivial | exact ⟨rfl, trivial⟩ | refine ⟨rfl, ?_⟩ | refine ⟨.inl ⟨rfl, rfl⟩, ?_⟩ | refine ⟨.inr ⟨_, _, rfl, rfl, rfl, rfl, rfl⟩, ?_⟩))) ?_
  rintro ⟨k, hk, hall⟩
  dsimp only
  conv => whnf
  by_cases hlt : k < css.length
  · have hmem := List.getElem_mem hlt
    have h5 := ac_l07W6 (hcl _ hmem) (hcs _ hmem)
    cases hg : (decide (css[k].length ≤ 6) && wssB css[k]) with
    | false =>
      rw [hg] at h5
      repeat (first | ((first | refine qb rfl rfl ?_ | refine qi (by assumption) rfl rfl ?_ | refine ql rfl ?_ | refine qo rfl rfl ?_ | refine qs rfl rfl ?_ | refine qn rfl rfl ?_); conv => whnf) | (refine .inl (And.intro (by kernel_rfl) ?_); conv => whnf) | (refine qc (h5) rfl ?_; conv => whnf) | (refine r_step (p_ostore rfl rfl rfl rfl rfl (by conv => lhs; whnf) rfl) rfl rfl (fun e => by first | exact .inl rfl | contradiction | exact .inr (.inl (by kernel_rfl))) ?_; conv => whnf))
      exact r_tupCV (x := wld0) rfl rfl rfl rfl trivial rfl
    | true =>
      rw [hg] at h5
      repeat (first | ((first | refine qb rfl rfl ?_ | refine qi (by assumption) rfl rfl ?_ | refine ql rfl ?_ | refine qo rfl rfl ?_ | refine qs rfl rfl ?_ | refine qn rfl rfl ?_); conv => whnf) | (refine .inl (And.intro (by kernel_rfl) ?_); conv => whnf) | (refine qc (h5) rfl ?_; conv => whnf))
      exact ⟨⟨k + 1, hlt, fun j hj h => by
        rcases Nat.lt_succ_iff_lt_or_eq.1 h with h | h
        · exact hall j hj h
        · subst h; exact hg⟩, by refine ⟨?_, ?_⟩ <;> (repeat (first | trivial | exact ⟨rfl, trivial⟩ | refine ⟨rfl, ?_⟩ | refine ⟨.inl ⟨rfl, rfl⟩, ?_⟩ | refine ⟨.inr ⟨_, _, rfl, rfl, rfl, rfl, rfl⟩, ?_⟩)), by simp; omega⟩
  · exfalso
    have : css.all (fun ws => decide (ws.length ≤ 6) && wssB ws) = true := by
      rw [List.all_eq_true]
      intro ws h
      obtain ⟨j, hj, rfl⟩ := List.getElem_of_mem h
      exact hall j hj (by omega)
    rw [this] at hw; cases hw
theorem ac_sNewW_n {B : Bas} {css : List (List Wsh)} {xs : List ByteArray} (hB : B.ok maxLen) (hcl : ∀ ws ∈ css, ws.length ≤ maxLen) (hcs : ∀ ws ∈ css, ∀ c ∈ ws, c.ok maxLen) (hxs : ∀ x ∈ xs, x.size ≤ maxLen) (hsm : B.store.length ≤ 1048576) (hsc : ∀ c ∈ B.store, c.1.length ≤ 1048576 ∧ c.2.length ≤ 1048576) (hrm : B.refs.length ≤ 1048576) (he : ∀ ws ∈ css, ∀ c ∈ ws, c.edits.length ≤ 1048576)
    (hb : basB B = true) (h5 : css.length ≤ 5) (h3 : xs.length ≤ 3) (hw : ∀ ws ∈ css, ws.length ≤ 6 ∧ wssB ws = true) (hn : xs.all okN = false) :
    AC Tryz.prog 7 [basA B, .lst 1 (css.map wssA), .lst 1 (xs.map strA)] ⟨.tup [wld0, .v (.int .i64 10)], []⟩ := by
  have h1 := ac_l05OK hB
  rw [hb] at h1
  refine r_of Th_ok (by kernel_rfl) Tryz.func7 rfl Tryz.ntmps7 Tryz.results7 (by kernel_rfl) rfl ?_; conv => whnf
  repeat (first | ((first | refine qb rfl rfl ?_ | refine qi (by assumption) rfl rfl ?_ | refine ql rfl ?_ | refine qo rfl rfl ?_ | refine qs rfl rfl ?_ | refine qn rfl rfl ?_); conv => whnf) | (refine .inl (And.intro (by kernel_rfl) ?_); conv => whnf) | (refine qc (h1) rfl ?_; conv => whnf))
  refine r_loop (ι := { k : Nat // k ≤ css.length }) (fun k => ⟨[(1, .lst 1 (css.map wssA)), (2, .lst 1 (xs.map strA)), (3, .optr 4 0 [] 0), (6, .optr 7 0 [] 0), (8, .v (.int .i64 (k.1 : Int)))], [(4, ⟨.s 34, 2, [basA B]⟩), (7, ⟨.z 39, 6, [wld0]⟩)]⟩) (fun k => css.length - k.1) ⟨0, Nat.zero_le _⟩ (by refine ⟨?_, ?_⟩ <;> (repeat (first | trivial | exact ⟨rfl, trivial⟩ | refine ⟨rfl, ?_⟩ | refine ⟨.inl ⟨rfl, rfl⟩, ?_⟩ | refine ⟨.inr ⟨_, _, rfl, rfl, rfl, rfl, rfl⟩, ?_⟩))) ?_
  rintro ⟨k, hk⟩
  dsimp only
  conv => whnf
  by_cases hlt : k < css.length
  · have hmem := List.getElem_mem hlt
    have h5 := ac_l07Wishes (hw _ hmem).1 (hcs _ hmem)
    rw [(hw _ hmem).2] at h5
    repeat (first | ((first | refine qb rfl rfl ?_ | refine qi (by assumption) rfl rfl ?_ | refine ql rfl ?_ | refine qo rfl rfl ?_ | refine qs rfl rfl ?_ | refine qn rfl rfl ?_); conv => whnf) | (refine .inl (And.intro (by kernel_rfl) ?_); conv => whnf) | (refine qc (h5) rfl ?_; conv => whnf))
    exact ⟨⟨k + 1, hlt⟩, by refine ⟨?_, ?_⟩ <;> (repeat (first | trivial | exact ⟨rfl, trivial⟩ | refine ⟨rfl, ?_⟩ | refine ⟨.inl ⟨rfl, rfl⟩, ?_⟩ | refine ⟨.inr ⟨_, _, rfl, rfl, rfl, rfl, rfl⟩, ?_⟩)), by simp; omega⟩
  have hkk : k = css.length := by omega
  subst hkk
  repeat (((first | refine qb rfl rfl ?_ | refine qi (by assumption) rfl rfl ?_ | refine ql rfl ?_ | refine qo rfl rfl ?_ | refine qs rfl rfl ?_ | refine qn rfl rfl ?_); conv => whnf))
  refine r_loop (ι := { k : Nat // k ≤ xs.length ∧ ∀ j (hj : j < xs.length), j < k → okN xs[j] = true }) (fun k => ⟨[(1, .lst 1 (css.map wssA)), (2, .lst 1 (xs.map strA)), (3, .optr 4 0 [] 0), (6, .optr 7 0 [] 0), (9, .v (.int .i64 (k.1 : Int)))], [(4, ⟨.s 34, 2, [basA B]⟩), (7, ⟨.z 39, 6, [wld0]⟩)]⟩) (fun k => xs.length - k.1) ⟨0, Nat.zero_le _, fun j _ h => by omega⟩ (by refine ⟨?_, ?_⟩ <;> (repeat (first | trivial | exact ⟨rfl, trivial⟩ | refine ⟨rfl, ?_⟩ | refine ⟨.inl ⟨rfl, rfl⟩, ?_⟩ | refine ⟨.inr ⟨_, _, rfl, rfl, rfl, rfl, rfl⟩, ?_⟩))) ?_
  rintro ⟨k, hk, hall⟩
  dsimp only
  conv => whnf
  by_cases hlt : k < xs.length
  · have hmem := List.getElem_mem hlt
    cases hg : okN xs[k] with
    | false =>
      have h5 := ac_l00Word (hxs _ hmem) hg
      repeat (first | ((first | refine qb rfl rfl ?_ | refine qi (by assumption) rfl rfl ?_ | refine ql rfl ?_ | refine qo rfl rfl ?_ | refine qs rfl rfl ?_ | refine qn rfl rfl ?_); conv => whnf) | (refine .inl (And.intro (by kernel_rfl) ?_); conv => whnf) | (refine qc (h5) rfl ?_; conv => whnf) | (refine r_step (p_ostore rfl rfl rfl rfl rfl (by conv => lhs; whnf) rfl) rfl rfl (fun e => by first | exact .inl rfl | contradiction | exact .inr (.inl (by kernel_rfl))) ?_; conv => whnf))
      exact r_tupCV (x := wld0) rfl rfl rfl rfl trivial rfl
    | true =>
      have h5 := ac_l00Word (hxs _ hmem) hg
      repeat (first | ((first | refine qb rfl rfl ?_ | refine qi (by assumption) rfl rfl ?_ | refine ql rfl ?_ | refine qo rfl rfl ?_ | refine qs rfl rfl ?_ | refine qn rfl rfl ?_); conv => whnf) | (refine .inl (And.intro (by kernel_rfl) ?_); conv => whnf) | (refine qc (h5) rfl ?_; conv => whnf))
      exact ⟨⟨k + 1, hlt, fun j hj h => by
        rcases Nat.lt_succ_iff_lt_or_eq.1 h with h | h
        · exact hall j hj h
        · subst h; exact hg⟩, by refine ⟨?_, ?_⟩ <;> (repeat (first | trivial | exact ⟨rfl, trivial⟩ | refine ⟨rfl, ?_⟩ | refine ⟨.inl ⟨rfl, rfl⟩, ?_⟩ | refine ⟨.inr ⟨_, _, rfl, rfl, rfl, rfl, rfl⟩, ?_⟩)), by simp; omega⟩
  · exfalso
    have : xs.all okN = true := by
      rw [List.all_eq_true]
      intro x h
      obtain ⟨j, hj, rfl⟩ := List.getElem_of_mem h
      exact hall j hj (by omega)
    rw [this] at hn; cases hn
end Go.Proofs.YtmfmclnklpbiaaaGreat.AM
