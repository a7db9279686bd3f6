/- Texts of the machine over data, folded. -/
import Derived.Test.YtmfmclnklpbiaaaKp7
import Derived.Test.YtmfmclnklpbiaaaKp11
import Derived.Test.YtmfmclnklpbiaaaKp2
namespace Go.Proofs.Ytmfmclnklpbiaaa.AM
open Go Go.RowKit
set_option linter.unusedVariables false
set_option linter.unusedSimpArgs false
set_option maxRecDepth 100000
attribute [local irreducible] ACode AOps AOps2 RetG RetM Pre ACG
theorem ac_eqEntN : AC Try.prog 71 [nilV, .lst 2 []] ⟨.v (.bool true), []⟩ := by
  refine r_of Th_ok (by kernel_rfl) Try.func71 rfl Try.ntmps71 Try.results71 (by kernel_rfl) rfl ?_; conv => whnf
  repeat (first | ((first | refine qb rfl rfl ?_ | refine qi (by assumption) rfl rfl ?_ | refine ql rfl ?_ | refine qo rfl rfl ?_ | refine qs rfl rfl ?_ | refine qn rfl rfl ?_); conv => whnf) | (refine .inl (And.intro (by kernel_rfl) ?_); conv => whnf) | (refine r_put (p_bin (b_ne_f (by simp)) rfl rfl rfl) rfl rfl ?_; conv => whnf) | (refine r_put (p_bin (b_lt_f (by simp)) rfl rfl rfl) rfl rfl ?_; conv => whnf))
  refine r_loop (ι := Unit) (fun _ => ⟨[(0, nilV), (1, .lst 2 []), (5, .v (.int .i64 0))], []⟩) (fun _ => 0) () (by refine ⟨?_, ?_⟩ <;> (repeat (first | trivial | exact ⟨rfl, trivial⟩ | refine ⟨rfl, ?_⟩ | refine ⟨.inl ⟨rfl, rfl⟩, ?_⟩ | refine ⟨.inr ⟨_, _, rfl, rfl, rfl, rfl, rfl⟩, ?_⟩))) ?_
  rintro ⟨⟩
  try dsimp only
  conv => whnf
  repeat (first | ((first | refine qb rfl rfl ?_ | refine qi (by assumption) rfl rfl ?_ | refine ql rfl ?_ | refine qo rfl rfl ?_ | refine qs rfl rfl ?_ | refine qn rfl rfl ?_); conv => whnf) | (refine .inl (And.intro (by kernel_rfl) ?_); conv => whnf) | (refine r_put (p_bin (b_ne_f (by simp)) rfl rfl rfl) rfl rfl ?_; conv => whnf) | (refine r_put (p_bin (b_lt_f (by simp)) rfl rfl rfl) rfl rfl ?_; conv => whnf))
  exact r_ret1 rfl trivial
theorem ac_markEntN {k0 : Int} : AC Try.prog 74 [nilV, .v (.int .i64 k0)] ⟨.v (.int .i64 k0), []⟩ := by
  refine r_of Th_ok (by kernel_rfl) Try.func74 rfl Try.ntmps74 Try.results74 (by kernel_rfl) rfl ?_; conv => whnf
  refine r_loop (ι := Unit) (fun _ => ⟨[(0, nilV), (1, .v (.int .i64 k0)), (5, .v (.int .i64 0))], []⟩) (fun _ => 0) () (by refine ⟨?_, ?_⟩ <;> (repeat (first | trivial | exact ⟨rfl, trivial⟩ | refine ⟨rfl, ?_⟩ | refine ⟨.inl ⟨rfl, rfl⟩, ?_⟩ | refine ⟨.inr ⟨_, _, rfl, rfl, rfl, rfl, rfl⟩, ?_⟩))) ?_
  rintro ⟨⟩
  try dsimp only
  conv => whnf
  repeat (first | (refine r_put (p_bin (b_lt_f (by simp)) rfl rfl rfl) rfl rfl ?_; conv => whnf) | ((first | refine qb rfl rfl ?_ | refine qi (by assumption) rfl rfl ?_ | refine ql rfl ?_ | refine qo rfl rfl ?_ | refine qs rfl rfl ?_ | refine qn rfl rfl ?_); conv => whnf))
  exact r_ret1 rfl trivial
theorem ac_markEnt0 {k0 : Int} : AC Try.prog 74 [.lst 2 [], .v (.int .i64 k0)] ⟨.v (.int .i64 k0), []⟩ := by
  refine r_of Th_ok (by kernel_rfl) Try.func74 rfl Try.ntmps74 Try.results74 (by kernel_rfl) rfl ?_; conv => whnf
  refine r_loop (ι := Unit) (fun _ => ⟨[(0, .lst 2 []), (1, .v (.int .i64 k0)), (5, .v (.int .i64 0))], []⟩) (fun _ => 0) () (by refine ⟨?_, ?_⟩ <;> (repeat (first | trivial | exact ⟨rfl, trivial⟩ | refine ⟨rfl, ?_⟩ | refine ⟨.inl ⟨rfl, rfl⟩, ?_⟩ | refine ⟨.inr ⟨_, _, rfl, rfl, rfl, rfl, rfl⟩, ?_⟩))) ?_
  rintro ⟨⟩
  try dsimp only
  conv => whnf
  repeat (first | (refine r_put (p_bin (b_lt_f (by simp)) rfl rfl rfl) rfl rfl ?_; conv => whnf) | ((first | refine qb rfl rfl ?_ | refine qi (by assumption) rfl rfl ?_ | refine ql rfl ?_ | refine qo rfl rfl ?_ | refine qs rfl rfl ?_ | refine qn rfl rfl ?_); conv => whnf))
  exact r_ret1 rfl trivial
theorem ac_markWish0 {k0 : Int} : AC Try.prog 34 [.lst 5 [], .v (.int .i64 k0)] ⟨.v (.int .i64 k0), []⟩ := by
  refine r_of Th_ok (by kernel_rfl) Try.func34 rfl Try.ntmps34 Try.results34 (by kernel_rfl) rfl ?_; conv => whnf
  refine r_loop (ι := Unit) (fun _ => ⟨[(0, .lst 5 []), (1, .v (.int .i64 k0)), (5, .v (.int .i64 0))], []⟩) (fun _ => 0) () (by refine ⟨?_, ?_⟩ <;> (repeat (first | trivial | exact ⟨rfl, trivial⟩ | refine ⟨rfl, ?_⟩ | refine ⟨.inl ⟨rfl, rfl⟩, ?_⟩ | refine ⟨.inr ⟨_, _, rfl, rfl, rfl, rfl, rfl⟩, ?_⟩))) ?_
  rintro ⟨⟩
  try dsimp only
  conv => whnf
  repeat (first | (refine r_put (p_bin (b_lt_f (by simp)) rfl rfl rfl) rfl rfl ?_; conv => whnf) | ((first | refine qb rfl rfl ?_ | refine qi (by assumption) rfl rfl ?_ | refine ql rfl ?_ | refine qo rfl rfl ?_ | refine qs rfl rfl ?_ | refine qn rfl rfl ?_); conv => whnf))
  exact r_ret1 rfl trivial
theorem ac_heldEntN {k0 : Int} : AC Try.prog 76 [nilV, .v (.int .i64 k0)] ⟨.v (.int .i64 k0), []⟩ := by
  refine r_of Th_ok (by kernel_rfl) Try.func76 rfl Try.ntmps76 Try.results76 (by kernel_rfl) rfl ?_; conv => whnf
  refine r_loop (ι := Unit) (fun _ => ⟨[(0, nilV), (1, .v (.int .i64 k0)), (5, .v (.int .i64 0))], []⟩) (fun _ => 0) () (by refine ⟨?_, ?_⟩ <;> (repeat (first | trivial | exact ⟨rfl, trivial⟩ | refine ⟨rfl, ?_⟩ | refine ⟨.inl ⟨rfl, rfl⟩, ?_⟩ | refine ⟨.inr ⟨_, _, rfl, rfl, rfl, rfl, rfl⟩, ?_⟩))) ?_
  rintro ⟨⟩
  try dsimp only
  conv => whnf
  repeat (first | (refine r_put (p_bin (b_lt_f (by simp)) rfl rfl rfl) rfl rfl ?_; conv => whnf) | ((first | refine qb rfl rfl ?_ | refine qi (by assumption) rfl rfl ?_ | refine ql rfl ?_ | refine qo rfl rfl ?_ | refine qs rfl rfl ?_ | refine qn rfl rfl ?_); conv => whnf))
  exact r_ret1 rfl trivial
theorem ac_eqClientN {ws : List Wsh} (hm : ws.length ≤ maxLen) (hc : ∀ c ∈ ws, c.edits.length ≤ maxLen) : AC Try.prog 32 [cliZ ws nilV, cliZ ws (.lst 2 [])] ⟨.v (.bool true), []⟩ := by
  have h1 := ac_eqWishS hm hc
  refine r_of Th_ok (by kernel_rfl) Try.func32 rfl Try.ntmps32 Try.results32 (by kernel_rfl) rfl ?_; conv => whnf
  repeat (first | (refine r_put (p_bin (b_ne_f rfl) rfl rfl rfl) rfl rfl ?_; conv => whnf) | ((first | refine qb rfl rfl ?_ | refine qi (by assumption) rfl rfl ?_ | refine ql rfl ?_ | refine qo rfl rfl ?_ | refine qs rfl rfl ?_ | refine qn rfl rfl ?_); conv => whnf) | (refine qc (h1) rfl ?_; conv => whnf) | (refine qc (ac_eqEntN) rfl ?_; conv => whnf))
  exact r_ret1 rfl trivial
theorem ac_eqClient0 : AC Try.prog 32 [cliZ [] (.lst 2 []), cliZ [] (.lst 2 [])] ⟨.v (.bool true), []⟩ := by
  have h1 := ac_eqWishS (l := []) (by simp) (fun c h => by cases h)
  have h2 := ac_eqEntryS (es := []) (es' := []) (by simp) (by simp)
  rw [decide_eq_true rfl] at h2
  refine r_of Th_ok (by kernel_rfl) Try.func32 rfl Try.ntmps32 Try.results32 (by kernel_rfl) rfl ?_; conv => whnf
  repeat (first | (refine r_put (p_bin (b_ne_f rfl) rfl rfl rfl) rfl rfl ?_; conv => whnf) | ((first | refine qb rfl rfl ?_ | refine qi (by assumption) rfl rfl ?_ | refine ql rfl ?_ | refine qo rfl rfl ?_ | refine qs rfl rfl ?_ | refine qn rfl rfl ?_); conv => whnf) | (refine qc (h1) rfl ?_; conv => whnf) | (refine qc (h2) rfl ?_; conv => whnf))
  exact r_ret1 rfl trivial
theorem ac_markClient {ws : List Wsh} {k0 : Int} (hm : ws.length ≤ 1048600) (ht : totH ws ≤ 1048600) (h0 : 0 ≤ k0) (h1 : kW ws k0 ≤ 8388608) :
    ACG Try.prog 35 [.mix (cliO 0), .v (.int .i64 k0)] [⟨.d 102, 5, ws.map wshA⟩] [⟨.d 102, 5, (markedW ws k0).map wshA⟩] ⟨.v (.int .i64 (kW ws k0)), []⟩ := by
  refine acg_of (rs := [.tmp 4]) Th_ok (by kernel_rfl) Try.func35 rfl Try.ntmps35 (by rw [Try.results35]) (by kernel_rfl) (by simp) rfl rfl (runC_sound _ _ _ ?_)
  conv => whnf
  repeat (first | ((first | refine qb rfl rfl ?_ | refine qi (by assumption) rfl rfl ?_ | refine ql rfl ?_ | refine qo rfl rfl ?_ | refine qs rfl rfl ?_ | refine qn rfl rfl ?_); conv => whnf) | (refine r_step (p_boxo rfl rfl rfl) rfl rfl (fun e => by first | exact .inl rfl | contradiction | exact .inr (.inl (by kernel_rfl))) ?_; conv => whnf) | (refine r_step (p_callm (ac_markWishS (l := ws) (k0 := k0) (by omega) (by omega) (by omega) (by omega)) rfl rfl rfl rfl rfl rfl rfl) rfl rfl (fun e => by first | exact .inl rfl | contradiction | exact .inr (.inl (by kernel_rfl))) ?_; conv => whnf) | (refine qc (ac_markEntN) rfl ?_; conv => whnf) | (refine r_put (p_oldo rfl rfl rfl rfl rfl rfl rfl rfl) rfl rfl ?_; conv => whnf))
  exact r_ret1b rfl rfl
theorem ac_markClient0 {k0 : Int} : AC Try.prog 35 [cliZ [] (.lst 2 []), .v (.int .i64 k0)] ⟨.v (.int .i64 k0), []⟩ := by
  have h1 := ac_markWish0 (k0 := k0)
  have h2 := ac_markEnt0 (k0 := k0)
  refine r_of Th_ok (by kernel_rfl) Try.func35 rfl Try.ntmps35 Try.results35 (by kernel_rfl) rfl ?_; conv => whnf
  repeat (first | ((first | refine qb rfl rfl ?_ | refine qi (by assumption) rfl rfl ?_ | refine ql rfl ?_ | refine qo rfl rfl ?_ | refine qs rfl rfl ?_ | refine qn rfl rfl ?_); conv => whnf) | (refine qc (h1) rfl ?_; conv => whnf) | (refine qc (h2) rfl ?_; conv => whnf))
  exact r_ret1 rfl trivial
theorem ac_heldClient {ws : List Wsh} {k0 : Int} (hm : ws.length ≤ 1048600) (ht : totH ws ≤ 1048600) (h0 : 0 ≤ k0) (h1 : kW ws k0 ≤ 8388608) (h2 : 0 ≤ kW ws k0) : AC Try.prog 36 [cliZ (markedW ws k0) nilV, .v (.int .i64 k0)] ⟨.v (.int .i64 (kW ws k0)), []⟩ := by
  have d1 := ac_heldWishS (l := ws) hm ht h0 h1
  have d2 := ac_heldEntN (k0 := kW ws k0)
  refine r_of Th_ok (by kernel_rfl) Try.func36 rfl Try.ntmps36 Try.results36 (by kernel_rfl) rfl ?_; conv => whnf
  repeat (first | ((first | refine qb rfl rfl ?_ | refine qi (by assumption) rfl rfl ?_ | refine ql rfl ?_ | refine qo rfl rfl ?_ | refine qs rfl rfl ?_ | refine qn rfl rfl ?_); conv => whnf) | (refine qc (d1) rfl ?_; conv => whnf) | (refine qc (d2) rfl ?_; conv => whnf))
  exact r_ret1 rfl trivial
theorem ac_heldClient0 {k0 : Int} (h0 : 0 ≤ k0) (h1 : k0 ≤ 8388608) : AC Try.prog 36 [cliZ [] (.lst 2 []), .v (.int .i64 k0)] ⟨.v (.int .i64 k0), []⟩ := by
  have d1 : AC Try.prog 75 [.lst 5 [], .v (.int .i64 k0)] ⟨.v (.int .i64 k0), []⟩ := ac_heldWishS (l := []) (k0 := k0) (by simp) (by simp [totH]) h0 (by simpa [kW] using h1)
  have d2 := ac_heldEntryS (n := 0) (k := k0) (by simp) h0 h1
  have e : k0 + 2 * ((0 : Nat) : Int) = k0 := by simp
  rw [e] at d2
  refine r_of Th_ok (by kernel_rfl) Try.func36 rfl Try.ntmps36 Try.results36 (by kernel_rfl) rfl ?_; conv => whnf
  repeat (first | ((first | refine qb rfl rfl ?_ | refine qi (by assumption) rfl rfl ?_ | refine ql rfl ?_ | refine qo rfl rfl ?_ | refine qs rfl rfl ?_ | refine qn rfl rfl ?_); conv => whnf) | (refine qc (d1) rfl ?_; conv => whnf) | (refine qc (d2) rfl ?_; conv => whnf))
  exact r_ret1 rfl trivial
theorem law_NewC_o {ws : List Wsh} (hm : ws.length ≤ 6) (hc : ∀ c ∈ ws, c.ok maxLen) (hsz : 0 ≤ szHS ws 1048576)
    (h1 : AC Try.prog 29 [.lst 5 (ws.map wshA)] ⟨.tup [.mix (cliP 0 1), .v (.int .i64 0)], [⟨102, 5, ws.map wshA⟩, ⟨127, 2, []⟩]⟩)
    (h2 : AC Try.prog 31 [.lst 5 (ws.map wshA)] ⟨.tup [.mix (cliO 0), .v (.int .i64 0)], [⟨.d 102, 5, ws.map wshA⟩]⟩) : AC Try.prog 5 [.lst 5 (ws.map wshA)] ⟨.v (.bool true), []⟩ := by
  have hm' : ws.length ≤ maxLen := by unfold maxLen; omega
  have tot := szHS_tot hsz
  have he : ∀ c ∈ ws, c.edits.length ≤ 1048576 := fun c h => by
    obtain ⟨j, hj, rfl⟩ := List.getElem_of_mem h
    have := totH_at ws j hj
    omega
  have s0 := ac_szWishS (l := 1048576) hm' hc (by omega) (by omega)
  have t0 := ac_toWishSD (l := ws) (by omega) he
  have e1 := ac_eqWishS (l := ws) hm' (fun c h => (hc c h).2.2.2.1)
  have e0 := ac_eqClientN (ws := ws) hm' (fun c h => (hc c h).2.2.2.1)
  have kk := (kW_le ws 1).2
  have m0 := ac_markWishS (l := ws) (k0 := 1) (by omega) (by omega) (by omega) (by omega)
  have m1 := ac_markClient (ws := ws) (k0 := 1) (by omega) (by omega) (by omega) (by omega)
  have d0 := ac_heldClient (ws := ws) (k0 := 1) (by omega) (by omega) (by omega) (by omega) (by omega)
  generalize hK : kW ws 1 = K at *
  refine r_of Th_ok (by kernel_rfl) Try.func5 rfl Try.ntmps5 Try.results5 (by kernel_rfl) rfl ?_; conv => whnf
  repeat (first | ((first | refine qb rfl rfl ?_ | refine qi (by assumption) rfl rfl ?_ | refine ql rfl ?_ | refine qo rfl rfl ?_ | refine qs rfl rfl ?_ | refine qn rfl rfl ?_); conv => whnf) | (refine .inl (And.intro (by kernel_rfl) ?_); conv => whnf) | (refine qc (s0) rfl ?_; conv => whnf) | (refine qc (t0) rfl ?_; conv => whnf) | (refine qf (h1) rfl ?_; conv => whnf) | (refine r_step (p_ostoreo rfl rfl rfl rfl rfl rfl) rfl rfl (fun e => by first | exact .inl rfl | contradiction | exact .inr (.inl (by kernel_rfl))) ?_; conv => whnf))
  have hfl : ∀ ob ∈ [(⟨.d 102, 5, ws.map wshA⟩ : OB)], flatO ob := fun ob h => by rw [List.mem_singleton] at h; subst h; trivial
  repeat (first | ((first | refine qb rfl rfl ?_ | refine qi (by assumption) rfl rfl ?_ | refine ql rfl ?_ | refine qo rfl rfl ?_ | refine qs rfl rfl ?_ | refine qn rfl rfl ?_); conv => whnf) | (refine .inl (And.intro (by kernel_rfl) ?_); conv => whnf) | (refine qc (t0) rfl ?_; conv => whnf) | (refine qc (e0) rfl ?_; conv => whnf) | (refine qc (e1) rfl ?_; conv => whnf) | (refine r_step (p_call h2 rfl (.inr ⟨by simp [flatA, flatL, cliO], hfl⟩) (by first | exact trivial | exact ⟨⟨rfl, rfl, rfl⟩, trivial⟩ | exact ⟨⟨rfl, rfl, rfl⟩, ⟨rfl, rfl, rfl⟩, trivial⟩ | exact ⟨⟨rfl, rfl, rfl⟩, ⟨rfl, rfl, rfl⟩, ⟨rfl, rfl, rfl⟩, trivial⟩) rfl rfl) rfl rfl (fun e => by first | exact .inl rfl | contradiction | exact .inr (.inl (by kernel_rfl))) ?_; conv => whnf) | (refine r_step (p_ostoreo rfl rfl rfl rfl rfl rfl) rfl rfl (fun e => by first | exact .inl rfl | contradiction | exact .inr (.inl (by kernel_rfl))) ?_; conv => whnf))
  repeat (first | ((first | refine qb rfl rfl ?_ | refine qi (by assumption) rfl rfl ?_ | refine ql rfl ?_ | refine qo rfl rfl ?_ | refine qs rfl rfl ?_ | refine qn rfl rfl ?_); conv => whnf) | (refine .inl (And.intro (by kernel_rfl) ?_); conv => whnf) | (refine r_step (p_callm (m0) rfl rfl rfl rfl rfl rfl rfl) rfl rfl (fun e => by first | exact .inl rfl | contradiction | exact .inr (.inl (by kernel_rfl))) ?_; conv => whnf) | (refine qc (e0) rfl ?_; conv => whnf))
  refine r_step (p_callg [30] m1 rfl rfl ⟨rfl, trivial⟩ rfl rfl trivial rfl rfl rfl (.inl rfl) rfl) rfl rfl (fun e => by first | exact .inl rfl | contradiction | exact .inr (.inl (by kernel_rfl))) ?_
  conv => whnf
  repeat (first | ((first | refine qb rfl rfl ?_ | refine qi (by assumption) rfl rfl ?_ | refine ql rfl ?_ | refine qo rfl rfl ?_ | refine qs rfl rfl ?_ | refine qn rfl rfl ?_); conv => whnf) | (refine .inl (And.intro (by kernel_rfl) ?_); conv => whnf) | (refine qc (d0) rfl ?_; conv => whnf) | (refine qc (t0) rfl ?_; conv => whnf) | (refine qc (e0) rfl ?_; conv => whnf) | (refine r_step (p_call h2 rfl (.inr ⟨by simp [flatA, flatL, cliO], hfl⟩) (by first | exact trivial | exact ⟨⟨rfl, rfl, rfl⟩, trivial⟩ | exact ⟨⟨rfl, rfl, rfl⟩, ⟨rfl, rfl, rfl⟩, trivial⟩ | exact ⟨⟨rfl, rfl, rfl⟩, ⟨rfl, rfl, rfl⟩, ⟨rfl, rfl, rfl⟩, trivial⟩) rfl rfl) rfl rfl (fun e => by first | exact .inl rfl | contradiction | exact .inr (.inl (by kernel_rfl))) ?_; conv => whnf) | (refine r_step (p_ostoreo rfl rfl rfl rfl rfl rfl) rfl rfl (fun e => by first | exact .inl rfl | contradiction | exact .inr (.inl (by kernel_rfl))) ?_; conv => whnf))
  exact r_ret1 rfl trivial
theorem law_NewC_b {ws : List Wsh} (hm : ws.length ≤ maxLen) (hc : ∀ c ∈ ws, c.ok maxLen) (hsz : 0 ≤ szHS ws 1048576) (hb : cliK ws ≠ 0) : AC Try.prog 5 [.lst 5 (ws.map wshA)] ⟨.v (.bool true), []⟩ := by
  have h1 := ac_sNewC_bad hm hc hb
  have h2 := ac_iNewC_bad hm hc hb
  have hm' := hm
  unfold maxLen at hm'
  have tot := szHS_tot hsz
  have he : ∀ c ∈ ws, c.edits.length ≤ 1048576 := fun c h => by
    obtain ⟨j, hj, rfl⟩ := List.getElem_of_mem h
    have := totH_at ws j hj
    omega
  have s0 := ac_szWishS (l := 1048576) hm hc (by omega) (by omega)
  have t0 := ac_toWishSD (l := ws) (by omega) he
  have e1 := ac_eqWishS (l := ws) hm (fun c h => (hc c h).2.2.2.1)
  have e0 := ac_eqClient0
  have kk := (kW_le ws 1).2
  have m0 := ac_markWishS (l := ws) (k0 := 1) (by omega) (by omega) (by omega) (by omega)
  have m1 := ac_markClient0 (k0 := 1)
  have d0 := ac_heldClient0 (k0 := 1) (by omega) (by omega)
  generalize hK : kW ws 1 = K at *
  generalize cliK ws = code at *
  refine r_of Th_ok (by kernel_rfl) Try.func5 rfl Try.ntmps5 Try.results5 (by kernel_rfl) rfl ?_; conv => whnf
  repeat (first | ((first | refine qb rfl rfl ?_ | refine qi (by assumption) rfl rfl ?_ | refine ql rfl ?_ | refine qo rfl rfl ?_ | refine qs rfl rfl ?_ | refine qn rfl rfl ?_); conv => whnf) | (refine .inl (And.intro (by kernel_rfl) ?_); conv => whnf) | (refine qc (s0) rfl ?_; conv => whnf) | (refine qc (t0) rfl ?_; conv => whnf) | (refine qf (h1) rfl ?_; conv => whnf) | (refine r_step (p_ostore rfl rfl rfl rfl rfl (by conv => lhs; whnf) rfl) rfl rfl (fun e => by first | exact .inl rfl | contradiction | exact .inr (.inl (by kernel_rfl))) ?_; conv => whnf))
  repeat (first | ((first | refine qb rfl rfl ?_ | refine qi (by assumption) rfl rfl ?_ | refine ql rfl ?_ | refine qo rfl rfl ?_ | refine qs rfl rfl ?_ | refine qn rfl rfl ?_); conv => whnf) | (refine .inl (And.intro (by kernel_rfl) ?_); conv => whnf) | (refine qc (t0) rfl ?_; conv => whnf) | (refine qc (e0) rfl ?_; conv => whnf) | (refine qc (e1) rfl ?_; conv => whnf) | (refine r_step (p_call h2 rfl (.inr ⟨by simp [flatA, flatL, cliZ], flat_o0⟩) (by first | exact trivial | exact ⟨⟨rfl, rfl, rfl⟩, trivial⟩ | exact ⟨⟨rfl, rfl, rfl⟩, ⟨rfl, rfl, rfl⟩, trivial⟩ | exact ⟨⟨rfl, rfl, rfl⟩, ⟨rfl, rfl, rfl⟩, ⟨rfl, rfl, rfl⟩, trivial⟩) rfl rfl) rfl rfl (fun e => by first | exact .inl rfl | contradiction | exact .inr (.inl (by kernel_rfl))) ?_; conv => whnf) | (refine r_step (p_ostore rfl rfl rfl rfl rfl (by conv => lhs; whnf) rfl) rfl rfl (fun e => by first | exact .inl rfl | contradiction | exact .inr (.inl (by kernel_rfl))) ?_; conv => whnf) | (refine r_step (p_callm (m0) rfl rfl rfl rfl rfl rfl rfl) rfl rfl (fun e => by first | exact .inl rfl | contradiction | exact .inr (.inl (by kernel_rfl))) ?_; conv => whnf) | (refine qc (m1) rfl ?_; conv => whnf) | (refine qc (d0) rfl ?_; conv => whnf))
  exact r_ret1 rfl trivial
theorem law_NewClient {ws : List Wsh} (hm : ws.length ≤ maxLen) (hc : ∀ c ∈ ws, c.ok maxLen) : AC Try.prog 5 [.lst 5 (ws.map wshA)] ⟨.v (.bool true), []⟩ := by
  have s0 := ac_szWishS (l := 1048576) hm hc (by omega) (by omega)
  by_cases hsz : szHS ws 1048576 < 0
  · refine r_of Th_ok (by kernel_rfl) Try.func5 rfl Try.ntmps5 Try.results5 (by kernel_rfl) rfl ?_; conv => whnf
    repeat (first | ((first | refine qb rfl rfl ?_ | refine qi (by assumption) rfl rfl ?_ | refine ql rfl ?_ | refine qo rfl rfl ?_ | refine qs rfl rfl ?_ | refine qn rfl rfl ?_); conv => whnf) | (refine .inl (And.intro (by kernel_rfl) ?_); conv => whnf) | (refine qc (s0) rfl ?_; conv => whnf))
    exact r_ret1 rfl trivial
  by_cases hk : cliK ws = 0
  · have hb : ws.length ≤ 6 ∧ wssB ws = true := by
      unfold cliK at hk
      split at hk
      · omega
      · split at hk
        · omega
        · split at hk
          · rename_i a b c; exact ⟨by omega, c⟩
          · omega
    have tot := szHS_tot (by omega : 0 ≤ szHS ws 1048576)
    have he : ∀ c ∈ ws, c.edits.length ≤ 1048576 := fun c h => by
      obtain ⟨j, hj, rfl⟩ := List.getElem_of_mem h
      have := totH_at ws j hj
      omega
    exact law_NewC_o hb.1 hc (by omega) (ac_sNewC hb.1 hc he hb.2) (ac_iNewC hb.1 hc he hb.2)
  · exact law_NewC_b hm hc (by omega) hk
end Go.Proofs.Ytmfmclnklpbiaaa.AM
namespace Go.Proofs.Ytmfmclnklpbiaaa.AM
open Go Go.RowKit Go.ChangeShapes Go.WideShapes Go.Deep
set_option linter.unusedVariables false
set_option linter.unusedSimpArgs false
section
variable {H : Type} {enc : TypeId × Value → H} {P : Program} {w : World} {base : Nat} {held : Bool}
theorem open_wshs {ts t : TypeId} {f0 f1 f2 f3 f4 g0 g1 g2 : Field} {ee : TypeId} {A : Option Addr} {n c : Nat} {d : DataW H} {p : List MemPlace} (hs : P.underlying ts = some (.slice t)) (ht : P.underlying t = some (.struct #[f0, f1, f2, f3, f4])) (hone : oneCellFields P #[f0, f1, f2, f3, f4] = true) (hC : P.cellsOf t = 5)
    (h0 : P.underlying f0.type = some (.int .i64)) (h1 : P.underlying f1.type = some .string) (h2 : P.underlying f2.type = some .string) (h3 : P.underlying f3.type = some .string) (h4 : P.underlying f4.type = some (.slice ee))
    (he : P.underlying ee = some (.struct #[g0, g1, g2])) (hone1 : oneCellFields P #[g0, g1, g2] = true) (hC1 : P.cellsOf ee = 3) (k0 : P.underlying g0.type = some .string) (k1 : P.underlying g1.type = some (.int .i64)) (k2 : P.underlying g2.type = some .bool)
    (h : DataW.Trod enc P w base (fun _ => true) held ts (.slice A n c) d p) : ∃ ws : List Wsh, (∀ hp B V, RV (InW w) w hp B V (.lst 5 (ws.map wshA)) (.slice A n c)) ∧ ws.length ≤ maxLen ∧ ∀ x ∈ ws, x.ok maxLen := by
  obtain ⟨k, hk⟩ := h
  obtain ⟨l, hra, hm, hok⟩ := open_lst (enc := enc) (w := w) (base := base) (held := held) wshA (fun x => x.ok maxLen) (k := k) hs hC (by omega) (fun _ => rfl) (fun cs k y hc => by
    obtain ⟨o, ho, hk⟩ := open_wsh (cs := cs.toArray) ht hone hC h0 h1 h2 h3 h4 he hone1 hC1 k0 k1 k2 (trod_agg hc)
    exact ⟨o, ra_of_agg (xs := [_, _, _, _, _]) ho, hk⟩) (by simpa [Value.cells] using hk)
  exact ⟨l, fun hp B V => by unfold RV; exact hra, hm, hok⟩
end
end Go.Proofs.Ytmfmclnklpbiaaa.AM
