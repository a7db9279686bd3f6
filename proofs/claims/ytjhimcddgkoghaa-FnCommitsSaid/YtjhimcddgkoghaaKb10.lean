/- Texts of the machine over data, folded. -/
import Derived.Test.YtjhimcddgkoghaaKb7
import Derived.Test.YtjhimcddgkoghaaKb6
import Derived.Laws.StructEq
import Derived.Test.YtjhimcddgkoghaaKb5
import Derived.Test.YtjhimcddgkoghaaKb9
namespace Go.Proofs.Ytjhimcddgkoghaa
open Go.RowKit

theorem held_Entry : Try.prog.stoodInHeld 167 = false := by kernel_rfl
theorem guard_Entry : Try.prog.eqGuardType Try.prog.depth 167 = false := by kernel_rfl

set_option maxHeartbeats 1000000 in
set_option maxRecDepth 100000 in
theorem slicesEqual_any (A : Option Addr) (n c : Nat) (es : List Ent) (A' : Option Addr) (n' c' : Nat) (es' : List Ent) (w : World) (hr : Rd w 2 A n (entsC es)) (hr' : Rd w 2 A' n' (entsC es')) (hm : n ≤ maxLen) (hm' : n' ≤ maxLen) :
    Calls Try.prog 128 #[.slice A n c, .slice A' n' c'] w fun e w' => e = .returned (.bool (decide (es = es'))) ∧ Below w.heap.size w w' := by
  unfold maxLen at hm hm'
  have hlen := hr.len
  have hlen' := hr'.len
  have Hlen := Lib.hid hlen; clear hlen
  have Hlen' := Lib.hid hlen'; clear hlen'
  by_cases hne : n = n'
  case neg =>
    have hfin : Hid (decide (es = es') = false) := decide_eq_false (fun h => hne (by rw [← Hlen.out, ← Hlen'.out, h]))
    have hb : ((n : Int) != n') = true := by rw [bne_iff_ne]; omega
    go_enter Try.func128, Try.ntmps128
    go_wp2
    go_ret
    exact ⟨ret_bool hfin.out.symm, Below.refl _ _⟩
  subst hne
  go_enter Try.func128, Try.ntmps128
  go_wp2
  go_loopw [5, 13] (fun _ i wr => ∃ k : Nat, k ≤ n ∧ i = .int .i64 k ∧ es.take k = es'.take k ∧ Below w.heap.size w wr) (fun _ i _ => n - (intOf i).toNat)
  case atStart => exact ⟨0, Nat.zero_le _, rfl, rfl, Below.refl _ _⟩
  case round =>
    obtain ⟨k, hk, rfl, heq, hb⟩ := hrel
    have Heq := Lib.hid heq; clear heq
    by_cases hlt : k < n
    · have hke : k < es.length := by rw [Hlen.out]; exact hlt
      have hke' : k < es'.length := by rw [Hlen'.out]; exact hlt
      obtain ⟨b, off, rfl, hbl, hbl2, hc1, hc2⟩ := hr.ent hb hke
      obtain ⟨b', off', rfl, hbl', hbl2', hc1', hc2'⟩ := hr'.ent hb hke'
      have hA0 := fun y : Aft wr => y.cell hbl2 hc1
      have hA1 := fun y : Aft wr => y.cell hbl2 hc2
      have hA2 := fun y : Aft wr => y.cell hbl2' hc1'
      have hA3 := fun y : Aft wr => y.cell hbl2' hc2'
      have hyes : Hid (es[k] = es'[k] → es.take (k + 1) = es'.take (k + 1)) := by
        intro h'
        rw [List.take_succ_eq_append_getElem hke, List.take_succ_eq_append_getElem hke', Heq.out, h']
      have hno : Hid (es[k] ≠ es'[k] → decide (es = es') = false) := by
        intro h
        refine decide_eq_false (fun e => ?_)
        subst e
        exact h rfl
      generalize es[k] = ek at *
      generalize es'[k] = ek' at *
      obtain ⟨k1, v1⟩ := ek
      obtain ⟨k2, v2⟩ := ek'
      have hsh := held_Entry
      have hsg := guard_Entry
      by_cases hkk : k1 = k2
      · subst hkk
        by_cases hvv : v1 = v2
        · subst hvv
          have hyes' := Lib.hid (hyes.out rfl)
          clear hyes hno
          go_wp2
          refine wp_region_after (by kernel_rfl) (by kernel_rfl) ?_
          repeat (go_big_quiet_step (fail))
          refine wpQuiet_nil ?_
          rintro _ ⟨y, rfl⟩
          have hb3 := keepS hb y.below
          generalize y.at_ = w3 at *
          go_wp2
          go_roundw
          case rel => exact ⟨k + 1, by omega, by go_num, hyes'.out, hb3⟩
          case measure => simp [intOf]; omega
        · have hno' := Lib.hid (hno.out (fun h => hvv (by cases h; rfl)))
          clear hyes hno
          go_wp2
          refine wp_region_after (by kernel_rfl) (by kernel_rfl) ?_
          repeat (go_big_quiet_step (fail))
          refine wpQuiet_nil ?_
          rintro _ ⟨y, rfl⟩
          have hb3 := keepS hb y.below
          generalize y.at_ = w3 at *
          go_wp2
          go_ret
          exact ⟨ret_bool hno'.out.symm, hb3⟩
      · have hno' := Lib.hid (hno.out (fun h => hkk (by cases h; rfl)))
        have hkl : ¬ k1.toList = k2.toList := fun h => hkk (toList_inj h)
        clear hyes hno
        go_wp2
        refine wp_region_after (by kernel_rfl) (by kernel_rfl) ?_
        repeat (go_big_quiet_step (fail))
        refine wpQuiet_nil ?_
        rintro _ ⟨y, rfl⟩
        have hb3 := keepS hb y.below
        generalize y.at_ = w3 at *
        go_wp2
        go_ret
        exact ⟨ret_bool hno'.out.symm, hb3⟩
    · have hfin : Hid (decide (es = es') = true) := by
        have h := Heq.out
        rw [List.take_of_length_le (by rw [Hlen.out]; omega), List.take_of_length_le (by rw [Hlen'.out]; omega)] at h
        exact decide_eq_true h
      go_wp2
      go_ret
      exact ⟨ret_bool hfin.out.symm, hb⟩

end Go.Proofs.Ytjhimcddgkoghaa
/- Two stores compared, on both sides; the law of SameStore over data. -/
namespace Go.Proofs.Ytjhimcddgkoghaa.AM
open Go Go.RowKit
set_option linter.unusedVariables false
set_option linter.unusedSimpArgs false
set_option maxRecDepth 100000
attribute [local irreducible] ACode AOps AOps2 RetG RetM Pre ACG
theorem ent_128 : ∀ vs w, (callFunc 128 vs).run Try.prog w = .ok (.enter 128 vs) w := ent_of Try.func128 (by kernel_rfl) (by kernel_rfl)
theorem ac_eqlEnts {es es' : List Ent} (hm : es.length ≤ maxLen) (hm' : es'.length ≤ maxLen) : AC Try.prog 128 [.lst 2 (es.map entA), .lst 2 (es'.map entA)] ⟨.v (.bool (decide (es = es'))), []⟩ :=
  ac_val ent_128 rfl fun w S0 vs hS hv => by
    obtain ⟨u, us, rfl, h1, hv⟩ := rvsc hv
    obtain ⟨u', rfl, h2⟩ := rvs1 hv
    obtain ⟨A, c, rfl, _, _, hr⟩ := arg_ents hS h1
    obtain ⟨A', c', rfl, _, _, hr'⟩ := arg_ents hS h2
    exact slicesEqual_any A _ c es A' _ c' es' w hr hr' hm hm'
theorem ext_to {α : Type} {a b : List α} (h : a.length = b.length) (he : ∀ i, i < a.length → ∃ (h1 : i < a.length) (h2 : i < b.length), a[i] = b[i]) : a = b :=
  List.ext_getElem h fun i h1 h2 => (he i h1).2.2
def Agree {α : Type} (a b : List α) (k : Nat) : Prop := ∀ i, i < k → ∃ (h1 : i < a.length) (h2 : i < b.length), a[i] = b[i]
theorem Agree.snoc {α : Type} {a b : List α} {k : Nat} (h : Agree a b k) (h1 : k < a.length) (h2 : k < b.length) (he : a[k] = b[k]) : Agree a b (k + 1) := fun i hi => by
  rcases Nat.lt_or_ge i k with h' | h'
  · exact h i h'
  · have : i = k := by omega
    subst this; exact ⟨h1, h2, he⟩
theorem ac_eqlInts {a b : List Int} (hm : a.length ≤ maxLen) (hm' : b.length ≤ maxLen) : AC Try.prog 251 [.lst 1 (a.map intA), .lst 1 (b.map intA)] ⟨.v (.bool (decide (a = b))), []⟩ := by
  unfold maxLen at hm hm'
  by_cases hl : a.length = b.length
  case neg =>
    rw [decide_eq_false (fun e => hl (by rw [e]))]
    refine r_of Th_ok (by kernel_rfl) Try.func251 rfl Try.ntmps251 Try.results251 (by kernel_rfl) rfl ?_; conv => whnf
    repeat (((first | refine qb rfl rfl ?_ | refine qi (by assumption) rfl rfl ?_ | refine ql rfl ?_ | refine qo rfl rfl ?_ | refine qs rfl rfl ?_ | refine qn rfl rfl ?_); conv => whnf))
    exact r_ret1 rfl trivial
  refine r_of Th_ok (by kernel_rfl) Try.func251 rfl Try.ntmps251 Try.results251 (by kernel_rfl) rfl ?_; conv => whnf
  repeat (((first | refine qb rfl rfl ?_ | refine qi (by assumption) rfl rfl ?_ | refine ql rfl ?_ | refine qo rfl rfl ?_ | refine qs rfl rfl ?_ | refine qn rfl rfl ?_); conv => whnf))
  refine r_loop (ι := { k : Nat // k ≤ a.length ∧ Agree a b k }) (fun k => ⟨[(0, .lst 1 (a.map intA)), (1, .lst 1 (b.map intA)), (12, .v (.int .i64 (a.length : Int))), (13, .v (.int .i64 (k.1 : Int)))], []⟩) (fun k => a.length - k.1) ⟨0, Nat.zero_le _, fun i h => by omega⟩ (by refine ⟨?_, ?_⟩ <;> (repeat (first | trivial | exact ⟨rfl, trivial⟩ | refine ⟨rfl, ?_⟩ | refine ⟨.inl ⟨rfl, rfl⟩, ?_⟩ | refine ⟨.inr ⟨_, _, rfl, rfl, rfl, rfl, rfl⟩, ?_⟩))) ?_
  rintro ⟨k, hk, hg⟩
  dsimp only at hk hg ⊢
  conv => whnf
  by_cases hlt : k < a.length
  case neg =>
    rw [decide_eq_true (ext_to hl (fun i hi => hg i (by omega)))]
    repeat (((first | refine qb rfl rfl ?_ | refine qi (by assumption) rfl rfl ?_ | refine ql rfl ?_ | refine qo rfl rfl ?_ | refine qs rfl rfl ?_ | refine qn rfl rfl ?_); conv => whnf))
    exact r_ret1 rfl trivial
  have hlt' : k < b.length := by omega
  by_cases he : a[k] = b[k]
  · repeat (((first | refine qb rfl rfl ?_ | refine qi (by assumption) rfl rfl ?_ | refine ql rfl ?_ | refine qo rfl rfl ?_ | refine qs rfl rfl ?_ | refine qn rfl rfl ?_); conv => whnf))
    refine .inl ⟨by kernel_rfl, ?_⟩
    conv => whnf
    repeat (((first | refine qb rfl rfl ?_ | refine qi (by assumption) rfl rfl ?_ | refine ql rfl ?_ | refine qo rfl rfl ?_ | refine qs rfl rfl ?_ | refine qn rfl rfl ?_); conv => whnf))
    exact ⟨⟨k + 1, hlt, hg.snoc hlt hlt' he⟩, by refine ⟨?_, ?_⟩ <;> (repeat (first | trivial | exact ⟨rfl, trivial⟩ | refine ⟨rfl, ?_⟩ | refine ⟨.inl ⟨rfl, rfl⟩, ?_⟩ | refine ⟨.inr ⟨_, _, rfl, rfl, rfl, rfl, rfl⟩, ?_⟩)), by simp; omega⟩
  · rw [decide_eq_false (fun e => he (by subst e; rfl))]
    repeat (((first | refine qb rfl rfl ?_ | refine qi (by assumption) rfl rfl ?_ | refine ql rfl ?_ | refine qo rfl rfl ?_ | refine qs rfl rfl ?_ | refine qn rfl rfl ?_); conv => whnf))
    refine .inl ⟨by kernel_rfl, ?_⟩
    conv => whnf
    repeat (((first | refine qb rfl rfl ?_ | refine qi (by assumption) rfl rfl ?_ | refine ql rfl ?_ | refine qo rfl rfl ?_ | refine qs rfl rfl ?_ | refine qn rfl rfl ?_); conv => whnf))
    exact r_ret1 rfl trivial
theorem com_ext {a b : Cmt} : a = b ↔ a.1 = b.1 ∧ a.2 = b.2 := ⟨fun h => by subst h; exact ⟨rfl, rfl⟩, fun ⟨h1, h2⟩ => Prod.ext h1 h2⟩
theorem ac_sameCommit {a b : Cmt} (hm : a.1.length ≤ maxLen) (hm' : b.1.length ≤ maxLen) (hn : a.2.length ≤ maxLen) (hn' : b.2.length ≤ maxLen) : AC Try.prog 197 [comA a, comA b] ⟨.v (.bool (decide (a = b))), []⟩ := by
  have h1 := ac_eqlInts hm hm'
  have h2 := ac_eqlEnts hn hn'
  by_cases he : a.1 = b.1
  · have : decide (a = b) = decide (a.2 = b.2) := by simp [com_ext, he]
    rw [this]
    rw [decide_eq_true he] at h1
    refine r_of Th_ok (by kernel_rfl) Try.func197 rfl Try.ntmps197 Try.results197 (by kernel_rfl) rfl ?_; conv => whnf
    repeat (first | ((first | refine qb rfl rfl ?_ | refine qi (by assumption) rfl rfl ?_ | refine ql rfl ?_ | refine qo rfl rfl ?_ | refine qs rfl rfl ?_ | refine qn rfl rfl ?_); conv => whnf) | (refine qc (h1) rfl ?_; conv => whnf) | (refine qc (h2) rfl ?_; conv => whnf))
    exact r_ret1 rfl trivial
  · rw [decide_eq_false (fun e => he (by rw [e]))]
    rw [decide_eq_false he] at h1
    refine r_of Th_ok (by kernel_rfl) Try.func197 rfl Try.ntmps197 Try.results197 (by kernel_rfl) rfl ?_; conv => whnf
    repeat (first | ((first | refine qb rfl rfl ?_ | refine qi (by assumption) rfl rfl ?_ | refine ql rfl ?_ | refine qo rfl rfl ?_ | refine qs rfl rfl ?_ | refine qn rfl rfl ?_); conv => whnf) | (refine qc (h1) rfl ?_; conv => whnf) | (refine qc (h2) rfl ?_; conv => whnf))
    exact r_ret1 rfl trivial
theorem ac_equalFunc {a b : List Cmt} (hm : a.length ≤ maxLen) (hm' : b.length ≤ maxLen) (hc : comOK maxLen a) (hc' : comOK maxLen b) : AC Try.prog 196 [.lst 2 (a.map comA), .lst 2 (b.map comA), .fn 197 [] []] ⟨.v (.bool (decide (a = b))), []⟩ := by
  unfold maxLen at hm hm'
  by_cases hl : a.length = b.length
  case neg =>
    rw [decide_eq_false (fun e => hl (by rw [e]))]
    refine r_of Th_ok (by kernel_rfl) Try.func196 rfl Try.ntmps196 Try.results196 (by kernel_rfl) rfl ?_; conv => whnf
    repeat (((first | refine qb rfl rfl ?_ | refine qi (by assumption) rfl rfl ?_ | refine ql rfl ?_ | refine qo rfl rfl ?_ | refine qs rfl rfl ?_ | refine qn rfl rfl ?_); conv => whnf))
    exact r_ret1 rfl trivial
  refine r_of Th_ok (by kernel_rfl) Try.func196 rfl Try.ntmps196 Try.results196 (by kernel_rfl) rfl ?_; conv => whnf
  repeat (((first | refine qb rfl rfl ?_ | refine qi (by assumption) rfl rfl ?_ | refine ql rfl ?_ | refine qo rfl rfl ?_ | refine qs rfl rfl ?_ | refine qn rfl rfl ?_); conv => whnf))
  refine r_loop (ι := { k : Nat // k ≤ a.length ∧ Agree a b k }) (fun k => ⟨[(1, .lst 2 (b.map comA)), (2, .fn 197 [] []), (15, .lst 2 (a.map comA)), (16, .v (.int .i64 (a.length : Int))), (17, .v (.int .i64 (k.1 : Int)))], []⟩) (fun k => a.length - k.1) ⟨0, Nat.zero_le _, fun i h => by omega⟩ (by refine ⟨?_, ?_⟩ <;> (repeat (first | trivial | exact ⟨rfl, trivial⟩ | refine ⟨rfl, ?_⟩ | refine ⟨.inl ⟨rfl, rfl⟩, ?_⟩ | refine ⟨.inr ⟨_, _, rfl, rfl, rfl, rfl, rfl⟩, ?_⟩))) ?_
  rintro ⟨k, hk, hg⟩
  dsimp only at hk hg ⊢
  conv => whnf
  by_cases hlt : k < a.length
  case neg =>
    rw [decide_eq_true (ext_to hl (fun i hi => hg i (by omega)))]
    repeat (((first | refine qb rfl rfl ?_ | refine qi (by assumption) rfl rfl ?_ | refine ql rfl ?_ | refine qo rfl rfl ?_ | refine qs rfl rfl ?_ | refine qn rfl rfl ?_); conv => whnf))
    exact r_ret1 rfl trivial
  have hlt' : k < b.length := by omega
  have hac := ac_sameCommit (a := a[k]) (b := b[k]) (hc _ (List.getElem_mem hlt)).1 (hc' _ (List.getElem_mem hlt')).1 (hc _ (List.getElem_mem hlt)).2.1 (hc' _ (List.getElem_mem hlt')).2.1
  by_cases he : a[k] = b[k]
  · rw [decide_eq_true he] at hac
    repeat (first | ((first | refine qb rfl rfl ?_ | refine qi (by assumption) rfl rfl ?_ | refine ql rfl ?_ | refine qo rfl rfl ?_ | refine qs rfl rfl ?_ | refine qn rfl rfl ?_); conv => whnf) | (refine r_step (p_ostore rfl rfl rfl rfl rfl (by conv => lhs; whnf) rfl) rfl rfl (fun e => by first | exact .inl rfl | contradiction | exact .inr (.inl (by kernel_rfl))) ?_; conv => whnf) | (refine r_step (p_callv hac rfl rfl (.inl rfl) trivial rfl rfl) rfl rfl (fun e => by first | exact .inl rfl | contradiction | exact .inr (.inl (by kernel_rfl))) ?_; conv => whnf))
    exact ⟨⟨k + 1, hlt, hg.snoc hlt hlt' he⟩, by refine ⟨?_, ?_⟩ <;> (repeat (first | trivial | exact ⟨rfl, trivial⟩ | refine ⟨rfl, ?_⟩ | refine ⟨.inl ⟨rfl, rfl⟩, ?_⟩ | refine ⟨.inr ⟨_, _, rfl, rfl, rfl, rfl, rfl⟩, ?_⟩)), by simp; omega⟩
  · rw [decide_eq_false he] at hac
    rw [decide_eq_false (fun e => he (by subst e; rfl))]
    repeat (first | ((first | refine qb rfl rfl ?_ | refine qi (by assumption) rfl rfl ?_ | refine ql rfl ?_ | refine qo rfl rfl ?_ | refine qs rfl rfl ?_ | refine qn rfl rfl ?_); conv => whnf) | (refine r_step (p_ostore rfl rfl rfl rfl rfl (by conv => lhs; whnf) rfl) rfl rfl (fun e => by first | exact .inl rfl | contradiction | exact .inr (.inl (by kernel_rfl))) ?_; conv => whnf) | (refine r_step (p_callv hac rfl rfl (.inl rfl) trivial rfl rfl) rfl rfl (fun e => by first | exact .inl rfl | contradiction | exact .inr (.inl (by kernel_rfl))) ?_; conv => whnf))
    exact r_ret1 rfl trivial
noncomputable def samB (a b : List Cmt) : Bool := stoB a && (stoB b && decide (a = b))
theorem ac_iSameStore {a b : List Cmt} (hm : a.length ≤ maxLen) (hm' : b.length ≤ maxLen) (hc : comOK maxLen a) (hc' : comOK maxLen b) : AC Try.prog 94 [.lst 2 (a.map comA), .lst 2 (b.map comA)] ⟨.v (.bool (samB a b)), []⟩ := by
  have h1 := ac_iStoreOK hm hc
  have h2 := ac_iStoreOK hm' hc'
  have h3 := ac_equalFunc hm hm' hc hc'
  unfold samB
  generalize stoB a = x at h1
  generalize stoB b = y at h2
  cases x <;> cases y <;> simp only [Bool.false_and, Bool.true_and]
  all_goals
    refine r_of Th_ok (by kernel_rfl) Try.func94 rfl Try.ntmps94 Try.results94 (by kernel_rfl) rfl ?_; conv => whnf
    repeat (first | ((first | refine qb rfl rfl ?_ | refine qi (by assumption) rfl rfl ?_ | refine ql rfl ?_ | refine qo rfl rfl ?_ | refine qs rfl rfl ?_ | refine qn rfl rfl ?_); conv => whnf) | (refine qc (h1) rfl ?_; conv => whnf) | (refine qc (h2) rfl ?_; conv => whnf) | (refine qc (h3) rfl ?_; conv => whnf))
    exact r_ret1 rfl trivial
end Go.Proofs.Ytjhimcddgkoghaa.AM
/- The law of SameStore over data. -/
namespace Go.Proofs.Ytjhimcddgkoghaa.AM
open Go Go.RowKit
set_option linter.unusedVariables false
set_option linter.unusedSimpArgs false
set_option maxRecDepth 100000
attribute [local irreducible] ACode AOps AOps2 RetG RetM Pre ACG
end Go.Proofs.Ytjhimcddgkoghaa.AM
namespace Go.Proofs.Ytjhimcddgkoghaa.AM
open Go Go.RowKit
set_option linter.unusedVariables false
set_option linter.unusedSimpArgs false
set_option maxRecDepth 100000
/-- what is read by operations that are not ordered against the one at k names none of ls -/
def condB (ops : Array Oper) (k : Nat) (s : St) (ls : List Nat) : Bool :=
  (List.range ops.size).all fun j => Nat.beq j k || (ordr ops j k || (match ops[j]? with
    | some o => (tmpsOf o).all fun t => ((List.range ops.size).any fun j' => match (ops[j']?).bind (·.dst) with
        | some t' => Nat.beq t' t && (!(Nat.blt j' k) && !(lastOp ops j'))
        | none => false) || ls.all fun l => !((s.sl t).names l)
    | none => true))
theorem condB_ok {ops : Array Oper} {k : Nat} {s : St} {ls : List Nat} (h : condB ops k s ls = true) : ∀ j o, ops[j]? = some o → j ≠ k → ordr ops j k = false → ∀ t, t ∈ tmpsOf o → (∀ j' o', ops[j']? = some o' → o'.dst = some t → Nat.blt j' k = true ∨ lastOp ops j' = true) → ∀ l ∈ ls, (s.sl t).names l = false := by
  intro j o hj hne hor t ht hL l hl
  have h1 := List.all_eq_true.1 h j (List.mem_range.2 (Array.getElem?_eq_some_iff.1 hj).1)
  simp only [nbne hne, hor, Bool.false_or, hj] at h1
  have h2 := List.all_eq_true.1 h1 t ht
  rw [Bool.or_eq_true] at h2
  rcases h2 with h2 | h2
  · obtain ⟨j', hj', h3⟩ := List.any_eq_true.1 h2
    cases ho' : ops[j']? with
    | none => rw [ho'] at h3; cases h3
    | some o' =>
      rw [ho'] at h3
      cases hd : o'.dst with
      | none => simp only [Option.bind_some, hd] at h3; cases h3
      | some t' =>
        simp only [Option.bind_some, hd, Bool.and_eq_true, Bool.not_eq_true'] at h3
        have : t' = t := Nat.eq_of_beq_eq_true h3.1
        subst this
        rcases hL j' o' ho' hd with h4 | h4 <;> rw [h4] at h3 <;> simp at h3
  · have := List.all_eq_true.1 h2 l hl
    simpa using this
theorem condB_old {ops : Array Oper} {k : Nat} {s : St} {ls : List Nat} (h : condB ops k s ls = true) : ∀ j o, ops[j]? = some o → j ≠ k → ordr ops j k = false → ∀ t, t ∈ tmpsOf o → (∀ j' o', ops[j']? = some o' → o'.dst = some t → Nat.blt j' k = true) → ∀ l ∈ ls, (s.sl t).names l = false :=
  fun j o h1 h2 h3 t ht hL => condB_ok h j o h1 h2 h3 t ht fun j' o' a b => .inl (hL j' o' a b)
section
variable {Θ : Tab} {ops : Array Oper} {k : Nat} {s : St}
theorem soft_set {l : Nat} {o : Option OB} {v : AV} (hs : soft Θ ops true k = true) (hc : condB ops k s [l] = true) : SoftE Θ ops (fun j => Nat.blt j k) k s ⟨v, some fun s' => s'.set l o⟩ :=
  ⟨true, [l], _, id, fun hp j => bif Nat.beq j l then o else hp j, fun mp j => bif Nat.beq j l then none else mp j, rfl, hs, fun s => rfl, fun x _ => rfl, fun _ => ⟨fun x => rfl, fun hp j hj => by
    have : j ≠ l := by simpa using hj
    show (bif Nat.beq j l then o else hp j) = hp j
    rw [nbne this]; rfl⟩, condB_old hc⟩
theorem soft_app {l : Nat} {ob : OB} {v : AV} (hs : soft Θ ops false k = true) (hc : condB ops k s [l] = true) : SoftE Θ ops (fun j => Nat.blt j k) k s ⟨v, some fun s' => (s'.kill l).set l (some ob)⟩ :=
  ⟨false, [l], _, fun x => bif x.names l then .any else x, fun hp j => bif Nat.beq j l then some ob else killO l (hp j), fun mp j => bif Nat.beq j l then none else mp j, rfl, hs, fun s => rfl, (fun x h => by show (bif AV.names l x then AV.any else x) = x; rw [h l (by simp)]; rfl), (fun h => by cases h), condB_old hc⟩
end
section
variable {P : Program} {Θ : Tab} {s : St} {ty : TypeId} {pos : String} {after : Array Edge} {g : Option (Nat × Bool)}
theorem p_bsl1 {d : Nat} {t : TypeId} {x : Operand} {el sz b : Nat} {z y : AV} (hf : s.hp (d + 1) = none) (ht : Θ.look t = .slice el sz b z) (hx : s.ev x = y) (hk : (match y with | .v c => c.oneCell' | .agg _ => true | .lst _ _ => true | .ptr _ => true | _ => false) = true) (hz : Nat.beq (asz y) (asz z) = true) (hsz : Nat.ble sz 65536 = true) (hok : okL (d + 1) = true := by rfl) :
    Pre P Θ ⟨some d, .buildSlice t 1 #[(0, x)], ty, pos, after, g⟩ s ⟨.own (d + 1), some fun s' => s'.set (d + 1) (some ⟨.s el, sz, [y]⟩)⟩ := by
  have hd : s.dat (s.ev x) = y := by rw [hx]; cases y <;> first | rfl | cases hk
  have ho : ownsA (s.ev x) = [] := by rw [hx]; cases y <;> first | rfl | cases hk
  have hda : isDataA s (s.ev x) = true := by rw [hx]; cases y <;> first | exact hk | rfl | cases hk
  refine ⟨d, el, sz, b, z, rfl, hf, hok, ht, by rw [Nat.one_mul]; exact Nat.le_of_ble_eq_true hsz, .inl ⟨⟨⟨z, rfl, by rw [hd]; exact Nat.eq_of_beq_eq_true hz⟩, hda, trivial⟩, fun y' hy c e => ?_, ?_, ?_⟩⟩
  · simp at hy
    subst hy; subst e
    simp only [St.ev] at hx; subst hx; exact hk
  · simp [ownsOf, ownsAL, ho]
  · have h1 : ownsOf s (([(0, x)] : List (Nat × Operand)).map (·.2)) = [] := by simp [ownsOf, ownsAL, ho]
    show _ = Eff.mk _ (frzT (ownsOf s (([(0, x)] : List (Nat × Operand)).map (·.2))) _)
    rw [h1]
    show _ = Eff.mk _ (some _)
    congr 2
    funext s'
    show s'.set (d + 1) (some ⟨.s el, sz, [y]⟩) = s'.set (d + 1) (some ⟨.s el, sz, [s.dat (s.ev x)]⟩)
    rw [hd]
theorem p_buildm {d : Option Tmp} {t : TypeId} {ps : Array (Nat × Operand)} {fs : List (Nat × Nat)} {z : List AV} (ht : Θ.look t = .struct fs z) (hm : mixOK s (nilL z) ps.toList) (hc : csOK (ps.toList.map (·.2)) = true) :
    Pre P Θ ⟨d, .build t ps, ty, pos, after, g⟩ s ⟨.mix (mixParts s (nilL z) ps.toList), none⟩ := ⟨fs, z, ht, .inr ⟨hm, csOK_spec hc, rfl⟩⟩
theorem p_ostorep {d : Option Tmp} {t : TypeId} {x y : Operand} {l l' i i' c c' : Nat} {p p' : List Nat} {ob ob' : OB} {q z u : AV} (hq : ob.xs[i]? = some q) (hx : s.ev x = .optr l i p c) (ho : s.hp l = some ob) (hg : getP q p 0 = some (z, c)) (hs : ((Θ.look t).known && (Nat.beq (asz z) (Θ.look t).size && Nat.beq 1 (asz z))) = true) (hy : s.ev y = .optr l' i' p' c') (ho' : s.hp l' = some ob') (hr : rowAt ob' i' p' c' = .ptr u) (hn : Nat.beq l l' = false) (hop : ob.e.open_ = true := by rfl) (hsh : ob'.e.shut = true := by rfl) (hok : okL l' = true := by rfl) (hc : cOK y = true := by rfl) :
    Pre P Θ ⟨d, .store t x y, ty, pos, after, g⟩ s ⟨.any, some fun s' => (s'.frz l').set l (some ⟨.s (ob.e.typ.getD 0), ob.sz, ob.xs.set i (setP q p (.ptr u))⟩)⟩ := by
  simp only [Bool.and_eq_true] at hs
  have hd : s.dat (s.ev y) = .ptr u := by rw [hy]; simp [St.dat, ho', hsh, hr]
  have hown : ownsA (s.ev y) = [l'] := by rw [hy]; rfl
  have hda : isDataA s (s.ev y) = true := by rw [hy]; simp [isDataA, ho', hsh, hr]
  obtain ⟨t0, he⟩ : ∃ t0, ob.e = .s t0 ∨ ob.e = .z t0 := by
    cases h : ob.e with
    | s t0 => exact ⟨t0, .inl rfl⟩
    | z t0 => exact ⟨t0, .inr rfl⟩
    | _ => rw [h] at hop; cases hop
  have ht : ob.e.typ.getD 0 = t0 := by rcases he with he | he <;> rw [he] <;> rfl
  have hne : l ≠ l' := fun e => by rw [e] at hn; simp at hn
  refine ⟨cOK_spec hc, hs.1, l, i, p, c, ob, hx, ho, .inl ⟨t0, q, z, he, hq, hg, Nat.eq_of_beq_eq_true hs.2.1, by rw [hd]; exact Nat.eq_of_beq_eq_true hs.2.2, hda, by rw [hown]; simpa using hne, by rw [hown]; simp [hok], ?_⟩⟩
  rw [hd, hown, ht]; rfl
theorem r_retp {t : Nat} {x : AV} (h : s.sl t = .ptr x) : RetQ Θ [.tmp t] ⟨.ptr x, []⟩ .ret s := ⟨trivial, [], by simp, trivial, ⟨trivial, trivial⟩, trivial, ⟨.inl ⟨h, rfl⟩, trivial⟩⟩
end
end Go.Proofs.Ytjhimcddgkoghaa.AM
/- Rules for regions in which several operations change rows (AOps2): evidence by reckoning; what reads, calls, new lists, append. -/
namespace Go.Proofs.Ytjhimcddgkoghaa.AM
open Go Go.RowKit
set_option linter.unusedVariables false
set_option linter.unusedSimpArgs false
set_option maxRecDepth 100000
/-- what every operation reads was yielded before it -/
def prodB (ops : Array Oper) : Bool :=
  (List.range ops.size).all fun j => match ops[j]? with
    | some o => (tmpsOf o).all fun t => (List.range ops.size).all fun j' => match (ops[j']?).bind (·.dst) with
      | some t' => !(Nat.beq t' t) || (!(Nat.beq j' j) && (((Region.before ops).getD j 0).testBit j' || lastOp ops j'))
      | none => true
    | none => true
theorem prodB_ok {ops : Array Oper} (h : prodB ops = true) : prodOK ops := by
  intro j o ho t ht j' o' ho' hd
  have h1 := List.all_eq_true.1 h j (List.mem_range.2 (Array.getElem?_eq_some_iff.1 ho).1)
  simp only [ho] at h1
  have h2 := List.all_eq_true.1 (List.all_eq_true.1 h1 t ht) j' (List.mem_range.2 (Array.getElem?_eq_some_iff.1 ho').1)
  simp only [ho', Option.bind_some, hd, Nat.beq_refl, Bool.not_true, Bool.false_or, Bool.and_eq_true, Bool.not_eq_true', Bool.or_eq_true] at h2
  exact ⟨fun e => by rw [e] at h2; simp at h2, h2.2⟩
mutual
/-- the labels that a datum names -/
def labs : AV → List Nat
  | .own l => [l]
  | .optr l _ _ _ => [l]
  | .mapv l => [l]
  | .tup xs => labsL xs
  | .mix xs => labsL xs
  | .fn _ xs ys => labsL xs ++ labsL ys
  | .ifc _ x => labs x
  | _ => []
def labsL : List AV → List Nat
  | [] => []
  | x :: xs => labs x ++ labsL xs
end
mutual
theorem names_labs {l : Nat} : ∀ x : AV, x.names l = true → l ∈ labs x
  | .own l', h => by simp only [AV.names] at h; simp [labs, Nat.eq_of_beq_eq_true h]
  | .optr l' _ _ _, h => by simp only [AV.names] at h; simp [labs, Nat.eq_of_beq_eq_true h]
  | .mapv l', h => by simp only [AV.names] at h; simp [labs, Nat.eq_of_beq_eq_true h]
  | .tup xs, h => by simp only [AV.names] at h; unfold labs; exact names_labsL xs h
  | .mix xs, h => by simp only [AV.names] at h; unfold labs; exact names_labsL xs h
  | .fn _ xs ys, h => by
    simp only [AV.names, Bool.or_eq_true] at h; unfold labs
    exact List.mem_append.2 (h.imp (names_labsL xs) (names_labsL ys))
  | .ifc _ x, h => by simp only [AV.names] at h; unfold labs; exact names_labs x h
  | .any, h => by simp [AV.names] at h
  | .v _, h => by simp [AV.names] at h
  | .agg _, h => by simp [AV.names] at h
  | .lst _ _, h => by simp [AV.names] at h
  | .ptr _, h => by simp [AV.names] at h
  | .rd _, h => by simp [AV.names] at h
theorem names_labsL {l : Nat} : ∀ xs : List AV, namesL l xs = true → l ∈ labsL xs
  | [], h => by simp [namesL] at h
  | x :: xs, h => by
    simp only [namesL, Bool.or_eq_true] at h; unfold labsL
    exact List.mem_append.2 (h.imp (names_labs x) (names_labsL xs))
end
theorem inNu_mem {l : Nat} : ∀ {nu : List (Nat × Option OB)}, inNu nu l → l ∈ nu.map (·.1)
  | [], ⟨o, h⟩ => by simp [nuAt] at h
  | (m, ob) :: r, ⟨o, h⟩ => by
    simp only [nuAt] at h
    cases e : Nat.beq l m with
    | true => simp [Nat.eq_of_beq_eq_true e]
    | false => rw [e] at h; exact List.mem_cons_of_mem _ (inNu_mem ⟨o, h⟩)
/-- is t not yet yielded, at k? -/
def lateB (ops : Array Oper) (k : Nat) (t : Tmp) : Bool := (List.range ops.size).any fun j' => match (ops[j']?).bind (·.dst) with
  | some t' => Nat.beq t' t && (!(Nat.blt j' k) && !(lastOp ops j'))
  | none => false
theorem lateB_ok {ops : Array Oper} {k : Nat} {t : Tmp} (h : lateB ops k t = true) (hf : freshT ops (fun j => Nat.blt j k) t) : False := by
  obtain ⟨j', hj', h3⟩ := List.any_eq_true.1 h
  cases ho' : ops[j']? with
  | none => rw [ho'] at h3; cases h3
  | some o' =>
    rw [ho'] at h3
    cases hd : o'.dst with
    | none => simp only [Option.bind_some, hd] at h3; cases h3
    | some t' =>
      simp only [Option.bind_some, hd, Bool.and_eq_true, Bool.not_eq_true'] at h3
      have : t' = t := Nat.eq_of_beq_eq_true h3.1
      subst this
      rcases hf j' o' ho' hd with h4 | h4
      · simp only at h4
        rw [h4] at h3; simp at h3
      · rw [h4] at h3; simp at h3
/-- what the evidence asks beside the operation's own -/
def evB (ops : Array Oper) (k : Nat) (s : St) (o : Oper) (ks ls : List Nat) : Bool :=
  (condB ops k s ls && (((ls.isEmpty || (List.range ops.size).all fun j => Nat.beq j k || (ordr ops j k || (match ops[j]? with
    | some o' => (tmpsOf o').all fun t => lateB ops k t || (labs (s.sl t)).all fun l0 => match s.hp l0 with | some ob => ls.all fun l => !(namesE l ob.e) | none => true
    | none => true))) && (ks.isEmpty || (List.range ops.size).all fun j => match ops[j]? with
    | some o' => (tmpsOf o').all fun t => lateB ops k t || (labs (s.sl t)).all fun l => match s.hp l with | some ob => ob.e.shut | none => true
    | none => true)) && ((!(stor o) || (List.range ops.size).all fun j => Nat.beq j k || (ordr ops j k || (match ops[j]? with
    | some o' => noKs o'
    | none => true))) && (!(noKs o) || ks.isEmpty)))) &&
  ((ks.isEmpty || (List.range ops.size).all fun j => match ops[j]? with
    | some o => (tmpsOf o).all fun t => lateB ops k t || ((ks.all fun l => !((s.sl t).names l)) || (labs (s.sl t)).all fun l => ls.contains l) &&
        (Nat.beq j k || (ordr ops j k || (labs (s.sl t)).all fun l => match s.hp l with | some ob => ob.e.shut | none => true))
    | none => true) &&
  (List.range ops.size).all fun j => Nat.beq j k || (ordr ops j k || (match (ops[j]?).bind (·.dst) with
    | some d => ls.all fun l => !(Nat.beq (l % 1000) ((d + 1) % 1000))
    | none => true)))
section
variable {P : Program} {Θ : Tab} {n : Nat} {ops : Array Oper} {k : Nat} {s : St} {o : Oper} {u : AV} {ks : List Nat} {nu : List (Nat × Option OB)}
theorem ev_of (hs : SftG P Θ o s u ks nu) (hin : ∀ l ∈ nu.map (·.1), inNu nu l) (hB : evB ops k s o ks (nu.map (·.1)) = true) : Ev P Θ ops (fun j => Nat.blt j k) k o s u ks nu := by
  simp only [evB, Bool.and_eq_true] at hB
  obtain ⟨⟨b1, ⟨bf, bc⟩, bo, bn⟩, b2, b3⟩ := hB
  have key : ∀ (j : Nat) (o' : Oper), ops[j]? = some o' → ∀ t ∈ tmpsOf o', freshT ops (fun j => Nat.blt j k) t → ks = [] ∨
      (((ks.all fun l => !((s.sl t).names l)) || (labs (s.sl t)).all fun l => (nu.map (·.1)).contains l) = true ∧ (Nat.beq j k || (ordr ops j k || (labs (s.sl t)).all fun l => match s.hp l with | some ob => ob.e.shut | none => true)) = true) := fun j o' ho t ht hf => by
    rcases (Bool.or_eq_true _ _).mp b2 with h | h
    · exact .inl (List.isEmpty_iff.1 h)
    · have h1 := List.all_eq_true.1 h j (List.mem_range.2 (Array.getElem?_eq_some_iff.1 ho).1)
      simp only [ho] at h1
      have h2 := List.all_eq_true.1 h1 t ht
      rcases (Bool.or_eq_true _ _).mp h2 with h3 | h3
      · exact (lateB_ok h3 hf).elim
      · exact .inr (by simpa [Bool.and_eq_true] using h3)
  refine ⟨hs, fun j o' ho hne hor t ht hf l hl => condB_ok b1 j o' ho hne hor t ht hf l (inNu_mem hl), fun j o' ho t ht hf => ?_, fun j o' ho hne hor t ht hf l ob hn hob => ?_, fun j o' ho hne hor d hd l hl => ?_, fun j o' ho hne hor t ht hf l0 ob l hn hob hl => ?_, ?_, fun hst j o' ho hne hor => ?_, fun hnk => ?_⟩
  · rcases key j o' ho t ht hf with rfl | ⟨h, _⟩
    · exact .inl fun l hl => by cases hl
    · rcases (Bool.or_eq_true _ _).mp h with h | h
      · exact .inl fun l hl => by simpa using List.all_eq_true.1 h l hl
      · exact .inr fun l hl => hin l (by simpa using List.all_eq_true.1 h l (names_labs _ hl))
  · rcases key j o' ho t ht hf with rfl | ⟨_, h⟩
    · exact .inl rfl
    · rw [nbne hne, hor] at h
      simp only [Bool.false_or] at h
      have := List.all_eq_true.1 h l (names_labs _ hn)
      simp only [hob] at this
      exact .inr this
  · have h1 := List.all_eq_true.1 b3 j (List.mem_range.2 (Array.getElem?_eq_some_iff.1 ho).1)
    rw [nbne hne, hor] at h1
    simp only [Bool.false_or, ho, Option.bind_some, hd] at h1
    have := List.all_eq_true.1 h1 l (inNu_mem hl)
    intro e
    rw [e] at this
    simp at this
  · have hm := inNu_mem hl
    rcases (Bool.or_eq_true _ _).mp bf with h | h
    · rw [List.isEmpty_iff.1 h] at hm; cases hm
    · have h1 := List.all_eq_true.1 h j (List.mem_range.2 (Array.getElem?_eq_some_iff.1 ho).1)
      rw [nbne hne, hor] at h1
      simp only [Bool.false_or, ho] at h1
      have h2 := List.all_eq_true.1 h1 t ht
      rcases (Bool.or_eq_true _ _).mp h2 with h3 | h3
      · exact (lateB_ok h3 hf).elim
      · have h4 := List.all_eq_true.1 h3 l0 (names_labs _ hn)
        simp only [hob] at h4
        have h5 := List.all_eq_true.1 h4 l hm
        simpa using h5
  · rcases (Bool.or_eq_true _ _).mp bc with h | h
    · exact .inl (List.isEmpty_iff.1 h)
    · refine .inr fun j o' ho t ht hf l0 ob hn hob => ?_
      have h1 := List.all_eq_true.1 h j (List.mem_range.2 (Array.getElem?_eq_some_iff.1 ho).1)
      simp only [ho] at h1
      have h2 := List.all_eq_true.1 h1 t ht
      rcases (Bool.or_eq_true _ _).mp h2 with h3 | h3
      · exact (lateB_ok h3 hf).elim
      · have h4 := List.all_eq_true.1 h3 l0 (names_labs _ hn)
        simp only [hob] at h4
        exact h4
  · rw [hst] at bo
    have h1 := List.all_eq_true.1 bo j (List.mem_range.2 (Array.getElem?_eq_some_iff.1 ho).1)
    rw [nbne hne, hor] at h1
    simpa only [Bool.false_or, ho] using h1
  · rw [hnk] at bn
    exact List.isEmpty_iff.1 bn
theorem inNu_nil {l : Nat} (h : inNu [] l) : False := by obtain ⟨o, h⟩ := h; simp [nuAt] at h
/-- what only reads -/
theorem sft_calm {v : AV} (hp : Pre P Θ o s ⟨v, none⟩) (hc : calm Θ true o = true) (hv : calm1 o = true ∨ v.within (fun _ => false) = true) : Sft P Θ o s v [] [] := by
  refine ⟨fun s' h1 h2 => ⟨⟨v, none⟩, pre_calm (two := true) hc h1 (fun _ l ⟨x, hx, hn⟩ => ?_) hp, fun K hK => .done hK⟩, fun l ob h => by simp [nuAt] at h, fun l hl => (by cases hl), fun l hl => ?_, fun l hl => (inNu_nil hl).elim, fun l ob hl => (inNu_nil hl).elim⟩
  · cases x with
    | tmp t => exact (h2 l (.inr ⟨t, mem_tmps hx, hn⟩)).1
    | _ => simp [St.ev, AV.names, namesL] at hn
  · rcases hv with hv | hv
    · exact .inr (val_calm1 hv hp l hl)
    · have := within_names v hv hl; cases this
theorem o2_nil {K : St → Prop} (h : K s) : AOps2 P Θ n ops k [] s K := Gh.done h
theorem o2_calm {r : List Oper} {K : St → Prop} {v : AV} (hp : Pre P Θ o s ⟨v, none⟩) (hin : inN n o.dst = true) (hg : o.guard = none) (hc : calm Θ true o = true) (hv : calm1 o = true ∨ v.within (fun _ => false) = true) (hB : evB ops k s o [] [] = true) (h : AOps2 P Θ n ops (k + 1) r (s.put o.dst v) K) : AOps2 P Θ n ops k (o :: r) s K :=
  ⟨hin, hg, .inl ⟨v, [], [], ev_of (sft_calm hp hc hv).g (fun l hl => by cases hl) hB, h⟩⟩
theorem o2_sft {r : List Oper} {K : St → Prop} (hs : Sft P Θ o s u ks nu) (hn : ∀ l ∈ nu.map (·.1), inNu nu l) (hin : inN n o.dst = true) (hg : o.guard = none) (hB : evB ops k s o ks (nu.map (·.1)) = true) (h : AOps2 P Θ n ops (k + 1) r ((shp ks nu s).put o.dst u) K) : AOps2 P Θ n ops k (o :: r) s K :=
  ⟨hin, hg, .inl ⟨u, ks, nu, ev_of hs.g hn hB, h⟩⟩
theorem o2_tied {r : List Oper} {K : St → Prop} {e : Eff} (hp : Pre P Θ o s e) (hin : inN n o.dst = true) (hg : o.guard = none) (ht : tied ops k = true) (h : AOps2 P Θ n ops (k + 1) r (s.app o.dst e) K) : AOps2 P Θ n ops k (o :: r) s K :=
  ⟨hin, hg, .inr ⟨ht, e, hp, .done h⟩⟩
end
end Go.Proofs.Ytjhimcddgkoghaa.AM
/- Evidence of operations that change rows (AOps2): a call over data, a list without elements, append of a list that is read. -/
namespace Go.Proofs.Ytjhimcddgkoghaa.AM
open Go Go.RowKit
set_option linter.unusedVariables false
set_option linter.unusedSimpArgs false
set_option maxRecDepth 100000
abbrev noLab (x : AV) : Bool := x.within (fun _ => false)
mutual
theorem dat_nolab (s s' : St) : ∀ x : AV, noLab x = true → s'.dat x = s.dat x
  | .own l, h => by simp [noLab, AV.within] at h
  | .optr l _ _ _, h => by simp [noLab, AV.within] at h
  | .mix xs, h => by unfold St.dat; rw [datL_nolab s s' xs (by simpa [noLab, AV.within] using h)]
  | .ifc t x, h => by unfold St.dat; rw [dat_nolab s s' x (by simpa [noLab, AV.within] using h)]
  | .mapv l, h => by simp [noLab, AV.within] at h
  | .tup xs, h => by simp [St.dat]
  | .fn _ xs ys, h => by simp [St.dat]
  | .any, h => by simp [St.dat]
  | .v _, h => by simp [St.dat]
  | .agg _, h => by simp [St.dat]
  | .lst _ _, h => by simp [St.dat]
  | .ptr _, h => by simp [St.dat]
  | .rd _, h => by simp [St.dat]
theorem datL_nolab (s s' : St) : ∀ xs : List AV, withinL (fun _ => false) xs = true → s'.datL xs = s.datL xs
  | [], _ => by simp [St.datL]
  | x :: xs, h => by
    simp only [withinL, Bool.and_eq_true] at h
    simp only [St.datL]; rw [dat_nolab s s' x h.1, datL_nolab s s' xs h.2]
end
mutual
theorem isData_nolab (s s' : St) : ∀ x : AV, noLab x = true → isDataA s' x = isDataA s x
  | .own l, h => by simp [noLab, AV.within] at h
  | .optr l _ _ _, h => by simp [noLab, AV.within] at h
  | .mix xs, h => by unfold isDataA; rw [isDataL_nolab s s' xs (by simpa [noLab, AV.within] using h)]
  | .ifc t x, h => by simp [isDataA]
  | .mapv l, h => by simp [noLab, AV.within] at h
  | .tup xs, h => by simp [isDataA]
  | .fn _ xs ys, h => by simp [isDataA]
  | .any, h => by simp [isDataA]
  | .v _, h => by simp [isDataA]
  | .agg _, h => by simp [isDataA]
  | .lst _ _, h => by simp [isDataA]
  | .ptr _, h => by simp [isDataA]
  | .rd _, h => by simp [isDataA]
theorem isDataL_nolab (s s' : St) : ∀ xs : List AV, withinL (fun _ => false) xs = true → isDataL s' xs = isDataL s xs
  | [], _ => by simp [isDataL]
  | x :: xs, h => by
    simp only [withinL, Bool.and_eq_true] at h
    simp only [isDataL]; rw [isData_nolab s s' x h.1, isDataL_nolab s s' xs h.2]
end
theorem argA_nolab (s s' : St) (x : AV) (h : noLab x = true) : argA s' x = argA s x := by
  cases x with
  | ifc t y => simp only [argA]; exact isData_nolab s s' y (by simpa [noLab, AV.within] using h)
  | own l => simp [noLab, AV.within] at h
  | optr l i p c => simp [noLab, AV.within] at h
  | mix xs => simp only [argA]; exact isData_nolab s s' (.mix xs) h
  | fn f xs ys => cases xs <;> cases ys <;> simp [argA]
  | _ => simp [argA, isDataA]
theorem argsA_nolab (s s' : St) : ∀ xs : List AV, (xs.all noLab) = true → argsA s' xs = argsA s xs
  | [], _ => rfl
  | x :: xs, h => by
    simp only [List.all_cons, Bool.and_eq_true] at h
    simp only [argsA]; rw [argA_nolab s s' x h.1, argsA_nolab s s' xs h.2]

def nuObs (d : Nat) : Nat → List OB → List (Nat × Option OB)
  | _, [] => []
  | k, ob :: r => (d + 1000 * k, some ob) :: nuObs d (k + 1) r
theorem nuObs_none {d : Nat} : ∀ (r : List OB) (k k' : Nat), k < k' → nuAt (nuObs d k' r) (d + 1000 * k) = none
  | [], _, _, _ => rfl
  | ob :: r, k, k', h => by
    have hne : d + 1000 * k ≠ d + 1000 * k' := by omega
    simp only [nuObs, nuAt]
    rw [nbne hne]; exact nuObs_none r k (k' + 1) (by omega)
theorem nuObs_in {d : Nat} : ∀ (r : List OB) (k l : Nat) (o : Option OB), nuAt (nuObs d k r) l = some o → ∃ j ob, l = d + 1000 * j ∧ o = some ob ∧ ob ∈ r ∧ k ≤ j ∧ r[j - k]? = some ob
  | [], _, _, _, h => by simp [nuObs, nuAt] at h
  | ob :: r, k, l, o, h => by
    simp only [nuObs, nuAt] at h
    cases e : Nat.beq l (d + 1000 * k) with
    | true =>
      rw [e] at h; simp only [cond_true, Option.some.injEq] at h
      exact ⟨k, ob, Nat.eq_of_beq_eq_true e, h.symm, by simp, Nat.le_refl _, by simp⟩
    | false =>
      rw [e] at h
      obtain ⟨j, ob', h1, h2, h3, h4, h5⟩ := nuObs_in r (k + 1) l o h
      exact ⟨j, ob', h1, h2, List.mem_cons_of_mem _ h3, by omega, by
        have : j - k = (j - (k + 1)) + 1 := by omega
        rw [this, List.getElem?_cons_succ]; exact h5⟩
theorem nuObs_free {s : St} {d : Nat} : ∀ (r : List OB) (k : Nat), freeObs s d k r → ∀ j, k ≤ j → j < k + r.length → s.hp (d + 1000 * j) = none
  | [], k, _, j, h1, h2 => by simp at h2; omega
  | ob :: r, k, h, j, h1, h2 => by
    unfold freeObs at h
    rcases Nat.eq_or_lt_of_le h1 with e | e
    · subst e; exact h.1.1
    · exact nuObs_free r (k + 1) h.2 j (by omega) (by simp at h2; omega)
theorem freeObs_loc {s s' : St} {d : Nat} : ∀ (r : List OB) (k : Nat), (∀ j, k ≤ j → j < k + r.length → s'.hp (d + 1000 * j) = s.hp (d + 1000 * j)) → freeObs s d k r → freeObs s' d k r
  | [], _, _, _ => trivial
  | ob :: r, k, hh, h => by
    unfold freeObs at h ⊢
    exact ⟨⟨(hh k (Nat.le_refl _) (by simp)).trans h.1.1, h.1.2⟩, freeObs_loc r (k + 1) (fun j h1 h2 => hh j (by omega) (by simp; omega)) h.2⟩
theorem nuObs_mem {d : Nat} : ∀ (r : List OB) (k j : Nat), k ≤ j → j < k + r.length → inNu (nuObs d k r) (d + 1000 * j)
  | [], k, j, h1, h2 => by simp at h2; omega
  | ob :: r, k, j, h1, h2 => by
    unfold inNu
    simp only [nuObs, nuAt]
    cases e : Nat.beq (d + 1000 * j) (d + 1000 * k) with
    | true => exact ⟨_, rfl⟩
    | false =>
      have hne : j ≠ k := fun h => by subst h; rw [Nat.beq_refl] at e; cases e
      exact nuObs_mem r (k + 1) j (by omega) (by simp at h2; omega)
theorem setObs_shp {d : Nat} : ∀ (r : List OB) (k : Nat) (s : St), setObs d k r s = shp [] (nuObs d k r) s
  | [], k, s => rfl
  | ob :: r, k, s => by
    show setObs d (k + 1) r (s.set (d + 1000 * k) (some ob)) = _
    rw [setObs_shp r (k + 1)]
    unfold shp St.set
    congr 1
    · funext j
      simp only [nuObs, nuAt]
      cases e : Nat.beq j (d + 1000 * k) with
      | true =>
        have := Nat.eq_of_beq_eq_true e
        subst this
        rw [nuObs_none r k (k + 1) (by omega)]; rfl
      | false => rfl
    · funext j
      simp only [nuObs, nuAt]
      cases e : Nat.beq j (d + 1000 * k) with
      | true =>
        have := Nat.eq_of_beq_eq_true e
        subst this
        rw [nuObs_none r k (k + 1) (by omega)]; rfl
      | false => rfl
section
variable {P : Program} {Θ : Tab} {s : St} {ty : TypeId} {pos : String} {after : Array Edge} {g : Option (Nat × Bool)}
/-- a call whose arguments are data -/
theorem sft_call {f : FuncId} {ags : Array Operand} {ts : Array TypeId} {t : Nat} {args : List AV} {out : Out} (hac : AC P f args out) (ha : (ags.toList.map fun x => s.dat (s.ev x)) = args) (hfl : (ownsOf s ags.toList).isEmpty = true) (hw : (ags.toList.map s.ev).all noLab = true) (hfr : freeObs s (t + 1) 0 out.obs) (hok : argsA s (ags.toList.map s.ev) = true) (hc : csOK ags.toList = true)
    (hv : (ren (t + 1) out.val).within (fun l => (nuAt (nuObs (t + 1) 0 out.obs) l).isSome) = true) :
    Sft P Θ ⟨some t, .call ⟨.value (.func f), ags, ts⟩, ty, pos, after, g⟩ s (ren (t + 1) out.val) [] (nuObs (t + 1) 0 out.obs) := by
  have hsh := free_shut out.obs 0 hfr
  refine ⟨fun s' h1 h2 => ?_, fun l ob h => ?_, fun l hl => (by cases hl), fun l hl => ?_, fun l ⟨o, hl⟩ => ?_, fun l ob ⟨o, hl⟩ ho => ?_⟩
  · have hev : ∀ x ∈ ags.toList, s'.ev x = s.ev x := fun x hx => h1 x (by simp [Op.operands, Call.operands] at hx ⊢; exact .inr hx)
    have hmap : ags.toList.map s'.ev = ags.toList.map s.ev := List.map_congr_left hev
    refine ⟨⟨ren (t + 1) out.val, setU (t + 1) out.obs⟩, p_call hac ?_ (.inl ?_) (freeObs_loc out.obs 0 (fun j h3 h4 => (h2 _ (.inl (nuObs_mem out.obs 0 j h3 h4))).1) hfr) ?_ hc, fun K hK => .done ?_⟩
    · rw [← ha]
      refine List.map_congr_left fun x hx => ?_
      rw [hev x hx]
      exact dat_nolab s s' _ (List.all_eq_true.1 hw _ (List.mem_map_of_mem hx))
    · unfold ownsOf at hfl ⊢; rw [hmap]; exact hfl
    · rw [hmap, argsA_nolab s s' _ hw]; exact hok
    · cases ho : out.obs with
      | nil => rw [ho] at hK; exact hK
      | cons ob r =>
        rw [ho] at hK
        show K ((setObs (t + 1) 0 (ob :: r) s').put (some t) (ren (t + 1) out.val))
        rw [setObs_shp]; exact hK
  · obtain ⟨j, ob', _, e, hm, _⟩ := nuObs_in out.obs 0 l _ h
    cases e; exact hsh ob hm
  · have := within_names _ hv hl
    obtain ⟨o, ho⟩ := Option.isSome_iff_exists.1 this
    exact .inl ⟨o, ho⟩
  · obtain ⟨j, ob', e, _⟩ := nuObs_in out.obs 0 l _ hl
    exact .inl ⟨t, rfl, by rw [e]; omega⟩
  · obtain ⟨j, ob', e, _, _, h4, h5⟩ := nuObs_in out.obs 0 l _ hl
    have hj := (List.getElem?_eq_some_iff.1 h5).1
    have := nuObs_free out.obs 0 hfr j h4 (by omega)
    rw [← e, ho] at this; cases this
end
end Go.Proofs.Ytjhimcddgkoghaa.AM
/- Evidence of operations that change rows (AOps2): a list without elements; append of a list that is read. -/
namespace Go.Proofs.Ytjhimcddgkoghaa.AM
open Go Go.RowKit
set_option linter.unusedVariables false
set_option linter.unusedSimpArgs false
set_option maxRecDepth 100000
theorem shp_set (l : Nat) (ob : OB) (s : St) : s.set l (some ob) = shp [] [(l, some ob)] s := by
  unfold shp St.set
  congr 1
  · funext j; show (bif Nat.beq j l then some ob else s.hp j) = (match (bif Nat.beq j l then some (some ob) else none) with | some o => o | none => s.hp j)
    cases Nat.beq j l <;> rfl
  · funext j; show (bif Nat.beq j l then none else s.mp j) = (match (bif Nat.beq j l then some (some ob) else none) with | some _ => none | none => s.mp j)
    cases Nat.beq j l <;> rfl
theorem shp_app (l : Nat) (ob : OB) (s : St) : (s.kill l).set l (some ob) = shp [l] [(l, some ob)] s := by
  unfold shp St.set St.kill
  congr 1
  · funext j; show (bif (s.sl j).names l then AV.any else s.sl j) = fgt [l] (s.sl j); unfold fgt; simp
  · funext j; show (bif Nat.beq j l then some ob else killO l (s.hp j)) = (match (bif Nat.beq j l then some (some ob) else none) with | some o => o | none => killO l (s.hp j))
    cases Nat.beq j l <;> rfl
  · funext j; show (bif Nat.beq j l then none else s.mp j) = (match (bif Nat.beq j l then some (some ob) else none) with | some _ => none | none => s.mp j)
    cases Nat.beq j l <;> rfl
theorem nu1 {l m : Nat} {ob : OB} {o : Option OB} (h : nuAt [(l, some ob)] m = some o) : m = l ∧ o = some ob := by
  simp only [nuAt] at h
  cases e : Nat.beq m l with
  | true => rw [e] at h; simp only [cond_true, Option.some.injEq] at h; exact ⟨Nat.eq_of_beq_eq_true e, h.symm⟩
  | false => rw [e] at h; cases h
theorem in1 (l : Nat) (ob : OB) : inNu [(l, some ob)] l := ⟨some ob, by simp [nuAt]⟩
section
variable {P : Program} {Θ : Tab} {s : St} {ty : TypeId} {pos : String} {after : Array Edge} {g : Option (Nat × Bool)}
theorem sft_bsl0 {d : Nat} {t : TypeId} {el sz b : Nat} {z : AV} (hf : s.hp (d + 1) = none) (ht : Θ.look t = .slice el sz b z) (hok : okL (d + 1) = true := by rfl) :
    Sft P Θ ⟨some d, .buildSlice t 0 #[], ty, pos, after, g⟩ s (.own (d + 1)) [] [(d + 1, some ⟨.s el, sz, []⟩)] := by
  refine ⟨fun s' h1 h2 => ⟨⟨.own (d + 1), some fun s'' => s''.set (d + 1) (some ⟨.s el, sz, []⟩)⟩, ?_, fun K hK => .done ?_⟩, fun l ob h => ?_, fun l hl => (by cases hl), fun l hl => .inl ?_, fun l ⟨o, hl⟩ => .inl ?_, fun l ob ⟨o, hl⟩ ho => ?_⟩
  · exact ⟨d, el, sz, b, z, rfl, (h2 _ (.inl (in1 _ _))).1.trans hf, hok, ht, by omega, .inl ⟨trivial, fun x hx => by simp at hx, by simp [ownsOf, ownsAL], by simp [ownsOf, ownsAL, frzT, setParts]⟩⟩
  · rw [app_some, shp_set]; exact hK
  · obtain ⟨_, e⟩ := nu1 h; cases e; rfl
  · simp only [AV.names] at hl; rw [← Nat.eq_of_beq_eq_true hl]; exact in1 _ _
  · obtain ⟨rfl, _⟩ := nu1 hl; exact ⟨d, rfl, rfl⟩
  · obtain ⟨rfl, _⟩ := nu1 hl; rw [hf] at ho; cases ho
theorem sft_appl {d : Option Tmp} {tx : Tmp} {y : Operand} {t el sz b l : Nat} {e0 : ET} {z : AV} {xs ys : List AV} (hx : s.sl tx = .own l) (hy : s.ev y = .lst sz ys) (ho : s.hp l = some ⟨e0, sz, xs⟩) (ht : Θ.look t = .slice el sz b z) (hb : (xs.length + ys.length) * b ≤ 140737488355328) (hb1 : Nat.ble 1 b = true) (he : (e0 = .s el ∨ e0 = .z el) := by first | exact .inl rfl | exact .inr rfl) (hok : okL l = true := by rfl) :
    Sft P Θ ⟨d, .call ⟨.builtin .append, #[.tmp tx, y], #[t, t]⟩, ty, pos, after, g⟩ s (.own l) [l] [(l, some ⟨.s el, sz, xs ++ ys⟩)] := by
  have hb1' := Nat.le_of_ble_eq_true hb1
  have hm : xs.length + ys.length ≤ maxLen := by
    have : (xs.length + ys.length) * 1 ≤ (xs.length + ys.length) * b := Nat.mul_le_mul_left _ hb1'
    unfold maxLen; omega
  have hmem : tx ∈ tmpsOf (⟨d, .call ⟨.builtin .append, #[.tmp tx, y], #[t, t]⟩, ty, pos, after, g⟩ : Oper) := mem_tmps (by simp [Op.operands, Call.operands])
  have hnm : namedBy s (⟨d, .call ⟨.builtin .append, #[.tmp tx, y], #[t, t]⟩, ty, pos, after, g⟩ : Oper) l := ⟨tx, hmem, by rw [hx]; simp [AV.names]⟩
  refine ⟨fun s' h1 h2 => ⟨⟨.own l, some fun s'' => (s''.kill l).set l (some ⟨.s el, sz, xs ++ ys⟩)⟩, ?_, fun K hK => .done ?_⟩, fun m ob h => ?_, fun m hl => ?_, fun m hl => .inl ?_, fun m ⟨o, hl⟩ => .inr ?_, fun m ob ⟨o, hl⟩ hob => ?_⟩
  · have e1 : s'.ev (.tmp tx) = .own l := (h1 _ (by simp [Op.operands, Call.operands])).trans hx
    have e2 : s'.ev y = .lst sz ys := (h1 _ (by simp [Op.operands, Call.operands])).trans hy
    exact ⟨.tmp tx, y, t, el, sz, b, z, l, _, ys, rfl, rfl, ht, e1, (h2 _ (.inl (in1 _ _))).1.trans ho, hok, rfl, hb, hm, .inl ⟨el, he, rfl, .inl e2, rfl⟩⟩
  · rw [app_some, shp_app]; exact hK
  · obtain ⟨_, e⟩ := nu1 h; cases e; rfl
  · rw [List.mem_singleton] at hl; subst hl; exact in1 _ _
  · simp only [AV.names] at hl; rw [← Nat.eq_of_beq_eq_true hl]; exact in1 _ _
  · obtain ⟨rfl, _⟩ := nu1 hl; exact hnm
  · obtain ⟨rfl, _⟩ := nu1 hl
    rw [ho] at hob; cases hob
    rcases he with rfl | rfl <;> rfl
end
end Go.Proofs.Ytjhimcddgkoghaa.AM
/- Evidence of operations that change rows (AOps2): a list of one struct with own lists, folded; append in depth. -/
namespace Go.Proofs.Ytjhimcddgkoghaa.AM
open Go Go.RowKit
set_option linter.unusedVariables false
set_option linter.unusedSimpArgs false
set_option maxRecDepth 100000
theorem hp_set {s : St} {l : Nat} {o : Option OB} (j : Nat) : (s.set l o).hp j = bif Nat.beq j l then o else s.hp j := rfl
theorem hp_drop {s : St} {l : Nat} (j : Nat) : (s.drop l).hp j = bif Nat.beq j l then none else killO l (s.hp j) := rfl
section
variable {P : Program} {Θ : Tab} {s : St} {ty : TypeId} {pos : String} {after : Array Edge} {g : Option (Nat × Bool)}
theorem sft_appd {d : Option Tmp} {tx ty' : Tmp} {t el sz b l l' : Nat} {e' : ET} {z : AV} {xs ys : List AV} (hx : s.sl tx = .own l) (hy : s.sl ty' = .own l') (ho : s.hp l = some ⟨.d el, sz, xs⟩) (ho' : s.hp l' = some ⟨e', sz, ys⟩) (hn : Nat.beq l' l = false) (ht : Θ.look t = .slice el sz b z) (hb : (xs.length + ys.length) * b ≤ 140737488355328) (h0 : 0 < ys.length) (hb1 : Nat.ble 1 b = true) (he' : e'.deep = true := by rfl) (hsh : e'.shut = true := by rfl) (hok : okL l = true := by rfl) (hok' : okL l' = true := by rfl) :
    Sft P Θ ⟨d, .call ⟨.builtin .append, #[.tmp tx, .tmp ty'], #[t, t]⟩, ty, pos, after, g⟩ s (.own l) [l, l'] [(l, some ⟨.d el, sz, xs ++ ys⟩), (l', none)] := by
  have hb1' := Nat.le_of_ble_eq_true hb1
  have hm : xs.length + ys.length ≤ maxLen := by
    have : (xs.length + ys.length) * 1 ≤ (xs.length + ys.length) * b := Nat.mul_le_mul_left _ hb1'
    unfold maxLen; omega
  have hne : l' ≠ l := fun e => by rw [e] at hn; simp at hn
  have m1 : tx ∈ tmpsOf (⟨d, .call ⟨.builtin .append, #[.tmp tx, .tmp ty'], #[t, t]⟩, ty, pos, after, g⟩ : Oper) := mem_tmps (by simp [Op.operands, Call.operands])
  have m2 : ty' ∈ tmpsOf (⟨d, .call ⟨.builtin .append, #[.tmp tx, .tmp ty'], #[t, t]⟩, ty, pos, after, g⟩ : Oper) := mem_tmps (by simp [Op.operands, Call.operands])
  have n1 : namedBy s (⟨d, .call ⟨.builtin .append, #[.tmp tx, .tmp ty'], #[t, t]⟩, ty, pos, after, g⟩ : Oper) l := ⟨tx, m1, by rw [hx]; simp [AV.names]⟩
  have n2 : namedBy s (⟨d, .call ⟨.builtin .append, #[.tmp tx, .tmp ty'], #[t, t]⟩, ty, pos, after, g⟩ : Oper) l' := ⟨ty', m2, by rw [hy]; simp [AV.names]⟩
  have i1 : inNu [(l, some (OB.mk (.d el) sz (xs ++ ys))), (l', none)] l := ⟨some (OB.mk (.d el) sz (xs ++ ys)), (by show (bif Nat.beq l l then some _ else _) = _; rw [Nat.beq_refl]; rfl)⟩
  have i2 : inNu [(l, some (OB.mk (.d el) sz (xs ++ ys))), (l', none)] l' := ⟨none, (by show (bif Nat.beq l' l then some _ else (bif Nat.beq l' l' then some none else none)) = some none; rw [hn, Nat.beq_refl]; rfl)⟩
  have cases2 : ∀ m o, nuAt [(l, some (OB.mk (.d el) sz (xs ++ ys))), (l', none)] m = some o → (m = l ∧ o = some (OB.mk (.d el) sz (xs ++ ys))) ∨ (m = l' ∧ o = none) := fun m o h => by
    simp only [nuAt] at h
    cases e1 : Nat.beq m l with
    | true => rw [e1] at h; simp only [cond_true, Option.some.injEq] at h; exact .inl ⟨Nat.eq_of_beq_eq_true e1, h.symm⟩
    | false =>
      rw [e1] at h
      cases e2 : Nat.beq m l' with
      | true => rw [e2] at h; simp only [cond_true, cond_false, Option.some.injEq] at h; exact .inr ⟨Nat.eq_of_beq_eq_true e2, h.symm⟩
      | false => rw [e2] at h; simp at h
  have hshp : ∀ s' : St, ((s'.kill l).drop l').set l (some ⟨.d el, sz, xs ++ ys⟩) = shp [l, l'] [(l, some (OB.mk (.d el) sz (xs ++ ys))), (l', none)] s' := fun s' => by
    unfold shp
    show St.mk _ _ _ = St.mk _ _ _
    congr 1
    · funext j
      show (bif (bif (s'.sl j).names l then AV.any else s'.sl j).names l' then AV.any else (bif (s'.sl j).names l then AV.any else s'.sl j)) = fgt [l, l'] (s'.sl j)
      unfold fgt
      cases h1 : (s'.sl j).names l <;> cases h2 : (s'.sl j).names l' <;> simp [h1, h2, AV.names]
    · funext j
      show (bif Nat.beq j l then some (OB.mk (.d el) sz (xs ++ ys)) else bif Nat.beq j l' then none else killO l' (killO l (s'.hp j))) = _
      simp only [nuAt]
      cases e1 : Nat.beq j l <;> cases e2 : Nat.beq j l' <;> simp [kils]
    · funext j
      show (bif Nat.beq j l then none else bif Nat.beq j l' then none else s'.mp j) = _
      simp only [nuAt]
      cases e1 : Nat.beq j l <;> cases e2 : Nat.beq j l' <;> simp
  refine ⟨fun s' h1 h2 => ⟨⟨.own l, some fun s'' => ((s''.kill l).drop l').set l (some ⟨.d el, sz, xs ++ ys⟩)⟩, ?_, fun K hK => .done ?_⟩, fun m ob h => ?_, fun m hl => ?_, fun m hl => .inl ?_, fun m ⟨o, hl⟩ => .inr ?_, fun m ob ⟨o, hl⟩ hob => ?_⟩
  · have e1 : s'.ev (.tmp tx) = .own l := (h1 _ (by simp [Op.operands, Call.operands])).trans hx
    have e2 : s'.ev (.tmp ty') = .own l' := (h1 _ (by simp [Op.operands, Call.operands])).trans hy
    exact ⟨.tmp tx, .tmp ty', t, el, sz, b, z, l, _, ys, rfl, rfl, ht, e1, (h2 _ (.inl i1)).1.trans ho, hok, rfl, hb, hm, .inr ⟨l', _, .inr (.inl rfl), e2, hne, hok', (h2 _ (.inl i2)).1.trans ho', he', rfl, rfl, h0, rfl⟩⟩
  · rw [app_some, hshp]; exact hK
  · rcases cases2 m _ h with ⟨_, e⟩ | ⟨_, e⟩
    · cases e; rfl
    · cases e
  · simp only [List.mem_cons, List.not_mem_nil, or_false] at hl
    rcases hl with rfl | rfl
    · exact i1
    · exact i2
  · simp only [AV.names] at hl; rw [← Nat.eq_of_beq_eq_true hl]; exact i1
  · rcases cases2 m o hl with ⟨rfl, _⟩ | ⟨rfl, _⟩
    · exact n1
    · exact n2
  · rcases cases2 m o hl with ⟨rfl, _⟩ | ⟨rfl, _⟩
    · rw [ho] at hob; cases hob; rfl
    · rw [ho'] at hob; cases hob; exact hsh
theorem sft_bslm {d : Nat} {tx : Tmp} {t el b l1 l2 t1 t2 z1 z2 : Nat} {z : AV} {xs1 xs2 : List AV} (hx : s.sl tx = .mix [.own l1, .own l2]) (h1 : s.hp l1 = some ⟨.s t1, z1, xs1⟩) (h2 : s.hp l2 = some ⟨.s t2, z2, xs2⟩) (hn1 : ∀ x ∈ xs1, noLst x = true) (hn2 : ∀ x ∈ xs2, noLst x = true) (hf : s.hp (d + 1) = none) (hn : Nat.beq l1 l2 = false) (ht : Θ.look t = .slice el 2 b z) (hok : okL (d + 1) = true := by rfl) (hok1 : okL l1 = true := by rfl) (hok2 : okL l2 = true := by rfl) :
    Sft P Θ ⟨some d, .buildSlice t 1 #[(0, .tmp tx)], ty, pos, after, g⟩ s (.own (d + 1)) [l1, l2] [(d + 1, some ⟨.d el, 2, [.agg [.lst z1 xs1, .lst z2 xs2]]⟩), (l1, none), (l2, none)] := by
  obtain ⟨D, hD⟩ : ∃ D, D = d + 1 := ⟨_, rfl⟩
  rw [← hD] at hf hok ⊢
  have ne12 : l1 ≠ l2 := fun e => by rw [e] at hn; simp at hn
  have ne1 : l1 ≠ D := fun e => by rw [e, hf] at h1; cases h1
  have ne2 : l2 ≠ D := fun e => by rw [e, hf] at h2; cases h2
  have b12 := nbne ne12
  have b21 := nbne (Ne.symm ne12)
  have b1 := nbne ne1
  have b2 := nbne ne2
  have b1' := nbne (Ne.symm ne1)
  have b2' := nbne (Ne.symm ne2)
  have m1 : tx ∈ tmpsOf (⟨some d, .buildSlice t 1 #[(0, .tmp tx)], ty, pos, after, g⟩ : Oper) := mem_tmps (by simp [Op.operands])
  have n1 : namedBy s (⟨some d, .buildSlice t 1 #[(0, .tmp tx)], ty, pos, after, g⟩ : Oper) l1 := ⟨tx, m1, by rw [hx]; simp [AV.names, namesL]⟩
  have n2 : namedBy s (⟨some d, .buildSlice t 1 #[(0, .tmp tx)], ty, pos, after, g⟩ : Oper) l2 := ⟨tx, m1, by rw [hx]; simp [AV.names, namesL]⟩
  obtain ⟨row, hrow⟩ : ∃ row : OB, row = ⟨.d el, 2, [.agg [.lst z1 xs1, .lst z2 xs2]]⟩ := ⟨_, rfl⟩
  rw [← hrow]
  have nuD : nuAt [(D, some row), (l1, none), (l2, none)] D = some (some row) := by simp only [nuAt]; rw [Nat.beq_refl]; rfl
  have nu1' : nuAt [(D, some row), (l1, none), (l2, none)] l1 = some none := by simp only [nuAt]; rw [b1, Nat.beq_refl]; rfl
  have nu2' : nuAt [(D, some row), (l1, none), (l2, none)] l2 = some none := by simp only [nuAt]; rw [b2, b21, Nat.beq_refl]; rfl
  have cases3 : ∀ m o, nuAt [(D, some row), (l1, none), (l2, none)] m = some o → (m = D ∧ o = some row) ∨ (m = l1 ∧ o = none) ∨ (m = l2 ∧ o = none) := fun m o h => by
    simp only [nuAt] at h
    cases e1 : Nat.beq m D with
    | true => rw [e1] at h; simp only [cond_true, Option.some.injEq] at h; exact .inl ⟨Nat.eq_of_beq_eq_true e1, h.symm⟩
    | false =>
      rw [e1] at h
      cases e2 : Nat.beq m l1 with
      | true => rw [e2] at h; simp only [cond_true, cond_false, Option.some.injEq] at h; exact .inr (.inl ⟨Nat.eq_of_beq_eq_true e2, h.symm⟩)
      | false =>
        rw [e2] at h
        cases e3 : Nat.beq m l2 with
        | true => rw [e3] at h; simp only [cond_true, cond_false, Option.some.injEq] at h; exact .inr (.inr ⟨Nat.eq_of_beq_eq_true e3, h.symm⟩)
        | false => rw [e3] at h; simp at h
  have ey1 : killA l1 (setM (.mix [.own l1, .own l2]) [0] (.lst z1 xs1)) = .mix [.lst z1 xs1, .own l2] := by
    simp [setM, killA, killL, b21]
  have ey2 : killA l2 (setM (.mix [.lst z1 xs1, .own l2]) [1] (.lst z2 xs2)) = .mix [.lst z1 xs1, .lst z2 xs2] := by
    simp [setM, killA, killL]
  refine ⟨fun s' k1 k2 => ⟨⟨.own D, some fun s'' => s''.set D (some ⟨.o (some el) 0 (.mix [.own l1, .own l2]), 2, [.mix [.own l1, .own l2]]⟩)⟩, ?_, fun K hK => ?_⟩, fun l ob h => ?_, fun l hl => ?_, fun l hl => .inl ?_, fun l ⟨o, hl⟩ => ?_, fun l ob ⟨o, hl⟩ ho => ?_⟩
  · have e1 : s'.ev (.tmp tx) = .mix [.own l1, .own l2] := (k1 _ (by simp [Op.operands])).trans hx
    exact ⟨d, el, 2, b, z, rfl, hD ▸ (k2 _ (.inl ⟨_, nuD⟩)).1.trans hf, hD ▸ hok, ht, by omega, .inr ⟨.tmp tx, .mix [.own l1, .own l2], rfl, rfl, (fun c e => by cases e), by rw [e1]; rfl, rfl, by rw [hD]⟩⟩
  · have r1 : s'.hp l1 = some ⟨.s t1, z1, xs1⟩ := (k2 _ (.inl ⟨_, nu1'⟩)).1.trans h1
    have r2 : s'.hp l2 = some ⟨.s t2, z2, xs2⟩ := (k2 _ (.inl ⟨_, nu2'⟩)).1.trans h2
    rw [app_some]
    refine .s2d l1 (t := t1) (sz := z1) (xs := xs1) ?_ hn1 ?_
    · rw [hp_put, hp_set, b1]; exact r1
    refine .s2d l2 (t := t2) (sz := z2) (xs := xs2) ?_ hn2 ?_
    · rw [hp_set, b21, hp_put, hp_set, b2]; exact r2
    refine .fold D l1 [0] (t := some el) (i := 0) (sz := 2) (c := 0) (y := .mix [.own l1, .own l2]) (xs := [.mix [.own l1, .own l2]]) (ob' := ⟨.d t1, z1, xs1⟩) ?_ rfl b1 hok1 ?_ rfl ?_
    · rw [hp_set, b2', hp_set, b1', hp_put, hp_set, Nat.beq_refl]; rfl
    · rw [hp_set, b12, hp_set, Nat.beq_refl]; rfl
    rw [ey1]
    refine .fold D l2 [1] (t := some el) (i := 0) (sz := 2) (c := 1) (y := .mix [.lst z1 xs1, .own l2]) (xs := [.mix [.own l1, .own l2]]) (ob' := ⟨.d t2, z2, xs2⟩) ?_ rfl b2 hok2 ?_ rfl ?_
    · rw [hp_set, Nat.beq_refl]; rfl
    · rw [hp_set, b2, hp_drop, b21, hp_set, Nat.beq_refl]; rfl
    rw [ey2]
    refine .shut D (t := some el) (i := 0) (sz := 2) (y := .mix [.lst z1 xs1, .lst z2 xs2]) (z := .agg [.lst z1 [], .lst z2 []]) (y' := .agg [.lst z1 xs1, .lst z2 xs2]) (xs := [.mix [.own l1, .own l2]]) ?_ ?_ (.done ?_)
    · rw [hp_set, Nat.beq_refl]; rfl
    · simp [shutA, shutL]
    · refine cast (congrArg K ?_) hK
      unfold shp St.put
      show St.mk _ _ _ = St.mk _ _ _
      congr 1
      · funext j
        show (bif Nat.beq j d then AV.own D else fgt [l1, l2] (s'.sl j)) = (bif (bif (bif Nat.beq j d then AV.own D else s'.sl j).names l1 then AV.any else (bif Nat.beq j d then AV.own D else s'.sl j)).names l2 then AV.any else (bif (bif Nat.beq j d then AV.own D else s'.sl j).names l1 then AV.any else (bif Nat.beq j d then AV.own D else s'.sl j)))
        cases e : Nat.beq j d with
        | true => simp [AV.names, b1', b2']
        | false =>
          unfold fgt
          cases q1 : (s'.sl j).names l1 <;> cases q2 : (s'.sl j).names l2 <;> simp [q1, q2, AV.names]
      · funext j
        show (match nuAt [(D, some row), (l1, none), (l2, none)] j with | some o => o | none => kils [l1, l2] (s'.hp j)) = (bif Nat.beq j D then _ else bif Nat.beq j D then _ else bif Nat.beq j l2 then none else killO l2 (bif Nat.beq j D then _ else bif Nat.beq j l1 then none else killO l1 (bif Nat.beq j l2 then _ else bif Nat.beq j l1 then _ else bif Nat.beq j D then _ else s'.hp j)))
        simp only [nuAt]
        cases e1 : Nat.beq j D <;> cases e2 : Nat.beq j l1 <;> cases e3 : Nat.beq j l2 <;> simp [kils, hrow, ET.shutd, killO]
      · funext j
        show (match nuAt [(D, some row), (l1, none), (l2, none)] j with | some _ => none | none => s'.mp j) = (bif Nat.beq j D then none else bif Nat.beq j D then none else bif Nat.beq j l2 then none else bif Nat.beq j D then none else bif Nat.beq j l1 then none else bif Nat.beq j l2 then none else bif Nat.beq j l1 then none else bif Nat.beq j D then none else s'.mp j)
        simp only [nuAt]
        cases e1 : Nat.beq j D <;> cases e2 : Nat.beq j l1 <;> cases e3 : Nat.beq j l2 <;> simp
  · rcases cases3 l _ h with ⟨_, e⟩ | ⟨_, e⟩ | ⟨_, e⟩
    · cases e; rw [hrow]; rfl
    · cases e
    · cases e
  · simp only [List.mem_cons, List.not_mem_nil, or_false] at hl
    rcases hl with rfl | rfl
    · exact ⟨_, nu1'⟩
    · exact ⟨_, nu2'⟩
  · simp only [AV.names] at hl; rw [← Nat.eq_of_beq_eq_true hl]; exact ⟨_, nuD⟩
  · rcases cases3 l o hl with ⟨rfl, _⟩ | ⟨rfl, _⟩ | ⟨rfl, _⟩
    · exact .inl ⟨d, rfl, by rw [hD]⟩
    · exact .inr n1
    · exact .inr n2
  · rcases cases3 l o hl with ⟨rfl, _⟩ | ⟨rfl, _⟩ | ⟨rfl, _⟩
    · rw [hf] at ho; cases ho
    · rw [h1] at ho; cases ho; rfl
    · rw [h2] at ho; cases ho; rfl
end
end Go.Proofs.Ytjhimcddgkoghaa.AM
/- Evidence of operations in a region that draws (AOps2): a cell made, a cell filled with something that holds labels, such a cell read, a call that reads rows of the call's own. -/
namespace Go.Proofs.Ytjhimcddgkoghaa.AM
open Go Go.RowKit
set_option linter.unusedVariables false
set_option linter.unusedSimpArgs false
set_option maxRecDepth 100000
mutual
theorem dat_loc {s s' : St} : ∀ x : AV, (∀ l, x.names l = true → s'.hp l = s.hp l) → s'.dat x = s.dat x ∧ isDataA s' x = isDataA s x
  | .own l, h => by
    have := h l (by simp [AV.names])
    simp only [St.dat, isDataA, this, and_self]
  | .optr l i p c, h => by
    have := h l (by simp [AV.names])
    simp only [St.dat, isDataA, this, and_self]
  | .mix xs, h => by
    obtain ⟨h1, h2⟩ := datL_loc xs (fun l hl => h l (by simpa [AV.names] using hl))
    simp only [St.dat, isDataA, h1, h2, and_self]
  | .ifc t x, h => by
    obtain ⟨h1, _⟩ := dat_loc x (fun l hl => h l (by simpa [AV.names] using hl))
    simp only [St.dat, isDataA, h1, and_self]
  | .rd x, _ => ⟨rfl, rfl⟩
  | .any, _ => ⟨rfl, rfl⟩
  | .v _, _ => ⟨rfl, rfl⟩
  | .agg _, _ => ⟨rfl, rfl⟩
  | .lst _ _, _ => ⟨rfl, rfl⟩
  | .ptr _, _ => ⟨rfl, rfl⟩
  | .tup _, _ => ⟨rfl, rfl⟩
  | .mapv _, _ => ⟨rfl, rfl⟩
  | .fn _ _ _, _ => ⟨rfl, rfl⟩
theorem datL_loc {s s' : St} : ∀ xs : List AV, (∀ l, namesL l xs = true → s'.hp l = s.hp l) → s'.datL xs = s.datL xs ∧ isDataL s' xs = isDataL s xs
  | [], _ => ⟨rfl, rfl⟩
  | x :: xs, h => by
    obtain ⟨h1, h2⟩ := dat_loc x (fun l hl => h l (by simp [namesL, hl]))
    obtain ⟨h3, h4⟩ := datL_loc xs (fun l hl => h l (by simp [namesL, hl]))
    simp only [St.datL, isDataL, h1, h2, h3, h4, and_self]
end
theorem argA_loc {s s' : St} (x : AV) (h : ∀ l, x.names l = true → s'.hp l = s.hp l) : argA s' x = argA s x := by
  cases x with
  | fn f xs ys => cases xs <;> cases ys <;> rfl
  | ifc t x => exact (dat_loc x (fun l hl => h l (by simpa [AV.names] using hl))).2
  | _ => first | rfl | exact (dat_loc _ h).2
theorem argsA_loc {s s' : St} : ∀ xs : List AV, (∀ l, namesL l xs = true → s'.hp l = s.hp l) → argsA s' xs = argsA s xs
  | [], _ => rfl
  | x :: xs, h => by
    simp only [argsA]
    rw [argA_loc x (fun l hl => h l (by simp [namesL, hl])), argsA_loc xs (fun l hl => h l (by simp [namesL, hl]))]
theorem namesL_map {s : St} {l : Nat} : ∀ xs : List Operand, namesL l (xs.map s.ev) = true → ∃ t, Operand.tmp t ∈ xs ∧ (s.sl t).names l = true
  | [], h => by simp [namesL] at h
  | x :: xs, h => by
    simp only [List.map_cons, namesL, Bool.or_eq_true] at h
    rcases h with h | h
    · cases x with
      | tmp t => exact ⟨t, by simp, h⟩
      | _ => simp [St.ev, AV.names, namesL] at h
    · obtain ⟨t, h1, h2⟩ := namesL_map xs h
      exact ⟨t, List.mem_cons_of_mem _ h1, h2⟩
theorem kz_shut (t : Nat) (z : AV) : (kz t z).shut = true := by unfold kz; cases noLst z <;> rfl
section
variable {P : Program} {Θ : Tab} {s : St} {ty : TypeId} {pos : String} {after : Array Edge} {g : Option (Nat × Bool)}
/-- a call that may read rows of the caller's own -/
theorem sft_callo {f : FuncId} {ags : Array Operand} {ts : Array TypeId} {t : Nat} {args : List AV} {out : Out} (hac : AC P f args out) (ha : (ags.toList.map fun x => s.dat (s.ev x)) = args) (hfl : out.flat) (hfr : freeObs s (t + 1) 0 out.obs) (hok : argsA s (ags.toList.map s.ev) = true) (hc : csOK ags.toList = true)
    (hv : (ren (t + 1) out.val).within (fun l => (nuAt (nuObs (t + 1) 0 out.obs) l).isSome) = true) :
    Sft P Θ ⟨some t, .call ⟨.value (.func f), ags, ts⟩, ty, pos, after, g⟩ s (ren (t + 1) out.val) [] (nuObs (t + 1) 0 out.obs) := by
  have hsh := free_shut out.obs 0 hfr
  refine ⟨fun s' h1 h2 => ?_, fun l ob h => ?_, fun l hl => (by cases hl), fun l hl => ?_, fun l ⟨o, hl⟩ => ?_, fun l ob ⟨o, hl⟩ ho => ?_⟩
  · have hev : ∀ x ∈ ags.toList, s'.ev x = s.ev x := fun x hx => h1 x (by simp [Op.operands, Call.operands] at hx ⊢; exact .inr hx)
    have hmap : ags.toList.map s'.ev = ags.toList.map s.ev := List.map_congr_left hev
    have hn : ∀ l, namesL l (ags.toList.map s.ev) = true → s'.hp l = s.hp l := fun l hl => by
      obtain ⟨t', h3, h4⟩ := namesL_map _ hl
      exact (h2 l (.inr ⟨t', mem_tmps (by simp [Op.operands, Call.operands] at h3 ⊢; exact h3), h4⟩)).1
    refine ⟨⟨ren (t + 1) out.val, setU (t + 1) out.obs⟩, p_call hac ?_ (.inr hfl) (freeObs_loc out.obs 0 (fun j h3 h4 => (h2 _ (.inl (nuObs_mem out.obs 0 j h3 h4))).1) hfr) ?_ hc, fun K hK => .done ?_⟩
    · rw [← ha]
      refine List.map_congr_left fun x hx => ?_
      rw [hev x hx]
      refine (dat_loc _ fun l hl => ?_).1
      cases x with
      | tmp t' => exact (h2 l (.inr ⟨t', mem_tmps (by simp [Op.operands, Call.operands] at hx ⊢; exact hx), hl⟩)).1
      | _ => simp [St.ev, AV.names, namesL] at hl
    · rw [hmap, argsA_loc _ hn]; exact hok
    · cases ho : out.obs with
      | nil => rw [ho] at hK; exact hK
      | cons ob r =>
        rw [ho] at hK
        show K ((setObs (t + 1) 0 (ob :: r) s').put (some t) (ren (t + 1) out.val))
        rw [setObs_shp]; exact hK
  · obtain ⟨j, ob', _, e, hm, _⟩ := nuObs_in out.obs 0 l _ h
    cases e; exact hsh ob hm
  · have := within_names _ hv hl
    obtain ⟨o, ho⟩ := Option.isSome_iff_exists.1 this
    exact .inl ⟨o, ho⟩
  · obtain ⟨j, ob', e, _⟩ := nuObs_in out.obs 0 l _ hl
    exact .inl ⟨t, rfl, by rw [e]; omega⟩
  · obtain ⟨j, ob', e, _, _, h4, h5⟩ := nuObs_in out.obs 0 l _ hl
    have hj := (List.getElem?_eq_some_iff.1 h5).1
    have := nuObs_free out.obs 0 hfr j h4 (by omega)
    rw [← e, ho] at this; cases this
/-- a cell is made -/
theorem sft_allo {t : TypeId} {d : Nat} (hf : s.hp (d + 1) = none) (hk : (Θ.look t).known = true) (hok : okL (d + 1) = true := by rfl) :
    Sft P Θ ⟨some d, .alloc t, ty, pos, after, g⟩ s (.optr (d + 1) 0 [] 0) [] [(d + 1, some ⟨kz t (Θ.look t).zero, (Θ.look t).size, [(Θ.look t).zero]⟩)] := by
  refine ⟨fun s' h1 h2 => ⟨⟨.optr (d + 1) 0 [] 0, some fun s => s.set (d + 1) (some ⟨kz t (Θ.look t).zero, (Θ.look t).size, [(Θ.look t).zero]⟩)⟩, p_allo ((h2 _ (.inl (in1 _ _))).1.trans hf) hk hok, fun K hK => .done ?_⟩, fun l ob h => ?_, fun l hl => (by cases hl), fun l hl => .inl ?_, fun l ⟨o, hl⟩ => .inl ?_, fun l ob ⟨o, hl⟩ ho => ?_⟩
  · rw [app_some, shp_set]; exact hK
  · obtain ⟨_, e⟩ := nu1 h; cases e; exact kz_shut _ _
  · simp only [AV.names] at hl; rw [← Nat.eq_of_beq_eq_true hl]; exact in1 _ _
  · obtain ⟨rfl, _⟩ := nu1 hl; exact ⟨d, rfl, rfl⟩
  · obtain ⟨rfl, _⟩ := nu1 hl; rw [hf] at ho; cases ho
theorem sft_as2 {d : Option Tmp} {t : Nat} {y : AV} (hx : s.sl t = y) : Sft P Θ ⟨d, .assign (.tmp t), ty, pos, after, g⟩ s y [] [] := by
  refine ⟨fun s' h1 h2 => ⟨⟨y, none⟩, p_as ((h1 (.tmp t) (by simp [Op.operands])).trans hx), fun K hK => .done hK⟩, fun l ob h => by simp [nuAt] at h, fun l hl => (by cases hl), fun l hl => .inr ⟨t, mem_tmps (by simp [Op.operands]), by rw [hx]; exact hl⟩, fun l hl => (inNu_nil hl).elim, fun l ob hl => (inNu_nil hl).elim⟩
theorem in_nuO {d k : Nat} {obs : List OB} : ∀ l ∈ (nuObs d k obs).map (·.1), inNu (nuObs d k obs) l := by
  induction obs generalizing k with
  | nil => intro l hl; cases hl
  | cons ob r ih =>
    intro l hl
    unfold inNu
    simp only [nuObs, List.map_cons, List.mem_cons] at hl
    simp only [nuObs, nuAt]
    cases e : Nat.beq l (d + 1000 * k) with
    | true => exact ⟨_, rfl⟩
    | false =>
      rcases hl with h | h
      · rw [h, Nat.beq_refl] at e; cases e
      · obtain ⟨o, ho⟩ := ih l h; exact ⟨o, ho⟩
theorem in_o1 {l : Nat} {ob : OB} : ∀ m ∈ ([(l, some ob)] : List (Nat × Option OB)).map (·.1), inNu [(l, some ob)] m := fun m hm => by
  simp only [List.map_cons, List.map_nil, List.mem_singleton] at hm
  subst hm; exact in1 _ _
theorem in_o0 : ∀ m ∈ ([] : List (Nat × Option OB)).map (·.1), inNu [] m := fun m hm => by cases hm
end
theorem parts_nolab {s s' : St} : ∀ (ps : List (Nat × Operand)) (z : List AV), (∀ x ∈ ps, s'.ev x.2 = s.ev x.2 ∧ noLab (s.ev x.2) = true) → setParts s' z ps = setParts s z ps ∧ (partsOK s z ps → partsOK s' z ps)
  | [], z, _ => ⟨rfl, fun h => h⟩
  | (i, x) :: ps, z, h => by
    obtain ⟨h1, h2⟩ := h (i, x) (by simp)
    simp only at h1 h2
    have e1 : s'.dat (s'.ev x) = s.dat (s.ev x) := by rw [h1, dat_nolab s s' _ h2]
    have e2 : isDataA s' (s'.ev x) = isDataA s (s.ev x) := by rw [h1, isData_nolab s s' _ h2]
    obtain ⟨q1, q2⟩ := parts_nolab ps (z.set i (s.dat (s.ev x))) (fun y hy => h y (List.mem_cons_of_mem _ hy))
    unfold setParts partsOK
    rw [e1, e2]
    exact ⟨q1, fun ⟨a, b, c⟩ => ⟨a, b, q2 c⟩⟩
section
variable {P : Program} {Θ : Tab} {s : St} {ty : TypeId} {pos : String} {after : Array Edge} {g : Option (Nat × Bool)}
/-- a struct's value put together out of data -/
theorem sft_bld {d : Option Tmp} {t : TypeId} {ps : Array (Nat × Operand)} {fs : List (Nat × Nat)} {z : List AV} (ht : Θ.look t = .struct fs z) (hp : partsOK s z ps.toList) (hc : csOK (ps.toList.map (·.2)) = true) (hw : (ps.toList.all fun x => noLab (s.ev x.2)) = true) (ho : ownsOf s (ps.toList.map (·.2)) = []) :
    Sft P Θ ⟨d, .build t ps, ty, pos, after, g⟩ s (.agg (setParts s z ps.toList)) [] [] := by
  refine ⟨fun s' h1 h2 => ⟨⟨.agg (setParts s z ps.toList), none⟩, ?_, fun K hK => .done hK⟩, fun l ob h => by simp [nuAt] at h, fun l hl => (by cases hl), fun l hl => by simp [AV.names] at hl, fun l hl => (inNu_nil hl).elim, fun l ob hl => (inNu_nil hl).elim⟩
  have hev : ∀ x ∈ ps.toList, s'.ev x.2 = s.ev x.2 := fun x hx => h1 x.2 (by simp [Op.operands]; exact ⟨x.1, by simpa using hx⟩)
  obtain ⟨q1, q2⟩ := parts_nolab (s := s) (s' := s') ps.toList z (fun x hx => ⟨hev x hx, List.all_eq_true.1 hw x hx⟩)
  have ho' : ownsOf s' (ps.toList.map (·.2)) = [] := by
    rw [← ho]; unfold ownsOf
    congr 1
    rw [List.map_map, List.map_map]
    exact List.map_congr_left fun x hx => hev x hx
  refine ⟨fs, z, ht, .inl ⟨q2 hp, csOK_spec hc, by rw [ho']; rfl, ?_⟩⟩
  rw [ho', q1]; rfl
/-- what only reads, its value naming rows that its operands name -/
theorem sft_rd {o : Oper} {v : AV} (hp : Pre P Θ o s ⟨v, none⟩) (hc : calm Θ true o = true) (hn : ((labs v).all fun l => (tmpsOf o).any fun t => (s.sl t).names l) = true) : Sft P Θ o s v [] [] := by
  refine ⟨fun s' h1 h2 => ⟨⟨v, none⟩, pre_calm (two := true) hc h1 (fun _ l ⟨x, hx, hn⟩ => ?_) hp, fun K hK => .done hK⟩, fun l ob h => by simp [nuAt] at h, fun l hl => (by cases hl), fun l hl => ?_, fun l hl => (inNu_nil hl).elim, fun l ob hl => (inNu_nil hl).elim⟩
  · cases x with
    | tmp t => exact (h2 l (.inr ⟨t, mem_tmps hx, hn⟩)).1
    | _ => simp [St.ev, AV.names, namesL] at hn
  · have h3 := List.all_eq_true.1 hn l (names_labs v hl)
    obtain ⟨t, ht, h4⟩ := List.any_eq_true.1 h3
    exact .inr ⟨t, ht, h4⟩
/-- a list of one struct of data -/
theorem sft_bsd1 {d : Nat} {t : TypeId} {x : Operand} {el sz b : Nat} {z : AV} {ys : List AV} (hf : s.hp (d + 1) = none) (ht : Θ.look t = .slice el sz b z) (hx : s.ev x = .agg ys) (hz : Nat.beq (asz (.agg ys)) (asz z) = true) (hsz : Nat.ble sz 65536 = true) (hok : okL (d + 1) = true := by rfl) :
    Sft P Θ ⟨some d, .buildSlice t 1 #[(0, x)], ty, pos, after, g⟩ s (.own (d + 1)) [] [(d + 1, some ⟨.s el, sz, [.agg ys]⟩)] := by
  refine ⟨fun s' h1 h2 => ⟨⟨.own (d + 1), some fun s'' => s''.set (d + 1) (some ⟨.s el, sz, [.agg ys]⟩)⟩, ?_, fun K hK => .done ?_⟩, fun l ob h => ?_, fun l hl => (by cases hl), fun l hl => .inl ?_, fun l ⟨o, hl⟩ => .inl ?_, fun l ob ⟨o, hl⟩ ho => ?_⟩
  · exact p_bsl1 ((h2 _ (.inl (in1 _ _))).1.trans hf) ht ((h1 x (by simp [Op.operands])).trans hx) rfl hz hsz hok
  · rw [app_some, shp_set]; exact hK
  · obtain ⟨_, e⟩ := nu1 h; cases e; rfl
  · simp only [AV.names] at hl; rw [← Nat.eq_of_beq_eq_true hl]; exact in1 _ _
  · obtain ⟨rfl, _⟩ := nu1 hl; exact ⟨d, rfl, rfl⟩
  · obtain ⟨rfl, _⟩ := nu1 hl; rw [hf] at ho; cases ho
end
end Go.Proofs.Ytjhimcddgkoghaa.AM
