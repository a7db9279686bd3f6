/- Texts of the machine over data, folded. -/
import Derived.Test.YtjhimcddgkoghaaKa5
import Derived.Test.YtjhimcddgkoghaaKa14
import Derived.Test.YtjhimcddgkoghaaKa6
import Derived.Test.YtjhimcddgkoghaaKa8
import Derived.WalkSpells
import Derived.Test.YtjhimcddgkoghaaKa11
import Derived.Test.YtjhimcddgkoghaaKa7
import Derived.Laws.LoneSync
import Derived.Laws.ResultCell
import Derived.Laws.StructEq
import Derived.Laws.Rows
import Derived.StillTailTactics
/- The law of RefsOK; LoadRef on both sides and its law. -/
namespace Go.Proofs.Ytjhimcddgkoghaa.AM
open Go Go.RowKit
set_option linter.unusedVariables false
set_option linter.unusedSimpArgs false
set_option maxRecDepth 100000
def nmOK (N : Nat) (l : List Rf) : Prop := ∀ e ∈ l, e.name.size ≤ N
attribute [local irreducible] ACode AOps AOps2 RetG RetM Pre ACG
/-- the code that functions of references and a name begin with -/
noncomputable def askF (l : List Rf) (x : ByteArray) : Int := if 4096 < l.length ∨ 65536 < x.size then 2 else if refsB l = true then 0 else 1
theorem askF_long {l : List Rf} {x : ByteArray} (h : 4096 < l.length ∨ 65536 < x.size) : askF l x = 2 := by unfold askF; rw [if_pos h]
theorem askF_bad {l : List Rf} {x : ByteArray} (h : ¬ (4096 < l.length ∨ 65536 < x.size)) (hb : refsB l = false) : askF l x = 1 := by unfold askF; rw [if_neg h, if_neg (by rw [hb]; simp)]
theorem askF_ok {l : List Rf} {x : ByteArray} (h : ¬ (4096 < l.length ∨ 65536 < x.size)) (hb : refsB l = true) : askF l x = 0 := by unfold askF; rw [if_neg h, if_pos hb]
theorem ac_l04Ask {l : List Rf} {x : ByteArray} (hm : l.length ≤ maxLen) (hk : nmOK maxLen l) (hx : x.size ≤ maxLen) : AC Try.prog 153 [.lst 4 (l.map refA), .v (.string x)] ⟨.v (.int .i64 (askF l x)), []⟩ := by
  have hm' := hm
  unfold maxLen at hm' hx
  have h1 := ac_l04OK hm hk
  by_cases a1 : 4096 < l.length
  · rw [askF_long (.inl a1)]
    refine r_of Th_ok (by kernel_rfl) Try.func153 rfl Try.ntmps153 Try.results153 (by kernel_rfl) rfl ?_; conv => whnf
    repeat (((first | refine qb rfl rfl ?_ | refine qi (by assumption) rfl rfl ?_ | refine ql rfl ?_ | refine qo rfl rfl ?_ | refine qs rfl rfl ?_ | refine qn rfl rfl ?_); conv => whnf))
    exact r_ret1 rfl trivial
  by_cases a2 : 65536 < x.size
  · rw [askF_long (.inr a2)]
    refine r_of Th_ok (by kernel_rfl) Try.func153 rfl Try.ntmps153 Try.results153 (by kernel_rfl) rfl ?_; conv => whnf
    repeat (((first | refine qb rfl rfl ?_ | refine qi (by assumption) rfl rfl ?_ | refine ql rfl ?_ | refine qo rfl rfl ?_ | refine qs rfl rfl ?_ | refine qn rfl rfl ?_); conv => whnf))
    exact r_ret1 rfl trivial
  have a3 : ¬ (4096 < l.length ∨ 65536 < x.size) := by omega
  cases hb : refsB l with
  | false =>
    rw [hb] at h1
    rw [askF_bad a3 hb]
    refine r_of Th_ok (by kernel_rfl) Try.func153 rfl Try.ntmps153 Try.results153 (by kernel_rfl) rfl ?_; conv => whnf
    repeat (first | ((first | refine qb rfl rfl ?_ | refine qi (by assumption) rfl rfl ?_ | refine ql rfl ?_ | refine qo rfl rfl ?_ | refine qs rfl rfl ?_ | refine qn rfl rfl ?_); conv => whnf) | (refine qc (h1) rfl ?_; conv => whnf))
    exact r_ret1 rfl trivial
  | true =>
    rw [hb] at h1
    rw [askF_ok a3 hb]
    refine r_of Th_ok (by kernel_rfl) Try.func153 rfl Try.ntmps153 Try.results153 (by kernel_rfl) rfl ?_; conv => whnf
    repeat (first | ((first | refine qb rfl rfl ?_ | refine qi (by assumption) rfl rfl ?_ | refine ql rfl ?_ | refine qo rfl rfl ?_ | refine qs rfl rfl ?_ | refine qn rfl rfl ?_); conv => whnf) | (refine qc (h1) rfl ?_; conv => whnf))
    exact r_ret1 rfl trivial
theorem ac_refsCode {l : List Rf} {x : ByteArray} (hm : l.length ≤ maxLen) (hk : nmOK maxLen l) (hx : x.size ≤ maxLen) : AC Try.prog 157 [.lst 4 (l.map refA), .v (.string x)] ⟨.v (.int .i64 (askF l x)), []⟩ := by
  have hm' := hm
  unfold maxLen at hm' hx
  have h1 := ac_iRefsOK hm hk
  by_cases a1 : 4096 < l.length
  · rw [askF_long (.inl a1)]
    refine r_of Th_ok (by kernel_rfl) Try.func157 rfl Try.ntmps157 Try.results157 (by kernel_rfl) rfl ?_; conv => whnf
    repeat (((first | refine qb rfl rfl ?_ | refine qi (by assumption) rfl rfl ?_ | refine ql rfl ?_ | refine qo rfl rfl ?_ | refine qs rfl rfl ?_ | refine qn rfl rfl ?_); conv => whnf))
    exact r_ret1 rfl trivial
  by_cases a2 : 65536 < x.size
  · rw [askF_long (.inr a2)]
    refine r_of Th_ok (by kernel_rfl) Try.func157 rfl Try.ntmps157 Try.results157 (by kernel_rfl) rfl ?_; conv => whnf
    repeat (((first | refine qb rfl rfl ?_ | refine qi (by assumption) rfl rfl ?_ | refine ql rfl ?_ | refine qo rfl rfl ?_ | refine qs rfl rfl ?_ | refine qn rfl rfl ?_); conv => whnf))
    exact r_ret1 rfl trivial
  have a3 : ¬ (4096 < l.length ∨ 65536 < x.size) := by omega
  cases hb : refsB l with
  | false =>
    rw [hb] at h1
    rw [askF_bad a3 hb]
    refine r_of Th_ok (by kernel_rfl) Try.func157 rfl Try.ntmps157 Try.results157 (by kernel_rfl) rfl ?_; conv => whnf
    repeat (first | ((first | refine qb rfl rfl ?_ | refine qi (by assumption) rfl rfl ?_ | refine ql rfl ?_ | refine qo rfl rfl ?_ | refine qs rfl rfl ?_ | refine qn rfl rfl ?_); conv => whnf) | (refine qc (h1) rfl ?_; conv => whnf))
    exact r_ret1 rfl trivial
  | true =>
    rw [hb] at h1
    rw [askF_ok a3 hb]
    refine r_of Th_ok (by kernel_rfl) Try.func157 rfl Try.ntmps157 Try.results157 (by kernel_rfl) rfl ?_; conv => whnf
    repeat (first | ((first | refine qb rfl rfl ?_ | refine qi (by assumption) rfl rfl ?_ | refine ql rfl ?_ | refine qo rfl rfl ?_ | refine qs rfl rfl ?_ | refine qn rfl rfl ?_); conv => whnf) | (refine qc (h1) rfl ?_; conv => whnf))
    exact r_ret1 rfl trivial
/-- the place of a reference that is there -/
def liveF (l : List Rf) (x : ByteArray) : Int := match l[(rAt l x 0).toNat]? with
  | some r => if 0 ≤ rAt l x 0 ∧ r.gone = false then rAt l x 0 else -1
  | none => -1
theorem live_none {l : List Rf} {x : ByteArray} (h : rAt l x 0 < 0) : liveF l x = -1 := by unfold liveF; split <;> simp; omega
theorem live_at {l : List Rf} {x : ByteArray} {j : Nat} (hj : j < l.length) (h : rAt l x 0 = (j : Int)) : liveF l x = if l[j].gone = true then -1 else (j : Int) := by
  unfold liveF
  have : l[(rAt l x 0).toNat]? = some l[j] := by rw [h]; simp [hj]
  rw [this, h]
  cases hg : l[j].gone <;> simp [hg]
theorem ac_l04Live {l : List Rf} {x : ByteArray} (hm : l.length ≤ maxLen) : AC Try.prog 200 [.lst 4 (l.map refA), .v (.string x)] ⟨.v (.int .i64 (liveF l x)), []⟩ := by
  have h1 := ac_l04At (l := l) (x := x) hm
  by_cases h0 : rAt l x 0 < 0
  · rw [live_none h0]
    refine r_of Th_ok (by kernel_rfl) Try.func200 rfl Try.ntmps200 Try.results200 (by kernel_rfl) rfl ?_; conv => whnf
    have hge := @rAt_ge l x
    have h2 : rAt l x 0 = -1 := by omega
    rw [h2] at h1
    repeat (first | ((first | refine qb rfl rfl ?_ | refine qi (by assumption) rfl rfl ?_ | refine ql rfl ?_ | refine qo rfl rfl ?_ | refine qs rfl rfl ?_ | refine qn rfl rfl ?_); conv => whnf) | (refine qc (h1) rfl ?_; conv => whnf))
    exact r_ret1 rfl trivial
  · obtain ⟨j, hj, e, _⟩ := rAt_lt (by omega : 0 ≤ rAt l x 0)
    rw [live_at hj e]
    rw [e] at h1
    cases hg : l[j].gone with
    | true =>
      rw [if_pos rfl]
      refine r_of Th_ok (by kernel_rfl) Try.func200 rfl Try.ntmps200 Try.results200 (by kernel_rfl) rfl ?_; conv => whnf
      repeat (first | ((first | refine qb rfl rfl ?_ | refine qi (by assumption) rfl rfl ?_ | refine ql rfl ?_ | refine qo rfl rfl ?_ | refine qs rfl rfl ?_ | refine qn rfl rfl ?_); conv => whnf) | (refine qc (h1) rfl ?_; conv => whnf) | (rw [hg]; conv => whnf))
      exact r_ret1 rfl trivial
    | false =>
      rw [if_neg (by simp)]
      refine r_of Th_ok (by kernel_rfl) Try.func200 rfl Try.ntmps200 Try.results200 (by kernel_rfl) rfl ?_; conv => whnf
      repeat (first | ((first | refine qb rfl rfl ?_ | refine qi (by assumption) rfl rfl ?_ | refine ql rfl ?_ | refine qo rfl rfl ?_ | refine qs rfl rfl ?_ | refine qn rfl rfl ?_); conv => whnf) | (refine qc (h1) rfl ?_; conv => whnf) | (rw [hg]; conv => whnf))
      exact r_ret1 rfl trivial
end Go.Proofs.Ytjhimcddgkoghaa.AM
/- LoadRef and LiveRefs on both sides, and their laws. -/
namespace Go.Proofs.Ytjhimcddgkoghaa.AM
open Go Go.RowKit
set_option linter.unusedVariables false
set_option linter.unusedSimpArgs false
set_option maxRecDepth 100000
theorem r_tupvvv {s : St} {Θ : Tab} {t1 t2 t3 : Nat} {y1 y2 y3 : Value} (h1 : s.sl t1 = .v y1) (h2 : s.sl t2 = .v y2) (h3 : s.sl t3 = .v y3) : RetQ Θ [.tmp t1, .tmp t2, .tmp t3] ⟨.tup [.v y1, .v y2, .v y3], []⟩ .ret s := r_tup3 (ra_x h1 trivial) (ra_x h2 trivial) (ra_x h3 trivial)
theorem r_tupvv {s : St} {Θ : Tab} {t1 t2 : Nat} {y1 y2 : Value} (h1 : s.sl t1 = .v y1) (h2 : s.sl t2 = .v y2) : RetQ Θ [.tmp t1, .tmp t2] ⟨.tup [.v y1, .v y2], []⟩ .ret s :=
  ⟨trivial, [], by simp, trivial, ⟨trivial, trivial, trivial⟩, ⟨_, rfl⟩, ⟨ra_x h1 trivial, ra_x h2 trivial, trivial⟩⟩
noncomputable def loadR (l : List Rf) (x : ByteArray) : Int × Int × Int := if askF l x = 0 then (match l[(liveF l x).toNat]? with
  | some r => if 0 ≤ liveF l x then (r.head, r.ver, 0) else (0, 0, 10)
  | none => (0, 0, 10)) else (0, 0, askF l x)
theorem live_cases (l : List Rf) (x : ByteArray) : liveF l x = -1 ∨ ∃ j, ∃ hj : j < l.length, liveF l x = (j : Int) ∧ rAt l x 0 = (j : Int) ∧ l[j].gone = false := by
  by_cases h0 : rAt l x 0 < 0
  · exact .inl (live_none h0)
  · obtain ⟨j, hj, e, _⟩ := rAt_lt (by omega : 0 ≤ rAt l x 0)
    have := live_at hj e
    cases hg : l[j].gone with
    | true => rw [hg, if_pos rfl] at this; exact .inl this
    | false => rw [hg, if_neg (by simp)] at this; exact .inr ⟨j, hj, this, e, hg⟩
theorem loadR_ne {l : List Rf} {x : ByteArray} (h : ¬ askF l x = 0) : loadR l x = (0, 0, askF l x) := by unfold loadR; rw [if_neg h]
theorem loadR_no {l : List Rf} {x : ByteArray} (h : askF l x = 0) (h1 : liveF l x = -1) : loadR l x = (0, 0, 10) := by unfold loadR; rw [if_pos h, h1]; split <;> simp
theorem loadR_at {l : List Rf} {x : ByteArray} (h : askF l x = 0) {j : Nat} (hj : j < l.length) (h1 : liveF l x = (j : Int)) : loadR l x = (l[j].head, l[j].ver, 0) := by
  unfold loadR
  have : l[(liveF l x).toNat]? = some l[j] := by rw [h1]; simp [hj]
  rw [if_pos h, this, h1]; simp
attribute [local irreducible] ACode AOps AOps2 RetG RetM Pre ACG
theorem ac_liveRef {l : List Rf} {x : ByteArray} (hm : l.length ≤ maxLen) : AC Try.prog 164 [.lst 4 (l.map refA), .v (.string x)] ⟨.tup [.v (.int .i64 (rAt l x 0)), .v (.bool (decide (0 ≤ liveF l x)))], []⟩ := by
  have h1 := ac_placeOfRef (l := l) (x := x) hm
  by_cases h0 : rAt l x 0 < 0
  · rw [decide_eq_false (by rw [live_none h0]; omega)]
    refine r_of Th_ok (by kernel_rfl) Try.func164 rfl Try.ntmps164 Try.results164 (by kernel_rfl) rfl ?_; conv => whnf
    repeat (first | ((first | refine qb rfl rfl ?_ | refine qi (by assumption) rfl rfl ?_ | refine ql rfl ?_ | refine qo rfl rfl ?_ | refine qs rfl rfl ?_ | refine qn rfl rfl ?_); conv => whnf) | (refine .inl (And.intro (by kernel_rfl) ?_); conv => whnf) | (refine qc (h1) rfl ?_; conv => whnf))
    exact r_tupvv rfl rfl
  · obtain ⟨j, hj, e, _⟩ := rAt_lt (by omega : 0 ≤ rAt l x 0)
    have hl := live_at hj e
    rw [e] at h1 ⊢
    cases hg : l[j].gone with
    | true =>
      rw [hg, if_pos rfl] at hl
      rw [decide_eq_false (by rw [hl]; omega)]
      refine r_of Th_ok (by kernel_rfl) Try.func164 rfl Try.ntmps164 Try.results164 (by kernel_rfl) rfl ?_; conv => whnf
      repeat (first | ((first | refine qb rfl rfl ?_ | refine qi (by assumption) rfl rfl ?_ | refine ql rfl ?_ | refine qo rfl rfl ?_ | refine qs rfl rfl ?_ | refine qn rfl rfl ?_); conv => whnf) | (refine .inl (And.intro (by kernel_rfl) ?_); conv => whnf) | (refine qc (h1) rfl ?_; conv => whnf) | (rw [hg]; conv => whnf))
      exact r_tupvv rfl rfl
    | false =>
      rw [hg, if_neg (by simp)] at hl
      rw [decide_eq_true (by rw [hl]; omega)]
      refine r_of Th_ok (by kernel_rfl) Try.func164 rfl Try.ntmps164 Try.results164 (by kernel_rfl) rfl ?_; conv => whnf
      repeat (first | ((first | refine qb rfl rfl ?_ | refine qi (by assumption) rfl rfl ?_ | refine ql rfl ?_ | refine qo rfl rfl ?_ | refine qs rfl rfl ?_ | refine qn rfl rfl ?_); conv => whnf) | (refine .inl (And.intro (by kernel_rfl) ?_); conv => whnf) | (refine qc (h1) rfl ?_; conv => whnf) | (rw [hg]; conv => whnf))
      exact r_tupvv rfl rfl
theorem ac_sLoadRef {l : List Rf} {x : ByteArray} (hm : l.length ≤ maxLen) (hk : nmOK maxLen l) (hx : x.size ≤ maxLen) : AC Try.prog 98 [.lst 4 (l.map refA), .v (.string x)] ⟨.tup [.v (.int .i64 (loadR l x).1), .v (.int .i64 (loadR l x).2.1), .v (.int .i64 (loadR l x).2.2)], []⟩ := by
  have hm' := hm
  have hx' := hx
  unfold maxLen at hm' hx'
  have h1 := ac_l04Ask hm hk hx
  have h2 := ac_l04Live (l := l) (x := x) hm
  by_cases ha : askF l x = 0
  case neg =>
    rw [loadR_ne ha]
    by_cases a1 : 4096 < l.length
    · rw [askF_long (.inl a1)]
      refine r_of Th_ok (by kernel_rfl) Try.func98 rfl Try.ntmps98 Try.results98 (by kernel_rfl) rfl ?_; conv => whnf
      repeat (first | ((first | refine qb rfl rfl ?_ | refine qi (by assumption) rfl rfl ?_ | refine ql rfl ?_ | refine qo rfl rfl ?_ | refine qs rfl rfl ?_ | refine qn rfl rfl ?_); conv => whnf) | (refine .inl (And.intro (by kernel_rfl) ?_); conv => whnf))
      exact r_tupvvv rfl rfl rfl
    by_cases a2 : 65536 < x.size
    · rw [askF_long (.inr a2)]
      refine r_of Th_ok (by kernel_rfl) Try.func98 rfl Try.ntmps98 Try.results98 (by kernel_rfl) rfl ?_; conv => whnf
      repeat (first | ((first | refine qb rfl rfl ?_ | refine qi (by assumption) rfl rfl ?_ | refine ql rfl ?_ | refine qo rfl rfl ?_ | refine qs rfl rfl ?_ | refine qn rfl rfl ?_); conv => whnf) | (refine .inl (And.intro (by kernel_rfl) ?_); conv => whnf))
      exact r_tupvvv rfl rfl rfl
    refine r_of Th_ok (by kernel_rfl) Try.func98 rfl Try.ntmps98 Try.results98 (by kernel_rfl) rfl ?_; conv => whnf
    repeat (first | ((first | refine qb rfl rfl ?_ | refine qi (by assumption) rfl rfl ?_ | refine ql rfl ?_ | refine qo rfl rfl ?_ | refine qs rfl rfl ?_ | refine qn rfl rfl ?_); conv => whnf) | (refine .inl (And.intro (by kernel_rfl) ?_); conv => whnf) | (refine qc (h1) rfl ?_; conv => whnf))
    exact r_tupvvv rfl rfl rfl
  have a3 : ¬ 4096 < l.length ∧ ¬ 65536 < x.size := by
    refine ⟨fun h => ?_, fun h => ?_⟩
    · rw [askF_long (.inl h)] at ha; cases ha
    · rw [askF_long (.inr h)] at ha; cases ha
  obtain ⟨a1, a2⟩ := a3
  rw [ha] at h1
  rcases live_cases l x with e | ⟨j, hj, e, _, _⟩
  · rw [loadR_no ha e]
    rw [e] at h2
    refine r_of Th_ok (by kernel_rfl) Try.func98 rfl Try.ntmps98 Try.results98 (by kernel_rfl) rfl ?_; conv => whnf
    repeat (first | ((first | refine qb rfl rfl ?_ | refine qi (by assumption) rfl rfl ?_ | refine ql rfl ?_ | refine qo rfl rfl ?_ | refine qs rfl rfl ?_ | refine qn rfl rfl ?_); conv => whnf) | (refine .inl (And.intro (by kernel_rfl) ?_); conv => whnf) | (refine qc (h1) rfl ?_; conv => whnf) | (refine qc (h2) rfl ?_; conv => whnf))
    exact r_tupvvv rfl rfl rfl
  · rw [loadR_at ha hj e]
    rw [e] at h2
    refine r_of Th_ok (by kernel_rfl) Try.func98 rfl Try.ntmps98 Try.results98 (by kernel_rfl) rfl ?_; conv => whnf
    repeat (first | ((first | refine qb rfl rfl ?_ | refine qi (by assumption) rfl rfl ?_ | refine ql rfl ?_ | refine qo rfl rfl ?_ | refine qs rfl rfl ?_ | refine qn rfl rfl ?_); conv => whnf) | (refine .inl (And.intro (by kernel_rfl) ?_); conv => whnf) | (refine qc (h1) rfl ?_; conv => whnf) | (refine qc (h2) rfl ?_; conv => whnf))
    exact r_tupvvv rfl rfl rfl
theorem ac_iLoadRef {l : List Rf} {x : ByteArray} (hm : l.length ≤ maxLen) (hk : nmOK maxLen l) (hx : x.size ≤ maxLen) : AC Try.prog 97 [.lst 4 (l.map refA), .v (.string x)] ⟨.tup [.v (.int .i64 (loadR l x).1), .v (.int .i64 (loadR l x).2.1), .v (.int .i64 (loadR l x).2.2)], []⟩ := by
  have h1 := ac_refsCode hm hk hx
  have h2 := ac_liveRef (l := l) (x := x) hm
  by_cases ha : askF l x = 0
  case neg =>
    rw [loadR_ne ha]
    refine r_of Th_ok (by kernel_rfl) Try.func97 rfl Try.ntmps97 Try.results97 (by kernel_rfl) rfl ?_; conv => whnf
    repeat (first | ((first | refine qb rfl rfl ?_ | refine qi (by assumption) rfl rfl ?_ | refine ql rfl ?_ | refine qo rfl rfl ?_ | refine qs rfl rfl ?_ | refine qn rfl rfl ?_); conv => whnf) | (refine .inl (And.intro (by kernel_rfl) ?_); conv => whnf) | (refine qc (h1) rfl ?_; conv => whnf))
    exact r_tupvvv rfl rfl rfl
  rw [ha] at h1
  rcases live_cases l x with e | ⟨j, hj, e, e2, _⟩
  · rw [loadR_no ha e]
    rw [decide_eq_false (by rw [e]; omega)] at h2
    refine r_of Th_ok (by kernel_rfl) Try.func97 rfl Try.ntmps97 Try.results97 (by kernel_rfl) rfl ?_; conv => whnf
    repeat (first | ((first | refine qb rfl rfl ?_ | refine qi (by assumption) rfl rfl ?_ | refine ql rfl ?_ | refine qo rfl rfl ?_ | refine qs rfl rfl ?_ | refine qn rfl rfl ?_); conv => whnf) | (refine .inl (And.intro (by kernel_rfl) ?_); conv => whnf) | (refine qc (h1) rfl ?_; conv => whnf) | (refine qc (h2) rfl ?_; conv => whnf))
    exact r_tupvvv rfl rfl rfl
  · rw [loadR_at ha hj e]
    rw [decide_eq_true (by rw [e]; omega), e2] at h2
    refine r_of Th_ok (by kernel_rfl) Try.func97 rfl Try.ntmps97 Try.results97 (by kernel_rfl) rfl ?_; conv => whnf
    repeat (first | ((first | refine qb rfl rfl ?_ | refine qi (by assumption) rfl rfl ?_ | refine ql rfl ?_ | refine qo rfl rfl ?_ | refine qs rfl rfl ?_ | refine qn rfl rfl ?_); conv => whnf) | (refine .inl (And.intro (by kernel_rfl) ?_); conv => whnf) | (refine qc (h1) rfl ?_; conv => whnf) | (refine qc (h2) rfl ?_; conv => whnf))
    exact r_tupvvv rfl rfl rfl
end Go.Proofs.Ytjhimcddgkoghaa.AM
/- References marked and held; LiveRefs on both sides, and its law. -/
namespace Go.Proofs.Ytjhimcddgkoghaa.AM
open Go Go.RowKit
set_option linter.unusedVariables false
set_option linter.unusedSimpArgs false
set_option maxRecDepth 100000
attribute [local irreducible] ACode AOps AOps2 RetG RetM Pre ACG
end Go.Proofs.Ytjhimcddgkoghaa.AM
namespace Go.Proofs.Ytjhimcddgkoghaa.AM
open Go Go.RowKit
set_option linter.unusedVariables false
set_option linter.unusedSimpArgs false
set_option maxRecDepth 100000
def liveL (l : List Rf) : List ByteArray := (l.filter fun r => !r.gone).map fun r => r.name
theorem liveL_snoc {l : List Rf} {k : Nat} (h : k < l.length) (hg : l[k].gone = false) : liveL (l.take k) ++ [l[k].name] = liveL (l.take (k + 1)) := by
  unfold liveL; rw [List.take_succ_eq_append_getElem h, List.filter_append, List.map_append]; congr 1; simp [hg]
theorem liveL_skip {l : List Rf} {k : Nat} (h : k < l.length) (hg : l[k].gone = true) : liveL (l.take (k + 1)) = liveL (l.take k) := by
  unfold liveL; rw [List.take_succ_eq_append_getElem h, List.filter_append]; simp [hg]
theorem liveL_le (l : List Rf) : (liveL l).length ≤ l.length := by
  unfold liveL; rw [List.length_map]; exact List.length_filter_le _ _
noncomputable def liveR (l : List Rf) : List ByteArray × Int := if askF l ByteArray.empty = 0 then (liveL l, 0) else ([], askF l ByteArray.empty)
theorem askF_len {l : List Rf} {x : ByteArray} (h : askF l x = 0) : l.length ≤ 8 ∧ x.size ≤ 65536 ∧ refsB l = true := by
  unfold askF at h
  split at h
  · cases h
  · split at h
    · rename_i h1 h2
      exact ⟨(refsB_of h2).1, by omega, h2⟩
    · cases h
theorem liveR_le (l : List Rf) : (liveR l).1.length ≤ 8 := by
  unfold liveR
  split
  · rename_i h; exact Nat.le_trans (liveL_le l) (askF_len h).1
  · simp
attribute [local irreducible] ACode AOps AOps2 RetG RetM Pre ACG
theorem ac_sLiveRefs {l : List Rf} (hm : l.length ≤ maxLen) (hk : nmOK maxLen l) : AC Try.prog 100 [.lst 4 (l.map refA)] ⟨.tup [.own 0, .v (.int .i64 (liveR l).2)], [⟨9, 1, (liveR l).1.map strA⟩]⟩ := by
  have hm' := hm
  unfold maxLen at hm'
  have h1 := ac_l04OK hm hk
  unfold liveR
  by_cases a1 : 4096 < l.length
  · rw [askF_long (.inl a1), if_neg (by omega)]
    refine r_of Th_ok (by kernel_rfl) Try.func100 rfl Try.ntmps100 Try.results100 (by kernel_rfl) rfl ?_; conv => whnf
    repeat (first | ((first | refine qb rfl rfl ?_ | refine qi (by assumption) rfl rfl ?_ | refine ql rfl ?_ | refine qo rfl rfl ?_ | refine qs rfl rfl ?_ | refine qn rfl rfl ?_); conv => whnf) | (refine .inl (And.intro (by kernel_rfl) ?_); conv => whnf))
    exact r_tupOV rfl rfl rfl
  have a3 : ¬ (4096 < l.length ∨ 65536 < ByteArray.empty.size) := by
    have : ByteArray.empty.size = 0 := rfl
    omega
  cases hb : refsB l with
  | false =>
    rw [hb] at h1
    rw [askF_bad a3 hb, if_neg (by omega)]
    refine r_of Th_ok (by kernel_rfl) Try.func100 rfl Try.ntmps100 Try.results100 (by kernel_rfl) rfl ?_; conv => whnf
    repeat (first | ((first | refine qb rfl rfl ?_ | refine qi (by assumption) rfl rfl ?_ | refine ql rfl ?_ | refine qo rfl rfl ?_ | refine qs rfl rfl ?_ | refine qn rfl rfl ?_); conv => whnf) | (refine .inl (And.intro (by kernel_rfl) ?_); conv => whnf) | (refine qc (h1) rfl ?_; conv => whnf))
    exact r_tupOV rfl rfl rfl
  | true =>
    rw [hb] at h1
    rw [askF_ok a3 hb, if_pos rfl]
    refine r_of Th_ok (by kernel_rfl) Try.func100 rfl Try.ntmps100 Try.results100 (by kernel_rfl) rfl ?_; conv => whnf
    repeat (first | ((first | refine qb rfl rfl ?_ | refine qi (by assumption) rfl rfl ?_ | refine ql rfl ?_ | refine qo rfl rfl ?_ | refine qs rfl rfl ?_ | refine qn rfl rfl ?_); conv => whnf) | (refine .inl (And.intro (by kernel_rfl) ?_); conv => whnf) | (refine qc (h1) rfl ?_; conv => whnf))
    refine r_loop (ι := { k : Nat // k ≤ l.length }) (fun k => ⟨[(0, .lst 4 (l.map refA)), (4, .own 15), (5, .v (.int .i64 (k.1 : Int)))], [(15, ⟨9, 1, (liveL (l.take k.1)).map strA⟩)]⟩) (fun k => l.length - k.1) ⟨0, Nat.zero_le _⟩ (by refine ⟨?_, ?_⟩ <;> (repeat (first | trivial | exact ⟨rfl, trivial⟩ | refine ⟨rfl, ?_⟩ | refine ⟨.inl ⟨rfl, rfl⟩, ?_⟩ | refine ⟨.inr ⟨_, _, rfl, rfl, rfl, rfl, rfl⟩, ?_⟩))) ?_
    rintro ⟨k, hk⟩
    dsimp only
    conv => whnf
    by_cases hlt : k < l.length
    · have hle := liveL_le (l.take k)
      rw [List.length_take] at hle
      cases hg : l[k].gone with
      | true =>
        repeat (first | ((first | refine qb rfl rfl ?_ | refine qi (by assumption) rfl rfl ?_ | refine ql rfl ?_ | refine qo rfl rfl ?_ | refine qs rfl rfl ?_ | refine qn rfl rfl ?_); conv => whnf) | (refine .inl (And.intro (by kernel_rfl) ?_); conv => whnf) | (rw [hg]; conv => whnf))
        exact ⟨⟨k + 1, hlt⟩, ⟨⟨(show some (OB.mk _ _ (List.map strA (liveL (l.take k)))) = some (OB.mk _ _ (List.map strA (liveL (l.take (k + 1))))) by rw [liveL_skip hlt hg]), trivial⟩, .inl ⟨rfl, rfl⟩, .inl ⟨rfl, rfl⟩, .inl ⟨rfl, rfl⟩, trivial⟩, by simp; omega⟩
      | false =>
        repeat (first | ((first | refine qb rfl rfl ?_ | refine qi (by assumption) rfl rfl ?_ | refine ql rfl ?_ | refine qo rfl rfl ?_ | refine qs rfl rfl ?_ | refine qn rfl rfl ?_); conv => whnf) | (refine .inl (And.intro (by kernel_rfl) ?_); conv => whnf) | (rw [hg]; conv => whnf) | (refine r_step (p_app1r _ _ (liveL_snoc hlt hg) (by omega) rfl rfl rfl rfl rfl rfl rfl) rfl rfl (fun e => by first | exact .inl rfl | contradiction | exact .inr (.inl (by kernel_rfl))) ?_; conv => whnf))
        exact ⟨⟨k + 1, hlt⟩, by refine ⟨?_, ?_⟩ <;> (repeat (first | trivial | exact ⟨rfl, trivial⟩ | refine ⟨rfl, ?_⟩ | refine ⟨.inl ⟨rfl, rfl⟩, ?_⟩ | refine ⟨.inr ⟨_, _, rfl, rfl, rfl, rfl, rfl⟩, ?_⟩)), by simp; omega⟩
    · have hkk : k = l.length := by omega
      subst hkk
      repeat (first | ((first | refine qb rfl rfl ?_ | refine qi (by assumption) rfl rfl ?_ | refine ql rfl ?_ | refine qo rfl rfl ?_ | refine qs rfl rfl ?_ | refine qn rfl rfl ?_); conv => whnf) | (refine .inl (And.intro (by kernel_rfl) ?_); conv => whnf))
      exact r_tupOV rfl rfl (by show some (OB.mk _ _ _) = _; rw [List.take_length])
theorem ac_iLiveRefs {l : List Rf} (hm : l.length ≤ maxLen) (hk : nmOK maxLen l) : AC Try.prog 99 [.lst 4 (l.map refA)] ⟨.tup [.own 0, .v (.int .i64 (liveR l).2)], [⟨9, 1, (liveR l).1.map strA⟩]⟩ := by
  have hm' := hm
  unfold maxLen at hm'
  have h1 := ac_refsCode hm hk (x := ByteArray.empty) (Nat.zero_le _)
  unfold liveR
  by_cases ha : askF l ByteArray.empty = 0
  case neg =>
    rw [if_neg ha]
    generalize askF l ByteArray.empty = c at *
    refine r_of Th_ok (by kernel_rfl) Try.func99 rfl Try.ntmps99 Try.results99 (by kernel_rfl) rfl ?_; conv => whnf
    repeat (first | ((first | refine qb rfl rfl ?_ | refine qi (by assumption) rfl rfl ?_ | refine ql rfl ?_ | refine qo rfl rfl ?_ | refine qs rfl rfl ?_ | refine qn rfl rfl ?_); conv => whnf) | (refine .inl (And.intro (by kernel_rfl) ?_); conv => whnf) | (refine qc (h1) rfl ?_; conv => whnf))
    exact r_tupOV rfl rfl rfl
  rw [if_pos ha]
  have hl8 := (askF_len ha).1
  rw [ha] at h1
  refine r_of Th_ok (by kernel_rfl) Try.func99 rfl Try.ntmps99 Try.results99 (by kernel_rfl) rfl ?_; conv => whnf
  repeat (first | ((first | refine qb rfl rfl ?_ | refine qi (by assumption) rfl rfl ?_ | refine ql rfl ?_ | refine qo rfl rfl ?_ | refine qs rfl rfl ?_ | refine qn rfl rfl ?_); conv => whnf) | (refine .inl (And.intro (by kernel_rfl) ?_); conv => whnf) | (refine qc (h1) rfl ?_; conv => whnf))
  refine r_loop (ι := { k : Nat // k ≤ l.length }) (fun k => ⟨[(5, .own 6), (13, .lst 4 (l.map refA)), (14, .v (.int .i64 (l.length : Int))), (15, .v (.int .i64 (k.1 : Int)))], [(6, ⟨9, 1, (liveL (l.take k.1)).map strA⟩)]⟩) (fun k => l.length - k.1) ⟨0, Nat.zero_le _⟩ (by refine ⟨?_, ?_⟩ <;> (repeat (first | trivial | exact ⟨rfl, trivial⟩ | refine ⟨rfl, ?_⟩ | refine ⟨.inl ⟨rfl, rfl⟩, ?_⟩ | refine ⟨.inr ⟨_, _, rfl, rfl, rfl, rfl, rfl⟩, ?_⟩))) ?_
  rintro ⟨k, hk⟩
  dsimp only
  conv => whnf
  by_cases hlt : k < l.length
  · have hle := liveL_le (l.take k)
    rw [List.length_take] at hle
    cases hg : l[k].gone with
    | true =>
      repeat (first | ((first | refine qb rfl rfl ?_ | refine qi (by assumption) rfl rfl ?_ | refine ql rfl ?_ | refine qo rfl rfl ?_ | refine qs rfl rfl ?_ | refine qn rfl rfl ?_); conv => whnf) | (refine .inl (And.intro (by kernel_rfl) ?_); conv => whnf) | (rw [hg]; conv => whnf) | (refine r_step (p_ostore rfl rfl rfl rfl rfl (by conv => lhs; whnf) rfl) rfl rfl (fun e => by first | exact .inl rfl | contradiction | exact .inr (.inl (by kernel_rfl))) ?_; conv => whnf))
      exact ⟨⟨k + 1, hlt⟩, ⟨⟨(show some (OB.mk _ _ (List.map strA (liveL (l.take k)))) = some (OB.mk _ _ (List.map strA (liveL (l.take (k + 1))))) by rw [liveL_skip hlt hg]), trivial⟩, .inl ⟨rfl, rfl⟩, .inl ⟨rfl, rfl⟩, .inl ⟨rfl, rfl⟩, .inl ⟨rfl, rfl⟩, trivial⟩, by simp; omega⟩
    | false =>
      repeat (first | ((first | refine qb rfl rfl ?_ | refine qi (by assumption) rfl rfl ?_ | refine ql rfl ?_ | refine qo rfl rfl ?_ | refine qs rfl rfl ?_ | refine qn rfl rfl ?_); conv => whnf) | (refine .inl (And.intro (by kernel_rfl) ?_); conv => whnf) | (rw [hg]; conv => whnf) | (refine r_step (p_ostore rfl rfl rfl rfl rfl (by conv => lhs; whnf) rfl) rfl rfl (fun e => by first | exact .inl rfl | contradiction | exact .inr (.inl (by kernel_rfl))) ?_; conv => whnf))
      repeat (first | ((first | refine qb rfl rfl ?_ | refine qi (by assumption) rfl rfl ?_ | refine ql rfl ?_ | refine qo rfl rfl ?_ | refine qs rfl rfl ?_ | refine qn rfl rfl ?_); conv => whnf) | (refine .inl (And.intro (by kernel_rfl) ?_); conv => whnf) | (rw [hg]; conv => whnf) | (refine r_step (p_ostore rfl rfl rfl rfl rfl (by conv => lhs; whnf) rfl) rfl rfl (fun e => by first | exact .inl rfl | contradiction | exact .inr (.inl (by kernel_rfl))) ?_; conv => whnf) | (refine r_step (p_app1r _ _ (liveL_snoc hlt hg) (by omega) rfl rfl rfl rfl rfl rfl rfl) rfl rfl (fun e => by first | exact .inl rfl | contradiction | exact .inr (.inl (by kernel_rfl))) ?_; conv => whnf))
      exact ⟨⟨k + 1, hlt⟩, by refine ⟨?_, ?_⟩ <;> (repeat (first | trivial | exact ⟨rfl, trivial⟩ | refine ⟨rfl, ?_⟩ | refine ⟨.inl ⟨rfl, rfl⟩, ?_⟩ | refine ⟨.inr ⟨_, _, rfl, rfl, rfl, rfl, rfl⟩, ?_⟩)), by simp; omega⟩
  · have hkk : k = l.length := by omega
    subst hkk
    repeat (first | ((first | refine qb rfl rfl ?_ | refine qi (by assumption) rfl rfl ?_ | refine ql rfl ?_ | refine qo rfl rfl ?_ | refine qs rfl rfl ?_ | refine qn rfl rfl ?_); conv => whnf) | (refine .inl (And.intro (by kernel_rfl) ?_); conv => whnf))
    exact r_tupOV rfl rfl (by show some (OB.mk _ _ _) = _; rw [List.take_length])
end Go.Proofs.Ytjhimcddgkoghaa.AM
namespace Go.Proofs.Ytjhimcddgkoghaa
open Go.RowKit

theorem run_append_of_nil {P : Program} (w : World) (base : Nat) (t ty e : TypeId) (i : TypeInfo) (size : Nat) (ht : P.underlying t = some (.slice e)) (hi : P.info? e = some i)
    (v : Value) (n : Nat) (xs : List Value) (hown : w.ownsRow base e size v n xs) (c : Nat) : (Builtin.append_ #[t, t] ty #[v, .slice none 0 c]).run P w = .ok v w := by
  rcases hown.2 with ⟨rfl, rfl⟩ | ⟨g, cap, cur, rfl, _, _, hnc, _⟩
  · simp [Builtin.append_, run_underlying ht, sizeOf, typeInfo, hi, Builtin.lenOf, Builtin.firstCells]
  · simp [Builtin.append_, run_underlying ht, sizeOf, typeInfo, hi, Builtin.lenOf, Builtin.firstCells, hnc, storeCells]

theorem run_append_rd {P : Program} (w : World) (base : Nat) (t ty e : TypeId) (i : TypeInfo) (z : Value) (size bytes : Nat) (ht : P.underlying t = some (.slice e)) (hi : P.info? e = some i) (hz : i.zero = some z)
    (hsize : i.size = size) (hby : i.bytes = bytes) (hzs : z.cells.size = size) (hsz : 0 < size)
    (v : Value) (n : Nat) (xs : List Value) (hown : w.ownsRow base e size v n xs)
    (A : Option Addr) (m c : Nat) (news : List Value) (hr : Rd w size A m news) (h1 : ∀ u ∈ news, u.oneCell' = true)
    (hsmall : (n + m) * bytes ≤ 140737488355328) (hb1 : 1 ≤ bytes) (hbase : base ≤ w.heap.size) :
    ∃ v' w', (Builtin.append_ #[t, t] ty #[v, .slice A m c]).run P w = .ok v' w' ∧ w'.ownsRow base e size v' (n + m) (xs ++ news) ∧ w.grownBy w' v.ownBlock := by
  have h63 : n + m ≤ maxLen := by
    have : (n + m) * 1 ≤ (n + m) * bytes := Nat.mul_le_mul_left _ hb1
    unfold maxLen; omega
  rcases Nat.eq_zero_or_pos m with h0 | h0
  · subst h0
    have hn : news = [] := List.eq_nil_of_length_eq_zero (by simpa using hr.1)
    subst hn
    cases A with
    | none => exact ⟨v, w, run_append_of_nil w base t ty e i size ht hi v n xs hown c, by simpa using hown, World.grownBy.mk rfl rfl rfl (Nat.le_refl _) (fun _ _ _ => rfl)⟩
    | some ad =>
      obtain ⟨v', w', hrun, h2, h3, _⟩ := run_append_own (P := P) w base t ty e i z size bytes ht hi hz hsize hby hzs hsz v n xs hown ad 0 c [] (by simp) (by simp) (by simp) h63 hsmall hbase
      exact ⟨v', w', hrun, h2, h3⟩
  · obtain ⟨b, off, rfl, _, hc⟩ := hr.2 h0
    obtain ⟨v', w', hrun, h2, h3, _⟩ := run_append_own (P := P) w base t ty e i z size bytes ht hi hz hsize hby hzs hsz v n xs hown ⟨b, off, none⟩ m c news hr.1 (fun j u hu => by
      have hadd : (⟨b, off, none⟩ : Addr).add j = ⟨b, off + j, none⟩ := by unfold Addr.add; split <;> simp_all
      rw [hadd]; exact hc j u hu) h1 h63 hsmall hbase
    exact ⟨v', w', hrun, h2, h3⟩

theorem wpList_append_rd {P : Program} (w : World) {ops : Array Oper} {rest : List Oper} {o : Oper} {a : Act} {Q : Exit → Act → World → Prop} (hgd : o.guard = none) (s x : Operand) (t : TypeId)
    (ho : o.op = .call { callee := .builtin .append, args := #[s, x], argTypes := #[t, t] })
    (base : Nat) (e : TypeId) (i : TypeInfo) (z : Value) (size bytes : Nat) (ht : P.underlying t = some (.slice e)) (hi : P.info? e = some i) (hz : i.zero = some z)
    (hsize : i.size = size) (hby : i.bytes = bytes) (hzs : z.cells.size = size) (hsz : 0 < size)
    (v : Value) (n : Nat) (xs : List Value) (hs : a.eval s = v) (hown : w.ownsRow base e size v n xs)
    (A : Option Addr) (m c : Nat) (news : List Value) (hx : a.eval x = .slice A m c) (hr : Rd w size A m news) (h1 : ∀ u ∈ news, u.oneCell' = true)
    (hsmall : (n + m) * bytes ≤ 140737488355328) (hb1 : 1 ≤ bytes) (hbase : base ≤ w.heap.size)
    (h : ∀ v' w', w'.ownsRow base e size v' (n + m) (xs ++ news) → w.grownBy w' v.ownBlock → wpList P ops Q rest (a.put o.dst v') w') : wpList P ops Q (o :: rest) a w := by
  obtain ⟨v', w', hrun, h2, h3⟩ := run_append_rd (P := P) w base t o.type e i z size bytes ht hi hz hsize hby hzs hsz v n xs hown A m c news hr h1 hsmall hb1 hbase
  refine wpList_plain hgd fun K hK => ?_
  unfold Oper.wp execOp
  simp only [ho, resolve, invoke, builtin, Sem.run_bind, Sem.run_pure, Result.andThen_ok, List.map_toArray, List.map_cons, List.map_nil, hs, hx, hrun]
  exact hK _ _ (h v' w' h2 h3)

end Go.Proofs.Ytjhimcddgkoghaa
namespace Go.Proofs.Ytjhimcddgkoghaa
open Go Go.RowKit
set_option linter.unusedVariables false
set_option linter.unusedSimpArgs false
/-- what a clone of a list leaves: a row of its own that reads as the list -/
def OwnPostC (e : TypeId) (sz n : Nat) (cs : List Value) (w : World) (e' : Ending) (w' : World) : Prop := ∃ v, e' = .returned v ∧ w'.ownsRow w.heap.size e sz v n cs ∧ Below w.heap.size w w'
set_option maxHeartbeats 1000000 in
set_option maxRecDepth 100000 in
theorem cloneRef_any (A : Option Addr) (n c : Nat) (cs : List Value) (w : World) (hr : Rd w 4 A n cs) (h1 : ∀ u ∈ cs, u.oneCell' = true) (hm : n * 40 ≤ 140737488355328) :
    Calls Try.prog 160 #[.slice A n c] w (OwnPostC 83 4 n cs w) := by
  obtain ⟨i0, hi, hz0, hz1, hz2⟩ := info_parts (show (Try.prog.info? 83).map (fun i => (i.zero, i.size, i.bytes)) = some (some (.agg #[.string ByteArray.empty, .int .i64 0, .int .i64 0, .bool false]), 4, 40) from by kernel_rfl)
  have Hi := Lib.hid hi; clear hi
  have Hz0 := Lib.hid hz0; clear hz0
  have Hz1 := Lib.hid hz1; clear hz1
  have Hz2 := Lib.hid hz2; clear hz2
  cases A with
  | none =>
    have hn : n = 0 := by
      rcases Nat.eq_zero_or_pos n with h | h
      · exact h
      · obtain ⟨b, off, e, _⟩ := hr.2 h; cases e
    subst hn
    have hcs : cs = [] := List.eq_nil_of_length_eq_zero (by have := hr.1; omega)
    subst hcs
    go_enter Try.func160, Try.ntmps160
    go_wp2_with (rw [Lib.run_eql_slice_nil _ 90 83 _ _ _ _ _ Try.underlying90, Result.andThen_ok])
    go_ret
    exact ⟨_, rfl, World.ownsRow_nil _ _ _ _, Below.refl _ _⟩
  | some ad =>
    have hst := Lib.hid (World.ownsRow_made (base := w.heap.size) (e := 83) (size := 4) w #[] 0 (Nat.le_refl _) (by simp) (by simp))
    have hb3 := Lib.hid ((Below.refl w.heap.size w).alloc (Nat.le_refl _) (.cells #[] 83))
    have hrd3 := Lib.hid (hr.below hb3.out (Nat.le_refl _))
    have hbs3 := hb3.out.size
    go_enter Try.func160, Try.ntmps160
    go_wp2_with (first | (rw [Lib.run_eql_slice_nil _ 90 83 _ _ _ _ _ Try.underlying90, Result.andThen_ok]) | (at_builtin; refine wpList_append_rd (w.alloc (.cells #[] 83)) rfl _ _ 90 rfl w.heap.size 83 i0 _ 4 40 Try.underlying90 Hi.out Hz0.out Hz1.out Hz2.out rfl (by decide) (.slice (some ⟨w.heap.size, 0, none⟩) 0 0) 0 [] rfl hst.out (some ad) n c cs rfl hrd3.out h1 (by omega) (by decide) hbs3 ?_; intro v4 w4 hown4 hgrow4; have HO4 := Lib.hid hown4; clear hown4))
    have hb4 := below_grown hb3.out hgrow4 hst.out hbs3 (Nat.le_refl _)
    go_ret
    have ho := HO4.out
    rw [Nat.zero_add, List.nil_append] at ho
    exact ⟨_, rfl, ho, hb4⟩
end Go.Proofs.Ytjhimcddgkoghaa
namespace Go.Proofs.Ytjhimcddgkoghaa.AM
open Go Go.RowKit
set_option linter.unusedVariables false
set_option linter.unusedSimpArgs false
section
variable {w : World}
/-- an argument whose cells the data say -/
theorem arg_flat {S0 : Nat → Prop} {hp B V} (hS : ∀ b, S0 b → b < w.heap.size) {sz : Nat} {xs : List AV} {cs : List Value} {u : Value} (hd : ∀ us, RL S0 w xs us → us = cs) (hl : cs.length = xs.length * sz) (h : RV S0 w hp B V (.lst sz xs) u) : ∃ A c, u = .slice A xs.length c ∧ Rd w sz A xs.length cs := by
  unfold RV at h
  unfold RA at h
  obtain ⟨A, c, e, h1, h2, _, _, h4⟩ := h
  simp only [List.cons.injEq, and_true] at e
  refine ⟨A, c, e, hl, fun hn => ?_⟩
  rcases h4 with h4 | ⟨b, off, us, rfl, hb, hr, hc⟩
  · subst h4; simp at hn
  · rw [hd us hr] at hc
    exact ⟨b, off, rfl, hS b hb, hc⟩
theorem rl_det {α : Type} {f : α → AV} {g : α → List Value} (h1 : ∀ (S : Nat → Prop) (w : World) x cs, RA S w (f x) cs → cs = g x) : ∀ {S : Nat → Prop} {w : World} {l : List α} {us : List Value}, RL S w (l.map f) us → us = l.flatMap g
  | S, w, [], us, h => by rw [List.map_nil] at h; unfold RL at h; exact h
  | S, w, x :: l, us, h => by
    rw [List.map_cons] at h
    unfold RL at h
    obtain ⟨c1, c2, rfl, k1, k2⟩ := h
    rw [h1 S w x c1 k1, rl_det h1 k2, List.flatMap_cons]
end
theorem ra_ref {S : Nat → Prop} {w : World} {x : Rf} {cs : List Value} (h : RA S w (refA x) cs) : cs = refC x := by
  unfold refA RA at h
  unfold RL at h
  obtain ⟨c1, r1, rfl, k1, h⟩ := h
  unfold RL at h
  obtain ⟨c2, r2, rfl, k2, h⟩ := h
  unfold RL at h
  obtain ⟨c3, r3, rfl, k3, h⟩ := h
  unfold RL at h
  obtain ⟨c4, r4, rfl, k4, h⟩ := h
  unfold RL at h
  unfold RA at k1 k2 k3 k4
  rw [h, k1.1, k2.1, k3.1, k4.1]; rfl
theorem ent_160 : ∀ vs w, (callFunc 160 vs).run Try.prog w = .ok (.enter 160 vs) w := ent_of Try.func160 (by kernel_rfl) (by kernel_rfl)
theorem ac_cloneRef {l : List Rf} (hm : l.length ≤ 1048576) : AC Try.prog 160 [.lst 4 (l.map refA)] ⟨.own 0, [⟨83, 4, l.map refA⟩]⟩ :=
  ac_own (cs := refsC l) ent_160 (all_ref l) (by omega) (fun S w => rl_refs l) fun w S0 vs hS hv => by
    obtain ⟨u, rfl, h1⟩ := rvs1 hv
    obtain ⟨A, c, rfl, hr⟩ := arg_flat (cs := refsC l) hS (fun us h => rl_det (g := refC) (fun S w x cs h => ra_ref h) h) (by rw [refsC_length, List.length_map]) h1
    refine (cloneRef_any A _ c _ w hr (fun u hu => by
      obtain ⟨r, _, hr⟩ := List.mem_flatMap.1 hu
      simp only [refC, List.mem_cons, List.not_mem_nil, or_false] at hr
      rcases hr with rfl | rfl | rfl | rfl <;> rfl) (by rw [List.length_map]; omega)).mono ?_
    rintro e w' ⟨v, rfl, ho, hb⟩
    exact ⟨v, rfl, ho, hb⟩
end Go.Proofs.Ytjhimcddgkoghaa.AM
namespace Go.Proofs.Ytjhimcddgkoghaa
open Go Go.RowKit
set_option linter.unusedVariables false
set_option linter.unusedSimpArgs false
set_option maxRecDepth 100000
theorem run_load_ptr {a : Addr} {p : Option Addr} {w : World} (hc : w.cell? a = some (.pointer p)) : (callFunc 268 #[.pointer (some a)]).run Try.prog w = .ok (.value (.pointer p)) w := by
  rw [run_callFunc_extern Try.func268 (by kernel_rfl) (by kernel_rfl) (by kernel_rfl) (show Extern.find _ = some (Extern.Atomic.loadT .ptr) from by kernel_rfl)]
  change (Sem.run Try.prog (do Extern.Atomic.read .ptr (← asAddr (.pointer (some a)))) w).andThen _ = _
  simp [Extern.Atomic.read, asAddr, hc, Result.andThen]
theorem run_store_ptr {a : Addr} {p : Option Addr} {u : Value} {w : World} (hc : w.cell? a = some u) (hz : w.frozen? a = false) : (callFunc 272 #[.pointer (some a), .pointer p]).run Try.prog w = .ok (.value (.tuple #[])) (w.setCell a (.pointer p)) := by
  rw [run_callFunc_extern Try.func272 (by kernel_rfl) (by kernel_rfl) (by kernel_rfl) (show Extern.find _ = some Extern.Atomic.storeT from by kernel_rfl)]
  change (Sem.run Try.prog (do
    store (← asAddr (.pointer (some a))) (.pointer p) .atomic
    pure Extern.Atomic.none_) w).andThen _ = _
  simp [asAddr, hc, hz, run_store Try.prog w a (.pointer p) .atomic rfl, Result.andThen, Extern.Atomic.none_]
theorem run_cas_ptr {a x : Addr} {q : Option Addr} {w : World} (hc : w.cell? a = some (.pointer (some x))) (hz : w.frozen? a = false) : (callFunc 269 #[.pointer (some a), .pointer (some x), .pointer q]).run Try.prog w = .ok (.value (.bool true)) (w.setCell a (.pointer q)) := by
  rw [run_callFunc_extern Try.func269 (by kernel_rfl) (by kernel_rfl) (by kernel_rfl) (show Extern.find _ = some (Extern.Atomic.casT .ptr) from by kernel_rfl)]
  change (Sem.run Try.prog (do
    let a' ← asAddr (.pointer (some a))
    if ← Extern.Atomic.touchesFrozen a' then unsupported (.unsafePointer "a write to bytes that a string shares")
    let eq ← match Extern.Atomic.T.ptr, ← Extern.Atomic.read .ptr a', Value.pointer (some x) with
      | _, .int _ x, .int _ y => pure (x == y)
      | .ptr, .pointer x, .pointer y => samePointer x y
      | .int _, .pointer (some _), .int _ 0 | .int _, .int _ 0, .pointer (some _) => pure false
      | .int _, .pointer (some _), _ | .int _, _, .pointer (some _) => unsupported .addressObserved
      | _, _, _ => stuck "atomic.CompareAndSwap: old is no T"
    if eq then store a' (.pointer q) .atomic
    pure (Value.bool eq)) w).andThen _ = _
  simp [Extern.Atomic.touchesFrozen, Extern.Atomic.read, asAddr, viewAt, World.shape?_isSome_of_cell? hc, hc, hz, samePointer, sameAddr, run_store Try.prog w a (.pointer q) .atomic rfl, Result.andThen]
/-- a pointer back from unsafe.Pointer: the same address, where a reference begins -/
theorem run_from_unsafe {b : Nat} {cs : Array Value} {w : World} (hb : w.heap[b]? = some (.cells cs 83 (0, 0))) (hs : cs.size = 4) : (convert 258 254 (.pointer (some ⟨b, 0, none⟩))).run Try.prog w = .ok (.pointer (some ⟨b, 0, none⟩)) w := by
  obtain ⟨i, hi, hz0⟩ := Option.map_eq_some_iff.1 (show (Try.prog.info? 83).map (fun i => i.size) = some 4 from by kernel_rfl)
  have hsh : w.shape? b = some (83, 4) := by unfold World.shape?; rw [hb]; simp [hs]
  have hlies : liesAt Try.prog Try.prog.depth 83 (4 / Try.prog.cellsOf 83) 0 83 1 = true := by kernel_rfl
  simp [convert, run_underlying Try.underlying258, run_underlying Try.underlying254, Conv.unsafePointer, Conv.seenAt, viewAt, hsh, variablesAt, hlies, sizeOf, typeInfo, hi, Result.andThen]
theorem run_to_unsafe {a : Addr} {v : Value} {w : World} (hc : w.cell? a = some v) : (convert 254 258 (.pointer (some a))).run Try.prog w = .ok (.pointer (some a)) w :=
  run_convert_to_unsafe Try.underlying254 Try.underlying258 (by kernel_rfl) hc
/-- the cells of a reference -/
def refV (n : ByteArray) (h v : Int) (g : Bool) : Array Value := #[.string n, .int .i64 h, .int .i64 v, .bool g]
theorem load_any {a : Addr} {b : Nat} {cs : Array Value} (w : World) (hc : w.cell? a = some (.pointer (some ⟨b, 0, none⟩))) (hb : w.heap[b]? = some (.cells cs 83 (0, 0))) (hs : cs.size = 4) :
    Calls Try.prog 258 #[.pointer (some a)] w fun e w' => e = .returned (.pointer (some ⟨b, 0, none⟩)) ∧ w' = w := by
  have h1 := run_load_ptr hc
  have h2 := run_from_unsafe hb hs
  go_enter Try.func258, Try.ntmps258
  go_wp2
  go_ret
  exact ⟨rfl, rfl⟩
theorem store_any {a c : Addr} {u v : Value} (w : World) (hc : w.cell? a = some u) (hz : w.frozen? a = false) (hv : w.cell? c = some v) :
    Calls Try.prog 267 #[.pointer (some a), .pointer (some c)] w fun e w' => e = .returned (.tuple #[]) ∧ w' = w.setCell a (.pointer (some c)) := by
  have h1 := run_store_ptr (p := some c) hc hz
  have h2 := run_to_unsafe hv
  go_enter Try.func267, Try.ntmps267
  go_wp2
  go_end0
  exact ⟨rfl, rfl⟩
theorem cas_any {a x c : Addr} {u v : Value} (w : World) (hc : w.cell? a = some (.pointer (some x))) (hz : w.frozen? a = false) (hx : w.cell? x = some u) (hv : w.cell? c = some v) :
    Calls Try.prog 259 #[.pointer (some a), .pointer (some x), .pointer (some c)] w fun e w' => e = .returned (.bool true) ∧ w' = w.setCell a (.pointer (some c)) := by
  have h1 := run_cas_ptr (q := some c) hc hz
  have h2 := run_to_unsafe hx
  have h3 := run_to_unsafe hv
  go_enter Try.func259, Try.ntmps259
  go_wp2
  go_ret
  exact ⟨rfl, rfl⟩
theorem cellStore_any {a : Addr} {u : Value} {n : ByteArray} {h v : Int} {g : Bool} (w : World) (hab : a.block < w.heap.size) (hc : w.cell? a = some u) (hz : w.frozen? a = false) :
    Calls Try.prog 257 #[.pointer (some a), .agg (refV n h v g)] w fun e w' => e = .returned (.tuple #[]) ∧ w' = (w.alloc (.cells (refV n h v g) 83)).setCell a (.pointer (some ⟨w.heap.size, 0, none⟩)) := by
  unfold refV
  have hc' : (w.alloc (.cells #[.string n, .int .i64 h, .int .i64 v, .bool g] 83)).cell? a = some u := by
    rw [((Below.refl w.heap.size w).alloc (Nat.le_refl _) _).cell hab]; exact hc
  have hz' : (w.alloc (.cells #[.string n, .int .i64 h, .int .i64 v, .bool g] 83)).frozen? a = false := by
    rw [((Below.refl w.heap.size w).alloc (Nat.le_refl _) _).frozen hab]; exact hz
  have hv' : (w.alloc (.cells #[.string n, .int .i64 h, .int .i64 v, .bool g] 83)).cell? ⟨w.heap.size, 0, none⟩ = some (.string n) := by
    rw [cell_of_row _ w.heap.size 0 _ _ (0, 0) (heap_alloc_new w _)]; rfl
  have hs := store_any _ hc' hz' hv'
  go_enter Try.func257, Try.ntmps257
  go_wp2_with (go_at_call 267; refine hs.mono ?_; rintro e w1 ⟨rfl, rfl⟩)
  go_end0
  exact ⟨rfl, rfl⟩
theorem cellLoad_any {a : Addr} {b : Nat} {n : ByteArray} {h v : Int} {g : Bool} (w : World) (hab : a.block < w.heap.size) (hc : w.cell? a = some (.pointer (some ⟨b, 0, none⟩))) (hb : w.heap[b]? = some (.cells (refV n h v g) 83 (0, 0))) :
    Calls Try.prog 260 #[.pointer (some a)] w fun e w' => e = .returned (.agg (refV n h v g)) ∧ Below w.heap.size w w' := by
  unfold refV at hb ⊢
  have hbl : b < w.heap.size := (Array.getElem?_eq_some_iff.1 hb).1
  have hB : ∀ o, Below w.heap.size w (w.alloc o) := fun o => (Below.refl w.heap.size w).alloc (Nat.le_refl _) o
  have hc' : ∀ o, (w.alloc o).cell? a = some (.pointer (some ⟨b, 0, none⟩)) := fun o => by rw [(hB o).cell hab]; exact hc
  have hb' : ∀ o, (w.alloc o).heap[b]? = some (.cells #[.string n, .int .i64 h, .int .i64 v, .bool g] 83 (0, 0)) := fun o => by rw [(hB o).block b hbl]; exact hb
  have k0 : ∀ o, (w.alloc o).cell? ⟨b, 0, none⟩ = some (.string n) := fun o => cell_of_row _ b 0 _ _ _ (hb' o)
  have k1 : ∀ o, (w.alloc o).cell? ⟨b, 1, none⟩ = some (.int .i64 h) := fun o => cell_of_row _ b 1 _ _ _ (hb' o)
  have k2 : ∀ o, (w.alloc o).cell? ⟨b, 2, none⟩ = some (.int .i64 v) := fun o => cell_of_row _ b 2 _ _ _ (hb' o)
  have k3 : ∀ o, (w.alloc o).cell? ⟨b, 3, none⟩ = some (.bool g) := fun o => cell_of_row _ b 3 _ _ _ (hb' o)
  go_enter Try.func260, Try.ntmps260
  go_wp2_with (go_at_call 258; refine (load_any _ (hc' _) (hb' _) rfl).mono ?_; rintro e w1 ⟨rfl, rfl⟩)
  refine bodyPost_ret_by (results_cell_row rfl _ _ w.heap.size 83 #[.string n, .int .i64 h, .int .i64 v, .bool g] (0, 0) _ rfl (heap_alloc_new w _) Try.underlying83 rfl (by kernel_rfl)) rfl ?_
  exact ⟨rfl, hB _⟩
/-- the board: a row of cells, each a pointer to a reference in a block of its own; those of D hold rs -/
def PBoard (w : World) (base g n : Nat) (D : Nat → Prop) (rs : Nat → AM.Rf) : Prop :=
  base ≤ g ∧ ∃ cur : Array Value, w.heap[g]? = some (.cells cur 262 (0, 0)) ∧ cur.size = n ∧ ∀ j, j < n → D j → ∃ b, cur[j]? = some (.pointer (some ⟨b, 0, none⟩)) ∧ base ≤ b ∧ w.heap[b]? = some (.cells (refV (rs j).name (rs j).head (rs j).ver (rs j).gone) 83 (0, 0))
theorem PBoard.below {w w' : World} {base g n : Nat} {D : Nat → Prop} {rs : Nat → AM.Rf} (h : PBoard w base g n D rs) (hb : Below w.heap.size w w') : PBoard w' base g n D rs := by
  obtain ⟨h0, cur, h1, h2, h3⟩ := h
  refine ⟨h0, cur, (hb.block g (Array.getElem?_eq_some_iff.1 h1).1).trans h1, h2, fun j hj hD => ?_⟩
  obtain ⟨b, k1, k2, k3⟩ := h3 j hj hD
  exact ⟨b, k1, k2, (hb.block b (Array.getElem?_eq_some_iff.1 k3).1).trans k3⟩
theorem PBoard.cell {w : World} {base g n : Nat} {D : Nat → Prop} {rs : Nat → AM.Rf} (h : PBoard w base g n D rs) {j : Nat} (hj : j < n) : (∃ u, w.cell? ⟨g, j, none⟩ = some u) ∧ w.frozen? ⟨g, j, none⟩ = false ∧ g < w.heap.size := by
  obtain ⟨h0, cur, h1, h2, h3⟩ := h
  refine ⟨⟨cur[j]'(by omega), ?_⟩, ?_, (Array.getElem?_eq_some_iff.1 h1).1⟩
  · rw [cell_of_row _ g j _ _ _ h1, Array.getElem?_eq_getElem (by omega)]
  · unfold World.frozen?; simp only [h1]; simp
theorem PBoard.get {w : World} {base g n : Nat} {D : Nat → Prop} {rs : Nat → AM.Rf} (h : PBoard w base g n D rs) {j : Nat} (hj : j < n) (hD : D j) : ∃ b, w.cell? ⟨g, j, none⟩ = some (.pointer (some ⟨b, 0, none⟩)) ∧ w.heap[b]? = some (.cells (refV (rs j).name (rs j).head (rs j).ver (rs j).gone) 83 (0, 0)) := by
  obtain ⟨h0, cur, h1, h2, h3⟩ := h
  obtain ⟨b, k1, k2, k3⟩ := h3 j hj hD
  exact ⟨b, by rw [cell_of_row _ g j _ _ _ h1]; exact k1, k3⟩
theorem PBoard.put {w : World} {base g n : Nat} {D D' : Nat → Prop} {rs rs' : Nat → AM.Rf} (h : PBoard w base g n D rs) {j b : Nat} (hj : j < n) (hbb : base ≤ b) {r : AM.Rf} (hb : w.heap[b]? = some (.cells (refV r.name r.head r.ver r.gone) 83 (0, 0)))
    (hD : ∀ i, D' i → i = j ∨ (D i ∧ rs' i = rs i)) (hr : rs' j = r) : PBoard (w.setCell ⟨g, j, none⟩ (.pointer (some ⟨b, 0, none⟩))) base g n D' rs' := by
  obtain ⟨h0, cur, h1, h2, h3⟩ := h
  have hne : ∀ (b' : Nat) (cs : Array Value), w.heap[b']? = some (.cells cs 83 (0, 0)) → b' ≠ g := fun b' cs hb' e => by
    subst e; rw [h1] at hb'; injection hb' with hb'; injection hb' with _ h4 _; revert h4; decide
  refine ⟨h0, cur.setIfInBounds j _, heap_setCell_same w g j cur _ _ h1, by simpa using h2, fun i hi hi' => ?_⟩
  rcases Classical.em (i = j) with e | e
  · subst e
    refine ⟨b, by rw [Array.getElem?_setIfInBounds_self]; simp [h2, hi], hbb, ?_⟩
    rw [heap_setCell_other _ _ _ _ (hne b _ hb), hr]; exact hb
  · rcases hD i hi' with e' | ⟨e1, e2⟩
    · exact absurd e' e
    · obtain ⟨b', k1, k2, k3⟩ := h3 i hi e1
      refine ⟨b', by rw [Array.getElem?_setIfInBounds_ne (Ne.symm e)]; exact k1, k2, ?_⟩
      rw [heap_setCell_other _ _ _ _ (hne b' _ k3), e2]; exact k3
theorem hu_Ref : Try.prog.underlying 83 = some (.struct (Try.prog.fieldsOf 83)) := by kernel_rfl
theorem held_Ref : Try.prog.stoodInHeld 83 = false := by kernel_rfl
theorem guard_Ref : Try.prog.eqGuardType Try.prog.depth 83 = false := by kernel_rfl
theorem ref_eq (a b : ByteArray) (x y x' y' : Int) (g h : Bool) (w : World) : (Op.equalIn 10000 83 (.agg (refV a x x' g)) (.agg (refV b y y' h))).run Try.prog w = .ok (decide (a = b ∧ x = y ∧ x' = y' ∧ g = h)) w := by
  unfold refV
  have hf := Option.some.inj (hu_Ref.symm.trans Try.underlying83)
  injection hf with hf
  rw [run_equalIn_struct w 9999 _ _ _ hu_Ref held_Ref, hf]
  have q0 : ∀ (s : ByteArray) (n n' : Int) (c : Bool) (w : World), (part 9 #[.string s, .int .i64 n, .int .i64 n', .bool c] 0).run Try.prog w = .ok (.string s) w := fun s n n' c w => rfl
  have q1 : ∀ (s : ByteArray) (n n' : Int) (c : Bool) (w : World), (part 3 #[.string s, .int .i64 n, .int .i64 n', .bool c] 1).run Try.prog w = .ok (.int .i64 n) w := fun s n n' c w => rfl
  have q2 : ∀ (s : ByteArray) (n n' : Int) (c : Bool) (w : World), (part 3 #[.string s, .int .i64 n, .int .i64 n', .bool c] 2).run Try.prog w = .ok (.int .i64 n') w := fun s n n' c w => rfl
  have q3 : ∀ (s : ByteArray) (n n' : Int) (c : Bool) (w : World), (part 4 #[.string s, .int .i64 n, .int .i64 n', .bool c] 3).run Try.prog w = .ok (.bool c) w := fun s n n' c w => rfl
  have r0 := fun a b w => run_equalIn_string (P := Try.prog) w 9998 9 a b Try.underlying9
  have r1 := fun a b w => run_equalIn_int (P := Try.prog) w 9998 3 .i64 .i64 a b Try.underlying3
  have r2 := fun a b w => run_equalIn_bool' (P := Try.prog) w 9998 4 a b Try.underlying4
  by_cases h1 : a = b
  · subst h1
    by_cases h2 : x = y
    · subst h2
      by_cases h3 : x' = y'
      · subst h3
        cases g <;> cases h <;> simp [Op.eqFields, q0, q1, q2, q3, r0, r1, r2, Result.andThen]
      · simp [Op.eqFields, q0, q1, q2, q3, r0, r1, r2, Result.andThen, h3]
    · simp [Op.eqFields, q0, q1, q2, q3, r0, r1, r2, Result.andThen, h2]
  · simp [Op.eqFields, q0, q1, q2, q3, r0, r1, r2, Result.andThen, toList_beq, h1]
theorem ref_guard (op : BinOp) (x y : Operand) (a b : Array Value) (w : World) : (eqGuard op 83 x y (.agg a) (.agg b)).run Try.prog w = .ok () w := run_eqGuard_agg w _ _ _ _ _ _ guard_Ref
theorem ref_ne (a b : ByteArray) (x y x' y' : Int) (g h : Bool) (w : World) : (binOp .neq 83 (.agg (refV a x x' g)) (.agg (refV b y y' h))).run Try.prog w = .ok (.bool (!decide (a = b ∧ x = y ∧ x' = y' ∧ g = h))) w := by
  rw [run_neq_struct, ref_eq]; rfl
theorem swap_stale {a : Addr} {b : Nat} {n n' : ByteArray} {h v h' v' hd : Int} {g g' : Bool} (w : World) (hab : a.block < w.heap.size) (hc : w.cell? a = some (.pointer (some ⟨b, 0, none⟩))) (hb : w.heap[b]? = some (.cells (refV n h v g) 83 (0, 0)))
    (hne : ¬ (n = n' ∧ h = h' ∧ v = v' ∧ g = g')) :
    Calls Try.prog 234 #[.pointer (some a), .agg (refV n' h' v' g'), .int .i64 hd] w fun e w' => e = .returned (.int .i64 13) ∧ Below w.heap.size w w' := by
  unfold refV at hb ⊢
  have hbl : b < w.heap.size := (Array.getElem?_eq_some_iff.1 hb).1
  have hB : ∀ o, Below w.heap.size w (w.alloc o) := fun o => (Below.refl w.heap.size w).alloc (Nat.le_refl _) o
  have hc' : ∀ o, (w.alloc o).cell? a = some (.pointer (some ⟨b, 0, none⟩)) := fun o => by rw [(hB o).cell hab]; exact hc
  have hb' : ∀ o, (w.alloc o).heap[b]? = some (.cells #[.string n, .int .i64 h, .int .i64 v, .bool g] 83 (0, 0)) := fun o => by rw [(hB o).block b hbl]; exact hb
  have k0 : ∀ o, (w.alloc o).cell? ⟨b, 0, none⟩ = some (.string n) := fun o => cell_of_row _ b 0 _ _ _ (hb' o)
  have k1 : ∀ o, (w.alloc o).cell? ⟨b, 1, none⟩ = some (.int .i64 h) := fun o => cell_of_row _ b 1 _ _ _ (hb' o)
  have k2 : ∀ o, (w.alloc o).cell? ⟨b, 2, none⟩ = some (.int .i64 v) := fun o => cell_of_row _ b 2 _ _ _ (hb' o)
  have k3 : ∀ o, (w.alloc o).cell? ⟨b, 3, none⟩ = some (.bool g) := fun o => cell_of_row _ b 3 _ _ _ (hb' o)
  go_enter Try.func234, Try.ntmps234
  go_wp2_with (go_at_call 258; refine (load_any _ (hc' _) (hb' _) rfl).mono ?_; rintro e w1 ⟨rfl, rfl⟩)
  have g1 := ref_guard .neq (.tmp 15) (.tmp 16) (refV n h v g) (refV n' h' v' g')
  have g2 := ref_ne n n' h h' v v' g g'
  rw [decide_eq_false hne] at g2
  unfold refV at g1 g2
  go_quiet (fail)
  go_wp2
  go_ret
  exact ⟨rfl, (hB _).drewN _⟩
theorem swap_same {a : Addr} {b : Nat} {n : ByteArray} {h v hd : Int} {g : Bool} (w : World) (hab : a.block < w.heap.size) (hc : w.cell? a = some (.pointer (some ⟨b, 0, none⟩))) (hz : w.frozen? a = false) (hb : w.heap[b]? = some (.cells (refV n h v g) 83 (0, 0))) (hv0 : 0 ≤ v) (hv1 : v ≤ 1000000) :
    Calls Try.prog 234 #[.pointer (some a), .agg (refV n h v g), .int .i64 hd] w fun e w' =>
      (v = 1000000 ∧ e = .returned (.int .i64 7) ∧ Below w.heap.size w w') ∨ (v ≠ 1000000 ∧ e = .returned (.int .i64 0) ∧ ∃ w2 b2, Below w.heap.size w w2 ∧ w.heap.size ≤ b2 ∧ w2.heap[b2]? = some (.cells (refV n hd (v + 1) (decide (hd = 0))) 83 (0, 0)) ∧ w' = w2.setCell a (.pointer (some ⟨b2, 0, none⟩))) := by
  unfold refV at hb ⊢
  have hbl : b < w.heap.size := (Array.getElem?_eq_some_iff.1 hb).1
  have hB : ∀ o, Below w.heap.size w (w.alloc o) := fun o => (Below.refl w.heap.size w).alloc (Nat.le_refl _) o
  have hc' : ∀ o, (w.alloc o).cell? a = some (.pointer (some ⟨b, 0, none⟩)) := fun o => by rw [(hB o).cell hab]; exact hc
  have hb' : ∀ o, (w.alloc o).heap[b]? = some (.cells #[.string n, .int .i64 h, .int .i64 v, .bool g] 83 (0, 0)) := fun o => by rw [(hB o).block b hbl]; exact hb
  have k0 : ∀ o, (w.alloc o).cell? ⟨b, 0, none⟩ = some (.string n) := fun o => cell_of_row _ b 0 _ _ _ (hb' o)
  have k1 : ∀ o, (w.alloc o).cell? ⟨b, 1, none⟩ = some (.int .i64 h) := fun o => cell_of_row _ b 1 _ _ _ (hb' o)
  have k2 : ∀ o, (w.alloc o).cell? ⟨b, 2, none⟩ = some (.int .i64 v) := fun o => cell_of_row _ b 2 _ _ _ (hb' o)
  have k3 : ∀ o, (w.alloc o).cell? ⟨b, 3, none⟩ = some (.bool g) := fun o => cell_of_row _ b 3 _ _ _ (hb' o)
  have g1 := ref_guard .neq (.tmp 15) (.tmp 16) (refV n h v g) (refV n h v g)
  have g2 := ref_ne n n h h v v g g
  rw [decide_eq_true ⟨rfl, rfl, rfl, rfl⟩] at g2
  unfold refV at g1 g2
  by_cases hm : v = 1000000
  · subst hm
    go_enter Try.func234, Try.ntmps234
    go_wp2_with (go_at_call 258; refine (load_any _ (hc' _) (hb' _) rfl).mono ?_; rintro e w1 ⟨rfl, rfl⟩)
    go_quiet (fail)
    go_wp2
    go_ret
    exact .inl ⟨trivial, rfl, (hB _).drewN _⟩
  · have hB2 : ∀ o nq o2, Below w.heap.size w (((w.alloc o).drewN nq).alloc o2) := fun o nq o2 => ((hB o).drewN nq).alloc ((hB o).drewN nq).size o2
    have c1 : ∀ o nq o2, (((w.alloc o).drewN nq).alloc o2).cell? a = some (.pointer (some ⟨b, 0, none⟩)) := fun o nq o2 => by rw [(hB2 o nq o2).cell hab]; exact hc
    have c2 : ∀ o nq o2, (((w.alloc o).drewN nq).alloc o2).frozen? a = false := fun o nq o2 => by rw [(hB2 o nq o2).frozen hab]; exact hz
    have c3 : ∀ o nq o2, (((w.alloc o).drewN nq).alloc o2).cell? ⟨b, 0, none⟩ = some (.string n) := fun o nq o2 => by rw [(hB2 o nq o2).cell (p := ⟨b, 0, none⟩) hbl]; exact cell_of_row _ b 0 _ _ _ hb
    have es : ∀ o, (w.alloc o).heap.size = w.heap.size + 1 := fun o => by simp
    have c5 : ∀ o nq o2, (((w.alloc o).drewN nq).alloc o2).heap[w.heap.size + 1]? = some o2 := fun o nq o2 => by rw [← es o]; exact heap_alloc_new _ _
    have c4 : ∀ o nq, (((w.alloc o).drewN nq).alloc (.cells #[.string n, .int .i64 hd, .int .i64 (v + 1), .bool (hd == 0)] 83)).cell? ⟨w.heap.size + 1, 0, none⟩ = some (.string n) := fun o nq => by
      rw [cell_of_row _ (w.heap.size + 1) 0 _ _ (0, 0) (c5 o nq _)]; rfl
    have hw : IntKind.i64.wrap (v + 1) = v + 1 := by rw [IntKind.wrap_i64]; omega
    go_enter Try.func234, Try.ntmps234
    go_wp2_with (go_at_call 258; refine (load_any _ (hc' _) (hb' _) rfl).mono ?_; rintro e w1 ⟨rfl, rfl⟩)
    go_quiet (fail)
    go_wp2_with fail
    refine (cas_any _ (c1 _ _ _) (c2 _ _ _) (c3 _ _ _) (c4 _ _)).mono ?_
    rintro e w4 ⟨rfl, rfl⟩
    go_wp2
    go_ret
    exact .inr ⟨by first | exact hm | trivial, rfl, _, _, hB2 _ _ _, by omega, c5 _ _ _, rfl⟩
theorem refsC_get : ∀ (l : List AM.Rf) (k : Nat) (h : k < l.length), (AM.refsC l)[k * 4]? = some (.string l[k].name) ∧ (AM.refsC l)[k * 4 + 1]? = some (.int .i64 l[k].head) ∧ (AM.refsC l)[k * 4 + 2]? = some (.int .i64 l[k].ver) ∧ (AM.refsC l)[k * 4 + 3]? = some (.bool l[k].gone)
  | r :: l, 0, _ => by simp [AM.refsC, AM.refC]
  | r :: l, k + 1, h => by
    have ih := refsC_get l k (by simpa using h)
    have e : AM.refsC (r :: l) = AM.refC r ++ AM.refsC l := rfl
    have hx : ∀ i, (AM.refsC (r :: l))[(k + 1) * 4 + i]? = (AM.refsC l)[k * 4 + i]? := fun i => by
      rw [e, List.getElem?_append_right (by simp [AM.refC]; omega)]
      congr 1; simp [AM.refC]; omega
    have h0 := hx 0
    simp only [Nat.add_zero] at h0
    rw [h0, hx 1, hx 2, hx 3]
    exact ih
theorem Rd.rf {w wr : World} {A : Option Addr} {n : Nat} {l : List AM.Rf} (h : Rd w 4 A n (AM.refsC l)) (hb : Below w.heap.size w wr) {k : Nat} (hk : k < l.length) :
    ∃ b off, A = some ⟨b, off, none⟩ ∧ b < w.heap.size ∧ b < wr.heap.size ∧ wr.cell? ⟨b, off + k * 4, none⟩ = some (.string l[k].name) ∧ wr.cell? ⟨b, off + k * 4 + 1, none⟩ = some (.int .i64 l[k].head) ∧ wr.cell? ⟨b, off + k * 4 + 2, none⟩ = some (.int .i64 l[k].ver) ∧ wr.cell? ⟨b, off + k * 4 + 3, none⟩ = some (.bool l[k].gone) := by
  have hl := AM.refsC_length l
  obtain ⟨b, off, e, hlt, hc⟩ := h.2 (by have := h.1; omega)
  obtain ⟨e1, e2, e3, e4⟩ := refsC_get l k hk
  refine ⟨b, off, e, hlt, Nat.lt_of_lt_of_le hlt hb.size, ?_, ?_, ?_, ?_⟩
  · exact (hb.cell (p := ⟨b, off + k * 4, none⟩) hlt).trans (hc _ _ e1)
  · exact (hb.cell (p := ⟨b, off + k * 4 + 1, none⟩) hlt).trans (hc _ _ e2)
  · exact (hb.cell (p := ⟨b, off + k * 4 + 2, none⟩) hlt).trans (hc _ _ e3)
  · exact (hb.cell (p := ⟨b, off + k * 4 + 3, none⟩) hlt).trans (hc _ _ e4)
abbrev rfs (l : List AM.Rf) : Nat → AM.Rf := fun j => l.getD j ⟨ByteArray.empty, 0, 0, false⟩
set_option maxHeartbeats 2000000 in
theorem newBoard_any (A : Option Addr) (n c : Nat) (l : List AM.Rf) (w : World) (hr : Rd w 4 A n (AM.refsC l)) (hn0 : 0 < n) (hn8 : n ≤ 8) :
    Calls Try.prog 233 #[.slice A n c] w fun e w' => e = .returned (.slice (some ⟨w.heap.size, 0, none⟩) n n) ∧ Below w.heap.size w w' ∧ PBoard w' w.heap.size w.heap.size n (fun _ => True) (rfs l) := by
  have hlen : l.length = n := by have h1 := AM.refsC_length l; have h2 := hr.1; omega
  obtain ⟨b, off, rfl, hbl, -⟩ := hr.rf (Below.refl _ _) (k := 0) (by omega)
  obtain ⟨i0, hi, hz0, hz1, hz2⟩ := info_parts (show (Try.prog.info? 262).map (fun i => (i.zero, i.size, i.bytes)) = some (some (.agg #[.pointer none]), 1, 8) from by kernel_rfl)
  have hmk : ∀ W : World, (Instr.makeSlice 252 (.int .i64 (n : Int)) (.int .i64 (n : Int))).run Try.prog W = .ok (.slice (some ⟨W.heap.size, 0, none⟩) n n) (W.alloc (.cells (madeCells #[Value.pointer none] n) 262)) := fun W => by
    have h := run_make_rowN (P := Try.prog) 252 262 i0 _ Try.underlying252 hi hz0 .i64 .i64 n n (Nat.le_refl _) (by rw [hz2]; omega) (by omega) W
    rw [hz1, Nat.mul_one] at h; exact h
  have hms : (madeCells #[Value.pointer none] n).size = n := by simp [madeCells]
  have hb0 : PBoard (w.alloc (.cells (madeCells #[Value.pointer none] n) 262)) w.heap.size w.heap.size n (fun j => j < 0) (rfs l) :=
    ⟨Nat.le_refl _, _, heap_alloc_new w _, hms, fun j _ h => absurd h (Nat.not_lt_zero j)⟩
  have hB0 : Below w.heap.size w (w.alloc (.cells (madeCells #[Value.pointer none] n) 262)) := (Below.refl w.heap.size w).alloc (Nat.le_refl _) _
  clear hi hz0 hz1 hz2 hms
  go_enter Try.func233, Try.ntmps233
  go_wp2
  go_loopw [11] (fun i wr => ∃ k : Nat, k ≤ n ∧ i = .int .i64 k ∧ PBoard wr w.heap.size w.heap.size n (fun j => j < k) (rfs l) ∧ Below w.heap.size w wr) (fun i _ => n - (intOf i).toNat)
  case atStart => exact ⟨0, by omega, rfl, hb0, hB0⟩
  case round =>
    obtain ⟨k, hk, rfl, hP, hb⟩ := hrel
    by_cases hlt : k < n
    · obtain ⟨b', off', e', hbl', hbl2, hc1, hc2, hc3, hc4⟩ := hr.rf hb (k := k) (by omega)
      injection e' with e'; injection e' with e1 e2 _
      subst e1; subst e2
      obtain ⟨⟨u, hu⟩, hz, hg⟩ := hP.cell hlt
      go_wp2
      have hcl : ∀ i u, #[Value.string l[k].name, .int .i64 l[k].head, .int .i64 l[k].ver, .bool l[k].gone][i]? = some u → (wr.alloc (Obj.cells #[.string l[k].name, .int .i64 l[k].head, .int .i64 l[k].ver, .bool l[k].gone] 83)).cell? ⟨wr.heap.size, i, none⟩ = some u := fun i u hu => (cell_of_row _ wr.heap.size i _ _ (0, 0) (heap_alloc_new wr _)).trans hu
      have hP5 := hP.below ((Below.refl wr.heap.size wr).alloc (Nat.le_refl _) (Obj.cells #[.string l[k].name, .int .i64 l[k].head, .int .i64 l[k].ver, .bool l[k].gone] 83))
      have hb5 := hb.alloc hb.size (Obj.cells #[.string l[k].name, .int .i64 l[k].head, .int .i64 l[k].ver, .bool l[k].gone] 83)
      generalize wr.alloc (Obj.cells #[.string l[k].name, .int .i64 l[k].head, .int .i64 l[k].ver, .bool l[k].gone] 83) = w5 at *
      have d0 := hcl 0 _ rfl
      have d1 := hcl 1 _ rfl
      have d2 := hcl 2 _ rfl
      have d3 := hcl 3 _ rfl
      clear hcl hP hb hu hz hg hc1 hc2 hc3 hc4
      go_still_tail 4, (by kernel_rfl)
      change wpList _ _ _ _ _ w5.drew
      generalize hw6 : w5.drew = w6
      have hb6 : Below w.heap.size w w6 := by rw [← hw6]; exact hb5.drew
      have hP6 : PBoard w6 w.heap.size w.heap.size n (fun j => j < k) (rfs l) := by rw [← hw6]; exact hP5
      clear hw6 hb5 hP5
      obtain ⟨⟨u, hu⟩, hz, hg⟩ := hP6.cell hlt
      have hst := cellStore_any (n := l[k].name) (h := l[k].head) (v := l[k].ver) (g := l[k].gone) w6 (a := ⟨w.heap.size, k, none⟩) hg hu hz
      go_wp2_with (go_at_call 257; refine hst.mono ?_; rintro e w7 ⟨rfl, rfl⟩)
      have hP7 := hP6.below ((Below.refl w6.heap.size w6).alloc (Nat.le_refl _) (.cells (refV l[k].name l[k].head l[k].ver l[k].gone) 83))
      have hP8 := hP7.put (D' := fun j => j < k + 1) (rs' := rfs l) (r := l[k]) hlt hb6.size (heap_alloc_new w6 _) (fun i hi => by rcases Nat.lt_or_ge i k with q | q; exact .inr ⟨q, rfl⟩; exact .inl (by omega)) (by simp [rfs, show k < l.length by omega])
      have hb8 : Below w.heap.size w ((w6.alloc (.cells (refV l[k].name l[k].head l[k].ver l[k].gone) 83)).setCell ⟨w.heap.size, k, none⟩ (.pointer (some ⟨w6.heap.size, 0, none⟩))) := (hb6.alloc hb6.size _).setCell (p := ⟨w.heap.size, k, none⟩) (Nat.le_refl _) _
      rw [World.setCell_alloc_past _ _ _ _ hg] at hP8 hb8
      go_roundw
      case rel => exact ⟨k + 1, by omega, by go_num, hP8, hb8⟩
      case measure => simp [intOf]; omega
    · have hkn : k = n := by omega
      subst hkn
      go_wp2
      go_ret
      exact ⟨rfl, hb, by
        obtain ⟨h0, cur, h1, h2, h3⟩ := hP
        exact ⟨h0, cur, h1, h2, fun j hj _ => h3 j hj hj⟩⟩
set_option maxHeartbeats 2000000 in
theorem refs_any (g n : Nat) (l : List AM.Rf) (w : World) (base : Nat) (hP : PBoard w base g n (fun _ => True) (rfs l)) (hl : l.length = n) (hn8 : n ≤ 8) :
    Calls Try.prog 235 #[.slice (some ⟨g, 0, none⟩) n n] w fun e w' => ∃ v, e = .returned v ∧ w'.ownsRow w.heap.size 83 4 v n (AM.refsC l) ∧ Below w.heap.size w w' := by
  obtain ⟨i0, hi, hz0, hz1, hz2⟩ := info_parts (show (Try.prog.info? 83).map (fun i => (i.zero, i.size, i.bytes)) = some (some (.agg #[.string ByteArray.empty, .int .i64 0, .int .i64 0, .bool false]), 4, 40) from by kernel_rfl)
  have hmk : ∀ W : World, (Instr.makeSlice 90 (.int .i64 (n : Int)) (.int .i64 (n : Int))).run Try.prog W = .ok (.slice (some ⟨W.heap.size, 0, none⟩) n n) (W.alloc (.cells (madeCells #[.string ByteArray.empty, .int .i64 0, .int .i64 0, .bool false] (n * 4)) 83)) := fun W => by
    have h := run_make_rowN (P := Try.prog) 90 83 i0 _ Try.underlying90 hi hz0 .i64 .i64 n n (Nat.le_refl _) (by rw [hz2]; omega) (by omega) W
    rw [hz1] at h; exact h
  have hms := size_madeCells #[.string ByteArray.empty, .int .i64 0, .int .i64 0, .bool false] (n * 4)
  generalize madeCells #[.string ByteArray.empty, .int .i64 0, .int .i64 0, .bool false] (n * 4) = mc at hmk hms
  have hb0 : Blk (w.alloc (.cells mc 83)) w.heap.size 83 mc := heap_alloc_new w _
  have hB0 : Below w.heap.size w (w.alloc (.cells mc 83)) := (Below.refl w.heap.size w).alloc (Nat.le_refl _) _
  have hgw := (Array.getElem?_eq_some_iff.1 hP.2.choose_spec.1).1
  clear hi hz0 hz1 hz2
  go_enter Try.func235, Try.ntmps235
  go_wp2
  go_loopw [10] (fun i wr => ∃ k : Nat, k ≤ n ∧ i = .int .i64 k ∧ (∃ cur : Array Value, Blk wr w.heap.size 83 cur ∧ cur.size = n * 4 ∧ cur.toList.take (k * 4) = AM.refsC (l.take k)) ∧ Below w.heap.size w wr) (fun i _ => n - (intOf i).toNat)
  case atStart => exact ⟨0, by omega, rfl, ⟨mc, hb0, hms, by simp [AM.refsC]⟩, hB0⟩
  case round =>
    obtain ⟨k, hk, rfl, ⟨cur, hB, hcs, hct⟩, hb⟩ := hrel
    by_cases hlt : k < n
    · have hPr := hP.below hb
      obtain ⟨b, hc, hbb⟩ := hPr.get hlt trivial
      have hkl : k < l.length := by omega
      have hk' : rfs l k = l[k] := by simp [rfs, hkl]
      rw [hk'] at hbb
      have hld := cellLoad_any wr (a := ⟨g, k, none⟩) (Nat.lt_of_lt_of_le hgw hb.size) hc hbb
      go_wp2_with (go_at_call 260; refine hld.mono ?_; rintro e w7 ⟨rfl, hb7⟩; have hB7 : Blk w7 w.heap.size 83 cur := (hb7.block _ hB.lt).trans hB; have hst7 := run_storeCells_at Try.prog w.heap.size (k * 4) 83 (refV l[k].name l[k].head l[k].ver l[k].gone).toList 0 cur w7 hB7 (by simp [refV]; omega) (by intro v hv; simp [refV] at hv; rcases hv with rfl | rfl | rfl | rfl <;> rfl); simp only [Nat.add_zero] at hst7)
      have hl1 : (AM.refsC (l.take k)).length = k * 4 := by rw [AM.refsC_length, List.length_take]; congr 1; omega
      have hsz : ((AM.refsC (List.take k l) ++ ((refV l[k].name l[k].head l[k].ver l[k].gone).toList ++ List.drop (k * 4 + 4) cur.toList)).toArray).size = n * 4 := by
        simp [hl1, refV, hcs]; omega
      have htk : List.take ((k + 1) * 4) (AM.refsC (List.take k l) ++ ((refV l[k].name l[k].head l[k].ver l[k].gone).toList ++ List.drop (k * 4 + 4) cur.toList)).toArray.toList = AM.refsC (l.take (k + 1)) := by
        have e : AM.refsC (l.take (k + 1)) = AM.refsC (l.take k) ++ (refV l[k].name l[k].head l[k].ver l[k].gone).toList := by
          unfold AM.refsC; rw [List.take_succ_eq_append_getElem hkl, List.flatMap_append]; show _ ++ (AM.refC l[k] ++ []) = _; rw [List.append_nil]; rfl
        rw [e, List.toList_toArray, ← List.append_assoc, List.take_append_of_le_length (by simp [hl1, refV]; omega), List.take_of_length_le (by simp [hl1, refV]; omega)]
      have hfin := setRow_heap w7 w.heap.size cur (AM.refsC (List.take k l) ++ ((refV l[k].name l[k].head l[k].ver l[k].gone).toList ++ List.drop (k * 4 + 4) cur.toList)).toArray 83 (0, 0) hB7
      go_roundw
      case rel => exact ⟨k + 1, by omega, by go_num, ⟨_, hfin, hsz, htk⟩, below_setRow (keepS hb hb7) (Nat.le_refl _) _⟩
      case measure => simp [intOf]; omega
    · have hkn : k = n := by omega
      subst hkn
      go_wp2
      go_ret
      have htl : l.take k = l := List.take_of_length_le (by omega)
      rw [htl] at hct
      refine ⟨_, rfl, ⟨by rw [AM.refsC_length, hl], .inr ⟨w.heap.size, k, cur, rfl, Nat.le_refl _, hB, Nat.le_refl _, by unfold maxLen; omega, by omega, hct⟩⟩, hb⟩
open Classical in
/-- what an exchange at a place makes of a list -/
noncomputable def swpR (l : List AM.Rf) (j : Nat) (e : AM.Rf) (hd : Int) : List AM.Rf × Int :=
  if l.getD j ⟨ByteArray.empty, 0, 0, false⟩ = e then (if e.ver = 1000000 then (l, 7) else (l.set j ⟨e.name, hd, e.ver + 1, decide (hd = 0)⟩, 0)) else (l, 13)
set_option maxHeartbeats 2000000 in
theorem swapAt_any (A : Option Addr) (n c : Nat) (l : List AM.Rf) (e : AM.Rf) (j : Nat) (hd : Int) (w : World) (hr : Rd w 4 A n (AM.refsC l)) (hj : j < n) (hn8 : n ≤ 8) (hlv : ∀ (h : j < l.length), 0 ≤ l[j].ver ∧ l[j].ver ≤ 1000000) :
    Calls Try.prog 161 #[.slice A n c, .int .i64 (j : Int), .agg (refV e.name e.head e.ver e.gone), .int .i64 hd] w fun en w' => ∃ v, en = .returned (.tuple #[v, .int .i64 (swpR l j e hd).2]) ∧ w'.ownsRow w.heap.size 83 4 v n (AM.refsC (swpR l j e hd).1) ∧ Below w.heap.size w w' := by
  have hlen : l.length = n := by have h1 := AM.refsC_length l; have h2 := hr.1; omega
  generalize hRR : swpR l j e hd = R
  unfold refV
  have hcl : ∀ i u, #[Value.string e.name, .int .i64 e.head, .int .i64 e.ver, .bool e.gone][i]? = some u → (w.alloc (Obj.cells #[.string e.name, .int .i64 e.head, .int .i64 e.ver, .bool e.gone] 83)).cell? ⟨w.heap.size, i, none⟩ = some u := fun i u hu => (cell_of_row _ w.heap.size i _ _ (0, 0) (heap_alloc_new w _)).trans hu
  have hB1 : Below w.heap.size w (w.alloc (Obj.cells #[.string e.name, .int .i64 e.head, .int .i64 e.ver, .bool e.gone] 83)) := (Below.refl w.heap.size w).alloc (Nat.le_refl _) _
  have hr1 := hr.below hB1 (Nat.le_refl _)
  have es : (w.alloc (Obj.cells #[.string e.name, .int .i64 e.head, .int .i64 e.ver, .bool e.gone] 83)).heap.size = w.heap.size + 1 := by simp
  go_enter Try.func161, Try.ntmps161
  go_wp2_with (go_at_call 233; refine (newBoard_any A n c l _ hr1 (by omega) hn8).mono ?_; rintro en w2 ⟨rfl, hb2, hP2⟩)
  have d0 := (hb2.cell (p := ⟨w.heap.size, 0, none⟩) (by rw [es]; show w.heap.size < w.heap.size + 1; omega)).trans (hcl 0 _ rfl)
  have d1 := (hb2.cell (p := ⟨w.heap.size, 1, none⟩) (by rw [es]; show w.heap.size < w.heap.size + 1; omega)).trans (hcl 1 _ rfl)
  have d2 := (hb2.cell (p := ⟨w.heap.size, 2, none⟩) (by rw [es]; show w.heap.size < w.heap.size + 1; omega)).trans (hcl 2 _ rfl)
  have d3 := (hb2.cell (p := ⟨w.heap.size, 3, none⟩) (by rw [es]; show w.heap.size < w.heap.size + 1; omega)).trans (hcl 3 _ rfl)
  have hb02 : Below w.heap.size w w2 := hB1.trans (hb2.mono (by rw [es]; omega))
  rw [es] at hP2
  clear hcl hB1 hr1 hb2 es
  go_still_tail 5, (by kernel_rfl)
  change wpList _ _ _ _ _ w2.drew
  generalize hw3 : w2.drew = w3
  have hb03 : Below w.heap.size w w3 := by rw [← hw3]; exact hb02.drew
  have hP3 : PBoard w3 (w.heap.size + 1) (w.heap.size + 1) n (fun _ => True) (rfs l) := by rw [← hw3]; exact hP2
  clear hw3 hb02 hP2 d0 d1 d2 d3
  obtain ⟨b, hc, hbb⟩ := hP3.get hj trivial
  obtain ⟨_, hz, hg⟩ := hP3.cell hj
  have hjl : j < l.length := by omega
  have hgd : l.getD j ⟨ByteArray.empty, 0, 0, false⟩ = l[j] := by simp [hjl]
  have hk' : rfs l j = l[j] := hgd
  rw [hk'] at hbb
  by_cases he : l[j] = e
  · have hsw := swap_same (hd := hd) w3 (a := ⟨w.heap.size + 1, j, none⟩) hg hc hz (by rw [he] at hbb; exact hbb) (by rw [← he]; exact (hlv hjl).1) (by rw [← he]; exact (hlv hjl).2)
    by_cases hm : e.ver = 1000000
    · have hR : R = (l, 7) := by rw [← hRR]; unfold swpR; rw [hgd, if_pos he, if_pos hm]
      have hsw7 : Calls Try.prog 234 #[.pointer (some ⟨w.heap.size + 1, j, none⟩), .agg (refV e.name e.head e.ver e.gone), .int .i64 hd] w3 fun en w' => en = .returned (.int .i64 7) ∧ Below w3.heap.size w3 w' := hsw.mono fun en w' h => by
        rcases h with ⟨_, a, b⟩ | ⟨h, _⟩
        · exact ⟨a, b⟩
        · exact absurd hm h
      unfold refV at hsw7
      clear hsw hRR hm he
      go_wp2_with (go_at_call 234; refine hsw7.mono ?_; rintro en w4 ⟨rfl, hb4⟩)
      have hP4 := hP3.below hb4
      have hb04 := keepS hb03 hb4
      go_wp2_with (go_at_call 235; refine (refs_any _ n l w4 _ hP4 hlen hn8).mono ?_; rintro en w5 ⟨v5, rfl, ho5, hb5⟩; have HO5 := Lib.hid ho5; clear ho5)
      go_ret2
      subst hR
      exact ⟨v5, rfl, ownsRow_base HO5.out hb04.size, keepS hb04 hb5⟩
    · have hR : R = (l.set j ⟨e.name, hd, e.ver + 1, decide (hd = 0)⟩, 0) := by rw [← hRR]; unfold swpR; rw [hgd, if_pos he, if_neg hm]
      have hsw0 : Calls Try.prog 234 #[.pointer (some ⟨w.heap.size + 1, j, none⟩), .agg (refV e.name e.head e.ver e.gone), .int .i64 hd] w3 fun en w' => en = .returned (.int .i64 0) ∧ ∃ w2 b2, Below w3.heap.size w3 w2 ∧ w3.heap.size ≤ b2 ∧ w2.heap[b2]? = some (.cells (refV e.name hd (e.ver + 1) (decide (hd = 0))) 83 (0, 0)) ∧ w' = w2.setCell ⟨w.heap.size + 1, j, none⟩ (.pointer (some ⟨b2, 0, none⟩)) := hsw.mono fun en w' h => by
        rcases h with ⟨h, _⟩ | ⟨_, h⟩
        · exact absurd h hm
        · exact h
      rw [show (Value.agg (refV e.name e.head e.ver e.gone)) = .agg #[.string e.name, .int .i64 e.head, .int .i64 e.ver, .bool e.gone] from rfl] at hsw0
      clear hsw hRR hm he
      go_wp2_with (go_at_call 234; refine hsw0.mono ?_; rintro en w4 ⟨rfl, w5, b2, hb5, hb2, hx2, rfl⟩)
      have hP5 := (hP3.below hb5).put (D' := fun _ => True) (rs' := rfs (l.set j ⟨e.name, hd, e.ver + 1, decide (hd = 0)⟩)) (r := ⟨e.name, hd, e.ver + 1, decide (hd = 0)⟩) hj (Nat.le_trans (by have := hP3.cell hj; omega) hb2) hx2 (fun i _ => by
        rcases Classical.em (i = j) with q | q
        · exact .inl q
        · exact .inr ⟨trivial, by simp [rfs, List.getElem?_set, Ne.symm q]⟩) (by simp [rfs, hjl])
      have hb05 : Below w.heap.size w (w5.setCell ⟨w.heap.size + 1, j, none⟩ (.pointer (some ⟨b2, 0, none⟩))) := (keepS hb03 hb5).setCell (p := ⟨w.heap.size + 1, j, none⟩) (by show w.heap.size ≤ w.heap.size + 1; omega) _
      generalize w5.setCell ⟨w.heap.size + 1, j, none⟩ (.pointer (some ⟨b2, 0, none⟩)) = w6 at *
      go_wp2_with (go_at_call 235; refine (refs_any _ n _ w6 _ hP5 (by simpa using hlen) hn8).mono ?_; rintro en w7 ⟨v7, rfl, ho7, hb7⟩; have HO7 := Lib.hid ho7; clear ho7)
      go_ret2
      subst hR
      exact ⟨v7, rfl, ownsRow_base HO7.out hb05.size, keepS hb05 hb7⟩
  · have hR : R = (l, 13) := by rw [← hRR]; unfold swpR; rw [hgd, if_neg he]
    have hsw := swap_stale (n' := e.name) (h' := e.head) (v' := e.ver) (g' := e.gone) (hd := hd) w3 (a := ⟨w.heap.size + 1, j, none⟩) hg hc hbb (fun h => he (AM.ref_ext.2 h))
    unfold refV at hsw
    clear hRR he
    go_wp2_with (go_at_call 234; refine hsw.mono ?_; rintro en w4 ⟨rfl, hb4⟩)
    have hP4 := hP3.below hb4
    have hb04 := keepS hb03 hb4
    go_wp2_with (go_at_call 235; refine (refs_any _ n l w4 _ hP4 hlen hn8).mono ?_; rintro en w5 ⟨v5, rfl, ho5, hb5⟩; have HO5 := Lib.hid ho5; clear ho5)
    go_ret2
    subst hR
    exact ⟨v5, rfl, ownsRow_base HO5.out hb04.size, keepS hb04 hb5⟩
end Go.Proofs.Ytjhimcddgkoghaa
