/- Texts of the machine over data, folded. -/
import Derived.Test.YtmfmclnklpbiaaaGreatKp6
import Derived.Test.YtmfmclnklpbiaaaGreatKp14
import Derived.Test.YtmfmclnklpbiaaaGreatKp12
import Derived.Test.YtmfmclnklpbiaaaGreatKp9
import Derived.Test.YtmfmclnklpbiaaaGreatKp13
/- Watches noted, taken from and drained, on both sides. -/
namespace Go.Proofs.YtmfmclnklpbiaaaGreat.AM
open Go Go.RowKit
set_option linter.unusedVariables false
set_option linter.unusedSimpArgs false
set_option maxRecDepth 100000
/-! ### what reads so reads otherwise too -/
section
variable {P : Program} {f : FuncId} {args args' : List AV} {rin rout : List OB} {out : Out}
end
/-! ### ends -/
section
variable {s : St} {Θ : Tab}
end
section
variable {P : Program} {Θ : Tab} {s : St} {ty : TypeId} {pos : String} {after : Array Edge} {g : Option (Nat × Bool)}
end
attribute [local irreducible] ACode AOps AOps2 RetG RetM Pre ACG
end Go.Proofs.YtmfmclnklpbiaaaGreat.AM
/- NoteRef, NextEvent and DrainWatch on both sides. -/
namespace Go.Proofs.YtmfmclnklpbiaaaGreat.AM
open Go Go.RowKit
set_option linter.unusedVariables false
set_option linter.unusedSimpArgs false
set_option maxRecDepth 100000
abbrev watZ : Wat := ⟨ByteArray.empty, 0, []⟩
section
variable {s : St} {Θ : Tab}
end
attribute [local irreducible] ACode AOps AOps2 RetG RetM Pre ACG
end Go.Proofs.YtmfmclnklpbiaaaGreat.AM
/- The other side of NextEvent and DrainWatch. -/
namespace Go.Proofs.YtmfmclnklpbiaaaGreat.AM
open Go Go.RowKit
set_option linter.unusedVariables false
set_option linter.unusedSimpArgs false
set_option maxRecDepth 100000
attribute [local irreducible] ACode AOps AOps2 RetG RetM Pre ACG
end Go.Proofs.YtmfmclnklpbiaaaGreat.AM
/- Events and watches marked and held. -/
namespace Go.Proofs.YtmfmclnklpbiaaaGreat.AM
open Go Go.RowKit
set_option linter.unusedVariables false
set_option linter.unusedSimpArgs false
set_option maxRecDepth 100000
def markV (k : Int) : Evt := ⟨k, k + 1, decide ((k + 1 + 1) % 3 = 0)⟩
def markedV : Nat → Int → List Evt
  | 0, _ => []
  | n + 1, k => markV k :: markedV n (k + 3)
theorem markedV_length : ∀ (n : Nat) (k : Int), (markedV n k).length = n
  | 0, _ => rfl
  | n + 1, k => by simp [markedV, markedV_length n (k + 3)]
theorem markedV_get : ∀ (n : Nat) (k0 : Int) (k : Nat) (h : k < n), (markedV n k0)[k]'(by rw [markedV_length]; exact h) = markV (k0 + 3 * k)
  | n + 1, k0, 0, h => by simp [markedV]
  | n + 1, k0, k + 1, h => by
    have := markedV_get n (k0 + 3) k (by omega)
    simp only [markedV, List.getElem_cons_succ]
    rw [this]; congr 1; omega
attribute [local irreducible] ACode AOps AOps2 RetG RetM Pre ACG
set_option maxHeartbeats 2000000 in
theorem ac_heldEventS {n : Nat} {k0 : Int} (hm : n ≤ 1048600) (h0 : 0 ≤ k0) (h1 : k0 ≤ 8388608) : AC Tryz.prog 93 [.lst 3 ((markedV n k0).map evtA), .v (.int .i64 k0)] ⟨.v (.int .i64 (k0 + 3 * n)), []⟩ := by
  have hml := markedV_length n k0
  refine r_of Th_ok (by kernel_rfl) Tryz.func93 rfl Tryz.ntmps93 Tryz.results93 (by kernel_rfl) rfl ?_; conv => whnf
  refine r_loop (ι := { k : Nat // k ≤ n }) (fun k => ⟨[(0, .lst 3 ((markedV n k0).map evtA)), (1, .v (.int .i64 (k0 + 3 * (k.1 : Int)))), (5, .v (.int .i64 (k.1 : Int)))], []⟩) (fun k => n - k.1) ⟨0, Nat.zero_le _⟩ (by
    refine ⟨trivial, .inl ⟨rfl, rfl⟩, .inl ⟨?_, rfl⟩, .inl ⟨rfl, rfl⟩, trivial⟩
    show AV.v (.int .i64 k0) = _
    simp) ?_
  rintro ⟨k, hk⟩
  dsimp only
  conv => whnf
  by_cases hlt : k < n
  · have hlt' : k < (markedV n k0).length := by omega
    have hg := markedV_get n k0 k hlt
    have hg2 : (markedV n k0)[k].ver = k0 + 3 * k := by rw [hg]; rfl
    have hg3 : (markedV n k0)[k].head = k0 + 3 * k + 1 := by rw [hg]; rfl
    have hg4 : (markedV n k0)[k].lag = decide ((k0 + 3 * (k : Int) + 1 + 1) % 3 = 0) := by rw [hg]; rfl
    by_cases hz : (k0 + 3 * (k : Int) + 1 + 1) % 3 = 0
    · rw [decide_eq_true hz] at hg4
      repeat (first | ((first | refine qb rfl rfl ?_ | refine qi (by assumption) rfl rfl ?_ | refine ql rfl ?_ | refine qo rfl rfl ?_ | refine qs rfl rfl ?_ | refine qn rfl rfl ?_); conv => whnf) | (refine .inl (And.intro (by kernel_rfl) ?_); conv => whnf) | (refine r_put (p_bin (b_rem (by omega) (by omega) (by omega) (by omega) rfl) rfl rfl rfl) rfl rfl ?_; conv => whnf) | (rw [hg4]; conv => whnf) | (refine r_put (p_bin (b_bne Tryz.underlying4) rfl rfl rfl) rfl rfl ?_; rw [hg4]; conv => whnf) | (refine r_put (p_bin (b_bne Tryz.underlying4) rfl rfl rfl) rfl rfl ?_; conv => whnf))
      refine ⟨⟨k + 1, hlt⟩, ⟨trivial, .inl ⟨rfl, rfl⟩, .inl ⟨?_, rfl⟩, .inl ⟨rfl, rfl⟩, trivial⟩, by simp; omega⟩
      show AV.v (.int .i64 (k0 + 3 * k + 1 + 1 + 1)) = _
      congr 2
      simp; omega
    · rw [decide_eq_false hz] at hg4
      repeat (first | ((first | refine qb rfl rfl ?_ | refine qi (by assumption) rfl rfl ?_ | refine ql rfl ?_ | refine qo rfl rfl ?_ | refine qs rfl rfl ?_ | refine qn rfl rfl ?_); conv => whnf) | (refine .inl (And.intro (by kernel_rfl) ?_); conv => whnf) | (refine r_put (p_bin (b_rem (by omega) (by omega) (by omega) (by omega) rfl) rfl rfl rfl) rfl rfl ?_; conv => whnf) | (rw [hg4]; conv => whnf) | (refine r_put (p_bin (b_bne Tryz.underlying4) rfl rfl rfl) rfl rfl ?_; rw [hg4]; conv => whnf) | (refine r_put (p_bin (b_bne Tryz.underlying4) rfl rfl rfl) rfl rfl ?_; conv => whnf))
      refine ⟨⟨k + 1, hlt⟩, ⟨trivial, .inl ⟨rfl, rfl⟩, .inl ⟨?_, rfl⟩, .inl ⟨rfl, rfl⟩, trivial⟩, by simp; omega⟩
      show AV.v (.int .i64 (k0 + 3 * k + 1 + 1 + 1)) = _
      congr 2
      simp; omega
  · have hkk : k = n := by omega
    subst hkk
    repeat (first | ((first | refine qb rfl rfl ?_ | refine qi (by assumption) rfl rfl ?_ | refine ql rfl ?_ | refine qo rfl rfl ?_ | refine qs rfl rfl ?_ | refine qn rfl rfl ?_); conv => whnf) | (refine .inl (And.intro (by kernel_rfl) ?_); conv => whnf) | (rw [hml]))
    exact r_ret1 rfl trivial
theorem ac_markEventS0 {k0 : Int} : AC Tryz.prog 88 [.lst 3 [], .v (.int .i64 k0)] ⟨.v (.int .i64 k0), []⟩ := by
  refine r_of Th_ok (by kernel_rfl) Tryz.func88 rfl Tryz.ntmps88 Tryz.results88 (by kernel_rfl) rfl ?_; conv => whnf
  refine r_loop (ι := Unit) (fun _ => ⟨[(0, .lst 3 []), (1, .v (.int .i64 k0)), (5, .v (.int .i64 0))], []⟩) (fun _ => 0) () (by refine ⟨?_, ?_⟩ <;> (repeat (first | trivial | exact ⟨rfl, trivial⟩ | refine ⟨rfl, ?_⟩ | refine ⟨.inl ⟨rfl, rfl⟩, ?_⟩ | refine ⟨.inr ⟨_, _, rfl, rfl, rfl, rfl, rfl⟩, ?_⟩))) ?_
  rintro ⟨⟩
  try dsimp only
  conv => whnf
  repeat (first | (refine r_put (p_bin (b_lt_f (by simp)) rfl rfl rfl) rfl rfl ?_; conv => whnf) | ((first | refine qb rfl rfl ?_ | refine qi (by assumption) rfl rfl ?_ | refine ql rfl ?_ | refine qo rfl rfl ?_ | refine qs rfl rfl ?_ | refine qn rfl rfl ?_); conv => whnf))
  exact r_ret1 rfl trivial
end Go.Proofs.YtmfmclnklpbiaaaGreat.AM
/- The laws of NextEvent, DrainWatch and NoteRef. -/
namespace Go.Proofs.YtmfmclnklpbiaaaGreat.AM
open Go Go.RowKit
set_option linter.unusedVariables false
set_option linter.unusedSimpArgs false
set_option maxRecDepth 100000
attribute [local irreducible] ACode AOps AOps2 RetG RetM Pre ACG
end Go.Proofs.YtmfmclnklpbiaaaGreat.AM
namespace Go.Proofs.YtmfmclnklpbiaaaGreat.AM
open Go Go.RowKit
set_option linter.unusedVariables false
set_option linter.unusedSimpArgs false
set_option maxRecDepth 100000
noncomputable def verAt (l : List Rf) (x : ByteArray) : Int := if 0 ≤ rAt l x 0 then (l.getD (rAt l x 0).toNat ⟨ByteArray.empty, 0, 0, false⟩).ver else 0
theorem verAt_no {l : List Rf} {x : ByteArray} (h : rAt l x 0 < 0) : verAt l x = 0 := by unfold verAt; rw [if_neg (by omega)]
theorem verAt_at {l : List Rf} {x : ByteArray} {j : Nat} (hj : j < l.length) (h : rAt l x 0 = (j : Int)) : verAt l x = l[j].ver := by
  unfold verAt
  rw [if_pos (by omega), h]
  simp [List.getD, hj]
attribute [local irreducible] ACode AOps AOps2 RetG RetM Pre ACG
theorem ac_iNew_bad {l : List Rf} {x : ByteArray} {c : Int} (hm : l.length ≤ maxLen) (hk : nmOK maxLen l) (hx : x.size ≤ maxLen) (hc : askF l x = c) (h0 : c ≠ 0) : AC Tryz.prog 35 [.lst 4 (l.map refA), .v (.string x)] ⟨.tup [watA watZ, .v (.int .i64 c)], []⟩ := by
  have h1 := ac_refsCode hm hk hx
  rw [hc] at h1
  refine r_of Th_ok (by kernel_rfl) Tryz.func35 rfl Tryz.ntmps35 Tryz.results35 (by kernel_rfl) rfl ?_; conv => whnf
  repeat (first | ((first | refine qb rfl rfl ?_ | refine qi (by assumption) rfl rfl ?_ | refine ql rfl ?_ | refine qo rfl rfl ?_ | refine qs rfl rfl ?_ | refine qn rfl rfl ?_); conv => whnf) | (refine .inl (And.intro (by kernel_rfl) ?_); conv => whnf) | (refine qc (h1) rfl ?_; conv => whnf) | (refine r_step (p_ostore rfl rfl rfl rfl rfl (by conv => lhs; whnf) rfl) rfl rfl (fun e => by first | exact .inl rfl | contradiction | exact .inr (.inl (by kernel_rfl))) ?_; conv => whnf))
  exact r_tupCV (x := watA watZ) rfl rfl rfl rfl trivial rfl
theorem ac_iNew_nm {l : List Rf} {x : ByteArray} (hm : l.length ≤ maxLen) (hk : nmOK maxLen l) (hx : x.size ≤ maxLen) (hc : askF l x = 0) (hn : okN x = false) : AC Tryz.prog 35 [.lst 4 (l.map refA), .v (.string x)] ⟨.tup [watA watZ, .v (.int .i64 1)], []⟩ := by
  have h1 := ac_refsCode hm hk hx
  rw [hc] at h1
  refine r_of Th_ok (by kernel_rfl) Tryz.func35 rfl Tryz.ntmps35 Tryz.results35 (by kernel_rfl) rfl ?_; conv => whnf
  repeat (first | ((first | refine qb rfl rfl ?_ | refine qi (by assumption) rfl rfl ?_ | refine ql rfl ?_ | refine qo rfl rfl ?_ | refine qs rfl rfl ?_ | refine qn rfl rfl ?_); conv => whnf) | (refine .inl (And.intro (by kernel_rfl) ?_); conv => whnf) | (refine qc (h1) rfl ?_; conv => whnf) | (refine qc (ac_nameOK hx hn) rfl ?_; conv => whnf) | (refine r_step (p_ostore rfl rfl rfl rfl rfl (by conv => lhs; whnf) rfl) rfl rfl (fun e => by first | exact .inl rfl | contradiction | exact .inr (.inl (by kernel_rfl))) ?_; conv => whnf))
  exact r_tupCV (x := watA watZ) rfl rfl rfl rfl trivial rfl
theorem ac_versionOf {l : List Rf} {x : ByteArray} (hm : l.length ≤ maxLen) : AC Tryz.prog 78 [.lst 4 (l.map refA), .v (.string x)] ⟨.v (.int .i64 (verAt l x)), []⟩ := by
  have h2 := ac_placeOfRef (x := x) hm
  by_cases hp : rAt l x 0 < 0
  · rw [verAt_no hp]
    refine r_of Th_ok (by kernel_rfl) Tryz.func78 rfl Tryz.ntmps78 Tryz.results78 (by kernel_rfl) rfl ?_; conv => whnf
    repeat (first | ((first | refine qb rfl rfl ?_ | refine qi (by assumption) rfl rfl ?_ | refine ql rfl ?_ | refine qo rfl rfl ?_ | refine qs rfl rfl ?_ | refine qn rfl rfl ?_); conv => whnf) | (refine .inl (And.intro (by kernel_rfl) ?_); conv => whnf) | (refine qc (h2) rfl ?_; conv => whnf))
    exact r_ret1 rfl trivial
  · obtain ⟨j, hj, e, e2⟩ := rAt_lt (by omega : 0 ≤ rAt l x 0)
    rw [verAt_at hj e]
    rw [e] at h2
    refine r_of Th_ok (by kernel_rfl) Tryz.func78 rfl Tryz.ntmps78 Tryz.results78 (by kernel_rfl) rfl ?_; conv => whnf
    repeat (first | ((first | refine qb rfl rfl ?_ | refine qi (by assumption) rfl rfl ?_ | refine ql rfl ?_ | refine qo rfl rfl ?_ | refine qs rfl rfl ?_ | refine qn rfl rfl ?_); conv => whnf) | (refine .inl (And.intro (by kernel_rfl) ?_); conv => whnf) | (refine qc (h2) rfl ?_; conv => whnf))
    exact r_ret1 rfl trivial
theorem ac_iNew {l : List Rf} {x : ByteArray} (hm : l.length ≤ maxLen) (hk : nmOK maxLen l) (hx : x.size ≤ maxLen) (hc : askF l x = 0) (hn : okN x = true) : AC Tryz.prog 35 [.lst 4 (l.map refA), .v (.string x)] ⟨.tup [watA ⟨x, verAt l x, []⟩, .v (.int .i64 0)], []⟩ := by
  have h1 := ac_refsCode hm hk hx
  rw [hc] at h1
  have h2 := ac_versionOf (x := x) hm
  refine r_of Th_ok (by kernel_rfl) Tryz.func35 rfl Tryz.ntmps35 Tryz.results35 (by kernel_rfl) rfl ?_; conv => whnf
  repeat (first | ((first | refine qb rfl rfl ?_ | refine qi (by assumption) rfl rfl ?_ | refine ql rfl ?_ | refine qo rfl rfl ?_ | refine qs rfl rfl ?_ | refine qn rfl rfl ?_); conv => whnf) | (refine .inl (And.intro (by kernel_rfl) ?_); conv => whnf) | (refine qc (h1) rfl ?_; conv => whnf) | (refine qc (ac_nameOK hx hn) rfl ?_; conv => whnf) | (refine qc (h2) rfl ?_; conv => whnf) | (refine r_step (p_ostore rfl rfl rfl rfl rfl (by conv => lhs; whnf) rfl) rfl rfl (fun e => by first | exact .inl rfl | contradiction | exact .inr (.inl (by kernel_rfl))) ?_; conv => whnf))
  exact r_tupCV (x := watA ⟨x, verAt l x, []⟩) rfl rfl rfl rfl trivial rfl
end Go.Proofs.YtmfmclnklpbiaaaGreat.AM
namespace Go.Proofs.YtmfmclnklpbiaaaGreat.AM
open Go Go.RowKit
set_option linter.unusedVariables false
set_option linter.unusedSimpArgs false
set_option maxRecDepth 100000
abbrev sSz (s : ByteArray) : Nat := s.size
attribute [local irreducible] ACode AOps AOps2 RetG RetM Pre ACG
theorem ac_szStringS {es : List ByteArray} {l : Int} (hm : es.length ≤ maxLen) (hk : ∀ e ∈ es, e.size ≤ maxLen) (h0 : 0 ≤ l) (h1 : l ≤ 1048576) : AC Tryz.prog 6 [.lst 1 (es.map strA), .v (.int .i64 l)] ⟨.v (.int .i64 (szL sSz es l)), []⟩ := by
  unfold maxLen at hm hk
  by_cases hn : l - es.length < 0
  · rw [szL, if_pos hn]
    refine r_of Th_ok (by kernel_rfl) Tryz.func6 rfl Tryz.ntmps6 Tryz.results6 (by kernel_rfl) rfl ?_; conv => whnf
    repeat (((first | refine qb rfl rfl ?_ | refine qi (by assumption) rfl rfl ?_ | refine ql rfl ?_ | refine qo rfl rfl ?_ | refine qs rfl rfl ?_ | refine qn rfl rfl ?_); conv => whnf))
    exact r_ret1 rfl trivial
  · rw [szL, if_neg hn]
    refine r_of Th_ok (by kernel_rfl) Tryz.func6 rfl Tryz.ntmps6 Tryz.results6 (by kernel_rfl) rfl ?_; conv => whnf
    repeat (((first | refine qb rfl rfl ?_ | refine qi (by assumption) rfl rfl ?_ | refine ql rfl ?_ | refine qo rfl rfl ?_ | refine qs rfl rfl ?_ | refine qn rfl rfl ?_); conv => whnf))
    refine r_loop (ι := { p : Nat × Int // p.1 ≤ es.length ∧ 0 ≤ p.2 ∧ p.2 ≤ l ∧ szF sSz (es.drop p.1) p.2 = szF sSz es (l - es.length) }) (fun p => ⟨[(0, .lst 1 (es.map strA)), (1, .v (.int .i64 p.1.2)), (5, .v (.int .i64 (p.1.1 : Int)))], []⟩) (fun p => es.length - p.1.1) ⟨(0, l - es.length), by simp, by omega, by omega, rfl⟩ (by refine ⟨?_, ?_⟩ <;> (repeat (first | trivial | exact ⟨rfl, trivial⟩ | refine ⟨rfl, ?_⟩ | refine ⟨.inl ⟨rfl, rfl⟩, ?_⟩ | refine ⟨.inr ⟨_, _, rfl, rfl, rfl, rfl, rfl⟩, ?_⟩))) ?_
    rintro ⟨⟨k, cur⟩, hkl, hc0, hc1, hsz⟩
    simp only at hkl hc0 hc1 hsz ⊢
    conv => whnf
    by_cases hlt : k < es.length
    · have hd := szF_drop (g := sSz) (l := cur) hlt
      rw [hsz] at hd
      have hkk := hk _ (List.getElem_mem hlt)
      by_cases hneg : cur - (es[k]).size < 0
      · rw [if_pos hneg] at hd
        rw [hd]
        repeat (((first | refine qb rfl rfl ?_ | refine qi (by assumption) rfl rfl ?_ | refine ql rfl ?_ | refine qo rfl rfl ?_ | refine qs rfl rfl ?_ | refine qn rfl rfl ?_); conv => whnf))
        exact r_ret1 rfl trivial
      · rw [if_neg hneg] at hd
        repeat (((first | refine qb rfl rfl ?_ | refine qi (by assumption) rfl rfl ?_ | refine ql rfl ?_ | refine qo rfl rfl ?_ | refine qs rfl rfl ?_ | refine qn rfl rfl ?_); conv => whnf))
        exact ⟨⟨(k + 1, cur - (es[k]).size), by simp; omega, by omega, by omega, hd.symm⟩, by refine ⟨?_, ?_⟩ <;> (repeat (first | trivial | exact ⟨rfl, trivial⟩ | refine ⟨rfl, ?_⟩ | refine ⟨.inl ⟨rfl, rfl⟩, ?_⟩ | refine ⟨.inr ⟨_, _, rfl, rfl, rfl, rfl, rfl⟩, ?_⟩)), by simp; omega⟩
    · have hkk : k = es.length := by omega
      rw [hkk, List.drop_length] at hsz
      rw [← hsz]
      repeat (((first | refine qb rfl rfl ?_ | refine qi (by assumption) rfl rfl ?_ | refine ql rfl ?_ | refine qo rfl rfl ?_ | refine qs rfl rfl ?_ | refine qn rfl rfl ?_); conv => whnf))
      exact r_ret1 rfl trivial
theorem ac_toStringS {l : List ByteArray} (hm : l.length ≤ 1048576) : AC Tryz.prog 10 [.lst 1 (l.map strA)] ⟨.own 0, [⟨9, 1, l.map strA⟩]⟩ := by
  refine r_of Th_ok (by kernel_rfl) Tryz.func10 rfl Tryz.ntmps10 Tryz.results10 (by kernel_rfl) rfl ?_; conv => whnf
  repeat (first | ((first | refine qb rfl rfl ?_ | refine qi (by assumption) rfl rfl ?_ | refine ql rfl ?_ | refine qo rfl rfl ?_ | refine qs rfl rfl ?_ | refine qn rfl rfl ?_); conv => whnf) | (refine r_step (p_make (n := l.length) (by omega) (by omega) (by simp; rfl) (by simp; rfl) rfl rfl) rfl rfl (fun e => by first | exact .inl rfl | contradiction | exact .inr (.inl (by kernel_rfl))) ?_; conv => whnf))
  have hrow : List.replicate l.length zS = (l.take 0 ++ List.replicate (l.length - 0) ByteArray.empty).map strA := by simp [strA]
  refine r_loop (ι := { k : Nat // k ≤ l.length }) (fun k => ⟨[(0, .lst 1 (l.map strA)), (3, .own 8), (4, .v (.int .i64 (k.1 : Int)))], [(8, ⟨9, 1, (l.take k.1 ++ List.replicate (l.length - k.1) ByteArray.empty).map strA⟩)]⟩) (fun k => l.length - k.1) ⟨0, Nat.zero_le _⟩ ⟨⟨congrArg (fun x => some (OB.mk _ _ x)) hrow, trivial⟩, .inl ⟨rfl, rfl⟩, .inl ⟨rfl, rfl⟩, .inl ⟨rfl, rfl⟩, trivial⟩ ?_
  rintro ⟨k, hk⟩
  dsimp only
  conv => whnf
  by_cases hlt : k < l.length
  · have hlt2 : k < (l.take k ++ List.replicate (l.length - k) ByteArray.empty).length := by simp; omega
    have hset := congrArg (List.map strA) (fill_set l ByteArray.empty k hlt)
    rw [List.map_set] at hset
    repeat (first | ((first | refine qb rfl rfl ?_ | refine qi (by assumption) rfl rfl ?_ | refine ql rfl ?_ | refine qo rfl rfl ?_ | refine qs rfl rfl ?_ | refine qn rfl rfl ?_); conv => whnf) | (refine r_put (p_oidx (by simpa using hlt2) rfl rfl rfl rfl rfl) rfl rfl ?_; conv => whnf) | (refine r_step (p_ostore (getA _ hlt2) rfl rfl rfl rfl rfl rfl) rfl rfl (fun e => by first | exact .inl rfl | contradiction | exact .inr (.inl (by kernel_rfl))) ?_; conv => whnf))
    exact ⟨⟨k + 1, hlt⟩, ⟨⟨congrArg (fun x => some (OB.mk _ _ x)) hset, trivial⟩, .inl ⟨rfl, rfl⟩, .inl ⟨rfl, rfl⟩, .inl ⟨rfl, rfl⟩, trivial⟩, by simp; omega⟩
  · have hkk : k = l.length := by omega
    subst hkk
    repeat (((first | refine qb rfl rfl ?_ | refine qi (by assumption) rfl rfl ?_ | refine ql rfl ?_ | refine qo rfl rfl ?_ | refine qs rfl rfl ?_ | refine qn rfl rfl ?_); conv => whnf))
    exact r_own1 rfl (by show some (OB.mk _ _ _) = _; rw [List.take_length, Nat.sub_self, List.replicate_zero, List.append_nil])
end Go.Proofs.YtmfmclnklpbiaaaGreat.AM
namespace Go.Proofs.YtmfmclnklpbiaaaGreat.AM
open Go Go.RowKit
set_option linter.unusedVariables false
set_option linter.unusedSimpArgs false
set_option maxRecDepth 100000
/-- a client with nothing finished -/
def cA (ws : List Wsh) : AV := cliZ ws (.lst 2 [])
noncomputable def wtOf (l : List Rf) (x : ByteArray) : Wat := ⟨x, verAt l x, []⟩
/-- a new world -/
def wldZ (B : Bas) (css : List (List Wsh)) (wts : List Wat) (z : AV) : AV := .agg [basA B, .lst 9 (css.map cA), .lst 3 (wts.map watA), z, i0A]
def wldO (a b c d : Nat) : List AV := [.mix [.own a, .own b], .own c, .own d, nilV, i0A]
abbrev wld0 : AV := wldZ ⟨[], []⟩ [] [] (.lst 13 [])
section
variable {s : St} {Θ : Tab}
/-- a struct with rows of its own, and a plain value -/
theorem r_mixLV {a t l t2 : Nat} {ob : OB} {t' : Option Nat} {xs ys : List AV} {v : Value} (Ls : List Nat) {obs : List OB} (h1 : s.sl a = .optr l 0 [] 0) (ho : s.hp l = some ob) (hoe : openE ob.e ob.xs 0 = some (.o t' 0 (.mix xs))) (hobs : retObs s Ls obs) (hm : AV.mix xs = mapA (fun k => Ls.getD k 0) (.mix ys)) (hw : (AV.mix ys).within (fun k => Nat.blt k Ls.length) = true) (hv : s.sl t2 = .v v) (hnd : Ls.Nodup := by decide) (hof : ofO (.mix xs) = some (.mix xs) := by rfl) (hk : ((Θ.look t).known && (Θ.look t).isAgg && Nat.beq (aszs xs) (Θ.look t).size) = true := by rfl) (hop : ob.e.open_ = false := by rfl) :
    RetQ Θ [.cell a t, .tmp t2] ⟨.tup [.mix ys, .v v], obs⟩ .ret s := by
  obtain ⟨c1, c2⟩ := cellM (Θ := Θ) (t := t) h1 ho hop hoe hof hk
  exact ⟨trivial, Ls, hnd, hobs, ⟨c2, trivial, trivial⟩, ⟨_, rfl⟩, ⟨by rw [c1]; exact .inl ⟨hm, hw⟩, by show retA _ _ (s.sl t2) _; rw [hv]; exact .inl ⟨rfl, rfl⟩, trivial⟩⟩
end
attribute [local irreducible] ACode AOps AOps2 RetG RetM Pre ACG
theorem ac_copyBase {B : Bas} (hm : B.store.length ≤ 1048576) (hc : ∀ c ∈ B.store, c.1.length ≤ 1048576 ∧ c.2.length ≤ 1048576) (hr : B.refs.length ≤ 1048576) : AC Tryz.prog 33 [basA B] ⟨.mix [.own 0, .own 1], [⟨.d 123, 2, B.store.map comA⟩, ⟨105, 4, B.refs.map refA⟩]⟩ := by
  refine r_of Th_ok (by kernel_rfl) Tryz.func33 rfl Tryz.ntmps33 Tryz.results33 (by kernel_rfl) rfl ?_; conv => whnf
  repeat (((first | refine qb rfl rfl ?_ | refine qi (by assumption) rfl rfl ?_ | refine ql rfl ?_ | refine qo rfl rfl ?_ | refine qs rfl rfl ?_ | refine qn rfl rfl ?_); conv => whnf))
  refine .inr ⟨by kernel_rfl, prodB_ok (by kernel_rfl), ?_⟩
  refine o2_calm (p_ofld rfl rfl rfl) rfl rfl rfl (.inl rfl) (by kernel_rfl) ?_
  refine o2_calm (p_old rfl rfl rfl rfl rfl rfl rfl) rfl rfl rfl (.inr rfl) (by kernel_rfl) ?_
  refine o2_sft (sft_call (ac_copyStore hm hc) rfl rfl rfl ⟨⟨rfl, rfl, rfl⟩, trivial⟩ rfl rfl rfl) in_nuObs rfl rfl (by kernel_rfl) ?_
  refine o2_calm (p_ofld rfl rfl rfl) rfl rfl rfl (.inl rfl) (by kernel_rfl) ?_
  refine o2_calm (p_old rfl rfl rfl rfl rfl rfl rfl) rfl rfl rfl (.inr rfl) (by kernel_rfl) ?_
  refine o2_sft (sft_call (ac_cloneRef hr) rfl rfl rfl ⟨⟨rfl, rfl, rfl⟩, trivial⟩ rfl rfl rfl) in_nuObs rfl rfl (by kernel_rfl) ?_
  refine o2_tied (p_buildm rfl ⟨⟨_, _, rfl, rfl, rfl⟩, ⟨_, _, rfl, rfl, rfl⟩, trivial⟩ rfl) rfl rfl (by kernel_rfl) ?_
  refine o2_tied (p_ostoreo rfl rfl rfl rfl rfl rfl) rfl rfl (by kernel_rfl) ?_
  refine o2_nil ?_
  conv => whnf
  exact r_cellM rfl rfl rfl rfl rfl rfl rfl rfl
theorem ac_iNew_no {l : List Rf} {x : ByteArray} (hm : l.length ≤ maxLen) (hk : nmOK maxLen l) (hx : x.size ≤ maxLen) (hn : okN x = false) : ∃ c : Int, c ≠ 0 ∧ 0 ≤ c ∧ AC Tryz.prog 35 [.lst 4 (l.map refA), .v (.string x)] ⟨.tup [watA watZ, .v (.int .i64 c)], []⟩ := by
  by_cases hc : askF l x = 0
  · exact ⟨1, by omega, by omega, ac_iNew_nm hm hk hx hc hn⟩
  · exact ⟨_, hc, by unfold askF; split <;> (try split) <;> omega, ac_iNew_bad hm hk hx rfl hc⟩
theorem ac_iNewW {B : Bas} {css : List (List Wsh)} {xs : List ByteArray} (hB : B.ok maxLen) (hcs : ∀ ws ∈ css, ∀ c ∈ ws, c.ok maxLen) (hxs : ∀ x ∈ xs, x.size ≤ maxLen) (hsm : B.store.length ≤ 1048576) (hsc : ∀ c ∈ B.store, c.1.length ≤ 1048576 ∧ c.2.length ≤ 1048576) (hrm : B.refs.length ≤ 1048576) (he : ∀ ws ∈ css, ∀ c ∈ ws, c.edits.length ≤ 1048576)
    (hb : basB B = true) (h5 : css.length ≤ 5) (h3 : xs.length ≤ 3) (hw : ∀ ws ∈ css, ws.length ≤ 6 ∧ wssB ws = true) (hn : ∀ x ∈ xs, okN x = true) (ha : ∀ x ∈ xs, askF B.refs x = 0) :
    AC Tryz.prog 11 [basA B, .lst 1 (css.map wssA), .lst 1 (xs.map strA)] ⟨.tup [.mix (wldO 0 1 2 3), .v (.int .i64 0)], [⟨.d 123, 2, B.store.map comA⟩, ⟨105, 4, B.refs.map refA⟩, ⟨.d 70, 9, css.map cA⟩, ⟨75, 3, (xs.map (wtOf B.refs)).map watA⟩]⟩ := by
  have h1 := ac_iBaseOK hB
  rw [hb] at h1
  have h2 := ac_copyBase hsm hsc hrm
  have e0 : css.take 0 = [] := rfl
  refine r_of Th_ok (by kernel_rfl) Tryz.func11 rfl Tryz.ntmps11 Tryz.results11 (by kernel_rfl) rfl ?_; conv => whnf
  repeat (first | ((first | refine qb rfl rfl ?_ | refine qi (by assumption) rfl rfl ?_ | refine ql rfl ?_ | refine qo rfl rfl ?_ | refine qs rfl rfl ?_ | refine qn rfl rfl ?_); conv => whnf) | (refine .inl (And.intro (by kernel_rfl) ?_); conv => whnf) | (refine qc (h1) rfl ?_; conv => whnf) | (refine qc (h2) rfl ?_; conv => whnf) | (refine r_step (p_ostore rfl rfl rfl rfl rfl (by conv => lhs; whnf) rfl) rfl rfl (fun e => by first | exact .inl rfl | contradiction | exact .inr (.inl (by kernel_rfl))) ?_; conv => whnf))
  refine r_step (p_buildm rfl ⟨⟨_, _, rfl, rfl, rfl⟩, trivial⟩ rfl) rfl rfl (fun e => by first | exact .inl rfl | contradiction | exact .inr (.inl (by kernel_rfl))) ?_
  conv => whnf
  refine r_gh (p_ostoreo rfl rfl rfl rfl rfl rfl) rfl rfl (fun e => by cases e) (Gh.nilx 9 0 3009 [1] (.d 70) 9 rfl rfl rfl rfl rfl rfl (by omega) (Gh.nilx 9 0 4009 [2] (.s 75) 3 rfl rfl rfl rfl rfl rfl (by omega) (Gh.done ?_)))
  conv => whnf
  repeat (((first | refine qb rfl rfl ?_ | refine qi (by assumption) rfl rfl ?_ | refine ql rfl ?_ | refine qo rfl rfl ?_ | refine qs rfl rfl ?_ | refine qn rfl rfl ?_); conv => whnf))
  refine r_loop (ι := { k : Nat // k ≤ css.length }) (fun k => ⟨[(2, .lst 1 (xs.map strA)), (3, .optr 4 0 [] 0), (6, .optr 7 0 [] 0), (8, .optr 9 0 [] 0), (45, .lst 1 (css.map wssA)), (46, .v (.int .i64 (css.length : Int))), (47, .v (.int .i64 (k.1 : Int)))], [(4, ⟨.s 34, 2, [basA B]⟩), (7, ⟨.z 39, 6, [wld0]⟩), (9, ⟨.o (some 39) 0 (.mix (wldO 44 1044 3009 4009)), 6, [wld0]⟩), (44, ⟨.d 123, 2, B.store.map comA⟩), (1044, ⟨105, 4, B.refs.map refA⟩), (3009, ⟨.d 70, 9, (css.take k.1).map cA⟩), (4009, ⟨75, 3, []⟩)]⟩) (fun k => css.length - k.1) ⟨0, Nat.zero_le _⟩ (by refine ⟨?_, ?_⟩ <;> (repeat (first | trivial | exact ⟨rfl, trivial⟩ | refine ⟨rfl, ?_⟩ | refine ⟨.inl ⟨rfl, rfl⟩, ?_⟩ | refine ⟨.inr ⟨_, _, rfl, rfl, rfl, rfl, rfl⟩, ?_⟩))) ?_
  rintro ⟨k, hk⟩
  dsimp only
  conv => whnf
  by_cases hlt : k < css.length
  · have hmem := List.getElem_mem hlt
    obtain ⟨w1, w2⟩ := hw _ hmem
    have h3 := ac_iNewC w1 (hcs _ hmem) (he _ hmem) w2
    have hsn : (css.take k).map cA ++ [cA css[k]] = (css.take (k + 1)).map cA := by rw [List.take_succ_eq_append_getElem hlt, List.map_append]; rfl
    repeat (first | ((first | refine qb rfl rfl ?_ | refine qi (by assumption) rfl rfl ?_ | refine ql rfl ?_ | refine qo rfl rfl ?_ | refine qs rfl rfl ?_ | refine qn rfl rfl ?_); conv => whnf) | (refine .inl (And.intro (by kernel_rfl) ?_); conv => whnf) | (refine qc (h3) rfl ?_; conv => whnf) | (refine r_step (p_ostoreo rfl rfl rfl rfl rfl rfl) rfl rfl (fun e => by first | exact .inl rfl | contradiction | exact .inr (.inl (by kernel_rfl))) ?_; conv => whnf) | (refine r_put (p_oldo rfl rfl rfl rfl rfl rfl rfl rfl) rfl rfl ?_; conv => whnf))
    refine r_gh (p_bslm rfl rfl rfl rfl rfl) rfl rfl (fun e => by cases e) (Gh.fold 63 54 [0] rfl rfl rfl rfl rfl rfl (Gh.shut 63 (z := cA []) (y' := cA css[k]) rfl rfl (Gh.done ?_)))
    conv => whnf
    refine r_step (p_appd (xs := css.take k) (ys := [css[k]]) (f := cA) (by simp) (by simp; omega) rfl rfl rfl rfl rfl rfl rfl (.inr (.inl rfl))) rfl rfl (fun e => by first | exact .inl rfl | contradiction | exact .inr (.inl (by kernel_rfl))) ?_
    conv => whnf
    repeat (first | ((first | refine qb rfl rfl ?_ | refine qi (by assumption) rfl rfl ?_ | refine ql rfl ?_ | refine qo rfl rfl ?_ | refine qs rfl rfl ?_ | refine qn rfl rfl ?_); conv => whnf) | (refine r_step (p_ostoreo rfl rfl rfl rfl rfl rfl) rfl rfl (fun e => by first | exact .inl rfl | contradiction | exact .inr (.inl (by kernel_rfl))) ?_; conv => whnf))
    refine ⟨⟨k + 1, hlt⟩, ⟨⟨rfl, rfl, rfl, rfl, rfl, ?_, rfl, trivial⟩, .inl ⟨rfl, rfl⟩, .inl ⟨rfl, rfl⟩, .inl ⟨rfl, rfl⟩, .inl ⟨rfl, rfl⟩, .inl ⟨rfl, rfl⟩, .inl ⟨rfl, rfl⟩, .inl ⟨rfl, rfl⟩, trivial⟩, by simp; omega⟩
    first | exact congrArg (fun x => some (OB.mk _ _ x)) hsn | exact congrArg (fun x => some (OB.mk _ _ x)) ((List.map_append ..).trans hsn)
  have hkk : k = css.length := by omega
  subst hkk
  repeat (((first | refine qb rfl rfl ?_ | refine qi (by assumption) rfl rfl ?_ | refine ql rfl ?_ | refine qo rfl rfl ?_ | refine qs rfl rfl ?_ | refine qn rfl rfl ?_); conv => whnf))
  refine r_loop (ι := { k : Nat // k ≤ xs.length }) (fun k => ⟨[(3, .optr 4 0 [] 0), (6, .optr 7 0 [] 0), (8, .optr 9 0 [] 0), (66, .lst 1 (xs.map strA)), (67, .v (.int .i64 (xs.length : Int))), (68, .v (.int .i64 (k.1 : Int)))], [(4, ⟨.s 34, 2, [basA B]⟩), (7, ⟨.z 39, 6, [wld0]⟩), (9, ⟨.o (some 39) 0 (.mix (wldO 44 1044 3009 4009)), 6, [wld0]⟩), (44, ⟨.d 123, 2, B.store.map comA⟩), (1044, ⟨105, 4, B.refs.map refA⟩), (3009, ⟨.d 70, 9, css.map cA⟩), (4009, ⟨75, 3, ((xs.take k.1).map (wtOf B.refs)).map watA⟩)]⟩) (fun k => xs.length - k.1) ⟨0, Nat.zero_le _⟩ ⟨⟨rfl, rfl, rfl, rfl, rfl, by show some (OB.mk _ _ _) = _; rw [List.take_length], rfl, trivial⟩, .inl ⟨rfl, rfl⟩, .inl ⟨rfl, rfl⟩, .inl ⟨rfl, rfl⟩, .inl ⟨rfl, rfl⟩, .inl ⟨rfl, rfl⟩, .inl ⟨rfl, rfl⟩, trivial⟩ ?_
  rintro ⟨k, hk⟩
  dsimp only
  conv => whnf
  by_cases hlt : k < xs.length
  · have hmem := List.getElem_mem hlt
    have h4 := ac_iNew (l := B.refs) (x := xs[k]) hB.rm hB.rk (hxs _ hmem) (ha _ hmem) (hn _ hmem)
    have hsn : (xs.take k).map (wtOf B.refs) ++ [wtOf B.refs xs[k]] = (xs.take (k + 1)).map (wtOf B.refs) := by rw [List.take_succ_eq_append_getElem hlt, List.map_append]; rfl
    repeat (first | ((first | refine qb rfl rfl ?_ | refine qi (by assumption) rfl rfl ?_ | refine ql rfl ?_ | refine qo rfl rfl ?_ | refine qs rfl rfl ?_ | refine qn rfl rfl ?_); conv => whnf) | (refine .inl (And.intro (by kernel_rfl) ?_); conv => whnf) | (refine qc (h4) rfl ?_; conv => whnf) | (refine r_step (p_ostore rfl rfl rfl rfl rfl (by conv => lhs; whnf) rfl) rfl rfl (fun e => by first | exact .inl rfl | contradiction | exact .inr (.inl (by kernel_rfl))) ?_; conv => whnf) | (refine r_put (p_oldo rfl rfl rfl rfl rfl rfl rfl rfl) rfl rfl ?_; conv => whnf) | (refine r_step (p_bsl1 rfl rfl rfl rfl rfl rfl) rfl rfl (fun e => by first | exact .inl rfl | contradiction | exact .inr (.inl (by kernel_rfl))) ?_; conv => whnf))
    refine r_step (p_app1r (f := watA) (wtOf B.refs xs[k]) _ hsn (by simp; omega) rfl rfl rfl rfl rfl rfl rfl) rfl rfl (fun e => by first | exact .inl rfl | contradiction | exact .inr (.inl (by kernel_rfl))) ?_
    conv => whnf
    repeat (first | ((first | refine qb rfl rfl ?_ | refine qi (by assumption) rfl rfl ?_ | refine ql rfl ?_ | refine qo rfl rfl ?_ | refine qs rfl rfl ?_ | refine qn rfl rfl ?_); conv => whnf) | (refine r_step (p_ostoreo rfl rfl rfl rfl rfl rfl) rfl rfl (fun e => by first | exact .inl rfl | contradiction | exact .inr (.inl (by kernel_rfl))) ?_; conv => whnf))
    exact ⟨⟨k + 1, hlt⟩, by refine ⟨?_, ?_⟩ <;> (repeat (first | trivial | exact ⟨rfl, trivial⟩ | refine ⟨rfl, ?_⟩ | refine ⟨.inl ⟨rfl, rfl⟩, ?_⟩ | refine ⟨.inr ⟨_, _, rfl, rfl, rfl, rfl, rfl⟩, ?_⟩)), by simp; omega⟩
  have hkk : k = xs.length := by omega
  subst hkk
  repeat (first | ((first | refine qb rfl rfl ?_ | refine qi (by assumption) rfl rfl ?_ | refine ql rfl ?_ | refine qo rfl rfl ?_ | refine qs rfl rfl ?_ | refine qn rfl rfl ?_); conv => whnf) | (refine r_put (p_oldo rfl rfl rfl rfl rfl rfl rfl rfl) rfl rfl ?_; conv => whnf) | (refine r_step (p_ostoreo rfl rfl rfl rfl rfl rfl) rfl rfl (fun e => by first | exact .inl rfl | contradiction | exact .inr (.inl (by kernel_rfl))) ?_; conv => whnf))
  exact r_mixLV [44, 1044, 3009, 4009] rfl rfl rfl ⟨⟨rfl, rfl, rfl⟩, ⟨rfl, rfl, rfl⟩, ⟨rfl, rfl, rfl⟩, ⟨by show some (OB.mk _ _ _) = _; rw [List.take_length], rfl, rfl⟩, trivial⟩ rfl rfl rfl
end Go.Proofs.YtmfmclnklpbiaaaGreat.AM
namespace Go.Proofs.YtmfmclnklpbiaaaGreat.AM
open Go Go.RowKit
set_option linter.unusedVariables false
set_option linter.unusedSimpArgs false
set_option maxRecDepth 100000
section
variable {s : St} {Θ : Tab}
/-- a struct whose rows are given up is the result: it may be read -/
theorem r_cellD {a t l : Nat} {ob : OB} {t' : Option Nat} {xs : List AV} {y : AV} (h1 : s.sl a = .optr l 0 [] 0) (ho : s.hp l = some ob) (hoe : openE ob.e ob.xs 0 = some (.o t' 0 (.mix xs))) (hd : isDataA s (.mix xs) = true) (hy : s.dat (.mix xs) = y) (hw : ((ownsA (.mix xs)).all fun l => okL l && !([] : List Nat).contains l) = true) (hof : ofO (.mix xs) = some (.mix xs) := by rfl) (hk : ((Θ.look t).known && (Θ.look t).isAgg && Nat.beq (aszs xs) (Θ.look t).size) = true := by rfl) (hop : ob.e.open_ = false := by rfl) :
    RetQ Θ [.cell a t] ⟨y, []⟩ .ret s := by
  obtain ⟨c1, c2⟩ := cellM (Θ := Θ) (t := t) h1 ho hop hoe hof hk
  exact ⟨trivial, [], by simp, trivial, ⟨c2, trivial⟩, trivial, ⟨by rw [c1]; exact .inr ⟨hd, hw, hy.symm⟩, trivial⟩⟩
end
section
variable {P : Program} {Θ : Tab} {s : St} {ty : TypeId} {pos : String} {after : Array Edge} {g : Option (Nat × Bool)}
theorem mix_loc8 {s s' : St} : ∀ (ps : List (Nat × Operand)) (z : List AV), (∀ x ∈ ps, s'.ev x.2 = s.ev x.2) → mixParts s' z ps = mixParts s z ps ∧ (mixOK s z ps → mixOK s' z ps)
  | [], z, _ => ⟨rfl, fun h => h⟩
  | (i, x) :: ps, z, h => by
    have h1 := h (i, x) (by simp)
    simp only at h1
    obtain ⟨q1, q2⟩ := mix_loc8 ps (z.set i ((toO (s.ev x)).getD .any)) (fun y hy => h y (List.mem_cons_of_mem _ hy))
    unfold mixParts mixOK
    rw [h1]
    exact ⟨q1, fun ⟨a, b⟩ => ⟨a, q2 b⟩⟩
/-- a struct's value put together out of rows of the caller's own -/
theorem sft_bldm8 {d : Option Tmp} {t : TypeId} {ps : Array (Nat × Operand)} {fs : List (Nat × Nat)} {z : List AV} (ht : Θ.look t = .struct fs z) (hm : mixOK s (nilL z) ps.toList) (hc : csOK (ps.toList.map (·.2)) = true) (hn : ((labs (.mix (mixParts s (nilL z) ps.toList))).all fun l => ps.toList.any fun x => match x.2 with | .tmp t => (s.sl t).names l | _ => false) = true) :
    Sft P Θ ⟨d, .build t ps, ty, pos, after, g⟩ s (.mix (mixParts s (nilL z) ps.toList)) [] [] := by
  refine ⟨fun s' h1 h2 => ⟨⟨.mix (mixParts s (nilL z) ps.toList), none⟩, ?_, fun K hK => .done hK⟩, fun l ob h => by simp [nuAt] at h, fun l hl => (by cases hl), fun l hl => ?_, fun l hl => (inNu_nil hl).elim, fun l ob hl => (inNu_nil hl).elim⟩
  · have hev : ∀ x ∈ ps.toList, s'.ev x.2 = s.ev x.2 := fun x hx => h1 x.2 (by simp [Op.operands]; exact ⟨x.1, by simpa using hx⟩)
    obtain ⟨q1, q2⟩ := mix_loc8 (s := s) (s' := s') ps.toList (nilL z) hev
    rw [← q1]
    exact p_buildm ht (q2 hm) hc
  · have h3 := List.all_eq_true.1 hn l (names_labs _ hl)
    obtain ⟨x, hx, h4⟩ := List.any_eq_true.1 h3
    obtain ⟨i, x⟩ := x
    cases x with
    | tmp t => exact .inr ⟨t, mem_tmps (by simp [Op.operands]; exact ⟨i, by simpa using hx⟩), h4⟩
    | _ => cases h4
end
attribute [local irreducible] ACode AOps AOps2 RetG RetM Pre ACG
theorem ac_l05OwnD {B : Bas} (hm : B.store.length ≤ 1048576) (hc : ∀ c ∈ B.store, c.1.length ≤ 1048576 ∧ c.2.length ≤ 1048576) (hr : B.refs.length ≤ 1048576) : AC Tryz.prog 61 [basA B] ⟨basA B, []⟩ := by
  refine r_of Th_ok (by kernel_rfl) Tryz.func61 rfl Tryz.ntmps61 Tryz.results61 (by kernel_rfl) rfl ?_; conv => whnf
  repeat (((first | refine qb rfl rfl ?_ | refine qi (by assumption) rfl rfl ?_ | refine ql rfl ?_ | refine qo rfl rfl ?_ | refine qs rfl rfl ?_ | refine qn rfl rfl ?_); conv => whnf))
  refine .inr ⟨by kernel_rfl, prodB_ok (by kernel_rfl), ?_⟩
  refine o2_calm (p_ofld rfl rfl rfl) rfl rfl rfl (.inl rfl) (by kernel_rfl) ?_
  refine o2_calm (p_old rfl rfl rfl rfl rfl rfl rfl) rfl rfl rfl (.inr rfl) (by kernel_rfl) ?_
  refine o2_sft (sft_call (ac_l03Copy (l := B.store) (by omega) hc) rfl rfl rfl ⟨⟨rfl, rfl, rfl⟩, trivial⟩ rfl rfl rfl) in_nuObs rfl rfl (by kernel_rfl) ?_
  refine o2_sft (sft_bsl0 rfl rfl) in_one rfl rfl (by kernel_rfl) ?_
  refine o2_calm (p_ofld rfl rfl rfl) rfl rfl rfl (.inl rfl) (by kernel_rfl) ?_
  refine o2_calm (p_old rfl rfl rfl rfl rfl rfl rfl) rfl rfl rfl (.inr rfl) (by kernel_rfl) ?_
  refine o2_sft (sft_appl rfl rfl rfl rfl (by simp; omega) rfl) in_one rfl rfl (by kernel_rfl) ?_
  refine o2_tied (p_buildm rfl ⟨⟨_, _, rfl, rfl, rfl⟩, ⟨_, _, rfl, rfl, rfl⟩, trivial⟩ rfl) rfl rfl (by kernel_rfl) ?_
  refine o2_tied (p_ostoreo rfl rfl rfl rfl rfl rfl) rfl rfl (by kernel_rfl) ?_
  refine o2_nil ?_
  conv => whnf
  exact r_cellD rfl rfl rfl rfl rfl rfl
theorem ac_l07NewD {ws : List Wsh} (hm : ws.length ≤ 6) (hc : ∀ c ∈ ws, c.edits.length ≤ 1048576) : AC Tryz.prog 65 [.lst 5 (ws.map wshA)] ⟨cA ws, []⟩ := by
  have h1 := ac_l07Copy hm hc
  refine r_of Th_ok (by kernel_rfl) Tryz.func65 rfl Tryz.ntmps65 Tryz.results65 (by kernel_rfl) rfl ?_; conv => whnf
  repeat (first | ((first | refine qb rfl rfl ?_ | refine qi (by assumption) rfl rfl ?_ | refine ql rfl ?_ | refine qo rfl rfl ?_ | refine qs rfl rfl ?_ | refine qn rfl rfl ?_); conv => whnf) | (refine qc (h1) rfl ?_; conv => whnf))
  refine r_step (p_buildm rfl ⟨⟨_, _, rfl, rfl, rfl⟩, ⟨_, _, rfl, rfl, rfl⟩, trivial⟩ rfl) rfl rfl (fun e => by first | exact .inl rfl | contradiction | exact .inr (.inl (by kernel_rfl))) ?_
  conv => whnf
  repeat (first | ((first | refine qb rfl rfl ?_ | refine qi (by assumption) rfl rfl ?_ | refine ql rfl ?_ | refine qo rfl rfl ?_ | refine qs rfl rfl ?_ | refine qn rfl rfl ?_); conv => whnf) | (refine r_step (p_ostoreo rfl rfl rfl rfl rfl rfl) rfl rfl (fun e => by first | exact .inl rfl | contradiction | exact .inr (.inl (by kernel_rfl))) ?_; conv => whnf))
  exact r_cellD rfl rfl rfl rfl rfl rfl
theorem ac_l07OwnD {ws : List Wsh} (hm : ws.length ≤ 6) (hc : ∀ c ∈ ws, c.edits.length ≤ 1048576) : AC Tryz.prog 62 [cA ws] ⟨cA ws, []⟩ := by
  have h1 := ac_l07Copy hm hc
  refine r_of Th_ok (by kernel_rfl) Tryz.func62 rfl Tryz.ntmps62 Tryz.results62 (by kernel_rfl) rfl ?_; conv => whnf
  repeat (first | ((first | refine qb rfl rfl ?_ | refine qi (by assumption) rfl rfl ?_ | refine ql rfl ?_ | refine qo rfl rfl ?_ | refine qs rfl rfl ?_ | refine qn rfl rfl ?_); conv => whnf) | (refine .inl (And.intro (by kernel_rfl) ?_); conv => whnf) | (refine qc (h1) rfl ?_; conv => whnf) | (refine r_step (p_ostoref rfl rfl rfl rfl rfl rfl rfl rfl) rfl rfl (fun e => by first | exact .inl rfl | contradiction | exact .inr (.inl (by kernel_rfl))) ?_; conv => whnf) | (refine r_step (p_appl (xs := []) (ys := []) (f := entA) (by simp) rfl rfl rfl rfl rfl rfl) rfl rfl (fun e => by first | exact .inl rfl | contradiction | exact .inr (.inl (by kernel_rfl))) ?_; conv => whnf) | (refine r_step (p_ostore rfl rfl rfl rfl rfl (by conv => lhs; whnf) rfl) rfl rfl (fun e => by first | exact .inl rfl | contradiction | exact .inr (.inl (by kernel_rfl))) ?_; conv => whnf))
  exact r_cell1 (x := cA ws) rfl rfl rfl rfl trivial
theorem ac_l06NewD {l : List Rf} {x : ByteArray} (hm : l.length ≤ maxLen) : AC Tryz.prog 66 [.lst 4 (l.map refA), .v (.string x)] ⟨watA (wtOf l x), []⟩ := by
  have h2 := ac_l04At (x := x) hm
  unfold wtOf
  by_cases hp : rAt l x 0 < 0
  · rw [verAt_no hp]
    refine r_of Th_ok (by kernel_rfl) Tryz.func66 rfl Tryz.ntmps66 Tryz.results66 (by kernel_rfl) rfl ?_; conv => whnf
    refine r_step (p_buildm rfl ⟨⟨_, _, rfl, rfl, rfl⟩, ⟨_, _, rfl, rfl, rfl⟩, trivial⟩ rfl) rfl rfl (fun e => by first | exact .inl rfl | contradiction | exact .inr (.inl (by kernel_rfl))) ?_
    conv => whnf
    repeat (first | ((first | refine qb rfl rfl ?_ | refine qi (by assumption) rfl rfl ?_ | refine ql rfl ?_ | refine qo rfl rfl ?_ | refine qs rfl rfl ?_ | refine qn rfl rfl ?_); conv => whnf) | (refine .inl (And.intro (by kernel_rfl) ?_); conv => whnf) | (refine qc (h2) rfl ?_; conv => whnf) | (refine r_step (p_ostore rfl rfl rfl rfl rfl (by conv => lhs; whnf) rfl) rfl rfl (fun e => by first | exact .inl rfl | contradiction | exact .inr (.inl (by kernel_rfl))) ?_; conv => whnf) | (refine r_step (p_ostoreo rfl rfl rfl rfl rfl rfl) rfl rfl (fun e => by first | exact .inl rfl | contradiction | exact .inr (.inl (by kernel_rfl))) ?_; conv => whnf))
    exact r_cellD rfl rfl rfl rfl rfl rfl
  · obtain ⟨j, hj, e, e2⟩ := rAt_lt (by omega : 0 ≤ rAt l x 0)
    rw [verAt_at hj e]
    rw [e] at h2
    refine r_of Th_ok (by kernel_rfl) Tryz.func66 rfl Tryz.ntmps66 Tryz.results66 (by kernel_rfl) rfl ?_; conv => whnf
    refine r_step (p_buildm rfl ⟨⟨_, _, rfl, rfl, rfl⟩, ⟨_, _, rfl, rfl, rfl⟩, trivial⟩ rfl) rfl rfl (fun e => by first | exact .inl rfl | contradiction | exact .inr (.inl (by kernel_rfl))) ?_
    conv => whnf
    repeat (first | ((first | refine qb rfl rfl ?_ | refine qi (by assumption) rfl rfl ?_ | refine ql rfl ?_ | refine qo rfl rfl ?_ | refine qs rfl rfl ?_ | refine qn rfl rfl ?_); conv => whnf) | (refine .inl (And.intro (by kernel_rfl) ?_); conv => whnf) | (refine qc (h2) rfl ?_; conv => whnf) | (refine r_step (p_ostore rfl rfl rfl rfl rfl (by conv => lhs; whnf) rfl) rfl rfl (fun e => by first | exact .inl rfl | contradiction | exact .inr (.inl (by kernel_rfl))) ?_; conv => whnf) | (refine r_step (p_ostoreo rfl rfl rfl rfl rfl rfl) rfl rfl (fun e => by first | exact .inl rfl | contradiction | exact .inr (.inl (by kernel_rfl))) ?_; conv => whnf))
    exact r_cellD rfl rfl rfl rfl rfl rfl
theorem ac_l06OwnD {w : Wat} (hq : w.queue = []) : AC Tryz.prog 63 [watA w] ⟨watA w, []⟩ := by
  obtain ⟨nm, sn, q⟩ := w
  simp only at hq
  subst hq
  refine r_of Th_ok (by kernel_rfl) Tryz.func63 rfl Tryz.ntmps63 Tryz.results63 (by kernel_rfl) rfl ?_; conv => whnf
  repeat (first | ((first | refine qb rfl rfl ?_ | refine qi (by assumption) rfl rfl ?_ | refine ql rfl ?_ | refine qo rfl rfl ?_ | refine qs rfl rfl ?_ | refine qn rfl rfl ?_); conv => whnf) | (refine .inl (And.intro (by kernel_rfl) ?_); conv => whnf) | (refine r_step (p_ostoref rfl rfl rfl rfl rfl rfl rfl rfl) rfl rfl (fun e => by first | exact .inl rfl | contradiction | exact .inr (.inl (by kernel_rfl))) ?_; conv => whnf) | (refine r_step (p_appl (xs := []) (ys := []) (f := evtA) (by simp) rfl rfl rfl rfl rfl rfl) rfl rfl (fun e => by first | exact .inl rfl | contradiction | exact .inr (.inl (by kernel_rfl))) ?_; conv => whnf) | (refine r_step (p_ostore rfl rfl rfl rfl rfl (by conv => lhs; whnf) rfl) rfl rfl (fun e => by first | exact .inl rfl | contradiction | exact .inr (.inl (by kernel_rfl))) ?_; conv => whnf))
  exact r_cell1 (x := watA ⟨nm, sn, []⟩) rfl rfl rfl rfl trivial
theorem ac_l08New {B : Bas} {css : List (List Wsh)} {xs : List ByteArray} (hB : B.ok maxLen) (he : ∀ ws ∈ css, ∀ c ∈ ws, c.edits.length ≤ 1048576) (h5 : css.length ≤ 5) (h3 : xs.length ≤ 3) (hw : ∀ ws ∈ css, ws.length ≤ 6) (hxs : ∀ x ∈ xs, x.size ≤ maxLen) :
    AC Tryz.prog 28 [basA B, .lst 1 (css.map wssA), .lst 1 (xs.map strA)] ⟨wldZ B css (xs.map (wtOf B.refs)) (.lst 13 []), []⟩ := by
  refine r_of Th_ok (by kernel_rfl) Tryz.func28 rfl Tryz.ntmps28 Tryz.results28 (by kernel_rfl) rfl ?_; conv => whnf
  repeat (first | ((first | refine qb rfl rfl ?_ | refine qi (by assumption) rfl rfl ?_ | refine ql rfl ?_ | refine qo rfl rfl ?_ | refine qs rfl rfl ?_ | refine qn rfl rfl ?_); conv => whnf) | (refine .inl (And.intro (by kernel_rfl) ?_); conv => whnf) | (refine r_step (p_ostore rfl rfl rfl rfl rfl (by conv => lhs; whnf) rfl) rfl rfl (fun e => by first | exact .inl rfl | contradiction | exact .inr (.inl (by kernel_rfl))) ?_; conv => whnf))
  refine r_step (p_buildm rfl ⟨⟨_, _, rfl, rfl, rfl⟩, ⟨_, _, rfl, rfl, rfl⟩, ⟨_, _, rfl, rfl, rfl⟩, ⟨_, _, rfl, rfl, rfl⟩, trivial⟩ rfl) rfl rfl (fun e => by first | exact .inl rfl | contradiction | exact .inr (.inl (by kernel_rfl))) ?_
  conv => whnf
  repeat (first | ((first | refine qb rfl rfl ?_ | refine qi (by assumption) rfl rfl ?_ | refine ql rfl ?_ | refine qo rfl rfl ?_ | refine qs rfl rfl ?_ | refine qn rfl rfl ?_); conv => whnf) | (refine r_step (p_ostoreo rfl rfl rfl rfl rfl rfl) rfl rfl (fun e => by first | exact .inl rfl | contradiction | exact .inr (.inl (by kernel_rfl))) ?_; conv => whnf))
  refine r_loop (ι := { k : Nat // k ≤ css.length }) (fun k => ⟨[(1, .lst 1 (css.map wssA)), (2, .lst 1 (xs.map strA)), (3, .optr 4 0 [] 0), (6, .optr 7 0 [] 0), (7, .optr 8 0 [] 0), (8, .v (.int .i64 (k.1 : Int)))], [(4, ⟨.s 34, 2, [basA B]⟩), (7, ⟨.z 39, 6, [wld0]⟩), (8, ⟨.o (some 39) 0 (.mix [.rd (basA B), .own 12, .own 13, .own 14, i0A]), 6, [wld0]⟩), (12, ⟨70, 9, (css.take k.1).map cA⟩), (13, ⟨75, 3, []⟩), (14, ⟨118, 13, []⟩)]⟩) (fun k => css.length - k.1) ⟨0, Nat.zero_le _⟩ (by refine ⟨?_, ?_⟩ <;> (repeat (first | trivial | exact ⟨rfl, trivial⟩ | refine ⟨rfl, ?_⟩ | refine ⟨.inl ⟨rfl, rfl⟩, ?_⟩ | refine ⟨.inr ⟨_, _, rfl, rfl, rfl, rfl, rfl⟩, ?_⟩))) ?_
  rintro ⟨k, hk⟩
  dsimp only
  conv => whnf
  by_cases hlt : k < css.length
  · have hmem := List.getElem_mem hlt
    have h1 := ac_l07NewD (hw _ hmem) (he _ hmem)
    have hsn : css.take k ++ [css[k]] = css.take (k + 1) := (List.take_succ_eq_append_getElem hlt).symm
    repeat (first | (refine r_step (p_bsl1 rfl rfl rfl rfl rfl rfl) rfl rfl (fun _ => .inr (.inr (soft_set (by kernel_rfl) (by kernel_rfl)))) ?_; conv => whnf) | ((first | refine qb rfl rfl ?_ | refine qi (by assumption) rfl rfl ?_ | refine ql rfl ?_ | refine qo rfl rfl ?_ | refine qs rfl rfl ?_ | refine qn rfl rfl ?_); conv => whnf) | (refine .inl (And.intro (by kernel_rfl) ?_); conv => whnf) | (refine qc (h1) rfl ?_; conv => whnf) | (refine r_put (p_oldo rfl rfl rfl rfl rfl rfl rfl rfl) rfl rfl ?_; conv => whnf))
    refine r_step (p_app1r (f := cA) css[k] _ hsn (by simp; omega) rfl rfl rfl rfl rfl rfl rfl) rfl rfl (fun e => by first | exact .inl rfl | contradiction | exact .inr (.inl (by kernel_rfl))) ?_
    conv => whnf
    repeat (first | ((first | refine qb rfl rfl ?_ | refine qi (by assumption) rfl rfl ?_ | refine ql rfl ?_ | refine qo rfl rfl ?_ | refine qs rfl rfl ?_ | refine qn rfl rfl ?_); conv => whnf) | (refine r_step (p_ostoreo rfl rfl rfl rfl rfl rfl) rfl rfl (fun e => by first | exact .inl rfl | contradiction | exact .inr (.inl (by kernel_rfl))) ?_; conv => whnf))
    exact ⟨⟨k + 1, hlt⟩, by refine ⟨?_, ?_⟩ <;> (repeat (first | trivial | exact ⟨rfl, trivial⟩ | refine ⟨rfl, ?_⟩ | refine ⟨.inl ⟨rfl, rfl⟩, ?_⟩ | refine ⟨.inr ⟨_, _, rfl, rfl, rfl, rfl, rfl⟩, ?_⟩)), by simp; omega⟩
  have hkk : k = css.length := by omega
  subst hkk
  repeat (((first | refine qb rfl rfl ?_ | refine qi (by assumption) rfl rfl ?_ | refine ql rfl ?_ | refine qo rfl rfl ?_ | refine qs rfl rfl ?_ | refine qn rfl rfl ?_); conv => whnf))
  refine r_loop (ι := { k : Nat // k ≤ xs.length }) (fun k => ⟨[(2, .lst 1 (xs.map strA)), (3, .optr 4 0 [] 0), (6, .optr 7 0 [] 0), (7, .optr 8 0 [] 0), (9, .v (.int .i64 (k.1 : Int)))], [(4, ⟨.s 34, 2, [basA B]⟩), (7, ⟨.z 39, 6, [wld0]⟩), (8, ⟨.o (some 39) 0 (.mix [.rd (basA B), .own 12, .own 13, .own 14, i0A]), 6, [wld0]⟩), (12, ⟨70, 9, css.map cA⟩), (13, ⟨75, 3, ((xs.take k.1).map (wtOf B.refs)).map watA⟩), (14, ⟨118, 13, []⟩)]⟩) (fun k => xs.length - k.1) ⟨0, Nat.zero_le _⟩ ⟨⟨rfl, rfl, rfl, by show some (OB.mk _ _ _) = _; rw [List.take_length], rfl, rfl, trivial⟩, .inl ⟨rfl, rfl⟩, .inl ⟨rfl, rfl⟩, .inl ⟨rfl, rfl⟩, .inl ⟨rfl, rfl⟩, .inl ⟨rfl, rfl⟩, trivial⟩ ?_
  rintro ⟨k, hk⟩
  dsimp only
  conv => whnf
  by_cases hlt : k < xs.length
  · have hmem := List.getElem_mem hlt
    have h1 := ac_l06NewD (l := B.refs) (x := xs[k]) hB.rm
    have hsn : (xs.take k).map (wtOf B.refs) ++ [wtOf B.refs xs[k]] = (xs.take (k + 1)).map (wtOf B.refs) := by rw [List.take_succ_eq_append_getElem hlt, List.map_append]; rfl
    repeat (first | (refine r_step (p_bsl1 rfl rfl rfl rfl rfl rfl) rfl rfl (fun _ => .inr (.inr (soft_set (by kernel_rfl) (by kernel_rfl)))) ?_; conv => whnf) | ((first | refine qb rfl rfl ?_ | refine qi (by assumption) rfl rfl ?_ | refine ql rfl ?_ | refine qo rfl rfl ?_ | refine qs rfl rfl ?_ | refine qn rfl rfl ?_); conv => whnf) | (refine .inl (And.intro (by kernel_rfl) ?_); conv => whnf) | (refine qc (h1) rfl ?_; conv => whnf) | (refine r_put (p_oldo rfl rfl rfl rfl rfl rfl rfl rfl) rfl rfl ?_; conv => whnf))
    refine r_step (p_app1r (f := watA) (wtOf B.refs xs[k]) _ hsn (by simp; omega) rfl rfl rfl rfl rfl rfl rfl) rfl rfl (fun e => by first | exact .inl rfl | contradiction | exact .inr (.inl (by kernel_rfl))) ?_
    conv => whnf
    repeat (first | ((first | refine qb rfl rfl ?_ | refine qi (by assumption) rfl rfl ?_ | refine ql rfl ?_ | refine qo rfl rfl ?_ | refine qs rfl rfl ?_ | refine qn rfl rfl ?_); conv => whnf) | (refine r_step (p_ostoreo rfl rfl rfl rfl rfl rfl) rfl rfl (fun e => by first | exact .inl rfl | contradiction | exact .inr (.inl (by kernel_rfl))) ?_; conv => whnf))
    exact ⟨⟨k + 1, hlt⟩, by refine ⟨?_, ?_⟩ <;> (repeat (first | trivial | exact ⟨rfl, trivial⟩ | refine ⟨rfl, ?_⟩ | refine ⟨.inl ⟨rfl, rfl⟩, ?_⟩ | refine ⟨.inr ⟨_, _, rfl, rfl, rfl, rfl, rfl⟩, ?_⟩)), by simp; omega⟩
  have hkk : k = xs.length := by omega
  subst hkk
  repeat (first | ((first | refine qb rfl rfl ?_ | refine qi (by assumption) rfl rfl ?_ | refine ql rfl ?_ | refine qo rfl rfl ?_ | refine qs rfl rfl ?_ | refine qn rfl rfl ?_); conv => whnf) | (refine r_put (p_oldo rfl rfl rfl rfl rfl rfl rfl rfl) rfl rfl ?_; conv => whnf) | (refine r_step (p_ostoreo rfl rfl rfl rfl rfl rfl) rfl rfl (fun e => by first | exact .inl rfl | contradiction | exact .inr (.inl (by kernel_rfl))) ?_; conv => whnf))
  rw [List.take_length]
  exact r_cellD rfl rfl rfl rfl rfl rfl
theorem ac_l08Own {B : Bas} {css : List (List Wsh)} {wts : List Wat} (hsm : B.store.length ≤ 1048576) (hsc : ∀ c ∈ B.store, c.1.length ≤ 1048576 ∧ c.2.length ≤ 1048576) (hrm : B.refs.length ≤ 1048576) (he : ∀ ws ∈ css, ∀ c ∈ ws, c.edits.length ≤ 1048576) (h5 : css.length ≤ 5) (h3 : wts.length ≤ 3) (hw : ∀ ws ∈ css, ws.length ≤ 6) (hq : ∀ w ∈ wts, w.queue = []) :
    AC Tryz.prog 27 [wldZ B css wts (.lst 13 [])] ⟨wldZ B css wts (.lst 13 []), []⟩ := by
  have h2 := ac_l05OwnD hsm hsc hrm
  refine r_of Th_ok (by kernel_rfl) Tryz.func27 rfl Tryz.ntmps27 Tryz.results27 (by kernel_rfl) rfl ?_; conv => whnf
  repeat (first | ((first | refine qb rfl rfl ?_ | refine qi (by assumption) rfl rfl ?_ | refine ql rfl ?_ | refine qo rfl rfl ?_ | refine qs rfl rfl ?_ | refine qn rfl rfl ?_); conv => whnf))
  refine .inr ⟨by kernel_rfl, prodB_ok (by kernel_rfl), ?_⟩
  refine o2_calm (p_ofld rfl rfl rfl) rfl rfl rfl (.inl rfl) (by kernel_rfl) ?_
  refine o2_calm (p_old rfl rfl rfl rfl rfl rfl rfl) rfl rfl rfl (.inr rfl) (by kernel_rfl) ?_
  refine o2_sft (sft_call h2 rfl rfl rfl trivial rfl rfl rfl) in_nuObs rfl rfl (by kernel_rfl) ?_
  refine o2_sft (sft_bsl0 rfl rfl) in_one rfl rfl (by kernel_rfl) ?_
  refine o2_sft (sft_bsl0 rfl rfl) in_one rfl rfl (by kernel_rfl) ?_
  refine o2_sft (sft_bsl0 rfl rfl) in_one rfl rfl (by kernel_rfl) ?_
  refine o2_calm (p_ofld rfl rfl rfl) rfl rfl rfl (.inl rfl) (by kernel_rfl) ?_
  refine o2_calm (p_old rfl rfl rfl rfl rfl rfl rfl) rfl rfl rfl (.inr rfl) (by kernel_rfl) ?_
  refine o2_sft (sft_bldm8 rfl ⟨⟨_, _, rfl, rfl, rfl⟩, ⟨_, _, rfl, rfl, rfl⟩, ⟨_, _, rfl, rfl, rfl⟩, ⟨_, _, rfl, rfl, rfl⟩, ⟨_, _, rfl, rfl, rfl⟩, trivial⟩ rfl rfl) (fun l hl => by cases hl) rfl rfl (by kernel_rfl) ?_
  refine o2_sft (sft_allo rfl rfl) in_one rfl rfl (by kernel_rfl) ?_
  refine o2_tied (p_ostoreo rfl rfl rfl rfl rfl rfl) rfl rfl (by kernel_rfl) ?_
  refine o2_nil ?_
  conv => whnf
  repeat (((first | refine qb rfl rfl ?_ | refine qi (by assumption) rfl rfl ?_ | refine ql rfl ?_ | refine qo rfl rfl ?_ | refine qs rfl rfl ?_ | refine qn rfl rfl ?_); conv => whnf))
  refine r_loop (ι := { k : Nat // k ≤ css.length }) (fun k => ⟨[(1, .optr 2 0 [] 0), (2, .optr 3 0 [] 0), (3, .optr 4 0 [] 0), (4, .v (.int .i64 (k.1 : Int)))], [(2, ⟨.s 39, 6, [wldZ B css wts (.lst 13 [])]⟩), (3, ⟨.z 39, 6, [wld0]⟩), (4, ⟨.o (some 39) 0 (.mix [.rd (basA B), .own 11, .own 12, .own 13, i0A]), 6, [wld0]⟩), (11, ⟨70, 9, (css.take k.1).map cA⟩), (12, ⟨75, 3, []⟩), (13, ⟨118, 13, []⟩)]⟩) (fun k => css.length - k.1) ⟨0, Nat.zero_le _⟩ (by refine ⟨?_, ?_⟩ <;> (repeat (first | trivial | exact ⟨rfl, trivial⟩ | refine ⟨rfl, ?_⟩ | refine ⟨.inl ⟨rfl, rfl⟩, ?_⟩ | refine ⟨.inr ⟨_, _, rfl, rfl, rfl, rfl, rfl⟩, ?_⟩))) ?_
  rintro ⟨k, hk⟩
  dsimp only
  conv => whnf
  by_cases hlt : k < css.length
  · have hmem := List.getElem_mem hlt
    have h1 := ac_l07OwnD (hw _ hmem) (he _ hmem)
    have hsn : css.take k ++ [css[k]] = css.take (k + 1) := (List.take_succ_eq_append_getElem hlt).symm
    repeat (first | (refine r_step (p_bsl1 rfl rfl rfl rfl rfl rfl) rfl rfl (fun _ => .inr (.inr (soft_set (by kernel_rfl) (by kernel_rfl)))) ?_; conv => whnf) | ((first | refine qb rfl rfl ?_ | refine qi (by assumption) rfl rfl ?_ | refine ql rfl ?_ | refine qo rfl rfl ?_ | refine qs rfl rfl ?_ | refine qn rfl rfl ?_); conv => whnf) | (refine .inl (And.intro (by kernel_rfl) ?_); conv => whnf) | (refine qc (h1) rfl ?_; conv => whnf) | (refine r_put (p_oldo rfl rfl rfl rfl rfl rfl rfl rfl) rfl rfl ?_; conv => whnf))
    refine r_step (p_app1r (f := cA) css[k] _ hsn (by simp; omega) rfl rfl rfl rfl rfl rfl rfl) rfl rfl (fun _ => .inr (.inl (by kernel_rfl))) ?_
    conv => whnf
    repeat (first | ((first | refine qb rfl rfl ?_ | refine qi (by assumption) rfl rfl ?_ | refine ql rfl ?_ | refine qo rfl rfl ?_ | refine qs rfl rfl ?_ | refine qn rfl rfl ?_); conv => whnf) | (refine r_step (p_ostoreo rfl rfl rfl rfl rfl rfl) rfl rfl (fun e => by first | exact .inl rfl | contradiction | exact .inr (.inl (by kernel_rfl))) ?_; conv => whnf))
    exact ⟨⟨k + 1, hlt⟩, by refine ⟨?_, ?_⟩ <;> (repeat (first | trivial | exact ⟨rfl, trivial⟩ | refine ⟨rfl, ?_⟩ | refine ⟨.inl ⟨rfl, rfl⟩, ?_⟩ | refine ⟨.inr ⟨_, _, rfl, rfl, rfl, rfl, rfl⟩, ?_⟩)), by simp; omega⟩
  have hkk : k = css.length := by omega
  subst hkk
  repeat (((first | refine qb rfl rfl ?_ | refine qi (by assumption) rfl rfl ?_ | refine ql rfl ?_ | refine qo rfl rfl ?_ | refine qs rfl rfl ?_ | refine qn rfl rfl ?_); conv => whnf))
  refine r_loop (ι := { k : Nat // k ≤ wts.length }) (fun k => ⟨[(1, .optr 2 0 [] 0), (2, .optr 3 0 [] 0), (3, .optr 4 0 [] 0), (5, .v (.int .i64 (k.1 : Int)))], [(2, ⟨.s 39, 6, [wldZ B css wts (.lst 13 [])]⟩), (3, ⟨.z 39, 6, [wld0]⟩), (4, ⟨.o (some 39) 0 (.mix [.rd (basA B), .own 11, .own 12, .own 13, i0A]), 6, [wld0]⟩), (11, ⟨70, 9, css.map cA⟩), (12, ⟨75, 3, (wts.take k.1).map watA⟩), (13, ⟨118, 13, []⟩)]⟩) (fun k => wts.length - k.1) ⟨0, Nat.zero_le _⟩ ⟨⟨rfl, rfl, rfl, by show some (OB.mk _ _ _) = _; rw [List.take_length], rfl, rfl, trivial⟩, .inl ⟨rfl, rfl⟩, .inl ⟨rfl, rfl⟩, .inl ⟨rfl, rfl⟩, .inl ⟨rfl, rfl⟩, trivial⟩ ?_
  rintro ⟨k, hk⟩
  dsimp only
  conv => whnf
  by_cases hlt : k < wts.length
  · have hmem := List.getElem_mem hlt
    have h1 := ac_l06OwnD (hq _ hmem)
    have hsn : wts.take k ++ [wts[k]] = wts.take (k + 1) := (List.take_succ_eq_append_getElem hlt).symm
    repeat (first | (refine r_step (p_bsl1 rfl rfl rfl rfl rfl rfl) rfl rfl (fun _ => .inr (.inr (soft_set (by kernel_rfl) (by kernel_rfl)))) ?_; conv => whnf) | ((first | refine qb rfl rfl ?_ | refine qi (by assumption) rfl rfl ?_ | refine ql rfl ?_ | refine qo rfl rfl ?_ | refine qs rfl rfl ?_ | refine qn rfl rfl ?_); conv => whnf) | (refine .inl (And.intro (by kernel_rfl) ?_); conv => whnf) | (refine qc (h1) rfl ?_; conv => whnf) | (refine r_put (p_oldo rfl rfl rfl rfl rfl rfl rfl rfl) rfl rfl ?_; conv => whnf))
    refine r_step (p_app1r (f := watA) wts[k] _ hsn (by simp; omega) rfl rfl rfl rfl rfl rfl rfl) rfl rfl (fun _ => .inr (.inl (by kernel_rfl))) ?_
    conv => whnf
    repeat (first | ((first | refine qb rfl rfl ?_ | refine qi (by assumption) rfl rfl ?_ | refine ql rfl ?_ | refine qo rfl rfl ?_ | refine qs rfl rfl ?_ | refine qn rfl rfl ?_); conv => whnf) | (refine r_step (p_ostoreo rfl rfl rfl rfl rfl rfl) rfl rfl (fun e => by first | exact .inl rfl | contradiction | exact .inr (.inl (by kernel_rfl))) ?_; conv => whnf))
    exact ⟨⟨k + 1, hlt⟩, by refine ⟨?_, ?_⟩ <;> (repeat (first | trivial | exact ⟨rfl, trivial⟩ | refine ⟨rfl, ?_⟩ | refine ⟨.inl ⟨rfl, rfl⟩, ?_⟩ | refine ⟨.inr ⟨_, _, rfl, rfl, rfl, rfl, rfl⟩, ?_⟩)), by simp; omega⟩
  have hkk : k = wts.length := by omega
  subst hkk
  repeat (((first | refine qb rfl rfl ?_ | refine qi (by assumption) rfl rfl ?_ | refine ql rfl ?_ | refine qo rfl rfl ?_ | refine qs rfl rfl ?_ | refine qn rfl rfl ?_); conv => whnf))
  refine r_loop (ι := Unit) (fun _ => ⟨[(1, .optr 2 0 [] 0), (2, .optr 3 0 [] 0), (3, .optr 4 0 [] 0), (6, .v (.int .i64 0))], [(2, ⟨.s 39, 6, [wldZ B css wts (.lst 13 [])]⟩), (3, ⟨.z 39, 6, [wld0]⟩), (4, ⟨.o (some 39) 0 (.mix [.rd (basA B), .own 11, .own 12, .own 13, i0A]), 6, [wld0]⟩), (11, ⟨70, 9, css.map cA⟩), (12, ⟨75, 3, wts.map watA⟩), (13, ⟨118, 13, []⟩)]⟩) (fun _ => 0) () ⟨⟨rfl, rfl, rfl, rfl, by show some (OB.mk _ _ _) = _; rw [List.take_length], rfl, trivial⟩, .inl ⟨rfl, rfl⟩, .inl ⟨rfl, rfl⟩, .inl ⟨rfl, rfl⟩, .inl ⟨rfl, rfl⟩, trivial⟩ ?_
  rintro ⟨⟩
  try dsimp only
  conv => whnf
  repeat (first | (refine r_put (p_bin (b_lt_f (by simp)) rfl rfl rfl) rfl rfl ?_; conv => whnf) | ((first | refine qb rfl rfl ?_ | refine qi (by assumption) rfl rfl ?_ | refine ql rfl ?_ | refine qo rfl rfl ?_ | refine qs rfl rfl ?_ | refine qn rfl rfl ?_); conv => whnf) | (refine r_put (p_oldo rfl rfl rfl rfl rfl rfl rfl rfl) rfl rfl ?_; conv => whnf) | (refine r_step (p_ostoreo rfl rfl rfl rfl rfl rfl) rfl rfl (fun e => by first | exact .inl rfl | contradiction | exact .inr (.inl (by kernel_rfl))) ?_; conv => whnf))
  exact r_cellD rfl rfl rfl rfl rfl rfl
theorem ac_sNewW {B : Bas} {css : List (List Wsh)} {xs : List ByteArray} (hB : B.ok maxLen) (hcs : ∀ ws ∈ css, ∀ c ∈ ws, c.ok maxLen) (hxs : ∀ x ∈ xs, x.size ≤ maxLen) (hsm : B.store.length ≤ 1048576) (hsc : ∀ c ∈ B.store, c.1.length ≤ 1048576 ∧ c.2.length ≤ 1048576) (hrm : B.refs.length ≤ 1048576) (he : ∀ ws ∈ css, ∀ c ∈ ws, c.edits.length ≤ 1048576)
    (hb : basB B = true) (h5 : css.length ≤ 5) (h3 : xs.length ≤ 3) (hw : ∀ ws ∈ css, ws.length ≤ 6 ∧ wssB ws = true) (hn : ∀ x ∈ xs, okN x = true) :
    AC Tryz.prog 7 [basA B, .lst 1 (css.map wssA), .lst 1 (xs.map strA)] ⟨.tup [wldZ B css (xs.map (wtOf B.refs)) (.lst 13 []), .v (.int .i64 0)], []⟩ := by
  have h1 := ac_l05OK hB
  rw [hb] at h1
  have h2 := ac_l08New hB he h5 h3 (fun ws h => (hw ws h).1) hxs
  have h4 := ac_l08Own (B := B) (css := css) (wts := xs.map (wtOf B.refs)) hsm hsc hrm he h5 (by rw [List.length_map]; exact h3) (fun ws h => (hw ws h).1) (fun w h => by obtain ⟨x, _, rfl⟩ := List.mem_map.1 h; rfl)
  refine r_of Th_ok (by kernel_rfl) Tryz.func7 rfl Tryz.ntmps7 Tryz.results7 (by kernel_rfl) rfl ?_; conv => whnf
  repeat (first | ((first | refine qb rfl rfl ?_ | refine qi (by assumption) rfl rfl ?_ | refine ql rfl ?_ | refine qo rfl rfl ?_ | refine qs rfl rfl ?_ | refine qn rfl rfl ?_); conv => whnf) | (refine .inl (And.intro (by kernel_rfl) ?_); conv => whnf) | (refine qc (h1) rfl ?_; conv => whnf))
  refine r_loop (ι := { k : Nat // k ≤ css.length }) (fun k => ⟨[(1, .lst 1 (css.map wssA)), (2, .lst 1 (xs.map strA)), (3, .optr 4 0 [] 0), (6, .optr 7 0 [] 0), (8, .v (.int .i64 (k.1 : Int)))], [(4, ⟨.s 34, 2, [basA B]⟩), (7, ⟨.z 39, 6, [wld0]⟩)]⟩) (fun k => css.length - k.1) ⟨0, Nat.zero_le _⟩ (by refine ⟨?_, ?_⟩ <;> (repeat (first | trivial | exact ⟨rfl, trivial⟩ | refine ⟨rfl, ?_⟩ | refine ⟨.inl ⟨rfl, rfl⟩, ?_⟩ | refine ⟨.inr ⟨_, _, rfl, rfl, rfl, rfl, rfl⟩, ?_⟩))) ?_
  rintro ⟨k, hk⟩
  dsimp only
  conv => whnf
  by_cases hlt : k < css.length
  · have hmem := List.getElem_mem hlt
    have h5 := ac_l07Wishes (hw _ hmem).1 (hcs _ hmem)
    rw [(hw _ hmem).2] at h5
    repeat (first | ((first | refine qb rfl rfl ?_ | refine qi (by assumption) rfl rfl ?_ | refine ql rfl ?_ | refine qo rfl rfl ?_ | refine qs rfl rfl ?_ | refine qn rfl rfl ?_); conv => whnf) | (refine .inl (And.intro (by kernel_rfl) ?_); conv => whnf) | (refine qc (h5) rfl ?_; conv => whnf))
    exact ⟨⟨k + 1, hlt⟩, by refine ⟨?_, ?_⟩ <;> (repeat (first | trivial | exact ⟨rfl, trivial⟩ | refine ⟨rfl, ?_⟩ | refine ⟨.inl ⟨rfl, rfl⟩, ?_⟩ | refine ⟨.inr ⟨_, _, rfl, rfl, rfl, rfl, rfl⟩, ?_⟩)), by simp; omega⟩
  have hkk : k = css.length := by omega
  subst hkk
  repeat (((first | refine qb rfl rfl ?_ | refine qi (by assumption) rfl rfl ?_ | refine ql rfl ?_ | refine qo rfl rfl ?_ | refine qs rfl rfl ?_ | refine qn rfl rfl ?_); conv => whnf))
  refine r_loop (ι := { k : Nat // k ≤ xs.length }) (fun k => ⟨[(1, .lst 1 (css.map wssA)), (2, .lst 1 (xs.map strA)), (3, .optr 4 0 [] 0), (6, .optr 7 0 [] 0), (9, .v (.int .i64 (k.1 : Int)))], [(4, ⟨.s 34, 2, [basA B]⟩), (7, ⟨.z 39, 6, [wld0]⟩)]⟩) (fun k => xs.length - k.1) ⟨0, Nat.zero_le _⟩ (by refine ⟨?_, ?_⟩ <;> (repeat (first | trivial | exact ⟨rfl, trivial⟩ | refine ⟨rfl, ?_⟩ | refine ⟨.inl ⟨rfl, rfl⟩, ?_⟩ | refine ⟨.inr ⟨_, _, rfl, rfl, rfl, rfl, rfl⟩, ?_⟩))) ?_
  rintro ⟨k, hk⟩
  dsimp only
  conv => whnf
  by_cases hlt : k < xs.length
  · have hmem := List.getElem_mem hlt
    have h5 := ac_l00Word (hxs _ hmem) (hn _ hmem)
    repeat (first | ((first | refine qb rfl rfl ?_ | refine qi (by assumption) rfl rfl ?_ | refine ql rfl ?_ | refine qo rfl rfl ?_ | refine qs rfl rfl ?_ | refine qn rfl rfl ?_); conv => whnf) | (refine .inl (And.intro (by kernel_rfl) ?_); conv => whnf) | (refine qc (h5) rfl ?_; conv => whnf))
    exact ⟨⟨k + 1, hlt⟩, by refine ⟨?_, ?_⟩ <;> (repeat (first | trivial | exact ⟨rfl, trivial⟩ | refine ⟨rfl, ?_⟩ | refine ⟨.inl ⟨rfl, rfl⟩, ?_⟩ | refine ⟨.inr ⟨_, _, rfl, rfl, rfl, rfl, rfl⟩, ?_⟩)), by simp; omega⟩
  have hkk : k = xs.length := by omega
  subst hkk
  repeat (first | ((first | refine qb rfl rfl ?_ | refine qi (by assumption) rfl rfl ?_ | refine ql rfl ?_ | refine qo rfl rfl ?_ | refine qs rfl rfl ?_ | refine qn rfl rfl ?_); conv => whnf) | (refine .inl (And.intro (by kernel_rfl) ?_); conv => whnf) | (refine qc (h2) rfl ?_; conv => whnf) | (refine qc (h4) rfl ?_; conv => whnf) | (refine r_step (p_ostore rfl rfl rfl rfl rfl (by conv => lhs; whnf) rfl) rfl rfl (fun e => by first | exact .inl rfl | contradiction | exact .inr (.inl (by kernel_rfl))) ?_; conv => whnf))
  exact r_tupCV (x := wldZ B css (xs.map (wtOf B.refs)) (.lst 13 [])) rfl rfl rfl rfl trivial rfl
end Go.Proofs.YtmfmclnklpbiaaaGreat.AM
