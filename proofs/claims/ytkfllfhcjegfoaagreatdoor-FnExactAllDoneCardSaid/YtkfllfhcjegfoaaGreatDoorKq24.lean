/- Texts of the machine over data, folded. -/
import Derived.Test.YtkfllfhcjegfoaaGreatDoorKq6
import Derived.Test.YtkfllfhcjegfoaaGreatDoorKq22
import Derived.Test.YtkfllfhcjegfoaaGreatDoorKq23
import Derived.Test.YtkfllfhcjegfoaaGreatDoorKq21
import Derived.Test.YtkfllfhcjegfoaaGreatDoorKq18
set_option linter.unusedVariables false
set_option linter.unusedSimpArgs false
set_option maxRecDepth 100000
namespace Go.Proofs.YtkfllfhcjegfoaaGreatDoor.AM
open Go Go.RowKit
def aBs (x : Int) : ByteArray := if 0 ≤ x ∧ x < 19 then cwL.getD x.toNat ByteArray.empty else ByteArray.empty
theorem aPC {j : Nat} (h : j < 19) : aBs (j : Int) = cwL[j]'(by exact h) := by
 rw [aBs, if_pos (by omega), Int.toNat_natCast, List.getD_eq_getElem?_getD, List.getElem?_eq_getElem (by exact h)]; rfl
theorem aRJ : ∀ w ∈ cwL, w.size ≠ 0 := by decide
theorem aCV {x : Int} : aBs x = ⟨#[]⟩ ↔ ¬ (0 ≤ x ∧ x < 19) := by
 constructor
 · intro h hx
   obtain ⟨j, rfl⟩ : ∃ j : Nat, x = (j : Int) := ⟨x.toNat, by omega⟩
   have hj : j < 19 := by omega
   have e := (congrArg ByteArray.size ((aPC hj).symm.trans h))
   exact aRJ _ (List.getElem_mem (by exact hj)) e
 · intro h; rw [aBs, if_neg h]; rfl
def aCL (r : Rst) (n : Nat) : Bool := decide (0 ≤ r.code ∧ r.code < 19) && (decide (0 ≤ r.com ∧ r.com ≤ (n : Int)) && (decide (-1000000 ≤ r.val ∧ r.val ≤ 1000000) && (decide (r.keys.length ≤ 24) && zC r.map)))
def zop : Opr := ⟨0, 0, eB, eB, []⟩
def aOu (cs : List Cli) (k : Int) : Int := match cs[(k - 1).toNat]? with | some c => c.dn | none => 0
def uf (B : Bas) (cs : List Cli) (m : Mom) : Bool := decide (1 ≤ m.client ∧ m.client ≤ (cs.length : Int)) && (decide (1 ≤ m.wish ∧ m.wish ≤ aOu cs m.client) && ((opB m.op || aC4 m.op zop) && aCL m.res B.store.length))
theorem aBA {cs : List Cli} {k : Int} {j : Nat} (hj : j < cs.length) (e : k = (j : Int) + 1) : aOu cs k = (cs[j]).dn := by
 unfold aOu
 rw [show (k - 1).toNat = j by omega, List.getElem?_eq_getElem hj]
noncomputable def aDT (B : Bas) (wt : List Wat) : Bool := decide (wt.length ≤ 3) && wt.all fun w => wC w && decide (w.seen = wI B.refs w.name)
def jI (f : Mom → Bool) (sp : Int) : Int → List Mom → Bool
 | _, [] => true
 | l, m :: r => decide (l < m.step ∧ m.step ≤ sp) && (f m && jI f sp m.step r)
theorem aF7 {f : Mom → Bool} {sp l : Int} {ms : List Mom} {k : Nat} (h : k < ms.length) : jI f sp l (ms.drop k) = (decide (l < (ms[k]).step ∧ (ms[k]).step ≤ sp) && (f ms[k] && jI f sp (ms[k]).step (ms.drop (k + 1)))) := by
 rw [List.drop_eq_getElem_cons h, jI]
def wK : List Cli → Int
 | [] => 0
 | c :: cs => wK cs + c.dn
theorem aDF : ∀ (cs : List Cli) (k : Nat) (h : k < cs.length), wK (cs.take (k + 1)) = wK (cs.take k) + (cs[k]).dn
 | [], k, h => by simp at h
 | c :: cs, 0, h => by simp [wK]
 | c :: cs, k + 1, h => by
  have := aDF cs k (by simpa using h)
  simp only [List.take_succ_cons, wK, this, List.getElem_cons_succ]
  omega
theorem aDh : ∀ (cs : List Cli), (∀ c ∈ cs, 0 ≤ c.dn ∧ c.dn ≤ 6) → 0 ≤ wK cs ∧ wK cs ≤ 6 * cs.length
 | [], _ => by simp [wK]
 | c :: cs, h => by
  have h1 := aDh cs (fun c hc => h c (by simp [hc]))
  have h2 := h c (by simp)
  simp only [wK, List.length_cons]
  omega
noncomputable def aC6 (f : Cli → Bool) (B : Bas) (cs : List Cli) (wt : List Wat) (ms : List Mom) (sp : Int) : Bool := aBR B && (decide (0 ≤ sp ∧ sp ≤ 1000000) && (decide (cs.length ≤ 5) && (cs.all f && (aDT B wt && (decide ((ms.length : Int) = wK cs) && jI (uf B cs) sp 0 ms)))))
attribute [local irreducible] xM xN xW yF yL Pre ACG
theorem aJR {x : Int} : AC Tryz.prog 144 [.v (.int .i64 x)] ⟨.v (.string (aBs x)), []⟩ := by
 by_cases h1 : x < 0
 · rw [show aBs x = ⟨#[]⟩ from aCV.2 (by omega)]
   refine qrf Tryz.func144 Tryz.ntmps144 Tryz.results144 ?_; conv => whnf
   repeat ((first | refine qz ?_ | refine qdr ?_); conv => whnf)
   exact xA rfl trivial
 by_cases h2 : 19 ≤ x
 · rw [show aBs x = ⟨#[]⟩ from aCV.2 (by omega)]
   refine qrf Tryz.func144 Tryz.ntmps144 Tryz.results144 ?_; conv => whnf
   repeat ((first | refine qz ?_ | refine qdr ?_); conv => whnf)
   exact xA rfl trivial
 obtain ⟨j, rfl⟩ : ∃ j : Nat, x = (j : Int) := ⟨x.toNat, by omega⟩
 have hj : j < 19 := by omega
 rw [aPC hj]
 refine qrf Tryz.func144 Tryz.ntmps144 Tryz.results144 ?_; conv => whnf
 repeat (first | (refine qz ?_; conv => whnf) | (refine qdr ?_; conv => whnf) | (refine qp (aPW (xs := cwL.map fun s => .v (.string s)) (y := .v (.string (cwL[j]'(by exact hj)))) (by rw [List.getElem?_map, List.getElem?_eq_getElem (by exact hj)]; rfl) hj rfl rfl rfl (fun x hx => by obtain ⟨e, _, rfl⟩ := List.mem_map.1 hx; rfl)) ?_; conv => whnf))
 exact xA rfl trivial
theorem aNA {x : Int} : AC Tryz.prog 145 [.v (.int .i64 x)] ⟨.v (.bool (decide (-1000000 ≤ x ∧ x ≤ 1000000))), []⟩ := by
 by_cases h1 : -1000000 ≤ x
 · by_cases h2 : x ≤ 1000000
   · rw [decide_eq_true ⟨h1, h2⟩]
     refine qrf Tryz.func145 Tryz.ntmps145 Tryz.results145 ?_; conv => whnf
     repeat ((refine qz ?_; conv => whnf))
     exact xA rfl trivial
   · rw [decide_eq_false (by omega)]
     refine qrf Tryz.func145 Tryz.ntmps145 Tryz.results145 ?_; conv => whnf
     repeat ((refine qz ?_; conv => whnf))
     exact xA rfl trivial
 · rw [decide_eq_false (by omega)]
   refine qrf Tryz.func145 Tryz.ntmps145 Tryz.results145 ?_; conv => whnf
   repeat ((refine qz ?_; conv => whnf))
   exact xA rfl trivial
theorem aJS {r : Rst} {n : Nat} (hr : r.ok maxLen) : AC Tryz.prog 119 [aBp r, .v (.int .i64 (n : Int))] ⟨.v (.bool (aCL r n)), []⟩ := by
 have c1 := aJR (x := r.code)
 have c2 := aNA (x := r.val)
 obtain ⟨hk, _, hm, hm2⟩ := hr
 unfold maxLen at hk
 have c3 := aBQ hm hm2
 unfold aCL
 by_cases h1 : 0 ≤ r.code ∧ r.code < 19
 case neg =>
  rw [decide_eq_false h1, Bool.false_and]
  rw [show aBs r.code = ⟨#[]⟩ from aCV.2 h1] at c1
  refine qrf Tryz.func119 Tryz.ntmps119 Tryz.results119 ?_; conv => whnf
  repeat ((first | refine qz ?_ | refine qc (c1) ?_ | refine qdr ?_ | refine qp (xB (yJ rfl) rfl rfl rfl) ?_); conv => whnf)
  exact xA rfl trivial
 rw [decide_eq_true h1, Bool.true_and]
 have hne : aBs r.code ≠ ⟨#[]⟩ := fun e => aCV.1 e h1
 generalize aBs r.code = s at c1 hne
 by_cases h2 : 0 ≤ r.com
 case neg =>
  rw [decide_eq_false (by omega), Bool.false_and]
  refine qrf Tryz.func119 Tryz.ntmps119 Tryz.results119 ?_; conv => whnf
  repeat ((first | refine qz ?_ | refine qc (c1) ?_ | refine qdr ?_ | refine qp (xB (yo hne) rfl rfl rfl) ?_); conv => whnf)
  exact xA rfl trivial
 by_cases h3 : r.com ≤ (n : Int)
 case neg =>
  rw [decide_eq_false (by omega), Bool.false_and]
  refine qrf Tryz.func119 Tryz.ntmps119 Tryz.results119 ?_; conv => whnf
  repeat ((first | refine qz ?_ | refine qc (c1) ?_ | refine qdr ?_ | refine qp (xB (yo hne) rfl rfl rfl) ?_); conv => whnf)
  exact xA rfl trivial
 rw [decide_eq_true (show 0 ≤ r.com ∧ r.com ≤ (n : Int) from ⟨h2, h3⟩), Bool.true_and]
 cases hv : decide (-1000000 ≤ r.val ∧ r.val ≤ 1000000) with
 | false =>
  rw [Bool.false_and]
  rw [hv] at c2
  refine qrf Tryz.func119 Tryz.ntmps119 Tryz.results119 ?_; conv => whnf
  repeat ((first | refine qz ?_ | refine qc (c1) ?_ | refine qc (c2) ?_ | refine qdr ?_ | refine qp (xB (yo hne) rfl rfl rfl) ?_); conv => whnf)
  exact xA rfl trivial
 | true =>
  rw [Bool.true_and]
  rw [hv] at c2
  by_cases h4 : r.keys.length ≤ 24
  · rw [decide_eq_true h4, Bool.true_and]
    refine qrf Tryz.func119 Tryz.ntmps119 Tryz.results119 ?_; conv => whnf
    repeat ((first | refine qz ?_ | refine qc (c1) ?_ | refine qc (c2) ?_ | refine qc (c3) ?_ | refine qdr ?_ | refine qp (xB (yo hne) rfl rfl rfl) ?_); conv => whnf)
    exact xA rfl trivial
  · rw [decide_eq_false h4, Bool.false_and]
    refine qrf Tryz.func119 Tryz.ntmps119 Tryz.results119 ?_; conv => whnf
    repeat ((first | refine qz ?_ | refine qc (c1) ?_ | refine qc (c2) ?_ | refine qc (c3) ?_ | refine qdr ?_ | refine qp (xB (yo hne) rfl rfl rfl) ?_); conv => whnf)
    exact xA rfl trivial
section
variable {B : Bas} {cs : List Cli} {wt : List Wat} {ms : List Mom} {sp : Int}
theorem aJF {k : Int} (hm : cs.length ≤ maxLen) : AC Tryz.prog 116 [zf B cs wt ms sp, .v (.int .i64 k)] ⟨.v (.bool (decide (1 ≤ k ∧ k ≤ (cs.length : Int)))), []⟩ := by
 by_cases h1 : 1 ≤ k
 · by_cases h2 : k ≤ (cs.length : Int)
   · rw [decide_eq_true ⟨h1, h2⟩]
     refine qrf Tryz.func116 Tryz.ntmps116 Tryz.results116 ?_; conv => whnf
     repeat ((first | refine qz ?_ | refine qdr ?_); conv => whnf)
     exact xA rfl trivial
   · rw [decide_eq_false (by omega)]
     refine qrf Tryz.func116 Tryz.ntmps116 Tryz.results116 ?_; conv => whnf
     repeat ((first | refine qz ?_ | refine qdr ?_); conv => whnf)
     exact xA rfl trivial
 · rw [decide_eq_false (by omega)]
   refine qrf Tryz.func116 Tryz.ntmps116 Tryz.results116 ?_; conv => whnf
   repeat ((first | refine qz ?_ | refine qdr ?_); conv => whnf)
   exact xA rfl trivial
theorem aJ0 {m : Mom} (hm : cs.length ≤ 1048576) (hsm : B.store.length ≤ 1048576) (hk : m.ok) : AC Tryz.prog 81 [zf B cs wt ms sp, momA m] ⟨.v (.bool (uf B cs m)), []⟩ := by
 have c1 := aJF (B := B) (cs := cs) (wt := wt) (ms := ms) (sp := sp) (k := m.client) (by unfold maxLen; omega)
 have c2 := aE9 hk.1
 have c3 := aOA (a := m.op) (b := zop) hk.1.2.2.1 (by simp [zop])
 have c4 := aJS (n := B.store.length) hk.2
 unfold uf
 cases h1 : decide (1 ≤ m.client ∧ m.client ≤ (cs.length : Int)) with
 | false =>
  rw [Bool.false_and]
  rw [h1] at c1
  refine qrf Tryz.func81 Tryz.ntmps81 Tryz.results81 ?_; conv => whnf
  repeat ((first | refine qz ?_ | refine qc (c1) ?_ | refine qdr ?_); conv => whnf)
  exact xA rfl trivial
 | true =>
  rw [Bool.true_and]
  rw [h1] at c1
  have h1' := of_decide_eq_true h1
  obtain ⟨j, hj⟩ : ∃ j : Nat, m.client = (j : Int) + 1 := ⟨(m.client - 1).toNat, by omega⟩
  have hjl : j < cs.length := by omega
  rw [aBA hjl hj]
  by_cases h2 : 1 ≤ m.wish
  case neg =>
   rw [decide_eq_false (by omega), Bool.false_and]
   refine qrf Tryz.func81 Tryz.ntmps81 Tryz.results81 ?_; conv => whnf
   repeat ((first | refine qz ?_ | refine qc (c1) ?_ | refine qdr ?_); conv => whnf)
   exact xA rfl trivial
  by_cases h3 : m.wish ≤ (cs[j]).dn
  case neg =>
   rw [decide_eq_false (by omega), Bool.false_and]
   refine qrf Tryz.func81 Tryz.ntmps81 Tryz.results81 ?_; conv => whnf
   repeat ((first | refine qp (xB (xZ (c := (j : Int)) (by omega) (by omega) (by omega)) rfl rfl rfl) ?_ | refine qz ?_ | refine qc (c1) ?_ | refine qdr ?_); conv => whnf)
   exact xA rfl trivial
  rw [decide_eq_true (show 1 ≤ m.wish ∧ m.wish ≤ (cs[j]).dn from ⟨h2, h3⟩), Bool.true_and]
  cases h4 : opB m.op with
  | true =>
   rw [Bool.true_or, Bool.true_and]
   rw [h4] at c2
   refine qrf Tryz.func81 Tryz.ntmps81 Tryz.results81 ?_; conv => whnf
   repeat ((first | refine qp (xB (xZ (c := (j : Int)) (by omega) (by omega) (by omega)) rfl rfl rfl) ?_ | refine qz ?_ | refine qc (c1) ?_ | refine qc (c2) ?_ | refine qc (c4) ?_ | refine qdr ?_); conv => whnf)
   exact xA rfl trivial
  | false =>
   rw [Bool.false_or]
   rw [h4] at c2
   cases h5 : aC4 m.op zop with
   | true =>
    rw [Bool.true_and]
    rw [h5] at c3
    refine qrf Tryz.func81 Tryz.ntmps81 Tryz.results81 ?_; conv => whnf
    repeat ((first | refine qp (xB (xZ (c := (j : Int)) (by omega) (by omega) (by omega)) rfl rfl rfl) ?_ | refine qz ?_ | refine qc (c1) ?_ | refine qc (c2) ?_ | refine qc (c3) ?_ | refine qc (c4) ?_ | refine qdr ?_); conv => whnf)
    exact xA rfl trivial
   | false =>
    rw [Bool.false_and]
    rw [h5] at c3
    refine qrf Tryz.func81 Tryz.ntmps81 Tryz.results81 ?_; conv => whnf
    repeat ((first | refine qp (xB (xZ (c := (j : Int)) (by omega) (by omega) (by omega)) rfl rfl rfl) ?_ | refine qz ?_ | refine qc (c1) ?_ | refine qc (c2) ?_ | refine qc (c3) ?_ | refine qc (c4) ?_ | refine qdr ?_); conv => whnf)
    exact xA rfl trivial
theorem aIi (h5 : cs.length ≤ 5) (hd : ∀ c ∈ cs, 0 ≤ c.dn ∧ c.dn ≤ 6) (hsm : B.store.length ≤ 1048576) (hmm : ms.length ≤ 1048576) (hk : ∀ m ∈ ms, m.ok) : AC Tryz.prog 46 [zf B cs wt ms sp] ⟨.v (.bool (decide ((ms.length : Int) = wK cs) && jI (uf B cs) sp 0 ms)), []⟩ := by
 refine qrf Tryz.func46 Tryz.ntmps46 Tryz.results46 ?_; conv => whnf
 repeat ((refine qz ?_; conv => whnf))
 refine xX (ι := { k : Nat // k ≤ cs.length }) (fun k => ⟨[(1, .optr 2 0 [] 0), (3, .v (.int .i64 (wK (cs.take k.1)))), (4, .v (.int .i64 0)), (10, .lst 9 (cs.map cliA)), (11, .v (.int .i64 (cs.length : Int))), (12, .v (.int .i64 (k.1 : Int)))], [(2, ⟨.s 41, 6, [zf B cs wt ms sp]⟩)]⟩) (fun k => cs.length - k.1) ⟨0, Nat.zero_le _⟩ (by exact qle) ?_
 rintro ⟨k, hkk⟩
 dsimp only
 conv => whnf
 by_cases hlt : k < cs.length
 · have hs := aDF cs k hlt
   have b1 := aDh (cs.take k) (fun c hc => hd c (List.mem_of_mem_take hc))
   rw [List.length_take] at b1
   have b2 := hd _ (List.getElem_mem hlt)
   have b3 : wK (cs.take k) ≤ 30 := by omega
   repeat ((first | refine qp (xB (jf (c := wK (cs.take (k + 1))) (by omega) (by omega) (by omega)) rfl rfl rfl) ?_ | refine qz ?_ | refine qst ?_); conv => whnf)
   exact ⟨⟨k + 1, hlt⟩, by exact qle, by simp; omega⟩
 have hke : k = cs.length := by omega
 subst hke
 rw [List.take_length]
 by_cases hn : (ms.length : Int) = wK cs
 case neg =>
  rw [decide_eq_false hn, Bool.false_and]
  repeat ((refine qz ?_; conv => whnf))
  exact xA rfl trivial
 rw [decide_eq_true hn, Bool.true_and]
 repeat ((refine qz ?_; conv => whnf))
 refine xX (ι := { p : Nat × Int // p.1 ≤ ms.length ∧ jI (uf B cs) sp p.2 (ms.drop p.1) = jI (uf B cs) sp 0 ms }) (fun p => ⟨[(1, .optr 2 0 [] 0), (4, .v (.int .i64 p.1.2)), (27, .lst 13 (ms.map momA)), (28, .v (.int .i64 (ms.length : Int))), (29, .v (.int .i64 (p.1.1 : Int)))], [(2, ⟨.s 41, 6, [zf B cs wt ms sp]⟩)]⟩) (fun p => ms.length - p.1.1) ⟨(0, 0), Nat.zero_le _, rfl⟩ (by exact qle) ?_
 rintro ⟨⟨k, last⟩, hkl, hq⟩
 simp only at hkl hq ⊢
 conv => whnf
 by_cases hlt : k < ms.length
 · have hkm := hk _ (List.getElem_mem hlt)
   have c1 := aJ0 (B := B) (cs := cs) (wt := wt) (ms := ms) (sp := sp) (m := ms[k]) (by omega) hsm hkm
   rw [aF7 hlt] at hq
   by_cases a1 : last < (ms[k]).step
   case neg =>
    rw [decide_eq_false (by omega), Bool.false_and] at hq
    rw [← hq]
    repeat ((first | refine qz ?_ | refine qdr ?_ | refine qst ?_); conv => whnf)
    exact xA rfl trivial
   by_cases a2 : (ms[k]).step ≤ sp
   case neg =>
    rw [decide_eq_false (by omega), Bool.false_and] at hq
    rw [← hq]
    repeat ((first | refine qz ?_ | refine qdr ?_ | refine qst ?_); conv => whnf)
    exact xA rfl trivial
   rw [decide_eq_true (show last < (ms[k]).step ∧ (ms[k]).step ≤ sp from ⟨a1, a2⟩), Bool.true_and] at hq
   cases hb : uf B cs ms[k] with
   | false =>
    rw [hb] at c1 hq
    rw [Bool.false_and] at hq
    rw [← hq]
    repeat ((first | refine qz ?_ | refine qc (c1) ?_ | refine qdr ?_ | refine qst ?_); conv => whnf)
    exact xA rfl trivial
   | true =>
    rw [hb] at c1 hq
    rw [Bool.true_and] at hq
    repeat ((first | refine qz ?_ | refine qc (c1) ?_ | refine qdr ?_ | refine qst ?_); conv => whnf)
    exact ⟨⟨(k + 1, (ms[k]).step), hlt, hq⟩, by exact qle, by simp; omega⟩
 · have hke : k = ms.length := by omega
   subst hke
   rw [List.drop_length, jI] at hq
   rw [← hq]
   repeat ((refine qz ?_; conv => whnf))
   exact xA rfl trivial
theorem aIX (hr : B.refs.length ≤ maxLen) (hwm : wt.length ≤ maxLen) (hw : ∀ w ∈ wt, w.ok maxLen) : AC Tryz.prog 45 [zf B cs wt ms sp] ⟨.v (.bool (aDT B wt)), []⟩ := by
 unfold maxLen at hwm
 unfold aDT
 by_cases h3 : wt.length ≤ 3
 case neg =>
  rw [decide_eq_false h3, Bool.false_and]
  refine qrf Tryz.func45 Tryz.ntmps45 Tryz.results45 ?_; conv => whnf
  repeat ((refine qz ?_; conv => whnf))
  exact xA rfl trivial
 rw [decide_eq_true h3, Bool.true_and]
 refine qrf Tryz.func45 Tryz.ntmps45 Tryz.results45 ?_; conv => whnf
 repeat ((refine qz ?_; conv => whnf))
 refine xX (ι := { k : Nat // k ≤ wt.length ∧ (wt.drop k).all (fun w => wC w && decide (w.seen = wI B.refs w.name)) = wt.all (fun w => wC w && decide (w.seen = wI B.refs w.name)) }) (fun k => ⟨[(1, .optr 2 0 [] 0), (10, .lst 3 (wt.map watA)), (11, .v (.int .i64 (wt.length : Int))), (12, .v (.int .i64 (k.1 : Int)))], [(2, ⟨.s 41, 6, [zf B cs wt ms sp]⟩)]⟩) (fun k => wt.length - k.1) ⟨0, Nat.zero_le _, rfl⟩ (by exact qle) ?_
 rintro ⟨k, hkl, hq⟩
 simp only at hkl hq ⊢
 conv => whnf
 by_cases hlt : k < wt.length
 · have c1 := aJX (hw _ (List.getElem_mem hlt))
   have c2 := aIS (l := B.refs) (x := (wt[k]).name) hr
   rw [List.drop_eq_getElem_cons hlt, List.all_cons] at hq
   cases hb : wC wt[k] with
   | false =>
    rw [hb] at c1 hq
    rw [Bool.false_and, Bool.false_and] at hq
    rw [← hq]
    repeat ((first | refine qz ?_ | refine qc (c1) ?_ | refine qdr ?_ | refine qst ?_); conv => whnf)
    exact xA rfl trivial
   | true =>
    rw [hb] at c1 hq
    rw [Bool.true_and] at hq
    by_cases hv : (wt[k]).seen = wI B.refs (wt[k]).name
    · rw [decide_eq_true hv, Bool.true_and] at hq
      repeat ((first | refine qz ?_ | refine qc (c1) ?_ | refine qc (c2) ?_ | refine qdr ?_ | refine qst ?_); conv => whnf)
      exact ⟨⟨k + 1, hlt, hq⟩, by exact qle, by simp; omega⟩
    · rw [decide_eq_false hv, Bool.false_and] at hq
      rw [← hq]
      repeat ((first | refine qz ?_ | refine qc (c1) ?_ | refine qc (c2) ?_ | refine qdr ?_ | refine qst ?_); conv => whnf)
      exact xA rfl trivial
 · have hke : k = wt.length := by omega
   subst hke
   rw [List.drop_length, List.all_nil] at hq
   rw [← hq]
   repeat ((refine qz ?_; conv => whnf))
   exact xA rfl trivial
theorem aEB {f : Cli → Bool} (hB : B.ok maxLen) (hcm : cs.length ≤ maxLen) (hwm : wt.length ≤ maxLen) (hw : ∀ w ∈ wt, w.ok maxLen) (hsm : B.store.length ≤ 1048576) (hmm : ms.length ≤ 1048576) (hms : ∀ m ∈ ms, m.ok)
 (hf : yx B.store = true → AC Tryz.prog 44 [zf B cs wt ms sp] ⟨.v (.bool (decide (cs.length ≤ 5) && cs.all f)), []⟩) (hj : ∀ c ∈ cs, aA5 c (f c)) :
 AC Tryz.prog 19 [zf B cs wt ms sp] ⟨.v (.bool (aC6 f B cs wt ms sp)), []⟩ := by
 have c1 := aMD hB
 unfold aC6
 cases h1 : aBR B with
 | false =>
  rw [Bool.false_and]
  rw [h1] at c1
  refine qrf Tryz.func19 Tryz.ntmps19 Tryz.results19 ?_; conv => whnf
  repeat ((first | refine qz ?_ | refine qc (c1) ?_ | refine qdr ?_); conv => whnf)
  exact xA rfl trivial
 | true =>
  rw [h1] at c1
  rw [Bool.true_and]
  have hst : yx B.store = true := by unfold aBR at h1; simp only [Bool.and_eq_true] at h1; exact h1.1
  have c2 := hf hst
  by_cases h2 : 0 ≤ sp
  case neg =>
   rw [decide_eq_false (by omega), Bool.false_and]
   refine qrf Tryz.func19 Tryz.ntmps19 Tryz.results19 ?_; conv => whnf
   repeat ((first | refine qz ?_ | refine qc (c1) ?_ | refine qdr ?_); conv => whnf)
   exact xA rfl trivial
  by_cases h3 : sp ≤ 1000000
  case neg =>
   rw [decide_eq_false (by omega), Bool.false_and]
   refine qrf Tryz.func19 Tryz.ntmps19 Tryz.results19 ?_; conv => whnf
   repeat ((first | refine qz ?_ | refine qc (c1) ?_ | refine qdr ?_); conv => whnf)
   exact xA rfl trivial
  rw [decide_eq_true (show 0 ≤ sp ∧ sp ≤ 1000000 from ⟨h2, h3⟩), Bool.true_and, ← Bool.and_assoc]
  cases h4 : (decide (cs.length ≤ 5) && cs.all f) with
  | false =>
   rw [Bool.false_and]
   rw [h4] at c2
   refine qrf Tryz.func19 Tryz.ntmps19 Tryz.results19 ?_; conv => whnf
   repeat ((first | refine qz ?_ | refine qc (c1) ?_ | refine qc (c2) ?_ | refine qdr ?_); conv => whnf)
   exact xA rfl trivial
  | true =>
   rw [Bool.true_and]
   rw [h4] at c2
   simp only [Bool.and_eq_true, decide_eq_true_eq, List.all_eq_true] at h4
   have hd : ∀ c ∈ cs, 0 ≤ c.dn ∧ c.dn ≤ 6 := fun c hc => by obtain ⟨q1, q2, q3⟩ := (hj c hc).2 (h4.2 c hc); omega
   have c3 := aIX (B := B) (cs := cs) (wt := wt) (ms := ms) (sp := sp) hB.rm hwm hw
   have c4 := aIi (B := B) (cs := cs) (wt := wt) (ms := ms) (sp := sp) h4.1 hd hsm hmm hms
   cases h5 : aDT B wt with
   | false =>
    rw [Bool.false_and]
    rw [h5] at c3
    refine qrf Tryz.func19 Tryz.ntmps19 Tryz.results19 ?_; conv => whnf
    repeat ((first | refine qz ?_ | refine qc (c1) ?_ | refine qc (c2) ?_ | refine qc (c3) ?_ | refine qdr ?_); conv => whnf)
    exact xA rfl trivial
   | true =>
    rw [Bool.true_and]
    rw [h5] at c3
    refine qrf Tryz.func19 Tryz.ntmps19 Tryz.results19 ?_; conv => whnf
    repeat ((first | refine qz ?_ | refine qc (c1) ?_ | refine qc (c2) ?_ | refine qc (c3) ?_ | refine qc (c4) ?_ | refine qdr ?_); conv => whnf)
    exact xA rfl trivial
def wN (c : Cli) : Bool := decide (c.dn = (c.ws.length : Int))
theorem aOJ {c : Cli} : AC Tryz.prog 21 [cliA c] ⟨.v (.bool (!wN c)), []⟩ := by
 have h1 := aED (ws := c.ws.map wshA) (mp := c.mp.map xP) (dn := c.dn) (ph := c.ph) (fr := c.fr) (hd := c.hd) (vr := c.vr) (tr := c.tr) (fa := c.fa)
 rw [List.length_map] at h1
 change AC Tryz.prog 22 [cliA c] ⟨.v (.bool (wN c)), []⟩ at h1
 cases hb : wN c <;> rw [hb] at h1
 all_goals
  refine qrf Tryz.func21 Tryz.ntmps21 Tryz.results21 ?_; conv => whnf
  repeat ((first | refine qz ?_ | refine qc (h1) ?_ | refine qdr ?_); conv => whnf)
  exact xA rfl trivial
def uAt : List Cli → Nat → Int
 | [], _ => -1
 | c :: l, k => if wN c = false then (k : Int) else uAt l (k + 1)
theorem aO7 {l : List Cli} {k : Nat} (h : k < l.length) : uAt (l.drop k) k = if wN l[k] = false then (k : Int) else uAt (l.drop (k + 1)) (k + 1) := by
 rw [List.drop_eq_getElem_cons h, uAt]
theorem aKh : ∀ (l : List Cli) (k : Nat), decide (0 ≤ uAt l k) = !l.all wN
 | [], k => by simp [uAt]
 | c :: l, k => by
  unfold uAt
  cases h : wN c with
  | false => simp [h]
  | true => simp [h, aKh l (k + 1)]
theorem aMo : ∀ (l : List Cli) (k : Nat), -1 ≤ uAt l k ∧ uAt l k ≤ k + l.length
 | [], k => by simp only [uAt, List.length_nil]; omega
 | c :: l, k => by
  unfold uAt
  split
  · simp only [List.length_cons]; omega
  · have := aMo l (k + 1)
    simp only [List.length_cons]; omega
theorem aJy {l : List Cli} (hm : l.length ≤ maxLen) : AC Tryz.prog 47 [.lst 9 (l.map cliA), .fn 21 [] []] ⟨.v (.int .i64 (uAt l 0)), []⟩ := by
 unfold maxLen at hm
 refine qrf Tryz.func47 Tryz.ntmps47 Tryz.results47 ?_; conv => whnf
 repeat ((refine qz ?_; conv => whnf))
 refine xX (ι := { k : Nat // k ≤ l.length ∧ uAt (l.drop k) k = uAt l 0 }) (fun k => ⟨[(0, .lst 9 (l.map cliA)), (1, .fn 21 [] []), (7, .v (.int .i64 (l.length : Int))), (8, .v (.int .i64 (k.1 : Int)))], []⟩) (fun k => l.length - k.1) ⟨0, Nat.zero_le _, rfl⟩ (by exact qle) ?_
 rintro ⟨k, hk, hd⟩
 dsimp only at hk hd ⊢
 conv => whnf
 by_cases hlt : k < l.length
 · rw [aO7 hlt] at hd
   have hq := aOJ (c := l[k])
   cases he : wN l[k] with
   | false =>
    rw [he, if_pos rfl] at hd
    rw [he] at hq
    rw [← hd]
    repeat ((first | refine qz ?_ | refine qr (aAz hq rfl rfl (.inl rfl) trivial rfl rfl) ?_); conv => whnf)
    exact xA rfl trivial
   | true =>
    rw [he, if_neg (by simp)] at hd
    rw [he] at hq
    repeat ((first | refine qz ?_ | refine qr (aAz hq rfl rfl (.inl rfl) trivial rfl rfl) ?_); conv => whnf)
    exact ⟨⟨k + 1, hlt, hd⟩, by exact qle, by simp; omega⟩
 · rw [← hd, List.drop_eq_nil_of_le (by omega)]
   repeat ((refine qz ?_; conv => whnf))
   exact xA rfl trivial
theorem aFy {l : List Cli} (hm : l.length ≤ maxLen) : AC Tryz.prog 20 [.lst 9 (l.map cliA), .fn 21 [] []] ⟨.v (.bool (!l.all wN)), []⟩ := by
 have h1 := aJy hm
 have h2 := aKh l 0
 obtain ⟨h3, h4⟩ := aMo l 0
 rw [← h2]
 generalize uAt l 0 = r at h1 h3 h4
 by_cases h : 0 ≤ r
 · rw [decide_eq_true h]
   refine qrf Tryz.func20 Tryz.ntmps20 Tryz.results20 ?_; conv => whnf
   repeat ((first | refine qz ?_ | refine qc (h1) ?_); conv => whnf)
   exact xA rfl trivial
 · rw [decide_eq_false h]
   refine qrf Tryz.func20 Tryz.ntmps20 Tryz.results20 ?_; conv => whnf
   repeat ((first | refine qz ?_ | refine qc (h1) ?_); conv => whnf)
   exact xA rfl trivial
theorem aDv {b : Bool} (hcm : cs.length ≤ maxLen) (hW : AC Tryz.prog 19 [zf B cs wt ms sp] ⟨.v (.bool b), []⟩) : AC Tryz.prog 7 [zf B cs wt ms sp] ⟨.v (.bool (b && cs.all wN)), []⟩ := by
 have c1 := aFy hcm
 cases b with
 | false =>
  rw [Bool.false_and]
  refine qrf Tryz.func7 Tryz.ntmps7 Tryz.results7 ?_; conv => whnf
  repeat ((first | refine qz ?_ | refine qc (hW) ?_ | refine qdr ?_); conv => whnf)
  exact xA rfl trivial
 | true =>
  rw [Bool.true_and]
  cases hb : cs.all wN <;> rw [hb] at c1
  all_goals
   refine qrf Tryz.func7 Tryz.ntmps7 Tryz.results7 ?_; conv => whnf
   repeat ((first | refine qz ?_ | refine qc (hW) ?_ | refine qc (c1) ?_ | refine qdr ?_); conv => whnf)
   exact xA rfl trivial
end
end Go.Proofs.YtkfllfhcjegfoaaGreatDoor.AM
