/- Texts of the machine over data, folded. -/
import Derived.Test.YtkfllfhcjegfoaaGreatDoorKq6
import Derived.Test.YtkfllfhcjegfoaaGreatDoorKq26
import Derived.Test.YtkfllfhcjegfoaaGreatDoorKq27
import Derived.Test.YtkfllfhcjegfoaaGreatDoorKq28
import Derived.Test.YtkfllfhcjegfoaaGreatDoorKq29
import Derived.Test.YtkfllfhcjegfoaaGreatDoorKq32
import Derived.Test.YtkfllfhcjegfoaaGreatDoorKq33
set_option linter.unusedVariables false
set_option linter.unusedSimpArgs false
set_option maxRecDepth 100000
namespace Go.Proofs.YtkfllfhcjegfoaaGreatDoor.AM
open Go Go.RowKit
attribute [local irreducible] xM xN xW yF yL Pre ACG
section
variable {B : Bas} {cs : List Cli} {wt : List Wat} {ms : List Mom} {sp : Int}
theorem aI3 {m : Mom} (hm : cs.length ≤ 1048576) (hsm : B.store.length ≤ 1048576) (hk : m.ok) : AC Tryz.prog 37 [zf B cs wt ms sp, momA m] ⟨.v (.bool (uf B cs m && decide (1 ≤ m.step ∧ m.step ≤ sp))), []⟩ := by
 by_cases h1 : 1 ≤ m.client ∧ m.client ≤ (cs.length : Int)
 case neg => exact aQM hm hsm hk h1
 obtain ⟨j, hj⟩ : ∃ j : Nat, m.client = (j : Int) + 1 := ⟨(m.client - 1).toNat, by omega⟩
 have hjl : j < cs.length := by omega
 by_cases h2 : 1 ≤ m.wish ∧ m.wish ≤ (cs[j]).dn
 case neg => exact aQx hm hsm hk hj hjl h1 h2
 by_cases h3 : 1 ≤ m.step ∧ m.step ≤ sp
 case neg => exact aQR hm hsm hk hj hjl h1 h2 h3
 cases hop : opB m.op with
 | true => exact aRN hm hsm hk hj hjl h1 h2 h3 hop
 | false =>
  cases hz : aC4 m.op zop with
  | false => exact aRU hm hsm hk hj hjl h1 h2 h3 hop hz
  | true => exact aRR hm hsm hk hj hjl h1 h2 h3 hz
set_option maxHeartbeats 16000000 in
theorem aIc {f : Cli → Bool} (hB : B.ok maxLen) (hcm : cs.length ≤ maxLen) (hwm : wt.length ≤ maxLen) (hw : ∀ w ∈ wt, w.ok maxLen) (hsm : B.store.length ≤ 1048576) (hmm : ms.length ≤ 1048576) (hms : ∀ m ∈ ms, m.ok)
 (hf : yx B.store = true → ∀ c ∈ cs, AC Tryz.prog 34 [uh B, cliA c] ⟨.v (.bool (f c)), []⟩) (hj : ∀ c ∈ cs, aA5 c (f c)) :
 AC Tryz.prog 13 [zf B cs wt ms sp] ⟨.v (.bool (aC6 f B cs wt ms sp)), []⟩ := by
 have hcm' := hcm
 have hwm' := hwm
 unfold maxLen at hcm' hwm'
 have c1 := aOb hB
 unfold aC6
 cases h1 : aBR B with
 | false =>
  rw [Bool.false_and]
  rw [h1] at c1
  as_aux_lemma =>
   refine qrf Tryz.func13 Tryz.ntmps13 Tryz.results13 ?_; conv => whnf
   repeat ((first | refine qz ?_ | refine qc (c1) ?_ | refine qdr ?_); conv => whnf)
   exact xA rfl trivial
 | true =>
 rw [h1] at c1
 rw [Bool.true_and]
 have hst : yx B.store = true := by unfold aBR at h1; simp only [Bool.and_eq_true] at h1; exact h1.1
 have c2 := hf hst
 by_cases h5 : cs.length ≤ 5
 case neg =>
  rw [decide_eq_false h5, Bool.false_and, Bool.and_false]
  as_aux_lemma =>
   refine qrf Tryz.func13 Tryz.ntmps13 Tryz.results13 ?_; conv => whnf
   repeat ((first | refine qz ?_ | refine qc (c1) ?_ | refine qdr ?_); conv => whnf)
   exact xA rfl trivial
 rw [decide_eq_true h5, Bool.true_and]
 by_cases h3 : wt.length ≤ 3
 case neg =>
  rw [show aDT B wt = false by unfold aDT; rw [decide_eq_false h3, Bool.false_and], Bool.false_and, Bool.and_false, Bool.and_false]
  as_aux_lemma =>
   refine qrf Tryz.func13 Tryz.ntmps13 Tryz.results13 ?_; conv => whnf
   repeat ((first | refine qz ?_ | refine qc (c1) ?_ | refine qdr ?_); conv => whnf)
   exact xA rfl trivial
 rw [show aDT B wt = wt.all (fun w => wC w && decide (w.seen = wI B.refs w.name)) by unfold aDT; rw [decide_eq_true h3, Bool.true_and]]
 by_cases h2 : 0 ≤ sp ∧ sp ≤ 1000000
 case neg =>
  rw [decide_eq_false h2, Bool.false_and]
  as_aux_lemma =>
   refine qrf Tryz.func13 Tryz.ntmps13 Tryz.results13 ?_; conv => whnf
   repeat ((first | refine qz ?_ | refine qc (c1) ?_ | refine qc (y9 h2) ?_ | refine qdr ?_); conv => whnf)
   exact xA rfl trivial
 rw [decide_eq_true h2, Bool.true_and]
 refine qO Tryz.func13 Tryz.ntmps13 Tryz.results13 ?_
 refine vZ ?_
 refine xI _ _ _ ?_
 conv => whnf
 refine jc (ι := Unit) (fun _ => ⟨[(1, .optr 2 0 [] 0)], [(2, ⟨.s 41, 6, [zf B cs wt ms sp]⟩)], []⟩) ?_ (fun _ => ?_)
 · refine xI _ _ _ ?_
   conv => whnf
   repeat ((first | refine qz ?_ | refine qc (c1) ?_ | refine qc (xC h2.1 h2.2) ?_ | refine qdr ?_); conv => whnf)
   exact ⟨(), ⟨by exact qle, trivial⟩⟩
 clear c1
 have ndj : ∀ c ∈ cs, f c = true → 0 ≤ c.dn ∧ c.dn ≤ 6 := fun c hc h => by obtain ⟨q1, q2, q3⟩ := (hj c hc).2 h; omega
 refine xI _ _ _ ?_
 conv => whnf
 repeat ((refine qz ?_; conv => whnf))
 refine xX (ι := { k : Nat // k ≤ cs.length ∧ ∀ c ∈ cs.take k, f c = true }) (fun k => ⟨[(1, .optr 2 0 [] 0), (3, .v (.int .i64 (wK (cs.take k.1)))), (4, .v (.int .i64 (k.1 : Int)))], [(2, ⟨.s 41, 6, [zf B cs wt ms sp]⟩)]⟩) (fun k => cs.length - k.1) ⟨0, Nat.zero_le _, fun c h => by cases h⟩ (by exact qle) ?_
 rintro ⟨k, hkk, hall⟩
 simp only at hkk hall ⊢
 conv => whnf
 by_cases hlt : k < cs.length
 · have hmem := List.getElem_mem hlt
   have c3 := c2 _ hmem
   have hs := aDF cs k hlt
   have b1 := aDh (cs.take k) (fun c hc => ndj c (List.mem_of_mem_take hc) (hall c hc))
   rw [List.length_take] at b1
   have b3 : wK (cs.take k) ≤ 30 := by omega
   cases hb : f cs[k] with
   | false =>
    rw [show cs.all f = false from by rw [List.all_eq_false]; exact ⟨_, hmem, by simp [hb]⟩, Bool.false_and]
    rw [hb] at c3
    as_aux_lemma =>
     repeat ((first | refine qz ?_ | refine qc (c3) ?_ | refine qdr ?_); conv => whnf)
     exact xA rfl trivial
   | true =>
    have b2 := ndj _ hmem hb
    rw [hb] at c3
    repeat ((first | refine qp (xB (jf (c := wK (cs.take (k + 1))) (by omega) (by omega) (by omega)) rfl rfl rfl) ?_ | refine qz ?_ | refine qc (c3) ?_ | refine qdr ?_); conv => whnf)
    exact ⟨⟨k + 1, hlt, fun c hc => by
     rw [List.take_succ_eq_append_getElem hlt] at hc
     rcases List.mem_append.1 hc with h | h
     · exact hall c h
     · rw [List.mem_singleton.1 h]; exact hb⟩, by exact qle, by simp; omega⟩
 have hke : k = cs.length := by omega
 subst hke
 rw [List.take_length] at hall
 rw [List.take_length, show cs.all f = true from List.all_eq_true.2 hall, Bool.true_and]
 have be := aDh cs (fun c hc => ndj c hc (hall c hc))
 repeat ((refine qz ?_; conv => whnf))
 refine xX (ι := { k : Nat // k ≤ wt.length ∧ (wt.drop k).all (fun w => wC w && decide (w.seen = wI B.refs w.name)) = wt.all (fun w => wC w && decide (w.seen = wI B.refs w.name)) }) (fun k => ⟨[(1, .optr 2 0 [] 0), (3, .v (.int .i64 (wK cs))), (5, .v (.int .i64 (k.1 : Int)))], [(2, ⟨.s 41, 6, [zf B cs wt ms sp]⟩)]⟩) (fun k => wt.length - k.1) ⟨0, Nat.zero_le _, rfl⟩ (by exact qle) ?_
 rintro ⟨k, hkl, hq⟩
 simp only at hkl hq ⊢
 conv => whnf
 by_cases hlt : k < wt.length
 · have c1 := aOU (hw _ (List.getElem_mem hlt))
   have c4 := aL9 (l := B.refs) (x := (wt[k]).name) hB.rm
   have cF := aR1 (P := Tryz.prog) (Θ := Th) (f := 1) (xs := [.v (.string (wt[k]).name), .v (.int .i64 (wI B.refs (wt[k]).name)), .lst 3 []]) aDY Tryz.underlying88 rfl rfl rfl rfl rfl rfl rfl rfl
   rw [List.drop_eq_getElem_cons hlt, List.all_cons] at hq
   cases hb : wC wt[k] with
   | false =>
    rw [hb] at c1 hq
    rw [Bool.false_and, Bool.false_and] at hq
    rw [← hq, Bool.false_and]
    as_aux_lemma =>
     repeat ((first | refine qz ?_ | refine qc (c1) ?_ | refine qdr ?_ | refine qst ?_); conv => whnf)
     exact xA rfl trivial
   | true =>
    rw [hb] at c1 hq
    rw [Bool.true_and] at hq
    by_cases hv : (wt[k]).seen = wI B.refs (wt[k]).name
    · rw [decide_eq_true hv, Bool.true_and] at hq
      have hv' := hv.symm
      repeat ((first | refine qz ?_ | refine qc (c1) ?_ | refine qc (c4) ?_ | refine qp (aHp cF rfl rfl) ?_ | refine qdr ?_ | refine qst ?_ | refine qp (xB (kT hv') rfl rfl rfl) ?_); conv => whnf)
      exact ⟨⟨k + 1, hlt, hq⟩, by exact qle, by simp; omega⟩
    · rw [decide_eq_false hv, Bool.false_and] at hq
      rw [← hq, Bool.false_and]
      have hv' : wI B.refs (wt[k]).name ≠ (wt[k]).seen := fun e => hv e.symm
      as_aux_lemma =>
       repeat ((first | refine qz ?_ | refine qc (c1) ?_ | refine qc (c4) ?_ | refine qp (aHp cF rfl rfl) ?_ | refine qdr ?_ | refine qst ?_ | refine qp (xB (aFa hv') rfl rfl rfl) ?_); conv => whnf)
       exact xA rfl trivial
 have hke : k = wt.length := by omega
 subst hke
 rw [List.drop_length, List.all_nil] at hq
 rw [← hq, Bool.true_and]
 by_cases hn : (ms.length : Int) = wK cs
 case neg =>
  rw [decide_eq_false hn, Bool.false_and]
  repeat ((refine qz ?_; conv => whnf))
  exact xA rfl trivial
 rw [decide_eq_true hn, Bool.true_and]
 repeat ((refine qz ?_; conv => whnf))
 refine xX (ι := { p : Nat × Int // p.1 ≤ ms.length ∧ 0 ≤ p.2 ∧ (p.1 = 0 → p.2 = 0) ∧ (∀ i, (hi : i < ms.length) → p.1 = i + 1 → p.2 = (ms[i]).step) ∧ jI (uf B cs) sp p.2 (ms.drop p.1) = jI (uf B cs) sp 0 ms }) (fun p => ⟨[(1, .optr 2 0 [] 0), (7, .v (.int .i64 (p.1.1 : Int)))], [(2, ⟨.s 41, 6, [zf B cs wt ms sp]⟩)]⟩) (fun p => ms.length - p.1.1) ⟨(0, 0), Nat.zero_le _, Int.le_refl _, fun _ => rfl, fun i hi e => by simp at e, rfl⟩ (by exact qle) ?_
 rintro ⟨⟨k, last⟩, hkl, h0l, hz, hi, hq⟩
 simp only at hkl h0l hz hi hq ⊢
 conv => whnf
 by_cases hlt : k < ms.length
 · have hkm := hms _ (List.getElem_mem hlt)
   have c1 := aI3 (B := B) (cs := cs) (wt := wt) (ms := ms) (sp := sp) (m := ms[k]) (by omega) hsm hkm
   rw [aF7 hlt] at hq
   have nxt : ∀ i, (hi : i < ms.length) → k + 1 = i + 1 → (ms[k]).step = (ms[i]).step := fun i hi e => by
    have : i = k := by omega
    subst this; rfl
   cases hb : (uf B cs ms[k] && decide (1 ≤ (ms[k]).step ∧ (ms[k]).step ≤ sp)) with
   | false =>
    rw [hb] at c1
    have e0 : (decide (last < (ms[k]).step ∧ (ms[k]).step ≤ sp) && (uf B cs ms[k] && jI (uf B cs) sp (ms[k]).step (ms.drop (k + 1)))) = false := by
     cases hmb : uf B cs ms[k] with
     | false => simp
     | true =>
      rw [hmb, Bool.true_and] at hb
      rw [decide_eq_false (by have := of_decide_eq_false hb; omega), Bool.false_and]
    rw [e0] at hq
    rw [← hq]
    as_aux_lemma =>
     repeat ((first | refine qz ?_ | refine qc (c1) ?_ | refine qdr ?_); conv => whnf)
     exact xA rfl trivial
   | true =>
    rw [hb] at c1
    simp only [Bool.and_eq_true, decide_eq_true_eq] at hb
    obtain ⟨hmb, s1, s2⟩ := hb
    rw [hmb, Bool.true_and] at hq
    obtain ⟨sk, hsk⟩ : ∃ sk, (ms[k]).step = sk := ⟨_, rfl⟩
    rcases Nat.eq_zero_or_pos k with k0 | k0
    · have hl0 := hz k0
      rw [decide_eq_true (show last < (ms[k]).step ∧ (ms[k]).step ≤ sp by omega), Bool.true_and] at hq
      repeat ((first | refine qz ?_ | refine qc (c1) ?_ | refine qdr ?_); conv => whnf)
      exact ⟨⟨(k + 1, (ms[k]).step), hlt, by show 0 ≤ (ms[k]).step; omega, fun e => by simp at e, nxt, hq⟩, by exact qle, by simp; omega⟩
    · obtain ⟨k', rfl⟩ : ∃ k', k = k' + 1 := ⟨k - 1, by omega⟩
      have hlt' : k' < ms.length := by omega
      have hll := hi k' hlt' rfl
      by_cases hlk : last < (ms[k' + 1]).step
      · rw [decide_eq_true (show last < (ms[k' + 1]).step ∧ (ms[k' + 1]).step ≤ sp from ⟨hlk, s2⟩), Bool.true_and] at hq
        repeat ((first | refine qp (xB (xZ (c := (k' : Int)) (by omega) (by omega) (by omega)) rfl rfl rfl) ?_ | refine qp (xk (jh _ hlt) rfl rfl rfl) ?_ | refine qz ?_ | refine qc (c1) ?_ | refine qdr ?_); conv => whnf)
        exact ⟨⟨(k' + 1 + 1, (ms[k' + 1]).step), hlt, by show 0 ≤ (ms[k' + 1]).step; omega, fun e => by simp at e, nxt, hq⟩, by exact qle, by simp; omega⟩
      · rw [decide_eq_false (by omega), Bool.false_and] at hq
        rw [← hq]
        as_aux_lemma =>
         repeat ((first | refine qp (xB (xZ (c := (k' : Int)) (by omega) (by omega) (by omega)) rfl rfl rfl) ?_ | refine qp (xk (jh _ hlt) rfl rfl rfl) ?_ | refine qz ?_ | refine qc (c1) ?_ | refine qdr ?_); conv => whnf)
         exact xA rfl trivial
 · have hke : k = ms.length := by omega
   subst hke
   rw [List.drop_length, jI] at hq
   rw [← hq]
   repeat ((refine qz ?_; conv => whnf))
   exact xA rfl trivial
theorem aKz {c : Cli} (h : c.ws.length ≤ maxLen) : AC Tryz.prog 14 [cliA c] ⟨.v (.bool (wN c)), []⟩ := by
 unfold maxLen at h
 unfold wN
 by_cases h1 : c.dn = (c.ws.length : Int)
 · rw [decide_eq_true h1]
   refine qrf Tryz.func14 Tryz.ntmps14 Tryz.results14 ?_; conv => whnf
   repeat ((refine qz ?_; conv => whnf))
   exact xA rfl trivial
 · rw [decide_eq_false h1]
   refine qrf Tryz.func14 Tryz.ntmps14 Tryz.results14 ?_; conv => whnf
   repeat ((refine qz ?_; conv => whnf))
   exact xA rfl trivial
theorem aEM {b : Bool} (hcm : cs.length ≤ maxLen) (hc : ∀ c ∈ cs, c.ws.length ≤ maxLen) (hW : AC Tryz.prog 13 [zf B cs wt ms sp] ⟨.v (.bool b), []⟩) : AC Tryz.prog 5 [zf B cs wt ms sp] ⟨.v (.bool (b && cs.all wN)), []⟩ := by
 unfold maxLen at hcm
 cases b with
 | false =>
  rw [Bool.false_and]
  refine qrf Tryz.func5 Tryz.ntmps5 Tryz.results5 ?_; conv => whnf
  repeat ((first | refine qz ?_ | refine qc (hW) ?_); conv => whnf)
  exact xA rfl trivial
 | true =>
  rw [Bool.true_and]
  refine qrf Tryz.func5 Tryz.ntmps5 Tryz.results5 ?_; conv => whnf
  repeat ((first | refine qz ?_ | refine qc (hW) ?_); conv => whnf)
  refine xX (ι := { k : Nat // k ≤ cs.length ∧ (cs.drop k).all wN = cs.all wN }) (fun k => ⟨[(1, .optr 2 0 [] 0), (3, .v (.int .i64 (k.1 : Int)))], [(2, ⟨.s 41, 6, [zf B cs wt ms sp]⟩)]⟩) (fun k => cs.length - k.1) ⟨0, Nat.zero_le _, rfl⟩ (by exact qle) ?_
  rintro ⟨k, hkl, hq⟩
  simp only at hkl hq ⊢
  conv => whnf
  by_cases hlt : k < cs.length
  · have c1 := aKz (hc _ (List.getElem_mem hlt))
    rw [List.drop_eq_getElem_cons hlt, List.all_cons] at hq
    cases hb : wN cs[k] with
    | false =>
     rw [hb] at c1 hq
     rw [Bool.false_and] at hq
     rw [← hq]
     repeat ((first | refine qz ?_ | refine qc (c1) ?_ | refine qdr ?_); conv => whnf)
     exact xA rfl trivial
    | true =>
     rw [hb] at c1 hq
     rw [Bool.true_and] at hq
     repeat ((first | refine qz ?_ | refine qc (c1) ?_ | refine qdr ?_); conv => whnf)
     exact ⟨⟨k + 1, hlt, hq⟩, by exact qle, by simp; omega⟩
  · have hke : k = cs.length := by omega
    subst hke
    rw [List.drop_length, List.all_nil] at hq
    rw [← hq]
    repeat ((refine qz ?_; conv => whnf))
    exact xA rfl trivial
theorem aOG {f g : Cli → Bool} (hf : ∀ c ∈ cs, aA5 c (f c)) (hg : ∀ c ∈ cs, aA5 c (g c)) : (aC6 f B cs wt ms sp && cs.all wN) = (aC6 g B cs wt ms sp && cs.all wN) := by
 cases h : cs.all wN with
 | false => simp
 | true =>
  have e : cs.all f = cs.all g := by
   have : ∀ c ∈ cs, f c = g c := fun c hc => by
    have hd : c.dn = (c.ws.length : Int) := of_decide_eq_true (List.all_eq_true.1 h c hc)
    rw [(hf c hc).1 hd, (hg c hc).1 hd]
   clear hf hg h
   induction cs with
   | nil => rfl
   | cons c cs ih => simp only [List.all_cons]; rw [this c (by simp), ih (fun c hc => this c (by simp [hc]))]
  unfold aC6
  rw [e]
theorem law_AllDone (hB : B.ok maxLen) (hcm : cs.length ≤ maxLen) (hc : ∀ c ∈ cs, c.ok) (hwm : wt.length ≤ maxLen) (hw : ∀ w ∈ wt, w.ok maxLen) (hmm : ms.length ≤ maxLen) (hms : ∀ m ∈ ms, m.ok) :
 AC Tryz.prog 3 [zf B cs wt ms sp] ⟨.v (.bool true), []⟩ := by
 refine aHf hB hcm hc hwm hw hmm hms (fun y1 y2 y3 y4 => ?_)
 classical
 by_cases hst : yx B.store = true
 · have hI := fun c (h : c ∈ cs) => aGB (st := B.store) (c := c) hst hB.sc (hc c h).1 (hc c h).2.1 (hc c h).2.2.1
   have hS := fun c (h : c ∈ cs) => aM0 (B := B) (c := c) hst (hc c h).1 (hc c h).2.1 (hc c h).2.2.1
   obtain ⟨f, hf, hcf⟩ := aIR (st := B.store.map yI) (rf := B.refs.map zH) (wt := wt.map watA) (ms := ms.map momA) (sp := sp) (Q := aA5) hcm hI
   have hg : ∃ g : Cli → Bool, ∀ c ∈ cs, AC Tryz.prog 34 [uh B, cliA c] ⟨.v (.bool (g c)), []⟩ ∧ aA5 c (g c) :=
    ⟨fun c => if h : c ∈ cs then Classical.choose (hS c h) else false, fun c h => by simp only [dif_pos h]; exact Classical.choose_spec (hS c h)⟩
   obtain ⟨g, hg⟩ := hg
   refine ⟨_, ?_, aDv (B := B) (wt := wt) (ms := ms) (sp := sp) hcm (aEB hB hcm hwm hw y1.1 y4.1 hms (fun _ => hcf) hf)⟩
   rw [aOG hf (fun c h => (hg c h).2)]
   exact aEM hcm (fun c h => (hc c h).1) (aIc hB hcm hwm hw y1.1 y4.1 hms (fun _ c h => (hg c h).1) (fun c h => (hg c h).2))
 · have hb : ∀ f, aC6 f B cs wt ms sp = false := fun f => by
    have : aBR B = false := by unfold aBR; rw [Bool.eq_false_iff.2 hst, Bool.false_and]
    unfold aC6; rw [this, Bool.false_and]
   have hi := aDv (B := B) (wt := wt) (ms := ms) (sp := sp) hcm (aEB (f := aHy) hB hcm hwm hw y1.1 y4.1 hms (fun h => absurd h hst) (fun c _ => aKV c))
   have hs := aEM (B := B) (wt := wt) (ms := ms) (sp := sp) hcm (fun c h => (hc c h).1) (aIc (f := aHy) hB hcm hwm hw y1.1 y4.1 hms (fun h => absurd h hst) (fun c _ => aKV c))
   exact ⟨_, hs, hi⟩
end
end Go.Proofs.YtkfllfhcjegfoaaGreatDoor.AM
