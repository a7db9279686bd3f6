/- Texts of the machine over data, folded. -/
import Derived.Test.YtkfllfhcjegfoaaGreatDoorKq6
import Derived.Test.YtkfllfhcjegfoaaGreatDoorKq23
import Derived.Test.YtkfllfhcjegfoaaGreatDoorKq10
set_option linter.unusedVariables false
set_option linter.unusedSimpArgs false
set_option maxRecDepth 100000
namespace Go.Proofs.YtkfllfhcjegfoaaGreatDoor.AM
open Go Go.RowKit
def aOX : AV → Prop
 | .v _ | .agg _ | .lst _ _ | .any => True
 | _ => False
section
variable {s : St} {Θ : Tab}
theorem aJG {x : AV} (hd : aOX x) : aAP s [] x x := by
 cases x <;> first | exact .inl ⟨rfl, rfl⟩ | exact hd.elim
theorem aPF {a t l : Nat} {ob : OB} {x : AV} (h1 : s.sl a = .optr l 0 [] 0) (ho : s.hp l = some ob) (hx : ob.xs[0]? = some x) (hk : ((Θ.look t).known && (Bool.xor (zn x) (Θ.look t).isAgg).not && Nat.beq (asz x) (Θ.look t).size) = true) (hop : ob.e.open_ = true) : rvA s (.cell a t) = x ∧ aL3 Θ s (.cell a t) := by
 have hr : rvA s (.cell a t) = x := by
  simp only [rvA, h1, ho, hop, hx, cond_true, Option.getD_some]
 simp only [Bool.and_eq_true] at hk
 exact ⟨hr, hk.1.1, by rw [hr]; exact xor_not hk.1.2, by rw [hr]; exact Nat.eq_of_beq_eq_true hk.2, .inl ⟨l, ob, x, h1, ho, .inl ⟨hop, hx⟩⟩⟩
theorem aL8 {t1 a t l : Nat} {ob : OB} {x y : AV} (hy : aAP s [] (s.sl t1) y) (h1 : s.sl a = .optr l 0 [] 0) (ho : s.hp l = some ob) (hx : ob.xs[0]? = some x) (hk : ((Θ.look t).known && (Bool.xor (zn x) (Θ.look t).isAgg).not && Nat.beq (asz x) (Θ.look t).size) = true) (hd : aOX x) (hop : ob.e.open_ = true := by rfl) :
 vU Θ [.tmp t1, .cell a t] ⟨.tup [y, x], []⟩ .ret s := by
 obtain ⟨c1, c2⟩ := aPF (Θ := Θ) h1 ho hx hk hop
 exact ⟨trivial, [], by simp, trivial, ⟨trivial, c2, trivial⟩, ⟨_, rfl⟩, ⟨hy, by rw [c1]; exact aJG hd, trivial⟩⟩
theorem aDb {t1 t2 a t l : Nat} {ob : OB} {x y z : AV} (hy : aAP s [] (s.sl t1) y) (hz : aAP s [] (s.sl t2) z) (h1 : s.sl a = .optr l 0 [] 0) (ho : s.hp l = some ob) (hx : ob.xs[0]? = some x) (hk : ((Θ.look t).known && (Bool.xor (zn x) (Θ.look t).isAgg).not && Nat.beq (asz x) (Θ.look t).size) = true) (hd : aOX x) (hop : ob.e.open_ = true := by rfl) :
 vU Θ [.tmp t1, .tmp t2, .cell a t] ⟨.tup [y, z, x], []⟩ .ret s := by
 obtain ⟨c1, c2⟩ := aPF (Θ := Θ) h1 ho hx hk hop
 exact ⟨trivial, [], by simp, trivial, ⟨trivial, trivial, c2, trivial⟩, ⟨_, rfl⟩, ⟨hy, hz, by rw [c1]; exact aJG hd, trivial⟩⟩
end
abbrev qY (c : Int) (ks : AV) : AV := .agg [.v (.int .i64 c), zI, zI, ks, .lst 2 []]
attribute [local irreducible] xM xN xW yF yL Pre ACG
theorem aEA {c : Int} : AC Tryz.prog 149 [.v (.int .i64 c), aAm] ⟨qY c aAm, []⟩ := by
 refine qrf Tryz.func149 Tryz.ntmps149 Tryz.results149 ?_; conv => whnf
 repeat ((first | refine qz ?_ | refine qst ?_); conv => whnf)
 exact uX (x := qY c aAm) rfl rfl rfl rfl trivial
theorem aA3 {c : Int} {ks : List AV} : AC Tryz.prog 149 [.v (.int .i64 c), .lst 1 ks] ⟨qY c (.lst 1 ks), []⟩ := by
 refine qrf Tryz.func149 Tryz.ntmps149 Tryz.results149 ?_; conv => whnf
 repeat ((first | refine qz ?_ | refine qst ?_); conv => whnf)
 exact uX (x := qY c (.lst 1 ks)) rfl rfl rfl rfl trivial
section
variable {st : List Cmt} {f h b : Nat} {es : List Edt}
theorem aJ9 (hb : yx st = true) (hf : f < st.length) (hh : h < st.length) (he : es.length ≤ 6) (hl : ¬ (yT (st[f]).2 es).length ≤ 12) :
 AC Tryz.prog 128 [.lst 2 (st.map yI), .v (.int .i64 ((f : Int) + 1)), .v (.int .i64 ((h : Int) + 1)), .lst 3 (es.map xg)] ⟨.tup [.lst 2 (([] : List Ent).map xP), qY 7 aAm], []⟩ := by
 obtain ⟨_, hl6⟩ := vX hb
 have mf := AM.mapOK_le (jK hb hf)
 have lap := wm (st[f]).2 es
 have h1 := aBk (es := (st[f]).2) (xs := es) (by omega)
 have h2 := aEA (c := 7)
 refine qrf Tryz.func128 Tryz.ntmps128 Tryz.results128 ?_; conv => whnf
 repeat ((first | refine qp (xB (xZ (c := (f : Int)) (by omega) (by omega) (by omega)) rfl rfl rfl) ?_ | refine qz ?_ | refine qc (h1) ?_ | refine qc (h2) ?_ | refine qst ?_ | refine qdr ?_); conv => whnf)
 exact aL8 (aDB rfl rfl) rfl rfl rfl rfl trivial
set_option maxHeartbeats 2000000 in
theorem aJe (hb : yx st = true) (hf : f < st.length) (hh : h < st.length) (he : es.length ≤ 6) (hl : (yT (st[f]).2 es).length ≤ 12) :
 ∃ (m : List Ent) (c : Int) (ks : List AV), m.length ≤ maxLen ∧ AC Tryz.prog 128 [.lst 2 (st.map yI), .v (.int .i64 ((f : Int) + 1)), .v (.int .i64 ((h : Int) + 1)), .lst 3 (es.map xg)] ⟨.tup [.lst 2 (m.map xP), qY c (.lst 1 ks)], []⟩ := by
 obtain ⟨_, hl6⟩ := vX hb
 have mf := AM.mapOK_le (jK hb hf)
 have mh := AM.mapOK_le (jK hb hh)
 have h1 := aBk (es := (st[f]).2) (xs := es) (by omega)
 have h2 := aEH (base := (st[f]).2) (a := yT (st[f]).2 es) (b := (st[h]).2) (by omega) (by omega) (by omega)
 have g1 := aDu (st[f]).2 (yT (st[f]).2 es) (st[h]).2
 have g2 := aBt (st[f]).2 (yT (st[f]).2 es) (st[h]).2
 have h3 := aEv (m := jD (st[f]).2 (yT (st[f]).2 es) (st[h]).2) (c := kY (st[f]).2 (yT (st[f]).2 es) (st[h]).2) (by omega) (by omega)
 have hbd := aE4 (jD (st[f]).2 (yT (st[f]).2 es) (st[h]).2) (c := kY (st[f]).2 (yT (st[f]).2 es) (st[h]).2) (by omega)
 generalize kP (jD (st[f]).2 (yT (st[f]).2 es) (st[h]).2) (kY (st[f]).2 (yT (st[f]).2 es) (st[h]).2) = r at h3 hbd
 by_cases hc : r.2.2 = 0
 · have h4 := aEb (es := r.1) (es' := (st[h]).2) (by unfold maxLen; omega) (by unfold maxLen; omega)
   cases hq : decide (r.1 = (st[h]).2) with
   | true =>
    rw [hq] at h4
    refine ⟨r.1, 18, r.2.1.map strA, by unfold maxLen; omega, ?_⟩
    have h5 := aA3 (c := 18) (ks := r.2.1.map strA)
    refine qrf Tryz.func128 Tryz.ntmps128 Tryz.results128 ?_; conv => whnf
    repeat ((first | refine qp (xB (xZ (c := (f : Int)) (by omega) (by omega) (by omega)) rfl rfl rfl) ?_ | refine qp (xB (xZ (c := (h : Int)) (by omega) (by omega) (by omega)) rfl rfl rfl) ?_ | refine qz ?_ | refine qc (h1) ?_ | refine qc (h2) ?_ | refine qf (h3) ?_ | refine qc (h4) ?_ | refine qc (h5) ?_ | refine qst ?_ | refine qdr ?_); conv => whnf)
    exact aL8 (.inl ⟨rfl, rfl⟩) rfl rfl rfl rfl trivial
   | false =>
    rw [hq] at h4
    refine ⟨r.1, r.2.2, r.2.1.map strA, by unfold maxLen; omega, ?_⟩
    have h5 := aA3 (c := r.2.2) (ks := r.2.1.map strA)
    refine qrf Tryz.func128 Tryz.ntmps128 Tryz.results128 ?_; conv => whnf
    repeat ((first | refine qp (xB (xZ (c := (f : Int)) (by omega) (by omega) (by omega)) rfl rfl rfl) ?_ | refine qp (xB (xZ (c := (h : Int)) (by omega) (by omega) (by omega)) rfl rfl rfl) ?_ | refine qz ?_ | refine qc (h1) ?_ | refine qc (h2) ?_ | refine qf (h3) ?_ | refine qc (h4) ?_ | refine qc (h5) ?_ | refine qst ?_ | refine qdr ?_); conv => whnf)
    exact aL8 (.inl ⟨rfl, rfl⟩) rfl rfl rfl rfl trivial
 · refine ⟨r.1, r.2.2, r.2.1.map strA, by unfold maxLen; omega, ?_⟩
   have h5 := aA3 (c := r.2.2) (ks := r.2.1.map strA)
   refine qrf Tryz.func128 Tryz.ntmps128 Tryz.results128 ?_; conv => whnf
   repeat ((first | refine qp (xB (xZ (c := (f : Int)) (by omega) (by omega) (by omega)) rfl rfl rfl) ?_ | refine qp (xB (xZ (c := (h : Int)) (by omega) (by omega) (by omega)) rfl rfl rfl) ?_ | refine qz ?_ | refine qc (h1) ?_ | refine qc (h2) ?_ | refine qf (h3) ?_ | refine qc (h5) ?_ | refine qst ?_ | refine qdr ?_); conv => whnf)
   exact aL8 (.inl ⟨rfl, rfl⟩) rfl rfl rfl rfl trivial
theorem aJg (hb : yx st = true) (hf : f < st.length) (hh : h < st.length) :
 ∃ (fast : Bool) (m : List Ent) (c : Int) (ks : AV), m.length ≤ maxLen ∧ (ks = aAm ∨ ∃ l, ks = .lst 1 l) ∧ AC Tryz.prog 127 [.lst 2 (st.map yI), .v (.int .i64 ((h : Int) + 1)), .v (.int .i64 ((f : Int) + 1))] ⟨.tup [.v (.bool fast), .lst 2 (m.map xP), qY c ks], []⟩ := by
 obtain ⟨_, hl6⟩ := vX hb
 have hB := aLx (a := h + 1) (b := f + 1) hb (by omega) (by omega) (by omega) (by omega)
 obtain ⟨n1, n2, n3⟩ := aI1 hb (a := h + 1) (b := f + 1) (by omega) (by omega) (by omega) (by omega)
 obtain ⟨b, hbn⟩ : ∃ b : Nat, wH st (h + 1) (f + 1) = b + 1 := ⟨wH st (h + 1) (f + 1) - 1, by omega⟩
 rw [hbn] at hB n2 n3
 have hbl : b < st.length := by omega
 have hB' : AC Tryz.prog 148 [.lst 2 (st.map yI), .v (.int .i64 ((h : Int) + 1)), .v (.int .i64 ((f : Int) + 1))] ⟨.v (.int .i64 ((b : Int) + 1)), []⟩ := by simpa using hB
 clear hB n1 hbn
 by_cases hbf : b = f
 · refine ⟨false, [], 18, aAm, by simp, .inl rfl, ?_⟩
   have h2 := aEA (c := 18)
   refine qrf Tryz.func127 Tryz.ntmps127 Tryz.results127 ?_; conv => whnf
   repeat ((first | refine qz ?_ | refine qc (hB') ?_ | refine qc (h2) ?_ | refine qst ?_ | refine qdr ?_); conv => whnf)
   exact aDb (.inl ⟨rfl, rfl⟩) (aDB rfl rfl) rfl rfl rfl rfl trivial
 by_cases hbh : b = h
 · refine ⟨true, [], 0, .lst 1 [], by simp, .inr ⟨_, rfl⟩, ?_⟩
   refine qrf Tryz.func127 Tryz.ntmps127 Tryz.results127 ?_; conv => whnf
   repeat ((first | refine qz ?_ | refine qc (hB') ?_ | refine qst ?_ | refine qdr ?_); conv => whnf)
   exact aDb (.inl ⟨rfl, rfl⟩) (aDB rfl rfl) rfl rfl rfl rfl trivial
 have mf := AM.mapOK_le (jK hb hf)
 have mh := AM.mapOK_le (jK hb hh)
 have mb := AM.mapOK_le (jK hb hbl)
 have h2 := aEH (base := (st[b]).2) (a := (st[h]).2) (b := (st[f]).2) (by omega) (by omega) (by omega)
 have g1 := aDu (st[b]).2 (st[h]).2 (st[f]).2
 have g2 := aBt (st[b]).2 (st[h]).2 (st[f]).2
 have h3 := aEv (m := jD (st[b]).2 (st[h]).2 (st[f]).2) (c := kY (st[b]).2 (st[h]).2 (st[f]).2) (by omega) (by omega)
 have hbd := aE4 (jD (st[b]).2 (st[h]).2 (st[f]).2) (c := kY (st[b]).2 (st[h]).2 (st[f]).2) (by omega)
 generalize kP (jD (st[b]).2 (st[h]).2 (st[f]).2) (kY (st[b]).2 (st[h]).2 (st[f]).2) = r at h3 hbd
 refine ⟨false, r.1, r.2.2, .lst 1 (r.2.1.map strA), by unfold maxLen; omega, .inr ⟨_, rfl⟩, ?_⟩
 have h5 := aA3 (c := r.2.2) (ks := r.2.1.map strA)
 refine qrf Tryz.func127 Tryz.ntmps127 Tryz.results127 ?_; conv => whnf
 repeat ((first | refine qp (xB (xZ (c := (b : Int)) (by omega) (by omega) (by omega)) rfl rfl rfl) ?_ | refine qp (xB (xZ (c := (h : Int)) (by omega) (by omega) (by omega)) rfl rfl rfl) ?_ | refine qp (xB (xZ (c := (f : Int)) (by omega) (by omega) (by omega)) rfl rfl rfl) ?_ | refine qz ?_ | refine qc (hB') ?_ | refine qc (h2) ?_ | refine qf (h3) ?_ | refine qc (h5) ?_ | refine qst ?_ | refine qdr ?_); conv => whnf)
 exact aDb (.inl ⟨rfl, rfl⟩) (.inl ⟨rfl, rfl⟩) rfl rfl rfl rfl trivial
theorem aLh {c : Cli} : AC Tryz.prog 97 [cliA c] ⟨.v (.bool (decide (c.fa = 1))), []⟩ := by
 by_cases h : c.fa = 1
 · rw [decide_eq_true h]
   refine qrf Tryz.func97 Tryz.ntmps97 Tryz.results97 ?_; conv => whnf
   repeat ((refine qz ?_; conv => whnf))
   exact xA rfl trivial
 · rw [decide_eq_false h]
   refine qrf Tryz.func97 Tryz.ntmps97 Tryz.results97 ?_; conv => whnf
   repeat ((refine qz ?_; conv => whnf))
   exact xA rfl trivial
theorem aJM {w : Wsh} (hb : yx st = true) (hf : f < st.length) (hh : h < st.length) (he : w.edits.length ≤ 6) :
 ∃ (fast : Bool) (m : List Ent) (c : Int) (ks : AV), m.length ≤ maxLen ∧ (ks = aAm ∨ ∃ l, ks = .lst 1 l) ∧ AC Tryz.prog 96 [.lst 2 (st.map yI), wshA w, .v (.int .i64 ((f : Int) + 1)), .v (.int .i64 ((h : Int) + 1))] ⟨.tup [.v (.bool fast), .lst 2 (m.map xP), qY c ks], []⟩ := by
 by_cases h4 : w.kind = 4
 · obtain ⟨fast, m, c, ks, hm, hk, hJ⟩ := aJg (f := f) (h := h) hb hf hh
   refine ⟨fast, m, c, ks, hm, hk, ?_⟩
   rcases hk with rfl | ⟨l, rfl⟩
   all_goals
    refine qrf Tryz.func96 Tryz.ntmps96 Tryz.results96 ?_; conv => whnf
    repeat ((first | refine qz ?_ | refine qc (hJ) ?_ | refine qst ?_ | refine qdr ?_); conv => whnf)
    exact aDb (.inl ⟨rfl, rfl⟩) (.inl ⟨rfl, rfl⟩) rfl rfl rfl rfl trivial
 by_cases hl : (yT (st[f]).2 w.edits).length ≤ 12
 · obtain ⟨m, c, ks, hm, hP⟩ := aJe (f := f) (h := h) (es := w.edits) hb hf hh he hl
   refine ⟨false, m, c, .lst 1 ks, hm, .inr ⟨_, rfl⟩, ?_⟩
   refine qrf Tryz.func96 Tryz.ntmps96 Tryz.results96 ?_; conv => whnf
   repeat (first | (refine qz ?_; conv => whnf) | (refine qc (hP) ?_; conv => whnf) | (refine qst ?_; conv => whnf) | (refine qdr ?_; conv => whnf) | (refine aAd (xS rfl rfl rfl rfl rfl (by conv => lhs; whnf) rfl) rfl rfl (fun _ => .inr (.inr (aE0 (by kernel_rfl) (by kernel_rfl)))) ?_; conv => whnf))
   exact aDb (.inl ⟨rfl, rfl⟩) (.inl ⟨rfl, rfl⟩) rfl rfl rfl rfl trivial
 · have hP := aJ9 (f := f) (h := h) (es := w.edits) hb hf hh he hl
   refine ⟨false, [], 7, aAm, by simp, .inl rfl, ?_⟩
   refine qrf Tryz.func96 Tryz.ntmps96 Tryz.results96 ?_; conv => whnf
   repeat (first | (refine qz ?_; conv => whnf) | (refine qc (hP) ?_; conv => whnf) | (refine qst ?_; conv => whnf) | (refine qdr ?_; conv => whnf) | (refine aAd (xS rfl rfl rfl rfl rfl (by conv => lhs; whnf) rfl) rfl rfl (fun _ => .inr (.inr (aE0 (by kernel_rfl) (by kernel_rfl)))) ?_; conv => whnf))
   exact aDb (.inl ⟨rfl, rfl⟩) (.inl ⟨rfl, rfl⟩) rfl rfl rfl rfl trivial
end
end Go.Proofs.YtkfllfhcjegfoaaGreatDoor.AM
