/- Texts of the machine over data, folded. -/
import Derived.Test.YtoaifonjemlfcaaDoorKa5
import Derived.Test.YtoaifonjemlfcaaDoorKa11
import Derived.Test.YtoaifonjemlfcaaDoorKa9
import Derived.Recover
import Derived.Laws.Pointers
import Derived.Tactics2
import Derived.Laws.NewBlocks
set_option linter.unusedVariables false
set_option linter.unusedSimpArgs false
set_option maxRecDepth 100000
namespace Go.Proofs.YtoaifonjemlfcaaDoor.AM
open Go Go.RowKit
def rdL {α : Type} (f : Rds → α × Rds) : Nat → Rds → List α × Rds
 | 0, s => ([], s)
 | n + 1, s => ((f s).1 :: (rdL f n (f s).2).1, (rdL f n (f s).2).2)
theorem zi {α : Type} {f : Rds → α × Rds} (hf : ∀ s, s.2 = true → (f s).2.2 = true) : ∀ {n : Nat} {s : Rds}, s.2 = true → (rdL f n s).2.2 = true
 | 0, s, h => h
 | n + 1, s, h => zi hf (n := n) (hf s h)
theorem aAL {α : Type} {f : Rds → α × Rds} : ∀ {n : Nat} {s : Rds}, (rdL f n s).1.length = n
 | 0, s => rfl
 | n + 1, s => by simp [rdL, aAL (n := n)]
theorem aAd {α : Type} {f : Rds → α × Rds} {n k : Nat} {s : Rds} {PL : List α} {PS : Rds} (hk : k < PL.length) (h : rdL f (n + 1) s = (PL.drop k, PS)) : (f s).1 = PL[k] ∧ rdL f n (f s).2 = (PL.drop (k + 1), PS) := by
 rw [List.drop_eq_getElem_cons hk] at h
 simp only [rdL, Prod.mk.injEq, List.cons.injEq] at h
 exact ⟨h.1.1, Prod.ext h.1.2 h.2⟩
theorem aAZ {α β : Type} (A : α → β) (acc : List α) (z x : α) (r : Nat) : ((acc ++ List.replicate (r + 1) z).map A).set acc.length (A x) = ((acc ++ [x]) ++ List.replicate r z).map A := by
 rw [← List.map_set, List.set_append_right _ _ (Nat.le_refl _), Nat.sub_self, List.replicate_succ, List.set_cons_zero, List.append_assoc]; rfl
theorem aHD {t : ByteArray} : ∀ {n : Nat} {s : Rds}, uK t n s = rdL (rdE t) n s
 | 0, s => rfl
 | n + 1, s => by
  show (_ :: _, _) = (_ :: _, _)
  rw [show uK t n (rdS t (rdW t s).2).2 = _ from aHD (n := n)]; rfl
def rdI (t : ByteArray) (s : Rds) : Int × Rds := (((rdN t s).1 : Int), (rdN t s).2)
theorem aD0 {t : ByteArray} {s : Rds} (h : s.2 = true) : (rdI t s).2.2 = true := wH (t := t) h
theorem aCy {t : ByteArray} {s : Rds} (h : yH t s) : yH t (rdI t s).2 := (zN h).1
theorem aHE {t : ByteArray} : ∀ {n : Nat} {s : Rds}, zo t n s = rdL (rdI t) n s
 | 0, s => rfl
 | n + 1, s => by
  show (_ :: _, _) = (_ :: _, _)
  rw [show zo t n (rdN t s).2 = _ from aHE (n := n)]; rfl
theorem aCM {t : ByteArray} {s : Rds} (h : s.2 = true) : (zK t s).2.2 = true := wH (t := t) (wH (t := t) (aGW h))
attribute [local irreducible] xM xO xg yE y7 Pre ACG
attribute [local irreducible] yM u7 z8 ACP
theorem aJF {t : ByteArray} {i : Nat} (ht : t.size ≤ 65536) (hi : i ≤ t.size) (h : (rdI t (i, false)).2.2 = false) : ACG Tryd.prog 35 [.optr 0 0 [] 0] [rdP t i] [rdP t (rdI t (i, false)).2.1] ⟨xu (rdI t (i, false)).1, []⟩ := aBT ht hi h
theorem aKM {t : ByteArray} {i : Nat} (ht : t.size ≤ 65536) (hi : i ≤ t.size) (h : (rdI t (i, false)).2.2 = true) : ACP Tryd.prog 35 [.optr 0 0 [] 0] [rdP t i] pvM := aAp ht hi h
theorem aJG {t : ByteArray} {i : Nat} (ht : t.size ≤ 65536) (hi : i ≤ t.size) (h : (zK t (i, false)).2.2 = false) : ACG Tryd.prog 61 [.optr 0 0 [] 0] [rdP t i] [rdP t (zK t (i, false)).2.1] ⟨xh (zK t (i, false)).1, []⟩ := by
 have hw := wU (t := t) (s := (i, false)) ⟨by omega, hi⟩
 have c1 := fun h => aEU ht hi h
 unfold zK at h ⊢
 generalize rdW t (i, false) = R at h c1 hw ⊢
 obtain ⟨k, a, bad⟩ := R
 dsimp only at h c1 hw ⊢
 cases bad
 case true => rw [wH (wH rfl)] at h; cases h
 have c1 := c1 rfl
 have hn := (zN (t := t) (s := (a, false)) hw).1
 have c2 := fun h => aBT (t := t) (i := a) ht hw.2 h
 generalize rdN t (a, false) = R2 at h c2 hn ⊢
 obtain ⟨v, b, bad⟩ := R2
 dsimp only at h c2 hn ⊢
 cases bad
 case true => rw [wH rfl] at h; cases h
 have c2 := c2 rfl
 have c3 := aBT (t := t) (i := b) ht hn.2 h
 generalize rdN t (b, false) = R3 at c3 ⊢
 obtain ⟨d, e, bad⟩ := R3
 dsimp only at c3 ⊢
 refine xX (rs := [.cell 2 79]) xJ (by kernel_rfl) Tryd.func61 rfl Tryd.ntmps61 (by rw [Tryd.results61]) (by kernel_rfl) (by simp) rfl rfl (xE _ _ _ ?_)
 conv => whnf
 by_cases hd : (d : Int) = 0
 · rw [decide_eq_true hd]
   repeat ((first | refine qz ?_ | refine qr (xB [0] (c1) rfl rfl (by first | exact ⟨rfl, trivial⟩ | exact ⟨rfl, rfl, trivial⟩ | exact ⟨rfl, rfl, rfl, trivial⟩) rfl rfl (by first | exact trivial | exact ⟨⟨rfl, rfl, rfl⟩, trivial⟩ | exact ⟨⟨rfl, rfl, rfl⟩, ⟨rfl, rfl, rfl⟩, trivial⟩ | exact ⟨⟨rfl, rfl, rfl⟩, ⟨rfl, rfl, rfl⟩, ⟨rfl, rfl, rfl⟩, trivial⟩) rfl rfl rfl (.inl rfl) rfl) ?_ | refine qr (xB [0] (c2) rfl rfl (by first | exact ⟨rfl, trivial⟩ | exact ⟨rfl, rfl, trivial⟩ | exact ⟨rfl, rfl, rfl, trivial⟩) rfl rfl (by first | exact trivial | exact ⟨⟨rfl, rfl, rfl⟩, trivial⟩ | exact ⟨⟨rfl, rfl, rfl⟩, ⟨rfl, rfl, rfl⟩, trivial⟩ | exact ⟨⟨rfl, rfl, rfl⟩, ⟨rfl, rfl, rfl⟩, ⟨rfl, rfl, rfl⟩, trivial⟩) rfl rfl rfl (.inl rfl) rfl) ?_ | refine qr (xB [0] (c3) rfl rfl (by first | exact ⟨rfl, trivial⟩ | exact ⟨rfl, rfl, trivial⟩ | exact ⟨rfl, rfl, rfl, trivial⟩) rfl rfl (by first | exact trivial | exact ⟨⟨rfl, rfl, rfl⟩, trivial⟩ | exact ⟨⟨rfl, rfl, rfl⟩, ⟨rfl, rfl, rfl⟩, trivial⟩ | exact ⟨⟨rfl, rfl, rfl⟩, ⟨rfl, rfl, rfl⟩, ⟨rfl, rfl, rfl⟩, trivial⟩) rfl rfl rfl (.inl rfl) rfl) ?_ | refine qst ?_); conv => whnf)
   exact aCL rfl rfl rfl rfl rfl trivial
 · rw [decide_eq_false hd]
   repeat ((first | refine qz ?_ | refine qr (xB [0] (c1) rfl rfl (by first | exact ⟨rfl, trivial⟩ | exact ⟨rfl, rfl, trivial⟩ | exact ⟨rfl, rfl, rfl, trivial⟩) rfl rfl (by first | exact trivial | exact ⟨⟨rfl, rfl, rfl⟩, trivial⟩ | exact ⟨⟨rfl, rfl, rfl⟩, ⟨rfl, rfl, rfl⟩, trivial⟩ | exact ⟨⟨rfl, rfl, rfl⟩, ⟨rfl, rfl, rfl⟩, ⟨rfl, rfl, rfl⟩, trivial⟩) rfl rfl rfl (.inl rfl) rfl) ?_ | refine qr (xB [0] (c2) rfl rfl (by first | exact ⟨rfl, trivial⟩ | exact ⟨rfl, rfl, trivial⟩ | exact ⟨rfl, rfl, rfl, trivial⟩) rfl rfl (by first | exact trivial | exact ⟨⟨rfl, rfl, rfl⟩, trivial⟩ | exact ⟨⟨rfl, rfl, rfl⟩, ⟨rfl, rfl, rfl⟩, trivial⟩ | exact ⟨⟨rfl, rfl, rfl⟩, ⟨rfl, rfl, rfl⟩, ⟨rfl, rfl, rfl⟩, trivial⟩) rfl rfl rfl (.inl rfl) rfl) ?_ | refine qr (xB [0] (c3) rfl rfl (by first | exact ⟨rfl, trivial⟩ | exact ⟨rfl, rfl, trivial⟩ | exact ⟨rfl, rfl, rfl, trivial⟩) rfl rfl (by first | exact trivial | exact ⟨⟨rfl, rfl, rfl⟩, trivial⟩ | exact ⟨⟨rfl, rfl, rfl⟩, ⟨rfl, rfl, rfl⟩, trivial⟩ | exact ⟨⟨rfl, rfl, rfl⟩, ⟨rfl, rfl, rfl⟩, ⟨rfl, rfl, rfl⟩, trivial⟩) rfl rfl rfl (.inl rfl) rfl) ?_ | refine qst ?_); conv => whnf)
   exact aCL rfl rfl rfl rfl rfl trivial
theorem aKN {t : ByteArray} {i : Nat} (ht : t.size ≤ 65536) (hi : i ≤ t.size) (h : (zK t (i, false)).2.2 = true) : ACP Tryd.prog 61 [.optr 0 0 [] 0] [rdP t i] pvM := by
 have hw := wU (t := t) (s := (i, false)) ⟨by omega, hi⟩
 have c1 := fun h => aEU ht hi h
 have d1 := fun h => aH1 ht hi h
 unfold zK at h
 generalize rdW t (i, false) = R at h c1 d1 hw
 obtain ⟨k, a, bad⟩ := R
 dsimp only at h c1 d1 hw
 refine uJ xJ (by kernel_rfl) Tryd.func61 rfl Tryd.ntmps61 (by kernel_rfl) (by simp) ?_
 refine xV ?_
 conv => whnf
 cases bad
 case true =>
  have d1 := d1 rfl
  refine yN (zD ?_)
  conv => whnf
  exact yT (yw [0] d1 rfl rfl (by first | exact ⟨rfl, trivial⟩ | exact ⟨rfl, rfl, trivial⟩ | exact ⟨rfl, rfl, rfl, trivial⟩) rfl rfl rfl rfl rfl rfl) rfl rfl
 have c1 := c1 rfl
 refine xV ?_
 conv => whnf
 repeat ((first | refine qz ?_ | refine qr (xB [0] (c1) rfl rfl (by first | exact ⟨rfl, trivial⟩ | exact ⟨rfl, rfl, trivial⟩ | exact ⟨rfl, rfl, rfl, trivial⟩) rfl rfl (by first | exact trivial | exact ⟨⟨rfl, rfl, rfl⟩, trivial⟩ | exact ⟨⟨rfl, rfl, rfl⟩, ⟨rfl, rfl, rfl⟩, trivial⟩ | exact ⟨⟨rfl, rfl, rfl⟩, ⟨rfl, rfl, rfl⟩, ⟨rfl, rfl, rfl⟩, trivial⟩) rfl rfl rfl (.inl rfl) rfl) ?_); conv => whnf)
 have hn := (zN (t := t) (s := (a, false)) hw).1
 have c2 := fun h => aBT (t := t) (i := a) ht hw.2 h
 have d2 := fun h => aAp (t := t) (i := a) ht hw.2 h
 generalize rdN t (a, false) = R2 at h c2 d2 hn
 obtain ⟨v, b, bad⟩ := R2
 dsimp only at h c2 d2 hn
 cases bad
 case true =>
  have d2 := d2 rfl
  refine yN (zD ?_)
  conv => whnf
  exact yT (yw [0] d2 rfl rfl (by first | exact ⟨rfl, trivial⟩ | exact ⟨rfl, rfl, trivial⟩ | exact ⟨rfl, rfl, rfl, trivial⟩) rfl rfl rfl rfl rfl rfl) rfl rfl
 have c2 := c2 rfl
 refine xV ?_
 conv => whnf
 repeat ((first | refine qz ?_ | refine qr (xB [0] (c2) rfl rfl (by first | exact ⟨rfl, trivial⟩ | exact ⟨rfl, rfl, trivial⟩ | exact ⟨rfl, rfl, rfl, trivial⟩) rfl rfl (by first | exact trivial | exact ⟨⟨rfl, rfl, rfl⟩, trivial⟩ | exact ⟨⟨rfl, rfl, rfl⟩, ⟨rfl, rfl, rfl⟩, trivial⟩ | exact ⟨⟨rfl, rfl, rfl⟩, ⟨rfl, rfl, rfl⟩, ⟨rfl, rfl, rfl⟩, trivial⟩) rfl rfl rfl (.inl rfl) rfl) ?_); conv => whnf)
 have d3 := aAp (t := t) (i := b) ht hn.2 h
 refine yN (zD ?_)
 conv => whnf
 exact yT (yw [0] d3 rfl rfl (by first | exact ⟨rfl, trivial⟩ | exact ⟨rfl, rfl, trivial⟩ | exact ⟨rfl, rfl, rfl, trivial⟩) rfl rfl rfl rfl rfl rfl) rfl rfl
set_option maxHeartbeats 2000000 in
theorem aHV {t : ByteArray} {i m : Nat} (ht : t.size ≤ 65536) (hi : i ≤ t.size) (hm : m ≤ 100) (h : (rdL (rdI t) (rdC t m (i, false)).1 (rdC t m (i, false)).2).2.2 = false) :
 ACG Tryd.prog 50 [.optr 0 0 [] 0, .v (.int .i64 (m : Int)), .fn 35 [.optr 0 0 [] 0] []] [rdP t i] [rdP t (rdL (rdI t) (rdC t m (i, false)).1 (rdC t m (i, false)).2).2.1] ⟨.own 0, [⟨3, 1, (rdL (rdI t) (rdC t m (i, false)).1 (rdC t m (i, false)).2).1.map xu⟩]⟩ := by
 have hC := yS (m := m) (t := t) (s := (i, false)) ⟨by omega, hi⟩
 have c1 := fun h => kE (m := m) ht hi h
 generalize rdC t m (i, false) = R at h c1 hC ⊢
 obtain ⟨N, a, bad⟩ := R
 dsimp only at h c1 hC ⊢
 obtain ⟨⟨_, ha⟩, hN⟩ := hC
 dsimp only at ha hN
 cases bad
 case true => rw [zi (fun s h => aD0 h) rfl] at h; cases h
 have c1 := c1 rfl
 have hlen := aAL (f := rdI t) (n := N) (s := (a, false))
 obtain ⟨⟨PL, PS⟩, hP⟩ : ∃ P, rdL (rdI t) N (a, false) = P := ⟨_, rfl⟩
 rw [hP] at h hlen ⊢
 dsimp only at h hlen ⊢
 subst hlen
 have hlenr : (List.replicate PL.length (AV.v (.int .i64 0))).length = PL.length := by simp
 refine xX (rs := [.tmp 6]) xJ (by kernel_rfl) Tryd.func50 rfl Tryd.ntmps50 (by rw [Tryd.results50]) (by kernel_rfl) (by simp) rfl rfl (xE _ _ _ ?_); conv => whnf
 repeat ((first | refine qp (zf (m := PL.length) rfl rfl hlenr ⟨_, _, _, _, rfl⟩) ?_ | refine qz ?_ | refine qr (xB [0] (c1) rfl rfl (by first | exact ⟨rfl, trivial⟩ | exact ⟨rfl, rfl, trivial⟩ | exact ⟨rfl, rfl, rfl, trivial⟩) rfl rfl (by first | exact trivial | exact ⟨⟨rfl, rfl, rfl⟩, trivial⟩ | exact ⟨⟨rfl, rfl, rfl⟩, ⟨rfl, rfl, rfl⟩, trivial⟩ | exact ⟨⟨rfl, rfl, rfl⟩, ⟨rfl, rfl, rfl⟩, ⟨rfl, rfl, rfl⟩, trivial⟩) rfl rfl rfl (.inl rfl) rfl) ?_ | refine qr (jH (n := PL.length) (by omega) (by omega) rfl rfl rfl rfl) ?_); conv => whnf)
 have hrow : List.replicate PL.length (AV.v (.int .i64 0)) = (PL.take 0 ++ List.replicate (PL.length - 0) (0 : Int)).map xu := by simp [xu]
 refine xZ (ι := { p : Nat × Nat // p.1 ≤ PL.length ∧ p.2 ≤ t.size ∧ rdL (rdI t) (PL.length - p.1) (p.2, false) = (PL.drop p.1, PS) ∧ (p.1 = PL.length → p.2 = PS.1) }) (fun p => ⟨[(2, .fn 35 [.optr 0 0 [] 0] []), (7, .own 13), (14, .v (.int .i64 (PL.length : Int))), (15, .v (.int .i64 (p.1.1 : Int)))], [(0, rdP t p.1.2), (13, ⟨3, 1, (PL.take p.1.1 ++ List.replicate (PL.length - p.1.1) (0 : Int)).map xu⟩)]⟩) (fun p => PL.length - p.1.1) ⟨(0, a), Nat.zero_le _, ha, by simpa using hP, fun e => (by
  have e' : PL.length = 0 := e.symm
  rw [e'] at hP
  simp only [rdL, Prod.mk.injEq] at hP
  rw [← hP.2])⟩ ⟨⟨rfl, congrArg (fun x => some (OB.mk _ _ x)) hrow, trivial⟩, .inl ⟨rfl, rfl⟩, .inl ⟨rfl, rfl⟩, .inl ⟨rfl, rfl⟩, .inl ⟨rfl, rfl⟩, trivial⟩ ?_
 rintro ⟨⟨k, p⟩, hk, hp, hr, he⟩
 dsimp only at hk hp hr he ⊢
 conv => whnf
 by_cases hlt : k < PL.length
 · obtain ⟨r, hrr⟩ : ∃ r, PL.length - k = r + 1 := ⟨PL.length - k - 1, by omega⟩
   rw [hrr] at hr
   obtain ⟨hv, hr2⟩ := aAd hlt hr
   have hr2' : rdL (rdI t) (PL.length - (k + 1)) (rdI t (p, false)).2 = (PL.drop (k + 1), PS) := by rw [show PL.length - (k + 1) = r by omega]; exact hr2
   have c2 := fun h => aJF (t := t) (i := p) ht hp h
   have hok := aCy (t := t) (s := (p, false)) ⟨by omega, hp⟩
   have hlt2 : k < (PL.take k ++ List.replicate (PL.length - k) (0 : Int)).length := by simp; omega
   have hset := congrArg (List.map xu) (aA1 PL (0 : Int) k hlt)
   rw [List.map_set] at hset
   rw [← hv] at hset
   clear hv hr hr2
   skip
   generalize rdI t (p, false) = R at hr2' c2 hok hset
   obtain ⟨v, q, bad⟩ := R
   dsimp only at hr2' c2 hok hset
   cases bad
   case true =>
    have := zi (f := rdI t) (fun s h => aD0 h) (n := PL.length - (k + 1)) (s := (q, true)) rfl
    rw [hr2'] at this
    rw [h] at this; cases this
   have c2 := c2 rfl
   repeat ((first | refine qz ?_ | refine qr (xB [0] (c2) rfl rfl (by first | exact ⟨rfl, trivial⟩ | exact ⟨rfl, rfl, trivial⟩ | exact ⟨rfl, rfl, rfl, trivial⟩) rfl rfl (by first | exact trivial | exact ⟨⟨rfl, rfl, rfl⟩, trivial⟩ | exact ⟨⟨rfl, rfl, rfl⟩, ⟨rfl, rfl, rfl⟩, trivial⟩ | exact ⟨⟨rfl, rfl, rfl⟩, ⟨rfl, rfl, rfl⟩, ⟨rfl, rfl, rfl⟩, trivial⟩) rfl rfl rfl (.inl rfl) rfl) ?_ | refine qp (uU (by simpa using hlt2) rfl rfl rfl rfl rfl) ?_ | refine qr (vE (vB _ hlt2) rfl rfl rfl rfl rfl rfl) ?_); conv => whnf)
   exact ⟨⟨(k + 1, q), hlt, hok.2, hr2', fun e => (by
    have e' : k + 1 = PL.length := e
    rw [e', Nat.sub_self] at hr2'
    simp only [rdL, Prod.mk.injEq] at hr2'
    rw [← hr2'.2])⟩, ⟨⟨rfl, congrArg (fun x => some (OB.mk _ _ x)) hset, trivial⟩, .inl ⟨rfl, rfl⟩, .inl ⟨rfl, rfl⟩, .inl ⟨rfl, rfl⟩, .inl ⟨rfl, rfl⟩, trivial⟩, by dsimp only; omega⟩
 · have hkk : k = PL.length := by omega
   rw [he hkk]
   subst hkk
   repeat ((refine qz ?_; conv => whnf))
   exact aCw rfl rfl (by show some (OB.mk _ _ _) = _; rw [List.take_length, Nat.sub_self, List.replicate_zero, List.append_nil])
set_option maxHeartbeats 2000000 in
theorem aJ1 {t : ByteArray} {i m : Nat} (ht : t.size ≤ 65536) (hi : i ≤ t.size) (hm : m ≤ 100) (h : (rdL (rdI t) (rdC t m (i, false)).1 (rdC t m (i, false)).2).2.2 = true) :
 ACP Tryd.prog 50 [.optr 0 0 [] 0, .v (.int .i64 (m : Int)), .fn 35 [.optr 0 0 [] 0] []] [rdP t i] pvM := by
 have hC := yS (m := m) (t := t) (s := (i, false)) ⟨by omega, hi⟩
 have c1 := fun h => kE (m := m) ht hi h
 have d1 := fun h => ql (m := m) ht hi h
 generalize rdC t m (i, false) = R at h c1 d1 hC
 obtain ⟨N, a, bad⟩ := R
 dsimp only at h c1 d1 hC
 obtain ⟨⟨_, ha⟩, hN⟩ := hC
 dsimp only at ha hN
 refine uJ xJ (by kernel_rfl) Tryd.func50 rfl Tryd.ntmps50 (by kernel_rfl) (by simp) ?_
 refine xV ?_
 conv => whnf
 cases bad
 case true =>
  have d1 := d1 rfl
  refine yN (zD ?_)
  conv => whnf
  exact yT (yw [0] d1 rfl rfl (by first | exact ⟨rfl, trivial⟩ | exact ⟨rfl, rfl, trivial⟩ | exact ⟨rfl, rfl, rfl, trivial⟩) rfl rfl rfl rfl rfl rfl) rfl rfl
 have c1 := c1 rfl
 refine xV ?_
 conv => whnf
 repeat ((first | refine qz ?_ | refine qr (xB [0] (c1) rfl rfl (by first | exact ⟨rfl, trivial⟩ | exact ⟨rfl, rfl, trivial⟩ | exact ⟨rfl, rfl, rfl, trivial⟩) rfl rfl (by first | exact trivial | exact ⟨⟨rfl, rfl, rfl⟩, trivial⟩ | exact ⟨⟨rfl, rfl, rfl⟩, ⟨rfl, rfl, rfl⟩, trivial⟩ | exact ⟨⟨rfl, rfl, rfl⟩, ⟨rfl, rfl, rfl⟩, ⟨rfl, rfl, rfl⟩, trivial⟩) rfl rfl rfl (.inl rfl) rfl) ?_ | refine qr (jH (n := N) (by omega) (by omega) rfl rfl rfl rfl) ?_); conv => whnf)
 refine yN (xV ?_)
 conv => whnf
 have hlenr : (List.replicate N (AV.v (.int .i64 0))).length = N := by simp
 repeat ((first | refine qp (zf (m := N) rfl rfl hlenr ⟨_, _, _, _, rfl⟩) ?_ | refine qz ?_); conv => whnf)
 have hrow : List.replicate N (AV.v (.int .i64 0)) = (([] : List Int) ++ List.replicate (N - 0) (0 : Int)).map xu := by simp [xu]
 refine vK (aC7 (ι := { p : List Int × Nat // p.1.length ≤ N ∧ p.2 ≤ t.size ∧ (rdL (rdI t) (N - p.1.length) (p.2, false)).2.2 = true }) (fun p => ⟨[(2, .fn 35 [.optr 0 0 [] 0] []), (7, .own 13), (14, .v (.int .i64 (N : Int))), (15, .v (.int .i64 (p.1.1.length : Int)))], [(0, rdP t p.1.2), (13, ⟨3, 1, (p.1.1 ++ List.replicate (N - p.1.1.length) (0 : Int)).map xu⟩)]⟩) (fun p => N - p.1.1.length) ⟨([], a), Nat.zero_le _, ha, by simpa using h⟩ ⟨⟨rfl, congrArg (fun x => some (OB.mk _ _ x)) hrow, trivial⟩, .inl ⟨rfl, rfl⟩, .inl ⟨rfl, rfl⟩, .inl ⟨rfl, rfl⟩, .inl ⟨rfl, rfl⟩, trivial⟩ ?_)
 rintro ⟨⟨acc, p⟩, hk, hp, hr⟩
 dsimp only at hk hp hr ⊢
 have hlt : acc.length < N := by
  rcases Nat.lt_or_ge acc.length N with h' | h'
  · exact h'
  · rw [show N - acc.length = 0 by omega] at hr; cases hr
 obtain ⟨r, hrr⟩ : ∃ r, N - acc.length = r + 1 := ⟨N - acc.length - 1, by omega⟩
 rw [hrr] at hr ⊢
 simp only [rdL] at hr
 have c2 := fun h => aJF (t := t) (i := p) ht hp h
 have d2 := fun h => aKM (t := t) (i := p) ht hp h
 have hok := aCy (t := t) (s := (p, false)) ⟨by omega, hp⟩
 skip
 generalize rdI t (p, false) = R at hr c2 d2 hok
 obtain ⟨v, q, bad⟩ := R
 dsimp only at hr c2 d2 hok
 cases bad
 · right
   have c2 := c2 rfl
   have hlt2 : acc.length < (acc ++ List.replicate (r + 1) (0 : Int)).length := by simp
   have hset := aAZ xu acc (0 : Int) v r
   conv => whnf
   repeat ((first | refine qz ?_ | refine qr (xB [0] (c2) rfl rfl (by first | exact ⟨rfl, trivial⟩ | exact ⟨rfl, rfl, trivial⟩ | exact ⟨rfl, rfl, rfl, trivial⟩) rfl rfl (by first | exact trivial | exact ⟨⟨rfl, rfl, rfl⟩, trivial⟩ | exact ⟨⟨rfl, rfl, rfl⟩, ⟨rfl, rfl, rfl⟩, trivial⟩ | exact ⟨⟨rfl, rfl, rfl⟩, ⟨rfl, rfl, rfl⟩, ⟨rfl, rfl, rfl⟩, trivial⟩) rfl rfl rfl (.inl rfl) rfl) ?_ | refine qp (uU (by simp) rfl rfl rfl rfl rfl) ?_ | refine qr (vE (vB _ hlt2) rfl rfl rfl rfl rfl rfl) ?_); conv => whnf)
   have hl : (acc ++ [v]).length = acc.length + 1 := by simp
   refine ⟨⟨(acc ++ [v], q), by dsimp only; omega, hok.2, by dsimp only; rw [show N - (acc ++ [v]).length = r by omega]; exact hr⟩, ⟨⟨rfl, ?_, trivial⟩, .inl ⟨rfl, rfl⟩, .inl ⟨rfl, rfl⟩, .inl ⟨rfl, rfl⟩, .inl ⟨?_, rfl⟩, trivial⟩, by dsimp only; omega⟩
   · dsimp only
     rw [show N - (acc ++ [v]).length = r by omega]
     exact congrArg (fun x => some (OB.mk _ _ x)) hset
   · show AV.v (.int .i64 ((acc.length : Int) + 1)) = AV.v (.int .i64 ((acc ++ [v]).length : Int))
     rw [hl]; rfl
 · left
   have d2 := d2 rfl
   refine xV ?_
   conv => whnf
   repeat ((refine qz ?_; conv => whnf))
   refine xV ?_
   conv => whnf
   refine yN (vK (xV ?_))
   conv => whnf
   refine zD ?_
   conv => whnf
   exact yT (yw [0] d2 rfl rfl (by first | exact ⟨rfl, trivial⟩ | exact ⟨rfl, rfl, trivial⟩ | exact ⟨rfl, rfl, rfl, trivial⟩) rfl rfl rfl rfl rfl rfl) rfl rfl
set_option maxHeartbeats 2000000 in
theorem aKI {t : ByteArray} {i m : Nat} (ht : t.size ≤ 65536) (hi : i ≤ t.size) (hm : m ≤ 100) (h : (rdL (rdE t) (rdC t m (i, false)).1 (rdC t m (i, false)).2).2.2 = false) :
 ACG Tryd.prog 51 [.optr 0 0 [] 0, .v (.int .i64 (m : Int)), .fn 52 [.optr 0 0 [] 0] []] [rdP t i] [rdP t (rdL (rdE t) (rdC t m (i, false)).1 (rdC t m (i, false)).2).2.1] ⟨.own 0, [⟨70, 2, (rdL (rdE t) (rdC t m (i, false)).1 (rdC t m (i, false)).2).1.map yP⟩]⟩ := by
 have hC := yS (m := m) (t := t) (s := (i, false)) ⟨by omega, hi⟩
 have c1 := fun h => kE (m := m) ht hi h
 generalize rdC t m (i, false) = R at h c1 hC ⊢
 obtain ⟨N, a, bad⟩ := R
 dsimp only at h c1 hC ⊢
 obtain ⟨⟨_, ha⟩, hN⟩ := hC
 dsimp only at ha hN
 cases bad
 case true => rw [zi (fun s h => aB6 h) rfl] at h; cases h
 have c1 := c1 rfl
 have hlen := aAL (f := rdE t) (n := N) (s := (a, false))
 obtain ⟨⟨PL, PS⟩, hP⟩ : ∃ P, rdL (rdE t) N (a, false) = P := ⟨_, rfl⟩
 rw [hP] at h hlen ⊢
 dsimp only at h hlen ⊢
 subst hlen
 have hlenr : (List.replicate PL.length (AV.agg [.v (.string ByteArray.empty), .v (.int .i64 0)])).length = PL.length := by simp
 refine xX (rs := [.tmp 6]) xJ (by kernel_rfl) Tryd.func51 rfl Tryd.ntmps51 (by rw [Tryd.results51]) (by kernel_rfl) (by simp) rfl rfl (xE _ _ _ ?_); conv => whnf
 repeat ((first | refine qp (zf (m := PL.length) rfl rfl hlenr ⟨_, _, _, _, rfl⟩) ?_ | refine qz ?_ | refine qr (xB [0] (c1) rfl rfl (by first | exact ⟨rfl, trivial⟩ | exact ⟨rfl, rfl, trivial⟩ | exact ⟨rfl, rfl, rfl, trivial⟩) rfl rfl (by first | exact trivial | exact ⟨⟨rfl, rfl, rfl⟩, trivial⟩ | exact ⟨⟨rfl, rfl, rfl⟩, ⟨rfl, rfl, rfl⟩, trivial⟩ | exact ⟨⟨rfl, rfl, rfl⟩, ⟨rfl, rfl, rfl⟩, ⟨rfl, rfl, rfl⟩, trivial⟩) rfl rfl rfl (.inl rfl) rfl) ?_ | refine qr (jH (n := PL.length) (by omega) (by omega) rfl rfl rfl rfl) ?_); conv => whnf)
 have hrow : List.replicate PL.length (AV.agg [.v (.string ByteArray.empty), .v (.int .i64 0)]) = (PL.take 0 ++ List.replicate (PL.length - 0) ((ByteArray.empty, 0) : Ent)).map yP := by simp [yP]
 refine xZ (ι := { p : Nat × Nat // p.1 ≤ PL.length ∧ p.2 ≤ t.size ∧ rdL (rdE t) (PL.length - p.1) (p.2, false) = (PL.drop p.1, PS) ∧ (p.1 = PL.length → p.2 = PS.1) }) (fun p => ⟨[(2, .fn 52 [.optr 0 0 [] 0] []), (7, .own 13), (14, .v (.int .i64 (PL.length : Int))), (15, .v (.int .i64 (p.1.1 : Int)))], [(0, rdP t p.1.2), (13, ⟨70, 2, (PL.take p.1.1 ++ List.replicate (PL.length - p.1.1) ((ByteArray.empty, 0) : Ent)).map yP⟩)]⟩) (fun p => PL.length - p.1.1) ⟨(0, a), Nat.zero_le _, ha, by simpa using hP, fun e => (by
  have e' : PL.length = 0 := e.symm
  rw [e'] at hP
  simp only [rdL, Prod.mk.injEq] at hP
  rw [← hP.2])⟩ ⟨⟨rfl, congrArg (fun x => some (OB.mk _ _ x)) hrow, trivial⟩, .inl ⟨rfl, rfl⟩, .inl ⟨rfl, rfl⟩, .inl ⟨rfl, rfl⟩, .inl ⟨rfl, rfl⟩, trivial⟩ ?_
 rintro ⟨⟨k, p⟩, hk, hp, hr, he⟩
 dsimp only at hk hp hr he ⊢
 conv => whnf
 by_cases hlt : k < PL.length
 · obtain ⟨r, hrr⟩ : ∃ r, PL.length - k = r + 1 := ⟨PL.length - k - 1, by omega⟩
   rw [hrr] at hr
   obtain ⟨hv, hr2⟩ := aAd hlt hr
   have hr2' : rdL (rdE t) (PL.length - (k + 1)) (rdE t (p, false)).2 = (PL.drop (k + 1), PS) := by rw [show PL.length - (k + 1) = r by omega]; exact hr2
   have c2 := fun h => aJE (t := t) (i := p) ht hp h
   have hok := aIG (t := t) (s := (p, false)) ⟨by omega, hp⟩
   have hlt2 : k < (PL.take k ++ List.replicate (PL.length - k) ((ByteArray.empty, 0) : Ent)).length := by simp; omega
   have hset := congrArg (List.map yP) (aA1 PL ((ByteArray.empty, 0) : Ent) k hlt)
   rw [List.map_set] at hset
   rw [← hv] at hset
   clear hv hr hr2
   skip
   generalize rdE t (p, false) = R at hr2' c2 hok hset
   obtain ⟨v, q, bad⟩ := R
   dsimp only at hr2' c2 hok hset
   cases bad
   case true =>
    have := zi (f := rdE t) (fun s h => aB6 h) (n := PL.length - (k + 1)) (s := (q, true)) rfl
    rw [hr2'] at this
    rw [h] at this; cases this
   have c2 := c2 rfl
   repeat ((first | refine qz ?_ | refine qr (xB [0] (c2) rfl rfl (by first | exact ⟨rfl, trivial⟩ | exact ⟨rfl, rfl, trivial⟩ | exact ⟨rfl, rfl, rfl, trivial⟩) rfl rfl (by first | exact trivial | exact ⟨⟨rfl, rfl, rfl⟩, trivial⟩ | exact ⟨⟨rfl, rfl, rfl⟩, ⟨rfl, rfl, rfl⟩, trivial⟩ | exact ⟨⟨rfl, rfl, rfl⟩, ⟨rfl, rfl, rfl⟩, ⟨rfl, rfl, rfl⟩, trivial⟩) rfl rfl rfl (.inl rfl) rfl) ?_ | refine qp (uU (by simpa using hlt2) rfl rfl rfl rfl rfl) ?_ | refine qr (vE (vB _ hlt2) rfl rfl rfl rfl rfl rfl) ?_); conv => whnf)
   exact ⟨⟨(k + 1, q), hlt, hok.2, hr2', fun e => (by
    have e' : k + 1 = PL.length := e
    rw [e', Nat.sub_self] at hr2'
    simp only [rdL, Prod.mk.injEq] at hr2'
    rw [← hr2'.2])⟩, ⟨⟨rfl, congrArg (fun x => some (OB.mk _ _ x)) hset, trivial⟩, .inl ⟨rfl, rfl⟩, .inl ⟨rfl, rfl⟩, .inl ⟨rfl, rfl⟩, .inl ⟨rfl, rfl⟩, trivial⟩, by dsimp only; omega⟩
 · have hkk : k = PL.length := by omega
   rw [he hkk]
   subst hkk
   repeat ((refine qz ?_; conv => whnf))
   exact aCw rfl rfl (by show some (OB.mk _ _ _) = _; rw [List.take_length, Nat.sub_self, List.replicate_zero, List.append_nil])
set_option maxHeartbeats 2000000 in
theorem aJ0 {t : ByteArray} {i m : Nat} (ht : t.size ≤ 65536) (hi : i ≤ t.size) (hm : m ≤ 100) (h : (rdL (rdE t) (rdC t m (i, false)).1 (rdC t m (i, false)).2).2.2 = true) :
 ACP Tryd.prog 51 [.optr 0 0 [] 0, .v (.int .i64 (m : Int)), .fn 52 [.optr 0 0 [] 0] []] [rdP t i] pvM := by
 have hC := yS (m := m) (t := t) (s := (i, false)) ⟨by omega, hi⟩
 have c1 := fun h => kE (m := m) ht hi h
 have d1 := fun h => ql (m := m) ht hi h
 generalize rdC t m (i, false) = R at h c1 d1 hC
 obtain ⟨N, a, bad⟩ := R
 dsimp only at h c1 d1 hC
 obtain ⟨⟨_, ha⟩, hN⟩ := hC
 dsimp only at ha hN
 refine uJ xJ (by kernel_rfl) Tryd.func51 rfl Tryd.ntmps51 (by kernel_rfl) (by simp) ?_
 refine xV ?_
 conv => whnf
 cases bad
 case true =>
  have d1 := d1 rfl
  refine yN (zD ?_)
  conv => whnf
  exact yT (yw [0] d1 rfl rfl (by first | exact ⟨rfl, trivial⟩ | exact ⟨rfl, rfl, trivial⟩ | exact ⟨rfl, rfl, rfl, trivial⟩) rfl rfl rfl rfl rfl rfl) rfl rfl
 have c1 := c1 rfl
 refine xV ?_
 conv => whnf
 repeat ((first | refine qz ?_ | refine qr (xB [0] (c1) rfl rfl (by first | exact ⟨rfl, trivial⟩ | exact ⟨rfl, rfl, trivial⟩ | exact ⟨rfl, rfl, rfl, trivial⟩) rfl rfl (by first | exact trivial | exact ⟨⟨rfl, rfl, rfl⟩, trivial⟩ | exact ⟨⟨rfl, rfl, rfl⟩, ⟨rfl, rfl, rfl⟩, trivial⟩ | exact ⟨⟨rfl, rfl, rfl⟩, ⟨rfl, rfl, rfl⟩, ⟨rfl, rfl, rfl⟩, trivial⟩) rfl rfl rfl (.inl rfl) rfl) ?_ | refine qr (jH (n := N) (by omega) (by omega) rfl rfl rfl rfl) ?_); conv => whnf)
 refine yN (xV ?_)
 conv => whnf
 have hlenr : (List.replicate N (AV.agg [.v (.string ByteArray.empty), .v (.int .i64 0)])).length = N := by simp
 repeat ((first | refine qp (zf (m := N) rfl rfl hlenr ⟨_, _, _, _, rfl⟩) ?_ | refine qz ?_); conv => whnf)
 have hrow : List.replicate N (AV.agg [.v (.string ByteArray.empty), .v (.int .i64 0)]) = (([] : List Ent) ++ List.replicate (N - 0) ((ByteArray.empty, 0) : Ent)).map yP := by simp [yP]
 refine vK (aC7 (ι := { p : List Ent × Nat // p.1.length ≤ N ∧ p.2 ≤ t.size ∧ (rdL (rdE t) (N - p.1.length) (p.2, false)).2.2 = true }) (fun p => ⟨[(2, .fn 52 [.optr 0 0 [] 0] []), (7, .own 13), (14, .v (.int .i64 (N : Int))), (15, .v (.int .i64 (p.1.1.length : Int)))], [(0, rdP t p.1.2), (13, ⟨70, 2, (p.1.1 ++ List.replicate (N - p.1.1.length) ((ByteArray.empty, 0) : Ent)).map yP⟩)]⟩) (fun p => N - p.1.1.length) ⟨([], a), Nat.zero_le _, ha, by simpa using h⟩ ⟨⟨rfl, congrArg (fun x => some (OB.mk _ _ x)) hrow, trivial⟩, .inl ⟨rfl, rfl⟩, .inl ⟨rfl, rfl⟩, .inl ⟨rfl, rfl⟩, .inl ⟨rfl, rfl⟩, trivial⟩ ?_)
 rintro ⟨⟨acc, p⟩, hk, hp, hr⟩
 dsimp only at hk hp hr ⊢
 have hlt : acc.length < N := by
  rcases Nat.lt_or_ge acc.length N with h' | h'
  · exact h'
  · rw [show N - acc.length = 0 by omega] at hr; cases hr
 obtain ⟨r, hrr⟩ : ∃ r, N - acc.length = r + 1 := ⟨N - acc.length - 1, by omega⟩
 rw [hrr] at hr ⊢
 simp only [rdL] at hr
 have c2 := fun h => aJE (t := t) (i := p) ht hp h
 have d2 := fun h => aKL (t := t) (i := p) ht hp h
 have hok := aIG (t := t) (s := (p, false)) ⟨by omega, hp⟩
 skip
 generalize rdE t (p, false) = R at hr c2 d2 hok
 obtain ⟨v, q, bad⟩ := R
 dsimp only at hr c2 d2 hok
 cases bad
 · right
   have c2 := c2 rfl
   have hlt2 : acc.length < (acc ++ List.replicate (r + 1) ((ByteArray.empty, 0) : Ent)).length := by simp
   have hset := aAZ yP acc ((ByteArray.empty, 0) : Ent) v r
   conv => whnf
   repeat ((first | refine qz ?_ | refine qr (xB [0] (c2) rfl rfl (by first | exact ⟨rfl, trivial⟩ | exact ⟨rfl, rfl, trivial⟩ | exact ⟨rfl, rfl, rfl, trivial⟩) rfl rfl (by first | exact trivial | exact ⟨⟨rfl, rfl, rfl⟩, trivial⟩ | exact ⟨⟨rfl, rfl, rfl⟩, ⟨rfl, rfl, rfl⟩, trivial⟩ | exact ⟨⟨rfl, rfl, rfl⟩, ⟨rfl, rfl, rfl⟩, ⟨rfl, rfl, rfl⟩, trivial⟩) rfl rfl rfl (.inl rfl) rfl) ?_ | refine qp (uU (by simp) rfl rfl rfl rfl rfl) ?_ | refine qr (vE (vB _ hlt2) rfl rfl rfl rfl rfl rfl) ?_); conv => whnf)
   have hl : (acc ++ [v]).length = acc.length + 1 := by simp
   refine ⟨⟨(acc ++ [v], q), by dsimp only; omega, hok.2, by dsimp only; rw [show N - (acc ++ [v]).length = r by omega]; exact hr⟩, ⟨⟨rfl, ?_, trivial⟩, .inl ⟨rfl, rfl⟩, .inl ⟨rfl, rfl⟩, .inl ⟨rfl, rfl⟩, .inl ⟨?_, rfl⟩, trivial⟩, by dsimp only; omega⟩
   · dsimp only
     rw [show N - (acc ++ [v]).length = r by omega]
     exact congrArg (fun x => some (OB.mk _ _ x)) hset
   · show AV.v (.int .i64 ((acc.length : Int) + 1)) = AV.v (.int .i64 ((acc ++ [v]).length : Int))
     rw [hl]; rfl
 · left
   have d2 := d2 rfl
   refine xV ?_
   conv => whnf
   repeat ((refine qz ?_; conv => whnf))
   refine xV ?_
   conv => whnf
   refine yN (vK (xV ?_))
   conv => whnf
   refine zD ?_
   conv => whnf
   exact yT (yw [0] d2 rfl rfl (by first | exact ⟨rfl, trivial⟩ | exact ⟨rfl, rfl, trivial⟩ | exact ⟨rfl, rfl, rfl, trivial⟩) rfl rfl rfl rfl rfl rfl) rfl rfl
set_option maxHeartbeats 2000000 in
theorem aKJ {t : ByteArray} {i m : Nat} (ht : t.size ≤ 65536) (hi : i ≤ t.size) (hm : m ≤ 100) (h : (rdL (zK t) (rdC t m (i, false)).1 (rdC t m (i, false)).2).2.2 = false) :
 ACG Tryd.prog 60 [.optr 0 0 [] 0, .v (.int .i64 (m : Int)), .fn 61 [.optr 0 0 [] 0] []] [rdP t i] [rdP t (rdL (zK t) (rdC t m (i, false)).1 (rdC t m (i, false)).2).2.1] ⟨.own 0, [⟨79, 4, (rdL (zK t) (rdC t m (i, false)).1 (rdC t m (i, false)).2).1.map xh⟩]⟩ := by
 have hC := yS (m := m) (t := t) (s := (i, false)) ⟨by omega, hi⟩
 have c1 := fun h => kE (m := m) ht hi h
 generalize rdC t m (i, false) = R at h c1 hC ⊢
 obtain ⟨N, a, bad⟩ := R
 dsimp only at h c1 hC ⊢
 obtain ⟨⟨_, ha⟩, hN⟩ := hC
 dsimp only at ha hN
 cases bad
 case true => rw [zi (fun s h => aCM h) rfl] at h; cases h
 have c1 := c1 rfl
 have hlen := aAL (f := zK t) (n := N) (s := (a, false))
 obtain ⟨⟨PL, PS⟩, hP⟩ : ∃ P, rdL (zK t) N (a, false) = P := ⟨_, rfl⟩
 rw [hP] at h hlen ⊢
 dsimp only at h hlen ⊢
 subst hlen
 have hlenr : (List.replicate PL.length (AV.agg [.v (.string ByteArray.empty), .v (.int .i64 0), .v (.int .i64 0), .v (.bool false)])).length = PL.length := by simp
 refine xX (rs := [.tmp 6]) xJ (by kernel_rfl) Tryd.func60 rfl Tryd.ntmps60 (by rw [Tryd.results60]) (by kernel_rfl) (by simp) rfl rfl (xE _ _ _ ?_); conv => whnf
 repeat ((first | refine qp (zf (m := PL.length) rfl rfl hlenr ⟨_, _, _, _, rfl⟩) ?_ | refine qz ?_ | refine qr (xB [0] (c1) rfl rfl (by first | exact ⟨rfl, trivial⟩ | exact ⟨rfl, rfl, trivial⟩ | exact ⟨rfl, rfl, rfl, trivial⟩) rfl rfl (by first | exact trivial | exact ⟨⟨rfl, rfl, rfl⟩, trivial⟩ | exact ⟨⟨rfl, rfl, rfl⟩, ⟨rfl, rfl, rfl⟩, trivial⟩ | exact ⟨⟨rfl, rfl, rfl⟩, ⟨rfl, rfl, rfl⟩, ⟨rfl, rfl, rfl⟩, trivial⟩) rfl rfl rfl (.inl rfl) rfl) ?_ | refine qr (jH (n := PL.length) (by omega) (by omega) rfl rfl rfl rfl) ?_); conv => whnf)
 have hrow : List.replicate PL.length (AV.agg [.v (.string ByteArray.empty), .v (.int .i64 0), .v (.int .i64 0), .v (.bool false)]) = (PL.take 0 ++ List.replicate (PL.length - 0) (⟨ByteArray.empty, 0, 0, false⟩ : Rf)).map xh := by simp [xh]
 refine xZ (ι := { p : Nat × Nat // p.1 ≤ PL.length ∧ p.2 ≤ t.size ∧ rdL (zK t) (PL.length - p.1) (p.2, false) = (PL.drop p.1, PS) ∧ (p.1 = PL.length → p.2 = PS.1) }) (fun p => ⟨[(2, .fn 61 [.optr 0 0 [] 0] []), (7, .own 13), (14, .v (.int .i64 (PL.length : Int))), (15, .v (.int .i64 (p.1.1 : Int)))], [(0, rdP t p.1.2), (13, ⟨79, 4, (PL.take p.1.1 ++ List.replicate (PL.length - p.1.1) (⟨ByteArray.empty, 0, 0, false⟩ : Rf)).map xh⟩)]⟩) (fun p => PL.length - p.1.1) ⟨(0, a), Nat.zero_le _, ha, by simpa using hP, fun e => (by
  have e' : PL.length = 0 := e.symm
  rw [e'] at hP
  simp only [rdL, Prod.mk.injEq] at hP
  rw [← hP.2])⟩ ⟨⟨rfl, congrArg (fun x => some (OB.mk _ _ x)) hrow, trivial⟩, .inl ⟨rfl, rfl⟩, .inl ⟨rfl, rfl⟩, .inl ⟨rfl, rfl⟩, .inl ⟨rfl, rfl⟩, trivial⟩ ?_
 rintro ⟨⟨k, p⟩, hk, hp, hr, he⟩
 dsimp only at hk hp hr he ⊢
 conv => whnf
 by_cases hlt : k < PL.length
 · obtain ⟨r, hrr⟩ : ∃ r, PL.length - k = r + 1 := ⟨PL.length - k - 1, by omega⟩
   rw [hrr] at hr
   obtain ⟨hv, hr2⟩ := aAd hlt hr
   have hr2' : rdL (zK t) (PL.length - (k + 1)) (zK t (p, false)).2 = (PL.drop (k + 1), PS) := by rw [show PL.length - (k + 1) = r by omega]; exact hr2
   have c2 := fun h => aJG (t := t) (i := p) ht hp h
   have hok := (fun {t s} h => (aD2 (t := t) (s := s) h).1) (t := t) (s := (p, false)) ⟨by omega, hp⟩
   have hlt2 : k < (PL.take k ++ List.replicate (PL.length - k) (⟨ByteArray.empty, 0, 0, false⟩ : Rf)).length := by simp; omega
   have hset := congrArg (List.map xh) (aA1 PL (⟨ByteArray.empty, 0, 0, false⟩ : Rf) k hlt)
   rw [List.map_set] at hset
   rw [← hv] at hset
   clear hv hr hr2
   skip
   generalize zK t (p, false) = R at hr2' c2 hok hset
   obtain ⟨v, q, bad⟩ := R
   dsimp only at hr2' c2 hok hset
   cases bad
   case true =>
    have := zi (f := zK t) (fun s h => aCM h) (n := PL.length - (k + 1)) (s := (q, true)) rfl
    rw [hr2'] at this
    rw [h] at this; cases this
   have c2 := c2 rfl
   repeat ((first | refine qz ?_ | refine qr (xB [0] (c2) rfl rfl (by first | exact ⟨rfl, trivial⟩ | exact ⟨rfl, rfl, trivial⟩ | exact ⟨rfl, rfl, rfl, trivial⟩) rfl rfl (by first | exact trivial | exact ⟨⟨rfl, rfl, rfl⟩, trivial⟩ | exact ⟨⟨rfl, rfl, rfl⟩, ⟨rfl, rfl, rfl⟩, trivial⟩ | exact ⟨⟨rfl, rfl, rfl⟩, ⟨rfl, rfl, rfl⟩, ⟨rfl, rfl, rfl⟩, trivial⟩) rfl rfl rfl (.inl rfl) rfl) ?_ | refine qp (uU (by simpa using hlt2) rfl rfl rfl rfl rfl) ?_ | refine qr (vE (vB _ hlt2) rfl rfl rfl rfl rfl rfl) ?_); conv => whnf)
   exact ⟨⟨(k + 1, q), hlt, hok.2, hr2', fun e => (by
    have e' : k + 1 = PL.length := e
    rw [e', Nat.sub_self] at hr2'
    simp only [rdL, Prod.mk.injEq] at hr2'
    rw [← hr2'.2])⟩, ⟨⟨rfl, congrArg (fun x => some (OB.mk _ _ x)) hset, trivial⟩, .inl ⟨rfl, rfl⟩, .inl ⟨rfl, rfl⟩, .inl ⟨rfl, rfl⟩, .inl ⟨rfl, rfl⟩, trivial⟩, by dsimp only; omega⟩
 · have hkk : k = PL.length := by omega
   rw [he hkk]
   subst hkk
   repeat ((refine qz ?_; conv => whnf))
   exact aCw rfl rfl (by show some (OB.mk _ _ _) = _; rw [List.take_length, Nat.sub_self, List.replicate_zero, List.append_nil])
set_option maxHeartbeats 2000000 in
theorem aJ2 {t : ByteArray} {i m : Nat} (ht : t.size ≤ 65536) (hi : i ≤ t.size) (hm : m ≤ 100) (h : (rdL (zK t) (rdC t m (i, false)).1 (rdC t m (i, false)).2).2.2 = true) :
 ACP Tryd.prog 60 [.optr 0 0 [] 0, .v (.int .i64 (m : Int)), .fn 61 [.optr 0 0 [] 0] []] [rdP t i] pvM := by
 have hC := yS (m := m) (t := t) (s := (i, false)) ⟨by omega, hi⟩
 have c1 := fun h => kE (m := m) ht hi h
 have d1 := fun h => ql (m := m) ht hi h
 generalize rdC t m (i, false) = R at h c1 d1 hC
 obtain ⟨N, a, bad⟩ := R
 dsimp only at h c1 d1 hC
 obtain ⟨⟨_, ha⟩, hN⟩ := hC
 dsimp only at ha hN
 refine uJ xJ (by kernel_rfl) Tryd.func60 rfl Tryd.ntmps60 (by kernel_rfl) (by simp) ?_
 refine xV ?_
 conv => whnf
 cases bad
 case true =>
  have d1 := d1 rfl
  refine yN (zD ?_)
  conv => whnf
  exact yT (yw [0] d1 rfl rfl (by first | exact ⟨rfl, trivial⟩ | exact ⟨rfl, rfl, trivial⟩ | exact ⟨rfl, rfl, rfl, trivial⟩) rfl rfl rfl rfl rfl rfl) rfl rfl
 have c1 := c1 rfl
 refine xV ?_
 conv => whnf
 repeat ((first | refine qz ?_ | refine qr (xB [0] (c1) rfl rfl (by first | exact ⟨rfl, trivial⟩ | exact ⟨rfl, rfl, trivial⟩ | exact ⟨rfl, rfl, rfl, trivial⟩) rfl rfl (by first | exact trivial | exact ⟨⟨rfl, rfl, rfl⟩, trivial⟩ | exact ⟨⟨rfl, rfl, rfl⟩, ⟨rfl, rfl, rfl⟩, trivial⟩ | exact ⟨⟨rfl, rfl, rfl⟩, ⟨rfl, rfl, rfl⟩, ⟨rfl, rfl, rfl⟩, trivial⟩) rfl rfl rfl (.inl rfl) rfl) ?_ | refine qr (jH (n := N) (by omega) (by omega) rfl rfl rfl rfl) ?_); conv => whnf)
 refine yN (xV ?_)
 conv => whnf
 have hlenr : (List.replicate N (AV.agg [.v (.string ByteArray.empty), .v (.int .i64 0), .v (.int .i64 0), .v (.bool false)])).length = N := by simp
 repeat ((first | refine qp (zf (m := N) rfl rfl hlenr ⟨_, _, _, _, rfl⟩) ?_ | refine qz ?_); conv => whnf)
 have hrow : List.replicate N (AV.agg [.v (.string ByteArray.empty), .v (.int .i64 0), .v (.int .i64 0), .v (.bool false)]) = (([] : List Rf) ++ List.replicate (N - 0) (⟨ByteArray.empty, 0, 0, false⟩ : Rf)).map xh := by simp [xh]
 refine vK (aC7 (ι := { p : List Rf × Nat // p.1.length ≤ N ∧ p.2 ≤ t.size ∧ (rdL (zK t) (N - p.1.length) (p.2, false)).2.2 = true }) (fun p => ⟨[(2, .fn 61 [.optr 0 0 [] 0] []), (7, .own 13), (14, .v (.int .i64 (N : Int))), (15, .v (.int .i64 (p.1.1.length : Int)))], [(0, rdP t p.1.2), (13, ⟨79, 4, (p.1.1 ++ List.replicate (N - p.1.1.length) (⟨ByteArray.empty, 0, 0, false⟩ : Rf)).map xh⟩)]⟩) (fun p => N - p.1.1.length) ⟨([], a), Nat.zero_le _, ha, by simpa using h⟩ ⟨⟨rfl, congrArg (fun x => some (OB.mk _ _ x)) hrow, trivial⟩, .inl ⟨rfl, rfl⟩, .inl ⟨rfl, rfl⟩, .inl ⟨rfl, rfl⟩, .inl ⟨rfl, rfl⟩, trivial⟩ ?_)
 rintro ⟨⟨acc, p⟩, hk, hp, hr⟩
 dsimp only at hk hp hr ⊢
 have hlt : acc.length < N := by
  rcases Nat.lt_or_ge acc.length N with h' | h'
  · exact h'
  · rw [show N - acc.length = 0 by omega] at hr; cases hr
 obtain ⟨r, hrr⟩ : ∃ r, N - acc.length = r + 1 := ⟨N - acc.length - 1, by omega⟩
 rw [hrr] at hr ⊢
 simp only [rdL] at hr
 have c2 := fun h => aJG (t := t) (i := p) ht hp h
 have d2 := fun h => aKN (t := t) (i := p) ht hp h
 have hok := (fun {t s} h => (aD2 (t := t) (s := s) h).1) (t := t) (s := (p, false)) ⟨by omega, hp⟩
 skip
 generalize zK t (p, false) = R at hr c2 d2 hok
 obtain ⟨v, q, bad⟩ := R
 dsimp only at hr c2 d2 hok
 cases bad
 · right
   have c2 := c2 rfl
   have hlt2 : acc.length < (acc ++ List.replicate (r + 1) (⟨ByteArray.empty, 0, 0, false⟩ : Rf)).length := by simp
   have hset := aAZ xh acc (⟨ByteArray.empty, 0, 0, false⟩ : Rf) v r
   conv => whnf
   repeat ((first | refine qz ?_ | refine qr (xB [0] (c2) rfl rfl (by first | exact ⟨rfl, trivial⟩ | exact ⟨rfl, rfl, trivial⟩ | exact ⟨rfl, rfl, rfl, trivial⟩) rfl rfl (by first | exact trivial | exact ⟨⟨rfl, rfl, rfl⟩, trivial⟩ | exact ⟨⟨rfl, rfl, rfl⟩, ⟨rfl, rfl, rfl⟩, trivial⟩ | exact ⟨⟨rfl, rfl, rfl⟩, ⟨rfl, rfl, rfl⟩, ⟨rfl, rfl, rfl⟩, trivial⟩) rfl rfl rfl (.inl rfl) rfl) ?_ | refine qp (uU (by simp) rfl rfl rfl rfl rfl) ?_ | refine qr (vE (vB _ hlt2) rfl rfl rfl rfl rfl rfl) ?_); conv => whnf)
   have hl : (acc ++ [v]).length = acc.length + 1 := by simp
   refine ⟨⟨(acc ++ [v], q), by dsimp only; omega, hok.2, by dsimp only; rw [show N - (acc ++ [v]).length = r by omega]; exact hr⟩, ⟨⟨rfl, ?_, trivial⟩, .inl ⟨rfl, rfl⟩, .inl ⟨rfl, rfl⟩, .inl ⟨rfl, rfl⟩, .inl ⟨?_, rfl⟩, trivial⟩, by dsimp only; omega⟩
   · dsimp only
     rw [show N - (acc ++ [v]).length = r by omega]
     exact congrArg (fun x => some (OB.mk _ _ x)) hset
   · show AV.v (.int .i64 ((acc.length : Int) + 1)) = AV.v (.int .i64 ((acc ++ [v]).length : Int))
     rw [hl]; rfl
 · left
   have d2 := d2 rfl
   refine xV ?_
   conv => whnf
   repeat ((refine qz ?_; conv => whnf))
   refine xV ?_
   conv => whnf
   refine yN (vK (xV ?_))
   conv => whnf
   refine zD ?_
   conv => whnf
   exact yT (yw [0] d2 rfl rfl (by first | exact ⟨rfl, trivial⟩ | exact ⟨rfl, rfl, trivial⟩ | exact ⟨rfl, rfl, rfl, trivial⟩) rfl rfl rfl rfl rfl rfl) rfl rfl
end Go.Proofs.YtoaifonjemlfcaaDoor.AM
namespace Go.Proofs.YtoaifonjemlfcaaDoor.AM
open Go Go.RowKit
theorem aLA {P : Program} {t : TypeId} {x y : Operand} {k : IntKind} {a b : Int} : yZ P .eql t x y (.int k a) (.int k b) (.bool (decide (a = b))) := by
 by_cases h : a = b
 · rw [decide_eq_true h]; exact kF h
 · rw [decide_eq_false h]; exact jk h
attribute [local irreducible] xM xO xg yE y7 Pre ACG
set_option maxHeartbeats 16000000 in
theorem aGd {t : ByteArray} (ht : t.size ≤ 65536) : AC Tryd.prog 32 [.v (.string t)] ⟨.tup [vP (if dK t = 0 then dB t else ⟨[], []⟩), .v (.int .i64 (dK t))], []⟩ := by
 cases hh : zJ t
 · have eK : dK t = 3 := by unfold dK; rw [if_pos hh]
   rw [eK, if_neg (by decide)]
   by_cases h3 : 3 ≤ t.size
   · have hne : t.extract 0 3 ≠ brB := fun e => by unfold zJ at hh; rw [decide_eq_true h3, decide_eq_true e] at hh; cases hh
     refine qrf Tryd.func32 Tryd.ntmps32 Tryd.results32 ?_; conv => whnf
     repeat ((first | refine qp (qQ (j := 3) h3 rfl rfl) ?_ | refine qp (xG (aJ3 hne) rfl rfl rfl) ?_ | refine qz ?_ | refine qst ?_); conv => whnf)
     exact yu rfl rfl rfl rfl trivial rfl
   · refine qrf Tryd.func32 Tryd.ntmps32 Tryd.results32 ?_; conv => whnf
     repeat ((first | refine qz ?_ | refine qst ?_); conv => whnf)
     exact yu rfl rfl rfl rfl trivial rfl
 have h3 : 3 ≤ t.size := by unfold zJ at hh; simp only [Bool.and_eq_true, decide_eq_true_eq] at hh; exact hh.1
 have hne : t.extract 0 3 = brB := by unfold zJ at hh; simp only [Bool.and_eq_true, decide_eq_true_eq] at hh; exact hh.2
 have hok : yH t (3, false) := ⟨by omega, h3⟩
 have c1 := je (m := 60) hok (by omega)
 have b1 := yS (m := 60) hok
 obtain ⟨⟨n1, s1⟩, e1⟩ : ∃ R, rdC t 60 (3, false) = R := ⟨_, rfl⟩
 rw [e1] at c1 b1
 obtain ⟨⟨CL, CS⟩, e2⟩ : ∃ R, vF t n1 s1 = R := ⟨_, rfl⟩
 have edC : dC t = (CL, CS) := by unfold dC; rw [e1]; exact e2
 have b2 := aB5 (n := n1) b1.1
 rw [e2] at b2
 dsimp only at c1 b1 b2
 have c3 := je (m := 8) b2.1 (by omega)
 have b3 := yS (m := 8) b2.1
 obtain ⟨⟨n2, s3⟩, e3⟩ : ∃ R, rdC t 8 CS = R := ⟨_, rfl⟩
 rw [e3] at c3 b3
 obtain ⟨⟨RL, RS⟩, e4⟩ : ∃ R, vG t n2 s3 = R := ⟨_, rfl⟩
 have edR : dR t = (RL, RS) := by unfold dR; rw [edC, e3]; exact e4
 have b4 := aB8 (n := n2) b3.1
 rw [e4] at b4
 dsimp only at c3 b3 b4
 have c6 := jf b4.1
 have b6 := zN b4.1
 obtain ⟨⟨sm, at_, bd⟩, e6⟩ : ∃ R, rdN t RS = R := ⟨_, rfl⟩
 have edS : dS t = (sm, at_, bd) := by unfold dS; rw [edR]; exact e6
 rw [e6] at c6 b6
 dsimp only at c6 b6
 have hbo : (⟨CL, RL⟩ : Bas).ok maxLen := ⟨(by show CL.length ≤ maxLen; unfold maxLen; omega), b2.2.2, (by show RL.length ≤ maxLen; unfold maxLen; omega), b4.2.2⟩
 have c8 := aI4 hbo
 have edB : dB t = ⟨CL, RL⟩ := by unfold dB; rw [edC, edR]
 have eK : dK t = (if bd = true ∨ at_ ≠ t.size then 3 else if (sm : Int) ≠ aAi (t.extract 0 RS.1) then 13 else if kG ⟨CL, RL⟩ = true then 0 else 1) := by
  unfold dK; rw [hh, if_neg (by simp), edS, edR, edB]
 rw [eK, edB]
 have hRS := b4.1.2
 have c7 := aHT (t := t.extract 0 RS.1) (by rw [ByteArray.size_extract]; unfold maxLen; omega)
 clear hh eK edB edS edR edC hbo
 refine qrf Tryd.func32 Tryd.ntmps32 Tryd.results32 ?_; conv => whnf
 repeat ((first | refine qp (qQ (j := 3) h3 rfl rfl) ?_ | refine qp (xG (aBV hne) rfl rfl rfl) ?_ | refine qz ?_); conv => whnf)
 refine qr (qE rfl ⟨⟨_, _, rfl, rfl, rfl⟩, ⟨_, _, rfl, rfl, rfl⟩, trivial⟩ rfl) ?_
 conv => whnf
 repeat ((first | refine qz ?_ | refine qr (xW rfl rfl rfl rfl rfl rfl) ?_ | refine qr (xB [23] (c1) rfl rfl (by first | exact ⟨rfl, trivial⟩ | exact ⟨rfl, rfl, trivial⟩ | exact ⟨rfl, rfl, rfl, trivial⟩) rfl rfl (by first | exact trivial | exact ⟨⟨rfl, rfl, rfl⟩, trivial⟩ | exact ⟨⟨rfl, rfl, rfl⟩, ⟨rfl, rfl, rfl⟩, trivial⟩ | exact ⟨⟨rfl, rfl, rfl⟩, ⟨rfl, rfl, rfl⟩, ⟨rfl, rfl, rfl⟩, trivial⟩) rfl rfl rfl (.inl rfl) rfl) ?_); conv => whnf)
 refine xZ (ι := { p : Nat × List Cmt × Rds // p.1 ≤ 60 ∧ yH t p.2.2 ∧ p.2.1.length + p.1 ≤ 60 ∧ p.2.1 ++ (vF t p.1 p.2.2).1 = CL ∧ (vF t p.1 p.2.2).2 = CS }) (fun p => ⟨[(0, .v (.string t)), (2, .optr 3 0 [] 0), (4, .optr 23 0 [] 0), (5, .optr 6 0 [] 0), (6, .v (.int .i64 (p.1.1 : Int)))], [(3, ⟨.z 37, 2, [.agg [.lst 2 [], .lst 4 []]]⟩), (6, ⟨.o (some 37) 0 (.mix [.own 24, .own 25]), 2, [.agg [.lst 2 [], .lst 4 []]]⟩), (23, vQ t p.1.2.2), (24, ⟨28, 2, p.1.2.1.map xP⟩), (25, ⟨79, 4, []⟩)]⟩) (fun p => p.1.1) ⟨(n1, [], s1), b1.2, b1.1, by simpa using b1.2, by simp [e2], by simp [e2]⟩ (by exact qle) ?_
 rintro ⟨⟨k, l, a2, bad⟩, hk, hs2, hl, hp1, hp2⟩
 dsimp only at hk hs2 hl hp1 hp2 ⊢
 conv => whnf
 by_cases hgo : 0 < k ∧ bad = false
 · obtain ⟨hk0, rfl⟩ := hgo
   obtain ⟨k, rfl⟩ : ∃ j, k = j + 1 := ⟨k - 1, by omega⟩
   rw [vF, if_neg (by simp)] at hp1 hp2
   have c2 := aJV hs2
   have hb2 := kR hs2
   generalize rdM t (a2, false) = R at c2 hb2 hp1 hp2
   obtain ⟨m, s3'⟩ := R
   dsimp only at c2 hb2 hp1 hp2
   repeat ((refine qz ?_; conv => whnf))
   (refine qdr ?_; conv => whnf)
   repeat ((refine qz ?_; conv => whnf))
   refine zW (xB [23] c2 rfl rfl (by first | exact ⟨rfl, trivial⟩ | exact ⟨rfl, rfl, trivial⟩ | exact ⟨rfl, rfl, rfl, trivial⟩) rfl rfl (by first | exact trivial | exact ⟨⟨rfl, rfl, rfl⟩, trivial⟩ | exact ⟨⟨rfl, rfl, rfl⟩, ⟨rfl, rfl, rfl⟩, trivial⟩ | exact ⟨⟨rfl, rfl, rfl⟩, ⟨rfl, rfl, rfl⟩, ⟨rfl, rfl, rfl⟩, trivial⟩) rfl rfl rfl (.inl rfl) rfl) rfl rfl (fun _ => .inr (.inr (uY (l := 23) (by kernel_rfl) (by kernel_rfl)))) ?_
   conv => whnf
   refine zW (aBH rfl rfl rfl rfl rfl rfl) rfl rfl (fun _ => .inr (.inr (uY (by kernel_rfl) (by kernel_rfl)))) ?_
   conv => whnf
   refine zW (ja (f := xP) (xs := l) m (l ++ [m]) rfl (by omega) rfl rfl rfl rfl rfl rfl rfl) rfl rfl (fun _ => .inr (.inr (qK (by kernel_rfl) (by kernel_rfl)))) ?_
   conv => whnf
   repeat ((first | refine qp (xG (wB (c := (k : Int)) (by omega) (by omega) (by omega)) rfl rfl rfl) ?_ | refine qz ?_ | refine qr (xW rfl rfl rfl rfl rfl rfl) ?_); conv => whnf)
   exact ⟨⟨(k, l ++ [m], s3'), by dsimp only; omega, hb2.1, by simp; omega, by simpa using hp1, hp2⟩, by exact qle, by dsimp only; omega⟩
 have hex : vF t k (a2, bad) = ([], (a2, bad)) := by
  cases k with
  | zero => rfl
  | succ k =>
   have : bad = true := by cases bad; exact absurd ⟨Nat.succ_pos _, rfl⟩ hgo; rfl
   rw [vF, if_pos this]
 rw [hex] at hp1 hp2
 simp only [List.append_nil] at hp1 hp2
 subst hp1 hp2
 have hcd : k = 0 ∨ (0 < k ∧ bad = true) := by
  rcases Nat.eq_zero_or_pos k with h | h
  · exact .inl h
  · right
    cases bad
    · exact absurd ⟨h, rfl⟩ hgo
    · exact ⟨h, rfl⟩
 rcases hcd with hk0 | ⟨hk0, rfl⟩
 all_goals
  repeat ((first | refine qz ?_ | refine qr (xB [23] (c3) rfl rfl (by first | exact ⟨rfl, trivial⟩ | exact ⟨rfl, rfl, trivial⟩ | exact ⟨rfl, rfl, rfl, trivial⟩) rfl rfl (by first | exact trivial | exact ⟨⟨rfl, rfl, rfl⟩, trivial⟩ | exact ⟨⟨rfl, rfl, rfl⟩, ⟨rfl, rfl, rfl⟩, trivial⟩ | exact ⟨⟨rfl, rfl, rfl⟩, ⟨rfl, rfl, rfl⟩, ⟨rfl, rfl, rfl⟩, trivial⟩) rfl rfl rfl (.inl rfl) rfl) ?_); conv => whnf)
  refine xZ (ι := { p : Nat × List Rf × Rds // p.1 ≤ 8 ∧ yH t p.2.2 ∧ p.2.1.length + p.1 ≤ 8 ∧ p.2.1 ++ (vG t p.1 p.2.2).1 = RL ∧ (vG t p.1 p.2.2).2 = RS }) (fun p => ⟨[(0, .v (.string t)), (2, .optr 3 0 [] 0), (4, .optr 23 0 [] 0), (5, .optr 6 0 [] 0), (7, .v (.int .i64 (p.1.1 : Int)))], [(3, ⟨.z 37, 2, [.agg [.lst 2 [], .lst 4 []]]⟩), (6, ⟨.o (some 37) 0 (.mix [.own 24, .own 25]), 2, [.agg [.lst 2 [], .lst 4 []]]⟩), (23, vQ t p.1.2.2), (24, ⟨28, 2, l.map xP⟩), (25, ⟨79, 4, p.1.2.1.map xh⟩)]⟩) (fun p => p.1.1) ⟨(n2, [], s3), b3.2, b3.1, by simpa using b3.2, by simp [e4], by simp [e4]⟩ (by exact qle) ?_
  rintro ⟨⟨k', l', a2', bad'⟩, hk', hs2', hl', hp1, hp2⟩
  dsimp only at hk' hs2' hl' hp1 hp2 ⊢
  conv => whnf
  by_cases hgo' : 0 < k' ∧ bad' = false
  · obtain ⟨hk0', rfl⟩ := hgo'
    obtain ⟨k', rfl⟩ : ∃ j, k' = j + 1 := ⟨k' - 1, by omega⟩
    rw [vG, if_neg (by simp)] at hp1 hp2
    have q1 := aEk hs2'
    have w1 := wU hs2'
    unfold zK at hp1 hp2
    dsimp only at hp1 hp2
    generalize rdW t (a2', false) = R at q1 w1 hp1 hp2
    obtain ⟨nm_, s5⟩ := R
    dsimp only at q1 w1 hp1 hp2
    have q2 := jf w1
    have w2 := zN w1
    generalize rdN t s5 = R at q2 w2 hp1 hp2
    obtain ⟨vr, s6⟩ := R
    dsimp only at q2 w2 hp1 hp2
    have q3 := jf w2.1
    have w3 := zN w2.1
    generalize rdN t s6 = R at q3 w3 hp1 hp2
    obtain ⟨hd_, s7⟩ := R
    dsimp only at q3 w3 hp1 hp2
    repeat ((first | refine qz ?_ | refine qr (xB [23] (q1) rfl rfl (by first | exact ⟨rfl, trivial⟩ | exact ⟨rfl, rfl, trivial⟩ | exact ⟨rfl, rfl, rfl, trivial⟩) rfl rfl (by first | exact trivial | exact ⟨⟨rfl, rfl, rfl⟩, trivial⟩ | exact ⟨⟨rfl, rfl, rfl⟩, ⟨rfl, rfl, rfl⟩, trivial⟩ | exact ⟨⟨rfl, rfl, rfl⟩, ⟨rfl, rfl, rfl⟩, ⟨rfl, rfl, rfl⟩, trivial⟩) rfl rfl rfl (.inl rfl) rfl) ?_ | refine qr (xB [23] (q2) rfl rfl (by first | exact ⟨rfl, trivial⟩ | exact ⟨rfl, rfl, trivial⟩ | exact ⟨rfl, rfl, rfl, trivial⟩) rfl rfl (by first | exact trivial | exact ⟨⟨rfl, rfl, rfl⟩, trivial⟩ | exact ⟨⟨rfl, rfl, rfl⟩, ⟨rfl, rfl, rfl⟩, trivial⟩ | exact ⟨⟨rfl, rfl, rfl⟩, ⟨rfl, rfl, rfl⟩, ⟨rfl, rfl, rfl⟩, trivial⟩) rfl rfl rfl (.inl rfl) rfl) ?_ | refine qr (xB [23] (q3) rfl rfl (by first | exact ⟨rfl, trivial⟩ | exact ⟨rfl, rfl, trivial⟩ | exact ⟨rfl, rfl, rfl, trivial⟩) rfl rfl (by first | exact trivial | exact ⟨⟨rfl, rfl, rfl⟩, trivial⟩ | exact ⟨⟨rfl, rfl, rfl⟩, ⟨rfl, rfl, rfl⟩, trivial⟩ | exact ⟨⟨rfl, rfl, rfl⟩, ⟨rfl, rfl, rfl⟩, ⟨rfl, rfl, rfl⟩, trivial⟩) rfl rfl rfl (.inl rfl) rfl) ?_ | refine qst ?_ | refine qp (xG aLA rfl rfl rfl) ?_); conv => whnf)
    refine qr (ja (f := xh) (xs := l') (⟨nm_, (hd_ : Int), (vr : Int), decide ((hd_ : Int) = 0)⟩ : Rf) (l' ++ [(⟨nm_, (hd_ : Int), (vr : Int), decide ((hd_ : Int) = 0)⟩ : Rf)]) rfl (by omega) rfl rfl rfl rfl rfl rfl rfl) ?_
    conv => whnf
    repeat ((first | refine qp (xG (wB (c := (k' : Int)) (by omega) (by omega) (by omega)) rfl rfl rfl) ?_ | refine qz ?_ | refine qr (xW rfl rfl rfl rfl rfl rfl) ?_); conv => whnf)
    exact ⟨⟨(k', l' ++ [(⟨nm_, (hd_ : Int), (vr : Int), decide ((hd_ : Int) = 0)⟩ : Rf)], s7), by dsimp only; omega, w3.1, by simp; omega, by simpa using hp1, hp2⟩, by exact qle, by dsimp only; omega⟩
  have hex' : vG t k' (a2', bad') = ([], (a2', bad')) := by
   cases k' with
   | zero => rfl
   | succ k' =>
    have : bad' = true := by cases bad'; exact absurd ⟨Nat.succ_pos _, rfl⟩ hgo'; rfl
    rw [vG, if_pos this]
  rw [hex'] at hp1 hp2
  simp only [List.append_nil] at hp1 hp2
  subst hp1 hp2
  have hcd' : k' = 0 ∨ (0 < k' ∧ bad' = true) := by
   rcases Nat.eq_zero_or_pos k' with h | h
   · exact .inl h
   · right
     cases bad'
     · exact absurd ⟨h, rfl⟩ hgo'
     · exact ⟨h, rfl⟩
  rcases hcd' with hk0' | ⟨hk0', rfl⟩
  all_goals
   repeat ((first | refine qz ?_ | refine qr (xB [23] (c6) rfl rfl (by first | exact ⟨rfl, trivial⟩ | exact ⟨rfl, rfl, trivial⟩ | exact ⟨rfl, rfl, rfl, trivial⟩) rfl rfl (by first | exact trivial | exact ⟨⟨rfl, rfl, rfl⟩, trivial⟩ | exact ⟨⟨rfl, rfl, rfl⟩, ⟨rfl, rfl, rfl⟩, trivial⟩ | exact ⟨⟨rfl, rfl, rfl⟩, ⟨rfl, rfl, rfl⟩, ⟨rfl, rfl, rfl⟩, trivial⟩) rfl rfl rfl (.inl rfl) rfl) ?_); conv => whnf)
   by_cases y1 : bd = true ∨ at_ ≠ t.size
   case pos =>
    rw [if_pos y1, if_neg (by decide)]
    rcases y1 with rfl | y1
    · repeat ((first | refine qz ?_ | refine qst ?_); conv => whnf)
      exact yu rfl rfl rfl rfl trivial rfl
    · cases bd
      all_goals
       repeat ((first | refine qz ?_ | refine qst ?_); conv => whnf)
       exact yu rfl rfl rfl rfl trivial rfl
   rw [if_neg y1]
   have y2 : bd = false := by cases bd; rfl; exact absurd (.inl rfl) y1
   have y3 : at_ = t.size := Decidable.byContradiction fun e => y1 (.inr e)
   clear y1
   subst y2
   by_cases y4 : (sm : Int) ≠ aAi (t.extract 0 a2')
   case pos =>
    rw [if_pos y4, if_neg (by decide)]
    repeat ((first | refine qp (qQ (j := a2') hRS rfl rfl) ?_ | refine qz ?_ | refine qc (c7) ?_ | refine qst ?_); conv => whnf)
    exact yu rfl rfl rfl rfl trivial rfl
   rw [if_neg y4]
   have y5 : (sm : Int) = aAi (t.extract 0 a2') := Decidable.byContradiction fun e => y4 e
   clear y4
   cases hB : kG ⟨l, l'⟩
   · rw [hB] at c8
     rw [if_neg (by simp), if_neg (by decide)]
     repeat ((first | refine qp (qQ (j := a2') hRS rfl rfl) ?_ | refine qz ?_ | refine qc (c7) ?_ | refine qc (c8) ?_ | refine qst ?_); conv => whnf)
     exact yu rfl rfl rfl rfl trivial rfl
   · rw [hB] at c8
     rw [if_pos rfl, if_pos rfl]
     repeat ((first | refine qp (qQ (j := a2') hRS rfl rfl) ?_ | refine qz ?_ | refine qc (c7) ?_ | refine qc (c8) ?_ | refine qr (xW rfl rfl rfl rfl rfl rfl) ?_ | refine qst ?_); conv => whnf)
     exact aJs rfl rfl rfl rfl rfl rfl rfl
end Go.Proofs.YtoaifonjemlfcaaDoor.AM
namespace Go.Proofs.YtoaifonjemlfcaaDoor.AM
open Go Go.RowKit
theorem aIt {t : ByteArray} {n : Nat} {s : Rds} (h : s.2 = true) : (zo t n s).2.2 = true := by rw [aHE]; exact zi (fun s h => aD0 h) h
theorem aIs {t : ByteArray} {n : Nat} {s : Rds} (h : s.2 = true) : (uK t n s).2.2 = true := by rw [aHD]; exact zi (fun s h => aB6 h) h
theorem aD1 {t : ByteArray} {s : Rds} (h : s.2 = true) : (rdM t s).2.2 = true := aIs (aAK (aIt (aAK h)))
theorem aIr {t : ByteArray} {n : Nat} {s : Rds} (h : s.2 = true) : (vF t n s).2.2 = true := by
 cases n with
 | zero => exact h
 | succ n => unfold vF; rw [if_pos h]; exact h
theorem aF0 {t : ByteArray} {n : Nat} {s : Rds} (h : s.2 = true) : (vG t n s).2.2 = true := by
 cases n with
 | zero => exact h
 | succ n => unfold vG; rw [if_pos h]; exact h
theorem aFY {t : ByteArray} : ∀ {n : Nat} {s : Rds}, ((vF t n s).2.2 = false → rdL (rdM t) n s = vF t n s) ∧ ((vF t n s).2.2 = true → (rdL (rdM t) n s).2.2 = true)
 | 0, s => ⟨fun _ => rfl, fun h => h⟩
 | n + 1, s => by
  cases hs : s.2 with
  | true => exact ⟨fun h => (by rw [aIr hs] at h; cases h), fun _ => zi (fun s h => aD1 h) hs⟩
  | false =>
   have ih := aFY (t := t) (n := n) (s := (rdM t s).2)
   unfold vF
   rw [if_neg (by simp [hs])]
   refine ⟨fun h => ?_, fun h => ih.2 h⟩
   simp only [rdL]
   rw [ih.1 h]
theorem aF1 {t : ByteArray} : ∀ {n : Nat} {s : Rds}, ((vG t n s).2.2 = false → rdL (zK t) n s = vG t n s) ∧ ((vG t n s).2.2 = true → (rdL (zK t) n s).2.2 = true)
 | 0, s => ⟨fun _ => rfl, fun h => h⟩
 | n + 1, s => by
  cases hs : s.2 with
  | true => exact ⟨fun h => (by rw [aF0 hs] at h; cases h), fun _ => zi (fun s h => aCM h) hs⟩
  | false =>
   have ih := aF1 (t := t) (n := n) (s := (zK t s).2)
   unfold vG
   rw [if_neg (by simp [hs])]
   refine ⟨fun h => ?_, fun h => ih.2 h⟩
   simp only [rdL]
   rw [ih.1 h]
theorem aJS {t : ByteArray} {s : Rds} : rdM t s = (((rdL (rdI t) (rdC t 2 s).1 (rdC t 2 s).2).1, (rdL (rdE t) (rdC t 12 (rdL (rdI t) (rdC t 2 s).1 (rdC t 2 s).2).2).1 (rdC t 12 (rdL (rdI t) (rdC t 2 s).1 (rdC t 2 s).2).2).2).1), (rdL (rdE t) (rdC t 12 (rdL (rdI t) (rdC t 2 s).1 (rdC t 2 s).2).2).1 (rdC t 12 (rdL (rdI t) (rdC t 2 s).1 (rdC t 2 s).2).2).2).2) := by
 unfold rdM
 simp only [aHE, aHD]
theorem aFZ {α : Type} {t : ByteArray} {f : Rds → α × Rds} (hf : ∀ s, yH t s → yH t (f s).2) : ∀ {n : Nat} {s : Rds}, yH t s → yH t (rdL f n s).2
 | 0, s, h => h
 | n + 1, s, h => aFZ hf (n := n) (hf s h)
attribute [local irreducible] xM xO xg yE y7 Pre ACG
attribute [local irreducible] yM u7 z8 ACP
set_option maxHeartbeats 2000000 in
theorem aGe {t : ByteArray} {i : Nat} (ht : t.size ≤ 65536) (hi : i ≤ t.size) (h : (rdM t (i, false)).2.2 = false) : ACG Tryd.prog 24 [.optr 0 0 [] 0] [rdP t i] [rdP t (rdM t (i, false)).2.1] ⟨.mix [.own 0, .own 1], [⟨3, 1, (rdM t (i, false)).1.1.map xu⟩, ⟨70, 2, (rdM t (i, false)).1.2.map yP⟩]⟩ := by
 rw [aJS] at h ⊢
 have hok := aFZ (f := rdI t) (fun s h => aCy h) (n := (rdC t 2 (i, false)).1) (yS (m := 2) (t := t) (s := (i, false)) ⟨by omega, hi⟩).1
 have c1 := fun h => aHV (m := 2) ht hi (by omega) h
 generalize rdL (rdI t) (rdC t 2 (i, false)).1 (rdC t 2 (i, false)).2 = R at h hok c1 ⊢
 obtain ⟨PL, a, bad⟩ := R
 dsimp only at h hok c1 ⊢
 cases bad
 case true => rw [zi (fun s h => aB6 h) (aAK rfl)] at h; cases h
 have c1 := c1 rfl
 have c2 := aKI (m := 12) (t := t) (i := a) ht hok.2 (by omega) h
 generalize rdL (rdE t) (rdC t 12 (a, false)).1 (rdC t 12 (a, false)).2 = R2 at c2 ⊢
 obtain ⟨EL, b, bad⟩ := R2
 dsimp only at c2 ⊢
 refine xX (rs := [.cell 2 28]) xJ (by kernel_rfl) Tryd.func24 rfl Tryd.ntmps24 (by rw [Tryd.results24]) (by kernel_rfl) (by simp) rfl rfl (xE _ _ _ ?_)
 conv => whnf
 repeat ((first | refine qz ?_ | refine qr (xB [0] (c1) rfl rfl (by first | exact ⟨rfl, trivial⟩ | exact ⟨rfl, rfl, trivial⟩ | exact ⟨rfl, rfl, rfl, trivial⟩) rfl rfl (by first | exact trivial | exact ⟨⟨rfl, rfl, rfl⟩, trivial⟩ | exact ⟨⟨rfl, rfl, rfl⟩, ⟨rfl, rfl, rfl⟩, trivial⟩ | exact ⟨⟨rfl, rfl, rfl⟩, ⟨rfl, rfl, rfl⟩, ⟨rfl, rfl, rfl⟩, trivial⟩) rfl rfl rfl (.inl rfl) rfl) ?_ | refine qr (xB [0] (c2) rfl rfl (by first | exact ⟨rfl, trivial⟩ | exact ⟨rfl, rfl, trivial⟩ | exact ⟨rfl, rfl, rfl, trivial⟩) rfl rfl (by first | exact trivial | exact ⟨⟨rfl, rfl, rfl⟩, trivial⟩ | exact ⟨⟨rfl, rfl, rfl⟩, ⟨rfl, rfl, rfl⟩, trivial⟩ | exact ⟨⟨rfl, rfl, rfl⟩, ⟨rfl, rfl, rfl⟩, ⟨rfl, rfl, rfl⟩, trivial⟩) rfl rfl rfl (.inl rfl) rfl) ?_ | refine qr (qE rfl ⟨⟨_, _, rfl, rfl, rfl⟩, ⟨_, _, rfl, rfl, rfl⟩, trivial⟩ rfl) ?_ | refine qr (xW rfl rfl rfl rfl rfl rfl) ?_); conv => whnf)
 exact aCK rfl rfl rfl rfl rfl rfl rfl rfl rfl
theorem aH0 {t : ByteArray} {i : Nat} (ht : t.size ≤ 65536) (hi : i ≤ t.size) (h : (rdM t (i, false)).2.2 = true) : ACP Tryd.prog 24 [.optr 0 0 [] 0] [rdP t i] pvM := by
 rw [aJS] at h
 have hok := aFZ (f := rdI t) (fun s h => aCy h) (n := (rdC t 2 (i, false)).1) (yS (m := 2) (t := t) (s := (i, false)) ⟨by omega, hi⟩).1
 have c1 := fun h => aHV (m := 2) ht hi (by omega) h
 have d1 := fun h => aJ1 (m := 2) ht hi (by omega) h
 generalize rdL (rdI t) (rdC t 2 (i, false)).1 (rdC t 2 (i, false)).2 = R at h hok c1 d1
 obtain ⟨PL, a, bad⟩ := R
 dsimp only at h hok c1 d1
 refine uJ xJ (by kernel_rfl) Tryd.func24 rfl Tryd.ntmps24 (by kernel_rfl) (by simp) ?_
 refine xV ?_
 conv => whnf
 cases bad
 case true =>
  have d1 := d1 rfl
  refine yN (zD ?_)
  conv => whnf
  exact yT (yw [0] d1 rfl rfl (by first | exact ⟨rfl, trivial⟩ | exact ⟨rfl, rfl, trivial⟩ | exact ⟨rfl, rfl, rfl, trivial⟩) rfl rfl rfl rfl rfl rfl) rfl rfl
 have c1 := c1 rfl
 refine xV ?_
 conv => whnf
 repeat ((first | refine qz ?_ | refine qr (xB [0] (c1) rfl rfl (by first | exact ⟨rfl, trivial⟩ | exact ⟨rfl, rfl, trivial⟩ | exact ⟨rfl, rfl, rfl, trivial⟩) rfl rfl (by first | exact trivial | exact ⟨⟨rfl, rfl, rfl⟩, trivial⟩ | exact ⟨⟨rfl, rfl, rfl⟩, ⟨rfl, rfl, rfl⟩, trivial⟩ | exact ⟨⟨rfl, rfl, rfl⟩, ⟨rfl, rfl, rfl⟩, ⟨rfl, rfl, rfl⟩, trivial⟩) rfl rfl rfl (.inl rfl) rfl) ?_); conv => whnf)
 have d2 := aJ0 (m := 12) (t := t) (i := a) ht hok.2 (by omega) h
 refine yN (zD ?_)
 conv => whnf
 exact yT (yw [0] d2 rfl rfl (by first | exact ⟨rfl, trivial⟩ | exact ⟨rfl, rfl, trivial⟩ | exact ⟨rfl, rfl, rfl, trivial⟩) rfl rfl rfl rfl rfl rfl) rfl rfl
set_option maxHeartbeats 2000000 in
theorem aHU {t : ByteArray} {i m : Nat} (ht : t.size ≤ 65536) (hi : i ≤ t.size) (hm : m ≤ 100) (h : (rdL (rdM t) (rdC t m (i, false)).1 (rdC t m (i, false)).2).2.2 = false) :
 ACG Tryd.prog 59 [.optr 0 0 [] 0, .v (.int .i64 (m : Int)), .fn 24 [.optr 0 0 [] 0] []] [rdP t i] [rdP t (rdL (rdM t) (rdC t m (i, false)).1 (rdC t m (i, false)).2).2.1] ⟨.own 0, [⟨.d 28, 2, (rdL (rdM t) (rdC t m (i, false)).1 (rdC t m (i, false)).2).1.map xP⟩]⟩ := by
 have hC := yS (m := m) (t := t) (s := (i, false)) ⟨by omega, hi⟩
 have c1 := fun h => kE (m := m) ht hi h
 generalize rdC t m (i, false) = R at h c1 hC ⊢
 obtain ⟨N, a, bad⟩ := R
 dsimp only at h c1 hC ⊢
 obtain ⟨⟨_, ha⟩, hN⟩ := hC
 dsimp only at ha hN
 cases bad
 case true => rw [zi (fun s h => aD1 h) rfl] at h; cases h
 have c1 := c1 rfl
 have hlen := aAL (f := rdM t) (n := N) (s := (a, false))
 obtain ⟨⟨PL, PS⟩, hP⟩ : ∃ P, rdL (rdM t) N (a, false) = P := ⟨_, rfl⟩
 rw [hP] at h hlen ⊢
 dsimp only at h hlen ⊢
 subst hlen
 have hlenr : (List.replicate PL.length (AV.agg [.lst 1 [], .lst 2 []])).length = PL.length := by simp
 refine xX (rs := [.tmp 6]) xJ (by kernel_rfl) Tryd.func59 rfl Tryd.ntmps59 (by rw [Tryd.results59]) (by kernel_rfl) (by simp) rfl rfl (xE _ _ _ ?_); conv => whnf
 repeat ((first | refine qp (zf (m := PL.length) rfl rfl hlenr ⟨_, _, _, _, rfl⟩) ?_ | refine qz ?_ | refine qr (xB [0] (c1) rfl rfl (by first | exact ⟨rfl, trivial⟩ | exact ⟨rfl, rfl, trivial⟩ | exact ⟨rfl, rfl, rfl, trivial⟩) rfl rfl (by first | exact trivial | exact ⟨⟨rfl, rfl, rfl⟩, trivial⟩ | exact ⟨⟨rfl, rfl, rfl⟩, ⟨rfl, rfl, rfl⟩, trivial⟩ | exact ⟨⟨rfl, rfl, rfl⟩, ⟨rfl, rfl, rfl⟩, ⟨rfl, rfl, rfl⟩, trivial⟩) rfl rfl rfl (.inl rfl) rfl) ?_ | refine kY (jH (n := PL.length) (by omega) (by omega) rfl rfl rfl rfl) rfl rfl (fun e => by cases e) (Gh.z2d 13 rfl (Gh.done ?_))); conv => whnf)
 have hrow : List.replicate PL.length (AV.agg [.lst 1 [], .lst 2 []]) = (PL.take 0 ++ List.replicate (PL.length - 0) jK).map xP := by simp [xP]
 refine xZ (ι := { p : Nat × Nat // p.1 ≤ PL.length ∧ p.2 ≤ t.size ∧ rdL (rdM t) (PL.length - p.1) (p.2, false) = (PL.drop p.1, PS) ∧ (p.1 = PL.length → p.2 = PS.1) }) (fun p => ⟨[(2, .fn 24 [.optr 0 0 [] 0] []), (7, .own 13), (14, .v (.int .i64 (PL.length : Int))), (15, .v (.int .i64 (p.1.1 : Int)))], [(0, rdP t p.1.2), (13, ⟨.d 28, 2, (PL.take p.1.1 ++ List.replicate (PL.length - p.1.1) jK).map xP⟩)]⟩) (fun p => PL.length - p.1.1) ⟨(0, a), Nat.zero_le _, ha, by simpa using hP, fun e => (by
  have e' : PL.length = 0 := e.symm
  rw [e'] at hP
  simp only [rdL, Prod.mk.injEq] at hP
  rw [← hP.2])⟩ ⟨⟨rfl, congrArg (fun x => some (OB.mk _ _ x)) hrow, trivial⟩, .inl ⟨rfl, rfl⟩, .inl ⟨rfl, rfl⟩, .inl ⟨rfl, rfl⟩, .inl ⟨rfl, rfl⟩, trivial⟩ ?_
 rintro ⟨⟨k, p⟩, hk, hp, hr, he⟩
 dsimp only at hk hp hr he ⊢
 conv => whnf
 by_cases hlt : k < PL.length
 · obtain ⟨r, hrr⟩ : ∃ r, PL.length - k = r + 1 := ⟨PL.length - k - 1, by omega⟩
   rw [hrr] at hr
   obtain ⟨hv, hr2⟩ := aAd hlt hr
   have hr2' : rdL (rdM t) (PL.length - (k + 1)) (rdM t (p, false)).2 = (PL.drop (k + 1), PS) := by rw [show PL.length - (k + 1) = r by omega]; exact hr2
   have c2 := fun h => aGe (t := t) (i := p) ht hp h
   have hok := (kR (t := t) (s := (p, false)) ⟨by omega, hp⟩).1
   have hlt2 : k < (PL.take k ++ List.replicate (PL.length - k) jK).length := by simp; omega
   have hset := congrArg (List.map xP) (aA1 PL jK k hlt)
   rw [List.map_set] at hset
   have hopn : xk (.d 28) ((PL.take k ++ List.replicate (PL.length - k) jK).map xP) k = some (.o (some 28) k (xP (PL.take k ++ List.replicate (PL.length - k) jK)[k])) := by
    simp only [xk, vB xP hlt2]
   rw [← hv] at hset
   clear hv hr hr2
   generalize rdM t (p, false) = R at hr2' c2 hok hset
   obtain ⟨v, q, bad⟩ := R
   dsimp only at hr2' c2 hok hset
   cases bad
   case true =>
    have := zi (f := rdM t) (fun s h => aD1 h) (n := PL.length - (k + 1)) (s := (q, true)) rfl
    rw [hr2'] at this
    rw [h] at this; cases this
   have c2 := c2 rfl
   repeat ((first | refine qz ?_ | refine qr (xB [0] (c2) rfl rfl (by first | exact ⟨rfl, trivial⟩ | exact ⟨rfl, rfl, trivial⟩ | exact ⟨rfl, rfl, rfl, trivial⟩) rfl rfl (by first | exact trivial | exact ⟨⟨rfl, rfl, rfl⟩, trivial⟩ | exact ⟨⟨rfl, rfl, rfl⟩, ⟨rfl, rfl, rfl⟩, trivial⟩ | exact ⟨⟨rfl, rfl, rfl⟩, ⟨rfl, rfl, rfl⟩, ⟨rfl, rfl, rfl⟩, trivial⟩) rfl rfl rfl (.inl rfl) rfl) ?_ | refine qp (uU (by simpa using hlt2) rfl rfl rfl rfl rfl) ?_); conv => whnf)
   refine kY (xW rfl rfl hopn rfl rfl rfl) rfl rfl (fun e => by cases e) (Gh.s2d 22 rfl aDW (Gh.s2d 1022 rfl aDV (Gh.fold 13 22 [0] rfl rfl rfl rfl rfl rfl (Gh.fold 13 1022 [1] rfl rfl rfl rfl rfl rfl (Gh.shut 13 (z := .agg [.lst 1 [], .lst 2 []]) (y' := xP v) rfl rfl (Gh.done ?_))))))
   conv => whnf
   repeat ((refine qz ?_; conv => whnf))
   exact ⟨⟨(k + 1, q), hlt, hok.2, hr2', fun e => (by
    have e' : k + 1 = PL.length := e
    rw [e', Nat.sub_self] at hr2'
    simp only [rdL, Prod.mk.injEq] at hr2'
    rw [← hr2'.2])⟩, ⟨⟨rfl, congrArg (fun x => some (OB.mk _ _ x)) hset, trivial⟩, .inl ⟨rfl, rfl⟩, .inl ⟨rfl, rfl⟩, .inl ⟨rfl, rfl⟩, .inl ⟨rfl, rfl⟩, trivial⟩, by dsimp only; omega⟩
 · have hkk : k = PL.length := by omega
   rw [he hkk]
   subst hkk
   repeat ((refine qz ?_; conv => whnf))
   exact aCw rfl rfl (by show some (OB.mk _ _ _) = _; rw [List.take_length, Nat.sub_self, List.replicate_zero, List.append_nil])
set_option maxHeartbeats 2000000 in
theorem aJZ {t : ByteArray} {i m : Nat} (ht : t.size ≤ 65536) (hi : i ≤ t.size) (hm : m ≤ 100) (h : (rdL (rdM t) (rdC t m (i, false)).1 (rdC t m (i, false)).2).2.2 = true) :
 ACP Tryd.prog 59 [.optr 0 0 [] 0, .v (.int .i64 (m : Int)), .fn 24 [.optr 0 0 [] 0] []] [rdP t i] pvM := by
 have hC := yS (m := m) (t := t) (s := (i, false)) ⟨by omega, hi⟩
 have c1 := fun h => kE (m := m) ht hi h
 have d1 := fun h => ql (m := m) ht hi h
 generalize rdC t m (i, false) = R at h c1 d1 hC
 obtain ⟨N, a, bad⟩ := R
 dsimp only at h c1 d1 hC
 obtain ⟨⟨_, ha⟩, hN⟩ := hC
 dsimp only at ha hN
 refine uJ xJ (by kernel_rfl) Tryd.func59 rfl Tryd.ntmps59 (by kernel_rfl) (by simp) ?_
 refine xV ?_
 conv => whnf
 cases bad
 case true =>
  have d1 := d1 rfl
  refine yN (zD ?_)
  conv => whnf
  exact yT (yw [0] d1 rfl rfl (by first | exact ⟨rfl, trivial⟩ | exact ⟨rfl, rfl, trivial⟩ | exact ⟨rfl, rfl, rfl, trivial⟩) rfl rfl rfl rfl rfl rfl) rfl rfl
 have c1 := c1 rfl
 refine xV ?_
 conv => whnf
 repeat ((first | refine qz ?_ | refine qr (xB [0] (c1) rfl rfl (by first | exact ⟨rfl, trivial⟩ | exact ⟨rfl, rfl, trivial⟩ | exact ⟨rfl, rfl, rfl, trivial⟩) rfl rfl (by first | exact trivial | exact ⟨⟨rfl, rfl, rfl⟩, trivial⟩ | exact ⟨⟨rfl, rfl, rfl⟩, ⟨rfl, rfl, rfl⟩, trivial⟩ | exact ⟨⟨rfl, rfl, rfl⟩, ⟨rfl, rfl, rfl⟩, ⟨rfl, rfl, rfl⟩, trivial⟩) rfl rfl rfl (.inl rfl) rfl) ?_ | refine kY (jH (n := N) (by omega) (by omega) rfl rfl rfl rfl) rfl rfl (fun e => by cases e) (Gh.z2d 13 rfl (Gh.done ?_))); conv => whnf)
 refine yN (xV ?_)
 conv => whnf
 have hlenr : (List.replicate N (AV.agg [.lst 1 [], .lst 2 []])).length = N := by simp
 repeat ((first | refine qp (zf (m := N) rfl rfl hlenr ⟨_, _, _, _, rfl⟩) ?_ | refine qz ?_); conv => whnf)
 have hrow : List.replicate N (AV.agg [.lst 1 [], .lst 2 []]) = (([] : List Cmt) ++ List.replicate (N - 0) jK).map xP := by simp [xP]
 refine vK (aC7 (ι := { p : List Cmt × Nat // p.1.length ≤ N ∧ p.2 ≤ t.size ∧ (rdL (rdM t) (N - p.1.length) (p.2, false)).2.2 = true }) (fun p => ⟨[(2, .fn 24 [.optr 0 0 [] 0] []), (7, .own 13), (14, .v (.int .i64 (N : Int))), (15, .v (.int .i64 (p.1.1.length : Int)))], [(0, rdP t p.1.2), (13, ⟨.d 28, 2, (p.1.1 ++ List.replicate (N - p.1.1.length) jK).map xP⟩)]⟩) (fun p => N - p.1.1.length) ⟨([], a), Nat.zero_le _, ha, by simpa using h⟩ ⟨⟨rfl, congrArg (fun x => some (OB.mk _ _ x)) hrow, trivial⟩, .inl ⟨rfl, rfl⟩, .inl ⟨rfl, rfl⟩, .inl ⟨rfl, rfl⟩, .inl ⟨rfl, rfl⟩, trivial⟩ ?_)
 rintro ⟨⟨acc, p⟩, hk, hp, hr⟩
 dsimp only at hk hp hr ⊢
 have hlt : acc.length < N := by
  rcases Nat.lt_or_ge acc.length N with h' | h'
  · exact h'
  · rw [show N - acc.length = 0 by omega] at hr; cases hr
 obtain ⟨r, hrr⟩ : ∃ r, N - acc.length = r + 1 := ⟨N - acc.length - 1, by omega⟩
 rw [hrr] at hr ⊢
 simp only [rdL] at hr
 have c2 := fun h => aGe (t := t) (i := p) ht hp h
 have d2 := fun h => aH0 (t := t) (i := p) ht hp h
 have hok := (kR (t := t) (s := (p, false)) ⟨by omega, hp⟩).1
 generalize rdM t (p, false) = R at hr c2 d2 hok
 obtain ⟨v, q, bad⟩ := R
 dsimp only at hr c2 d2 hok
 cases bad
 · right
   have c2 := c2 rfl
   have hlt2 : acc.length < (acc ++ List.replicate (r + 1) jK).length := by simp
   have hset := aAZ xP acc jK v r
   have hopn : xk (.d 28) ((acc ++ List.replicate (r + 1) jK).map xP) acc.length = some (.o (some 28) acc.length (xP (acc ++ List.replicate (r + 1) jK)[acc.length])) := by
    simp only [xk, vB xP hlt2]
   conv => whnf
   repeat ((first | refine qz ?_ | refine qr (xB [0] (c2) rfl rfl (by first | exact ⟨rfl, trivial⟩ | exact ⟨rfl, rfl, trivial⟩ | exact ⟨rfl, rfl, rfl, trivial⟩) rfl rfl (by first | exact trivial | exact ⟨⟨rfl, rfl, rfl⟩, trivial⟩ | exact ⟨⟨rfl, rfl, rfl⟩, ⟨rfl, rfl, rfl⟩, trivial⟩ | exact ⟨⟨rfl, rfl, rfl⟩, ⟨rfl, rfl, rfl⟩, ⟨rfl, rfl, rfl⟩, trivial⟩) rfl rfl rfl (.inl rfl) rfl) ?_ | refine qp (uU (by simp) rfl rfl rfl rfl rfl) ?_); conv => whnf)
   refine kY (xW rfl rfl hopn rfl rfl rfl) rfl rfl (fun e => by cases e) (Gh.s2d 22 rfl aDW (Gh.s2d 1022 rfl aDV (Gh.fold 13 22 [0] rfl rfl rfl rfl rfl rfl (Gh.fold 13 1022 [1] rfl rfl rfl rfl rfl rfl (Gh.shut 13 (z := .agg [.lst 1 [], .lst 2 []]) (y' := xP v) rfl rfl (Gh.done ?_))))))
   conv => whnf
   repeat ((refine qz ?_; conv => whnf))
   have hl : (acc ++ [v]).length = acc.length + 1 := by simp
   refine ⟨⟨(acc ++ [v], q), by dsimp only; omega, hok.2, by dsimp only; rw [show N - (acc ++ [v]).length = r by omega]; exact hr⟩, ⟨⟨rfl, ?_, trivial⟩, .inl ⟨rfl, rfl⟩, .inl ⟨rfl, rfl⟩, .inl ⟨rfl, rfl⟩, .inl ⟨?_, rfl⟩, trivial⟩, by dsimp only; omega⟩
   · dsimp only
     rw [show N - (acc ++ [v]).length = r by omega]
     exact congrArg (fun x => some (OB.mk _ _ x)) hset
   · show AV.v (.int .i64 ((acc.length : Int) + 1)) = AV.v (.int .i64 ((acc ++ [v]).length : Int))
     rw [hl]; rfl
 · left
   have d2 := d2 rfl
   refine xV ?_
   conv => whnf
   repeat ((refine qz ?_; conv => whnf))
   refine xV ?_
   conv => whnf
   refine yN (vK (xV ?_))
   conv => whnf
   refine zD ?_
   conv => whnf
   exact yT (yw [0] d2 rfl rfl (by first | exact ⟨rfl, trivial⟩ | exact ⟨rfl, rfl, trivial⟩ | exact ⟨rfl, rfl, rfl, trivial⟩) rfl rfl rfl rfl rfl rfl) rfl rfl
end Go.Proofs.YtoaifonjemlfcaaDoor.AM
namespace Go.Proofs.YtoaifonjemlfcaaDoor.AM
open Go Go.RowKit
def mrk (t : ByteArray) (k : Nat) : Bool := (List.range k).all fun j => decide (t.data[j]? = brB.data[j]?)
theorem aGG (t : ByteArray) : zJ t = mrk t 3 := by
 obtain ⟨⟨l⟩⟩ := t
 have e : brB.data.toList = [66, 82, 49] := rfl
 unfold zJ mrk
 match l with
 | [] => rfl
 | [a] => simp [brB, ByteArray.size, List.range_succ]
 | [a, b] => simp [brB, ByteArray.size, List.range_succ]
 | a :: b :: c :: r =>
  have h3 : (3 : Nat) ≤ (⟨⟨a :: b :: c :: r⟩⟩ : ByteArray).size := by simp [ByteArray.size]
  have hx : (⟨⟨a :: b :: c :: r⟩⟩ : ByteArray).extract 0 3 = ⟨⟨[a, b, c]⟩⟩ := by
   apply ByteArray.ext
   simp [ByteArray.data_extract]
  rw [hx, decide_eq_true h3, Bool.true_and]
  simp only [brB, ByteArray.mk.injEq, Array.mk.injEq, List.cons.injEq, and_true]
  rw [Bool.eq_iff_iff]
  simp [List.range_succ]
theorem aCH {t : ByteArray} {k : Nat} : mrk t (k + 1) = (mrk t k && decide (t.data[k]? = brB.data[k]?)) := by
 unfold mrk
 rw [List.range_succ, List.all_append]; simp
theorem aHr {t : ByteArray} {k : Nat} (hk : k < 3) (h : t.data[k]? = brB.data[k]?) : ∃ h1 : k < t.size, ∃ h2 : k < brB.size, t[k] = brB[k] := by
 have h2 : k < brB.size := hk
 have h3 : brB.data[k]? = some (brB[k]) := Array.getElem?_eq_getElem h2
 rw [h3] at h
 obtain ⟨h1, e⟩ := Array.getElem?_eq_some_iff.1 h
 exact ⟨h1, h2, e⟩
theorem aJf {t : ByteArray} {k : Nat} (hk : k < 3) (h : ¬ t.data[k]? = brB.data[k]?) (h1 : k < t.size) : ¬ t[k] = brB[k]'hk := fun e => h (by
 rw [show brB.data[k]? = some (brB[k]'hk) from Array.getElem?_eq_getElem hk, ← e]
 exact Array.getElem?_eq_getElem h1)
theorem aJH {k : Nat} (hk : k < 3) : (brB[k]'hk).toNat < 128 := by
 match k, hk with
 | 0, _ => show (66 : UInt8).toNat < 128; decide
 | 1, _ => show (82 : UInt8).toNat < 128; decide
 | 2, _ => show (49 : UInt8).toNat < 128; decide
def aCe (ops : Array Oper) : Bool := ops.toList.any fun o => match o.op with | .range _ _ => true | .next _ _ => true | _ => false
theorem aFS {Θ : Tab} {s : St} {d : Option Tmp} {ty : TypeId} {pos : String} {after : Array Edge} {g : Option (Nat × Bool)} {x : Operand} {n : Nat} (hx : s.ev x = .v (.int .u8 (n : Int))) (hn : n < 256) : Pre Tryd.prog Θ ⟨d, .convert 5 21 x, ty, pos, after, g⟩ s ⟨.v (.int .i32 (n : Int)), none⟩ :=
 aJO (fun w => by
  have hw : IntKind.i32.wrap (n : Int) = n := by rw [IntKind.wrap_i32]; omega
  have h1 : (underlying 5).run Tryd.prog w = .ok (.int .u8) w := run_underlying Tryd.underlying5 w
  have h2 : (underlying 21).run Tryd.prog w = .ok (.int .i32) w := run_underlying Tryd.underlying21 w
  simp [convert, h1, h2, Conv.intToInt, hw]) hx rfl
theorem aIn {s : St} {Θ : Tab} {o : OB} (h0 : s.hp 0 = some o) : yE Θ [] [o] ⟨.tup [], []⟩ .normal s := ⟨⟨h0, trivial⟩, [], by simp, trivial, trivial, ⟨_, rfl⟩, trivial⟩
attribute [local irreducible] xM xO xg yE y7 Pre ACG
attribute [local irreducible] yM u7 z8 ACP uN aBw
set_option maxHeartbeats 2000000 in
theorem aFw {t : ByteArray} {i : Nat} (ht : t.size ≤ 65536) (h : zJ t = true) : ACG Tryd.prog 58 [.optr 0 0 [] 0] [rdP t i] [rdP t 3] ⟨.tup [], []⟩ := by
 rw [aGG] at h
 have hat : ∀ k, k < 3 → t.data[k]? = brB.data[k]? := fun k hk => by
  unfold mrk at h
  have := List.all_eq_true.1 h k (List.mem_range.2 hk)
  simpa using this
 refine xX (rs := []) xJ (by kernel_rfl) Tryd.func58 rfl Tryd.ntmps58 (by rw [Tryd.results58]) (by kernel_rfl) (by simp) rfl rfl (wI (stop := aCe) _ _ _ ?_)
 conv => whnf
 refine wz (aFF (t := brB) rfl Tryd.underlying9 rfl rfl (aFE ?_))
 conv => whnf
 refine aJx (stop := aCe) (ι := { k : Nat // k ≤ 3 }) (fun k => ⟨[(0, .optr 0 0 [] 0), (4, .optr 5 0 [] 0)], [(0, rdP t i), (5, wE brB k.1)]⟩) (fun k => 3 - k.1) ⟨0, by omega⟩ (by exact qle) ?_
 rintro ⟨k, hk⟩
 dsimp only
 conv => whnf
 by_cases hlt : k < 3
 · obtain ⟨h1, h2, h3⟩ := aHr hlt (hat k hlt)
   have h8 := aJH hlt
   have e3 : (t[k]).toNat = (brB[k]'hlt).toNat := congrArg UInt8.toNat h3
   refine wz (aDQ rfl rfl hlt h8 rfl (za xJ _ _ ?_))
   conv => whnf
   repeat ((first | refine qp (ug (xJ 9) rfl rfl h1) ?_ | refine qp (aFS rfl (t[k]).toNat_lt) ?_ | refine qp (xG (kF (by omega)) rfl rfl rfl) ?_ | refine qz ?_ | refine qc (aBS) ?_); conv => whnf)
   exact ⟨⟨k + 1, hlt⟩, by exact qle, by dsimp only; omega⟩
 · refine wz (aIf rfl rfl (by show ¬ k < 3; exact hlt) rfl (za xJ _ _ ?_))
   conv => whnf
   repeat ((first | refine qz ?_ | refine qst ?_); conv => whnf)
   exact aIn rfl
theorem aHs {t : ByteArray} (h : mrk t 3 = false) : ∃ k, k < 3 ∧ mrk t k = true ∧ ¬ t.data[k]? = brB.data[k]? := by
 have h0 : mrk t 0 = true := rfl
 by_cases a0 : t.data[0]? = brB.data[0]?
 · have h1 : mrk t 1 = true := by rw [aCH, h0]; simp [a0]
   by_cases a1 : t.data[1]? = brB.data[1]?
   · have h2 : mrk t 2 = true := by rw [aCH, h1]; simp [a1]
     refine ⟨2, by omega, h2, fun e => ?_⟩
     rw [aCH, h2] at h
     simp [e] at h
   · exact ⟨1, by omega, h1, a1⟩
 · exact ⟨0, by omega, h0, a0⟩
set_option maxHeartbeats 2000000 in
theorem aI7 {t : ByteArray} {i : Nat} (ht : t.size ≤ 65536) (h : zJ t = false) : ACP Tryd.prog 58 [.optr 0 0 [] 0] [rdP t i] pvM := by
 rw [aGG] at h
 obtain ⟨kd, hkd, hm, hne⟩ := aHs h
 have hat : ∀ k, k < kd → t.data[k]? = brB.data[k]? := fun k hk => by
  unfold mrk at hm
  have := List.all_eq_true.1 hm k (List.mem_range.2 hk)
  simpa using this
 refine uJ xJ (by kernel_rfl) Tryd.func58 rfl Tryd.ntmps58 (by kernel_rfl) (by simp) ?_
 refine yN (aGB (stop := aCe) ?_)
 conv => whnf
 refine wz (aFF (t := brB) rfl Tryd.underlying9 rfl rfl (aFE ?_))
 conv => whnf
 refine vK (aJ7 (stop := aCe) (ι := { k : Nat // k ≤ kd }) (fun k => ⟨[(0, .optr 0 0 [] 0), (4, .optr 5 0 [] 0)], [(0, rdP t i), (5, wE brB k.1)]⟩) (fun k => kd - k.1) ⟨0, by omega⟩ (by exact qle) ?_)
 rintro ⟨k, hk⟩
 dsimp only
 have hk3 : k < 3 := by omega
 have h8 := aJH hk3
 by_cases hlt : k < kd
 · right
   obtain ⟨h1, h2, h3⟩ := aHr hk3 (hat k hlt)
   have e3 : (t[k]).toNat = (brB[k]'hk3).toNat := congrArg UInt8.toNat h3
   conv => whnf
   refine wz (aDQ rfl rfl hk3 h8 rfl (za xJ _ _ ?_))
   conv => whnf
   repeat ((first | refine qp (ug (xJ 9) rfl rfl h1) ?_ | refine qp (aFS rfl (t[k]).toNat_lt) ?_ | refine qp (xG (kF (by omega)) rfl rfl rfl) ?_ | refine qz ?_ | refine qc (aBS) ?_); conv => whnf)
   exact ⟨⟨k + 1, hlt⟩, by exact qle, by dsimp only; omega⟩
 · left
   have hkk : k = kd := by omega
   subst hkk
   refine aGB (stop := aCe) ?_
   conv => whnf
   refine wz (aDQ rfl rfl hk3 h8 rfl (za xJ _ _ ?_))
   conv => whnf
   refine xV ?_
   conv => whnf
   refine vK (xV ?_)
   conv => whnf
   refine zD ?_
   conv => whnf
   by_cases h1 : k < t.size
   · have h3 := aJf hk3 hne h1
     have e3 : ¬ (t[k]).toNat = (brB[k]'hk3).toNat := fun e => h3 (UInt8.toNat_inj.1 e)
     repeat ((first | refine jI (ug (xJ 9) rfl rfl h1) rfl rfl ?_ | refine jI (aFS rfl (t[k]).toNat_lt) rfl rfl ?_ | refine jI (aAa (y := .v (.string _)) rfl rfl rfl) rfl rfl ?_ | refine jI (xG (by first | exact aAC (by omega) | exact wN (by omega) | exact aAB (by omega) | exact aAA (by omega) | exact qy (by omega) | exact qx (by omega) | exact qw (by omega) | exact qo (by omega) | exact kF (by omega) | exact jk (by omega) | exact aAD (by omega) | exact jB (by omega) | exact wB rfl (by omega) (by omega) | exact uy rfl (by omega) (by omega)) rfl rfl rfl) rfl rfl ?_); conv => whnf)
     exact yT (yw [] jh rfl rfl trivial rfl rfl rfl rfl rfl rfl) rfl rfl
   · repeat ((first | refine jI (aAa (y := .v (.string _)) rfl rfl rfl) rfl rfl ?_ | refine jI (xG (by first | exact aAC (by omega) | exact wN (by omega) | exact aAB (by omega) | exact aAA (by omega) | exact qy (by omega) | exact qx (by omega) | exact qw (by omega) | exact qo (by omega) | exact kF (by omega) | exact jk (by omega) | exact aAD (by omega) | exact jB (by omega) | exact wB rfl (by omega) (by omega) | exact uy rfl (by omega) (by omega)) rfl rfl rfl) rfl rfl ?_); conv => whnf)
     exact yT (yw [] jh rfl rfl trivial rfl rfl rfl rfl rfl rfl) rfl rfl
end Go.Proofs.YtoaifonjemlfcaaDoor.AM
namespace Go.Proofs.YtoaifonjemlfcaaDoor
open Go Go.RowKit
theorem aC3 (p : Addr) (x : Bool) (u : TypeId) (pv : Value) (older : List PanicEntry) (w : World) (hc : w.cell? p = some (.bool x)) (hz : w.frozen? p = false) :
 CallsD Tryd.prog 49 #[.pointer (some p)] (.panicking ({ v := .iface u pv, recovered := false } :: older)) w fun e u' w' =>
  e = .returned (.tuple #[]) ∧ u' = .panicking ({ v := .iface u pv, recovered := true } :: older) ∧ w' = w.setCell p (.bool false) := by
 refine callsD_of_wpS Tryd.func49 rfl fun c₀ cs hu => ?_
 apply wpS_seq
 apply wpS_region
 simp [wpOpsS, go_sem, recoverD, hu, Tryd.ntmps49, Exit.thenS]
 refine wpS_cond (t := true) (by simp [Act.eval, Array.replicate]) ?_
 simp only [if_true]
 apply wpS_region
 simp [wpOpsS, go_sem, hc, hz, bodyPostS, results, Tryd.results49]
theorem aGi (p : Addr) (w : World) :
 CallsD Tryd.prog 49 #[.pointer (some p)] .returning w fun e u' w' => e = .returned (.tuple #[]) ∧ u' = .returning ∧ w' = w := by
 refine callsD_of_wpS Tryd.func49 rfl fun c₀ cs hu => ?_
 apply wpS_seq
 apply wpS_region
 simp [wpOpsS, go_sem, recoverD, hu, Tryd.ntmps49, Exit.thenS]
 refine wpS_cond (t := false) (by simp [Act.eval, Array.replicate]) ?_
 simp only [Bool.false_eq_true, if_false]
 refine wpS_of_wp (wp_skip ?_)
 cases c₀
 simp_all [bodyPostS, results, Tryd.results49]
set_option maxHeartbeats 2000000 in
theorem aIb (f : FuncId) (caps : Array Value) (r : Value) (w : World) (R : World → Prop) (hent : ∀ args w, (callFunc f args).run Tryd.prog w = .ok (.enter f args) w)
 (hf : Calls Tryd.prog f caps (w.alloc (.cells #[.bool false] 4)) fun e w' => e = .panicked [{ v := pvM, recovered := false }] ∧ (w'.cell? ⟨w.heap.size, 0, none⟩ = some (.bool false) ∧ w'.frozen? ⟨w.heap.size, 0, none⟩ = false) ∧ R w') :
 Calls Tryd.prog 22 #[r, .func (.func f) #[] caps] w fun e w' => e = .returned (.bool false) ∧ ∃ w2, R w2 ∧ w' = w2.setCell ⟨w.heap.size, 0, none⟩ (.bool false) := by
 have hmf : ∀ (fn : Fn) (first cap : Array Value) (w : World), (Instr.makeFunc fn first cap).run Tryd.prog w = .ok (.func fn first cap) w := fun _ _ _ _ => rfl
 go_enter_defers Tryd.func22, Tryd.ntmps22
 go_wp2
 refine hf.mono ?_
 rintro e w2 ⟨rfl, ⟨hc, hz⟩, hR⟩
 refine leaves_cons (f := 49) (args := #[.pointer (some ⟨w.heap.size, 0, none⟩)]) (by simp) (by simp [go_sem]) ?_
 refine (aC3 ⟨w.heap.size, 0, none⟩ false 98 _ [] _ hc hz).mono ?_
 rintro e u' w'' ⟨rfl, rfl, rfl⟩
 have hcc : (w2.setCell ⟨w.heap.size, 0, none⟩ (.bool false)).cell? ⟨w.heap.size, 0, none⟩ = some (.bool false) := World.cell?_setCell_same _ _ _ hc
 simp [Leaves, settle, results, Tryd.results22, go_sem, hcc]
 exact ⟨w2, hR, rfl⟩
set_option maxHeartbeats 2000000 in
theorem aIc (f : FuncId) (caps : Array Value) (b : Nat) (w : World) (R : World → Prop) (t : ByteArray) (j : Nat) (hent : ∀ args w, (callFunc f args).run Tryd.prog w = .ok (.enter f args) w)
 (hf : Calls Tryd.prog f caps (w.alloc (.cells #[.bool false] 4)) fun e w' => e = .returned (.tuple #[]) ∧ ((w'.cell? ⟨w.heap.size, 0, none⟩ = some (.bool false) ∧ w'.frozen? ⟨w.heap.size, 0, none⟩ = false) ∧ w'.cell? ⟨b, 0, none⟩ = some (.string t) ∧ w'.cell? ⟨b, 1, none⟩ = some (.int .i64 j)) ∧ R w') :
 Calls Tryd.prog 22 #[.pointer (some ⟨b, 0, none⟩), .func (.func f) #[] caps] w fun e w' => e = .returned (.bool ((j : Int) == (t.size : Int))) ∧ ∃ w2, R w2 ∧ w' = (w2.setCell ⟨w.heap.size, 0, none⟩ (.bool ((j : Int) == (t.size : Int)))).drew := by
 have hmf : ∀ (fn : Fn) (first cap : Array Value) (w : World), (Instr.makeFunc fn first cap).run Tryd.prog w = .ok (.func fn first cap) w := fun _ _ _ _ => rfl
 go_enter_defers Tryd.func22, Tryd.ntmps22
 go_wp2
 refine hf.mono ?_
 rintro e w2 ⟨rfl, ⟨⟨hc, hz⟩, h0, h1⟩, hR⟩
 go_wp2
 go_region
 have hcc : (w2.setCell ⟨w.heap.size, 0, none⟩ (.bool ((j : Int) == (t.size : Int)))).drew.cell? ⟨w.heap.size, 0, none⟩ = some (.bool ((j : Int) == (t.size : Int))) := World.cell?_setCell_same _ _ _ hc
 go_wp2
 refine leaves_cons (f := 49) (args := #[.pointer (some ⟨w.heap.size, 0, none⟩)]) (by simp) (by simp [go_sem]) ?_
 refine (aGi ⟨w.heap.size, 0, none⟩ _).mono ?_
 rintro e u' w'' ⟨rfl, rfl, rfl⟩
 simp [Leaves, settle, results, Tryd.results22, go_sem, hcc]
 exact ⟨w2, hR, rfl⟩
end Go.Proofs.YtoaifonjemlfcaaDoor
