/- Texts of the machine over data, folded. -/
import Derived.Test.YtoaifonjemlfcaaDoorKa5
import Derived.Test.YtoaifonjemlfcaaDoorKa13
import Derived.Test.YtoaifonjemlfcaaDoorKa8
set_option linter.unusedVariables false
set_option linter.unusedSimpArgs false
set_option maxRecDepth 100000
namespace Go.Proofs.YtoaifonjemlfcaaDoor.AM
open Go Go.RowKit
theorem aGM {l : List Rf} : ∀ x ∈ l.map xh, yx x = true := fun x hx => by obtain ⟨_, _, rfl⟩ := List.mem_map.1 hx; rfl
theorem aJq {s : St} {Θ : Tab} {o1 o2 o3 o4 o5 : OB} (h0 : s.hp 0 = some o1) (h1 : s.hp 1000000 = some o2) (h2 : s.hp 2000000 = some o3) (h3 : s.hp 3000000 = some o4) (h4 : s.hp 4000000 = some o5) : yE Θ [] [o1, o2, o3, o4, o5] ⟨.tup [], []⟩ .normal s := ⟨⟨h0, h1, h2, h3, h4, trivial⟩, [], by simp, trivial, trivial, ⟨_, rfl⟩, trivial⟩
attribute [local irreducible] xM xO xg yE y7 Pre ACG
attribute [local irreducible] yM u7 z8 ACP uN aBw ACL
theorem aCF {t : ByteArray} (h : zJ t = true) : 3 ≤ t.size := by
 unfold zJ at h
 simp only [Bool.and_eq_true, decide_eq_true_eq] at h
 exact h.1
theorem aGk {t : ByteArray} (h : (dC t).2.2 = false) : rdL (rdM t) (rdC t 60 (3, false)).1 (rdC t 60 (3, false)).2 = dC t := aFY.1 h
theorem aLO {t : ByteArray} (h : (dC t).2.2 = true) : (rdL (rdM t) (rdC t 60 (3, false)).1 (rdC t 60 (3, false)).2).2.2 = true := aFY.2 h
theorem aKT {t : ByteArray} (h : (dR t).2.2 = false) : rdL (zK t) (rdC t 8 (dC t).2).1 (rdC t 8 (dC t).2).2 = dR t := aF1.1 h
theorem aLP {t : ByteArray} (h : (dR t).2.2 = true) : (rdL (zK t) (rdC t 8 (dC t).2).1 (rdC t 8 (dC t).2).2).2.2 = true := aF1.2 h
theorem aKS {t : ByteArray} (h : (dC t).2.2 = true) : (dR t).2.2 = true := aF0 (aAK h)
theorem aAt {t : ByteArray} (ht : t.size ≤ 65536) (h3 : 3 ≤ t.size) : yH t (dC t).2 := (aB5 (yS (m := 60) (t := t) (s := (3, false)) ⟨by omega, h3⟩).1).1
theorem aC6 {t : ByteArray} (ht : t.size ≤ 65536) (h3 : 3 ≤ t.size) : yH t (dR t).2 := (aB8 (yS (m := 8) (aAt ht h3)).1).1
theorem aJD {t : ByteArray} {i : Nat} (ht : t.size ≤ 65536) (hh : zJ t = true) (h : (dR t).2.2 = false) : ACG Tryd.prog 34 [.optr 0 0 [] 0] [rdP t i] [rdP t (dR t).2.1] ⟨.mix [.own 0, .own 1], [⟨.d 28, 2, (dC t).1.map xP⟩, ⟨79, 4, (dR t).1.map xh⟩]⟩ := by
 have h3 := aCF hh
 have c0 := aFw (t := t) (i := i) ht hh
 have hok := aAt ht h3
 have hd : (dC t).2.2 = false := by
  cases hc : (dC t).2.2 with
  | false => rfl
  | true => rw [aKS hc] at h; cases h
 have c1 := aHU (m := 60) (t := t) (i := 3) ht h3 (by omega) (by rw [aGk hd]; exact hd)
 rw [aGk hd] at c1
 have hp : (dC t).2 = ((dC t).2.1, false) := by rw [← hd]
 have c2 := aKJ (m := 8) (t := t) (i := (dC t).2.1) ht hok.2 (by omega) (by rw [← hp, aKT h]; exact h)
 rw [← hp, aKT h] at c2
 generalize dR t = R at c2 ⊢
 generalize dC t = R2 at c1 c2 ⊢
 obtain ⟨rl, b, bad⟩ := R
 obtain ⟨cl, a, bad2⟩ := R2
 dsimp only at c1 c2 ⊢
 refine xX (rs := [.cell 2 37]) xJ (by kernel_rfl) Tryd.func34 rfl Tryd.ntmps34 (by rw [Tryd.results34]) (by kernel_rfl) (by simp) rfl rfl (xE _ _ _ ?_)
 conv => whnf
 repeat ((first | refine qz ?_ | refine qr (xB [0] (c0) rfl rfl (by first | exact ⟨rfl, trivial⟩ | exact ⟨rfl, rfl, trivial⟩ | exact ⟨rfl, rfl, rfl, trivial⟩) rfl rfl (by first | exact trivial | exact ⟨⟨rfl, rfl, rfl⟩, trivial⟩ | exact ⟨⟨rfl, rfl, rfl⟩, ⟨rfl, rfl, rfl⟩, trivial⟩ | exact ⟨⟨rfl, rfl, rfl⟩, ⟨rfl, rfl, rfl⟩, ⟨rfl, rfl, rfl⟩, trivial⟩) rfl rfl rfl (.inl rfl) rfl) ?_ | refine qr (xB [0] (c1) rfl rfl (by first | exact ⟨rfl, trivial⟩ | exact ⟨rfl, rfl, trivial⟩ | exact ⟨rfl, rfl, rfl, trivial⟩) rfl rfl (by first | exact trivial | exact ⟨⟨rfl, rfl, rfl⟩, trivial⟩ | exact ⟨⟨rfl, rfl, rfl⟩, ⟨rfl, rfl, rfl⟩, trivial⟩ | exact ⟨⟨rfl, rfl, rfl⟩, ⟨rfl, rfl, rfl⟩, ⟨rfl, rfl, rfl⟩, trivial⟩) rfl rfl rfl (.inl rfl) rfl) ?_ | refine qr (xB [0] (c2) rfl rfl (by first | exact ⟨rfl, trivial⟩ | exact ⟨rfl, rfl, trivial⟩ | exact ⟨rfl, rfl, rfl, trivial⟩) rfl rfl (by first | exact trivial | exact ⟨⟨rfl, rfl, rfl⟩, trivial⟩ | exact ⟨⟨rfl, rfl, rfl⟩, ⟨rfl, rfl, rfl⟩, trivial⟩ | exact ⟨⟨rfl, rfl, rfl⟩, ⟨rfl, rfl, rfl⟩, ⟨rfl, rfl, rfl⟩, trivial⟩) rfl rfl rfl (.inl rfl) rfl) ?_ | refine qr (qE rfl ⟨⟨_, _, rfl, rfl, rfl⟩, ⟨_, _, rfl, rfl, rfl⟩, trivial⟩ rfl) ?_ | refine qr (xW rfl rfl rfl rfl rfl rfl) ?_); conv => whnf)
 exact aCK rfl rfl rfl rfl rfl rfl rfl rfl rfl
theorem aKK {t : ByteArray} {i : Nat} (ht : t.size ≤ 65536) (h : zJ t = false ∨ (dR t).2.2 = true) : ACP Tryd.prog 34 [.optr 0 0 [] 0] [rdP t i] pvM := by
 refine uJ xJ (by kernel_rfl) Tryd.func34 rfl Tryd.ntmps34 (by kernel_rfl) (by simp) ?_
 refine xV ?_
 conv => whnf
 cases hh : zJ t
 case false =>
  have d0 := aI7 (t := t) (i := i) ht hh
  refine yN (zD ?_)
  conv => whnf
  exact yT (yw [0] d0 rfl rfl (by first | exact ⟨rfl, trivial⟩ | exact ⟨rfl, rfl, trivial⟩ | exact ⟨rfl, rfl, rfl, trivial⟩) rfl rfl rfl rfl rfl rfl) rfl rfl
 have h3 := aCF hh
 have c0 := aFw (t := t) (i := i) ht hh
 have hok := aAt ht h3
 have h : (dR t).2.2 = true := by rcases h with h | h; exact absurd h (by rw [hh]; simp); exact h
 refine xV ?_
 conv => whnf
 repeat ((first | refine qz ?_ | refine qr (xB [0] (c0) rfl rfl (by first | exact ⟨rfl, trivial⟩ | exact ⟨rfl, rfl, trivial⟩ | exact ⟨rfl, rfl, rfl, trivial⟩) rfl rfl (by first | exact trivial | exact ⟨⟨rfl, rfl, rfl⟩, trivial⟩ | exact ⟨⟨rfl, rfl, rfl⟩, ⟨rfl, rfl, rfl⟩, trivial⟩ | exact ⟨⟨rfl, rfl, rfl⟩, ⟨rfl, rfl, rfl⟩, ⟨rfl, rfl, rfl⟩, trivial⟩) rfl rfl rfl (.inl rfl) rfl) ?_); conv => whnf)
 cases hd : (dC t).2.2
 case true =>
  have d1 := aJZ (m := 60) (t := t) (i := 3) ht h3 (by omega) (aLO hd)
  refine yN (zD ?_)
  conv => whnf
  exact yT (yw [0] d1 rfl rfl (by first | exact ⟨rfl, trivial⟩ | exact ⟨rfl, rfl, trivial⟩ | exact ⟨rfl, rfl, rfl, trivial⟩) rfl rfl rfl rfl rfl rfl) rfl rfl
 have c1 := aHU (m := 60) (t := t) (i := 3) ht h3 (by omega) (by rw [aGk hd]; exact hd)
 rw [aGk hd] at c1
 have hp : (dC t).2 = ((dC t).2.1, false) := by rw [← hd]
 have d2 := aJ2 (m := 8) (t := t) (i := (dC t).2.1) ht hok.2 (by omega) (by rw [← hp]; exact aLP h)
 refine xV ?_
 conv => whnf
 repeat ((first | refine qz ?_ | refine qr (xB [0] (c1) rfl rfl (by first | exact ⟨rfl, trivial⟩ | exact ⟨rfl, rfl, trivial⟩ | exact ⟨rfl, rfl, rfl, trivial⟩) rfl rfl (by first | exact trivial | exact ⟨⟨rfl, rfl, rfl⟩, trivial⟩ | exact ⟨⟨rfl, rfl, rfl⟩, ⟨rfl, rfl, rfl⟩, trivial⟩ | exact ⟨⟨rfl, rfl, rfl⟩, ⟨rfl, rfl, rfl⟩, ⟨rfl, rfl, rfl⟩, trivial⟩) rfl rfl rfl (.inl rfl) rfl) ?_); conv => whnf)
 refine yN (zD ?_)
 conv => whnf
 exact yT (yw [0] d2 rfl rfl (by first | exact ⟨rfl, trivial⟩ | exact ⟨rfl, rfl, trivial⟩ | exact ⟨rfl, rfl, rfl, trivial⟩) rfl rfl rfl rfl rfl rfl) rfl rfl
theorem aHO {t : ByteArray} {X : AV} (ht : t.size ≤ 65536) (hh : zJ t = true) (h : (dS t).2.2 = false) : ACG Tryd.prog 33 [.optr 1000000 0 [] 0, .optr 2000000 0 [] 0, .optr 3000000 0 [] 0, .optr 4000000 0 [] 0] [rdP t 0, rV X, ⟨.z 37, 2, [.agg [.lst 2 [], .lst 4 []]]⟩, ⟨3, 1, [.v (.int .i64 0)]⟩, ⟨3, 1, [.v (.int .i64 0)]⟩] [rdP t (dS t).2.1, rV X, ⟨.d 37, 2, [vP (dB t)]⟩, ⟨3, 1, [.v (.int .i64 ((dR t).2.1 : Int))]⟩, ⟨3, 1, [.v (.int .i64 ((dS t).1 : Int))]⟩] ⟨.tup [], []⟩ := by
 have h3 := aCF hh
 have hok := aC6 ht h3
 have hd : (dR t).2.2 = false := by
  cases hc : (dR t).2.2 with
  | false => rfl
  | true => rw [show (dS t).2.2 = true from wH hc] at h; cases h
 have c1 := aJD (t := t) (i := 0) ht hh hd
 have hp : (dR t).2 = ((dR t).2.1, false) := by rw [← hd]
 have c2 := aBT (t := t) (i := (dR t).2.1) ht hok.2 (by rw [← hp]; exact h)
 rw [← hp, show rdN t (dR t).2 = dS t from rfl] at c2
 have hN := zN hok
 rw [show rdN t (dR t).2 = dS t from rfl] at hN
 unfold dB
 generalize dS t = S at c2 hN ⊢
 have hr := hok.2
 generalize dR t = R at c1 c2 hr ⊢
 generalize dC t = R2 at c1 ⊢
 obtain ⟨n, e, bad3⟩ := S
 obtain ⟨rl, b, bad⟩ := R
 obtain ⟨cl, a, bad2⟩ := R2
 dsimp only at c1 c2 hr hN ⊢
 refine xX (rs := []) xJ (by kernel_rfl) Tryd.func33 rfl Tryd.ntmps33 (by rw [Tryd.results33]) (by kernel_rfl) (by simp) rfl rfl (xE _ _ _ ?_)
 conv => whnf
 repeat ((first | refine qz ?_ | refine qr (xB [0] (c1) rfl rfl (by first | exact ⟨rfl, trivial⟩ | exact ⟨rfl, rfl, trivial⟩ | exact ⟨rfl, rfl, rfl, trivial⟩) rfl rfl (by first | exact trivial | exact ⟨⟨rfl, rfl, rfl⟩, trivial⟩ | exact ⟨⟨rfl, rfl, rfl⟩, ⟨rfl, rfl, rfl⟩, trivial⟩ | exact ⟨⟨rfl, rfl, rfl⟩, ⟨rfl, rfl, rfl⟩, ⟨rfl, rfl, rfl⟩, trivial⟩) rfl rfl rfl (.inl rfl) rfl) ?_ | refine qr (xB [0] (c2) rfl rfl (by first | exact ⟨rfl, trivial⟩ | exact ⟨rfl, rfl, trivial⟩ | exact ⟨rfl, rfl, rfl, trivial⟩) rfl rfl (by first | exact trivial | exact ⟨⟨rfl, rfl, rfl⟩, trivial⟩ | exact ⟨⟨rfl, rfl, rfl⟩, ⟨rfl, rfl, rfl⟩, trivial⟩ | exact ⟨⟨rfl, rfl, rfl⟩, ⟨rfl, rfl, rfl⟩, ⟨rfl, rfl, rfl⟩, trivial⟩) rfl rfl rfl (.inl rfl) rfl) ?_ | refine qst ?_); conv => whnf)
 refine kY (xW rfl rfl rfl rfl rfl rfl) rfl rfl (fun e => by cases e) (Gh.s2d 1006 rfl aGM (Gh.fold 2000000 6 [0] rfl rfl rfl rfl rfl rfl (Gh.fold 2000000 1006 [1] rfl rfl rfl rfl rfl rfl (Gh.shut 2000000 (z := .agg [.lst 2 [], .lst 4 []]) (y' := vP ⟨cl, rl⟩) rfl rfl (Gh.done ?_)))))
 conv => whnf
 repeat ((first | refine qz ?_ | refine qr (xB [0] (c2) rfl rfl (by first | exact ⟨rfl, trivial⟩ | exact ⟨rfl, rfl, trivial⟩ | exact ⟨rfl, rfl, rfl, trivial⟩) rfl rfl (by first | exact trivial | exact ⟨⟨rfl, rfl, rfl⟩, trivial⟩ | exact ⟨⟨rfl, rfl, rfl⟩, ⟨rfl, rfl, rfl⟩, trivial⟩ | exact ⟨⟨rfl, rfl, rfl⟩, ⟨rfl, rfl, rfl⟩, ⟨rfl, rfl, rfl⟩, trivial⟩) rfl rfl rfl (.inl rfl) rfl) ?_ | refine qst ?_); conv => whnf)
 exact aJq rfl rfl rfl rfl rfl
theorem aJW {t : ByteArray} {X : AV} (ht : t.size ≤ 65536) (h : zJ t = false ∨ (dS t).2.2 = true) : ACP Tryd.prog 33 [.optr 1000000 0 [] 0, .optr 2000000 0 [] 0, .optr 3000000 0 [] 0, .optr 4000000 0 [] 0] [rdP t 0, rV X, ⟨.z 37, 2, [.agg [.lst 2 [], .lst 4 []]]⟩, ⟨3, 1, [.v (.int .i64 0)]⟩, ⟨3, 1, [.v (.int .i64 0)]⟩] pvM := by
 refine uJ xJ (by kernel_rfl) Tryd.func33 rfl Tryd.ntmps33 (by kernel_rfl) (by simp) ?_
 by_cases hb : zJ t = false ∨ (dR t).2.2 = true
 · have d1 := aKK (t := t) (i := 0) ht hb
   refine yN (zD ?_)
   conv => whnf
   exact yT (yw [0] d1 rfl rfl (by first | exact ⟨rfl, trivial⟩ | exact ⟨rfl, rfl, trivial⟩ | exact ⟨rfl, rfl, rfl, trivial⟩) rfl rfl rfl rfl rfl rfl) rfl rfl
 have hh : zJ t = true := by
  cases e : zJ t with
  | true => rfl
  | false => exact absurd (.inl e) hb
 have hd : (dR t).2.2 = false := by
  cases e : (dR t).2.2 with
  | false => rfl
  | true => exact absurd (.inr e) hb
 have hs : (dS t).2.2 = true := by rcases h with h | h; exact absurd (.inl h) hb; exact h
 have h3 := aCF hh
 have hok := aC6 ht h3
 have c1 := aJD (t := t) (i := 0) ht hh hd
 have hp : (dR t).2 = ((dR t).2.1, false) := by rw [← hd]
 have d2 := aAp (t := t) (i := (dR t).2.1) ht hok.2 (by rw [← hp]; exact hs)
 have hr := hok.2
 generalize dR t = R at c1 d2 hr
 generalize dC t = R2 at c1
 obtain ⟨rl, b, bad⟩ := R
 obtain ⟨cl, a, bad2⟩ := R2
 dsimp only at c1 d2 hr
 refine xV ?_
 conv => whnf
 repeat ((first | refine qz ?_ | refine qr (xB [0] (c1) rfl rfl (by first | exact ⟨rfl, trivial⟩ | exact ⟨rfl, rfl, trivial⟩ | exact ⟨rfl, rfl, rfl, trivial⟩) rfl rfl (by first | exact trivial | exact ⟨⟨rfl, rfl, rfl⟩, trivial⟩ | exact ⟨⟨rfl, rfl, rfl⟩, ⟨rfl, rfl, rfl⟩, trivial⟩ | exact ⟨⟨rfl, rfl, rfl⟩, ⟨rfl, rfl, rfl⟩, ⟨rfl, rfl, rfl⟩, trivial⟩) rfl rfl rfl (.inl rfl) rfl) ?_); conv => whnf)
 refine kY (xW rfl rfl rfl rfl rfl rfl) rfl rfl (fun e => by cases e) (Gh.s2d 1006 rfl aGM (Gh.fold 2000000 6 [0] rfl rfl rfl rfl rfl rfl (Gh.fold 2000000 1006 [1] rfl rfl rfl rfl rfl rfl (Gh.shut 2000000 (z := .agg [.lst 2 [], .lst 4 []]) (y' := vP ⟨cl, rl⟩) rfl rfl (Gh.done ?_)))))
 conv => whnf
 refine xV ?_
 conv => whnf
 repeat ((first | refine qz ?_ | refine qst ?_); conv => whnf)
 refine zD ?_
 conv => whnf
 exact yT (yw [0] d2 rfl rfl (by first | exact ⟨rfl, trivial⟩ | exact ⟨rfl, rfl, trivial⟩ | exact ⟨rfl, rfl, rfl, trivial⟩) rfl rfl rfl rfl rfl rfl) rfl rfl
end Go.Proofs.YtoaifonjemlfcaaDoor.AM
namespace Go.Proofs.YtoaifonjemlfcaaDoor.AM
open Go Go.RowKit
attribute [local irreducible] xM xO xg yE y7 Pre ACG
set_option maxHeartbeats 2000000 in
theorem aFv {t : ByteArray} (ht : t.size ≤ maxLen) : AC Tryd.prog 36 [.v (.string t)] ⟨.v (.int .i64 (aAi t)), []⟩ := by
 unfold maxLen at ht
 refine qrf Tryd.func36 Tryd.ntmps36 Tryd.results36 ?_; conv => whnf
 repeat ((refine qz ?_; conv => whnf))
 refine xZ (ι := { i : Nat // i ≤ t.size }) (fun i => ⟨[(0, .v (.string t)), (3, .v (.int .i64 (qL (t.data.toList.take i.1)))), (6, .v (.int .i64 (t.size : Int))), (7, .v (.int .i64 (i.1 : Int)))], []⟩) (fun i => t.size - i.1) ⟨0, Nat.zero_le _⟩ (by exact qle) ?_
 rintro ⟨i, hi⟩
 dsimp only
 conv => whnf
 by_cases hlt : i < t.size
 · have hs := aEM hlt
   have hb := aG7 (t.data.toList.take i)
   have h8 := (t[i]).toNat_lt
   generalize qL (t.data.toList.take i) = m at hs hb ⊢
   repeat ((first | refine qp (xG (wO (c := m * 31) (by omega) (by omega) (by omega)) rfl rfl rfl) ?_ | refine qz ?_ | refine qp (ug (xJ 9) rfl rfl hlt) ?_ | refine qp (qR rfl h8) ?_ | refine qp (xG (jC (by omega) (by omega) hs.symm) rfl rfl rfl) ?_); conv => whnf)
   exact ⟨⟨i + 1, hlt⟩, by exact qle, by simp; omega⟩
 · have e : i = t.size := by omega
   subst e
   have hall : t.data.toList.take t.size = t.data.toList := List.take_of_length_le (by rw [Array.length_toList]; exact Nat.le_refl _)
   repeat ((refine qz ?_; conv => whnf))
   rw [hall]
   exact xA rfl trivial
attribute [local irreducible] yM u7 z8 ACP uN aBw ACL
theorem aEr {t : ByteArray} (h : zJ t = false ∨ (dS t).2.2 = true) : dK t = 3 := by
 unfold dK
 rcases h with h | h
 · rw [if_pos h]
 · split
   · rfl
   · rw [if_pos (.inl h)]
theorem aGl {t : ByteArray} (hh : zJ t = true) (h : (dS t).2.2 = false) : dK t = if (dS t).2.1 ≠ t.size then 3 else if ((dS t).1 : Int) ≠ aAi (t.extract 0 (dR t).2.1) then 13 else if kG (dB t) = true then 0 else 1 := by
 unfold dK
 rw [if_neg (by simp [hh])]
 by_cases he : (dS t).2.1 ≠ t.size
 · rw [if_pos (.inr he), if_pos he]
 · rw [if_neg (fun h2 => h2.elim (fun h2 => by rw [h] at h2; cases h2) he), if_neg he]
theorem aGj {t : ByteArray} (ht : t.size ≤ 65536) (h3 : 3 ≤ t.size) : (dB t).ok maxLen := by
 obtain ⟨a1, a2, a3⟩ := aB5 (yS (m := 60) (t := t) (s := (3, false)) ⟨by omega, h3⟩).1 (n := (rdC t 60 (3, false)).1)
 have a4 := (yS (m := 60) (t := t) (s := (3, false)) ⟨by omega, h3⟩).2
 obtain ⟨b1, b2, b3⟩ := aB8 (yS (m := 8) (aAt ht h3)).1 (n := (rdC t 8 (dC t).2).1)
 have b4 := (yS (m := 8) (aAt ht h3)).2
 have e1 : (dB t).store.length ≤ 60 := Nat.le_trans a2 a4
 have e2 : (dB t).refs.length ≤ 8 := Nat.le_trans b2 b4
 exact ⟨by unfold maxLen; omega, a3, by unfold maxLen; omega, b3⟩
set_option maxHeartbeats 2000000 in
theorem aCU {t : ByteArray} (ht : t.size ≤ maxLen) (h : (jL t).2 ≠ 0) : AC Tryd.prog 14 [.v (.string t)] ⟨.tup [vP ⟨[], []⟩, .v (.int .i64 (jL t).2)], []⟩ := by
 unfold maxLen at ht
 unfold jL at h ⊢
 by_cases h0 : 65536 < t.size
 · rw [if_pos h0]
   refine xX (rs := [.cell 2 37, .tmp 3]) xJ (by kernel_rfl) Tryd.func14 rfl Tryd.ntmps14 (by rw [Tryd.results14]) (by kernel_rfl) (by simp) rfl rfl (xE _ _ _ ?_)
   conv => whnf
   repeat ((first | refine qz ?_ | refine qst ?_); conv => whnf)
   exact yu rfl rfl rfl rfl trivial rfl
 rw [if_neg h0] at h ⊢
 dsimp only at h ⊢
 have ht2 : t.size ≤ 65536 := by omega
 by_cases hdie : zJ t = false ∨ (dS t).2.2 = true
 · rw [aEr hdie]
   have d1 := fun (X : AV) => aEl (aJW (X := X) ht2 hdie)
   refine xX (rs := [.cell 2 37, .tmp 3]) xJ (by kernel_rfl) Tryd.func14 rfl Tryd.ntmps14 (by rw [Tryd.results14]) (by kernel_rfl) (by simp) rfl rfl (wI (stop := aJK) _ _ _ ?_)
   conv => whnf
   repeat ((first | refine qz ?_ | refine qst ?_ | refine qr (uV rfl rfl rfl rfl) ?_); conv => whnf)
   refine wz (za xJ _ _ ?_)
   conv => whnf
   refine aGJ [16, 8, 5, 6, 7] (d1 _) rfl rfl rfl ⟨rfl, rfl, rfl, rfl, rfl, trivial⟩ rfl rfl rfl rfl rfl rfl rfl rfl (za xJ _ _ ?_)
   conv => whnf
   repeat ((first | refine qz ?_ | refine qst ?_); conv => whnf)
   exact yu rfl rfl rfl rfl trivial rfl
 have hh : zJ t = true := by
  cases e : zJ t with
  | true => rfl
  | false => exact absurd (.inl e) hdie
 have hs : (dS t).2.2 = false := by
  cases e : (dS t).2.2 with
  | false => rfl
  | true => exact absurd (.inr e) hdie
 have h3 := aCF hh
 have hok := aC6 ht2 h3
 have hN := zN hok
 rw [show rdN t (dR t).2 = dS t from rfl] at hN
 have r1 := fun (X : AV) => aBR (aHO (X := X) ht2 hh hs)
 have b1 := aCT (aGj ht2 h3)
 rw [aGl hh hs] at h ⊢
 have hr := hok.2
 have s1 := aFv (t := t.extract 0 (dR t).2.1) (by simp [ByteArray.size_extract]; unfold maxLen; omega)
 generalize dB t = B at r1 b1 h ⊢
 generalize dR t = R at r1 hr h s1 ⊢
 generalize dS t = S at r1 hN h ⊢
 obtain ⟨rl, b, bad⟩ := R
 obtain ⟨n, e, bad3⟩ := S
 dsimp only at r1 hr hN h s1 ⊢
 generalize aAi (t.extract 0 b) = sm at s1 h ⊢
 have he := hN.1.2
 dsimp only at he
 by_cases hsz : e = t.size
 case neg =>
  have hb : ((e : Int) == (t.size : Int)) = false := by simp; omega
  rw [hb] at r1
  rw [if_pos hsz]
  refine xX (rs := [.cell 2 37, .tmp 3]) xJ (by kernel_rfl) Tryd.func14 rfl Tryd.ntmps14 (by rw [Tryd.results14]) (by kernel_rfl) (by simp) rfl rfl (xE _ _ _ ?_)
  conv => whnf
  repeat ((first | refine qz ?_ | refine qst ?_ | refine qr (uV rfl rfl rfl rfl) ?_ | refine qr (xB [16, 8, 5, 6, 7] (r1 _) rfl rfl ⟨rfl, rfl, rfl, rfl, rfl, trivial⟩ rfl rfl (by first | exact trivial | exact ⟨⟨rfl, rfl, rfl⟩, trivial⟩ | exact ⟨⟨rfl, rfl, rfl⟩, ⟨rfl, rfl, rfl⟩, trivial⟩ | exact ⟨⟨rfl, rfl, rfl⟩, ⟨rfl, rfl, rfl⟩, ⟨rfl, rfl, rfl⟩, trivial⟩) rfl rfl rfl (.inl rfl) rfl) ?_); conv => whnf)
  exact yu rfl rfl rfl rfl trivial rfl
 have hb : ((e : Int) == (t.size : Int)) = true := by simp [hsz]
 rw [hb] at r1
 rw [if_neg (by simp [hsz])] at h ⊢
 by_cases hsm : (n : Int) = sm
 case neg =>
  rw [if_pos hsm]
  refine xX (rs := [.cell 2 37, .tmp 3]) xJ (by kernel_rfl) Tryd.func14 rfl Tryd.ntmps14 (by rw [Tryd.results14]) (by kernel_rfl) (by simp) rfl rfl (xE _ _ _ ?_)
  conv => whnf
  repeat ((first | refine qz ?_ | refine qst ?_ | refine qr (uV rfl rfl rfl rfl) ?_ | refine qr (xB [16, 8, 5, 6, 7] (r1 _) rfl rfl ⟨rfl, rfl, rfl, rfl, rfl, trivial⟩ rfl rfl (by first | exact trivial | exact ⟨⟨rfl, rfl, rfl⟩, trivial⟩ | exact ⟨⟨rfl, rfl, rfl⟩, ⟨rfl, rfl, rfl⟩, trivial⟩ | exact ⟨⟨rfl, rfl, rfl⟩, ⟨rfl, rfl, rfl⟩, ⟨rfl, rfl, rfl⟩, trivial⟩) rfl rfl rfl (.inl rfl) rfl) ?_ | refine qp (qQ hr rfl rfl) ?_ | refine qc (s1) ?_ | refine qdr ?_); conv => whnf)
  exact yu rfl rfl rfl rfl trivial rfl
 rw [if_neg (by simp [hsm])] at h ⊢
 by_cases hbb : kG B = true
 · rw [if_pos hbb] at h; exact absurd rfl h
 have hbb : kG B = false := by simpa using hbb
 rw [if_neg (by simp [hbb])]
 rw [hbb] at b1
 refine xX (rs := [.cell 2 37, .tmp 3]) xJ (by kernel_rfl) Tryd.func14 rfl Tryd.ntmps14 (by rw [Tryd.results14]) (by kernel_rfl) (by simp) rfl rfl (xE _ _ _ ?_)
 conv => whnf
 repeat ((first | refine qz ?_ | refine qst ?_ | refine qr (uV rfl rfl rfl rfl) ?_ | refine kY (xB [16, 8, 5, 6, 7] (r1 _) rfl rfl ⟨rfl, rfl, rfl, rfl, rfl, trivial⟩ rfl rfl (by first | exact trivial | exact ⟨⟨rfl, rfl, rfl⟩, trivial⟩ | exact ⟨⟨rfl, rfl, rfl⟩, ⟨rfl, rfl, rfl⟩, trivial⟩ | exact ⟨⟨rfl, rfl, rfl⟩, ⟨rfl, rfl, rfl⟩, ⟨rfl, rfl, rfl⟩, trivial⟩) rfl rfl rfl (.inl rfl) rfl) rfl rfl (fun e => by cases e) (Gh.unfold 5 0 100 [0] rfl rfl rfl rfl rfl (Gh.unfold 5 0 101 [1] rfl rfl rfl rfl rfl (Gh.done ?_))) | refine qp (qQ hr rfl rfl) ?_ | refine qc (s1) ?_ | refine qdr ?_ | refine qc (b1) ?_); conv => whnf)
 exact yu rfl rfl rfl rfl trivial rfl
set_option maxHeartbeats 2000000 in
theorem aGb {t : ByteArray} (ht2 : t.size ≤ 65536) (h : dK t = 0) : AC Tryd.prog 14 [.v (.string t)] ⟨.tup [.mix [.own 0, .own 1], .v (.int .i64 0)], [⟨.u, 2, (dB t).store.map xP⟩, ⟨.u, 4, (dB t).refs.map xh⟩]⟩ := by
 have hdie : ¬ (zJ t = false ∨ (dS t).2.2 = true) := fun hd => by rw [aEr hd] at h; cases h
 have hh : zJ t = true := by
  cases e : zJ t with
  | true => rfl
  | false => exact absurd (.inl e) hdie
 have hs : (dS t).2.2 = false := by
  cases e : (dS t).2.2 with
  | false => rfl
  | true => exact absurd (.inr e) hdie
 have h3 := aCF hh
 have hok := aC6 ht2 h3
 have hN := zN hok
 rw [show rdN t (dR t).2 = dS t from rfl] at hN
 have r1 := fun (X : AV) => aBR (aHO (X := X) ht2 hh hs)
 have b1 := aCT (aGj ht2 h3)
 rw [aGl hh hs] at h
 have hr := hok.2
 have s1 := aFv (t := t.extract 0 (dR t).2.1) (by simp [ByteArray.size_extract]; unfold maxLen; omega)
 generalize dB t = B at r1 b1 h ⊢
 generalize dR t = R at r1 hr h s1
 generalize dS t = S at r1 hN h
 obtain ⟨rl, b, bad⟩ := R
 obtain ⟨n, e, bad3⟩ := S
 dsimp only at r1 hr hN h s1 ⊢
 generalize aAi (t.extract 0 b) = sm at s1 h
 have he := hN.1.2
 dsimp only at he
 by_cases hsz : e = t.size
 case neg => rw [if_pos hsz] at h; cases h
 have hb : ((e : Int) == (t.size : Int)) = true := by simp [hsz]
 rw [hb] at r1
 rw [if_neg (by simp [hsz])] at h
 by_cases hsm : (n : Int) = sm
 case neg => rw [if_pos hsm] at h; cases h
 rw [if_neg (by simp [hsm])] at h
 by_cases hbb : kG B = true
 case neg => rw [if_neg hbb] at h; cases h
 rw [hbb] at b1
 refine xX (rs := [.cell 2 37, .tmp 3]) xJ (by kernel_rfl) Tryd.func14 rfl Tryd.ntmps14 (by rw [Tryd.results14]) (by kernel_rfl) (by simp) rfl rfl (xE _ _ _ ?_)
 conv => whnf
 repeat ((first | refine qz ?_ | refine qst ?_ | refine qr (uV rfl rfl rfl rfl) ?_ | refine kY (xB [16, 8, 5, 6, 7] (r1 _) rfl rfl ⟨rfl, rfl, rfl, rfl, rfl, trivial⟩ rfl rfl (by first | exact trivial | exact ⟨⟨rfl, rfl, rfl⟩, trivial⟩ | exact ⟨⟨rfl, rfl, rfl⟩, ⟨rfl, rfl, rfl⟩, trivial⟩ | exact ⟨⟨rfl, rfl, rfl⟩, ⟨rfl, rfl, rfl⟩, ⟨rfl, rfl, rfl⟩, trivial⟩) rfl rfl rfl (.inl rfl) rfl) rfl rfl (fun e => by cases e) (Gh.unfold 5 0 100 [0] rfl rfl rfl rfl rfl (Gh.unfold 5 0 101 [1] rfl rfl rfl rfl rfl (Gh.done ?_))) | refine qp (qQ hr rfl rfl) ?_ | refine qc (s1) ?_ | refine qdr ?_ | refine qc (b1) ?_ | refine qr (xW rfl rfl rfl rfl rfl rfl) ?_); conv => whnf)
 exact aFX rfl rfl rfl rfl rfl rfl rfl rfl rfl
set_option maxHeartbeats 1000000 in
theorem aCY {l : List Cmt} {k0 : Int} (hm : l.length ≤ 1048600) (ht : uo l ≤ 1048600) (h0 : 0 ≤ k0) (h1 : k0 ≤ 4194304) : ACM Tryd.prog 40 ⟨.u, 2, l.map xP⟩ ((xw l k0).map xP) [.v (.int .i64 k0)] (.int .i64 (kA l k0)) := by
 refine aE6 xJ (by kernel_rfl) Tryd.func40 rfl Tryd.ntmps40 Tryd.results40 (by kernel_rfl) rfl ?_
 conv => whnf
 refine xZ (ι := { k : Nat // k ≤ l.length }) (fun k => ⟨[(0, .own 0), (1, .v (.int .i64 (kA (l.take k.1) k0))), (5, .v (.int .i64 (k.1 : Int)))], [(0, ⟨.u, 2, (xw (l.take k.1) k0 ++ l.drop k.1).map xP⟩)]⟩) (fun k => l.length - k.1) ⟨0, Nat.zero_le _⟩ ⟨⟨rfl, trivial⟩, .inl ⟨rfl, rfl⟩, .inl ⟨rfl, rfl⟩, .inl ⟨rfl, rfl⟩, trivial⟩ ?_
 rintro ⟨i, hi⟩
 dsimp only
 have hmt : (xw (l.take i) k0).length = i := by rw [uf, List.length_take]; omega
 have hml : (xw (l.take i) k0 ++ l.drop i).length = l.length := by rw [List.length_append, hmt, List.length_drop]; omega
 have hml2 : ((xw (l.take i) k0 ++ l.drop i).map xP).length = l.length := by rw [List.length_map]; exact hml
 conv => whnf
 by_cases hlt : i < l.length
 case neg =>
  have hkk : i = l.length := by omega
  subst hkk
  repeat ((first | refine qp (zf (m := l.length) rfl rfl hml2 ⟨_, _, _, _, rfl⟩) ?_ | refine qz ?_); conv => whnf)
  exact aCx (by show AV.v (.int .i64 (kA (l.take l.length) k0)) = _; rw [List.take_length]) (by show some (OB.mk _ _ _) = _; rw [List.take_length, List.drop_length, List.append_nil])
 have hb := aE2 (l.take i) k0
 have hb2 := aBN l i
 have hb3 := aDa l i hlt
 have hlt' : i < (xw (l.take i) k0 ++ l.drop i).length := by omega
 have hat : (xw (l.take i) k0 ++ l.drop i)[i]? = some l[i] := by
  rw [List.getElem?_append_right (by omega), hmt, Nat.sub_self, List.drop_eq_getElem_cons hlt]; rfl
 have hset : ((xw (l.take i) k0 ++ l.drop i).map xP).set i (xP (aA4 l[i] (kA (l.take i) k0))) = (xw (l.take (i + 1)) k0 ++ l.drop (i + 1)).map xP := by
  rw [← List.map_set, List.set_append_right _ _ (by omega), hmt, Nat.sub_self, List.drop_eq_getElem_cons hlt, List.set_cons_zero, aFJ hlt, List.append_assoc]; rfl
 have hstep := aGH (k := k0) hlt
 generalize hX : (xw (l.take i) k0 ++ l.drop i).map xP = X at *
 generalize hK : kA (l.take i) k0 = K at *
 have hXl : i < X.length := by omega
 have hXi : X[i]? = some (xP l[i]) := by rw [← hX, List.getElem?_map, hat]; rfl
 have hopn : xk .u X i = some (.o none i (xP l[i])) := by simp only [xk, hXi]
 have hX2 : ∀ y : AV, (X.set i y)[i]? = some y := fun y => aDD hXl
 have hopn2 : ∀ y : AV, xk .u (X.set i y) i = some (.o none i y) := fun y => by simp only [xk, hX2 y]
 have hml3 : ∀ y : AV, i < (X.set i y).length := fun y => by rw [List.length_set]; exact hXl
 repeat ((first | refine qp (zf (m := l.length) rfl rfl hml2 ⟨_, _, _, _, rfl⟩) ?_ | refine qz ?_); conv => whnf)
 refine aCu (uU hXl rfl rfl rfl rfl rfl) rfl rfl (aCu (aFR rfl rfl rfl) rfl rfl ?_)
 refine qr (aHx rfl rfl hopn rfl rfl rfl) ?_
 conv => whnf
 refine kY (jb (aBj (l := (l[i]).1) (k0 := K) (by omega) (by omega) (by omega)) rfl rfl rfl rfl rfl rfl rfl) rfl rfl (fun e => by cases e) (Gh.fold 0 17 [0] rfl rfl rfl rfl rfl rfl (Gh.shut 0 (z := .agg [.lst 1 [], .lst 2 []]) (y' := .agg [.lst 1 ((yG (l[i]).1.length K).map xu), .lst 2 ((l[i]).2.map yP)]) rfl rfl (Gh.done ?_)))
 conv => whnf
 repeat ((refine qz ?_; conv => whnf))
 refine aCu (uU (hml3 _) rfl rfl rfl rfl rfl) rfl rfl (aCu (aFR rfl rfl rfl) rfl rfl ?_)
 refine qr (aHx rfl rfl (hopn2 _) rfl rfl rfl) ?_
 conv => whnf
 refine kY (jb (aAk (l := (l[i]).2) (k0 := K + (l[i]).1.length) (by omega) (by omega) (by omega)) rfl rfl rfl rfl rfl rfl rfl) rfl rfl (fun e => by cases e) (Gh.fold 0 24 [1] rfl rfl rfl rfl rfl rfl (Gh.shut 0 (z := .agg [.lst 1 [], .lst 2 []]) (y' := xP (aA4 l[i] K)) rfl rfl (Gh.done ?_)))
 conv => whnf
 repeat ((refine qz ?_; conv => whnf))
 refine ⟨⟨i + 1, hlt⟩, ⟨⟨?_, trivial⟩, .inl ⟨rfl, rfl⟩, .inl ⟨?_, rfl⟩, .inl ⟨rfl, rfl⟩, trivial⟩, by simp; omega⟩
 · exact congrArg (fun x => some (OB.mk _ _ x)) (Eq.trans (aDo _ _ _ _) hset)
 · show AV.v (.int .i64 (K + (l[i]).1.length + 2 * (l[i]).2.length)) = _
   rw [hstep]; rfl
set_option maxHeartbeats 2000000 in
theorem aEi {l : List Rf} {k0 : Int} (hm : l.length ≤ 1048600) (h0 : 0 ≤ k0) (h1 : k0 ≤ 8388608) : ACM Tryd.prog 41 ⟨.u, 4, l.map xh⟩ ((yA l.length k0).map xh) [.v (.int .i64 k0)] (.int .i64 (k0 + 4 * l.length)) := by
 refine aE6 xJ (by kernel_rfl) Tryd.func41 rfl Tryd.ntmps41 Tryd.results41 (by kernel_rfl) rfl ?_
 conv => whnf
 refine xZ (ι := { k : Nat // k ≤ l.length }) (fun k => ⟨[(0, .own 0), (1, .v (.int .i64 (k0 + 4 * (k.1 : Int)))), (5, .v (.int .i64 (k.1 : Int)))], [(0, ⟨.u, 4, (yA k.1 k0 ++ l.drop k.1).map xh⟩)]⟩) (fun k => l.length - k.1) ⟨0, Nat.zero_le _⟩ (by
  refine ⟨⟨rfl, trivial⟩, .inl ⟨rfl, rfl⟩, .inl ⟨?_, rfl⟩, .inl ⟨rfl, rfl⟩, trivial⟩
  show AV.v (.int .i64 k0) = _
  simp) ?_
 rintro ⟨k, hk⟩
 dsimp only
 have hml : (yA k k0 ++ l.drop k).length = l.length := by simp [uG]; omega
 have hml2 : ((yA k k0 ++ l.drop k).map xh).length = l.length := by rw [List.length_map]; exact hml
 conv => whnf
 by_cases hlt : k < l.length
 · have hlt' : k < (yA k k0 ++ l.drop k).length := by omega
   have hset : (yA k k0 ++ l.drop k).set k (jS (k0 + 4 * k)) = yA (k + 1) k0 ++ l.drop (k + 1) := by
    rw [List.set_append_right _ _ (by rw [uG]; exact Nat.le_refl _), uG, Nat.sub_self, List.drop_eq_getElem_cons hlt, List.set_cons_zero, aBF, List.append_assoc]; rfl
   have hset' : ((yA k k0 ++ l.drop k).map xh).set k (xh (jS (k0 + 4 * k))) = (yA (k + 1) k0 ++ l.drop (k + 1)).map xh := by rw [← List.map_set, hset]
   generalize hX : yA k k0 ++ l.drop k = X at *
   have hX0 : k < (X.map xh).length := by simpa using hlt'
   by_cases hz : (k0 + 4 * (k : Int) + 1 + 1 + 1) % 3 = 0
   · have hdz : decide ((k0 + 4 * (k : Int) + 1 + 1 + 1) % 3 = 0) = true := decide_eq_true hz
     repeat ((first | refine qp (zf (m := l.length) rfl rfl hml2 ⟨_, _, _, _, rfl⟩) ?_ | refine qz ?_ | refine qdr ?_ | refine qc (wL (k := k0 + 4 * (k : Int)) (by omega) (by omega)) ?_ | refine qp (xG (aEX (by omega) (by omega) (by omega) (by omega) rfl) rfl rfl rfl) ?_ | refine qp (uU (by simpa using hlt') rfl rfl rfl rfl rfl) ?_ | refine qr (vY (vB _ hlt') rfl rfl rfl rfl rfl rfl) ?_ | refine qr (vY (aDD (by simpa using hlt')) rfl rfl rfl rfl rfl rfl) ?_); conv => whnf)
     refine ⟨⟨k + 1, hlt⟩, ⟨⟨?_, trivial⟩, .inl ⟨rfl, rfl⟩, .inl ⟨?_, rfl⟩, .inl ⟨rfl, rfl⟩, trivial⟩, by simp; omega⟩
     · refine congrArg (fun x => some (OB.mk _ _ x)) (Eq.trans (aDp _ _ _ _ _ _) (Eq.trans ?_ hset'))
       show _ = List.set _ k (xh (jS (k0 + 4 * k)))
       unfold jS; rw [hdz]; rfl
     · show AV.v (.int .i64 (k0 + 4 * k + 1 + 1 + 1 + 1)) = _
       congr 2
       simp; omega
   · have hdz : decide ((k0 + 4 * (k : Int) + 1 + 1 + 1) % 3 = 0) = false := decide_eq_false hz
     repeat ((first | refine qp (zf (m := l.length) rfl rfl hml2 ⟨_, _, _, _, rfl⟩) ?_ | refine qz ?_ | refine qdr ?_ | refine qc (wL (k := k0 + 4 * (k : Int)) (by omega) (by omega)) ?_ | refine qp (xG (aEX (by omega) (by omega) (by omega) (by omega) rfl) rfl rfl rfl) ?_ | refine qp (uU (by simpa using hlt') rfl rfl rfl rfl rfl) ?_ | refine qr (vY (vB _ hlt') rfl rfl rfl rfl rfl rfl) ?_ | refine qr (vY (aDD (by simpa using hlt')) rfl rfl rfl rfl rfl rfl) ?_); conv => whnf)
     refine ⟨⟨k + 1, hlt⟩, ⟨⟨?_, trivial⟩, .inl ⟨rfl, rfl⟩, .inl ⟨?_, rfl⟩, .inl ⟨rfl, rfl⟩, trivial⟩, by simp; omega⟩
     · refine congrArg (fun x => some (OB.mk _ _ x)) (Eq.trans (aDp _ _ _ _ _ _) (Eq.trans ?_ hset'))
       show _ = List.set _ k (xh (jS (k0 + 4 * k)))
       unfold jS; rw [hdz]; rfl
     · show AV.v (.int .i64 (k0 + 4 * k + 1 + 1 + 1 + 1)) = _
       congr 2
       simp; omega
 · have hkk : k = l.length := by omega
   subst hkk
   repeat (first | (refine qp (zf (m := l.length) rfl rfl hml2 ⟨_, _, _, _, rfl⟩) ?_; conv => whnf) | (refine qz ?_; conv => whnf) | (refine qdr ?_; conv => whnf) | (rw [hml]))
   exact aCx rfl (by show some (OB.mk _ _ _) = _; simp)
theorem aEP {L : List Cmt} {R : List Rf} {k0 : Int} (hm : L.length ≤ 1048600) (ht : uo L ≤ 1048600) (hR : R.length ≤ 1048600) (h0 : 0 ≤ k0) (h1 : k0 ≤ 4194304) (h2 : 0 ≤ kA L k0) (h3 : kA L k0 ≤ 8388608) :
 ACG Tryd.prog 16 [.mix [.own 0, .own 1000000], .v (.int .i64 k0)] [⟨.u, 2, L.map xP⟩, ⟨.u, 4, R.map xh⟩] [⟨.u, 2, (xw L k0).map xP⟩, ⟨.u, 4, (yA R.length (kA L k0)).map xh⟩] ⟨.v (.int .i64 (kA L k0 + 4 * R.length)), []⟩ := by
 refine xX (rs := [.tmp 4]) xJ (by kernel_rfl) Tryd.func16 rfl Tryd.ntmps16 (by rw [Tryd.results16]) (by kernel_rfl) (by simp) rfl rfl (xE _ _ _ ?_)
 conv => whnf
 repeat ((first | refine qz ?_ | refine qr (aHw rfl rfl rfl) ?_ | refine qr (jb (aCY (l := L) (k0 := k0) (by omega) (by omega) (by omega) (by omega)) rfl rfl rfl rfl rfl rfl rfl) ?_ | refine qr (jb (aEi (l := R) (k0 := kA L k0) (by omega) (by omega) (by omega)) rfl rfl rfl rfl rfl rfl rfl) ?_); conv => whnf)
 exact aJr rfl rfl rfl
theorem aHc {sz sz' : Nat} {xs ys : List AV} : ∀ ob ∈ [(⟨.u, sz, xs⟩ : OB), ⟨.u, sz', ys⟩], wV ob := fun ob hb => by
 rcases List.mem_cons.1 hb with rfl | hb
 · trivial
 · rw [List.mem_singleton] at hb; subst hb; trivial
theorem aFn {t : ByteArray} {B : Bas} (ht : t.size ≤ 1048576) (hB : B.ok maxLen) (hs : BasS B)
 (h1 : AC Tryd.prog 13 [.v (.string t)] ⟨.tup [vP B, .v (.int .i64 0)], []⟩)
 (h2 : AC Tryd.prog 14 [.v (.string t)] ⟨.tup [.mix [.own 0, .own 1], .v (.int .i64 0)], [⟨.u, 2, B.store.map xP⟩, ⟨.u, 4, B.refs.map xh⟩]⟩) : AC Tryd.prog 5 [.v (.string t)] ⟨.v (.bool true), []⟩ := by
 have e0 := aDe hB
 have tt := aIY hs.sc
 have l1 := hs.sl
 have l2 := hs.rl
 have kb := aE2 B.store 1
 obtain ⟨K1, hK1⟩ : ∃ K, kA B.store 1 = K := ⟨_, rfl⟩
 rw [hK1] at kb
 have m1 := aEP (L := B.store) (R := B.refs) (k0 := 1) (by omega) (by omega) (by omega) (by omega) (by omega) (by omega) (by omega)
 have d1 := aBg (L := B.store) (n := B.refs.length) (k0 := 1) (by omega) (by omega) (by omega) (by omega) (by omega) (by omega) (by omega)
 rw [hK1] at m1 d1
 clear hK1
 refine qrf Tryd.func5 Tryd.ntmps5 Tryd.results5 ?_; conv => whnf
 repeat ((first | refine qz ?_ | refine qc (h1) ?_ | refine qst ?_ | refine qr (xW rfl rfl rfl rfl rfl rfl) ?_ | refine qr (aFQ h2 rfl (.inr ⟨by simp [yI, zH], aHc⟩) (by first | exact trivial | exact ⟨⟨rfl, rfl, rfl⟩, trivial⟩ | exact ⟨⟨rfl, rfl, rfl⟩, ⟨rfl, rfl, rfl⟩, trivial⟩ | exact ⟨⟨rfl, rfl, rfl⟩, ⟨rfl, rfl, rfl⟩, ⟨rfl, rfl, rfl⟩, trivial⟩) rfl rfl) ?_ | refine qc (e0) ?_); conv => whnf)
 refine qr (xB [22, 1022] m1 rfl rfl ⟨rfl, rfl, trivial⟩ rfl rfl trivial rfl rfl rfl (.inl rfl) rfl) ?_
 conv => whnf
 repeat ((first | refine qz ?_ | refine qc (d1) ?_ | refine qr (xW rfl rfl rfl rfl rfl rfl) ?_ | refine qr (aFQ h2 rfl (.inr ⟨by simp [yI, zH], aHc⟩) (by first | exact trivial | exact ⟨⟨rfl, rfl, rfl⟩, trivial⟩ | exact ⟨⟨rfl, rfl, rfl⟩, ⟨rfl, rfl, rfl⟩, trivial⟩ | exact ⟨⟨rfl, rfl, rfl⟩, ⟨rfl, rfl, rfl⟩, ⟨rfl, rfl, rfl⟩, trivial⟩) rfl rfl) ?_ | refine qc (e0) ?_); conv => whnf)
 exact xA rfl trivial
theorem aKR {t : ByteArray} (h : dK t = 0) : zJ t = true ∧ kG (dB t) = true := by
 have hdie : ¬ (zJ t = false ∨ (dS t).2.2 = true) := fun hd => by rw [aEr hd] at h; cases h
 have hh : zJ t = true := by
  cases e : zJ t with
  | true => rfl
  | false => exact absurd (.inl e) hdie
 have hs : (dS t).2.2 = false := by
  cases e : (dS t).2.2 with
  | false => rfl
  | true => exact absurd (.inr e) hdie
 rw [aGl hh hs] at h
 refine ⟨hh, ?_⟩
 split at h
 · cases h
 · split at h
   · cases h
   · split at h
     · assumption
     · cases h
theorem law_DecodeBaseU {t : ByteArray} (ht : t.size ≤ maxLen) : AC Tryd.prog 5 [.v (.string t)] ⟨.v (.bool true), []⟩ := by
 have ht' := ht
 unfold maxLen at ht'
 by_cases hl : 1048576 < t.size
 · refine qrf Tryd.func5 Tryd.ntmps5 Tryd.results5 ?_; conv => whnf
   repeat ((refine qz ?_; conv => whnf))
   exact xA rfl trivial
 by_cases h0 : 65536 < t.size
 · have k1 : jL t = (⟨[], []⟩, 2) := by unfold jL; rw [if_pos h0]
   have c1 := aBy ht
   have c2 := aCU ht (by rw [k1]; simp)
   rw [k1] at c1 c2
   exact aCk (by omega) (by omega) (by omega) c1 c2
 by_cases hk : dK t = 0
 · have k1 : jL t = (dB t, 0) := by unfold jL; rw [if_neg h0, if_pos hk, hk]
   have c1 := aBy ht
   rw [k1] at c1
   obtain ⟨hh, hbb⟩ := aKR hk
   exact aFn (by omega) (aGj (by omega) (aCF hh)) (aKP hbb) c1 (aGb (by omega) hk)
 · have k1 : jL t = (⟨[], []⟩, dK t) := by unfold jL; rw [if_neg h0, if_neg hk]
   have c1 := aBy ht
   have c2 := aCU ht (by rw [k1]; exact hk)
   rw [k1] at c1 c2
   have hb : 0 ≤ dK t ∧ dK t ≤ 1000 := by
    unfold dK
    repeat' split
    all_goals omega
   exact aCk (by omega) hb.1 hb.2 c1 c2
end Go.Proofs.YtoaifonjemlfcaaDoor.AM
