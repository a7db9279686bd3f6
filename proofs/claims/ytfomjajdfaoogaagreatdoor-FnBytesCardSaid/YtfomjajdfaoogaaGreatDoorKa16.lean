/- Texts of the machine over data, folded. -/
import Derived.Test.YtfomjajdfaoogaaGreatDoorKa15
import Derived.Test.YtfomjajdfaoogaaGreatDoorKa12
import Derived.Test.YtfomjajdfaoogaaGreatDoorKa13
import Derived.Test.YtfomjajdfaoogaaGreatDoorKa9
import Derived.Test.YtfomjajdfaoogaaGreatDoorKa7
import Derived.Lib.FrozenHead2
import Derived.Lib.OthersKept
import Derived.Laws.Externs
import Derived.WalkSpells
import Derived.RegionTactic
import Derived.BigRegion
import Derived.Test.YtfomjajdfaoogaaGreatDoorKa5
import Derived.Laws.BitsLemmas
import Derived.Test.YtfomjajdfaoogaaGreatDoorKa14
set_option linter.unusedVariables false
set_option linter.unusedSimpArgs false
set_option maxRecDepth 100000
namespace Go.Proofs.YtfomjajdfaoogaaGreatDoor.AM
open Go Go.RowKit
theorem aN5 (b : Bas) : (xu b).data.toList = (uD b).data.toList ++ yx (uV (uD b)).toNat := by
 unfold xu; rw [kF, ko]
theorem aPT {b : Bas} (h : uL b = true) : ∀ r ∈ b.refs, r.gone = decide (r.head = 0) := by
 intro r hr
 unfold uL at h
 simp only [Bool.and_eq_true] at h
 obtain ⟨i, hi, rfl⟩ := List.getElem_of_mem hr
 obtain ⟨_, g, _⟩ := (zH h.2.1).2 i hi
 unfold kU at g
 simp only [Bool.and_eq_true] at g
 have g2 := g.2.2
 cases hg : b.refs[i].gone with
 | true =>
  rw [hg, if_pos rfl] at g2
  exact g2.symm
 | false =>
  rw [hg, if_neg (by simp)] at g2
  simp only [decide_eq_true_eq] at g2
  exact (decide_eq_false (by omega)).symm
theorem aF4 {b : Bas} (hb : uL b = true) : zo (xu b) = true ∧ (dC (xu b)).1 = b.store ∧ dR (xu b) = (b.refs, ((uD b).size, false)) ∧ dS (xu b) = ((uV (uD b)).toNat, ((xu b).size, false)) := by
 have hs := aGL hb
 have hg := aPT hb
 have hbd := aAn (uD b).data.toList
 have h0 : At (xu b) 0 (xu b).data.toList := ⟨Nat.zero_le _, [], by simp⟩
 have hsz : (xu b).size = (uD b).size + (yx (uV (uD b)).toNat).length := by unfold xu; rw [ByteArray.size_append, aBn]
 rw [aN5] at h0
 obtain ⟨h1, h2⟩ := h0.app
 rw [vW, Nat.zero_add] at h2
 have hlen := congrArg List.length (aN8 b)
 rw [vW] at hlen
 rw [aN8] at h1
 obtain ⟨k1, h1⟩ := h1.app
 obtain ⟨k2, h1⟩ := h1.app
 obtain ⟨k3, h1⟩ := h1.app
 obtain ⟨k4, k5⟩ := h1.app
 have hb3 : brB.data.toList.length = 3 := rfl
 have hh : zo (xu b) = true := by
  have := k1.ext
  have hl := k1.len
  unfold zo
  rw [show brB.size = 3 from rfl] at this
  rw [this, decide_eq_true (by omega : 3 ≤ (xu b).size), decide_eq_true rfl]; rfl
 rw [hb3, Nat.zero_add] at k2 k3 k4 k5
 have e1 : dC (xu b) = (b.store, (3 + (yx b.store.length).length + (b.store.flatMap fun c => (zk c).data.toList).length, false)) := by
  unfold dC
  rw [aCx (by have := hs.sl; omega) hs.sl k2]
  exact aKW hs.sc k3
 have e2 : dR (xu b) = (b.refs, ((uD b).size, false)) := by
  unfold dR
  rw [e1]
  dsimp only
  rw [aCx (by have := hs.rl; omega) hs.rl k4]
  dsimp only
  rw [aK4 (fun r hr => ⟨hs.rr r hr, hg r hr⟩) k5, hlen]
  simp only [List.length_append, Prod.mk.injEq, and_true, true_and, hb3]
  omega
 refine ⟨hh, by rw [e1], e2, ?_⟩
 unfold dS
 rw [e2]
 dsimp only
 rw [aAc (by unfold uV; omega) h2, hsz]
theorem aM0 {b : Bas} (hb : uL b = true) : dB (xu b) = b ∧ dK (xu b) = 0 := by
 obtain ⟨h1, h2, h3, h4⟩ := aF4 hb
 have hB : dB (xu b) = b := by unfold dB; rw [h2, h3]
 have hbd := aAn (uD b).data.toList
 refine ⟨hB, ?_⟩
 rw [aGQ h1 (by rw [h4]), h4, h3, hB, if_neg (by simp)]
 dsimp only
 have hex : (xu b).extract 0 (uD b).size = uD b := by
  have h0 : At (xu b) 0 (uD b).data.toList := ⟨Nat.zero_le _, yx (uV (uD b)).toNat, by rw [List.drop_zero, aN5]⟩
  have := h0.ext
  rwa [Nat.zero_add] at this
 rw [hex, if_neg (by unfold uV; omega), if_pos hb]
def Pfx (t t' : ByteArray) : Prop := ∃ r, t'.data.toList = t.data.toList ++ r
theorem Pfx.sz {t t' : ByteArray} (h : Pfx t t') : t.size ≤ t'.size := by
 obtain ⟨r, e⟩ := h
 have := congrArg List.length e
 rw [List.length_append, vW, vW] at this
 omega
theorem Pfx.at {t t' : ByteArray} (h : Pfx t t') {i : Nat} (hi : i < t.size) : ∃ hi' : i < t'.size, t'[i] = t[i] := by
 have hs := h.sz
 obtain ⟨r, e⟩ := h
 refine ⟨by omega, ?_⟩
 have h1 : t'.data.toList[i]? = t.data.toList[i]? := by rw [e, List.getElem?_append_left (by rw [vW]; exact hi)]
 rw [List.getElem?_eq_getElem (by rw [vW]; omega), List.getElem?_eq_getElem (by rw [vW]; exact hi)] at h1
 exact Option.some.inj h1
theorem Pfx.ext {t t' : ByteArray} (h : Pfx t t') {i j : Nat} (hj : j ≤ t.size) : t'.extract i j = t.extract i j := by
 obtain ⟨r, e⟩ := h
 apply ByteArray.ext
 rw [ByteArray.data_extract, ByteArray.data_extract]
 apply Array.ext'
 rw [Array.toList_extract, Array.toList_extract, List.extract_eq_take_drop, List.extract_eq_take_drop, e]
 by_cases hi : i ≤ t.size
 · rw [List.drop_append_of_le_length (by rw [vW]; exact hi), List.take_append_of_le_length (by rw [List.length_drop, vW]; omega)]
 · rw [show j - i = 0 by omega, List.take_zero, List.take_zero]
theorem aKh {t t' : ByteArray} (h : Pfx t t') {a : Nat} : ∀ {f i n u : Nat}, (wZ t a f i n u).2.2 = true → wZ t' a f i n u = wZ t a f i n u
 | 0, i, n, u, _ => rfl
 | f + 1, i, n, u, hv => by
  unfold wZ at hv ⊢
  by_cases hi : i < t.size
  · obtain ⟨hi', e⟩ := h.at hi
    rw [dif_pos hi] at hv ⊢
    rw [dif_pos hi', e]
    by_cases hb : (t[i]).toNat < 128
    · rw [if_pos hb, if_pos hb]
    · rw [if_neg hb] at hv ⊢
      rw [if_neg hb]
      exact aKh h hv
  · rw [dif_neg hi] at hv; cases hv
section
variable {t t' : ByteArray} (h : Pfx t t')
include h
theorem aB2 {s : Rds} (hv : (rdN t s).2.2 = false) : rdN t' s = rdN t s := by
 unfold rdN at hv ⊢
 split at hv
 · cases hv
 · rename_i hn
   have h1 : (zJ t s.1).2.2 = true := by
    cases e : (zJ t s.1).2.2 with
    | true => rfl
    | false => exact absurd (.inr e) hn
   have h2 : zJ t' s.1 = zJ t s.1 := aKh h h1
   rw [h2]
theorem aCy {m : Nat} {s : Rds} (hv : (rdC t m s).2.2 = false) : rdC t' m s = rdC t m s := by
 unfold rdC at hv ⊢
 split at hv
 · cases hv
 · rw [aB2 h hv]
theorem aLp {s : Rds} (hv : (rdW t s).2.2 = false) : rdW t' s = rdW t s := by
 unfold rdW at hv ⊢
 split at hv
 · cases hv
 · rename_i hn
   have h1 : (rdC t 12 s).2.2 = false := by
    cases e : (rdC t 12 s).2.2 with
    | false => rfl
    | true => exact absurd (.inl e) hn
   have h2 : ¬ t.size < (rdC t 12 s).2.1 + (rdC t 12 s).1 := fun e => hn (.inr e)
   have hs := h.sz
   rw [aCy h h1, if_neg (by rintro (e | e); exact hn (.inl e); omega), if_neg hn, h.ext (by omega)]
theorem aRk {s : Rds} (hv : (rdS t s).2.2 = false) : rdS t' s = rdS t s := by
 have := aB2 h (s := s) hv
 unfold rdS
 rw [this]
theorem aK3 : ∀ {n : Nat} {s : Rds}, (zq t n s).2.2 = false → zq t' n s = zq t n s
 | 0, s, _ => rfl
 | n + 1, s, hv => by
  have h1 : (rdN t s).2.2 = false := by
   cases e : (rdN t s).2.2 with
   | false => rfl
   | true => rw [show (zq t (n + 1) s).2.2 = true from aFn (n := n) e] at hv; cases hv
  show (((rdN t' s).1 : Int) :: (zq t' n (rdN t' s).2).1, (zq t' n (rdN t' s).2).2) = (((rdN t s).1 : Int) :: (zq t n (rdN t s).2).1, (zq t n (rdN t s).2).2)
  rw [aB2 h h1, aK3 (n := n) hv]
theorem aK0 : ∀ {n : Nat} {s : Rds}, (ug t n s).2.2 = false → ug t' n s = ug t n s
 | 0, s, _ => rfl
 | n + 1, s, hv => by
  have h2 : (rdS t (rdW t s).2).2.2 = false := by
   cases e : (rdS t (rdW t s).2).2.2 with
   | false => rfl
   | true => rw [show (ug t (n + 1) s).2.2 = true from aFm (n := n) e] at hv; cases hv
  have h1 : (rdW t s).2.2 = false := by
   cases e : (rdW t s).2.2 with
   | false => rfl
   | true => rw [aHe e] at h2; cases h2
  show (((rdW t' s).1, (rdS t' (rdW t' s).2).1) :: (ug t' n (rdS t' (rdW t' s).2).2).1, (ug t' n (rdS t' (rdW t' s).2).2).2) = (((rdW t s).1, (rdS t (rdW t s).2).1) :: (ug t n (rdS t (rdW t s).2).2).1, (ug t n (rdS t (rdW t s).2).2).2)
  rw [aLp h h1, aRk h h2, aK0 (n := n) hv]
theorem aRi {s : Rds} (hv : (rdM t s).2.2 = false) : rdM t' s = rdM t s := by
 unfold rdM at hv ⊢
 dsimp only at hv
 have h3 : (rdC t 12 (zq t (rdC t 2 s).1 (rdC t 2 s).2).2).2.2 = false := by
  cases e : (rdC t 12 (zq t (rdC t 2 s).1 (rdC t 2 s).2).2).2.2 with
  | false => rfl
  | true => rw [aFm e] at hv; cases hv
 have h2 : (zq t (rdC t 2 s).1 (rdC t 2 s).2).2.2 = false := by
  cases e : (zq t (rdC t 2 s).1 (rdC t 2 s).2).2.2 with
  | false => rfl
  | true => rw [aB1 e] at h3; cases h3
 have h1 : (rdC t 2 s).2.2 = false := by
  cases e : (rdC t 2 s).2.2 with
  | false => rfl
  | true => rw [aFn e] at h2; cases h2
 rw [aCy h h1, aK3 h h2, aCy h h3, aK0 h hv]
theorem aKY : ∀ {n : Nat} {s : Rds}, (vJ t n s).2.2 = false → vJ t' n s = vJ t n s
 | 0, s, _ => rfl
 | n + 1, s, hv => by
  unfold vJ at hv ⊢
  split
  · rfl
  · rename_i hs
    rw [if_neg hs] at hv
    have h1 : (rdM t s).2.2 = false := by
     cases e : (rdM t s).2.2 with
     | false => rfl
     | true => dsimp only at hv; rw [aFl e] at hv; cases hv
    rw [aRi h h1, aKY (n := n) hv]
theorem aPt {s : Rds} (hv : (zM t s).2.2 = false) : zM t' s = zM t s := by
 unfold zM at hv ⊢
 dsimp only at hv
 have h2 : (rdN t (rdW t s).2).2.2 = false := by
  cases e : (rdN t (rdW t s).2).2.2 with
  | false => rfl
  | true => rw [kD e] at hv; cases hv
 have h1 : (rdW t s).2.2 = false := by
  cases e : (rdW t s).2.2 with
  | false => rfl
  | true => rw [kD e] at h2; cases h2
 rw [aLp h h1, aB2 h h2, aB2 h hv]
theorem aK6 : ∀ {n : Nat} {s : Rds}, (vK t n s).2.2 = false → vK t' n s = vK t n s
 | 0, s, _ => rfl
 | n + 1, s, hv => by
  unfold vK at hv ⊢
  split
  · rfl
  · rename_i hs
    rw [if_neg hs] at hv
    have h1 : (zM t s).2.2 = false := by
     cases e : (zM t s).2.2 with
     | false => rfl
     | true => dsimp only at hv; rw [aDa e] at hv; cases hv
    rw [aPt h h1, aK6 (n := n) hv]
theorem aRO (hv : zo t = true) : zo t' = true := by
 have h3 := aF9 hv
 have hs := h.sz
 unfold zo at hv ⊢
 simp only [Bool.and_eq_true, decide_eq_true_eq] at hv ⊢
 exact ⟨by omega, by rw [h.ext h3]; exact hv.2⟩
theorem aSa (hv : (dC t).2.2 = false) : dC t' = dC t := by
 unfold dC at hv ⊢
 have h1 : (rdC t 60 (3, false)).2.2 = false := by
  cases e : (rdC t 60 (3, false)).2.2 with
  | false => rfl
  | true => rw [aFl e] at hv; cases hv
 rw [aCy h h1, aKY h hv]
theorem aSd (hv : (dR t).2.2 = false) : dR t' = dR t := by
 have h0 : (dC t).2.2 = false := by
  cases e : (dC t).2.2 with
  | false => rfl
  | true => rw [aNg e] at hv; cases hv
 unfold dR at hv ⊢
 have h1 : (rdC t 8 (dC t).2).2.2 = false := by
  cases e : (rdC t 8 (dC t).2).2.2 with
  | false => rfl
  | true => rw [aDa e] at hv; cases hv
 rw [aSa h h0, aCy h h1, aK6 h hv]
theorem aNh (hv : (dS t).2.2 = false) : dS t' = dS t := by
 have h0 : (dR t).2.2 = false := by
  cases e : (dR t).2.2 with
  | false => rfl
  | true => rw [show (dS t).2.2 = true from kD e] at hv; cases hv
 have h1 : rdN t' (dR t).2 = rdN t (dR t).2 := aB2 h hv
 unfold dS
 rw [aSd h h0, h1]
end
theorem aSb {b : Bas} (hb : uL b = true) {t : ByteArray} (h : Pfx t (xu b)) (hs : t.size < (xu b).size) : dK t = 3 := by
 by_cases hd : zo t = false ∨ (dS t).2.2 = true
 · exact aJ9 hd
 · have hh : zo t = true := by
    cases e : zo t with
    | true => rfl
    | false => exact absurd (.inl e) hd
   have hv : (dS t).2.2 = false := by
    cases e : (dS t).2.2 with
    | false => rfl
    | true => exact absurd (.inr e) hd
   have e := aNh h hv
   obtain ⟨_, _, _, h4⟩ := aF4 hb
   rw [h4] at e
   rw [aGQ hh hv, if_pos (by rw [← e]; dsimp only; omega)]
theorem aQz {b : Bas} (hb : uL b = true) {t : ByteArray} (h : Pfx (xu b) t) (hs : (xu b).size < t.size) : dK t = 3 := by
 obtain ⟨h1, _, _, h4⟩ := aF4 hb
 have e := aNh h (by rw [h4])
 have hh := aRO h h1
 rw [h4] at e
 rw [aGQ hh (by rw [e]), if_pos (by rw [e]; dsimp only; omega)]
theorem aPX {n : Nat} {c : Cmt} (h : u6 n c = true) (hn : n ≤ 60) : jN c = true := by
 unfold u6 at h
 rw [Bool.and_eq_true] at h
 obtain ⟨h1, h2⟩ := h
 unfold jq at h2
 simp only [decide_eq_true_eq] at h2
 obtain ⟨a, b, d⟩ := h2
 by_cases hz : c.1.length = 0
 · rw [← aIT hz]
   unfold u6
   rw [h1, aCB (n := 0) ⟨a, ⟨fun _ => rfl, fun _ => hz⟩, fun i hi => by omega⟩]; rfl
 · rw [← aIS hz]
   unfold u6
   rw [h1, aCB (n := 60) ⟨a, ⟨fun q => absurd q hz, fun q => by omega⟩, fun i hi => by
    obtain ⟨g0, g1, g2, g3⟩ := d i hi
    exact ⟨g0, g1, by omega, g3⟩⟩]; rfl
theorem GoodS.los {cs : List Cmt} (g : GoodS cs) (hl : cs.length ≤ 60) {k : Nat} (hk : k < cs.length) : jN cs[k] = true := by
 have := aBl g.coms k hk
 rw [Nat.zero_add] at this
 exact aPX this (by omega)
theorem aO4 {N : Nat} (h : N ≤ 4000000) : aES (N : Int) = (xG N, 0) := by
 unfold aES
 rw [if_pos ⟨by omega, by omega⟩, Int.toNat_natCast]
theorem aN2 (t : ByteArray) : At t 0 t.data.toList := ⟨Nat.zero_le _, [], by simp⟩
def aCg : ByteArray := ⟨#[122]⟩
theorem aIc (N : Nat) : (aCg ++ xG N ++ aCg).size = 2 + (xG N).size := by
 rw [ByteArray.size_append, ByteArray.size_append]
 show 1 + _ + 1 = _
 omega
theorem aT0 {N : Nat} (h : N ≤ 4000000) : aE0 (aCg ++ xG N ++ aCg) 1 = ((N : Int), ((1 + (xG N).size : Nat) : Int), 0) := by
 have h4 := yc (n := N) (by omega)
 have hs := aIc N
 have hA : At (aCg ++ xG N ++ aCg) 1 (yx N) := by
  have h0 := aN2 (aCg ++ xG N ++ aCg)
  rw [kF, kF, ko, List.append_assoc] at h0
  obtain ⟨_, h1⟩ := h0.app
  exact (h1.app).1
 unfold aE0
 rw [if_neg (by omega), if_pos ⟨by omega, by omega⟩, show (1 : Int).toNat = 1 from rfl, aKi h hA, if_pos rfl, aBn]
theorem aRA {C : Cmt} (h : jN C = true) : aM5 (zk C) = true ∧ rdM (zk C) (0, false) = (C, ((zk C).size, false)) ∧ (zk C).size ≤ 65536 := by
 have hS := aJv h
 have h' := h
 unfold jN at h'
 simp only [Bool.and_eq_true, decide_eq_true_eq] at h'
 have h2 := h'.2.1
 have h12 := aEN h'.1
 have e := aLl hS h2 (by omega) (aN2 (zk C))
 rw [Nat.zero_add] at e
 refine ⟨?_, e, ?_⟩
 · unfold aM5
   rw [e]
   simp [h]
 · have := aHS hS
   omega
theorem aQu {b : Bas} (h : uL b = true) : (xu b).size ≤ 20000 := by
 have hs := aGL h
 have hbd := aAn (uD b).data.toList
 have h1 := yc (n := b.store.length) (by have := hs.sl; omega)
 have h2 := yc (n := b.refs.length) (by have := hs.rl; omega)
 have h3 := yc (n := (uV (uD b)).toNat) (by unfold uV; omega)
 have z1 := aB5 b.store (brB ++ xG b.store.length) hs.sc
 have z2 := aB3 b.refs (wX (brB ++ xG b.store.length) b.store ++ xG b.refs.length) hs.rr
 rw [ByteArray.size_append] at z1 z2
 have l1 := hs.sl
 have l2 := hs.rl
 have hb3 : brB.size = 3 := rfl
 have : (uD b).size ≤ 19000 := by
  unfold uD
  omega
 unfold xu
 rw [ByteArray.size_append]
 omega
theorem aR5 {t : ByteArray} {k : Nat} : Pfx (t.extract 0 k) t := ⟨t.data.toList.drop k, by
 rw [ByteArray.data_extract, Array.toList_extract, List.extract_eq_take_drop]
 simp⟩
theorem aR4 {t r : ByteArray} : Pfx t (t ++ r) := ⟨r.data.toList, kF _ _⟩
theorem aSt {t : ByteArray} {k : Nat} (h : k ≤ t.size) : (t.extract 0 k).size = k := by
 rw [ByteArray.size_extract]; omega
section
variable {P : Program} {Θ : Tab} {s : St} {ty : TypeId} {pos : String} {after : Array Edge} {g : Option (Nat × Bool)}
theorem aDg {o : Oper} {v : AV} (hp : ∀ s' : St, (∀ x ∈ o.op.operands, s'.ev x = s.ev x) → Pre P Θ o s' ⟨v, none⟩) (hv : v.within (fun _ => false) = true) : Sft P Θ o s v [] [] := by
 refine ⟨fun s' h1 h2 => ⟨⟨v, none⟩, hp s' h1, fun K hK => .done hK⟩, fun l ob h => by simp [yI] at h, fun l hl => (by cases hl), fun l hl => ?_, fun l hl => (zl hl).elim, fun l ob hl => (zl hl).elim⟩
 have := uP v hv hl; cases this
theorem aRz {d : Option Tmp} {x : Operand} {n : Int} {b : UInt8} (hb : n = (b.toNat : Int)) (hx : s.ev x = .v (.int .i64 n)) : Sft Tryz.prog Θ ⟨d, .convert 3 5 x, ty, pos, after, g⟩ s (.v (.int .u8 (b.toNat : Int))) [] [] :=
 aDg (fun s' hs => aGo hb ((hs x (by simp [Op.operands])).trans hx)) (by simp [AV.within])
theorem aRt {d : Nat} {t : TypeId} {x : Operand} {el sz b : Nat} {z : AV} {c : Value} (hf : s.hp (d + 1) = none) (ht : Θ.look t = .slice el sz b z) (hx : s.ev x = .v c) (hc : c.oneCell' = true) (hz : Nat.beq 1 (asz z) = true) (hsz : Nat.ble sz 65536 = true) (hok : okL (d + 1) = true := by rfl) :
 Sft P Θ ⟨some d, .buildSlice t 1 #[(0, x)], ty, pos, after, g⟩ s (.own (d + 1)) [] [(d + 1, some ⟨.s el, sz, [.v c]⟩)] := by
 refine ⟨fun s' h1 h2 => ⟨⟨.own (d + 1), some fun s'' => s''.set (d + 1) (some ⟨.s el, sz, [.v c]⟩)⟩, ?_, fun K hK => .done ?_⟩, fun l ob h => ?_, fun l hl => (by cases hl), fun l hl => .inl ?_, fun l ⟨o, hl⟩ => .inl ?_, fun l ob ⟨o, hl⟩ ho => ?_⟩
 · exact aBz ((h2 _ (.inl (in1 _ _))).1.trans hf) ht ((h1 x (by simp [Op.operands])).trans hx) hc hz hsz hok
 · rw [zQ, j6]; exact hK
 · obtain ⟨_, e⟩ := nu1 h; cases e; rfl
 · simp only [AV.names] at hl; rw [← Nat.eq_of_beq_eq_true hl]; exact in1 _ _
 · obtain ⟨rfl, _⟩ := nu1 hl; exact ⟨d, rfl, rfl⟩
 · obtain ⟨rfl, _⟩ := nu1 hl; rw [hf] at ho; cases ho
theorem aRu {d : Option Tmp} {t1 t2 : TypeId} {t l : Nat} {ob : OB} {r : Value} (hx : s.sl t = .own l) (ho : s.hp l = some ob) (hsh : ob.e.shut = true) (h : aIo P t1 t2 (.lst ob.sz ob.xs) r) (h1 : r.oneCell' = true) (hok : okL l = true := by rfl) : Sft P Θ ⟨d, .convert t1 t2 (.tmp t), ty, pos, after, g⟩ s (.v r) [] [] := by
 refine ⟨fun s' hs h2 => ⟨⟨.v r, none⟩, ?_, fun K hK => .done hK⟩, fun l ob h => by simp [yI] at h, fun l hl => (by cases hl), fun l hl => by simp [AV.names] at hl, fun l hl => (zl hl).elim, fun l ob hl => (zl hl).elim⟩
 have e1 : s'.ev (.tmp t) = .own l := (hs (.tmp t) (by simp [Op.operands])).trans hx
 have e2 : s'.hp l = some ob := (h2 l (.inr ⟨t, y7 (by simp [Op.operands]), by rw [hx]; simp [AV.names]⟩)).1.trans ho
 exact aQZ h (by rw [e1]; simp [St.dat, e2, hsh]) (by rw [e1]; simp [uQ, jb, xM, e2, hsh]) rfl h1
end
attribute [local irreducible] xI xO xQ xX yG Pre ACG
end Go.Proofs.YtfomjajdfaoogaaGreatDoor.AM
namespace Go.Proofs.YtfomjajdfaoogaaGreatDoor
open Go Go.RowKit
abbrev aA0 (b : Nat) (bs : List Value) (w : World) : Prop := Lib.IsBuilderF 54 5 0 b bs w
def jh (w : World) (b g : Nat) : Prop := ∃ v, w.cell? ⟨b, 1, none⟩ = some v ∧ v.ownBlock = some g
theorem aLU {b : Nat} {bs : List Value} {w : World} (h : aA0 b bs w) : ∃ p, (p = .pointer none ∨ p = .pointer (some ⟨b, 0, none⟩)) ∧ Lib.BuilderAtF 54 5 0 b p bs w := by
 rcases h with h | h
 · exact ⟨_, .inl rfl, h⟩
 · exact ⟨_, .inr rfl, h⟩
set_option maxHeartbeats 1000000 in
set_option maxRecDepth 100000 in
theorem aQw (b : Nat) (w : World) (h0 : w.cell? ⟨b, 0, none⟩ = some (.pointer (some ⟨b, 0, none⟩))) :
 Calls Tryz.prog 83 #[.pointer (some ⟨b, 0, none⟩)] w fun e w' => e = .returned (.tuple #[]) ∧ w' = w := by
 obtain ⟨j, hj, _⟩ := Option.map_eq_some_iff.1 (show (Tryz.prog.info? 52).map (·.size) = some 2 from by kernel_rfl)
 go_enter Tryz.func83, Tryz.ntmps83
 go_wp2
 rw [Lib.run_neq_ptr_same w _ Tryz.underlying50 hj]
 go_wp2
 go_end0
 exact ⟨rfl, rfl⟩
set_option maxHeartbeats 1000000 in
set_option maxRecDepth 100000 in
theorem aPW (b : Nat) (w : World) (h0 : w.cell? ⟨b, 0, none⟩ = some (.pointer none)) (hsh : w.shape? b = some (54, 2)) (hfz : w.frozen? ⟨b, 0, none⟩ = false) :
 Calls Tryz.prog 83 #[.pointer (some ⟨b, 0, none⟩)] w fun e w' => e = .returned (.tuple #[]) ∧ w' = w.setCell ⟨b, 0, none⟩ (.pointer (some ⟨b, 0, none⟩)) := by
 obtain ⟨j, hj, hjs⟩ := Option.map_eq_some_iff.1 (show (Tryz.prog.info? 52).map (·.size) = some 2 from by kernel_rfl)
 have hlies : liesAt Tryz.prog Tryz.prog.depth 54 (2 / Tryz.prog.cellsOf 54) 0 52 1 = true := by kernel_rfl
 have h164 : Tryz.prog.underlying 157 = some .unsafePointer := by kernel_rfl
 have hext : ∃ fn, Tryz.prog.funcs[122]? = some fn := ⟨_, Tryz.func122⟩
 go_enter Tryz.func83, Tryz.ntmps83
 go_wp2
 rw [Lib.run_to_unsafe w ⟨b, 0, none⟩ Tryz.underlying50 h164 hj (by rw [hjs]; decide) hsh (Nat.zero_lt_succ 1)]
 simp only [Result.andThen]
 rw [Oper.upon_value]
 go_wp2
 rw [run_callFunc_extern Tryz.func122 (by kernel_rfl) (by kernel_rfl) (by kernel_rfl) (e := Extern.AbiNoEscape.same) (by kernel_rfl)]
 rw [Lib.run_noEscape]
 simp only [Result.andThen]
 rw [Oper.upon_value]
 go_wp2
 rw [Lib.run_from_unsafe w ⟨b, 0, none⟩ h164 Tryz.underlying50 hj hsh hlies]
 simp only [Result.andThen]
 rw [Oper.upon_value]
 go_wp2
 go_end0
 exact ⟨rfl, rfl⟩
structure BldPost (b : Nat) (bs : List Value) (w w' : World) : Prop where
 is : aA0 b bs w'
 gr : AM.Grown w w' (fun g => g = b ∨ jh w b g)
 nb : ∀ g, jh w' b g → jh w b g ∨ w.heap.size ≤ g
theorem aIE {w w' : World} {M : Nat → Prop} (h : AM.Grown w w' M) (b i : Nat) (v : Value) (hb : M b) : AM.Grown w (w'.setCell ⟨b, i, none⟩ v) M :=
 ⟨h.os, h.tape, h.output, by rw [show (w'.setCell ⟨b, i, none⟩ v).heap.size = w'.heap.size from by simp [World.setCell]]; exact h.size, fun k hk hM => by
  rw [← h.block k hk hM]
  have hne : b ≠ k := fun e => hM (e ▸ hb)
  simp [World.setCell, Array.getElem?_modify, hne]⟩
theorem aLX {w w' : World} {b g : Nat} (h : w'.cell? ⟨b, 1, none⟩ = w.cell? ⟨b, 1, none⟩) (hg : jh w' b g) : jh w b g := by
 obtain ⟨v, h1, h2⟩ := hg
 exact ⟨v, by rw [← h]; exact h1, h2⟩
theorem aNd (b : Nat) (bs : List Value) (w : World) (h : aA0 b bs w) :
 Calls Tryz.prog 83 #[.pointer (some ⟨b, 0, none⟩)] w fun e w' => e = .returned (.tuple #[]) ∧ Lib.BuilderAtF 54 5 0 b (.pointer (some ⟨b, 0, none⟩)) bs w' ∧ w'.heap.size = w.heap.size ∧ AM.Grown w w' (fun g => g = b) ∧ w'.cell? ⟨b, 1, none⟩ = w.cell? ⟨b, 1, none⟩ := by
 rcases h with h | h
 · refine (aPW b w h.cell0 h.shape h.frozen0).mono ?_
   rintro e w' ⟨rfl, rfl⟩
   exact ⟨rfl, h.used _, by simp [World.setCell], aIE (AM.Grown.refl w _) b 0 _ rfl, World.cell?_setCell_other _ _ _ _ (by simp)⟩
 · refine (aQw b w h.cell0).mono ?_
   rintro e w' ⟨rfl, rfl⟩
   exact ⟨rfl, h, rfl, AM.Grown.refl w' _, rfl⟩
structure AppP (w : World) (e : TypeId) (v : Value) (n : Nat) (bs : List Value) (v' : Value) (w' : World) : Prop where
 own : w'.ownsRowF 0 e 1 v' n bs
 gr : w.grownBy w' v.ownBlock
 at_ : ∀ g, v'.ownBlock = some g → v.ownBlock = some g ∨ w.heap.size ≤ g
section
variable {P : Program} (w : World)
theorem aN1 {t ty e : TypeId} {i : TypeInfo} {z : Value} {bytes : Nat} (ht : P.underlying t = some (.slice e)) (hi : P.info? e = some i) (hz : i.zero = some z)
 (hsize : i.size = 1) (hby : i.bytes = bytes) (hzs : z.cells.size = 1) (v : Value) (n : Nat) (xs : List Value) (hown : w.ownsRowF 0 e 1 v n xs)
 (a : Addr) (m c : Nat) (news : List Value) (hl : news.length = m * 1) (hnews : ∀ j u, news[j]? = some u → w.cell? (a.add j) = some u) (h1 : ∀ u ∈ news, u.oneCell' = true)
 (h63 : n + m ≤ maxLen) (hbytes : (n + m) * bytes ≤ 140737488355328) :
 ∃ v' w', (Builtin.append_ #[t, t] ty #[v, .slice (some a) m c]).run P w = .ok v' w' ∧ AppP w e v (n + m) (xs ++ news) v' w' := by
 have hsmall : n + m ≤ 9223372036854775807 := by simp only [maxLen] at h63; omega
 rcases hown.2 with ⟨rfl, rfl⟩ | ⟨g, cap, cur, fz, rfl, hbg, hg, hfz, hnc, hcm, hcs, htake⟩
 · obtain ⟨v', w', r1, r2, r3, _⟩ := run_append_ownF (P := P) w w.heap.size t ty e i z 1 bytes ht hi hz hsize hby hzs (by decide) (.slice none 0 0) 0 xs ⟨hown.1, .inl ⟨rfl, rfl⟩⟩ a m c news hl hnews h1 h63 hbytes (Nat.le_refl _)
   refine ⟨v', w', r1, ?_, r3, fun g hg => .inr (r2.lt g hg).1⟩
   exact ⟨r2.1, r2.2.imp id fun ⟨g, cap, cur, fz, q1, q2, q3⟩ => ⟨g, cap, cur, fz, q1, Nat.zero_le _, q3⟩⟩
 · obtain ⟨v', w', r1, r2, r3, _⟩ := run_append_ownF (P := P) w 0 t ty e i z 1 bytes ht hi hz hsize hby hzs (by decide) _ n xs hown a m c news hl hnews h1 h63 hbytes (Nat.zero_le _)
   refine ⟨v', w', r1, r2, r3, fun g' hg' => ?_⟩
   by_cases hroom : n + m ≤ cap
   · have hr := run_append_roomF (P := P) w t ty e i ht hi g n cap cur fz hg (by rw [hsize]; exact hfz) a m c news (by rw [hsize]; exact hl) hnews h1 hroom (by rw [hsize, hl, hcs]; omega)
     rw [r1] at hr
     cases hr
     exact .inl hg'
   · have hr := run_append_grow (P := P) w t ty e i z ht hi hz ⟨g, 0, none⟩ n cap xs (by rw [hsize]; exact hown.1) (hown.cells (g := g) rfl) a m c news (by rw [hsize]; exact hl) hnews (by omega) (by omega) (by rw [hby]; exact growslice_fits (by omega) hbytes)
     rw [r1] at hr
     cases hr
     simp only [Value.ownBlock, Option.some.injEq] at hg'
     exact .inr (by omega)
theorem aMW {t u ty e : TypeId} {i : TypeInfo} (ht : P.underlying t = some (.slice e)) (hu : P.underlying u = some .string) (hi : P.info? e = some i) (hz : i.zero = some (.int .u8 0))
 (hsize : i.size = 1) (hby : i.bytes = 1) (v : Value) (n : Nat) (xs : List Value) (hown : w.ownsRowF 0 e 1 v n xs) (s : ByteArray)
 (h63 : n + s.size ≤ maxLen) (hbytes : n + s.size ≤ 140737488355328) :
 ∃ v' w', (Builtin.append_ #[t, u] ty #[v, .string s]).run P w = .ok v' w' ∧ AppP w e v (n + s.size) (xs ++ Lib.strCells s) v' w' := by
 have hsmall : n + s.size ≤ 9223372036854775807 := by simp only [maxLen] at h63; omega
 rcases hown.2 with ⟨rfl, rfl⟩ | ⟨g, cap, cur, fz, rfl, hbg, hg, hfz, hnc, hcm, hcs, htake⟩
 · obtain ⟨v', w', r1, r2, r3, _⟩ := Lib.run_append_own_stringF (P := P) w w.heap.size t u ty e i ht hu hi hz hsize hby (.slice none 0 0) 0 xs ⟨hown.1, .inl ⟨rfl, rfl⟩⟩ s h63 hbytes (Nat.le_refl _)
   refine ⟨v', w', r1, ?_, r3, fun g hg => .inr (r2.lt g hg).1⟩
   exact ⟨r2.1, r2.2.imp id fun ⟨g, cap, cur, fz, q1, q2, q3⟩ => ⟨g, cap, cur, fz, q1, Nat.zero_le _, q3⟩⟩
 · obtain ⟨v', w', r1, r2, r3, _⟩ := Lib.run_append_own_stringF (P := P) w 0 t u ty e i ht hu hi hz hsize hby _ n xs hown s h63 hbytes (Nat.zero_le _)
   refine ⟨v', w', r1, r2, r3, fun g' hg' => ?_⟩
   by_cases hroom : n + s.size ≤ cap
   · have hr := Lib.run_append_room_stringF (P := P) w t u ty e i ht hu hi hsize g n cap cur fz hg (by simpa using hfz) s hroom (by omega)
     rw [r1] at hr
     cases hr
     exact .inl hg'
   · have hr := Lib.run_append_grow_string (P := P) w t u ty e i (.int .u8 0) ht hu hi hz ⟨g, 0, none⟩ n cap xs (by rw [hsize]; exact hown.1) (hown.cells (g := g) rfl) s (by omega) (by omega) (by rw [hby]; exact growslice_fits (by omega) (by omega))
     rw [r1] at hr
     cases hr
     simp only [Value.ownBlock, Option.some.injEq] at hg'
     exact .inr (by omega)
theorem aHJ {ops : Array Oper} {rest : List Oper} {o : Oper} {a : Act} {Q : Exit → Act → World → Prop} (hgd : o.guard = none) (s x : Operand) (t u : TypeId)
 (ho : o.op = .call { callee := .builtin .append, args := #[s, x], argTypes := #[t, u] }) {v y : Value} (hs : a.eval s = v) (hx : a.eval x = y) {R : Value → World → Prop}
 (hr : ∃ v' w', (Builtin.append_ #[t, u] o.type #[v, y]).run P w = .ok v' w' ∧ R v' w') (h : ∀ v' w', R v' w' → wpList P ops Q rest (a.put o.dst v') w') : wpList P ops Q (o :: rest) a w := by
 refine wpList_plain hgd fun K hK => ?_
 obtain ⟨v', w', hr, h2⟩ := hr
 unfold Oper.wp execOp
 simp only [ho, resolve, invoke, builtin, Sem.run_bind, Sem.run_pure, Result.andThen_ok, List.map_toArray, List.map_cons, List.map_nil, hs, hx, hr]
 exact hK _ _ (h v' w' h2)
end
theorem aLV {b n : Nat} {bs' : List Value} {v v' : Value} {w w0 w1 w2 : World} (hbk : w1.heap[b]? = some (.cells #[.pointer (some ⟨b, 0, none⟩), v] 54 (0, 0))) (hne : v.ownBlock ≠ some b) (hs1 : w1.heap.size = w.heap.size) (hg1 : AM.Grown w w1 (fun g => g = b)) (hc1 : w1.cell? ⟨b, 1, none⟩ = w.cell? ⟨b, 1, none⟩)
 (ha : Below w1.heap.size w1 w0) (hown' : w2.ownsRowF 0 5 1 v' n bs') (hn : n = bs'.length) (hgrow : w0.grownBy w2 v.ownBlock) (hat : ∀ g, v'.ownBlock = some g → v.ownBlock = some g ∨ w0.heap.size ≤ g) :
 w2.cell? ⟨b, 1, none⟩ = some v ∧ w2.cell? ⟨b, 0, none⟩ = some (.pointer (some ⟨b, 0, none⟩)) ∧ w2.frozen? ⟨b, 1, none⟩ = false ∧ BldPost b bs' w (w2.setCell ⟨b, 1, none⟩ v') := by
 have c1 : w1.cell? ⟨b, 1, none⟩ = some v := by rw [Lib.cell_of_heap hbk]; rfl
 have hlt : b < w1.heap.size := (Array.getElem?_eq_some_iff.1 hbk).1
 have hb2 : w2.heap[b]? = some (.cells #[.pointer (some ⟨b, 0, none⟩), v] 54 (0, 0)) := by
  rw [hgrow.block b (Nat.lt_of_lt_of_le hlt ha.size) (fun e => hne e.symm), ha.block b hlt]
  exact hbk
 have d0 : w2.cell? ⟨b, 0, none⟩ = some (.pointer (some ⟨b, 0, none⟩)) := by rw [Lib.cell_of_heap hb2]; rfl
 have d1 : w2.cell? ⟨b, 1, none⟩ = some v := by rw [Lib.cell_of_heap hb2]; rfl
 have f1 : w2.frozen? ⟨b, 1, none⟩ = false := Lib.frozen_of_heap hb2 1
 have hbuf : ∀ g, v.ownBlock = some g → jh w b g := fun g hg => ⟨v, by rw [← hc1]; exact c1, hg⟩
 have hgw : AM.Grown w w2 (fun g => g = b ∨ jh w b g) := by
  have h1 : AM.Grown w w1 (fun g => g = b ∨ jh w b g) := ⟨hg1.os, hg1.tape, hg1.output, hg1.size, fun i hi hM => hg1.block i hi (fun e => hM (.inl e))⟩
  have h2 : AM.Grown w w0 (fun g => g = b ∨ jh w b g) := h1.trans (r := fun _ => False) (AM.Grown.of ha _) (fun g hg _ => hg.elim)
  exact h2.trans (AM.Grown.by hgrow) (fun g hg _ => .inr (hbuf g hg))
 have hput := Lib.BuilderAtF.put (T := 54) (e := 5) (Nat.zero_le b) hb2 (bs' := bs') (by rw [← hn]; exact hown') (by decide)
 refine ⟨d1, d0, f1, .inr hput, aIE hgw b 1 _ (.inl rfl), fun g' hg' => ?_⟩
 obtain ⟨v2, k1, k2⟩ := hg'
 rw [World.cell?_setCell_same _ _ _ d1] at k1
 cases k1
 rcases hat g' k2 with h | h
 · exact .inl (hbuf g' h)
 · exact .inr (by have := ha.size; omega)
set_option maxHeartbeats 2000000 in
set_option maxRecDepth 100000 in
theorem aT3 (b : Nat) (bs : List Value) (c : Int) (w : World) (h : aA0 b bs w) (hlen : bs.length + 1 ≤ 140737488355328) :
 Calls Tryz.prog 55 #[.pointer (some ⟨b, 0, none⟩), .int .u8 c] w fun e w' => e = .returned .nilIface ∧ BldPost b (bs ++ [.int .u8 c]) w w' := by
 obtain ⟨i0, hi, hz0, hz1, hz2⟩ := info_parts (show (Tryz.prog.info? 5).map (fun i => (i.zero, i.size, i.bytes)) = some (some (.int .u8 0), 1, 1) from by kernel_rfl)
 go_enter Tryz.func55, Tryz.ntmps55
 go_wp2_with (go_at_call 83; refine (aNd b bs _ h).mono ?_)
 rintro e w1 ⟨rfl, h1, hs1, hg1, hc1⟩
 have HS := Lib.hid hs1; clear hs1
 have HC := Lib.hid hc1; clear hc1
 obtain ⟨hB, v, hbk, hown, hne⟩ := h1
 have c0 : w1.cell? ⟨b, 0, none⟩ = some (.pointer (some ⟨b, 0, none⟩)) := by rw [Lib.cell_of_heap hbk]; rfl
 have c1 : w1.cell? ⟨b, 1, none⟩ = some v := by rw [Lib.cell_of_heap hbk]; rfl
 have hrun := aN1 (P := Tryz.prog) (w1.alloc (.cells #[.int .u8 c] 5)) (ty := 22) Tryz.underlying22 hi hz0 hz1 hz2 rfl v _ bs (hown.alloc _) ⟨w1.heap.size, 0, none⟩ 1 1 [.int .u8 c] rfl (by
  intro j u hj
  match j, hj with
  | 0, hj => simp at hj; subst hj; simp [Addr.add]) (by intro u hu; simp at hu; subst hu; rfl) (by unfold maxLen; omega) (by omega)
 go_wp2_with (at_builtin; refine aHJ _ rfl _ _ 22 22 rfl rfl rfl hrun ?_)
 intro v' w2 hA
 have hown' := hA.own
 have hp := aLV hbk hne HS.out hg1 HC.out ((Below.refl _ _).alloc (Nat.le_refl _) _) hown' (by simp) hA.gr hA.at_
 obtain ⟨d1, d0, f1, hpost⟩ := hp
 obtain ⟨g, cap, rfl⟩ : ∃ g cap, v' = .slice (some ⟨g, 0, none⟩) (bs.length + 1) cap := by
  rcases hown'.2 with ⟨_, h0⟩ | ⟨g, cap, cur, fz, hv, _⟩
  · omega
  · exact ⟨g, cap, hv⟩
 go_wp2
 go_ret
 exact ⟨rfl, hpost⟩
set_option maxHeartbeats 2000000 in
set_option maxRecDepth 100000 in
theorem aT5 (b : Nat) (bs : List Value) (s : ByteArray) (w : World) (h : aA0 b bs w) (hlen : bs.length + s.size ≤ 140737488355328) :
 Calls Tryz.prog 41 #[.pointer (some ⟨b, 0, none⟩), .string s] w fun e w' => e = .returned (.tuple #[.int .i64 s.size, .nilIface]) ∧ BldPost b (bs ++ Lib.strCells s) w w' := by
 obtain ⟨i0, hi, hz0, hz1, hz2⟩ := info_parts (show (Tryz.prog.info? 5).map (fun i => (i.zero, i.size, i.bytes)) = some (some (.int .u8 0), 1, 1) from by kernel_rfl)
 go_enter Tryz.func41, Tryz.ntmps41
 go_wp2_with (go_at_call 83; refine (aNd b bs _ h).mono ?_)
 rintro e w1 ⟨rfl, h1, hs1, hg1, hc1⟩
 have HS := Lib.hid hs1; clear hs1
 have HC := Lib.hid hc1; clear hc1
 obtain ⟨hB, v, hbk, hown, hne⟩ := h1
 have c0 : w1.cell? ⟨b, 0, none⟩ = some (.pointer (some ⟨b, 0, none⟩)) := by rw [Lib.cell_of_heap hbk]; rfl
 have c1 : w1.cell? ⟨b, 1, none⟩ = some v := by rw [Lib.cell_of_heap hbk]; rfl
 have hrun := aMW (P := Tryz.prog) w1 (u := 9) (ty := 22) Tryz.underlying22 Tryz.underlying9 hi hz0 hz1 hz2 v _ bs hown s (by unfold maxLen; omega) (by omega)
 go_wp2_with (at_builtin; refine aHJ _ rfl _ _ 22 9 rfl rfl rfl hrun ?_)
 intro v' w2 hA
 have hown' := hA.own
 have hp := aLV hbk hne HS.out hg1 HC.out (Below.refl _ _) hown' (by rw [List.length_append, Lib.strCells_length]) hA.gr hA.at_
 obtain ⟨d1, d0, f1, hpost⟩ := hp
 obtain ⟨A, m, cap, rfl⟩ : ∃ A m cap, v' = .slice A m cap := by
  rcases hown'.2 with ⟨hv, h0⟩ | ⟨g, cap, cur, fz, hv, _⟩
  · exact ⟨_, _, _, hv⟩
  · exact ⟨_, _, _, hv⟩
 go_wp2
 go_ret2
 exact ⟨rfl, hpost⟩
set_option maxHeartbeats 2000000 in
set_option maxRecDepth 100000 in
theorem aSC (b : Nat) (l : List UInt8) (w : World) (h : aA0 b (Lib.byteCells l) w) (h0 : l ≠ []) :
 Calls Tryz.prog 23 #[.pointer (some ⟨b, 0, none⟩)] w fun e w' => e = .returned (.string ⟨l.toArray⟩) ∧ BldPost b (Lib.byteCells l) w w' := by
 obtain ⟨p, hp, hAt⟩ := aLU h
 obtain ⟨hB, v, hbk, hown, hne⟩ := hAt
 have hl0 : l.length ≠ 0 := by simpa using h0
 have hAt : Lib.BuilderAtF 54 5 0 b p (Lib.byteCells l) w := ⟨hB, v, hbk, hown, hne⟩
 rw [Lib.byteCells_length] at hown
 obtain ⟨g, cap, cur, fz, rfl, hbg, hg, hfz, hnc, hcm, hcs, htake⟩ : ∃ g cap cur fz, v = .slice (some ⟨g, 0, none⟩) l.length cap ∧ 0 ≤ g ∧ w.heap[g]? = some (.cells cur 5 fz) ∧ fz.2 ≤ l.length * 1 ∧ l.length ≤ cap ∧ cap ≤ maxLen ∧ cur.size = cap * 1 ∧ cur.toList.take (l.length * 1) = Lib.byteCells l := by
  rcases hown.2 with ⟨_, hz⟩ | ⟨g, cap, cur, fz, hv, r⟩
  · exact absurd hz hl0
  · exact ⟨g, cap, cur, fz, hv, r⟩
 have hgb : g ≠ b := fun e => hne (by rw [e]; rfl)
 have c1 : w.drew.cell? ⟨b, 1, none⟩ = some (.slice (some ⟨g, 0, none⟩) l.length cap) := by
  have : w.drew.heap[b]? = some (.cells #[p, .slice (some ⟨g, 0, none⟩) l.length cap] 54 (0, 0)) := hbk
  rw [Lib.cell_of_heap this]; rfl
 have c1w : w.cell? ⟨b, 1, none⟩ = some (.slice (some ⟨g, 0, none⟩) l.length cap) := c1
 have hSD : (Builtin.unsafeSliceData_ #[22] 95 #[.slice (some ⟨g, 0, none⟩) l.length cap]).run Tryz.prog w.drew = .ok (.pointer (some ⟨g, 0, none⟩)) w.drew :=
  Lib.run_unsafeSliceData_row _ _ _ _ _ _ (by omega)
 have hptr : Tryz.prog.underlying 95 = some (.pointer 5) := by kernel_rfl
 have hUS : (Builtin.unsafeString_ #[95, 3] 9 #[.pointer (some ⟨g, 0, none⟩), .int .i64 l.length]).run Tryz.prog w.drew = .ok (.string ⟨l.toArray⟩) (w.drew.freeze ⟨g, 0, none⟩ l.length) := by
  refine Lib.run_unsafeString_row w.drew 95 3 9 5 hptr (by kernel_rfl) g cur.size (by have hg' : w.drew.heap[g]? = some (.cells cur 5 fz) := hg; simp [World.shape?, hg']) l h0 (by omega) (by unfold maxLen at hcm; omega) ?_
  intro j x hx
  have := hown.cells (g := g) rfl j (.int .u8 x.toNat) (by simp [Lib.byteCells, hx])
  exact this
 have hkeep : BldPost b (Lib.byteCells l) w (w.drew.freeze ⟨g, 0, none⟩ l.length) := by
  have hF := hAt.drew.froze (g := g) (cap := cap) (by rw [Lib.byteCells_length]; exact c1)
  rw [Lib.byteCells_length] at hF
  have hsz : (w.drew.freeze ⟨g, 0, none⟩ l.length).heap.size = w.heap.size := by simp [World.freeze, hl0]
  have hblk : ∀ k, k ≠ g → (w.drew.freeze ⟨g, 0, none⟩ l.length).heap[k]? = w.heap[k]? := fun k hk => by
   simp [World.freeze, hl0, Array.getElem?_modify, Ne.symm hk]; rfl
  refine ⟨by rcases hp with rfl | rfl; exact .inl hF; exact .inr hF, ⟨?_, ?_, ?_, by omega, fun k hk hM => hblk k (fun e => hM (.inr ⟨_, c1w, by rw [e]; rfl⟩))⟩, fun g' hg' => .inl (aLX (AM.cell_same (hblk b (Ne.symm hgb)) 1) hg')⟩
  all_goals (unfold World.freeze; rw [if_neg hl0]; rfl)
 go_enter Tryz.func23, Tryz.ntmps23
 go_wp2
 go_region
 all_goals (go_wp2; go_ret; exact ⟨rfl, hkeep⟩)
end Go.Proofs.YtfomjajdfaoogaaGreatDoor
namespace Go.Proofs.YtfomjajdfaoogaaGreatDoor.AM
open Go Go.RowKit
def aTp (t : ByteArray) : AbsR where
 rel w b T := aA0 b (Lib.strCells t) w ∧ T b ∧ ∀ g, jh w b g → T g
 frame := by
  rintro w w' b T hw ⟨h1, h2, h3⟩
  have hb := hw b h2
  refine ⟨?_, h2, fun g hg => h3 g (aLX (cell_same hb 1) hg)⟩
  have key : ∀ p, Lib.BuilderAtF 54 5 0 b p (Lib.strCells t) w → Lib.BuilderAtF 54 5 0 b p (Lib.strCells t) w' := by
   rintro p ⟨k0, v, k1, k2, k3⟩
   refine ⟨k0, v, hb.trans k1, ⟨k2.1, ?_⟩, k3⟩
   rcases k2.2 with k | ⟨g, cap, cur, fz, q1, q2, q3, q4⟩
   · exact .inl k
   · exact .inr ⟨g, cap, cur, fz, q1, q2, (hw g (h3 g ⟨v, by rw [Lib.cell_of_heap k1]; rfl, by rw [q1]; rfl⟩)).trans q3, q4⟩
  exact h1.imp (key _) (key _)
abbrev zU (t : ByteArray) : OB := ⟨.c (aTp t), 2, []⟩
section
variable {P : Program} {f : FuncId} {args : List AV} {t t' : ByteArray}
theorem aN7 {b : Nat} {bs : List Value} {w : World} (h : aA0 b bs w) : b < w.heap.size := h.elim (·.lt) (·.lt)
theorem aNb {b g : Nat} {bs : List Value} {w : World} (h : aA0 b bs w) (hg : jh w b g) : g < w.heap.size := by
 obtain ⟨p, _, _, v, k1, k2, _⟩ := aLU h
 obtain ⟨v', e1, e2⟩ := hg
 rw [Lib.cell_of_heap k1] at e1
 cases e1
 exact (k2.lt g e2).2
theorem aOj {S : Nat → Prop} {w : World} {hp : Nat → Option OB} {B : Nat → Nat} {V : Nat → Value} {T : Nat → Prop} {b : Nat} (hT : ∀ g, T g ↔ (g = b ∨ jh w b g)) (hb : aA0 b (Lib.strCells t) w) : RO S w hp B V T (zU t) b (.slice none 0 0) :=
 ⟨0, [], ⟨fun t' e => (by cases e), hb, (hT _).2 (.inl rfl), fun g hg => (hT g).2 (.inr hg)⟩, ⟨rfl, rfl, fun g hg => ((hT g).1 hg).elim (fun e => e ▸ aN7 hb) (fun e => aNb hb e)⟩, fun x hx => (by cases hx), Nat.succ_pos 1, World.ownsRow_nil _ _ _ _, fun g hg => by simp [Value.ownBlock] at hg⟩
theorem aLx {ob o : OB} {l : Nat} (e : xE 0 [ob] l = some o) : l = 0 ∧ o = ob := by
 simp only [xE] at e
 by_cases h : l = 0
 · subst h; simp at e; exact ⟨rfl, e.symm⟩
 · rw [yH h] at e; cases e
theorem aPv {S : Nat → Prop} {w : World} {hp : Nat → Option OB} {b : Nat} {lo : Nat → Prop} {B : Nat → Nat} {V : Nat → Value} (h0 : hp 0 = some (zU t)) (hone : ∀ l o, hp l = some o → l = 0 ∧ o = zU t) (hB : B 0 = b) (hV : V 0 = .slice none 0 0) (hb : aA0 b (Lib.strCells t) w) (hS : ∀ g, (g = b ∨ jh w b g) → ¬ S g ∧ lo g) : Rows S w hp (fun _ => none) B V (fun _ g => g = b ∨ jh w b g) lo := by
 have hown : ∀ g, ¬ (V 0).ownBlock = some g := fun g e => by rw [hV] at e; simp [Value.ownBlock] at e
 refine ⟨fun l ob e => ?_, fun l ob g e hg => ?_, fun l ob g e hg => ?_, fun l l' o1 o2 g e1 e2 _ _ => ?_, fun l es e => (by cases e)⟩
 · obtain ⟨rfl, rfl⟩ := hone l ob e
   rw [hB, hV]
   exact aOj (fun g => Iff.rfl) hb
 · obtain ⟨rfl, rfl⟩ := hone l ob e
   rcases hg with hg | hg
   · exact absurd hg (hown g)
   · exact ⟨(hS g hg).1, hg.elim (fun e => e ▸ aN7 hb) (fun e => aNb hb e), (hS g hg).2⟩
 · obtain ⟨rfl, rfl⟩ := hone l ob e
   exact absurd hg (hown g)
 · rw [(hone l o1 e1).1, (hone l' o2 e2).1]
theorem aHN {out : AV} {p : List Nat} (hent : ∀ vs w, (callFunc f vs).run P w = .ok (.enter f vs) w) (hlb : zC (fun _ => false) args = true)
 (h : ∀ (w : World) (S0 : Nat → Prop) (b : Nat) (us : List Value), aA0 b (Lib.strCells t) w → RVs S0 w (fun _ => none) (fun _ => 0) (fun _ => undef) args us →
  Calls P f (.pointer (some ⟨b, 0, none⟩) :: us).toArray w fun e w' => ∃ v, e = .returned v ∧ (∀ S w hp B V, RV S w hp B V out v) ∧ BldPost b (Lib.strCells t') w w') :
 ACG P f (.optr 0 0 p 0 :: args) [zU t] [zU t'] ⟨out, []⟩ := by
 refine ⟨hent, fun w S0 B0 V0 T0 vs hS _ hro hv => ?_⟩
 obtain ⟨t0, cs, ⟨_, r0⟩, r2, r3, r4, r5, r6⟩ := hro.ro 0 _ rfl
 obtain ⟨hb, hT0, hTb⟩ := r0
 unfold RVs at hv
 obtain ⟨u, us, rfl, hu, hv⟩ := hv
 unfold RV at hu
 obtain ⟨ob, ho, rfl⟩ := hu
 obtain ⟨_, rfl⟩ := aLx ho
 have hVn : V0 0 = .slice none 0 0 := by
  rcases r5.2 with ⟨e, _⟩ | ⟨g, cap', cur, e, _⟩
  · exact e
  · have hg : (V0 0).ownBlock = some g := by rw [e]; rfl
    have := r6 g hg
    subst this
    exact absurd hT0 (hro.nd 0 _ _ rfl hg)
 have hHB : ∀ g, T0 0 g → HB (xE 0 [zU t]) V0 T0 g := fun g hg => ⟨0, _, rfl, .inr hg⟩
 have hold : ∀ g, (g = B0 0 ∨ jh w (B0 0) g) → T0 0 g := fun g hg => hg.elim (fun e => e ▸ hT0) (hTb g)
 refine (h w S0 (B0 0) us hb (aOl hlb hv)).mono fun e w' ⟨v, he, hout, hp⟩ => ?_
 refine ⟨v, S0, fun _ => 0, fun _ => undef, fun _ => Fa, fun _ g => g = B0 0 ∨ jh w' (B0 0) g, he, aNt hp.gr (fun g e => hHB g (hold g e)), fun _ h => h, fun b hb' => ⟨Nat.lt_of_lt_of_le (hS b hb') hp.gr.size, .inl hb'⟩, hout _ _ _ _ _, wK j4, aPv rfl (fun l o e => aLx e) rfl hVn hp.is (fun g hg => ?_), fun l l' ob ob' g e => by rw [j4] at e; cases e⟩
 have hq : T0 0 g ∨ w.heap.size ≤ g := by
  rcases hg with e | hg
  · exact .inl (e ▸ hT0)
  · exact (hp.nb g hg).imp (hTb g) id
 rcases hq with hq | hq
 · exact ⟨(hro.me 0 _ g rfl (.inr hq)).1, .inr (hHB g hq)⟩
 · exact ⟨fun hs => by have := hS g hs; omega, .inl hq⟩
end
theorem aSq : ∀ vs w, (callFunc 55 vs).run Tryz.prog w = .ok (.enter 55 vs) w := wR Tryz.func55 (by kernel_rfl) (by kernel_rfl)
theorem aSp : ∀ vs w, (callFunc 41 vs).run Tryz.prog w = .ok (.enter 41 vs) w := wR Tryz.func41 (by kernel_rfl) (by kernel_rfl)
theorem aSm : ∀ vs w, (callFunc 23 vs).run Tryz.prog w = .ok (.enter 23 vs) w := wR Tryz.func23 (by kernel_rfl) (by kernel_rfl)
theorem aUC {S : Nat → Prop} {w : World} {hp : Nat → Option OB} {B : Nat → Nat} {V : Nat → Value} {x u : Value} (h : RV S w hp B V (.v x) u) : u = x := by unfold RV at h; exact h.1
theorem aOm {S : Nat → Prop} {w : World} {hp : Nat → Option OB} {B : Nat → Nat} {V : Nat → Value} {x : Value} {us : List Value} (h : RVs S w hp B V [.v x] us) : us = [x] := by
 unfold RVs at h
 obtain ⟨u, us', rfl, h1, h2⟩ := h
 unfold RVs at h2
 subst h2
 rw [aUC h1]
theorem aEY (a b : ByteArray) : Lib.strCells (a ++ b) = Lib.strCells a ++ Lib.strCells b := by
 simp [Lib.strCells, ByteArray.data_append]
theorem aQO {t : ByteArray} {c : UInt8} (ht : t.size < 100000000) : ACG Tryz.prog 55 [.optr 0 0 [0] 0, .v (.int .u8 (c.toNat : Int))] [zU t] [zU (t ++ ⟨#[c]⟩)] ⟨.v .nilIface, []⟩ := by
 refine aHN aSq rfl fun w S0 b us hb hv => ?_
 rw [aOm hv]
 refine (aT3 b _ _ w hb (by rw [Lib.strCells_length]; omega)).mono ?_
 rintro e w' ⟨rfl, h⟩
 refine ⟨_, rfl, fun S w hp B V => by unfold RV; exact ⟨rfl, rfl⟩, ?_⟩
 rw [aEY]
 exact h
theorem aQP {t s : ByteArray} (ht : t.size < 100000000) (hs : s.size < 100000000) : ACG Tryz.prog 41 [.optr 0 0 [0] 0, .v (.string s)] [zU t] [zU (t ++ s)] ⟨.tup [.v (.int .i64 (s.size : Int)), .v .nilIface], []⟩ := by
 refine aHN aSp rfl fun w S0 b us hb hv => ?_
 rw [aOm hv]
 refine (aT5 b _ _ w hb (by rw [Lib.strCells_length]; omega)).mono ?_
 rintro e w' ⟨rfl, h⟩
 refine ⟨_, rfl, fun S w hp B V => ?_, by rw [aEY]; exact h⟩
 unfold RV
 refine ⟨_, rfl, ?_⟩
 unfold RVs
 refine ⟨_, _, rfl, by unfold RV; exact ⟨rfl, rfl⟩, ?_⟩
 unfold RVs
 refine ⟨_, _, rfl, by unfold RV; exact ⟨rfl, rfl⟩, ?_⟩
 unfold RVs; rfl
theorem aGF {t : ByteArray} (ht : t.size ≠ 0) : ACG Tryz.prog 23 [.optr 0 0 [0] 0] [zU t] [zU t] ⟨.v (.string t), []⟩ := by
 refine aHN aSm rfl fun w S0 b us hb hv => ?_
 unfold RVs at hv
 subst hv
 rw [Lib.strCells_eq] at hb
 refine (aSC b t.data.toList w hb (fun e => ht (by rw [← ByteArray.size_data, ← Array.length_toList, e]; rfl))).mono ?_
 rintro e w' ⟨rfl, h⟩
 refine ⟨_, rfl, fun S w hp B V => by unfold RV; exact ⟨rfl, rfl⟩, by rw [Lib.strCells_eq]; exact h⟩
section
variable {Θ : Tab} {n : Nat} {K : St → Prop} {s : St} {P : Program}
variable {W : World} {M : Hand} {S0 : Nat → Prop} {S : Nat → Prop} {B : Nat → Nat} {V : Nat → Value} {T : Nat → Nat → Prop} {tmps : Array Value} {w : World}
theorem SimW.newBld (h : SimW W M S0 s tmps w S B V T) {d : Nat} (hok : okL d = true) (hf : s.hp d = none) :
 SimW W M S0 (s.set d (some (zU ByteArray.empty))) tmps (w.alloc (.cells #[.pointer none, .slice none 0 0] 54)) S (upd B d w.heap.size) (upd V d (.slice none 0 0)) (upd T d (fun g => g = w.heap.size)) := by
 have hb : Below w.heap.size w (w.alloc (.cells #[.pointer none, .slice none 0 0] 54)) := (Below.refl _ _).alloc (Nat.le_refl _) _
 obtain ⟨hn1, hn2⟩ := jX h hf
 have hnew := heap_alloc_new w (.cells #[.pointer none, .slice none 0 0] 54)
 have hlt := (Array.getElem?_eq_some_iff.1 hnew).1
 have hbld : aA0 w.heap.size (Lib.strCells ByteArray.empty) (w.alloc (.cells #[.pointer none, .slice none 0 0] 54)) := .inl ⟨Nat.zero_le _, _, hnew, ⟨rfl, .inl ⟨rfl, rfl⟩⟩, by simp [Value.ownBlock]⟩
 have hbuf : ∀ g, ¬ jh (w.alloc (.cells #[.pointer none, .slice none 0 0] 54)) w.heap.size g := by
  rintro g ⟨v, e1, e2⟩
  rw [Lib.cell_of_heap hnew] at e1
  cases e1
  simp [Value.ownBlock] at e2
 exact h.repl (l := d) (ob' := zU ByteArray.empty) (b' := w.heap.size) (v' := .slice none 0 0) (T' := fun g => g = w.heap.size) hok hn1 (fun j o _ ho => hn2 j o ho) (Grown.of hb _) (aOj (fun g => ⟨.inl, fun e => e.elim id (fun e => absurd e (hbuf g))⟩) hbld) (fun g hg => by
  rcases hg with hg | hg
  · simp [Value.ownBlock] at hg
  · exact ⟨by rw [hg]; exact hlt, .inl (.inl (by rw [hg]; exact Nat.le_refl _))⟩) (fun g hg => by simp [Value.ownBlock] at hg)
theorem aFq {id d : Nat} {ty : TypeId} {pos : String} {after : Array Edge} (hf : s.hp (d + 1) = none) (hin : inN n (some d) = true) (h : K ((s.set (d + 1) (some (zU ByteArray.empty))).put (some d) (.optr (d + 1) 0 [] 0))) (hok : okL (d + 1) = true := by rfl) :
 aDH Tryz.prog n id #[⟨some d, .alloc 54, ty, pos, after, none⟩] s K := fun W M S0 a w hs => by
 refine .of (wp_region_list ?_)
 obtain ⟨hn, hdf, S, B, V, T, hw⟩ := hs
 obtain ⟨i, h1, h2, h3, _⟩ := info_parts (show (Tryz.prog.info? 54).map (fun i => (i.zero, i.size, i.bytes)) = some (some (.agg #[.pointer none, .slice none 0 0]), 2, 32) from by kernel_rfl)
 refine wpList_plain rfl fun K' hK => zA (v := .pointer (some ⟨w.heap.size, 0, none⟩)) (w1 := w.alloc (.cells #[.pointer none, .slice none 0 0] 54)) ?_ (hK _ _ ?_)
 · simp only [execOp, Sem.run_bind, aI5 h1 h2, Result.andThen_ok, Sem.run_pure]
   rfl
 · exact ⟨rfl, _, h, Sim.put hn hdf (hw.newBld hok hf) (some d) (by unfold RV; exact ⟨_, zK, by simp [upd_same]⟩) hin⟩
def aNu (ops : Array Oper) : Bool := ops.toList.any fun o => match o.op with | .alloc t => Nat.beq t 54 | _ => false
def aCZ (P : Program) (Θ : Tab) (n : Nat) : Code → (AEx → St → Prop) → St → Prop
 | .region id ops false, Q, s => bif aNu ops then aDH P n id ops s (Q .normal) else runK P Θ n ops false 0 ops.toList s (Q .normal)
 | .seq a b, Q, s => aCZ P Θ n a (AEx.then (aCZ P Θ n b Q) Q) s
 | .cond c x y, Q, s => match s.ev c with
  | .v (.bool true) => aCZ P Θ n x Q s
  | .v (.bool false) => aCZ P Θ n y Q s
  | _ => xI P Θ n (.cond c x y) Q s
 | .block id c, Q, s => aCZ P Θ n c (AEx.inBlock id Q) s
 | c, Q, s => aAT P Θ n c Q s
theorem aCe : ∀ (c : Code) (Q : AEx → St → Prop) (s : St), aCZ P Θ n c Q s → xI P Θ n c Q s := by
 intro c
 induction c with
 | region id ops draw =>
  intro Q s h
  cases draw with
  | false =>
   simp only [aCZ] at h
   cases hc : aNu ops with
   | true => rw [hc] at h; exact .inr (.inr ⟨rfl, h⟩)
   | false => rw [hc] at h; exact .inl ⟨(fun e => by cases e), wI _ _ _ h⟩
  | true => exact xA _ Q s h
 | seq a b iha ihb =>
  intro Q s h
  exact .inl (jF a s (fun e s he => by cases e <;> first | exact ihb Q s he | exact he) (iha _ s h))
 | cond c x y ihx ihy =>
  intro Q s h
  simp only [aCZ] at h
  split at h
  · rename_i hc; exact ⟨true, hc, ihx Q s h⟩
  · rename_i hc; exact ⟨false, hc, ihy Q s h⟩
  · exact h
 | block id c ih => intro Q s h; exact ih _ s h
 | _ => intro Q s h; exact xA _ Q s h
end
section
variable {P : Program} {t : TypeId} {x y : Operand}
theorem aT4 (n : Int) (h0 : 0 ≤ n) (h1 : n < 2 ^ 62) : IntKind.i64.wrap n = n := by rw [IntKind.wrap_i64]; omega
theorem aS2 {n : Nat} (h : n < 2 ^ 62) {c : Int} (hc : c = ((n % 128 : Nat) : Int)) : yh P .and t x y (.int .i64 (n : Int)) (.int .i64 127) (.int .i64 c) := fun w => by
 have := bits_mask .i64 62 (by decide) aT4 7 (by decide) (n : Int) (by omega) (by exact_mod_cast h)
 have e : bits .and .i64 (n : Int) 127 = c := by rw [show (127 : Int) = 2 ^ 7 - 1 from by decide, this, hc]; omega
 have e2 : Op.intBits .and .i64 (n : Int) 127 = pure (.int .i64 c) := by rw [← e]; rfl
 simp [eqGuard, binOp, e2]
theorem aTb {n : Nat} (h : n < 128) {c : Int} (hc : c = ((128 + n : Nat) : Int)) : yh P .or t x y (.int .i64 (n : Int)) (.int .i64 128) (.int .i64 c) := fun w => by
 have e : bits .or .i64 (n : Int) 128 = c := by
  have := (bits_nat .i64 62 (by decide) aT4 n 128 (by omega) (by decide)).2
  rw [show (128 : Int) = ((128 : Nat) : Int) from rfl, this, hc, Nat.or_comm, show (128 : Nat) = 2 ^ 7 * 1 from rfl, ← Nat.two_pow_add_eq_or_of_lt (by simpa using h) 1]
 have e2 : Op.intBits .or .i64 (n : Int) 128 = pure (.int .i64 c) := by rw [← e]; rfl
 simp [eqGuard, binOp, e2]
theorem aS3 {n : Nat} {c : Int} (hc : c = ((n / 128 : Nat) : Int)) : yh P .shr t x y (.int .i64 (n : Int)) (.int .u64 7) (.int .i64 c) := fun w => by
 have e : Op.shift .shr .i64 (n : Int) .u64 7 = pure (.int .i64 c) := by
  rw [shift_shr .i64 .u64 (n : Int) 7 (by omega) (by decide), hc]; congr 2
 simp [eqGuard, binOp, e]
end
theorem jw {s : St} {Θ : Tab} {o : OB} (h0 : s.hp 0 = some o) : xX Θ [] [o] ⟨.tup [], []⟩ .ret s := ⟨⟨h0, trivial⟩, [], by simp, trivial, trivial, ⟨_, rfl⟩, trivial⟩
theorem ku {s : St} {Θ : Tab} {o : OB} (h0 : s.hp 0 = some o) : xX Θ [] [o] ⟨.tup [], []⟩ .normal s := ⟨⟨h0, trivial⟩, [], by simp, trivial, trivial, ⟨_, rfl⟩, trivial⟩
attribute [local irreducible] xI xO xQ xX yG Pre ACG
theorem aSk {n : Nat} (h : n < 128) : xG n = ⟨#[UInt8.ofNat n]⟩ := by unfold xG; rw [aEG h]
theorem aSj {n : Nat} (h : ¬ n < 128) : xG n = ⟨#[UInt8.ofNat (128 + n % 128)]⟩ ++ xG (n / 128) := by
 unfold xG; rw [aGZ h]; apply ByteArray.ext; simp
set_option maxHeartbeats 1000000 in
theorem wz {t : ByteArray} {n : Nat} (hn : n ≤ 268435455) (ht : t.size ≤ 90000000) : ACG Tryz.prog 22 [.optr 0 0 [] 0, .v (.int .i64 (n : Int))] [zU t] [zU (t ++ xG n)] ⟨.tup [], []⟩ := by
 have h4 := aEF hn
 have hsz : (xG n).size = (yx n).length := by simp [xG, ByteArray.size]
 refine xL (rs := []) xH (by kernel_rfl) Tryz.func22 rfl Tryz.ntmps22 (by rw [Tryz.results22]) (by kernel_rfl) (by simp) rfl rfl (xA _ _ _ ?_)
 conv => whnf
 refine xZ (ι := { p : ByteArray × Nat // p.1 ++ xG p.2 = t ++ xG n ∧ p.2 ≤ 268435455 }) (fun p => ⟨[(0, .optr 0 0 [] 0), (1, .v (.int .i64 (p.1.2 : Int)))], [(0, zU p.1.1)]⟩) (fun p => p.1.2) ⟨(t, n), rfl, hn⟩ (by exact qle) ?_
 rintro ⟨⟨u, m⟩, hu, hm⟩
 dsimp only at hu hm ⊢
 have hus : u.size ≤ 90000004 := by have := congrArg ByteArray.size hu; simp only [ByteArray.size_append] at this; omega
 conv => whnf
 by_cases hlt : m < 128
 · have hb := aNL (n := m) (by omega)
   have c1 := aQO (t := u) (c := UInt8.ofNat m) (by omega)
   rw [aSk hlt] at hu
   repeat ((first | refine qz ?_ | refine qp (aGo (b := UInt8.ofNat m) (by omega) rfl) ?_ | refine qgV [0] (c1) ?_); conv => whnf)
   rw [← hu]
   first | exact ku rfl | exact jw rfl
 · have hb := aNL (n := 128 + m % 128) (by omega)
   have c1 := aQO (t := u) (c := UInt8.ofNat (128 + m % 128)) (by omega)
   rw [aSj hlt, ← ByteArray.append_assoc] at hu
   repeat ((first | refine qp (xC (aS2 (by omega) rfl) rfl rfl rfl) ?_ | refine qp (xC (aTb (by omega) rfl) rfl rfl rfl) ?_ | refine qp (xC (aS3 rfl) rfl rfl rfl) ?_ | refine qz ?_ | refine qp (aGo (b := UInt8.ofNat (128 + m % 128)) (by omega) rfl) ?_ | refine qgV [0] (c1) ?_); conv => whnf)
   exact ⟨⟨(u ++ ⟨#[UInt8.ofNat (128 + m % 128)]⟩, m / 128), hu, by dsimp only; omega⟩, by exact qle, by dsimp only; omega⟩
theorem aP5 {n : Nat} (hn : n ≤ 268435455) : (xG n).size ≤ 4 := by have := aEF hn; simpa [xG, ByteArray.size] using this
theorem aJY {t k : ByteArray} (hk : k.size ≤ 1000000) (ht : t.size ≤ 80000000) : ACG Tryz.prog 84 [.optr 0 0 [] 0, .v (.string k)] [zU t] [zU (t ++ vL k)] ⟨.tup [], []⟩ := by
 have h4 := aP5 (n := k.size) (by omega)
 have c1 := wz (t := t) (n := k.size) (by omega) (by omega)
 have c2 := aQP (t := t ++ xG k.size) (s := k) (by simp only [ByteArray.size_append]; omega) (by omega)
 refine xL (rs := []) xH (by kernel_rfl) Tryz.func84 rfl Tryz.ntmps84 (by rw [Tryz.results84]) (by kernel_rfl) (by simp) rfl rfl (xA _ _ _ ?_)
 conv => whnf
 repeat ((first | refine qz ?_ | refine qgV [0] (c1) ?_ | refine qgV [0] (c2) ?_); conv => whnf)
 rw [ByteArray.append_assoc]
 first | exact ku rfl | exact jw rfl
theorem aQj {t : ByteArray} {v : Int} (hv : -1000000 ≤ v ∧ v ≤ 1000000) (ht : t.size ≤ 80000000) : ACG Tryz.prog 107 [.optr 0 0 [] 0, .v (.int .i64 v)] [zU t] [zU (t ++ kV v)] ⟨.tup [], []⟩ := by
 refine xL (rs := []) xH (by kernel_rfl) Tryz.func107 rfl Tryz.ntmps107 (by rw [Tryz.results107]) (by kernel_rfl) (by simp) rfl rfl (xA _ _ _ ?_)
 conv => whnf
 unfold kV
 by_cases h0 : v < 0
 · rw [if_pos h0]
   obtain ⟨n, hn⟩ : ∃ n : Nat, -2 * v - 1 = (n : Int) := ⟨(-2 * v - 1).toNat, by omega⟩
   have c1 := wz (t := t) (n := n) (by omega) (by omega)
   rw [hn, Int.toNat_natCast]
   repeat (first | (refine qz ?_; conv => whnf) | (refine qp (xC (uh (c := -2 * v) rfl (by omega) (by omega)) rfl rfl rfl) ?_; conv => whnf) | (refine qp (xC (yU hn (by omega) (by omega)) rfl rfl rfl) ?_; conv => whnf) | (rw [hn]; (refine qgV [0] (c1) ?_; conv => whnf)) | (refine qgV [0] (c1) ?_; conv => whnf))
   first | exact ku rfl | exact jw rfl
 · rw [if_neg h0]
   obtain ⟨n, hn⟩ : ∃ n : Nat, 2 * v = (n : Int) := ⟨(2 * v).toNat, by omega⟩
   have c1 := wz (t := t) (n := n) (by omega) (by omega)
   rw [hn, Int.toNat_natCast]
   repeat ((first | refine qz ?_ | refine qp (xC (uh hn (by omega) (by omega)) rfl rfl rfl) ?_ | refine qgV [0] (c1) ?_); conv => whnf)
   first | exact ku rfl | exact jw rfl
end Go.Proofs.YtfomjajdfaoogaaGreatDoor.AM
namespace Go.Proofs.YtfomjajdfaoogaaGreatDoor.AM
open Go Go.RowKit
theorem aEH {α : Type} {f : α → ByteArray} (t : ByteArray) : ∀ (l : List α) (a : ByteArray), l.foldl (fun t x => t ++ f x) (t ++ a) = t ++ l.foldl (fun t x => t ++ f x) a
 | [], a => rfl
 | x :: l, a => by
  simp only [List.foldl_cons]
  rw [ByteArray.append_assoc]
  exact aEH t l (a ++ f x)
theorem aPZ (t : ByteArray) (c : Cmt) : jJ (wU (t ++ xG c.1.length) c.1 ++ xG c.2.length) c.2 = t ++ zk c := by
 unfold zk jJ wU
 rw [aEH t, ByteArray.append_assoc]
 exact aEH t _ _
attribute [local irreducible] xI xO xQ xX yG Pre ACG
set_option maxHeartbeats 1000000 in
theorem aPN {t : ByteArray} {l : List Int} (hl : l.length ≤ 60) (hp : ∀ p ∈ l, 0 ≤ p ∧ p ≤ 1000) (ht : t.size ≤ 60000000) :
 ACG Tryz.prog 67 [.optr 0 0 [] 0, .lst 1 (l.map yo), .fn 22 [.optr 0 0 [] 0] []] [zU t] [zU (wU (t ++ xG l.length) l)] ⟨.tup [], []⟩ := by
 have z1 := yc (n := l.length) (by omega)
 have c1 := wz (t := t) (n := l.length) (by omega) (by omega)
 refine xL (rs := []) xH (by kernel_rfl) Tryz.func67 rfl Tryz.ntmps67 (by rw [Tryz.results67]) (by kernel_rfl) (by simp) rfl rfl (xA _ _ _ ?_)
 conv => whnf
 repeat ((first | refine qz ?_ | refine qgV [0] (c1) ?_); conv => whnf)
 refine xZ (ι := { i : Nat // i ≤ l.length }) (fun i => ⟨[(0, .optr 0 0 [] 0), (2, .fn 22 [.optr 0 0 [] 0] []), (12, .lst 1 (l.map yo)), (13, .v (.int .i64 (l.length : Int))), (14, .v (.int .i64 (i.1 : Int)))], [(0, zU (wU (t ++ xG l.length) (l.take i.1)))]⟩) (fun i => l.length - i.1) ⟨0, Nat.zero_le _⟩ (by exact qle) ?_
 rintro ⟨i, hi⟩
 dsimp only
 conv => whnf
 by_cases hlt : i < l.length
 · have hpi := hp _ (List.getElem_mem hlt)
   have hs : wU (t ++ xG l.length) (l.take (i + 1)) = wU (t ++ xG l.length) (l.take i) ++ xG (l[i]).toNat := jB hlt
   have hz := aB0 (l.take i) (t ++ xG l.length) (fun p hp' => by have := hp p (List.mem_of_mem_take hp'); omega)
   rw [List.length_take, ByteArray.size_append] at hz
   obtain ⟨m, hm⟩ : ∃ m : Nat, l[i] = (m : Int) := ⟨(l[i]).toNat, by omega⟩
   rw [hm, Int.toNat_natCast] at hs
   generalize wU (t ++ xG l.length) (l.take i) = A at hs hz ⊢
   have c3 := wz (t := A) (n := m) (by omega) (by omega)
   rw [← hm] at c3
   repeat ((first | refine qz ?_ | refine qgV [0] (c3) ?_); conv => whnf)
   rw [← hs]
   exact ⟨⟨i + 1, hlt⟩, by exact qle, by dsimp only; omega⟩
 · have e : i = l.length := by omega
   subst e
   rw [List.take_length]
   repeat ((refine qz ?_; conv => whnf))
   first | exact ku rfl | exact jw rfl
theorem aQh {t : ByteArray} {e : Ent} (hk : e.1.size ≤ 12) (h0 : -1000000 ≤ e.2) (h1 : e.2 ≤ 1000000) (ht : t.size ≤ 70000000) : ACG Tryz.prog 69 [.optr 0 0 [] 0, yB e] [zU t] [zU (t ++ (vL e.1 ++ kV e.2))] ⟨.tup [], []⟩ := by
 have z1 := aB8 (t := e.1) (by omega)
 have c1 := aJY (t := t) (k := e.1) (by omega) (by omega)
 have c2 := aQj (t := t ++ vL e.1) (v := e.2) ⟨h0, h1⟩ (by rw [ByteArray.size_append]; omega)
 refine xL (rs := []) xH (by kernel_rfl) Tryz.func69 rfl Tryz.ntmps69 (by rw [Tryz.results69]) (by kernel_rfl) (by simp) rfl rfl (xA _ _ _ ?_)
 conv => whnf
 repeat ((first | refine qz ?_ | refine qgV [0] (c1) ?_ | refine qgV [0] (c2) ?_); conv => whnf)
 rw [ByteArray.append_assoc]
 first | exact ku rfl | exact jw rfl
set_option maxHeartbeats 1000000 in
theorem aPM {t : ByteArray} {l : List Ent} (hl : l.length ≤ 100) (hp : aJe l) (ht : t.size ≤ 60000000) :
 ACG Tryz.prog 68 [.optr 0 0 [] 0, .lst 2 (l.map yB), .fn 69 [.optr 0 0 [] 0] []] [zU t] [zU (jJ (t ++ xG l.length) l)] ⟨.tup [], []⟩ := by
 have z1 := yc (n := l.length) (by omega)
 have c1 := wz (t := t) (n := l.length) (by omega) (by omega)
 refine xL (rs := []) xH (by kernel_rfl) Tryz.func68 rfl Tryz.ntmps68 (by rw [Tryz.results68]) (by kernel_rfl) (by simp) rfl rfl (xA _ _ _ ?_)
 conv => whnf
 repeat ((first | refine qz ?_ | refine qgV [0] (c1) ?_); conv => whnf)
 refine xZ (ι := { i : Nat // i ≤ l.length }) (fun i => ⟨[(0, .optr 0 0 [] 0), (2, .fn 69 [.optr 0 0 [] 0] []), (12, .lst 2 (l.map yB)), (13, .v (.int .i64 (l.length : Int))), (14, .v (.int .i64 (i.1 : Int)))], [(0, zU (jJ (t ++ xG l.length) (l.take i.1)))]⟩) (fun i => l.length - i.1) ⟨0, Nat.zero_le _⟩ (by exact qle) ?_
 rintro ⟨i, hi⟩
 dsimp only
 conv => whnf
 by_cases hlt : i < l.length
 · obtain ⟨k1, k2, k3⟩ := hp _ (List.getElem_mem hlt)
   have hs : jJ (t ++ xG l.length) (l.take (i + 1)) = jJ (t ++ xG l.length) (l.take i) ++ (vL (l[i]).1 ++ kV (l[i]).2) := jB hlt
   have hz := aEb (l.take i) (t ++ xG l.length) (fun p hp' => hp p (List.mem_of_mem_take hp'))
   rw [List.length_take, ByteArray.size_append] at hz
   generalize jJ (t ++ xG l.length) (l.take i) = A at hs hz ⊢
   have c3 := aQh (t := A) k1 k2 k3 (by omega)
   repeat ((first | refine qz ?_ | refine qgV [0] (c3) ?_ | refine qst ?_); conv => whnf)
   rw [← hs]
   exact ⟨⟨i + 1, hlt⟩, by exact qle, by dsimp only; omega⟩
 · have e : i = l.length := by omega
   subst e
   rw [List.take_length]
   repeat ((refine qz ?_; conv => whnf))
   first | exact ku rfl | exact jw rfl
theorem aLN {t : ByteArray} {c : Cmt} (h : CmtS c) (ht : t.size ≤ 50000000) : ACG Tryz.prog 30 [.optr 0 0 [] 0, xS c] [zU t] [zU (t ++ zk c)] ⟨.tup [], []⟩ := by
 have hpl := h.pl
 have hml := h.ml
 have z1 := yc (n := c.1.length) (by omega)
 have hz := aB0 c.1 (t ++ xG c.1.length) (fun p hp => by have := h.pp p hp; omega)
 rw [ByteArray.size_append] at hz
 have c1 := aPN (t := t) (l := c.1) hpl h.pp (by omega)
 have c2 := aPM (t := wU (t ++ xG c.1.length) c.1) (l := c.2) hml h.me (by omega)
 refine xL (rs := []) xH (by kernel_rfl) Tryz.func30 rfl Tryz.ntmps30 (by rw [Tryz.results30]) (by kernel_rfl) (by simp) rfl rfl (xA _ _ _ ?_)
 conv => whnf
 repeat ((first | refine qz ?_ | refine qgV [0] (c1) ?_ | refine qgV [0] (c2) ?_); conv => whnf)
 rw [aPZ]
 first | exact ku rfl | exact jw rfl
set_option maxHeartbeats 1000000 in
theorem aPL {t : ByteArray} {l : List Cmt} (hl : l.length ≤ 60) (hp : ∀ c ∈ l, CmtS c ∧ c.1.length ≤ 2 ∧ c.2.length ≤ 12) (ht : t.size ≤ 40000000) :
 ACG Tryz.prog 42 [.optr 0 0 [] 0, .lst 2 (l.map xS), .fn 30 [.optr 0 0 [] 0] []] [zU t] [zU (wX (t ++ xG l.length) l)] ⟨.tup [], []⟩ := by
 have z1 := yc (n := l.length) (by omega)
 have c1 := wz (t := t) (n := l.length) (by omega) (by omega)
 refine xL (rs := []) xH (by kernel_rfl) Tryz.func42 rfl Tryz.ntmps42 (by rw [Tryz.results42]) (by kernel_rfl) (by simp) rfl rfl (xA _ _ _ ?_)
 conv => whnf
 repeat ((first | refine qz ?_ | refine qgV [0] (c1) ?_); conv => whnf)
 refine xZ (ι := { i : Nat // i ≤ l.length }) (fun i => ⟨[(0, .optr 0 0 [] 0), (2, .fn 30 [.optr 0 0 [] 0] []), (12, .lst 2 (l.map xS)), (13, .v (.int .i64 (l.length : Int))), (14, .v (.int .i64 (i.1 : Int)))], [(0, zU (wX (t ++ xG l.length) (l.take i.1)))]⟩) (fun i => l.length - i.1) ⟨0, Nat.zero_le _⟩ (by exact qle) ?_
 rintro ⟨i, hi⟩
 dsimp only
 conv => whnf
 by_cases hlt : i < l.length
 · obtain ⟨k1, k2, k3⟩ := hp _ (List.getElem_mem hlt)
   have hs : wX (t ++ xG l.length) (l.take (i + 1)) = wX (t ++ xG l.length) (l.take i) ++ zk l[i] := jB hlt
   have hz := aB5 (l.take i) (t ++ xG l.length) (fun p hp' => hp p (List.mem_of_mem_take hp'))
   rw [List.length_take, ByteArray.size_append] at hz
   generalize wX (t ++ xG l.length) (l.take i) = A at hs hz ⊢
   have c3 := aLN (t := A) k1 (by omega)
   repeat ((first | refine qz ?_ | refine qgV [0] (c3) ?_ | refine qst ?_); conv => whnf)
   rw [← hs]
   exact ⟨⟨i + 1, hlt⟩, by exact qle, by dsimp only; omega⟩
 · have e : i = l.length := by omega
   subst e
   rw [List.take_length]
   repeat ((refine qz ?_; conv => whnf))
   first | exact ku rfl | exact jw rfl
theorem aQi {t : ByteArray} {r : Rf} (h : RfS r) (ht : t.size ≤ 50000000) : ACG Tryz.prog 44 [.optr 0 0 [] 0, yL r] [zU t] [zU (t ++ wu r)] ⟨.tup [], []⟩ := by
 have hn := h.n
 have v0 := h.v0
 have v1 := h.v1
 have h0 := h.h0
 have h1 := h.h1
 obtain ⟨v, hv⟩ : ∃ v : Nat, r.ver = (v : Int) := ⟨r.ver.toNat, by omega⟩
 obtain ⟨d, hd⟩ : ∃ d : Nat, r.head = (d : Int) := ⟨r.head.toNat, by omega⟩
 have z1 := aB8 (t := r.name) (by omega)
 have z2 := yc (n := v) (by omega)
 have c1 := aJY (t := t) (k := r.name) (by omega) (by omega)
 have c2 := wz (t := t ++ vL r.name) (n := v) (by omega) (by rw [ByteArray.size_append]; omega)
 have c3 := wz (t := t ++ vL r.name ++ xG v) (n := d) (by omega) (by rw [ByteArray.size_append, ByteArray.size_append]; omega)
 have e : t ++ wu r = t ++ vL r.name ++ xG v ++ xG d := by
  unfold wu
  rw [hv, hd, Int.toNat_natCast, Int.toNat_natCast, ByteArray.append_assoc, ByteArray.append_assoc, ByteArray.append_assoc]
 rw [e]
 rw [← hv] at c2
 rw [← hd] at c3
 refine xL (rs := []) xH (by kernel_rfl) Tryz.func44 rfl Tryz.ntmps44 (by rw [Tryz.results44]) (by kernel_rfl) (by simp) rfl rfl (xA _ _ _ ?_)
 conv => whnf
 repeat ((first | refine qz ?_ | refine qgV [0] (c1) ?_ | refine qgV [0] (c2) ?_ | refine qgV [0] (c3) ?_); conv => whnf)
 first | exact ku rfl | exact jw rfl
set_option maxHeartbeats 1000000 in
theorem aPO {t : ByteArray} {l : List Rf} (hl : l.length ≤ 8) (hp : ∀ r ∈ l, RfS r) (ht : t.size ≤ 40000000) :
 ACG Tryz.prog 43 [.optr 0 0 [] 0, .lst 4 (l.map yL), .fn 44 [.optr 0 0 [] 0] []] [zU t] [zU (jP (t ++ xG l.length) l)] ⟨.tup [], []⟩ := by
 have z1 := yc (n := l.length) (by omega)
 have c1 := wz (t := t) (n := l.length) (by omega) (by omega)
 refine xL (rs := []) xH (by kernel_rfl) Tryz.func43 rfl Tryz.ntmps43 (by rw [Tryz.results43]) (by kernel_rfl) (by simp) rfl rfl (xA _ _ _ ?_)
 conv => whnf
 repeat ((first | refine qz ?_ | refine qgV [0] (c1) ?_); conv => whnf)
 refine xZ (ι := { i : Nat // i ≤ l.length }) (fun i => ⟨[(0, .optr 0 0 [] 0), (2, .fn 44 [.optr 0 0 [] 0] []), (12, .lst 4 (l.map yL)), (13, .v (.int .i64 (l.length : Int))), (14, .v (.int .i64 (i.1 : Int)))], [(0, zU (jP (t ++ xG l.length) (l.take i.1)))]⟩) (fun i => l.length - i.1) ⟨0, Nat.zero_le _⟩ (by exact qle) ?_
 rintro ⟨i, hi⟩
 dsimp only
 conv => whnf
 by_cases hlt : i < l.length
 · have k1 := hp _ (List.getElem_mem hlt)
   have hs : jP (t ++ xG l.length) (l.take (i + 1)) = jP (t ++ xG l.length) (l.take i) ++ wu l[i] := jB hlt
   have hz := aB3 (l.take i) (t ++ xG l.length) (fun p hp' => hp p (List.mem_of_mem_take hp'))
   rw [List.length_take, ByteArray.size_append] at hz
   generalize jP (t ++ xG l.length) (l.take i) = A at hs hz ⊢
   have c3 := aQi (t := A) k1 (by omega)
   repeat ((first | refine qz ?_ | refine qgV [0] (c3) ?_ | refine qst ?_); conv => whnf)
   rw [← hs]
   exact ⟨⟨i + 1, hlt⟩, by exact qle, by dsimp only; omega⟩
 · have e : i = l.length := by omega
   subst e
   rw [List.take_length]
   repeat ((refine qz ?_; conv => whnf))
   first | exact ku rfl | exact jw rfl
end Go.Proofs.YtfomjajdfaoogaaGreatDoor.AM
namespace Go.Proofs.YtfomjajdfaoogaaGreatDoor.AM
open Go Go.RowKit
theorem aP6 (n : Nat) : 0 < (yx n).length := by
 rw [yx]
 split <;> simp
theorem aF6 (n : Nat) : (xG n).size ≠ 0 := by
 have := aP6 n
 have e : (xG n).size = (yx n).length := by simp [xG, ByteArray.size]
 omega
theorem aF8 {α : Type} {f : α → ByteArray} : ∀ (l : List α) (a : ByteArray), a.size ≤ (l.foldl (fun t x => t ++ f x) a).size
 | [], a => Nat.le_refl _
 | x :: l, a => by
  simp only [List.foldl_cons]
  have := aF8 (f := f) l (a ++ f x)
  rw [ByteArray.size_append] at this
  omega
theorem aED (t : ByteArray) : ByteArray.empty ++ t = t := by apply ByteArray.ext; simp
theorem aPY (c : Cmt) : (zk c).size ≠ 0 := by
 unfold zk
 have h1 : (wU (xG c.1.length) c.1 ++ xG c.2.length).size ≤ (jJ (wU (xG c.1.length) c.1 ++ xG c.2.length) c.2).size := aF8 _ _
 have h2 := aF6 c.2.length
 rw [ByteArray.size_append] at h1
 omega
attribute [local irreducible] xI xO xQ xX yG Pre ACG
theorem aQd {n : Int} : AC Tryz.prog 5 [.v (.int .i64 n)] ⟨.tup [.v (.string (aES n).1), .v (.int .i64 (aES n).2)], []⟩ := by
 unfold aES
 refine xL (rs := [.tmp 2, .tmp 3]) xH (by kernel_rfl) Tryz.func5 rfl Tryz.ntmps5 (by rw [Tryz.results5]) (by kernel_rfl) (by simp) rfl rfl (aCe _ _ _ ?_)
 conv => whnf
 by_cases h : 0 ≤ n ∧ n ≤ 4000000
 · rw [if_pos h]
   obtain ⟨m, rfl⟩ : ∃ m : Nat, n = (m : Int) := ⟨n.toNat, by omega⟩
   rw [Int.toNat_natCast]
   have c1 := wz (t := ByteArray.empty) (n := m) (by omega) (by decide)
   rw [aED] at c1
   have c2 := aGF (aF6 m)
   repeat ((first | refine qz ?_ | refine aFq rfl rfl ?_ | refine qgV [5] (c1) ?_ | refine qgV [5] (c2) ?_); conv => whnf)
   exact zR rfl rfl
 · rw [if_neg h]
   by_cases h1 : n < 0
   · repeat ((refine qz ?_; conv => whnf))
     exact zR rfl rfl
   · repeat ((refine qz ?_; conv => whnf))
     exact zR rfl rfl
theorem aPC {c : Cmt} (hm : c.1.length ≤ maxLen) (hn : c.2.length ≤ maxLen) (hk : ∀ e ∈ c.2, e.1.size ≤ maxLen) : AC Tryz.prog 9 [xS c] ⟨.tup [.v (.string (aEE c).1), .v (.int .i64 (aEE c).2)], []⟩ := by
 have c0 := aDq hm hn hk
 unfold aEE
 refine xL (rs := [.tmp 2, .tmp 3]) xH (by kernel_rfl) Tryz.func9 rfl Tryz.ntmps9 (by rw [Tryz.results9]) (by kernel_rfl) (by simp) rfl rfl (aCe _ _ _ ?_)
 conv => whnf
 cases h : jN c
 · rw [h] at c0
   rw [if_neg (by simp)]
   repeat ((first | refine qz ?_ | refine qc (c0) ?_); conv => whnf)
   exact zR rfl rfl
 · rw [h] at c0
   rw [if_pos rfl]
   have c1 := aLN (t := ByteArray.empty) (aJv h) (by decide)
   rw [aED] at c1
   have c2 := aGF (aPY c)
   repeat ((first | refine qz ?_ | refine qc (c0) ?_ | refine aFq rfl rfl ?_ | refine qgV [5] (c1) ?_ | refine qgV [5] (c2) ?_); conv => whnf)
   exact zR rfl rfl
theorem aJ2 (b : Bas) : (uD b).size ≠ 0 := by
 unfold uD jP wX
 have h1 := aF8 (f := wu) b.refs ((b.store.foldl (fun t c => t ++ zk c) (brB ++ xG b.store.length)) ++ xG b.refs.length)
 have h2 := aF6 b.refs.length
 rw [ByteArray.size_append] at h1
 omega
set_option maxHeartbeats 2000000 in
theorem aPB {b : Bas} (hb : b.ok maxLen) : AC Tryz.prog 15 [yA b] ⟨.tup [.v (.string (encR b).1), .v (.int .i64 (encR b).2)], []⟩ := by
 have c0 := qo hb
 unfold encR
 refine xL (rs := [.tmp 2, .tmp 3]) xH (by kernel_rfl) Tryz.func15 rfl Tryz.ntmps15 (by rw [Tryz.results15]) (by kernel_rfl) (by simp) rfl rfl (aCe _ _ _ ?_)
 conv => whnf
 cases h : uL b
 · rw [h] at c0
   rw [if_neg (by simp)]
   repeat ((first | refine qz ?_ | refine qc (c0) ?_); conv => whnf)
   exact zR rfl rfl
 · rw [h] at c0
   rw [if_pos rfl]
   have hs := aGL h
   have hsl := hs.sl
   have hrl := hs.rl
   have z0 : brB.size = 3 := rfl
   have z1 := yc (n := b.store.length) (by omega)
   have z2 := yc (n := b.refs.length) (by omega)
   have y1 := aB5 b.store (brB ++ xG b.store.length) hs.sc
   rw [ByteArray.size_append] at y1
   have y2 := aB3 b.refs (wX (brB ++ xG b.store.length) b.store ++ xG b.refs.length) hs.rr
   rw [ByteArray.size_append] at y2
   have y3 : (uD b).size ≤ 60000 := by unfold uD; omega
   have y4 := aAn (uD b).data.toList
   have c1 := aQP (t := ByteArray.empty) (s := brB) (by decide) (by decide)
   rw [aED] at c1
   have c2 := aPL (t := brB) (l := b.store) hsl hs.sc (by omega)
   have c3 := aPO (t := wX (brB ++ xG b.store.length) b.store) (l := b.refs) hrl hs.rr (by omega)
   have e1 : jP (wX (brB ++ xG b.store.length) b.store ++ xG b.refs.length) b.refs = uD b := rfl
   rw [e1] at c3
   have c4 := aGF (aJ2 b)
   have c5 := aE3 (t := uD b) (by unfold maxLen; omega)
   obtain ⟨m, hm⟩ : ∃ m : Nat, uV (uD b) = (m : Int) := ⟨(uV (uD b)).toNat, by unfold uV; omega⟩
   have hm2 : m ≤ 1000003 := by unfold uV at hm; omega
   have c6 := wz (t := uD b) (n := m) (by omega) (by omega)
   have e2 : uD b ++ xG m = xu b := by unfold xu; rw [hm, Int.toNat_natCast]
   rw [e2] at c6
   rw [hm] at c5
   have c7 := aGF (t := xu b) (by unfold xu; rw [ByteArray.size_append]; have := aJ2 b; omega)
   generalize xu b = E at c6 c7 ⊢
   generalize wX (brB ++ xG b.store.length) b.store = A at c2 c3
   generalize uD b = D at c3 c4 c5 c6
   repeat ((first | refine qz ?_ | refine qc (c0) ?_ | refine aFq rfl rfl ?_ | refine qgV [5] (c1) ?_ | refine qgV [5] (c2) ?_ | refine qgV [5] (c3) ?_ | refine qgV [5] (c4) ?_ | refine qc (c5) ?_ | refine qgV [5] (c6) ?_ | refine qgV [5] (c7) ?_); conv => whnf)
   exact zR rfl rfl
end Go.Proofs.YtfomjajdfaoogaaGreatDoor.AM
