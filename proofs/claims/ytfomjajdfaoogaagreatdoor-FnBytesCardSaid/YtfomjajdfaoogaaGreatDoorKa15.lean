/- Texts of the machine over data, folded. -/
import Derived.Test.YtfomjajdfaoogaaGreatDoorKa5
import Derived.Test.YtfomjajdfaoogaaGreatDoorKa14
import Derived.Test.YtfomjajdfaoogaaGreatDoorKa10
import Derived.Recover
import Derived.Laws.Pointers
import Derived.Tactics2
import Derived.Laws.NewBlocks
import Derived.Test.YtfomjajdfaoogaaGreatDoorKa13
set_option linter.unusedVariables false
set_option linter.unusedSimpArgs false
set_option maxRecDepth 100000
namespace Go.Proofs.YtfomjajdfaoogaaGreatDoor.AM
open Go Go.RowKit
theorem aFn {t : ByteArray} {n : Nat} {s : Rds} (h : s.2 = true) : (zq t n s).2.2 = true := by rw [aMy]; exact vZ (fun s h => aHa h) h
theorem aFm {t : ByteArray} {n : Nat} {s : Rds} (h : s.2 = true) : (ug t n s).2.2 = true := by rw [aMx]; exact vZ (fun s h => aEu h) h
theorem aHb {t : ByteArray} {s : Rds} (h : s.2 = true) : (rdM t s).2.2 = true := aFm (aB1 (aFn (aB1 h)))
theorem aFl {t : ByteArray} {n : Nat} {s : Rds} (h : s.2 = true) : (vJ t n s).2.2 = true := by
 cases n with
 | zero => exact h
 | succ n => unfold vJ; rw [if_pos h]; exact h
theorem aDa {t : ByteArray} {n : Nat} {s : Rds} (h : s.2 = true) : (vK t n s).2.2 = true := by
 cases n with
 | zero => exact h
 | succ n => unfold vK; rw [if_pos h]; exact h
theorem aKX {t : ByteArray} : ∀ {n : Nat} {s : Rds}, ((vJ t n s).2.2 = false → rdL (rdM t) n s = vJ t n s) ∧ ((vJ t n s).2.2 = true → (rdL (rdM t) n s).2.2 = true)
 | 0, s => ⟨fun _ => rfl, fun h => h⟩
 | n + 1, s => by
  cases hs : s.2 with
  | true => exact ⟨fun h => (by rw [aFl hs] at h; cases h), fun _ => vZ (fun s h => aHb h) hs⟩
  | false =>
   have ih := aKX (t := t) (n := n) (s := (rdM t s).2)
   unfold vJ
   rw [if_neg (by simp [hs])]
   refine ⟨fun h => ?_, fun h => ih.2 h⟩
   simp only [rdL]
   rw [ih.1 h]
theorem aK5 {t : ByteArray} : ∀ {n : Nat} {s : Rds}, ((vK t n s).2.2 = false → rdL (zM t) n s = vK t n s) ∧ ((vK t n s).2.2 = true → (rdL (zM t) n s).2.2 = true)
 | 0, s => ⟨fun _ => rfl, fun h => h⟩
 | n + 1, s => by
  cases hs : s.2 with
  | true => exact ⟨fun h => (by rw [aDa hs] at h; cases h), fun _ => vZ (fun s h => aFo h) hs⟩
  | false =>
   have ih := aK5 (t := t) (n := n) (s := (zM t s).2)
   unfold vK
   rw [if_neg (by simp [hs])]
   refine ⟨fun h => ?_, fun h => ih.2 h⟩
   simp only [rdL]
   rw [ih.1 h]
theorem aQ5 {t : ByteArray} {s : Rds} : rdM t s = (((rdL (rdI t) (rdC t 2 s).1 (rdC t 2 s).2).1, (rdL (rdE t) (rdC t 12 (rdL (rdI t) (rdC t 2 s).1 (rdC t 2 s).2).2).1 (rdC t 12 (rdL (rdI t) (rdC t 2 s).1 (rdC t 2 s).2).2).2).1), (rdL (rdE t) (rdC t 12 (rdL (rdI t) (rdC t 2 s).1 (rdC t 2 s).2).2).1 (rdC t 12 (rdL (rdI t) (rdC t 2 s).1 (rdC t 2 s).2).2).2).2) := by
 unfold rdM
 simp only [aMy, aMx]
theorem aK1 {α : Type} {t : ByteArray} {f : Rds → α × Rds} (hf : ∀ s, zL t s → zL t (f s).2) : ∀ {n : Nat} {s : Rds}, zL t s → zL t (rdL f n s).2
 | 0, s, h => h
 | n + 1, s, h => aK1 hf (n := n) (hf s h)
attribute [local irreducible] xI xO xQ xX yG Pre ACG
attribute [local irreducible] yt kQ vC ACP
set_option maxHeartbeats 2000000 in
theorem aMV {t : ByteArray} {i : Nat} (ht : t.size ≤ 65536) (hi : i ≤ t.size) (h : (rdM t (i, false)).2.2 = false) : ACG Tryz.prog 35 [.optr 0 0 [] 0] [rdP t i] [rdP t (rdM t (i, false)).2.1] ⟨.mix [.own 0, .own 1], [⟨3, 1, (rdM t (i, false)).1.1.map yo⟩, ⟨74, 2, (rdM t (i, false)).1.2.map yB⟩]⟩ := by
 rw [aQ5] at h ⊢
 have hok := aK1 (f := rdI t) (fun s h => aGv h) (n := (rdC t 2 (i, false)).1) (zY (m := 2) (t := t) (s := (i, false)) ⟨by omega, hi⟩).1
 have c1 := fun h => aNW (m := 2) ht hi (by omega) h
 generalize rdL (rdI t) (rdC t 2 (i, false)).1 (rdC t 2 (i, false)).2 = R at h hok c1 ⊢
 obtain ⟨PL, a, bad⟩ := R
 dsimp only at h hok c1 ⊢
 cases bad
 case true => rw [vZ (fun s h => aEu h) (aB1 rfl)] at h; cases h
 have c1 := c1 rfl
 have c2 := aST (m := 12) (t := t) (i := a) ht hok.2 (by omega) h
 generalize rdL (rdE t) (rdC t 12 (a, false)).1 (rdC t 12 (a, false)).2 = R2 at c2 ⊢
 obtain ⟨EL, b, bad⟩ := R2
 dsimp only at c2 ⊢
 refine xL (rs := [.cell 2 33]) xH (by kernel_rfl) Tryz.func35 rfl Tryz.ntmps35 (by rw [Tryz.results35]) (by kernel_rfl) (by simp) rfl rfl (xA _ _ _ ?_)
 conv => whnf
 repeat ((first | refine qz ?_ | refine qgV [0] (c1) ?_ | refine qgV [0] (c2) ?_ | refine qr (uo rfl ⟨⟨_, _, rfl, rfl, rfl⟩, ⟨_, _, rfl, rfl, rfl⟩, trivial⟩ rfl) ?_ | refine qr (yJ rfl rfl rfl rfl rfl rfl) ?_); conv => whnf)
 exact aKT rfl rfl rfl rfl rfl rfl rfl rfl rfl
theorem aSZ {t : ByteArray} {i : Nat} (ht : t.size ≤ 65536) (hi : i ≤ t.size) (h : (rdM t (i, false)).2.2 = true) : ACP Tryz.prog 35 [.optr 0 0 [] 0] [rdP t i] pvM := by
 rw [aQ5] at h
 have hok := aK1 (f := rdI t) (fun s h => aGv h) (n := (rdC t 2 (i, false)).1) (zY (m := 2) (t := t) (s := (i, false)) ⟨by omega, hi⟩).1
 have c1 := fun h => aNW (m := 2) ht hi (by omega) h
 have d1 := fun h => aQo (m := 2) ht hi (by omega) h
 generalize rdL (rdI t) (rdC t 2 (i, false)).1 (rdC t 2 (i, false)).2 = R at h hok c1 d1
 obtain ⟨PL, a, bad⟩ := R
 dsimp only at h hok c1 d1
 refine kE xH (by kernel_rfl) Tryz.func35 rfl Tryz.ntmps35 (by kernel_rfl) (by simp) ?_
 refine yE ?_
 conv => whnf
 cases bad
 case true =>
  have d1 := d1 rfl
  refine yw (uI ?_)
  conv => whnf
  exact zT (zx [0] d1 rfl rfl (by first | exact ⟨rfl, trivial⟩ | exact ⟨rfl, rfl, trivial⟩ | exact ⟨rfl, rfl, rfl, trivial⟩) rfl rfl rfl rfl rfl rfl) rfl rfl
 have c1 := c1 rfl
 refine yE ?_
 conv => whnf
 repeat ((first | refine qz ?_ | refine qgV [0] (c1) ?_); conv => whnf)
 have d2 := aQn (m := 12) (t := t) (i := a) ht hok.2 (by omega) h
 refine yw (uI ?_)
 conv => whnf
 exact zT (zx [0] d2 rfl rfl (by first | exact ⟨rfl, trivial⟩ | exact ⟨rfl, rfl, trivial⟩ | exact ⟨rfl, rfl, rfl, trivial⟩) rfl rfl rfl rfl rfl rfl) rfl rfl
end Go.Proofs.YtfomjajdfaoogaaGreatDoor.AM
namespace Go.Proofs.YtfomjajdfaoogaaGreatDoor.AM
open Go Go.RowKit
def At (t : ByteArray) (i : Nat) (l : List UInt8) : Prop := i ≤ t.size ∧ ∃ r, t.data.toList.drop i = l ++ r
theorem At.app {t : ByteArray} {i : Nat} {a b : List UInt8} (h : At t i (a ++ b)) : At t i a ∧ At t (i + a.length) b := by
 obtain ⟨hi, r, e⟩ := h
 have hl := congrArg List.length e
 simp only [List.length_drop, List.length_append, Array.length_toList] at hl
 have hs : t.data.size = t.size := rfl
 refine ⟨⟨hi, b ++ r, by rw [e, List.append_assoc]⟩, by omega, r, ?_⟩
 rw [← List.drop_drop, e, List.append_assoc, List.drop_left]
theorem At.cons {t : ByteArray} {i : Nat} {a : UInt8} {b : List UInt8} (h : At t i (a :: b)) : ∃ hlt : i < t.size, t[i] = a ∧ At t (i + 1) b := by
 obtain ⟨hi, r, e⟩ := h
 have hl := congrArg List.length e
 simp only [List.length_drop, List.length_append, Array.length_toList, List.length_cons] at hl
 have hs : t.data.size = t.size := rfl
 have hlt : i < t.size := by omega
 have hlt' : i < t.data.toList.length := by rw [Array.length_toList]; exact hlt
 rw [List.drop_eq_getElem_cons hlt', List.cons_append] at e
 obtain ⟨e1, e2⟩ := List.cons.inj e
 exact ⟨hlt, e1, by omega, r, e2⟩
theorem At.len {t : ByteArray} {i : Nat} {a : List UInt8} (h : At t i a) : i + a.length ≤ t.size := by
 obtain ⟨hi, r, e⟩ := h
 have hl := congrArg List.length e
 simp only [List.length_drop, List.length_append, Array.length_toList] at hl
 have hs : t.data.size = t.size := rfl
 omega
theorem At.ext {t : ByteArray} {i : Nat} {a : ByteArray} (h : At t i a.data.toList) : t.extract i (i + a.size) = a := by
 have hn := h.len
 obtain ⟨hi, r, e⟩ := h
 have hs : t.data.size = t.size := rfl
 have ha : a.data.size = a.size := rfl
 apply ByteArray.ext
 rw [ByteArray.data_extract]
 apply Array.ext'
 rw [Array.toList_extract, List.extract_eq_take_drop, e, Nat.add_sub_cancel_left, ← ha, ← Array.length_toList, List.take_left]
theorem aKg {t : ByteArray} {a : Nat} : ∀ {f i acc u m : Nat}, (yx m).length ≤ f → (i = a ∨ 0 < m) → acc + m * u ≤ 4000000 → At t i (yx m) → wZ t a f i acc u = (acc + m * u, i + (yx m).length, true)
 | 0, i, acc, u, m, hl, _, _, _ => by
  exfalso
  rw [yx] at hl
  split at hl <;> simp at hl
 | f + 1, i, acc, u, m, hl, hz, hb, hA => by
  by_cases hm : m < 128
  · rw [aEG hm] at hA ⊢
    obtain ⟨hlt, e, _⟩ := hA.cons
    have ev : (t[i]).toNat = m := by rw [e, UInt8.toNat_ofNat']; omega
    unfold wZ
    rw [dif_pos hlt, ev, if_pos hm, Nat.mod_eq_of_lt hm, decide_eq_true hb]
    have : (decide (0 < m) || decide (i = a)) = true := by
     rcases hz with h | h
     · simp [h]
     · simp [h]
    rw [this]; rfl
  · rw [aGZ hm] at hA hl ⊢
    obtain ⟨hlt, e, hA2⟩ := hA.cons
    have ev : (t[i]).toNat = 128 + m % 128 := by rw [e, UInt8.toNat_ofNat']; omega
    have key : (128 + m % 128) % 128 * u + m / 128 * (u * 128) = m * u := by
     have h1 : (128 + m % 128) % 128 = m % 128 := by omega
     rw [h1, show m / 128 * (u * 128) = (128 * (m / 128)) * u by rw [Nat.mul_comm u 128, ← Nat.mul_assoc, Nat.mul_comm 128], ← Nat.add_mul, Nat.mod_add_div]
    unfold wZ
    rw [dif_pos hlt, ev, if_neg (by omega), aKg (f := f) (m := m / 128) (by simpa using hl) (.inr (by omega)) (by rw [Nat.add_assoc, key]; exact hb) hA2, Nat.add_assoc, key]
    simp only [List.length_cons, Prod.mk.injEq, and_true, true_and]
    omega
theorem aKi {t : ByteArray} {i n : Nat} (hn : n ≤ 4000000) (h : At t i (yx n)) : zJ t i = (n, i + (yx n).length, true) := by
 unfold zJ
 rw [aKg (aF7 3 n (by omega)) (.inl rfl) (by omega) h]
 simp
theorem aAc {t : ByteArray} {i n : Nat} (hn : n ≤ 4000000) (h : At t i (yx n)) : rdN t (i, false) = (n, (i + (yx n).length, false)) := by
 unfold rdN
 rw [aKi hn h]
 simp
theorem aCx {t : ByteArray} {i n m : Nat} (hn : n ≤ 4000000) (hm : n ≤ m) (h : At t i (yx n)) : rdC t m (i, false) = (n, (i + (yx n).length, false)) := by
 unfold rdC
 rw [aAc hn h]
 exact if_neg (by dsimp only; omega)
theorem ko (n : Nat) : (xG n).data.toList = yx n := rfl
theorem aBn (n : Nat) : (xG n).size = (yx n).length := by show (yx n).toArray.size = _; simp
theorem kF (a b : ByteArray) : (a ++ b).data.toList = a.data.toList ++ b.data.toList := by rw [ByteArray.data_append, Array.toList_append]
theorem vW (a : ByteArray) : a.data.toList.length = a.size := by rw [Array.length_toList]; rfl
theorem aLo {t w : ByteArray} {i : Nat} (hw : w.size ≤ 12) (h : At t i (vL w).data.toList) : rdW t (i, false) = (w, (i + (vL w).size, false)) := by
 unfold vL at h ⊢
 rw [kF, ko] at h
 obtain ⟨h1, h2⟩ := h.app
 have h3 := h2.len
 rw [vW] at h3
 unfold rdW
 rw [aCx (by omega) hw h1]
 dsimp only
 rw [if_neg (by simp; omega), h2.ext, ByteArray.size_append, aBn, Nat.add_assoc]
theorem aRj {t : ByteArray} {i : Nat} {n : Int} (h0 : -1000000 ≤ n) (h1 : n ≤ 1000000) (h : At t i (kV n).data.toList) : rdS t (i, false) = (n, (i + (kV n).size, false)) := by
 unfold kV at h ⊢
 rw [ko] at h
 unfold rdS
 rw [aBn]
 by_cases hn : n < 0
 · rw [if_pos hn] at h ⊢
   rw [aAc (by omega) h]
   dsimp only
   rw [if_pos (by omega)]
   congr 1
   omega
 · rw [if_neg hn] at h ⊢
   rw [aAc (by omega) h]
   dsimp only
   rw [if_neg (by omega)]
   congr 1
   omega
theorem aTI (l : List Int) : ∀ a : ByteArray, (wU a l).data.toList = a.data.toList ++ l.flatMap fun p => yx p.toNat := by
 induction l with
 | nil => intro a; simp [wU]
 | cons p l ih =>
  intro a
  show (wU (a ++ xG p.toNat) l).data.toList = _
  rw [ih, kF, ko, List.append_assoc, List.flatMap_cons]
theorem aSl (l : List Ent) : ∀ a : ByteArray, (jJ a l).data.toList = a.data.toList ++ l.flatMap fun e => (vL e.1 ++ kV e.2).data.toList := by
 induction l with
 | nil => intro a; simp [jJ]
 | cons p l ih =>
  intro a
  show (jJ (a ++ (vL p.1 ++ kV p.2)) l).data.toList = _
  rw [ih, kF, List.append_assoc, List.flatMap_cons]
theorem aS9 (c : Cmt) : (zk c).data.toList = yx c.1.length ++ ((c.1.flatMap fun p => yx p.toNat) ++ (yx c.2.length ++ c.2.flatMap fun e => (vL e.1 ++ kV e.2).data.toList)) := by
 unfold zk
 rw [aSl, kF, aTI, ko, ko, List.append_assoc, List.append_assoc]
theorem aTX (l : List Cmt) : ∀ a : ByteArray, (wX a l).data.toList = a.data.toList ++ l.flatMap fun c => (zk c).data.toList := by
 induction l with
 | nil => intro a; simp [wX]
 | cons p l ih =>
  intro a
  show (wX (a ++ zk p) l).data.toList = _
  rw [ih, kF, List.append_assoc, List.flatMap_cons]
theorem aTR (l : List Rf) : ∀ a : ByteArray, (jP a l).data.toList = a.data.toList ++ l.flatMap fun r => (wu r).data.toList := by
 induction l with
 | nil => intro a; simp [jP]
 | cons p l ih =>
  intro a
  show (jP (a ++ wu p) l).data.toList = _
  rw [ih, kF, List.append_assoc, List.flatMap_cons]
theorem aN8 (b : Bas) : (uD b).data.toList = brB.data.toList ++ (yx b.store.length ++ ((b.store.flatMap fun c => (zk c).data.toList) ++ (yx b.refs.length ++ b.refs.flatMap fun r => (wu r).data.toList))) := by
 unfold uD
 rw [aTR, kF, aTX, kF, ko, ko]
 simp only [List.append_assoc]
theorem aK2 {t : ByteArray} : ∀ {l : List Int} {i : Nat}, (∀ p ∈ l, 0 ≤ p ∧ p ≤ 4000000) → At t i (l.flatMap fun p => yx p.toNat) → zq t l.length (i, false) = (l, (i + (l.flatMap fun p => yx p.toNat).length, false))
 | [], i, _, _ => by simp [zq]
 | p :: l, i, hp, h => by
  rw [List.flatMap_cons] at h
  obtain ⟨h1, h2⟩ := h.app
  have hp0 := hp p (by simp)
  have ih := aK2 (fun q hq => hp q (by simp [hq])) h2
  show (((rdN t (i, false)).1 : Int) :: (zq t l.length (rdN t (i, false)).2).1, (zq t l.length (rdN t (i, false)).2).2) = _
  rw [aAc (by omega) h1]
  dsimp only
  rw [ih]
  simp only [List.flatMap_cons, List.length_append, Nat.add_assoc, Prod.mk.injEq, List.cons.injEq, and_true, true_and]
  omega
theorem aKZ {t : ByteArray} : ∀ {l : List Ent} {i : Nat}, aJe l → At t i (l.flatMap fun e => (vL e.1 ++ kV e.2).data.toList) → ug t l.length (i, false) = (l, (i + (l.flatMap fun e => (vL e.1 ++ kV e.2).data.toList).length, false))
 | [], i, _, _ => by simp [ug]
 | e :: l, i, hp, h => by
  rw [List.flatMap_cons] at h
  obtain ⟨h1, h2⟩ := h.app
  obtain ⟨k1, k2, k3⟩ := hp e (by simp)
  have ih := aKZ (fun q hq => hp q (by simp [hq])) h2
  rw [kF] at h1
  obtain ⟨h3, h4⟩ := h1.app
  rw [vW] at h4
  show (((rdW t (i, false)).1, (rdS t (rdW t (i, false)).2).1) :: (ug t l.length (rdS t (rdW t (i, false)).2).2).1, (ug t l.length (rdS t (rdW t (i, false)).2).2).2) = _
  rw [aLo k1 h3]
  dsimp only
  rw [aRj k2 k3 h4]
  dsimp only
  rw [kF, List.length_append, vW, vW, ← Nat.add_assoc] at ih
  rw [ih]
  simp only [List.flatMap_cons, List.length_append, kF, vW, Nat.add_assoc]
theorem aLl {t : ByteArray} {c : Cmt} {i : Nat} (hc : CmtS c) (hp : c.1.length ≤ 2) (hm : c.2.length ≤ 12) (h : At t i (zk c).data.toList) : rdM t (i, false) = (c, (i + (zk c).size, false)) := by
 have hsz := aS9 c
 rw [hsz] at h
 have hl := congrArg List.length hsz
 rw [vW] at hl
 obtain ⟨h1, h⟩ := h.app
 obtain ⟨h2, h⟩ := h.app
 obtain ⟨h3, h4⟩ := h.app
 unfold rdM
 rw [aCx (by omega) hp h1]
 dsimp only
 rw [aK2 (fun p hp => by have := hc.pp p hp; omega) h2]
 dsimp only
 rw [aCx (by omega) hm h3]
 dsimp only
 rw [aKZ hc.me h4]
 simp only [Prod.mk.injEq, and_true, true_and]
 rw [hl]
 simp only [List.length_append]
 omega
theorem aKW {t : ByteArray} : ∀ {l : List Cmt} {i : Nat}, (∀ c ∈ l, CmtS c ∧ c.1.length ≤ 2 ∧ c.2.length ≤ 12) → At t i (l.flatMap fun c => (zk c).data.toList) → vJ t l.length (i, false) = (l, (i + (l.flatMap fun c => (zk c).data.toList).length, false))
 | [], i, _, _ => by simp [vJ]
 | c :: l, i, hp, h => by
  rw [List.flatMap_cons] at h
  obtain ⟨h1, h2⟩ := h.app
  rw [vW] at h2
  obtain ⟨k1, k2, k3⟩ := hp c (by simp)
  have ih := aKW (fun q hq => hp q (by simp [hq])) h2
  show (if (i, false).2 = true then ([], (i, false)) else ((rdM t (i, false)).1 :: (vJ t l.length (rdM t (i, false)).2).1, (vJ t l.length (rdM t (i, false)).2).2)) = _
  rw [if_neg (by simp), aLl k1 k2 k3 h1]
  dsimp only
  rw [ih]
  simp only [List.flatMap_cons, List.length_append, vW, Nat.add_assoc]
theorem aPs {t : ByteArray} {r : Rf} {i : Nat} (hr : RfS r) (hg : r.gone = decide (r.head = 0)) (h : At t i (wu r).data.toList) : zM t (i, false) = (r, (i + (wu r).size, false)) := by
 have hs : (wu r).size = (vL r.name).size + (yx r.ver.toNat).length + (yx r.head.toNat).length := by
  unfold wu
  rw [ByteArray.size_append, ByteArray.size_append, aBn, aBn]
 unfold wu at h
 rw [kF, kF, ko, ko, List.append_assoc] at h
 obtain ⟨h1, h⟩ := h.app
 obtain ⟨h2, h3⟩ := h.app
 rw [vW] at h2 h3
 have a1 := hr.v0
 have a2 := hr.v1
 have a3 := hr.h0
 have a4 := hr.h1
 unfold zM
 rw [aLo hr.n h1]
 dsimp only
 rw [aAc (by omega) h2]
 dsimp only
 rw [aAc (by omega) h3, hs]
 dsimp only
 obtain ⟨nm, hd, vr, gn⟩ := r
 dsimp only at a1 a2 a3 a4 hg ⊢
 rw [Int.toNat_of_nonneg a1, Int.toNat_of_nonneg a3, hg]
 simp only [Prod.mk.injEq, and_true, true_and]
 omega
theorem aK4 {t : ByteArray} : ∀ {l : List Rf} {i : Nat}, (∀ r ∈ l, RfS r ∧ r.gone = decide (r.head = 0)) → At t i (l.flatMap fun r => (wu r).data.toList) → vK t l.length (i, false) = (l, (i + (l.flatMap fun r => (wu r).data.toList).length, false))
 | [], i, _, _ => by simp [vK]
 | c :: l, i, hp, h => by
  rw [List.flatMap_cons] at h
  obtain ⟨h1, h2⟩ := h.app
  rw [vW] at h2
  obtain ⟨k1, k2⟩ := hp c (by simp)
  have ih := aK4 (fun q hq => hp q (by simp [hq])) h2
  show (if (i, false).2 = true then ([], (i, false)) else ((zM t (i, false)).1 :: (vK t l.length (zM t (i, false)).2).1, (vK t l.length (zM t (i, false)).2).2)) = _
  rw [if_neg (by simp), aPs k1 k2 h1]
  dsimp only
  rw [ih]
  simp only [List.flatMap_cons, List.length_append, vW, Nat.add_assoc]
attribute [local irreducible] xI xO xQ xX yG Pre ACG
attribute [local irreducible] yt kQ vC ACP
set_option maxHeartbeats 2000000 in
theorem aNV {t : ByteArray} {i m : Nat} (ht : t.size ≤ 65536) (hi : i ≤ t.size) (hm : m ≤ 100) (h : (rdL (rdM t) (rdC t m (i, false)).1 (rdC t m (i, false)).2).2.2 = false) :
 ACG Tryz.prog 88 [.optr 0 0 [] 0, .v (.int .i64 (m : Int)), .fn 35 [.optr 0 0 [] 0] []] [rdP t i] [rdP t (rdL (rdM t) (rdC t m (i, false)).1 (rdC t m (i, false)).2).2.1] ⟨.own 0, [⟨.d 33, 2, (rdL (rdM t) (rdC t m (i, false)).1 (rdC t m (i, false)).2).1.map xS⟩]⟩ := by
 have hC := zY (m := m) (t := t) (s := (i, false)) ⟨by omega, hi⟩
 have c1 := fun h => qw (m := m) ht hi h
 generalize rdC t m (i, false) = R at h c1 hC ⊢
 obtain ⟨N, a, bad⟩ := R
 dsimp only at h c1 hC ⊢
 obtain ⟨⟨_, ha⟩, hN⟩ := hC
 dsimp only at ha hN
 cases bad
 case true => rw [vZ (fun s h => aHb h) rfl] at h; cases h
 have c1 := c1 rfl
 have hlen := aCz (f := rdM t) (n := N) (s := (a, false))
 obtain ⟨⟨PL, PS⟩, hP⟩ : ∃ P, rdL (rdM t) N (a, false) = P := ⟨_, rfl⟩
 rw [hP] at h hlen ⊢
 dsimp only at h hlen ⊢
 subst hlen
 have hlenr : (List.replicate PL.length (AV.agg [.lst 1 [], .lst 2 []])).length = PL.length := by simp
 refine xL (rs := [.tmp 6]) xH (by kernel_rfl) Tryz.func88 rfl Tryz.ntmps88 (by rw [Tryz.results88]) (by kernel_rfl) (by simp) rfl rfl (xA _ _ _ ?_); conv => whnf
 repeat ((first | refine qp (aBE (m := PL.length) rfl rfl hlenr ⟨_, _, _, _, rfl⟩) ?_ | refine qz ?_ | refine qgV [0] (c1) ?_ | refine jv (aAP (n := PL.length) (by omega) (by omega) rfl rfl rfl rfl) rfl rfl (fun e => by cases e) (Gh.z2d 13 rfl (Gh.done ?_))); conv => whnf)
 have hrow : List.replicate PL.length (AV.agg [.lst 1 [], .lst 2 []]) = (PL.take 0 ++ List.replicate (PL.length - 0) aBK).map xS := by simp [xS]
 refine xZ (ι := { p : Nat × Nat // p.1 ≤ PL.length ∧ p.2 ≤ t.size ∧ rdL (rdM t) (PL.length - p.1) (p.2, false) = (PL.drop p.1, PS) ∧ (p.1 = PL.length → p.2 = PS.1) }) (fun p => ⟨[(2, .fn 35 [.optr 0 0 [] 0] []), (7, .own 13), (14, .v (.int .i64 (PL.length : Int))), (15, .v (.int .i64 (p.1.1 : Int)))], [(0, rdP t p.1.2), (13, ⟨.d 33, 2, (PL.take p.1.1 ++ List.replicate (PL.length - p.1.1) aBK).map xS⟩)]⟩) (fun p => PL.length - p.1.1) ⟨(0, a), Nat.zero_le _, ha, by simpa using hP, fun e => (by
  have e' : PL.length = 0 := e.symm
  rw [e'] at hP
  simp only [rdL, Prod.mk.injEq] at hP
  rw [← hP.2])⟩ ⟨⟨rfl, congrArg (fun x => some (OB.mk _ _ x)) hrow, trivial⟩, .inl ⟨rfl, rfl⟩, .inl ⟨rfl, rfl⟩, .inl ⟨rfl, rfl⟩, .inl ⟨rfl, rfl⟩, trivial⟩ ?_
 rintro ⟨⟨k, p⟩, hk, hp, hr, he⟩
 dsimp only at hk hp hr he ⊢
 conv => whnf
 by_cases hlt : k < PL.length
 · obtain ⟨r, hrr⟩ : ∃ r, PL.length - k = r + 1 := ⟨PL.length - k - 1, by omega⟩
   rw [hrr] at hr
   obtain ⟨hv, hr2⟩ := aD9 hlt hr
   have hr2' : rdL (rdM t) (PL.length - (k + 1)) (rdM t (p, false)).2 = (PL.drop (k + 1), PS) := by rw [show PL.length - (k + 1) = r by omega]; exact hr2
   have c2 := fun h => aMV (t := t) (i := p) ht hp h
   have hok := (aEU (t := t) (s := (p, false)) ⟨by omega, hp⟩).1
   have hlt2 : k < (PL.take k ++ List.replicate (PL.length - k) aBK).length := by simp; omega
   have hset := congrArg (List.map xS) (aDU PL aBK k hlt)
   rw [List.map_set] at hset
   have hopn : yX (.d 33) ((PL.take k ++ List.replicate (PL.length - k) aBK).map xS) k = some (.o (some 33) k (xS (PL.take k ++ List.replicate (PL.length - k) aBK)[k])) := by
    simp only [yX, jl xS hlt2]
   rw [← hv] at hset
   clear hv hr hr2
   generalize rdM t (p, false) = R at hr2' c2 hok hset
   obtain ⟨v, q, bad⟩ := R
   dsimp only at hr2' c2 hok hset
   cases bad
   case true =>
    have := vZ (f := rdM t) (fun s h => aHb h) (n := PL.length - (k + 1)) (s := (q, true)) rfl
    rw [hr2'] at this
    rw [h] at this; cases this
   have c2 := c2 rfl
   repeat ((first | refine qz ?_ | refine qgV [0] (c2) ?_ | refine qp (zX (by simpa using hlt2) rfl rfl rfl rfl rfl) ?_); conv => whnf)
   refine jv (yJ rfl rfl hopn rfl rfl rfl) rfl rfl (fun e => by cases e) (Gh.s2d 22 rfl aEj (Gh.s2d 1022 rfl aCs (Gh.fold 13 22 [0] rfl rfl rfl rfl rfl rfl (Gh.fold 13 1022 [1] rfl rfl rfl rfl rfl rfl (Gh.shut 13 (z := .agg [.lst 1 [], .lst 2 []]) (y' := xS v) rfl rfl (Gh.done ?_))))))
   conv => whnf
   repeat ((refine qz ?_; conv => whnf))
   exact ⟨⟨(k + 1, q), hlt, hok.2, hr2', fun e => (by
    have e' : k + 1 = PL.length := e
    rw [e', Nat.sub_self] at hr2'
    simp only [rdL, Prod.mk.injEq] at hr2'
    rw [← hr2'.2])⟩, ⟨⟨rfl, congrArg (fun x => some (OB.mk _ _ x)) hset, trivial⟩, .inl ⟨rfl, rfl⟩, .inl ⟨rfl, rfl⟩, .inl ⟨rfl, rfl⟩, .inl ⟨rfl, rfl⟩, trivial⟩, by dsimp only; omega⟩
 · have hkk : k = PL.length := by omega
   rw [he hkk]
   subst hkk
   repeat ((refine qz ?_; conv => whnf))
   exact aGt rfl rfl (by show some (OB.mk _ _ _) = _; rw [List.take_length, Nat.sub_self, List.replicate_zero, List.append_nil])
set_option maxHeartbeats 2000000 in
theorem aQm {t : ByteArray} {i m : Nat} (ht : t.size ≤ 65536) (hi : i ≤ t.size) (hm : m ≤ 100) (h : (rdL (rdM t) (rdC t m (i, false)).1 (rdC t m (i, false)).2).2.2 = true) :
 ACP Tryz.prog 88 [.optr 0 0 [] 0, .v (.int .i64 (m : Int)), .fn 35 [.optr 0 0 [] 0] []] [rdP t i] pvM := by
 have hC := zY (m := m) (t := t) (s := (i, false)) ⟨by omega, hi⟩
 have c1 := fun h => qw (m := m) ht hi h
 have d1 := fun h => aCj (m := m) ht hi h
 generalize rdC t m (i, false) = R at h c1 d1 hC
 obtain ⟨N, a, bad⟩ := R
 dsimp only at h c1 d1 hC
 obtain ⟨⟨_, ha⟩, hN⟩ := hC
 dsimp only at ha hN
 refine kE xH (by kernel_rfl) Tryz.func88 rfl Tryz.ntmps88 (by kernel_rfl) (by simp) ?_
 refine yE ?_
 conv => whnf
 cases bad
 case true =>
  have d1 := d1 rfl
  refine yw (uI ?_)
  conv => whnf
  exact zT (zx [0] d1 rfl rfl (by first | exact ⟨rfl, trivial⟩ | exact ⟨rfl, rfl, trivial⟩ | exact ⟨rfl, rfl, rfl, trivial⟩) rfl rfl rfl rfl rfl rfl) rfl rfl
 have c1 := c1 rfl
 refine yE ?_
 conv => whnf
 repeat ((first | refine qz ?_ | refine qgV [0] (c1) ?_ | refine jv (aAP (n := N) (by omega) (by omega) rfl rfl rfl rfl) rfl rfl (fun e => by cases e) (Gh.z2d 13 rfl (Gh.done ?_))); conv => whnf)
 refine yw (yE ?_)
 conv => whnf
 have hlenr : (List.replicate N (AV.agg [.lst 1 [], .lst 2 []])).length = N := by simp
 repeat ((first | refine qp (aBE (m := N) rfl rfl hlenr ⟨_, _, _, _, rfl⟩) ?_ | refine qz ?_); conv => whnf)
 have hrow : List.replicate N (AV.agg [.lst 1 [], .lst 2 []]) = (([] : List Cmt) ++ List.replicate (N - 0) aBK).map xS := by simp [xS]
 refine jW (aGS (ι := { p : List Cmt × Nat // p.1.length ≤ N ∧ p.2 ≤ t.size ∧ (rdL (rdM t) (N - p.1.length) (p.2, false)).2.2 = true }) (fun p => ⟨[(2, .fn 35 [.optr 0 0 [] 0] []), (7, .own 13), (14, .v (.int .i64 (N : Int))), (15, .v (.int .i64 (p.1.1.length : Int)))], [(0, rdP t p.1.2), (13, ⟨.d 33, 2, (p.1.1 ++ List.replicate (N - p.1.1.length) aBK).map xS⟩)]⟩) (fun p => N - p.1.1.length) ⟨([], a), Nat.zero_le _, ha, by simpa using h⟩ ⟨⟨rfl, congrArg (fun x => some (OB.mk _ _ x)) hrow, trivial⟩, .inl ⟨rfl, rfl⟩, .inl ⟨rfl, rfl⟩, .inl ⟨rfl, rfl⟩, .inl ⟨rfl, rfl⟩, trivial⟩ ?_)
 rintro ⟨⟨acc, p⟩, hk, hp, hr⟩
 dsimp only at hk hp hr ⊢
 have hlt : acc.length < N := by
  rcases Nat.lt_or_ge acc.length N with h' | h'
  · exact h'
  · rw [show N - acc.length = 0 by omega] at hr; cases hr
 obtain ⟨r, hrr⟩ : ∃ r, N - acc.length = r + 1 := ⟨N - acc.length - 1, by omega⟩
 rw [hrr] at hr ⊢
 simp only [rdL] at hr
 have c2 := fun h => aMV (t := t) (i := p) ht hp h
 have d2 := fun h => aSZ (t := t) (i := p) ht hp h
 have hok := (aEU (t := t) (s := (p, false)) ⟨by omega, hp⟩).1
 generalize rdM t (p, false) = R at hr c2 d2 hok
 obtain ⟨v, q, bad⟩ := R
 dsimp only at hr c2 d2 hok
 cases bad
 · right
   have c2 := c2 rfl
   have hlt2 : acc.length < (acc ++ List.replicate (r + 1) aBK).length := by simp
   have hset := aDS xS acc aBK v r
   have hopn : yX (.d 33) ((acc ++ List.replicate (r + 1) aBK).map xS) acc.length = some (.o (some 33) acc.length (xS (acc ++ List.replicate (r + 1) aBK)[acc.length])) := by
    simp only [yX, jl xS hlt2]
   conv => whnf
   repeat ((first | refine qz ?_ | refine qgV [0] (c2) ?_ | refine qp (zX (by simp) rfl rfl rfl rfl rfl) ?_); conv => whnf)
   refine jv (yJ rfl rfl hopn rfl rfl rfl) rfl rfl (fun e => by cases e) (Gh.s2d 22 rfl aEj (Gh.s2d 1022 rfl aCs (Gh.fold 13 22 [0] rfl rfl rfl rfl rfl rfl (Gh.fold 13 1022 [1] rfl rfl rfl rfl rfl rfl (Gh.shut 13 (z := .agg [.lst 1 [], .lst 2 []]) (y' := xS v) rfl rfl (Gh.done ?_))))))
   conv => whnf
   repeat ((refine qz ?_; conv => whnf))
   have hl : (acc ++ [v]).length = acc.length + 1 := by simp
   refine ⟨⟨(acc ++ [v], q), by dsimp only; omega, hok.2, by dsimp only; rw [show N - (acc ++ [v]).length = r by omega]; exact hr⟩, ⟨⟨rfl, ?_, trivial⟩, .inl ⟨rfl, rfl⟩, .inl ⟨rfl, rfl⟩, .inl ⟨rfl, rfl⟩, .inl ⟨?_, rfl⟩, trivial⟩, by dsimp only; omega⟩
   · dsimp only
     rw [show N - (acc ++ [v]).length = r by omega]
     exact congrArg (fun x => some (OB.mk _ _ x)) hset
   · show AV.v (.int .i64 ((acc.length : Int) + 1)) = AV.v (.int .i64 ((acc ++ [v]).length : Int))
     rw [hl]; rfl
 · left
   have d2 := d2 rfl
   refine yE ?_
   conv => whnf
   repeat ((refine qz ?_; conv => whnf))
   refine yE ?_
   conv => whnf
   refine yw (jW (yE ?_))
   conv => whnf
   refine uI ?_
   conv => whnf
   exact zT (zx [0] d2 rfl rfl (by first | exact ⟨rfl, trivial⟩ | exact ⟨rfl, rfl, trivial⟩ | exact ⟨rfl, rfl, rfl, trivial⟩) rfl rfl rfl rfl rfl rfl) rfl rfl
end Go.Proofs.YtfomjajdfaoogaaGreatDoor.AM
namespace Go.Proofs.YtfomjajdfaoogaaGreatDoor.AM
open Go Go.RowKit
def mrk (t : ByteArray) (k : Nat) : Bool := (List.range k).all fun j => decide (t.data[j]? = brB.data[j]?)
theorem aL5 (t : ByteArray) : zo t = mrk t 3 := by
 obtain ⟨⟨l⟩⟩ := t
 have e : brB.data.toList = [66, 82, 49] := rfl
 unfold zo mrk
 match l with
 | [] => rfl
 | [a] => simp [brB, ByteArray.size, List.range_succ]
 | [a, b] => simp [brB, ByteArray.size, List.range_succ]
 | a :: b :: c :: r =>
  have h3 : (3 : Nat) ≤ (⟨⟨a :: b :: c :: r⟩⟩ : ByteArray).size := by simp [ByteArray.size]
  have hx : (⟨⟨a :: b :: c :: r⟩⟩ : ByteArray).extract 0 3 = ⟨⟨[a, b, c]⟩⟩ := by
   apply ByteArray.ext
   simp [ByteArray.data_extract]
  rw [hx, decide_eq_true h3, Bool.true_and]
  simp only [brB, ByteArray.mk.injEq, Array.mk.injEq, List.cons.injEq, and_true]
  rw [Bool.eq_iff_iff]
  simp [List.range_succ]
theorem aFf {t : ByteArray} {k : Nat} : mrk t (k + 1) = (mrk t k && decide (t.data[k]? = brB.data[k]?)) := by
 unfold mrk
 rw [List.range_succ, List.all_append]; simp
theorem aOM {t : ByteArray} {k : Nat} (hk : k < 3) (h : t.data[k]? = brB.data[k]?) : ∃ h1 : k < t.size, ∃ h2 : k < brB.size, t[k] = brB[k] := by
 have h2 : k < brB.size := hk
 have h3 : brB.data[k]? = some (brB[k]) := Array.getElem?_eq_getElem h2
 rw [h3] at h
 obtain ⟨h1, e⟩ := Array.getElem?_eq_some_iff.1 h
 exact ⟨h1, h2, e⟩
theorem aRW {t : ByteArray} {k : Nat} (hk : k < 3) (h : ¬ t.data[k]? = brB.data[k]?) (h1 : k < t.size) : ¬ t[k] = brB[k]'hk := fun e => h (by
 rw [show brB.data[k]? = some (brB[k]'hk) from Array.getElem?_eq_getElem hk, ← e]
 exact Array.getElem?_eq_getElem h1)
theorem aQQ {k : Nat} (hk : k < 3) : (brB[k]'hk).toNat < 128 := by
 match k, hk with
 | 0, _ => show (66 : UInt8).toNat < 128; decide
 | 1, _ => show (82 : UInt8).toNat < 128; decide
 | 2, _ => show (49 : UInt8).toNat < 128; decide
def aG5 (ops : Array Oper) : Bool := ops.toList.any fun o => match o.op with | .range _ _ => true | .next _ _ => true | _ => false
theorem aKK {Θ : Tab} {s : St} {d : Option Tmp} {ty : TypeId} {pos : String} {after : Array Edge} {g : Option (Nat × Bool)} {x : Operand} {n : Nat} (hx : s.ev x = .v (.int .u8 (n : Int))) (hn : n < 256) : Pre Tryz.prog Θ ⟨d, .convert 5 21 x, ty, pos, after, g⟩ s ⟨.v (.int .i32 (n : Int)), none⟩ :=
 aMo (fun w => by
  have hw : IntKind.i32.wrap (n : Int) = n := by rw [IntKind.wrap_i32]; omega
  have h1 : (underlying 5).run Tryz.prog w = .ok (.int .u8) w := run_underlying Tryz.underlying5 w
  have h2 : (underlying 21).run Tryz.prog w = .ok (.int .i32) w := run_underlying Tryz.underlying21 w
  simp [convert, h1, h2, Conv.intToInt, hw]) hx rfl
theorem aPq {s : St} {Θ : Tab} {o : OB} (h0 : s.hp 0 = some o) : xX Θ [] [o] ⟨.tup [], []⟩ .normal s := ⟨⟨h0, trivial⟩, [], by simp, trivial, trivial, ⟨_, rfl⟩, trivial⟩
attribute [local irreducible] xI xO xQ xX yG Pre ACG
attribute [local irreducible] yt kQ vC ACP wo aDH
set_option maxHeartbeats 2000000 in
theorem aLK {t : ByteArray} {i : Nat} (ht : t.size ≤ 65536) (h : zo t = true) : ACG Tryz.prog 87 [.optr 0 0 [] 0] [rdP t i] [rdP t 3] ⟨.tup [], []⟩ := by
 rw [aL5] at h
 have hat : ∀ k, k < 3 → t.data[k]? = brB.data[k]? := fun k hk => by
  unfold mrk at h
  have := List.all_eq_true.1 h k (List.mem_range.2 hk)
  simpa using this
 refine xL (rs := []) xH (by kernel_rfl) Tryz.func87 rfl Tryz.ntmps87 (by rw [Tryz.results87]) (by kernel_rfl) (by simp) rfl rfl (aAU (stop := aG5) _ _ _ ?_)
 conv => whnf
 refine aAf (aJu (t := brB) rfl Tryz.underlying9 rfl rfl (aJt ?_))
 conv => whnf
 refine aRo (stop := aG5) (ι := { k : Nat // k ≤ 3 }) (fun k => ⟨[(0, .optr 0 0 [] 0), (4, .optr 5 0 [] 0)], [(0, rdP t i), (5, qH brB k.1)]⟩) (fun k => 3 - k.1) ⟨0, by omega⟩ (by exact qle) ?_
 rintro ⟨k, hk⟩
 dsimp only
 conv => whnf
 by_cases hlt : k < 3
 · obtain ⟨h1, h2, h3⟩ := aOM hlt (hat k hlt)
   have h8 := aQQ hlt
   have e3 : (t[k]).toNat = (brB[k]'hlt).toNat := congrArg UInt8.toNat h3
   refine aAf (aHY rfl rfl hlt h8 rfl (kL xH _ _ ?_))
   conv => whnf
   repeat ((first | refine qp (kC (xH 9) rfl rfl h1) ?_ | refine qp (aKK rfl (t[k]).toNat_lt) ?_ | refine qp (xC (qK (by omega)) rfl rfl rfl) ?_ | refine qz ?_ | refine qc (aE4) ?_); conv => whnf)
   exact ⟨⟨k + 1, hlt⟩, by exact qle, by dsimp only; omega⟩
 · refine aAf (aPg rfl rfl (by show ¬ k < 3; exact hlt) rfl (kL xH _ _ ?_))
   conv => whnf
   repeat ((first | refine qz ?_ | refine qst ?_); conv => whnf)
   exact aPq rfl
theorem aON {t : ByteArray} (h : mrk t 3 = false) : ∃ k, k < 3 ∧ mrk t k = true ∧ ¬ t.data[k]? = brB.data[k]? := by
 have h0 : mrk t 0 = true := rfl
 by_cases a0 : t.data[0]? = brB.data[0]?
 · have h1 : mrk t 1 = true := by rw [aFf, h0]; simp [a0]
   by_cases a1 : t.data[1]? = brB.data[1]?
   · have h2 : mrk t 2 = true := by rw [aFf, h1]; simp [a1]
     refine ⟨2, by omega, h2, fun e => ?_⟩
     rw [aFf, h2] at h
     simp [e] at h
   · exact ⟨1, by omega, h1, a1⟩
 · exact ⟨0, by omega, h0, a0⟩
set_option maxHeartbeats 2000000 in
theorem aPQ {t : ByteArray} {i : Nat} (ht : t.size ≤ 65536) (h : zo t = false) : ACP Tryz.prog 87 [.optr 0 0 [] 0] [rdP t i] pvM := by
 rw [aL5] at h
 obtain ⟨kd, hkd, hm, hne⟩ := aON h
 have hat : ∀ k, k < kd → t.data[k]? = brB.data[k]? := fun k hk => by
  unfold mrk at hm
  have := List.all_eq_true.1 hm k (List.mem_range.2 hk)
  simpa using this
 refine kE xH (by kernel_rfl) Tryz.func87 rfl Tryz.ntmps87 (by kernel_rfl) (by simp) ?_
 refine yw (aL0 (stop := aG5) ?_)
 conv => whnf
 refine aAf (aJu (t := brB) rfl Tryz.underlying9 rfl rfl (aJt ?_))
 conv => whnf
 refine jW (aRB (stop := aG5) (ι := { k : Nat // k ≤ kd }) (fun k => ⟨[(0, .optr 0 0 [] 0), (4, .optr 5 0 [] 0)], [(0, rdP t i), (5, qH brB k.1)]⟩) (fun k => kd - k.1) ⟨0, by omega⟩ (by exact qle) ?_)
 rintro ⟨k, hk⟩
 dsimp only
 have hk3 : k < 3 := by omega
 have h8 := aQQ hk3
 by_cases hlt : k < kd
 · right
   obtain ⟨h1, h2, h3⟩ := aOM hk3 (hat k hlt)
   have e3 : (t[k]).toNat = (brB[k]'hk3).toNat := congrArg UInt8.toNat h3
   conv => whnf
   refine aAf (aHY rfl rfl hk3 h8 rfl (kL xH _ _ ?_))
   conv => whnf
   repeat ((first | refine qp (kC (xH 9) rfl rfl h1) ?_ | refine qp (aKK rfl (t[k]).toNat_lt) ?_ | refine qp (xC (qK (by omega)) rfl rfl rfl) ?_ | refine qz ?_ | refine qc (aE4) ?_); conv => whnf)
   exact ⟨⟨k + 1, hlt⟩, by exact qle, by dsimp only; omega⟩
 · left
   have hkk : k = kd := by omega
   subst hkk
   refine aL0 (stop := aG5) ?_
   conv => whnf
   refine aAf (aHY rfl rfl hk3 h8 rfl (kL xH _ _ ?_))
   conv => whnf
   refine yE ?_
   conv => whnf
   refine jW (yE ?_)
   conv => whnf
   refine uI ?_
   conv => whnf
   by_cases h1 : k < t.size
   · have h3 := aRW hk3 hne h1
     have e3 : ¬ (t[k]).toNat = (brB[k]'hk3).toNat := fun e => h3 (UInt8.toNat_inj.1 e)
     repeat ((first | refine aBG (kC (xH 9) rfl rfl h1) rfl rfl ?_ | refine aBG (aKK rfl (t[k]).toNat_lt) rfl rfl ?_ | refine aBG (aAp (y := .v (.string _)) rfl rfl rfl) rfl rfl ?_ | refine aBG (xC (by first | exact aBi (by omega) | exact aBh (by omega) | exact aAw (by omega) | exact aBg (by omega) | exact aBf (by omega) | exact aBe (by omega) | exact aBd (by omega) | exact aBb (by omega) | exact qK (by omega) | exact aAv (by omega) | exact aBj (by omega) | exact aAx (by omega) | exact yU rfl (by omega) (by omega) | exact zN rfl (by omega) (by omega)) rfl rfl rfl) rfl rfl ?_); conv => whnf)
     exact zT (zx [] aB9 rfl rfl trivial rfl rfl rfl rfl rfl rfl) rfl rfl
   · repeat ((first | refine aBG (aAp (y := .v (.string _)) rfl rfl rfl) rfl rfl ?_ | refine aBG (xC (by first | exact aBi (by omega) | exact aBh (by omega) | exact aAw (by omega) | exact aBg (by omega) | exact aBf (by omega) | exact aBe (by omega) | exact aBd (by omega) | exact aBb (by omega) | exact qK (by omega) | exact aAv (by omega) | exact aBj (by omega) | exact aAx (by omega) | exact yU rfl (by omega) (by omega) | exact zN rfl (by omega) (by omega)) rfl rfl rfl) rfl rfl ?_); conv => whnf)
     exact zT (zx [] aB9 rfl rfl trivial rfl rfl rfl rfl rfl rfl) rfl rfl
end Go.Proofs.YtfomjajdfaoogaaGreatDoor.AM
namespace Go.Proofs.YtfomjajdfaoogaaGreatDoor
open Go Go.RowKit
theorem aGN (p : Addr) (x : Bool) (u : TypeId) (pv : Value) (older : List PanicEntry) (w : World) (hc : w.cell? p = some (.bool x)) (hz : w.frozen? p = false) :
 CallsD Tryz.prog 72 #[.pointer (some p)] (.panicking ({ v := .iface u pv, recovered := false } :: older)) w fun e u' w' =>
  e = .returned (.tuple #[]) ∧ u' = .panicking ({ v := .iface u pv, recovered := true } :: older) ∧ w' = w.setCell p (.bool false) := by
 refine callsD_of_wpS Tryz.func72 rfl fun c₀ cs hu => ?_
 apply wpS_seq
 apply wpS_region
 simp [wpOpsS, go_sem, recoverD, hu, Tryz.ntmps72, Exit.thenS]
 refine wpS_cond (t := true) (by simp [Act.eval, Array.replicate]) ?_
 simp only [if_true]
 apply wpS_region
 simp [wpOpsS, go_sem, hc, hz, bodyPostS, results, Tryz.results72]
theorem aM3 (p : Addr) (w : World) :
 CallsD Tryz.prog 72 #[.pointer (some p)] .returning w fun e u' w' => e = .returned (.tuple #[]) ∧ u' = .returning ∧ w' = w := by
 refine callsD_of_wpS Tryz.func72 rfl fun c₀ cs hu => ?_
 apply wpS_seq
 apply wpS_region
 simp [wpOpsS, go_sem, recoverD, hu, Tryz.ntmps72, Exit.thenS]
 refine wpS_cond (t := false) (by simp [Act.eval, Array.replicate]) ?_
 simp only [Bool.false_eq_true, if_false]
 refine wpS_of_wp (wp_skip ?_)
 cases c₀
 simp_all [bodyPostS, results, Tryz.results72]
set_option maxHeartbeats 2000000 in
theorem aP8 (f : FuncId) (caps : Array Value) (r : Value) (w : World) (R : World → Prop) (hent : ∀ args w, (callFunc f args).run Tryz.prog w = .ok (.enter f args) w)
 (hf : Calls Tryz.prog f caps (w.alloc (.cells #[.bool false] 4)) fun e w' => e = .panicked [{ v := pvM, recovered := false }] ∧ (w'.cell? ⟨w.heap.size, 0, none⟩ = some (.bool false) ∧ w'.frozen? ⟨w.heap.size, 0, none⟩ = false) ∧ R w') :
 Calls Tryz.prog 33 #[r, .func (.func f) #[] caps] w fun e w' => e = .returned (.bool false) ∧ ∃ w2, R w2 ∧ w' = w2.setCell ⟨w.heap.size, 0, none⟩ (.bool false) := by
 have hmf : ∀ (fn : Fn) (first cap : Array Value) (w : World), (Instr.makeFunc fn first cap).run Tryz.prog w = .ok (.func fn first cap) w := fun _ _ _ _ => rfl
 go_enter_defers Tryz.func33, Tryz.ntmps33
 go_wp2
 refine hf.mono ?_
 rintro e w2 ⟨rfl, ⟨hc, hz⟩, hR⟩
 refine leaves_cons (f := 72) (args := #[.pointer (some ⟨w.heap.size, 0, none⟩)]) (by simp) (by simp [go_sem]) ?_
 refine (aGN ⟨w.heap.size, 0, none⟩ false 174 _ [] _ hc hz).mono ?_
 rintro e u' w'' ⟨rfl, rfl, rfl⟩
 have hcc : (w2.setCell ⟨w.heap.size, 0, none⟩ (.bool false)).cell? ⟨w.heap.size, 0, none⟩ = some (.bool false) := World.cell?_setCell_same _ _ _ hc
 simp [Leaves, settle, results, Tryz.results33, go_sem, hcc]
 exact ⟨w2, hR, rfl⟩
set_option maxHeartbeats 2000000 in
theorem aP9 (f : FuncId) (caps : Array Value) (b : Nat) (w : World) (R : World → Prop) (t : ByteArray) (j : Nat) (hent : ∀ args w, (callFunc f args).run Tryz.prog w = .ok (.enter f args) w)
 (hf : Calls Tryz.prog f caps (w.alloc (.cells #[.bool false] 4)) fun e w' => e = .returned (.tuple #[]) ∧ ((w'.cell? ⟨w.heap.size, 0, none⟩ = some (.bool false) ∧ w'.frozen? ⟨w.heap.size, 0, none⟩ = false) ∧ w'.cell? ⟨b, 0, none⟩ = some (.string t) ∧ w'.cell? ⟨b, 1, none⟩ = some (.int .i64 j)) ∧ R w') :
 Calls Tryz.prog 33 #[.pointer (some ⟨b, 0, none⟩), .func (.func f) #[] caps] w fun e w' => e = .returned (.bool ((j : Int) == (t.size : Int))) ∧ ∃ w2, R w2 ∧ w' = (w2.setCell ⟨w.heap.size, 0, none⟩ (.bool ((j : Int) == (t.size : Int)))).drew := by
 have hmf : ∀ (fn : Fn) (first cap : Array Value) (w : World), (Instr.makeFunc fn first cap).run Tryz.prog w = .ok (.func fn first cap) w := fun _ _ _ _ => rfl
 go_enter_defers Tryz.func33, Tryz.ntmps33
 go_wp2
 refine hf.mono ?_
 rintro e w2 ⟨rfl, ⟨⟨hc, hz⟩, h0, h1⟩, hR⟩
 go_wp2
 go_region
 have hcc : (w2.setCell ⟨w.heap.size, 0, none⟩ (.bool ((j : Int) == (t.size : Int)))).drew.cell? ⟨w.heap.size, 0, none⟩ = some (.bool ((j : Int) == (t.size : Int))) := World.cell?_setCell_same _ _ _ hc
 go_wp2
 refine leaves_cons (f := 72) (args := #[.pointer (some ⟨w.heap.size, 0, none⟩)]) (by simp) (by simp [go_sem]) ?_
 refine (aM3 ⟨w.heap.size, 0, none⟩ _).mono ?_
 rintro e u' w'' ⟨rfl, rfl, rfl⟩
 simp [Leaves, settle, results, Tryz.results33, go_sem, hcc]
 exact ⟨w2, hR, rfl⟩
end Go.Proofs.YtfomjajdfaoogaaGreatDoor
namespace Go.Proofs.YtfomjajdfaoogaaGreatDoor.AM
open Go Go.RowKit
theorem aKb {S : Nat → Prop} {w w' : World} {hp : Nat → Option OB} {B : Nat → Nat} {V : Nat → Value} {T : Nat → Nat → Prop} {lo D : Nat → Prop} (h : Rows S w hp (fun _ => none) B V T lo) (hg : Grown w w' D) (hS : ∀ g, S g → g < w.heap.size ∧ ¬ D g) (hR : ∀ l ob g, hp l = some ob → Blk V T l g → ¬ D g) : Rows S w' hp (fun _ => none) B V T lo := by
 have hsame : ∀ b, S b → w'.heap[b]? = w.heap[b]? := fun b hb => hg.block b (hS b hb).1 (hS b hb).2
 have hrow : ∀ l ob g, hp l = some ob → Blk V T l g → w'.heap[g]? = w.heap[g]? := fun l ob g ho hb => hg.block g (h.me l ob g ho hb).2.1 (hR l ob g ho hb)
 refine ⟨fun l ob ho => ?_, fun l ob g ho hg' => ?_, h.nd, h.ds, fun l es e => (by cases e)⟩
 · exact (h.ro l ob ho).carry (fun _ h => h) hsame (fun l _ => Same.refl l) (fun g hg' => hrow l ob g ho (.inr hg')) (fun g hg' => hrow l ob g ho (.inl hg'))
 · obtain ⟨a, b, c⟩ := h.me l ob g ho hg'
   exact ⟨a, Nat.lt_of_lt_of_le b hg.size, c⟩
theorem aOa {S : Nat → Prop} {w : World} {hp : Nat → Option OB} {B : Nat → Nat} {V : Nat → Value} {T : Nat → Prop} {b j : Nat} {v : Value} {t : ByteArray} (h : RO S w hp B V T (rdP t j) b v) : w.cell? ⟨b, 0, none⟩ = some (.string t) ∧ w.cell? ⟨b, 1, none⟩ = some (.int .i64 (j : Int)) := by
 obtain ⟨tt, cs, cap, cur, h0, hr, ha, hpos, hV, hheap, _, _, _, ht⟩ := h.block (by simp)
 have hr' : RL S w [.agg [.v (.string t), .v (.int .i64 (j : Int))]] cs := hr
 unfold RL at hr'
 obtain ⟨c1, c2, rfl, h1, h2⟩ := hr'
 unfold RL at h2
 subst h2
 unfold RA RL at h1
 obtain ⟨d1, d2, rfl, k1, k2⟩ := h1
 unfold RL at k2
 obtain ⟨d3, d4, rfl, k3, k4⟩ := k2
 unfold RL at k4
 subst k4
 unfold RA at k1 k3
 obtain ⟨rfl, _⟩ := k1
 obtain ⟨rfl, _⟩ := k3
 exact ⟨jQ hheap ht rfl, jQ hheap ht rfl⟩
theorem aNp : ∀ vs w, (callFunc 33 vs).run Tryz.prog w = .ok (.enter 33 vs) w := wR Tryz.func33 (by kernel_rfl) (by kernel_rfl)
section
variable {w : World} {S0 : Nat → Prop} {B0 : Nat → Nat} {V0 : Nat → Value} {T0 : Nat → Nat → Prop} {rin : List OB}
theorem aKF {o : Obj} {ys : List AV} {vs : List Value} (hS : ∀ b, S0 b → b < w.heap.size) (hG : ∀ g y, GT g = some y → RA S0 w (.ptr y) [.pointer (some ⟨g, 0, none⟩)]) (hrows : Rows S0 w (xE 0 rin) (fun _ => none) B0 V0 T0 (fun _ => True)) (hargs : RVs S0 w (xE 0 rin) B0 V0 ys vs) :
 (∀ b, S0 b → b < (w.alloc o).heap.size) ∧ (∀ g y, GT g = some y → RA S0 (w.alloc o) (.ptr y) [.pointer (some ⟨g, 0, none⟩)]) ∧ Rows S0 (w.alloc o) (xE 0 rin) (fun _ => none) B0 V0 T0 (fun _ => True) ∧ RVs S0 (w.alloc o) (xE 0 rin) B0 V0 ys vs := by
 have hb : Below w.heap.size w (w.alloc o) := (Below.refl _ _).alloc (Nat.le_refl _) _
 have hsame : ∀ b, S0 b → (w.alloc o).heap[b]? = w.heap[b]? := fun b hb' => hb.block b (hS b hb')
 exact ⟨fun b hb' => Nat.lt_of_lt_of_le (hS b hb') hb.size, fun g y e => RA.mono (fun _ h => h) hsame _ _ (hG g y e), aKb (D := fun _ => False) hrows (Grown.of hb _) (fun g hg => ⟨hS g hg, fun h => h⟩) (fun _ _ _ _ _ h => h), RVs.carry (fun _ h => h) hsame _ _ (fun l _ => Same.refl l) hargs⟩
theorem hb_lt {rin : List OB} (hrows : Rows S0 w (xE 0 rin) (fun _ => none) B0 V0 T0 (fun _ => True)) {g : Nat} (hg : HB (xE 0 rin) V0 T0 g) : g < w.heap.size := by
 obtain ⟨l, ob, ho, hb⟩ := hg
 exact (hrows.me l ob g ho hb).2.1
end
theorem aG3 {w w1 w2 : World} {M : Nat → Prop} (hb : Below w.heap.size w w1) (hg : Grown w1 w2 M) (v : Value) : Grown w ((w2.setCell ⟨w.heap.size, 0, none⟩ v)) M := by
 have hsz : (w2.setCell ⟨w.heap.size, 0, none⟩ v).heap.size = w2.heap.size := by simp [World.setCell]
 refine ⟨hg.os.trans hb.os, hg.tape.trans hb.tape, hg.output.trans hb.output, by rw [hsz]; exact Nat.le_trans hb.size hg.size, fun k hk hM => ?_⟩
 rw [← hb.block k hk, ← hg.block k (Nat.lt_of_lt_of_le hk hb.size) hM]
 have hne : ¬ w.heap.size = k := by omega
 simp [World.setCell, Array.getElem?_modify, hne]
theorem aPP {f : FuncId} {ys : List AV} {rin : List OB} (hac : ACP Tryz.prog f ys rin pvM) : ACL Tryz.prog 33 [.optr 0 0 [] 0, .fn f [] ys] rin (.bool false) := by
 refine ⟨aNp, fun w S0 B0 V0 T0 vs hS hG hrows hargs => ?_⟩
 unfold RVs at hargs
 obtain ⟨u, us, rfl, hu, hargs⟩ := hargs
 unfold RVs at hargs
 obtain ⟨u2, us2, rfl, hu2, hargs⟩ := hargs
 unfold RVs at hargs
 subst hargs
 unfold RV at hu2
 obtain ⟨q1, caps, rfl, hq1, hcaps⟩ := hu2
 unfold RVs at hq1
 subst hq1
 have hb : Below w.heap.size w (w.alloc (.cells #[.bool false] 4)) := (Below.refl _ _).alloc (Nat.le_refl _) _
 have hnew := heap_alloc_new w (.cells #[.bool false] 4)
 have hlt1 := (Array.getElem?_eq_some_iff.1 hnew).1
 obtain ⟨k1, k2, k3, k4⟩ := aKF (o := .cells #[.bool false] 4) hS hG hrows hcaps
 have hf := hac.2 _ S0 B0 V0 T0 caps k1 k2 k3 k4
 refine (aP8 f caps.toArray u w (fun w' => Grown (w.alloc (.cells #[.bool false] 4)) w' (HB (xE 0 rin) V0 T0)) (fun a w => hac.1 a w) (hf.mono fun e w' ⟨he, hg⟩ => ?_)).mono ?_
 · have hk : w'.heap[w.heap.size]? = some (.cells #[.bool false] 4 (0, 0)) := by
    rw [hg.block w.heap.size hlt1 (fun h => by have := hb_lt hrows h; omega)]; exact hnew
   exact ⟨he, ⟨by rw [Lib.cell_of_heap hk]; rfl, Lib.frozen_of_heap hk 0⟩, hg⟩
 · rintro e w' ⟨rfl, w2, hg, rfl⟩
   exact ⟨rfl, aG3 hb hg _⟩
theorem aHM {f : FuncId} {ys : List AV} {R R' : List OB} {t : ByteArray} {i j : Nat} (hac : ACG Tryz.prog f ys (rdP t i :: R) (rdP t j :: R') ⟨.tup [], []⟩) :
 ACG Tryz.prog 33 [.optr 0 0 [] 0, .fn f [] ys] (rdP t i :: R) (rdP t j :: R') ⟨.v (.bool ((j : Int) == (t.size : Int))), []⟩ := by
 refine ⟨aNp, fun w S0 B0 V0 T0 vs hS hG hrows hargs => ?_⟩
 unfold RVs at hargs
 obtain ⟨u, us, rfl, hu, hargs⟩ := hargs
 unfold RVs at hargs
 obtain ⟨u2, us2, rfl, hu2, hargs⟩ := hargs
 unfold RVs at hargs
 subst hargs
 unfold RV at hu hu2
 obtain ⟨ob0, ho0, rfl⟩ := hu
 obtain ⟨q1, caps, rfl, hq1, hcaps⟩ := hu2
 unfold RVs at hq1
 subst hq1
 have hb : Below w.heap.size w (w.alloc (.cells #[.bool false] 4)) := (Below.refl _ _).alloc (Nat.le_refl _) _
 have hnew := heap_alloc_new w (.cells #[.bool false] 4)
 have hlt1 := (Array.getElem?_eq_some_iff.1 hnew).1
 have hs1 : (w.alloc (.cells #[.bool false] 4)).heap.size = w.heap.size + 1 := by simp
 obtain ⟨k1, k2, k3, k4⟩ := aKF (o := .cells #[.bool false] 4) hS hG hrows hcaps
 have hf := hac.2 _ S0 B0 V0 T0 caps k1 k2 k3 k4
 have hnk : ¬ HB (xE 0 (rdP t i :: R)) V0 T0 w.heap.size := fun h => by have := hb_lt hrows h; omega
 simp only [Nat.zero_mul, Nat.add_zero]
 refine (aP9 f caps.toArray (B0 0) w (fun w' => ∃ S T1, Grown (w.alloc (.cells #[.bool false] 4)) w' (HB (xE 0 (rdP t i :: R)) V0 T0) ∧ (∀ b, S0 b → S b) ∧ (∀ b, S b → b < w'.heap.size ∧ (S0 b ∨ (w.alloc (.cells #[.bool false] 4)).heap.size ≤ b ∨ HB (xE 0 (rdP t i :: R)) V0 T0 b)) ∧ Rows S w' (xE 0 (rdP t j :: R')) (fun _ => none) B0 V0 T1 (fun g => (w.alloc (.cells #[.bool false] 4)).heap.size ≤ g ∨ HB (xE 0 (rdP t i :: R)) V0 T0 g)) t j (fun a w => hac.1 a w) (hf.mono fun e w' h => ?_)).mono ?_
 · obtain ⟨v, S, B, V, T, T1, rfl, hg, h1, h2, hv, _, h3, _⟩ := h
   unfold RV RVs at hv
   obtain ⟨us, rfl, rfl⟩ := hv
   have hk : w'.heap[w.heap.size]? = some (.cells #[.bool false] 4 (0, 0)) := by
    rw [hg.block w.heap.size hlt1 hnk]; exact hnew
   exact ⟨rfl, ⟨⟨by rw [Lib.cell_of_heap hk]; rfl, Lib.frozen_of_heap hk 0⟩, aOa (h3.ro 0 _ rfl)⟩, S, T1, hg, h1, h2, h3⟩
 · rintro e w' ⟨rfl, w2, ⟨S, T1, hg, h1, h2, h3⟩, rfl⟩
   have hgw := aG3 hb hg (.bool ((j : Int) == (t.size : Int)))
   have hnS : ¬ S w.heap.size := fun h => by
    rcases (h2 _ h).2 with q | q | q
    · have := hS _ q; omega
    · omega
    · exact hnk q
   have hg2 : Grown w2 (w2.setCell ⟨w.heap.size, 0, none⟩ (.bool ((j : Int) == (t.size : Int)))).drew (fun g => g = w.heap.size) := by
    have hsz : (w2.setCell ⟨w.heap.size, 0, none⟩ (.bool ((j : Int) == (t.size : Int)))).heap.size = w2.heap.size := by simp [World.setCell]
    refine ⟨rfl, rfl, rfl, Nat.le_of_eq hsz.symm, fun k hk hM => ?_⟩
    have hne : ¬ w.heap.size = k := fun e => hM e.symm
    show (w2.setCell ⟨w.heap.size, 0, none⟩ (.bool ((j : Int) == (t.size : Int)))).heap[k]? = _
    simp [World.setCell, Array.getElem?_modify, hne]
   have hrw := aKb (D := fun g => g = w.heap.size) h3 hg2 (fun g hg' => ⟨(h2 g hg').1, fun e => hnS (e ▸ hg')⟩) (fun l ob g ho hb' e => by
    have hlo := (h3.me l ob g ho hb').2.2
    rw [e] at hlo
    rcases hlo with q | q
    · omega
    · exact hnk q)
   have hgd : Grown w (w2.setCell ⟨w.heap.size, 0, none⟩ (.bool ((j : Int) == (t.size : Int)))).drew (HB (xE 0 (rdP t i :: R)) V0 T0) := ⟨hgw.os, hgw.tape, hgw.output, hgw.size, hgw.block⟩
   refine ⟨_, S, fun _ => 0, fun _ => undef, fun _ => Fa, T1, rfl, hgd, h1, fun b hb' => ?_, (by unfold RV; exact ⟨rfl, rfl⟩), wK j4, ⟨hrw.ro, fun l ob g ho hb' => ?_, hrw.nd, hrw.ds, fun l es e => (by cases e)⟩, fun l l' ob ob' g e => by rw [j4] at e; cases e⟩
   · have h := h2 b hb'
     refine ⟨Nat.lt_of_lt_of_le h.1 hg2.size, ?_⟩
     rcases h.2 with q | q | q
     · exact .inl q
     · exact .inr (.inl (by omega))
     · exact .inr (.inr q)
   · obtain ⟨a, b, c⟩ := hrw.me l ob g ho hb'
     exact ⟨a, b, c.imp (fun q => by omega) id⟩
attribute [local irreducible] xI xO xQ xX yG Pre ACG
noncomputable def qU (t : ByteArray) : Bas × Int := if 65536 < t.size then (⟨[], []⟩, 2) else (if dK t = 0 then dB t else ⟨[], []⟩, dK t)
theorem aJX {t : ByteArray} (ht : t.size ≤ maxLen) : AC Tryz.prog 21 [.v (.string t)] ⟨.tup [yA (qU t).1, .v (.int .i64 (qU t).2)], []⟩ := by
 unfold maxLen at ht
 unfold qU
 by_cases h : 65536 < t.size
 · rw [if_pos h]
   refine qrf Tryz.func21 Tryz.ntmps21 Tryz.results21 ?_; conv => whnf
   repeat ((first | refine qz ?_ | refine qst ?_); conv => whnf)
   exact vI rfl rfl rfl rfl trivial rfl
 · rw [if_neg h]
   have c1 := aMT (t := t) (by omega)
   generalize (if dK t = 0 then dB t else ⟨[], []⟩) = b at c1 ⊢
   generalize dK t = k at c1 ⊢
   refine qrf Tryz.func21 Tryz.ntmps21 Tryz.results21 ?_; conv => whnf
   repeat ((first | refine qz ?_ | refine qc (c1) ?_ | refine qst ?_); conv => whnf)
   exact vI rfl rfl rfl rfl trivial rfl
theorem aIT {c : Cmt} (h : c.1.length = 0) : u6 0 c = jN c := by
 have hc : c.1 = [] := List.eq_nil_of_length_eq_zero h
 have hp : jq 0 c.1 = true := by unfold jq; simp only [decide_eq_true_eq]; exact ⟨by omega, by simp [h], fun i hi => by omega⟩
 unfold u6 jN
 rw [hp, hc]
 rfl
theorem aIS {c : Cmt} (h : ¬ c.1.length = 0) : u6 60 c = jN c := by
 unfold u6 jN
 congr 1
 obtain ⟨ps, m⟩ := c
 dsimp only at h ⊢
 unfold jq
 match ps, h with
 | [p], _ =>
  have e : aA7 ((([p] : List Int)[0]?).getD 0) 0 [p] = decide (1 ≤ p ∧ p ≤ 60) := by simp [aA7, aFc]
  rw [e]
  rw [show decide (([p] : List Int).length ≤ 2) = true from rfl, Bool.true_and, decide_eq_decide]
  constructor
  · rintro ⟨_, _, h3⟩
    obtain ⟨_, g1, g2, _⟩ := h3 0 (by simp)
    exact ⟨by simpa using g1, by simpa using g2⟩
  · rintro ⟨h1, h2⟩
    refine ⟨by simp, by simp, fun i hi => ?_⟩
    have : i = 0 := by simp at hi; exact hi
    subst this
    exact ⟨by simp, by simpa using h1, by simpa using h2, by simp⟩
 | [p, q], _ =>
  have e : aA7 ((([p, q] : List Int)[0]?).getD 0) 0 [p, q] = decide ((1 ≤ p ∧ p ≤ 60) ∧ (1 ≤ q ∧ q ≤ 60) ∧ ¬ q = p) := by
   simp [aA7, aFc, Bool.decide_and]
  rw [e]
  rw [show decide (([p, q] : List Int).length ≤ 2) = true from rfl, Bool.true_and, decide_eq_decide]
  constructor
  · rintro ⟨_, _, h3⟩
    obtain ⟨_, g1, g2, _⟩ := h3 0 (by simp)
    obtain ⟨_, k1, k2, k3⟩ := h3 1 (by simp)
    exact ⟨⟨by simpa using g1, by simpa using g2⟩, ⟨by simpa using k1, by simpa using k2⟩, by simpa using k3⟩
  · rintro ⟨⟨h1, h2⟩, ⟨h3, h4⟩, h5⟩
    refine ⟨by simp, by simp, fun i hi => ?_⟩
    have : i = 0 ∨ i = 1 := by simp at hi; omega
    rcases this with rfl | rfl
    · exact ⟨by simp, by simpa using h1, by simpa using h2, by simp⟩
    · exact ⟨by simp, by simpa using h3, by simpa using h4, by simpa using h5⟩
 | p :: q :: r :: l, _ =>
  have h1 : decide ((p :: q :: r :: l).length ≤ 2) = false := by simp
  rw [h1, Bool.false_and, decide_eq_false_iff_not]
  rintro ⟨h2, _⟩
  simp at h2
theorem aDq {c : Cmt} (hm : c.1.length ≤ maxLen) (hn : c.2.length ≤ maxLen) (hk : ∀ e ∈ c.2, e.1.size ≤ maxLen) : AC Tryz.prog 29 [xS c] ⟨.v (.bool (jN c)), []⟩ := by
 by_cases h0 : c.1.length = 0
 · have c1 := aC1 (n := 0) (by omega) hm hn hk
   rw [aIT h0] at c1
   generalize jN c = q at c1 ⊢
   refine qrf Tryz.func29 Tryz.ntmps29 Tryz.results29 ?_; conv => whnf
   repeat ((first | refine qz ?_ | refine qc (c1) ?_); conv => whnf)
   exact xD rfl trivial
 · have c1 := aC1 (n := 60) (by omega) hm hn hk
   rw [aIS h0] at c1
   generalize jN c = q at c1 ⊢
   unfold maxLen at hm
   refine qrf Tryz.func29 Tryz.ntmps29 Tryz.results29 ?_; conv => whnf
   repeat ((first | refine qz ?_ | refine qc (c1) ?_); conv => whnf)
   exact xD rfl trivial
end Go.Proofs.YtfomjajdfaoogaaGreatDoor.AM
namespace Go.Proofs.YtfomjajdfaoogaaGreatDoor.AM
open Go Go.RowKit
abbrev rV (X : AV) : OB := ⟨.o (some 67) 0 (.optr 0 0 [] 0), 1, [X]⟩
abbrev zCm : OB := ⟨.z 33, 2, [.agg [.lst 1 [], .lst 2 []]]⟩
abbrev dCm (c : Cmt) : OB := ⟨.d 33, 2, [xS c]⟩
theorem aRd {s : St} {Θ : Tab} {o1 o2 o3 : OB} (h0 : s.hp 0 = some o1) (h1 : s.hp 1000000 = some o2) (h2 : s.hp 2000000 = some o3) : xX Θ [] [o1, o2, o3] ⟨.tup [], []⟩ .normal s := ⟨⟨h0, h1, h2, trivial⟩, [], by simp, trivial, trivial, ⟨_, rfl⟩, trivial⟩
attribute [local irreducible] xI xO xQ xX yG Pre ACG
attribute [local irreducible] yt kQ vC ACP wo aDH ACL
theorem aSK {t : ByteArray} {X : AV} (ht : t.size ≤ 65536) (h : (rdM t (0, false)).2.2 = false) : ACG Tryz.prog 34 [.optr 1000000 0 [] 0, .optr 2000000 0 [] 0] [rdP t 0, rV X, zCm] [rdP t (rdM t (0, false)).2.1, rV X, dCm (rdM t (0, false)).1] ⟨.tup [], []⟩ := by
 have c1 := aMV (i := 0) ht (Nat.zero_le _) h
 generalize rdM t (0, false) = R at c1 ⊢
 obtain ⟨c, j, bad⟩ := R
 dsimp only at c1 ⊢
 refine xL (rs := []) xH (by kernel_rfl) Tryz.func34 rfl Tryz.ntmps34 (by rw [Tryz.results34]) (by kernel_rfl) (by simp) rfl rfl (xA _ _ _ ?_)
 conv => whnf
 repeat ((first | refine qz ?_ | refine qgV [0] (c1) ?_); conv => whnf)
 refine jv (yJ rfl rfl rfl rfl rfl rfl) rfl rfl (fun e => by cases e) (Gh.s2d 4 rfl aEj (Gh.s2d 1004 rfl aCs (Gh.fold 2000000 4 [0] rfl rfl rfl rfl rfl rfl (Gh.fold 2000000 1004 [1] rfl rfl rfl rfl rfl rfl (Gh.shut 2000000 (z := .agg [.lst 1 [], .lst 2 []]) (y' := xS c) rfl rfl (Gh.done ?_))))))
 conv => whnf
 exact aRd rfl rfl rfl
def aTc (ops : Array Oper) : Bool := ops.toList.any fun o => match o.op with | .makeFunc _ _ _ => true | _ => false
set_option maxHeartbeats 2000000 in
theorem aNQ {t : ByteArray} (h0 : ¬ 65536 < t.size) (h : aM5 t = true) : AC Tryz.prog 11 [.v (.string t)] ⟨.tup [.mix [.own 0, .own 1], .v (.int .i64 0)], [⟨.u, 1, (rdM t (0, false)).1.1.map yo⟩, ⟨.u, 2, (rdM t (0, false)).1.2.map yB⟩]⟩ := by
 have ht2 : t.size ≤ 65536 := by omega
 have hok : zL t (0, false) := ⟨by omega, Nat.zero_le _⟩
 have r1 := fun (X : AV) h => aHM (aSK (X := X) ht2 h)
 obtain ⟨m1, m2, m3, m4⟩ := aEU hok
 unfold aM5 at h
 generalize rdM t (0, false) = R at r1 m1 m2 m3 m4 h
 obtain ⟨c, a, bad⟩ := R
 dsimp only at r1 m1 m2 m3 m4 h ⊢
 have c2 := aDq (c := c) (by unfold maxLen; omega) (by unfold maxLen; omega) (fun e he => by have := m4 e he; unfold maxLen; omega)
 cases bad
 case true => simp at h
 have r1 := fun X => r1 X rfl
 simp only [Bool.not_false, Bool.true_and, Bool.and_eq_true, decide_eq_true_eq] at h
 obtain ⟨hsz, hl⟩ := h
 have hb : ((a : Int) == (t.size : Int)) = true := by simp [hsz]
 rw [hb] at r1
 rw [hl] at c2
 refine xL (rs := [.cell 2 33, .tmp 3]) xH (by kernel_rfl) Tryz.func11 rfl Tryz.ntmps11 (by rw [Tryz.results11]) (by kernel_rfl) (by simp) rfl rfl (xA _ _ _ ?_)
 conv => whnf
 repeat ((first | refine qz ?_ | refine qst ?_ | refine qr (qh rfl rfl rfl rfl) ?_ | refine jv (wO [13, 6, 5] (r1 _) rfl rfl (by first | exact ⟨rfl, trivial⟩ | exact ⟨rfl, rfl, trivial⟩ | exact ⟨rfl, rfl, rfl, trivial⟩) rfl rfl (by first | exact trivial | exact ⟨⟨rfl, rfl, rfl⟩, trivial⟩ | exact ⟨⟨rfl, rfl, rfl⟩, ⟨rfl, rfl, rfl⟩, trivial⟩ | exact ⟨⟨rfl, rfl, rfl⟩, ⟨rfl, rfl, rfl⟩, ⟨rfl, rfl, rfl⟩, trivial⟩) rfl rfl rfl (.inl rfl) rfl) rfl rfl (fun e => by cases e) (Gh.unfold 5 0 100 [0] rfl rfl rfl rfl rfl (Gh.unfold 5 0 101 [1] rfl rfl rfl rfl rfl (Gh.done ?_))) | refine qc (c2) ?_ | refine qr (yJ rfl rfl rfl rfl rfl rfl) ?_); conv => whnf)
 exact aO8 rfl rfl rfl rfl rfl rfl rfl rfl rfl
end Go.Proofs.YtfomjajdfaoogaaGreatDoor.AM
namespace Go.Proofs.YtfomjajdfaoogaaGreatDoor.AM
open Go Go.RowKit
theorem aLe {l : List Rf} : ∀ x ∈ l.map yL, zm x = true := fun x hx => by obtain ⟨_, _, rfl⟩ := List.mem_map.1 hx; rfl
theorem aRe {s : St} {Θ : Tab} {o1 o2 o3 o4 o5 : OB} (h0 : s.hp 0 = some o1) (h1 : s.hp 1000000 = some o2) (h2 : s.hp 2000000 = some o3) (h3 : s.hp 3000000 = some o4) (h4 : s.hp 4000000 = some o5) : xX Θ [] [o1, o2, o3, o4, o5] ⟨.tup [], []⟩ .normal s := ⟨⟨h0, h1, h2, h3, h4, trivial⟩, [], by simp, trivial, trivial, ⟨_, rfl⟩, trivial⟩
attribute [local irreducible] xI xO xQ xX yG Pre ACG
attribute [local irreducible] yt kQ vC ACP wo aDH ACL
theorem aF9 {t : ByteArray} (h : zo t = true) : 3 ≤ t.size := by
 unfold zo at h
 simp only [Bool.and_eq_true, decide_eq_true_eq] at h
 exact h.1
theorem aM4 {t : ByteArray} (h : (dC t).2.2 = false) : rdL (rdM t) (rdC t 60 (3, false)).1 (rdC t 60 (3, false)).2 = dC t := aKX.1 h
theorem aTq {t : ByteArray} (h : (dC t).2.2 = true) : (rdL (rdM t) (rdC t 60 (3, false)).1 (rdC t 60 (3, false)).2).2.2 = true := aKX.2 h
theorem aSc {t : ByteArray} (h : (dR t).2.2 = false) : rdL (zM t) (rdC t 8 (dC t).2).1 (rdC t 8 (dC t).2).2 = dR t := aK5.1 h
theorem aTr {t : ByteArray} (h : (dR t).2.2 = true) : (rdL (zM t) (rdC t 8 (dC t).2).1 (rdC t 8 (dC t).2).2).2.2 = true := aK5.2 h
theorem aNg {t : ByteArray} (h : (dC t).2.2 = true) : (dR t).2.2 = true := aDa (aB1 h)
theorem aEC {t : ByteArray} (ht : t.size ≤ 65536) (h3 : 3 ≤ t.size) : zL t (dC t).2 := (aEt (zY (m := 60) (t := t) (s := (3, false)) ⟨by omega, h3⟩).1).1
theorem aGR {t : ByteArray} (ht : t.size ≤ 65536) (h3 : 3 ≤ t.size) : zL t (dR t).2 := (aEv (zY (m := 8) (aEC ht h3)).1).1
theorem aQK {t : ByteArray} {i : Nat} (ht : t.size ≤ 65536) (hh : zo t = true) (h : (dR t).2.2 = false) : ACG Tryz.prog 49 [.optr 0 0 [] 0] [rdP t i] [rdP t (dR t).2.1] ⟨.mix [.own 0, .own 1], [⟨.d 33, 2, (dC t).1.map xS⟩, ⟨86, 4, (dR t).1.map yL⟩]⟩ := by
 have h3 := aF9 hh
 have c0 := aLK (t := t) (i := i) ht hh
 have hok := aEC ht h3
 have hd : (dC t).2.2 = false := by
  cases hc : (dC t).2.2 with
  | false => rfl
  | true => rw [aNg hc] at h; cases h
 have c1 := aNV (m := 60) (t := t) (i := 3) ht h3 (by omega) (by rw [aM4 hd]; exact hd)
 rw [aM4 hd] at c1
 have hp : (dC t).2 = ((dC t).2.1, false) := by rw [← hd]
 have c2 := aSU (m := 8) (t := t) (i := (dC t).2.1) ht hok.2 (by omega) (by rw [← hp, aSc h]; exact h)
 rw [← hp, aSc h] at c2
 generalize dR t = R at c2 ⊢
 generalize dC t = R2 at c1 c2 ⊢
 obtain ⟨rl, b, bad⟩ := R
 obtain ⟨cl, a, bad2⟩ := R2
 dsimp only at c1 c2 ⊢
 refine xL (rs := [.cell 2 41]) xH (by kernel_rfl) Tryz.func49 rfl Tryz.ntmps49 (by rw [Tryz.results49]) (by kernel_rfl) (by simp) rfl rfl (xA _ _ _ ?_)
 conv => whnf
 repeat ((first | refine qz ?_ | refine qgV [0] (c0) ?_ | refine qgV [0] (c1) ?_ | refine qgV [0] (c2) ?_ | refine qr (uo rfl ⟨⟨_, _, rfl, rfl, rfl⟩, ⟨_, _, rfl, rfl, rfl⟩, trivial⟩ rfl) ?_ | refine qr (yJ rfl rfl rfl rfl rfl rfl) ?_); conv => whnf)
 exact aKT rfl rfl rfl rfl rfl rfl rfl rfl rfl
theorem aSW {t : ByteArray} {i : Nat} (ht : t.size ≤ 65536) (h : zo t = false ∨ (dR t).2.2 = true) : ACP Tryz.prog 49 [.optr 0 0 [] 0] [rdP t i] pvM := by
 refine kE xH (by kernel_rfl) Tryz.func49 rfl Tryz.ntmps49 (by kernel_rfl) (by simp) ?_
 refine yE ?_
 conv => whnf
 cases hh : zo t
 case false =>
  have d0 := aPQ (t := t) (i := i) ht hh
  refine yw (uI ?_)
  conv => whnf
  exact zT (zx [0] d0 rfl rfl (by first | exact ⟨rfl, trivial⟩ | exact ⟨rfl, rfl, trivial⟩ | exact ⟨rfl, rfl, rfl, trivial⟩) rfl rfl rfl rfl rfl rfl) rfl rfl
 have h3 := aF9 hh
 have c0 := aLK (t := t) (i := i) ht hh
 have hok := aEC ht h3
 have h : (dR t).2.2 = true := by rcases h with h | h; exact absurd h (by rw [hh]; simp); exact h
 refine yE ?_
 conv => whnf
 repeat ((first | refine qz ?_ | refine qgV [0] (c0) ?_); conv => whnf)
 cases hd : (dC t).2.2
 case true =>
  have d1 := aQm (m := 60) (t := t) (i := 3) ht h3 (by omega) (aTq hd)
  refine yw (uI ?_)
  conv => whnf
  exact zT (zx [0] d1 rfl rfl (by first | exact ⟨rfl, trivial⟩ | exact ⟨rfl, rfl, trivial⟩ | exact ⟨rfl, rfl, rfl, trivial⟩) rfl rfl rfl rfl rfl rfl) rfl rfl
 have c1 := aNV (m := 60) (t := t) (i := 3) ht h3 (by omega) (by rw [aM4 hd]; exact hd)
 rw [aM4 hd] at c1
 have hp : (dC t).2 = ((dC t).2.1, false) := by rw [← hd]
 have d2 := aQp (m := 8) (t := t) (i := (dC t).2.1) ht hok.2 (by omega) (by rw [← hp]; exact aTr h)
 refine yE ?_
 conv => whnf
 repeat ((first | refine qz ?_ | refine qgV [0] (c1) ?_); conv => whnf)
 refine yw (uI ?_)
 conv => whnf
 exact zT (zx [0] d2 rfl rfl (by first | exact ⟨rfl, trivial⟩ | exact ⟨rfl, rfl, trivial⟩ | exact ⟨rfl, rfl, rfl, trivial⟩) rfl rfl rfl rfl rfl rfl) rfl rfl
theorem aNO {t : ByteArray} {X : AV} (ht : t.size ≤ 65536) (hh : zo t = true) (h : (dS t).2.2 = false) : ACG Tryz.prog 48 [.optr 1000000 0 [] 0, .optr 2000000 0 [] 0, .optr 3000000 0 [] 0, .optr 4000000 0 [] 0] [rdP t 0, rV X, ⟨.z 41, 2, [.agg [.lst 2 [], .lst 4 []]]⟩, ⟨3, 1, [.v (.int .i64 0)]⟩, ⟨3, 1, [.v (.int .i64 0)]⟩] [rdP t (dS t).2.1, rV X, ⟨.d 41, 2, [yA (dB t)]⟩, ⟨3, 1, [.v (.int .i64 ((dR t).2.1 : Int))]⟩, ⟨3, 1, [.v (.int .i64 ((dS t).1 : Int))]⟩] ⟨.tup [], []⟩ := by
 have h3 := aF9 hh
 have hok := aGR ht h3
 have hd : (dR t).2.2 = false := by
  cases hc : (dR t).2.2 with
  | false => rfl
  | true => rw [show (dS t).2.2 = true from kD hc] at h; cases h
 have c1 := aQK (t := t) (i := 0) ht hh hd
 have hp : (dR t).2 = ((dR t).2.1, false) := by rw [← hd]
 have c2 := aE5 (t := t) (i := (dR t).2.1) ht hok.2 (by rw [← hp]; exact h)
 rw [← hp, show rdN t (dR t).2 = dS t from rfl] at c2
 have hN := uw hok
 rw [show rdN t (dR t).2 = dS t from rfl] at hN
 unfold dB
 generalize dS t = S at c2 hN ⊢
 have hr := hok.2
 generalize dR t = R at c1 c2 hr ⊢
 generalize dC t = R2 at c1 ⊢
 obtain ⟨n, e, bad3⟩ := S
 obtain ⟨rl, b, bad⟩ := R
 obtain ⟨cl, a, bad2⟩ := R2
 dsimp only at c1 c2 hr hN ⊢
 refine xL (rs := []) xH (by kernel_rfl) Tryz.func48 rfl Tryz.ntmps48 (by rw [Tryz.results48]) (by kernel_rfl) (by simp) rfl rfl (xA _ _ _ ?_)
 conv => whnf
 repeat ((first | refine qz ?_ | refine qgV [0] (c1) ?_ | refine qgV [0] (c2) ?_ | refine qst ?_); conv => whnf)
 refine jv (yJ rfl rfl rfl rfl rfl rfl) rfl rfl (fun e => by cases e) (Gh.s2d 1006 rfl aLe (Gh.fold 2000000 6 [0] rfl rfl rfl rfl rfl rfl (Gh.fold 2000000 1006 [1] rfl rfl rfl rfl rfl rfl (Gh.shut 2000000 (z := .agg [.lst 2 [], .lst 4 []]) (y' := yA ⟨cl, rl⟩) rfl rfl (Gh.done ?_)))))
 conv => whnf
 repeat ((first | refine qz ?_ | refine qgV [0] (c2) ?_ | refine qst ?_); conv => whnf)
 exact aRe rfl rfl rfl rfl rfl
theorem aQk {t : ByteArray} {X : AV} (ht : t.size ≤ 65536) (h : zo t = false ∨ (dS t).2.2 = true) : ACP Tryz.prog 48 [.optr 1000000 0 [] 0, .optr 2000000 0 [] 0, .optr 3000000 0 [] 0, .optr 4000000 0 [] 0] [rdP t 0, rV X, ⟨.z 41, 2, [.agg [.lst 2 [], .lst 4 []]]⟩, ⟨3, 1, [.v (.int .i64 0)]⟩, ⟨3, 1, [.v (.int .i64 0)]⟩] pvM := by
 refine kE xH (by kernel_rfl) Tryz.func48 rfl Tryz.ntmps48 (by kernel_rfl) (by simp) ?_
 by_cases hb : zo t = false ∨ (dR t).2.2 = true
 · have d1 := aSW (t := t) (i := 0) ht hb
   refine yw (uI ?_)
   conv => whnf
   exact zT (zx [0] d1 rfl rfl (by first | exact ⟨rfl, trivial⟩ | exact ⟨rfl, rfl, trivial⟩ | exact ⟨rfl, rfl, rfl, trivial⟩) rfl rfl rfl rfl rfl rfl) rfl rfl
 have hh : zo t = true := by
  cases e : zo t with
  | true => rfl
  | false => exact absurd (.inl e) hb
 have hd : (dR t).2.2 = false := by
  cases e : (dR t).2.2 with
  | false => rfl
  | true => exact absurd (.inr e) hb
 have hs : (dS t).2.2 = true := by rcases h with h | h; exact absurd (.inl h) hb; exact h
 have h3 := aF9 hh
 have hok := aGR ht h3
 have c1 := aQK (t := t) (i := 0) ht hh hd
 have hp : (dR t).2 = ((dR t).2.1, false) := by rw [← hd]
 have d2 := aDw (t := t) (i := (dR t).2.1) ht hok.2 (by rw [← hp]; exact hs)
 have hr := hok.2
 generalize dR t = R at c1 d2 hr
 generalize dC t = R2 at c1
 obtain ⟨rl, b, bad⟩ := R
 obtain ⟨cl, a, bad2⟩ := R2
 dsimp only at c1 d2 hr
 refine yE ?_
 conv => whnf
 repeat ((first | refine qz ?_ | refine qgV [0] (c1) ?_); conv => whnf)
 refine jv (yJ rfl rfl rfl rfl rfl rfl) rfl rfl (fun e => by cases e) (Gh.s2d 1006 rfl aLe (Gh.fold 2000000 6 [0] rfl rfl rfl rfl rfl rfl (Gh.fold 2000000 1006 [1] rfl rfl rfl rfl rfl rfl (Gh.shut 2000000 (z := .agg [.lst 2 [], .lst 4 []]) (y' := yA ⟨cl, rl⟩) rfl rfl (Gh.done ?_)))))
 conv => whnf
 refine yE ?_
 conv => whnf
 repeat ((first | refine qz ?_ | refine qst ?_); conv => whnf)
 refine uI ?_
 conv => whnf
 exact zT (zx [0] d2 rfl rfl (by first | exact ⟨rfl, trivial⟩ | exact ⟨rfl, rfl, trivial⟩ | exact ⟨rfl, rfl, rfl, trivial⟩) rfl rfl rfl rfl rfl rfl) rfl rfl
end Go.Proofs.YtfomjajdfaoogaaGreatDoor.AM
namespace Go.Proofs.YtfomjajdfaoogaaGreatDoor.AM
open Go Go.RowKit
attribute [local irreducible] xI xO xQ xX yG Pre ACG
set_option maxHeartbeats 2000000 in
theorem aE3 {t : ByteArray} (ht : t.size ≤ maxLen) : AC Tryz.prog 45 [.v (.string t)] ⟨.v (.int .i64 (uV t)), []⟩ := by
 unfold maxLen at ht
 refine qrf Tryz.func45 Tryz.ntmps45 Tryz.results45 ?_; conv => whnf
 repeat ((refine qz ?_; conv => whnf))
 refine xZ (ι := { i : Nat // i ≤ t.size }) (fun i => ⟨[(0, .v (.string t)), (3, .v (.int .i64 (aCL (t.data.toList.take i.1)))), (6, .v (.int .i64 (t.size : Int))), (7, .v (.int .i64 (i.1 : Int)))], []⟩) (fun i => t.size - i.1) ⟨0, Nat.zero_le _⟩ (by exact qle) ?_
 rintro ⟨i, hi⟩
 dsimp only
 conv => whnf
 by_cases hlt : i < t.size
 · have hs := aIb hlt
   have hb := aAn (t.data.toList.take i)
   have h8 := (t[i]).toNat_lt
   generalize aCL (t.data.toList.take i) = m at hs hb ⊢
   repeat ((first | refine qp (xC (uh (c := m * 31) (by omega) (by omega) (by omega)) rfl rfl rfl) ?_ | refine qz ?_ | refine qp (kC (xH 9) rfl rfl hlt) ?_ | refine qp (aCY rfl h8) ?_ | refine qp (xC (vE (by omega) (by omega) hs.symm) rfl rfl rfl) ?_); conv => whnf)
   exact ⟨⟨i + 1, hlt⟩, by exact qle, by simp; omega⟩
 · have e : i = t.size := by omega
   subst e
   have hall : t.data.toList.take t.size = t.data.toList := List.take_of_length_le (by rw [Array.length_toList]; exact Nat.le_refl _)
   repeat ((refine qz ?_; conv => whnf))
   rw [hall]
   exact xD rfl trivial
theorem aNR {t : ByteArray} (ht : t.size ≤ maxLen) : AC Tryz.prog 18 [.v (.string t)] ⟨.tup [.v (.int .i64 (aEZ t).1), .v (.int .i64 (aEZ t).2)], []⟩ := by
 have c1 := aE3 ht
 unfold maxLen at ht
 unfold aEZ
 by_cases h : 65536 < t.size
 · rw [if_pos h]
   refine qrf Tryz.func18 Tryz.ntmps18 Tryz.results18 ?_; conv => whnf
   repeat ((refine qz ?_; conv => whnf))
   exact zR rfl rfl
 · rw [if_neg h]
   refine qrf Tryz.func18 Tryz.ntmps18 Tryz.results18 ?_; conv => whnf
   repeat ((first | refine qz ?_ | refine qc (c1) ?_); conv => whnf)
   exact zR rfl rfl
attribute [local irreducible] yt kQ vC ACP wo aDH ACL
theorem aJ9 {t : ByteArray} (h : zo t = false ∨ (dS t).2.2 = true) : dK t = 3 := by
 unfold dK
 rcases h with h | h
 · rw [if_pos h]
 · split
   · rfl
   · rw [if_pos (.inl h)]
theorem aGQ {t : ByteArray} (hh : zo t = true) (h : (dS t).2.2 = false) : dK t = if (dS t).2.1 ≠ t.size then 3 else if ((dS t).1 : Int) ≠ uV (t.extract 0 (dR t).2.1) then 13 else if uL (dB t) = true then 0 else 1 := by
 unfold dK
 rw [if_neg (by simp [hh])]
 by_cases he : (dS t).2.1 ≠ t.size
 · rw [if_pos (.inr he), if_pos he]
 · rw [if_neg (fun h2 => h2.elim (fun h2 => by rw [h] at h2; cases h2) he), if_neg he]
theorem aQU {t : ByteArray} (ht : t.size ≤ 65536) (h3 : 3 ≤ t.size) : (dB t).ok maxLen := by
 obtain ⟨a1, a2, a3⟩ := aEt (zY (m := 60) (t := t) (s := (3, false)) ⟨by omega, h3⟩).1 (n := (rdC t 60 (3, false)).1)
 have a4 := (zY (m := 60) (t := t) (s := (3, false)) ⟨by omega, h3⟩).2
 obtain ⟨b1, b2, b3⟩ := aEv (zY (m := 8) (aEC ht h3)).1 (n := (rdC t 8 (dC t).2).1)
 have b4 := (zY (m := 8) (aEC ht h3)).2
 have e1 : (dB t).store.length ≤ 60 := Nat.le_trans a2 a4
 have e2 : (dB t).refs.length ≤ 8 := Nat.le_trans b2 b4
 exact ⟨by unfold maxLen; omega, a3, by unfold maxLen; omega, b3⟩
set_option maxHeartbeats 2000000 in
theorem aDI {t : ByteArray} (ht : t.size ≤ maxLen) (h : (qU t).2 ≠ 0) : AC Tryz.prog 17 [.v (.string t)] ⟨.tup [yA ⟨[], []⟩, .v (.int .i64 (qU t).2)], []⟩ := by
 unfold maxLen at ht
 unfold qU at h ⊢
 by_cases h0 : 65536 < t.size
 · rw [if_pos h0]
   refine xL (rs := [.cell 2 41, .tmp 3]) xH (by kernel_rfl) Tryz.func17 rfl Tryz.ntmps17 (by rw [Tryz.results17]) (by kernel_rfl) (by simp) rfl rfl (xA _ _ _ ?_)
   conv => whnf
   repeat ((first | refine qz ?_ | refine qst ?_); conv => whnf)
   exact vI rfl rfl rfl rfl trivial rfl
 rw [if_neg h0] at h ⊢
 dsimp only at h ⊢
 have ht2 : t.size ≤ 65536 := by omega
 by_cases hdie : zo t = false ∨ (dS t).2.2 = true
 · rw [aJ9 hdie]
   have d1 := fun (X : AV) => aPP (aQk (X := X) ht2 hdie)
   refine xL (rs := [.cell 2 41, .tmp 3]) xH (by kernel_rfl) Tryz.func17 rfl Tryz.ntmps17 (by rw [Tryz.results17]) (by kernel_rfl) (by simp) rfl rfl (aAU (stop := aTc) _ _ _ ?_)
   conv => whnf
   repeat ((first | refine qz ?_ | refine qst ?_ | refine qr (qh rfl rfl rfl rfl) ?_); conv => whnf)
   refine aAf (kL xH _ _ ?_)
   conv => whnf
   refine aRT [16, 8, 5, 6, 7] (d1 _) rfl rfl rfl ⟨rfl, rfl, rfl, rfl, rfl, trivial⟩ rfl rfl rfl rfl rfl rfl rfl rfl (kL xH _ _ ?_)
   conv => whnf
   repeat ((first | refine qz ?_ | refine qst ?_); conv => whnf)
   exact vI rfl rfl rfl rfl trivial rfl
 have hh : zo t = true := by
  cases e : zo t with
  | true => rfl
  | false => exact absurd (.inl e) hdie
 have hs : (dS t).2.2 = false := by
  cases e : (dS t).2.2 with
  | false => rfl
  | true => exact absurd (.inr e) hdie
 have h3 := aF9 hh
 have hok := aGR ht2 h3
 have hN := uw hok
 rw [show rdN t (dR t).2 = dS t from rfl] at hN
 have r1 := fun (X : AV) => aHM (aNO (X := X) ht2 hh hs)
 have b1 := qo (aQU ht2 h3)
 rw [aGQ hh hs] at h ⊢
 have hr := hok.2
 have s1 := aE3 (t := t.extract 0 (dR t).2.1) (by simp [ByteArray.size_extract]; unfold maxLen; omega)
 generalize dB t = B at r1 b1 h ⊢
 generalize dR t = R at r1 hr h s1 ⊢
 generalize dS t = S at r1 hN h ⊢
 obtain ⟨rl, b, bad⟩ := R
 obtain ⟨n, e, bad3⟩ := S
 dsimp only at r1 hr hN h s1 ⊢
 generalize uV (t.extract 0 b) = sm at s1 h ⊢
 have he := hN.1.2
 dsimp only at he
 by_cases hsz : e = t.size
 case neg =>
  have hb : ((e : Int) == (t.size : Int)) = false := by simp; omega
  rw [hb] at r1
  rw [if_pos hsz]
  refine xL (rs := [.cell 2 41, .tmp 3]) xH (by kernel_rfl) Tryz.func17 rfl Tryz.ntmps17 (by rw [Tryz.results17]) (by kernel_rfl) (by simp) rfl rfl (xA _ _ _ ?_)
  conv => whnf
  repeat ((first | refine qz ?_ | refine qst ?_ | refine qr (qh rfl rfl rfl rfl) ?_ | refine qr (wO [16, 8, 5, 6, 7] (r1 _) rfl rfl ⟨rfl, rfl, rfl, rfl, rfl, trivial⟩ rfl rfl (by first | exact trivial | exact ⟨⟨rfl, rfl, rfl⟩, trivial⟩ | exact ⟨⟨rfl, rfl, rfl⟩, ⟨rfl, rfl, rfl⟩, trivial⟩ | exact ⟨⟨rfl, rfl, rfl⟩, ⟨rfl, rfl, rfl⟩, ⟨rfl, rfl, rfl⟩, trivial⟩) rfl rfl rfl (.inl rfl) rfl) ?_); conv => whnf)
  exact vI rfl rfl rfl rfl trivial rfl
 have hb : ((e : Int) == (t.size : Int)) = true := by simp [hsz]
 rw [hb] at r1
 rw [if_neg (by simp [hsz])] at h ⊢
 by_cases hsm : (n : Int) = sm
 case neg =>
  rw [if_pos hsm]
  refine xL (rs := [.cell 2 41, .tmp 3]) xH (by kernel_rfl) Tryz.func17 rfl Tryz.ntmps17 (by rw [Tryz.results17]) (by kernel_rfl) (by simp) rfl rfl (xA _ _ _ ?_)
  conv => whnf
  repeat ((first | refine qz ?_ | refine qst ?_ | refine qr (qh rfl rfl rfl rfl) ?_ | refine qr (wO [16, 8, 5, 6, 7] (r1 _) rfl rfl ⟨rfl, rfl, rfl, rfl, rfl, trivial⟩ rfl rfl (by first | exact trivial | exact ⟨⟨rfl, rfl, rfl⟩, trivial⟩ | exact ⟨⟨rfl, rfl, rfl⟩, ⟨rfl, rfl, rfl⟩, trivial⟩ | exact ⟨⟨rfl, rfl, rfl⟩, ⟨rfl, rfl, rfl⟩, ⟨rfl, rfl, rfl⟩, trivial⟩) rfl rfl rfl (.inl rfl) rfl) ?_ | refine qp (aAQ hr rfl rfl) ?_ | refine qc (s1) ?_ | refine qdr ?_); conv => whnf)
  exact vI rfl rfl rfl rfl trivial rfl
 rw [if_neg (by simp [hsm])] at h ⊢
 by_cases hbb : uL B = true
 · rw [if_pos hbb] at h; exact absurd rfl h
 have hbb : uL B = false := by simpa using hbb
 rw [if_neg (by simp [hbb])]
 rw [hbb] at b1
 refine xL (rs := [.cell 2 41, .tmp 3]) xH (by kernel_rfl) Tryz.func17 rfl Tryz.ntmps17 (by rw [Tryz.results17]) (by kernel_rfl) (by simp) rfl rfl (xA _ _ _ ?_)
 conv => whnf
 repeat ((first | refine qz ?_ | refine qst ?_ | refine qr (qh rfl rfl rfl rfl) ?_ | refine jv (wO [16, 8, 5, 6, 7] (r1 _) rfl rfl ⟨rfl, rfl, rfl, rfl, rfl, trivial⟩ rfl rfl (by first | exact trivial | exact ⟨⟨rfl, rfl, rfl⟩, trivial⟩ | exact ⟨⟨rfl, rfl, rfl⟩, ⟨rfl, rfl, rfl⟩, trivial⟩ | exact ⟨⟨rfl, rfl, rfl⟩, ⟨rfl, rfl, rfl⟩, ⟨rfl, rfl, rfl⟩, trivial⟩) rfl rfl rfl (.inl rfl) rfl) rfl rfl (fun e => by cases e) (Gh.unfold 5 0 100 [0] rfl rfl rfl rfl rfl (Gh.unfold 5 0 101 [1] rfl rfl rfl rfl rfl (Gh.done ?_))) | refine qp (aAQ hr rfl rfl) ?_ | refine qc (s1) ?_ | refine qdr ?_ | refine qc (b1) ?_); conv => whnf)
 exact vI rfl rfl rfl rfl trivial rfl
set_option maxHeartbeats 2000000 in
theorem aFz {t : ByteArray} (ht2 : t.size ≤ 65536) (h : dK t = 0) : AC Tryz.prog 17 [.v (.string t)] ⟨.tup [.mix [.own 0, .own 1], .v (.int .i64 0)], [⟨.u, 2, (dB t).store.map xS⟩, ⟨.u, 4, (dB t).refs.map yL⟩]⟩ := by
 have hdie : ¬ (zo t = false ∨ (dS t).2.2 = true) := fun hd => by rw [aJ9 hd] at h; cases h
 have hh : zo t = true := by
  cases e : zo t with
  | true => rfl
  | false => exact absurd (.inl e) hdie
 have hs : (dS t).2.2 = false := by
  cases e : (dS t).2.2 with
  | false => rfl
  | true => exact absurd (.inr e) hdie
 have h3 := aF9 hh
 have hok := aGR ht2 h3
 have hN := uw hok
 rw [show rdN t (dR t).2 = dS t from rfl] at hN
 have r1 := fun (X : AV) => aHM (aNO (X := X) ht2 hh hs)
 have b1 := qo (aQU ht2 h3)
 rw [aGQ hh hs] at h
 have hr := hok.2
 have s1 := aE3 (t := t.extract 0 (dR t).2.1) (by simp [ByteArray.size_extract]; unfold maxLen; omega)
 generalize dB t = B at r1 b1 h ⊢
 generalize dR t = R at r1 hr h s1
 generalize dS t = S at r1 hN h
 obtain ⟨rl, b, bad⟩ := R
 obtain ⟨n, e, bad3⟩ := S
 dsimp only at r1 hr hN h s1 ⊢
 generalize uV (t.extract 0 b) = sm at s1 h
 have he := hN.1.2
 dsimp only at he
 by_cases hsz : e = t.size
 case neg => rw [if_pos hsz] at h; cases h
 have hb : ((e : Int) == (t.size : Int)) = true := by simp [hsz]
 rw [hb] at r1
 rw [if_neg (by simp [hsz])] at h
 by_cases hsm : (n : Int) = sm
 case neg => rw [if_pos hsm] at h; cases h
 rw [if_neg (by simp [hsm])] at h
 by_cases hbb : uL B = true
 case neg => rw [if_neg hbb] at h; cases h
 rw [hbb] at b1
 refine xL (rs := [.cell 2 41, .tmp 3]) xH (by kernel_rfl) Tryz.func17 rfl Tryz.ntmps17 (by rw [Tryz.results17]) (by kernel_rfl) (by simp) rfl rfl (xA _ _ _ ?_)
 conv => whnf
 repeat ((first | refine qz ?_ | refine qst ?_ | refine qr (qh rfl rfl rfl rfl) ?_ | refine jv (wO [16, 8, 5, 6, 7] (r1 _) rfl rfl ⟨rfl, rfl, rfl, rfl, rfl, trivial⟩ rfl rfl (by first | exact trivial | exact ⟨⟨rfl, rfl, rfl⟩, trivial⟩ | exact ⟨⟨rfl, rfl, rfl⟩, ⟨rfl, rfl, rfl⟩, trivial⟩ | exact ⟨⟨rfl, rfl, rfl⟩, ⟨rfl, rfl, rfl⟩, ⟨rfl, rfl, rfl⟩, trivial⟩) rfl rfl rfl (.inl rfl) rfl) rfl rfl (fun e => by cases e) (Gh.unfold 5 0 100 [0] rfl rfl rfl rfl rfl (Gh.unfold 5 0 101 [1] rfl rfl rfl rfl rfl (Gh.done ?_))) | refine qp (aAQ hr rfl rfl) ?_ | refine qc (s1) ?_ | refine qdr ?_ | refine qc (b1) ?_ | refine qr (yJ rfl rfl rfl rfl rfl rfl) ?_); conv => whnf)
 exact aO8 rfl rfl rfl rfl rfl rfl rfl rfl rfl
end Go.Proofs.YtfomjajdfaoogaaGreatDoor.AM
