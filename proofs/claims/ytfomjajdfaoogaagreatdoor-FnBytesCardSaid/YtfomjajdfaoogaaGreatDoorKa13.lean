/- Texts of the machine over data, folded. -/
import Derived.Test.YtfomjajdfaoogaaGreatDoorKa12
import Derived.Laws.RangeString
import Derived.Lib.OthersKept
import Derived.Test.YtfomjajdfaoogaaGreatDoorKa5
import Derived.Test.YtfomjajdfaoogaaGreatDoorKa8
import Derived.Test.YtfomjajdfaoogaaGreatDoorKa9
import Derived.Test.YtfomjajdfaoogaaGreatDoorKa7
import Derived.Lib.BufferWrite
import Derived.Lib.UnsafeStr
import Derived.Laws.BitsLemmas
import Derived.Laws.Small
import Derived.WalkSpells
import Derived.Test.YtfomjajdfaoogaaGreatDoorKa11
set_option linter.unusedVariables false
set_option linter.unusedSimpArgs false
set_option maxRecDepth 100000
namespace Go.Proofs.YtfomjajdfaoogaaGreatDoor.AM
open Go Go.RowKit
section
variable {P : Program} {Θ : Tab} {n : Nat} {ops : Array Oper} {pv : Value} {s : St}
def aEx (P : Program) (Θ : Tab) (n : Nat) (ops : Array Oper) (pv : Value) : List Oper → St → Prop
 | [], _ => False
 | o :: r, s =>
  match inN n o.dst with
  | false => False
  | true => match xV ops s o with
   | some false => aEx P Θ n ops pv r (s.put o.dst (.tup []))
   | some true => match uE Θ false o s with
    | some s' => aEx P Θ n ops pv r s'
    | none => kQ P Θ n ops pv (o :: r) s
   | none => False
theorem aAr : ∀ (l : List Oper) (s : St), aEx P Θ n ops pv l s → kQ P Θ n ops pv l s
 | [], s, h => h.elim
 | o :: r, s, h => by
  unfold aEx at h
  cases hin : inN n o.dst with
  | false => rw [hin] at h; exact h.elim
  | true =>
   rw [hin] at h
   simp only at h
   cases hg : xV ops s o with
   | none => rw [hg] at h; exact h.elim
   | some b => cases b with
    | false => rw [hg] at h; unfold kQ; simp only [hin, hg]; exact ⟨trivial, aAr r _ h⟩
    | true =>
     rw [hg] at h
     simp only at h
     cases hs : uE Θ false o s with
     | none => rw [hs] at h; exact h
     | some s' =>
      rw [hs] at h
      obtain ⟨e, hp, _, he⟩ := aAX (P := P) hs
      unfold kQ
      simp only [hin, hg]
      exact ⟨trivial, .inr ⟨e, hp, by rw [he]; exact aAr r _ h⟩⟩
def aEy (P : Program) (Θ : Tab) (n : Nat) (ops : Array Oper) (pv : Value) : Nat → List Oper → St → Prop
 | _, [], _ => False
 | k, o :: r, s =>
  match inN n o.dst with
  | false => False
  | true => match xV ops s o with
   | some false => aEy P Θ n ops pv (k + 1) r (s.put o.dst (.tup []))
   | some true => match uE Θ true o s with
    | some s' => aEy P Θ n ops pv (k + 1) r s'
    | none => vC P Θ n ops pv k (o :: r) s
   | none => False
theorem aAs : ∀ (l : List Oper) (k : Nat) (s : St), aEy P Θ n ops pv k l s → vC P Θ n ops pv k l s
 | [], k, s, h => h.elim
 | o :: r, k, s, h => by
  unfold aEy at h
  cases hin : inN n o.dst with
  | false => rw [hin] at h; exact h.elim
  | true =>
   rw [hin] at h
   simp only at h
   cases hg : xV ops s o with
   | none => rw [hg] at h; exact h.elim
   | some b => cases b with
    | false => rw [hg] at h; unfold vC; simp only [hin, hg]; exact ⟨trivial, aAs r _ _ h⟩
    | true =>
     rw [hg] at h
     simp only at h
     cases hs : uE Θ true o s with
     | none => rw [hs] at h; exact h
     | some s' =>
      rw [hs] at h
      obtain ⟨⟨u, up⟩, hp, hu, he⟩ := aAX (P := P) hs
      have : up = none := hu rfl
      subst this
      unfold vC
      simp only [hin, hg]
      exact ⟨trivial, .inr ⟨u, hp, aAs r _ _ (by rw [show s.put o.dst u = s' from he]; exact h)⟩⟩
variable {k : Nat} {r : List Oper} {d : Option Tmp} {op : Op} {ty : TypeId} {pos : String} {after : Array Edge} {g : Option (Nat × Bool)}
theorem aBG {v : AV} (hp : Pre P Θ ⟨d, op, ty, pos, after, g⟩ s ⟨v, none⟩) (hg : xV ops s ⟨d, op, ty, pos, after, g⟩ = some true) (hin : inN n d = true) (h : aEx P Θ n ops pv r (s.put d v)) : kQ P Θ n ops pv (⟨d, op, ty, pos, after, g⟩ :: r) s := by
 unfold kQ; simp only [hg]; exact ⟨hin, .inr ⟨_, hp, aAr _ _ h⟩⟩
theorem zT (hd : qD P s pv ⟨d, op, ty, pos, after, g⟩) (hg : xV ops s ⟨d, op, ty, pos, after, g⟩ = some true) (hin : inN n d = true) : kQ P Θ n ops pv (⟨d, op, ty, pos, after, g⟩ :: r) s := by
 unfold kQ; simp only [hg]; exact ⟨hin, .inl hd⟩
theorem aOi {v : AV} (hp : Pre P Θ ⟨d, op, ty, pos, after, g⟩ s ⟨v, none⟩) (hg : xV ops s ⟨d, op, ty, pos, after, g⟩ = some true) (hin : inN n d = true) (h : aEy P Θ n ops pv (k + 1) r (s.put d v)) : vC P Θ n ops pv k (⟨d, op, ty, pos, after, g⟩ :: r) s := by
 unfold vC; simp only [hg]; exact ⟨hin, .inr ⟨_, hp, aAs _ _ _ h⟩⟩
theorem aTT (hd : qD P s pv ⟨d, op, ty, pos, after, g⟩) (hg : xV ops s ⟨d, op, ty, pos, after, g⟩ = some true) (hin : inN n d = true) (ht : tied ops k = true) : vC P Θ n ops pv k (⟨d, op, ty, pos, after, g⟩ :: r) s := by
 unfold vC; simp only [hg]; exact ⟨hin, .inl ⟨ht, hd⟩⟩
theorem zx {f : FuncId} {xs ys : List AV} {x : Operand} {ags : Array Operand} {ts : Array TypeId} {args : List AV} {rin : List OB} (Ls : List Nat) (hac : ACP P f args rin pv) (hx : s.ev x = .fn f xs ys) (ha : s.datHL Ls (xs ++ ags.toList.map s.ev ++ ys) = aAu Ls args) (hh : handed s Ls Ls rin) (hnd : aFg Ls = true)
 (hok : vM s Ls (xs ++ ags.toList.map s.ev ++ ys) = true) (hwi : zC (fun l => (xE 0 rin l).isSome) args = true) (hwe : rin.all (fun ob => uK (fun l => (xE 0 rin l).isSome) ob.e) = true) (hfl : (zn Ls (xY (xs ++ ags.toList.map s.ev ++ ys))).isEmpty = true) (hc : wQ ags.toList = true) :
 qD P s pv ⟨d, .call ⟨.value x, ags, ts⟩, ty, pos, after, g⟩ :=
 ⟨f, xs, ys, args, rin, Ls, hx, uz hc, hac, ha, hh, aEk hnd, hok, hwi, hwe, by simpa using hfl⟩
theorem yE {a b : Code} (h : aAT P Θ n a (AEx.then (yt P Θ n pv b) (fun _ _ => False)) s) : yt P Θ n pv (.seq a b) s := .inr (xA _ _ _ h)
theorem yw {a b : Code} (h : yt P Θ n pv a s) : yt P Θ n pv (.seq a b) s := .inl h
theorem uI {id : Nat} (h : aEx P Θ n ops pv ops.toList s) : yt P Θ n pv (.region id ops false) s := .inl ⟨rfl, aAr _ _ h⟩
theorem aSe {id : Nat} (hB : Region.lexB .any ops = true) (h : aEy P Θ n ops pv 0 ops.toList s) : yt P Θ n pv (.region id ops true) s := .inr ⟨rfl, hB, aAs _ _ _ h⟩
theorem jW {id : Nat} {c : Code} (h : yt P Θ n pv c s) : yt P Θ n pv (.block id c) s := h
theorem aGS {c : Code} {ι : Type} (I : ι → Inv) (μ : ι → Nat) (i0 : ι) (h0 : s.le (I i0)) (h : ∀ i, yt P Θ n pv c (I i).st ∨ aAT P Θ n c (AEx.then (fun s' => ∃ j, s'.le (I j) ∧ μ j < μ i) (fun _ _ => False)) (I i).st) : yt P Θ n pv (.loop c) s :=
 ⟨ι, fun i => (I i).m, μ, ⟨i0, h0, trivial⟩, fun i => (h i).imp id fun h => jF (Q := AEx.then (fun s' => ∃ j, s'.le (I j) ∧ μ j < μ i) (fun _ _ => False)) c _ (fun e s he => by
  cases e with
  | normal => obtain ⟨j, h1, h2⟩ := he; exact ⟨j, ⟨h1, trivial⟩, h2⟩
  | _ => exact he) (xA _ _ _ h)⟩
end
def wo (P : Program) (n : Nat) (ops : Array Oper) (l : List Oper) (s : St) (K : St → Prop) : Prop :=
 ∀ (W : World) (M : Hand) (S0 : Nat → Prop) (a : Act) (w : World), Sim W M S0 n s a w → wpList P ops (fun e a' w' => e = .normal ∧ ∃ s', K s' ∧ Sim W M S0 n s' a' w') l a w
section
variable {P : Program} {Θ : Tab} {n : Nat} {ops : Array Oper} {s : St} {K : St → Prop} {r : List Oper} {d : Option Tmp} {op : Op} {ty : TypeId} {pos : String} {after : Array Edge} {g : Option (Nat × Bool)}
theorem aAf {id : Nat} (h : wo P n ops ops.toList s K) : aDH P n id ops s K := fun W M S0 a w hs => .of (wp_region_list (h W M S0 a w hs))
theorem aJt (h : K s) : wo P n ops [] s K := fun W M S0 a w hs => ⟨rfl, s, h, hs⟩
theorem aRV {e : Eff} (hΘ : yY P Θ) (hp : Pre P Θ ⟨d, op, ty, pos, after, g⟩ s e) (hg : xV ops s ⟨d, op, ty, pos, after, g⟩ = some true) (hin : inN n d = true) (h : wo P n ops r (s.app d e) K) : wo P n ops (⟨d, op, ty, pos, after, g⟩ :: r) s K := fun W M S0 a w hs => by
 unfold wpList
 rw [uN hs hg, if_pos rfl]
 exact .inl (jr hΘ hs hp hin fun a' w' hs' => h W M S0 a' w' hs')
theorem aRU (hg : xV ops s ⟨d, op, ty, pos, after, g⟩ = some false) (hin : inN n d = true) (h : wo P n ops r (s.put d (.tup [])) K) : wo P n ops (⟨d, op, ty, pos, after, g⟩ :: r) s K := fun W M S0 a w hs => by
 unfold wpList
 rw [uN hs hg, if_neg (by simp)]
 exact h W M S0 _ _ (aCJ hs hin)
theorem aIx {s' : St} (hg : xV ops s ⟨d, op, ty, pos, after, g⟩ = some true) (hw : ∀ (W : World) (M : Hand) (S0 : Nat → Prop) (a : Act) (w : World), Sim W M S0 n s a w → ∀ (K' : Act → World → Prop) (Q : Exit → Act → World → Prop), (∀ a' w', Sim W M S0 n s' a' w' → K' a' w') → (⟨d, op, ty, pos, after, g⟩ : Oper).wp P a w K' Q) (h : wo P n ops r s' K) : wo P n ops (⟨d, op, ty, pos, after, g⟩ :: r) s K := fun W M S0 a w hs => by
 unfold wpList
 rw [uN hs hg, if_pos rfl]
 exact .inl (hw W M S0 a w hs _ _ fun a' w' hs' => h W M S0 a' w' hs')
def aNB (P : Program) (Θ : Tab) (n : Nat) (ops : Array Oper) : List Oper → St → (St → Prop) → Prop
 | [], s, K => K s
 | o :: r, s, K => match inN n o.dst with
  | false => False
  | true => match xV ops s o with
   | some false => aNB P Θ n ops r (s.put o.dst (.tup [])) K
   | some true => match uE Θ false o s with
    | some s' => aNB P Θ n ops r s' K
    | none => wo P n ops (o :: r) s K
   | none => False
theorem kL (hΘ : yY P Θ) : ∀ (l : List Oper) (s : St), aNB P Θ n ops l s K → wo P n ops l s K
 | [], s, h => aJt h
 | o :: r, s, h => by
  unfold aNB at h
  cases hin : inN n o.dst with
  | false => rw [hin] at h; exact h.elim
  | true =>
   rw [hin] at h
   simp only at h
   cases hg : xV ops s o with
   | none => rw [hg] at h; exact h.elim
   | some b => cases b with
    | false => rw [hg] at h; exact aRU hg hin (kL hΘ r _ h)
    | true =>
     rw [hg] at h
     simp only at h
     cases hs : uE Θ false o s with
     | none => rw [hs] at h; exact h
     | some s' =>
      rw [hs] at h
      obtain ⟨e, hp, _, he⟩ := aAX (P := P) hs
      exact aRV hΘ hp hg hin (by rw [he]; exact kL hΘ r _ h)
end
section
variable {P : Program} {Θ : Tab} {n : Nat}
def aCE (stop : Array Oper → Bool) (P : Program) (Θ : Tab) (n : Nat) : Code → (AEx → St → Prop) → St → Prop
 | .region id ops false, Q, s => bif stop ops then aDH P n id ops s (Q .normal) else runK P Θ n ops false 0 ops.toList s (Q .normal)
 | .seq a b, Q, s => aCE stop P Θ n a (AEx.then (aCE stop P Θ n b Q) Q) s
 | .cond c x y, Q, s => match s.ev c with
  | .v (.bool true) => aCE stop P Θ n x Q s
  | .v (.bool false) => aCE stop P Θ n y Q s
  | _ => xI P Θ n (.cond c x y) Q s
 | .block id c, Q, s => aCE stop P Θ n c (AEx.inBlock id Q) s
 | c, Q, s => aAT P Θ n c Q s
theorem aAU {stop : Array Oper → Bool} : ∀ (c : Code) (Q : AEx → St → Prop) (s : St), aCE stop P Θ n c Q s → xI P Θ n c Q s := by
 intro c
 induction c with
 | region id ops draw =>
  intro Q s h
  cases draw with
  | false =>
   simp only [aCE] at h
   cases hc : stop ops with
   | true => rw [hc] at h; exact .inr (.inr ⟨rfl, h⟩)
   | false => rw [hc] at h; exact .inl ⟨(fun e => by cases e), wI _ _ _ h⟩
  | true => exact xA _ Q s h
 | seq a b iha ihb =>
  intro Q s h
  exact .inl (jF a s (fun e s he => by cases e <;> first | exact ihb Q s he | exact he) (iha _ s h))
 | cond c x y ihx ihy =>
  intro Q s h
  simp only [aCE] at h
  split at h
  · rename_i hc; exact ⟨true, hc, ihx Q s h⟩
  · rename_i hc; exact ⟨false, hc, ihy Q s h⟩
  · exact h
 | block id c ih => intro Q s h; exact ih _ s h
 | _ => intro Q s h; exact xA _ Q s h
theorem aRo {stop : Array Oper → Bool} {c : Code} {Q : AEx → St → Prop} {s : St} {ι : Type} (I : ι → Inv) (μ : ι → Nat) (i0 : ι) (h0 : s.le (I i0)) (h : ∀ i, aCE stop P Θ n c (AEx.then (fun s' => ∃ j, s'.le (I j) ∧ μ j < μ i) Q) (I i).st) : xI P Θ n (.loop c) Q s :=
 aJ4 (fun i => (I i).m) μ i0 ⟨h0, trivial⟩ fun i => jF (Q := AEx.then (fun s' => ∃ j, s'.le (I j) ∧ μ j < μ i) Q) c _ (fun e s he => by
  cases e with
  | normal => obtain ⟨j, h1, h2⟩ := he; exact ⟨j, ⟨h1, trivial⟩, h2⟩
  | _ => exact he) (aAU _ _ _ (h i))
theorem aL0 {stop : Array Oper → Bool} {pv : Value} {s : St} {a b : Code} (h : aCE stop P Θ n a (AEx.then (yt P Θ n pv b) (fun _ _ => False)) s) : yt P Θ n pv (.seq a b) s := .inr (aAU _ _ _ h)
theorem aRB {stop : Array Oper → Bool} {pv : Value} {s : St} {c : Code} {ι : Type} (I : ι → Inv) (μ : ι → Nat) (i0 : ι) (h0 : s.le (I i0)) (h : ∀ i, yt P Θ n pv c (I i).st ∨ aCE stop P Θ n c (AEx.then (fun s' => ∃ j, s'.le (I j) ∧ μ j < μ i) (fun _ _ => False)) (I i).st) : yt P Θ n pv (.loop c) s :=
 ⟨ι, fun i => (I i).m, μ, ⟨i0, h0, trivial⟩, fun i => (h i).imp id fun h => jF (Q := AEx.then (fun s' => ∃ j, s'.le (I j) ∧ μ j < μ i) (fun _ _ => False)) c _ (fun e s he => by
  cases e with
  | normal => obtain ⟨j, h1, h2⟩ := he; exact ⟨j, ⟨h1, trivial⟩, h2⟩
  | _ => exact he) (aAU _ _ _ h)⟩
end
def aTd (t : ByteArray) (i : Nat) : AbsR where
 rel w b T := (∀ g, T g ↔ g = b) ∧ w.heap[b]? = some (.stringIter t i)
 frame := by
  rintro w w' b T h ⟨h1, h2⟩
  exact ⟨h1, (h b ((h1 b).2 rfl)).trans h2⟩
abbrev qH (t : ByteArray) (i : Nat) : OB := ⟨.c (aTd t i), 1, []⟩
theorem aRn {t : ByteArray} {i : Nat} {S : Nat → Prop} {w : World} {hp : Nat → Option OB} {B : Nat → Nat} {V : Nat → Value} {T : Nat → Prop} {b : Nat} (hT : ∀ g, T g ↔ g = b) (hb : w.heap[b]? = some (.stringIter t i)) : RO S w hp B V T (qH t i) b (.slice none 0 0) :=
 ⟨0, [], ⟨fun t' e => (by cases e), hT, hb⟩, ⟨rfl, rfl, fun g hg => by rw [(hT g).1 hg]; exact (Array.getElem?_eq_some_iff.1 hb).1⟩, fun x hx => (by cases hx), Nat.succ_pos 0, World.ownsRow_nil _ _ _ _, fun g hg => by simp [Value.ownBlock] at hg⟩
section
variable {P : Program} {Θ : Tab} {n : Nat} {ops : Array Oper} {s : St} {K : St → Prop} {r : List Oper} {ty : TypeId} {pos : String} {after : Array Edge}
variable {W : World} {M : Hand} {S0 : Nat → Prop} {S : Nat → Prop} {B : Nat → Nat} {V : Nat → Value} {T : Nat → Nat → Prop} {tmps : Array Value} {w : World} {t : ByteArray} {i : Nat}
theorem SimW.newIter (h : SimW W M S0 s tmps w S B V T) {d : Nat} (hok : okL d = true) (hf : s.hp d = none) :
 SimW W M S0 (s.set d (some (qH t 0))) tmps (w.iter t 0) S (upd B d w.heap.size) (upd V d (.slice none 0 0)) (upd T d (fun g => g = w.heap.size)) := by
 have hb : Below w.heap.size w (w.iter t 0) := (Below.refl _ _).alloc (Nat.le_refl _) _
 obtain ⟨hn1, hn2⟩ := jX h hf
 have hnew : (w.iter t 0).heap[w.heap.size]? = some (.stringIter t 0) := heap_alloc_new w (.stringIter t 0)
 have hlt := (Array.getElem?_eq_some_iff.1 hnew).1
 exact h.repl (l := d) (ob' := qH t 0) (b' := w.heap.size) (v' := .slice none 0 0) (T' := fun g => g = w.heap.size) hok hn1 (fun j o _ ho => hn2 j o ho) (Grown.of hb _) (aRn (fun g => Iff.rfl) hnew) (fun g hg => by
  rcases hg with hg | hg
  · simp [Value.ownBlock] at hg
  · exact ⟨by rw [hg]; exact hlt, .inl (.inl (by rw [hg]; exact Nat.le_refl _))⟩) (fun g hg => by simp [Value.ownBlock] at hg)
theorem SimW.iter (h : SimW W M S0 s tmps w S B V T) {l : Nat} (hl : s.hp l = some (qH t i)) (i' : Nat) :
 w.heap[B l]? = some (.stringIter t i) ∧ ∃ T', SimW W M S0 (s.set l (some (qH t i'))) tmps (w.iterAt (B l) t i') S B V T' := by
 obtain ⟨t0, cs, ⟨_, r0⟩, r2, r3, r4, r5, r6⟩ := h.rows.ro l _ hl
 obtain ⟨hT, hb⟩ := r0
 refine ⟨hb, ?_⟩
 have hlt := (Array.getElem?_eq_some_iff.1 hb).1
 have hTb : T l (B l) := (hT _).2 rfl
 have hnew := Lib.iterAt_heap w (B l) t i i' hb
 have hoth : ∀ g, g ≠ B l → (w.iterAt (B l) t i').heap[g]? = w.heap[g]? := fun g hg => by
  simp [World.iterAt, Array.getElem?_setIfInBounds_ne (Ne.symm hg)]
 have hown : ∀ g, ¬ (V l).ownBlock = some g := fun g e => by
  have := r6 g e
  subst this
  exact h.rows.nd l _ _ hl e hTb
 have hgr : Grown w (w.iterAt (B l) t i') (Blk V T l) := ⟨rfl, rfl, rfl, by simp [World.iterAt], fun g _ hg => hoth g (fun e => hg (by rw [e]; exact .inr hTb))⟩
 refine ⟨_, h.inpl (ob' := qH t i') hl rfl hgr ?_ (fun g hg => hg)⟩
 exact ⟨t0, [], ⟨fun t' e => (by cases e), hT, hnew⟩, ⟨rfl, rfl, fun g hg => by rw [(hT g).1 hg]; exact (Array.getElem?_eq_some_iff.1 hnew).1⟩, fun x hx => (by cases hx), Nat.succ_pos 0, by
  have := aBT (w' := w.iterAt (B l) t i') r5 (fun g hg => absurd hg (hown g))
  exact ⟨rfl, this.2.imp id (fun ⟨g, cap1, cur, q1, q2⟩ => absurd (show (V l).ownBlock = some g by rw [q1]; rfl) (hown g))⟩, r6⟩
theorem aL1 {a : Act} (h : SimW W M S0 s a.tmps w S B V T) {l : Nat} (hl : s.hp l = some (qH t i)) {x : Operand} (hx : s.ev x = .optr l 0 [] 0) : a.eval x = .pointer (some ⟨B l, 0, none⟩) := by
 have := zV h hx (fun c => by simp)
 unfold RV at this
 obtain ⟨ob, ho1, e⟩ := this
 rw [hl] at ho1; cases ho1
 exact e
theorem aJu {d : Nat} {x : Operand} {xt : TypeId} (hx : s.ev x = .v (.string t)) (hu : P.underlying xt = some .string) (hf : s.hp (d + 1) = none) (hin : inN n (some d) = true) (h : wo P n ops r ((s.set (d + 1) (some (qH t 0))).put (some d) (.optr (d + 1) 0 [] 0)) K) (hok : okL (d + 1) = true := by rfl) : wo P n ops (⟨some d, .range xt x, ty, pos, after, none⟩ :: r) s K := by
 refine aIx rfl (fun W M S0 a w hs K' Q hK => ?_) h
 obtain ⟨hn, hdf, S, B, V, T, hw⟩ := hs
 have hex := wM hw (x := x) (b := .string t) (by rw [hx]; rfl)
 refine zA (v := .pointer (some ⟨w.heap.size, 0, none⟩)) (w1 := w.iter t 0) ?_ (hK _ _ (Sim.put hn hdf (hw.newIter hok hf) (some d) (by unfold RV; exact ⟨_, zK, by simp [upd_same]⟩) hin))
 simp only [execOp, hex, Sem.run_bind, run_range_string w xt t hu, Result.andThen_ok, Sem.run_pure]
theorem aHY {d l : Nat} {x : Operand} (hx : s.ev x = .optr l 0 [] 0) (hl : s.hp l = some (qH t i)) (hi : i < t.size) (h8 : (t[i]'hi).toNat < 128) (hin : inN n (some d) = true) (h : wo P n ops r ((s.set l (some (qH t (i + 1)))).put (some d) (.tup [.v (.bool true), .v (.int .i64 (i : Int)), .v (.int .i32 ((t[i]'hi).toNat : Int))])) K) : wo P n ops (⟨some d, .next x true, ty, pos, after, none⟩ :: r) s K := by
 refine aIx rfl (fun W M S0 a w hs K' Q hK => ?_) h
 obtain ⟨hn, hdf, S, B, V, T, hw⟩ := hs
 have hex := aL1 hw hl hx
 obtain ⟨hb, T', hsim⟩ := hw.iter hl (i + 1)
 refine zA (v := .tuple #[.bool true, .int .i64 i, .int .i32 (t[i]'hi).toNat]) (w1 := w.iterAt (B l) t (i + 1)) ?_ (hK _ _ (Sim.put hn hdf hsim (some d) ?_ hin))
 · simp only [execOp, hex, Sem.run_bind, Lib.run_next_ascii_at w (B l) t i ty hb hi h8, Result.andThen_ok, Sem.run_pure]
 · unfold RV
   refine ⟨[.bool true, .int .i64 i, .int .i32 (t[i]'hi).toNat], rfl, ?_⟩
   unfold RVs
   refine ⟨_, _, rfl, by unfold RV; exact ⟨rfl, rfl⟩, ?_⟩
   unfold RVs
   refine ⟨_, _, rfl, by unfold RV; exact ⟨rfl, rfl⟩, ?_⟩
   unfold RVs
   refine ⟨_, _, rfl, by unfold RV; exact ⟨rfl, rfl⟩, ?_⟩
   unfold RVs; rfl
theorem aPg {d l : Nat} {x : Operand} (hx : s.ev x = .optr l 0 [] 0) (hl : s.hp l = some (qH t i)) (hi : ¬ i < t.size) (hin : inN n (some d) = true) (h : wo P n ops r (s.put (some d) (.tup [.v (.bool false)])) K) : wo P n ops (⟨some d, .next x true, ty, pos, after, none⟩ :: r) s K := by
 refine aIx rfl (fun W M S0 a w hs K' Q hK => ?_) h
 obtain ⟨hn, hdf, S, B, V, T, hw⟩ := hs
 have hex := aL1 hw hl hx
 obtain ⟨hb, _, _⟩ := hw.iter hl i
 refine zA (v := .tuple #[.bool false]) (w1 := w) ?_ (hK _ _ (Sim.put hn hdf hw (some d) ?_ hin))
 · simp only [execOp, hex, Sem.run_bind, Lib.run_next_end_at w (B l) t i ty hb hi, Result.andThen_ok, Sem.run_pure]
 · unfold RV
   refine ⟨[.bool false], rfl, ?_⟩
   unfold RVs
   refine ⟨_, _, rfl, by unfold RV; exact ⟨rfl, rfl⟩, ?_⟩
   unfold RVs; rfl
end
def aIu : List Nat → St → St
 | [], s => s
 | l :: r, s => aIu r (s.drop l)
section
variable {P : Program} {Θ : Tab} {n : Nat} {ops : Array Oper} {s : St} {K : St → Prop} {r : List Oper} {ty : TypeId} {pos : String} {after : Array Edge}
variable {W : World} {M : Hand} {S0 : Nat → Prop} {S : Nat → Prop} {B : Nat → Nat} {V : Nat → Value} {T : Nat → Nat → Prop} {tmps : Array Value} {w w' : World}
theorem SimW.ext (h : SimW W M S0 s tmps w S B V T) {D : Nat → Prop} (hg : Grown w w' D) (hS : ∀ g, S g → ¬ D g) (hR : ∀ l ob g, s.hp l = some ob → Blk V T l g → ¬ D g) (hD : ∀ g, D g → g < W.heap.size → M.bl g) : SimW W M S0 s tmps w' S B V T := by
 have hsame : ∀ b, S b → w'.heap[b]? = w.heap[b]? := fun b hb => hg.block b (h.slt b hb).1 (hS b hb)
 have hrow : ∀ l ob g, s.hp l = some ob → Blk V T l g → w'.heap[g]? = w.heap[g]? := fun l ob g ho hb => hg.block g (h.rows.me l ob g ho hb).2.1 (hR l ob g ho hb)
 refine ⟨h.below.trans hg hD, h.s0, fun b hs => ⟨Nat.lt_of_lt_of_le (h.slt b hs).1 hg.size, (h.slt b hs).2⟩, fun t => ?_, ⟨fun l ob ho => ?_, fun l ob g ho hg' => ?_, h.rows.nd, h.rows.ds, fun l es e => ?_⟩, h.pin, h.gl⟩
 · exact RV.carry (fun _ h => h) hsame _ _ (fun l _ => Same.refl l) (h.sl t)
 · exact (h.rows.ro l ob ho).carry (fun _ h => h) hsame (fun l _ => Same.refl l) (fun g hg' => hrow l ob g ho (.inr hg')) (fun g hg' => hrow l ob g ho (.inl hg'))
 · obtain ⟨a, b, c⟩ := h.rows.me l ob g ho hg'
   exact ⟨a, Nat.lt_of_lt_of_le b hg.size, c⟩
 · obtain ⟨⟨t, ho⟩, k1, arr, clock, k2, k3⟩ := h.rows.mp l es e
   exact ⟨⟨t, ho⟩, k1, arr, clock, (hrow l _ _ ho (.inr k1)).trans k2, k3⟩
theorem aIA : ∀ (Ls : List Nat) {s : St}, Ls.all okL = true → SimW W M S0 s tmps w S B V T → SimW W M S0 (aIu Ls s) tmps w S B V T
 | [], s, _, h => h
 | l :: r, s, hk, h => by
  simp only [List.all_cons, Bool.and_eq_true] at hk
  exact aIA r hk.2 (h.drop l hk.1)
theorem aJc : ∀ (Ls : List Nat) {s : St} {l : Nat} {o : OB}, (aIu Ls s).hp l = some o → l ∉ Ls ∧ ∃ o', s.hp l = some o'
 | [], s, l, o, h => ⟨by simp, o, h⟩
 | a :: r, s, l, o, h => by
  obtain ⟨h1, o', h2⟩ := aJc r h
  have h3 : (bif Nat.beq l a then none else xg a (s.hp l)) = some o' := h2
  cases hb : Nat.beq l a with
  | true => rw [hb] at h3; cases h3
  | false =>
   rw [hb] at h3
   have hne : l ≠ a := fun e => by rw [e] at hb; simp at hb
   refine ⟨by simp only [List.mem_cons, not_or]; exact ⟨hne, h1⟩, ?_⟩
   cases hs : s.hp l with
   | none => rw [hs] at h3; cases h3
   | some q => exact ⟨q, rfl⟩
theorem aRT {f : FuncId} {xs ys : List AV} {d : Nat} {x : Operand} {ags : Array Operand} {ts : Array TypeId} {args : List AV} {rin : List OB} {v : Value} (Ls : List Nat) (hac : ACL P f args rin v) (hv : v.oneCell' = true) (hx : s.ev x = .fn f xs ys) (ha : s.datHL Ls (xs ++ ags.toList.map s.ev ++ ys) = aAu Ls args) (hh : handed s Ls Ls rin) (hnd : aFg Ls = true)
 (hok : vM s Ls (xs ++ ags.toList.map s.ev ++ ys) = true) (hwi : zC (fun l => (xE 0 rin l).isSome) args = true) (hwe : rin.all (fun ob => uK (fun l => (xE 0 rin l).isSome) ob.e) = true) (hfl : (zn Ls (xY (xs ++ ags.toList.map s.ev ++ ys))).isEmpty = true) (hc : wQ ags.toList = true)
 (hL : Ls.all okL = true) (hin : inN n (some d) = true) (h : wo P n ops r ((aIu Ls s).put (some d) (.v v)) K) : wo P n ops (⟨some d, .call ⟨.value x, ags, ts⟩, ty, pos, after, none⟩ :: r) s K := by
 refine aIx rfl (fun W M S0 a w hs K' Q hK => ?_) h
 obtain ⟨hn, hdf, S, B, V, T, hw⟩ := hs
 have hgv := zV hw hx (fun c => by simp)
 unfold RV at hgv
 obtain ⟨us, vs, eg, r1, r2⟩ := hgv
 have hcc : HandC s (xs ++ ags.toList.map s.ev ++ ys) args rin Ls := ⟨ha, hh, aEk hnd, hok, hwi, hwe, by simpa using hfl⟩
 obtain ⟨hrows, hargs, hmem⟩ := aIG hw (RVs.app (RVs.app r1 (aBp hw _ (uz hc))) r2) hcc
 unfold Oper.wp
 rw [aEW eg hac.1]
 show Calls P f _ w _
 refine (hac.2 w S _ _ _ _ (fun b hb => (hw.slt b hb).1) (fun g y hg => hw.glob (fun _ h => h) hg) hrows hargs).mono ?_
 rintro e w' ⟨rfl, hgr⟩
 show K' (a.put (some d) v) w'
 have hD : ∀ g, HB (xE 0 rin) (fun l => V (xk 0 Ls l)) (fun l => T (xk 0 Ls l)) g → ∃ l ob, l ∈ Ls ∧ s.hp l = some ob ∧ Blk V T l g := by
  rintro g ⟨l, ob, ho, hb⟩
  obtain ⟨k1, k2⟩ := hmem l ob ho
  exact ⟨_, _, k1, k2, hb⟩
 have hsim := (aIA Ls hL hw).ext hgr (fun g hg hd => by
  obtain ⟨l, ob, _, k2, k3⟩ := hD g hd
  exact (hw.rows.me l ob g k2 k3).1 hg) (fun l ob g ho hb hd => by
  obtain ⟨l', ob', k1, k2, k3⟩ := hD g hd
  obtain ⟨q1, o2, q2⟩ := aJc Ls ho
  exact q1 (hw.rows.ds l l' o2 ob' g q2 k2 hb k3 ▸ k1)) (fun g hd hlt => by
  obtain ⟨l, ob, _, k2, k3⟩ := hD g hd
  exact ((hw.rows.me l ob g k2 k3).2.2).resolve_left (by omega))
 exact hK _ _ (Sim.put hn hdf hsim (some d) (by unfold RV; exact ⟨rfl, hv⟩) hin)
end
def yx (n : Nat) : List UInt8 := if h : n < 128 then [UInt8.ofNat n] else UInt8.ofNat (128 + n % 128) :: yx (n / 128)
termination_by n
decreasing_by omega
def xG (n : Nat) : ByteArray := ⟨(yx n).toArray⟩
theorem aEG {n : Nat} (h : n < 128) : yx n = [UInt8.ofNat n] := by rw [yx, dif_pos h]
theorem aGZ {n : Nat} (h : ¬ n < 128) : yx n = UInt8.ofNat (128 + n % 128) :: yx (n / 128) := by rw [yx, dif_neg h]
theorem aF7 : ∀ (k n : Nat), n < 128 ^ (k + 1) → (yx n).length ≤ k + 1
 | 0, n, h => by rw [aEG (by simpa using h)]; simp
 | k + 1, n, h => by
  by_cases hn : n < 128
  · rw [aEG hn]; simp
  · rw [aGZ hn, List.length_cons]
    have := aF7 k (n / 128) (by rw [Nat.div_lt_iff_lt_mul (by omega)]; rw [Nat.pow_succ] at h; exact h)
    omega
theorem aEF {n : Nat} (h : n ≤ 268435455) : (yx n).length ≤ 4 := aF7 3 n (by omega)
theorem aNL {n : Nat} (h : n < 256) : (UInt8.ofNat n).toNat = n := by simp; omega
attribute [local irreducible] xI xO xQ xX yG Pre ACG
theorem zf {n : Nat} (hn : n ≤ 268435455) : AC Tryz.prog 25 [.v (.int .i64 (n : Int))] ⟨.v (.string (xG n)), []⟩ := by
 have h4 := aEF hn
 refine qrf Tryz.func25 Tryz.ntmps25 Tryz.results25 ?_; conv => whnf
 refine xZ (ι := { p : List UInt8 × Nat // p.1 ++ yx p.2 = yx n ∧ p.2 ≤ 268435455 }) (fun p => ⟨[(0, .v (.int .i64 (p.1.2 : Int))), (3, .own 5)], [(5, ⟨5, 1, p.1.1.map uM⟩)]⟩) (fun p => p.1.2) ⟨([], n), by simp, hn⟩ (by exact qle) ?_
 rintro ⟨⟨acc, m⟩, hacc, hm⟩
 dsimp only at hacc hm ⊢
 have hal : acc.length ≤ 4 := by rw [← hacc, List.length_append] at h4; omega
 conv => whnf
 by_cases hlt : 127 < m
 · rw [aGZ (by omega)] at hacc
   have hb := aNL (n := 128 + m % 128) (by omega)
   repeat ((first | refine qz ?_ | refine qp (xC (vE (c := ((m % 128 : Nat) : Int)) (by omega) (by omega) (by omega)) rfl rfl rfl) ?_ | refine qp (aGo (b := UInt8.ofNat (128 + m % 128)) (by omega) rfl) ?_); conv => whnf)
   refine qr (vH (f := uM) (xs := acc) (UInt8.ofNat (128 + m % 128)) (acc ++ [UInt8.ofNat (128 + m % 128)]) rfl (by omega) rfl rfl rfl rfl rfl rfl rfl) ?_
   conv => whnf
   repeat ((first | refine qz ?_ | refine qp (xC (aGJ (c := ((m / 128 : Nat) : Int)) (by omega) (by omega) (by omega) (by omega)) rfl rfl rfl) ?_); conv => whnf)
   exact ⟨⟨(acc ++ [UInt8.ofNat (128 + m % 128)], m / 128), by simpa using hacc, by dsimp only; omega⟩, by exact qle, by dsimp only; omega⟩
 · rw [aEG (by omega)] at hacc
   have hb := aNL (n := m) (by omega)
   repeat ((first | refine qz ?_ | refine qp (aGo (b := UInt8.ofNat m) (by omega) rfl) ?_); conv => whnf)
   refine qr (vH (f := uM) (xs := acc) (UInt8.ofNat m) (acc ++ [UInt8.ofNat m]) rfl (by omega) rfl rfl rfl rfl rfl rfl rfl) ?_
   conv => whnf
   refine qp (aQZ (aHx (acc ++ [UInt8.ofNat m])) rfl rfl rfl rfl) ?_
   conv => whnf
   repeat ((refine qz ?_; conv => whnf))
   unfold xG
   rw [← hacc]
   exact xD rfl trivial
end Go.Proofs.YtfomjajdfaoogaaGreatDoor.AM
namespace Go.Proofs.YtfomjajdfaoogaaGreatDoor.AM
open Go Go.RowKit
def aES (n : Int) : ByteArray × Int := if 0 ≤ n ∧ n ≤ 4000000 then (xG n.toNat, 0) else (⟨#[]⟩, 4)
def vL (t : ByteArray) : ByteArray := xG t.size ++ t
def kV (n : Int) : ByteArray := xG (if n < 0 then -2 * n - 1 else 2 * n).toNat
def wZ (t : ByteArray) (at_ : Nat) : Nat → Nat → Nat → Nat → Nat × Nat × Bool
 | 0, _, _, _ => (0, 0, false)
 | f + 1, i, n, u => if h : i < t.size then (if (t[i]).toNat < 128 then (n + (t[i]).toNat % 128 * u, i + 1, decide (n + (t[i]).toNat % 128 * u ≤ 4000000) && (decide (0 < (t[i]).toNat) || decide (i = at_))) else wZ t at_ f (i + 1) (n + (t[i]).toNat % 128 * u) (u * 128)) else (0, 0, false)
def zJ (t : ByteArray) (at_ : Nat) : Nat × Nat × Bool := wZ t at_ 4 at_ 0 1
def aE0 (t : ByteArray) (at_ : Int) : Int × Int × Int := if 65536 < t.size then (0, 0, 2) else if 0 ≤ at_ ∧ at_ ≤ (t.size : Int) then (if (zJ t at_.toNat).2.2 = true then ((zJ t at_.toNat).1, (zJ t at_.toNat).2.1, 0) else (0, 0, 3)) else (0, 0, 8)
def aCL (l : List UInt8) : Int := l.foldl (fun n b => (n * 31 + (b.toNat : Int) + 1) % 1000003) 1
def uV (t : ByteArray) : Int := aCL t.data.toList
def aEZ (t : ByteArray) : Int × Int := if 65536 < t.size then (0, 2) else (uV t, 0)
theorem aAn (l : List UInt8) : 0 ≤ aCL l ∧ aCL l ≤ 1000003 := by
 unfold aCL
 have : ∀ (l : List UInt8) (n : Int), 0 ≤ n → n ≤ 1000003 → 0 ≤ l.foldl (fun n b => (n * 31 + (b.toNat : Int) + 1) % 1000003) n ∧ l.foldl (fun n b => (n * 31 + (b.toNat : Int) + 1) % 1000003) n ≤ 1000003 := by
  intro l
  induction l with
  | nil => intro n h1 h2; exact ⟨h1, h2⟩
  | cons b l ih => intro n h1 h2; exact ih ((n * 31 + (b.toNat : Int) + 1) % 1000003) (by omega) (by omega)
 exact this l 1 (by omega) (by omega)
theorem aIb {t : ByteArray} {i : Nat} (h : i < t.size) : aCL (t.data.toList.take (i + 1)) = (aCL (t.data.toList.take i) * 31 + ((t[i]).toNat : Int) + 1) % 1000003 := by
 have hl : i < t.data.toList.length := by rw [Array.length_toList]; exact h
 unfold aCL
 rw [List.take_succ_eq_append_getElem hl, List.foldl_append]
 rfl
attribute [local irreducible] xI xO xQ xX yG Pre ACG
theorem aQg {n : Int} : AC Tryz.prog 6 [.v (.int .i64 n)] ⟨.tup [.v (.string (aES n).1), .v (.int .i64 (aES n).2)], []⟩ := by
 unfold aES
 by_cases h : 0 ≤ n ∧ n ≤ 4000000
 · obtain ⟨m, rfl⟩ : ∃ m : Nat, n = m := ⟨n.toNat, by omega⟩
   rw [if_pos h]
   have c1 := zf (n := m) (by omega)
   refine qrf Tryz.func6 Tryz.ntmps6 Tryz.results6 ?_; conv => whnf
   repeat ((first | refine qz ?_ | refine qc (vV h.1 h.2) ?_ | refine qc (c1) ?_); conv => whnf)
   exact zR rfl rfl
 · rw [if_neg h]
   refine qrf Tryz.func6 Tryz.ntmps6 Tryz.results6 ?_; conv => whnf
   repeat ((first | refine qz ?_ | refine qc (aBX h) ?_); conv => whnf)
   exact zR rfl rfl
theorem aGE {t : ByteArray} (ht : t.size ≤ 268435455) : AC Tryz.prog 70 [.v (.string t)] ⟨.v (.string (vL t)), []⟩ := by
 have c1 := zf ht
 have h4 := aEF ht
 have hs : (xG t.size).size ≤ 4 := h4
 refine qrf Tryz.func70 Tryz.ntmps70 Tryz.results70 ?_; conv => whnf
 repeat ((first | refine qz ?_ | refine qc (c1) ?_ | refine qp (xC (qQ (by omega)) rfl rfl rfl) ?_); conv => whnf)
 exact xD rfl trivial
theorem aJT {n : Int} (h0 : -1000000 ≤ n) (h1 : n ≤ 1000000) : AC Tryz.prog 71 [.v (.int .i64 n)] ⟨.v (.string (kV n)), []⟩ := by
 unfold kV
 by_cases h : n < 0
 · rw [if_pos h]
   have c1 := zf (n := (-2 * n - 1).toNat) (by omega)
   refine qrf Tryz.func71 Tryz.ntmps71 Tryz.results71 ?_; conv => whnf
   repeat ((first | refine qp (xC (uh (c := -2 * n) rfl (by omega) (by omega)) rfl rfl rfl) ?_ | refine qp (xC (yU (c := (((-2 * n - 1).toNat : Nat) : Int)) (by omega) (by omega) (by omega)) rfl rfl rfl) ?_ | refine qz ?_ | refine qc (c1) ?_); conv => whnf)
   exact xD rfl trivial
 · rw [if_neg h]
   have c1 := zf (n := (2 * n).toNat) (by omega)
   refine qrf Tryz.func71 Tryz.ntmps71 Tryz.results71 ?_; conv => whnf
   repeat ((first | refine qp (xC (uh (c := (((2 * n).toNat : Nat) : Int)) (by omega) (by omega) (by omega)) rfl rfl rfl) ?_ | refine qz ?_ | refine qc (c1) ?_); conv => whnf)
   exact xD rfl trivial
theorem aDu {t : ByteArray} (ht : t.size ≤ maxLen) : AC Tryz.prog 51 [.v (.string t)] ⟨.v (.int .i64 (uV t)), []⟩ := by
 unfold maxLen at ht
 refine qrf Tryz.func51 Tryz.ntmps51 Tryz.results51 ?_; conv => whnf
 refine xZ (ι := { i : Nat // i ≤ t.size }) (fun i => ⟨[(0, .v (.string t)), (3, .v (.int .i64 (aCL (t.data.toList.take i.1)))), (4, .v (.int .i64 (i.1 : Int)))], []⟩) (fun i => t.size - i.1) ⟨0, Nat.zero_le _⟩ (by exact qle) ?_
 rintro ⟨i, hi⟩
 dsimp only
 conv => whnf
 by_cases hlt : i < t.size
 · have hs := aIb hlt
   have hb := aAn (t.data.toList.take i)
   have h8 := (t[i]).toNat_lt
   generalize aCL (t.data.toList.take i) = m at hs hb ⊢
   repeat ((first | refine qp (xC (uh (c := m * 31) rfl (by omega) (by omega)) rfl rfl rfl) ?_ | refine qz ?_ | refine qp (kC (xH 9) rfl rfl hlt) ?_ | refine qp (aCY rfl h8) ?_ | refine qp (xC (vE (by omega) (by omega) hs.symm) rfl rfl rfl) ?_); conv => whnf)
   exact ⟨⟨i + 1, hlt⟩, by exact qle, by simp; omega⟩
 · have e : i = t.size := by omega
   subst e
   have hall : t.data.toList.take t.size = t.data.toList := List.take_of_length_le (by rw [Array.length_toList]; exact Nat.le_refl _)
   repeat ((refine qz ?_; conv => whnf))
   rw [hall]
   exact xD rfl trivial
theorem aNY {t : ByteArray} (ht : t.size ≤ maxLen) : AC Tryz.prog 19 [.v (.string t)] ⟨.tup [.v (.int .i64 (aEZ t).1), .v (.int .i64 (aEZ t).2)], []⟩ := by
 have c1 := aDu ht
 unfold maxLen at ht
 unfold aEZ
 by_cases h : 65536 < t.size
 · rw [if_pos h]
   refine qrf Tryz.func19 Tryz.ntmps19 Tryz.results19 ?_; conv => whnf
   repeat ((refine qz ?_; conv => whnf))
   exact zR rfl rfl
 · rw [if_neg h]
   refine qrf Tryz.func19 Tryz.ntmps19 Tryz.results19 ?_; conv => whnf
   repeat ((first | refine qz ?_ | refine qc (c1) ?_); conv => whnf)
   exact zR rfl rfl
set_option maxHeartbeats 8000000 in
theorem aMU {t : ByteArray} {at_ : Nat} (ht : t.size ≤ maxLen) (ha : at_ ≤ 1000000000) : AC Tryz.prog 128 [.v (.string t), .v (.int .i64 (at_ : Int))] ⟨.tup [.v (.int .i64 ((zJ t at_).1 : Int)), .v (.int .i64 ((zJ t at_).2.1 : Int)), .v (.bool (zJ t at_).2.2)], []⟩ := by
 unfold maxLen at ht
 refine qrf Tryz.func128 Tryz.ntmps128 Tryz.results128 ?_; conv => whnf
 refine xZ (ι := { p : Nat × Nat × Nat × Nat // p.1 ≤ 4 ∧ p.2.1 = at_ + (4 - p.1) ∧ p.2.2.1 < p.2.2.2 ∧ p.2.2.2 * 128 ^ p.1 = 268435456 ∧ wZ t at_ p.1 p.2.1 p.2.2.1 p.2.2.2 = zJ t at_ }) (fun p => ⟨[(0, .v (.string t)), (1, .v (.int .i64 (at_ : Int))), (7, .v (.int .i64 (p.1.2.2.1 : Int))), (8, .v (.int .i64 (p.1.2.2.2 : Int))), (9, .v (.int .i64 (p.1.2.1 : Int)))], []⟩) (fun p => p.1.1) ⟨(4, at_, 0, 1), by simp, by simp, by simp, by simp, by simp [zJ]⟩ (by exact qle) ?_
 rintro ⟨⟨f, i, n, u⟩, hf, hi, hn, hu, hr⟩
 dsimp only at hf hi hn hu hr ⊢
 conv => whnf
 cases f with
 | zero =>
  rw [← hr]
  by_cases hlt : i < t.size
  · repeat ((refine qz ?_; conv => whnf))
    exact wV rfl rfl rfl
  · repeat ((refine qz ?_; conv => whnf))
    exact wV rfl rfl rfl
 | succ f =>
  unfold wZ at hr
  by_cases hlt : i < t.size
  case neg =>
   rw [dif_neg hlt] at hr
   rw [← hr]
   repeat ((refine qz ?_; conv => whnf))
   exact wV rfl rfl rfl
  rw [dif_pos hlt] at hr
  have h8 := (t[i]).toNat_lt
  have hu2 : u ≤ 2097152 := by
   have h1 : 128 ≤ 128 ^ (f + 1) := by rw [Nat.pow_succ]; have := Nat.pow_pos (n := f) (show 0 < 128 by omega); omega
   have h2 := Nat.mul_le_mul_left u h1
   omega
  have hM : (t[i]).toNat % 128 * u ≤ 127 * u := Nat.mul_le_mul_right u (by omega)
  obtain ⟨M, eM⟩ : ∃ M, (t[i]).toNat % 128 * u = M := ⟨_, rfl⟩
  rw [eM] at hr hM
  have hmul : (((t[i]).toNat % 128 : Nat) : Int) * (u : Int) = (M : Int) := by rw [← eM]; simp
  have hv : u * 128 * 128 ^ f = 268435456 := by rw [Nat.mul_assoc, Nat.mul_comm 128, ← Nat.pow_succ]; exact hu
  clear hu eM
  by_cases hb : (t[i]).toNat < 128
  · rw [if_pos hb] at hr
    rw [← hr]
    cases d1 : decide (n + M ≤ 4000000) <;> cases d2 : decide (0 < (t[i]).toNat) <;> cases d3 : decide (i = at_)
    all_goals
     simp only [decide_eq_true_eq, decide_eq_false_iff_not] at d1 d2 d3
     simp only [Bool.and_true, Bool.true_and, Bool.or_true, Bool.true_or, Bool.or_false, Bool.false_or, Bool.and_false, Bool.false_and]
     repeat ((first | refine qp (kC (xH 9) rfl rfl hlt) ?_ | refine qp (aCY rfl h8) ?_ | refine qp (xC (vE (c := (((t[i]).toNat % 128 : Nat) : Int)) (by omega) (by omega) (by omega)) rfl rfl rfl) ?_ | refine qp (xC (uh hmul (by omega) (by omega)) rfl rfl rfl) ?_ | refine qp (xC (uh (c := ((u * 128 : Nat) : Int)) (by omega) (by omega) (by omega)) rfl rfl rfl) ?_ | refine qp (xC (zN (c := ((n + M : Nat) : Int)) (by omega) (by omega) (by omega)) rfl rfl rfl) ?_ | refine qz ?_); conv => whnf)
     exact wV rfl rfl rfl
  · rw [if_neg hb] at hr
    repeat ((first | refine qp (kC (xH 9) rfl rfl hlt) ?_ | refine qp (aCY rfl h8) ?_ | refine qp (xC (vE (c := (((t[i]).toNat % 128 : Nat) : Int)) (by omega) (by omega) (by omega)) rfl rfl rfl) ?_ | refine qp (xC (uh hmul (by omega) (by omega)) rfl rfl rfl) ?_ | refine qp (xC (uh (c := ((u * 128 : Nat) : Int)) (by omega) (by omega) (by omega)) rfl rfl rfl) ?_ | refine qp (xC (zN (c := ((n + M : Nat) : Int)) (by omega) (by omega) (by omega)) rfl rfl rfl) ?_ | refine qz ?_); conv => whnf)
    exact ⟨⟨(f, i + 1, n + M, u * 128), by dsimp only; omega, by dsimp only; omega, by dsimp only; omega, hv, hr⟩, by exact qle, by dsimp only; omega⟩
end Go.Proofs.YtfomjajdfaoogaaGreatDoor.AM
namespace Go.Proofs.YtfomjajdfaoogaaGreatDoor.AM
open Go Go.RowKit
theorem aMI {t : ByteArray} {a : Nat} : ∀ {f i n u : Nat}, (wZ t a f i n u).2.2 = true → (wZ t a f i n u).2.1 ≤ t.size ∧ i < (wZ t a f i n u).2.1 ∧ (wZ t a f i n u).1 ≤ 4000000
 | 0, i, n, u, h => by simp [wZ] at h
 | f + 1, i, n, u, h => by
  unfold wZ at h ⊢
  split at h
  · rename_i hi
    rw [dif_pos hi]
    split at h
    · rename_i hb
      rw [if_pos hb]
      simp only [Bool.and_eq_true, decide_eq_true_eq] at h
      exact ⟨hi, Nat.lt_succ_self _, h.1⟩
    · rename_i hb
      rw [if_neg hb]
      have := aMI h
      exact ⟨this.1, by omega, this.2.2⟩
  · simp at h
theorem aSE {t : ByteArray} {a : Nat} (h : (zJ t a).2.2 = true) : (zJ t a).2.1 ≤ t.size ∧ a < (zJ t a).2.1 ∧ (zJ t a).1 ≤ 4000000 := aMI h
abbrev Rds := Nat × Bool
def rdN (t : ByteArray) (s : Rds) : Nat × Rds := if s.2 = true ∨ (zJ t s.1).2.2 = false then (0, (s.1, true)) else ((zJ t s.1).1, ((zJ t s.1).2.1, false))
def rdC (t : ByteArray) (most : Nat) (s : Rds) : Nat × Rds := if most < (rdN t s).1 then (0, ((rdN t s).2.1, true)) else rdN t s
def rdW (t : ByteArray) (s : Rds) : ByteArray × Rds := if (rdC t 12 s).2.2 = true ∨ t.size < (rdC t 12 s).2.1 + (rdC t 12 s).1 then (⟨#[]⟩, ((rdC t 12 s).2.1, true)) else (t.extract (rdC t 12 s).2.1 ((rdC t 12 s).2.1 + (rdC t 12 s).1), ((rdC t 12 s).2.1 + (rdC t 12 s).1, false))
def rdS (t : ByteArray) (s : Rds) : Int × Rds := (if (rdN t s).1 % 2 = 1 then -((((rdN t s).1 + 1) / 2 : Nat) : Int) else (((rdN t s).1 / 2 : Nat) : Int), (rdN t s).2)
def zL (t : ByteArray) (s : Rds) : Prop := t.size ≤ 1000000 ∧ s.1 ≤ t.size
theorem uw {t : ByteArray} {s : Rds} (h : zL t s) : zL t (rdN t s).2 ∧ (rdN t s).1 ≤ 4000000 := by
 unfold rdN
 split
 · exact ⟨h, by simp⟩
 · rename_i hn
   have h2 : (zJ t s.1).2.2 = true := by
    cases hb : (zJ t s.1).2.2 with
    | true => rfl
    | false => exact absurd (.inr hb) hn
   have := aSE h2
   exact ⟨⟨h.1, this.1⟩, this.2.2⟩
theorem zY {t : ByteArray} {m : Nat} {s : Rds} (h : zL t s) : zL t (rdC t m s).2 ∧ (rdC t m s).1 ≤ m := by
 have := uw h
 unfold rdC
 split
 · exact ⟨this.1, by simp⟩
 · exact ⟨this.1, by omega⟩
theorem aAR {t : ByteArray} {s : Rds} (h : zL t s) : zL t (rdW t s).2 := by
 have := (zY (m := 12) h).1
 unfold rdW
 split
 · exact this
 · rename_i hn
   exact ⟨h.1, by have : ¬ (t.size < (rdC t 12 s).2.1 + (rdC t 12 s).1) := fun q => hn (.inr q); dsimp only; omega⟩
theorem aK7 {t : ByteArray} {s : Rds} (h : zL t s) : zL t (rdS t s).2 := (uw h).1
def aUA (t : ByteArray) (s : Rds) : AV := .agg [.v (.string t), .v (.int .i64 (s.1 : Int)), .v (.bool s.2)]
abbrev aAS (t : ByteArray) (s : Rds) : OB := ⟨137, 3, [aUA t s]⟩
theorem wP {s : St} {Θ : Tab} {r : Nat} {v : Value} {o1 : OB} (h1 : s.sl r = .v v) (h2 : s.hp 0 = some o1) : xX Θ [.tmp r] [o1] ⟨.v v, []⟩ .ret s := ⟨⟨h2, trivial⟩, [], by simp, trivial, ⟨trivial, trivial⟩, trivial, ⟨.inl ⟨h1, rfl⟩, trivial⟩⟩
section
variable {Θ : Tab} {s : St} {d : Option Tmp} {ty : TypeId} {pos : String} {after : Array Edge} {g : Option (Nat × Bool)}
theorem aQ3 {x lo hi : Operand} {a : ByteArray} {k k' : IntKind} {i j : Nat} (hij : i ≤ j) (hj : j ≤ a.size) (hx : s.ev x = .v (.string a)) (hl : s.ev lo = .v (.int k (i : Int))) (hh : s.ev hi = .v (.int k' (j : Int))) : Pre Tryz.prog Θ ⟨d, .slice 9 x (some lo) (some hi) none, ty, pos, after, g⟩ s ⟨.v (.string (a.extract i j)), none⟩ := by
 refine .inl ⟨.string a, .string (a.extract i j), by rw [hx]; rfl, fun y hy => ?_, fun w => ?_, rfl, rfl⟩
 · simp only [Option.toList, List.append_nil, List.cons_append, List.nil_append, List.mem_cons, List.not_mem_nil, or_false] at hy
   rcases hy with rfl | rfl
   · rw [hl]; rfl
   · rw [hh]; rfl
 · simp only [Option.map_some, Option.map_none, hl, hh, y9, Option.getD_some]
   rw [run_sliceAt_string w _ _ _ _ _ Tryz.underlying9]
   have := run_slice_string (P := Tryz.prog) w 9 a k k' (i : Int) (j : Int) Tryz.underlying9 (by omega) (by omega) (by omega)
   simpa using this
theorem aQ1 {x : Operand} {a c : Int} (h : c = -a) (hl : -9223372036854775808 ≤ c) (hu : c ≤ 9223372036854775807) {t : TypeId} (hx : s.ev x = .v (.int .i64 a)) : Pre Tryz.prog Θ ⟨d, .unOp .neg t x, ty, pos, after, g⟩ s ⟨.v (.int .i64 c), none⟩ := by
 refine ⟨_, _, by rw [hx]; rfl, fun w => ?_, rfl, rfl⟩
 subst h
 have hw : IntKind.i64.wrap (-a) = -a := by rw [IntKind.wrap_i64]; omega
 simp [Op.unary, Op.intArith, hw]
theorem aN4 {P : Program} {t : TypeId} {x y : Operand} {a b c : Int} (h0 : 0 ≤ a) (h1 : a ≤ 1000000000000) (hb : 1 < b) (hc : a / b = c) : yh P .quo t x y (.int .i64 (-a)) (.int .i64 b) (.int .i64 (-c)) := fun w => by
 have hb0 : b ≠ 0 := by omega
 have hle : a / b ≤ a := Int.ediv_le_self b h0
 have hnn : 0 ≤ a / b := Int.ediv_nonneg h0 (by omega)
 have hw : IntKind.i64.wrap (-a.tdiv b) = -c := by rw [Int.tdiv_eq_ediv_of_nonneg h0, IntKind.wrap_i64, hc]; omega
 have hr : (Op.intDiv .quo .i64 (-a) b).run P w = .ok (.int .i64 (-c)) w := by simp [Op.intDiv, hb0, hw]
 simp [eqGuard, binOp, hr]
end
attribute [local irreducible] xI xO xQ xX yG Pre ACG
theorem aCh {t : ByteArray} {s : Rds} (h : zL t s) : ACG Tryz.prog 97 [.optr 0 0 [] 0] [aAS t s] [aAS t (rdN t s).2] ⟨.v (.int .i64 ((rdN t s).1 : Int)), []⟩ := by
 have c1 := aMU (t := t) (at_ := s.1) (by unfold maxLen; have := h.1; omega) (by have := h.1; have := h.2; omega)
 unfold rdN
 obtain ⟨a, bad⟩ := s
 dsimp only at c1 ⊢
 generalize zJ t a = R at c1 ⊢
 obtain ⟨n, nx, ok⟩ := R
 dsimp only at c1 ⊢
 refine xL (rs := [.tmp 2]) xH (by kernel_rfl) Tryz.func97 rfl Tryz.ntmps97 (by rw [Tryz.results97]) (by kernel_rfl) (by simp) rfl rfl (xA _ _ _ ?_); conv => whnf
 cases bad <;> cases ok
 all_goals
  repeat ((first | refine qz ?_ | refine qdr ?_ | refine qc (c1) ?_ | refine qst ?_); conv => whnf)
  exact wP rfl rfl
theorem aDv {t : ByteArray} {s : Rds} {m : Nat} (h : zL t s) (hm : m ≤ 1000000) : ACG Tryz.prog 94 [.optr 0 0 [] 0, .v (.int .i64 (m : Int))] [aAS t s] [aAS t (rdC t m s).2] ⟨.v (.int .i64 ((rdC t m s).1 : Int)), []⟩ := by
 have c1 := aCh h
 have hb := (uw h).2
 unfold rdC
 generalize rdN t s = R at c1 hb ⊢
 obtain ⟨n, a, bad⟩ := R
 dsimp only at c1 hb ⊢
 by_cases hc : m < n
 · rw [if_pos hc]
   refine xL (rs := [.tmp 4]) xH (by kernel_rfl) Tryz.func94 rfl Tryz.ntmps94 (by rw [Tryz.results94]) (by kernel_rfl) (by simp) rfl rfl (xA _ _ _ ?_); conv => whnf
   repeat ((first | refine qz ?_ | refine qdr ?_ | refine qg [0] (c1) ?_ | refine qst ?_); conv => whnf)
   exact wP rfl rfl
 · rw [if_neg hc]
   refine xL (rs := [.tmp 4]) xH (by kernel_rfl) Tryz.func94 rfl Tryz.ntmps94 (by rw [Tryz.results94]) (by kernel_rfl) (by simp) rfl rfl (xA _ _ _ ?_); conv => whnf
   repeat ((first | refine qz ?_ | refine qdr ?_ | refine qg [0] (c1) ?_ | refine qst ?_); conv => whnf)
   exact wP rfl rfl
set_option maxHeartbeats 4000000 in
theorem aSV {t : ByteArray} {s : Rds} (h : zL t s) : ACG Tryz.prog 127 [.optr 0 0 [] 0] [aAS t s] [aAS t (rdS t s).2] ⟨.v (.int .i64 (rdS t s).1), []⟩ := by
 have c1 := aCh h
 have hb := (uw h).2
 unfold rdS
 generalize rdN t s = R at c1 hb ⊢
 obtain ⟨n, a, bad⟩ := R
 dsimp only at c1 hb ⊢
 by_cases hc : n % 2 = 1
 · rw [if_pos hc]
   refine xL (rs := [.tmp 2]) xH (by kernel_rfl) Tryz.func127 rfl Tryz.ntmps127 (by rw [Tryz.results127]) (by kernel_rfl) (by simp) rfl rfl (xA _ _ _ ?_); conv => whnf
   repeat ((first | refine qp (xC (vE (c := ((n % 2 : Nat) : Int)) (by omega) (by omega) (by omega)) rfl rfl rfl) ?_ | refine qp (xC (zN (c := ((n + 1 : Nat) : Int)) (by omega) (by omega) (by omega)) rfl rfl rfl) ?_ | refine qz ?_ | refine qdr ?_ | refine qg [0] (c1) ?_ | refine qp (aQ1 (c := -((n + 1 : Nat) : Int)) rfl (by omega) (by omega) rfl) ?_ | refine qp (xC (aN4 (c := (((n + 1) / 2 : Nat) : Int)) (by omega) (by omega) (by omega) (by omega)) rfl rfl rfl) ?_); conv => whnf)
   exact wP rfl rfl
 · rw [if_neg hc]
   refine xL (rs := [.tmp 2]) xH (by kernel_rfl) Tryz.func127 rfl Tryz.ntmps127 (by rw [Tryz.results127]) (by kernel_rfl) (by simp) rfl rfl (xA _ _ _ ?_); conv => whnf
   repeat ((first | refine qp (xC (vE (c := ((n % 2 : Nat) : Int)) (by omega) (by omega) (by omega)) rfl rfl rfl) ?_ | refine qz ?_ | refine qdr ?_ | refine qg [0] (c1) ?_ | refine qp (xC (aGJ (c := ((n / 2 : Nat) : Int)) (by omega) (by omega) (by omega) (by omega)) rfl rfl rfl) ?_); conv => whnf)
   exact wP rfl rfl
set_option maxHeartbeats 4000000 in
theorem aNX {t : ByteArray} {s : Rds} (h : zL t s) : ACG Tryz.prog 96 [.optr 0 0 [] 0] [aAS t s] [aAS t (rdW t s).2] ⟨.v (.string (rdW t s).1), []⟩ := by
 have c1 := aDv (m := 12) h (by omega)
 have hb := zY (m := 12) h
 have hsz := h.1
 unfold rdW
 generalize rdC t 12 s = R at c1 hb ⊢
 obtain ⟨n, a, bad⟩ := R
 dsimp only at c1 hb ⊢
 obtain ⟨⟨_, hb1⟩, hb2⟩ := hb
 dsimp only at hb1 hb2
 cases bad
 case true =>
  rw [if_pos (.inl rfl)]
  refine xL (rs := [.tmp 2]) xH (by kernel_rfl) Tryz.func96 rfl Tryz.ntmps96 (by rw [Tryz.results96]) (by kernel_rfl) (by simp) rfl rfl (xA _ _ _ ?_); conv => whnf
  repeat ((first | refine qz ?_ | refine qdr ?_ | refine qg [0] (c1) ?_ | refine qst ?_); conv => whnf)
  exact wP rfl rfl
 by_cases hc : t.size < a + n
 · rw [if_pos (.inr hc)]
   refine xL (rs := [.tmp 2]) xH (by kernel_rfl) Tryz.func96 rfl Tryz.ntmps96 (by rw [Tryz.results96]) (by kernel_rfl) (by simp) rfl rfl (xA _ _ _ ?_); conv => whnf
   repeat ((first | refine qp (xC (zN (c := ((a + n : Nat) : Int)) (by omega) (by omega) (by omega)) rfl rfl rfl) ?_ | refine qz ?_ | refine qdr ?_ | refine qg [0] (c1) ?_ | refine qst ?_); conv => whnf)
   exact wP rfl rfl
 · rw [if_neg (by intro q; rcases q with q | q; exact absurd q (by simp); exact hc q)]
   refine xL (rs := [.tmp 2]) xH (by kernel_rfl) Tryz.func96 rfl Tryz.ntmps96 (by rw [Tryz.results96]) (by kernel_rfl) (by simp) rfl rfl (xA _ _ _ ?_); conv => whnf
   repeat ((first | refine qp (xC (zN (c := ((a + n : Nat) : Int)) (by omega) (by omega) (by omega)) rfl rfl rfl) ?_ | refine qp (xC (yU (c := (a : Int)) (by omega) (by omega) (by omega)) rfl rfl rfl) ?_ | refine qp (aQ3 (i := a) (j := a + n) (by omega) (by omega) rfl rfl rfl) ?_ | refine qz ?_ | refine qdr ?_ | refine qg [0] (c1) ?_ | refine qst ?_); conv => whnf)
   exact wP rfl rfl
end Go.Proofs.YtfomjajdfaoogaaGreatDoor.AM
namespace Go.Proofs.YtfomjajdfaoogaaGreatDoor
open Go Go.RowKit
abbrev pvM : Value := .iface 174 (.agg #[])
set_option maxHeartbeats 1000000 in
theorem aRX (w : World) : Calls Tryz.prog 125 #[.bool false] w fun e w' => e = .panicked [{ v := pvM, recovered := false }] ∧ w' = w := by
 have hnot : ∀ (x : Bool) (w : World), (Op.unary .not (.bool x)).run Tryz.prog w = .ok (.bool (!x)) w := fun _ _ => rfl
 go_enter Tryz.func125, Tryz.ntmps125
 go_wp2
 exact ⟨rfl, rfl, rfl⟩
set_option maxHeartbeats 4000000 in
theorem aNG (s : ByteArray) (w : World) (hlim : s.size ≤ 281474976710656) :
 Calls Tryz.prog 146 #[.string s] w fun e w' => e = .returned (.string s) ∧ Below w.heap.size w w' := by
 by_cases h0 : s.size = 0
 · have hs : s = ⟨#[]⟩ := by
    apply ByteArray.ext
    exact Array.eq_empty_of_size_eq_zero h0
   subst hs
   go_enter Tryz.func146, Tryz.ntmps146
   go_wp2
   go_ret
   exact ⟨rfl, Below.refl _ _⟩
 · obtain ⟨i0, hi, hz0, hz1, hz2⟩ := info_parts (show (Tryz.prog.info? 5).map (fun i => (i.zero, i.size, i.bytes)) = some (some (.int .u8 0), 1, 1) from by kernel_rfl)
   have hinfo : (Tryz.prog.info? 5).map (·.size) = some 1 := by rw [hi]; simp [hz1]
   have hco : Tryz.prog.cellsOf 5 = 1 := by kernel_rfl
   have hptr : Tryz.prog.underlying 95 = some (.pointer 5) := by kernel_rfl
   obtain ⟨M, hM⟩ : ∃ M, M = madeCells (Value.int .u8 0).cells (((s.size : Nat) : Int).toNat * i0.size) := ⟨_, rfl⟩
   have hMs : M.size = s.size := by rw [hM, size_madeCells, hz1]; simp
   have hmk : ∀ W : World, (Instr.makeSlice 22 (.int .i64 (s.size : Int)) (.int .i64 (s.size : Int))).run Tryz.prog W = .ok (.slice (some ⟨W.heap.size, 0, none⟩) s.size s.size) (W.alloc (.cells M 5)) := fun W => by
    have h := run_make (P := Tryz.prog) W 22 5 i0 (.int .u8 0) Tryz.underlying22 hi hz0 .i64 .i64 (s.size : Int) (s.size : Int) (by omega) (by omega) (by rw [hz2]; omega) (by omega)
    rw [← hM] at h
    simpa using h
   clear hM
   have hcp := Lib.run_copy_row_string (P := Tryz.prog) (w.alloc (.cells M 5)) 22 9 3 5 w.heap.size 0 s.size s.size s M 5 Tryz.underlying22 hinfo (heap_alloc_new w _) (Nat.le_refl _) (by omega)
   obtain ⟨Y, hY⟩ : ∃ Y, Y = (M.toList.take 0 ++ Lib.byteCells s.data.toList ++ M.toList.drop (0 + s.size)).toArray := ⟨_, rfl⟩
   rw [← hY] at hcp
   have hYl : Y.toList = Lib.byteCells s.data.toList := by
    rw [hY, List.toList_toArray, List.take_zero, List.nil_append, List.drop_of_length_le (by rw [Array.length_toList]; omega), List.append_nil]
   have hYs : Y.size = s.size := by rw [← Array.length_toList, hYl, Lib.byteCells_length, ← Lib.size_eq]
   have hgY : ((w.alloc (.cells M 5)).setRow w.heap.size Y).heap[w.heap.size]? = some (.cells Y 5 (0, 0)) := setRow_heap _ _ M _ 5 (0, 0) (heap_alloc_new w _)
   have hne : s.data.toList ≠ [] := fun e => h0 (by rw [Lib.size_eq, e]; rfl)
   have hUS := Lib.run_unsafeString_row (P := Tryz.prog) ((w.alloc (.cells M 5)).setRow w.heap.size Y) 95 3 9 5 hptr hco w.heap.size Y.size (by unfold World.shape?; rw [hgY]) s.data.toList hne (by rw [← Lib.size_eq]; omega) (by rw [← Lib.size_eq]; omega)
    (fun j x hx => Lib.cells_of_row hgY Y.size j _ (by rw [List.take_of_length_le (by rw [Array.length_toList]; exact Nat.le_refl _), hYl]; simp [Lib.byteCells, hx]))
   rw [← Lib.size_eq] at hUS
   clear hY
   go_enter Tryz.func146, Tryz.ntmps146
   go_wp2
   go_ret
   have hb1 : Below w.heap.size w (w.alloc (.cells M 5)) := (Below.refl _ w).alloc (Nat.le_refl _) _
   have hb2 : Below w.heap.size (w.alloc (.cells M 5)) ((w.alloc (.cells M 5)).setRow w.heap.size Y) := ⟨rfl, rfl, rfl, by simp, fun k hk => setRow_other _ _ _ _ (by omega)⟩
   exact ⟨rfl, Lib.below_freeze (hb1.trans hb2) (p := ⟨w.heap.size, 0, none⟩) (Nat.le_refl _) _⟩
end Go.Proofs.YtfomjajdfaoogaaGreatDoor
namespace Go.Proofs.YtfomjajdfaoogaaGreatDoor.AM
open Go Go.RowKit
theorem aTl {S : Nat → Prop} {w : World} {hp : Nat → Option OB} {B : Nat → Nat} {V : Nat → Value} {x u : Value} (h : RV S w hp B V (.v x) u) : u = x := by unfold RV at h; exact h.1
theorem aMA {S : Nat → Prop} {w : World} {hp : Nat → Option OB} {B : Nat → Nat} {V : Nat → Value} {x : Value} {us : List Value} (h : RVs S w hp B V [.v x] us) : us = [x] := by
 unfold RVs at h
 obtain ⟨u, us', rfl, h1, h2⟩ := h
 unfold RVs at h2
 subst h2
 rw [aTl h1]
theorem aSS {P : Program} {f : FuncId} {args : List AV} {v : Value} (hent : ∀ vs w, (callFunc f vs).run P w = .ok (.enter f vs) w) (hv : v.oneCell' = true)
 (h : ∀ (w : World) (S0 : Nat → Prop) (us : List Value), RVs S0 w (xE 0 []) (fun _ => 0) (fun _ => undef) args us → Calls P f us.toArray w fun e w' => e = .returned v ∧ Below w.heap.size w w') : AC P f args ⟨.v v, []⟩ := by
 refine ⟨hent, fun w S0 B0 V0 T0 vs hS _ _ hv' => (h w S0 vs (aCF (fun _ => rfl) hv')).mono fun e w' ⟨he, hb⟩ => ?_⟩
 exact ⟨v, S0, fun _ => 0, fun _ => undef, fun _ => Fa, fun _ => Fa, he, Grown.of hb _, fun _ h => h, fun b hb' => ⟨Nat.lt_of_lt_of_le (hS b hb') hb.size, .inl hb'⟩, (by unfold RV; exact ⟨rfl, hv⟩), wK j4, wK (fun _ => rfl), fun l l' ob ob' g e => by rw [j4] at e; cases e⟩
theorem aQl {P : Program} {f : FuncId} {args : List AV} {pv : Value} (hent : ∀ vs w, (callFunc f vs).run P w = .ok (.enter f vs) w)
 (h : ∀ (w : World) (S0 : Nat → Prop) (us : List Value), RVs S0 w (xE 0 []) (fun _ => 0) (fun _ => undef) args us → Calls P f us.toArray w fun e w' => e = .panicked [{ v := pv, recovered := false }] ∧ Below w.heap.size w w') : ACP P f args [] pv := by
 refine ⟨hent, fun w S0 B0 V0 T0 vs hS _ _ hv' => (h w S0 vs (aCF (fun _ => rfl) hv')).mono fun e w' ⟨he, hb⟩ => ⟨he, Grown.of hb _⟩⟩
theorem aRI : ∀ vs w, (callFunc 125 vs).run Tryz.prog w = .ok (.enter 125 vs) w := wR Tryz.func125 (by kernel_rfl) (by kernel_rfl)
theorem aB9 : ACP Tryz.prog 125 [.v (.bool false)] [] pvM := by
 refine aQl aRI fun w S0 us hv => ?_
 rw [aMA hv]
 refine (aRX w).mono ?_
 rintro e w' ⟨rfl, rfl⟩
 exact ⟨rfl, Below.refl _ _⟩
theorem aRJ : ∀ vs w, (callFunc 146 vs).run Tryz.prog w = .ok (.enter 146 vs) w := wR Tryz.func146 (by kernel_rfl) (by kernel_rfl)
theorem aNZ {t : ByteArray} (ht : t.size ≤ 1000000) : AC Tryz.prog 146 [.v (.string t)] ⟨.v (.string t), []⟩ := by
 refine aSS aRJ rfl fun w S0 us hv => ?_
 rw [aMA hv]
 exact aNG t w (by omega)
section
variable {P : Program} {t : TypeId} {x y : Operand}
theorem aJC (n : Int) (h0 : 0 ≤ n) (h1 : n < 2 ^ 62) : IntKind.i64.wrap n = n := by rw [IntKind.wrap_i64]; omega
theorem aE7 {n : Nat} (h : n < 2 ^ 62) {c : Int} (hc : c = ((n % 128 : Nat) : Int)) : yh P .and t x y (.int .i64 (n : Int)) (.int .i64 127) (.int .i64 c) := fun w => by
 have := bits_mask .i64 62 (by decide) aJC 7 (by decide) (n : Int) (by omega) (by exact_mod_cast h)
 have e : bits .and .i64 (n : Int) 127 = c := by rw [show (127 : Int) = 2 ^ 7 - 1 from by decide, this, hc]; omega
 have e2 : Op.intBits .and .i64 (n : Int) 127 = pure (.int .i64 c) := by rw [← e]; rfl
 simp [eqGuard, binOp, e2]
theorem aIr {a b i : Nat} (ha : a < 2 ^ i) (hb : b % 2 ^ i = 0) (hb1 : b < 2 ^ 62) (hi : i ≤ 62) {c : Int} (hc : c = ((a + b : Nat) : Int)) : yh P .or t x y (.int .i64 (a : Int)) (.int .i64 (b : Int)) (.int .i64 c) := fun w => by
 have hai : a < 2 ^ 62 := Nat.lt_of_lt_of_le ha (Nat.pow_le_pow_right (by decide) hi)
 have e : bits .or .i64 (a : Int) (b : Int) = c := by
  rw [(bits_nat .i64 62 (by decide) aJC a b hai hb1).2, hc, Nat.or_comm]
  have hq : b = 2 ^ i * (b / 2 ^ i) := by have := Nat.div_add_mod b (2 ^ i); omega
  rw [hq, ← Nat.two_pow_add_eq_or_of_lt ha (b / 2 ^ i), Nat.add_comm]
 have e2 : Op.intBits .or .i64 (a : Int) (b : Int) = pure (.int .i64 c) := by rw [← e]; rfl
 simp [eqGuard, binOp, e2]
theorem aIs {a : Nat} {i : Int} (h0 : 0 ≤ i) (hi : i ≤ 30) (ha : a < 128) {c : Int} (hc : c = (a : Int) * 2 ^ i.toNat) : yh P .shl t x y (.int .i64 (a : Int)) (.int .i64 i) (.int .i64 c) := fun w => by
 have h1 : (2 : Int) ^ i.toNat ≤ 2 ^ 30 := by exact_mod_cast Nat.pow_le_pow_right (show 0 < 2 by decide) (show i.toNat ≤ 30 by omega)
 have h2 : (0 : Int) ≤ 2 ^ i.toNat := Int.pow_nonneg (by decide)
 have h3 : c ≤ 127 * 2 ^ 30 := by
  rw [hc]
  exact Int.mul_le_mul (by omega) h1 h2 (by decide)
 have h4 : 0 ≤ c := by rw [hc]; exact Int.mul_nonneg (by omega) h2
 have e : Op.shift .shl .i64 (a : Int) .i64 i = pure (.int .i64 c) := by
  rw [shift_shl .i64 .i64 (a : Int) i h0 (by have : IntKind.i64.bits = 64 := rfl; omega), ← hc, aJC c h4 (by omega)]
 simp [eqGuard, binOp]
 first | (rw [← hc]; exact aJC c h4 (by omega)) | (rw [e]; rfl)
end
theorem aTE {P : Program} {Θ : Tab} {s : St} {d : Option Tmp} {ty : TypeId} {pos : String} {after : Array Edge} {g : Option (Nat × Bool)} {y : Operand} {ts : Array TypeId} {b c : Int} (hy : s.ev y = .v (.int .i64 b)) (hc : c = if b < 4 then b else 4) : Pre P Θ ⟨d, .call ⟨.builtin .min, #[.const (.int .i64 4), y], ts⟩, ty, pos, after, g⟩ s ⟨.v (.int .i64 c), none⟩ := by
 refine ⟨[.int .i64 4, .int .i64 b], .int .i64 c, ?_, fun w => ?_, rfl, rfl⟩
 · have h1 : y9 (s.ev y) = some (.int .i64 b) := by rw [hy]; rfl
   have h0 : y9 (s.ev (.const (.int .i64 4))) = some (.int .i64 4) := rfl
   simp [h0, h1]
 · subst hc
   simp [builtin, run_min_int2]
theorem aRc {s : St} {Θ : Tab} : xX Θ [] [] ⟨.tup [], []⟩ .normal s := ⟨trivial, [], by simp, trivial, trivial, ⟨_, rfl⟩, trivial⟩
theorem aOy {t : ByteArray} {a f i n u : Nat} (h : i < t.size) : wZ t a (f + 1) i n u = if (t[i]).toNat < 128 then (n + (t[i]).toNat % 128 * u, i + 1, decide (n + (t[i]).toNat % 128 * u ≤ 4000000) && (decide (0 < (t[i]).toNat) || decide (i = a))) else wZ t a f (i + 1) (n + (t[i]).toNat % 128 * u) (u * 128) := by
 rw [wZ, dif_pos h]
theorem aQG {t : ByteArray} {a f i n u : Nat} (h : f = 0 ∨ ¬ i < t.size) : wZ t a f i n u = (0, 0, false) := by
 cases f with
 | zero => rfl
 | succ f => rw [wZ, dif_neg (by omega)]
attribute [local irreducible] xI xO xQ xX yG Pre ACG
theorem aE4 : AC Tryz.prog 125 [.v (.bool true)] ⟨.tup [], []⟩ := by
 refine xL (rs := []) xH (by kernel_rfl) Tryz.func125 rfl Tryz.ntmps125 (by rw [Tryz.results125]) (by kernel_rfl) (by simp) rfl rfl (xA _ _ _ ?_)
 conv => whnf
 repeat ((refine qz ?_; conv => whnf))
 exact aRc
theorem aPA {t : ByteArray} (ht : t.size ≤ 1000000) : AC Tryz.prog 133 [.v (.string t)] ⟨.v (.string t), []⟩ := by
 have c1 := aNZ ht
 refine qrf Tryz.func133 Tryz.ntmps133 Tryz.results133 ?_; conv => whnf
 repeat ((first | refine qz ?_ | refine qc (c1) ?_); conv => whnf)
 exact xD rfl trivial
set_option maxHeartbeats 8000000 in
theorem aF1 {t : ByteArray} {x : Int} (ht : t.size ≤ maxLen) : AC Tryz.prog 7 [.v (.string t), .v (.int .i64 x)] ⟨.tup [.v (.int .i64 (aE0 t x).1), .v (.int .i64 (aE0 t x).2.1), .v (.int .i64 (aE0 t x).2.2)], []⟩ := by
 have ht' := ht
 unfold maxLen at ht'
 unfold aE0
 by_cases h0 : 65536 < t.size
 · rw [if_pos h0]
   refine qrf Tryz.func7 Tryz.ntmps7 Tryz.results7 ?_; conv => whnf
   repeat ((refine qz ?_; conv => whnf))
   exact wV rfl rfl rfl
 rw [if_neg h0]
 by_cases h1 : 0 ≤ x ∧ x ≤ (t.size : Int)
 case neg =>
  rw [if_neg h1]
  by_cases h2 : x < 0
  · refine qrf Tryz.func7 Tryz.ntmps7 Tryz.results7 ?_; conv => whnf
    repeat ((refine qz ?_; conv => whnf))
    exact wV rfl rfl rfl
  · refine qrf Tryz.func7 Tryz.ntmps7 Tryz.results7 ?_; conv => whnf
    repeat ((refine qz ?_; conv => whnf))
    exact wV rfl rfl rfl
 rw [if_pos h1]
 obtain ⟨m, rfl⟩ : ∃ m : Nat, x = m := ⟨x.toNat, by omega⟩
 have hm : m ≤ t.size := by omega
 rw [Int.toNat_natCast]
 obtain ⟨mn, hmn, hmn1, hmn2, hmn3⟩ : ∃ mn : Nat, (mn : Int) = (if (t.size : Int) - (m : Int) < 4 then (t.size : Int) - (m : Int) else 4) ∧ mn ≤ 4 ∧ m + mn ≤ t.size ∧ (mn = 4 ∨ m + mn = t.size) := by
  by_cases hlt : (t.size : Int) - (m : Int) < 4
  · exact ⟨t.size - m, by rw [if_pos hlt]; omega, by omega, by omega, by omega⟩
  · exact ⟨4, by rw [if_neg hlt]; rfl, by omega, by omega, by omega⟩
 refine qrf Tryz.func7 Tryz.ntmps7 Tryz.results7 ?_; conv => whnf
 repeat ((first | refine qz ?_ | refine qp (aTE rfl hmn) ?_); conv => whnf)
 refine xZ (ι := { p : Nat × Nat × Nat // p.1 ≤ mn ∧ p.2.1 < p.2.2 ∧ (p.1 = 0 ∧ p.2.2 = 1 ∨ p.1 = 1 ∧ p.2.2 = 128 ∨ p.1 = 2 ∧ p.2.2 = 16384 ∨ p.1 = 3 ∧ p.2.2 = 2097152 ∨ p.1 = 4 ∧ p.2.2 = 268435456) ∧ wZ t m (4 - p.1) (m + p.1) p.2.1 p.2.2 = zJ t m }) (fun p => ⟨[(0, .v (.string t)), (1, .v (.int .i64 (m : Int))), (7, .v (.int .i64 (p.1.2.1 : Int))), (25, .v (.int .i64 (mn : Int))), (26, .v (.int .i64 (p.1.1 : Int)))], []⟩) (fun p => mn - p.1.1) ⟨(0, 0, 1), by simp, by simp, by simp, rfl⟩ (by exact qle) ?_
 rintro ⟨⟨k, n, u⟩, hk, hn, hu, hr⟩
 dsimp only at hk hn hu hr ⊢
 conv => whnf
 by_cases hlt : k < mn
 case neg =>
  rw [aQG (by omega)] at hr
  rw [← hr]
  repeat ((refine qz ?_; conv => whnf))
  exact wV rfl rfl rfl
 have hi : m + k < t.size := by omega
 obtain ⟨f, hf⟩ : ∃ f, 4 - k = f + 1 := ⟨3 - k, by omega⟩
 rw [hf, aOy hi] at hr
 have h8 := (t[m + k]).toNat_lt
 have hu7 : u = 2 ^ (7 * k) := by rcases hu with ⟨rfl, rfl⟩ | ⟨rfl, rfl⟩ | ⟨rfl, rfl⟩ | ⟨rfl, rfl⟩ | ⟨rfl, rfl⟩ <;> rfl
 have hu21 : u ≤ 2097152 := by omega
 have hM : (t[m + k]).toNat % 128 * u ≤ 127 * u := Nat.mul_le_mul_right u (by omega)
 have hM0 : (t[m + k]).toNat % 128 * u % 2 ^ (7 * k) = 0 := by rw [← hu7]; exact Nat.mul_mod_left _ _
 have hshl : (((t[m + k]).toNat % 128 * u : Nat) : Int) = (((t[m + k]).toNat % 128 : Nat) : Int) * 2 ^ (((7 * k : Nat) : Int)).toNat := by
  rw [Int.toNat_natCast, hu7]; push_cast; rfl
 have hpos : 0 < (t[m + k]).toNat % 128 → u ≤ (t[m + k]).toNat % 128 * u := fun h => Nat.le_mul_of_pos_left u h
 have hzero : (t[m + k]).toNat % 128 = 0 → (t[m + k]).toNat % 128 * u = 0 := fun h => by rw [h]; omega
 obtain ⟨M, eM⟩ : ∃ M, (t[m + k]).toNat % 128 * u = M := ⟨_, rfl⟩
 rw [eM] at hr hM hM0 hshl hpos hzero
 have hn7 : n < 2 ^ (7 * k) := by rw [← hu7]; exact hn
 obtain ⟨L, hL1, hL2⟩ : ∃ L : Nat, (L = if k = 0 then 0 else u) ∧ ([.v (.int .i64 0), .v (.int .i64 128), .v (.int .i64 16384), .v (.int .i64 2097152)] : List AV)[k]? = some (.v (.int .i64 (L : Int))) := by
  refine ⟨if k = 0 then 0 else u, rfl, ?_⟩
  rcases hu with ⟨rfl, rfl⟩ | ⟨rfl, rfl⟩ | ⟨rfl, rfl⟩ | ⟨rfl, rfl⟩ | ⟨rfl, rfl⟩ <;> first | rfl | omega
 have hbound : M < 2 ^ 62 := by omega
 clear hu7 eM
 by_cases hb : (t[m + k]).toNat < 128
 · rw [if_pos hb] at hr
   by_cases h4 : n + M ≤ 4000000
   · by_cases h5 : n + M < L
     · have hv : (decide (n + M ≤ 4000000) && (decide (0 < (t[m + k]).toNat) || decide (m + k = m))) = false := by
        by_cases hk0 : k = 0
        · rw [if_pos hk0] at hL1; omega
        · rw [if_neg hk0] at hL1
          have : (t[m + k]).toNat = 0 := by
           rcases Nat.eq_zero_or_pos ((t[m + k]).toNat % 128) with h | h
           · omega
           · have := hpos h; omega
          simp only [this, Nat.lt_irrefl, decide_false, Bool.false_or, Bool.and_eq_false_iff, decide_eq_false_iff_not]
          right; omega
       rw [hv] at hr
       rw [← hr]
       repeat (first | (refine qp (kC (xH 9) rfl rfl hi) ?_; conv => whnf) | (refine qp (aCY rfl h8) ?_; conv => whnf) | (refine qp (xC (aE7 (by omega) rfl) rfl rfl rfl) ?_; conv => whnf) | (refine qp (xC (aIs (by omega) (by omega) (by omega) hshl) rfl rfl rfl) ?_; conv => whnf) | (refine qp (xC (aIr hn7 hM0 hbound (by omega) rfl) rfl rfl rfl) ?_; conv => whnf) | (refine qp (xC (uh (c := ((7 * k : Nat) : Int)) (by omega) (by omega) (by omega)) rfl rfl rfl) ?_; conv => whnf) | (refine qp (aEp hL2 (by omega) rfl rfl rfl (fun x hx => by simp only [List.mem_cons, List.not_mem_nil, or_false] at hx; rcases hx with rfl | rfl | rfl | rfl <;> rfl)) ?_; conv => whnf) | (refine qz ?_; conv => whnf))
       exact wV rfl rfl rfl
     · have hv : (decide (n + M ≤ 4000000) && (decide (0 < (t[m + k]).toNat) || decide (m + k = m))) = true := by
        by_cases hk0 : k = 0
        · simp [hk0, h4]
        · rw [if_neg hk0] at hL1
          have : 0 < (t[m + k]).toNat := by
           rcases Nat.eq_zero_or_pos ((t[m + k]).toNat % 128) with h | h
           · have := hzero h; omega
           · omega
          simp [h4, this]
       rw [hv] at hr
       rw [← hr]
       repeat (first | (refine qp (kC (xH 9) rfl rfl hi) ?_; conv => whnf) | (refine qp (aCY rfl h8) ?_; conv => whnf) | (refine qp (xC (aE7 (by omega) rfl) rfl rfl rfl) ?_; conv => whnf) | (refine qp (xC (aIs (by omega) (by omega) (by omega) hshl) rfl rfl rfl) ?_; conv => whnf) | (refine qp (xC (aIr hn7 hM0 hbound (by omega) rfl) rfl rfl rfl) ?_; conv => whnf) | (refine qp (xC (uh (c := ((7 * k : Nat) : Int)) (by omega) (by omega) (by omega)) rfl rfl rfl) ?_; conv => whnf) | (refine qp (aEp hL2 (by omega) rfl rfl rfl (fun x hx => by simp only [List.mem_cons, List.not_mem_nil, or_false] at hx; rcases hx with rfl | rfl | rfl | rfl <;> rfl)) ?_; conv => whnf) | (refine qz ?_; conv => whnf))
       exact wV rfl rfl rfl
   · have hv : (decide (n + M ≤ 4000000) && (decide (0 < (t[m + k]).toNat) || decide (m + k = m))) = false := by simp [h4]
     rw [hv] at hr
     rw [← hr]
     repeat (first | (refine qp (kC (xH 9) rfl rfl hi) ?_; conv => whnf) | (refine qp (aCY rfl h8) ?_; conv => whnf) | (refine qp (xC (aE7 (by omega) rfl) rfl rfl rfl) ?_; conv => whnf) | (refine qp (xC (aIs (by omega) (by omega) (by omega) hshl) rfl rfl rfl) ?_; conv => whnf) | (refine qp (xC (aIr hn7 hM0 hbound (by omega) rfl) rfl rfl rfl) ?_; conv => whnf) | (refine qp (xC (uh (c := ((7 * k : Nat) : Int)) (by omega) (by omega) (by omega)) rfl rfl rfl) ?_; conv => whnf) | (refine qp (aEp hL2 (by omega) rfl rfl rfl (fun x hx => by simp only [List.mem_cons, List.not_mem_nil, or_false] at hx; rcases hx with rfl | rfl | rfl | rfl <;> rfl)) ?_; conv => whnf) | (refine qz ?_; conv => whnf))
     exact wV rfl rfl rfl
 · rw [if_neg hb] at hr
   repeat (first | (refine qp (kC (xH 9) rfl rfl hi) ?_; conv => whnf) | (refine qp (aCY rfl h8) ?_; conv => whnf) | (refine qp (xC (aE7 (by omega) rfl) rfl rfl rfl) ?_; conv => whnf) | (refine qp (xC (aIs (by omega) (by omega) (by omega) hshl) rfl rfl rfl) ?_; conv => whnf) | (refine qp (xC (aIr hn7 hM0 hbound (by omega) rfl) rfl rfl rfl) ?_; conv => whnf) | (refine qp (xC (uh (c := ((7 * k : Nat) : Int)) (by omega) (by omega) (by omega)) rfl rfl rfl) ?_; conv => whnf) | (refine qp (aEp hL2 (by omega) rfl rfl rfl (fun x hx => by simp only [List.mem_cons, List.not_mem_nil, or_false] at hx; rcases hx with rfl | rfl | rfl | rfl <;> rfl)) ?_; conv => whnf) | (refine qz ?_; conv => whnf))
   exact ⟨⟨(k + 1, n + M, u * 128), by dsimp only; omega, by dsimp only; omega, by dsimp only; omega, by dsimp only; rw [show 4 - (k + 1) = f by omega]; exact hr⟩, by exact qle, by dsimp only; omega⟩
end Go.Proofs.YtfomjajdfaoogaaGreatDoor.AM
namespace Go.Proofs.YtfomjajdfaoogaaGreatDoor.AM
open Go Go.RowKit
def zq (t : ByteArray) : Nat → Rds → List Int × Rds
 | 0, s => ([], s)
 | n + 1, s => (((rdN t s).1 : Int) :: (zq t n (rdN t s).2).1, (zq t n (rdN t s).2).2)
def ug (t : ByteArray) : Nat → Rds → List Ent × Rds
 | 0, s => ([], s)
 | n + 1, s => (((rdW t s).1, (rdS t (rdW t s).2).1) :: (ug t n (rdS t (rdW t s).2).2).1, (ug t n (rdS t (rdW t s).2).2).2)
def rdM (t : ByteArray) (s : Rds) : Cmt × Rds :=
 (((zq t (rdC t 2 s).1 (rdC t 2 s).2).1, (ug t (rdC t 12 (zq t (rdC t 2 s).1 (rdC t 2 s).2).2).1 (rdC t 12 (zq t (rdC t 2 s).1 (rdC t 2 s).2).2).2).1), (ug t (rdC t 12 (zq t (rdC t 2 s).1 (rdC t 2 s).2).2).1 (rdC t 12 (zq t (rdC t 2 s).1 (rdC t 2 s).2).2).2).2)
theorem aHc {t : ByteArray} : ∀ {n : Nat} {s : Rds}, zL t s → zL t (zq t n s).2 ∧ (zq t n s).1.length = n
 | 0, s, h => ⟨h, rfl⟩
 | n + 1, s, h => by
  have := aHc (n := n) (uw h).1
  exact ⟨this.1, by simp [zq, this.2]⟩
theorem aKT {a t l l1 l2 : Nat} {ob o1 o2 o0 : OB} {t' : Option Nat} {Θ : Tab} {s : St} (h0 : s.hp 0 = some o0) (h1 : s.sl a = .optr l 0 [] 0) (ho : s.hp l = some ob) (hop : ob.e.open_ = false) (hoe : yX ob.e ob.xs 0 = some (.o t' 0 (.mix [.own l1, .own l2]))) (ho1 : s.hp l1 = some o1) (ho2 : s.hp l2 = some o2) (hn : Nat.beq l1 l2 = false) (hk : ((Θ.look t).known && (Θ.look t).isAgg && Nat.beq 2 (Θ.look t).size) = true) (hok1 : okL l1 = true := by rfl) (hok2 : okL l2 = true := by rfl) (hs1 : o1.e.shut = true := by rfl) (hs2 : o2.e.shut = true := by rfl) :
 xX Θ [.cell a t] [o0] ⟨.mix [.own 0, .own 1], [o1, o2]⟩ .ret s := by
 obtain ⟨_, h⟩ := aLh (s := s) (Θ := Θ) h1 ho hop hoe ho1 ho2 hn hk hok1 hok2 hs1 hs2
 exact ⟨⟨h0, trivial⟩, h⟩
attribute [local irreducible] xI xO xQ xX yG Pre ACG
end Go.Proofs.YtfomjajdfaoogaaGreatDoor.AM
namespace Go.Proofs.YtfomjajdfaoogaaGreatDoor.AM
open Go Go.RowKit
def wU (a : ByteArray) (l : List Int) : ByteArray := l.foldl (fun t p => t ++ xG p.toNat) a
def jJ (a : ByteArray) (l : List Ent) : ByteArray := l.foldl (fun t e => t ++ (vL e.1 ++ kV e.2)) a
def zk (c : Cmt) : ByteArray := jJ (wU (xG c.1.length) c.1 ++ xG c.2.length) c.2
theorem jB {α β : Type} {f : β → α → β} {a : β} {l : List α} {i : Nat} (h : i < l.length) : (l.take (i + 1)).foldl f a = f ((l.take i).foldl f a) l[i] := by
 rw [List.take_succ_eq_append_getElem h, List.foldl_append]; rfl
theorem yc {n : Nat} (h : n ≤ 268435455) : (xG n).size ≤ 4 := aEF h
theorem aMC {n : Int} (h0 : -1000000 ≤ n) (h1 : n ≤ 1000000) : (kV n).size ≤ 4 := by
 unfold kV
 split <;> exact yc (by omega)
theorem aB8 {t : ByteArray} (h : t.size ≤ 268435455) : (vL t).size ≤ 4 + t.size := by
 unfold vL
 rw [ByteArray.size_append]
 have := yc h
 omega
theorem aB0 : ∀ (l : List Int) (a : ByteArray), (∀ p ∈ l, p.toNat ≤ 268435455) → (wU a l).size ≤ a.size + 4 * l.length
 | [], a, h => by simp [wU]
 | p :: l, a, h => by
  have h1 := aB0 l (a ++ xG p.toNat) (fun q hq => h q (by simp [hq]))
  have h2 := yc (h p (by simp))
  rw [ByteArray.size_append] at h1
  show (wU (a ++ xG p.toNat) l).size ≤ _
  simp only [List.length_cons]; omega
def aJe (l : List Ent) : Prop := ∀ e ∈ l, e.1.size ≤ 12 ∧ -1000000 ≤ e.2 ∧ e.2 ≤ 1000000
theorem aEb : ∀ (l : List Ent) (a : ByteArray), aJe l → (jJ a l).size ≤ a.size + 20 * l.length
 | [], a, h => by simp [jJ]
 | e :: l, a, h => by
  obtain ⟨k1, k2, k3⟩ := h e (by simp)
  have h1 := aEb l (a ++ (vL e.1 ++ kV e.2)) (fun q hq => h q (by simp [hq]))
  have h2 := aB8 (t := e.1) (by omega)
  have h3 := aMC k2 k3
  rw [ByteArray.size_append, ByteArray.size_append] at h1
  show (jJ (a ++ (vL e.1 ++ kV e.2)) l).size ≤ _
  simp only [List.length_cons]; omega
structure CmtS (c : Cmt) : Prop where
 pl : c.1.length ≤ 60
 pp : ∀ p ∈ c.1, 0 ≤ p ∧ p ≤ 1000
 ml : c.2.length ≤ 100
 me : aJe c.2
theorem aHS {c : Cmt} (h : CmtS c) : (zk c).size ≤ 8 + 4 * c.1.length + 20 * c.2.length := by
 unfold zk
 have h1 := aEb c.2 (wU (xG c.1.length) c.1 ++ xG c.2.length) h.me
 have h2 := aB0 c.1 (xG c.1.length) (fun p hp => by have := h.pp p hp; omega)
 have h3 := yc (n := c.1.length) (by have := h.pl; omega)
 have h4 := yc (n := c.2.length) (by have := h.ml; omega)
 rw [ByteArray.size_append] at h1
 omega
attribute [local irreducible] xI xO xQ xX yG Pre ACG
theorem aDt {c : Cmt} (h : CmtS c) : AC Tryz.prog 32 [xS c] ⟨.v (.string (zk c)), []⟩ := by
 have hpl := h.pl
 have hml := h.ml
 have c1 := zf (n := c.1.length) (by omega)
 have c2 := zf (n := c.2.length) (by omega)
 have z1 := yc (n := c.1.length) (by omega)
 have z2 := yc (n := c.2.length) (by omega)
 refine qrf Tryz.func32 Tryz.ntmps32 Tryz.results32 ?_; conv => whnf
 repeat ((first | refine qz ?_ | refine qc (c1) ?_); conv => whnf)
 refine xZ (ι := { i : Nat // i ≤ c.1.length }) (fun i => ⟨[(1, .optr 2 0 [] 0), (3, .v (.string (wU (xG c.1.length) (c.1.take i.1)))), (4, .v (.int .i64 (i.1 : Int)))], [(2, ⟨33, 2, [xS c]⟩)]⟩) (fun i => c.1.length - i.1) ⟨0, Nat.zero_le _⟩ (by exact qle) ?_
 rintro ⟨i, hi⟩
 dsimp only
 conv => whnf
 by_cases hlt : i < c.1.length
 · have hp := h.pp _ (List.getElem_mem hlt)
   have hs : wU (xG c.1.length) (c.1.take (i + 1)) = wU (xG c.1.length) (c.1.take i) ++ xG (c.1[i]).toNat := jB hlt
   have hz := aB0 (c.1.take i) (xG c.1.length) (fun p hp => by have := h.pp p (List.mem_of_mem_take hp); omega)
   rw [List.length_take] at hz
   obtain ⟨m, hm⟩ : ∃ m : Nat, c.1[i] = (m : Int) := ⟨(c.1[i]).toNat, by omega⟩
   rw [hm, Int.toNat_natCast] at hs
   have c3 := zf (n := m) (by omega)
   have z3 := yc (n := m) (by omega)
   generalize wU (xG c.1.length) (c.1.take i) = A at hs hz ⊢
   rw [← hm] at c3
   repeat ((first | refine qz ?_ | refine qc (c3) ?_ | refine qp (xC (qQ (by omega)) rfl rfl rfl) ?_); conv => whnf)
   rw [← hs]
   exact ⟨⟨i + 1, hlt⟩, by exact qle, by simp; omega⟩
 have e : i = c.1.length := by omega
 subst e
 rw [List.take_length]
 have hz := aB0 c.1 (xG c.1.length) (fun p hp => by have := h.pp p hp; omega)
 unfold zk
 generalize wU (xG c.1.length) c.1 = A at hz ⊢
 repeat ((first | refine qz ?_ | refine qc (c2) ?_ | refine qp (xC (qQ (by omega)) rfl rfl rfl) ?_); conv => whnf)
 refine xZ (ι := { i : Nat // i ≤ c.2.length }) (fun i => ⟨[(1, .optr 2 0 [] 0), (3, .v (.string (jJ (A ++ xG c.2.length) (c.2.take i.1)))), (5, .v (.int .i64 (i.1 : Int)))], [(2, ⟨33, 2, [xS c]⟩)]⟩) (fun i => c.2.length - i.1) ⟨0, Nat.zero_le _⟩ (by exact qle) ?_
 rintro ⟨i, hi⟩
 dsimp only
 conv => whnf
 by_cases hlt : i < c.2.length
 · obtain ⟨k1, k2, k3⟩ := h.me _ (List.getElem_mem hlt)
   have hs : jJ (A ++ xG c.2.length) (c.2.take (i + 1)) = jJ (A ++ xG c.2.length) (c.2.take i) ++ (vL (c.2[i]).1 ++ kV (c.2[i]).2) := jB hlt
   have hz' := aEb (c.2.take i) (A ++ xG c.2.length) (fun e he => h.me e (List.mem_of_mem_take he))
   rw [List.length_take, ByteArray.size_append] at hz'
   have c3 := aGE (t := (c.2[i]).1) (by omega)
   have c4 := aJT k2 k3
   have z3 := aB8 (t := (c.2[i]).1) (by omega)
   have z4 := aMC k2 k3
   have z5 : (vL (c.2[i]).1 ++ kV (c.2[i]).2).size ≤ 1000 := by rw [ByteArray.size_append]; omega
   generalize jJ (A ++ xG c.2.length) (c.2.take i) = E at hs hz' ⊢
   repeat ((first | refine qz ?_ | refine qdr ?_ | refine qc (c3) ?_ | refine qc (c4) ?_ | refine qp (xC (qQ (by omega)) rfl rfl rfl) ?_); conv => whnf)
   rw [← hs]
   exact ⟨⟨i + 1, hlt⟩, by exact qle, by simp; omega⟩
 have e : i = c.2.length := by omega
 subst e
 rw [List.take_length]
 repeat ((refine qz ?_; conv => whnf))
 exact xD rfl trivial
def aFc (p0 : Int) (i : Nat) (p : Int) : Bool := decide (1 ≤ p ∧ p ≤ 60) && (decide (i = 0) || !decide (p = p0))
def aA7 (p0 : Int) : Nat → List Int → Bool
 | _, [] => true
 | i, p :: l => aFc p0 i p && aA7 p0 (i + 1) l
theorem aOG {p0 : Int} {l : List Int} {i : Nat} (h : i < l.length) : aA7 p0 i (l.drop i) = (aFc p0 i l[i] && aA7 p0 (i + 1) (l.drop (i + 1))) := by
 rw [List.drop_eq_getElem_cons h, aA7]
def jN (c : Cmt) : Bool := yV c.2 && (decide (c.1.length ≤ 2) && aA7 ((c.1[0]?).getD 0) 0 c.1)
set_option maxHeartbeats 1000000 in
theorem aKt {c : Cmt} (hm : c.1.length ≤ maxLen) (hn : c.2.length ≤ maxLen) (hk : ∀ e ∈ c.2, e.1.size ≤ maxLen) : AC Tryz.prog 31 [xS c] ⟨.v (.bool (jN c)), []⟩ := by
 have c1 := aJN hn hk
 unfold maxLen at hm
 unfold jN
 cases h0 : yV c.2
 case false =>
  rw [h0] at c1
  rw [Bool.false_and]
  refine qrf Tryz.func31 Tryz.ntmps31 Tryz.results31 ?_; conv => whnf
  repeat ((first | refine qz ?_ | refine qc (c1) ?_); conv => whnf)
  exact xD rfl trivial
 rw [h0] at c1
 rw [Bool.true_and]
 by_cases h1 : c.1.length ≤ 2
 case neg =>
  rw [decide_eq_false h1, Bool.false_and]
  refine qrf Tryz.func31 Tryz.ntmps31 Tryz.results31 ?_; conv => whnf
  repeat ((first | refine qz ?_ | refine qc (c1) ?_); conv => whnf)
  exact xD rfl trivial
 rw [decide_eq_true h1, Bool.true_and]
 refine qrf Tryz.func31 Tryz.ntmps31 Tryz.results31 ?_; conv => whnf
 repeat ((first | refine qz ?_ | refine qc (c1) ?_); conv => whnf)
 generalize hq : (c.1[0]?).getD 0 = p0
 refine xZ (ι := { i : Nat // i ≤ c.1.length ∧ aA7 p0 i (c.1.drop i) = aA7 p0 0 c.1 }) (fun i => ⟨[(1, .optr 2 0 [] 0), (3, .v (.int .i64 (i.1 : Int)))], [(2, ⟨33, 2, [xS c]⟩)]⟩) (fun i => c.1.length - i.1) ⟨0, Nat.zero_le _, rfl⟩ (by exact qle) ?_
 rintro ⟨i, hi, hd⟩
 dsimp only at hi hd ⊢
 conv => whnf
 by_cases hlt : i < c.1.length
 case neg =>
  rw [← hd, List.drop_eq_nil_of_le (by omega)]
  repeat ((refine qz ?_; conv => whnf))
  exact xD rfl trivial
 rw [aOG hlt] at hd
 have hz : 0 < c.1.length := by omega
 have e0 : c.1[0] = p0 := by rw [← hq]; simp [hz]
 repeat ((refine qz ?_; conv => whnf))
 (refine qdr ?_; conv => whnf)
 by_cases hp : 1 ≤ c.1[i] ∧ c.1[i] ≤ 60
 case neg =>
  rw [aFc, decide_eq_false hp, Bool.false_and, Bool.false_and] at hd
  rw [← hd]
  repeat ((first | refine qz ?_ | refine qc (aBX hp) ?_); conv => whnf)
  exact xD rfl trivial
 rw [aFc, decide_eq_true hp, Bool.true_and] at hd
 by_cases h2 : i = 0
 · rw [decide_eq_true h2, Bool.true_or, Bool.true_and] at hd
   repeat ((first | refine qz ?_ | refine qc (vV hp.1 hp.2) ?_); conv => whnf)
   exact ⟨⟨i + 1, hlt, hd⟩, by exact qle, by simp; omega⟩
 rw [decide_eq_false h2, Bool.false_or] at hd
 by_cases h3 : c.1[i] = p0
 · rw [decide_eq_true h3, Bool.not_true, Bool.false_and] at hd
   rw [← hd]
   repeat ((first | refine qp (aAO (jl (k := i) _ hlt) rfl rfl rfl) ?_ | refine qp (aAO (jl (k := 0) _ hz) rfl rfl rfl) ?_ | refine qz ?_ | refine qc (vV hp.1 hp.2) ?_); conv => whnf)
   exact xD rfl trivial
 · rw [decide_eq_false h3, Bool.not_false, Bool.true_and] at hd
   repeat ((first | refine qp (aAO (jl (k := i) _ hlt) rfl rfl rfl) ?_ | refine qp (aAO (jl (k := 0) _ hz) rfl rfl rfl) ?_ | refine qz ?_ | refine qc (vV hp.1 hp.2) ?_); conv => whnf)
   exact ⟨⟨i + 1, hlt, hd⟩, by exact qle, by simp; omega⟩
theorem aEN {m : List Ent} (h : yV m = true) : m.length ≤ 12 := by
 unfold yV at h
 simp only [Bool.and_eq_true, decide_eq_true_eq] at h
 exact h.1
theorem aOR {x : ByteArray} (h : okN x = true) : x.size ≤ 12 := by
 unfold okN Nm.nameOK at h
 have e : x.size = x.data.toList.length := by rw [Array.length_toList]; rfl
 rw [e]
 split at h
 · simp at h
 · rename_i c cs hc
   rw [hc]
   simp only [Bool.and_eq_true, decide_eq_true_eq] at h
   simp only [List.length_cons]
   omega
theorem aGg {m : List Ent} (h : yV m = true) : aJe m := by
 intro e he
 obtain ⟨i, hi, rfl⟩ := List.getElem_of_mem he
 unfold yV at h
 simp only [Bool.and_eq_true] at h
 have h1 := aEm h.2.1 hi
 have h2 := aSG h.2.2 hi
 unfold uR at h1
 rw [Bool.and_eq_true, aBv _ _ hi] at h1
 unfold vD aDj at h2
 simp only [hi, List.getD_eq_getElem?_getD, List.getElem?_eq_getElem, Option.getD_some, Bool.and_eq_true, decide_eq_true_eq] at h2
 exact ⟨aOR h1.1, h2.1, h2.2⟩
theorem aL9 {p0 : Int} : ∀ {l : List Int} {i : Nat}, aA7 p0 i l = true → ∀ p ∈ l, 1 ≤ p ∧ p ≤ 60
 | [], _, _, p, hp => by cases hp
 | q :: l, i, h, p, hp => by
  unfold aA7 aFc at h
  simp only [Bool.and_eq_true, decide_eq_true_eq] at h
  rcases List.mem_cons.1 hp with rfl | hp
  · exact h.1.1
  · exact aL9 h.2 p hp
theorem aJv {c : Cmt} (h : jN c = true) : CmtS c := by
 unfold jN at h
 simp only [Bool.and_eq_true, decide_eq_true_eq] at h
 have := aEN h.1
 exact ⟨by omega, fun p hp => by have := aL9 h.2.2 p hp; omega, by omega, aGg h.1⟩
def aEE (c : Cmt) : ByteArray × Int := if jN c = true then (zk c, 0) else (⟨#[]⟩, 1)
theorem aPJ {c : Cmt} (hm : c.1.length ≤ maxLen) (hn : c.2.length ≤ maxLen) (hk : ∀ e ∈ c.2, e.1.size ≤ maxLen) : AC Tryz.prog 10 [xS c] ⟨.tup [.v (.string (aEE c).1), .v (.int .i64 (aEE c).2)], []⟩ := by
 have c1 := aKt hm hn hk
 unfold aEE
 cases h : jN c
 · rw [h] at c1
   rw [if_neg (by simp)]
   refine qrf Tryz.func10 Tryz.ntmps10 Tryz.results10 ?_; conv => whnf
   repeat ((first | refine qz ?_ | refine qc (c1) ?_); conv => whnf)
   exact zR rfl rfl
 · rw [h] at c1
   rw [if_pos rfl]
   have c2 := aDt (aJv h)
   refine qrf Tryz.func10 Tryz.ntmps10 Tryz.results10 ?_; conv => whnf
   repeat ((first | refine qz ?_ | refine qc (c1) ?_ | refine qc (c2) ?_); conv => whnf)
   exact zR rfl rfl
end Go.Proofs.YtfomjajdfaoogaaGreatDoor.AM
namespace Go.Proofs.YtfomjajdfaoogaaGreatDoor.AM
open Go Go.RowKit
theorem aOb {t : ByteArray} {s : Rds} (h : zL t s) : (rdW t s).1.size ≤ 1000000 := by
 unfold rdW
 split
 · show (0 : Nat) ≤ _; omega
 · show (t.extract _ _).size ≤ _
   rw [ByteArray.size_extract]
   have := h.1
   omega
theorem aLk {t : ByteArray} : ∀ {n : Nat} {s : Rds}, zL t s → zL t (ug t n s).2 ∧ (ug t n s).1.length = n ∧ ∀ e ∈ (ug t n s).1, e.1.size ≤ 1000000
 | 0, s, h => ⟨h, rfl, fun e he => by cases he⟩
 | n + 1, s, h => by
  have h1 := aAR h
  obtain ⟨k1, k2, k3⟩ := aLk (n := n) (aK7 h1)
  refine ⟨k1, by simp [ug, k2], fun e he => ?_⟩
  simp only [ug] at he
  rcases List.mem_cons.1 he with rfl | he
  · exact aOb h
  · exact k3 e he
theorem aEU {t : ByteArray} {s : Rds} (h : zL t s) : zL t (rdM t s).2 ∧ (rdM t s).1.1.length ≤ 2 ∧ (rdM t s).1.2.length ≤ 12 ∧ ∀ e ∈ (rdM t s).1.2, e.1.size ≤ 1000000 := by
 have h1 := zY (m := 2) h
 have h2 := aHc (n := (rdC t 2 s).1) h1.1
 have h3 := zY (m := 12) h2.1
 have h4 := aLk (n := (rdC t 12 (zq t (rdC t 2 s).1 (rdC t 2 s).2).2).1) h3.1
 exact ⟨h4.1, by show (zq _ _ _).1.length ≤ 2; rw [h2.2]; exact h1.2, by show (ug _ _ _).1.length ≤ 12; rw [h4.2.1]; exact h3.2, h4.2.2⟩
def aM5 (t : ByteArray) : Bool := !(rdM t (0, false)).2.2 && (decide ((rdM t (0, false)).2.1 = t.size) && jN (rdM t (0, false)).1)
attribute [local irreducible] xI xO xQ xX yG Pre ACG
end Go.Proofs.YtfomjajdfaoogaaGreatDoor.AM
