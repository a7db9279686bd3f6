/- Texts of the machine over data, folded. -/
import Derived.Test.YtodckioppgjbdaaGreatDoorKd7
import Derived.Test.YtodckioppgjbdaaGreatDoorKd6
import Derived.Conc.LoneCalls
import Derived.Conc.LoneSelect
import Derived.Test.YtodckioppgjbdaaGreatDoorKd5
import Derived.Test.YtodckioppgjbdaaGreatDoorKd8
import Derived.Test.YtodckioppgjbdaaGreatDoorKd15
import Derived.Test.YtodckioppgjbdaaGreatDoorKd14
import Derived.Test.YtodckioppgjbdaaGreatDoorKd10
import Derived.Stop.Asserts
import Derived.Lib.AtoiTie
import Derived.Lib.AtoiBound
import Derived.Lib.AtoiAllCases
import Derived.RangeFuncNested
import Derived.RangeFuncBound
import Derived.RangeFuncCalls
import Derived.RangeFuncLeaves
import Derived.Shelf.Abstract
import Derived.Shelf.RegionOpen
import Derived.WalkKit
import Derived.OwnWalkIn
import Derived.TacticsInMore
import Derived.LoopNIn
import Derived.LoopIn
import Derived.Test.YtodckioppgjbdaaGreatDoorKd9
import Derived.Lib.IndexLaws
import Derived.WalkSpells
import Derived.RegionTactic
import Derived.BigRegion
set_option linter.unusedVariables false
set_option linter.unusedSimpArgs false
set_option maxRecDepth 100000
namespace Go.Proofs.YtodckioppgjbdaaGreatDoor.AM
open Go Go.RowKit
structure Evt where
 ver : Int
 head : Int
 lag : Bool
def aK1 (e : Evt) : AV := .agg [.v (.int .i64 e.ver), .v (.int .i64 e.head), .v (.bool e.lag)]
theorem kS (e : Evt) : yM (aK1 e) := by unfold aK1; simp [yM, zH]
theorem aJc {a b : Evt} : a = b ↔ a.ver = b.ver ∧ a.head = b.head ∧ a.lag = b.lag := by
 cases a; cases b; simp
instance : DecidableEq Evt := fun a b => decidable_of_iff _ aJc.symm
structure Wat where
 name : ByteArray
 seen : Int
 queue : List Evt
def Wat.ok (w : Wat) (N : Nat) : Prop := w.name.size ≤ N ∧ w.queue.length ≤ N
attribute [local irreducible] xD xJ xQ yD yJ Pre ACG
end Go.Proofs.YtodckioppgjbdaaGreatDoor.AM
namespace Go.Proofs.YtodckioppgjbdaaGreatDoor.AM
open Go Go.RowKit
def aKx (cap : Nat) (es : List AV) : AbsR where
 rel w b T := (∀ g, T g ↔ g = b) ∧ ∃ s r buf, w.heap[b]? = some (.chan cap buf false s r false) ∧ buf.toList.map some = es.map xX
 frame := by
  rintro w w' b T h ⟨h1, s, r, buf, h2, h3⟩
  exact ⟨h1, s, r, buf, (h b ((h1 b).2 rfl)).trans h2, h3⟩
abbrev aGU (cap : Nat) (es : List AV) : OB := ⟨.c (aKx cap es), 2, []⟩
section
variable {P : Program} {f : FuncId} {args : List AV} {cap : Nat} {es es' : List AV}
end
end Go.Proofs.YtodckioppgjbdaaGreatDoor.AM
namespace Go.Proofs.YtodckioppgjbdaaGreatDoor.AM
open Go Go.RowKit Go.Conc
section
variable {P : Program} {Θ : Tab} {n : Nat}
end
section
variable {P : Program} {Θ : Tab} {n : Nat} {ops : Array Oper} {K : St → Prop} {s : St} {k : Nat}
variable {W : World} {M : Hand} {S0 : Nat → Prop} {S : Nat → Prop} {B : Nat → Nat} {V : Nat → Value} {T : Nat → Nat → Prop} {tmps : Array Value} {w : World}
theorem SimW.chan (h : SimW W M S0 s tmps w S B V T) {l cap : Nat} {es : List AV} (hl : s.hp l = some (aGU cap es)) :
 ∃ sq rq buf, w.heap[B l]? = some (.chan cap buf false sq rq false) ∧ buf.toList.map some = es.map xX ∧
  ∀ (buf' : Array Value) (s' r' : Nat) (es' : List AV), buf'.toList.map some = es'.map xX → ∃ T', SimW W M S0 (s.set l (some (aGU cap es'))) tmps (w.setChan (B l) cap buf' false s' r' false) S B V T' := by
 obtain ⟨t0, cs, ⟨_, r0⟩, r2, r3, r4, r5, r6⟩ := h.rows.ro l _ hl
 obtain ⟨hT, sq, rq, buf, hc, hq⟩ := r0
 refine ⟨sq, rq, buf, hc, hq, fun buf' s' r' es' he => ?_⟩
 have hlt := (Array.getElem?_eq_some_iff.1 hc).1
 have hTb : T l (B l) := (hT _).2 rfl
 have hoth : ∀ g, g ≠ B l → (w.setChan (B l) cap buf' false s' r' false).heap[g]? = w.heap[g]? := fun g hg => by
  simp [World.setChan, Array.getElem?_setIfInBounds_ne (Ne.symm hg)]
 have hown : ∀ g, ¬ (V l).ownBlock = some g := fun g e => by
  have := r6 g e
  subst this
  exact h.rows.nd l _ _ hl e hTb
 have hgr : Grown w (w.setChan (B l) cap buf' false s' r' false) (Blk V T l) := ⟨rfl, rfl, rfl, by simp [World.setChan], fun g _ hg => hoth g (fun e => hg (by rw [e]; exact .inr hTb))⟩
 refine ⟨_, h.inpl (ob' := aGU cap es') hl rfl hgr ?_ (fun g hg => hg)⟩
 exact ⟨t0, [], ⟨fun t' e => (by cases e), hT, s', r', buf', heap_setChan _ _ _ _ _ _ _ _ hlt, he⟩, ⟨rfl, rfl, fun g hg => by rw [(hT g).1 hg]; simp [World.setChan]; exact hlt⟩, fun x hx => (by cases hx), Nat.succ_pos 1, by
  have := jX (w' := w.setChan (B l) cap buf' false s' r' false) r5 (fun g hg => absurd hg (hown g))
  exact ⟨rfl, this.2.imp id (fun ⟨g, cap1, cur, q1, q2⟩ => absurd (show (V l).ownBlock = some g by rw [q1]; rfl) (hown g))⟩, r6⟩
end
section
variable {P : Program} {Θ : Tab} {n : Nat} {ops : Array Oper} {K : St → Prop} {s : St} {k : Nat} {x y : Operand} {ty : TypeId} {pos : String} {after : Array Edge} {l cap : Nat} {es r : List AV} {u z : Value} {v : AV} {t : Nat} {elem : TypeId}
end
end Go.Proofs.YtodckioppgjbdaaGreatDoor.AM
namespace Go.Proofs.YtodckioppgjbdaaGreatDoor.AM
open Go Go.RowKit
attribute [local irreducible] xD xJ xQ yD yJ Pre ACG
end Go.Proofs.YtodckioppgjbdaaGreatDoor.AM
namespace Go.Proofs.YtodckioppgjbdaaGreatDoor.AM
open Go Go.RowKit
def aKy (e : Evt) : Bool := decide (1 ≤ e.ver ∧ e.ver ≤ 1000000) && decide (0 ≤ e.head ∧ e.head ≤ 60)
def fB (e b : Evt) : Bool := decide (e.ver = b.ver + 1) || (e.lag && decide (b.ver < e.ver))
def evG (l : List Evt) (i : Nat) : Prop := ∃ h : i < l.length, aKy l[i] = true ∧ ∀ m, (hm : m + 1 = i) → fB l[i] (l[m]'(by omega)) = true
open Classical in
noncomputable def aLL (l : List Evt) : Bool := decide (∀ i, i < l.length → evG l i)
attribute [local irreducible] xD xJ xQ yD yJ Pre ACG
end Go.Proofs.YtodckioppgjbdaaGreatDoor.AM
namespace Go.Proofs.YtodckioppgjbdaaGreatDoor.AM
open Go Go.RowKit
def aLN (l : List Evt) : Bool := (l.drop 1).any (·.lag)
noncomputable def qB (l : List Evt) (s : Int) : Bool := decide (l.length ≤ 4) && (aLL l && (decide ((l.getLast?.map (·.ver)) = some s) && !aLN l))
attribute [local irreducible] xD xJ xQ yD yJ Pre ACG
theorem aKC {a b : Wat} : a = b ↔ a.name = b.name ∧ a.seen = b.seen ∧ a.queue = b.queue := by cases a; cases b; simp
instance : DecidableEq Wat := fun a b => decidable_of_iff _ aKC.symm
end Go.Proofs.YtodckioppgjbdaaGreatDoor.AM
namespace Go.Proofs.YtodckioppgjbdaaGreatDoor.AM
open Go Go.RowKit
section
variable {P : Program} {f : FuncId} {args args' : List AV} {rin rout : List OB} {out : Out}
end
section
variable {s : St} {Θ : Tab}
end
section
variable {P : Program} {Θ : Tab} {s : St} {ty : TypeId} {pos : String} {after : Array Edge} {g : Option (Nat × Bool)}
end
attribute [local irreducible] xD xJ xQ yD yJ Pre ACG
end Go.Proofs.YtodckioppgjbdaaGreatDoor.AM
namespace Go.Proofs.YtodckioppgjbdaaGreatDoor.AM
open Go Go.RowKit
section
variable {s : St} {Θ : Tab}
end
attribute [local irreducible] xD xJ xQ yD yJ Pre ACG
end Go.Proofs.YtodckioppgjbdaaGreatDoor.AM
namespace Go.Proofs.YtodckioppgjbdaaGreatDoor.AM
open Go Go.RowKit
theorem aIr {s : St} {Θ : Tab} {r : Nat} {v : Value} {o1 : OB} (h1 : s.sl r = .v v) (h2 : s.hp 0 = some o1) : yD Θ [.tmp r] [o1] ⟨.v v, []⟩ .ret s := ⟨⟨h2, trivial⟩, [], by simp, trivial, ⟨trivial, trivial⟩, trivial, ⟨.inl ⟨h1, rfl⟩, trivial⟩⟩
attribute [local irreducible] xD xJ xQ yD yJ Pre ACG
end Go.Proofs.YtodckioppgjbdaaGreatDoor.AM
namespace Go.Proofs.YtodckioppgjbdaaGreatDoor.AM
open Go Go.RowKit
def knd : List ByteArray := [⟨#[99, 114, 101, 97, 116, 101]⟩, ⟨#[100, 101, 108, 101, 116, 101]⟩, ⟨#[99, 111, 109, 109, 105, 116]⟩, ⟨#[109, 101, 114, 103, 101]⟩, ⟨#[103, 101, 116]⟩, ⟨#[115, 99, 97, 110]⟩]
attribute [local irreducible] xD xJ xQ yD yJ Pre ACG
theorem aB2 : AC Tryz.prog 93 [] ⟨.own 0, [⟨9, 1, knd.map xP⟩]⟩ := by
 refine qrf Tryz.func93 Tryz.ntmps93 Tryz.results93 ?_; conv => whnf
 exact aC9 rfl rfl rfl
theorem aIO {w : Wsh} (h : xN w = true) : w.name.size ≤ 12 ∧ ((w.kind = 1 ∧ w.source.size ≤ 12) ∨ w.kind = 2 ∨ (w.kind = 3 ∧ xO w.edits = true) ∨ (w.kind = 4 ∧ w.source.size ≤ 12) ∨ (w.kind = 5 ∧ w.key.size ≤ 12) ∨ w.kind = 6) := by
 obtain ⟨k, nm, src, key, es⟩ := w
 unfold xN opB at h
 dsimp only at h ⊢
 by_cases h1 : k = 1
 · subst h1
   simp only [true_or, if_true, Bool.and_eq_true] at h
   exact ⟨jy h.2.1, .inl ⟨rfl, jy h.1⟩⟩
 by_cases h4 : k = 4
 · subst h4
   simp only [or_true, if_true, Bool.and_eq_true] at h
   exact ⟨jy h.2.1, .inr (.inr (.inr (.inl ⟨rfl, jy h.1⟩)))⟩
 rw [if_neg (by omega), if_neg (by omega)] at h
 simp only [Bool.and_eq_true] at h
 refine ⟨jy h.2.1, ?_⟩
 have h2 := h.2.2
 by_cases h3 : k = 3
 · subst h3
   simp only [if_true, Bool.and_eq_true] at h2
   exact .inr (.inr (.inl ⟨rfl, h2.2.2⟩))
 rw [if_neg h3] at h2
 by_cases h5 : k = 5
 · subst h5
   simp only [if_true, Bool.and_eq_true] at h2
   exact .inr (.inr (.inr (.inr (.inl ⟨rfl, jy h2.2.1⟩))))
 rw [if_neg h5] at h2
 by_cases h6 : k = 2 ∨ k = 6
 · rcases h6 with h6 | h6
   · exact .inr (.inl h6)
   · exact .inr (.inr (.inr (.inr (.inr h6))))
 · rw [if_neg h6] at h2; cases h2
end Go.Proofs.YtodckioppgjbdaaGreatDoor.AM
namespace Go.Proofs.YtodckioppgjbdaaGreatDoor.AM
open Go Go.RowKit
theorem aFv {t : ByteArray} (h : (yj t 61).length ≠ 2) : zO t = (⟨#[]⟩, 0, false) := by
 unfold zO
 split
 · rename_i e; rw [e] at h; exact absurd rfl h
 · rfl
theorem aFw {t a b : ByteArray} (h : yj t 61 = [a, b]) : zO t = (a, (y9 b).1, (y9 b).2) := by
 unfold zO; rw [h]
theorem aEm {t : ByteArray} : (zO t).1.size ≤ t.size := by
 by_cases h : (yj t 61).length = 2
 · match hL : yj t 61, h with
   | [a, b], _ =>
    rw [aFw hL]
    exact (aBH (t := t) (c := 61)).2.2 a (by rw [hL]; simp)
 · rw [aFv h]; exact Nat.zero_le _
def exT (t : ByteArray) : Bool := if h : 0 < t.size then decide ((t[0]).toNat = 33) else false
def yX : List ByteArray → List Edt → List Edt × Bool
 | [], acc => (acc, true)
 | w :: L, acc => if exT w = true then yX L (acc ++ [⟨w.extract 1 w.size, 0, true⟩]) else if (zO w).2.2 = true then yX L (acc ++ [⟨(zO w).1, (zO w).2.1, false⟩]) else (acc, false)
def zl (t : ByteArray) : List Edt × Bool := if t = ⟨#[45]⟩ then ([], true) else ((yX (yj t 44) []).1, (yX (yj t 44) []).2 && xO (yX (yj t 44) []).1)
theorem aHv {L : List ByteArray} {i : Nat} {acc : List Edt} (h : i < L.length) : yX (L.drop i) acc = if exT L[i] = true then yX (L.drop (i + 1)) (acc ++ [⟨(L[i]).extract 1 (L[i]).size, 0, true⟩]) else if (zO L[i]).2.2 = true then yX (L.drop (i + 1)) (acc ++ [⟨(zO L[i]).1, (zO L[i]).2.1, false⟩]) else (acc, false) := by
 rw [List.drop_eq_getElem_cons h, yX]
attribute [local irreducible] xD xJ xQ yD yJ Pre ACG
theorem aGM {t : ByteArray} (ht : t.size ≤ 1000000) : AC Tryz.prog 167 [.v (.string t)] ⟨.tup [.v (.string (zO t).1), .v (.int .i64 (zO t).2.1), .v (.bool (zO t).2.2)], []⟩ := by
 have c1 := aDJ (c := 61) ht
 have hl := aBH (t := t) (c := 61)
 by_cases h2 : (yj t 61).length = 2
 · match hL : yj t 61, h2 with
   | [a, b], _ =>
    rw [aFw hL]
    rw [hL] at c1 hl
    have c2 := aDx (t := b) (by have := hl.2.2 b (by simp); omega)
    generalize y9 b = R at c2 ⊢
    refine qrf Tryz.func167 Tryz.ntmps167 Tryz.results167 ?_; conv => whnf
    repeat ((first | refine qz ?_ | refine qc (c1) ?_ | refine qc (c2) ?_ | refine qp (aAw (j := 1) (by simp) rfl rfl rfl rfl rfl) ?_ | refine qp (aAw (j := 0) (by simp) rfl rfl rfl rfl rfl) ?_); conv => whnf)
    exact ku rfl rfl rfl
 · rw [aFv h2]
   generalize yj t 61 = L at c1 h2 hl
   refine qrf Tryz.func167 Tryz.ntmps167 Tryz.results167 ?_; conv => whnf
   repeat ((first | refine qz ?_ | refine qc (c1) ?_); conv => whnf)
   exact ku rfl rfl rfl
set_option maxHeartbeats 4000000 in
theorem aBx {t : ByteArray} (ht : t.size ≤ 65536) : AC Tryz.prog 108 [.v (.string t)] ⟨.tup [.own 0, .v (.bool (zl t).2)], [⟨107, 3, (zl t).1.map x9⟩]⟩ := by
 have c1 := aDJ (t := t) (c := 44) (by omega)
 have hl := aBH (t := t) (c := 44)
 unfold zl
 by_cases h0 : t = ⟨#[45]⟩
 · rw [if_pos h0]
   refine qrf Tryz.func108 Tryz.ntmps108 Tryz.results108 ?_; conv => whnf
   repeat ((first | refine qz ?_ | refine qp (xA (yh h0) rfl rfl rfl) ?_); conv => whnf)
   exact aBU rfl rfl rfl
 rw [if_neg h0]
 generalize yj t 44 = L at c1 hl ⊢
 obtain ⟨_, hl1, hl2⟩ := hl
 refine qrf Tryz.func108 Tryz.ntmps108 Tryz.results108 ?_; conv => whnf
 repeat ((first | refine qz ?_ | refine qp (xA (yg h0) rfl rfl rfl) ?_ | refine qc (c1) ?_); conv => whnf)
 refine kK (ι := { p : Nat × List Edt // p.1 ≤ L.length ∧ yX (L.drop p.1) p.2 = yX L [] ∧ p.2.length ≤ p.1 ∧ ∀ e ∈ p.2, e.key.size ≤ 65536 }) (fun p => ⟨[(4, .own 11), (5, .lst 1 (L.map xP)), (6, .v (.int .i64 (p.1.1 : Int)))], [(11, ⟨107, 3, p.1.2.map x9⟩)]⟩) (fun p => L.length - p.1.1) ⟨(0, []), Nat.zero_le _, rfl, Nat.le_refl _, fun e he => by cases he⟩ (by exact qle) ?_
 rintro ⟨⟨i, acc⟩, hi, hd, ha, hs⟩
 dsimp only at hi hd ha hs ⊢
 conv => whnf
 by_cases hlt : i < L.length
 · rw [aHv hlt] at hd
   have hz := hl2 _ (List.getElem_mem hlt)
   by_cases hx : exT L[i] = true
   · rw [if_pos hx] at hd
     have hx0 : 0 < (L[i]).size := by
      unfold exT at hx
      by_cases q : 0 < (L[i]).size
      · exact q
      · rw [dif_neg q] at hx; cases hx
     have hx1 : ((L[i])[0]'hx0).toNat = 33 := by
      unfold exT at hx
      rw [dif_pos hx0] at hx
      simpa using hx
     have hz3 : ((L[i]).extract 1 (L[i]).size).size ≤ (L[i]).size := jh
     repeat ((first | refine qz ?_ | refine qp (xZ (yL 9) rfl rfl hx0) ?_ | refine qp (qP (i := 1) (by omega) rfl rfl) ?_); conv => whnf)
     refine qr (kY (f := x9) (xs := acc) ⟨(L[i]).extract 1 (L[i]).size, 0, true⟩ (acc ++ [⟨(L[i]).extract 1 (L[i]).size, 0, true⟩]) rfl (by omega) rfl rfl rfl rfl rfl rfl rfl) ?_
     conv => whnf
     repeat ((refine qz ?_; conv => whnf))
     exact ⟨⟨(i + 1, acc ++ [⟨(L[i]).extract 1 (L[i]).size, 0, true⟩]), hlt, hd, by simp; omega, fun e he => by
      simp only [List.mem_append, List.mem_singleton] at he
      rcases he with he | rfl
      · exact hs e he
      · dsimp only; omega⟩, by exact qle, by simp; omega⟩
   rw [if_neg hx] at hd
   have c2 := aGM (t := L[i]) (by omega)
   have hz2 := aEm (t := L[i])
   generalize zO L[i] = R at c2 hd hz2
   obtain ⟨k, v, ok⟩ := R
   dsimp only at c2 hd hz2
   have fin : ∀ (b : Bool), ok = b → (if ok = true then yX (L.drop (i + 1)) (acc ++ [⟨k, v, false⟩]) else (acc, false)) = if b = true then yX (L.drop (i + 1)) (acc ++ [⟨k, v, false⟩]) else (acc, false) := fun b hb => by rw [hb]
   by_cases q : 0 < (L[i]).size
   · have hx1 : ¬ ((L[i])[0]'q).toNat = 33 := by
      unfold exT at hx
      rw [dif_pos q] at hx
      simpa using hx
     cases ok
     · rw [if_neg (by simp)] at hd
       rw [← hd]
       repeat ((first | refine qz ?_ | refine qp (xZ (yL 9) rfl rfl q) ?_ | refine qc (c2) ?_); conv => whnf)
       exact aBU rfl rfl rfl
     · rw [if_pos rfl] at hd
       repeat ((first | refine qz ?_ | refine qp (xZ (yL 9) rfl rfl q) ?_ | refine qc (c2) ?_); conv => whnf)
       refine qr (kY (f := x9) (xs := acc) ⟨k, v, false⟩ (acc ++ [⟨k, v, false⟩]) rfl (by omega) rfl rfl rfl rfl rfl rfl rfl) ?_
       conv => whnf
       repeat ((refine qz ?_; conv => whnf))
       exact ⟨⟨(i + 1, acc ++ [⟨k, v, false⟩]), hlt, hd, by simp; omega, fun e he => by
        simp only [List.mem_append, List.mem_singleton] at he
        rcases he with he | rfl
        · exact hs e he
        · dsimp only; omega⟩, by exact qle, by simp; omega⟩
   · cases ok
     · rw [if_neg (by simp)] at hd
       rw [← hd]
       repeat ((first | refine qz ?_ | refine qc (c2) ?_); conv => whnf)
       exact aBU rfl rfl rfl
     · rw [if_pos rfl] at hd
       repeat ((first | refine qz ?_ | refine qc (c2) ?_); conv => whnf)
       refine qr (kY (f := x9) (xs := acc) ⟨k, v, false⟩ (acc ++ [⟨k, v, false⟩]) rfl (by omega) rfl rfl rfl rfl rfl rfl rfl) ?_
       conv => whnf
       repeat ((refine qz ?_; conv => whnf))
       exact ⟨⟨(i + 1, acc ++ [⟨k, v, false⟩]), hlt, hd, by simp; omega, fun e he => by
        simp only [List.mem_append, List.mem_singleton] at he
        rcases he with he | rfl
        · exact hs e he
        · dsimp only; omega⟩, by exact qle, by simp; omega⟩
 · rw [List.drop_eq_nil_of_le (by omega), yX] at hd
   rw [← hd]
   have c3 := aFN (es := acc) rfl (by unfold maxLen; omega) (fun e he => by have := hs e he; unfold maxLen; omega)
   dsimp only
   rw [Bool.true_and]
   generalize xO acc = b at c3 ⊢
   repeat ((first | refine qz ?_ | refine qc (c3) ?_); conv => whnf)
   exact aBU rfl rfl rfl
end Go.Proofs.YtodckioppgjbdaaGreatDoor.AM
namespace Go.Proofs.YtodckioppgjbdaaGreatDoor.AM
open Go Go.RowKit
section
variable {P : Program}
end
section
variable {P : Program}
end
section
variable {s : St} {Θ : Tab}
theorem aBo {P : Program} {d : Option Tmp} {ty : TypeId} {pos : String} {after : Array Edge} {g : Option (Nat × Bool)} {t : TypeId} {ps : Array (Nat × Operand)} {fs : List (Nat × Nat)} {z : List AV} (ht : Θ.look t = .struct fs z) (hp : vU s z ps.toList) (hc : vX (ps.toList.map (·.2)) = true) (hl : (yF s (ps.toList.map (·.2))).all okL = true := by rfl) :
 Pre P Θ ⟨d, .build t ps, ty, pos, after, g⟩ s ⟨.agg (zD s z ps.toList), aI6 (yF s (ps.toList.map (·.2)))⟩ := ⟨fs, z, ht, .inl ⟨hp, zU hc, hl, rfl⟩⟩
end
attribute [local irreducible] xD xJ xQ yD yJ Pre ACG
section
variable {frm : Int} {nm key : ByteArray} {es : List AV}
end
section
variable {base m hd out : List AV} {ps keys : List AV} {c : Int}
end
end Go.Proofs.YtodckioppgjbdaaGreatDoor.AM
namespace Go.Proofs.YtodckioppgjbdaaGreatDoor.AM
open Go Go.RowKit
abbrev eY : ByteArray := ByteArray.empty
def kdF (w : ByteArray) : Nat → Nat
 | 0 => 0
 | i + 1 => if w = (knd[i]?).getD eY then i + 1 else kdF w i
theorem aEX {w : ByteArray} : ∀ {i : Nat}, kdF w i ≤ i
 | 0 => Nat.le_refl _
 | i + 1 => by
  rw [kdF]; split
  · exact Nat.le_refl _
  · have := aEX (w := w) (i := i); omega
def wsM (k : Nat) (ws : List ByteArray) : Wsh :=
 if k = 1 ∨ k = 4 then ⟨k, (ws[1]?).getD eY, (ws[2]?).getD eY, eY, []⟩
 else if k = 3 then ⟨k, (ws[1]?).getD eY, eY, eY, (zl ((ws[2]?).getD eY)).1⟩
 else if k = 5 then ⟨k, (ws[1]?).getD eY, eY, (ws[2]?).getD eY, []⟩
 else ⟨k, (ws[1]?).getD eY, eY, eY, []⟩
noncomputable def uW (ws : List ByteArray) : Wsh × Bool :=
 if ws.length < 2 ∨ 3 < ws.length then (⟨0, eY, eY, eY, []⟩, false)
 else if decide (kdF ((ws[0]?).getD eY) 6 = 2 ∨ kdF ((ws[0]?).getD eY) 6 = 6) = decide (ws.length = 2) then
  (wsM (kdF ((ws[0]?).getD eY) 6) ws, (decide (kdF ((ws[0]?).getD eY) 6 ≠ 3) || (zl ((ws[2]?).getD eY)).2) && xN (wsM (kdF ((ws[0]?).getD eY) 6) ws))
 else (⟨(kdF ((ws[0]?).getD eY) 6 : Nat), (ws[1]?).getD eY, eY, eY, []⟩, false)
theorem aJt {t : ByteArray} (h : (zl t).2 = true) : xO (zl t).1 = true := by
 unfold zl at h ⊢
 split
 · rfl
 · rename_i h0
   rw [if_neg h0] at h
   simp only [Bool.and_eq_true] at h
   exact h.2
attribute [local irreducible] xD xJ xQ yD yJ Pre ACG
set_option maxHeartbeats 4000000 in
theorem aFM {t : ByteArray} (ht : t.size ≤ 1000000) : AC Tryz.prog 47 [.v (.string t)] ⟨.own 0, [⟨9, 1, (vZ t).map xP⟩]⟩ := by
 unfold vZ
 refine qrf Tryz.func47 Tryz.ntmps47 Tryz.results47 ?_; conv => whnf
 repeat ((refine qz ?_; conv => whnf))
 refine kK (ι := { i : Nat // i ≤ t.size + 1 }) (fun i => ⟨[(0, .v (.string t)), (3, .own 7), (4, .v (.int .i64 ((uG t i.1).2 : Int))), (5, .v (.int .i64 (i.1 : Int)))], [(7, ⟨9, 1, (uG t i.1).1.map xP⟩)]⟩) (fun i => t.size + 1 - i.1) ⟨0, Nat.zero_le _⟩ (by exact qle) ?_
 rintro ⟨i, hi⟩
 dsimp only
 obtain ⟨h1, h2, h3⟩ := aDF (t := t) hi
 by_cases hlt : i ≤ t.size
 · by_cases hc : ∀ h : i < t.size, (t[i]).toNat = 32
   · have hs := aBC hc
     generalize uG t i = S at hs h1 h2 h3 ⊢
     obtain ⟨out, frm⟩ := S
     dsimp only at hs h1 h2 h3 ⊢
     conv => whnf
     by_cases hf : frm < i
     · rw [if_pos hf] at hs
       by_cases he : i < t.size
       · have hc' := hc he
         repeat ((first | refine qz ?_ | refine qp (xZ (yL 9) rfl rfl he) ?_ | refine qp (aGi (i := frm) (j := i) h1 (by omega) rfl rfl rfl) ?_); conv => whnf)
         refine qr (kY (f := xP) (xs := out) (t.extract frm i) (out ++ [t.extract frm i]) rfl (by omega) rfl rfl rfl rfl rfl rfl rfl) ?_
         conv => whnf
         repeat ((refine qz ?_; conv => whnf))
         exact ⟨⟨i + 1, by omega⟩, by rw [hs]; exact qle, by simp; omega⟩
       · repeat ((first | refine qz ?_ | refine qp (aGi (i := frm) (j := i) h1 (by omega) rfl rfl rfl) ?_); conv => whnf)
         refine qr (kY (f := xP) (xs := out) (t.extract frm i) (out ++ [t.extract frm i]) rfl (by omega) rfl rfl rfl rfl rfl rfl rfl) ?_
         conv => whnf
         repeat ((refine qz ?_; conv => whnf))
         exact ⟨⟨i + 1, by omega⟩, by rw [hs]; exact qle, by simp; omega⟩
     · rw [if_neg hf] at hs
       by_cases he : i < t.size
       · have hc' := hc he
         repeat ((first | refine qz ?_ | refine qp (xZ (yL 9) rfl rfl he) ?_); conv => whnf)
         exact ⟨⟨i + 1, by omega⟩, by rw [hs]; exact qle, by simp; omega⟩
       · repeat (first | (refine qz ?_; conv => whnf))
         exact ⟨⟨i + 1, by omega⟩, by rw [hs]; exact qle, by simp; omega⟩
   · have he : i < t.size := Classical.byContradiction fun q => hc fun h => absurd h q
     have hn : (t[i]).toNat ≠ 32 := fun q => hc fun _ => q
     clear hc
     have hs := aFF he hn
     generalize uG t i = S at hs h1 h2 h3 ⊢
     obtain ⟨out, frm⟩ := S
     dsimp only at hs h1 h2 h3 ⊢
     conv => whnf
     repeat ((first | refine qz ?_ | refine qp (xZ (yL 9) rfl rfl he) ?_); conv => whnf)
     exact ⟨⟨i + 1, by omega⟩, by rw [hs]; exact qle, by simp; omega⟩
 · have e : i = t.size + 1 := by omega
   subst e
   conv => whnf
   repeat ((refine qz ?_; conv => whnf))
   exact aC9 rfl rfl rfl
set_option maxHeartbeats 4000000 in
theorem aCk {ws : List ByteArray} (hm : ws.length ≤ 1000000) (hz : ∀ x ∈ ws, x.size ≤ 65536) : AC Tryz.prog 46 [.lst 1 (ws.map xP)] ⟨.tup [uP (uW ws).1, .v (.bool (uW ws).2)], []⟩ := by
 unfold uW
 by_cases h0 : ws.length < 2
 · rw [if_pos (.inl h0)]
   refine qrf Tryz.func46 Tryz.ntmps46 Tryz.results46 ?_; conv => whnf
   repeat ((first | refine qz ?_ | refine qr (aBo rfl ⟨⟨_, rfl, rfl⟩, rfl, trivial⟩ rfl) ?_ | refine qst ?_ | refine qdr ?_); conv => whnf)
   exact xS rfl rfl rfl rfl trivial rfl
 by_cases h1 : 3 < ws.length
 · rw [if_pos (.inr h1)]
   refine qrf Tryz.func46 Tryz.ntmps46 Tryz.results46 ?_; conv => whnf
   repeat ((first | refine qz ?_ | refine qr (aBo rfl ⟨⟨_, rfl, rfl⟩, rfl, trivial⟩ rfl) ?_ | refine qst ?_ | refine qdr ?_); conv => whnf)
   exact xS rfl rfl rfl rfl trivial rfl
 rw [if_neg (by omega)]
 have i0 : 0 < ws.length := by omega
 have i1 : 1 < ws.length := by omega
 have g0 : (ws[0]?).getD eY = ws[0] := by simp [i0]
 have g1 : (ws[1]?).getD eY = ws[1] := by simp [i1]
 have z2 : ((ws[2]?).getD eY).size ≤ 65536 := by
  rcases hq : ws[2]? with _ | x
  · simp
  · exact hz x (List.mem_of_getElem? hq)
 refine qrf Tryz.func46 Tryz.ntmps46 Tryz.results46 ?_; conv => whnf
 repeat ((first | refine qz ?_ | refine qr (aBo rfl ⟨⟨_, rfl, rfl⟩, rfl, trivial⟩ rfl) ?_ | refine qst ?_ | refine qdr ?_); conv => whnf)
 refine kK (ι := { i : Nat // i ≤ 6 }) (fun i => ⟨[(0, .lst 1 (ws.map xP)), (2, .optr 3 0 [] 0), (4, .optr 5 0 [] 0), (5, .v (.int .i64 (ws.length : Int))), (6, .v (.int .i64 (i.1 : Int)))], [(3, ⟨.z 30, 5, [.agg [.v (.int .i64 0), .v (.string eY), .v (.string eY), .v (.string eY), .lst 3 []]]⟩), (5, ⟨30, 5, [.agg [.v (.int .i64 ((kdF ws[0] i.1 : Nat) : Int)), .v (.string eY), .v (.string eY), .v (.string eY), .lst 3 []]]⟩)]⟩) (fun i => 6 - i.1) ⟨0, Nat.zero_le _⟩ (by exact qle) ?_
 rintro ⟨i, hi⟩
 dsimp only
 conv => whnf
 by_cases hlt : i < 6
 · have hkl : i < knd.length := hlt
   have hg : (knd.map xP)[i]? = some (xP knd[i]) := by simp [hkl]
   have hs : kdF ws[0] (i + 1) = if ws[0] = knd[i] then i + 1 else kdF ws[0] i := by rw [kdF]; simp [hkl]
   repeat (first | (refine qz ?_; conv => whnf))
   refine .inr ⟨by kernel_rfl, aIq (by kernel_rfl), ?_⟩
   by_cases he : ws[0] = knd[i]
   · rw [if_pos he] at hs
     refine u7 (aBp rfl) rfl rfl rfl (.inl rfl) (by kernel_rfl) ?_
     refine u7 (zN (j := 0) (aGZ _ i0) rfl rfl rfl) rfl rfl rfl (.inr rfl) (by kernel_rfl) ?_
     refine u7 (aGg rfl rfl rfl rfl) rfl rfl rfl (.inr rfl) (by kernel_rfl) ?_
     refine aC3 (aEx aB2 rfl rfl rfl ⟨⟨rfl, rfl, rfl⟩, trivial⟩ rfl rfl rfl) aH7 rfl rfl (by kernel_rfl) ?_
     refine u7 (aBp rfl) rfl rfl rfl (.inl rfl) (by kernel_rfl) ?_
     refine aC3 (aID (aAw (j := i) (by simpa using hkl) rfl rfl rfl rfl rfl) rfl rfl) aJE rfl rfl (by kernel_rfl) ?_
     refine u7 (aC6 rfl rfl hg rfl rfl rfl rfl) rfl rfl rfl (.inr rfl) (by kernel_rfl) ?_
     refine u7 (xA (yh he) rfl rfl rfl) rfl rfl rfl (.inl rfl) (by kernel_rfl) ?_
     refine aHg ?_
     conv => whnf
     repeat ((first | refine qp (xA (jT (c := ((i + 1 : Nat) : Int)) (by omega) (by omega) (by omega)) rfl rfl rfl) ?_ | refine qz ?_ | refine qst ?_); conv => whnf)
     exact ⟨⟨i + 1, hlt⟩, by dsimp only; rw [hs]; exact qle, by simp; omega⟩
   · rw [if_neg he] at hs
     refine u7 (aBp rfl) rfl rfl rfl (.inl rfl) (by kernel_rfl) ?_
     refine u7 (zN (j := 0) (aGZ _ i0) rfl rfl rfl) rfl rfl rfl (.inr rfl) (by kernel_rfl) ?_
     refine u7 (aGg rfl rfl rfl rfl) rfl rfl rfl (.inr rfl) (by kernel_rfl) ?_
     refine aC3 (aEx aB2 rfl rfl rfl ⟨⟨rfl, rfl, rfl⟩, trivial⟩ rfl rfl rfl) aH7 rfl rfl (by kernel_rfl) ?_
     refine u7 (aBp rfl) rfl rfl rfl (.inl rfl) (by kernel_rfl) ?_
     refine aC3 (aID (aAw (j := i) (by simpa using hkl) rfl rfl rfl rfl rfl) rfl rfl) aJE rfl rfl (by kernel_rfl) ?_
     refine u7 (aC6 rfl rfl hg rfl rfl rfl rfl) rfl rfl rfl (.inr rfl) (by kernel_rfl) ?_
     refine u7 (xA (yg he) rfl rfl rfl) rfl rfl rfl (.inl rfl) (by kernel_rfl) ?_
     refine aHg ?_
     conv => whnf
     repeat ((first | refine qp (xA (jT (c := ((i + 1 : Nat) : Int)) (by omega) (by omega) (by omega)) rfl rfl rfl) ?_ | refine qz ?_); conv => whnf)
     exact ⟨⟨i + 1, hlt⟩, by dsimp only; rw [hs]; exact qle, by simp; omega⟩
 have e6 : i = 6 := by omega
 subst e6
 have hk6 := aEX (w := ws[0]) (i := 6)
 rw [g0]
 generalize kdF ws[0] 6 = k at hk6 ⊢
 have hks : k = 0 ∨ k = 1 ∨ k = 2 ∨ k = 3 ∨ k = 4 ∨ k = 5 ∨ k = 6 := by omega
 by_cases hL : ws.length = 2
 · have hz1 : (ws[1]).size ≤ maxLen := by have := hz _ (List.getElem_mem i1); unfold maxLen; omega
   rcases hks with rfl | rfl | rfl | rfl | rfl | rfl | rfl
   · rw [if_neg (by simp [hL])]
     rw [g1]
     repeat ((first | refine qz ?_ | refine qp (xA (vH Tryz.underlying4) rfl rfl rfl) ?_ | refine qst ?_); conv => whnf)
     exact xS rfl rfl rfl rfl trivial rfl
   · rw [if_neg (by simp [hL])]
     rw [g1]
     repeat ((first | refine qz ?_ | refine qp (xA (vH Tryz.underlying4) rfl rfl rfl) ?_ | refine qst ?_); conv => whnf)
     exact xS rfl rfl rfl rfl trivial rfl
   · rw [if_pos (by simp [hL])]
     have hW : wsM 2 ws = ⟨((2 : Nat) : Int), ws[1], eY, eY, []⟩ := by unfold wsM; simp [i1]
     rw [hW, show (decide ((2 : Nat) ≠ 3) || (zl ((ws[2]?).getD eY)).2) = true from by simp, Bool.true_and]
     have cw := vG (o := ⟨((2 : Nat) : Int), ws[1], eY, eY, []⟩) ⟨hz1, (by show (0 : Nat) ≤ _; exact Nat.zero_le _), (by show (0 : Nat) ≤ _; exact Nat.zero_le _), (by show (0 : Nat) ≤ _; exact Nat.zero_le _), fun e he => by cases he⟩
     generalize xN ⟨((2 : Nat) : Int), ws[1], eY, eY, []⟩ = bw at cw ⊢
     repeat ((first | refine qz ?_ | refine qp (xA (vH Tryz.underlying4) rfl rfl rfl) ?_ | refine qst ?_); conv => whnf)
     (refine qdr ?_; conv => whnf)
     repeat (first | (refine qz ?_; conv => whnf) | (refine qc (cw) ?_; conv => whnf) | (refine uK (z8 rfl rfl rfl rfl rfl (by conv => lhs; whnf) rfl) rfl rfl (fun _ => .inr (.inr (uF (by kernel_rfl) (by kernel_rfl)))) ?_; conv => whnf))
     exact xS rfl rfl rfl rfl trivial rfl
   · rw [if_neg (by simp [hL])]
     rw [g1]
     repeat ((first | refine qz ?_ | refine qp (xA (vH Tryz.underlying4) rfl rfl rfl) ?_ | refine qst ?_); conv => whnf)
     exact xS rfl rfl rfl rfl trivial rfl
   · rw [if_neg (by simp [hL])]
     rw [g1]
     repeat ((first | refine qz ?_ | refine qp (xA (vH Tryz.underlying4) rfl rfl rfl) ?_ | refine qst ?_); conv => whnf)
     exact xS rfl rfl rfl rfl trivial rfl
   · rw [if_neg (by simp [hL])]
     rw [g1]
     repeat ((first | refine qz ?_ | refine qp (xA (vH Tryz.underlying4) rfl rfl rfl) ?_ | refine qst ?_); conv => whnf)
     exact xS rfl rfl rfl rfl trivial rfl
   · rw [if_pos (by simp [hL])]
     have hW : wsM 6 ws = ⟨((6 : Nat) : Int), ws[1], eY, eY, []⟩ := by unfold wsM; simp [i1]
     rw [hW, show (decide ((6 : Nat) ≠ 3) || (zl ((ws[2]?).getD eY)).2) = true from by simp, Bool.true_and]
     have cw := vG (o := ⟨((6 : Nat) : Int), ws[1], eY, eY, []⟩) ⟨hz1, (by show (0 : Nat) ≤ _; exact Nat.zero_le _), (by show (0 : Nat) ≤ _; exact Nat.zero_le _), (by show (0 : Nat) ≤ _; exact Nat.zero_le _), fun e he => by cases he⟩
     generalize xN ⟨((6 : Nat) : Int), ws[1], eY, eY, []⟩ = bw at cw ⊢
     repeat ((first | refine qz ?_ | refine qp (xA (vH Tryz.underlying4) rfl rfl rfl) ?_ | refine qst ?_); conv => whnf)
     (refine qdr ?_; conv => whnf)
     repeat (first | (refine qz ?_; conv => whnf) | (refine qc (cw) ?_; conv => whnf) | (refine uK (z8 rfl rfl rfl rfl rfl (by conv => lhs; whnf) rfl) rfl rfl (fun _ => .inr (.inr (uF (by kernel_rfl) (by kernel_rfl)))) ?_; conv => whnf))
     exact xS rfl rfl rfl rfl trivial rfl
 · have i2 : 2 < ws.length := by omega
   have hz1 : (ws[1]).size ≤ maxLen := by have := hz _ (List.getElem_mem i1); unfold maxLen; omega
   rcases hks with rfl | rfl | rfl | rfl | rfl | rfl | rfl
   · rw [if_pos (by simp [hL])]
     have hW : wsM 0 ws = ⟨((0 : Nat) : Int), ws[1], eY, eY, []⟩ := by unfold wsM; simp [i1, i2]
     rw [hW, show (decide ((0 : Nat) ≠ 3) || (zl ((ws[2]?).getD eY)).2) = true from by simp, Bool.true_and]
     have cw := vG (o := ⟨((0 : Nat) : Int), ws[1], eY, eY, []⟩) ⟨hz1, (by show (0 : Nat) ≤ _; exact Nat.zero_le _), (by show (0 : Nat) ≤ _; exact Nat.zero_le _), (by show (0 : Nat) ≤ _; exact Nat.zero_le _), fun e he => by cases he⟩
     generalize xN ⟨((0 : Nat) : Int), ws[1], eY, eY, []⟩ = bw at cw ⊢
     repeat ((first | refine qz ?_ | refine qp (xA (vH Tryz.underlying4) rfl rfl rfl) ?_ | refine qst ?_); conv => whnf)
     (refine qdr ?_; conv => whnf)
     repeat (first | (refine qz ?_; conv => whnf) | (refine qc (cw) ?_; conv => whnf) | (refine uK (z8 rfl rfl rfl rfl rfl (by conv => lhs; whnf) rfl) rfl rfl (fun _ => .inr (.inr (uF (by kernel_rfl) (by kernel_rfl)))) ?_; conv => whnf))
     exact xS rfl rfl rfl rfl trivial rfl
   · rw [if_pos (by simp [hL])]
     have hW : wsM 1 ws = ⟨((1 : Nat) : Int), ws[1], ws[2], eY, []⟩ := by unfold wsM; simp [i1, i2]
     rw [hW, show (decide ((1 : Nat) ≠ 3) || (zl ((ws[2]?).getD eY)).2) = true from by simp, Bool.true_and]
     have hz2 : (ws[2]).size ≤ maxLen := by have := hz _ (List.getElem_mem i2); unfold maxLen; omega
     have cw := vG (o := ⟨((1 : Nat) : Int), ws[1], ws[2], eY, []⟩) ⟨hz1, hz2, (by show (0 : Nat) ≤ _; exact Nat.zero_le _), (by show (0 : Nat) ≤ _; exact Nat.zero_le _), fun e he => by cases he⟩
     generalize xN ⟨((1 : Nat) : Int), ws[1], ws[2], eY, []⟩ = bw at cw ⊢
     repeat ((first | refine qz ?_ | refine qp (xA (vH Tryz.underlying4) rfl rfl rfl) ?_ | refine qst ?_); conv => whnf)
     (refine qdr ?_; conv => whnf)
     repeat (first | (refine qz ?_; conv => whnf) | (refine qc (cw) ?_; conv => whnf) | (refine uK (z8 rfl rfl rfl rfl rfl (by conv => lhs; whnf) rfl) rfl rfl (fun _ => .inr (.inr (uF (by kernel_rfl) (by kernel_rfl)))) ?_; conv => whnf))
     exact xS rfl rfl rfl rfl trivial rfl
   · rw [if_neg (by simp [hL])]
     rw [g1]
     repeat ((first | refine qz ?_ | refine qp (xA (vH Tryz.underlying4) rfl rfl rfl) ?_ | refine qst ?_); conv => whnf)
     exact xS rfl rfl rfl rfl trivial rfl
   · rw [if_pos (by simp [hL])]
     have g2 : (ws[2]?).getD eY = ws[2] := by simp [i2]
     have hW : wsM 3 ws = ⟨((3 : Nat) : Int), ws[1], eY, eY, (zl ws[2]).1⟩ := by unfold wsM; simp [i1, i2]
     rw [hW, g2]
     have hz2 := hz _ (List.getElem_mem i2)
     have c5 := aBx (t := ws[2]) hz2
     have hre := aJt (t := ws[2])
     generalize zl ws[2] = X at c5 hre ⊢
     obtain ⟨es, fine⟩ := X
     dsimp only at c5 hre ⊢
     cases fine
     · rw [show (decide ((3 : Nat) ≠ 3) || false) = false from rfl, Bool.false_and]
       repeat ((first | refine qz ?_ | refine qp (xA (vH Tryz.underlying4) rfl rfl rfl) ?_ | refine qc (c5) ?_ | refine qr (aD2 rfl rfl rfl rfl rfl rfl rfl rfl) ?_ | refine qst ?_); conv => whnf)
       (refine qdr ?_; conv => whnf)
       repeat (first | (refine qz ?_; conv => whnf) | (refine uK (z8 rfl rfl rfl rfl rfl (by conv => lhs; whnf) rfl) rfl rfl (fun _ => .inr (.inr (uF (by kernel_rfl) (by kernel_rfl)))) ?_; conv => whnf))
       exact xS rfl rfl rfl rfl trivial rfl
     · have hok := hre rfl
       have cw := vG (o := ⟨((3 : Nat) : Int), ws[1], eY, eY, es⟩) ⟨hz1, by show (0 : Nat) ≤ _; exact Nat.zero_le _, by show (0 : Nat) ≤ _; exact Nat.zero_le _, by have := aB5 hok; unfold maxLen; show es.length ≤ _; omega, fun e he => by have := (aHZ hok e he).1; unfold maxLen; omega⟩
       rw [show (decide ((3 : Nat) ≠ 3) || true) = true from rfl, Bool.true_and]
       generalize xN ⟨((3 : Nat) : Int), ws[1], eY, eY, es⟩ = bw at cw ⊢
       repeat ((first | refine qz ?_ | refine qp (xA (vH Tryz.underlying4) rfl rfl rfl) ?_ | refine qc (c5) ?_ | refine qr (aD2 rfl rfl rfl rfl rfl rfl rfl rfl) ?_ | refine qst ?_); conv => whnf)
       (refine qdr ?_; conv => whnf)
       repeat (first | (refine qz ?_; conv => whnf) | (refine qc (cw) ?_; conv => whnf) | (refine uK (z8 rfl rfl rfl rfl rfl (by conv => lhs; whnf) rfl) rfl rfl (fun _ => .inr (.inr (uF (by kernel_rfl) (by kernel_rfl)))) ?_; conv => whnf))
       exact xS rfl rfl rfl rfl trivial rfl
   · rw [if_pos (by simp [hL])]
     have hW : wsM 4 ws = ⟨((4 : Nat) : Int), ws[1], ws[2], eY, []⟩ := by unfold wsM; simp [i1, i2]
     rw [hW, show (decide ((4 : Nat) ≠ 3) || (zl ((ws[2]?).getD eY)).2) = true from by simp, Bool.true_and]
     have hz2 : (ws[2]).size ≤ maxLen := by have := hz _ (List.getElem_mem i2); unfold maxLen; omega
     have cw := vG (o := ⟨((4 : Nat) : Int), ws[1], ws[2], eY, []⟩) ⟨hz1, hz2, (by show (0 : Nat) ≤ _; exact Nat.zero_le _), (by show (0 : Nat) ≤ _; exact Nat.zero_le _), fun e he => by cases he⟩
     generalize xN ⟨((4 : Nat) : Int), ws[1], ws[2], eY, []⟩ = bw at cw ⊢
     repeat ((first | refine qz ?_ | refine qp (xA (vH Tryz.underlying4) rfl rfl rfl) ?_ | refine qst ?_); conv => whnf)
     (refine qdr ?_; conv => whnf)
     repeat (first | (refine qz ?_; conv => whnf) | (refine qc (cw) ?_; conv => whnf) | (refine uK (z8 rfl rfl rfl rfl rfl (by conv => lhs; whnf) rfl) rfl rfl (fun _ => .inr (.inr (uF (by kernel_rfl) (by kernel_rfl)))) ?_; conv => whnf))
     exact xS rfl rfl rfl rfl trivial rfl
   · rw [if_pos (by simp [hL])]
     have hW : wsM 5 ws = ⟨((5 : Nat) : Int), ws[1], eY, ws[2], []⟩ := by unfold wsM; simp [i1, i2]
     rw [hW, show (decide ((5 : Nat) ≠ 3) || (zl ((ws[2]?).getD eY)).2) = true from by simp, Bool.true_and]
     have hz2 : (ws[2]).size ≤ maxLen := by have := hz _ (List.getElem_mem i2); unfold maxLen; omega
     have cw := vG (o := ⟨((5 : Nat) : Int), ws[1], eY, ws[2], []⟩) ⟨hz1, (by show (0 : Nat) ≤ _; exact Nat.zero_le _), hz2, (by show (0 : Nat) ≤ _; exact Nat.zero_le _), fun e he => by cases he⟩
     generalize xN ⟨((5 : Nat) : Int), ws[1], eY, ws[2], []⟩ = bw at cw ⊢
     repeat ((first | refine qz ?_ | refine qp (xA (vH Tryz.underlying4) rfl rfl rfl) ?_ | refine qst ?_); conv => whnf)
     (refine qdr ?_; conv => whnf)
     repeat (first | (refine qz ?_; conv => whnf) | (refine qc (cw) ?_; conv => whnf) | (refine uK (z8 rfl rfl rfl rfl rfl (by conv => lhs; whnf) rfl) rfl rfl (fun _ => .inr (.inr (uF (by kernel_rfl) (by kernel_rfl)))) ?_; conv => whnf))
     exact xS rfl rfl rfl rfl trivial rfl
   · rw [if_neg (by simp [hL])]
     rw [g1]
     repeat ((first | refine qz ?_ | refine qp (xA (vH Tryz.underlying4) rfl rfl rfl) ?_ | refine qst ?_); conv => whnf)
     exact xS rfl rfl rfl rfl trivial rfl
end Go.Proofs.YtodckioppgjbdaaGreatDoor.AM
namespace Go.Proofs.YtodckioppgjbdaaGreatDoor.AM
open Go Go.RowKit
def noC (t : ByteArray) (c : Nat) : Prop := ∀ i, ∀ h : i < t.size, (t[i]).toNat ≠ c
theorem aJj {a b : ByteArray} {c : Nat} (ha : noC a c) (hb : noC b c) : noC (a ++ b) c := by
 intro i h
 by_cases hi : i < a.size
 · rw [ByteArray.getElem_append_left hi]; exact ha i hi
 · rw [ByteArray.getElem_append_right (by omega)]
   exact hb _ _
theorem aEd {l : List UInt8} {c : Nat} (h : ∀ b ∈ l, b.toNat ≠ c) : noC ⟨l.toArray⟩ c := by
 intro i hi
 have e : (⟨l.toArray⟩ : ByteArray).size = l.length := List.size_toArray
 exact h _ (List.getElem_mem (by omega : i < l.length))
theorem aJk {b : UInt8} {c : Nat} (h : b.toNat ≠ c) : noC ⟨#[b]⟩ c := aEd (l := [b]) (fun x hx => by simp at hx; subst hx; exact h)
theorem aER : ∀ {n : Nat}, ∀ b ∈ vz n, 48 ≤ b.toNat ∧ b.toNat ≤ 57 := fun {n} => by
 induction n using Nat.strongRecOn with
 | _ n ih =>
  intro b hb
  by_cases h : n < 10
  · rw [jf h] at hb
    simp only [List.mem_singleton] at hb
    subst hb
    rw [aBY (by omega)]; omega
  · rw [aAg h] at hb
    simp only [List.mem_append, List.mem_singleton] at hb
    rcases hb with hb | rfl
    · exact ih (n / 10) (by omega) b hb
    · rw [aBY (by omega)]; omega
theorem aEP {n c : Nat} (hc : c < 48 ∨ 57 < c) : noC (zP n) c := aEd (fun b hb => by have := aER b hb; omega)
theorem aIb {n : Int} {c : Nat} (hc : c < 48 ∨ 57 < c) (h45 : c ≠ 45) : noC (zx n) c := by
 unfold zx
 split
 · exact aJj (aJk (by show 45 ≠ c; omega)) (aEP hc)
 · exact aEP hc
theorem aEf {a b : ByteArray} : ∀ {i : Nat}, i ≤ a.size → zZ (a ++ b) i = zZ a i
 | 0, _ => rfl
 | i + 1, h => by
  have h1 : i < a.size := by omega
  have h2 : i < (a ++ b).size := by rw [ByteArray.size_append]; omega
  rw [jK h1, jK h2, aEf (by omega), ByteArray.getElem_append_left h1]
theorem aI2 : ∀ {n : Nat}, zZ (zP n) (zP n).size = some n := fun {n} => by
 induction n using Nat.strongRecOn with
 | _ n ih =>
  by_cases h : n < 10
  · rw [aHV h]
    have hs : (⟨[UInt8.ofNat (48 + n)].toArray⟩ : ByteArray).size = 1 := rfl
    rw [hs, jK (by omega)]
    have hb : ((⟨[UInt8.ofNat (48 + n)].toArray⟩ : ByteArray)[0]'(by omega)) = UInt8.ofNat (48 + n) := rfl
    rw [hb, aBY (by omega)]
    simp only [zZ]
    rw [if_pos (by omega)]
    congr 1; omega
  · have hi := ih (n / 10) (by omega)
    rw [aKQ h, ByteArray.size_append]
    have hs : (⟨[UInt8.ofNat (48 + n % 10)].toArray⟩ : ByteArray).size = 1 := rfl
    rw [hs, jK (by rw [ByteArray.size_append, hs]; omega), aEf (Nat.le_refl _), hi]
    have hb : ((zP (n / 10) ++ (⟨[UInt8.ofNat (48 + n % 10)].toArray⟩ : ByteArray))[(zP (n / 10)).size]'(by rw [ByteArray.size_append, hs]; omega)) = UInt8.ofNat (48 + n % 10) := by
     rw [ByteArray.getElem_append_right (by omega)]
     simp only [Nat.sub_self]
     rfl
    dsimp only
    rw [hb, aBY (by omega), if_pos (by omega)]
    congr 1; omega
theorem aES : ∀ {n : Nat}, 0 < (vz n).length := fun {n} => by
 by_cases h : n < 10
 · rw [jf h]; simp
 · rw [aAg h]; simp
theorem aHW : ∀ {n : Nat}, 0 < n → ∃ b r, vz n = b :: r ∧ b.toNat ≠ 48 := fun {n} => by
 induction n using Nat.strongRecOn with
 | _ n ih =>
  intro h0
  by_cases h : n < 10
  · exact ⟨_, [], jf h, by rw [aBY (by omega)]; omega⟩
  · obtain ⟨b, r, e, hb⟩ := ih (n / 10) (by omega) (by omega)
    exact ⟨b, r ++ [UInt8.ofNat (48 + n % 10)], by rw [aAg h, e]; rfl, hb⟩
theorem jH {n : Nat} : (zP n).size = (vz n).length := List.size_toArray
theorem aHU {n : Nat} (h : 0 < (zP n).size) : (zP n)[0] = (vz n)[0]'(by rw [← jH]; exact h) := rfl
theorem je : ∀ (l : List UInt8) (acc : Nat) (b : UInt8), Lib.decFrom acc (l ++ [b]) = (match Lib.decFrom acc l with | none => none | some n => match Lib.digitVal b with | none => none | some d => some (n * 10 + d))
 | [], acc, b => by
  simp only [List.nil_append, Lib.decFrom]
  cases Lib.digitVal b <;> rfl
 | a :: l, acc, b => by
  simp only [List.cons_append, Lib.decFrom]
  cases Lib.digitVal a with
  | none => rfl
  | some d => exact je l _ b
theorem aEe {t : ByteArray} : ∀ (i : Nat), i ≤ t.size → zZ t i = Lib.decFrom 0 (t.data.toList.take i)
 | 0, _ => rfl
 | i + 1, h => by
  have hl : i < t.data.toList.length := by rw [Array.length_toList]; exact h
  have hb : t.data.toList[i] = t[i] := by rw [Array.getElem_toList]; rfl
  rw [jK (by omega), List.take_succ_eq_append_getElem hl, je, ← aEe i (by omega), hb]
  cases zZ t i with
  | none => rfl
  | some n =>
   dsimp only
   unfold Lib.digitVal
   by_cases hd : 48 ≤ (t[i]).toNat ∧ (t[i]).toNat ≤ 57
   · rw [if_pos hd, if_pos hd]
     dsimp only
     congr 1; omega
   · rw [if_neg hd, if_neg hd]
theorem aIg {t : ByteArray} : zZ t t.size = Lib.decFrom 0 t.data.toList := by
 rw [aEe t.size (Nat.le_refl _), List.take_of_length_le (by rw [Array.length_toList]; exact Nat.le_refl _)]
theorem aFQ {b : UInt8} {d : Nat} (h : Lib.digitVal b = some d) : d < 10 ∧ b = UInt8.ofNat (48 + d) := by
 unfold Lib.digitVal at h
 split at h
 · rename_i hb
   simp only [Option.some.injEq] at h
   refine ⟨by omega, ?_⟩
   apply UInt8.toNat_inj.1
   rw [aBY (by omega)]; omega
 · cases h
theorem aHX : ∀ (k : Nat) (L : List UInt8) (m : Nat), L.length = k → Lib.decFrom 0 L = some m → L ≠ [] → (L.head? ≠ some 48 ∨ L.length = 1) → vz m = L := by
 intro k
 induction k with
 | zero => intro L m hk _ hne; exact absurd (List.eq_nil_of_length_eq_zero hk) hne
 | succ k ih =>
  intro L m hk hd hne hh
  obtain ⟨L', b, rfl⟩ : ∃ L' b, L = L' ++ [b] := ⟨L.dropLast, L.getLast hne, (List.dropLast_concat_getLast hne).symm⟩
  rw [je] at hd
  have hk' : L'.length = k := by simpa using hk
  cases hm : Lib.decFrom 0 L' with
  | none => rw [hm] at hd; cases hd
  | some m' =>
   rw [hm] at hd
   dsimp only at hd
   cases hv : Lib.digitVal b with
   | none => rw [hv] at hd; cases hd
   | some d =>
    rw [hv] at hd
    simp only [Option.some.injEq] at hd
    obtain ⟨h1, h2⟩ := aFQ hv
    by_cases h0 : L' = []
    · subst h0
      simp only [Lib.decFrom, Option.some.injEq] at hm
      subst hm
      rw [jf (by omega), List.nil_append, h2]
      congr 2; omega
    · have hh' : L'.head? ≠ some 48 := by
       rcases hh with hh | hh
       · intro e
         refine hh ?_
         cases L' with
         | nil => cases e
         | cons a r => exact e
       · have : 0 < L'.length := List.length_pos_iff.2 h0
         rw [List.length_append] at hh; simp only [List.length_cons, List.length_nil] at hh; omega
      have h3 := ih L' m' hk' hm h0 (.inl hh')
      have hpos : 1 ≤ m' := by
       rcases Nat.eq_zero_or_pos m' with e | e
       · subst e
         rw [jf (by omega)] at h3
         exact absurd (by rw [← h3]; rfl) hh'
       · exact e
      have hm10 : ¬ m < 10 := by omega
      rw [aAg hm10, ← hd, show (m' * 10 + d) / 10 = m' by omega, show (m' * 10 + d) % 10 = d by omega, h3, h2]
theorem aEc {n : Nat} {sg : Bool} (hz : (zP n).size ≤ 18) (hs : sg = true → 0 < n) : nmR (zP n) sg = (if sg = true then -(n : Int) else n, true) := by
 have hp : 0 < (zP n).size := by rw [jH]; exact aES
 refine aDq (by omega) (by omega) ?_ aI2
 rintro ⟨⟨h, h48⟩, h2⟩
 by_cases h0 : 0 < n
 · obtain ⟨b, r, e, hb⟩ := aHW h0
   rw [aHU] at h48
   simp only [e, List.getElem_cons_zero] at h48
   exact hb h48
 · have e0 : n = 0 := by omega
   subst e0
   rcases h2 with h2 | h2
   · rw [jH, jf (by omega)] at h2; simp at h2
   · exact absurd (hs h2) (by omega)
theorem aDO {n : Int} : (n < 0 → uY (zx n) = true ∧ yH (zx n) = zP (-n).toNat) ∧ (¬ n < 0 → uY (zx n) = false ∧ yH (zx n) = zP n.toNat) := by
 constructor
 · intro h
   have e : zx n = ⟨#[45]⟩ ++ zP (-n).toNat := by unfold zx; rw [if_pos h]
   have es : (zx n).size = 1 + (zP (-n).toNat).size := by rw [e, ByteArray.size_append]; rfl
   have hs : uY (zx n) = true := by
    rw [aAE (by omega), decide_eq_true_eq]
    simp only [e]
    rw [ByteArray.getElem_append_left (by show 0 < 1; omega)]
    rfl
   refine ⟨hs, ?_⟩
   unfold yH
   rw [hs, if_pos rfl, es, e]
   exact ByteArray.extract_append_eq_right (by rfl) (by rfl)
 · intro h
   have e : zx n = zP n.toNat := by unfold zx; rw [if_neg h]
   have hp : 0 < (zP n.toNat).size := by rw [jH]; exact aES
   have hs : uY (zx n) = false := by
    rw [e, aAE hp, decide_eq_false_iff_not]
    have := aER (n := n.toNat) ((vz n.toNat)[0]'(by rw [← jH]; exact hp)) (List.getElem_mem _)
    rw [aHU]; omega
   exact ⟨hs, by unfold yH; rw [hs, if_neg (by simp), e]⟩
theorem aHf {n : Int} (hz : (yH (zx n)).size ≤ 18) : y9 (zx n) = (n, true) := by
 rw [aFl]
 by_cases h : n < 0
 · obtain ⟨hs, hb⟩ := aDO.1 h
   rw [hb] at hz
   rw [hs, hb, aEc hz (fun _ => by omega), if_pos rfl]
   congr 1; omega
 · obtain ⟨hs, hb⟩ := aDO.2 h
   rw [hb] at hz
   rw [hs, hb, aEc hz (fun h => by cases h), if_neg (by simp)]
   congr 1; omega
theorem aC2 {t : ByteArray} (h : (y9 t).2 = false) : y9 t = (0, false) := by
 unfold y9 at h ⊢
 split
 · rfl
 · rename_i h1
   rw [if_neg h1] at h
   split
   · rfl
   · rename_i h2
     rw [if_neg h2] at h
     cases hn : zZ (yH t) (yH t).size with
     | none => rfl
     | some n => rw [hn] at h; cases h
theorem aAY {t : ByteArray} {n : Int} (h : y9 t = (n, true)) : t = zx n ∧ (yH t).size ≤ 18 ∧ ∃ m : Nat, Lib.decFrom 0 (yH t).data.toList = some m ∧ (yH t).data.toList ≠ [] ∧ n = (if uY t = true then -(m : Int) else m) := by
 unfold y9 at h
 split at h
 · cases h
 rename_i h1
 split at h
 · cases h
 rename_i h2
 cases hn : zZ (yH t) (yH t).size with
 | none => rw [hn] at h; cases h
 | some m =>
  rw [hn] at h
  simp only [Prod.mk.injEq, and_true] at h
  have hd := hn
  rw [aIg] at hd
  have hlen : (yH t).data.toList.length = (yH t).size := by rw [Array.length_toList]; rfl
  have hne : (yH t).data.toList ≠ [] := by intro e; rw [e] at hlen; simp at hlen; omega
  have hat : ∀ hp : 0 < (yH t).size, (yH t).data.toList.head? = some (yH t)[0] := fun hp => by
   rw [List.head?_eq_getElem?, List.getElem?_eq_getElem (by omega)]
   congr 1
  have hc := aHX _ _ m rfl hd hne (by
   by_cases h1' : (yH t).data.toList.length = 1
   · exact .inr h1'
   · left
     intro e
     have hp : 0 < (yH t).size := by omega
     rw [hat hp] at e
     exact h2 ⟨⟨hp, by rw [Option.some.inj e]; rfl⟩, .inl (by omega)⟩)
  have hB : zP m = yH t := by
   apply ByteArray.ext
   show (vz m).toArray = _
   rw [hc]
  refine ⟨?_, by omega, m, hd, hne, h.symm⟩
  cases hs : uY t with
  | true =>
   rw [hs, if_pos rfl] at h
   have hp0 : 0 < t.size := by
    unfold uY at hs
    split at hs
    · assumption
    · cases hs
   have hm0 : 0 < m := by
    rcases Nat.eq_zero_or_pos m with e | e
    · exfalso
      subst e
      have e0 : zP 0 = ⟨#[48]⟩ := by rw [aHV (by omega)]; rfl
      refine h2 ⟨⟨by omega, ?_⟩, .inr hs⟩
      simp only [← hB, e0]
      rfl
    · exact e
   have e1 : zx n = ⟨#[45]⟩ ++ zP m := by
    unfold zx
    rw [if_pos (by omega)]
    congr 2; omega
   rw [e1, hB]
   have hb : yH t = t.extract 1 t.size := by unfold yH; rw [hs, if_pos rfl]
   have h45 : t[0] = 45 := by
    rw [aAE hp0, decide_eq_true_eq] at hs
    exact UInt8.toNat_inj.1 hs
   rw [hb]
   have : (⟨#[45]⟩ : ByteArray) = t.extract 0 1 := by
    apply ByteArray.ext
    rw [ByteArray.data_extract]
    apply Array.ext
    · simp; have : t.data.size = t.size := rfl; omega
    · intro i h1 h2
      simp at h1
      subst h1
      simp only [Array.getElem_extract]
      exact h45.symm
   rw [this, ByteArray.extract_append_extract, Nat.min_eq_left (by omega), Nat.max_eq_right (by omega)]
   simp
  | false =>
   rw [hs, if_neg (by simp)] at h
   have e1 : zx n = zP m := by
    unfold zx
    rw [if_neg (by omega)]
    congr 1; omega
   have hb : yH t = t := by unfold yH; rw [hs, if_neg (by simp)]
   rw [e1, hB, hb]
section
variable {F : Fence} {n : Nat} {P : Program}
structure Std (c d : Nat) (A B : World) : Prop where
 size : A.heap.size ≤ B.heap.size
 hc : B.heap[c]? = A.heap[c]?
 hd : B.heap[d]? = A.heap[d]?
 hl : B.heap[d + 1]? = A.heap[d + 1]?
def Odd (c d : Nat) (k : Nat) : Prop := k = c ∨ k = d ∨ k = d + 1
def aJx {α : Type} (c d : Nat) (I Ix : List α → World → Prop) (xs : List α) (W : World) : Exit → Act → World → Prop
 | .normal, _, W' => Std c d W W' ∧ I xs W'
 | .ret, _, W' => Std c d W W' ∧ Ix xs W'
 | _, _, _ => False
theorem zf {W : World} {l : Nat} (o : Obj) {M : Nat → Prop} (h : M l) : Grown W (W.putObj l o) M :=
 ⟨rfl, rfl, rfl, by simp, fun k _ hM => World.putObj_heap_other (fun e => hM (e ▸ h))⟩
theorem aFZ {α : Type} {g : Operand} {ps : Array Tmp} {assign body : Code} {Q : Exit → Act → World → Prop} {a : Act} {w : World}
 (hro : F.round = none) (h1 : 1 ≤ n) {gf : Nat} {lb : Array Value} (hg : a.eval g = .func (.func gf) #[] lb) (hFg : F.fn gf) (eg : ∀ args w, (callFunc gf args).run P w = .ok (.enter gf args) w)
 {encs : α → Array Value} {S Sp : List α → Prop} {N : Nat} (Ok : α → Prop) (hps : ∀ x, (encs x).size = ps.size) (c : Nat) (hc : c < w.heap.size) (I Ix : List α → World → Prop)
 (hit : ∀ (l : Nat) (J Jx : List α → World → Prop) (W : World), Grown w W (fun _ => False) → (∀ xs A, J xs A → I xs A) → (∀ xs A B, J xs A → Grown A B (fun k => k = c) → J xs B) → (∀ xs A B, Jx xs A → Grown A B (fun k => k = c) → Jx xs B) →
  (∀ pre x W1, Ok x → J pre W1 → pre.length < N → YieldAt F (n - 1 - 1) P l (encs x) W1 fun e W' => (e = .returned (.bool true) ∧ J (pre ++ [x]) W' ∧ W'.heap[c]? = W1.heap[c]?) ∨ (e = .returned (.bool false) ∧ Jx (pre ++ [x]) W')) →
  J [] W → CallsIn F (n - 1) P gf (#[.func (.yield l) #[] #[]] ++ lb) W fun e W' => (∃ v, e = .returned v) ∧ ((∃ xs, S xs ∧ J xs W') ∨ (∃ pre, Sp pre ∧ Jx pre W')))
 (hI : ∀ xs A B, I xs A → Grown A B (Odd c w.heap.size) → I xs B) (hIx : ∀ xs A B, Ix xs A → Grown A B (Odd c w.heap.size) → Ix xs B) (h0 : I [] w) (a₁ : α → Act)
 (hassign : ∀ (l : Nat) (x : α) (W : World) (K : Act → World → Prop), K (a₁ x) W → assign.wpIn (F.inRound l) (n - 1 - 1) P (Exit.then K (fun _ _ _ => False)) { tmps := (ps.zip (encs x)).foldl (fun t (p, v) => t.setIfInBounds p v) a.tmps, defers := [] } W)
 (hbody : ∀ (l : Nat) (pre : List α) (x : α) (W : World), w.heap.size + 2 ≤ W.heap.size → Ok x → I pre W → pre.length < N → body.wpIn (F.inRound l) (n - 1 - 1) P (aJx c w.heap.size I Ix (pre ++ [x]) W) (a₁ x) W)
 (hdone : ∀ (D : Nat) (xs : List α) (W : World), w.heap.size ≤ D → D < W.heap.size → S xs → I xs W → W.heap[D]? = some (.deferred (some [])) → Q .normal { a with defers := { target := .collected D, args := #[] } :: a.defers } W)
 (hstop : ∀ (D : Nat) (pre : List α) (W : World), w.heap.size ≤ D → D < W.heap.size → Sp pre → Ix pre W → W.heap[D]? = some (.deferred (some [])) → Code.ret.wpIn F n P Q { a with defers := { target := .collected D, args := #[] } :: a.defers } W) :
 (Code.rangeFunc g ps assign body).wpIn F n P Q a w := by
 refine wpIn_rangeFunc fun fn hfn => ?_
 rw [hro]
 let d := w.heap.size
 let rec_ : LoopState → Option Code → Obj := fun st pe => .loop { state := st, pending := pe, fn, tmps := a.tmps, params := ps, assign, body, defers := w.heap.size }
 let W1 := (w.alloc (.deferred (some []))).alloc (rec_ .ready none)
 have s1 : W1.heap.size = d + 2 := by show ((w.heap.push _).push _).size = _; simp [d]
 have bD : W1.heap[d]? = some (.deferred (some [])) := (Below.heap_alloc _ _ _ (by simp [d])).trans (World.alloc_heap_new w _)
 have bL : W1.heap[d + 1]? = some (rec_ .ready none) := by
  have := World.alloc_heap_new (w.alloc (.deferred (some []))) (rec_ .ready none)
  rwa [World.size_alloc] at this
 have g1 : Grown w W1 (fun _ => False) := Grown.of (((Below.refl _ w).alloc (Nat.le_refl _) _).alloc (by simp) _) _
 refine ⟨d + 1, [{ target := .collected d, args := #[] }], W1, { target := .fn (.func gf) lb, args := #[.func (.yield (d + 1)) #[] #[]] }, W1, gf, #[.func (.yield (d + 1)) #[] #[]] ++ lb, W1, run_enterLoop_outer _ _ _ _ _, ?_, ?_, ?_, fun _ => h1, ?_⟩
 · simp only [resolve, hg]; simp [go_sem]
 · intro f' hf'; simp [Target.leads] at hf'; subst hf'; exact hFg
 · simp [invoke, go_sem, eg]
 let J : List α → World → Prop := fun xs W => I xs W ∧ W.heap[d + 1]? = some (rec_ .ready none) ∧ W.heap[d]? = some (.deferred (some []))
 let Jx : List α → World → Prop := fun xs W => Ix xs W ∧ W.heap[d + 1]? = some (rec_ .done (some .ret)) ∧ W.heap[d]? = some (.deferred (some []))
 have in_ : ∀ {W : World} {k : Nat} {o : Obj}, W.heap[k]? = some o → k < W.heap.size := fun h => (Array.getElem?_eq_some_iff.1 h).1
 have kp : ∀ {A B : World} {k : Nat} {o : Obj}, Grown A B (fun k => k = c) → k ≠ c → A.heap[k]? = some o → B.heap[k]? = some o := fun hg hk h => (hg.block _ (in_ h) hk).trans h
 have wk : ∀ {A B : World}, Grown A B (fun k => k = c) → Grown A B (Odd c d) := fun hg => ⟨hg.os, hg.tape, hg.output, hg.size, fun k hk hM => hg.block k hk (fun e => hM (.inl e))⟩
 have ndc : d ≠ c := by show w.heap.size ≠ c; omega
 have nlc : d + 1 ≠ c := by show w.heap.size + 1 ≠ c; omega
 have hrun := hit (d + 1) J Jx W1 g1 (fun xs A q => q.1) (fun xs A B ⟨q1, q2, q3⟩ hg => ⟨hI xs A B q1 (wk hg), kp hg nlc q2, kp hg ndc q3⟩) (fun xs A B ⟨q1, q2, q3⟩ hg => ⟨hIx xs A B q1 (wk hg), kp hg nlc q2, kp hg ndc q3⟩) ?_ ⟨hI [] w W1 h0 ⟨g1.os, g1.tape, g1.output, g1.size, fun k hk _ => g1.block k hk (fun h => h)⟩, bL, bD⟩
 · refine hrun.mono ?_
   rintro e W2 ⟨⟨v, rfl⟩, ⟨xs, hS, q1, q2, q3⟩ | ⟨pre, hSp, q1, q2, q3⟩⟩
   · refine ⟨none, _, run_endLoop (P := P) q2 (by simp), hdone d xs _ (Nat.le_refl _) (by simpa using in_ q3) hS (hI xs W2 _ q1 (zf _ (.inr (.inr rfl)))) ((World.putObj_heap_other (by omega)).trans q3)⟩
   · refine ⟨some .ret, _, run_endLoop (P := P) q2 (by simp), hstop d pre _ (Nat.le_refl _) (by simpa using in_ q3) hSp (hIx pre W2 _ q1 (zf _ (.inr (.inr rfl)))) ((World.putObj_heap_other (by omega)).trans q3)⟩
 rintro pre x W hok ⟨q1, q2, q3⟩ hlen
 refine ⟨fn, _, assign, body, run_yield (P := P) (args := encs x) q2 (hps x), roundIn_of_wpIn hfn (hassign _ x W _ ?_)⟩
 refine ⟨_, run_beginRound q2 rfl, ?_⟩
 let V := W.putObj (d + 1) (rec_ .busy none)
 have vL : V.heap[d + 1]? = some (rec_ .busy none) := World.putObj_heap_same (in_ q2)
 have vD : V.heap[d]? = some (.deferred (some [])) := (World.putObj_heap_other (by omega)).trans q3
 have vC : V.heap[c]? = W.heap[c]? := World.putObj_heap_other (fun e => nlc e.symm)
 have vs : d + 2 ≤ V.heap.size := by have := in_ vL; omega
 refine wpIn_mono (hbody _ pre x V vs hok (hI pre W V q1 (zf _ (.inr (.inr rfl)))) hlen) fun e a3 W3 hp => ?_
 have fin : ∀ (jump : Option Code), Std c d V W3 → (Instr.endRound (d + 1) jump).run P W3 = .ok (.bool jump.isNone) (W3.putObj (d + 1) (rec_ (if jump.isNone then .ready else .done) jump)) ∧ d + 1 < W3.heap.size ∧ (W3.putObj (d + 1) (rec_ (if jump.isNone then .ready else .done) jump)).heap[d]? = some (.deferred (some [])) ∧ (W3.putObj (d + 1) (rec_ (if jump.isNone then .ready else .done) jump)).heap[c]? = W.heap[c]? := fun jump st => by
  have wL : W3.heap[d + 1]? = some (rec_ .busy none) := st.hl.trans vL
  exact ⟨run_endRound (P := P) jump wL, in_ wL, (World.putObj_heap_other (by omega)).trans (st.hd.trans vD), (World.putObj_heap_other (fun e => nlc e.symm)).trans (st.hc.trans vC)⟩
 cases e with
 | normal =>
  obtain ⟨st, q⟩ := hp
  obtain ⟨r1, r2, r3, r4⟩ := fin none st
  exact ⟨_, _, r1, .inl ⟨rfl, ⟨hI _ _ _ q (zf _ (.inr (.inr rfl))), World.putObj_heap_same r2, r3⟩, r4⟩⟩
 | ret =>
  obtain ⟨st, q⟩ := hp
  obtain ⟨r1, r2, r3, r4⟩ := fin (some .ret) st
  exact ⟨_, _, r1, .inr ⟨rfl, hIx _ _ _ q (zf _ (.inr (.inr rfl))), World.putObj_heap_same r2, r3⟩⟩
 | exit id => exact hp.elim
 | goto t => exact hp.elim
 | panic ch => exact hp.elim
 | outgrown => exact hp.elim
end
end Go.Proofs.YtodckioppgjbdaaGreatDoor.AM
namespace Go.Proofs.YtodckioppgjbdaaGreatDoor.AM
open Go Go.RowKit Go.Shelf
attribute [local go_sem] Oper.semAt_some
theorem ext_list {t : ByteArray} {j : Nat} : (t.extract j t.size).data.toList = t.data.toList.drop j := by
 rw [ByteArray.data_extract, Array.toList_extract, List.extract_eq_take_drop]
 have : t.data.toList.length = t.size := by rw [Array.length_toList]; rfl
 rw [List.take_of_length_le (by rw [List.length_drop]; omega)]
theorem j6 {t : ByteArray} {k : Nat} (h : k < t.size) : t.data.toList[k]? = some t[k] := by
 have h1 : k < t.data.size := h
 rw [Array.getElem?_toList, Array.getElem?_eq_getElem h1]; rfl
theorem aBg {t : ByteArray} {c j : Nat} : ∀ {m : Nat}, j + m ≤ t.size → (∀ k, ∀ h : k < t.size, j ≤ k → k < j + m → (t[k]).toNat ≠ c) → zC t c (j + m) = zC t c j
 | 0, _, _ => rfl
 | m + 1, h, hn => by
  rw [← Nat.add_assoc, qj (by omega), if_neg (hn (j + m) (by omega) (by omega) (by omega)), aBg (by omega) fun k h h1 h2 => hn k h h1 (by omega)]
theorem aEN {t : ByteArray} {c : Nat} : ∀ (m i : Nat), i + m ≤ t.size → (zC t c i).1 <+: (zC t c (i + m)).1
 | 0, i, _ => List.prefix_refl _
 | m + 1, i, h => by
  have h1 := aEN (t := t) (c := c) m i (by omega)
  rw [← Nat.add_assoc, qj (by omega)]
  split
  · exact h1.trans (List.prefix_append _ _)
  · exact h1
theorem aKN {t : ByteArray} {c i : Nat} (h : i ≤ t.size) : (zC t c i).1 <+: yj t c := by
 have h1 := aEN (t := t) (c := c) (t.size - i) i (by omega)
 rw [show i + (t.size - i) = t.size by omega] at h1
 unfold yj
 exact h1.trans (List.prefix_append _ _)
theorem aCm {t : ByteArray} {c : UInt8} {j : Nat} {pre : List ByteArray} (hj : j ≤ t.size) (h : zC t c.toNat j = (pre, j)) (hi : Lib.indexByte (t.extract j t.size).data.toList c = -1) : yj t c.toNat = pre ++ [t.extract j t.size] := by
 have hn := Lib.indexByte_none hi
 rw [ext_list] at hn
 have hg : zC t c.toNat (j + (t.size - j)) = zC t c.toNat j := aBg (by omega) fun k hk h1 h2 e => by
  refine hn (k - j) ?_
  rw [List.getElem?_drop, show j + (k - j) = k by omega, j6 hk]
  exact congrArg some (UInt8.toNat_inj.1 e)
 rw [show j + (t.size - j) = t.size by omega] at hg
 unfold yj
 rw [hg, h]
theorem aBh {t : ByteArray} {c : UInt8} {j i : Nat} {pre : List ByteArray} (hj : j ≤ t.size) (h : zC t c.toNat j = (pre, j)) (hi : Lib.indexByte (t.extract j t.size).data.toList c = (i : Int)) : j + i < t.size ∧ zC t c.toNat (j + i + 1) = (pre ++ [t.extract j (j + i)], j + i + 1) := by
 obtain ⟨h1, h2⟩ := Lib.indexByte_some hi
 rw [ext_list] at h1 h2
 rw [List.getElem?_drop] at h1
 have hlt : j + i < t.size := by
  have := (List.getElem?_eq_some_iff.1 h1).1
  rw [Array.length_toList] at this; exact this
 refine ⟨hlt, ?_⟩
 have hg : zC t c.toNat (j + i) = zC t c.toNat j := aBg (by omega) fun k hk h3 h4 e => by
  refine h2 (k - j) (by omega) ?_
  rw [List.getElem?_drop, show j + (k - j) = k by omega, j6 hk]
  exact congrArg some (UInt8.toNat_inj.1 e)
 rw [j6 hlt] at h1
 rw [qj hlt, if_pos (by rw [Option.some.inj h1]), hg, h]
def aG7 (b : Nat) (w : World) : Nat := match w.cell? ⟨b, 0, none⟩ with | some (.string r) => r.size | _ => 0
theorem aE3 {b : Nat} {w : World} {ty : TypeId} {r : ByteArray} (h : Boxed w b ty (.string r)) : aG7 b w = r.size := by unfold aG7; rw [h.cell]
theorem aK2 {W : World} {b : Nat} {v : Value} : Grown W (W.setCell ⟨b, 0, none⟩ v) (fun k => k = b) := by
 have h := grownBy_setCell' W b v
 exact ⟨h.os, h.tape, h.output, h.size, fun k hk hM => h.block k hk (fun e => hM (Option.some.inj e))⟩
set_option maxRecDepth 100000 in
set_option maxHeartbeats 4000000 in
theorem aGx {l Bp Bs Bv : Nat} {t : ByteArray} {c : UInt8} (J Jx : List ByteArray → World → Prop) (W : World) (hsz : t.size ≤ 1000000)
 (hI : ∀ xs A, J xs A → A.cell? ⟨Bp, 0, none⟩ = some (.string ⟨#[c]⟩) ∧ A.cell? ⟨Bv, 0, none⟩ = some (.int .i64 0))
 (hJ : ∀ xs A B, J xs A → Grown A B (fun k => k = Bs) → J xs B)
 (hs : Boxed W Bs 9 (.string t))
 (hY : ∀ pre x W1, x.size ≤ t.size → J pre W1 → pre.length < t.size + 2 → YieldAt Fence.wide 1 Tryz.prog l #[.string x] W1 fun e W' => (e = .returned (.bool true) ∧ J (pre ++ [x]) W' ∧ W'.heap[Bs]? = W1.heap[Bs]?) ∨ (e = .returned (.bool false) ∧ Jx (pre ++ [x]) W'))
 (h0 : J [] W) :
 CallsIn Fence.wide 2 Tryz.prog 201 #[.func (.yield l) #[] #[], .pointer (some ⟨Bp, 0, none⟩), .pointer (some ⟨Bs, 0, none⟩), .pointer (some ⟨Bv, 0, none⟩)] W fun e W' => (∃ v, e = .returned v) ∧ ((∃ xs, xs = yj t c.toNat ∧ J xs W') ∨ (∃ pre, pre <+: yj t c.toNat ∧ Jx pre W')) := by
 refine callsIn_of_wp Tryz.func201 rfl trivial ?_ rfl
 simp only [Tryz.ntmps201, List.size_toArray, List.length_cons, List.length_nil, Nat.reduceAdd, Nat.reduceSub, Array.replicate_succ, Array.replicate_zero, List.push_toArray, List.append_toArray, List.nil_append, List.cons_append]
 have hp := (hI _ _ h0).1
 gi_wp2
 gi_loopw [7] (fun p wr => ∃ (j : Nat) (pre : List ByteArray), j ≤ t.size ∧ zC t c.toNat j = (pre, j) ∧ Boxed wr Bs 9 (.string (t.extract j t.size)) ∧ J pre wr)
  (fun p wr => aG7 Bs wr)
 case atStart => exact ⟨0, [], Nat.zero_le _, rfl, by rw [show t.extract 0 t.size = t by simp]; exact hs, h0⟩
 case round =>
  obtain ⟨j, pre, hj, hc, hb, hJs⟩ := hrel
  obtain ⟨hp1, hv1⟩ := hI _ _ hJs
  have hpl := (aBI (t := t) (c := c.toNat) hj).2.1
  rw [hc] at hpl
  dsimp only at hpl
  by_cases hi : Lib.indexByte (t.extract j t.size).data.toList c = -1
  · have he := aCm hj hc hi
    have hcell := hb.cell
    obtain ⟨fn, tmps, assign, body, hy, hR⟩ := hY pre (t.extract j t.size) wr jh hJs (by omega)
    generalize t.extract j t.size = r at *
    have hcall := Tryz.strings_Index_one r c wr
    rw [hi] at hcall
    gi_wp2_with (refine ⟨trivial, ?_⟩; gi_at_call 203; refine (callsIn_wide.2 hcall).mono ?_; rintro e w' ⟨rfl, rfl⟩)
    refine hR.mono ?_
    rintro e W3 (⟨rfl, hJ3, hk3⟩ | ⟨rfl, hJx3⟩)
    · gi_wp2
      go_end0
      exact ⟨⟨_, rfl⟩, .inl ⟨_, he.symm, hJ3⟩⟩
    · gi_wp2
      go_end0
      exact ⟨⟨_, rfl⟩, .inr ⟨_, by rw [he]; exact List.prefix_refl _, hJx3⟩⟩
  · have hge := Lib.indexByte_ge (t.extract j t.size).data.toList c
    obtain ⟨i, hi'⟩ : ∃ i : Nat, Lib.indexByte (t.extract j t.size).data.toList c = (i : Int) := ⟨(Lib.indexByte (t.extract j t.size).data.toList c).toNat, by omega⟩
    obtain ⟨hlt, hst⟩ := aBh hj hc hi'
    have hcell := hb.cell
    have hfr := hb.frozen
    have hrs : (t.extract j t.size).size = t.size - j := by rw [ByteArray.size_extract]; omega
    have e1 : (t.extract j t.size).extract 0 i = t.extract j (j + i) := by rw [ByteArray.extract_extract, Nat.add_zero, Nat.min_eq_left (by omega)]
    have e2 : (t.extract j t.size).extract (i + 1) (t.size - j) = t.extract (j + i + 1) t.size := by rw [ByteArray.extract_extract, Nat.min_eq_right (by omega), Nat.add_assoc]
    obtain ⟨fn, tmps, assign, body, hy, hR⟩ := hY pre (t.extract j (j + i)) wr jh hJs (by omega)
    have hcall := Tryz.strings_Index_one (t.extract j t.size) c wr
    rw [hi'] at hcall
    clear hi' hi
    gi_wp2_with (refine ⟨trivial, ?_⟩; gi_at_call 203; refine (callsIn_wide.2 hcall).mono ?_; rintro e w' ⟨rfl, rfl⟩)
    refine hR.mono ?_
    rintro e W3 (⟨rfl, hJ3, hk3⟩ | ⟨rfl, hJx3⟩)
    · have hb3 : Boxed W3 Bs 9 (.string (t.extract j t.size)) := hk3.trans hb
      have hcell3 := hb3.cell
      have hfr3 := hb3.frozen
      obtain ⟨hp3, hv3⟩ := hI _ _ hJ3
      gi_wp2
      go_roundw
      case rel => exact ⟨j + i + 1, pre ++ [t.extract j (j + i)], by omega, hst, hb3.set _, hJ _ _ _ hJ3 aK2⟩
      case measure => rw [aE3 (hb3.set _), aE3 hb, ByteArray.size_extract, ByteArray.size_extract]; omega
    · gi_wp2
      refine bodyPost_ret (results_none rfl _ _ _) rfl ?_
      exact ⟨⟨_, rfl⟩, .inr ⟨_, by have := aKN (t := t) (c := c.toNat) (i := j + i + 1) (by omega); rw [hst] at this; exact this, hJx3⟩⟩
end Go.Proofs.YtodckioppgjbdaaGreatDoor.AM
namespace Go.Proofs.YtodckioppgjbdaaGreatDoor.AM
open Go Go.RowKit
theorem aIE {t : ByteArray} : uY t = true ↔ ∃ r, t.data.toList = 45 :: r := by
 constructor
 · intro hs
   have hp0 : 0 < t.size := by
    unfold uY at hs
    split at hs
    · assumption
    · cases hs
   rw [aAE hp0, decide_eq_true_eq] at hs
   have h45 : t[0] = 45 := UInt8.toNat_inj.1 hs
   have h0 := j6 hp0
   cases hL : t.data.toList with
   | nil => rw [hL] at h0; cases h0
   | cons a r =>
    rw [hL] at h0
    simp only [List.getElem?_cons_zero, Option.some.injEq] at h0
    exact ⟨r, by rw [h0, h45]⟩
 · rintro ⟨r, hr⟩
   have hp0 : 0 < t.size := by
    have : t.data.toList.length = t.size := by rw [Array.length_toList]; rfl
    rw [hr] at this; simp at this; omega
   have h0 := j6 hp0
   rw [hr] at h0
   simp only [List.getElem?_cons_zero, Option.some.injEq] at h0
   rw [aAE hp0, ← h0]; rfl
theorem aBl {t : ByteArray} (h : uY t = true) : t.data.toList = 45 :: (yH t).data.toList := by
 obtain ⟨r, hr⟩ := aIE.1 h
 have hb : yH t = t.extract 1 t.size := by unfold yH; rw [h, if_pos rfl]
 rw [hb, ext_list, hr]; rfl
theorem aGS {t : ByteArray} (h : uY t = false) : yH t = t := by unfold yH; rw [h, if_neg (by simp)]
theorem aIy {t : ByteArray} : (⟨(Lib.trimPrefix t.data.toList [45]).toArray⟩ : ByteArray) = yH t := by
 cases hs : uY t with
 | true =>
  have h := aBl hs
  unfold Lib.trimPrefix Lib.hasPrefix
  rw [h, if_pos (by simp [List.isPrefixOf])]
  rfl
 | false =>
  rw [aGS hs]
  unfold Lib.trimPrefix Lib.hasPrefix
  rw [if_neg]
  intro hp
  cases hL : t.data.toList with
  | nil => rw [hL] at hp; cases hp
  | cons a r =>
   rw [hL] at hp
   simp only [List.isPrefixOf, Bool.and_true, beq_iff_eq] at hp
   have := aIE.2 ⟨r, by rw [hL, ← hp]⟩
   rw [hs] at this; cases this
theorem aF9 {t : ByteArray} {n : Int} (h : y9 t = (n, true)) : Lib.atoiAll t.data.toList = .ok n := by
 obtain ⟨_, h18, m, hd, hne, hn⟩ := aAY h
 have hlen : (yH t).data.toList.length ≤ 18 := by rw [Array.length_toList]; exact h18
 have hdn : Lib.decNat (yH t).data.toList = some m := by unfold Lib.decNat; rw [if_neg (by simpa using hne)]; exact hd
 have hpm : Lib.parseMag (yH t).data.toList = .ok m := by rw [Lib.parseMag_short _ hlen, hdn]; rfl
 have hms := Lib.decNat_small hlen hdn
 cases hs : uY t with
 | true =>
  rw [hs, if_pos rfl] at hn
  rw [aBl hs]
  unfold Lib.atoiAll
  have e45 : (45 : UInt8).toNat = 45 := rfl
  dsimp only
  rw [if_pos (.inr e45), hpm]
  dsimp only
  rw [if_neg (fun h => h.1 e45), if_neg (by omega), if_pos e45, hn]
 | false =>
  rw [hs, if_neg (by simp)] at hn
  rw [aGS hs] at hpm hne hd
  cases hL : t.data.toList with
  | nil => exact absurd hL hne
  | cons a r =>
   rw [hL] at hpm hd
   have ha : 48 ≤ a.toNat ∧ a.toNat ≤ 57 := by
    simp only [Lib.decFrom] at hd
    cases hv : Lib.digitVal a with
    | none => rw [hv] at hd; cases hd
    | some d =>
     unfold Lib.digitVal at hv
     split at hv
     · assumption
     · cases hv
   unfold Lib.atoiAll
   dsimp only
   rw [if_neg (show ¬ (a.toNat = 43 ∨ a.toNat = 45) by omega), hpm]
   dsimp only
   rw [if_neg (by omega), if_neg (fun h => absurd h.1 (by omega)), if_neg (by omega), hn]
theorem aJ1 {t : ByteArray} (h18 : (yH t).size ≤ 18) : Lib.atoiAll t.data.toList ≠ .range := by
 intro h
 have key : ∀ l : List UInt8, l.length ≤ 18 → Lib.parseMag l ≠ .range ∧ ∀ u, Lib.parseMag l = .ok u → u < 9223372036854775808 := fun l hl => by
  rw [Lib.parseMag_short l hl]
  cases hd : Lib.decNat l with
  | none => exact ⟨fun e => (by cases e), fun u e => (by cases e)⟩
  | some m => exact ⟨fun e => (by cases e), fun u e => (by cases e; exact Lib.decNat_small hl hd)⟩
 cases hL : t.data.toList with
 | nil => rw [hL] at h; cases h
 | cons a r =>
  have hl : (if a.toNat = 43 ∨ a.toNat = 45 then r else a :: r).length ≤ 18 := by
   cases hs : uY t with
   | true =>
    have hb := aBl hs
    rw [hL] at hb
    obtain ⟨e1, e2⟩ := List.cons.inj hb
    rw [if_pos (.inr (by rw [e1]; rfl)), e2, Array.length_toList]
    exact h18
   | false =>
    rw [aGS hs] at h18
    have : t.data.toList.length ≤ 18 := by rw [Array.length_toList]; exact h18
    rw [hL] at this
    simp only [List.length_cons] at this
    split
    · omega
    · simp only [List.length_cons]; omega
  obtain ⟨k1, k2⟩ := key _ hl
  rw [hL] at h
  unfold Lib.atoiAll at h
  dsimp only at h
  cases hp : Lib.parseMag (if a.toNat = 43 ∨ a.toNat = 45 then r else a :: r) with
  | «syntax» => rw [hp] at h; cases h
  | range => exact k1 hp
  | ok u =>
   have := k2 u hp
   rw [hp] at h
   dsimp only at h
   rw [if_neg (by omega), if_neg (by omega)] at h
   cases h
theorem aIJ {P : Program} {w w' : World} {n : String} {k : IntKind} {zs : List Int} {g : Nat} (hg : P.globalNamed n = some g) (hlt : g < w.heap.size) (hb : Below w.heap.size w w') (h : Lib.TabIs P w n k zs) : Lib.TabIs P w' n k zs := by
 unfold Lib.TabIs World.var? at h ⊢
 rw [hg] at h ⊢
 simp only [Option.bind_some] at h ⊢
 rw [hb.block g hlt]; exact h
set_option maxRecDepth 100000 in
set_option maxHeartbeats 2000000 in
theorem aDg {t : ByteArray} (ht : t.size ≤ 1000000) (w : World) (htab : Lib.TabIs Tryz.prog w "internal/strconv.uint64pow10" .u64 Lib.pow10Tab) (hlt : 3 < w.heap.size) (tp : TypeId) (p : Value) (hvar : w.var? Tryz.prog "strconv.ErrSyntax" = some #[.iface tp p]) :
 Calls Tryz.prog 124 #[.string t] w fun e w' => e = .returned (.tuple #[.int .i64 (y9 t).1, .bool (y9 t).2]) ∧ Below w.heap.size w w' := by
 have c1 := Tryz.strings_TrimPrefix t ⟨#[45]⟩ w
 rw [show (⟨#[45]⟩ : ByteArray).data.toList = [45] from rfl, aIy] at c1
 by_cases h18 : 18 < (yH t).size
 · have e : y9 t = (0, false) := by unfold y9; rw [if_pos (.inr h18)]
   rw [e]
   go_enter Tryz.func124, Tryz.ntmps124
   go_wp2_with (go_at_call 171; refine c1.mono ?_; rintro e w' ⟨rfl, rfl⟩)
   go_ret2
   exact ⟨rfl, Below.refl _ _⟩
 cases ha : Lib.atoiAll t.data.toList with
 | range => exact absurd ha (aJ1 (by omega))
 | «syntax» =>
  have hN : (y9 t).2 = false := by
   cases hb : (y9 t).2 with
   | false => rfl
   | true =>
    have := aF9 (t := t) (n := (y9 t).1) (by rw [← hb])
    rw [ha] at this; cases this
  rw [aC2 hN]
  have c2 := Tryz.strconv_Atoi_syntax_var t (by omega) ha tp p w hvar
  go_enter Tryz.func124, Tryz.ntmps124
  go_wp2_with (first | (go_at_call 171; refine c1.mono ?_; rintro e w' ⟨rfl, rfl⟩) | (go_at_call 172; refine c2.mono ?_; rintro e w1 ⟨N, rfl, hN1, hN2, hb1⟩))
  go_ret2
  exact ⟨rfl, hb1⟩
 | ok v =>
  have hv0 : -9223372036854775808 ≤ v ∧ v ≤ 9223372036854775807 := Lib.atoiAll_bounds ha
  have c2 := Tryz.strconv_Atoi_ok t (by omega) v ha w
  have c3 : ∀ w1, Below w.heap.size w w1 → Calls Tryz.prog 78 #[.int .i64 v] w1 fun e w' => e = .returned (.string (zx v)) ∧ Below w1.heap.size w1 w' := fun w1 hb => by
   refine (Tryz.strconv_Itoa v hv0.1 hv0.2 w1 (aIJ (by kernel_rfl) hlt hb htab)).mono ?_
   rintro e w' ⟨rfl, k, os, rfl⟩
   rw [aK4]
   exact ⟨rfl, Lib.below_grow _ w1 (Nat.le_refl _) k os⟩
  by_cases hi : zx v = t
  · have e : y9 t = (v, true) := by rw [← hi]; exact aHf (by rw [hi]; omega)
    rw [e]
    go_enter Tryz.func124, Tryz.ntmps124
    go_wp2_with (first | (go_at_call 171; refine c1.mono ?_; rintro e w' ⟨rfl, rfl⟩) | (go_at_call 172; refine c2.mono ?_; rintro e w1 ⟨rfl, hw1⟩; have hb1 : Below w'.heap.size w' w1 := (by rcases hw1 with rfl | ⟨_, rfl⟩; exact Below.refl _ _; exact Lib.bytesWorld_below _ _ _)) | (go_at_call 78; refine (c3 _ hb1).mono ?_; rintro e w2 ⟨rfl, hb2⟩))
    go_ret2
    exact ⟨rfl, hb1.trans (hb2.mono hb1.size)⟩
  · have hN : (y9 t).2 = false := by
     cases hb : (y9 t).2 with
     | false => rfl
     | true =>
      have h1 := aF9 (t := t) (n := (y9 t).1) (by rw [← hb])
      have h2 := (aAY (t := t) (n := (y9 t).1) (by rw [← hb])).1
      rw [ha] at h1
      have : v = (y9 t).1 := by injection h1
      exact absurd (by rw [this]; exact h2.symm) hi
    rw [aC2 hN]
    have hcmp : ((zx v).toList == t.toList) = false := by
     rw [beq_eq_false_iff_ne]
     exact fun e => hi (toList_inj e)
    go_enter Tryz.func124, Tryz.ntmps124
    go_wp2_with (first | (go_at_call 171; refine c1.mono ?_; rintro e w' ⟨rfl, rfl⟩) | (go_at_call 172; refine c2.mono ?_; rintro e w1 ⟨rfl, hw1⟩; have hb1 : Below w'.heap.size w' w1 := (by rcases hw1 with rfl | ⟨_, rfl⟩; exact Below.refl _ _; exact Lib.bytesWorld_below _ _ _)) | (go_at_call 78; refine (c3 _ hb1).mono ?_; rintro e w2 ⟨rfl, hb2⟩))
    go_ret2
    exact ⟨rfl, hb1.trans (hb2.mono hb1.size)⟩
end Go.Proofs.YtodckioppgjbdaaGreatDoor.AM
