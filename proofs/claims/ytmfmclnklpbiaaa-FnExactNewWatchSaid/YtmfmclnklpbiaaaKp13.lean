/- Texts of the machine over data, folded. -/
import Derived.Test.YtmfmclnklpbiaaaKp7
import Derived.Test.YtmfmclnklpbiaaaKp9
import Derived.Conc.LoneCalls
import Derived.Conc.LoneSelect
import Derived.Test.YtmfmclnklpbiaaaKp8
namespace Go.Proofs.Ytmfmclnklpbiaaa.AM
open Go Go.RowKit
set_option linter.unusedVariables false
set_option linter.unusedSimpArgs false
set_option maxRecDepth 100000

structure Evt where
  ver : Int
  head : Int
  lag : Bool
def evtA (e : Evt) : AV := .agg [.v (.int .i64 e.ver), .v (.int .i64 e.head), .v (.bool e.lag)]
theorem flat_evt (e : Evt) : flatA (evtA e) := by unfold evtA; simp [flatA, flatL]
theorem evt_ext {a b : Evt} : a = b ↔ a.ver = b.ver ∧ a.head = b.head ∧ a.lag = b.lag := by
  cases a; cases b; simp
instance : DecidableEq Evt := fun a b => decidable_of_iff _ evt_ext.symm
structure Wat where
  name : ByteArray
  seen : Int
  queue : List Evt
def watA (w : Wat) : AV := .agg [.v (.string w.name), .v (.int .i64 w.seen), .lst 3 (w.queue.map evtA)]
def Wat.ok (w : Wat) (N : Nat) : Prop := w.name.size ≤ N ∧ w.queue.length ≤ N
attribute [local irreducible] ACode AOps AOps2 RetG RetM Pre ACG
theorem ac_eqEvent {a b : Evt} : AC Try.prog 85 [evtA a, evtA b] ⟨.v (.bool (decide (a = b))), []⟩ := by
  by_cases h1 : a.ver = b.ver
  case neg =>
    rw [decide_eq_false (fun e => h1 (by rw [e]))]
    refine r_of Th_ok (by kernel_rfl) Try.func85 rfl Try.ntmps85 Try.results85 (by kernel_rfl) rfl ?_; conv => whnf
    repeat (((first | refine qb rfl rfl ?_ | refine qi (by assumption) rfl rfl ?_ | refine ql rfl ?_ | refine qo rfl rfl ?_ | refine qs rfl rfl ?_ | refine qn rfl rfl ?_); conv => whnf))
    exact r_ret1 rfl trivial
  by_cases h2 : a.head = b.head
  case neg =>
    rw [decide_eq_false (fun e => h2 (by rw [e]))]
    refine r_of Th_ok (by kernel_rfl) Try.func85 rfl Try.ntmps85 Try.results85 (by kernel_rfl) rfl ?_; conv => whnf
    repeat (((first | refine qb rfl rfl ?_ | refine qi (by assumption) rfl rfl ?_ | refine ql rfl ?_ | refine qo rfl rfl ?_ | refine qs rfl rfl ?_ | refine qn rfl rfl ?_); conv => whnf))
    exact r_ret1 rfl trivial
  have h3 : decide (a = b) = !(a.lag != b.lag) := by
    rw [show decide (a = b) = decide (a.lag = b.lag) by rw [decide_eq_decide, evt_ext]; simp [h1, h2]]
    cases a.lag <;> cases b.lag <;> rfl
  rw [h3]
  cases hb : (a.lag != b.lag) with
  | false =>
    refine r_of Th_ok (by kernel_rfl) Try.func85 rfl Try.ntmps85 Try.results85 (by kernel_rfl) rfl ?_; conv => whnf
    repeat (first | ((first | refine qb rfl rfl ?_ | refine qi (by assumption) rfl rfl ?_ | refine ql rfl ?_ | refine qo rfl rfl ?_ | refine qs rfl rfl ?_ | refine qn rfl rfl ?_); conv => whnf) | (refine r_put (p_bin (b_bne Try.underlying4) rfl rfl rfl) rfl rfl ?_; rw [hb]; conv => whnf))
    exact r_ret1 rfl trivial
  | true =>
    refine r_of Th_ok (by kernel_rfl) Try.func85 rfl Try.ntmps85 Try.results85 (by kernel_rfl) rfl ?_; conv => whnf
    repeat (first | ((first | refine qb rfl rfl ?_ | refine qi (by assumption) rfl rfl ?_ | refine ql rfl ?_ | refine qo rfl rfl ?_ | refine qs rfl rfl ?_ | refine qn rfl rfl ?_); conv => whnf) | (refine r_put (p_bin (b_bne Try.underlying4) rfl rfl rfl) rfl rfl ?_; rw [hb]; conv => whnf))
    exact r_ret1 rfl trivial
theorem ac_eqEventS {l : List Evt} (hm : l.length ≤ maxLen) : AC Try.prog 45 [.lst 3 (l.map evtA), .lst 3 (l.map evtA)] ⟨.v (.bool true), []⟩ := by
  unfold maxLen at hm
  refine r_of Th_ok (by kernel_rfl) Try.func45 rfl Try.ntmps45 Try.results45 (by kernel_rfl) rfl ?_; conv => whnf
  repeat (((first | refine qb rfl rfl ?_ | refine qi (by assumption) rfl rfl ?_ | refine ql rfl ?_ | refine qo rfl rfl ?_ | refine qs rfl rfl ?_ | refine qn rfl rfl ?_); conv => whnf))
  refine r_loop (ι := { k : Nat // k ≤ l.length }) (fun k => ⟨[(0, .lst 3 (l.map evtA)), (1, .lst 3 (l.map evtA)), (5, .v (.int .i64 (k.1 : Int)))], []⟩) (fun k => l.length - k.1) ⟨0, Nat.zero_le _⟩ (by refine ⟨?_, ?_⟩ <;> (repeat (first | trivial | exact ⟨rfl, trivial⟩ | refine ⟨rfl, ?_⟩ | refine ⟨.inl ⟨rfl, rfl⟩, ?_⟩ | refine ⟨.inr ⟨_, _, rfl, rfl, rfl, rfl, rfl⟩, ?_⟩))) ?_
  rintro ⟨k, hk⟩
  dsimp only
  conv => whnf
  by_cases hlt : k < l.length
  · have he := ac_eqEvent (a := l[k]) (b := l[k])
    rw [decide_eq_true rfl] at he
    repeat (((first | refine qb rfl rfl ?_ | refine qi (by assumption) rfl rfl ?_ | refine ql rfl ?_ | refine qo rfl rfl ?_ | refine qs rfl rfl ?_ | refine qn rfl rfl ?_); conv => whnf))
    refine .inl ⟨by kernel_rfl, ?_⟩
    conv => whnf
    repeat (first | ((first | refine qb rfl rfl ?_ | refine qi (by assumption) rfl rfl ?_ | refine ql rfl ?_ | refine qo rfl rfl ?_ | refine qs rfl rfl ?_ | refine qn rfl rfl ?_); conv => whnf) | (refine qc (he) rfl ?_; conv => whnf))
    exact ⟨⟨k + 1, hlt⟩, by refine ⟨?_, ?_⟩ <;> (repeat (first | trivial | exact ⟨rfl, trivial⟩ | refine ⟨rfl, ?_⟩ | refine ⟨.inl ⟨rfl, rfl⟩, ?_⟩ | refine ⟨.inr ⟨_, _, rfl, rfl, rfl, rfl, rfl⟩, ?_⟩)), by simp; omega⟩
  · repeat (((first | refine qb rfl rfl ?_ | refine qi (by assumption) rfl rfl ?_ | refine ql rfl ?_ | refine qo rfl rfl ?_ | refine qs rfl rfl ?_ | refine qn rfl rfl ?_); conv => whnf))
    exact r_ret1 rfl trivial
theorem ac_eqWatch {w : Wat} (hm : w.queue.length ≤ maxLen) : AC Try.prog 10 [watA w, watA w] ⟨.v (.bool true), []⟩ := by
  have h1 := ac_eqEventS hm
  refine r_of Th_ok (by kernel_rfl) Try.func10 rfl Try.ntmps10 Try.results10 (by kernel_rfl) rfl ?_; conv => whnf
  repeat (first | (refine r_put (p_bin (b_sne_f rfl) rfl rfl rfl) rfl rfl ?_; conv => whnf) | ((first | refine qb rfl rfl ?_ | refine qi (by assumption) rfl rfl ?_ | refine ql rfl ?_ | refine qo rfl rfl ?_ | refine qs rfl rfl ?_ | refine qn rfl rfl ?_); conv => whnf) | (refine qc (h1) rfl ?_; conv => whnf) | (refine r_step (p_ostore rfl rfl rfl rfl rfl (by conv => lhs; whnf) rfl) rfl rfl (fun e => by first | exact .inl rfl | contradiction | exact .inr (.inl (by kernel_rfl))) ?_; conv => whnf))
  exact r_ret1 rfl trivial
end Go.Proofs.Ytmfmclnklpbiaaa.AM
/- Channels as objects: what a label of one stands for; contracts of functions that are walked by the machine of one goroutine. -/
namespace Go.Proofs.Ytmfmclnklpbiaaa.AM
open Go Go.RowKit
set_option linter.unusedVariables false
set_option linter.unusedSimpArgs false
/-- a channel, open, of a capacity; what waits in it -/
def chanQ (cap : Nat) (es : List AV) : AbsR where
  rel w b T := (∀ g, T g ↔ g = b) ∧ ∃ s r buf, w.heap[b]? = some (.chan cap buf false s r false) ∧ buf.toList.map some = es.map conc
  frame := by
    rintro w w' b T h ⟨h1, s, r, buf, h2, h3⟩
    exact ⟨h1, s, r, buf, (h b ((h1 b).2 rfl)).trans h2, h3⟩
abbrev chanO (cap : Nat) (es : List AV) : OB := ⟨.c (chanQ cap es), 2, []⟩
section
variable {P : Program} {f : FuncId} {args : List AV} {cap : Nat} {es es' : List AV}
end
end Go.Proofs.Ytmfmclnklpbiaaa.AM
/- Regions that send, receive or select, over data. -/
namespace Go.Proofs.Ytmfmclnklpbiaaa.AM
open Go Go.RowKit Go.Conc
set_option linter.unusedVariables false
set_option linter.unusedSimpArgs false
section
variable {P : Program} {Θ : Tab} {n : Nat}
end
section
variable {P : Program} {Θ : Tab} {n : Nat} {ops : Array Oper} {K : St → Prop} {s : St} {k : Nat}
variable {W : World} {M : Hand} {S0 : Nat → Prop} {S : Nat → Prop} {B : Nat → Nat} {V : Nat → Value} {T : Nat → Nat → Prop} {tmps : Array Value} {w : World}
/-- a channel's block changes -/
theorem SimW.chan (h : SimW W M S0 s tmps w S B V T) {l cap : Nat} {es : List AV} (hl : s.hp l = some (chanO cap es)) :
    ∃ sq rq buf, w.heap[B l]? = some (.chan cap buf false sq rq false) ∧ buf.toList.map some = es.map conc ∧
      ∀ (buf' : Array Value) (s' r' : Nat) (es' : List AV), buf'.toList.map some = es'.map conc → ∃ T', SimW W M S0 (s.set l (some (chanO cap es'))) tmps (w.setChan (B l) cap buf' false s' r' false) S B V T' := by
  obtain ⟨t0, cs, ⟨_, r0⟩, r2, r3, r4, r5, r6⟩ := h.rows.ro l _ hl
  obtain ⟨hT, sq, rq, buf, hc, hq⟩ := r0
  refine ⟨sq, rq, buf, hc, hq, fun buf' s' r' es' he => ?_⟩
  have hlt := (Array.getElem?_eq_some_iff.1 hc).1
  have hTb : T l (B l) := (hT _).2 rfl
  have hoth : ∀ g, g ≠ B l → (w.setChan (B l) cap buf' false s' r' false).heap[g]? = w.heap[g]? := fun g hg => by
    simp [World.setChan, Array.getElem?_setIfInBounds_ne (Ne.symm hg)]
  have hown : ∀ g, ¬ (V l).ownBlock = some g := fun g e => by
    have := r6 g e
    subst this
    exact h.rows.nd l _ _ hl e hTb
  have hgr : Grown w (w.setChan (B l) cap buf' false s' r' false) (Blk V T l) := ⟨rfl, rfl, rfl, by simp [World.setChan], fun g _ hg => hoth g (fun e => hg (by rw [e]; exact .inr hTb))⟩
  refine ⟨_, h.inpl (ob' := chanO cap es') hl rfl hgr ?_ (fun g hg => hg)⟩
  exact ⟨t0, [], ⟨fun t' e => (by cases e), hT, s', r', buf', heap_setChan _ _ _ _ _ _ _ _ hlt, he⟩, ⟨rfl, rfl, fun g hg => by rw [(hT g).1 hg]; simp [World.setChan]; exact hlt⟩, fun x hx => (by cases hx), Nat.succ_pos 1, by
    have := owns_carry (w' := w.setChan (B l) cap buf' false s' r' false) r5 (fun g hg => absurd hg (hown g))
    exact ⟨rfl, this.2.imp id (fun ⟨g, cap1, cur, q1, q2⟩ => absurd (show (V l).ownBlock = some g by rw [q1]; rfl) (hown g))⟩, r6⟩
end
section
variable {P : Program} {Θ : Tab} {n : Nat} {ops : Array Oper} {K : St → Prop} {s : St} {k : Nat} {x y : Operand} {ty : TypeId} {pos : String} {after : Array Edge} {l cap : Nat} {es r : List AV} {u z : Value} {v : AV} {t : Nat} {elem : TypeId}
end
end Go.Proofs.Ytmfmclnklpbiaaa.AM
/- The program's queue of events in a channel, over data. -/
namespace Go.Proofs.Ytmfmclnklpbiaaa.AM
open Go Go.RowKit
set_option linter.unusedVariables false
set_option linter.unusedSimpArgs false
set_option maxRecDepth 100000
attribute [local irreducible] ACode AOps AOps2 RetG RetM Pre ACG
end Go.Proofs.Ytmfmclnklpbiaaa.AM
/- Whether events are valid, on both sides. -/
namespace Go.Proofs.Ytmfmclnklpbiaaa.AM
open Go Go.RowKit
set_option linter.unusedVariables false
set_option linter.unusedSimpArgs false
set_option maxRecDepth 100000
def evOKB (e : Evt) : Bool := decide (1 ≤ e.ver ∧ e.ver ≤ 1000000) && decide (0 ≤ e.head ∧ e.head ≤ 60)
def fB (e b : Evt) : Bool := decide (e.ver = b.ver + 1) || (e.lag && decide (b.ver < e.ver))
def evG (l : List Evt) (i : Nat) : Prop := ∃ h : i < l.length, evOKB l[i] = true ∧ ∀ m, (hm : m + 1 = i) → fB l[i] (l[m]'(by omega)) = true
open Classical in
noncomputable def evsB (l : List Evt) : Bool := decide (∀ i, i < l.length → evG l i)
attribute [local irreducible] ACode AOps AOps2 RetG RetM Pre ACG
end Go.Proofs.Ytmfmclnklpbiaaa.AM
/- Whether watches are valid, and equal, on both sides; the laws. -/
namespace Go.Proofs.Ytmfmclnklpbiaaa.AM
open Go Go.RowKit
set_option linter.unusedVariables false
set_option linter.unusedSimpArgs false
set_option maxRecDepth 100000
def lagB (l : List Evt) : Bool := (l.drop 1).any (·.lag)
noncomputable def qB (l : List Evt) (s : Int) : Bool := decide (l.length ≤ 4) && (evsB l && (decide ((l.getLast?.map (·.ver)) = some s) && !lagB l))
attribute [local irreducible] ACode AOps AOps2 RetG RetM Pre ACG
end Go.Proofs.Ytmfmclnklpbiaaa.AM
namespace Go.Proofs.Ytmfmclnklpbiaaa.AM
open Go Go.RowKit
set_option linter.unusedVariables false
set_option linter.unusedSimpArgs false
set_option maxRecDepth 100000
attribute [local irreducible] ACode AOps AOps2 RetG RetM Pre ACG
theorem wat_ext {a b : Wat} : a = b ↔ a.name = b.name ∧ a.seen = b.seen ∧ a.queue = b.queue := by cases a; cases b; simp
instance : DecidableEq Wat := fun a b => decidable_of_iff _ wat_ext.symm
end Go.Proofs.Ytmfmclnklpbiaaa.AM
/- Watches noted, taken from and drained, on both sides. -/
namespace Go.Proofs.Ytmfmclnklpbiaaa.AM
open Go Go.RowKit
set_option linter.unusedVariables false
set_option linter.unusedSimpArgs false
set_option maxRecDepth 100000
/-! ### what reads so reads otherwise too -/
section
variable {P : Program} {f : FuncId} {args args' : List AV} {rin rout : List OB} {out : Out}
end
/-- a watch whose queue is a row of the call's own -/
def watO (w : Wat) (l : Nat) : AV := .mix [.v (.string w.name), .v (.int .i64 w.seen), .own l]
abbrev evtO (q : List Evt) : OB := ⟨40, 3, q.map evtA⟩
/-! ### ends -/
section
variable {s : St} {Θ : Tab}
theorem cellO {a t l : Nat} {ob : OB} {t' : Option Nat} {xs : List AV} (h1 : s.sl a = .optr l 0 [] 0) (ho : s.hp l = some ob) (hop : ob.e.open_ = false) (hoe : openE ob.e ob.xs 0 = some (.o t' 0 (.mix xs))) (hp : plainM xs = true) (hk : ((Θ.look t).known && (Θ.look t).isAgg && Nat.beq (aszs xs) (Θ.look t).size) = true) : rvA s (.cell a t) = .mix xs ∧ rvOK Θ s (.cell a t) := by
  have hof : ofO (.mix xs) = some (.mix xs) := by simp [ofO, hp]
  have hr : rvA s (.cell a t) = .mix xs := by
    simp only [rvA, h1, ho, hop, hoe, cond_false, hof]; rfl
  simp only [Bool.and_eq_true] at hk
  exact ⟨hr, hk.1.1, by rw [hr]; exact hk.1.2.symm, by rw [hr]; exact Nat.eq_of_beq_eq_true hk.2, .inl ⟨l, ob, _, h1, ho, .inr ⟨hop, _, _, hoe, hof⟩⟩⟩
theorem retA_watO {w : Wat} {L : Nat} {Ls : List Nat} {j : Nat} (hj : Ls.getD j 0 = L) (hlt : Nat.blt j Ls.length = true) : retA s Ls (watO w L) (watO w j) :=
  .inl ⟨by unfold watO; simp [mapA, mapAL, ← hj], by unfold watO; simp only [AV.within, withinL, hlt]; rfl⟩
theorem retA_v {v : Value} {Ls : List Nat} : retA s Ls (.v v) (.v v) := .inl ⟨rfl, rfl⟩
/-- a watch with a queue of its own -/
theorem r_wat {a l L : Nat} {ob : OB} {t' : Option Nat} {w : Wat} {q : OB} {t : Nat} (h1 : s.sl a = .optr l 0 [] 0) (ho : s.hp l = some ob) (hop : ob.e.open_ = false) (hoe : openE ob.e ob.xs 0 = some (.o t' 0 (watO w L))) (hq : s.hp L = some q) (hk : ((Θ.look t).known && (Θ.look t).isAgg && Nat.beq 3 (Θ.look t).size) = true) (hok : okL L = true := by rfl) (hsh : q.e.shut = true := by rfl) :
    RetQ Θ [.cell a t] ⟨watO w 0, [q]⟩ .ret s := by
  obtain ⟨c1, c2⟩ := cellO (Θ := Θ) (t := t) h1 ho hop hoe rfl hk
  exact ⟨trivial, [L], by simp, ⟨⟨hq, hok, hsh⟩, trivial⟩, ⟨c2, trivial⟩, trivial, ⟨by rw [c1]; exact retA_watO rfl rfl, trivial⟩⟩
theorem r_watV {a l L t2 : Nat} {ob : OB} {t' : Option Nat} {w : Wat} {q : OB} {t : Nat} {v : Value} (h1 : s.sl a = .optr l 0 [] 0) (ho : s.hp l = some ob) (hop : ob.e.open_ = false) (hoe : openE ob.e ob.xs 0 = some (.o t' 0 (watO w L))) (hq : s.hp L = some q) (hk : ((Θ.look t).known && (Θ.look t).isAgg && Nat.beq 3 (Θ.look t).size) = true) (hv : s.sl t2 = .v v) (hok : okL L = true := by rfl) (hsh : q.e.shut = true := by rfl) :
    RetQ Θ [.cell a t, .tmp t2] ⟨.tup [watO w 0, .v v], [q]⟩ .ret s := by
  obtain ⟨c1, c2⟩ := cellO (Θ := Θ) (t := t) h1 ho hop hoe rfl hk
  exact ⟨trivial, [L], by simp, ⟨⟨hq, hok, hsh⟩, trivial⟩, ⟨c2, trivial, trivial⟩, ⟨_, rfl⟩, ⟨by rw [c1]; exact retA_watO rfl rfl, by show retA _ _ (s.sl t2) _; rw [hv]; exact retA_v, trivial⟩⟩
end
section
variable {P : Program} {Θ : Tab} {s : St} {ty : TypeId} {pos : String} {after : Array Edge} {g : Option (Nat × Bool)}
end
attribute [local irreducible] ACode AOps AOps2 RetG RetM Pre ACG
end Go.Proofs.Ytmfmclnklpbiaaa.AM
/- NoteRef, NextEvent and DrainWatch on both sides. -/
namespace Go.Proofs.Ytmfmclnklpbiaaa.AM
open Go Go.RowKit
set_option linter.unusedVariables false
set_option linter.unusedSimpArgs false
set_option maxRecDepth 100000
abbrev watZ : Wat := ⟨ByteArray.empty, 0, []⟩
section
variable {s : St} {Θ : Tab}
end
attribute [local irreducible] ACode AOps AOps2 RetG RetM Pre ACG
end Go.Proofs.Ytmfmclnklpbiaaa.AM
/- The other side of NextEvent and DrainWatch. -/
namespace Go.Proofs.Ytmfmclnklpbiaaa.AM
open Go Go.RowKit
set_option linter.unusedVariables false
set_option linter.unusedSimpArgs false
set_option maxRecDepth 100000
attribute [local irreducible] ACode AOps AOps2 RetG RetM Pre ACG
end Go.Proofs.Ytmfmclnklpbiaaa.AM
/- Events and watches marked and held. -/
namespace Go.Proofs.Ytmfmclnklpbiaaa.AM
open Go Go.RowKit
set_option linter.unusedVariables false
set_option linter.unusedSimpArgs false
set_option maxRecDepth 100000
def markV (k : Int) : Evt := ⟨k, k + 1, decide ((k + 1 + 1) % 3 = 0)⟩
def markedV : Nat → Int → List Evt
  | 0, _ => []
  | n + 1, k => markV k :: markedV n (k + 3)
theorem markedV_length : ∀ (n : Nat) (k : Int), (markedV n k).length = n
  | 0, _ => rfl
  | n + 1, k => by simp [markedV, markedV_length n (k + 3)]
theorem markedV_get : ∀ (n : Nat) (k0 : Int) (k : Nat) (h : k < n), (markedV n k0)[k]'(by rw [markedV_length]; exact h) = markV (k0 + 3 * k)
  | n + 1, k0, 0, h => by simp [markedV]
  | n + 1, k0, k + 1, h => by
    have := markedV_get n (k0 + 3) k (by omega)
    simp only [markedV, List.getElem_cons_succ]
    rw [this]; congr 1; omega
attribute [local irreducible] ACode AOps AOps2 RetG RetM Pre ACG
set_option maxHeartbeats 2000000 in
theorem ac_heldEventS {n : Nat} {k0 : Int} (hm : n ≤ 1048600) (h0 : 0 ≤ k0) (h1 : k0 ≤ 8388608) : AC Try.prog 49 [.lst 3 ((markedV n k0).map evtA), .v (.int .i64 k0)] ⟨.v (.int .i64 (k0 + 3 * n)), []⟩ := by
  have hml := markedV_length n k0
  refine r_of Th_ok (by kernel_rfl) Try.func49 rfl Try.ntmps49 Try.results49 (by kernel_rfl) rfl ?_; conv => whnf
  refine r_loop (ι := { k : Nat // k ≤ n }) (fun k => ⟨[(0, .lst 3 ((markedV n k0).map evtA)), (1, .v (.int .i64 (k0 + 3 * (k.1 : Int)))), (5, .v (.int .i64 (k.1 : Int)))], []⟩) (fun k => n - k.1) ⟨0, Nat.zero_le _⟩ (by
    refine ⟨trivial, .inl ⟨rfl, rfl⟩, .inl ⟨?_, rfl⟩, .inl ⟨rfl, rfl⟩, trivial⟩
    show AV.v (.int .i64 k0) = _
    simp) ?_
  rintro ⟨k, hk⟩
  dsimp only
  conv => whnf
  by_cases hlt : k < n
  · have hlt' : k < (markedV n k0).length := by omega
    have hg := markedV_get n k0 k hlt
    have hg2 : (markedV n k0)[k].ver = k0 + 3 * k := by rw [hg]; rfl
    have hg3 : (markedV n k0)[k].head = k0 + 3 * k + 1 := by rw [hg]; rfl
    have hg4 : (markedV n k0)[k].lag = decide ((k0 + 3 * (k : Int) + 1 + 1) % 3 = 0) := by rw [hg]; rfl
    by_cases hz : (k0 + 3 * (k : Int) + 1 + 1) % 3 = 0
    · rw [decide_eq_true hz] at hg4
      repeat (first | ((first | refine qb rfl rfl ?_ | refine qi (by assumption) rfl rfl ?_ | refine ql rfl ?_ | refine qo rfl rfl ?_ | refine qs rfl rfl ?_ | refine qn rfl rfl ?_); conv => whnf) | (refine .inl (And.intro (by kernel_rfl) ?_); conv => whnf) | (refine r_put (p_bin (b_rem (by omega) (by omega) (by omega) (by omega) rfl) rfl rfl rfl) rfl rfl ?_; conv => whnf) | (rw [hg4]; conv => whnf) | (refine r_put (p_bin (b_bne Try.underlying4) rfl rfl rfl) rfl rfl ?_; rw [hg4]; conv => whnf) | (refine r_put (p_bin (b_bne Try.underlying4) rfl rfl rfl) rfl rfl ?_; conv => whnf))
      refine ⟨⟨k + 1, hlt⟩, ⟨trivial, .inl ⟨rfl, rfl⟩, .inl ⟨?_, rfl⟩, .inl ⟨rfl, rfl⟩, trivial⟩, by simp; omega⟩
      show AV.v (.int .i64 (k0 + 3 * k + 1 + 1 + 1)) = _
      congr 2
      simp; omega
    · rw [decide_eq_false hz] at hg4
      repeat (first | ((first | refine qb rfl rfl ?_ | refine qi (by assumption) rfl rfl ?_ | refine ql rfl ?_ | refine qo rfl rfl ?_ | refine qs rfl rfl ?_ | refine qn rfl rfl ?_); conv => whnf) | (refine .inl (And.intro (by kernel_rfl) ?_); conv => whnf) | (refine r_put (p_bin (b_rem (by omega) (by omega) (by omega) (by omega) rfl) rfl rfl rfl) rfl rfl ?_; conv => whnf) | (rw [hg4]; conv => whnf) | (refine r_put (p_bin (b_bne Try.underlying4) rfl rfl rfl) rfl rfl ?_; rw [hg4]; conv => whnf) | (refine r_put (p_bin (b_bne Try.underlying4) rfl rfl rfl) rfl rfl ?_; conv => whnf))
      refine ⟨⟨k + 1, hlt⟩, ⟨trivial, .inl ⟨rfl, rfl⟩, .inl ⟨?_, rfl⟩, .inl ⟨rfl, rfl⟩, trivial⟩, by simp; omega⟩
      show AV.v (.int .i64 (k0 + 3 * k + 1 + 1 + 1)) = _
      congr 2
      simp; omega
  · have hkk : k = n := by omega
    subst hkk
    repeat (first | ((first | refine qb rfl rfl ?_ | refine qi (by assumption) rfl rfl ?_ | refine ql rfl ?_ | refine qo rfl rfl ?_ | refine qs rfl rfl ?_ | refine qn rfl rfl ?_); conv => whnf) | (refine .inl (And.intro (by kernel_rfl) ?_); conv => whnf) | (rw [hml]))
    exact r_ret1 rfl trivial
theorem ac_markEventS0 {k0 : Int} : AC Try.prog 48 [.lst 3 [], .v (.int .i64 k0)] ⟨.v (.int .i64 k0), []⟩ := by
  refine r_of Th_ok (by kernel_rfl) Try.func48 rfl Try.ntmps48 Try.results48 (by kernel_rfl) rfl ?_; conv => whnf
  refine r_loop (ι := Unit) (fun _ => ⟨[(0, .lst 3 []), (1, .v (.int .i64 k0)), (5, .v (.int .i64 0))], []⟩) (fun _ => 0) () (by refine ⟨?_, ?_⟩ <;> (repeat (first | trivial | exact ⟨rfl, trivial⟩ | refine ⟨rfl, ?_⟩ | refine ⟨.inl ⟨rfl, rfl⟩, ?_⟩ | refine ⟨.inr ⟨_, _, rfl, rfl, rfl, rfl, rfl⟩, ?_⟩))) ?_
  rintro ⟨⟩
  try dsimp only
  conv => whnf
  repeat (first | (refine r_put (p_bin (b_lt_f (by simp)) rfl rfl rfl) rfl rfl ?_; conv => whnf) | ((first | refine qb rfl rfl ?_ | refine qi (by assumption) rfl rfl ?_ | refine ql rfl ?_ | refine qo rfl rfl ?_ | refine qs rfl rfl ?_ | refine qn rfl rfl ?_); conv => whnf))
  exact r_ret1 rfl trivial
theorem ac_markWatch0 {nm : ByteArray} {sn k0 : Int} : AC Try.prog 13 [watA ⟨nm, sn, []⟩, .v (.int .i64 k0)] ⟨.v (.int .i64 k0), []⟩ := by
  have h := ac_markEventS0 (k0 := k0)
  refine r_of Th_ok (by kernel_rfl) Try.func13 rfl Try.ntmps13 Try.results13 (by kernel_rfl) rfl ?_; conv => whnf
  repeat (first | ((first | refine qb rfl rfl ?_ | refine qi (by assumption) rfl rfl ?_ | refine ql rfl ?_ | refine qo rfl rfl ?_ | refine qs rfl rfl ?_ | refine qn rfl rfl ?_); conv => whnf) | (refine qc (h) rfl ?_; conv => whnf))
  exact r_ret1 rfl trivial
theorem ac_heldWatch {w : Wat} {k0 : Int} (hm : w.queue.length ≤ 1048576) (h0 : 0 ≤ k0) (h1 : k0 ≤ 4194304) : AC Try.prog 14 [watA ⟨w.name, w.seen, markedV w.queue.length k0⟩, .v (.int .i64 k0)] ⟨.v (.int .i64 (k0 + 3 * w.queue.length)), []⟩ := by
  have h := ac_heldEventS (n := w.queue.length) (k0 := k0) (by omega) (by omega) (by omega)
  refine r_of Th_ok (by kernel_rfl) Try.func14 rfl Try.ntmps14 Try.results14 (by kernel_rfl) rfl ?_; conv => whnf
  repeat (first | ((first | refine qb rfl rfl ?_ | refine qi (by assumption) rfl rfl ?_ | refine ql rfl ?_ | refine qo rfl rfl ?_ | refine qs rfl rfl ?_ | refine qn rfl rfl ?_); conv => whnf) | (refine qc (h) rfl ?_; conv => whnf))
  exact r_ret1 rfl trivial
end Go.Proofs.Ytmfmclnklpbiaaa.AM
/- The laws of NextEvent, DrainWatch and NoteRef. -/
namespace Go.Proofs.Ytmfmclnklpbiaaa.AM
open Go Go.RowKit
set_option linter.unusedVariables false
set_option linter.unusedSimpArgs false
set_option maxRecDepth 100000
attribute [local irreducible] ACode AOps AOps2 RetG RetM Pre ACG
end Go.Proofs.Ytmfmclnklpbiaaa.AM
namespace Go.Proofs.Ytmfmclnklpbiaaa.AM
open Go Go.RowKit
set_option linter.unusedVariables false
set_option linter.unusedSimpArgs false
set_option maxRecDepth 100000
noncomputable def verAt (l : List Rf) (x : ByteArray) : Int := if 0 ≤ rAt l x 0 then (l.getD (rAt l x 0).toNat ⟨ByteArray.empty, 0, 0, false⟩).ver else 0
theorem verAt_no {l : List Rf} {x : ByteArray} (h : rAt l x 0 < 0) : verAt l x = 0 := by unfold verAt; rw [if_neg (by omega)]
theorem verAt_at {l : List Rf} {x : ByteArray} {j : Nat} (hj : j < l.length) (h : rAt l x 0 = (j : Int)) : verAt l x = l[j].ver := by
  unfold verAt
  rw [if_pos (by omega), h]
  simp [List.getD, hj]
attribute [local irreducible] ACode AOps AOps2 RetG RetM Pre ACG
theorem ac_iNew_bad {l : List Rf} {x : ByteArray} {c : Int} (hm : l.length ≤ maxLen) (hk : nmOK maxLen l) (hx : x.size ≤ maxLen) (hc : askF l x = c) (h0 : c ≠ 0) : AC Try.prog 9 [.lst 4 (l.map refA), .v (.string x)] ⟨.tup [watA watZ, .v (.int .i64 c)], []⟩ := by
  have h1 := ac_refsCode hm hk hx
  rw [hc] at h1
  refine r_of Th_ok (by kernel_rfl) Try.func9 rfl Try.ntmps9 Try.results9 (by kernel_rfl) rfl ?_; conv => whnf
  repeat (first | ((first | refine qb rfl rfl ?_ | refine qi (by assumption) rfl rfl ?_ | refine ql rfl ?_ | refine qo rfl rfl ?_ | refine qs rfl rfl ?_ | refine qn rfl rfl ?_); conv => whnf) | (refine .inl (And.intro (by kernel_rfl) ?_); conv => whnf) | (refine qc (h1) rfl ?_; conv => whnf) | (refine r_step (p_ostore rfl rfl rfl rfl rfl (by conv => lhs; whnf) rfl) rfl rfl (fun e => by first | exact .inl rfl | contradiction | exact .inr (.inl (by kernel_rfl))) ?_; conv => whnf))
  exact r_tupCV (x := watA watZ) rfl rfl rfl rfl trivial rfl
theorem ac_iNew_nm {l : List Rf} {x : ByteArray} (hm : l.length ≤ maxLen) (hk : nmOK maxLen l) (hx : x.size ≤ maxLen) (hc : askF l x = 0) (hn : okN x = false) : AC Try.prog 9 [.lst 4 (l.map refA), .v (.string x)] ⟨.tup [watA watZ, .v (.int .i64 1)], []⟩ := by
  have h1 := ac_refsCode hm hk hx
  rw [hc] at h1
  refine r_of Th_ok (by kernel_rfl) Try.func9 rfl Try.ntmps9 Try.results9 (by kernel_rfl) rfl ?_; conv => whnf
  repeat (first | ((first | refine qb rfl rfl ?_ | refine qi (by assumption) rfl rfl ?_ | refine ql rfl ?_ | refine qo rfl rfl ?_ | refine qs rfl rfl ?_ | refine qn rfl rfl ?_); conv => whnf) | (refine .inl (And.intro (by kernel_rfl) ?_); conv => whnf) | (refine qc (h1) rfl ?_; conv => whnf) | (refine qc (ac_nameOK hx hn) rfl ?_; conv => whnf) | (refine r_step (p_ostore rfl rfl rfl rfl rfl (by conv => lhs; whnf) rfl) rfl rfl (fun e => by first | exact .inl rfl | contradiction | exact .inr (.inl (by kernel_rfl))) ?_; conv => whnf))
  exact r_tupCV (x := watA watZ) rfl rfl rfl rfl trivial rfl
theorem ac_versionOf {l : List Rf} {x : ByteArray} (hm : l.length ≤ maxLen) : AC Try.prog 44 [.lst 4 (l.map refA), .v (.string x)] ⟨.v (.int .i64 (verAt l x)), []⟩ := by
  have h2 := ac_placeOfRef (x := x) hm
  by_cases hp : rAt l x 0 < 0
  · rw [verAt_no hp]
    refine r_of Th_ok (by kernel_rfl) Try.func44 rfl Try.ntmps44 Try.results44 (by kernel_rfl) rfl ?_; conv => whnf
    repeat (first | ((first | refine qb rfl rfl ?_ | refine qi (by assumption) rfl rfl ?_ | refine ql rfl ?_ | refine qo rfl rfl ?_ | refine qs rfl rfl ?_ | refine qn rfl rfl ?_); conv => whnf) | (refine .inl (And.intro (by kernel_rfl) ?_); conv => whnf) | (refine qc (h2) rfl ?_; conv => whnf))
    exact r_ret1 rfl trivial
  · obtain ⟨j, hj, e, e2⟩ := rAt_lt (by omega : 0 ≤ rAt l x 0)
    rw [verAt_at hj e]
    rw [e] at h2
    refine r_of Th_ok (by kernel_rfl) Try.func44 rfl Try.ntmps44 Try.results44 (by kernel_rfl) rfl ?_; conv => whnf
    repeat (first | ((first | refine qb rfl rfl ?_ | refine qi (by assumption) rfl rfl ?_ | refine ql rfl ?_ | refine qo rfl rfl ?_ | refine qs rfl rfl ?_ | refine qn rfl rfl ?_); conv => whnf) | (refine .inl (And.intro (by kernel_rfl) ?_); conv => whnf) | (refine qc (h2) rfl ?_; conv => whnf))
    exact r_ret1 rfl trivial
theorem ac_iNew {l : List Rf} {x : ByteArray} (hm : l.length ≤ maxLen) (hk : nmOK maxLen l) (hx : x.size ≤ maxLen) (hc : askF l x = 0) (hn : okN x = true) : AC Try.prog 9 [.lst 4 (l.map refA), .v (.string x)] ⟨.tup [watA ⟨x, verAt l x, []⟩, .v (.int .i64 0)], []⟩ := by
  have h1 := ac_refsCode hm hk hx
  rw [hc] at h1
  have h2 := ac_versionOf (x := x) hm
  refine r_of Th_ok (by kernel_rfl) Try.func9 rfl Try.ntmps9 Try.results9 (by kernel_rfl) rfl ?_; conv => whnf
  repeat (first | ((first | refine qb rfl rfl ?_ | refine qi (by assumption) rfl rfl ?_ | refine ql rfl ?_ | refine qo rfl rfl ?_ | refine qs rfl rfl ?_ | refine qn rfl rfl ?_); conv => whnf) | (refine .inl (And.intro (by kernel_rfl) ?_); conv => whnf) | (refine qc (h1) rfl ?_; conv => whnf) | (refine qc (ac_nameOK hx hn) rfl ?_; conv => whnf) | (refine qc (h2) rfl ?_; conv => whnf) | (refine r_step (p_ostore rfl rfl rfl rfl rfl (by conv => lhs; whnf) rfl) rfl rfl (fun e => by first | exact .inl rfl | contradiction | exact .inr (.inl (by kernel_rfl))) ?_; conv => whnf))
  exact r_tupCV (x := watA ⟨x, verAt l x, []⟩) rfl rfl rfl rfl trivial rfl
theorem ac_sNew_bad {l : List Rf} {x : ByteArray} {c : Int} (hm : l.length ≤ maxLen) (hk : nmOK maxLen l) (hx : x.size ≤ maxLen) (hc : askF l x = c) (h0 : c ≠ 0) : AC Try.prog 7 [.lst 4 (l.map refA), .v (.string x)] ⟨.tup [watA watZ, .v (.int .i64 c)], []⟩ := by
  have hm' := hm
  have hx' := hx
  unfold maxLen at hm' hx'
  have h1 := ac_l04OK hm hk
  by_cases a1 : 4096 < l.length
  · rw [askF_long (.inl a1)] at hc
    subst hc
    refine r_of Th_ok (by kernel_rfl) Try.func7 rfl Try.ntmps7 Try.results7 (by kernel_rfl) rfl ?_; conv => whnf
    repeat (first | ((first | refine qb rfl rfl ?_ | refine qi (by assumption) rfl rfl ?_ | refine ql rfl ?_ | refine qo rfl rfl ?_ | refine qs rfl rfl ?_ | refine qn rfl rfl ?_); conv => whnf) | (refine .inl (And.intro (by kernel_rfl) ?_); conv => whnf) | (refine r_step (p_ostore rfl rfl rfl rfl rfl (by conv => lhs; whnf) rfl) rfl rfl (fun e => by first | exact .inl rfl | contradiction | exact .inr (.inl (by kernel_rfl))) ?_; conv => whnf))
    exact r_tupCV (x := watA watZ) rfl rfl rfl rfl trivial rfl
  by_cases a2 : 65536 < x.size
  · rw [askF_long (.inr a2)] at hc
    subst hc
    refine r_of Th_ok (by kernel_rfl) Try.func7 rfl Try.ntmps7 Try.results7 (by kernel_rfl) rfl ?_; conv => whnf
    repeat (first | ((first | refine qb rfl rfl ?_ | refine qi (by assumption) rfl rfl ?_ | refine ql rfl ?_ | refine qo rfl rfl ?_ | refine qs rfl rfl ?_ | refine qn rfl rfl ?_); conv => whnf) | (refine .inl (And.intro (by kernel_rfl) ?_); conv => whnf) | (refine r_step (p_ostore rfl rfl rfl rfl rfl (by conv => lhs; whnf) rfl) rfl rfl (fun e => by first | exact .inl rfl | contradiction | exact .inr (.inl (by kernel_rfl))) ?_; conv => whnf))
    exact r_tupCV (x := watA watZ) rfl rfl rfl rfl trivial rfl
  have a3 : ¬ (4096 < l.length ∨ 65536 < x.size) := by omega
  cases hb : refsB l with
  | true => rw [askF_ok a3 hb] at hc; exact absurd hc.symm h0
  | false =>
    rw [askF_bad a3 hb] at hc
    rw [hb] at h1
    subst hc
    refine r_of Th_ok (by kernel_rfl) Try.func7 rfl Try.ntmps7 Try.results7 (by kernel_rfl) rfl ?_; conv => whnf
    repeat (first | ((first | refine qb rfl rfl ?_ | refine qi (by assumption) rfl rfl ?_ | refine ql rfl ?_ | refine qo rfl rfl ?_ | refine qs rfl rfl ?_ | refine qn rfl rfl ?_); conv => whnf) | (refine .inl (And.intro (by kernel_rfl) ?_); conv => whnf) | (refine qc (h1) rfl ?_; conv => whnf) | (refine r_step (p_ostore rfl rfl rfl rfl rfl (by conv => lhs; whnf) rfl) rfl rfl (fun e => by first | exact .inl rfl | contradiction | exact .inr (.inl (by kernel_rfl))) ?_; conv => whnf))
    exact r_tupCV (x := watA watZ) rfl rfl rfl rfl trivial rfl
theorem askF_0 {l : List Rf} {x : ByteArray} (h : askF l x = 0) : l.length ≤ 4096 ∧ x.size ≤ 65536 ∧ refsB l = true := by
  unfold askF at h
  split at h
  · omega
  · split at h
    · rename_i a b
      exact ⟨by omega, by omega, b⟩
    · omega
theorem ac_sNew_nm {l : List Rf} {x : ByteArray} (hm : l.length ≤ maxLen) (hk : nmOK maxLen l) (hx : x.size ≤ maxLen) (hc : askF l x = 0) (hn : okN x = false) : AC Try.prog 7 [.lst 4 (l.map refA), .v (.string x)] ⟨.tup [watA watZ, .v (.int .i64 1)], []⟩ := by
  have h1 := ac_l04OK hm hk
  obtain ⟨a1, a2, a3⟩ := askF_0 hc
  rw [a3] at h1
  refine r_of Th_ok (by kernel_rfl) Try.func7 rfl Try.ntmps7 Try.results7 (by kernel_rfl) rfl ?_; conv => whnf
  repeat (first | ((first | refine qb rfl rfl ?_ | refine qi (by assumption) rfl rfl ?_ | refine ql rfl ?_ | refine qo rfl rfl ?_ | refine qs rfl rfl ?_ | refine qn rfl rfl ?_); conv => whnf) | (refine .inl (And.intro (by kernel_rfl) ?_); conv => whnf) | (refine qc (h1) rfl ?_; conv => whnf) | (refine qc (ac_l00Word hx hn) rfl ?_; conv => whnf) | (refine r_step (p_ostore rfl rfl rfl rfl rfl (by conv => lhs; whnf) rfl) rfl rfl (fun e => by first | exact .inl rfl | contradiction | exact .inr (.inl (by kernel_rfl))) ?_; conv => whnf))
  exact r_tupCV (x := watA watZ) rfl rfl rfl rfl trivial rfl
theorem ac_l06New {l : List Rf} {x : ByteArray} (hm : l.length ≤ maxLen) : AC Try.prog 40 [.lst 4 (l.map refA), .v (.string x)] ⟨watO ⟨x, verAt l x, []⟩ 0, [evtO []]⟩ := by
  have h2 := ac_l04At (x := x) hm
  by_cases hp : rAt l x 0 < 0
  · rw [verAt_no hp]
    refine r_of Th_ok (by kernel_rfl) Try.func40 rfl Try.ntmps40 Try.results40 (by kernel_rfl) rfl ?_; conv => whnf
    refine r_step (p_buildm rfl ⟨⟨_, _, rfl, rfl, rfl⟩, ⟨_, _, rfl, rfl, rfl⟩, trivial⟩ rfl) rfl rfl (fun e => by first | exact .inl rfl | contradiction | exact .inr (.inl (by kernel_rfl))) ?_
    conv => whnf
    repeat (first | ((first | refine qb rfl rfl ?_ | refine qi (by assumption) rfl rfl ?_ | refine ql rfl ?_ | refine qo rfl rfl ?_ | refine qs rfl rfl ?_ | refine qn rfl rfl ?_); conv => whnf) | (refine .inl (And.intro (by kernel_rfl) ?_); conv => whnf) | (refine qc (h2) rfl ?_; conv => whnf) | (refine r_step (p_ostore rfl rfl rfl rfl rfl (by conv => lhs; whnf) rfl) rfl rfl (fun e => by first | exact .inl rfl | contradiction | exact .inr (.inl (by kernel_rfl))) ?_; conv => whnf) | (refine r_step (p_ostoreo rfl rfl rfl rfl rfl rfl) rfl rfl (fun e => by first | exact .inl rfl | contradiction | exact .inr (.inl (by kernel_rfl))) ?_; conv => whnf))
    exact r_wat rfl rfl rfl rfl rfl rfl
  · obtain ⟨j, hj, e, e2⟩ := rAt_lt (by omega : 0 ≤ rAt l x 0)
    rw [verAt_at hj e]
    rw [e] at h2
    refine r_of Th_ok (by kernel_rfl) Try.func40 rfl Try.ntmps40 Try.results40 (by kernel_rfl) rfl ?_; conv => whnf
    refine r_step (p_buildm rfl ⟨⟨_, _, rfl, rfl, rfl⟩, ⟨_, _, rfl, rfl, rfl⟩, trivial⟩ rfl) rfl rfl (fun e => by first | exact .inl rfl | contradiction | exact .inr (.inl (by kernel_rfl))) ?_
    conv => whnf
    repeat (first | ((first | refine qb rfl rfl ?_ | refine qi (by assumption) rfl rfl ?_ | refine ql rfl ?_ | refine qo rfl rfl ?_ | refine qs rfl rfl ?_ | refine qn rfl rfl ?_); conv => whnf) | (refine .inl (And.intro (by kernel_rfl) ?_); conv => whnf) | (refine qc (h2) rfl ?_; conv => whnf) | (refine r_step (p_ostore rfl rfl rfl rfl rfl (by conv => lhs; whnf) rfl) rfl rfl (fun e => by first | exact .inl rfl | contradiction | exact .inr (.inl (by kernel_rfl))) ?_; conv => whnf) | (refine r_step (p_ostoreo rfl rfl rfl rfl rfl rfl) rfl rfl (fun e => by first | exact .inl rfl | contradiction | exact .inr (.inl (by kernel_rfl))) ?_; conv => whnf))
    exact r_wat rfl rfl rfl rfl rfl rfl
theorem ac_sNew {l : List Rf} {x : ByteArray} (hm : l.length ≤ maxLen) (hk : nmOK maxLen l) (hx : x.size ≤ maxLen) (hc : askF l x = 0) (hn : okN x = true) : AC Try.prog 7 [.lst 4 (l.map refA), .v (.string x)] ⟨.tup [watO ⟨x, verAt l x, []⟩ 0, .v (.int .i64 0)], [evtO []]⟩ := by
  have h1 := ac_l04OK hm hk
  have h2 := ac_l06New (x := x) hm
  obtain ⟨a1, a2, a3⟩ := askF_0 hc
  rw [a3] at h1
  refine r_of Th_ok (by kernel_rfl) Try.func7 rfl Try.ntmps7 Try.results7 (by kernel_rfl) rfl ?_; conv => whnf
  repeat (first | ((first | refine qb rfl rfl ?_ | refine qi (by assumption) rfl rfl ?_ | refine ql rfl ?_ | refine qo rfl rfl ?_ | refine qs rfl rfl ?_ | refine qn rfl rfl ?_); conv => whnf) | (refine .inl (And.intro (by kernel_rfl) ?_); conv => whnf) | (refine qc (h1) rfl ?_; conv => whnf) | (refine qc (ac_l00Word hx hn) rfl ?_; conv => whnf) | (refine qc (h2) rfl ?_; conv => whnf) | (refine r_step (p_ostore rfl rfl rfl rfl rfl (by conv => lhs; whnf) rfl) rfl rfl (fun e => by first | exact .inl rfl | contradiction | exact .inr (.inl (by kernel_rfl))) ?_; conv => whnf) | (refine r_step (p_ostoreo rfl rfl rfl rfl rfl rfl) rfl rfl (fun e => by first | exact .inl rfl | contradiction | exact .inr (.inl (by kernel_rfl))) ?_; conv => whnf))
  exact r_watV rfl rfl rfl rfl rfl rfl rfl
theorem law_New_o {l : List Rf} {x : ByteArray} {nm : ByteArray} {sn code : Int} (hm : l.length ≤ maxLen) (hk : nmOK maxLen l) (hx : x.size ≤ 1048576) (hsz : 0 ≤ szL rSz l 1048576) (hc0 : 0 ≤ code) (hc1 : code ≤ 1000)
    (h1 : AC Try.prog 7 [.lst 4 (l.map refA), .v (.string x)] ⟨.tup [watO ⟨nm, sn, []⟩ 0, .v (.int .i64 code)], [evtO []]⟩)
    (h2 : AC Try.prog 9 [.lst 4 (l.map refA), .v (.string x)] ⟨.tup [watA ⟨nm, sn, []⟩, .v (.int .i64 code)], []⟩) : AC Try.prog 3 [.lst 4 (l.map refA), .v (.string x)] ⟨.v (.bool true), []⟩ := by
  obtain ⟨_, l1, _⟩ := szL_le hsz
  have hm2 : l.length ≤ 1048576 := by omega
  have s0 := ac_szRefS (l := 1048576) hm hk (by omega) (by omega)
  have t0 := ac_toRefS hm2
  have e0 := ac_eqWatch (w := ⟨nm, sn, []⟩) (by simp)
  have e1 := ac_eqRefS hm
  have m1 := ac_markWatch0 (nm := nm) (sn := sn) (k0 := 1)
  have d0 : AC Try.prog 14 [watA ⟨nm, sn, []⟩, .v (.int .i64 1)] ⟨.v (.int .i64 1), []⟩ := ac_heldWatch (w := ⟨nm, sn, []⟩) (k0 := 1) (by simp) (by omega) (by omega)
  refine r_of Th_ok (by kernel_rfl) Try.func3 rfl Try.ntmps3 Try.results3 (by kernel_rfl) rfl ?_; conv => whnf
  repeat (first | ((first | refine qb rfl rfl ?_ | refine qi (by assumption) rfl rfl ?_ | refine ql rfl ?_ | refine qo rfl rfl ?_ | refine qs rfl rfl ?_ | refine qn rfl rfl ?_); conv => whnf) | (refine .inl (And.intro (by kernel_rfl) ?_); conv => whnf) | (refine qc (s0) rfl ?_; conv => whnf) | (refine qc (t0) rfl ?_; conv => whnf) | (refine r_step (p_call h1 rfl (.inr ⟨by simp [flatA, flatL, watO, evtA], flat_o1 (flat_map flat_evt [])⟩) (by first | exact trivial | exact ⟨⟨rfl, rfl, rfl⟩, trivial⟩ | exact ⟨⟨rfl, rfl, rfl⟩, ⟨rfl, rfl, rfl⟩, trivial⟩ | exact ⟨⟨rfl, rfl, rfl⟩, ⟨rfl, rfl, rfl⟩, ⟨rfl, rfl, rfl⟩, trivial⟩) rfl rfl) rfl rfl (fun e => by first | exact .inl rfl | contradiction | exact .inr (.inl (by kernel_rfl))) ?_; conv => whnf))
  repeat (first | ((first | refine qb rfl rfl ?_ | refine qi (by assumption) rfl rfl ?_ | refine ql rfl ?_ | refine qo rfl rfl ?_ | refine qs rfl rfl ?_ | refine qn rfl rfl ?_); conv => whnf) | (refine r_step (p_ostore rfl rfl rfl rfl rfl (by conv => lhs; whnf) rfl) rfl rfl (fun e => by first | exact .inl rfl | contradiction | exact .inr (.inl (by kernel_rfl))) ?_; conv => whnf) | (refine r_step (p_ostoreo rfl rfl rfl rfl rfl rfl) rfl rfl (fun e => by first | exact .inl rfl | contradiction | exact .inr (.inl (by kernel_rfl))) ?_; conv => whnf))
  repeat (first | ((first | refine qb rfl rfl ?_ | refine qi (by assumption) rfl rfl ?_ | refine ql rfl ?_ | refine qo rfl rfl ?_ | refine qs rfl rfl ?_ | refine qn rfl rfl ?_); conv => whnf) | (refine qc (t0) rfl ?_; conv => whnf) | (refine r_step (p_ostore rfl rfl rfl rfl rfl (by conv => lhs; whnf) rfl) rfl rfl (fun e => by first | exact .inl rfl | contradiction | exact .inr (.inl (by kernel_rfl))) ?_; conv => whnf) | (refine r_step (p_call h2 rfl (.inr ⟨by simp [flatA, flatL, watA, evtA], flat_o0⟩) (by first | exact trivial | exact ⟨⟨rfl, rfl, rfl⟩, trivial⟩ | exact ⟨⟨rfl, rfl, rfl⟩, ⟨rfl, rfl, rfl⟩, trivial⟩ | exact ⟨⟨rfl, rfl, rfl⟩, ⟨rfl, rfl, rfl⟩, ⟨rfl, rfl, rfl⟩, trivial⟩) rfl rfl) rfl rfl (fun e => by first | exact .inl rfl | contradiction | exact .inr (.inl (by kernel_rfl))) ?_; conv => whnf))
  repeat (first | ((first | refine qb rfl rfl ?_ | refine qi (by assumption) rfl rfl ?_ | refine ql rfl ?_ | refine qo rfl rfl ?_ | refine qs rfl rfl ?_ | refine qn rfl rfl ?_); conv => whnf) | (refine .inl (And.intro (by kernel_rfl) ?_); conv => whnf) | (refine qc (e0) rfl ?_; conv => whnf))
  repeat (first | ((first | refine qb rfl rfl ?_ | refine qi (by assumption) rfl rfl ?_ | refine ql rfl ?_ | refine qo rfl rfl ?_ | refine qs rfl rfl ?_ | refine qn rfl rfl ?_); conv => whnf) | (refine qc (t0) rfl ?_; conv => whnf) | (refine qc (e1) rfl ?_; conv => whnf) | (refine r_step (p_callm (ac_markRefS (l := l) (k0 := 1) (by omega) (by omega) (by omega)) rfl rfl rfl rfl rfl rfl rfl) rfl rfl (fun e => by first | exact .inl rfl | contradiction | exact .inr (.inl (by kernel_rfl))) ?_; conv => whnf))
  repeat (first | ((first | refine qb rfl rfl ?_ | refine qi (by assumption) rfl rfl ?_ | refine ql rfl ?_ | refine qo rfl rfl ?_ | refine qs rfl rfl ?_ | refine qn rfl rfl ?_); conv => whnf) | (refine .inl (And.intro (by kernel_rfl) ?_); conv => whnf) | (refine qc (e0) rfl ?_; conv => whnf))
  repeat (first | ((first | refine qb rfl rfl ?_ | refine qi (by assumption) rfl rfl ?_ | refine ql rfl ?_ | refine qo rfl rfl ?_ | refine qs rfl rfl ?_ | refine qn rfl rfl ?_); conv => whnf) | (refine qc (m1) rfl ?_; conv => whnf) | (refine qc (d0) rfl ?_; conv => whnf) | (refine qc (t0) rfl ?_; conv => whnf) | (refine r_step (p_ostore rfl rfl rfl rfl rfl (by conv => lhs; whnf) rfl) rfl rfl (fun e => by first | exact .inl rfl | contradiction | exact .inr (.inl (by kernel_rfl))) ?_; conv => whnf) | (refine r_step (p_call h2 rfl (.inr ⟨by simp [flatA, flatL, watA, evtA], flat_o0⟩) (by first | exact trivial | exact ⟨⟨rfl, rfl, rfl⟩, trivial⟩ | exact ⟨⟨rfl, rfl, rfl⟩, ⟨rfl, rfl, rfl⟩, trivial⟩ | exact ⟨⟨rfl, rfl, rfl⟩, ⟨rfl, rfl, rfl⟩, ⟨rfl, rfl, rfl⟩, trivial⟩) rfl rfl) rfl rfl (fun e => by first | exact .inl rfl | contradiction | exact .inr (.inl (by kernel_rfl))) ?_; conv => whnf))
  repeat (first | ((first | refine qb rfl rfl ?_ | refine qi (by assumption) rfl rfl ?_ | refine ql rfl ?_ | refine qo rfl rfl ?_ | refine qs rfl rfl ?_ | refine qn rfl rfl ?_); conv => whnf) | (refine .inl (And.intro (by kernel_rfl) ?_); conv => whnf) | (refine qc (e0) rfl ?_; conv => whnf))
  repeat (first | ((first | refine qb rfl rfl ?_ | refine qi (by assumption) rfl rfl ?_ | refine ql rfl ?_ | refine qo rfl rfl ?_ | refine qs rfl rfl ?_ | refine qn rfl rfl ?_); conv => whnf) | (refine qc (d0) rfl ?_; conv => whnf))
  trace_state
  exact r_ret1 rfl trivial
theorem law_New_b {l : List Rf} {x : ByteArray} {nm : ByteArray} {sn code : Int} (hm : l.length ≤ maxLen) (hk : nmOK maxLen l) (hx : x.size ≤ 1048576) (hsz : 0 ≤ szL rSz l 1048576) (hc0 : 0 ≤ code) (hc1 : code ≤ 1000)
    (h1 : AC Try.prog 7 [.lst 4 (l.map refA), .v (.string x)] ⟨.tup [watA ⟨nm, sn, []⟩, .v (.int .i64 code)], []⟩)
    (h2 : AC Try.prog 9 [.lst 4 (l.map refA), .v (.string x)] ⟨.tup [watA ⟨nm, sn, []⟩, .v (.int .i64 code)], []⟩) : AC Try.prog 3 [.lst 4 (l.map refA), .v (.string x)] ⟨.v (.bool true), []⟩ := by
  obtain ⟨_, l1, _⟩ := szL_le hsz
  have hm2 : l.length ≤ 1048576 := by omega
  have s0 := ac_szRefS (l := 1048576) hm hk (by omega) (by omega)
  have t0 := ac_toRefS hm2
  have e0 := ac_eqWatch (w := ⟨nm, sn, []⟩) (by simp)
  have e1 := ac_eqRefS hm
  have m1 := ac_markWatch0 (nm := nm) (sn := sn) (k0 := 1)
  have d0 : AC Try.prog 14 [watA ⟨nm, sn, []⟩, .v (.int .i64 1)] ⟨.v (.int .i64 1), []⟩ := ac_heldWatch (w := ⟨nm, sn, []⟩) (k0 := 1) (by simp) (by omega) (by omega)
  refine r_of Th_ok (by kernel_rfl) Try.func3 rfl Try.ntmps3 Try.results3 (by kernel_rfl) rfl ?_; conv => whnf
  repeat (first | ((first | refine qb rfl rfl ?_ | refine qi (by assumption) rfl rfl ?_ | refine ql rfl ?_ | refine qo rfl rfl ?_ | refine qs rfl rfl ?_ | refine qn rfl rfl ?_); conv => whnf) | (refine .inl (And.intro (by kernel_rfl) ?_); conv => whnf) | (refine qc (s0) rfl ?_; conv => whnf) | (refine qc (t0) rfl ?_; conv => whnf) | (refine r_step (p_call h1 rfl (.inr ⟨by simp [flatA, flatL, watA, evtA], flat_o0⟩) (by first | exact trivial | exact ⟨⟨rfl, rfl, rfl⟩, trivial⟩ | exact ⟨⟨rfl, rfl, rfl⟩, ⟨rfl, rfl, rfl⟩, trivial⟩ | exact ⟨⟨rfl, rfl, rfl⟩, ⟨rfl, rfl, rfl⟩, ⟨rfl, rfl, rfl⟩, trivial⟩) rfl rfl) rfl rfl (fun e => by first | exact .inl rfl | contradiction | exact .inr (.inl (by kernel_rfl))) ?_; conv => whnf))
  repeat (first | ((first | refine qb rfl rfl ?_ | refine qi (by assumption) rfl rfl ?_ | refine ql rfl ?_ | refine qo rfl rfl ?_ | refine qs rfl rfl ?_ | refine qn rfl rfl ?_); conv => whnf) | (refine r_step (p_ostore rfl rfl rfl rfl rfl (by conv => lhs; whnf) rfl) rfl rfl (fun e => by first | exact .inl rfl | contradiction | exact .inr (.inl (by kernel_rfl))) ?_; conv => whnf) | (refine r_step (p_ostoreo rfl rfl rfl rfl rfl rfl) rfl rfl (fun e => by first | exact .inl rfl | contradiction | exact .inr (.inl (by kernel_rfl))) ?_; conv => whnf))
  repeat (first | ((first | refine qb rfl rfl ?_ | refine qi (by assumption) rfl rfl ?_ | refine ql rfl ?_ | refine qo rfl rfl ?_ | refine qs rfl rfl ?_ | refine qn rfl rfl ?_); conv => whnf) | (refine qc (t0) rfl ?_; conv => whnf) | (refine r_step (p_ostore rfl rfl rfl rfl rfl (by conv => lhs; whnf) rfl) rfl rfl (fun e => by first | exact .inl rfl | contradiction | exact .inr (.inl (by kernel_rfl))) ?_; conv => whnf) | (refine r_step (p_call h2 rfl (.inr ⟨by simp [flatA, flatL, watA, evtA], flat_o0⟩) (by first | exact trivial | exact ⟨⟨rfl, rfl, rfl⟩, trivial⟩ | exact ⟨⟨rfl, rfl, rfl⟩, ⟨rfl, rfl, rfl⟩, trivial⟩ | exact ⟨⟨rfl, rfl, rfl⟩, ⟨rfl, rfl, rfl⟩, ⟨rfl, rfl, rfl⟩, trivial⟩) rfl rfl) rfl rfl (fun e => by first | exact .inl rfl | contradiction | exact .inr (.inl (by kernel_rfl))) ?_; conv => whnf))
  repeat (first | ((first | refine qb rfl rfl ?_ | refine qi (by assumption) rfl rfl ?_ | refine ql rfl ?_ | refine qo rfl rfl ?_ | refine qs rfl rfl ?_ | refine qn rfl rfl ?_); conv => whnf) | (refine .inl (And.intro (by kernel_rfl) ?_); conv => whnf) | (refine qc (e0) rfl ?_; conv => whnf))
  repeat (first | ((first | refine qb rfl rfl ?_ | refine qi (by assumption) rfl rfl ?_ | refine ql rfl ?_ | refine qo rfl rfl ?_ | refine qs rfl rfl ?_ | refine qn rfl rfl ?_); conv => whnf) | (refine qc (t0) rfl ?_; conv => whnf) | (refine qc (e1) rfl ?_; conv => whnf) | (refine r_step (p_callm (ac_markRefS (l := l) (k0 := 1) (by omega) (by omega) (by omega)) rfl rfl rfl rfl rfl rfl rfl) rfl rfl (fun e => by first | exact .inl rfl | contradiction | exact .inr (.inl (by kernel_rfl))) ?_; conv => whnf))
  repeat (first | ((first | refine qb rfl rfl ?_ | refine qi (by assumption) rfl rfl ?_ | refine ql rfl ?_ | refine qo rfl rfl ?_ | refine qs rfl rfl ?_ | refine qn rfl rfl ?_); conv => whnf) | (refine .inl (And.intro (by kernel_rfl) ?_); conv => whnf) | (refine qc (e0) rfl ?_; conv => whnf))
  repeat (first | ((first | refine qb rfl rfl ?_ | refine qi (by assumption) rfl rfl ?_ | refine ql rfl ?_ | refine qo rfl rfl ?_ | refine qs rfl rfl ?_ | refine qn rfl rfl ?_); conv => whnf) | (refine qc (m1) rfl ?_; conv => whnf) | (refine qc (d0) rfl ?_; conv => whnf) | (refine qc (t0) rfl ?_; conv => whnf) | (refine r_step (p_ostore rfl rfl rfl rfl rfl (by conv => lhs; whnf) rfl) rfl rfl (fun e => by first | exact .inl rfl | contradiction | exact .inr (.inl (by kernel_rfl))) ?_; conv => whnf) | (refine r_step (p_call h2 rfl (.inr ⟨by simp [flatA, flatL, watA, evtA], flat_o0⟩) (by first | exact trivial | exact ⟨⟨rfl, rfl, rfl⟩, trivial⟩ | exact ⟨⟨rfl, rfl, rfl⟩, ⟨rfl, rfl, rfl⟩, trivial⟩ | exact ⟨⟨rfl, rfl, rfl⟩, ⟨rfl, rfl, rfl⟩, ⟨rfl, rfl, rfl⟩, trivial⟩) rfl rfl) rfl rfl (fun e => by first | exact .inl rfl | contradiction | exact .inr (.inl (by kernel_rfl))) ?_; conv => whnf))
  repeat (first | ((first | refine qb rfl rfl ?_ | refine qi (by assumption) rfl rfl ?_ | refine ql rfl ?_ | refine qo rfl rfl ?_ | refine qs rfl rfl ?_ | refine qn rfl rfl ?_); conv => whnf) | (refine .inl (And.intro (by kernel_rfl) ?_); conv => whnf) | (refine qc (e0) rfl ?_; conv => whnf))
  repeat (first | ((first | refine qb rfl rfl ?_ | refine qi (by assumption) rfl rfl ?_ | refine ql rfl ?_ | refine qo rfl rfl ?_ | refine qs rfl rfl ?_ | refine qn rfl rfl ?_); conv => whnf) | (refine qc (d0) rfl ?_; conv => whnf))
  trace_state
  exact r_ret1 rfl trivial
theorem law_NewWatch {l : List Rf} (hm : l.length ≤ maxLen) (hk : nmOK maxLen l) {x : ByteArray} (hx : x.size ≤ maxLen) : AC Try.prog 3 [.lst 4 (l.map refA), .v (.string x)] ⟨.v (.bool true), []⟩ := by
  have hx' := hx
  unfold maxLen at hx'
  by_cases hxl : 1048576 < x.size
  · refine r_of Th_ok (by kernel_rfl) Try.func3 rfl Try.ntmps3 Try.results3 (by kernel_rfl) rfl ?_; conv => whnf
    repeat (first | ((first | refine qb rfl rfl ?_ | refine qi (by assumption) rfl rfl ?_ | refine ql rfl ?_ | refine qo rfl rfl ?_ | refine qs rfl rfl ?_ | refine qn rfl rfl ?_); conv => whnf) | (refine .inl (And.intro (by kernel_rfl) ?_); conv => whnf))
    exact r_ret1 rfl trivial
  have s0 := ac_szRefS (l := 1048576) hm hk (by omega) (by omega)
  by_cases hsz : szL rSz l 1048576 < 0
  · refine r_of Th_ok (by kernel_rfl) Try.func3 rfl Try.ntmps3 Try.results3 (by kernel_rfl) rfl ?_; conv => whnf
    repeat (first | ((first | refine qb rfl rfl ?_ | refine qi (by assumption) rfl rfl ?_ | refine ql rfl ?_ | refine qo rfl rfl ?_ | refine qs rfl rfl ?_ | refine qn rfl rfl ?_); conv => whnf) | (refine .inl (And.intro (by kernel_rfl) ?_); conv => whnf) | (refine qc (s0) rfl ?_; conv => whnf))
    exact r_ret1 rfl trivial
  by_cases hc : askF l x = 0
  · cases hn : okN x with
    | false => exact law_New_b hm hk (by omega) (by omega) (by omega) (by omega) (ac_sNew_nm hm hk hx hc hn) (ac_iNew_nm hm hk hx hc hn)
    | true => exact law_New_o hm hk (by omega) (by omega) (by omega) (by omega) (ac_sNew hm hk hx hc hn) (ac_iNew hm hk hx hc hn)
  · have hb : 0 ≤ askF l x ∧ askF l x ≤ 1000 := by unfold askF; split <;> (try split) <;> omega
    exact law_New_b hm hk (by omega) (by omega) hb.1 hb.2 (ac_sNew_bad hm hk hx rfl hc) (ac_iNew_bad hm hk hx rfl hc)
end Go.Proofs.Ytmfmclnklpbiaaa.AM
