/- Texts of the machine over data, folded. -/
import Derived.Test.YtodckioppgjbdaaDoorKa5
import Derived.Test.YtodckioppgjbdaaDoorKa9
import Derived.Test.YtodckioppgjbdaaDoorKa7
import Derived.Conc.LoneCalls
import Derived.Conc.LoneSelect
import Derived.Test.YtodckioppgjbdaaDoorKa8
set_option linter.unusedVariables false
set_option linter.unusedSimpArgs false
set_option maxRecDepth 100000
namespace Go.Proofs.YtodckioppgjbdaaDoor.AM
open Go Go.RowKit
attribute [local irreducible] xJ xN xQ yQ yU Pre ACG
set_option maxHeartbeats 4000000 in
theorem aIG {frm : Int} {nm key : ByteArray} {es : List Edt} (q1 : nm.size ≤ maxLen) (q2 : key.size ≤ maxLen) (q3 : es.length ≤ maxLen) (q4 : ∀ e ∈ es, e.key.size ≤ maxLen) (hn : okN nm = true) : AC Tryd.prog 136 [.agg [.v (.int .i64 5), .v (.int .i64 frm), .v (.string nm), .v (.string key), .lst 3 (es.map zJ)]] ⟨.v (.bool (opB ⟨5, frm, nm, key, es⟩)), []⟩ := by
 have q3' := q3
 unfold maxLen at q3'
 by_cases h0 : frm = 0
 case neg =>
  rw [show opB _ = false from by simp [opB, hn, h0]]
  as_aux_lemma =>
   refine qO Tryd.func136 Tryd.ntmps136 Tryd.results136 ?_
   repeat (first | refine qla ?_ | refine qC (xM q1 hn) ?_ | refine qlb ?_ | refine qx ?_)
   exact qe
 cases hk : okN key with
 | false =>
  rw [show opB _ = false from by simp [opB, hn, h0, hk]]
  as_aux_lemma =>
   refine qO Tryd.func136 Tryd.ntmps136 Tryd.results136 ?_
   repeat (first | refine qla ?_ | refine qC (xM q1 hn) ?_ | refine qC (xM q2 hk) ?_ | refine qlb ?_ | refine qx ?_)
   exact qe
 | true =>
  by_cases he : es.length = 0
  case neg =>
   rw [show opB _ = false from by simp [opB, hn, h0, hk, he]]
   as_aux_lemma =>
    refine qO Tryd.func136 Tryd.ntmps136 Tryd.results136 ?_
    repeat (first | refine qla ?_ | refine qC (xM q1 hn) ?_ | refine qC (xM q2 hk) ?_ | refine qlb ?_ | refine qx ?_)
    exact qe
  rw [show opB _ = true from by simp [opB, hn, h0, hk, he]]
  as_aux_lemma =>
   refine qO Tryd.func136 Tryd.ntmps136 Tryd.results136 ?_
   repeat (first | refine qla ?_ | refine qC (xM q1 hn) ?_ | refine qC (xM q2 hk) ?_ | refine qlb ?_ | refine qx ?_)
   exact qe
set_option maxHeartbeats 4000000 in
theorem aID {frm : Int} {nm key : ByteArray} {es : List Edt} (q1 : nm.size ≤ maxLen) (q2 : key.size ≤ maxLen) (q3 : es.length ≤ maxLen) (q4 : ∀ e ∈ es, e.key.size ≤ maxLen) (hn : okN nm = true) : AC Tryd.prog 136 [.agg [.v (.int .i64 2), .v (.int .i64 frm), .v (.string nm), .v (.string key), .lst 3 (es.map zJ)]] ⟨.v (.bool (opB ⟨2, frm, nm, key, es⟩)), []⟩ := by
 have q3' := q3
 unfold maxLen at q3'
 by_cases h0 : frm = 0
 case neg =>
  rw [show opB _ = false from by simp [opB, hn, h0]]
  as_aux_lemma =>
   refine qO Tryd.func136 Tryd.ntmps136 Tryd.results136 ?_
   repeat (first | refine qla ?_ | refine qC (xM q1 hn) ?_ | refine qlb ?_ | refine qx ?_)
   exact qe
 by_cases hk : key = eB
 case neg =>
  rw [show opB _ = false from by simp [opB, hn, h0, hk]]
  as_aux_lemma =>
   refine qO Tryd.func136 Tryd.ntmps136 Tryd.results136 ?_
   repeat (first | refine qla ?_ | refine qC (xM q1 hn) ?_ | refine qlb ?_ | refine qx ?_)
   exact qe
 by_cases he : es.length = 0
 case neg =>
  rw [show opB _ = false from by simp [opB, hn, h0, hk, he]]
  as_aux_lemma =>
   refine qO Tryd.func136 Tryd.ntmps136 Tryd.results136 ?_
   repeat (first | refine qla ?_ | refine qC (xM q1 hn) ?_ | refine qlb ?_ | refine qx ?_)
   exact qe
 rw [show opB _ = true from by simp [opB, hn, h0, hk, he]]
 as_aux_lemma =>
  refine qO Tryd.func136 Tryd.ntmps136 Tryd.results136 ?_
  repeat (first | refine qla ?_ | refine qC (xM q1 hn) ?_ | refine qlb ?_ | refine qx ?_)
  exact qe
set_option maxHeartbeats 4000000 in
theorem aIH {frm : Int} {nm key : ByteArray} {es : List Edt} (q1 : nm.size ≤ maxLen) (q2 : key.size ≤ maxLen) (q3 : es.length ≤ maxLen) (q4 : ∀ e ∈ es, e.key.size ≤ maxLen) (hn : okN nm = true) : AC Tryd.prog 136 [.agg [.v (.int .i64 6), .v (.int .i64 frm), .v (.string nm), .v (.string key), .lst 3 (es.map zJ)]] ⟨.v (.bool (opB ⟨6, frm, nm, key, es⟩)), []⟩ := by
 have q3' := q3
 unfold maxLen at q3'
 by_cases h0 : frm = 0
 case neg =>
  rw [show opB _ = false from by simp [opB, hn, h0]]
  as_aux_lemma =>
   refine qO Tryd.func136 Tryd.ntmps136 Tryd.results136 ?_
   repeat (first | refine qla ?_ | refine qC (xM q1 hn) ?_ | refine qlb ?_ | refine qx ?_)
   exact qe
 by_cases hk : key = eB
 case neg =>
  rw [show opB _ = false from by simp [opB, hn, h0, hk]]
  as_aux_lemma =>
   refine qO Tryd.func136 Tryd.ntmps136 Tryd.results136 ?_
   repeat (first | refine qla ?_ | refine qC (xM q1 hn) ?_ | refine qlb ?_ | refine qx ?_)
   exact qe
 by_cases he : es.length = 0
 case neg =>
  rw [show opB _ = false from by simp [opB, hn, h0, hk, he]]
  as_aux_lemma =>
   refine qO Tryd.func136 Tryd.ntmps136 Tryd.results136 ?_
   repeat (first | refine qla ?_ | refine qC (xM q1 hn) ?_ | refine qlb ?_ | refine qx ?_)
   exact qe
 rw [show opB _ = true from by simp [opB, hn, h0, hk, he]]
 as_aux_lemma =>
  refine qO Tryd.func136 Tryd.ntmps136 Tryd.results136 ?_
  repeat (first | refine qla ?_ | refine qC (xM q1 hn) ?_ | refine qlb ?_ | refine qx ?_)
  exact qe
set_option maxHeartbeats 4000000 in
theorem aHG {o : Opr} (ho : o.ok maxLen) : AC Tryd.prog 136 [wK o] ⟨.v (.bool (opB o)), []⟩ := by
 obtain ⟨kind, frm, nm, key, es⟩ := o
 obtain ⟨q1, q2, q3, q4⟩ := ho
 simp only at q1 q2 q3 q4
 have q3' := q3
 unfold maxLen at q3'
 show AC Tryd.prog 136 [.agg [.v (.int .i64 kind), .v (.int .i64 frm), .v (.string nm), .v (.string key), .lst 3 (es.map zJ)]] _
 cases hn : okN nm with
 | false =>
  rw [show opB _ = false from by simp [opB, hn]]
  as_aux_lemma =>
   refine qO Tryd.func136 Tryd.ntmps136 Tryd.results136 ?_
   repeat (first | refine qla ?_ | refine qC (xM q1 hn) ?_ | refine qlb ?_ | refine qx ?_)
   exact qe
 | true =>
 by_cases k1 : kind = 1
 case pos =>
  subst k1
  exact aIC q1 q2 q3 q4 hn
 by_cases k2 : kind = 2
 case pos =>
  subst k2
  exact aID q1 q2 q3 q4 hn
 by_cases k3 : kind = 3
 case pos =>
  subst k3
  exact aIE q1 q2 q3 q4 hn
 by_cases k4 : kind = 4
 case pos =>
  subst k4
  exact aIF q1 q2 q3 q4 hn
 by_cases k5 : kind = 5
 case pos =>
  subst k5
  exact aIG q1 q2 q3 q4 hn
 by_cases k6 : kind = 6
 case pos =>
  subst k6
  exact aIH q1 q2 q3 q4 hn
 rw [show opB _ = false from by simp [opB, hn, k1, k2, k3, k4, k5, k6]]
 as_aux_lemma =>
  refine qO Tryd.func136 Tryd.ntmps136 Tryd.results136 ?_
  repeat (first | refine qla ?_ | refine qC (xM q1 hn) ?_ | refine qlb ?_ | refine qx ?_)
  exact qe
end Go.Proofs.YtodckioppgjbdaaDoor.AM
namespace Go.Proofs.YtodckioppgjbdaaDoor.AM
open Go Go.RowKit
structure Evt where
 ver : Int
 head : Int
 lag : Bool
def aJS (e : Evt) : AV := .agg [.v (.int .i64 e.ver), .v (.int .i64 e.head), .v (.bool e.lag)]
theorem wS (e : Evt) : yB (aJS e) := by unfold aJS; simp [yB, yg]
theorem aIT {a b : Evt} : a = b ↔ a.ver = b.ver ∧ a.head = b.head ∧ a.lag = b.lag := by
 cases a; cases b; simp
instance : DecidableEq Evt := fun a b => decidable_of_iff _ aIT.symm
structure Wat where
 name : ByteArray
 seen : Int
 queue : List Evt
def Wat.ok (w : Wat) (N : Nat) : Prop := w.name.size ≤ N ∧ w.queue.length ≤ N
attribute [local irreducible] xJ xN xQ yQ yU Pre ACG
end Go.Proofs.YtodckioppgjbdaaDoor.AM
namespace Go.Proofs.YtodckioppgjbdaaDoor.AM
open Go Go.RowKit
def aKB (cap : Nat) (es : List AV) : AbsR where
 rel w b T := (∀ g, T g ↔ g = b) ∧ ∃ s r buf, w.heap[b]? = some (.chan cap buf false s r false) ∧ buf.toList.map some = es.map yI
 frame := by
  rintro w w' b T h ⟨h1, s, r, buf, h2, h3⟩
  exact ⟨h1, s, r, buf, (h b ((h1 b).2 rfl)).trans h2, h3⟩
abbrev aF5 (cap : Nat) (es : List AV) : OB := ⟨.c (aKB cap es), 2, []⟩
section
variable {P : Program} {f : FuncId} {args : List AV} {cap : Nat} {es es' : List AV}
end
end Go.Proofs.YtodckioppgjbdaaDoor.AM
namespace Go.Proofs.YtodckioppgjbdaaDoor.AM
open Go Go.RowKit Go.Conc
section
variable {P : Program} {Θ : Tab} {n : Nat}
end
section
variable {P : Program} {Θ : Tab} {n : Nat} {ops : Array Oper} {K : St → Prop} {s : St} {k : Nat}
variable {W : World} {M : Hand} {S0 : Nat → Prop} {S : Nat → Prop} {B : Nat → Nat} {V : Nat → Value} {T : Nat → Nat → Prop} {tmps : Array Value} {w : World}
theorem SimW.chan (h : SimW W M S0 s tmps w S B V T) {l cap : Nat} {es : List AV} (hl : s.hp l = some (aF5 cap es)) :
 ∃ sq rq buf, w.heap[B l]? = some (.chan cap buf false sq rq false) ∧ buf.toList.map some = es.map yI ∧
  ∀ (buf' : Array Value) (s' r' : Nat) (es' : List AV), buf'.toList.map some = es'.map yI → ∃ T', SimW W M S0 (s.set l (some (aF5 cap es'))) tmps (w.setChan (B l) cap buf' false s' r' false) S B V T' := by
 obtain ⟨t0, cs, ⟨_, r0⟩, r2, r3, r4, r5, r6⟩ := h.rows.ro l _ hl
 obtain ⟨hT, sq, rq, buf, hc, hq⟩ := r0
 refine ⟨sq, rq, buf, hc, hq, fun buf' s' r' es' he => ?_⟩
 have hlt := (Array.getElem?_eq_some_iff.1 hc).1
 have hTb : T l (B l) := (hT _).2 rfl
 have hoth : ∀ g, g ≠ B l → (w.setChan (B l) cap buf' false s' r' false).heap[g]? = w.heap[g]? := fun g hg => by
  simp [World.setChan, Array.getElem?_setIfInBounds_ne (Ne.symm hg)]
 have hown : ∀ g, ¬ (V l).ownBlock = some g := fun g e => by
  have := r6 g e
  subst this
  exact h.rows.nd l _ _ hl e hTb
 have hgr : Grown w (w.setChan (B l) cap buf' false s' r' false) (Blk V T l) := ⟨rfl, rfl, rfl, by simp [World.setChan], fun g _ hg => hoth g (fun e => hg (by rw [e]; exact .inr hTb))⟩
 refine ⟨_, h.inpl (ob' := aF5 cap es') hl rfl hgr ?_ (fun g hg => hg)⟩
 exact ⟨t0, [], ⟨fun t' e => (by cases e), hT, s', r', buf', heap_setChan _ _ _ _ _ _ _ _ hlt, he⟩, ⟨rfl, rfl, fun g hg => by rw [(hT g).1 hg]; simp [World.setChan]; exact hlt⟩, fun x hx => (by cases hx), Nat.succ_pos 1, by
  have := jA (w' := w.setChan (B l) cap buf' false s' r' false) r5 (fun g hg => absurd hg (hown g))
  exact ⟨rfl, this.2.imp id (fun ⟨g, cap1, cur, q1, q2⟩ => absurd (show (V l).ownBlock = some g by rw [q1]; rfl) (hown g))⟩, r6⟩
end
section
variable {P : Program} {Θ : Tab} {n : Nat} {ops : Array Oper} {K : St → Prop} {s : St} {k : Nat} {x y : Operand} {ty : TypeId} {pos : String} {after : Array Edge} {l cap : Nat} {es r : List AV} {u z : Value} {v : AV} {t : Nat} {elem : TypeId}
end
end Go.Proofs.YtodckioppgjbdaaDoor.AM
namespace Go.Proofs.YtodckioppgjbdaaDoor.AM
open Go Go.RowKit
attribute [local irreducible] xJ xN xQ yQ yU Pre ACG
end Go.Proofs.YtodckioppgjbdaaDoor.AM
namespace Go.Proofs.YtodckioppgjbdaaDoor.AM
open Go Go.RowKit
def aKC (e : Evt) : Bool := decide (1 ≤ e.ver ∧ e.ver ≤ 1000000) && decide (0 ≤ e.head ∧ e.head ≤ 60)
def fB (e b : Evt) : Bool := decide (e.ver = b.ver + 1) || (e.lag && decide (b.ver < e.ver))
def evG (l : List Evt) (i : Nat) : Prop := ∃ h : i < l.length, aKC l[i] = true ∧ ∀ m, (hm : m + 1 = i) → fB l[i] (l[m]'(by omega)) = true
open Classical in
noncomputable def aKX (l : List Evt) : Bool := decide (∀ i, i < l.length → evG l i)
attribute [local irreducible] xJ xN xQ yQ yU Pre ACG
end Go.Proofs.YtodckioppgjbdaaDoor.AM
namespace Go.Proofs.YtodckioppgjbdaaDoor.AM
open Go Go.RowKit
def aKZ (l : List Evt) : Bool := (l.drop 1).any (·.lag)
noncomputable def qB (l : List Evt) (s : Int) : Bool := decide (l.length ≤ 4) && (aKX l && (decide ((l.getLast?.map (·.ver)) = some s) && !aKZ l))
attribute [local irreducible] xJ xN xQ yQ yU Pre ACG
theorem aIk {a b : Wat} : a = b ↔ a.name = b.name ∧ a.seen = b.seen ∧ a.queue = b.queue := by cases a; cases b; simp
instance : DecidableEq Wat := fun a b => decidable_of_iff _ aIk.symm
end Go.Proofs.YtodckioppgjbdaaDoor.AM
namespace Go.Proofs.YtodckioppgjbdaaDoor.AM
open Go Go.RowKit
section
variable {P : Program} {f : FuncId} {args args' : List AV} {rin rout : List OB} {out : Out}
end
section
variable {s : St} {Θ : Tab}
end
section
variable {P : Program} {Θ : Tab} {s : St} {ty : TypeId} {pos : String} {after : Array Edge} {g : Option (Nat × Bool)}
end
attribute [local irreducible] xJ xN xQ yQ yU Pre ACG
end Go.Proofs.YtodckioppgjbdaaDoor.AM
namespace Go.Proofs.YtodckioppgjbdaaDoor.AM
open Go Go.RowKit
section
variable {s : St} {Θ : Tab}
end
attribute [local irreducible] xJ xN xQ yQ yU Pre ACG
end Go.Proofs.YtodckioppgjbdaaDoor.AM
namespace Go.Proofs.YtodckioppgjbdaaDoor.AM
open Go Go.RowKit
def knd : List ByteArray := [⟨#[99, 114, 101, 97, 116, 101]⟩, ⟨#[100, 101, 108, 101, 116, 101]⟩, ⟨#[99, 111, 109, 109, 105, 116]⟩, ⟨#[109, 101, 114, 103, 101]⟩, ⟨#[103, 101, 116]⟩, ⟨#[115, 99, 97, 110]⟩]
def vg (k : Int) : ByteArray := (knd[(k - 1).toNat]?).getD ⟨#[]⟩
attribute [local irreducible] xJ xN xQ yQ yU Pre ACG
theorem aBF : AC Tryd.prog 135 [] ⟨.own 0, [⟨9, 1, knd.map yN⟩]⟩ := by
 refine qrf Tryd.func135 Tryd.ntmps135 Tryd.results135 ?_; conv => whnf
 exact aGr rfl rfl rfl
theorem aJY (k : Int) : (vg k).size ≤ 6 := by
 unfold vg
 rcases h : knd[(k - 1).toNat]? with _ | x
 · exact Nat.zero_le 6
 · have := List.mem_of_getElem? h
   simp only [Option.getD_some]
   simp [knd] at this
   rcases this with rfl | rfl | rfl | rfl | rfl | rfl <;> (show _ ≤ _; decide)
end Go.Proofs.YtodckioppgjbdaaDoor.AM
namespace Go.Proofs.YtodckioppgjbdaaDoor.AM
open Go Go.RowKit
instance : DecidableEq Edt := fun a b => decidable_of_iff _ aIP.symm
def szM (m : Mom) (l : Int) : Int := if szO m.op l < 0 then -1 else if szR m.res (szO m.op l) < 0 then -1 else szR m.res (szO m.op l)
theorem aFR {o : Opr} {l : Int} (h : 0 ≤ szO o l) : szO o l ≤ l ∧ o.edits.length ≤ l := by
 unfold szO at h ⊢
 split at h
 · omega
 split at h
 · omega
 split at h
 · omega
 · rename_i a b c
   rw [if_neg a, if_neg b, if_neg c]
   obtain ⟨k1, l1, _⟩ := aCC h
   omega
attribute [local irreducible] xJ xN xQ yQ yU Pre ACG
theorem aE5 {m : Mom} {l : Int} (ho : m.op.ok maxLen) (hr : m.res.ok maxLen) (h0 : 0 ≤ l) (h1 : l ≤ 1048576) : AC Tryd.prog 42 [vR m, .v (.int .i64 l)] ⟨.v (.int .i64 (szM m l)), []⟩ := by
 have z1 := aIJ ho h0 h1
 unfold szM
 by_cases ha : szO m.op l < 0
 · rw [if_pos ha]
   refine qrf Tryd.func42 Tryd.ntmps42 Tryd.results42 ?_; conv => whnf
   repeat ((first | refine qz ?_ | refine qc (z1) ?_ | refine qst ?_); conv => whnf)
   exact xB rfl trivial
 rw [if_neg ha]
 have hle := aFR (by omega : 0 ≤ szO m.op l)
 have z2 := aE6 hr (l := szO m.op l) (by omega) (by omega)
 by_cases hn : szR m.res (szO m.op l) < 0
 · rw [if_pos hn]
   refine qrf Tryd.func42 Tryd.ntmps42 Tryd.results42 ?_; conv => whnf
   repeat ((first | refine qz ?_ | refine qc (z1) ?_ | refine qc (z2) ?_ | refine qst ?_); conv => whnf)
   exact xB rfl trivial
 · rw [if_neg hn]
   refine qrf Tryd.func42 Tryd.ntmps42 Tryd.results42 ?_; conv => whnf
   repeat ((first | refine qz ?_ | refine qc (z1) ?_ | refine qc (z2) ?_ | refine qst ?_); conv => whnf)
   exact xB rfl trivial
theorem aJr {m : Mom} {l : Int} (h : 0 ≤ szM m l) (h1 : l ≤ 1048576) : szM m l ≤ 1048576 ∧ m.op.edits.length ≤ 1048576 ∧ m.res.keys.length ≤ 1048576 ∧ m.res.map.length ≤ 1048576 := by
 unfold szM at h ⊢
 by_cases ha : szO m.op l < 0
 · rw [if_pos ha] at h; omega
 rw [if_neg ha] at h ⊢
 obtain ⟨k1, k2⟩ := aFR (by omega : 0 ≤ szO m.op l)
 by_cases hn : szR m.res (szO m.op l) < 0
 · rw [if_pos hn] at h; omega
 rw [if_neg hn] at h ⊢
 obtain ⟨j1, j2, j3⟩ := aJs h (by omega)
 exact ⟨by omega, by omega, j2, j3⟩
theorem aE8 {m : Mom} (h1 : m.op.edits.length ≤ 1048576) (h2 : m.res.keys.length ≤ 1048576) (h3 : m.res.map.length ≤ 1048576) : AC Tryd.prog 44 [vR m] ⟨vR m, []⟩ := by
 have t1 := aIK h1
 have t2 := aE9 h2 h3
 refine qrf Tryd.func44 Tryd.ntmps44 Tryd.results44 ?_; conv => whnf
 repeat (first | (refine qz ?_; conv => whnf) | (refine qc (t1) ?_; conv => whnf) | (refine qc (t2) ?_; conv => whnf) | (refine qr (aAb rfl rfl rfl rfl rfl rfl rfl rfl) ?_; conv => whnf) | (refine qr (wh rfl rfl rfl rfl rfl (by conv => lhs; whnf) rfl) ?_; conv => whnf))
 exact aC2 (x := vR m) rfl rfl rfl rfl trivial
theorem aE0 {m : Mom} (h1 : m.op.edits.length ≤ maxLen) (h2 : m.res.keys.length ≤ maxLen) (h3 : m.res.map.length ≤ maxLen) : AC Tryd.prog 46 [vR m, vR m] ⟨.v (.bool true), []⟩ := by
 have e1 := aIB h1
 have e2 := aE1 h2 h3
 refine qrf Tryd.func46 Tryd.ntmps46 Tryd.results46 ?_; conv => whnf
 repeat ((first | refine qp (xA (aAU rfl) rfl rfl rfl) ?_ | refine qz ?_ | refine qc (e1) ?_ | refine qc (e2) ?_); conv => whnf)
 exact xB rfl trivial
end Go.Proofs.YtodckioppgjbdaaDoor.AM
namespace Go.Proofs.YtodckioppgjbdaaDoor.AM
open Go Go.RowKit
def mT1 (m : Mom) : ByteArray := ((((⟨#[115, 116, 101, 112, 32]⟩ ++ y5 m.step) ++ ⟨#[32, 99, 108, 105, 101, 110, 116, 32]⟩) ++ y5 m.client) ++ ⟨#[32, 119, 105, 115, 104, 32]⟩) ++ y5 m.wish
def mT2 (m : Mom) : ByteArray := if 0 < m.op.kind then mT1 m ++ (((⟨#[32]⟩ ++ vg m.op.kind) ++ ⟨#[32]⟩) ++ m.op.name) else mT1 m
def mT3 (m : Mom) : ByteArray := if 0 < m.op.kind ∧ 0 < m.op.frm then mT2 m ++ (⟨#[32, 102, 114, 111, 109, 32]⟩ ++ y5 m.op.frm) else mT2 m
def aAA (m : Mom) : ByteArray := (mT3 m ++ ⟨#[58, 32]⟩) ++ kY m.res
def mmB (m : Mom) : Bool := decide (0 ≤ m.step ∧ m.step ≤ 1000000) && (decide (0 ≤ m.client ∧ m.client ≤ 5) && (decide (0 ≤ m.wish ∧ m.wish ≤ 6) && ((decide (m.op.kind = 0) || opB m.op) && rsB m.res)))
def zy (m : Mom) : ByteArray × Int := if mmB m = true then (aAA m, 0) else (⟨#[]⟩, 1)
theorem wZ {o : Opr} (h : opB o = true) : o.name.size ≤ 12 ∧ 0 ≤ o.frm ∧ o.frm ≤ 60 ∧ (o.kind = 1 ∨ o.kind = 2 ∨ o.kind = 3 ∨ o.kind = 4 ∨ o.kind = 5 ∨ o.kind = 6) := by
 unfold opB at h
 simp only [Bool.and_eq_true] at h
 obtain ⟨h0, h⟩ := h
 refine ⟨aA9 h0, ?_⟩
 split at h
 · simp only [Bool.and_eq_true, decide_eq_true_eq] at h; omega
 · split at h
   · simp only [Bool.and_eq_true, decide_eq_true_eq] at h; omega
   · split at h
     · simp only [Bool.and_eq_true, decide_eq_true_eq] at h; omega
     · split at h
       · simp only [Bool.and_eq_true, decide_eq_true_eq] at h; omega
       · cases h
attribute [local irreducible] xJ xN xQ yQ yU Pre ACG
set_option maxHeartbeats 4000000 in
theorem aDH {m : Mom} (hs : 0 ≤ m.step ∧ m.step ≤ 1000000) (hc : 0 ≤ m.client ∧ m.client ≤ 5) (hw : 0 ≤ m.wish ∧ m.wish ≤ 6) (hk : m.op.kind = 0) (hr : RsS m.res) : AC Tryd.prog 91 [vR m] ⟨.v (.string (aAA m)), []⟩ := by
 have c1 := vU (n := m.step) (by omega) (by omega)
 have c2 := vU (n := m.client) (by omega) (by omega)
 have c3 := vU (n := m.wish) (by omega) (by omega)
 have c4 := aAR hr
 have z1 := yc (n := m.step) (by omega) (by omega)
 have z2 := yc (n := m.client) (by omega) (by omega)
 have z3 := yc (n := m.wish) (by omega) (by omega)
 have z4 := aC7 hr
 have w1 : (⟨#[115, 116, 101, 112, 32]⟩ : ByteArray).size = 5 := rfl
 have w2 : (⟨#[32, 99, 108, 105, 101, 110, 116, 32]⟩ : ByteArray).size = 8 := rfl
 have w3 : (⟨#[32, 119, 105, 115, 104, 32]⟩ : ByteArray).size = 6 := rfl
 have w4 : (⟨#[58, 32]⟩ : ByteArray).size = 2 := rfl
 unfold aAA mT3 mT2 mT1
 rw [if_neg (by omega), if_neg (by omega)]
 obtain ⟨cl, wi, st, ⟨kd, fr, nm, ke, es⟩, res⟩ := m
 dsimp only at *
 change AC Tryd.prog 91 [.agg [.v (.int .i64 cl), .v (.int .i64 wi), .v (.int .i64 st), .agg [.v (.int .i64 kd), .v (.int .i64 fr), .v (.string nm), .v (.string ke), .lst 3 (es.map zJ)], vK res]] _
 generalize kY res = RT at *
 refine qrf Tryd.func91 Tryd.ntmps91 Tryd.results91 ?_; conv => whnf
 repeat (first | (refine qz ?_; conv => whnf) | (refine qdr ?_; conv => whnf) | (refine qc (c1) ?_; conv => whnf) | (refine qc (c2) ?_; conv => whnf) | (refine qc (c3) ?_; conv => whnf) | (refine qc (c4) ?_; conv => whnf) | (refine qp (xA (uL (by first | omega | (simp only [ByteArray.size_append]; omega))) rfl rfl rfl) ?_; conv => whnf))
 exact xB rfl trivial
end Go.Proofs.YtodckioppgjbdaaDoor.AM
namespace Go.Proofs.YtodckioppgjbdaaDoor.AM
open Go Go.RowKit
theorem aIZ {j : Nat} (hj : j < knd.length) : vg ((j : Int) + 1) = knd[j] := by
 unfold vg
 rw [show ((j : Int) + 1 - 1).toNat = j from by omega]
 simp [hj]
attribute [local irreducible] xJ xN xQ yQ yU Pre ACG
set_option maxHeartbeats 4000000 in
theorem aDI {m : Mom} {j : Nat} (hj : j < 6) (hs : 0 ≤ m.step ∧ m.step ≤ 1000000) (hc : 0 ≤ m.client ∧ m.client ≤ 5) (hw : 0 ≤ m.wish ∧ m.wish ≤ 6) (hk : m.op.kind = (j : Int) + 1) (hn : m.op.name.size ≤ 12) (hf : 0 ≤ m.op.frm ∧ m.op.frm ≤ 60) (hr : RsS m.res) : AC Tryd.prog 91 [vR m] ⟨.v (.string (aAA m)), []⟩ := by
 have hkl : j < knd.length := hj
 have hg : (knd.map yN)[j]? = some (yN knd[j]) := by simp [hkl]
 have w7 := aJY ((j : Int) + 1)
 have ek := aIZ hkl
 rw [ek] at w7
 have c1 := vU (n := m.step) (by omega) (by omega)
 have c2 := vU (n := m.client) (by omega) (by omega)
 have c3 := vU (n := m.wish) (by omega) (by omega)
 have c4 := aAR hr
 have c5 := vU (n := m.op.frm) (by omega) (by omega)
 have z1 := yc (n := m.step) (by omega) (by omega)
 have z2 := yc (n := m.client) (by omega) (by omega)
 have z3 := yc (n := m.wish) (by omega) (by omega)
 have z4 := aC7 hr
 have z5 := yc (n := m.op.frm) (by omega) (by omega)
 have w1 : (⟨#[115, 116, 101, 112, 32]⟩ : ByteArray).size = 5 := rfl
 have w2 : (⟨#[32, 99, 108, 105, 101, 110, 116, 32]⟩ : ByteArray).size = 8 := rfl
 have w3 : (⟨#[32, 119, 105, 115, 104, 32]⟩ : ByteArray).size = 6 := rfl
 have w4 : (⟨#[58, 32]⟩ : ByteArray).size = 2 := rfl
 have w5 : (⟨#[32]⟩ : ByteArray).size = 1 := rfl
 have w6 : (⟨#[32, 102, 114, 111, 109, 32]⟩ : ByteArray).size = 6 := rfl
 unfold aAA mT3 mT2 mT1
 rw [if_pos (by omega : 0 < m.op.kind), hk, ek]
 obtain ⟨cl, wi, st, ⟨kd, fr, nm, ke, es⟩, res⟩ := m
 dsimp only at *
 subst hk
 change AC Tryd.prog 91 [.agg [.v (.int .i64 cl), .v (.int .i64 wi), .v (.int .i64 st), .agg [.v (.int .i64 ((j : Int) + 1)), .v (.int .i64 fr), .v (.string nm), .v (.string ke), .lst 3 (es.map zJ)], vK res]] _
 generalize kY res = RT at *
 generalize hKW : knd[j] = KW at *
 by_cases h0 : 0 < fr
 · rw [if_pos ⟨by omega, h0⟩]
   refine qrf Tryd.func91 Tryd.ntmps91 Tryd.results91 ?_; conv => whnf
   repeat ((refine qz ?_; conv => whnf))
   (refine qdr ?_; conv => whnf)
   repeat (first | (refine qz ?_; conv => whnf) | (refine qc (c1) ?_; conv => whnf) | (refine qc (c2) ?_; conv => whnf) | (refine qc (c3) ?_; conv => whnf) | (refine qp (xA (uL (by first | omega | (simp only [ByteArray.size_append]; omega))) rfl rfl rfl) ?_; conv => whnf))
   refine .inr ⟨by kernel_rfl, wo (by kernel_rfl), ?_⟩
   refine yP (aEE rfl) rfl rfl rfl (.inl rfl) (by kernel_rfl) ?_
   refine xk (y7 aBF rfl rfl rfl ⟨⟨rfl, rfl, rfl⟩, trivial⟩ rfl rfl rfl) yx rfl rfl (by kernel_rfl) ?_
   repeat (first
    | refine yP (jS rfl rfl rfl) rfl rfl rfl (.inl rfl) (by kernel_rfl) ?_
    | refine yP (kK rfl rfl rfl rfl rfl rfl rfl) rfl rfl rfl (.inr rfl) (by kernel_rfl) ?_
    | refine yP (kK rfl rfl hg rfl rfl rfl rfl) rfl rfl rfl (.inr rfl) (by kernel_rfl) ?_
    | refine yP (xA (aF2 (b := 1) (c := (j : Int)) (by omega) (by omega) (by omega)) rfl rfl rfl) rfl rfl rfl (.inl rfl) (by kernel_rfl) ?_
    | refine xk (aGw (aAa (j := j) (by simpa using hkl) rfl rfl rfl rfl rfl) rfl rfl) wH rfl rfl (by kernel_rfl) ?_
    | refine yP (xA (uL (by first | omega | (simp only [ByteArray.size_append]; omega))) rfl rfl rfl) rfl rfl rfl (.inl rfl) (by kernel_rfl) ?_
    | refine xk (jE rfl) wH rfl rfl (by kernel_rfl) ?_)
   refine qJ ?_
   conv => whnf
   repeat (first | (refine qz ?_; conv => whnf) | (refine qc (c5) ?_; conv => whnf) | (refine qc (c4) ?_; conv => whnf) | (refine qp (xA (uL (by first | omega | (simp only [ByteArray.size_append]; omega))) rfl rfl rfl) ?_; conv => whnf))
   exact xB rfl trivial
 · rw [if_neg (fun h => h0 h.2)]
   refine qrf Tryd.func91 Tryd.ntmps91 Tryd.results91 ?_; conv => whnf
   repeat ((refine qz ?_; conv => whnf))
   (refine qdr ?_; conv => whnf)
   repeat (first | (refine qz ?_; conv => whnf) | (refine qc (c1) ?_; conv => whnf) | (refine qc (c2) ?_; conv => whnf) | (refine qc (c3) ?_; conv => whnf) | (refine qp (xA (uL (by first | omega | (simp only [ByteArray.size_append]; omega))) rfl rfl rfl) ?_; conv => whnf))
   refine .inr ⟨by kernel_rfl, wo (by kernel_rfl), ?_⟩
   refine yP (aEE rfl) rfl rfl rfl (.inl rfl) (by kernel_rfl) ?_
   refine xk (y7 aBF rfl rfl rfl ⟨⟨rfl, rfl, rfl⟩, trivial⟩ rfl rfl rfl) yx rfl rfl (by kernel_rfl) ?_
   repeat (first
    | refine yP (jS rfl rfl rfl) rfl rfl rfl (.inl rfl) (by kernel_rfl) ?_
    | refine yP (kK rfl rfl rfl rfl rfl rfl rfl) rfl rfl rfl (.inr rfl) (by kernel_rfl) ?_
    | refine yP (kK rfl rfl hg rfl rfl rfl rfl) rfl rfl rfl (.inr rfl) (by kernel_rfl) ?_
    | refine yP (xA (aF2 (b := 1) (c := (j : Int)) (by omega) (by omega) (by omega)) rfl rfl rfl) rfl rfl rfl (.inl rfl) (by kernel_rfl) ?_
    | refine xk (aGw (aAa (j := j) (by simpa using hkl) rfl rfl rfl rfl rfl) rfl rfl) wH rfl rfl (by kernel_rfl) ?_
    | refine yP (xA (uL (by first | omega | (simp only [ByteArray.size_append]; omega))) rfl rfl rfl) rfl rfl rfl (.inl rfl) (by kernel_rfl) ?_
    | refine xk (jE rfl) wH rfl rfl (by kernel_rfl) ?_)
   refine qJ ?_
   conv => whnf
   repeat (first | (refine qz ?_; conv => whnf) | (refine qc (c5) ?_; conv => whnf) | (refine qc (c4) ?_; conv => whnf) | (refine qp (xA (uL (by first | omega | (simp only [ByteArray.size_append]; omega))) rfl rfl rfl) ?_; conv => whnf))
   exact xB rfl trivial
theorem aAQ {m : Mom} (h : mmB m = true) : AC Tryd.prog 91 [vR m] ⟨.v (.string (aAA m)), []⟩ := by
 unfold mmB at h
 simp only [Bool.and_eq_true, decide_eq_true_eq, Bool.or_eq_true] at h
 obtain ⟨h1, h2, h3, h4, h5⟩ := h
 have h6 := aDT h5
 by_cases hk : m.op.kind = 0
 · exact aDH h1 h2 h3 hk h6
 · have h7 : opB m.op = true := by rcases h4 with h | h; exact absurd h hk; exact h
   obtain ⟨n1, n2, n3, n4⟩ := wZ h7
   exact aDI (j := (m.op.kind - 1).toNat) (by omega) h1 h2 h3 (by omega) n1 ⟨n2, n3⟩ h6
end Go.Proofs.YtodckioppgjbdaaDoor.AM
namespace Go.Proofs.YtodckioppgjbdaaDoor.AM
open Go Go.RowKit
theorem tvv {Θ : Tab} {s : St} {t1 t2 : Nat} {v1 v2 : Value} (h1 : s.sl t1 = .v v1) (h2 : s.sl t2 = .v v2) : Ret Θ [.tmp t1, .tmp t2] [] ⟨.tup [.v v1, .v v2], []⟩ s := aC3 h1 h2
attribute [local irreducible] xJ xN xQ yQ yU Pre ACG
set_option maxHeartbeats 4000000 in
theorem aCL {m : Mom} (ho : m.op.ok maxLen) (hr : m.res.ok maxLen) : AC Tryd.prog 43 [vR m] ⟨.tup [.v (.string (zy m).1), .v (.int .i64 (zy m).2)], []⟩ := by
 have co := aHI ho
 have cr := aHJ hr
 by_cases h1 : 0 ≤ m.step ∧ m.step ≤ 1000000
 case neg =>
  rw [show zy m = (⟨#[]⟩, 1) from by unfold zy mmB; rw [decide_eq_false h1]; simp]
  as_aux_lemma =>
   refine qO Tryd.func43 Tryd.ntmps43 Tryd.results43 ?_
   repeat (first | refine qla ?_ | refine qC (uh h1) ?_ | refine qlb ?_ | refine qx ?_)
   exact tvv rfl rfl
 by_cases h2 : 0 ≤ m.client ∧ m.client ≤ 5
 case neg =>
  rw [show zy m = (⟨#[]⟩, 1) from by unfold zy mmB; rw [decide_eq_true h1, decide_eq_false h2]; simp]
  as_aux_lemma =>
   refine qO Tryd.func43 Tryd.ntmps43 Tryd.results43 ?_
   repeat (first | refine qla ?_ | refine qC (xL h1.1 h1.2) ?_ | refine qC (uh h2) ?_ | refine qlb ?_ | refine qx ?_)
   exact tvv rfl rfl
 by_cases h3 : 0 ≤ m.wish ∧ m.wish ≤ 6
 case neg =>
  rw [show zy m = (⟨#[]⟩, 1) from by unfold zy mmB; rw [decide_eq_true h1, decide_eq_true h2, decide_eq_false h3]; simp]
  as_aux_lemma =>
   refine qO Tryd.func43 Tryd.ntmps43 Tryd.results43 ?_
   repeat (first | refine qla ?_ | refine qC (xL h1.1 h1.2) ?_ | refine qC (xL h2.1 h2.2) ?_ | refine qC (uh h3) ?_ | refine qlb ?_ | refine qx ?_)
   exact tvv rfl rfl
 cases hR : rsB m.res
 case false =>
  rw [hR] at cr
  rw [show zy m = (⟨#[]⟩, 1) from by unfold zy mmB; rw [hR]; simp]
  by_cases hk : m.op.kind = 0
  · skip
    as_aux_lemma =>
     refine qO Tryd.func43 Tryd.ntmps43 Tryd.results43 ?_
     repeat (first | refine qla ?_ | refine qC (xL h1.1 h1.2) ?_ | refine qC (xL h2.1 h2.2) ?_ | refine qC (xL h3.1 h3.2) ?_ | refine qC (cr) ?_ | refine qlb ?_ | refine qx ?_)
     exact tvv rfl rfl
  · cases hO : opB m.op
    · rw [hO] at co
      as_aux_lemma =>
       refine qO Tryd.func43 Tryd.ntmps43 Tryd.results43 ?_
       repeat (first | refine qla ?_ | refine qC (xL h1.1 h1.2) ?_ | refine qC (xL h2.1 h2.2) ?_ | refine qC (xL h3.1 h3.2) ?_ | refine qC (co) ?_ | refine qlb ?_ | refine qx ?_)
       exact tvv rfl rfl
    · rw [hO] at co
      as_aux_lemma =>
       refine qO Tryd.func43 Tryd.ntmps43 Tryd.results43 ?_
       repeat (first | refine qla ?_ | refine qC (xL h1.1 h1.2) ?_ | refine qC (xL h2.1 h2.2) ?_ | refine qC (xL h3.1 h3.2) ?_ | refine qC (co) ?_ | refine qC (cr) ?_ | refine qlb ?_ | refine qx ?_)
       exact tvv rfl rfl
 rw [hR] at cr
 by_cases hk : m.op.kind = 0
 · have h : mmB m = true := by unfold mmB; rw [decide_eq_true h1, decide_eq_true h2, decide_eq_true h3, hR, decide_eq_true hk]; rfl
   have c2 := aAQ h
   rw [show zy m = (aAA m, 0) from by unfold zy; rw [if_pos h]]
   as_aux_lemma =>
    refine qO Tryd.func43 Tryd.ntmps43 Tryd.results43 ?_
    repeat (first | refine qla ?_ | refine qC (xL h1.1 h1.2) ?_ | refine qC (xL h2.1 h2.2) ?_ | refine qC (xL h3.1 h3.2) ?_ | refine qC (cr) ?_ | refine qC (c2) ?_ | refine qlb ?_ | refine qx ?_)
    exact tvv rfl rfl
 · cases hO : opB m.op
   · rw [hO] at co
     rw [show zy m = (⟨#[]⟩, 1) from by unfold zy mmB; rw [hO, decide_eq_false hk]; simp]
     as_aux_lemma =>
      refine qO Tryd.func43 Tryd.ntmps43 Tryd.results43 ?_
      repeat (first | refine qla ?_ | refine qC (xL h1.1 h1.2) ?_ | refine qC (xL h2.1 h2.2) ?_ | refine qC (xL h3.1 h3.2) ?_ | refine qC (co) ?_ | refine qlb ?_ | refine qx ?_)
      exact tvv rfl rfl
   · have h : mmB m = true := by unfold mmB; rw [decide_eq_true h1, decide_eq_true h2, decide_eq_true h3, hR, hO, Bool.or_true]; rfl
     have c2 := aAQ h
     rw [hO] at co
     rw [show zy m = (aAA m, 0) from by unfold zy; rw [if_pos h]]
     as_aux_lemma =>
      refine qO Tryd.func43 Tryd.ntmps43 Tryd.results43 ?_
      repeat (first | refine qla ?_ | refine qC (xL h1.1 h1.2) ?_ | refine qC (xL h2.1 h2.2) ?_ | refine qC (xL h3.1 h3.2) ?_ | refine qC (co) ?_ | refine qC (cr) ?_ | refine qC (c2) ?_ | refine qlb ?_ | refine qx ?_)
      exact tvv rfl rfl
theorem aCS {m : Mom} (ho : m.op.ok maxLen) (hr : m.res.ok maxLen) (h2 : AC Tryd.prog 45 [vR m] ⟨.tup [.v (.string (zy m).1), .v (.int .i64 (zy m).2)], []⟩) : AC Tryd.prog 9 [vR m] ⟨.v (.bool true), []⟩ := by
 have hz := aE5 ho hr (l := 1048576) (by omega) (by omega)
 by_cases hsz : szM m 1048576 < 0
 · refine qrf Tryd.func9 Tryd.ntmps9 Tryd.results9 ?_; conv => whnf
   repeat ((first | refine qz ?_ | refine qc (hz) ?_); conv => whnf)
   exact xB rfl trivial
 obtain ⟨m0, m1, m2, m3⟩ := aJr (by omega : 0 ≤ szM m 1048576) (by omega)
 have t1 := aE8 m1 m2 m3
 have e1 := aE0 ho.2.2.1 hr.1 hr.2.2.1
 have h1 := aCL ho hr
 generalize zy m = R at h1 h2
 refine qrf Tryd.func9 Tryd.ntmps9 Tryd.results9 ?_; conv => whnf
 repeat ((first | refine qz ?_ | refine qc (hz) ?_ | refine qc (t1) ?_ | refine qc (h1) ?_ | refine qc (h2) ?_ | refine qc (e1) ?_ | refine qst ?_ | refine qdr ?_ | refine qp (xA (y9 rfl) rfl rfl rfl) ?_); conv => whnf)
 exact xB rfl trivial
end Go.Proofs.YtodckioppgjbdaaDoor.AM
namespace Go.Proofs.YtodckioppgjbdaaDoor.AM
open Go Go.RowKit
def jl (sep : ByteArray) (l : List ByteArray) : ByteArray := jn sep (fun i => (l[i]?).getD ⟨#[]⟩) l.length
theorem qd (a b c : ByteArray) : (a ++ b) ++ c = a ++ (b ++ c) := by
 apply ByteArray.ext
 simp [ByteArray.data_append, Array.append_assoc]
theorem aIt (a : ByteArray) : (⟨#[]⟩ : ByteArray) ++ a = a := by
 apply ByteArray.ext
 simp [ByteArray.data_append]
theorem aJW {sep x : ByteArray} : jl sep [x] = x := by
 show jn sep _ (0 + 1) = x
 rw [aFa, aHY, aIt]; rfl
theorem aIY {sep x : ByteArray} {l : List ByteArray} (h : l ≠ []) : jl sep (l ++ [x]) = (jl sep l ++ sep) ++ x := by
 unfold jl
 have hl : 0 < l.length := List.length_pos_iff.2 h
 rw [List.length_append, show l.length + [x].length = l.length + 1 from rfl, aFc hl]
 have h1 : jn sep (fun i => ((l ++ [x])[i]?).getD ⟨#[]⟩) l.length = jn sep (fun i => (l[i]?).getD ⟨#[]⟩) l.length := aBi fun i hi => by rw [List.getElem?_append_left hi]
 rw [h1]
 have h2 : ((l ++ [x])[l.length]?).getD ⟨#[]⟩ = x := by rw [List.getElem?_append_right (Nat.le_refl _), Nat.sub_self]; rfl
 rw [h2]
theorem aKG {sep : ByteArray} {l : List ByteArray} {A B : Nat} (hs : sep.size ≤ A) (h : ∀ x ∈ l, x.size ≤ B) : (jl sep l).size ≤ l.length * (A + B) :=
 j5 hs fun i hi => by rw [List.getElem?_eq_getElem hi]; exact h _ (List.getElem_mem hi)
def neB (p : ByteArray) : Bool := !(Nat.beq p.size 0)
def spA (a : ByteArray) (ps : List ByteArray) : ByteArray := ps.foldl (fun a p => if p.size = 0 then a else (a ++ ⟨#[32]⟩) ++ p) a
theorem kC {a : ByteArray} : spA a [] = a := rfl
theorem aGA {a p : ByteArray} {ps : List ByteArray} (h : p.size = 0) : spA a (p :: ps) = spA a ps := by unfold spA; rw [List.foldl_cons, if_pos h]
theorem wM {a p : ByteArray} {ps : List ByteArray} (h : ¬ p.size = 0) : spA a (p :: ps) = spA ((a ++ ⟨#[32]⟩) ++ p) ps := by unfold spA; rw [List.foldl_cons, if_neg h]
theorem aHp {p : ByteArray} (h : p.size = 0) : neB p = false := by unfold neB; rw [h]; rfl
theorem aFn {p : ByteArray} (h : ¬ p.size = 0) : neB p = true := by
 unfold neB
 cases hb : Nat.beq p.size 0 with
 | false => rfl
 | true => exact absurd (Nat.eq_of_beq_eq_true hb) h
theorem aDm : ∀ (ps l : List ByteArray), l ≠ [] → jl ⟨#[32]⟩ (l ++ ps.filter neB) = spA (jl ⟨#[32]⟩ l) ps
 | [], l, _ => by rw [List.filter_nil, List.append_nil, kC]
 | p :: ps, l, h => by
  by_cases hp : p.size = 0
  · rw [List.filter_cons_of_neg (by rw [aHp hp]; decide), aGA hp, aDm ps l h]
  · rw [List.filter_cons_of_pos (aFn hp), wM hp, ← aIY h, ← aDm ps (l ++ [p]) (by simp), List.append_assoc]; rfl
def kD (ps : List ByteArray) : ByteArray := jl ⟨#[32]⟩ (ps.filter neB)
theorem aBz {p : ByteArray} {ps : List ByteArray} (hp : ¬ p.size = 0) : kD (p :: ps) = spA p ps := by
 unfold kD
 rw [List.filter_cons_of_pos (aFn hp), show p :: ps.filter neB = [p] ++ ps.filter neB from rfl, aDm ps [p] (by simp), aJW]
theorem qW {ps : List ByteArray} {B : Nat} (h : ∀ x ∈ ps, x.size ≤ B) : (kD ps).size ≤ ps.length * (1 + B) := by
 unfold kD
 refine Nat.le_trans (aKG (A := 1) (B := B) (by rw [kT]; omega) fun x hx => h x (List.mem_filter.1 hx).1) ?_
 exact Nat.mul_le_mul_right _ (List.length_filter_le _ _)
def za (l t : ByteArray) : ByteArray := if t.size = 0 then ⟨#[]⟩ else kD [l, t]
def uzT (n : Int) : ByteArray := if n = 0 then ⟨#[]⟩ else y5 n
def vQ (x : Int) : ByteArray := if 0 ≤ x ∧ x < 19 then cwL.getD x.toNat ByteArray.empty else ByteArray.empty
theorem aDO {j : Nat} (h : j < 19) : vQ (j : Int) = cwL[j]'(by exact h) := by
 rw [vQ, if_pos (by omega), Int.toNat_natCast, List.getD_eq_getElem?_getD, List.getElem?_eq_getElem (by exact h)]; rfl
theorem aHl : ∀ w ∈ cwL, w.size ≠ 0 := by decide
theorem qf {x : Int} : vQ x = ⟨#[]⟩ ↔ ¬ (0 ≤ x ∧ x < 19) := by
 constructor
 · intro h hx
   obtain ⟨j, rfl⟩ : ∃ j : Nat, x = (j : Int) := ⟨x.toNat, by omega⟩
   have hj : j < 19 := by omega
   have e := (congrArg ByteArray.size ((aDO hj).symm.trans h))
   exact aHl _ (List.getElem_mem (by exact hj)) e
 · intro h; rw [vQ, if_neg h]; rfl
def aEI (r : Rst) (n : Nat) : Bool := decide (0 ≤ r.code ∧ r.code < 19) && (decide (0 ≤ r.com ∧ r.com ≤ (n : Int)) && (decide (-1000000 ≤ r.val ∧ r.val ≤ 1000000) && (decide (r.keys.length ≤ 24) && yS r.map)))
attribute [local irreducible] xJ xN xQ yQ yU Pre ACG
theorem aBE {x : Int} : AC Tryd.prog 119 [.v (.int .i64 x)] ⟨.v (.string (vQ x)), []⟩ := by
 by_cases h1 : x < 0
 · rw [show vQ x = ⟨#[]⟩ from qf.2 (by omega)]
   refine qrf Tryd.func119 Tryd.ntmps119 Tryd.results119 ?_; conv => whnf
   repeat ((first | refine qz ?_ | refine qdr ?_); conv => whnf)
   exact xB rfl trivial
 by_cases h2 : 19 ≤ x
 · rw [show vQ x = ⟨#[]⟩ from qf.2 (by omega)]
   refine qrf Tryd.func119 Tryd.ntmps119 Tryd.results119 ?_; conv => whnf
   repeat ((first | refine qz ?_ | refine qdr ?_); conv => whnf)
   exact xB rfl trivial
 obtain ⟨j, rfl⟩ : ∃ j : Nat, x = (j : Int) := ⟨x.toNat, by omega⟩
 have hj : j < 19 := by omega
 rw [aDO hj]
 refine qrf Tryd.func119 Tryd.ntmps119 Tryd.results119 ?_; conv => whnf
 repeat (first | (refine qz ?_; conv => whnf) | (refine qdr ?_; conv => whnf) | (refine qp (aFG (xs := cwL.map fun s => .v (.string s)) (y := .v (.string (cwL[j]'(by exact hj)))) (by rw [List.getElem?_map, List.getElem?_eq_getElem (by exact hj)]; rfl) hj rfl rfl rfl (fun x hx => by obtain ⟨e, _, rfl⟩ := List.mem_map.1 hx; rfl)) ?_; conv => whnf))
 exact xB rfl trivial
theorem aGJ {x : Int} : AC Tryd.prog 101 [.v (.int .i64 x)] ⟨.v (.bool (decide (-1000000 ≤ x ∧ x ≤ 1000000))), []⟩ := by
 by_cases h1 : -1000000 ≤ x
 · by_cases h2 : x ≤ 1000000
   · rw [decide_eq_true ⟨h1, h2⟩]
     refine qrf Tryd.func101 Tryd.ntmps101 Tryd.results101 ?_; conv => whnf
     repeat ((refine qz ?_; conv => whnf))
     exact xB rfl trivial
   · rw [decide_eq_false (by omega)]
     refine qrf Tryd.func101 Tryd.ntmps101 Tryd.results101 ?_; conv => whnf
     repeat ((refine qz ?_; conv => whnf))
     exact xB rfl trivial
 · rw [decide_eq_false (by omega)]
   refine qrf Tryd.func101 Tryd.ntmps101 Tryd.results101 ?_; conv => whnf
   repeat ((refine qz ?_; conv => whnf))
   exact xB rfl trivial
theorem aE3 {r : Rst} {n : Nat} (hr : r.ok maxLen) : AC Tryd.prog 115 [vK r, .v (.int .i64 (n : Int))] ⟨.v (.bool (aEI r n)), []⟩ := by
 have c1 := aBE (x := r.code)
 have c2 := aGJ (x := r.val)
 obtain ⟨hk, _, hm, hm2⟩ := hr
 unfold maxLen at hk
 have c3 := aDX hm hm2
 unfold aEI
 by_cases h1 : 0 ≤ r.code ∧ r.code < 19
 case neg =>
  rw [decide_eq_false h1, Bool.false_and]
  rw [show vQ r.code = ⟨#[]⟩ from qf.2 h1] at c1
  refine qrf Tryd.func115 Tryd.ntmps115 Tryd.results115 ?_; conv => whnf
  repeat ((first | refine qz ?_ | refine qc (c1) ?_ | refine qdr ?_ | refine qp (xA (yt rfl) rfl rfl rfl) ?_); conv => whnf)
  exact xB rfl trivial
 rw [decide_eq_true h1, Bool.true_and]
 have hne : vQ r.code ≠ ⟨#[]⟩ := fun e => qf.1 e h1
 generalize vQ r.code = s at c1 hne
 by_cases h2 : 0 ≤ r.com
 case neg =>
  rw [decide_eq_false (by omega), Bool.false_and]
  refine qrf Tryd.func115 Tryd.ntmps115 Tryd.results115 ?_; conv => whnf
  repeat ((first | refine qz ?_ | refine qc (c1) ?_ | refine qdr ?_ | refine qp (xA (yR hne) rfl rfl rfl) ?_); conv => whnf)
  exact xB rfl trivial
 by_cases h3 : r.com ≤ (n : Int)
 case neg =>
  rw [decide_eq_false (by omega), Bool.false_and]
  refine qrf Tryd.func115 Tryd.ntmps115 Tryd.results115 ?_; conv => whnf
  repeat ((first | refine qz ?_ | refine qc (c1) ?_ | refine qdr ?_ | refine qp (xA (yR hne) rfl rfl rfl) ?_); conv => whnf)
  exact xB rfl trivial
 rw [decide_eq_true (show 0 ≤ r.com ∧ r.com ≤ (n : Int) from ⟨h2, h3⟩), Bool.true_and]
 cases hv : decide (-1000000 ≤ r.val ∧ r.val ≤ 1000000) with
 | false =>
  rw [Bool.false_and]
  rw [hv] at c2
  refine qrf Tryd.func115 Tryd.ntmps115 Tryd.results115 ?_; conv => whnf
  repeat ((first | refine qz ?_ | refine qc (c1) ?_ | refine qc (c2) ?_ | refine qdr ?_ | refine qp (xA (yR hne) rfl rfl rfl) ?_); conv => whnf)
  exact xB rfl trivial
 | true =>
  rw [Bool.true_and]
  rw [hv] at c2
  by_cases h4 : r.keys.length ≤ 24
  · rw [decide_eq_true h4, Bool.true_and]
    refine qrf Tryd.func115 Tryd.ntmps115 Tryd.results115 ?_; conv => whnf
    repeat ((first | refine qz ?_ | refine qc (c1) ?_ | refine qc (c2) ?_ | refine qc (c3) ?_ | refine qdr ?_ | refine qp (xA (yR hne) rfl rfl rfl) ?_); conv => whnf)
    exact xB rfl trivial
  · rw [decide_eq_false h4, Bool.false_and]
    refine qrf Tryd.func115 Tryd.ntmps115 Tryd.results115 ?_; conv => whnf
    repeat ((first | refine qz ?_ | refine qc (c1) ?_ | refine qc (c2) ?_ | refine qc (c3) ?_ | refine qdr ?_ | refine qp (xA (yR hne) rfl rfl rfl) ?_); conv => whnf)
    exact xB rfl trivial
end Go.Proofs.YtodckioppgjbdaaDoor.AM
namespace Go.Proofs.YtodckioppgjbdaaDoor.AM
open Go Go.RowKit
section
variable {s : St} {Θ : Tab}
end
section
variable {P : Program} {Θ : Tab} {s : St} {ty : TypeId} {pos : String} {after : Array Edge} {g : Option (Nat × Bool)}
end
section
variable {P : Program} {Θ : Tab} {s : St}
def mkO : Nat → List Operand → List (Nat × Operand)
 | _, [] => []
 | i, c :: r => (i, c) :: mkO (i + 1) r
theorem aEz : ∀ (xs : List Operand) (cs : List Value) (i : Nat), xs.map s.ev = cs.map .v → xq s ((mkO i xs).map (·.2)) = []
 | [], _, _, _ => by simp [mkO, xq, xW]
 | x :: xs, [], _, h => by cases h
 | x :: xs, c :: cs, i, h => by
  obtain ⟨h1, h2⟩ := List.cons.inj h
  have := aEz xs cs (i + 1) h2
  unfold xq at this ⊢
  simp only [mkO, List.map_cons, xW, h1, yH, List.nil_append]
  exact this
theorem aG6 : ∀ (xs : List Operand) (cs : List Value) (i : Nat), xs.map s.ev = cs.map .v → (∀ c ∈ cs, c.oneCell' = true) → uV ((mkO i xs).map (·.2))
 | [], _, _, _, _ => by intro y hy; simp [mkO] at hy
 | x :: xs, [], _, h, _ => by cases h
 | x :: xs, c :: cs, i, h, hc => by
  obtain ⟨h1, h2⟩ := List.cons.inj h
  intro y hy v hv
  simp only [mkO, List.map_cons, List.mem_cons] at hy
  rcases hy with rfl | hy
  · subst hv
    have e : c = v := by have : AV.v v = AV.v c := h1; cases this; rfl
    subst e; exact hc _ (by simp)
  · exact aG6 xs cs (i + 1) h2 (fun c hc' => hc c (by simp [hc'])) y hy v hv
theorem aG7 : ∀ (xs : List Operand) (cs : List Value) (i : Nat) (zs : List AV), xs.map s.ev = cs.map .v → (∀ c ∈ cs, c.oneCell' = true) → i + cs.length = zs.length → (∀ z ∈ zs, asz z = 1) → uO s zs (mkO i xs) ∧ yG s zs (mkO i xs) = zs.take i ++ cs.map .v
 | [], [], i, zs, _, _, h, _ => by
  refine ⟨trivial, ?_⟩
  simp only [mkO, yG, List.map_nil, List.append_nil]
  rw [List.take_of_length_le (by simp at h; omega)]
 | [], c :: cs, _, _, h, _, _, _ => by cases h
 | x :: xs, [], _, _, h, _, _, _ => by cases h
 | x :: xs, c :: cs, i, zs, he, hc, h, hz => by
  obtain ⟨e1, e2⟩ := List.cons.inj he
  have hi : i < zs.length := by simp only [List.length_cons] at h; omega
  have h1 := aG7 xs cs (i + 1) (zs.set i (.v c)) e2 (fun c hc' => hc c (by simp [hc'])) (by rw [List.length_set]; simp only [List.length_cons] at h; omega) (fun z hz' => by
   rcases List.mem_or_eq_of_mem_set hz' with q | q
   · exact hz z q
   · subst q; rfl)
  have hd : s.dat (s.ev x) = .v c := by rw [e1]; rfl
  refine ⟨⟨⟨zs[i], by simp [hi], by rw [hd, hz _ (List.getElem_mem hi)]; rfl⟩, by rw [e1]; exact hc c (by simp), by rw [hd]; exact h1.1⟩, ?_⟩
  simp only [mkO, yG, hd]
  rw [h1.2, List.take_succ_eq_append_getElem (by simpa using hi), List.getElem_set_self, List.take_set_of_le (Nat.le_refl _)]
  simp
theorem aGg {d : Nat} {ty : TypeId} {pos : String} {after : Array Edge} {g : Option (Nat × Bool)} {t el b m : Nat} {z : AV} {ps : Array (Nat × Operand)} (xs : List Operand) (cs : List Value) (hev : xs.map s.ev = cs.map .v) (hf : s.hp (d + 1) = none) (ht : Θ.look t = .slice el 1 b z) (hps : ps = (mkO 0 xs).toArray) (hm : m = cs.length) (hz : Nat.beq (asz z) 1 = true) (hl : Nat.ble cs.length 65536 = true) (hc : ∀ c ∈ cs, c.oneCell' = true) (hok : okL (d + 1) = true := by rfl) :
 Pre P Θ ⟨some d, .buildSlice t m ps, ty, pos, after, g⟩ s ⟨.own (d + 1), some fun s' => s'.set (d + 1) (some ⟨.s el, 1, cs.map .v⟩)⟩ := by
 subst hps hm
 have h1 := aG7 (s := s) xs cs 0 (List.replicate cs.length z) hev hc (by simp) (fun y hy => by rw [List.eq_of_mem_replicate hy]; exact Nat.eq_of_beq_eq_true hz)
 have ho := aEz (s := s) xs cs 0 hev
 refine ⟨d, el, 1, b, z, rfl, hf, hok, ht, by have := Nat.le_of_ble_eq_true hl; omega, .inl ⟨h1.1, aG6 xs cs 0 hev hc, ?_, ?_⟩⟩
 · show (xq s ((mkO 0 xs).map (·.2))).all okL = true
   rw [ho]; rfl
 · show _ = Eff.mk _ (ji (xq s ((mkO 0 xs).map (·.2))) fun s' => s'.set (d + 1) (some ⟨.s el, 1, yG s (List.replicate cs.length z) (mkO 0 xs)⟩))
   rw [ho, h1.2]; rfl
theorem aBY {d : Nat} {ty : TypeId} {pos : String} {after : Array Edge} {g : Option (Nat × Bool)} {t el b m : Nat} {z : AV} {ps : Array (Nat × Operand)} (xs : List Operand) (cs : List Value) (hev : xs.map s.ev = cs.map .v) (hf : s.hp (d + 1) = none) (ht : Θ.look t = .slice el 1 b z) (hps : ps = (mkO 0 xs).toArray) (hm : m = cs.length) (hz : Nat.beq (asz z) 1 = true) (hl : Nat.ble cs.length 65536 = true) (hc : ∀ c ∈ cs, c.oneCell' = true) (hok : okL (d + 1) = true := by rfl) :
 Sft P Θ ⟨some d, .buildSlice t m ps, ty, pos, after, g⟩ s (.own (d + 1)) [] [(d + 1, some ⟨.s el, 1, cs.map .v⟩)] := by
 have hmem : ∀ (ys : List Operand) (i : Nat) (x : Operand), x ∈ ys → ∃ j, (j, x) ∈ mkO i ys := by
  intro ys
  induction ys with
  | nil => intro i x h; cases h
  | cons y ys ih =>
   intro i x h
   rcases List.mem_cons.1 h with rfl | h
   · exact ⟨i, by simp [mkO]⟩
   · obtain ⟨j, hj⟩ := ih (i + 1) x h
     exact ⟨j, by simp [mkO, hj]⟩
 refine ⟨fun s' h1 h2 => ⟨⟨.own (d + 1), some fun s'' => s''.set (d + 1) (some ⟨.s el, 1, cs.map .v⟩)⟩, ?_, fun K hK => .done ?_⟩, fun l ob h => ?_, fun l hl => (by cases hl), fun l hl => .inl ?_, fun l ⟨o, hl⟩ => .inl ?_, fun l ob ⟨o, hl⟩ ho => ?_⟩
 · have hev' : xs.map s'.ev = cs.map .v := by
    rw [← hev]
    refine List.map_congr_left fun x hx => h1 x ?_
    obtain ⟨j, hj⟩ := hmem xs 0 x hx
    subst hps
    simp only [Op.operands, List.map_toArray, List.mem_toArray, List.mem_map]
    exact ⟨(j, x), hj, rfl⟩
   exact aGg xs cs hev' ((h2 _ (.inl (in1 _ _))).1.trans hf) ht hps hm hz hl hc hok
 · rw [uT, aFP]; exact hK
 · obtain ⟨_, e⟩ := nu1 h; cases e; rfl
 · simp only [AV.names] at hl; rw [← Nat.eq_of_beq_eq_true hl]; exact in1 _ _
 · obtain ⟨rfl, _⟩ := nu1 hl; exact ⟨d, rfl, rfl⟩
 · obtain ⟨rfl, _⟩ := nu1 hl; rw [hf] at ho; cases ho
end
section
variable {P : Program} {Θ : Tab} {s : St} {ty : TypeId} {pos : String} {after : Array Edge} {g : Option (Nat × Bool)}
end
section
variable {s : St} {Θ : Tab}
end
section
variable {P : Program} {Θ : Tab} {s : St} {ty : TypeId} {pos : String} {after : Array Edge} {g : Option (Nat × Bool)}
end
theorem aKE {ps : List ByteArray} {k : Nat} (h : k < ps.length) (hp : ¬ ps[k].size = 0) : (ps.take k).filter neB ++ [ps[k]] = (ps.take (k + 1)).filter neB := by
 rw [List.take_succ_eq_append_getElem h, List.filter_append, List.filter_cons_of_pos (aFn hp)]; rfl
theorem aKD {ps : List ByteArray} {k : Nat} (h : k < ps.length) (hp : ps[k].size = 0) : (ps.take (k + 1)).filter neB = (ps.take k).filter neB := by
 rw [List.take_succ_eq_append_getElem h, List.filter_append, List.filter_cons_of_neg (by rw [aHp hp]; decide), List.filter_nil, List.append_nil]
theorem aIr {p : ByteArray} (h : p.size = 0) : p = ⟨#[]⟩ := by
 obtain ⟨a⟩ := p
 have : a = #[] := Array.eq_empty_of_size_eq_zero h
 rw [this]
theorem aIs {p : ByteArray} (h : ¬ p.size = 0) : ¬ p = ⟨#[]⟩ := fun e => h (by rw [e]; rfl)
attribute [local irreducible] xJ xN xQ yQ yU Pre ACG
theorem jX {ps : List ByteArray} (hm : ps.length ≤ 4096) (hk : ∀ p ∈ ps, p.size ≤ 1000000) : AC Tryd.prog 94 [.lst 1 (ps.map yN)] ⟨.v (.string (kD ps)), []⟩ := by
 have hfl := List.length_filter_le neB ps
 have hj := aCJ (sep := ⟨#[32]⟩) (xs := ps.filter neB) (by omega) (by
  have h1 := qW hk
  have h2 : ps.length * (1 + 1000000) ≤ 4096 * (1 + 1000000) := Nat.mul_le_mul_right _ hm
  unfold kD jl at h1; omega)
 unfold kD jl
 generalize jn ⟨#[32]⟩ (fun i => ((ps.filter neB)[i]?).getD ⟨#[]⟩) (ps.filter neB).length = R at *
 refine qrf Tryd.func94 Tryd.ntmps94 Tryd.results94 ?_; conv => whnf
 repeat ((refine qz ?_; conv => whnf))
 refine vI (ι := { k : Nat // k ≤ ps.length }) (fun k => ⟨[(3, .own 4), (6, .lst 1 (ps.map yN)), (7, .v (.int .i64 (ps.length : Int))), (8, .v (.int .i64 (k.1 : Int)))], [(4, ⟨9, 1, ((ps.take k.1).filter neB).map yN⟩)]⟩) (fun k => ps.length - k.1) ⟨0, Nat.zero_le _⟩ (by exact qle) ?_
 rintro ⟨k, hk'⟩
 dsimp only
 conv => whnf
 by_cases hlt : k < ps.length
 · have hle := List.length_filter_le neB (ps.take k)
   rw [List.length_take] at hle
   by_cases hp : ps[k].size = 0
   · have he := aIr hp
     repeat ((first | refine qp (xA (y9 he) rfl rfl rfl) ?_ | refine qz ?_ | refine qst ?_); conv => whnf)
     exact ⟨⟨k + 1, hlt⟩, ⟨⟨(show some (OB.mk _ _ (List.map yN ((ps.take k).filter neB))) = some (OB.mk _ _ (List.map yN ((ps.take (k + 1)).filter neB))) by rw [aKD hlt hp]), trivial⟩, .inl ⟨rfl, rfl⟩, .inl ⟨rfl, rfl⟩, .inl ⟨rfl, rfl⟩, .inl ⟨rfl, rfl⟩, trivial⟩, by simp; omega⟩
   · have he := aIs hp
     repeat ((first | refine qp (xA (zC he) rfl rfl rfl) ?_ | refine qz ?_ | refine qst ?_ | refine qr (aI2 _ _ (aKE hlt hp) (by omega) rfl rfl rfl rfl rfl rfl rfl) ?_); conv => whnf)
     exact ⟨⟨k + 1, hlt⟩, by exact qle, by simp; omega⟩
 · have hkk : k = ps.length := by omega
   subst hkk
   rw [List.take_length]
   repeat ((first | refine qz ?_ | refine qc (hj) ?_); conv => whnf)
   exact xB rfl trivial
theorem aFZ {n : Int} (h0 : -1000000000000 ≤ n) (h1 : n ≤ 1000000000000) : AC Tryd.prog 121 [.v (.int .i64 n)] ⟨.v (.string (uzT n)), []⟩ := by
 have c1 := qA h0 h1
 unfold uzT
 by_cases h : n = 0
 · rw [if_pos h]
   refine qrf Tryd.func121 Tryd.ntmps121 Tryd.results121 ?_; conv => whnf
   repeat ((refine qz ?_; conv => whnf))
   exact xB rfl trivial
 · rw [if_neg h]
   refine qrf Tryd.func121 Tryd.ntmps121 Tryd.results121 ?_; conv => whnf
   repeat ((first | refine qz ?_ | refine qc (c1) ?_); conv => whnf)
   exact xB rfl trivial
theorem aAS {l t : ByteArray} (h0 : l.size ≤ 1000) (h1 : t.size ≤ 100000) : AC Tryd.prog 120 [.v (.string l), .v (.string t)] ⟨.v (.string (za l t)), []⟩ := by
 unfold za
 by_cases h : t.size = 0
 · rw [if_pos h]
   have he := aIr h
   refine qrf Tryd.func120 Tryd.ntmps120 Tryd.results120 ?_; conv => whnf
   repeat ((first | refine qp (xA (yt he) rfl rfl rfl) ?_ | refine qz ?_); conv => whnf)
   exact xB rfl trivial
 · rw [if_neg h]
   have he := aIs h
   have c1 := jX (ps := [l, t]) (by simp) (by intro p hp; simp only [List.mem_cons, List.not_mem_nil, or_false] at hp; rcases hp with rfl | rfl <;> omega)
   refine qrf Tryd.func120 Tryd.ntmps120 Tryd.results120 ?_; conv => whnf
   repeat (first | (refine qp (xA (yR he) rfl rfl rfl) ?_; conv => whnf) | (refine qz ?_; conv => whnf) | (refine qr (aGg [.tmp 7, .tmp 8] [.string l, .string t] rfl rfl rfl rfl rfl rfl rfl (by intro c hc; simp only [List.mem_cons, List.not_mem_nil, or_false] at hc; rcases hc with rfl | rfl <;> rfl)) ?_; conv => whnf) | (refine qc (c1) ?_; conv => whnf))
   exact xB rfl trivial
end Go.Proofs.YtodckioppgjbdaaDoor.AM
namespace Go.Proofs.YtodckioppgjbdaaDoor.AM
open Go Go.RowKit
def nAt : List ByteArray → Nat → Int
 | [], _ => -1
 | x :: l, k => if okN x = false then (k : Int) else nAt l (k + 1)
theorem aH5 {l : List ByteArray} {k : Nat} (h : k < l.length) : nAt (l.drop k) k = if okN l[k] = false then (k : Int) else nAt (l.drop (k + 1)) (k + 1) := by
 rw [List.drop_eq_getElem_cons h, nAt]
theorem aFB : ∀ (l : List ByteArray) (k : Nat), decide (0 ≤ nAt l k) = !l.all okN
 | [], k => rfl
 | x :: l, k => by
  rw [nAt, List.all_cons]
  cases h : okN x with
  | false => rw [if_pos rfl, Bool.false_and, decide_eq_true (by omega)]; rfl
  | true => rw [if_neg (by decide), Bool.true_and]; exact aFB l (k + 1)
theorem aG9 : ∀ (l : List ByteArray) (k : Nat), -1 ≤ nAt l k ∧ nAt l k ≤ k + l.length
 | [], k => by simp [nAt]
 | x :: l, k => by
  have := aG9 l (k + 1)
  rw [nAt, List.length_cons]
  split <;> omega
theorem aEA {x : ByteArray} (h : okN x = true) : 0 < x.size := by
 unfold okN Nm.nameOK at h
 have e : x.size = x.data.toList.length := by rw [Array.length_toList]; rfl
 rw [e]
 split at h
 · cases h
 · rename_i c cs hc
   rw [hc]; simp
theorem aGQ (n : Nat) : 0 < (jI n).size := by
 show 0 < (jJ n).length
 by_cases h : n < 10
 · rw [aB9 h]; simp
 · rw [aDb h]; simp
theorem aA4 {n : Int} : 0 < (y5 n).size := by
 unfold y5
 split
 · rw [ByteArray.size_append, kT]; omega
 · exact aGQ _
theorem aFb {sep : ByteArray} {g : Nat → ByteArray} (h0 : 0 < (g 0).size) : ∀ {n : Nat}, 0 < n → 0 < (jn sep g n).size
 | 0, h => by omega
 | i + 1, _ => by
  rw [jn, ByteArray.size_append]
  by_cases hi : i = 0
  · subst hi; omega
  · rw [if_neg hi, ByteArray.size_append]
    have := aFb (sep := sep) h0 (n := i) (by omega)
    omega
theorem aHZ {l : List ByteArray} (h : l.all okN = true) (h0 : 0 < l.length) : ¬ (uG l).size = 0 := by
 have h1 : okN l[0] = true := List.all_eq_true.1 h _ (List.getElem_mem h0)
 have h2 := aEA h1
 have h3 : 0 < (uG l).size := aFb (by rw [List.getElem?_eq_getElem h0]; exact h2) h0
 omega
theorem aI0 {m : List Ent} (h : yS m = true) (h0 : 0 < m.length) : ¬ (qo m).size = 0 := by
 unfold qo
 rw [if_neg (by omega)]
 have h3 : 0 < (jn ⟨#[44]⟩ (fun i => zQ ((m[i]?).getD zEn)) m.length).size := aFb (by
  rw [List.getElem?_eq_getElem h0]
  unfold zQ
  rw [ByteArray.size_append, ByteArray.size_append]
  have := aA4 (n := (m[0]).2)
  show 0 < (m[0]).1.size + _ + (y5 (m[0]).2).size
  omega) h0
 omega
theorem qV {a l t : ByteArray} {ps : List ByteArray} (hl : ¬ l.size = 0) : spA a (za l t :: ps) = spA (if t.size = 0 then a else a ++ (((⟨#[32]⟩ ++ l) ++ ⟨#[32]⟩) ++ t)) ps := by
 unfold za
 by_cases ht : t.size = 0
 · rw [if_pos ht, if_pos ht, aGA rfl]
 · rw [if_neg ht, if_neg ht, aBz hl, wM ht, kC, wM (by simp only [ByteArray.size_append]; omega)]
   simp only [qd]
theorem aBA {n : Int} : (uzT n).size = 0 ↔ n = 0 := by
 unfold uzT
 by_cases h : n = 0
 · rw [if_pos h]; exact ⟨fun _ => h, fun _ => rfl⟩
 · rw [if_neg h]
   have := aA4 (n := n)
   exact ⟨fun e => by omega, fun e => absurd e h⟩
theorem aGC {n : Int} (h : ¬ n = 0) : uzT n = y5 n := by unfold uzT; rw [if_neg h]
theorem aHP : ((⟨#[32]⟩ ++ ⟨#[99, 111, 109, 109, 105, 116]⟩) ++ ⟨#[32]⟩ : ByteArray) = ⟨#[32, 99, 111, 109, 109, 105, 116, 32]⟩ := ByteArray.ext (by simp [ByteArray.data_append])
theorem aIN : ((⟨#[32]⟩ ++ ⟨#[118, 97, 108, 117, 101]⟩) ++ ⟨#[32]⟩ : ByteArray) = ⟨#[32, 118, 97, 108, 117, 101, 32]⟩ := ByteArray.ext (by simp [ByteArray.data_append])
theorem aIx : ((⟨#[32]⟩ ++ ⟨#[107, 101, 121, 115]⟩) ++ ⟨#[32]⟩ : ByteArray) = ⟨#[32, 107, 101, 121, 115, 32]⟩ := ByteArray.ext (by simp [ByteArray.data_append])
theorem aJx : ((⟨#[32]⟩ ++ ⟨#[109, 97, 112]⟩) ++ ⟨#[32]⟩ : ByteArray) = ⟨#[32, 109, 97, 112, 32]⟩ := ByteArray.ext (by simp [ByteArray.data_append])
def mjT (m : List Ent) : ByteArray := jn ⟨#[44]⟩ (fun i => zQ ((m[i]?).getD zEn)) m.length
theorem aJD {r : Rst} (h : RsS r) : vQ r.code = cwT r.code ∧ ¬ (cwT r.code).size = 0 := by
 obtain ⟨n, hn, hc⟩ := h.c
 have e : vQ r.code = cwT r.code := by
  rw [hc, aDO hn]
  unfold cwT
  rw [Int.toNat_natCast, List.getElem?_eq_getElem (show n < uW.length from hn)]; rfl
 refine ⟨e, ?_⟩
 rw [← e, hc, aDO hn]
 exact aHl _ (List.getElem_mem _)
theorem aJk {r : Rst} (h : rsB r = true) : kD [vQ r.code, za ⟨#[99, 111, 109, 109, 105, 116]⟩ (uzT r.com), za ⟨#[118, 97, 108, 117, 101]⟩ (uzT r.val), za ⟨#[107, 101, 121, 115]⟩ (uG r.keys), za ⟨#[109, 97, 112]⟩ (mjT r.map)] = kY r := by
 have hs := aDT h
 have hmap : yS r.map = true := by
  unfold rsB at h
  simp only [Bool.and_eq_true] at h
  exact h.2.2.2.2.1
 obtain ⟨e1, e2⟩ := aJD hs
 rw [e1, aBz e2, qV (by decide), qV (by decide), qV (by decide), qV (by decide), kC, aHP, aIN, aIx, aJx]
 have h1 : (if (uzT r.com).size = 0 then cwT r.code else cwT r.code ++ (⟨#[32, 99, 111, 109, 109, 105, 116, 32]⟩ ++ uzT r.com)) = rT1 r := by
  unfold rT1
  have := hs.m0
  by_cases h0 : r.com = 0
  · rw [if_pos (aBA.2 h0), if_neg (by omega)]
  · rw [if_neg (fun e => h0 (aBA.1 e)), if_pos (by omega), aGC h0]
 rw [h1]
 have h2 : (if (uzT r.val).size = 0 then rT1 r else rT1 r ++ (⟨#[32, 118, 97, 108, 117, 101, 32]⟩ ++ uzT r.val)) = rT2 r := by
  unfold rT2
  by_cases h0 : r.val = 0
  · rw [if_pos (aBA.2 h0), if_pos h0]
  · rw [if_neg (fun e => h0 (aBA.1 e)), if_neg h0, aGC h0]
 rw [h2]
 have h3 : (if (uG r.keys).size = 0 then rT2 r else rT2 r ++ (⟨#[32, 107, 101, 121, 115, 32]⟩ ++ uG r.keys)) = rT3 r := by
  unfold rT3
  by_cases h0 : 0 < r.keys.length
  · rw [if_neg (aHZ hs.kk h0), if_pos h0]
  · obtain e := List.eq_nil_of_length_eq_zero (by omega : r.keys.length = 0)
    rw [if_pos (by rw [e]; rfl), if_neg h0]
 rw [h3]
 unfold kY
 by_cases h0 : 0 < r.map.length
 · have e : mjT r.map = qo r.map := by unfold mjT qo; rw [if_neg (by omega)]
   rw [e, if_neg (aI0 hmap h0), if_pos h0]
 · obtain e := List.eq_nil_of_length_eq_zero (by omega : r.map.length = 0)
   rw [if_pos (by rw [e]; rfl), if_neg h0]
attribute [local irreducible] xJ xN xQ yQ yU Pre ACG
theorem aII {s : ByteArray} (h : s.size ≤ maxLen) : AC Tryd.prog 117 [.v (.string s)] ⟨.v (.bool (!okN s)), []⟩ := by
 have c1 := xM (b := okN s) h rfl
 cases hb : okN s with
 | false =>
  rw [hb] at c1
  refine qrf Tryd.func117 Tryd.ntmps117 Tryd.results117 ?_; conv => whnf
  repeat ((first | refine qz ?_ | refine qc (c1) ?_); conv => whnf)
  exact xB rfl trivial
 | true =>
  rw [hb] at c1
  refine qrf Tryd.func117 Tryd.ntmps117 Tryd.results117 ?_; conv => whnf
  repeat ((first | refine qz ?_ | refine qc (c1) ?_); conv => whnf)
  exact xB rfl trivial
theorem aE2 {l : List ByteArray} (hm : l.length ≤ maxLen) (hk : ∀ s ∈ l, s.size ≤ maxLen) : AC Tryd.prog 147 [.lst 1 (l.map yN), .fn 117 [] []] ⟨.v (.int .i64 (nAt l 0)), []⟩ := by
 unfold maxLen at hm
 refine qrf Tryd.func147 Tryd.ntmps147 Tryd.results147 ?_; conv => whnf
 repeat ((refine qz ?_; conv => whnf))
 refine vI (ι := { k : Nat // k ≤ l.length ∧ nAt (l.drop k) k = nAt l 0 }) (fun k => ⟨[(0, .lst 1 (l.map yN)), (1, .fn 117 [] []), (7, .v (.int .i64 (l.length : Int))), (8, .v (.int .i64 (k.1 : Int)))], []⟩) (fun k => l.length - k.1) ⟨0, Nat.zero_le _, rfl⟩ (by exact qle) ?_
 rintro ⟨k, hk', hd⟩
 dsimp only at hk' hd ⊢
 conv => whnf
 by_cases hlt : k < l.length
 · rw [aH5 hlt] at hd
   have hq := aII (hk _ (List.getElem_mem hlt))
   cases he : okN l[k] with
   | false =>
    rw [he, if_pos rfl] at hd
    rw [he] at hq
    rw [← hd]
    repeat ((first | refine qz ?_ | refine qr (aC0 hq rfl rfl (.inl rfl) trivial rfl rfl) ?_); conv => whnf)
    exact xB rfl trivial
   | true =>
    rw [he, if_neg (by simp)] at hd
    rw [he] at hq
    repeat ((first | refine qz ?_ | refine qr (aC0 hq rfl rfl (.inl rfl) trivial rfl rfl) ?_); conv => whnf)
    exact ⟨⟨k + 1, hlt, hd⟩, by exact qle, by simp; omega⟩
 · rw [← hd, List.drop_eq_nil_of_le (by omega)]
   repeat ((refine qz ?_; conv => whnf))
   exact xB rfl trivial
theorem aCG {l : List ByteArray} (hm : l.length ≤ maxLen) (hk : ∀ s ∈ l, s.size ≤ maxLen) : AC Tryd.prog 116 [.lst 1 (l.map yN), .fn 117 [] []] ⟨.v (.bool (!l.all okN)), []⟩ := by
 have c1 := aE2 hm hk
 rw [← aFB l 0]
 have h1 := aG9 l 0
 unfold maxLen at hm
 generalize nAt l 0 = n at c1 h1
 by_cases h0 : 0 ≤ n
 · rw [decide_eq_true h0]
   refine qrf Tryd.func116 Tryd.ntmps116 Tryd.results116 ?_; conv => whnf
   repeat ((first | refine qz ?_ | refine qc (c1) ?_); conv => whnf)
   exact xB rfl trivial
 · rw [decide_eq_false h0]
   refine qrf Tryd.func116 Tryd.ntmps116 Tryd.results116 ?_; conv => whnf
   repeat ((first | refine qz ?_ | refine qc (c1) ?_); conv => whnf)
   exact xB rfl trivial
theorem aI9 {r : Rst} : rsB r = (aEI r 60 && r.keys.all okN) := by
 unfold rsB aEI
 have h1 : decide (0 ≤ r.code ∧ r.code ≤ 18) = decide (0 ≤ r.code ∧ r.code < 19) := by
  by_cases h : 0 ≤ r.code ∧ r.code ≤ 18
  · rw [decide_eq_true h, decide_eq_true (by omega)]
  · rw [decide_eq_false h, decide_eq_false (by omega)]
 rw [h1]
 simp only [Bool.and_assoc]; rfl
theorem aDY {r : Rst} (hr : r.ok maxLen) : AC Tryd.prog 73 [vK r] ⟨.v (.bool (rsB r)), []⟩ := by
 have c1 := aE3 (n := 60) hr
 have c2 := aCG hr.1 hr.2.1
 rw [aI9]
 cases h1 : aEI r 60 with
 | false =>
  rw [h1] at c1
  rw [Bool.false_and]
  refine qrf Tryd.func73 Tryd.ntmps73 Tryd.results73 ?_; conv => whnf
  repeat ((first | refine qz ?_ | refine qc (c1) ?_); conv => whnf)
  exact xB rfl trivial
 | true =>
  rw [h1] at c1
  rw [Bool.true_and]
  cases h2 : r.keys.all okN with
  | false =>
   rw [h2] at c2
   refine qrf Tryd.func73 Tryd.ntmps73 Tryd.results73 ?_; conv => whnf
   repeat ((first | refine qz ?_ | refine qc (c1) ?_ | refine qc (c2) ?_); conv => whnf)
   exact xB rfl trivial
  | true =>
   rw [h2] at c2
   refine qrf Tryd.func73 Tryd.ntmps73 Tryd.results73 ?_; conv => whnf
   repeat ((first | refine qz ?_ | refine qc (c1) ?_ | refine qc (c2) ?_); conv => whnf)
   exact xB rfl trivial
theorem aCI {r : Rst} (h : rsB r = true) : AC Tryd.prog 74 [vK r] ⟨.v (.string (kY r)), []⟩ := by
 have hs := aDT h
 have e := aJk h
 obtain ⟨q1, _⟩ := aJD hs
 have m0 := hs.m0
 have m1 := hs.m1
 have v0 := hs.v0
 have v1 := hs.v1
 have z3 := aBT hs.kk
 have z4 : (mjT r.map).size ≤ r.map.length * (1 + 27) := j5 (by rw [kT]; omega) fun i hi => by
  rw [List.getElem?_eq_getElem hi]
  obtain ⟨p1, p2, p3⟩ := hs.me _ (List.getElem_mem hi)
  exact aAn p1 p2 p3
 have hml := hs.ml
 have hkl := hs.kl
 have z1 : (uzT r.com).size ≤ 14 := by
  unfold uzT; split
  · show 0 ≤ 14; omega
  · exact yc (by omega) (by omega)
 have z2 : (uzT r.val).size ≤ 14 := by
  unfold uzT; split
  · show 0 ≤ 14; omega
  · exact yc (by omega) (by omega)
 have z0 : (vQ r.code).size ≤ 8 := by
  obtain ⟨n, hn, hc⟩ := hs.c
  rw [q1, hc]; exact aD8 hn
 have lsz : ∀ (l t : ByteArray), l.size ≤ 10 → t.size ≤ 1000 → (za l t).size ≤ 2100 := fun l t h1 h2 => by
  unfold za; split
  · show 0 ≤ 2100; omega
  · have := qW (ps := [l, t]) (B := 1000) (by intro p hp; simp only [List.mem_cons, List.not_mem_nil, or_false] at hp; rcases hp with rfl | rfl <;> omega)
    simp only [List.length_cons, List.length_nil] at this; omega
 have c0 := aBE (x := r.code)
 have c1 := aFZ (n := r.com) (by omega) (by omega)
 have c2 := aAS (l := ⟨#[99, 111, 109, 109, 105, 116]⟩) (t := uzT r.com) (by decide) (by omega)
 have c3 := aFZ (n := r.val) (by omega) (by omega)
 have c4 := aAS (l := ⟨#[118, 97, 108, 117, 101]⟩) (t := uzT r.val) (by decide) (by omega)
 have c5 := aCJ (sep := ⟨#[44]⟩) (xs := r.keys) (by omega) (by show (uG r.keys).size ≤ _; omega)
 have c6 := aAS (l := ⟨#[107, 101, 121, 115]⟩) (t := uG r.keys) (by decide) (by omega)
 have c7 := aCK (es := r.map) (by omega) hs.me
 have c8 := aAS (l := ⟨#[109, 97, 112]⟩) (t := mjT r.map) (by decide) (by omega)
 have l1 := lsz ⟨#[99, 111, 109, 109, 105, 116]⟩ (uzT r.com) (by decide) (by omega)
 have l2 := lsz ⟨#[118, 97, 108, 117, 101]⟩ (uzT r.val) (by decide) (by omega)
 have l3 := lsz ⟨#[107, 101, 121, 115]⟩ (uG r.keys) (by decide) (by omega)
 have l4 := lsz ⟨#[109, 97, 112]⟩ (mjT r.map) (by decide) (by omega)
 have c9 := jX (ps := [vQ r.code, za ⟨#[99, 111, 109, 109, 105, 116]⟩ (uzT r.com), za ⟨#[118, 97, 108, 117, 101]⟩ (uzT r.val), za ⟨#[107, 101, 121, 115]⟩ (uG r.keys), za ⟨#[109, 97, 112]⟩ (mjT r.map)]) (by simp) (by
  intro p hp
  simp only [List.mem_cons, List.not_mem_nil, or_false] at hp
  rcases hp with rfl | rfl | rfl | rfl | rfl <;> omega)
 rw [e] at c9
 change AC _ _ _ ⟨.v (.string (mjT r.map)), []⟩ at c7
 change AC _ _ _ ⟨.v (.string (uG r.keys)), []⟩ at c5
 generalize za ⟨#[99, 111, 109, 109, 105, 116]⟩ (uzT r.com) = L1 at *
 generalize za ⟨#[118, 97, 108, 117, 101]⟩ (uzT r.val) = L2 at *
 generalize za ⟨#[107, 101, 121, 115]⟩ (uG r.keys) = L3 at *
 generalize za ⟨#[109, 97, 112]⟩ (mjT r.map) = L4 at *
 generalize kY r = R at *
 generalize vQ r.code = L0 at *
 generalize uzT r.com = U1 at *
 generalize uzT r.val = U2 at *
 generalize uG r.keys = U3 at *
 generalize mjT r.map = U4 at *
 refine qrf Tryd.func74 Tryd.ntmps74 Tryd.results74 ?_; conv => whnf
 refine .inr ⟨by kernel_rfl, wo (by kernel_rfl), ?_⟩
 repeat (first
  | refine yP (jS rfl rfl rfl) rfl rfl rfl (.inl rfl) (by kernel_rfl) ?_
  | refine yP (kK rfl rfl rfl rfl rfl rfl rfl) rfl rfl rfl (.inr rfl) (by kernel_rfl) ?_
  | refine xk (y7 c0 rfl rfl rfl trivial rfl rfl rfl) yx rfl rfl (by kernel_rfl) ?_
  | refine xk (y7 c1 rfl rfl rfl trivial rfl rfl rfl) yx rfl rfl (by kernel_rfl) ?_
  | refine xk (y7 c2 rfl rfl rfl trivial rfl rfl rfl) yx rfl rfl (by kernel_rfl) ?_
  | refine xk (y7 c3 rfl rfl rfl trivial rfl rfl rfl) yx rfl rfl (by kernel_rfl) ?_
  | refine xk (y7 c4 rfl rfl rfl trivial rfl rfl rfl) yx rfl rfl (by kernel_rfl) ?_
  | refine xk (y7 c5 rfl rfl rfl trivial rfl rfl rfl) yx rfl rfl (by kernel_rfl) ?_
  | refine xk (y7 c6 rfl rfl rfl trivial rfl rfl rfl) yx rfl rfl (by kernel_rfl) ?_
  | refine xk (y7 c7 rfl rfl rfl trivial rfl rfl rfl) yx rfl rfl (by kernel_rfl) ?_
  | refine xk (y7 c8 rfl rfl rfl trivial rfl rfl rfl) yx rfl rfl (by kernel_rfl) ?_
  | refine xk (aBY [.tmp 5, .tmp 9, .tmp 13, .tmp 17, .tmp 21] [.string L0, .string L1, .string L2, .string L3, .string L4] rfl rfl rfl rfl rfl rfl rfl (by intro c hc; simp only [List.mem_cons, List.not_mem_nil, or_false] at hc; rcases hc with rfl | rfl | rfl | rfl | rfl <;> rfl)) aDP rfl rfl (by kernel_rfl) ?_
  | refine xk (aAf c9 rfl ⟨by simp [yB, yg], qG⟩ trivial rfl rfl rfl) yx rfl rfl (by kernel_rfl) ?_
  | refine xk (jE rfl) wH rfl rfl (by kernel_rfl) ?_)
 refine qJ ?_
 conv => whnf
 repeat ((refine qz ?_; conv => whnf))
 exact xB rfl trivial
end Go.Proofs.YtodckioppgjbdaaDoor.AM
