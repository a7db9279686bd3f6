/- Texts of the machine over data, folded. -/
import Derived.Test.YtkfllfhcjegfoaaGreatDoorKq20
import Derived.Test.YtkfllfhcjegfoaaGreatDoorKq6
import Derived.Test.YtkfllfhcjegfoaaGreatDoorKq19
import Derived.Test.YtkfllfhcjegfoaaGreatDoorKq14
import Derived.Test.YtkfllfhcjegfoaaGreatDoorKq12
import Derived.Test.YtkfllfhcjegfoaaGreatDoorKq10
import Derived.Test.YtkfllfhcjegfoaaGreatDoorKq16
import Derived.Test.YtkfllfhcjegfoaaGreatDoorKq11
import Derived.Conc.LoneCalls
import Derived.Conc.LoneSelect
import Derived.Test.YtkfllfhcjegfoaaGreatDoorKq15
set_option linter.unusedVariables false
set_option linter.unusedSimpArgs false
set_option maxRecDepth 100000
namespace Go.Proofs.YtkfllfhcjegfoaaGreatDoor.AM
open Go Go.RowKit
attribute [local irreducible] xM xN xW yF yL Pre ACG
end Go.Proofs.YtkfllfhcjegfoaaGreatDoor.AM
namespace Go.Proofs.YtkfllfhcjegfoaaGreatDoor.AM
open Go Go.RowKit
abbrev aAm : AV := .v (.slice none 0 0)
def aCc (ws : List Wsh) : Bool := ws.all yC
theorem aKd {ws : List Wsh} {k : Nat} (h : k < ws.length) (hb : yC ws[k] = false) : aCc ws = false := by
 unfold aCc
 rw [List.all_eq_false]
 exact ⟨_, List.getElem_mem h, by simp [hb]⟩
theorem aMO {ws : List Wsh} (h : ∀ j (hj : j < ws.length), yC ws[j] = true) : aCc ws = true := by
 unfold aCc
 rw [List.all_eq_true]
 intro x hx
 obtain ⟨j, hj, rfl⟩ := List.getElem_of_mem hx
 exact h j hj
section
variable {s : St} {Θ : Tab}
end
attribute [local irreducible] xM xN xW yF yL Pre ACG
theorem aJ1 {ws : List Wsh} (hm : ws.length ≤ maxLen) (hc : ∀ c ∈ ws, c.ok maxLen) : AC Tryz.prog 111 [.lst 5 (ws.map wshA)] ⟨.v (.bool (aCc ws)), []⟩ := by
 unfold maxLen at hm
 refine qrf Tryz.func111 Tryz.ntmps111 Tryz.results111 ?_; conv => whnf
 repeat ((refine qz ?_; conv => whnf))
 refine xX (ι := { k : Nat // k ≤ ws.length ∧ ∀ j (hj : j < ws.length), j < k → yC ws[j] = true }) (fun k => ⟨[(5, .lst 5 (ws.map wshA)), (6, .v (.int .i64 (ws.length : Int))), (7, .v (.int .i64 (k.1 : Int)))], []⟩) (fun k => ws.length - k.1) ⟨0, Nat.zero_le _, fun j _ h => by omega⟩ (by exact qle) ?_
 rintro ⟨k, hk, hall⟩
 dsimp only
 conv => whnf
 by_cases hlt : k < ws.length
 · have h1 := aLO (hc _ (List.getElem_mem hlt))
   cases hb : yC ws[k] with
   | false =>
    rw [hb] at h1
    rw [aKd hlt hb]
    repeat ((first | refine qz ?_ | refine qc (h1) ?_ | refine qst ?_ | refine qdr ?_); conv => whnf)
    exact xA rfl trivial
   | true =>
    rw [hb] at h1
    repeat ((first | refine qz ?_ | refine qc (h1) ?_ | refine qst ?_ | refine qdr ?_); conv => whnf)
    exact ⟨⟨k + 1, hlt, fun j hj h => by
     rcases Nat.lt_succ_iff_lt_or_eq.1 h with h | h
     · exact hall j hj h
     · subst h; exact hb⟩, by exact qle, by simp; omega⟩
 · rw [aMO (fun j hj => hall j hj (by omega))]
   repeat ((refine qz ?_; conv => whnf))
   exact xA rfl trivial
theorem aIh {ws : List Wsh} (hm : ws.length ≤ 6) (hc : ∀ c ∈ ws, c.ok maxLen) : AC Tryz.prog 62 [.lst 5 (ws.map wshA)] ⟨.v (.bool (aCc ws)), []⟩ := by
 refine qrf Tryz.func62 Tryz.ntmps62 Tryz.results62 ?_; conv => whnf
 repeat ((refine qz ?_; conv => whnf))
 refine xX (ι := { k : Nat // k ≤ ws.length ∧ ∀ j (hj : j < ws.length), j < k → yC ws[j] = true }) (fun k => ⟨[(0, .lst 5 (ws.map wshA)), (3, .v (.int .i64 (k.1 : Int)))], []⟩) (fun k => ws.length - k.1) ⟨0, Nat.zero_le _, fun j _ h => by omega⟩ (by exact qle) ?_
 rintro ⟨k, hk, hall⟩
 dsimp only
 conv => whnf
 by_cases hlt : k < ws.length
 · have h1 := aKt (hc _ (List.getElem_mem hlt))
   cases hb : yC ws[k] with
   | false =>
    rw [hb] at h1
    rw [aKd hlt hb]
    repeat ((first | refine qz ?_ | refine qc (h1) ?_ | refine qst ?_ | refine qdr ?_); conv => whnf)
    exact xA rfl trivial
   | true =>
    rw [hb] at h1
    repeat ((first | refine qz ?_ | refine qc (h1) ?_ | refine qst ?_ | refine qdr ?_); conv => whnf)
    exact ⟨⟨k + 1, hlt, fun j hj h => by
     rcases Nat.lt_succ_iff_lt_or_eq.1 h with h | h
     · exact hall j hj h
     · subst h; exact hb⟩, by exact qle, by simp; omega⟩
 · rw [aMO (fun j hj => hall j hj (by omega))]
   repeat ((refine qz ?_; conv => whnf))
   exact xA rfl trivial
end Go.Proofs.YtkfllfhcjegfoaaGreatDoor.AM
namespace Go.Proofs.YtkfllfhcjegfoaaGreatDoor.AM
open Go Go.RowKit
instance : DecidableEq Rf := fun a b => decidable_of_iff _ aPp.symm
def aDV (n : Nat) (l : List Rf) : Bool := l.all fun r => decide (r.head ≤ n)
noncomputable def aBR (b : Bas) : Bool := yx b.store && (aA4 b.refs && aDV b.store.length b.refs)
theorem aGz {n : Nat} {l : List Rf} {k : Nat} (h : k < l.length) : aDV n (l.drop k) = (decide (l[k].head ≤ n) && aDV n (l.drop (k + 1))) := by
 unfold aDV; rw [List.drop_eq_getElem_cons h, List.all_cons]
structure Bas.ok (b : Bas) (N : Nat) : Prop where
 sm : b.store.length ≤ N
 sc : wF N b.store
 rm : b.refs.length ≤ N
 rk : aRa N b.refs
def szB (b : Bas) (l : Int) : Int := if kL b.store l < 0 then -1 else if szL rSz b.refs (kL b.store l) < 0 then -1 else szL rSz b.refs (kL b.store l)
attribute [local irreducible] xM xN xW yF yL Pre ACG
theorem aNB {b : Bas} {l : Int} (hb : b.ok maxLen) (h0 : 0 ≤ l) (h1 : l ≤ 1048576) : AC Tryz.prog 9 [uh b, .v (.int .i64 l)] ⟨.v (.int .i64 (szB b l)), []⟩ := by
 have z1 := aIt hb.sm hb.sc h0 h1
 unfold szB
 by_cases ha : kL b.store l < 0
 · rw [if_pos ha]
   refine qrf Tryz.func9 Tryz.ntmps9 Tryz.results9 ?_; conv => whnf
   repeat ((first | refine qz ?_ | refine qc (z1) ?_ | refine qst ?_); conv => whnf)
   exact xA rfl trivial
 rw [if_neg ha]
 obtain ⟨z0, _, _⟩ := aGZ (by omega : 0 ≤ kL b.store l) h1
 have z2 := aNr (l := kL b.store l) hb.rm hb.rk (by omega) (by omega)
 by_cases hn : szL rSz b.refs (kL b.store l) < 0
 · rw [if_pos hn]
   refine qrf Tryz.func9 Tryz.ntmps9 Tryz.results9 ?_; conv => whnf
   repeat ((first | refine qz ?_ | refine qc (z1) ?_ | refine qc (z2) ?_ | refine qst ?_); conv => whnf)
   exact xA rfl trivial
 · rw [if_neg hn]
   refine qrf Tryz.func9 Tryz.ntmps9 Tryz.results9 ?_; conv => whnf
   repeat ((first | refine qz ?_ | refine qc (z1) ?_ | refine qc (z2) ?_ | refine qst ?_); conv => whnf)
   exact xA rfl trivial
theorem aMt {b : Bas} {l : Int} (h : 0 ≤ szB b l) (h1 : l ≤ 1048576) : szB b l ≤ 1048576 ∧ b.store.length ≤ 1048576 ∧ wF 1048576 b.store ∧ b.refs.length ≤ 1048576 := by
 unfold szB at h ⊢
 by_cases ha : kL b.store l < 0
 · rw [if_pos ha] at h; omega
 rw [if_neg ha] at h ⊢
 obtain ⟨z0, z1, z2⟩ := aGZ (by omega : 0 ≤ kL b.store l) h1
 by_cases hn : szL rSz b.refs (kL b.store l) < 0
 · rw [if_pos hn] at h; omega
 rw [if_neg hn] at h ⊢
 obtain ⟨k1, k2, _⟩ := aAa h
 exact ⟨by omega, z1, z2, by omega⟩
theorem aNM {b : Bas} (hm : b.store.length ≤ 1048576) (hc : wF 1048576 b.store) (hr : b.refs.length ≤ 1048576) : AC Tryz.prog 15 [uh b] ⟨uh b, []⟩ := by
 have h1 := aH2 hm (fun c h => ⟨(hc c h).1, (hc c h).2.1⟩)
 have h2 := aM3 hr
 refine qrf Tryz.func15 Tryz.ntmps15 Tryz.results15 ?_; conv => whnf
 repeat (first | (refine qz ?_; conv => whnf) | (refine qf (h1) ?_; conv => whnf) | (refine qf (h2) ?_; conv => whnf) | (refine qr (wQ rfl rfl rfl rfl rfl rfl rfl rfl) ?_; conv => whnf) | (refine qr (xS rfl rfl rfl rfl rfl (by conv => lhs; whnf) rfl) ?_; conv => whnf))
 exact uX (x := uh b) rfl rfl rfl rfl trivial
theorem aNU {b : Bas} (hb : b.ok maxLen) : AC Tryz.prog 23 [uh b, uh b] ⟨.v (.bool true), []⟩ := by
 have h1 := aIV hb.sm (fun c h => ⟨(hb.sc c h).1, (hb.sc c h).2.1⟩)
 have h2 := aMU hb.rm
 refine qrf Tryz.func23 Tryz.ntmps23 Tryz.results23 ?_; conv => whnf
 repeat ((first | refine qz ?_ | refine qc (h1) ?_ | refine qc (h2) ?_ | refine qst ?_); conv => whnf)
 exact xA rfl trivial
set_option maxHeartbeats 1000000 in
theorem aMD {b : Bas} (hb : b.ok maxLen) : AC Tryz.prog 43 [uh b] ⟨.v (.bool (aBR b)), []⟩ := by
 have h1 := aJN hb.sm hb.sc
 have h2 := aLV hb.rm hb.rk
 have hm := hb.rm
 have hm2 := hb.sm
 unfold maxLen at hm hm2
 unfold aBR
 generalize yx b.store = x at h1
 generalize aA4 b.refs = y at h2
 cases x
 case false =>
  refine qrf Tryz.func43 Tryz.ntmps43 Tryz.results43 ?_; conv => whnf
  repeat ((first | refine qz ?_ | refine qc (h1) ?_ | refine qc (h2) ?_); conv => whnf)
  exact xA rfl trivial
 cases y
 case false =>
  refine qrf Tryz.func43 Tryz.ntmps43 Tryz.results43 ?_; conv => whnf
  repeat ((first | refine qz ?_ | refine qc (h1) ?_ | refine qc (h2) ?_); conv => whnf)
  exact xA rfl trivial
 rw [Bool.true_and, Bool.true_and]
 refine qrf Tryz.func43 Tryz.ntmps43 Tryz.results43 ?_; conv => whnf
 repeat ((first | refine qz ?_ | refine qc (h1) ?_ | refine qc (h2) ?_); conv => whnf)
 refine xX (ι := { k : Nat // k ≤ b.refs.length ∧ aDV b.store.length (b.refs.drop k) = aDV b.store.length b.refs }) (fun k => ⟨[(1, .optr 2 0 [] 0), (16, .lst 4 (b.refs.map zH)), (17, .v (.int .i64 (b.refs.length : Int))), (18, .v (.int .i64 (k.1 : Int)))], [(2, ⟨36, 2, [uh b]⟩)]⟩) (fun k => b.refs.length - k.1) ⟨0, Nat.zero_le _, rfl⟩ (by exact qle) ?_
 rintro ⟨k, hk, hd⟩
 dsimp only at hk hd ⊢
 conv => whnf
 by_cases hlt : k < b.refs.length
 · rw [aGz hlt] at hd
   by_cases he : b.refs[k].head ≤ b.store.length
   · rw [decide_eq_true he, Bool.true_and] at hd
     repeat ((first | refine qz ?_ | refine qst ?_); conv => whnf)
     exact ⟨⟨k + 1, hlt, hd⟩, by exact qle, by simp; omega⟩
   · rw [decide_eq_false he, Bool.false_and] at hd
     rw [← hd]
     repeat ((first | refine qz ?_ | refine qst ?_); conv => whnf)
     exact xA rfl trivial
 · rw [← hd, List.drop_eq_nil_of_le (by omega)]
   repeat ((refine qz ?_; conv => whnf))
   exact xA rfl trivial
set_option maxHeartbeats 1000000 in
theorem aOb {b : Bas} (hb : b.ok maxLen) : AC Tryz.prog 32 [uh b] ⟨.v (.bool (aBR b)), []⟩ := by
 have h1 := aOF hb.sm hb.sc
 have h2 := aOD hb.rm hb.rk
 have hm := hb.rm
 have hm2 := hb.sm
 unfold maxLen at hm hm2
 unfold aBR
 generalize yx b.store = x at h1
 generalize aA4 b.refs = y at h2
 cases x
 case false =>
  refine qrf Tryz.func32 Tryz.ntmps32 Tryz.results32 ?_; conv => whnf
  repeat ((first | refine qz ?_ | refine qc (h1) ?_ | refine qc (h2) ?_); conv => whnf)
  exact xA rfl trivial
 cases y
 case false =>
  refine qrf Tryz.func32 Tryz.ntmps32 Tryz.results32 ?_; conv => whnf
  repeat ((first | refine qz ?_ | refine qc (h1) ?_ | refine qc (h2) ?_); conv => whnf)
  exact xA rfl trivial
 rw [Bool.true_and, Bool.true_and]
 refine qrf Tryz.func32 Tryz.ntmps32 Tryz.results32 ?_; conv => whnf
 repeat ((first | refine qz ?_ | refine qc (h1) ?_ | refine qc (h2) ?_); conv => whnf)
 refine xX (ι := { k : Nat // k ≤ b.refs.length ∧ aDV b.store.length (b.refs.drop k) = aDV b.store.length b.refs }) (fun k => ⟨[(1, .optr 2 0 [] 0), (3, .v (.int .i64 (k.1 : Int)))], [(2, ⟨36, 2, [uh b]⟩)]⟩) (fun k => b.refs.length - k.1) ⟨0, Nat.zero_le _, rfl⟩ (by exact qle) ?_
 rintro ⟨k, hk, hd⟩
 dsimp only at hk hd ⊢
 conv => whnf
 by_cases hlt : k < b.refs.length
 · rw [aGz hlt] at hd
   by_cases he : b.refs[k].head ≤ b.store.length
   · rw [decide_eq_true he, Bool.true_and] at hd
     repeat ((refine qz ?_; conv => whnf))
     refine .inl ⟨by kernel_rfl, ?_⟩
     conv => whnf
     repeat ((first | refine qz ?_ | refine qst ?_); conv => whnf)
     exact ⟨⟨k + 1, hlt, hd⟩, by exact qle, by simp; omega⟩
   · rw [decide_eq_false he, Bool.false_and] at hd
     rw [← hd]
     repeat ((refine qz ?_; conv => whnf))
     refine .inl ⟨by kernel_rfl, ?_⟩
     conv => whnf
     repeat ((first | refine qz ?_ | refine qst ?_); conv => whnf)
     exact xA rfl trivial
 · rw [← hd, List.drop_eq_nil_of_le (by omega)]
   repeat ((refine qz ?_; conv => whnf))
   exact xA rfl trivial
theorem aPS {a b : Bas} : a = b ↔ a.store = b.store ∧ a.refs = b.refs := by cases a; cases b; simp
instance : DecidableEq Bas := fun a b => decidable_of_iff _ aPS.symm
end Go.Proofs.YtkfllfhcjegfoaaGreatDoor.AM
namespace Go.Proofs.YtkfllfhcjegfoaaGreatDoor.AM
open Go Go.RowKit
section
variable {P : Program} {Θ : Tab} {s : St} {ty : TypeId} {pos : String} {after : Array Edge} {g : Option (Nat × Bool)}
end
attribute [local irreducible] xM xN xW yF yL Pre ACG
end Go.Proofs.YtkfllfhcjegfoaaGreatDoor.AM
namespace Go.Proofs.YtkfllfhcjegfoaaGreatDoor.AM
open Go Go.RowKit
section
variable {P : Program} {Θ : Tab} {s : St} {ty : TypeId} {pos : String} {after : Array Edge} {g : Option (Nat × Bool)}
end
attribute [local irreducible] xM xN xW yF yL Pre ACG
end Go.Proofs.YtkfllfhcjegfoaaGreatDoor.AM
namespace Go.Proofs.YtkfllfhcjegfoaaGreatDoor.AM
open Go Go.RowKit
section
variable {α β : Type} {st : α → Int → Int} {mk : α → Int → β} {n : α → Nat}
end
attribute [local irreducible] xM xN xW yF yL Pre ACG
end Go.Proofs.YtkfllfhcjegfoaaGreatDoor.AM
namespace Go.Proofs.YtkfllfhcjegfoaaGreatDoor.AM
open Go Go.RowKit
structure Evt where
 ver : Int
 head : Int
 lag : Bool
def zQ (e : Evt) : AV := .agg [.v (.int .i64 e.ver), .v (.int .i64 e.head), .v (.bool e.lag)]
theorem aPb (es : List Evt) : ∀ x ∈ es.map zQ, asz x = 3 := fun x hx => by obtain ⟨e, _, rfl⟩ := List.mem_map.1 hx; rfl
theorem qj (e : Evt) : yu (zQ e) := by unfold zQ; simp [yu, uI]
theorem aK1 {a b : Evt} : a = b ↔ a.ver = b.ver ∧ a.head = b.head ∧ a.lag = b.lag := by
 cases a; cases b; simp
instance : DecidableEq Evt := fun a b => decidable_of_iff _ aK1.symm
abbrev aLk : Evt := ⟨0, 0, false⟩
structure Wat where
 name : ByteArray
 seen : Int
 queue : List Evt
def watA (w : Wat) : AV := .agg [.v (.string w.name), .v (.int .i64 w.seen), .lst 3 (w.queue.map zQ)]
def Wat.ok (w : Wat) (N : Nat) : Prop := w.name.size ≤ N ∧ w.queue.length ≤ N
def szW (w : Wat) (l : Int) : Int := if l - w.name.size < 0 then -1 else szI w.queue.length (l - w.name.size)
theorem aQ9 {n : Nat} {l : Int} (h : 0 ≤ szI n l) : szI n l ≤ l ∧ (n : Int) ≤ l := by
 unfold szI at h ⊢
 split at h <;> split <;> omega
theorem aRG {w : Wat} {l : Int} (h : 0 ≤ szW w l) : szW w l ≤ l ∧ (w.name.size : Int) ≤ l ∧ (w.queue.length : Int) ≤ l := by
 unfold szW at h ⊢
 by_cases h1 : l - w.name.size < 0
 · rw [if_pos h1] at h; omega
 · rw [if_neg h1] at h ⊢
   obtain ⟨k1, k2⟩ := aQ9 h
   omega
attribute [local irreducible] xM xN xW yF yL Pre ACG
theorem aJx {es : List Evt} {l : Int} (hm : es.length ≤ maxLen) (h0 : 0 ≤ l) (h1 : l ≤ 1048576) : AC Tryz.prog 57 [.lst 3 (es.map zQ), .v (.int .i64 l)] ⟨.v (.int .i64 (szI es.length l)), []⟩ := by
 unfold maxLen at hm
 unfold szI
 by_cases hn : l - es.length < 0
 · rw [if_pos hn]
   refine qrf Tryz.func57 Tryz.ntmps57 Tryz.results57 ?_; conv => whnf
   repeat ((refine qz ?_; conv => whnf))
   exact xA rfl trivial
 · rw [if_neg hn]
   refine qrf Tryz.func57 Tryz.ntmps57 Tryz.results57 ?_; conv => whnf
   repeat ((refine qz ?_; conv => whnf))
   exact xA rfl trivial
theorem aFd {w : Wat} {l : Int} (hw : w.ok maxLen) (h0 : 0 ≤ l) (h1 : l ≤ 1048576) : AC Tryz.prog 30 [watA w, .v (.int .i64 l)] ⟨.v (.int .i64 (szW w l)), []⟩ := by
 obtain ⟨hk, hq⟩ := hw
 have hk' := hk
 unfold maxLen at hk'
 unfold szW
 by_cases hn : l - w.name.size < 0
 · rw [if_pos hn]
   refine qrf Tryz.func30 Tryz.ntmps30 Tryz.results30 ?_; conv => whnf
   repeat ((first | refine qz ?_ | refine qst ?_); conv => whnf)
   exact xA rfl trivial
 · rw [if_neg hn]
   have z := aJx (l := l - w.name.size) hq (by omega) (by omega)
   by_cases hz : szI w.queue.length (l - w.name.size) < 0
   · have hz' : szI w.queue.length (l - w.name.size) = -1 := by unfold szI at hz ⊢; split at hz <;> split <;> omega
     rw [hz'] at z ⊢
     refine qrf Tryz.func30 Tryz.ntmps30 Tryz.results30 ?_; conv => whnf
     repeat ((first | refine qz ?_ | refine qst ?_ | refine qc (z) ?_); conv => whnf)
     exact xA rfl trivial
   · refine qrf Tryz.func30 Tryz.ntmps30 Tryz.results30 ?_; conv => whnf
     repeat ((first | refine qz ?_ | refine qst ?_ | refine qc (z) ?_); conv => whnf)
     exact xA rfl trivial
theorem aL1 {c : Evt} : AC Tryz.prog 105 [zQ c] ⟨zQ c, []⟩ := by
 refine qrf Tryz.func105 Tryz.ntmps105 Tryz.results105 ?_; conv => whnf
 repeat ((first | refine qz ?_ | refine qst ?_); conv => whnf)
 exact uX (x := zQ c) rfl rfl rfl rfl trivial
theorem aJo {l : List Evt} (hm : l.length ≤ 1048576) : AC Tryz.prog 73 [.lst 3 (l.map zQ)] ⟨.own 0, [⟨129, 3, l.map zQ⟩]⟩ := by
 refine qrf Tryz.func73 Tryz.ntmps73 Tryz.results73 ?_; conv => whnf
 repeat (first | (refine qz ?_; conv => whnf) | (refine qr (jF (n := l.length) (by omega) (by omega) (by simp; rfl) (by simp; rfl) rfl rfl) ?_; conv => whnf))
 have hrow : List.replicate l.length (AV.agg [zI, zI, zB]) = (l.take 0 ++ List.replicate (l.length - 0) aLk).map zQ := by simp [zQ]
 refine xX (ι := { k : Nat // k ≤ l.length }) (fun k => ⟨[(0, .lst 3 (l.map zQ)), (3, .own 8), (4, .v (.int .i64 (k.1 : Int)))], [(8, ⟨129, 3, (l.take k.1 ++ List.replicate (l.length - k.1) aLk).map zQ⟩)]⟩) (fun k => l.length - k.1) ⟨0, Nat.zero_le _⟩ ⟨⟨congrArg (fun x => some (OB.mk _ _ x)) hrow, trivial⟩, .inl ⟨rfl, rfl⟩, .inl ⟨rfl, rfl⟩, .inl ⟨rfl, rfl⟩, trivial⟩ ?_
 rintro ⟨k, hk⟩
 dsimp only
 conv => whnf
 by_cases hlt : k < l.length
 · have hlt2 : k < (l.take k ++ List.replicate (l.length - k) aLk).length := by simp; omega
   have hset := congrArg (List.map zQ) (wR l aLk k hlt)
   rw [List.map_set] at hset
   repeat ((first | refine qz ?_ | refine qc (aL1 (c := l[k])) ?_ | refine qp (uK (by simpa using hlt2) rfl rfl rfl rfl rfl) ?_ | refine qr (xS (jh _ hlt2) rfl rfl rfl rfl rfl rfl) ?_); conv => whnf)
   exact ⟨⟨k + 1, hlt⟩, ⟨⟨congrArg (fun x => some (OB.mk _ _ x)) hset, trivial⟩, .inl ⟨rfl, rfl⟩, .inl ⟨rfl, rfl⟩, .inl ⟨rfl, rfl⟩, trivial⟩, by simp; omega⟩
 · have hkk : k = l.length := by omega
   subst hkk
   repeat ((refine qz ?_; conv => whnf))
   exact kD rfl (by show some (OB.mk _ _ _) = _; rw [List.take_length, Nat.sub_self, List.replicate_zero, List.append_nil])
theorem aMB {w : Wat} (hm : w.queue.length ≤ 1048576) : AC Tryz.prog 41 [watA w] ⟨watA w, []⟩ := by
 have h1 := aJo hm
 refine qrf Tryz.func41 Tryz.ntmps41 Tryz.results41 ?_; conv => whnf
 repeat ((first | refine qz ?_ | refine qf (h1) ?_ | refine qr (wQ rfl rfl rfl rfl rfl rfl rfl rfl) ?_ | refine qst ?_); conv => whnf)
 exact uX (x := watA w) rfl rfl rfl rfl trivial
theorem aMA {a b : Evt} : AC Tryz.prog 123 [zQ a, zQ b] ⟨.v (.bool (decide (a = b))), []⟩ := by
 by_cases h1 : a.ver = b.ver
 case neg =>
  rw [decide_eq_false (fun e => h1 (by rw [e]))]
  refine qrf Tryz.func123 Tryz.ntmps123 Tryz.results123 ?_; conv => whnf
  repeat ((refine qz ?_; conv => whnf))
  exact xA rfl trivial
 by_cases h2 : a.head = b.head
 case neg =>
  rw [decide_eq_false (fun e => h2 (by rw [e]))]
  refine qrf Tryz.func123 Tryz.ntmps123 Tryz.results123 ?_; conv => whnf
  repeat ((refine qz ?_; conv => whnf))
  exact xA rfl trivial
 have h3 : decide (a = b) = !(a.lag != b.lag) := by
  rw [show decide (a = b) = decide (a.lag = b.lag) by rw [decide_eq_decide, aK1]; simp [h1, h2]]
  cases a.lag <;> cases b.lag <;> rfl
 rw [h3]
 cases hb : (a.lag != b.lag) with
 | false =>
  refine qrf Tryz.func123 Tryz.ntmps123 Tryz.results123 ?_; conv => whnf
  repeat (first | (refine qz ?_; conv => whnf) | (refine qp (xB (jb Tryz.underlying4) rfl rfl rfl) ?_; rw [hb]; conv => whnf))
  exact xA rfl trivial
 | true =>
  refine qrf Tryz.func123 Tryz.ntmps123 Tryz.results123 ?_; conv => whnf
  repeat (first | (refine qz ?_; conv => whnf) | (refine qp (xB (jb Tryz.underlying4) rfl rfl rfl) ?_; rw [hb]; conv => whnf))
  exact xA rfl trivial
theorem aJl {l : List Evt} (hm : l.length ≤ maxLen) : AC Tryz.prog 86 [.lst 3 (l.map zQ), .lst 3 (l.map zQ)] ⟨.v (.bool true), []⟩ := by
 unfold maxLen at hm
 refine qrf Tryz.func86 Tryz.ntmps86 Tryz.results86 ?_; conv => whnf
 repeat ((refine qz ?_; conv => whnf))
 refine xX (ι := { k : Nat // k ≤ l.length }) (fun k => ⟨[(0, .lst 3 (l.map zQ)), (1, .lst 3 (l.map zQ)), (5, .v (.int .i64 (k.1 : Int)))], []⟩) (fun k => l.length - k.1) ⟨0, Nat.zero_le _⟩ (by exact qle) ?_
 rintro ⟨k, hk⟩
 dsimp only
 conv => whnf
 by_cases hlt : k < l.length
 · have he := aMA (a := l[k]) (b := l[k])
   rw [decide_eq_true rfl] at he
   repeat ((refine qz ?_; conv => whnf))
   refine .inl ⟨by kernel_rfl, ?_⟩
   conv => whnf
   repeat ((first | refine qz ?_ | refine qc (he) ?_); conv => whnf)
   exact ⟨⟨k + 1, hlt⟩, by exact qle, by simp; omega⟩
 · repeat ((refine qz ?_; conv => whnf))
   exact xA rfl trivial
theorem aMF {w : Wat} (hm : w.queue.length ≤ maxLen) : AC Tryz.prog 51 [watA w, watA w] ⟨.v (.bool true), []⟩ := by
 have h1 := aJl hm
 refine qrf Tryz.func51 Tryz.ntmps51 Tryz.results51 ?_; conv => whnf
 repeat ((first | refine qp (xB (z8 rfl) rfl rfl rfl) ?_ | refine qz ?_ | refine qc (h1) ?_ | refine qst ?_); conv => whnf)
 exact xA rfl trivial
end Go.Proofs.YtkfllfhcjegfoaaGreatDoor.AM
namespace Go.Proofs.YtkfllfhcjegfoaaGreatDoor.AM
open Go Go.RowKit
def aRK (cap : Nat) (es : List AV) : AbsR where
 rel w b T := (∀ g, T g ↔ g = b) ∧ ∃ s r buf, w.heap[b]? = some (.chan cap buf false s r false) ∧ buf.toList.map some = es.map yw
 frame := by
  rintro w w' b T h ⟨h1, s, r, buf, h2, h3⟩
  exact ⟨h1, s, r, buf, (h b ((h1 b).2 rfl)).trans h2, h3⟩
abbrev aKv (cap : Nat) (es : List AV) : OB := ⟨.c (aRK cap es), 2, []⟩
section
variable {P : Program} {f : FuncId} {args : List AV} {cap : Nat} {es es' : List AV}
end
end Go.Proofs.YtkfllfhcjegfoaaGreatDoor.AM
namespace Go.Proofs.YtkfllfhcjegfoaaGreatDoor.AM
open Go Go.RowKit Go.Conc
section
variable {P : Program} {Θ : Tab} {n : Nat}
end
section
variable {P : Program} {Θ : Tab} {n : Nat} {ops : Array Oper} {K : St → Prop} {s : St} {k : Nat}
variable {W : World} {M : Hand} {S0 : Nat → Prop} {S : Nat → Prop} {B : Nat → Nat} {V : Nat → Value} {T : Nat → Nat → Prop} {tmps : Array Value} {w : World}
theorem SimW.chan (h : SimW W M S0 s tmps w S B V T) {l cap : Nat} {es : List AV} (hl : s.hp l = some (aKv cap es)) :
 ∃ sq rq buf, w.heap[B l]? = some (.chan cap buf false sq rq false) ∧ buf.toList.map some = es.map yw ∧
  ∀ (buf' : Array Value) (s' r' : Nat) (es' : List AV), buf'.toList.map some = es'.map yw → ∃ T', SimW W M S0 (s.set l (some (aKv cap es'))) tmps (w.setChan (B l) cap buf' false s' r' false) S B V T' := by
 obtain ⟨t0, cs, ⟨_, r0⟩, r2, r3, r4, r5, r6⟩ := h.rows.ro l _ hl
 obtain ⟨hT, sq, rq, buf, hc, hq⟩ := r0
 refine ⟨sq, rq, buf, hc, hq, fun buf' s' r' es' he => ?_⟩
 have hlt := (Array.getElem?_eq_some_iff.1 hc).1
 have hTb : T l (B l) := (hT _).2 rfl
 have hoth : ∀ g, g ≠ B l → (w.setChan (B l) cap buf' false s' r' false).heap[g]? = w.heap[g]? := fun g hg => by
  simp [World.setChan, Array.getElem?_setIfInBounds_ne (Ne.symm hg)]
 have hown : ∀ g, ¬ (V l).ownBlock = some g := fun g e => by
  have := r6 g e
  subst this
  exact h.rows.nd l _ _ hl e hTb
 have hgr : Grown w (w.setChan (B l) cap buf' false s' r' false) (Blk V T l) := ⟨rfl, rfl, rfl, by simp [World.setChan], fun g _ hg => hoth g (fun e => hg (by rw [e]; exact .inr hTb))⟩
 refine ⟨_, h.inpl (ob' := aKv cap es') hl rfl hgr ?_ (fun g hg => hg)⟩
 exact ⟨t0, [], ⟨fun t' e => (by cases e), hT, s', r', buf', heap_setChan _ _ _ _ _ _ _ _ hlt, he⟩, ⟨rfl, rfl, fun g hg => by rw [(hT g).1 hg]; simp [World.setChan]; exact hlt⟩, fun x hx => (by cases hx), Nat.succ_pos 1, by
  have := aAn (w' := w.setChan (B l) cap buf' false s' r' false) r5 (fun g hg => absurd hg (hown g))
  exact ⟨rfl, this.2.imp id (fun ⟨g, cap1, cur, q1, q2⟩ => absurd (show (V l).ownBlock = some g by rw [q1]; rfl) (hown g))⟩, r6⟩
end
section
variable {P : Program} {Θ : Tab} {n : Nat} {ops : Array Oper} {K : St → Prop} {s : St} {k : Nat} {x y : Operand} {ty : TypeId} {pos : String} {after : Array Edge} {l cap : Nat} {es r : List AV} {u z : Value} {v : AV} {t : Nat} {elem : TypeId}
end
end Go.Proofs.YtkfllfhcjegfoaaGreatDoor.AM
namespace Go.Proofs.YtkfllfhcjegfoaaGreatDoor.AM
open Go Go.RowKit
attribute [local irreducible] xM xN xW yF yL Pre ACG
end Go.Proofs.YtkfllfhcjegfoaaGreatDoor.AM
namespace Go.Proofs.YtkfllfhcjegfoaaGreatDoor.AM
open Go Go.RowKit
def kN (e : Evt) : Bool := decide (1 ≤ e.ver ∧ e.ver ≤ 1000000) && decide (0 ≤ e.head ∧ e.head ≤ 60)
def fB (e b : Evt) : Bool := decide (e.ver = b.ver + 1) || (e.lag && decide (b.ver < e.ver))
def evG (l : List Evt) (i : Nat) : Prop := ∃ h : i < l.length, kN l[i] = true ∧ ∀ m, (hm : m + 1 = i) → fB l[i] (l[m]'(by omega)) = true
open Classical in
noncomputable def jY (l : List Evt) : Bool := decide (∀ i, i < l.length → evG l i)
theorem aDM {l : List Evt} (h : ¬ ∀ i, i < l.length → evG l i) : jY l = false := by unfold jY; simpa using h
theorem aIJ {l : List Evt} (h : ∀ i, i < l.length → evG l i) : jY l = true := by unfold jY; simpa using h
theorem aO6 {e : Evt} (h1 : 1 ≤ e.ver ∧ e.ver ≤ 1000000) (h2 : 0 ≤ e.head ∧ e.head ≤ 60) : kN e = true := by unfold kN; simp [h1, h2]
theorem aEl {e : Evt} (h : kN e = true) : (1 ≤ e.ver ∧ e.ver ≤ 1000000) ∧ (0 ≤ e.head ∧ e.head ≤ 60) := by unfold kN at h; simpa using h
theorem aLB {e b : Evt} (h : e.ver = b.ver + 1 ∨ (e.lag = true ∧ b.ver < e.ver)) : fB e b = true := by unfold fB; simpa using h
attribute [local irreducible] xM xN xW yF yL Pre ACG
theorem aKp {e : Evt} : AC Tryz.prog 158 [zQ e] ⟨.v (.bool (kN e)), []⟩ := by
 by_cases h1 : 1 ≤ e.ver
 case neg =>
  rw [show kN e = false by unfold kN; simp [h1]]
  refine qrf Tryz.func158 Tryz.ntmps158 Tryz.results158 ?_; conv => whnf
  repeat ((refine qz ?_; conv => whnf))
  exact xA rfl trivial
 by_cases h2 : e.ver ≤ 1000000
 case neg =>
  rw [show kN e = false by unfold kN; simp [h2]]
  refine qrf Tryz.func158 Tryz.ntmps158 Tryz.results158 ?_; conv => whnf
  repeat ((refine qz ?_; conv => whnf))
  exact xA rfl trivial
 by_cases h3 : e.head = 0
 · rw [aO6 ⟨h1, h2⟩ ⟨by omega, by omega⟩]
   refine qrf Tryz.func158 Tryz.ntmps158 Tryz.results158 ?_; conv => whnf
   repeat ((refine qz ?_; conv => whnf))
   exact xA rfl trivial
 by_cases h4 : 1 ≤ e.head ∧ e.head ≤ 60
 · rw [aO6 ⟨h1, h2⟩ ⟨by omega, by omega⟩]
   refine qrf Tryz.func158 Tryz.ntmps158 Tryz.results158 ?_; conv => whnf
   repeat ((first | refine qz ?_ | refine qc (uF h4.1 h4.2) ?_); conv => whnf)
   exact xA rfl trivial
 · rw [show kN e = false by
    cases hh : kN e with
    | false => rfl
    | true => exact absurd (aEl hh).2 (by omega)]
   refine qrf Tryz.func158 Tryz.ntmps158 Tryz.results158 ?_; conv => whnf
   repeat ((first | refine qz ?_ | refine qc (j4 h4) ?_); conv => whnf)
   exact xA rfl trivial
theorem aL4 {e b : Evt} (hb : 1 ≤ b.ver ∧ b.ver ≤ 1000000) : AC Tryz.prog 159 [zQ e, zQ b] ⟨.v (.bool (fB e b)), []⟩ := by
 by_cases h1 : e.ver = b.ver + 1
 · rw [aLB (.inl h1)]
   refine qrf Tryz.func159 Tryz.ntmps159 Tryz.results159 ?_; conv => whnf
   repeat ((refine qz ?_; conv => whnf))
   exact xA rfl trivial
 cases hl : e.lag with
 | false =>
  rw [show fB e b = false by unfold fB; simp [h1, hl]]
  refine qrf Tryz.func159 Tryz.ntmps159 Tryz.results159 ?_; conv => whnf
  repeat (first | (refine qz ?_; conv => whnf) | (rw [hl]; conv => whnf))
  exact xA rfl trivial
 | true =>
  by_cases h2 : b.ver < e.ver
  · rw [aLB (.inr ⟨hl, h2⟩)]
    refine qrf Tryz.func159 Tryz.ntmps159 Tryz.results159 ?_; conv => whnf
    repeat (first | (refine qz ?_; conv => whnf) | (rw [hl]; conv => whnf))
    exact xA rfl trivial
  · rw [show fB e b = false by unfold fB; simp [h1, h2]]
    refine qrf Tryz.func159 Tryz.ntmps159 Tryz.results159 ?_; conv => whnf
    repeat (first | (refine qz ?_; conv => whnf) | (rw [hl]; conv => whnf))
    exact xA rfl trivial
noncomputable def lnB (l : List Evt) : Bool := decide (l.length ≤ 4096) && jY l
set_option maxHeartbeats 1000000 in
theorem aHt {l : List Evt} (hm : l.length ≤ maxLen) : AC Tryz.prog 139 [.lst 3 (l.map zQ)] ⟨.v (.bool (lnB l)), []⟩ := by
 have hm' := hm
 unfold maxLen at hm'
 by_cases hin : l.length ≤ 4096
 case neg =>
  rw [show lnB l = false by unfold lnB; simp [hin]]
  refine qrf Tryz.func139 Tryz.ntmps139 Tryz.results139 ?_; conv => whnf
  repeat ((refine qz ?_; conv => whnf))
  exact xA rfl trivial
 rw [show lnB l = jY l by unfold lnB; simp [hin]]
 refine qrf Tryz.func139 Tryz.ntmps139 Tryz.results139 ?_; conv => whnf
 repeat ((refine qz ?_; conv => whnf))
 refine xX (ι := { k : Nat // k ≤ l.length ∧ ∀ i, i < k → evG l i }) (fun k => ⟨[(0, .lst 3 (l.map zQ)), (8, .lst 3 (l.map zQ)), (9, .v (.int .i64 (l.length : Int))), (10, .v (.int .i64 (k.1 : Int)))], []⟩) (fun k => l.length - k.1) ⟨0, Nat.zero_le _, fun i h => by omega⟩ (by exact qle) ?_
 rintro ⟨k, hk', hd⟩
 dsimp only at hk' hd ⊢
 conv => whnf
 by_cases hlt : k < l.length
 case neg =>
  rw [aIJ (fun i hi => hd i (by omega))]
  repeat ((refine qz ?_; conv => whnf))
  exact xA rfl trivial
 have hac := aKp (e := l[k])
 have nxt : evG l k → ∀ i, i < k + 1 → evG l i := fun q i hi => by
  rcases Nat.lt_or_ge i k with h | h
  · exact hd i h
  · have : i = k := by omega
    subst this; exact q
 cases hb : kN l[k] with
 | false =>
  rw [hb] at hac
  rw [aDM (fun h => by obtain ⟨_, q, _⟩ := h k hlt; rw [hb] at q; cases q)]
  repeat ((first | refine qz ?_ | refine qc (hac) ?_ | refine qst ?_ | refine qdr ?_); conv => whnf)
  exact xA rfl trivial
 | true =>
  rw [hb] at hac
  cases k with
  | zero =>
   repeat ((first | refine qz ?_ | refine qc (hac) ?_ | refine qst ?_ | refine qdr ?_); conv => whnf)
   exact ⟨⟨0 + 1, hlt, nxt ⟨hlt, hb, fun m hm => by omega⟩⟩, by exact qle, by simp; omega⟩
  | succ m =>
   have hlm : m < l.length := by omega
   obtain ⟨_, p1, _⟩ := hd m (by omega)
   have hfo := aL4 (e := l[m + 1]) (b := l[m]) (aEl p1).1
   cases hf : fB l[m + 1] l[m] with
   | false =>
    rw [hf] at hfo
    rw [aDM (fun h => by obtain ⟨_, _, q⟩ := h (m + 1) hlt; rw [q m rfl] at hf; cases hf)]
    repeat ((first | refine qp (xB (xZ (c := ((m : Nat) : Int)) (by simp) (by omega) (by omega)) rfl rfl rfl) ?_ | refine qz ?_ | refine qc (hac) ?_ | refine qc (hfo) ?_ | refine qst ?_ | refine qdr ?_); conv => whnf)
    exact xA rfl trivial
   | true =>
    rw [hf] at hfo
    repeat ((first | refine qp (xB (xZ (c := ((m : Nat) : Int)) (by simp) (by omega) (by omega)) rfl rfl rfl) ?_ | refine qz ?_ | refine qc (hac) ?_ | refine qc (hfo) ?_ | refine qst ?_ | refine qdr ?_); conv => whnf)
    exact ⟨⟨m + 1 + 1, hlt, nxt ⟨hlt, hb, fun m' hm' => by
     have : m' = m := by omega
     subst this; exact hf⟩⟩, by exact qle, by simp; omega⟩
set_option maxHeartbeats 4000000 in
theorem aHo {l : List Evt} (hm : l.length ≤ maxLen) : AC Tryz.prog 65 [.lst 3 (l.map zQ)] ⟨.v (.bool (jY l)), []⟩ := by
 have hm' := hm
 unfold maxLen at hm'
 refine qrf Tryz.func65 Tryz.ntmps65 Tryz.results65 ?_; conv => whnf
 refine aEg (fun k : { k : Nat // k ≤ l.length ∧ ∀ i, i < k → evG l i } => ⟨[(0, .lst 3 (l.map zQ)), (3, .v (.int .i64 (k.1 : Int)))], [], []⟩) (fun k => l.length - k.1) ⟨0, Nat.zero_le _, fun i h => by omega⟩ ⟨by exact qle, trivial⟩ ?_
 rintro ⟨k, hk', hd⟩
 dsimp only at hk' hd ⊢
 by_cases hlt : k < l.length
 case neg =>
  rw [aIJ (fun i hi => hd i (by omega))]
  refine xI _ _ _ ?_
  conv => whnf
  repeat (first | (refine qz ?_; conv => whnf))
  exact xA rfl trivial
 have nxt : evG l k → ∀ i, i < k + 1 → evG l i := fun q i hi => by
  rcases Nat.lt_or_ge i k with h | h
  · exact hd i h
  · have : i = k := by omega
    subst this; exact q
 refine vZ ?_
 refine xI _ _ _ ?_
 conv => whnf
 repeat (first | (refine qz ?_; conv => whnf))
 refine vZ (aD2 ?_)
 obtain ⟨b, hbg⟩ : ∃ b, b = l[k].lag := ⟨_, rfl⟩
 have hik : (l.map zQ)[k]? = some (.agg [.v (.int .i64 l[k].ver), .v (.int .i64 l[k].head), .v (.bool b)]) := by rw [List.getElem?_map, List.getElem?_eq_getElem hlt, hbg]; rfl
 refine jc (ι := Unit) (fun _ => ⟨[(0, .lst 3 (l.map zQ)), (3, .v (.int .i64 (k : Int))), (4, .optr 5 0 [] 0)], [(5, ⟨.s 129, 3, [.agg [.v (.int .i64 l[k].ver), .v (.int .i64 l[k].head), .v (.bool b)]]⟩)], []⟩) ?_ (fun _ => ?_)
 · refine xI _ _ _ ?_
   conv => whnf
   repeat ((first | refine qp (xk hik rfl rfl rfl) ?_ | refine qst ?_ | refine qz ?_); conv => whnf)
   exact ⟨(), ⟨by exact qle, trivial⟩⟩
 refine xI _ _ _ ?_
 conv => whnf
 (refine qdr ?_; conv => whnf)
 by_cases h1 : 1 ≤ l[k].ver ∧ l[k].ver ≤ 1000000
 case neg =>
  rw [aDM (fun h => by obtain ⟨_, q, _⟩ := h k hlt; exact h1 (aEl q).1)]
  as_aux_lemma =>
   repeat ((first | refine qc (y9 h1) ?_ | refine qz ?_); conv => whnf)
   exact xA rfl trivial
 by_cases h2 : 0 ≤ l[k].head ∧ l[k].head ≤ 60
 case neg =>
  rw [aDM (fun h => by obtain ⟨_, q, _⟩ := h k hlt; exact h2 (aEl q).2)]
  as_aux_lemma =>
   repeat ((first | refine qc (xC h1.1 h1.2) ?_ | refine qc (y9 h2) ?_ | refine qz ?_); conv => whnf)
   exact xA rfl trivial
 have hb : kN l[k] = true := aO6 h1 h2
 cases k with
 | zero =>
  as_aux_lemma =>
   repeat ((first | refine qc (xC h1.1 h1.2) ?_ | refine qc (xC h2.1 h2.2) ?_ | refine qz ?_); conv => whnf)
   refine xI _ _ _ ?_
   conv => whnf
   repeat ((first | refine qp (xB (jf (c := ((0 + 1 : Nat) : Int)) (by omega) (by omega) (by omega)) rfl rfl rfl) ?_ | refine qz ?_); conv => whnf)
   exact ⟨⟨0 + 1, hlt, nxt ⟨hlt, hb, fun m hm => by omega⟩⟩, ⟨by exact qle, trivial⟩, by simp; omega⟩
 | succ m =>
  have hlm : m < l.length := by omega
  obtain ⟨_, p1, _⟩ := hd m (by omega)
  have p2 := (aEl p1).1
  have him : (l.map zQ)[m]? = some (zQ l[m]) := by simp [hlm]
  have bad : fB l[m + 1] l[m] = false → jY l = false := fun q => aDM (fun h => by obtain ⟨_, _, q'⟩ := h (m + 1) hlt; rw [q' m rfl] at q; cases q)
  have good : fB l[m + 1] l[m] = true → evG l (m + 1) := fun q => ⟨hlt, hb, fun m' hm' => by
   have : m' = m := by omega
   subst this; exact q⟩
  by_cases h3 : l[m].ver < l[m + 1].ver
  case neg =>
   rw [bad (by unfold fB; simp [h3]; omega)]
   as_aux_lemma =>
    repeat ((first | refine qc (xC h1.1 h1.2) ?_ | refine qc (xC h2.1 h2.2) ?_ | refine qp (xB (xZ (c := ((m : Nat) : Int)) (by simp) (by omega) (by omega)) rfl rfl rfl) ?_ | refine qp (xk him rfl rfl rfl) ?_ | refine qz ?_); conv => whnf)
    exact xA rfl trivial
  cases b with
  | true =>
   have hq := good (aLB (.inr ⟨hbg.symm, h3⟩))
   as_aux_lemma =>
    repeat ((first | refine qc (xC h1.1 h1.2) ?_ | refine qc (xC h2.1 h2.2) ?_ | refine qp (xB (xZ (c := ((m : Nat) : Int)) (by simp) (by omega) (by omega)) rfl rfl rfl) ?_ | refine qp (xk him rfl rfl rfl) ?_ | refine qz ?_); conv => whnf)
    refine xI _ _ _ ?_
    conv => whnf
    repeat ((first | refine qp (xB (jf (c := (((m + 1) + 1 : Nat) : Int)) (by omega) (by omega) (by omega)) rfl rfl rfl) ?_ | refine qz ?_); conv => whnf)
    exact ⟨⟨m + 1 + 1, hlt, nxt hq⟩, ⟨by exact qle, trivial⟩, by simp; omega⟩
  | false =>
   by_cases h4 : l[m + 1].ver = l[m].ver + 1
   · have hq := good (aLB (.inl h4))
     as_aux_lemma =>
      repeat ((first | refine qc (xC h1.1 h1.2) ?_ | refine qc (xC h2.1 h2.2) ?_ | refine qp (xB (xZ (c := ((m : Nat) : Int)) (by simp) (by omega) (by omega)) rfl rfl rfl) ?_ | refine qp (xk him rfl rfl rfl) ?_ | refine qp (xB (jf (c := l[m].ver + 1) (by omega) (by omega) (by omega)) rfl rfl rfl) ?_ | refine qz ?_); conv => whnf)
      refine xI _ _ _ ?_
      conv => whnf
      repeat ((first | refine qp (xB (jf (c := (((m + 1) + 1 : Nat) : Int)) (by omega) (by omega) (by omega)) rfl rfl rfl) ?_ | refine qz ?_); conv => whnf)
      exact ⟨⟨m + 1 + 1, hlt, nxt hq⟩, ⟨by exact qle, trivial⟩, by simp; omega⟩
   · rw [bad (by unfold fB; simp [h4, ← hbg])]
     as_aux_lemma =>
      repeat ((first | refine qc (xC h1.1 h1.2) ?_ | refine qc (xC h2.1 h2.2) ?_ | refine qp (xB (xZ (c := ((m : Nat) : Int)) (by simp) (by omega) (by omega)) rfl rfl rfl) ?_ | refine qp (xk him rfl rfl rfl) ?_ | refine qp (xB (jf (c := l[m].ver + 1) (by omega) (by omega) (by omega)) rfl rfl rfl) ?_ | refine qz ?_); conv => whnf)
      exact xA rfl trivial
end Go.Proofs.YtkfllfhcjegfoaaGreatDoor.AM
namespace Go.Proofs.YtkfllfhcjegfoaaGreatDoor.AM
open Go Go.RowKit
theorem aRF {P : Program} {Θ : Tab} {s : St} {d : Option Tmp} {ty : TypeId} {pos : String} {after : Array Edge} {g : Option (Nat × Bool)} {α : Type} {f : α → AV} {t : TypeId} {x y : Operand} {el sz b h : Nat} {k : IntKind} {z : AV} {xs : List α} (hh : h ≤ xs.length) (ht : Θ.look t = .slice el sz b z) (hx : s.ev x = .lst sz (xs.map f)) (hy : s.ev y = .v (.int k (h : Int))) : Pre P Θ ⟨d, .slice t x (some y) none none, ty, pos, after, g⟩ s ⟨.lst sz ((xs.drop h).map f), none⟩ := by
 have := aIW (P := P) (Θ := Θ) (s := s) (d := d) (ty := ty) (pos := pos) (after := after) (g := g) (t := t) (x := x) (lo := some y) (hi := none) (l := h) (h := (xs.map f).length) (xs := xs.map f) (by simpa using hh) (Nat.le_refl _) ht hx ⟨k, hy⟩ rfl
 rw [List.take_length, ← List.map_drop] at this
 exact this
def iAt : List Evt → Nat → Int
 | [], _ => -1
 | y :: l, k => if y.lag = true then k else iAt l (k + 1)
theorem aOa {l : List Evt} {k : Nat} (h : k < l.length) : iAt (l.drop k) k = if l[k].lag = true then (k : Int) else iAt (l.drop (k + 1)) (k + 1) := by
 rw [List.drop_eq_getElem_cons h, iAt]
theorem aKK : ∀ (l : List Evt) (k : Nat), decide (0 ≤ iAt l k) = l.any (·.lag)
 | [], k => by simp [iAt]
 | y :: l, k => by
  unfold iAt
  rw [List.any_cons]
  cases h : y.lag with
  | true => rw [if_pos rfl]; simp <;> omega
  | false => rw [if_neg (by simp), aKK l (k + 1), Bool.false_or]
theorem aNt : ∀ (l : List Evt) (k : Nat), -1 ≤ iAt l k ∧ iAt l k ≤ k + l.length
 | [], k => by simp [iAt] <;> omega
 | y :: l, k => by
  unfold iAt
  split
  · simp; omega
  · have := aNt l (k + 1)
    simp only [List.length_cons]; omega
def aB0 (l : List Evt) : Bool := (l.drop 1).any (·.lag)
noncomputable def qB (l : List Evt) (s : Int) : Bool := decide (l.length ≤ 4) && (jY l && (decide ((l.getLast?.map (·.ver)) = some s) && !aB0 l))
noncomputable def wC (w : Wat) : Bool := okN w.name && (decide (0 ≤ w.seen ∧ w.seen ≤ 1000000) && (decide (w.queue = []) || qB w.queue w.seen))
theorem last_at {l : List Evt} {m : Nat} (h : l.length = m + 1) : l.getLast? = some (l[m]'(by omega)) := by
 rw [List.getLast?_eq_getElem?, List.getElem?_eq_getElem (by omega)]
 congr 1
 have : l.length - 1 = m := by omega
 simp [this]
attribute [local irreducible] xM xN xW yF yL Pre ACG
theorem aMH {e : Evt} : AC Tryz.prog 141 [zQ e] ⟨.v (.bool e.lag), []⟩ := by
 refine qrf Tryz.func141 Tryz.ntmps141 Tryz.results141 ?_; conv => whnf
 repeat ((refine qz ?_; conv => whnf))
 exact xA rfl trivial
theorem aJf {l : List Evt} (hm : l.length ≤ 4096) : AC Tryz.prog 160 [.lst 3 (l.map zQ), .fn 141 [] []] ⟨.v (.int .i64 (iAt l 0)), []⟩ := by
 refine qrf Tryz.func160 Tryz.ntmps160 Tryz.results160 ?_; conv => whnf
 repeat ((refine qz ?_; conv => whnf))
 refine xX (ι := { k : Nat // k ≤ l.length ∧ iAt (l.drop k) k = iAt l 0 }) (fun k => ⟨[(0, .lst 3 (l.map zQ)), (1, .fn 141 [] []), (7, .v (.int .i64 (l.length : Int))), (8, .v (.int .i64 (k.1 : Int)))], []⟩) (fun k => l.length - k.1) ⟨0, Nat.zero_le _, rfl⟩ (by exact qle) ?_
 rintro ⟨k, hk, hd⟩
 dsimp only at hk hd ⊢
 conv => whnf
 by_cases hlt : k < l.length
 · rw [aOa hlt] at hd
   have hq := aMH (e := l[k])
   cases he : l[k].lag with
   | true =>
    rw [he, if_pos rfl] at hd
    rw [he] at hq
    rw [← hd]
    repeat ((first | refine qz ?_ | refine qr (aAz hq rfl rfl (.inl rfl) trivial rfl rfl) ?_); conv => whnf)
    exact xA rfl trivial
   | false =>
    rw [he, if_neg (by simp)] at hd
    rw [he] at hq
    repeat ((first | refine qz ?_ | refine qr (aAz hq rfl rfl (.inl rfl) trivial rfl rfl) ?_); conv => whnf)
    exact ⟨⟨k + 1, hlt, hd⟩, by exact qle, by simp; omega⟩
 · rw [← hd, List.drop_eq_nil_of_le (by omega)]
   repeat ((refine qz ?_; conv => whnf))
   exact xA rfl trivial
theorem aGR {l : List Evt} (hm : l.length ≤ 4096) : AC Tryz.prog 140 [.lst 3 (l.map zQ), .fn 141 [] []] ⟨.v (.bool (l.any (·.lag))), []⟩ := by
 have h1 := aJf hm
 have h2 := aKK l 0
 obtain ⟨h3, h4⟩ := aNt l 0
 rw [← h2]
 generalize iAt l 0 = r at h1 h3 h4
 by_cases h : 0 ≤ r
 · rw [decide_eq_true h]
   refine qrf Tryz.func140 Tryz.ntmps140 Tryz.results140 ?_; conv => whnf
   repeat ((first | refine qz ?_ | refine qc (h1) ?_); conv => whnf)
   exact xA rfl trivial
 · rw [decide_eq_false h]
   refine qrf Tryz.func140 Tryz.ntmps140 Tryz.results140 ?_; conv => whnf
   repeat ((first | refine qz ?_ | refine qc (h1) ?_); conv => whnf)
   exact xA rfl trivial
theorem aLQ {l : List Evt} {s : Int} (hm : l.length ≤ maxLen) (h0 : 0 < l.length) (hs : -9000000000000000000 ≤ s ∧ s ≤ 9000000000000000000) : AC Tryz.prog 115 [.lst 3 (l.map zQ), .v (.int .i64 s)] ⟨.v (.bool (qB l s)), []⟩ := by
 have hm' := hm
 unfold maxLen at hm'
 by_cases h4 : l.length ≤ 4
 case neg =>
  rw [show qB l s = false by unfold qB; simp [h4]]
  refine qrf Tryz.func115 Tryz.ntmps115 Tryz.results115 ?_; conv => whnf
  repeat ((refine qz ?_; conv => whnf))
  exact xA rfl trivial
 have h1 := aHt hm
 rw [show lnB l = jY l by unfold lnB; simp; intro; omega] at h1
 have hq : qB l s = (jY l && (decide ((l.getLast?.map (·.ver)) = some s) && !aB0 l)) := by unfold qB; simp [h4]
 rw [hq]
 generalize jY l = x at h1
 cases x
 case false =>
  rw [Bool.false_and]
  refine qrf Tryz.func115 Tryz.ntmps115 Tryz.results115 ?_; conv => whnf
  repeat ((first | refine qz ?_ | refine qc (h1) ?_); conv => whnf)
  exact xA rfl trivial
 rw [Bool.true_and]
 obtain ⟨m, hl⟩ : ∃ m, l.length = m + 1 := ⟨l.length - 1, by omega⟩
 have hlm : m < l.length := by omega
 rw [last_at hl]
 by_cases hv : l[m].ver = s
 case neg =>
  rw [show (decide (Option.map (·.ver) (some l[m]) = some s) && !aB0 l) = false by simp [hv]]
  refine qrf Tryz.func115 Tryz.ntmps115 Tryz.results115 ?_; conv => whnf
  repeat ((first | refine qp (xB (xZ (c := ((m : Nat) : Int)) (by omega) (by omega) (by omega)) rfl rfl rfl) ?_ | refine qz ?_ | refine qc (h1) ?_); conv => whnf)
  exact xA rfl trivial
 rw [show (decide (Option.map (·.ver) (some l[m]) = some s) && !aB0 l) = !aB0 l by simp [hv]]
 have h5 := aGR (l := l.drop 1) (by simp; omega)
 unfold aB0
 generalize (l.drop 1).any (·.lag) = x at h5
 cases x
 all_goals
  refine qrf Tryz.func115 Tryz.ntmps115 Tryz.results115 ?_; conv => whnf
  repeat ((first | refine qp (xB (xZ (c := ((m : Nat) : Int)) (by omega) (by omega) (by omega)) rfl rfl rfl) ?_ | refine qz ?_ | refine qc (h1) ?_ | refine qp (aRF (h := 1) (xs := l) (f := zQ) (by omega) rfl rfl rfl) ?_ | refine qc (h5) ?_); conv => whnf)
  exact xA rfl trivial
theorem aJX {w : Wat} (hw : w.ok maxLen) : AC Tryz.prog 79 [watA w] ⟨.v (.bool (wC w)), []⟩ := by
 obtain ⟨hk, hq⟩ := hw
 have hk' := hk
 have hq' := hq
 unfold maxLen at hk' hq'
 have h1 := xU hk rfl
 unfold wC
 generalize okN w.name = x at h1
 cases x
 case false =>
  rw [Bool.false_and]
  refine qrf Tryz.func79 Tryz.ntmps79 Tryz.results79 ?_; conv => whnf
  repeat ((first | refine qz ?_ | refine qc (h1) ?_); conv => whnf)
  exact xA rfl trivial
 rw [Bool.true_and]
 by_cases s0 : 0 ≤ w.seen
 case neg =>
  rw [decide_eq_false (fun h => s0 h.1), Bool.false_and]
  refine qrf Tryz.func79 Tryz.ntmps79 Tryz.results79 ?_; conv => whnf
  repeat ((first | refine qz ?_ | refine qc (h1) ?_); conv => whnf)
  exact xA rfl trivial
 by_cases s1 : w.seen ≤ 1000000
 case neg =>
  rw [decide_eq_false (fun h => s1 h.2), Bool.false_and]
  refine qrf Tryz.func79 Tryz.ntmps79 Tryz.results79 ?_; conv => whnf
  repeat ((first | refine qz ?_ | refine qc (h1) ?_); conv => whnf)
  exact xA rfl trivial
 rw [decide_eq_true ⟨s0, s1⟩, Bool.true_and]
 by_cases hn : w.queue.length = 0
 · have : w.queue = [] := List.eq_nil_of_length_eq_zero hn
   rw [decide_eq_true this, Bool.true_or]
   refine qrf Tryz.func79 Tryz.ntmps79 Tryz.results79 ?_; conv => whnf
   repeat ((first | refine qz ?_ | refine qc (h1) ?_); conv => whnf)
   exact xA rfl trivial
 have hne : ¬ w.queue = [] := fun e => hn (by rw [e]; rfl)
 rw [decide_eq_false hne, Bool.false_or]
 have h2 := aLQ (s := w.seen) hq (by omega) (by omega)
 refine qrf Tryz.func79 Tryz.ntmps79 Tryz.results79 ?_; conv => whnf
 repeat ((first | refine qz ?_ | refine qc (h1) ?_ | refine qc (h2) ?_); conv => whnf)
 exact xA rfl trivial
end Go.Proofs.YtkfllfhcjegfoaaGreatDoor.AM
namespace Go.Proofs.YtkfllfhcjegfoaaGreatDoor.AM
open Go Go.RowKit
theorem aQS {l : List Evt} (h : ∀ i, (hi : i < l.length) → 1 ≤ i → l[i].lag = false) : aB0 l = false := by
 unfold aB0
 rw [List.any_eq_false]
 intro x hx
 obtain ⟨i, hi, rfl⟩ := List.getElem_of_mem hx
 rw [List.getElem_drop]
 simp only [Bool.not_eq_true]
 exact h (1 + i) (by simp at hi; omega) (by omega)
theorem aQy {l : List Evt} {i : Nat} (hi : i < l.length) (h1 : 1 ≤ i) (h : l[i].lag = true) : aB0 l = true := by
 unfold aB0
 rw [List.any_eq_true]
 refine ⟨l[i], ?_, h⟩
 rw [List.mem_iff_getElem]
 refine ⟨i - 1, by simp; omega, ?_⟩
 rw [List.getElem_drop]
 congr 1; omega
theorem aQe {w : Wat} (h : okN w.name = false) : wC w = false := by unfold wC; rw [h, Bool.false_and]
theorem aQi {w : Wat} (h : ¬ (0 ≤ w.seen ∧ w.seen ≤ 1000000)) : wC w = false := by unfold wC; rw [decide_eq_false h]; simp
theorem aEd {w : Wat} (hn : okN w.name = true) (hs : 0 ≤ w.seen ∧ w.seen ≤ 1000000) : wC w = (decide (w.queue = []) || qB w.queue w.seen) := by unfold wC; rw [hn, decide_eq_true hs]; simp
theorem aQQ {w : Wat} (hn : okN w.name = true) (hs : 0 ≤ w.seen ∧ w.seen ≤ 1000000) (h : ¬ w.queue.length ≤ 4) : wC w = false := by
 rw [aEd hn hs]
 have : ¬ w.queue = [] := fun e => h (by rw [e]; simp)
 unfold qB; simp [h, this]
theorem aOS : jY [] = true := aIJ (fun i h => by simp at h)
theorem aQ3 {w : Wat} (hn : okN w.name = true) (hs : 0 ≤ w.seen ∧ w.seen ≤ 1000000) (h4 : w.queue.length ≤ 4) (h : jY w.queue = false) : wC w = false := by
 rw [aEd hn hs]
 have : ¬ w.queue = [] := fun e => by rw [e, aOS] at h; cases h
 unfold qB; simp [h, this]
theorem aQY {w : Wat} (hn : okN w.name = true) (hs : 0 ≤ w.seen ∧ w.seen ≤ 1000000) (h0 : w.queue.length = 0) : wC w = true := by
 rw [aEd hn hs, List.eq_nil_of_length_eq_zero h0]; simp
theorem aQP {w : Wat} (hn : okN w.name = true) (hs : 0 ≤ w.seen ∧ w.seen ≤ 1000000) (h4 : w.queue.length ≤ 4) (he : jY w.queue = true) {m : Nat} (hl : w.queue.length = m + 1) : wC w = (decide ((w.queue[m]'(by omega)).ver = w.seen) && !aB0 w.queue) := by
 rw [aEd hn hs]
 have : ¬ w.queue = [] := fun e => by rw [e] at hl; simp at hl
 unfold qB; simp [h4, he, this, last_at hl]
attribute [local irreducible] xM xN xW yF yL Pre ACG
set_option maxHeartbeats 4000000 in
theorem aOU {w : Wat} (hw : w.ok maxLen) : AC Tryz.prog 35 [watA w] ⟨.v (.bool (wC w)), []⟩ := by
 obtain ⟨hk, hq⟩ := hw
 have hq' := hq
 unfold maxLen at hq'
 have e1 := aHo hq
 refine qrf Tryz.func35 Tryz.ntmps35 Tryz.results35 ?_; conv => whnf
 repeat ((refine qz ?_; conv => whnf))
 (refine qdr ?_; conv => whnf)
 cases hn : okN w.name with
 | false =>
  rw [aQe hn]
  as_aux_lemma =>
   repeat ((first | refine qc (xE hk hn) ?_ | refine qz ?_ | refine qdr ?_); conv => whnf)
   exact xA rfl trivial
 | true =>
 by_cases hs : 0 ≤ w.seen ∧ w.seen ≤ 1000000
 case neg =>
  rw [aQi hs]
  as_aux_lemma =>
   repeat ((first | refine qc (xE hk hn) ?_ | refine qc (y9 hs) ?_ | refine qz ?_ | refine qdr ?_); conv => whnf)
   exact xA rfl trivial
 by_cases h4 : w.queue.length ≤ 4
 case neg =>
  rw [aQQ hn hs h4]
  as_aux_lemma =>
   repeat ((first | refine qc (xE hk hn) ?_ | refine qc (xC hs.1 hs.2) ?_ | refine qz ?_ | refine qdr ?_); conv => whnf)
   exact xA rfl trivial
 cases he : jY w.queue with
 | false =>
  rw [aQ3 hn hs h4 he]
  rw [he] at e1
  as_aux_lemma =>
   repeat ((first | refine qc (xE hk hn) ?_ | refine qc (xC hs.1 hs.2) ?_ | refine qc (e1) ?_ | refine qz ?_ | refine qdr ?_); conv => whnf)
   exact xA rfl trivial
 | true =>
 rw [he] at e1
 by_cases h0 : w.queue.length = 0
 · rw [aQY hn hs h0]
   as_aux_lemma =>
    repeat ((first | refine qc (xE hk hn) ?_ | refine qc (xC hs.1 hs.2) ?_ | refine qc (e1) ?_ | refine qz ?_ | refine qdr ?_); conv => whnf)
    refine xX (ι := Unit) (fun _ => ⟨[(3, .v (.int .i64 (w.queue.length : Int))), (4, .v (.int .i64 1))], []⟩) (fun _ => 0) () (by exact qle) ?_
    rintro ⟨⟩
    conv => whnf
    repeat ((first | refine qz ?_ | refine qdr ?_); conv => whnf)
    repeat ((first | refine qz ?_ | refine qdr ?_); conv => whnf)
    exact xA rfl trivial
 obtain ⟨m, hl⟩ : ∃ m, w.queue.length = m + 1 := ⟨w.queue.length - 1, by omega⟩
 have hlm : m < w.queue.length := by omega
 rw [aQP hn hs h4 he hl]
 by_cases hv : w.queue[m].ver = w.seen
 case neg =>
  rw [decide_eq_false hv, Bool.false_and]
  as_aux_lemma =>
   repeat ((first | refine qc (xE hk hn) ?_ | refine qc (xC hs.1 hs.2) ?_ | refine qc (e1) ?_ | refine qp (xB (xZ (c := ((m : Nat) : Int)) (by omega) (by omega) (by omega)) rfl rfl rfl) ?_ | refine qz ?_ | refine qdr ?_); conv => whnf)
   exact xA rfl trivial
 rw [decide_eq_true hv, Bool.true_and]
 as_aux_lemma =>
  repeat ((first | refine qc (xE hk hn) ?_ | refine qc (xC hs.1 hs.2) ?_ | refine qc (e1) ?_ | refine qp (xB (xZ (c := ((m : Nat) : Int)) (by omega) (by omega) (by omega)) rfl rfl rfl) ?_ | refine qz ?_ | refine qdr ?_); conv => whnf)
  refine xX (ι := { k : Nat // 1 ≤ k ∧ k ≤ w.queue.length ∧ ∀ i, (hi : i < w.queue.length) → 1 ≤ i → i < k → w.queue[i].lag = false }) (fun k => ⟨[(1, .optr 2 0 [] 0), (3, .v (.int .i64 (w.queue.length : Int))), (4, .v (.int .i64 (k.1 : Int)))], [(2, ⟨88, 3, [watA w]⟩)]⟩) (fun k => w.queue.length - k.1) ⟨1, by omega, by omega, fun i _ _ _ => by omega⟩ (by exact qle) ?_
  rintro ⟨k, hk1, hk2, hd⟩
  dsimp only at hk1 hk2 hd ⊢
  conv => whnf
  by_cases hlt : k < w.queue.length
  · cases hg : w.queue[k].lag with
    | true =>
     rw [aQy hlt hk1 hg]
     repeat (first | (refine qz ?_; conv => whnf) | (rw [hg]; conv => whnf))
     repeat ((first | refine qz ?_ | refine qdr ?_); conv => whnf)
     exact xA rfl trivial
    | false =>
     repeat (first | (refine qz ?_; conv => whnf) | (rw [hg]; conv => whnf))
     exact ⟨⟨k + 1, by omega, hlt, fun i hi h1 h2 => by
      rcases Nat.lt_or_ge i k with h | h
      · exact hd i hi h1 h
      · have : i = k := by omega
        subst this; exact hg⟩, by exact qle, by simp; omega⟩
  · rw [aQS (fun i hi h1 => hd i hi h1 (by omega))]
    repeat ((first | refine qz ?_ | refine qdr ?_); conv => whnf)
    repeat ((first | refine qz ?_ | refine qdr ?_); conv => whnf)
    exact xA rfl trivial
theorem aPX {a b : Wat} : a = b ↔ a.name = b.name ∧ a.seen = b.seen ∧ a.queue = b.queue := by cases a; cases b; simp
instance : DecidableEq Wat := fun a b => decidable_of_iff _ aPX.symm
end Go.Proofs.YtkfllfhcjegfoaaGreatDoor.AM
namespace Go.Proofs.YtkfllfhcjegfoaaGreatDoor.AM
open Go Go.RowKit
section
variable {P : Program} {f : FuncId} {args args' : List AV} {rin rout : List OB} {out : Out}
end
section
variable {s : St} {Θ : Tab}
end
section
variable {P : Program} {Θ : Tab} {s : St} {ty : TypeId} {pos : String} {after : Array Edge} {g : Option (Nat × Bool)}
end
attribute [local irreducible] xM xN xW yF yL Pre ACG
end Go.Proofs.YtkfllfhcjegfoaaGreatDoor.AM
namespace Go.Proofs.YtkfllfhcjegfoaaGreatDoor.AM
open Go Go.RowKit
section
variable {s : St} {Θ : Tab}
end
attribute [local irreducible] xM xN xW yF yL Pre ACG
end Go.Proofs.YtkfllfhcjegfoaaGreatDoor.AM
namespace Go.Proofs.YtkfllfhcjegfoaaGreatDoor.AM
open Go Go.RowKit
noncomputable def wI (l : List Rf) (x : ByteArray) : Int := if 0 ≤ rAt l x 0 then (l.getD (rAt l x 0).toNat ⟨ByteArray.empty, 0, 0, false⟩).ver else 0
theorem aIp {l : List Rf} {x : ByteArray} (h : rAt l x 0 < 0) : wI l x = 0 := by unfold wI; rw [if_neg (by omega)]
theorem aHx {l : List Rf} {x : ByteArray} {j : Nat} (hj : j < l.length) (h : rAt l x 0 = (j : Int)) : wI l x = l[j].ver := by
 unfold wI
 rw [if_pos (by omega), h]
 simp [List.getD, hj]
attribute [local irreducible] xM xN xW yF yL Pre ACG
theorem aIS {l : List Rf} {x : ByteArray} (hm : l.length ≤ maxLen) : AC Tryz.prog 80 [.lst 4 (l.map zH), .v (.string x)] ⟨.v (.int .i64 (wI l x)), []⟩ := by
 have h2 := aCm (x := x) hm
 by_cases hp : rAt l x 0 < 0
 · rw [aIp hp]
   refine qrf Tryz.func80 Tryz.ntmps80 Tryz.results80 ?_; conv => whnf
   repeat ((first | refine qz ?_ | refine qdr ?_ | refine qc (h2) ?_); conv => whnf)
   exact xA rfl trivial
 · obtain ⟨j, hj, e, e2⟩ := aMy (by omega : 0 ≤ rAt l x 0)
   rw [aHx hj e]
   rw [e] at h2
   refine qrf Tryz.func80 Tryz.ntmps80 Tryz.results80 ?_; conv => whnf
   repeat ((first | refine qz ?_ | refine qdr ?_ | refine qc (h2) ?_); conv => whnf)
   exact xA rfl trivial
end Go.Proofs.YtkfllfhcjegfoaaGreatDoor.AM
namespace Go.Proofs.YtkfllfhcjegfoaaGreatDoor.AM
open Go Go.RowKit
noncomputable def aQU (l : List Rf) (x : ByteArray) : Wat := ⟨x, wI l x, []⟩
section
variable {s : St} {Θ : Tab}
end
attribute [local irreducible] xM xN xW yF yL Pre ACG
theorem aJ3 {l : List Wat} (hm : l.length ≤ maxLen) (hc : ∀ w ∈ l, w.queue.length ≤ maxLen) : AC Tryz.prog 25 [.lst 3 (l.map watA), .lst 3 (l.map watA)] ⟨.v (.bool true), []⟩ := by
 unfold maxLen at hm
 refine qrf Tryz.func25 Tryz.ntmps25 Tryz.results25 ?_; conv => whnf
 repeat ((refine qz ?_; conv => whnf))
 refine xX (ι := { k : Nat // k ≤ l.length }) (fun k => ⟨[(0, .lst 3 (l.map watA)), (1, .lst 3 (l.map watA)), (5, .v (.int .i64 (k.1 : Int)))], []⟩) (fun k => l.length - k.1) ⟨0, Nat.zero_le _⟩ (by exact qle) ?_
 rintro ⟨k, hk⟩
 dsimp only
 conv => whnf
 by_cases hlt : k < l.length
 · have q1 := hc _ (List.getElem_mem hlt)
   repeat ((refine qz ?_; conv => whnf))
   refine .inl ⟨by kernel_rfl, ?_⟩
   conv => whnf
   repeat ((first | refine qz ?_ | refine qc (aMF q1) ?_); conv => whnf)
   exact ⟨⟨k + 1, hlt⟩, by exact qle, by simp; omega⟩
 · repeat ((refine qz ?_; conv => whnf))
   exact xA rfl trivial
end Go.Proofs.YtkfllfhcjegfoaaGreatDoor.AM
