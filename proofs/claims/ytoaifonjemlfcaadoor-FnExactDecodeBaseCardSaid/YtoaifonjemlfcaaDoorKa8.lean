/- Texts of the machine over data, folded. -/
import Derived.Test.YtoaifonjemlfcaaDoorKa5
import Derived.Test.YtoaifonjemlfcaaDoorKa7
import Derived.Test.YtoaifonjemlfcaaDoorKa6
import Derived.Lib.BufferWrite
import Derived.Lib.UnsafeStr
import Derived.Laws.BitsLemmas
import Derived.Laws.Small
import Derived.WalkSpells
import Derived.Laws.StructEq
set_option linter.unusedVariables false
set_option linter.unusedSimpArgs false
set_option maxRecDepth 100000
namespace Go.Proofs.YtoaifonjemlfcaaDoor.AM
open Go Go.RowKit
abbrev okN (s : ByteArray) : Bool := Nm.nameOK s.data.toList
def kS (r : Rf) : Bool := okN r.name && (decide (1 ≤ r.ver ∧ r.ver ≤ 1000000) && (if r.gone = true then decide (r.head = 0) else decide (1 ≤ r.head ∧ r.head ≤ 60)))
def rAt : List Rf → ByteArray → Nat → Int
 | [], _, _ => -1
 | y :: l, x, k => if y.name = x then k else rAt l x (k + 1)
theorem aFV {l : List Rf} {x : ByteArray} {k : Nat} (h : k < l.length) : rAt (l.drop k) x k = if l[k].name = x then (k : Int) else rAt (l.drop (k + 1)) x (k + 1) := by
 rw [List.drop_eq_getElem_cons h, rAt]
theorem aAc : ∀ (l : List Rf) (x : ByteArray) (k : Nat), (rAt l x k = -1 ∧ ∀ i (h : i < l.length), l[i].name ≠ x) ∨ ∃ j, ∃ h : j < l.length, rAt l x k = ((k + j : Nat) : Int) ∧ l[j].name = x ∧ ∀ i (hi : i < j), (l[i]'(by omega)).name ≠ x
 | [], x, k => .inl ⟨rfl, fun i h => by simp at h⟩
 | y :: l, x, k => by
  unfold rAt
  by_cases e : y.name = x
  · rw [if_pos e]; exact .inr ⟨0, by simp, by simp, e, fun i h => by omega⟩
  · rw [if_neg e]
    rcases aAc l x (k + 1) with ⟨h1, h2⟩ | ⟨j, hj, h1, h2, h3⟩
    · refine .inl ⟨h1, fun i h => ?_⟩
      cases i with
      | zero => exact e
      | succ i => exact h2 i (by simpa using h)
    · refine .inr ⟨j + 1, by simpa using hj, by rw [h1]; omega, h2, fun i h => ?_⟩
      cases i with
      | zero => exact e
      | succ i => exact h3 i (by omega)
theorem aFW {l : List Rf} {i : Nat} (h : i < l.length) : rAt l l[i].name 0 = (i : Int) ↔ rAt (l.take i) l[i].name 0 < 0 := by
 rcases aAc (l.take i) l[i].name 0 with ⟨h1, h2⟩ | ⟨j, hj, h1, h2, h3⟩
 · rw [h1]
   refine ⟨fun _ => by omega, fun _ => ?_⟩
   rcases aAc l l[i].name 0 with ⟨k1, k2⟩ | ⟨j, hj, k1, k2, k3⟩
   · exact absurd rfl (k2 i h)
   · rw [k1]
     rcases Nat.lt_trichotomy j i with q | q | q
     · exact absurd (by rw [List.getElem_take]; exact k2) (h2 j (by simp; omega))
     · omega
     · exact absurd rfl (k3 i q)
 · rw [h1]
   have hji : j < i := by simp at hj; omega
   refine ⟨fun e => ?_, fun e => by omega⟩
   rcases aAc l l[i].name 0 with ⟨k1, k2⟩ | ⟨j', hj', k1, k2, k3⟩
   · omega
   · rw [k1] at e
     have : j' = i := by omega
     subst this
     exact absurd (by rw [← h2, List.getElem_take]) (k3 j hji)
def aCN (l : List Rf) (i : Nat) : Prop := ∃ h : i < l.length, kS l[i] = true ∧ rAt (l.take i) l[i].name 0 < 0
open Classical in
noncomputable def wW (l : List Rf) : Bool := decide (l.length ≤ 8 ∧ ∀ i, i < l.length → aCN l i)
theorem aAO {l : List Rf} (h : ¬ (l.length ≤ 8 ∧ ∀ i, i < l.length → aCN l i)) : wW l = false := by unfold wW; simpa using h
theorem aGY {l : List Rf} (h : l.length ≤ 8 ∧ ∀ i, i < l.length → aCN l i) : wW l = true := by unfold wW; simpa using h
theorem aIu {l : List Rf} (h : wW l = true) : l.length ≤ 8 ∧ ∀ i, i < l.length → aCN l i := by unfold wW at h; simpa using h
theorem aK2 : ∀ vs w, (callFunc 66 vs).run Tryd.prog w = .ok (.enter 66 vs) w := wQ Tryd.func66 (by kernel_rfl) (by kernel_rfl)
theorem aK5 : ∀ vs w, (callFunc 85 vs).run Tryd.prog w = .ok (.enter 85 vs) w := wQ Tryd.func85 (by kernel_rfl) (by kernel_rfl)
theorem uq {s : ByteArray} {b : Bool} (hs : s.size ≤ maxLen) (hb : okN s = b) : AC Tryd.prog 66 [.v (.string s)] ⟨.v (.bool b), []⟩ :=
 hb ▸ jg aK2 rfl fun w S0 vs hS hv => by
  obtain ⟨u', rfl, h2⟩ := aCQ hv
  rw [aEV h2]
  exact (aBn s w hs).mono fun e w' ⟨h1, h2⟩ => ⟨h1, by subst h2; exact Below.refl _ _⟩
theorem vT {s : ByteArray} {b : Bool} (hs : s.size ≤ maxLen) (hb : okN s = b) : AC Tryd.prog 85 [.v (.string s)] ⟨.v (.bool b), []⟩ :=
 hb ▸ jg aK5 rfl fun w S0 vs hS hv => by
  obtain ⟨u', rfl, h2⟩ := aCQ hv
  rw [aEV h2]
  exact (aCq s w hs).mono fun e w' ⟨h1, h2⟩ => ⟨h1, by subst h2; exact Below.refl _ _⟩
attribute [local irreducible] xM xO xg yE y7 Pre ACG
theorem aFe {x : Int} (h : 1 ≤ x) (h' : x ≤ 60) : AC Tryd.prog 86 [.v (.int .i64 x)] ⟨.v (.bool true), []⟩ := by
 refine qrf Tryd.func86 Tryd.ntmps86 Tryd.results86 ?_; conv => whnf
 repeat ((refine qz ?_; conv => whnf))
 exact xA rfl trivial
theorem aFd {x : Int} (h : ¬ (1 ≤ x ∧ x ≤ 60)) : AC Tryd.prog 86 [.v (.int .i64 x)] ⟨.v (.bool false), []⟩ := by
 by_cases h1 : 1 ≤ x
 · refine qrf Tryd.func86 Tryd.ntmps86 Tryd.results86 ?_; conv => whnf
   repeat ((refine qz ?_; conv => whnf))
   exact xA rfl trivial
 · refine qrf Tryd.func86 Tryd.ntmps86 Tryd.results86 ?_; conv => whnf
   repeat ((refine qz ?_; conv => whnf))
   exact xA rfl trivial
theorem aI2 {l : List Rf} {x : ByteArray} (hm : l.length ≤ maxLen) : AC Tryd.prog 84 [.lst 4 (l.map xh), .v (.string x)] ⟨.v (.int .i64 (rAt l x 0)), []⟩ := by
 unfold maxLen at hm
 refine qrf Tryd.func84 Tryd.ntmps84 Tryd.results84 ?_; conv => whnf
 refine xZ (ι := { k : Nat // k ≤ l.length ∧ rAt (l.drop k) x k = rAt l x 0 }) (fun k => ⟨[(0, .lst 4 (l.map xh)), (1, .v (.string x)), (5, .v (.int .i64 (k.1 : Int)))], []⟩) (fun k => l.length - k.1) ⟨0, Nat.zero_le _, rfl⟩ (by exact qle) ?_
 rintro ⟨k, hk, hd⟩
 dsimp only at hk hd ⊢
 conv => whnf
 by_cases hlt : k < l.length
 · rw [aFV hlt] at hd
   by_cases he : l[k].name = x
   · rw [if_pos he] at hd
     rw [← hd]
     repeat ((first | refine qz ?_ | refine qp (xG (aFy he) rfl rfl rfl) ?_); conv => whnf)
     exact xA rfl trivial
   · rw [if_neg he] at hd
     repeat ((first | refine qz ?_ | refine qp (xG (aFx he) rfl rfl rfl) ?_); conv => whnf)
     exact ⟨⟨k + 1, hlt, hd⟩, by exact qle, by simp; omega⟩
 · rw [← hd, List.drop_eq_nil_of_le (by omega)]
   repeat ((refine qz ?_; conv => whnf))
   exact xA rfl trivial
theorem aDg {r : Rf} {x : ByteArray} {b : Bool} (hb : decide (r.name = x) = b) : AC Tryd.prog 88 [xh r, .ptr (.v (.string x))] ⟨.v (.bool b), []⟩ := by
 by_cases h : r.name = x
 · rw [← hb, decide_eq_true h]
   refine qrf Tryd.func88 Tryd.ntmps88 Tryd.results88 ?_; conv => whnf
   repeat ((first | refine qz ?_ | refine qp (xG (aFy h) rfl rfl rfl) ?_); conv => whnf)
   exact xA rfl trivial
 · rw [← hb, decide_eq_false h]
   refine qrf Tryd.func88 Tryd.ntmps88 Tryd.results88 ?_; conv => whnf
   repeat ((first | refine qz ?_ | refine qp (xG (aFx h) rfl rfl rfl) ?_); conv => whnf)
   exact xA rfl trivial
theorem aFh {l : List Rf} {x : ByteArray} (hm : l.length ≤ maxLen) : AC Tryd.prog 87 [.lst 4 (l.map xh), .fn 88 [] [.ptr (.v (.string x))]] ⟨.v (.int .i64 (rAt l x 0)), []⟩ := by
 unfold maxLen at hm
 refine qrf Tryd.func87 Tryd.ntmps87 Tryd.results87 ?_; conv => whnf
 repeat ((refine qz ?_; conv => whnf))
 refine xZ (ι := { k : Nat // k ≤ l.length ∧ rAt (l.drop k) x k = rAt l x 0 }) (fun k => ⟨[(0, .lst 4 (l.map xh)), (1, .fn 88 [] [.ptr (.v (.string x))]), (7, .v (.int .i64 (l.length : Int))), (8, .v (.int .i64 (k.1 : Int)))], []⟩) (fun k => l.length - k.1) ⟨0, Nat.zero_le _, rfl⟩ (by exact qle) ?_
 rintro ⟨k, hk, hd⟩
 dsimp only at hk hd ⊢
 conv => whnf
 by_cases hlt : k < l.length
 · rw [aFV hlt] at hd
   by_cases he : l[k].name = x
   · rw [if_pos he] at hd
     rw [← hd]
     repeat ((first | refine qz ?_ | refine qr (aGR (aDg (r := l[k]) (decide_eq_true he)) rfl rfl (.inl rfl) trivial rfl rfl) ?_); conv => whnf)
     exact xA rfl trivial
   · rw [if_neg he] at hd
     repeat ((first | refine qz ?_ | refine qr (aGR (aDg (r := l[k]) (decide_eq_false he)) rfl rfl (.inl rfl) trivial rfl rfl) ?_); conv => whnf)
     exact ⟨⟨k + 1, hlt, hd⟩, by exact qle, by simp; omega⟩
 · rw [← hd, List.drop_eq_nil_of_le (by omega)]
   repeat ((refine qz ?_; conv => whnf))
   exact xA rfl trivial
theorem aEQ {l : List Rf} {x : ByteArray} (hm : l.length ≤ maxLen) : AC Tryd.prog 76 [.lst 4 (l.map xh), .v (.string x)] ⟨.v (.int .i64 (rAt l x 0)), []⟩ := by
 refine qrf Tryd.func76 Tryd.ntmps76 Tryd.results76 ?_; conv => whnf
 repeat ((first | refine qz ?_ | refine qr (aJN (y := .v _) rfl rfl rfl rfl) ?_); conv => whnf)
 refine qr (xB [] (aFh hm) rfl rfl trivial rfl rfl trivial rfl rfl rfl (.inr ⟨⟨by simp [yI], aGD⟩, by simp⟩) rfl) ?_
 conv => whnf
 repeat ((refine qz ?_; conv => whnf))
 exact xA rfl trivial
theorem aIL {r : Rf} (h : okN r.name = false) : kS r = false := by simp only [kS, h, Bool.false_and]
theorem aIM {r : Rf} (h : ¬ (1 ≤ r.ver ∧ r.ver ≤ 1000000)) : kS r = false := by simp only [kS, decide_eq_false h, Bool.false_and, Bool.and_false]
theorem aIJ {r : Rf} (hn : okN r.name = true) (hv : 1 ≤ r.ver ∧ r.ver ≤ 1000000) (hg : r.gone = true) : kS r = decide (r.head = 0) := by simp only [kS, hn, hg, decide_eq_true hv, Bool.true_and, if_true]
theorem aIK {r : Rf} (hn : okN r.name = true) (hv : 1 ≤ r.ver ∧ r.ver ≤ 1000000) (hg : r.gone = false) : kS r = decide (1 ≤ r.head ∧ r.head ≤ 60) := by
 simp only [kS, hn, hg, decide_eq_true hv, Bool.true_and]; rfl
theorem aI5 {r : Rf} (hs : r.name.size ≤ maxLen) : AC Tryd.prog 75 [xh r] ⟨.v (.bool (kS r)), []⟩ := by
 cases hn : okN r.name with
 | false =>
  rw [aIL hn]
  refine qrf Tryd.func75 Tryd.ntmps75 Tryd.results75 ?_; conv => whnf
  repeat ((first | refine qz ?_ | refine qc (vT hs hn) ?_); conv => whnf)
  exact xA rfl trivial
 | true =>
  by_cases hv : 1 ≤ r.ver ∧ r.ver ≤ 1000000
  case neg =>
   rw [aIM hv]
   by_cases h1 : 1 ≤ r.ver
   · have h2 : ¬ r.ver ≤ 1000000 := fun e => hv ⟨h1, e⟩
     refine qrf Tryd.func75 Tryd.ntmps75 Tryd.results75 ?_; conv => whnf
     repeat ((first | refine qz ?_ | refine qc (vT hs hn) ?_); conv => whnf)
     exact xA rfl trivial
   · refine qrf Tryd.func75 Tryd.ntmps75 Tryd.results75 ?_; conv => whnf
     repeat ((first | refine qz ?_ | refine qc (vT hs hn) ?_); conv => whnf)
     exact xA rfl trivial
  obtain ⟨v1, v2⟩ := id hv
  cases hg : r.gone with
  | true =>
   rw [aIJ hn hv hg]
   by_cases h0 : r.head = 0
   · rw [decide_eq_true h0]
     refine qrf Tryd.func75 Tryd.ntmps75 Tryd.results75 ?_; conv => whnf
     repeat (first | (refine qz ?_; conv => whnf) | (refine qc (vT hs hn) ?_; conv => whnf) | (rw [hg]; conv => whnf))
     exact xA rfl trivial
   · rw [decide_eq_false h0]
     refine qrf Tryd.func75 Tryd.ntmps75 Tryd.results75 ?_; conv => whnf
     repeat (first | (refine qz ?_; conv => whnf) | (refine qc (vT hs hn) ?_; conv => whnf) | (rw [hg]; conv => whnf))
     exact xA rfl trivial
  | false =>
   rw [aIK hn hv hg]
   by_cases h0 : 1 ≤ r.head ∧ r.head ≤ 60
   · rw [decide_eq_true h0]
     refine qrf Tryd.func75 Tryd.ntmps75 Tryd.results75 ?_; conv => whnf
     repeat (first | (refine qz ?_; conv => whnf) | (refine qc (vT hs hn) ?_; conv => whnf) | (rw [hg]; conv => whnf) | (refine qc (aFe h0.1 h0.2) ?_; conv => whnf))
     exact xA rfl trivial
   · rw [decide_eq_false h0]
     refine qrf Tryd.func75 Tryd.ntmps75 Tryd.results75 ?_; conv => whnf
     repeat (first | (refine qz ?_; conv => whnf) | (refine qc (vT hs hn) ?_; conv => whnf) | (rw [hg]; conv => whnf) | (refine qc (aFd h0) ?_; conv => whnf))
     exact xA rfl trivial
theorem aGc {l : List Rf} (hm : l.length ≤ maxLen) (hk : ∀ e ∈ l, e.name.size ≤ maxLen) : AC Tryd.prog 64 [.lst 4 (l.map xh)] ⟨.v (.bool (wW l)), []⟩ := by
 have hm' := hm
 unfold maxLen at hm'
 by_cases hin : l.length ≤ 8
 case neg =>
  rw [aAO (fun h => hin h.1)]
  refine qrf Tryd.func64 Tryd.ntmps64 Tryd.results64 ?_; conv => whnf
  repeat ((refine qz ?_; conv => whnf))
  exact xA rfl trivial
 refine qrf Tryd.func64 Tryd.ntmps64 Tryd.results64 ?_; conv => whnf
 repeat ((refine qz ?_; conv => whnf))
 refine xZ (ι := { k : Nat // k ≤ l.length ∧ ∀ i, i < k → aCN l i }) (fun k => ⟨[(0, .lst 4 (l.map xh)), (8, .lst 4 (l.map xh)), (9, .v (.int .i64 (l.length : Int))), (10, .v (.int .i64 (k.1 : Int)))], []⟩) (fun k => l.length - k.1) ⟨0, Nat.zero_le _, fun i h => by omega⟩ (by exact qle) ?_
 rintro ⟨k, hk', hd⟩
 dsimp only at hk' hd ⊢
 conv => whnf
 by_cases hlt : k < l.length
 case neg =>
  rw [aGY ⟨hin, fun i hi => hd i (by omega)⟩]
  repeat ((refine qz ?_; conv => whnf))
  exact xA rfl trivial
 have hsz := hk _ (List.getElem_mem hlt)
 have hac := aI5 hsz
 have hpl := aEQ (l := l.take k) (x := l[k].name) (by unfold maxLen; simp; omega)
 cases hb : kS l[k] with
 | false =>
  rw [hb] at hac
  rw [aAO (fun h => by obtain ⟨_, q, _⟩ := h.2 k hlt; rw [hb] at q; cases q)]
  repeat ((first | refine qz ?_ | refine qc (hac) ?_ | refine qst ?_ | refine qdr ?_); conv => whnf)
  exact xA rfl trivial
 | true =>
  rw [hb] at hac
  by_cases hp : rAt (l.take k) l[k].name 0 < 0
  · repeat ((first | refine qz ?_ | refine qc (hac) ?_ | refine qst ?_ | refine qdr ?_ | refine qp (aAG (h := k) (xs := l) (f := xh) (by omega) rfl rfl rfl) ?_ | refine qc (hpl) ?_); conv => whnf)
    exact ⟨⟨k + 1, hlt, fun i hi => by
     rcases Nat.lt_or_ge i k with h | h
     · exact hd i h
     · have : i = k := by omega
       subst this; exact ⟨hlt, hb, hp⟩⟩, by exact qle, by simp; omega⟩
  · rw [aAO (fun h => by obtain ⟨_, _, q⟩ := h.2 k hlt; exact hp q)]
    repeat ((first | refine qz ?_ | refine qc (hac) ?_ | refine qst ?_ | refine qdr ?_ | refine qp (aAG (h := k) (xs := l) (f := xh) (by omega) rfl rfl rfl) ?_ | refine qc (hpl) ?_); conv => whnf)
    exact xA rfl trivial
set_option maxHeartbeats 4000000 in
theorem aI3 {l : List Rf} (hm : l.length ≤ maxLen) (hk : ∀ e ∈ l, e.name.size ≤ maxLen) : AC Tryd.prog 72 [.lst 4 (l.map xh)] ⟨.v (.bool (wW l)), []⟩ := by
 have hm' := hm
 unfold maxLen at hm'
 by_cases hin : l.length ≤ 8
 case neg =>
  rw [aAO (fun h => hin h.1)]
  refine qrf Tryd.func72 Tryd.ntmps72 Tryd.results72 ?_; conv => whnf
  repeat ((refine qz ?_; conv => whnf))
  exact xA rfl trivial
 refine qrf Tryd.func72 Tryd.ntmps72 Tryd.results72 ?_; conv => whnf
 repeat ((refine qz ?_; conv => whnf))
 refine aEo (fun k : { k : Nat // k ≤ l.length ∧ ∀ i, i < k → aCN l i } => ⟨[(0, .lst 4 (l.map xh)), (3, .v (.int .i64 (k.1 : Int)))], [], []⟩) (fun k => l.length - k.1) ⟨0, Nat.zero_le _, fun i h => by omega⟩ ⟨by exact qle, trivial⟩ ?_
 rintro ⟨k, hk', hd⟩
 dsimp only at hk' hd ⊢
 by_cases hlt : k < l.length
 case neg =>
  rw [aGY ⟨hin, fun i hi => hd i (by omega)⟩]
  refine xE _ _ _ ?_
  conv => whnf
  repeat (first | (refine qz ?_; conv => whnf))
  exact xA rfl trivial
 have hsz := hk _ (List.getElem_mem hlt)
 have hpl := aI2 (l := l) (x := l[k].name) hm
 have bad : (kS l[k] = true → ¬ rAt (l.take k) l[k].name 0 < 0) → wW l = false := fun q => aAO (fun h => by obtain ⟨_, q1, q2⟩ := h.2 k hlt; exact q q1 q2)
 have nxt : kS l[k] = true → rAt (l.take k) l[k].name 0 < 0 → ∀ i, i < k + 1 → aCN l i := fun q1 q2 i hi => by
  rcases Nat.lt_or_ge i k with h | h
  · exact hd i h
  · have : i = k := by omega
    subst this; exact ⟨hlt, q1, q2⟩
 refine aJI ?_
 refine xE _ _ _ ?_
 conv => whnf
 repeat (first | (refine qz ?_; conv => whnf))
 refine aJI (aJ5 ?_)
 obtain ⟨g, hgg⟩ : ∃ g, g = l[k].gone := ⟨_, rfl⟩
 have hik : (l.map xh)[k]? = some (.agg [.v (.string l[k].name), .v (.int .i64 l[k].head), .v (.int .i64 l[k].ver), .v (.bool g)]) := by rw [List.getElem?_map, List.getElem?_eq_getElem hlt, hgg]; rfl
 refine aLB (ι := Unit) (fun _ => ⟨[(0, .lst 4 (l.map xh)), (3, .v (.int .i64 (k : Int))), (4, .optr 5 0 [] 0)], [(5, ⟨.s 79, 4, [.agg [.v (.string l[k].name), .v (.int .i64 l[k].head), .v (.int .i64 l[k].ver), .v (.bool g)]]⟩)], []⟩) ?_ (fun _ => ?_)
 · refine xE _ _ _ ?_
   conv => whnf
   repeat ((first | refine qp (jU hik rfl rfl rfl) ?_ | refine qst ?_ | refine qz ?_); conv => whnf)
   exact ⟨(), ⟨by exact qle, trivial⟩⟩
 refine xE _ _ _ ?_
 conv => whnf
 cases hw : okN l[k].name with
 | false =>
  rw [bad (fun q => by rw [aIL hw] at q; cases q)]
  as_aux_lemma =>
   repeat ((first | refine qc (uq hsz hw) ?_ | refine qz ?_); conv => whnf)
   exact xA rfl trivial
 | true =>
  by_cases hv : 1 ≤ l[k].ver ∧ l[k].ver ≤ 1000000
  case neg =>
   rw [bad (fun q => by rw [aIM hv] at q; cases q)]
   as_aux_lemma =>
    repeat ((first | refine qc (uq hsz hw) ?_ | refine qc (jY hv) ?_ | refine qz ?_); conv => whnf)
    exact xA rfl trivial
  by_cases hp : rAt l l[k].name 0 = (k : Int)
  case neg =>
   rw [bad (fun _ q => hp ((aFW hlt).2 q))]
   as_aux_lemma =>
    repeat ((first | refine qc (uq hsz hw) ?_ | refine qc (zh hv.1 hv.2) ?_ | refine qc (hpl) ?_ | refine qz ?_); conv => whnf)
    exact xA rfl trivial
  have hp' := (aFW hlt).1 hp
  cases g with
  | true =>
   have hb := aIJ hw hv hgg.symm
   by_cases h0 : l[k].head = 0
   · rw [decide_eq_true h0] at hb
     as_aux_lemma =>
      repeat ((first | refine qc (uq hsz hw) ?_ | refine qc (zh hv.1 hv.2) ?_ | refine qc (hpl) ?_ | refine qz ?_); conv => whnf)
      refine xE _ _ _ ?_
      conv => whnf
      repeat ((first | refine qp (xG (uy (c := ((k + 1 : Nat) : Int)) (by omega) (by omega) (by omega)) rfl rfl rfl) ?_ | refine qz ?_); conv => whnf)
      exact ⟨⟨k + 1, hlt, nxt hb hp'⟩, ⟨by exact qle, trivial⟩, by simp; omega⟩
   · rw [decide_eq_false h0] at hb
     rw [bad (fun q => by rw [hb] at q; cases q)]
     as_aux_lemma =>
      repeat ((first | refine qc (uq hsz hw) ?_ | refine qc (zh hv.1 hv.2) ?_ | refine qc (hpl) ?_ | refine qz ?_); conv => whnf)
      exact xA rfl trivial
  | false =>
   have hb := aIK hw hv hgg.symm
   by_cases h0 : 1 ≤ l[k].head ∧ l[k].head ≤ 60
   · rw [decide_eq_true h0] at hb
     as_aux_lemma =>
      repeat ((first | refine qc (uq hsz hw) ?_ | refine qc (zh hv.1 hv.2) ?_ | refine qc (hpl) ?_ | refine qc (zh h0.1 h0.2) ?_ | refine qz ?_); conv => whnf)
      refine xE _ _ _ ?_
      conv => whnf
      repeat ((first | refine qp (xG (uy (c := ((k + 1 : Nat) : Int)) (by omega) (by omega) (by omega)) rfl rfl rfl) ?_ | refine qz ?_); conv => whnf)
      exact ⟨⟨k + 1, hlt, nxt hb hp'⟩, ⟨by exact qle, trivial⟩, by simp; omega⟩
   · rw [decide_eq_false h0] at hb
     rw [bad (fun q => by rw [hb] at q; cases q)]
     as_aux_lemma =>
      repeat ((first | refine qc (uq hsz hw) ?_ | refine qc (zh hv.1 hv.2) ?_ | refine qc (hpl) ?_ | refine qc (jY h0) ?_ | refine qz ?_); conv => whnf)
      exact xA rfl trivial
end Go.Proofs.YtoaifonjemlfcaaDoor.AM
namespace Go.Proofs.YtoaifonjemlfcaaDoor.AM
open Go Go.RowKit
def aLT (N : Nat) (l : List Rf) : Prop := ∀ e ∈ l, e.name.size ≤ N
attribute [local irreducible] xM xO xg yE y7 Pre ACG
end Go.Proofs.YtoaifonjemlfcaaDoor.AM
namespace Go.Proofs.YtoaifonjemlfcaaDoor.AM
open Go Go.RowKit
theorem zV {s : St} {Θ : Tab} {t1 t2 t3 : Nat} {y1 y2 y3 : Value} (h1 : s.sl t1 = .v y1) (h2 : s.sl t2 = .v y2) (h3 : s.sl t3 = .v y3) : jd Θ [.tmp t1, .tmp t2, .tmp t3] ⟨.tup [.v y1, .v y2, .v y3], []⟩ .ret s := aKl (aIq h1 trivial) (aIq h2 trivial) (aIq h3 trivial)
attribute [local irreducible] xM xO xg yE y7 Pre ACG
end Go.Proofs.YtoaifonjemlfcaaDoor.AM
namespace Go.Proofs.YtoaifonjemlfcaaDoor.AM
open Go Go.RowKit
def jS (k : Int) : Rf := ⟨uT k, k + 1, k + 1 + 1, decide ((k + 1 + 1 + 1) % 3 = 0)⟩
def yA : Nat → Int → List Rf
 | 0, _ => []
 | n + 1, k => jS k :: yA n (k + 4)
theorem uG : ∀ (n : Nat) (k : Int), (yA n k).length = n
 | 0, _ => rfl
 | n + 1, k => by simp [yA, uG n (k + 4)]
theorem aBs : ∀ (n : Nat) (k0 : Int) (k : Nat) (h : k < n), (yA n k0)[k]'(by rw [uG]; exact h) = jS (k0 + 4 * k)
 | n + 1, k0, 0, h => by simp [yA]
 | n + 1, k0, k + 1, h => by
  have := aBs n (k0 + 4) k (by omega)
  simp only [yA, List.getElem_cons_succ]
  rw [this]; congr 1; omega
theorem aBF : ∀ (n : Nat) (k : Int), yA (n + 1) k = yA n k ++ [jS (k + 4 * n)]
 | 0, k => by simp [yA]
 | n + 1, k => by
  rw [yA, aBF n (k + 4), yA]
  have e : k + 4 + 4 * (n : Int) = k + 4 * ((n + 1 : Nat) : Int) := by omega
  rw [e]; rfl
theorem aDp {α : Type} (l : List α) (k : Nat) (a b c d : α) : (((l.set k a).set k b).set k c).set k d = l.set k d := by simp [List.set_set]
attribute [local irreducible] xM xO xg yE y7 Pre ACG
set_option maxHeartbeats 2000000 in
theorem aFf {n : Nat} {k0 : Int} (hm : n ≤ 1048600) (h0 : 0 ≤ k0) (h1 : k0 ≤ 8388608) : AC Tryd.prog 43 [.lst 4 ((yA n k0).map xh), .v (.int .i64 k0)] ⟨.v (.int .i64 (k0 + 4 * n)), []⟩ := by
 have hml := uG n k0
 refine qrf Tryd.func43 Tryd.ntmps43 Tryd.results43 ?_; conv => whnf
 refine xZ (ι := { k : Nat // k ≤ n }) (fun k => ⟨[(0, .lst 4 ((yA n k0).map xh)), (1, .v (.int .i64 (k0 + 4 * (k.1 : Int)))), (5, .v (.int .i64 (k.1 : Int)))], []⟩) (fun k => n - k.1) ⟨0, Nat.zero_le _⟩ (by
  refine ⟨trivial, .inl ⟨rfl, rfl⟩, .inl ⟨?_, rfl⟩, .inl ⟨rfl, rfl⟩, trivial⟩
  show AV.v (.int .i64 k0) = _
  simp) ?_
 rintro ⟨k, hk⟩
 dsimp only
 conv => whnf
 by_cases hlt : k < n
 · have hlt' : k < (yA n k0).length := by omega
   have hg := aBs n k0 k hlt
   have hg1 : (yA n k0)[k].name = uT (k0 + 4 * k) := by rw [hg]; rfl
   have hg2 : (yA n k0)[k].head = k0 + 4 * k + 1 := by rw [hg]; rfl
   have hg3 : (yA n k0)[k].ver = k0 + 4 * k + 1 + 1 := by rw [hg]; rfl
   have hg4 : (yA n k0)[k].gone = decide ((k0 + 4 * (k : Int) + 1 + 1 + 1) % 3 = 0) := by rw [hg]; rfl
   by_cases hz : (k0 + 4 * (k : Int) + 1 + 1 + 1) % 3 = 0
   · rw [decide_eq_true hz] at hg4
     repeat (first | (refine qz ?_; conv => whnf) | (refine qdr ?_; conv => whnf) | (refine qc (wL (k := k0 + 4 * (k : Int)) (by omega) (by omega)) ?_; conv => whnf) | (refine qp (xG (aBV hg1) rfl rfl rfl) ?_; conv => whnf) | (refine qp (xG (aEX (by omega) (by omega) (by omega) (by omega) rfl) rfl rfl rfl) ?_; conv => whnf) | (rw [hg4]; conv => whnf) | (refine qp (xG (vz Tryd.underlying4) rfl rfl rfl) ?_; rw [hg4]; conv => whnf) | (refine qp (xG (vz Tryd.underlying4) rfl rfl rfl) ?_; conv => whnf))
     refine ⟨⟨k + 1, hlt⟩, ⟨trivial, .inl ⟨rfl, rfl⟩, .inl ⟨?_, rfl⟩, .inl ⟨rfl, rfl⟩, trivial⟩, by simp; omega⟩
     show AV.v (.int .i64 (k0 + 4 * k + 1 + 1 + 1 + 1)) = _
     congr 2
     simp; omega
   · rw [decide_eq_false hz] at hg4
     repeat (first | (refine qz ?_; conv => whnf) | (refine qdr ?_; conv => whnf) | (refine qc (wL (k := k0 + 4 * (k : Int)) (by omega) (by omega)) ?_; conv => whnf) | (refine qp (xG (aBV hg1) rfl rfl rfl) ?_; conv => whnf) | (refine qp (xG (aEX (by omega) (by omega) (by omega) (by omega) rfl) rfl rfl rfl) ?_; conv => whnf) | (rw [hg4]; conv => whnf) | (refine qp (xG (vz Tryd.underlying4) rfl rfl rfl) ?_; rw [hg4]; conv => whnf) | (refine qp (xG (vz Tryd.underlying4) rfl rfl rfl) ?_; conv => whnf))
     refine ⟨⟨k + 1, hlt⟩, ⟨trivial, .inl ⟨rfl, rfl⟩, .inl ⟨?_, rfl⟩, .inl ⟨rfl, rfl⟩, trivial⟩, by simp; omega⟩
     show AV.v (.int .i64 (k0 + 4 * k + 1 + 1 + 1 + 1)) = _
     congr 2
     simp; omega
 · have hkk : k = n := by omega
   subst hkk
   repeat (first | (refine qz ?_; conv => whnf) | (refine qdr ?_; conv => whnf) | (rw [hml]))
   exact xA rfl trivial
end Go.Proofs.YtoaifonjemlfcaaDoor.AM
namespace Go.Proofs.YtoaifonjemlfcaaDoor.AM
open Go Go.RowKit
def wK (t : ByteArray) (at_ : Nat) : Nat → Nat → Nat → Nat → Nat × Nat × Bool
 | 0, _, _, _ => (0, 0, false)
 | f + 1, i, n, u => if h : i < t.size then (if (t[i]).toNat < 128 then (n + (t[i]).toNat % 128 * u, i + 1, decide (n + (t[i]).toNat % 128 * u ≤ 4000000) && (decide (0 < (t[i]).toNat) || decide (i = at_))) else wK t at_ f (i + 1) (n + (t[i]).toNat % 128 * u) (u * 128)) else (0, 0, false)
def yh (t : ByteArray) (at_ : Nat) : Nat × Nat × Bool := wK t at_ 4 at_ 0 1
def kV (t : ByteArray) (at_ : Int) : Int × Int × Int := if 65536 < t.size then (0, 0, 2) else if 0 ≤ at_ ∧ at_ ≤ (t.size : Int) then (if (yh t at_.toNat).2.2 = true then ((yh t at_.toNat).1, (yh t at_.toNat).2.1, 0) else (0, 0, 3)) else (0, 0, 8)
def qL (l : List UInt8) : Int := l.foldl (fun n b => (n * 31 + (b.toNat : Int) + 1) % 1000003) 1
def aAi (t : ByteArray) : Int := qL t.data.toList
theorem aG7 (l : List UInt8) : 0 ≤ qL l ∧ qL l ≤ 1000003 := by
 unfold qL
 have : ∀ (l : List UInt8) (n : Int), 0 ≤ n → n ≤ 1000003 → 0 ≤ l.foldl (fun n b => (n * 31 + (b.toNat : Int) + 1) % 1000003) n ∧ l.foldl (fun n b => (n * 31 + (b.toNat : Int) + 1) % 1000003) n ≤ 1000003 := by
  intro l
  induction l with
  | nil => intro n h1 h2; exact ⟨h1, h2⟩
  | cons b l ih => intro n h1 h2; exact ih ((n * 31 + (b.toNat : Int) + 1) % 1000003) (by omega) (by omega)
 exact this l 1 (by omega) (by omega)
theorem aEM {t : ByteArray} {i : Nat} (h : i < t.size) : qL (t.data.toList.take (i + 1)) = (qL (t.data.toList.take i) * 31 + ((t[i]).toNat : Int) + 1) % 1000003 := by
 have hl : i < t.data.toList.length := by rw [Array.length_toList]; exact h
 unfold qL
 rw [List.take_succ_eq_append_getElem hl, List.foldl_append]
 rfl
attribute [local irreducible] xM xO xg yE y7 Pre ACG
theorem aHT {t : ByteArray} (ht : t.size ≤ maxLen) : AC Tryd.prog 56 [.v (.string t)] ⟨.v (.int .i64 (aAi t)), []⟩ := by
 unfold maxLen at ht
 refine qrf Tryd.func56 Tryd.ntmps56 Tryd.results56 ?_; conv => whnf
 refine xZ (ι := { i : Nat // i ≤ t.size }) (fun i => ⟨[(0, .v (.string t)), (3, .v (.int .i64 (qL (t.data.toList.take i.1)))), (4, .v (.int .i64 (i.1 : Int)))], []⟩) (fun i => t.size - i.1) ⟨0, Nat.zero_le _⟩ (by exact qle) ?_
 rintro ⟨i, hi⟩
 dsimp only
 conv => whnf
 by_cases hlt : i < t.size
 · have hs := aEM hlt
   have hb := aG7 (t.data.toList.take i)
   have h8 := (t[i]).toNat_lt
   generalize qL (t.data.toList.take i) = m at hs hb ⊢
   repeat ((first | refine qp (xG (wO (c := m * 31) rfl (by omega) (by omega)) rfl rfl rfl) ?_ | refine qz ?_ | refine qp (ug (xJ 9) rfl rfl hlt) ?_ | refine qp (qR rfl h8) ?_ | refine qp (xG (jC (by omega) (by omega) hs.symm) rfl rfl rfl) ?_); conv => whnf)
   exact ⟨⟨i + 1, hlt⟩, by exact qle, by simp; omega⟩
 · have e : i = t.size := by omega
   subst e
   have hall : t.data.toList.take t.size = t.data.toList := List.take_of_length_le (by rw [Array.length_toList]; exact Nat.le_refl _)
   repeat ((refine qz ?_; conv => whnf))
   rw [hall]
   exact xA rfl trivial
set_option maxHeartbeats 8000000 in
theorem aCV {t : ByteArray} {at_ : Nat} (ht : t.size ≤ maxLen) (ha : at_ ≤ 1000000000) : AC Tryd.prog 19 [.v (.string t), .v (.int .i64 (at_ : Int))] ⟨.tup [.v (.int .i64 ((yh t at_).1 : Int)), .v (.int .i64 ((yh t at_).2.1 : Int)), .v (.bool (yh t at_).2.2)], []⟩ := by
 unfold maxLen at ht
 refine qrf Tryd.func19 Tryd.ntmps19 Tryd.results19 ?_; conv => whnf
 refine xZ (ι := { p : Nat × Nat × Nat × Nat // p.1 ≤ 4 ∧ p.2.1 = at_ + (4 - p.1) ∧ p.2.2.1 < p.2.2.2 ∧ p.2.2.2 * 128 ^ p.1 = 268435456 ∧ wK t at_ p.1 p.2.1 p.2.2.1 p.2.2.2 = yh t at_ }) (fun p => ⟨[(0, .v (.string t)), (1, .v (.int .i64 (at_ : Int))), (7, .v (.int .i64 (p.1.2.2.1 : Int))), (8, .v (.int .i64 (p.1.2.2.2 : Int))), (9, .v (.int .i64 (p.1.2.1 : Int)))], []⟩) (fun p => p.1.1) ⟨(4, at_, 0, 1), by simp, by simp, by simp, by simp, by simp [yh]⟩ (by exact qle) ?_
 rintro ⟨⟨f, i, n, u⟩, hf, hi, hn, hu, hr⟩
 dsimp only at hf hi hn hu hr ⊢
 conv => whnf
 cases f with
 | zero =>
  rw [← hr]
  by_cases hlt : i < t.size
  · repeat ((refine qz ?_; conv => whnf))
    exact zV rfl rfl rfl
  · repeat ((refine qz ?_; conv => whnf))
    exact zV rfl rfl rfl
 | succ f =>
  unfold wK at hr
  by_cases hlt : i < t.size
  case neg =>
   rw [dif_neg hlt] at hr
   rw [← hr]
   repeat ((refine qz ?_; conv => whnf))
   exact zV rfl rfl rfl
  rw [dif_pos hlt] at hr
  have h8 := (t[i]).toNat_lt
  have hu2 : u ≤ 2097152 := by
   have h1 : 128 ≤ 128 ^ (f + 1) := by rw [Nat.pow_succ]; have := Nat.pow_pos (n := f) (show 0 < 128 by omega); omega
   have h2 := Nat.mul_le_mul_left u h1
   omega
  have hM : (t[i]).toNat % 128 * u ≤ 127 * u := Nat.mul_le_mul_right u (by omega)
  obtain ⟨M, eM⟩ : ∃ M, (t[i]).toNat % 128 * u = M := ⟨_, rfl⟩
  rw [eM] at hr hM
  have hmul : (((t[i]).toNat % 128 : Nat) : Int) * (u : Int) = (M : Int) := by rw [← eM]; simp
  have hv : u * 128 * 128 ^ f = 268435456 := by rw [Nat.mul_assoc, Nat.mul_comm 128, ← Nat.pow_succ]; exact hu
  clear hu eM
  by_cases hb : (t[i]).toNat < 128
  · rw [if_pos hb] at hr
    rw [← hr]
    cases d1 : decide (n + M ≤ 4000000) <;> cases d2 : decide (0 < (t[i]).toNat) <;> cases d3 : decide (i = at_)
    all_goals
     simp only [decide_eq_true_eq, decide_eq_false_iff_not] at d1 d2 d3
     simp only [Bool.and_true, Bool.true_and, Bool.or_true, Bool.true_or, Bool.or_false, Bool.false_or, Bool.and_false, Bool.false_and]
     repeat ((first | refine qp (ug (xJ 9) rfl rfl hlt) ?_ | refine qp (qR rfl h8) ?_ | refine qp (xG (jC (c := (((t[i]).toNat % 128 : Nat) : Int)) (by omega) (by omega) (by omega)) rfl rfl rfl) ?_ | refine qp (xG (wO hmul (by omega) (by omega)) rfl rfl rfl) ?_ | refine qp (xG (wO (c := ((u * 128 : Nat) : Int)) (by omega) (by omega) (by omega)) rfl rfl rfl) ?_ | refine qp (xG (uy (c := ((n + M : Nat) : Int)) (by omega) (by omega) (by omega)) rfl rfl rfl) ?_ | refine qz ?_); conv => whnf)
     exact zV rfl rfl rfl
  · rw [if_neg hb] at hr
    repeat ((first | refine qp (ug (xJ 9) rfl rfl hlt) ?_ | refine qp (qR rfl h8) ?_ | refine qp (xG (jC (c := (((t[i]).toNat % 128 : Nat) : Int)) (by omega) (by omega) (by omega)) rfl rfl rfl) ?_ | refine qp (xG (wO hmul (by omega) (by omega)) rfl rfl rfl) ?_ | refine qp (xG (wO (c := ((u * 128 : Nat) : Int)) (by omega) (by omega) (by omega)) rfl rfl rfl) ?_ | refine qp (xG (uy (c := ((n + M : Nat) : Int)) (by omega) (by omega) (by omega)) rfl rfl rfl) ?_ | refine qz ?_); conv => whnf)
    exact ⟨⟨(f, i + 1, n + M, u * 128), by dsimp only; omega, by dsimp only; omega, by dsimp only; omega, hv, hr⟩, by exact qle, by dsimp only; omega⟩
theorem aI6 {t : ByteArray} {x : Int} (ht : t.size ≤ maxLen) : AC Tryd.prog 6 [.v (.string t), .v (.int .i64 x)] ⟨.tup [.v (.int .i64 (kV t x).1), .v (.int .i64 (kV t x).2.1), .v (.int .i64 (kV t x).2.2)], []⟩ := by
 have ht' := ht
 unfold maxLen at ht'
 unfold kV
 by_cases h0 : 65536 < t.size
 · rw [if_pos h0]
   refine qrf Tryd.func6 Tryd.ntmps6 Tryd.results6 ?_; conv => whnf
   repeat ((refine qz ?_; conv => whnf))
   exact zV rfl rfl rfl
 rw [if_neg h0]
 by_cases h1 : 0 ≤ x ∧ x ≤ (t.size : Int)
 case neg =>
  rw [if_neg h1]
  refine qrf Tryd.func6 Tryd.ntmps6 Tryd.results6 ?_; conv => whnf
  repeat ((first | refine qz ?_ | refine qc (jY h1) ?_); conv => whnf)
  exact zV rfl rfl rfl
 rw [if_pos h1]
 obtain ⟨m, rfl⟩ : ∃ m : Nat, x = m := ⟨x.toNat, by omega⟩
 have c1 := aCV (t := t) (at_ := m) ht (by omega)
 rw [Int.toNat_natCast]
 generalize yh t m = R at c1 ⊢
 obtain ⟨a, b, c⟩ := R
 dsimp only at c1 ⊢
 cases c
 all_goals
  refine qrf Tryd.func6 Tryd.ntmps6 Tryd.results6 ?_; conv => whnf
  repeat ((first | refine qz ?_ | refine qc (zh h1.1 h1.2) ?_ | refine qc (c1) ?_); conv => whnf)
  exact zV rfl rfl rfl
end Go.Proofs.YtoaifonjemlfcaaDoor.AM
namespace Go.Proofs.YtoaifonjemlfcaaDoor.AM
open Go Go.RowKit
theorem aG8 {t : ByteArray} {a : Nat} : ∀ {f i n u : Nat}, (wK t a f i n u).2.2 = true → (wK t a f i n u).2.1 ≤ t.size ∧ i < (wK t a f i n u).2.1 ∧ (wK t a f i n u).1 ≤ 4000000
 | 0, i, n, u, h => by simp [wK] at h
 | f + 1, i, n, u, h => by
  unfold wK at h ⊢
  split at h
  · rename_i hi
    rw [dif_pos hi]
    split at h
    · rename_i hb
      rw [if_pos hb]
      simp only [Bool.and_eq_true, decide_eq_true_eq] at h
      exact ⟨hi, Nat.lt_succ_self _, h.1⟩
    · rename_i hb
      rw [if_neg hb]
      have := aG8 h
      exact ⟨this.1, by omega, this.2.2⟩
  · simp at h
theorem aKB {t : ByteArray} {a : Nat} (h : (yh t a).2.2 = true) : (yh t a).2.1 ≤ t.size ∧ a < (yh t a).2.1 ∧ (yh t a).1 ≤ 4000000 := aG8 h
abbrev Rds := Nat × Bool
def rdN (t : ByteArray) (s : Rds) : Nat × Rds := if s.2 = true ∨ (yh t s.1).2.2 = false then (0, (s.1, true)) else ((yh t s.1).1, ((yh t s.1).2.1, false))
def rdC (t : ByteArray) (most : Nat) (s : Rds) : Nat × Rds := if most < (rdN t s).1 then (0, ((rdN t s).2.1, true)) else rdN t s
def rdW (t : ByteArray) (s : Rds) : ByteArray × Rds := if (rdC t 12 s).2.2 = true ∨ t.size < (rdC t 12 s).2.1 + (rdC t 12 s).1 then (⟨#[]⟩, ((rdC t 12 s).2.1, true)) else (t.extract (rdC t 12 s).2.1 ((rdC t 12 s).2.1 + (rdC t 12 s).1), ((rdC t 12 s).2.1 + (rdC t 12 s).1, false))
def rdS (t : ByteArray) (s : Rds) : Int × Rds := (if (rdN t s).1 % 2 = 1 then -((((rdN t s).1 + 1) / 2 : Nat) : Int) else (((rdN t s).1 / 2 : Nat) : Int), (rdN t s).2)
def yH (t : ByteArray) (s : Rds) : Prop := t.size ≤ 1000000 ∧ s.1 ≤ t.size
theorem zN {t : ByteArray} {s : Rds} (h : yH t s) : yH t (rdN t s).2 ∧ (rdN t s).1 ≤ 4000000 := by
 unfold rdN
 split
 · exact ⟨h, by simp⟩
 · rename_i hn
   have h2 : (yh t s.1).2.2 = true := by
    cases hb : (yh t s.1).2.2 with
    | true => rfl
    | false => exact absurd (.inr hb) hn
   have := aKB h2
   exact ⟨⟨h.1, this.1⟩, this.2.2⟩
theorem yS {t : ByteArray} {m : Nat} {s : Rds} (h : yH t s) : yH t (rdC t m s).2 ∧ (rdC t m s).1 ≤ m := by
 have := zN h
 unfold rdC
 split
 · exact ⟨this.1, by simp⟩
 · exact ⟨this.1, by omega⟩
theorem wU {t : ByteArray} {s : Rds} (h : yH t s) : yH t (rdW t s).2 := by
 have := (yS (m := 12) h).1
 unfold rdW
 split
 · exact this
 · rename_i hn
   exact ⟨h.1, by have : ¬ (t.size < (rdC t 12 s).2.1 + (rdC t 12 s).1) := fun q => hn (.inr q); dsimp only; omega⟩
theorem aCz {t : ByteArray} {s : Rds} (h : yH t s) : yH t (rdS t s).2 := (zN h).1
def aLZ (t : ByteArray) (s : Rds) : AV := .agg [.v (.string t), .v (.int .i64 (s.1 : Int)), .v (.bool s.2)]
abbrev vQ (t : ByteArray) (s : Rds) : OB := ⟨48, 3, [aLZ t s]⟩
theorem uI {s : St} {Θ : Tab} {r : Nat} {v : Value} {o1 : OB} (h1 : s.sl r = .v v) (h2 : s.hp 0 = some o1) : yE Θ [.tmp r] [o1] ⟨.v v, []⟩ .ret s := ⟨⟨h2, trivial⟩, [], by simp, trivial, ⟨trivial, trivial⟩, trivial, ⟨.inl ⟨h1, rfl⟩, trivial⟩⟩
section
variable {Θ : Tab} {s : St} {d : Option Tmp} {ty : TypeId} {pos : String} {after : Array Edge} {g : Option (Nat × Bool)}
theorem aJQ {x lo hi : Operand} {a : ByteArray} {k k' : IntKind} {i j : Nat} (hij : i ≤ j) (hj : j ≤ a.size) (hx : s.ev x = .v (.string a)) (hl : s.ev lo = .v (.int k (i : Int))) (hh : s.ev hi = .v (.int k' (j : Int))) : Pre Tryd.prog Θ ⟨d, .slice 9 x (some lo) (some hi) none, ty, pos, after, g⟩ s ⟨.v (.string (a.extract i j)), none⟩ := by
 refine .inl ⟨.string a, .string (a.extract i j), by rw [hx]; rfl, fun y hy => ?_, fun w => ?_, rfl, rfl⟩
 · simp only [Option.toList, List.append_nil, List.cons_append, List.nil_append, List.mem_cons, List.not_mem_nil, or_false] at hy
   rcases hy with rfl | rfl
   · rw [hl]; rfl
   · rw [hh]; rfl
 · simp only [Option.map_some, Option.map_none, hl, hh, yK, Option.getD_some]
   rw [run_sliceAt_string w _ _ _ _ _ Tryd.underlying9]
   have := run_slice_string (P := Tryd.prog) w 9 a k k' (i : Int) (j : Int) Tryd.underlying9 (by omega) (by omega) (by omega)
   simpa using this
theorem aJP {x : Operand} {a c : Int} (h : c = -a) (hl : -9223372036854775808 ≤ c) (hu : c ≤ 9223372036854775807) {t : TypeId} (hx : s.ev x = .v (.int .i64 a)) : Pre Tryd.prog Θ ⟨d, .unOp .neg t x, ty, pos, after, g⟩ s ⟨.v (.int .i64 c), none⟩ := by
 refine ⟨_, _, by rw [hx]; rfl, fun w => ?_, rfl, rfl⟩
 subst h
 have hw : IntKind.i64.wrap (-a) = -a := by rw [IntKind.wrap_i64]; omega
 simp [Op.unary, Op.intArith, hw]
theorem aH3 {P : Program} {t : TypeId} {x y : Operand} {a b c : Int} (h0 : 0 ≤ a) (h1 : a ≤ 1000000000000) (hb : 1 < b) (hc : a / b = c) : yZ P .quo t x y (.int .i64 (-a)) (.int .i64 b) (.int .i64 (-c)) := fun w => by
 have hb0 : b ≠ 0 := by omega
 have hle : a / b ≤ a := Int.ediv_le_self b h0
 have hnn : 0 ≤ a / b := Int.ediv_nonneg h0 (by omega)
 have hw : IntKind.i64.wrap (-a.tdiv b) = -c := by rw [Int.tdiv_eq_ediv_of_nonneg h0, IntKind.wrap_i64, hc]; omega
 have hr : (Op.intDiv .quo .i64 (-a) b).run P w = .ok (.int .i64 (-c)) w := by simp [Op.intDiv, hb0, hw]
 simp [eqGuard, binOp, hr]
end
attribute [local irreducible] xM xO xg yE y7 Pre ACG
theorem jf {t : ByteArray} {s : Rds} (h : yH t s) : ACG Tryd.prog 45 [.optr 0 0 [] 0] [vQ t s] [vQ t (rdN t s).2] ⟨.v (.int .i64 ((rdN t s).1 : Int)), []⟩ := by
 have c1 := aCV (t := t) (at_ := s.1) (by unfold maxLen; have := h.1; omega) (by have := h.1; have := h.2; omega)
 unfold rdN
 obtain ⟨a, bad⟩ := s
 dsimp only at c1 ⊢
 generalize yh t a = R at c1 ⊢
 obtain ⟨n, nx, ok⟩ := R
 dsimp only at c1 ⊢
 refine xX (rs := [.tmp 2]) xJ (by kernel_rfl) Tryd.func45 rfl Tryd.ntmps45 (by rw [Tryd.results45]) (by kernel_rfl) (by simp) rfl rfl (xE _ _ _ ?_); conv => whnf
 cases bad <;> cases ok
 all_goals
  repeat ((first | refine qz ?_ | refine qdr ?_ | refine qc (c1) ?_ | refine qst ?_); conv => whnf)
  exact uI rfl rfl
theorem je {t : ByteArray} {s : Rds} {m : Nat} (h : yH t s) (hm : m ≤ 1000000) : ACG Tryd.prog 44 [.optr 0 0 [] 0, .v (.int .i64 (m : Int))] [vQ t s] [vQ t (rdC t m s).2] ⟨.v (.int .i64 ((rdC t m s).1 : Int)), []⟩ := by
 have c1 := jf h
 have hb := (zN h).2
 unfold rdC
 generalize rdN t s = R at c1 hb ⊢
 obtain ⟨n, a, bad⟩ := R
 dsimp only at c1 hb ⊢
 by_cases hc : m < n
 · rw [if_pos hc]
   refine xX (rs := [.tmp 4]) xJ (by kernel_rfl) Tryd.func44 rfl Tryd.ntmps44 (by rw [Tryd.results44]) (by kernel_rfl) (by simp) rfl rfl (xE _ _ _ ?_); conv => whnf
   repeat ((first | refine qz ?_ | refine qdr ?_ | refine qr (xB [0] (c1) rfl rfl (by first | exact ⟨rfl, trivial⟩ | exact ⟨rfl, rfl, trivial⟩ | exact ⟨rfl, rfl, rfl, trivial⟩) rfl rfl (by first | exact trivial | exact ⟨⟨rfl, rfl, rfl⟩, trivial⟩ | exact ⟨⟨rfl, rfl, rfl⟩, ⟨rfl, rfl, rfl⟩, trivial⟩ | exact ⟨⟨rfl, rfl, rfl⟩, ⟨rfl, rfl, rfl⟩, ⟨rfl, rfl, rfl⟩, trivial⟩) rfl rfl rfl (.inl rfl) rfl) ?_ | refine qst ?_); conv => whnf)
   exact uI rfl rfl
 · rw [if_neg hc]
   refine xX (rs := [.tmp 4]) xJ (by kernel_rfl) Tryd.func44 rfl Tryd.ntmps44 (by rw [Tryd.results44]) (by kernel_rfl) (by simp) rfl rfl (xE _ _ _ ?_); conv => whnf
   repeat ((first | refine qz ?_ | refine qdr ?_ | refine qr (xB [0] (c1) rfl rfl (by first | exact ⟨rfl, trivial⟩ | exact ⟨rfl, rfl, trivial⟩ | exact ⟨rfl, rfl, rfl, trivial⟩) rfl rfl (by first | exact trivial | exact ⟨⟨rfl, rfl, rfl⟩, trivial⟩ | exact ⟨⟨rfl, rfl, rfl⟩, ⟨rfl, rfl, rfl⟩, trivial⟩ | exact ⟨⟨rfl, rfl, rfl⟩, ⟨rfl, rfl, rfl⟩, ⟨rfl, rfl, rfl⟩, trivial⟩) rfl rfl rfl (.inl rfl) rfl) ?_ | refine qst ?_); conv => whnf)
   exact uI rfl rfl
set_option maxHeartbeats 4000000 in
theorem aHX {t : ByteArray} {s : Rds} (h : yH t s) : ACG Tryd.prog 47 [.optr 0 0 [] 0] [vQ t s] [vQ t (rdS t s).2] ⟨.v (.int .i64 (rdS t s).1), []⟩ := by
 have c1 := jf h
 have hb := (zN h).2
 unfold rdS
 generalize rdN t s = R at c1 hb ⊢
 obtain ⟨n, a, bad⟩ := R
 dsimp only at c1 hb ⊢
 by_cases hc : n % 2 = 1
 · rw [if_pos hc]
   refine xX (rs := [.tmp 2]) xJ (by kernel_rfl) Tryd.func47 rfl Tryd.ntmps47 (by rw [Tryd.results47]) (by kernel_rfl) (by simp) rfl rfl (xE _ _ _ ?_); conv => whnf
   repeat ((first | refine qp (xG (jC (c := ((n % 2 : Nat) : Int)) (by omega) (by omega) (by omega)) rfl rfl rfl) ?_ | refine qp (xG (uy (c := ((n + 1 : Nat) : Int)) (by omega) (by omega) (by omega)) rfl rfl rfl) ?_ | refine qz ?_ | refine qdr ?_ | refine qr (xB [0] (c1) rfl rfl (by first | exact ⟨rfl, trivial⟩ | exact ⟨rfl, rfl, trivial⟩ | exact ⟨rfl, rfl, rfl, trivial⟩) rfl rfl (by first | exact trivial | exact ⟨⟨rfl, rfl, rfl⟩, trivial⟩ | exact ⟨⟨rfl, rfl, rfl⟩, ⟨rfl, rfl, rfl⟩, trivial⟩ | exact ⟨⟨rfl, rfl, rfl⟩, ⟨rfl, rfl, rfl⟩, ⟨rfl, rfl, rfl⟩, trivial⟩) rfl rfl rfl (.inl rfl) rfl) ?_ | refine qp (aJP (c := -((n + 1 : Nat) : Int)) rfl (by omega) (by omega) rfl) ?_ | refine qp (xG (aH3 (c := (((n + 1) / 2 : Nat) : Int)) (by omega) (by omega) (by omega) (by omega)) rfl rfl rfl) ?_); conv => whnf)
   exact uI rfl rfl
 · rw [if_neg hc]
   refine xX (rs := [.tmp 2]) xJ (by kernel_rfl) Tryd.func47 rfl Tryd.ntmps47 (by rw [Tryd.results47]) (by kernel_rfl) (by simp) rfl rfl (xE _ _ _ ?_); conv => whnf
   repeat ((first | refine qp (xG (jC (c := ((n % 2 : Nat) : Int)) (by omega) (by omega) (by omega)) rfl rfl rfl) ?_ | refine qz ?_ | refine qdr ?_ | refine qr (xB [0] (c1) rfl rfl (by first | exact ⟨rfl, trivial⟩ | exact ⟨rfl, rfl, trivial⟩ | exact ⟨rfl, rfl, rfl, trivial⟩) rfl rfl (by first | exact trivial | exact ⟨⟨rfl, rfl, rfl⟩, trivial⟩ | exact ⟨⟨rfl, rfl, rfl⟩, ⟨rfl, rfl, rfl⟩, trivial⟩ | exact ⟨⟨rfl, rfl, rfl⟩, ⟨rfl, rfl, rfl⟩, ⟨rfl, rfl, rfl⟩, trivial⟩) rfl rfl rfl (.inl rfl) rfl) ?_ | refine qp (xG (aH2 (c := ((n / 2 : Nat) : Int)) (by omega) (by omega) (by omega) (by omega)) rfl rfl rfl) ?_); conv => whnf)
   exact uI rfl rfl
set_option maxHeartbeats 4000000 in
theorem aEk {t : ByteArray} {s : Rds} (h : yH t s) : ACG Tryd.prog 46 [.optr 0 0 [] 0] [vQ t s] [vQ t (rdW t s).2] ⟨.v (.string (rdW t s).1), []⟩ := by
 have c1 := je (m := 12) h (by omega)
 have hb := yS (m := 12) h
 have hsz := h.1
 unfold rdW
 generalize rdC t 12 s = R at c1 hb ⊢
 obtain ⟨n, a, bad⟩ := R
 dsimp only at c1 hb ⊢
 obtain ⟨⟨_, hb1⟩, hb2⟩ := hb
 dsimp only at hb1 hb2
 cases bad
 case true =>
  rw [if_pos (.inl rfl)]
  refine xX (rs := [.tmp 2]) xJ (by kernel_rfl) Tryd.func46 rfl Tryd.ntmps46 (by rw [Tryd.results46]) (by kernel_rfl) (by simp) rfl rfl (xE _ _ _ ?_); conv => whnf
  repeat ((first | refine qz ?_ | refine qdr ?_ | refine qr (xB [0] (c1) rfl rfl (by first | exact ⟨rfl, trivial⟩ | exact ⟨rfl, rfl, trivial⟩ | exact ⟨rfl, rfl, rfl, trivial⟩) rfl rfl (by first | exact trivial | exact ⟨⟨rfl, rfl, rfl⟩, trivial⟩ | exact ⟨⟨rfl, rfl, rfl⟩, ⟨rfl, rfl, rfl⟩, trivial⟩ | exact ⟨⟨rfl, rfl, rfl⟩, ⟨rfl, rfl, rfl⟩, ⟨rfl, rfl, rfl⟩, trivial⟩) rfl rfl rfl (.inl rfl) rfl) ?_ | refine qst ?_); conv => whnf)
  exact uI rfl rfl
 by_cases hc : t.size < a + n
 · rw [if_pos (.inr hc)]
   refine xX (rs := [.tmp 2]) xJ (by kernel_rfl) Tryd.func46 rfl Tryd.ntmps46 (by rw [Tryd.results46]) (by kernel_rfl) (by simp) rfl rfl (xE _ _ _ ?_); conv => whnf
   repeat ((first | refine qp (xG (uy (c := ((a + n : Nat) : Int)) (by omega) (by omega) (by omega)) rfl rfl rfl) ?_ | refine qz ?_ | refine qdr ?_ | refine qr (xB [0] (c1) rfl rfl (by first | exact ⟨rfl, trivial⟩ | exact ⟨rfl, rfl, trivial⟩ | exact ⟨rfl, rfl, rfl, trivial⟩) rfl rfl (by first | exact trivial | exact ⟨⟨rfl, rfl, rfl⟩, trivial⟩ | exact ⟨⟨rfl, rfl, rfl⟩, ⟨rfl, rfl, rfl⟩, trivial⟩ | exact ⟨⟨rfl, rfl, rfl⟩, ⟨rfl, rfl, rfl⟩, ⟨rfl, rfl, rfl⟩, trivial⟩) rfl rfl rfl (.inl rfl) rfl) ?_ | refine qst ?_); conv => whnf)
   exact uI rfl rfl
 · rw [if_neg (by intro q; rcases q with q | q; exact absurd q (by simp); exact hc q)]
   refine xX (rs := [.tmp 2]) xJ (by kernel_rfl) Tryd.func46 rfl Tryd.ntmps46 (by rw [Tryd.results46]) (by kernel_rfl) (by simp) rfl rfl (xE _ _ _ ?_); conv => whnf
   repeat ((first | refine qp (xG (uy (c := ((a + n : Nat) : Int)) (by omega) (by omega) (by omega)) rfl rfl rfl) ?_ | refine qp (xG (wB (c := (a : Int)) (by omega) (by omega) (by omega)) rfl rfl rfl) ?_ | refine qp (aJQ (i := a) (j := a + n) (by omega) (by omega) rfl rfl rfl) ?_ | refine qz ?_ | refine qdr ?_ | refine qr (xB [0] (c1) rfl rfl (by first | exact ⟨rfl, trivial⟩ | exact ⟨rfl, rfl, trivial⟩ | exact ⟨rfl, rfl, rfl, trivial⟩) rfl rfl (by first | exact trivial | exact ⟨⟨rfl, rfl, rfl⟩, trivial⟩ | exact ⟨⟨rfl, rfl, rfl⟩, ⟨rfl, rfl, rfl⟩, trivial⟩ | exact ⟨⟨rfl, rfl, rfl⟩, ⟨rfl, rfl, rfl⟩, ⟨rfl, rfl, rfl⟩, trivial⟩) rfl rfl rfl (.inl rfl) rfl) ?_ | refine qst ?_); conv => whnf)
   exact uI rfl rfl
end Go.Proofs.YtoaifonjemlfcaaDoor.AM
namespace Go.Proofs.YtoaifonjemlfcaaDoor
open Go Go.RowKit
abbrev pvM : Value := .iface 98 (.agg #[])
set_option maxHeartbeats 1000000 in
theorem aJg (w : World) : Calls Tryd.prog 73 #[.bool false] w fun e w' => e = .panicked [{ v := pvM, recovered := false }] ∧ w' = w := by
 have hnot : ∀ (x : Bool) (w : World), (Op.unary .not (.bool x)).run Tryd.prog w = .ok (.bool (!x)) w := fun _ _ => rfl
 go_enter Tryd.func73, Tryd.ntmps73
 go_wp2
 exact ⟨rfl, rfl, rfl⟩
set_option maxHeartbeats 4000000 in
theorem aHK (s : ByteArray) (w : World) (hlim : s.size ≤ 281474976710656) :
 Calls Tryd.prog 89 #[.string s] w fun e w' => e = .returned (.string s) ∧ Below w.heap.size w w' := by
 by_cases h0 : s.size = 0
 · have hs : s = ⟨#[]⟩ := by
    apply ByteArray.ext
    exact Array.eq_empty_of_size_eq_zero h0
   subst hs
   go_enter Tryd.func89, Tryd.ntmps89
   go_wp2
   go_ret
   exact ⟨rfl, Below.refl _ _⟩
 · obtain ⟨i0, hi, hz0, hz1, hz2⟩ := info_parts (show (Tryd.prog.info? 5).map (fun i => (i.zero, i.size, i.bytes)) = some (some (.int .u8 0), 1, 1) from by kernel_rfl)
   have hinfo : (Tryd.prog.info? 5).map (·.size) = some 1 := by rw [hi]; simp [hz1]
   have hco : Tryd.prog.cellsOf 5 = 1 := by kernel_rfl
   have hptr : Tryd.prog.underlying 100 = some (.pointer 5) := by kernel_rfl
   obtain ⟨M, hM⟩ : ∃ M, M = madeCells (Value.int .u8 0).cells (((s.size : Nat) : Int).toNat * i0.size) := ⟨_, rfl⟩
   have hMs : M.size = s.size := by rw [hM, size_madeCells, hz1]; simp
   have hmk : ∀ W : World, (Instr.makeSlice 87 (.int .i64 (s.size : Int)) (.int .i64 (s.size : Int))).run Tryd.prog W = .ok (.slice (some ⟨W.heap.size, 0, none⟩) s.size s.size) (W.alloc (.cells M 5)) := fun W => by
    have h := run_make (P := Tryd.prog) W 87 5 i0 (.int .u8 0) Tryd.underlying87 hi hz0 .i64 .i64 (s.size : Int) (s.size : Int) (by omega) (by omega) (by rw [hz2]; omega) (by omega)
    rw [← hM] at h
    simpa using h
   clear hM
   have hcp := Lib.run_copy_row_string (P := Tryd.prog) (w.alloc (.cells M 5)) 87 9 3 5 w.heap.size 0 s.size s.size s M 5 Tryd.underlying87 hinfo (heap_alloc_new w _) (Nat.le_refl _) (by omega)
   obtain ⟨Y, hY⟩ : ∃ Y, Y = (M.toList.take 0 ++ Lib.byteCells s.data.toList ++ M.toList.drop (0 + s.size)).toArray := ⟨_, rfl⟩
   rw [← hY] at hcp
   have hYl : Y.toList = Lib.byteCells s.data.toList := by
    rw [hY, List.toList_toArray, List.take_zero, List.nil_append, List.drop_of_length_le (by rw [Array.length_toList]; omega), List.append_nil]
   have hYs : Y.size = s.size := by rw [← Array.length_toList, hYl, Lib.byteCells_length, ← Lib.size_eq]
   have hgY : ((w.alloc (.cells M 5)).setRow w.heap.size Y).heap[w.heap.size]? = some (.cells Y 5 (0, 0)) := setRow_heap _ _ M _ 5 (0, 0) (heap_alloc_new w _)
   have hne : s.data.toList ≠ [] := fun e => h0 (by rw [Lib.size_eq, e]; rfl)
   have hUS := Lib.run_unsafeString_row (P := Tryd.prog) ((w.alloc (.cells M 5)).setRow w.heap.size Y) 100 3 9 5 hptr hco w.heap.size Y.size (by unfold World.shape?; rw [hgY]) s.data.toList hne (by rw [← Lib.size_eq]; omega) (by rw [← Lib.size_eq]; omega)
    (fun j x hx => Lib.cells_of_row hgY Y.size j _ (by rw [List.take_of_length_le (by rw [Array.length_toList]; exact Nat.le_refl _), hYl]; simp [Lib.byteCells, hx]))
   rw [← Lib.size_eq] at hUS
   clear hY
   go_enter Tryd.func89, Tryd.ntmps89
   go_wp2
   go_ret
   have hb1 : Below w.heap.size w (w.alloc (.cells M 5)) := (Below.refl _ w).alloc (Nat.le_refl _) _
   have hb2 : Below w.heap.size (w.alloc (.cells M 5)) ((w.alloc (.cells M 5)).setRow w.heap.size Y) := ⟨rfl, rfl, rfl, by simp, fun k hk => setRow_other _ _ _ _ (by omega)⟩
   exact ⟨rfl, Lib.below_freeze (hb1.trans hb2) (p := ⟨w.heap.size, 0, none⟩) (Nat.le_refl _) _⟩
end Go.Proofs.YtoaifonjemlfcaaDoor
namespace Go.Proofs.YtoaifonjemlfcaaDoor.AM
open Go Go.RowKit
theorem aL0 {S : Nat → Prop} {w : World} {hp : Nat → Option OB} {B : Nat → Nat} {V : Nat → Value} {x u : Value} (h : RV S w hp B V (.v x) u) : u = x := by unfold RV at h; exact h.1
theorem aIR {S : Nat → Prop} {w : World} {hp : Nat → Option OB} {B : Nat → Nat} {V : Nat → Value} {x : Value} {us : List Value} (h : RVs S w hp B V [.v x] us) : us = [x] := by
 unfold RVs at h
 obtain ⟨u, us', rfl, h1, h2⟩ := h
 unfold RVs at h2
 subst h2
 rw [aL0 h1]
theorem aKH {P : Program} {f : FuncId} {args : List AV} {v : Value} (hent : ∀ vs w, (callFunc f vs).run P w = .ok (.enter f vs) w) (hv : v.oneCell' = true)
 (h : ∀ (w : World) (S0 : Nat → Prop) (us : List Value), RVs S0 w (xC 0 []) (fun _ => 0) (fun _ => undef) args us → Calls P f us.toArray w fun e w' => e = .returned v ∧ Below w.heap.size w w') : AC P f args ⟨.v v, []⟩ := by
 refine ⟨hent, fun w S0 B0 V0 T0 vs hS _ _ hv' => (h w S0 vs (aAf (fun _ => rfl) hv')).mono fun e w' ⟨he, hb⟩ => ?_⟩
 exact ⟨v, S0, fun _ => 0, fun _ => undef, fun _ => Fa, fun _ => Fa, he, Grown.of hb _, fun _ h => h, fun b hb' => ⟨Nat.lt_of_lt_of_le (hS b hb') hb.size, .inl hb'⟩, (by unfold RV; exact ⟨rfl, hv⟩), kC j6, kC (fun _ => rfl), fun l l' ob ob' g e => by rw [j6] at e; cases e⟩
theorem aJY {P : Program} {f : FuncId} {args : List AV} {pv : Value} (hent : ∀ vs w, (callFunc f vs).run P w = .ok (.enter f vs) w)
 (h : ∀ (w : World) (S0 : Nat → Prop) (us : List Value), RVs S0 w (xC 0 []) (fun _ => 0) (fun _ => undef) args us → Calls P f us.toArray w fun e w' => e = .panicked [{ v := pv, recovered := false }] ∧ Below w.heap.size w w') : ACP P f args [] pv := by
 refine ⟨hent, fun w S0 B0 V0 T0 vs hS _ _ hv' => (h w S0 vs (aAf (fun _ => rfl) hv')).mono fun e w' ⟨he, hb⟩ => ⟨he, Grown.of hb _⟩⟩
theorem aK4 : ∀ vs w, (callFunc 73 vs).run Tryd.prog w = .ok (.enter 73 vs) w := wQ Tryd.func73 (by kernel_rfl) (by kernel_rfl)
theorem jh : ACP Tryd.prog 73 [.v (.bool false)] [] pvM := by
 refine aJY aK4 fun w S0 us hv => ?_
 rw [aIR hv]
 refine (aJg w).mono ?_
 rintro e w' ⟨rfl, rfl⟩
 exact ⟨rfl, Below.refl _ _⟩
theorem aK6 : ∀ vs w, (callFunc 89 vs).run Tryd.prog w = .ok (.enter 89 vs) w := wQ Tryd.func89 (by kernel_rfl) (by kernel_rfl)
theorem aHZ {t : ByteArray} (ht : t.size ≤ 1000000) : AC Tryd.prog 89 [.v (.string t)] ⟨.v (.string t), []⟩ := by
 refine aKH aK6 rfl fun w S0 us hv => ?_
 rw [aIR hv]
 exact aHK t w (by omega)
section
variable {P : Program} {t : TypeId} {x y : Operand}
theorem aHM (n : Int) (h0 : 0 ≤ n) (h1 : n < 2 ^ 62) : IntKind.i64.wrap n = n := by rw [IntKind.wrap_i64]; omega
theorem aC1 {n : Nat} (h : n < 2 ^ 62) {c : Int} (hc : c = ((n % 128 : Nat) : Int)) : yZ P .and t x y (.int .i64 (n : Int)) (.int .i64 127) (.int .i64 c) := fun w => by
 have := bits_mask .i64 62 (by decide) aHM 7 (by decide) (n : Int) (by omega) (by exact_mod_cast h)
 have e : bits .and .i64 (n : Int) 127 = c := by rw [show (127 : Int) = 2 ^ 7 - 1 from by decide, this, hc]; omega
 have e2 : Op.intBits .and .i64 (n : Int) 127 = pure (.int .i64 c) := by rw [← e]; rfl
 simp [eqGuard, binOp, e2]
theorem aEW {a b i : Nat} (ha : a < 2 ^ i) (hb : b % 2 ^ i = 0) (hb1 : b < 2 ^ 62) (hi : i ≤ 62) {c : Int} (hc : c = ((a + b : Nat) : Int)) : yZ P .or t x y (.int .i64 (a : Int)) (.int .i64 (b : Int)) (.int .i64 c) := fun w => by
 have hai : a < 2 ^ 62 := Nat.lt_of_lt_of_le ha (Nat.pow_le_pow_right (by decide) hi)
 have e : bits .or .i64 (a : Int) (b : Int) = c := by
  rw [(bits_nat .i64 62 (by decide) aHM a b hai hb1).2, hc, Nat.or_comm]
  have hq : b = 2 ^ i * (b / 2 ^ i) := by have := Nat.div_add_mod b (2 ^ i); omega
  rw [hq, ← Nat.two_pow_add_eq_or_of_lt ha (b / 2 ^ i), Nat.add_comm]
 have e2 : Op.intBits .or .i64 (a : Int) (b : Int) = pure (.int .i64 c) := by rw [← e]; rfl
 simp [eqGuard, binOp, e2]
theorem aEY {a : Nat} {i : Int} (h0 : 0 ≤ i) (hi : i ≤ 30) (ha : a < 128) {c : Int} (hc : c = (a : Int) * 2 ^ i.toNat) : yZ P .shl t x y (.int .i64 (a : Int)) (.int .i64 i) (.int .i64 c) := fun w => by
 have h1 : (2 : Int) ^ i.toNat ≤ 2 ^ 30 := by exact_mod_cast Nat.pow_le_pow_right (show 0 < 2 by decide) (show i.toNat ≤ 30 by omega)
 have h2 : (0 : Int) ≤ 2 ^ i.toNat := Int.pow_nonneg (by decide)
 have h3 : c ≤ 127 * 2 ^ 30 := by
  rw [hc]
  exact Int.mul_le_mul (by omega) h1 h2 (by decide)
 have h4 : 0 ≤ c := by rw [hc]; exact Int.mul_nonneg (by omega) h2
 have e : Op.shift .shl .i64 (a : Int) .i64 i = pure (.int .i64 c) := by
  rw [shift_shl .i64 .i64 (a : Int) i h0 (by have : IntKind.i64.bits = 64 := rfl; omega), ← hc, aHM c h4 (by omega)]
 simp [eqGuard, binOp]
 first | (rw [← hc]; exact aHM c h4 (by omega)) | (rw [e]; rfl)
end
theorem aKf {P : Program} {Θ : Tab} {s : St} {d : Option Tmp} {ty : TypeId} {pos : String} {after : Array Edge} {g : Option (Nat × Bool)} {y : Operand} {ts : Array TypeId} {b c : Int} (hy : s.ev y = .v (.int .i64 b)) (hc : c = if b < 4 then b else 4) : Pre P Θ ⟨d, .call ⟨.builtin .min, #[.const (.int .i64 4), y], ts⟩, ty, pos, after, g⟩ s ⟨.v (.int .i64 c), none⟩ := by
 refine ⟨[.int .i64 4, .int .i64 b], .int .i64 c, ?_, fun w => ?_, rfl, rfl⟩
 · have h1 : yK (s.ev y) = some (.int .i64 b) := by rw [hy]; rfl
   have h0 : yK (s.ev (.const (.int .i64 4))) = some (.int .i64 4) := rfl
   simp [h0, h1]
 · subst hc
   simp [builtin, run_min_int2]
theorem aJo {s : St} {Θ : Tab} : yE Θ [] [] ⟨.tup [], []⟩ .normal s := ⟨trivial, [], by simp, trivial, trivial, ⟨_, rfl⟩, trivial⟩
theorem aIV {t : ByteArray} {a f i n u : Nat} (h : i < t.size) : wK t a (f + 1) i n u = if (t[i]).toNat < 128 then (n + (t[i]).toNat % 128 * u, i + 1, decide (n + (t[i]).toNat % 128 * u ≤ 4000000) && (decide (0 < (t[i]).toNat) || decide (i = a))) else wK t a f (i + 1) (n + (t[i]).toNat % 128 * u) (u * 128) := by
 rw [wK, dif_pos h]
theorem aIz {t : ByteArray} {a f i n u : Nat} (h : f = 0 ∨ ¬ i < t.size) : wK t a f i n u = (0, 0, false) := by
 cases f with
 | zero => rfl
 | succ f => rw [wK, dif_neg (by omega)]
attribute [local irreducible] xM xO xg yE y7 Pre ACG
theorem aBS : AC Tryd.prog 73 [.v (.bool true)] ⟨.tup [], []⟩ := by
 refine xX (rs := []) xJ (by kernel_rfl) Tryd.func73 rfl Tryd.ntmps73 (by rw [Tryd.results73]) (by kernel_rfl) (by simp) rfl rfl (xE _ _ _ ?_)
 conv => whnf
 repeat ((refine qz ?_; conv => whnf))
 exact aJo
theorem aIZ {t : ByteArray} (ht : t.size ≤ 1000000) : AC Tryd.prog 79 [.v (.string t)] ⟨.v (.string t), []⟩ := by
 have c1 := aHZ ht
 refine qrf Tryd.func79 Tryd.ntmps79 Tryd.results79 ?_; conv => whnf
 repeat ((first | refine qz ?_ | refine qc (c1) ?_); conv => whnf)
 exact xA rfl trivial
set_option maxHeartbeats 8000000 in
theorem aBx {t : ByteArray} {x : Int} (ht : t.size ≤ maxLen) : AC Tryd.prog 7 [.v (.string t), .v (.int .i64 x)] ⟨.tup [.v (.int .i64 (kV t x).1), .v (.int .i64 (kV t x).2.1), .v (.int .i64 (kV t x).2.2)], []⟩ := by
 have ht' := ht
 unfold maxLen at ht'
 unfold kV
 by_cases h0 : 65536 < t.size
 · rw [if_pos h0]
   refine qrf Tryd.func7 Tryd.ntmps7 Tryd.results7 ?_; conv => whnf
   repeat ((refine qz ?_; conv => whnf))
   exact zV rfl rfl rfl
 rw [if_neg h0]
 by_cases h1 : 0 ≤ x ∧ x ≤ (t.size : Int)
 case neg =>
  rw [if_neg h1]
  by_cases h2 : x < 0
  · refine qrf Tryd.func7 Tryd.ntmps7 Tryd.results7 ?_; conv => whnf
    repeat ((refine qz ?_; conv => whnf))
    exact zV rfl rfl rfl
  · refine qrf Tryd.func7 Tryd.ntmps7 Tryd.results7 ?_; conv => whnf
    repeat ((refine qz ?_; conv => whnf))
    exact zV rfl rfl rfl
 rw [if_pos h1]
 obtain ⟨m, rfl⟩ : ∃ m : Nat, x = m := ⟨x.toNat, by omega⟩
 have hm : m ≤ t.size := by omega
 rw [Int.toNat_natCast]
 obtain ⟨mn, hmn, hmn1, hmn2, hmn3⟩ : ∃ mn : Nat, (mn : Int) = (if (t.size : Int) - (m : Int) < 4 then (t.size : Int) - (m : Int) else 4) ∧ mn ≤ 4 ∧ m + mn ≤ t.size ∧ (mn = 4 ∨ m + mn = t.size) := by
  by_cases hlt : (t.size : Int) - (m : Int) < 4
  · exact ⟨t.size - m, by rw [if_pos hlt]; omega, by omega, by omega, by omega⟩
  · exact ⟨4, by rw [if_neg hlt]; rfl, by omega, by omega, by omega⟩
 refine qrf Tryd.func7 Tryd.ntmps7 Tryd.results7 ?_; conv => whnf
 repeat ((first | refine qz ?_ | refine qp (aKf rfl hmn) ?_); conv => whnf)
 refine xZ (ι := { p : Nat × Nat × Nat // p.1 ≤ mn ∧ p.2.1 < p.2.2 ∧ (p.1 = 0 ∧ p.2.2 = 1 ∨ p.1 = 1 ∧ p.2.2 = 128 ∨ p.1 = 2 ∧ p.2.2 = 16384 ∨ p.1 = 3 ∧ p.2.2 = 2097152 ∨ p.1 = 4 ∧ p.2.2 = 268435456) ∧ wK t m (4 - p.1) (m + p.1) p.2.1 p.2.2 = yh t m }) (fun p => ⟨[(0, .v (.string t)), (1, .v (.int .i64 (m : Int))), (7, .v (.int .i64 (p.1.2.1 : Int))), (25, .v (.int .i64 (mn : Int))), (26, .v (.int .i64 (p.1.1 : Int)))], []⟩) (fun p => mn - p.1.1) ⟨(0, 0, 1), by simp, by simp, by simp, rfl⟩ (by exact qle) ?_
 rintro ⟨⟨k, n, u⟩, hk, hn, hu, hr⟩
 dsimp only at hk hn hu hr ⊢
 conv => whnf
 by_cases hlt : k < mn
 case neg =>
  rw [aIz (by omega)] at hr
  rw [← hr]
  repeat ((refine qz ?_; conv => whnf))
  exact zV rfl rfl rfl
 have hi : m + k < t.size := by omega
 obtain ⟨f, hf⟩ : ∃ f, 4 - k = f + 1 := ⟨3 - k, by omega⟩
 rw [hf, aIV hi] at hr
 have h8 := (t[m + k]).toNat_lt
 have hu7 : u = 2 ^ (7 * k) := by rcases hu with ⟨rfl, rfl⟩ | ⟨rfl, rfl⟩ | ⟨rfl, rfl⟩ | ⟨rfl, rfl⟩ | ⟨rfl, rfl⟩ <;> rfl
 have hu21 : u ≤ 2097152 := by omega
 have hM : (t[m + k]).toNat % 128 * u ≤ 127 * u := Nat.mul_le_mul_right u (by omega)
 have hM0 : (t[m + k]).toNat % 128 * u % 2 ^ (7 * k) = 0 := by rw [← hu7]; exact Nat.mul_mod_left _ _
 have hshl : (((t[m + k]).toNat % 128 * u : Nat) : Int) = (((t[m + k]).toNat % 128 : Nat) : Int) * 2 ^ (((7 * k : Nat) : Int)).toNat := by
  rw [Int.toNat_natCast, hu7]; push_cast; rfl
 have hpos : 0 < (t[m + k]).toNat % 128 → u ≤ (t[m + k]).toNat % 128 * u := fun h => Nat.le_mul_of_pos_left u h
 have hzero : (t[m + k]).toNat % 128 = 0 → (t[m + k]).toNat % 128 * u = 0 := fun h => by rw [h]; omega
 obtain ⟨M, eM⟩ : ∃ M, (t[m + k]).toNat % 128 * u = M := ⟨_, rfl⟩
 rw [eM] at hr hM hM0 hshl hpos hzero
 have hn7 : n < 2 ^ (7 * k) := by rw [← hu7]; exact hn
 obtain ⟨L, hL1, hL2⟩ : ∃ L : Nat, (L = if k = 0 then 0 else u) ∧ ([.v (.int .i64 0), .v (.int .i64 128), .v (.int .i64 16384), .v (.int .i64 2097152)] : List AV)[k]? = some (.v (.int .i64 (L : Int))) := by
  refine ⟨if k = 0 then 0 else u, rfl, ?_⟩
  rcases hu with ⟨rfl, rfl⟩ | ⟨rfl, rfl⟩ | ⟨rfl, rfl⟩ | ⟨rfl, rfl⟩ | ⟨rfl, rfl⟩ <;> first | rfl | omega
 have hbound : M < 2 ^ 62 := by omega
 clear hu7 eM
 by_cases hb : (t[m + k]).toNat < 128
 · rw [if_pos hb] at hr
   by_cases h4 : n + M ≤ 4000000
   · by_cases h5 : n + M < L
     · have hv : (decide (n + M ≤ 4000000) && (decide (0 < (t[m + k]).toNat) || decide (m + k = m))) = false := by
        by_cases hk0 : k = 0
        · rw [if_pos hk0] at hL1; omega
        · rw [if_neg hk0] at hL1
          have : (t[m + k]).toNat = 0 := by
           rcases Nat.eq_zero_or_pos ((t[m + k]).toNat % 128) with h | h
           · omega
           · have := hpos h; omega
          simp only [this, Nat.lt_irrefl, decide_false, Bool.false_or, Bool.and_eq_false_iff, decide_eq_false_iff_not]
          right; omega
       rw [hv] at hr
       rw [← hr]
       repeat (first | (refine qp (ug (xJ 9) rfl rfl hi) ?_; conv => whnf) | (refine qp (qR rfl h8) ?_; conv => whnf) | (refine qp (xG (aC1 (by omega) rfl) rfl rfl rfl) ?_; conv => whnf) | (refine qp (xG (aEY (by omega) (by omega) (by omega) hshl) rfl rfl rfl) ?_; conv => whnf) | (refine qp (xG (aEW hn7 hM0 hbound (by omega) rfl) rfl rfl rfl) ?_; conv => whnf) | (refine qp (xG (wO (c := ((7 * k : Nat) : Int)) (by omega) (by omega) (by omega)) rfl rfl rfl) ?_; conv => whnf) | (refine qp (aB4 hL2 (by omega) rfl rfl rfl (fun x hx => by simp only [List.mem_cons, List.not_mem_nil, or_false] at hx; rcases hx with rfl | rfl | rfl | rfl <;> rfl)) ?_; conv => whnf) | (refine qz ?_; conv => whnf))
       exact zV rfl rfl rfl
     · have hv : (decide (n + M ≤ 4000000) && (decide (0 < (t[m + k]).toNat) || decide (m + k = m))) = true := by
        by_cases hk0 : k = 0
        · simp [hk0, h4]
        · rw [if_neg hk0] at hL1
          have : 0 < (t[m + k]).toNat := by
           rcases Nat.eq_zero_or_pos ((t[m + k]).toNat % 128) with h | h
           · have := hzero h; omega
           · omega
          simp [h4, this]
       rw [hv] at hr
       rw [← hr]
       repeat (first | (refine qp (ug (xJ 9) rfl rfl hi) ?_; conv => whnf) | (refine qp (qR rfl h8) ?_; conv => whnf) | (refine qp (xG (aC1 (by omega) rfl) rfl rfl rfl) ?_; conv => whnf) | (refine qp (xG (aEY (by omega) (by omega) (by omega) hshl) rfl rfl rfl) ?_; conv => whnf) | (refine qp (xG (aEW hn7 hM0 hbound (by omega) rfl) rfl rfl rfl) ?_; conv => whnf) | (refine qp (xG (wO (c := ((7 * k : Nat) : Int)) (by omega) (by omega) (by omega)) rfl rfl rfl) ?_; conv => whnf) | (refine qp (aB4 hL2 (by omega) rfl rfl rfl (fun x hx => by simp only [List.mem_cons, List.not_mem_nil, or_false] at hx; rcases hx with rfl | rfl | rfl | rfl <;> rfl)) ?_; conv => whnf) | (refine qz ?_; conv => whnf))
       exact zV rfl rfl rfl
   · have hv : (decide (n + M ≤ 4000000) && (decide (0 < (t[m + k]).toNat) || decide (m + k = m))) = false := by simp [h4]
     rw [hv] at hr
     rw [← hr]
     repeat (first | (refine qp (ug (xJ 9) rfl rfl hi) ?_; conv => whnf) | (refine qp (qR rfl h8) ?_; conv => whnf) | (refine qp (xG (aC1 (by omega) rfl) rfl rfl rfl) ?_; conv => whnf) | (refine qp (xG (aEY (by omega) (by omega) (by omega) hshl) rfl rfl rfl) ?_; conv => whnf) | (refine qp (xG (aEW hn7 hM0 hbound (by omega) rfl) rfl rfl rfl) ?_; conv => whnf) | (refine qp (xG (wO (c := ((7 * k : Nat) : Int)) (by omega) (by omega) (by omega)) rfl rfl rfl) ?_; conv => whnf) | (refine qp (aB4 hL2 (by omega) rfl rfl rfl (fun x hx => by simp only [List.mem_cons, List.not_mem_nil, or_false] at hx; rcases hx with rfl | rfl | rfl | rfl <;> rfl)) ?_; conv => whnf) | (refine qz ?_; conv => whnf))
     exact zV rfl rfl rfl
 · rw [if_neg hb] at hr
   repeat (first | (refine qp (ug (xJ 9) rfl rfl hi) ?_; conv => whnf) | (refine qp (qR rfl h8) ?_; conv => whnf) | (refine qp (xG (aC1 (by omega) rfl) rfl rfl rfl) ?_; conv => whnf) | (refine qp (xG (aEY (by omega) (by omega) (by omega) hshl) rfl rfl rfl) ?_; conv => whnf) | (refine qp (xG (aEW hn7 hM0 hbound (by omega) rfl) rfl rfl rfl) ?_; conv => whnf) | (refine qp (xG (wO (c := ((7 * k : Nat) : Int)) (by omega) (by omega) (by omega)) rfl rfl rfl) ?_; conv => whnf) | (refine qp (aB4 hL2 (by omega) rfl rfl rfl (fun x hx => by simp only [List.mem_cons, List.not_mem_nil, or_false] at hx; rcases hx with rfl | rfl | rfl | rfl <;> rfl)) ?_; conv => whnf) | (refine qz ?_; conv => whnf))
   exact ⟨⟨(k + 1, n + M, u * 128), by dsimp only; omega, by dsimp only; omega, by dsimp only; omega, by dsimp only; rw [show 4 - (k + 1) = f by omega]; exact hr⟩, by exact qle, by dsimp only; omega⟩
end Go.Proofs.YtoaifonjemlfcaaDoor.AM
namespace Go.Proofs.YtoaifonjemlfcaaDoor.AM
open Go Go.RowKit Go.ChangeShapes Go.WideShapes Go.Deep
section
variable {S : Nat → Prop} {w : World}
end
section
variable {H : Type} {enc : TypeId × Value → H} {P : Program} {w : World} {base : Nat} {held : Bool}
end
end Go.Proofs.YtoaifonjemlfcaaDoor.AM
namespace Go.Proofs.YtoaifonjemlfcaaDoor
open Go.RowKit Go.ChangeShapes Go.WideShapes Go.Deep
section
variable {H : Type} {enc : TypeId × Value → H} {P : Program} {w : World} {base : Nat} {held : Bool}
end
end Go.Proofs.YtoaifonjemlfcaaDoor
namespace Go.Proofs.YtoaifonjemlfcaaDoor.AM
open Go Go.RowKit
end Go.Proofs.YtoaifonjemlfcaaDoor.AM
namespace Go.Proofs.YtoaifonjemlfcaaDoor.AM
open Go Go.RowKit Go.ChangeShapes Go.WideShapes Go.Deep
structure Opr where
 kind : Int
 frm : Int
 name : ByteArray
 key : ByteArray
 edits : List Edt
structure Bas where
 store : List Cmt
 refs : List Rf
structure Rst where
 code : Int
 com : Int
 val : Int
 keys : List ByteArray
 map : List Ent
def vP (b : Bas) : AV := .agg [.lst 2 (b.store.map xP), .lst 4 (b.refs.map xh)]
def Opr.ok (o : Opr) (N : Nat) : Prop := o.name.size ≤ N ∧ o.key.size ≤ N ∧ o.edits.length ≤ N ∧ ∀ e ∈ o.edits, e.key.size ≤ N
def Rst.ok (r : Rst) (N : Nat) : Prop := r.keys.length ≤ N ∧ (∀ k ∈ r.keys, k.size ≤ N) ∧ r.map.length ≤ N ∧ ∀ e ∈ r.map, e.1.size ≤ N
section
variable {S : Nat → Prop} {w : World}
end
section
variable {H : Type} {enc : TypeId × Value → H} {P : Program} {w : World} {base : Nat} {held : Bool}
end
end Go.Proofs.YtoaifonjemlfcaaDoor.AM
namespace Go.Proofs.YtoaifonjemlfcaaDoor
open Go.RowKit
end Go.Proofs.YtoaifonjemlfcaaDoor
namespace Go.Proofs.YtoaifonjemlfcaaDoor.AM
open Go Go.RowKit
attribute [local irreducible] xM xO xg yE y7 Pre ACG
end Go.Proofs.YtoaifonjemlfcaaDoor.AM
namespace Go.Proofs.YtoaifonjemlfcaaDoor.AM
open Go Go.RowKit
instance : DecidableEq Rf := fun a b => decidable_of_iff _ aJu.symm
def aAy (n : Nat) (l : List Rf) : Bool := l.all fun r => decide (r.head ≤ n)
noncomputable def kG (b : Bas) : Bool := aBM b.store && (wW b.refs && aAy b.store.length b.refs)
theorem aDt {n : Nat} {l : List Rf} {k : Nat} (h : k < l.length) : aAy n (l.drop k) = (decide (l[k].head ≤ n) && aAy n (l.drop (k + 1))) := by
 unfold aAy; rw [List.drop_eq_getElem_cons h, List.all_cons]
structure Bas.ok (b : Bas) (N : Nat) : Prop where
 sm : b.store.length ≤ N
 sc : aC4 N b.store
 rm : b.refs.length ≤ N
 rk : aLT N b.refs
attribute [local irreducible] xM xO xg yE y7 Pre ACG
theorem aDe {b : Bas} (hb : b.ok maxLen) : AC Tryd.prog 15 [vP b, vP b] ⟨.v (.bool true), []⟩ := by
 have h1 := aEa hb.sm (fun c h => ⟨(hb.sc c h).1, (hb.sc c h).2.1⟩)
 have h2 := aHR hb.rm
 refine qrf Tryd.func15 Tryd.ntmps15 Tryd.results15 ?_; conv => whnf
 repeat ((first | refine qz ?_ | refine qc (h1) ?_ | refine qc (h2) ?_ | refine qst ?_); conv => whnf)
 exact xA rfl trivial
set_option maxHeartbeats 1000000 in
theorem aCT {b : Bas} (hb : b.ok maxLen) : AC Tryd.prog 37 [vP b] ⟨.v (.bool (kG b)), []⟩ := by
 have h1 := aFg hb.sm hb.sc
 have h2 := aGc hb.rm hb.rk
 have hm := hb.rm
 have hm2 := hb.sm
 unfold maxLen at hm hm2
 unfold kG
 generalize aBM b.store = x at h1
 generalize wW b.refs = y at h2
 cases x
 case false =>
  refine qrf Tryd.func37 Tryd.ntmps37 Tryd.results37 ?_; conv => whnf
  repeat ((first | refine qz ?_ | refine qc (h1) ?_ | refine qc (h2) ?_); conv => whnf)
  exact xA rfl trivial
 cases y
 case false =>
  refine qrf Tryd.func37 Tryd.ntmps37 Tryd.results37 ?_; conv => whnf
  repeat ((first | refine qz ?_ | refine qc (h1) ?_ | refine qc (h2) ?_); conv => whnf)
  exact xA rfl trivial
 rw [Bool.true_and, Bool.true_and]
 refine qrf Tryd.func37 Tryd.ntmps37 Tryd.results37 ?_; conv => whnf
 repeat ((first | refine qz ?_ | refine qc (h1) ?_ | refine qc (h2) ?_); conv => whnf)
 refine xZ (ι := { k : Nat // k ≤ b.refs.length ∧ aAy b.store.length (b.refs.drop k) = aAy b.store.length b.refs }) (fun k => ⟨[(1, .optr 2 0 [] 0), (16, .lst 4 (b.refs.map xh)), (17, .v (.int .i64 (b.refs.length : Int))), (18, .v (.int .i64 (k.1 : Int)))], [(2, ⟨37, 2, [vP b]⟩)]⟩) (fun k => b.refs.length - k.1) ⟨0, Nat.zero_le _, rfl⟩ (by exact qle) ?_
 rintro ⟨k, hk, hd⟩
 dsimp only at hk hd ⊢
 conv => whnf
 by_cases hlt : k < b.refs.length
 · rw [aDt hlt] at hd
   by_cases he : b.refs[k].head ≤ b.store.length
   · rw [decide_eq_true he, Bool.true_and] at hd
     repeat ((first | refine qz ?_ | refine qst ?_); conv => whnf)
     exact ⟨⟨k + 1, hlt, hd⟩, by exact qle, by simp; omega⟩
   · rw [decide_eq_false he, Bool.false_and] at hd
     rw [← hd]
     repeat ((first | refine qz ?_ | refine qst ?_); conv => whnf)
     exact xA rfl trivial
 · rw [← hd, List.drop_eq_nil_of_le (by omega)]
   repeat ((refine qz ?_; conv => whnf))
   exact xA rfl trivial
set_option maxHeartbeats 1000000 in
theorem aI4 {b : Bas} (hb : b.ok maxLen) : AC Tryd.prog 57 [vP b] ⟨.v (.bool (kG b)), []⟩ := by
 have h1 := aI1 hb.sm hb.sc
 have h2 := aI3 hb.rm hb.rk
 have hm := hb.rm
 have hm2 := hb.sm
 unfold maxLen at hm hm2
 unfold kG
 generalize aBM b.store = x at h1
 generalize wW b.refs = y at h2
 cases x
 case false =>
  refine qrf Tryd.func57 Tryd.ntmps57 Tryd.results57 ?_; conv => whnf
  repeat ((first | refine qz ?_ | refine qc (h1) ?_ | refine qc (h2) ?_); conv => whnf)
  exact xA rfl trivial
 cases y
 case false =>
  refine qrf Tryd.func57 Tryd.ntmps57 Tryd.results57 ?_; conv => whnf
  repeat ((first | refine qz ?_ | refine qc (h1) ?_ | refine qc (h2) ?_); conv => whnf)
  exact xA rfl trivial
 rw [Bool.true_and, Bool.true_and]
 refine qrf Tryd.func57 Tryd.ntmps57 Tryd.results57 ?_; conv => whnf
 repeat ((first | refine qz ?_ | refine qc (h1) ?_ | refine qc (h2) ?_); conv => whnf)
 refine xZ (ι := { k : Nat // k ≤ b.refs.length ∧ aAy b.store.length (b.refs.drop k) = aAy b.store.length b.refs }) (fun k => ⟨[(1, .optr 2 0 [] 0), (3, .v (.int .i64 (k.1 : Int)))], [(2, ⟨37, 2, [vP b]⟩)]⟩) (fun k => b.refs.length - k.1) ⟨0, Nat.zero_le _, rfl⟩ (by exact qle) ?_
 rintro ⟨k, hk, hd⟩
 dsimp only at hk hd ⊢
 conv => whnf
 by_cases hlt : k < b.refs.length
 · rw [aDt hlt] at hd
   by_cases he : b.refs[k].head ≤ b.store.length
   · rw [decide_eq_true he, Bool.true_and] at hd
     repeat ((refine qz ?_; conv => whnf))
     refine .inl ⟨by kernel_rfl, ?_⟩
     conv => whnf
     repeat ((first | refine qz ?_ | refine qst ?_); conv => whnf)
     exact ⟨⟨k + 1, hlt, hd⟩, by exact qle, by simp; omega⟩
   · rw [decide_eq_false he, Bool.false_and] at hd
     rw [← hd]
     repeat ((refine qz ?_; conv => whnf))
     refine .inl ⟨by kernel_rfl, ?_⟩
     conv => whnf
     repeat ((first | refine qz ?_ | refine qst ?_); conv => whnf)
     exact xA rfl trivial
 · rw [← hd, List.drop_eq_nil_of_le (by omega)]
   repeat ((refine qz ?_; conv => whnf))
   exact xA rfl trivial
theorem aJ4 {a b : Bas} : a = b ↔ a.store = b.store ∧ a.refs = b.refs := by cases a; cases b; simp
instance : DecidableEq Bas := fun a b => decidable_of_iff _ aJ4.symm
end Go.Proofs.YtoaifonjemlfcaaDoor.AM
namespace Go.Proofs.YtoaifonjemlfcaaDoor.AM
open Go Go.RowKit
def aKX (l : List Ent) : Prop := ∀ e ∈ l, e.1.size ≤ 12 ∧ -1000000 ≤ e.2 ∧ e.2 ≤ 1000000
structure CmtS (c : Cmt) : Prop where
 pl : c.1.length ≤ 60
 pp : ∀ p ∈ c.1, 0 ≤ p ∧ p ≤ 1000
 ml : c.2.length ≤ 100
 me : aKX c.2
attribute [local irreducible] xM xO xg yE y7 Pre ACG
def aDR (p0 : Int) (i : Nat) (p : Int) : Bool := decide (1 ≤ p ∧ p ≤ 60) && (decide (i = 0) || !decide (p = p0))
def qC (p0 : Int) : Nat → List Int → Bool
 | _, [] => true
 | i, p :: l => aDR p0 i p && qC p0 (i + 1) l
theorem aHo {p0 : Int} {l : List Int} {i : Nat} (h : i < l.length) : qC p0 i (l.drop i) = (aDR p0 i l[i] && qC p0 (i + 1) (l.drop (i + 1))) := by
 rw [List.drop_eq_getElem_cons h, qC]
def qf (c : Cmt) : Bool := yX c.2 && (decide (c.1.length ≤ 2) && qC ((c.1[0]?).getD 0) 0 c.1)
set_option maxHeartbeats 1000000 in
theorem aBi {c : Cmt} (hm : c.1.length ≤ maxLen) (hn : c.2.length ≤ maxLen) (hk : ∀ e ∈ c.2, e.1.size ≤ maxLen) : AC Tryd.prog 21 [xP c] ⟨.v (.bool (qf c)), []⟩ := by
 have c1 := aEd hn hk
 unfold maxLen at hm
 unfold qf
 cases h0 : yX c.2
 case false =>
  rw [h0] at c1
  rw [Bool.false_and]
  refine qrf Tryd.func21 Tryd.ntmps21 Tryd.results21 ?_; conv => whnf
  repeat ((first | refine qz ?_ | refine qc (c1) ?_); conv => whnf)
  exact xA rfl trivial
 rw [h0] at c1
 rw [Bool.true_and]
 by_cases h1 : c.1.length ≤ 2
 case neg =>
  rw [decide_eq_false h1, Bool.false_and]
  refine qrf Tryd.func21 Tryd.ntmps21 Tryd.results21 ?_; conv => whnf
  repeat ((first | refine qz ?_ | refine qc (c1) ?_); conv => whnf)
  exact xA rfl trivial
 rw [decide_eq_true h1, Bool.true_and]
 refine qrf Tryd.func21 Tryd.ntmps21 Tryd.results21 ?_; conv => whnf
 repeat ((first | refine qz ?_ | refine qc (c1) ?_); conv => whnf)
 generalize hq : (c.1[0]?).getD 0 = p0
 refine xZ (ι := { i : Nat // i ≤ c.1.length ∧ qC p0 i (c.1.drop i) = qC p0 0 c.1 }) (fun i => ⟨[(1, .optr 2 0 [] 0), (3, .v (.int .i64 (i.1 : Int)))], [(2, ⟨28, 2, [xP c]⟩)]⟩) (fun i => c.1.length - i.1) ⟨0, Nat.zero_le _, rfl⟩ (by exact qle) ?_
 rintro ⟨i, hi, hd⟩
 dsimp only at hi hd ⊢
 conv => whnf
 by_cases hlt : i < c.1.length
 case neg =>
  rw [← hd, List.drop_eq_nil_of_le (by omega)]
  repeat ((refine qz ?_; conv => whnf))
  exact xA rfl trivial
 rw [aHo hlt] at hd
 have hz : 0 < c.1.length := by omega
 have e0 : c.1[0] = p0 := by rw [← hq]; simp [hz]
 repeat ((refine qz ?_; conv => whnf))
 (refine qdr ?_; conv => whnf)
 by_cases hp : 1 ≤ c.1[i] ∧ c.1[i] ≤ 60
 case neg =>
  rw [aDR, decide_eq_false hp, Bool.false_and, Bool.false_and] at hd
  rw [← hd]
  repeat ((first | refine qz ?_ | refine qc (jY hp) ?_); conv => whnf)
  exact xA rfl trivial
 rw [aDR, decide_eq_true hp, Bool.true_and] at hd
 by_cases h2 : i = 0
 · rw [decide_eq_true h2, Bool.true_or, Bool.true_and] at hd
   repeat ((first | refine qz ?_ | refine qc (zh hp.1 hp.2) ?_); conv => whnf)
   exact ⟨⟨i + 1, hlt, hd⟩, by exact qle, by simp; omega⟩
 rw [decide_eq_false h2, Bool.false_or] at hd
 by_cases h3 : c.1[i] = p0
 · rw [decide_eq_true h3, Bool.not_true, Bool.false_and] at hd
   rw [← hd]
   repeat ((first | refine qp (jU (vB (k := i) _ hlt) rfl rfl rfl) ?_ | refine qp (jU (vB (k := 0) _ hz) rfl rfl rfl) ?_ | refine qz ?_ | refine qc (zh hp.1 hp.2) ?_); conv => whnf)
   exact xA rfl trivial
 · rw [decide_eq_false h3, Bool.not_false, Bool.true_and] at hd
   repeat ((first | refine qp (jU (vB (k := i) _ hlt) rfl rfl rfl) ?_ | refine qp (jU (vB (k := 0) _ hz) rfl rfl rfl) ?_ | refine qz ?_ | refine qc (zh hp.1 hp.2) ?_); conv => whnf)
   exact ⟨⟨i + 1, hlt, hd⟩, by exact qle, by simp; omega⟩
theorem aHp {m : List Ent} (h : yX m = true) : m.length ≤ 12 := by
 unfold yX at h
 simp only [Bool.and_eq_true, decide_eq_true_eq] at h
 exact h.1
theorem aHu {x : ByteArray} (h : okN x = true) : x.size ≤ 12 := by
 unfold okN Nm.nameOK at h
 have e : x.size = x.data.toList.length := by rw [Array.length_toList]; rfl
 rw [e]
 split at h
 · simp at h
 · rename_i c cs hc
   rw [hc]
   simp only [Bool.and_eq_true, decide_eq_true_eq] at h
   simp only [List.length_cons]
   omega
theorem aGt {m : List Ent} (h : yX m = true) : aKX m := by
 intro e he
 obtain ⟨i, hi, rfl⟩ := List.getElem_of_mem he
 unfold yX at h
 simp only [Bool.and_eq_true] at h
 have h1 := aGO h.2.1 hi
 have h2 := aKD h.2.2 hi
 unfold zU at h1
 rw [Bool.and_eq_true, aBA _ _ hi] at h1
 unfold zl aHL at h2
 simp only [hi, List.getD_eq_getElem?_getD, List.getElem?_eq_getElem, Option.getD_some, Bool.and_eq_true, decide_eq_true_eq] at h2
 exact ⟨aHu h1.1, h2.1, h2.2⟩
end Go.Proofs.YtoaifonjemlfcaaDoor.AM
namespace Go.Proofs.YtoaifonjemlfcaaDoor.AM
open Go Go.RowKit
def brB : ByteArray := ⟨#[66, 82, 49]⟩
structure RfS (r : Rf) : Prop where
 n : r.name.size ≤ 12
 v0 : 0 ≤ r.ver
 v1 : r.ver ≤ 1000000
 h0 : 0 ≤ r.head
 h1 : r.head ≤ 60
structure BasS (b : Bas) : Prop where
 sl : b.store.length ≤ 60
 sc : ∀ c ∈ b.store, CmtS c ∧ c.1.length ≤ 2 ∧ c.2.length ≤ 12
 rl : b.refs.length ≤ 8
 rr : ∀ r ∈ b.refs, RfS r
theorem aKP {b : Bas} (h : kG b = true) : BasS b := by
 unfold kG aBM at h
 simp only [Bool.and_eq_true, decide_eq_true_eq] at h
 obtain ⟨⟨hl, hc⟩, hr, _⟩ := h
 have hrs := aIu hr
 refine ⟨hl.2, fun c hcm => ?_, hrs.1, fun r hrm => ?_⟩
 · obtain ⟨i, hi, rfl⟩ := List.getElem_of_mem hcm
   have h1 := aEp hc i hi
   unfold kI at h1
   rw [Bool.and_eq_true] at h1
   have h2 := aHp h1.1
   have h3 : aE5 (0 + i) (b.store[i]).1 := by
    have := h1.2
    unfold wh at this
    simpa using this
   refine ⟨⟨by have := h3.1; omega, fun p hp => ?_, by omega, aGt h1.1⟩, h3.1, h2⟩
   obtain ⟨j, hj, rfl⟩ := List.getElem_of_mem hp
   obtain ⟨_, g1, g2, _⟩ := h3.2.2 j hj
   omega
 · obtain ⟨i, hi, rfl⟩ := List.getElem_of_mem hrm
   obtain ⟨_, g, _⟩ := hrs.2 i hi
   unfold kS at g
   simp only [Bool.and_eq_true, decide_eq_true_eq] at g
   refine ⟨aHu g.1, by omega, by omega, ?_, ?_⟩
   · have := g.2.2; split at this <;> (simp only [decide_eq_true_eq] at this; omega)
   · have := g.2.2; split at this <;> (simp only [decide_eq_true_eq] at this; omega)
attribute [local irreducible] xM xO xg yE y7 Pre ACG
end Go.Proofs.YtoaifonjemlfcaaDoor.AM
