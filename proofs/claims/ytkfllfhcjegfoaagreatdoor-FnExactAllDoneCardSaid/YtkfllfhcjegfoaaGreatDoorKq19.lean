/- Texts of the machine over data, folded. -/
import Derived.Test.YtkfllfhcjegfoaaGreatDoorKq6
import Derived.Test.YtkfllfhcjegfoaaGreatDoorKq14
import Derived.Test.YtkfllfhcjegfoaaGreatDoorKq18
import Derived.Test.YtkfllfhcjegfoaaGreatDoorKq12
import Derived.Test.YtkfllfhcjegfoaaGreatDoorKq15
import Derived.Test.YtkfllfhcjegfoaaGreatDoorKq16
set_option linter.unusedVariables false
set_option linter.unusedSimpArgs false
set_option maxRecDepth 100000
namespace Go.Proofs.YtkfllfhcjegfoaaGreatDoor.AM
open Go Go.RowKit
def szH (o : Wsh) (l : Int) : Int := if l - o.name.size < 0 then -1 else if l - o.name.size - o.source.size < 0 then -1 else if l - o.name.size - o.source.size - o.key.size < 0 then -1 else if szL xSz o.edits (l - o.name.size - o.source.size - o.key.size) < 0 then -1 else szL xSz o.edits (l - o.name.size - o.source.size - o.key.size)
def aOj (k : Int) : Bool := decide (k = 1 ∨ k = 4)
def yC (w : Wsh) : Bool := if w.kind = 1 ∨ w.kind = 4 then okN w.source && opB ⟨w.kind, 1, w.name, w.key, w.edits⟩ else decide (w.source = eB) && opB ⟨w.kind, 0, w.name, w.key, w.edits⟩
theorem aOC {o : Wsh} {l : Int} (h : 0 ≤ szH o l) (h1 : l ≤ 1048576) : szH o l ≤ l ∧ o.edits.length ≤ 1048576 := by
 unfold szH at h ⊢
 split at h
 · omega
 split at h
 · omega
 split at h
 · omega
 split at h
 · omega
 · rename_i a b c d
   rw [if_neg a, if_neg b, if_neg c, if_neg d]
   obtain ⟨k1, l1, _⟩ := aAa h
   omega
attribute [local irreducible] xM xN xW yF yL Pre ACG
theorem aGe {o : Wsh} {l : Int} (ho : o.ok maxLen) (h0 : 0 ≤ l) (h1 : l ≤ 1048576) : AC Tryz.prog 90 [wshA o, .v (.int .i64 l)] ⟨.v (.int .i64 (szH o l)), []⟩ := by
 obtain ⟨q1, q2, q3, q4, q5⟩ := ho
 have q1' := q1
 have q2' := q2
 have q3' := q3
 unfold maxLen at q1' q2' q3'
 unfold szH
 by_cases h_0 : l - o.name.size < 0
 · rw [if_pos h_0]
   refine qrf Tryz.func90 Tryz.ntmps90 Tryz.results90 ?_; conv => whnf
   repeat ((first | refine qz ?_ | refine qst ?_); conv => whnf)
   exact xA rfl trivial
 rw [if_neg h_0]
 by_cases h_1 : l - o.name.size - o.source.size < 0
 · rw [if_pos h_1]
   refine qrf Tryz.func90 Tryz.ntmps90 Tryz.results90 ?_; conv => whnf
   repeat ((first | refine qz ?_ | refine qst ?_); conv => whnf)
   exact xA rfl trivial
 rw [if_neg h_1]
 by_cases h_2 : l - o.name.size - o.source.size - o.key.size < 0
 · rw [if_pos h_2]
   refine qrf Tryz.func90 Tryz.ntmps90 Tryz.results90 ?_; conv => whnf
   repeat ((first | refine qz ?_ | refine qst ?_); conv => whnf)
   exact xA rfl trivial
 rw [if_neg h_2]
 have hac := aFF (l := l - o.name.size - o.source.size - o.key.size) q4 q5 (by omega) (by omega)
 by_cases hn : szL xSz o.edits (l - o.name.size - o.source.size - o.key.size) < 0
 · rw [if_pos hn]
   refine qrf Tryz.func90 Tryz.ntmps90 Tryz.results90 ?_; conv => whnf
   repeat ((first | refine qz ?_ | refine qc (hac) ?_ | refine qst ?_); conv => whnf)
   exact xA rfl trivial
 · rw [if_neg hn]
   refine qrf Tryz.func90 Tryz.ntmps90 Tryz.results90 ?_; conv => whnf
   repeat ((first | refine qz ?_ | refine qc (hac) ?_ | refine qst ?_); conv => whnf)
   exact xA rfl trivial
theorem aMc {o : Wsh} (hm : o.edits.length ≤ maxLen) : AC Tryz.prog 121 [wshA o, wshA o] ⟨.v (.bool true), []⟩ := by
 refine qrf Tryz.func121 Tryz.ntmps121 Tryz.results121 ?_; conv => whnf
 repeat ((first | refine qp (xB (z8 rfl) rfl rfl rfl) ?_ | refine qp (xB (kT rfl) rfl rfl rfl) ?_ | refine qz ?_ | refine qc (aFZ hm) ?_); conv => whnf)
 exact xA rfl trivial
theorem aPT {k : Int} : AC Tryz.prog 154 [.v (.int .i64 k)] ⟨.v (.bool (aOj k)), []⟩ := by
 unfold aOj
 by_cases h1 : k = 1
 · rw [decide_eq_true (by omega : k = 1 ∨ k = 4)]
   refine qO Tryz.func154 Tryz.ntmps154 Tryz.results154 ?_
   repeat (first | refine qy ?_)
   exact qe
 by_cases h4 : k = 4
 · rw [decide_eq_true (by omega : k = 1 ∨ k = 4)]
   refine qO Tryz.func154 Tryz.ntmps154 Tryz.results154 ?_
   repeat (first | refine qy ?_)
   exact qe
 rw [decide_eq_false (by omega : ¬ (k = 1 ∨ k = 4))]
 refine qO Tryz.func154 Tryz.ntmps154 Tryz.results154 ?_
 repeat (first | refine qy ?_)
 exact qe
theorem aKU {o : Wsh} {f : Int} : AC Tryz.prog 155 [wshA o, .v (.int .i64 f)] ⟨jl ⟨o.kind, f, o.name, o.key, o.edits⟩, []⟩ := by
 refine qrf Tryz.func155 Tryz.ntmps155 Tryz.results155 ?_; conv => whnf
 repeat ((first | refine qz ?_ | refine qst ?_); conv => whnf)
 exact uX (x := jl ⟨o.kind, f, o.name, o.key, o.edits⟩) rfl rfl rfl rfl trivial
theorem aLO {o : Wsh} (ho : o.ok maxLen) : AC Tryz.prog 134 [wshA o] ⟨.v (.bool (yC o)), []⟩ := by
 obtain ⟨q1, q2, q3, q4, q5⟩ := ho
 have hs := aPT (k := o.kind)
 have o0 := aKU (o := o) (f := 0)
 have o1 := aKU (o := o) (f := 1)
 have b0 := aE9 (o := ⟨o.kind, 0, o.name, o.key, o.edits⟩) ⟨q1, q3, q4, q5⟩
 have b1 := aE9 (o := ⟨o.kind, 1, o.name, o.key, o.edits⟩) ⟨q1, q3, q4, q5⟩
 unfold aOj at hs
 unfold yC
 by_cases hk : o.kind = 1 ∨ o.kind = 4
 · rw [if_pos hk]
   rw [decide_eq_true hk] at hs
   cases hn : okN o.source with
   | false =>
    rw [Bool.false_and]
    refine qrf Tryz.func134 Tryz.ntmps134 Tryz.results134 ?_; conv => whnf
    repeat ((first | refine qz ?_ | refine qst ?_ | refine qc (hs) ?_ | refine qc (xU q2 hn) ?_); conv => whnf)
    exact xA rfl trivial
   | true =>
    rw [Bool.true_and]
    refine qrf Tryz.func134 Tryz.ntmps134 Tryz.results134 ?_; conv => whnf
    repeat ((first | refine qz ?_ | refine qst ?_ | refine qc (hs) ?_ | refine qc (xU q2 hn) ?_ | refine qc (o1) ?_ | refine qc (b1) ?_); conv => whnf)
    exact xA rfl trivial
 · rw [if_neg hk]
   rw [decide_eq_false hk] at hs
   by_cases hs0 : o.source = eB
   · rw [decide_eq_true hs0, Bool.true_and]
     refine qrf Tryz.func134 Tryz.ntmps134 Tryz.results134 ?_; conv => whnf
     repeat ((first | refine qp (xB (yJ hs0) rfl rfl rfl) ?_ | refine qz ?_ | refine qst ?_ | refine qc (hs) ?_ | refine qc (o0) ?_ | refine qc (b0) ?_); conv => whnf)
     exact xA rfl trivial
   · rw [decide_eq_false hs0, Bool.false_and]
     refine qrf Tryz.func134 Tryz.ntmps134 Tryz.results134 ?_; conv => whnf
     repeat ((first | refine qp (xB (yo hs0) rfl rfl rfl) ?_ | refine qz ?_ | refine qst ?_ | refine qc (hs) ?_); conv => whnf)
     exact xA rfl trivial
end Go.Proofs.YtkfllfhcjegfoaaGreatDoor.AM
namespace Go.Proofs.YtkfllfhcjegfoaaGreatDoor.AM
open Go Go.RowKit
section
variable {P : Program} {Θ : Tab} {s : St} {ty : TypeId} {pos : String} {after : Array Edge} {g : Option (Nat × Bool)}
theorem aOB {d : Option Tmp} {t : TypeId} {x y : Operand} {l i c : Nat} {p : List Nat} {ob : OB} {q z v : AV} (hq : ob.xs[i]? = some q) (hx : s.ev x = .optr l i p c) (ho : s.hp l = some ob) (hg : xq q p 0 = some (z, c)) (hs : ((Θ.look t).known && (Nat.beq (asz z) (Θ.look t).size && Nat.beq (asz v) (asz z))) = true) (hy : s.ev y = v) (hv : zl v = true) (hd : ob.e.deep = true := by rfl) (hc : cOK y = true := by rfl) :
 Pre P Θ ⟨d, .store t x y, ty, pos, after, g⟩ s ⟨.any, some fun s' => s'.set l (some ⟨ob.e, ob.sz, ob.xs.set i (uM q p v)⟩)⟩ := by
 simp only [Bool.and_eq_true] at hs
 exact ⟨uT hc, hs.1, l, i, p, c, ob, hx, ho, .inr (.inr (.inl ⟨q, z, v, hd, hq, hg, Nat.eq_of_beq_eq_true hs.2.1, hy, hv, Nat.eq_of_beq_eq_true hs.2.2, rfl⟩))⟩
end
attribute [local irreducible] xM xN xW yF yL Pre ACG
end Go.Proofs.YtkfllfhcjegfoaaGreatDoor.AM
namespace Go.Proofs.YtkfllfhcjegfoaaGreatDoor.AM
open Go Go.RowKit
theorem aD0 {P : Program} {Θ : Tab} {n k : Nat} {ops : Array Oper} {draw : Bool} {r : List Oper} {K : St → Prop} {s : St} {d : Option Tmp} {op : Op} {ty : TypeId} {pos : String} {after : Array Edge} {g : Option (Nat × Bool)} {e : Eff} (hp : Pre P Θ ⟨d, op, ty, pos, after, g⟩ s e) (hg : yK ops s ⟨d, op, ty, pos, after, g⟩ = some true) (hin : inN n d = true) (hu : draw = true → e.upd = none ∨ tied ops k = true ∨ wG Θ ops (fun j => Nat.blt j k) k s e) (h : xN P Θ n ops draw (k + 1) r (s.app d e) K) : xN P Θ n ops draw k (⟨d, op, ty, pos, after, g⟩ :: r) s K := yA hg hin hp hu h
attribute [local irreducible] xM xN xW yF yL Pre ACG
set_option maxHeartbeats 4000000 in
theorem aOD {l : List Rf} (hm : l.length ≤ maxLen) (hk : ∀ e ∈ l, e.name.size ≤ maxLen) : AC Tryz.prog 61 [.lst 4 (l.map zH)] ⟨.v (.bool (aA4 l)), []⟩ := by
 have hm' := hm
 unfold maxLen at hm'
 by_cases hin : l.length ≤ 8
 case neg =>
  rw [aBy (fun h => hin h.1)]
  refine qrf Tryz.func61 Tryz.ntmps61 Tryz.results61 ?_; conv => whnf
  repeat ((refine qz ?_; conv => whnf))
  exact xA rfl trivial
 refine qrf Tryz.func61 Tryz.ntmps61 Tryz.results61 ?_; conv => whnf
 repeat ((refine qz ?_; conv => whnf))
 refine aEg (fun k : { k : Nat // k ≤ l.length ∧ ∀ i, i < k → aGD l i } => ⟨[(0, .lst 4 (l.map zH)), (3, .v (.int .i64 (k.1 : Int)))], [], []⟩) (fun k => l.length - k.1) ⟨0, Nat.zero_le _, fun i h => by omega⟩ ⟨by exact qle, trivial⟩ ?_
 rintro ⟨k, hk', hd⟩
 dsimp only at hk' hd ⊢
 by_cases hlt : k < l.length
 case neg =>
  rw [aKS ⟨hin, fun i hi => hd i (by omega)⟩]
  refine xI _ _ _ ?_
  conv => whnf
  repeat (first | (refine qz ?_; conv => whnf))
  exact xA rfl trivial
 have hsz := hk _ (List.getElem_mem hlt)
 have hpl := aIQ (l := l) (x := l[k].name) hm
 have bad : (qo l[k] = true → ¬ rAt (l.take k) l[k].name 0 < 0) → aA4 l = false := fun q => aBy (fun h => by obtain ⟨_, q1, q2⟩ := h.2 k hlt; exact q q1 q2)
 have nxt : qo l[k] = true → rAt (l.take k) l[k].name 0 < 0 → ∀ i, i < k + 1 → aGD l i := fun q1 q2 i hi => by
  rcases Nat.lt_or_ge i k with h | h
  · exact hd i h
  · have : i = k := by omega
    subst this; exact ⟨hlt, q1, q2⟩
 refine vZ ?_
 refine xI _ _ _ ?_
 conv => whnf
 repeat (first | (refine qz ?_; conv => whnf))
 refine vZ (aD2 ?_)
 obtain ⟨g, hgg⟩ : ∃ g, g = l[k].gone := ⟨_, rfl⟩
 have hik : (l.map zH)[k]? = some (.agg [.v (.string l[k].name), .v (.int .i64 l[k].head), .v (.int .i64 l[k].ver), .v (.bool g)]) := by rw [List.getElem?_map, List.getElem?_eq_getElem hlt, hgg]; rfl
 refine jc (ι := Unit) (fun _ => ⟨[(0, .lst 4 (l.map zH)), (3, .v (.int .i64 (k : Int))), (4, .optr 5 0 [] 0)], [(5, ⟨.s 124, 4, [.agg [.v (.string l[k].name), .v (.int .i64 l[k].head), .v (.int .i64 l[k].ver), .v (.bool g)]]⟩)], []⟩) ?_ (fun _ => ?_)
 · refine xI _ _ _ ?_
   conv => whnf
   repeat ((first | refine qp (xk hik rfl rfl rfl) ?_ | refine qst ?_ | refine qz ?_); conv => whnf)
   exact ⟨(), ⟨by exact qle, trivial⟩⟩
 refine xI _ _ _ ?_
 conv => whnf
 cases hw : okN l[k].name with
 | false =>
  rw [bad (fun q => by rw [aMm hw] at q; cases q)]
  as_aux_lemma =>
   repeat ((first | refine qc (xE hsz hw) ?_ | refine qz ?_); conv => whnf)
   exact xA rfl trivial
 | true =>
  by_cases hv : 1 ≤ l[k].ver ∧ l[k].ver ≤ 1000000
  case neg =>
   rw [bad (fun q => by rw [aMQ hv] at q; cases q)]
   as_aux_lemma =>
    repeat ((first | refine qc (xE hsz hw) ?_ | refine qc (y9 hv) ?_ | refine qz ?_); conv => whnf)
    exact xA rfl trivial
  by_cases hp : rAt l l[k].name 0 = (k : Int)
  case neg =>
   rw [bad (fun _ q => hp ((aIx hlt).2 q))]
   as_aux_lemma =>
    repeat ((first | refine qc (xE hsz hw) ?_ | refine qc (xC hv.1 hv.2) ?_ | refine qc (hpl) ?_ | refine qz ?_); conv => whnf)
    exact xA rfl trivial
  have hp' := (aIx hlt).1 hp
  cases g with
  | true =>
   have hb := aMh hw hv hgg.symm
   by_cases h0 : l[k].head = 0
   · rw [decide_eq_true h0] at hb
     as_aux_lemma =>
      repeat ((first | refine qc (xE hsz hw) ?_ | refine qc (xC hv.1 hv.2) ?_ | refine qc (hpl) ?_ | refine qz ?_); conv => whnf)
      refine xI _ _ _ ?_
      conv => whnf
      repeat ((first | refine qp (xB (jf (c := ((k + 1 : Nat) : Int)) (by omega) (by omega) (by omega)) rfl rfl rfl) ?_ | refine qz ?_); conv => whnf)
      exact ⟨⟨k + 1, hlt, nxt hb hp'⟩, ⟨by exact qle, trivial⟩, by simp; omega⟩
   · rw [decide_eq_false h0] at hb
     rw [bad (fun q => by rw [hb] at q; cases q)]
     as_aux_lemma =>
      repeat ((first | refine qc (xE hsz hw) ?_ | refine qc (xC hv.1 hv.2) ?_ | refine qc (hpl) ?_ | refine qz ?_); conv => whnf)
      exact xA rfl trivial
  | false =>
   have hb := aMv hw hv hgg.symm
   by_cases h0 : 1 ≤ l[k].head ∧ l[k].head ≤ 60
   · rw [decide_eq_true h0] at hb
     as_aux_lemma =>
      repeat ((first | refine qc (xE hsz hw) ?_ | refine qc (xC hv.1 hv.2) ?_ | refine qc (hpl) ?_ | refine qc (xC h0.1 h0.2) ?_ | refine qz ?_); conv => whnf)
      refine xI _ _ _ ?_
      conv => whnf
      repeat ((first | refine qp (xB (jf (c := ((k + 1 : Nat) : Int)) (by omega) (by omega) (by omega)) rfl rfl rfl) ?_ | refine qz ?_); conv => whnf)
      exact ⟨⟨k + 1, hlt, nxt hb hp'⟩, ⟨by exact qle, trivial⟩, by simp; omega⟩
   · rw [decide_eq_false h0] at hb
     rw [bad (fun q => by rw [hb] at q; cases q)]
     as_aux_lemma =>
      repeat ((first | refine qc (xE hsz hw) ?_ | refine qc (xC hv.1 hv.2) ?_ | refine qc (hpl) ?_ | refine qc (y9 h0) ?_ | refine qz ?_); conv => whnf)
      exact xA rfl trivial
end Go.Proofs.YtkfllfhcjegfoaaGreatDoor.AM
namespace Go.Proofs.YtkfllfhcjegfoaaGreatDoor.AM
open Go Go.RowKit
def aRa (N : Nat) (l : List Rf) : Prop := ∀ e ∈ l, e.name.size ≤ N
attribute [local irreducible] xM xN xW yF yL Pre ACG
end Go.Proofs.YtkfllfhcjegfoaaGreatDoor.AM
namespace Go.Proofs.YtkfllfhcjegfoaaGreatDoor.AM
open Go Go.RowKit
abbrev aDA : Wsh := ⟨0, eB, eB, eB, []⟩
theorem aPP {l : List Edt} : ∀ x ∈ l.map xg, zl x = true := fun x hx => by obtain ⟨_, _, rfl⟩ := List.mem_map.1 hx; rfl
def jV (ws : List Wsh) (l : Int) : Int := if l - ws.length < 0 then -1 else szG szH ws (l - ws.length)
theorem aMj {es : List Wsh} {k : Nat} {l : Int} (h : k < es.length) : szG szH (es.drop k) l = if szH es[k] l < 0 then -1 else szG szH (es.drop (k + 1)) (szH es[k] l) := by
 rw [List.drop_eq_getElem_cons h, szG]
section
variable {s : St} {Θ : Tab}
theorem aPJ {a t l : Nat} {ob : OB} {t' : Option Nat} {xs : List AV} (h1 : s.sl a = .optr l 0 [] 0) (ho : s.hp l = some ob) (hop : ob.e.open_ = false) (hoe : zM ob.e ob.xs 0 = some (.o t' 0 (.mix xs))) (hof : ofO (.mix xs) = some (.mix xs)) (hk : ((Θ.look t).known && (Θ.look t).isAgg && Nat.beq (xL xs) (Θ.look t).size) = true) : rvA s (.cell a t) = .mix xs ∧ aL3 Θ s (.cell a t) := by
 have hr : rvA s (.cell a t) = .mix xs := by
  simp only [rvA, h1, ho, hop, hoe, cond_false, hof]; rfl
 simp only [Bool.and_eq_true] at hk
 exact ⟨hr, hk.1.1, by rw [hr]; exact hk.1.2.symm, by rw [hr]; exact Nat.eq_of_beq_eq_true hk.2, .inl ⟨l, ob, _, h1, ho, .inr ⟨hop, _, _, hoe, hof⟩⟩⟩
theorem aQ6 {a t l L : Nat} {ob q : OB} {t' : Option Nat} {xs ys : List AV} (h1 : s.sl a = .optr l 0 [] 0) (ho : s.hp l = some ob) (hoe : zM ob.e ob.xs 0 = some (.o t' 0 (.mix xs))) (hq : s.hp L = some q) (hm : AV.mix xs = mapA (fun k => [L].getD k 0) (.mix ys)) (hw : (AV.mix ys).within (fun k => Nat.blt k [L].length) = true) (hof : ofO (.mix xs) = some (.mix xs) := by rfl) (hk : ((Θ.look t).known && (Θ.look t).isAgg && Nat.beq (xL xs) (Θ.look t).size) = true := by rfl) (hop : ob.e.open_ = false := by rfl) (hok : okL L = true := by rfl) (hsh : q.e.shut = true := by rfl) :
 vU Θ [.cell a t] ⟨.mix ys, [q]⟩ .ret s := by
 obtain ⟨c1, c2⟩ := aPJ (Θ := Θ) (t := t) h1 ho hop hoe hof hk
 exact ⟨trivial, [L], by simp, ⟨⟨hq, hok, hsh⟩, trivial⟩, ⟨c2, trivial⟩, trivial, ⟨by rw [c1]; exact .inl ⟨hm, hw⟩, trivial⟩⟩
end
attribute [local irreducible] xM xN xW yF yL Pre ACG
theorem aLe {es : List Wsh} {l : Int} (hm : es.length ≤ maxLen) (hc : ∀ c ∈ es, c.ok maxLen) (h0 : 0 ≤ l) (h1 : l ≤ 1048576) : AC Tryz.prog 55 [.lst 5 (es.map wshA), .v (.int .i64 l)] ⟨.v (.int .i64 (jV es l)), []⟩ := by
 unfold maxLen at hm
 by_cases hn : l - es.length < 0
 · rw [jV, if_pos hn]
   refine qrf Tryz.func55 Tryz.ntmps55 Tryz.results55 ?_; conv => whnf
   repeat ((refine qz ?_; conv => whnf))
   exact xA rfl trivial
 · rw [jV, if_neg hn]
   refine qrf Tryz.func55 Tryz.ntmps55 Tryz.results55 ?_; conv => whnf
   repeat ((refine qz ?_; conv => whnf))
   refine xX (ι := { p : Nat × Int // p.1 ≤ es.length ∧ 0 ≤ p.2 ∧ p.2 ≤ l ∧ szG szH (es.drop p.1) p.2 = szG szH es (l - es.length) }) (fun p => ⟨[(0, .lst 5 (es.map wshA)), (1, .v (.int .i64 p.1.2)), (5, .v (.int .i64 (p.1.1 : Int)))], []⟩) (fun p => es.length - p.1.1) ⟨(0, l - es.length), by simp, by omega, by omega, rfl⟩ (by exact qle) ?_
   rintro ⟨⟨k, cur⟩, hkl, hc0, hc1, hsz⟩
   simp only at hkl hc0 hc1 hsz ⊢
   conv => whnf
   by_cases hlt : k < es.length
   · have hd := aMj (l := cur) hlt
     rw [hsz] at hd
     have q1 := hc _ (List.getElem_mem hlt)
     by_cases hneg : szH es[k] cur < 0
     · rw [if_pos hneg] at hd
       rw [hd]
       repeat ((first | refine qz ?_ | refine qc (aGe q1 hc0 (by omega)) ?_); conv => whnf)
       exact xA rfl trivial
     · rw [if_neg hneg] at hd
       have hle := (aOC (by omega : 0 ≤ szH es[k] cur) (by omega)).1
       repeat ((first | refine qz ?_ | refine qc (aGe q1 hc0 (by omega)) ?_); conv => whnf)
       exact ⟨⟨(k + 1, szH es[k] cur), by simp; omega, by omega, by omega, hd.symm⟩, by exact qle, by simp; omega⟩
   · have hkk : k = es.length := by omega
     rw [hkk, List.drop_length] at hsz
     rw [← hsz]
     repeat ((refine qz ?_; conv => whnf))
     exact xA rfl trivial
def aR8 (w : Wsh) (l : Nat) : List AV := [.v (.int .i64 w.kind), .v (.string w.name), .v (.string w.source), .v (.string w.key), .own l]
theorem aLw {o : Wsh} (hm : o.edits.length ≤ 1048576) : AC Tryz.prog 103 [wshA o] ⟨.mix (aR8 o 0), [⟨191, 3, o.edits.map xg⟩]⟩ := by
 refine qrf Tryz.func103 Tryz.ntmps103 Tryz.results103 ?_; conv => whnf
 repeat (first | (refine qz ?_; conv => whnf) | (refine qc (aEa hm) ?_; conv => whnf) | (refine qr (aOB rfl rfl rfl rfl rfl (by conv => lhs; whnf) rfl) ?_; conv => whnf) | (refine qr (aA9 rfl rfl rfl rfl rfl rfl) ?_; conv => whnf))
 exact aQ6 rfl rfl rfl rfl rfl rfl
theorem aJq {l : List Wsh} (hm : l.length ≤ 1048576) (hc : ∀ c ∈ l, c.edits.length ≤ 1048576) : AC Tryz.prog 71 [.lst 5 (l.map wshA)] ⟨.own 0, [⟨.d 162, 5, l.map wshA⟩]⟩ := by
 refine qrf Tryz.func71 Tryz.ntmps71 Tryz.results71 ?_; conv => whnf
 repeat (first | (refine qz ?_; conv => whnf) | (refine aCs (jF (n := l.length) (by omega) (by omega) (by simp; rfl) (by simp; rfl) rfl rfl) rfl rfl (fun e => by cases e) (Gh.z2d 8 rfl (Gh.done ?_)); conv => whnf))
 have hrow : List.replicate l.length (wshA aDA) = (l.take 0 ++ List.replicate (l.length - 0) aDA).map wshA := by simp
 refine xX (ι := { k : Nat // k ≤ l.length }) (fun k => ⟨[(0, .lst 5 (l.map wshA)), (3, .own 8), (4, .v (.int .i64 (k.1 : Int)))], [(8, ⟨.d 162, 5, (l.take k.1 ++ List.replicate (l.length - k.1) aDA).map wshA⟩)]⟩) (fun k => l.length - k.1) ⟨0, Nat.zero_le _⟩ ⟨⟨congrArg (fun x => some (OB.mk _ _ x)) hrow, trivial⟩, .inl ⟨rfl, rfl⟩, .inl ⟨rfl, rfl⟩, .inl ⟨rfl, rfl⟩, trivial⟩ ?_
 rintro ⟨k, hk⟩
 dsimp only
 conv => whnf
 by_cases hlt : k < l.length
 · have q1 := hc _ (List.getElem_mem hlt)
   have hlt2 : k < (l.take k ++ List.replicate (l.length - k) aDA).length := by simp; omega
   have hset := congrArg (List.map wshA) (wR l aDA k hlt)
   rw [List.map_set] at hset
   have hopn : zM (.d 162) ((l.take k ++ List.replicate (l.length - k) aDA).map wshA) k = some (.o (some 162) k (wshA (l.take k ++ List.replicate (l.length - k) aDA)[k])) := by
    simp only [zM, jh wshA hlt2]
   repeat ((first | refine qz ?_ | refine qc (aLw q1) ?_ | refine qp (uK (by simpa using hlt2) rfl rfl rfl rfl rfl) ?_); conv => whnf)
   refine aCs (aA9 rfl rfl hopn rfl rfl rfl) rfl rfl (fun e => by cases e) (Gh.s2d 21 rfl aPP (Gh.fold 8 21 [4] rfl rfl rfl rfl rfl rfl (Gh.shut 8 (z := wshA aDA) (y' := wshA l[k]) rfl rfl (Gh.done ?_))))
   conv => whnf
   repeat ((refine qz ?_; conv => whnf))
   exact ⟨⟨k + 1, hlt⟩, ⟨⟨congrArg (fun x => some (OB.mk _ _ x)) hset, trivial⟩, .inl ⟨rfl, rfl⟩, .inl ⟨rfl, rfl⟩, .inl ⟨rfl, rfl⟩, trivial⟩, by simp; omega⟩
 · have hkk : k = l.length := by omega
   subst hkk
   repeat ((refine qz ?_; conv => whnf))
   exact kD rfl (by show some (OB.mk _ _ _) = _; rw [List.take_length, Nat.sub_self, List.replicate_zero, List.append_nil])
theorem aLy {l : List Wsh} (hm : l.length ≤ maxLen) (hc : ∀ c ∈ l, c.edits.length ≤ maxLen) : AC Tryz.prog 84 [.lst 5 (l.map wshA), .lst 5 (l.map wshA)] ⟨.v (.bool true), []⟩ := by
 unfold maxLen at hm
 refine qrf Tryz.func84 Tryz.ntmps84 Tryz.results84 ?_; conv => whnf
 repeat ((refine qz ?_; conv => whnf))
 refine xX (ι := { k : Nat // k ≤ l.length }) (fun k => ⟨[(0, .lst 5 (l.map wshA)), (1, .lst 5 (l.map wshA)), (5, .v (.int .i64 (k.1 : Int)))], []⟩) (fun k => l.length - k.1) ⟨0, Nat.zero_le _⟩ (by exact qle) ?_
 rintro ⟨k, hk⟩
 dsimp only
 conv => whnf
 by_cases hlt : k < l.length
 · have q1 := hc _ (List.getElem_mem hlt)
   repeat ((refine qz ?_; conv => whnf))
   refine .inl ⟨by kernel_rfl, ?_⟩
   conv => whnf
   repeat ((first | refine qz ?_ | refine qc (aMc q1) ?_); conv => whnf)
   exact ⟨⟨k + 1, hlt⟩, by exact qle, by simp; omega⟩
 · repeat ((refine qz ?_; conv => whnf))
   exact xA rfl trivial
end Go.Proofs.YtkfllfhcjegfoaaGreatDoor.AM
namespace Go.Proofs.YtkfllfhcjegfoaaGreatDoor
open Go Go.RowKit
end Go.Proofs.YtkfllfhcjegfoaaGreatDoor
namespace Go.Proofs.YtkfllfhcjegfoaaGreatDoor.AM
open Go Go.RowKit
section
variable {w : World}
end
end Go.Proofs.YtkfllfhcjegfoaaGreatDoor.AM
