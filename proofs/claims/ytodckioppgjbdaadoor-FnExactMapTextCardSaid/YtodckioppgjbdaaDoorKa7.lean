/- Texts of the machine over data, folded. -/
import Derived.Test.YtodckioppgjbdaaDoorKa5
import Derived.Test.YtodckioppgjbdaaDoorKa6
import Derived.Laws.StructEq
import Derived.ProofKit
import Derived.OpenShut
import Derived.ShutString
import Derived.LaidMore
import Derived.Lay
import Derived.OpenVars
import Derived.ChangeOld
import Derived.ChangeArms
import Derived.FnData
import Derived.Below
set_option linter.unusedVariables false
set_option maxRecDepth 100000
set_option linter.unusedSimpArgs false
namespace Go.Proofs.YtodckioppgjbdaaDoor.AM
open Go Go.RowKit
def szF {α : Type} (g : α → Nat) : List α → Int → Int
 | [], l => l
 | e :: es, l => if l - g e < 0 then -1 else szF g es (l - g e)
def szL {α : Type} (g : α → Nat) (es : List α) (l : Int) : Int := if l - es.length < 0 then -1 else szF g es (l - es.length)
theorem aEu {α : Type} {g : α → Nat} : ∀ {es : List α} {l : Int}, 0 ≤ szF g es l → szF g es l ≤ l ∧ ∀ e ∈ es, (g e : Int) ≤ l
 | [], l, h => ⟨Int.le_refl _, by simp⟩
 | e :: es, l, h => by
  unfold szF at h ⊢
  split at h
  · omega
  · rename_i hn
    rw [if_neg hn]
    obtain ⟨h1, h2⟩ := aEu h
    refine ⟨by omega, fun x hx => ?_⟩
    rcases List.mem_cons.1 hx with rfl | hx
    · omega
    · have := h2 x hx; omega
theorem aEv {α : Type} {g : α → Nat} {es : List α} {l : Int} (h : 0 ≤ szL g es l) : szL g es l ≤ l ∧ (es.length : Int) ≤ l ∧ ∀ e ∈ es, (g e : Int) ≤ l := by
 unfold szL at h ⊢
 split at h
 · omega
 · rename_i hn
   rw [if_neg hn]
   obtain ⟨h1, h2⟩ := aEu h
   exact ⟨by omega, by omega, fun e he => by have := h2 e he; omega⟩
abbrev eSz (e : Ent) : Nat := e.1.size
abbrev xSz (e : Edt) : Nat := e.key.size
attribute [local irreducible] xR xO xX y5 yh Pre ACG
theorem aAR {e : Ent} {l : Int} (hk : e.1.size ≤ maxLen) (h0 : 0 ≤ l) (h1 : l ≤ 1048576) : AC Tryd.prog 47 [yS e, .v (.int .i64 l)] ⟨.v (.int .i64 (if l - e.1.size < 0 then -1 else l - e.1.size)), []⟩ := by
 unfold maxLen at hk
 by_cases hn : l - e.1.size < 0
 · rw [if_pos hn]
   refine qrf Tryd.func47 Tryd.ntmps47 Tryd.results47 ?_; conv => whnf
   repeat ((refine qz ?_; conv => whnf))
   exact xk rfl trivial
 · rw [if_neg hn]
   refine qrf Tryd.func47 Tryd.ntmps47 Tryd.results47 ?_; conv => whnf
   repeat ((refine qz ?_; conv => whnf))
   exact xk rfl trivial
theorem aCg {α : Type} {g : α → Nat} {es : List α} {k : Nat} {l : Int} (h : k < es.length) : szF g (es.drop k) l = if l - g es[k] < 0 then -1 else szF g (es.drop (k + 1)) (l - g es[k]) := by
 rw [List.drop_eq_getElem_cons h, szF]
theorem aCs {es : List Ent} {l : Int} (hm : es.length ≤ maxLen) (hk : ∀ e ∈ es, e.1.size ≤ maxLen) (h0 : 0 ≤ l) (h1 : l ≤ 1048576) : AC Tryd.prog 10 [.lst 2 (es.map yS), .v (.int .i64 l)] ⟨.v (.int .i64 (szL eSz es l)), []⟩ := by
 unfold maxLen at hm
 by_cases hn : l - es.length < 0
 · rw [szL, if_pos hn]
   refine qrf Tryd.func10 Tryd.ntmps10 Tryd.results10 ?_; conv => whnf
   repeat ((refine qz ?_; conv => whnf))
   exact xk rfl trivial
 · rw [szL, if_neg hn]
   refine qrf Tryd.func10 Tryd.ntmps10 Tryd.results10 ?_; conv => whnf
   repeat ((refine qz ?_; conv => whnf))
   refine kW (ι := { p : Nat × Int // p.1 ≤ es.length ∧ 0 ≤ p.2 ∧ p.2 ≤ l ∧ szF eSz (es.drop p.1) p.2 = szF eSz es (l - es.length) }) (fun p => ⟨[(0, .lst 2 (es.map yS)), (1, .v (.int .i64 p.1.2)), (5, .v (.int .i64 (p.1.1 : Int)))], []⟩) (fun p => es.length - p.1.1) ⟨(0, l - es.length), by simp, by omega, by omega, rfl⟩ (by exact qle) ?_
   rintro ⟨⟨k, cur⟩, hkl, hc0, hc1, hsz⟩
   simp only at hkl hc0 hc1 hsz ⊢
   conv => whnf
   by_cases hlt : k < es.length
   · have hd := aCg (g := eSz) (l := cur) hlt
     rw [hsz] at hd
     by_cases hneg : cur - (es[k]).1.size < 0
     · rw [if_pos hneg] at hd
       rw [hd]
       repeat (first | (refine qz ?_; conv => whnf) | (refine qp (kV (aAR (hk _ (List.getElem_mem hlt)) (by omega) (by omega)) rfl (.inl rfl) trivial rfl rfl) ?_; rw [if_pos hneg]; conv => whnf))
       exact xk rfl trivial
     · rw [if_neg hneg] at hd
       repeat (first | (refine qz ?_; conv => whnf) | (refine qp (kV (aAR (hk _ (List.getElem_mem hlt)) (by omega) (by omega)) rfl (.inl rfl) trivial rfl rfl) ?_; rw [if_neg hneg]; conv => whnf))
       exact ⟨⟨(k + 1, cur - (es[k]).1.size), by simp; omega, by omega, by omega, hd.symm⟩, by exact qle, by simp; omega⟩
   · have hkk : k = es.length := by omega
     rw [hkk, List.drop_length] at hsz
     rw [← hsz]
     repeat ((refine qz ?_; conv => whnf))
     exact xk rfl trivial
end Go.Proofs.YtodckioppgjbdaaDoor.AM
namespace Go.Proofs.YtodckioppgjbdaaDoor.AM
open Go Go.RowKit
section
variable {P : Program} {t : TypeId} {x y : Operand} {a b : ByteArray}
theorem aDO (h : a = b) : yg P .neq t x y (.string a) (.string b) (.bool false) := aF2 fun w => by simp [Op.stringOp, h]
end
attribute [local irreducible] xR xO xX y5 yh Pre ACG
theorem aBO {e : Edt} {l : Int} (hk : e.key.size ≤ maxLen) (h0 : 0 ≤ l) (h1 : l ≤ 1048576) : AC Tryd.prog 58 [yR e, .v (.int .i64 l)] ⟨.v (.int .i64 (if l - e.key.size < 0 then -1 else l - e.key.size)), []⟩ := by
 unfold maxLen at hk
 by_cases hn : l - e.key.size < 0
 · rw [if_pos hn]
   refine qrf Tryd.func58 Tryd.ntmps58 Tryd.results58 ?_; conv => whnf
   repeat ((refine qz ?_; conv => whnf))
   exact xk rfl trivial
 · rw [if_neg hn]
   refine qrf Tryd.func58 Tryd.ntmps58 Tryd.results58 ?_; conv => whnf
   repeat ((refine qz ?_; conv => whnf))
   exact xk rfl trivial
theorem aDf {es : List Edt} {l : Int} (hm : es.length ≤ maxLen) (hk : ∀ e ∈ es, e.key.size ≤ maxLen) (h0 : 0 ≤ l) (h1 : l ≤ 1048576) : AC Tryd.prog 19 [.lst 3 (es.map yR), .v (.int .i64 l)] ⟨.v (.int .i64 (szL xSz es l)), []⟩ := by
 unfold maxLen at hm
 by_cases hn : l - es.length < 0
 · rw [szL, if_pos hn]
   refine qrf Tryd.func19 Tryd.ntmps19 Tryd.results19 ?_; conv => whnf
   repeat ((refine qz ?_; conv => whnf))
   exact xk rfl trivial
 · rw [szL, if_neg hn]
   refine qrf Tryd.func19 Tryd.ntmps19 Tryd.results19 ?_; conv => whnf
   repeat ((refine qz ?_; conv => whnf))
   refine kW (ι := { p : Nat × Int // p.1 ≤ es.length ∧ 0 ≤ p.2 ∧ p.2 ≤ l ∧ szF xSz (es.drop p.1) p.2 = szF xSz es (l - es.length) }) (fun p => ⟨[(0, .lst 3 (es.map yR)), (1, .v (.int .i64 p.1.2)), (5, .v (.int .i64 (p.1.1 : Int)))], []⟩) (fun p => es.length - p.1.1) ⟨(0, l - es.length), by simp, by omega, by omega, rfl⟩ (by exact qle) ?_
   rintro ⟨⟨k, cur⟩, hkl, hc0, hc1, hsz⟩
   simp only at hkl hc0 hc1 hsz ⊢
   conv => whnf
   by_cases hlt : k < es.length
   · have hd := aCg (g := xSz) (l := cur) hlt
     rw [hsz] at hd
     by_cases hneg : cur - (es[k]).key.size < 0
     · rw [if_pos hneg] at hd
       rw [hd]
       repeat (first | (refine qz ?_; conv => whnf) | (refine qp (kV (aBO (hk _ (List.getElem_mem hlt)) (by omega) (by omega)) rfl (.inl rfl) trivial rfl rfl) ?_; rw [if_pos hneg]; conv => whnf))
       exact xk rfl trivial
     · rw [if_neg hneg] at hd
       repeat (first | (refine qz ?_; conv => whnf) | (refine qp (kV (aBO (hk _ (List.getElem_mem hlt)) (by omega) (by omega)) rfl (.inl rfl) trivial rfl rfl) ?_; rw [if_neg hneg]; conv => whnf))
       exact ⟨⟨(k + 1, cur - (es[k]).key.size), by simp; omega, by omega, by omega, hd.symm⟩, by exact qle, by simp; omega⟩
   · have hkk : k = es.length := by omega
     rw [hkk, List.drop_length] at hsz
     rw [← hsz]
     repeat ((refine qz ?_; conv => whnf))
     exact xk rfl trivial
end Go.Proofs.YtodckioppgjbdaaDoor.AM
namespace Go.Proofs.YtodckioppgjbdaaDoor
open Go.RowKit
def aGG (e : TypeId) (r : List Edt × Int) (w : World) (e' : Ending) (w' : World) : Prop := ∃ v, e' = .returned (.tuple #[v, .int .i64 r.2]) ∧ w'.ownsRow w.heap.size e 3 v r.1.length (xg r.1) ∧ Below w.heap.size w w'
theorem aGG.mk {e : TypeId} {r : List Edt × Int} {l : List Edt} {c : Int} {v : Value} {w w' : World} (h : r = (l, c)) (ho : w'.ownsRow w.heap.size e 3 v l.length (xg l)) (hb : Below w.heap.size w w') : aGG e r w (.returned (.tuple #[v, .int .i64 c])) w' := ⟨v, by rw [h], by rw [h]; exact ho, hb⟩
end Go.Proofs.YtodckioppgjbdaaDoor
namespace Go.Proofs.YtodckioppgjbdaaDoor.AM
open Go Go.RowKit
attribute [local irreducible] xR xO xX y5 yh Pre ACG
theorem aCN {α : Type} (l : List α) (z : α) (k : Nat) (h : k < l.length) : (l.take k ++ List.replicate (l.length - k) z).set k l[k] = l.take (k + 1) ++ List.replicate (l.length - (k + 1)) z := by
 have h1 : l.length - k = (l.length - (k + 1)) + 1 := by omega
 rw [h1, List.replicate_succ, List.set_append_right _ _ (by simp; omega), List.take_succ_eq_append_getElem h, List.append_assoc]
 have : k - (l.take k).length = 0 := by simp; omega
 rw [this]; rfl
end Go.Proofs.YtodckioppgjbdaaDoor.AM
namespace Go.Proofs.YtodckioppgjbdaaDoor.AM
open Go Go.RowKit
abbrev Cmt := List Int × List Ent
theorem aAG (e : Int) : xq (aGf e) := by unfold aGf; simp [xq]
attribute [local irreducible] xR xO xX y5 yh Pre ACG
end Go.Proofs.YtodckioppgjbdaaDoor.AM
namespace Go.Proofs.YtodckioppgjbdaaDoor.AM
open Go Go.RowKit
section
variable {P : Program} {Θ : Tab} {s : St} {d : Option Tmp} {ty : TypeId} {pos : String} {after : Array Edge} {g : Option (Nat × Bool)}
end
section
variable {s : St} {Θ : Tab}
theorem aGx {t : Nat} {y : AV} (h : s.sl t = y) (hy : (match y with | .v _ | .agg _ | .lst _ _ | .any => True | _ => False)) : aFT s [] (s.sl t) y := .inl (by cases y <;> first | exact ⟨h, rfl⟩ | exact hy.elim)
end
attribute [local irreducible] xR xO xX y5 yh Pre ACG
def aBq (N : Nat) (cs : List Cmt) : Prop := ∀ c ∈ cs, c.1.length ≤ N ∧ c.2.length ≤ N ∧ ∀ e ∈ c.2, e.1.size ≤ N
theorem aBq.le {N M : Nat} {cs : List Cmt} (h : aBq N cs) (k : N ≤ M) : aBq M cs := fun c hc => ⟨Nat.le_trans (h c hc).1 k, Nat.le_trans (h c hc).2.1 k, fun e he => Nat.le_trans ((h c hc).2.2 e he) k⟩
end Go.Proofs.YtodckioppgjbdaaDoor.AM
namespace Go.Proofs.YtodckioppgjbdaaDoor.AM
open Go Go.RowKit Go.ChangeShapes Go.WideShapes Go.Deep
section
variable {S : Nat → Prop} {w : World}
end
section
variable {H : Type} {enc : TypeId × Value → H} {P : Program} {w : World} {base : Nat} {held : Bool}
end
end Go.Proofs.YtodckioppgjbdaaDoor.AM
namespace Go.Proofs.YtodckioppgjbdaaDoor.AM
open Go Go.RowKit
structure Rf where
 name : ByteArray
 head : Int
 ver : Int
 gone : Bool
def aGy (r : Rf) : AV := .agg [.v (.string r.name), .v (.int .i64 r.head), .v (.int .i64 r.ver), .v (.bool r.gone)]
theorem aAH (e : Rf) : xq (aGy e) := by unfold aGy; simp [xq, yX]
theorem aFu {a b : Rf} : a = b ↔ a.name = b.name ∧ a.head = b.head ∧ a.ver = b.ver ∧ a.gone = b.gone := by
 cases a; cases b; simp
attribute [local irreducible] xR xO xX y5 yh Pre ACG
end Go.Proofs.YtodckioppgjbdaaDoor.AM
namespace Go.Proofs.YtodckioppgjbdaaDoor.AM
open Go Go.RowKit Go.ChangeShapes Go.WideShapes Go.Deep
section
variable {S : Nat → Prop} {w : World}
end
section
variable {H : Type} {enc : TypeId × Value → H} {P : Program} {w : World} {base : Nat} {held : Bool}
end
end Go.Proofs.YtodckioppgjbdaaDoor.AM
namespace Go.Proofs.YtodckioppgjbdaaDoor
open Go.RowKit Go.ChangeShapes Go.WideShapes Go.Deep
section
variable {H : Type} {enc : TypeId × Value → H} {P : Program} {w : World} {base : Nat} {held : Bool}
theorem aEc {t e : TypeId} {f0 f1 f2 : Field} {A : Option Addr} {n c : Nat} {d : DataW H} {p : List MemPlace} (ht : P.underlying t = some (.slice e)) (he : P.underlying e = some (.struct #[f0, f1, f2]))
 (hone : oneCellFields P #[f0, f1, f2] = true) (hC : P.cellsOf e = 3) (h0 : P.underlying f0.type = some .string) (h1 : P.underlying f1.type = some (.int .i64)) (h2 : P.underlying f2.type = some .bool) (h : DataW.Trod enc P w base (fun _ => true) held t (.slice A n c) d p) :
 ∃ es : List Edt, Rd w 3 A n (xg es) ∧ n ≤ maxLen ∧ ∀ e ∈ es, e.key.size ≤ maxLen := by
 obtain ⟨hn, hf⟩ := qm ht he hone hC (by simp) h
 rcases Nat.eq_zero_or_pos n with h | hpos
 · subst h
   exact ⟨[], ⟨by simp [xg], fun h => absurd h (by omega)⟩, hn, by simp⟩
 obtain ⟨b, off, rfl, hlt, hi⟩ := hf hpos
 obtain ⟨es, hl, hes⟩ := aDV (α := Edt) n (fun i x => w.cell? ⟨b, off + (i * 3 + 0), none⟩ = some (.string x.key) ∧ w.cell? ⟨b, off + (i * 3 + 1), none⟩ = some (.int .i64 x.val) ∧ w.cell? ⟨b, off + (i * 3 + 2), none⟩ = some (.bool x.gone) ∧ x.key.size ≤ maxLen) (fun i hin => by
  obtain ⟨k, hk⟩ := hi i hin
  obtain ⟨v0, y0, c0, t0⟩ := hk 0 f0 rfl
  obtain ⟨v1, y1, c1, t1⟩ := hk 1 f1 rfl
  obtain ⟨v2, y2, c2, t2⟩ := hk 2 f2 rfl
  obtain ⟨s, hs, _, hsz⟩ := DataW.trod_string h0 t0
  obtain ⟨x, hx, _, _⟩ := DataW.trod_int h1 t1
  obtain ⟨g, hg, _⟩ := DataW.trod_bool h2 t2
  simp at hs hx hg
  subst hs; subst hx; subst hg
  exact ⟨⟨s, x, g⟩, c0, c1, c2, hsz⟩)
 refine ⟨es, ⟨by rw [uI, hl], fun _ => ⟨b, off, rfl, hlt, fun j u hj => ?_⟩⟩, hn, fun e he => ?_⟩
 · have hjl : j < es.length * 3 := by
    rcases Nat.lt_or_ge j (es.length * 3) with h | h
    · exact h
    · rw [List.getElem?_eq_none (by rw [uI]; exact h)] at hj; cases hj
   have hq : j / 3 < es.length := by omega
   obtain ⟨a0, a1, a2, _⟩ := hes (j / 3) hq
   obtain ⟨e0, e1, e2⟩ := aCI es (j / 3) hq
   have hm : j = j / 3 * 3 + j % 3 := by omega
   have h3 : j % 3 = 0 ∨ j % 3 = 1 ∨ j % 3 = 2 := by omega
   rcases h3 with h2 | h2 | h2
   · rw [h2, Nat.add_zero] at hm
     rw [hm, e0] at hj
     simp at hj
     rw [Nat.add_zero] at a0
     rw [hm, ← hj]; exact a0
   · rw [h2] at hm
     rw [hm, e1] at hj
     simp at hj
     rw [hm, ← hj]; exact a1
   · rw [h2] at hm
     rw [hm, e2] at hj
     simp at hj
     rw [hm, ← hj]; exact a2
 · obtain ⟨i, hi', rfl⟩ := List.getElem_of_mem he
   exact (hes i hi').2.2.2
end
end Go.Proofs.YtodckioppgjbdaaDoor
namespace Go.Proofs.YtodckioppgjbdaaDoor.AM
open Go Go.RowKit
end Go.Proofs.YtodckioppgjbdaaDoor.AM
namespace Go.Proofs.YtodckioppgjbdaaDoor.AM
open Go Go.RowKit Go.ChangeShapes Go.WideShapes Go.Deep
structure Opr where
 kind : Int
 frm : Int
 name : ByteArray
 key : ByteArray
 edits : List Edt
structure Bas where
 store : List Cmt
 refs : List Rf
structure Rst where
 code : Int
 com : Int
 val : Int
 keys : List ByteArray
 map : List Ent
def Opr.ok (o : Opr) (N : Nat) : Prop := o.name.size ≤ N ∧ o.key.size ≤ N ∧ o.edits.length ≤ N ∧ ∀ e ∈ o.edits, e.key.size ≤ N
def Rst.ok (r : Rst) (N : Nat) : Prop := r.keys.length ≤ N ∧ (∀ k ∈ r.keys, k.size ≤ N) ∧ r.map.length ≤ N ∧ ∀ e ∈ r.map, e.1.size ≤ N
section
variable {S : Nat → Prop} {w : World}
end
section
variable {H : Type} {enc : TypeId × Value → H} {P : Program} {w : World} {base : Nat} {held : Bool}
end
end Go.Proofs.YtodckioppgjbdaaDoor.AM
namespace Go.Proofs.YtodckioppgjbdaaDoor.AM
open Go.ChangeShapes Go.WideShapes Go.ChangeAt Go.RowKit
section
variable {P : Program} {W : World}
def Lv (P : Program) (w : World) (n : String) (d : DataW Unit) : Prop := ∃ g t cs fuel p, P.globalNamed n = some g ∧ (P.globals[g]?).map (·.type) = some t ∧ w.var? P n = some cs ∧ DataW.trod (fun _ => ()) P w 0 (fun _ => true) false fuel t cs.toList = some (d, p)
theorem aDU : ∀ {l : List (String × DataW Unit)} {ps : List MemPlace}, DataW.LaidVars P W l ps → ∀ n d, (n, d) ∈ l → Lv P W n d
 | [], _, _, n, d, h => by cases h
 | (m, e) :: r, ps, hl, n, d, h => by
  obtain ⟨g, t, cs, fuel, p, q, h1, h2, h3, h4, h5, _⟩ := hl
  rcases List.mem_cons.1 h with e' | h
  · cases e'; exact ⟨g, t, cs, fuel, p, h1, h2, h3, h4⟩
  · exact aDU h5 n d h
theorem met_lv {l : List (String × DataW Unit)} (hh : (l.filter fun x => x.2.handleName?.isSome) = []) (h : laidMetH P l W) {n : String} {d : DataW Unit} (hm : (n, d) ∈ l) : Lv P W n d := by
 unfold laidMetH at h
 rw [hh] at h
 obtain ⟨ps, h1, _⟩ := h
 exact aDU h1 n d hm
theorem aFL {n : String} {g : Nat} {cs : Array Value} (hg : P.globalNamed n = some g) (hv : W.var? P n = some cs) : g < W.heap.size ∧ ∃ t p, W.heap[g]? = some (.cells cs t p) := by
 unfold World.var? at hv
 rw [hg] at hv
 simp only [Option.bind_some] at hv
 cases hh : W.heap[g]? with
 | none => rw [hh] at hv; cases hv
 | some o =>
  rw [hh] at hv
  cases o with
  | cells c t p => simp only [Option.some.injEq] at hv; subst hv; exact ⟨(Array.getElem?_eq_some_iff.1 hh).1, t, p, rfl⟩
  | _ => cases hv
theorem aDN {α : Type} (f : α → Value) : ∀ (l : List α), asz (.agg (l.map fun x => .v (f x))) = l.length
 | [] => rfl
 | x :: l => by
  have := aDN f l
  rw [List.map_cons]
  show 1 + xA _ = _
  have h2 : xA (l.map fun x => .v (f x)) = l.length := this
  rw [h2, List.length_cons]; omega
theorem aEn {α : Type} {S : Nat → Prop} {w : World} (f : α → Value) (h1 : ∀ x, (f x).oneCell' = true) : ∀ (l : List α), RL S w (l.map fun x => .v (f x)) (l.map f)
 | [] => by simp only [List.map_nil]; unfold RL; rfl
 | x :: l => by
  simp only [List.map_cons]
  unfold RL
  exact ⟨[f x], l.map f, rfl, by unfold RA; exact ⟨rfl, h1 x⟩, aEn f h1 l⟩
theorem rg_of {α : Type} (f : α → Value) (h1 : ∀ x, (f x).oneCell' = true) {ls : List α} {n : String} {g : Nat} {cs : Array Value} (hg : P.globalNamed n = some g) (hv : W.var? P n = some cs) (hsz : cs.size = ls.length) (hc : ∀ (j : Nat) x, ls[j]? = some x → cs[j]? = some (f x)) : RG (InW W) W g (.agg (ls.map fun x => .v (f x))) := by
 obtain ⟨hlt, t, p, hb⟩ := aFL hg hv
 refine ⟨hlt, fun _ => ?_, cs, t, p, hb, by show cs.size = _; rw [hsz, aDN]⟩
 unfold RA
 refine ⟨g, 0, ls.map f, rfl, hlt, by unfold RA; exact aEn f h1 ls, fun j u hu => ?_⟩
 rw [List.getElem?_map] at hu
 obtain ⟨x, hx, rfl⟩ := Option.map_eq_some_iff.1 hu
 rw [Nat.zero_add, World.var?_cell hg hv j]
 exact hc j x hx
theorem rg_int {ls : List Int} {k : IntKind} {n : String} {d : DataW Unit} {g te ee m : Nat} (h : Lv P W n d) (hd : d = .agg (ls.map fun s => .lit (.int k s))) (hg : P.globalNamed n = some g) (ht : (P.globals[g]?).map (·.type) = some te)
 (hu : P.underlying te = some (.array m ee)) (he : P.underlying ee = some (.int k)) (hc1 : P.cellsOf ee = 1) (hct : P.cellsOf te = m) (hm : ls.length = m) : RG (InW W) W g (.agg (ls.map fun s => .v (.int k s))) := by
 obtain ⟨g', t', cs, fuel, p, q1, q2, q3, q4⟩ := h
 obtain rfl := Option.some.inj (hg.symm.trans q1)
 obtain rfl := Option.some.inj (ht.symm.trans q2)
 subst hd
 obtain ⟨xs, k', _, ex, hl, hxl, hel⟩ := DataW.trod_array hu q4
 have hsz : cs.size = m := by simpa [hct] using hl
 refine rg_of (Value.int k) (fun _ => rfl) hg q3 (by omega) fun j x hx => ?_
 obtain ⟨hj, rfl⟩ := List.getElem?_eq_some_iff.1 hx
 have hE := hel j (by omega)
 rw [hc1, Nat.mul_one, List.getElem?_eq_getElem (by omega : j < xs.length)] at hE
 obtain ⟨z, e1, e2, _⟩ := DataW.trod_int he hE
 have e3 : (xs.map (·.1)) = ls.map fun s => (DataW.lit (.int k s) : DataW Unit) := by
  have := (Prod.mk.inj ex).1
  exact (DataW.agg.inj this).symm
 have e4 : (xs.map (·.1))[j]? = (ls.map fun s => (DataW.lit (.int k s) : DataW Unit))[j]? := by rw [e3]
 rw [List.getElem?_map, List.getElem?_map, List.getElem?_eq_getElem (by omega : j < xs.length), List.getElem?_eq_getElem hj, e2] at e4
 have hz : z = ls[j] := by
  simp only [Option.map_some, Option.some.injEq, DataW.lit.injEq, Lit.int.injEq] at e4
  exact e4.2
 have h0 : ((cs.toList.drop j).take 1)[0]? = some (.int k z) := by rw [e1]; rfl
 have : cs.toList[j]? = some (.int k z) := by simpa using h0
 rw [← hz]; simpa using this
end
end Go.Proofs.YtodckioppgjbdaaDoor.AM
namespace Go.Proofs.YtodckioppgjbdaaDoor.AM
open Go Go.RowKit
def aFB (b : UInt8) : AV := .v (.int .u8 b.toNat)
theorem aD2 {S : Nat → Prop} {w : World} : ∀ {l : List UInt8} {cs : List Value}, RL S w (l.map aFB) cs → cs = l.map fun b => .int .u8 b.toNat
 | [], cs, h => by simp only [List.map_nil] at h; unfold RL at h; exact h
 | x :: l, cs, h => by
  simp only [List.map_cons] at h
  unfold RL at h
  obtain ⟨c1, c2, rfl, h1, h2⟩ := h
  rw [aD2 h2]
  unfold aFB RA at h1
  rw [h1.1]; rfl
section
variable {P : Program} {t : TypeId} {x y : Operand} {a b c : Int}
theorem aGV (h0 : 0 ≤ a) (hb : 0 < b) (hc : a % b = c) : yg P .rem t x y (.int .i64 a) (.int .i64 b) (.int .i64 c) := fun w => by
 have hb0 : b ≠ 0 := by omega
 have hr : (Op.intDiv .rem .i64 a b).run P w = .ok (.int .i64 (a.tmod b)) w := by simp [Op.intDiv, hb0]
 subst hc
 rw [← Int.tmod_eq_emod_of_nonneg h0]
 simp [eqGuard, binOp, hr]
theorem aGU (h0 : 0 ≤ a) (h1 : a ≤ 9223372036854775807) (hb : 1 < b) (hc : a / b = c) : yg P .quo t x y (.int .i64 a) (.int .i64 b) (.int .i64 c) := fun w => by
 have hb0 : b ≠ 0 := by omega
 have hle : a / b ≤ a := Int.ediv_le_self b h0
 have hnn : 0 ≤ a / b := Int.ediv_nonneg h0 (by omega)
 have hw : IntKind.i64.wrap (a.tdiv b) = c := by rw [Int.tdiv_eq_ediv_of_nonneg h0, IntKind.wrap_i64, hc]; omega
 have hr : (Op.intDiv .quo .i64 a b).run P w = .ok (.int .i64 c) w := by simp [Op.intDiv, hb0, hw]
 simp [eqGuard, binOp, hr]
theorem vS {a b : ByteArray} (h : a.size + b.size ≤ 9223372036854775807) : yg P .add t x y (.string a) (.string b) (.string (a ++ b)) := aF2 fun w => by
 unfold Op.stringOp
 have : ¬ ((((a.size + b.size : Nat) : Int)) > IntKind.i64.max) := by
  have e : IntKind.i64.max = 9223372036854775807 := by decide
  rw [e]; omega
 simp only [this, if_false]; rfl
end
section
variable {Θ : Tab} {s : St} {d : Option Tmp} {ty : TypeId} {pos : String} {after : Array Edge} {g : Option (Nat × Bool)}
theorem aF7 {x : Operand} {n : Int} {b : UInt8} (hb : n = (b.toNat : Int)) (hx : s.ev x = .v (.int .i64 n)) : Pre Tryd.prog Θ ⟨d, .convert 3 5 x, ty, pos, after, g⟩ s ⟨.v (.int .u8 (b.toNat : Int)), none⟩ :=
 aHW (fun w => by
  have hlt := b.toNat_lt
  subst hb
  have hw : IntKind.u8.wrap (b.toNat : Int) = b.toNat := by rw [IntKind.wrap_u8]; omega
  have h1 : (underlying 5).run Tryd.prog w = .ok (.int .u8) w := run_underlying Tryd.underlying5 w
  have h2 : (underlying 3).run Tryd.prog w = .ok (.int .i64) w := run_underlying Tryd.underlying3 w
  simp [convert, h1, h2, Conv.intToInt, hw]) hx rfl
theorem aE8 (l : List UInt8) : strOfNums (l.map fun b => ((b.toNat : Nat) : Int)) = ⟨l.toArray⟩ := by
 unfold strOfNums
 congr 2
 rw [List.map_map]
 have : ((fun n : Int => UInt8.ofNat n.toNat) ∘ fun b : UInt8 => ((b.toNat : Nat) : Int)) = id := by
  funext b; simp
 rw [this, List.map_id]
theorem aBQ (l : List UInt8) : aBo Tryd.prog 157 9 (.lst 1 (l.map aFB)) (.string ⟨l.toArray⟩) := by
 intro S w hp B V u h
 unfold RV RA at h
 obtain ⟨A, c, e, h1, h2, _, _, h4⟩ := h
 simp only [List.cons.injEq, and_true, List.length_map] at e h1
 subst e
 rcases h4 with h4 | ⟨b, off, us, rfl, hb, hr, hc⟩
 · have h0 := List.map_eq_nil_iff.1 h4
   subst h0
   cases A with
   | none => exact run_convert_bytes_nil w 157 5 Tryd.underlying157 Tryd.underlying5 _ _ 9 Tryd.underlying9
   | some a =>
    rw [run_convert_bytes_string w 157 9 5 _ _ _ Tryd.underlying157 Tryd.underlying5 Tryd.underlying9, run_bytesToString w a _ c [] (by rfl)]
    rfl
 · have hus := aD2 hr
   rw [← aE8]
   refine run_convert_bytes_arg w 157 5 Tryd.underlying157 Tryd.underlying5 b off l.length c (l.map fun b => ((b.toNat : Nat) : Int)) (by simp) (fun i hi => ?_) 9 Tryd.underlying9
   have := hc i (.int .u8 ((l[i]).toNat : Int)) (by rw [hus]; simp [hi])
   rw [this]
   simp [List.getD, hi]
end
abbrev okN (s : ByteArray) : Bool := Nm.nameOK s.data.toList
attribute [local irreducible] xR xO xX y5 yh Pre ACG
end Go.Proofs.YtodckioppgjbdaaDoor.AM
namespace Go.Proofs.YtodckioppgjbdaaDoor.AM
open Go Go.RowKit
def aHe (N : Nat) (l : List Rf) : Prop := ∀ e ∈ l, e.name.size ≤ N
attribute [local irreducible] xR xO xX y5 yh Pre ACG
end Go.Proofs.YtodckioppgjbdaaDoor.AM
namespace Go.Proofs.YtodckioppgjbdaaDoor.AM
open Go Go.RowKit
theorem zW {s : St} {Θ : Tab} {t1 t2 : Nat} {y1 y2 : Value} (h1 : s.sl t1 = .v y1) (h2 : s.sl t2 = .v y2) : aDa Θ [.tmp t1, .tmp t2] ⟨.tup [.v y1, .v y2], []⟩ .ret s :=
 ⟨trivial, [], by simp, trivial, ⟨trivial, trivial, trivial⟩, ⟨_, rfl⟩, ⟨aGx h1 trivial, aGx h2 trivial, trivial⟩⟩
attribute [local irreducible] xR xO xX y5 yh Pre ACG
end Go.Proofs.YtodckioppgjbdaaDoor.AM
namespace Go.Proofs.YtodckioppgjbdaaDoor.AM
open Go Go.RowKit
section
variable {Θ : Tab} {s : St} {d : Option Tmp} {ty : TypeId} {pos : String} {after : Array Edge} {g : Option (Nat × Bool)}
theorem aH1 {x : Operand} {a c : Int} (h : c = -a) (hl : -9223372036854775808 ≤ c) (hu : c ≤ 9223372036854775807) {t : TypeId} (hx : s.ev x = .v (.int .i64 a)) : Pre Tryd.prog Θ ⟨d, .unOp .neg t x, ty, pos, after, g⟩ s ⟨.v (.int .i64 c), none⟩ := by
 refine ⟨_, _, by rw [hx]; rfl, fun w => ?_, rfl, rfl⟩
 subst h
 have hw : IntKind.i64.wrap (-a) = -a := by rw [IntKind.wrap_i64]; omega
 simp [Op.unary, Op.intArith, hw]
end
attribute [local irreducible] xR xO xX y5 yh Pre ACG
end Go.Proofs.YtodckioppgjbdaaDoor.AM
namespace Go.Proofs.YtodckioppgjbdaaDoor.AM
open Go Go.RowKit
section
variable {Θ : Tab} {ops : Array Oper} {k : Nat} {s : St}
end
section
variable {P : Program} {Θ : Tab} {s : St} {ty : TypeId} {pos : String} {after : Array Edge} {g : Option (Nat × Bool)}
theorem aGp {d : Nat} {t : TypeId} {x : Operand} {el sz b : Nat} {z y : AV} (hf : s.hp (d + 1) = none) (ht : Θ.look t = .slice el sz b z) (hx : s.ev x = y) (hk : (match y with | .v c => c.oneCell' | .agg _ => true | .lst _ _ => true | .ptr _ => true | _ => false) = true) (hz : Nat.beq (asz y) (asz z) = true) (hsz : Nat.ble sz 65536 = true) (hok : okL (d + 1) = true := by rfl) :
 Pre P Θ ⟨some d, .buildSlice t 1 #[(0, x)], ty, pos, after, g⟩ s ⟨.own (d + 1), some fun s' => s'.set (d + 1) (some ⟨.s el, sz, [y]⟩)⟩ := by
 have hd : s.dat (s.ev x) = y := by rw [hx]; cases y <;> first | rfl | cases hk
 have ho : yD (s.ev x) = [] := by rw [hx]; cases y <;> first | rfl | cases hk
 have hda : xD s (s.ev x) = true := by rw [hx]; cases y <;> first | exact hk | rfl | cases hk
 refine ⟨d, el, sz, b, z, rfl, hf, hok, ht, by rw [Nat.one_mul]; exact Nat.le_of_ble_eq_true hsz, .inl ⟨⟨⟨z, rfl, by rw [hd]; exact Nat.eq_of_beq_eq_true hz⟩, hda, trivial⟩, fun y' hy c e => ?_, ?_, ?_⟩⟩
 · simp at hy
   subst hy; subst e
   simp only [St.ev] at hx; subst hx; exact hk
 · simp [yK, xW, ho]
 · have h1 : yK s (([(0, x)] : List (Nat × Operand)).map (·.2)) = [] := by simp [yK, xW, ho]
   show _ = Eff.mk _ (jf (yK s (([(0, x)] : List (Nat × Operand)).map (·.2))) _)
   rw [h1]
   show _ = Eff.mk _ (some _)
   congr 2
   funext s'
   show s'.set (d + 1) (some ⟨.s el, sz, [y]⟩) = s'.set (d + 1) (some ⟨.s el, sz, [s.dat (s.ev x)]⟩)
   rw [hd]
end
def aH4 (ops : Array Oper) : Bool :=
 (List.range ops.size).all fun j => match ops[j]? with
  | some o => (tmpsOf o).all fun t => (List.range ops.size).all fun j' => match (ops[j']?).bind (·.dst) with
   | some t' => !(Nat.beq t' t) || (!(Nat.beq j' j) && (((Region.before ops).getD j 0).testBit j' || wT ops j'))
   | none => true
  | none => true
theorem aFS {ops : Array Oper} (h : aH4 ops = true) : wW ops := by
 intro j o ho t ht j' o' ho' hd
 have h1 := List.all_eq_true.1 h j (List.mem_range.2 (Array.getElem?_eq_some_iff.1 ho).1)
 simp only [ho] at h1
 have h2 := List.all_eq_true.1 (List.all_eq_true.1 h1 t ht) j' (List.mem_range.2 (Array.getElem?_eq_some_iff.1 ho').1)
 simp only [ho', Option.bind_some, hd, Nat.beq_refl, Bool.not_true, Bool.false_or, Bool.and_eq_true, Bool.not_eq_true', Bool.or_eq_true] at h2
 exact ⟨fun e => by rw [e] at h2; simp at h2, h2.2⟩
mutual
def uZ : AV → List Nat
 | .own l => [l]
 | .optr l _ _ _ => [l]
 | .mapv l => [l]
 | .tup xs => jI xs
 | .mix xs => jI xs
 | .fn _ xs ys => jI xs ++ jI ys
 | .ifc _ x => uZ x
 | _ => []
def jI : List AV → List Nat
 | [] => []
 | x :: xs => uZ x ++ jI xs
end
mutual
theorem uT {l : Nat} : ∀ x : AV, x.names l = true → l ∈ uZ x
 | .own l', h => by simp only [AV.names] at h; simp [uZ, Nat.eq_of_beq_eq_true h]
 | .optr l' _ _ _, h => by simp only [AV.names] at h; simp [uZ, Nat.eq_of_beq_eq_true h]
 | .mapv l', h => by simp only [AV.names] at h; simp [uZ, Nat.eq_of_beq_eq_true h]
 | .tup xs, h => by simp only [AV.names] at h; unfold uZ; exact uf xs h
 | .mix xs, h => by simp only [AV.names] at h; unfold uZ; exact uf xs h
 | .fn _ xs ys, h => by
  simp only [AV.names, Bool.or_eq_true] at h; unfold uZ
  exact List.mem_append.2 (h.imp (uf xs) (uf ys))
 | .ifc _ x, h => by simp only [AV.names] at h; unfold uZ; exact uT x h
 | .any, h => by simp [AV.names] at h
 | .v _, h => by simp [AV.names] at h
 | .agg _, h => by simp [AV.names] at h
 | .lst _ _, h => by simp [AV.names] at h
 | .ptr _, h => by simp [AV.names] at h
 | .rd _, h => by simp [AV.names] at h
theorem uf {l : Nat} : ∀ xs : List AV, xH l xs = true → l ∈ jI xs
 | [], h => by simp [xH] at h
 | x :: xs, h => by
  simp only [xH, Bool.or_eq_true] at h; unfold jI
  exact List.mem_append.2 (h.imp (uT x) (uf xs))
end
theorem jG {l : Nat} : ∀ {nu : List (Nat × Option OB)}, xP nu l → l ∈ nu.map (·.1)
 | [], ⟨o, h⟩ => by simp [xY] at h
 | (m, ob) :: r, ⟨o, h⟩ => by
  simp only [xY] at h
  cases e : Nat.beq l m with
  | true => simp [Nat.eq_of_beq_eq_true e]
  | false => rw [e] at h; exact List.mem_cons_of_mem _ (jG ⟨o, h⟩)
def aBr (ops : Array Oper) (k : Nat) (t : Tmp) : Bool := (List.range ops.size).any fun j' => match (ops[j']?).bind (·.dst) with
 | some t' => Nat.beq t' t && (!(Nat.blt j' k) && !(wT ops j'))
 | none => false
theorem aAJ {ops : Array Oper} {k : Nat} {t : Tmp} (h : aBr ops k t = true) (hf : zD ops (fun j => Nat.blt j k) t) : False := by
 obtain ⟨j', hj', h3⟩ := List.any_eq_true.1 h
 cases ho' : ops[j']? with
 | none => rw [ho'] at h3; cases h3
 | some o' =>
  rw [ho'] at h3
  cases hd : o'.dst with
  | none => simp only [Option.bind_some, hd] at h3; cases h3
  | some t' =>
   simp only [Option.bind_some, hd, Bool.and_eq_true, Bool.not_eq_true'] at h3
   have : t' = t := Nat.eq_of_beq_eq_true h3.1
   subst this
   rcases hf j' o' ho' hd with h4 | h4
   · simp only at h4
     rw [h4] at h3; simp at h3
   · rw [h4] at h3; simp at h3
def aF3 (ops : Array Oper) (k : Nat) (s : St) (ks ls : List Nat) : Bool :=
 (List.range ops.size).all fun j => Nat.beq j k || (zP ops j k || (match ops[j]? with
  | some o => ((tmpsOf o).all fun t => ((List.range ops.size).any fun j' => match (ops[j']?).bind (·.dst) with
   | some t' => Nat.beq t' t && (!(Nat.blt j' k) && !(wT ops j'))
   | none => false) || ls.all fun l => !((s.sl t).names l)) || (ks.isEmpty && wvB ops k o)
  | none => true))
theorem aFC {ops : Array Oper} {k : Nat} {s : St} {ks ls : List Nat} (h : aF3 ops k s ks ls = true) : ∀ j o, ops[j]? = some o → j ≠ k → zP ops j k = false → (ks = [] ∧ wvB ops k o = true) ∨ ∀ t, t ∈ tmpsOf o → (∀ j' o', ops[j']? = some o' → o'.dst = some t → Nat.blt j' k = true ∨ wT ops j' = true) → ∀ l ∈ ls, (s.sl t).names l = false := by
 intro j o hj hne hor
 have h1 := List.all_eq_true.1 h j (List.mem_range.2 (Array.getElem?_eq_some_iff.1 hj).1)
 simp only [xN hne, hor, Bool.false_or, hj] at h1
 rcases (Bool.or_eq_true _ _).mp h1 with h1 | h1
 case inr =>
  rw [Bool.and_eq_true] at h1
  exact .inl ⟨List.isEmpty_iff.1 h1.1, h1.2⟩
 refine .inr fun t ht hL l hl => ?_
 have h2 := List.all_eq_true.1 h1 t ht
 rw [Bool.or_eq_true] at h2
 rcases h2 with h2 | h2
 · obtain ⟨j', hj', h3⟩ := List.any_eq_true.1 h2
   cases ho' : ops[j']? with
   | none => rw [ho'] at h3; cases h3
   | some o' =>
    rw [ho'] at h3
    cases hd : o'.dst with
    | none => simp only [Option.bind_some, hd] at h3; cases h3
    | some t' =>
     simp only [Option.bind_some, hd, Bool.and_eq_true, Bool.not_eq_true'] at h3
     have : t' = t := Nat.eq_of_beq_eq_true h3.1
     subst this
     rcases hL j' o' ho' hd with h4 | h4 <;> rw [h4] at h3 <;> simp at h3
 · have := List.all_eq_true.1 h2 l hl
   simpa using this
def evB (ops : Array Oper) (k : Nat) (s : St) (o : Oper) (ks ls : List Nat) : Bool :=
 (aF3 ops k s ks ls && (((ls.isEmpty || (List.range ops.size).all fun j => Nat.beq j k || (zP ops j k || (match ops[j]? with
  | some o' => (tmpsOf o').all fun t => aBr ops k t || (uZ (s.sl t)).all fun l0 => match s.hp l0 with | some ob => ls.all fun l => !(yC l ob.e) | none => true
  | none => true))) && (ks.isEmpty || (List.range ops.size).all fun j => match ops[j]? with
  | some o' => (tmpsOf o').all fun t => aBr ops k t || (uZ (s.sl t)).all fun l => match s.hp l with | some ob => ob.e.shut | none => true
  | none => true)) && ((!(aCf o) || (List.range ops.size).all fun j => Nat.beq j k || (zP ops j k || (match ops[j]? with
  | some o' => aBE o'
  | none => true))) && (!(aBE o) || ks.isEmpty)))) &&
 ((ks.isEmpty || (List.range ops.size).all fun j => match ops[j]? with
  | some o => (tmpsOf o).all fun t => aBr ops k t || ((ks.all fun l => !((s.sl t).names l)) || (uZ (s.sl t)).all fun l => ls.contains l) &&
   (Nat.beq j k || (zP ops j k || (uZ (s.sl t)).all fun l => match s.hp l with | some ob => ob.e.shut | none => true))
  | none => true) &&
 (List.range ops.size).all fun j => Nat.beq j k || (zP ops j k || (match (ops[j]?).bind (·.dst) with
  | some d => ls.all fun l => !(Nat.beq (l % 1000) ((d + 1) % 1000))
  | none => true)))
section
variable {P : Program} {Θ : Tab} {n : Nat} {ops : Array Oper} {k : Nat} {s : St} {o : Oper} {u : AV} {ks : List Nat} {nu : List (Nat × Option OB)}
theorem aF4 (hs : SftG P Θ o s u ks nu) (hin : ∀ l ∈ nu.map (·.1), xP nu l) (hB : evB ops k s o ks (nu.map (·.1)) = true) (hqt : ug o = true → nu = [] ∧ Pre P Θ o s ⟨u, none⟩) : Ev P Θ ops (fun j => Nat.blt j k) k o s u ks nu := by
 simp only [evB, Bool.and_eq_true] at hB
 obtain ⟨⟨b1, ⟨bf, bc⟩, bo, bn⟩, b2, b3⟩ := hB
 have key : ∀ (j : Nat) (o' : Oper), ops[j]? = some o' → ∀ t ∈ tmpsOf o', zD ops (fun j => Nat.blt j k) t → ks = [] ∨
  (((ks.all fun l => !((s.sl t).names l)) || (uZ (s.sl t)).all fun l => (nu.map (·.1)).contains l) = true ∧ (Nat.beq j k || (zP ops j k || (uZ (s.sl t)).all fun l => match s.hp l with | some ob => ob.e.shut | none => true)) = true) := fun j o' ho t ht hf => by
  rcases (Bool.or_eq_true _ _).mp b2 with h | h
  · exact .inl (List.isEmpty_iff.1 h)
  · have h1 := List.all_eq_true.1 h j (List.mem_range.2 (Array.getElem?_eq_some_iff.1 ho).1)
    simp only [ho] at h1
    have h2 := List.all_eq_true.1 h1 t ht
    rcases (Bool.or_eq_true _ _).mp h2 with h3 | h3
    · exact (aAJ h3 hf).elim
    · exact .inr (by simpa [Bool.and_eq_true] using h3)
 refine ⟨hs, fun j o' ho hne hor => (aFC b1 j o' ho hne hor).imp id fun hA t ht hf l hl => hA t ht hf l (jG hl), fun j o' ho t ht hf => ?_, fun j o' ho hne hor t ht hf l ob hn hob => ?_, fun j o' ho hne hor d hd l hl => ?_, fun j o' ho hne hor t ht hf l0 ob l hn hob hl => ?_, ?_, fun hst j o' ho hne hor => ?_, fun hnk => ?_, hqt⟩
 · rcases key j o' ho t ht hf with rfl | ⟨h, _⟩
   · exact .inl fun l hl => by cases hl
   · rcases (Bool.or_eq_true _ _).mp h with h | h
     · exact .inl fun l hl => by simpa using List.all_eq_true.1 h l hl
     · exact .inr fun l hl => hin l (by simpa using List.all_eq_true.1 h l (uT _ hl))
 · rcases key j o' ho t ht hf with rfl | ⟨_, h⟩
   · exact .inl rfl
   · rw [xN hne, hor] at h
     simp only [Bool.false_or] at h
     have := List.all_eq_true.1 h l (uT _ hn)
     simp only [hob] at this
     exact .inr this
 · have h1 := List.all_eq_true.1 b3 j (List.mem_range.2 (Array.getElem?_eq_some_iff.1 ho).1)
   rw [xN hne, hor] at h1
   simp only [Bool.false_or, ho, Option.bind_some, hd] at h1
   have := List.all_eq_true.1 h1 l (jG hl)
   intro e
   rw [e] at this
   simp at this
 · have hm := jG hl
   rcases (Bool.or_eq_true _ _).mp bf with h | h
   · rw [List.isEmpty_iff.1 h] at hm; cases hm
   · have h1 := List.all_eq_true.1 h j (List.mem_range.2 (Array.getElem?_eq_some_iff.1 ho).1)
     rw [xN hne, hor] at h1
     simp only [Bool.false_or, ho] at h1
     have h2 := List.all_eq_true.1 h1 t ht
     rcases (Bool.or_eq_true _ _).mp h2 with h3 | h3
     · exact (aAJ h3 hf).elim
     · have h4 := List.all_eq_true.1 h3 l0 (uT _ hn)
       simp only [hob] at h4
       have h5 := List.all_eq_true.1 h4 l hm
       simpa using h5
 · rcases (Bool.or_eq_true _ _).mp bc with h | h
   · exact .inl (List.isEmpty_iff.1 h)
   · refine .inr fun j o' ho t ht hf l0 ob hn hob => ?_
     have h1 := List.all_eq_true.1 h j (List.mem_range.2 (Array.getElem?_eq_some_iff.1 ho).1)
     simp only [ho] at h1
     have h2 := List.all_eq_true.1 h1 t ht
     rcases (Bool.or_eq_true _ _).mp h2 with h3 | h3
     · exact (aAJ h3 hf).elim
     · have h4 := List.all_eq_true.1 h3 l0 (uT _ hn)
       simp only [hob] at h4
       exact h4
 · rw [hst] at bo
   have h1 := List.all_eq_true.1 bo j (List.mem_range.2 (Array.getElem?_eq_some_iff.1 ho).1)
   rw [xN hne, hor] at h1
   simpa only [Bool.false_or, ho] using h1
 · rw [hnk] at bn
   exact List.isEmpty_iff.1 bn
theorem uK {l : Nat} (h : xP [] l) : False := by obtain ⟨o, h⟩ := h; simp [xY] at h
theorem aFX {v : AV} (hp : Pre P Θ o s ⟨v, none⟩) (hc : calm Θ true o = true) (hv : zn o = true ∨ v.within (fun _ => false) = true) : Sft P Θ o s v [] [] := by
 refine ⟨fun s' h1 h2 => ⟨⟨v, none⟩, wV (two := true) hc h1 (fun _ l ⟨x, hx, hn⟩ => ?_) hp, fun K hK => .done hK⟩, fun l ob h => by simp [xY] at h, fun l hl => (by cases hl), fun l hl => ?_, fun l hl => (uK hl).elim, fun l ob hl => (uK hl).elim⟩
 · cases x with
   | tmp t => exact (h2 l (.inr ⟨t, y8 hx, hn⟩)).1
   | global g => simp [St.ev, vz] at hn
   | _ => simp [St.ev, AV.names, xH] at hn
 · rcases hv with hv | hv
   · exact .inr (ve hv hp l hl)
   · have := yt v hv hl; cases this
theorem aGk {K : St → Prop} (h : K s) : xX P Θ n ops k [] s K := Gh.done h
theorem kU {r : List Oper} {K : St → Prop} {v : AV} (hp : Pre P Θ o s ⟨v, none⟩) (hin : inN n o.dst = true) (hg : o.guard = none) (hc : calm Θ true o = true) (hv : zn o = true ∨ v.within (fun _ => false) = true) (hB : evB ops k s o [] [] = true) (h : xX P Θ n ops (k + 1) r (s.put o.dst v) K) : xX P Θ n ops k (o :: r) s K :=
 ⟨hin, hg, .inl ⟨v, [], [], aF4 (aFX hp hc hv).g (fun l hl => by cases hl) hB (fun _ => ⟨rfl, hp⟩), h⟩⟩
theorem jq {r : List Oper} {K : St → Prop} (hs : Sft P Θ o s u ks nu) (hn : ∀ l ∈ nu.map (·.1), xP nu l) (hin : inN n o.dst = true) (hg : o.guard = none) (hB : evB ops k s o ks (nu.map (·.1)) = true) (h : xX P Θ n ops (k + 1) r ((shp ks nu s).put o.dst u) K) (hq : ug o = false := by rfl) : xX P Θ n ops k (o :: r) s K :=
 ⟨hin, hg, .inl ⟨u, ks, nu, aF4 hs.g hn hB (fun h => by rw [hq] at h; cases h), h⟩⟩
end
abbrev zZ (x : AV) : Bool := x.within (fun _ => false)
mutual
theorem ja (s s' : St) : ∀ x : AV, zZ x = true → s'.dat x = s.dat x
 | .own l, h => by simp [zZ, AV.within] at h
 | .optr l _ _ _, h => by simp [zZ, AV.within] at h
 | .mix xs, h => by unfold St.dat; rw [aAX s s' xs (by simpa [zZ, AV.within] using h)]
 | .ifc t x, h => by unfold St.dat; rw [ja s s' x (by simpa [zZ, AV.within] using h)]
 | .mapv l, h => by simp [zZ, AV.within] at h
 | .tup xs, h => by simp [St.dat]
 | .fn _ xs ys, h => by simp [St.dat]
 | .any, h => by simp [St.dat]
 | .v _, h => by simp [St.dat]
 | .agg _, h => by simp [St.dat]
 | .lst _ _, h => by simp [St.dat]
 | .ptr _, h => by simp [St.dat]
 | .rd _, h => by simp [St.dat]
theorem aAX (s s' : St) : ∀ xs : List AV, zN (fun _ => false) xs = true → s'.datL xs = s.datL xs
 | [], _ => by simp [St.datL]
 | x :: xs, h => by
  simp only [zN, Bool.and_eq_true] at h
  simp only [St.datL]; rw [ja s s' x h.1, aAX s s' xs h.2]
end
mutual
theorem wP (s s' : St) : ∀ x : AV, zZ x = true → xD s' x = xD s x
 | .own l, h => by simp [zZ, AV.within] at h
 | .optr l _ _ _, h => by simp [zZ, AV.within] at h
 | .mix xs, h => by unfold xD; rw [jW s s' xs (by simpa [zZ, AV.within] using h)]
 | .ifc t x, h => by simp [xD]
 | .mapv l, h => by simp [zZ, AV.within] at h
 | .tup xs, h => by simp [xD]
 | .fn _ xs ys, h => by simp [xD]
 | .any, h => by simp [xD]
 | .v _, h => by simp [xD]
 | .agg _, h => by simp [xD]
 | .lst _ _, h => by simp [xD]
 | .ptr _, h => by simp [xD]
 | .rd _, h => by simp [xD]
theorem jW (s s' : St) : ∀ xs : List AV, zN (fun _ => false) xs = true → y7 s' xs = y7 s xs
 | [], _ => by simp [y7]
 | x :: xs, h => by
  simp only [zN, Bool.and_eq_true] at h
  simp only [y7]; rw [wP s s' x h.1, jW s s' xs h.2]
end
theorem aDi (s s' : St) (x : AV) (h : zZ x = true) : uY s' x = uY s x := by
 cases x with
 | ifc t y => simp only [uY]; exact wP s s' y (by simpa [zZ, AV.within] using h)
 | own l => simp [zZ, AV.within] at h
 | optr l i p c => simp [zZ, AV.within] at h
 | mix xs => simp only [uY]; exact wP s s' (.mix xs) h
 | fn f xs ys => cases xs <;> cases ys <;> simp [uY]
 | _ => simp [uY, xD]
theorem qZ (s s' : St) : ∀ xs : List AV, (xs.all zZ) = true → zR s' xs = zR s xs
 | [], _ => rfl
 | x :: xs, h => by
  simp only [List.all_cons, Bool.and_eq_true] at h
  simp only [zR]; rw [aDi s s' x h.1, qZ s s' xs h.2]
def z8 (d : Nat) : Nat → List OB → List (Nat × Option OB)
 | _, [] => []
 | k, ob :: r => (d + 1000 * k, some ob) :: z8 d (k + 1) r
theorem jO {d : Nat} : ∀ (r : List OB) (k k' : Nat), k < k' → xY (z8 d k' r) (d + 1000 * k) = none
 | [], _, _, _ => rfl
 | ob :: r, k, k', h => by
  have hne : d + 1000 * k ≠ d + 1000 * k' := by omega
  simp only [z8, xY]
  rw [xN hne]; exact jO r k (k' + 1) (by omega)
theorem jN {d : Nat} : ∀ (r : List OB) (k l : Nat) (o : Option OB), xY (z8 d k r) l = some o → ∃ j ob, l = d + 1000 * j ∧ o = some ob ∧ ob ∈ r ∧ k ≤ j ∧ r[j - k]? = some ob
 | [], _, _, _, h => by simp [z8, xY] at h
 | ob :: r, k, l, o, h => by
  simp only [z8, xY] at h
  cases e : Nat.beq l (d + 1000 * k) with
  | true =>
   rw [e] at h; simp only [cond_true, Option.some.injEq] at h
   exact ⟨k, ob, Nat.eq_of_beq_eq_true e, h.symm, by simp, Nat.le_refl _, by simp⟩
  | false =>
   rw [e] at h
   obtain ⟨j, ob', h1, h2, h3, h4, h5⟩ := jN r (k + 1) l o h
   exact ⟨j, ob', h1, h2, List.mem_cons_of_mem _ h3, by omega, by
    have : j - k = (j - (k + 1)) + 1 := by omega
    rw [this, List.getElem?_cons_succ]; exact h5⟩
theorem aAi {s : St} {d : Nat} : ∀ (r : List OB) (k : Nat), xu s d k r → ∀ j, k ≤ j → j < k + r.length → s.hp (d + 1000 * j) = none
 | [], k, _, j, h1, h2 => by simp at h2; omega
 | ob :: r, k, h, j, h1, h2 => by
  unfold xu at h
  rcases Nat.eq_or_lt_of_le h1 with e | e
  · subst e; exact h.1.1
  · exact aAi r (k + 1) h.2 j (by omega) (by simp at h2; omega)
theorem qb {s s' : St} {d : Nat} : ∀ (r : List OB) (k : Nat), (∀ j, k ≤ j → j < k + r.length → s'.hp (d + 1000 * j) = s.hp (d + 1000 * j)) → xu s d k r → xu s' d k r
 | [], _, _, _ => trivial
 | ob :: r, k, hh, h => by
  unfold xu at h ⊢
  exact ⟨⟨(hh k (Nat.le_refl _) (by simp)).trans h.1.1, h.1.2⟩, qb r (k + 1) (fun j h1 h2 => hh j (by omega) (by simp; omega)) h.2⟩
theorem aB7 {d : Nat} : ∀ (r : List OB) (k j : Nat), k ≤ j → j < k + r.length → xP (z8 d k r) (d + 1000 * j)
 | [], k, j, h1, h2 => by simp at h2; omega
 | ob :: r, k, j, h1, h2 => by
  unfold xP
  simp only [z8, xY]
  cases e : Nat.beq (d + 1000 * j) (d + 1000 * k) with
  | true => exact ⟨_, rfl⟩
  | false =>
   have hne : j ≠ k := fun h => by subst h; rw [Nat.beq_refl] at e; cases e
   exact aB7 r (k + 1) j (by omega) (by simp at h2; omega)
theorem aAn {d : Nat} : ∀ (r : List OB) (k : Nat) (s : St), zG d k r s = shp [] (z8 d k r) s
 | [], k, s => rfl
 | ob :: r, k, s => by
  show zG d (k + 1) r (s.set (d + 1000 * k) (some ob)) = _
  rw [aAn r (k + 1)]
  unfold shp St.set
  congr 1
  · funext j
    simp only [z8, xY]
    cases e : Nat.beq j (d + 1000 * k) with
    | true =>
     have := Nat.eq_of_beq_eq_true e
     subst this
     rw [jO r k (k + 1) (by omega)]; rfl
    | false => rfl
  · funext j
    simp only [z8, xY]
    cases e : Nat.beq j (d + 1000 * k) with
    | true =>
     have := Nat.eq_of_beq_eq_true e
     subst this
     rw [jO r k (k + 1) (by omega)]; rfl
    | false => rfl
section
variable {P : Program} {Θ : Tab} {s : St} {ty : TypeId} {pos : String} {after : Array Edge} {g : Option (Nat × Bool)}
theorem aFW {f : FuncId} {ags : Array Operand} {ts : Array TypeId} {t : Nat} {args : List AV} {out : Out} (hac : AC P f args out) (ha : (ags.toList.map fun x => s.dat (s.ev x)) = args) (hfl : (yK s ags.toList).isEmpty = true) (hw : (ags.toList.map s.ev).all zZ = true) (hfr : xu s (t + 1) 0 out.obs) (hok : zR s (ags.toList.map s.ev) = true) (hc : kE ags.toList = true)
 (hv : (ren (t + 1) out.val).within (fun l => (xY (z8 (t + 1) 0 out.obs) l).isSome) = true) :
 Sft P Θ ⟨some t, .call ⟨.value (.func f), ags, ts⟩, ty, pos, after, g⟩ s (ren (t + 1) out.val) [] (z8 (t + 1) 0 out.obs) := by
 have hsh := je out.obs 0 hfr
 refine ⟨fun s' h1 h2 => ?_, fun l ob h => ?_, fun l hl => (by cases hl), fun l hl => ?_, fun l ⟨o, hl⟩ => ?_, fun l ob ⟨o, hl⟩ ho => ?_⟩
 · have hev : ∀ x ∈ ags.toList, s'.ev x = s.ev x := fun x hx => h1 x (by simp [Op.operands, Call.operands] at hx ⊢; exact .inr hx)
   have hmap : ags.toList.map s'.ev = ags.toList.map s.ev := List.map_congr_left hev
   refine ⟨⟨ren (t + 1) out.val, kM (t + 1) out.obs⟩, kV hac ?_ (.inl ?_) (qb out.obs 0 (fun j h3 h4 => (h2 _ (.inl (aB7 out.obs 0 j h3 h4))).1) hfr) ?_ hc, fun K hK => .done ?_⟩
   · rw [← ha]
     refine List.map_congr_left fun x hx => ?_
     rw [hev x hx]
     exact ja s s' _ (List.all_eq_true.1 hw _ (List.mem_map_of_mem hx))
   · unfold yK at hfl ⊢; rw [hmap]; exact hfl
   · rw [hmap, qZ s s' _ hw]; exact hok
   · cases ho : out.obs with
     | nil => rw [ho] at hK; exact hK
     | cons ob r =>
      rw [ho] at hK
      show K ((zG (t + 1) 0 (ob :: r) s').put (some t) (ren (t + 1) out.val))
      rw [aAn]; exact hK
 · obtain ⟨j, ob', _, e, hm, _⟩ := jN out.obs 0 l _ h
   cases e; exact hsh ob hm
 · have := yt _ hv hl
   obtain ⟨o, ho⟩ := Option.isSome_iff_exists.1 this
   exact .inl ⟨o, ho⟩
 · obtain ⟨j, ob', e, _⟩ := jN out.obs 0 l _ hl
   exact .inl ⟨t, rfl, by rw [e]; omega⟩
 · obtain ⟨j, ob', e, _, _, h4, h5⟩ := jN out.obs 0 l _ hl
   have hj := (List.getElem?_eq_some_iff.1 h5).1
   have := aAi out.obs 0 hfr j h4 (by omega)
   rw [← e, ho] at this; cases this
end
theorem aGA (l : Nat) (ob : OB) (s : St) : s.set l (some ob) = shp [] [(l, some ob)] s := by
 unfold shp St.set
 congr 1
 · funext j; show (bif Nat.beq j l then some ob else s.hp j) = (match (bif Nat.beq j l then some (some ob) else none) with | some o => o | none => s.hp j)
   cases Nat.beq j l <;> rfl
 · funext j; show (bif Nat.beq j l then none else s.mp j) = (match (bif Nat.beq j l then some (some ob) else none) with | some _ => none | none => s.mp j)
   cases Nat.beq j l <;> rfl
theorem nu1 {l m : Nat} {ob : OB} {o : Option OB} (h : xY [(l, some ob)] m = some o) : m = l ∧ o = some ob := by
 simp only [xY] at h
 cases e : Nat.beq m l with
 | true => rw [e] at h; simp only [cond_true, Option.some.injEq] at h; exact ⟨Nat.eq_of_beq_eq_true e, h.symm⟩
 | false => rw [e] at h; cases h
theorem in1 (l : Nat) (ob : OB) : xP [(l, some ob)] l := ⟨some ob, by simp [xY]⟩
section
variable {P : Program} {Θ : Tab} {s : St} {ty : TypeId} {pos : String} {after : Array Edge} {g : Option (Nat × Bool)}
end
section
variable {P : Program} {Θ : Tab} {s : St} {ty : TypeId} {pos : String} {after : Array Edge} {g : Option (Nat × Bool)}
end
mutual
theorem aDQ {s s' : St} : ∀ x : AV, (∀ l, x.names l = true → s'.hp l = s.hp l) → s'.dat x = s.dat x ∧ xD s' x = xD s x
 | .own l, h => by
  have := h l (by simp [AV.names])
  simp only [St.dat, xD, this, and_self]
 | .optr l i p c, h => by
  have := h l (by simp [AV.names])
  simp only [St.dat, xD, this, and_self]
 | .mix xs, h => by
  obtain ⟨h1, h2⟩ := aCC xs (fun l hl => h l (by simpa [AV.names] using hl))
  simp only [St.dat, xD, h1, h2, and_self]
 | .ifc t x, h => by
  obtain ⟨h1, _⟩ := aDQ x (fun l hl => h l (by simpa [AV.names] using hl))
  simp only [St.dat, xD, h1, and_self]
 | .rd x, _ => ⟨rfl, rfl⟩
 | .any, _ => ⟨rfl, rfl⟩
 | .v _, _ => ⟨rfl, rfl⟩
 | .agg _, _ => ⟨rfl, rfl⟩
 | .lst _ _, _ => ⟨rfl, rfl⟩
 | .ptr _, _ => ⟨rfl, rfl⟩
 | .tup _, _ => ⟨rfl, rfl⟩
 | .mapv _, _ => ⟨rfl, rfl⟩
 | .fn _ _ _, _ => ⟨rfl, rfl⟩
theorem aCC {s s' : St} : ∀ xs : List AV, (∀ l, xH l xs = true → s'.hp l = s.hp l) → s'.datL xs = s.datL xs ∧ y7 s' xs = y7 s xs
 | [], _ => ⟨rfl, rfl⟩
 | x :: xs, h => by
  obtain ⟨h1, h2⟩ := aDQ x (fun l hl => h l (by simp [xH, hl]))
  obtain ⟨h3, h4⟩ := aCC xs (fun l hl => h l (by simp [xH, hl]))
  simp only [St.datL, y7, h1, h2, h3, h4, and_self]
end
section
variable {P : Program} {Θ : Tab} {s : St} {ty : TypeId} {pos : String} {after : Array Edge} {g : Option (Nat × Bool)}
theorem aFw {d : Option Tmp} {t : Nat} {y : AV} (hx : s.sl t = y) : Sft P Θ ⟨d, .assign (.tmp t), ty, pos, after, g⟩ s y [] [] := by
 refine ⟨fun s' h1 h2 => ⟨⟨y, none⟩, aGo ((h1 (.tmp t) (by simp [Op.operands])).trans hx), fun K hK => .done hK⟩, fun l ob h => by simp [xY] at h, fun l hl => (by cases hl), fun l hl => .inr ⟨t, y8 (by simp [Op.operands]), by rw [hx]; exact hl⟩, fun l hl => (uK hl).elim, fun l ob hl => (uK hl).elim⟩
theorem aGe {d k : Nat} {obs : List OB} : ∀ l ∈ (z8 d k obs).map (·.1), xP (z8 d k obs) l := by
 induction obs generalizing k with
 | nil => intro l hl; cases hl
 | cons ob r ih =>
  intro l hl
  unfold xP
  simp only [z8, List.map_cons, List.mem_cons] at hl
  simp only [z8, xY]
  cases e : Nat.beq l (d + 1000 * k) with
  | true => exact ⟨_, rfl⟩
  | false =>
   rcases hl with h | h
   · rw [h, Nat.beq_refl] at e; cases e
   · obtain ⟨o, ho⟩ := ih l h; exact ⟨o, ho⟩
theorem aHP {l : Nat} {ob : OB} : ∀ m ∈ ([(l, some ob)] : List (Nat × Option OB)).map (·.1), xP [(l, some ob)] m := fun m hm => by
 simp only [List.map_cons, List.map_nil, List.mem_singleton] at hm
 subst hm; exact in1 _ _
theorem aDr : ∀ m ∈ ([] : List (Nat × Option OB)).map (·.1), xP [] m := fun m hm => by cases hm
end
section
variable {P : Program} {Θ : Tab} {s : St} {ty : TypeId} {pos : String} {after : Array Edge} {g : Option (Nat × Bool)}
end
section
variable {P : Program} {Θ : Tab} {s : St} {ty : TypeId} {pos : String} {after : Array Edge} {g : Option (Nat × Bool)}
theorem aFY {o : Oper} {v : AV} (hp : ∀ s' : St, (∀ x ∈ o.op.operands, s'.ev x = s.ev x) → Pre P Θ o s' ⟨v, none⟩) (hv : v.within (fun _ => false) = true) : Sft P Θ o s v [] [] := by
 refine ⟨fun s' h1 h2 => ⟨⟨v, none⟩, hp s' h1, fun K hK => .done hK⟩, fun l ob h => by simp [xY] at h, fun l hl => (by cases hl), fun l hl => ?_, fun l hl => (uK hl).elim, fun l ob hl => (uK hl).elim⟩
 have := yt v hv hl; cases this
theorem aFz {d : Option Tmp} {x : Operand} {n : Int} {b : UInt8} (hb : n = (b.toNat : Int)) (hx : s.ev x = .v (.int .i64 n)) : Sft Tryd.prog Θ ⟨d, .convert 3 5 x, ty, pos, after, g⟩ s (.v (.int .u8 (b.toNat : Int))) [] [] :=
 aFY (fun s' hs => aF7 hb ((hs x (by simp [Op.operands])).trans hx)) (by simp [AV.within])
theorem aFx {d : Nat} {t : TypeId} {x : Operand} {el sz b : Nat} {z : AV} {c : Value} (hf : s.hp (d + 1) = none) (ht : Θ.look t = .slice el sz b z) (hx : s.ev x = .v c) (hc : c.oneCell' = true) (hz : Nat.beq 1 (asz z) = true) (hsz : Nat.ble sz 65536 = true) (hok : okL (d + 1) = true := by rfl) :
 Sft P Θ ⟨some d, .buildSlice t 1 #[(0, x)], ty, pos, after, g⟩ s (.own (d + 1)) [] [(d + 1, some ⟨.s el, sz, [.v c]⟩)] := by
 refine ⟨fun s' h1 h2 => ⟨⟨.own (d + 1), some fun s'' => s''.set (d + 1) (some ⟨.s el, sz, [.v c]⟩)⟩, ?_, fun K hK => .done ?_⟩, fun l ob h => ?_, fun l hl => (by cases hl), fun l hl => .inl ?_, fun l ⟨o, hl⟩ => .inl ?_, fun l ob ⟨o, hl⟩ ho => ?_⟩
 · exact aGp ((h2 _ (.inl (in1 _ _))).1.trans hf) ht ((h1 x (by simp [Op.operands])).trans hx) hc hz hsz hok
 · rw [uF, aGA]; exact hK
 · obtain ⟨_, e⟩ := nu1 h; cases e; rfl
 · simp only [AV.names] at hl; rw [← Nat.eq_of_beq_eq_true hl]; exact in1 _ _
 · obtain ⟨rfl, _⟩ := nu1 hl; exact ⟨d, rfl, rfl⟩
 · obtain ⟨rfl, _⟩ := nu1 hl; rw [hf] at ho; cases ho
theorem aFy {d : Option Tmp} {t1 t2 : TypeId} {t l : Nat} {ob : OB} {r : Value} (hx : s.sl t = .own l) (ho : s.hp l = some ob) (hsh : ob.e.shut = true) (h : aBo P t1 t2 (.lst ob.sz ob.xs) r) (h1 : r.oneCell' = true) (hok : okL l = true := by rfl) : Sft P Θ ⟨d, .convert t1 t2 (.tmp t), ty, pos, after, g⟩ s (.v r) [] [] := by
 refine ⟨fun s' hs h2 => ⟨⟨.v r, none⟩, ?_, fun K hK => .done hK⟩, fun l ob h => by simp [xY] at h, fun l hl => (by cases hl), fun l hl => by simp [AV.names] at hl, fun l hl => (uK hl).elim, fun l ob hl => (uK hl).elim⟩
 have e1 : s'.ev (.tmp t) = .own l := (hs (.tmp t) (by simp [Op.operands])).trans hx
 have e2 : s'.hp l = some ob := (h2 l (.inr ⟨t, y8 (by simp [Op.operands]), by rw [hx]; simp [AV.names]⟩)).1.trans ho
 exact aF6 h (by rw [e1]; simp [St.dat, e2, hsh]) (by rw [e1]; simp [zR, uY, xD, e2, hsh]) rfl h1
end
def kG (n : Nat) : List UInt8 := if h : n < 10 then [UInt8.ofNat (48 + n)] else kG (n / 10) ++ [UInt8.ofNat (48 + n % 10)]
termination_by n
decreasing_by omega
def kF (n : Nat) : ByteArray := ⟨(kG n).toArray⟩
def wO (n : Int) : ByteArray := if n < 0 then ⟨#[45]⟩ ++ kF (-n).toNat else kF n.toNat
theorem aCF {n : Nat} (h : n < 10) : kG n = [UInt8.ofNat (48 + n)] := by rw [kG, dif_pos h]
theorem aEW {n : Nat} (h : ¬ n < 10) : kG n = kG (n / 10) ++ [UInt8.ofNat (48 + n % 10)] := by rw [kG, dif_neg h]
theorem aCE : ∀ (k n : Nat), n < 10 ^ (k + 1) → (kG n).length ≤ k + 1
 | 0, n, h => by rw [aCF (by simpa using h)]; simp
 | k + 1, n, h => by
  by_cases hn : n < 10
  · rw [aCF hn]; simp
  · rw [aEW hn, List.length_append]
    have := aCE k (n / 10) (by rw [Nat.div_lt_iff_lt_mul (by omega)]; rw [Nat.pow_succ] at h; exact h)
    simp only [List.length_cons, List.length_nil]; omega
theorem qF {n : Nat} (h : n ≤ 1000000000000) : (kF n).size ≤ 13 := aCE 12 n (by omega)
theorem qI {n : Int} (h0 : -1000000000000 ≤ n) (h1 : n ≤ 1000000000000) : (wO n).size ≤ 14 := by
 unfold wO
 split
 · rw [ByteArray.size_append]
   have := qF (n := (-n).toNat) (by omega)
   have e : (⟨#[45]⟩ : ByteArray).size = 1 := rfl
   omega
 · have := qF (n := n.toNat) (by omega); omega
theorem aG0 {n : Nat} (h : n < 10) : kF n = ⟨[UInt8.ofNat (48 + n)].toArray⟩ := by unfold kF; rw [aCF h]
theorem aGZ {n : Nat} (h : ¬ n < 10) : kF n = kF (n / 10) ++ ⟨[UInt8.ofNat (48 + n % 10)].toArray⟩ := by
 unfold kF; rw [aEW h]
 apply ByteArray.ext
 simp
theorem aFb {n : Nat} (h : n < 256) : (UInt8.ofNat n).toNat = n := by simp; omega
attribute [local irreducible] xR xO xX y5 yh Pre ACG
theorem aDI : ∀ (n : Nat), n ≤ 1000000000000 → AC Tryd.prog 99 [.v (.int .i64 (n : Int))] ⟨.v (.string (kF n)), []⟩ := fun n => by
 induction n using Nat.strongRecOn with
 | _ n ih =>
  intro hn
  by_cases h : n < 10
  · rw [aG0 h]
    have hb := aFb (n := 48 + n) (by omega)
    refine qrf Tryd.func99 Tryd.ntmps99 Tryd.results99 ?_; conv => whnf
    repeat ((first | refine qz ?_ | refine qp (aF7 (b := UInt8.ofNat (48 + n)) (by omega) rfl) ?_); conv => whnf)
    refine qp (aF6 (aBQ [UInt8.ofNat (48 + n)]) rfl rfl rfl rfl) ?_
    conv => whnf
    repeat ((refine qz ?_; conv => whnf))
    exact xk rfl trivial
  · have c1 := ih (n / 10) (by omega) (by omega)
    rw [aGZ h]
    have hb := aFb (n := 48 + n % 10) (by omega)
    have hs := qF (n := n / 10) (by omega)
    have hs1 : (⟨[UInt8.ofNat (48 + n % 10)].toArray⟩ : ByteArray).size = 1 := rfl
    refine qrf Tryd.func99 Tryd.ntmps99 Tryd.results99 ?_; conv => whnf
    repeat ((refine qz ?_; conv => whnf))
    refine .inr ⟨by kernel_rfl, aFS (by kernel_rfl), ?_⟩
    repeat (first
     | refine kU (aGr rfl) rfl rfl rfl (.inl rfl) (by kernel_rfl) ?_
     | refine kU (zf (aGU (c := ((n / 10 : Nat) : Int)) (by omega) (by omega) (by omega) (by omega)) rfl rfl rfl) rfl rfl rfl (.inl rfl) (by kernel_rfl) ?_
     | refine kU (zf (aGV (c := ((n % 10 : Nat) : Int)) (by omega) (by omega) (by omega)) rfl rfl rfl) rfl rfl rfl (.inl rfl) (by kernel_rfl) ?_
     | refine kU (zf (aF1 (c := ((48 + n % 10 : Nat) : Int)) (by omega) (by omega) (by omega)) rfl rfl rfl) rfl rfl rfl (.inl rfl) (by kernel_rfl) ?_
     | refine kU (zf (vS (by first | omega | (simp only [ByteArray.size_append]; omega))) rfl rfl rfl) rfl rfl rfl (.inl rfl) (by kernel_rfl) ?_
     | refine jq (aFW c1 rfl rfl rfl trivial rfl rfl rfl) aGe rfl rfl (by kernel_rfl) ?_
     | refine jq (aFz (b := UInt8.ofNat (48 + n % 10)) (by omega) rfl) aDr rfl rfl (by kernel_rfl) ?_
     | refine jq (aFx rfl rfl rfl rfl rfl rfl) aHP rfl rfl (by kernel_rfl) ?_
     | refine jq (aFy rfl rfl rfl (aBQ [UInt8.ofNat (48 + n % 10)]) rfl) aDr rfl rfl (by kernel_rfl) ?_
     | refine jq (aFw rfl) aDr rfl rfl (by kernel_rfl) ?_)
    refine aGk ?_
    conv => whnf
    repeat ((refine qz ?_; conv => whnf))
    exact xk rfl trivial
theorem aER {n : Int} (h0 : -1000000000000 ≤ n) (h1 : n ≤ 1000000000000) : AC Tryd.prog 99 [.v (.int .i64 n)] ⟨.v (.string (wO n)), []⟩ := by
 unfold wO
 by_cases h : n < 0
 · rw [if_pos h]
   obtain ⟨m, hm⟩ : ∃ m : Nat, -n = (m : Int) := ⟨(-n).toNat, by omega⟩
   have c1 := aDI m (by omega)
   have hs := qF (n := m) (by omega)
   rw [hm, Int.toNat_natCast]
   have e1 : (⟨#[45]⟩ : ByteArray).size = 1 := rfl
   refine qrf Tryd.func99 Tryd.ntmps99 Tryd.results99 ?_; conv => whnf
   repeat (first | (refine qp (aH1 (c := (m : Int)) (by omega) (by omega) (by omega) rfl) ?_; conv => whnf) | (refine qz ?_; conv => whnf) | (refine qc (c1) ?_; conv => whnf) | (refine qp (zf (vS (by first | omega | (simp only [ByteArray.size_append]; omega))) rfl rfl rfl) ?_; conv => whnf))
   exact xk rfl trivial
 · rw [if_neg h]
   obtain ⟨m, hm⟩ : ∃ m : Nat, n = (m : Int) := ⟨n.toNat, by omega⟩
   have c1 := aDI m (by omega)
   rw [hm, Int.toNat_natCast]
   exact c1
end Go.Proofs.YtodckioppgjbdaaDoor.AM
namespace Go.Proofs.YtodckioppgjbdaaDoor
open Go.RowKit
end Go.Proofs.YtodckioppgjbdaaDoor
namespace Go.Proofs.YtodckioppgjbdaaDoor.AM
open Go Go.RowKit
attribute [local irreducible] xR xO xX y5 yh Pre ACG
end Go.Proofs.YtodckioppgjbdaaDoor.AM
namespace Go.Proofs.YtodckioppgjbdaaDoor.AM
open Go Go.RowKit
instance : DecidableEq Rf := fun a b => decidable_of_iff _ aFu.symm
structure Bas.ok (b : Bas) (N : Nat) : Prop where
 sm : b.store.length ≤ N
 sc : aBq N b.store
 rm : b.refs.length ≤ N
 rk : aHe N b.refs
attribute [local irreducible] xR xO xX y5 yh Pre ACG
theorem aFe {a b : Bas} : a = b ↔ a.store = b.store ∧ a.refs = b.refs := by cases a; cases b; simp
instance : DecidableEq Bas := fun a b => decidable_of_iff _ aFe.symm
end Go.Proofs.YtodckioppgjbdaaDoor.AM
namespace Go.Proofs.YtodckioppgjbdaaDoor.AM
open Go Go.RowKit
def aAx (l : List Ent) : Prop := ∀ e ∈ l, e.1.size ≤ 12 ∧ -1000000 ≤ e.2 ∧ e.2 ≤ 1000000
structure CmtS (c : Cmt) : Prop where
 pl : c.1.length ≤ 60
 pp : ∀ p ∈ c.1, 0 ≤ p ∧ p ≤ 1000
 ml : c.2.length ≤ 100
 me : aAx c.2
attribute [local irreducible] xR xO xX y5 yh Pre ACG
theorem aE6 {m : List Ent} (h : yJ m = true) : m.length ≤ 12 := by
 unfold yJ at h
 simp only [Bool.and_eq_true, decide_eq_true_eq] at h
 exact h.1
theorem aEa {x : ByteArray} (h : okN x = true) : x.size ≤ 12 := by
 unfold okN Nm.nameOK at h
 have e : x.size = x.data.toList.length := by rw [Array.length_toList]; rfl
 rw [e]
 split at h
 · simp at h
 · rename_i c cs hc
   rw [hc]
   simp only [Bool.and_eq_true, decide_eq_true_eq] at h
   simp only [List.length_cons]
   omega
theorem aAd {m : List Ent} (h : yJ m = true) : aAx m := by
 intro e he
 obtain ⟨i, hi, rfl⟩ := List.getElem_of_mem he
 unfold yJ at h
 simp only [Bool.and_eq_true] at h
 have h1 := qN h.2.1 hi
 have h2 := aGD h.2.2 hi
 unfold xS at h1
 rw [Bool.and_eq_true, jk _ _ hi] at h1
 unfold yw wZ at h2
 simp only [hi, List.getD_eq_getElem?_getD, List.getElem?_eq_getElem, Option.getD_some, Bool.and_eq_true, decide_eq_true_eq] at h2
 exact ⟨aEa h1.1, h2.1, h2.2⟩
end Go.Proofs.YtodckioppgjbdaaDoor.AM
namespace Go.Proofs.YtodckioppgjbdaaDoor
def kv (es : List Edt) : List Ent := es.map fun e => (e.key, e.val)
theorem uM (es : List Edt) : (kv es).length = es.length := by simp [kv]
theorem jl (es : List Edt) (k : Nat) (h : k < es.length) : kAt (kv es) k = es[k].key := by simp [kAt, kv, h]
theorem aDZ (es : List Edt) (k : Nat) (h : k < es.length) (hn : nm es[k].key = false) : xS (kv es) k = false := by
 rw [xS, jl es k h, hn]; rfl
theorem aB9 (es : List Edt) (h : 0 < es.length) (hn : nm es[0].key = true) : xS (kv es) 0 = true := by
 rw [xS, jl es 0 h, hn]; rfl
theorem aC4 (es : List Edt) (k : Nat) (h0 : 0 < k) (h : k < es.length) (hn : nm es[k].key = true) : xS (kv es) k = klt (es[k - 1]'(by omega)).key es[k].key := by
 rw [xS, jl es k h, jl es (k - 1) (by omega), hn, decide_eq_false (by omega)]; simp
def aG2 (e : Edt) : Bool := wZ e.val && (!e.gone || decide (e.val = 0))
def zH (es : List Edt) (i : Nat) : Bool := aG2 (es.getD i ⟨ByteArray.empty, 0, false⟩)
theorem aAC (es : List Edt) (k : Nat) (h : k < es.length) : zH es k = (wZ es[k].val && (!es[k].gone || decide (es[k].val = 0))) := by simp [zH, aG2, h]
def qG (es : List Edt) : Bool := (List.range es.length).all (zH es)
def xQ (es : List Edt) : Bool := decide (es.length ≤ 6) && (uO (kv es) && qG es)
theorem aFD {es : List Edt} (h : ∀ i, i < es.length → zH es i = true) : qG es = true := by
 rw [qG, List.all_eq_true]; intro i hi; exact h i (List.mem_range.1 hi)
theorem aEX {es : List Edt} {i : Nat} (hi : i < es.length) (h : zH es i = false) : qG es = false := by
 rw [qG, List.all_eq_false]; exact ⟨i, List.mem_range.2 hi, by rw [h]; simp⟩
theorem aAY {es : List Edt} (h0 : es.length ≤ 6) (h : ∀ i, i < es.length → xS (kv es) i = true ∧ zH es i = true) : xQ es = true := by
 rw [xQ, qO (fun i hi => (h i (by rw [uM] at hi; exact hi)).1), aFD fun i hi => (h i hi).2, decide_eq_true h0]; rfl
theorem jV {es : List Edt} {i : Nat} (hi : i < es.length) (h : xS (kv es) i = false) : xQ es = false := by
 rw [xQ, vM (by rw [uM]; exact hi) h]; simp
theorem uh {es : List Edt} {i : Nat} (hi : i < es.length) (h : zH es i = false) : xQ es = false := by
 rw [xQ, aEX hi h]; simp
theorem jb {es : List Edt} (h : 6 < es.length) : xQ es = false := by
 rw [xQ, decide_eq_false (by omega)]; rfl
theorem aA1 (g : Bool) (v : Int) : (g = true ∧ v ≠ 0) ∨ g = false ∨ (g = true ∧ v = 0) := by
 cases g <;> by_cases h : v = 0 <;> simp [h]
end Go.Proofs.YtodckioppgjbdaaDoor
