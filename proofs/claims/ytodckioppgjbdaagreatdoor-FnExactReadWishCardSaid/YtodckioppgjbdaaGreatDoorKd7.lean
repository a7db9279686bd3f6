/- Texts of the machine over data, folded. -/
import Derived.Test.YtodckioppgjbdaaGreatDoorKd6
import Derived.Test.YtodckioppgjbdaaGreatDoorKd5
import Derived.Laws.StructEq
import Derived.ProofKit
import Derived.OpenShut
import Derived.ShutString
import Derived.LaidMore
import Derived.LaidLaws
import Derived.Lay
import Derived.OpenVars
import Derived.ChangeOld
import Derived.ChangeArms
import Derived.FnData
import Derived.Below
set_option linter.unusedVariables false
set_option maxRecDepth 100000
set_option linter.unusedSimpArgs false
namespace Go.Proofs.YtodckioppgjbdaaGreatDoor.AM
open Go Go.RowKit
attribute [local irreducible] xD xJ xQ yD yJ Pre ACG
end Go.Proofs.YtodckioppgjbdaaGreatDoor.AM
namespace Go.Proofs.YtodckioppgjbdaaGreatDoor.AM
open Go Go.RowKit
section
variable {P : Program} {t : TypeId} {x y : Operand} {a b : ByteArray}
theorem zR (h : a ≠ b) : zG P .neq t x y (.string a) (.string b) (.bool true) := aDl fun w => by simp [Op.stringOp, j4, h]
theorem zK (h : a = b) : zG P .neq t x y (.string a) (.string b) (.bool false) := aDl fun w => by simp [Op.stringOp, h]
theorem yh (h : a = b) : zG P .eql t x y (.string a) (.string b) (.bool true) := aDl fun w => by simp [Op.stringOp, h]
theorem yg (h : a ≠ b) : zG P .eql t x y (.string a) (.string b) (.bool false) := aDl fun w => by simp [Op.stringOp, j4, h]
end
attribute [local irreducible] xD xJ xQ yD yJ Pre ACG
end Go.Proofs.YtodckioppgjbdaaGreatDoor.AM
namespace Go.Proofs.YtodckioppgjbdaaGreatDoor
open Go.RowKit
def aKH (e : TypeId) (r : List Edt × Int) (w : World) (e' : Ending) (w' : World) : Prop := ∃ v, e' = .returned (.tuple #[v, .int .i64 r.2]) ∧ w'.ownsRow w.heap.size e 3 v r.1.length (yI r.1) ∧ Below w.heap.size w w'
theorem aKH.mk {e : TypeId} {r : List Edt × Int} {l : List Edt} {c : Int} {v : Value} {w w' : World} (h : r = (l, c)) (ho : w'.ownsRow w.heap.size e 3 v l.length (yI l)) (hb : Below w.heap.size w w') : aKH e r w (.returned (.tuple #[v, .int .i64 c])) w' := ⟨v, by rw [h], by rw [h]; exact ho, hb⟩
end Go.Proofs.YtodckioppgjbdaaGreatDoor
namespace Go.Proofs.YtodckioppgjbdaaGreatDoor.AM
open Go Go.RowKit
attribute [local irreducible] xD xJ xQ yD yJ Pre ACG
end Go.Proofs.YtodckioppgjbdaaGreatDoor.AM
namespace Go.Proofs.YtodckioppgjbdaaGreatDoor.AM
open Go Go.RowKit
abbrev Cmt := List Int × List Ent
theorem kT (e : Int) : yM (aK3 e) := by unfold aK3; simp [yM]
theorem aD2 {P : Program} {Θ : Tab} {s : St} {d : Option Tmp} {ty : TypeId} {pos : String} {after : Array Edge} {g : Option (Nat × Bool)} {t : TypeId} {x y : Operand} {l l' i c : Nat} {p : List Nat} {ob ob' : OB} {q z : AV} (hq : ob.xs[i]? = some q) (hx : s.ev x = .optr l i p c) (ho : s.hp l = some ob) (hg : xU q p 0 = some (z, c)) (hs : ((Θ.look t).known && (Nat.beq (asz z) (Θ.look t).size && Nat.beq 1 (asz z))) = true) (hy : s.ev y = .own l') (ho' : s.hp l' = some ob') (hn : Nat.beq l l' = false) (hop : ob.e.open_ = true := by rfl) (hsh : ob'.e.shut = true := by rfl) (hok : okL l' = true := by rfl) (hc : cOK y = true := by rfl) :
 Pre P Θ ⟨d, .store t x y, ty, pos, after, g⟩ s ⟨.any, some fun s' => (s'.frz l').set l (some ⟨.s (ob.e.typ.getD 0), ob.sz, ob.xs.set i (uO q p (.lst ob'.sz ob'.xs))⟩)⟩ := by
 simp only [Bool.and_eq_true] at hs
 have hd : s.dat (s.ev y) = .lst ob'.sz ob'.xs := by rw [hy]; simp [St.dat, ho', hsh]
 have hown : yT (s.ev y) = [l'] := by rw [hy]; rfl
 have hda : xG s (s.ev y) = true := by rw [hy]; simp [xG, ho', hsh]
 obtain ⟨t0, he⟩ : ∃ t0, ob.e = .s t0 ∨ ob.e = .z t0 := by
  cases h : ob.e with
  | s t0 => exact ⟨t0, .inl rfl⟩
  | z t0 => exact ⟨t0, .inr rfl⟩
  | _ => rw [h] at hop; cases hop
 have ht : ob.e.typ.getD 0 = t0 := by rcases he with he | he <;> rw [he] <;> rfl
 have hne : l ≠ l' := fun e => by rw [e] at hn; simp at hn
 refine ⟨vI hc, hs.1, l, i, p, c, ob, hx, ho, .inl ⟨t0, q, z, he, hq, hg, Nat.eq_of_beq_eq_true hs.2.1, by rw [hd]; exact Nat.eq_of_beq_eq_true hs.2.2, hda, by rw [hown]; simpa using hne, by rw [hown]; simp [hok], ?_⟩⟩
 rw [hd, hown, ht]; rfl
theorem aJs {s : St} {a t l : Nat} {ob : OB} {x : AV} {Θ : Tab} (h1 : s.sl a = .optr l 0 [] 0) (ho : s.hp l = some ob) (hx : ob.xs[0]? = some x) (hk : ((Θ.look t).known && (Bool.xor (zV x) (Θ.look t).isAgg).not && Nat.beq (asz x) (Θ.look t).size) = true) (hd : (match x with | .v _ | .agg _ | .lst _ _ | .any => True | _ => False)) (hop : ob.e.open_ = true := by rfl) :
 wN Θ [.cell a t] ⟨x, []⟩ .ret s := by
 have hr : rvA s (.cell a t) = x := by
  simp only [rvA, h1, ho, hop, hx, cond_true, Option.getD_some]
 simp only [Bool.and_eq_true] at hk
 refine ⟨trivial, [], by simp, trivial, ⟨⟨hk.1.1, by rw [hr]; exact xor_not hk.1.2, by rw [hr]; exact Nat.eq_of_beq_eq_true hk.2, .inl ⟨l, ob, x, h1, ho, .inl ⟨hop, hx⟩⟩⟩, trivial⟩, trivial, ⟨.inl ?_, trivial⟩⟩
 rw [hr]
 cases x <;> first | exact ⟨rfl, rfl⟩ | exact hd.elim
attribute [local irreducible] xD xJ xQ yD yJ Pre ACG
end Go.Proofs.YtodckioppgjbdaaGreatDoor.AM
namespace Go.Proofs.YtodckioppgjbdaaGreatDoor.AM
open Go Go.RowKit
section
variable {P : Program} {Θ : Tab} {s : St} {d : Option Tmp} {ty : TypeId} {pos : String} {after : Array Edge} {g : Option (Nat × Bool)}
end
section
variable {s : St} {Θ : Tab}
theorem aEo {t : Nat} {y : AV} (h : s.sl t = y) (hy : (match y with | .v _ | .agg _ | .lst _ _ | .any => True | _ => False)) : aCz s [] (s.sl t) y := .inl (by cases y <;> first | exact ⟨h, rfl⟩ | exact hy.elim)
theorem aKc {t1 t2 t3 : Nat} {y1 y2 y3 : AV} (h1 : aCz s [] (s.sl t1) y1) (h2 : aCz s [] (s.sl t2) y2) (h3 : aCz s [] (s.sl t3) y3) : wN Θ [.tmp t1, .tmp t2, .tmp t3] ⟨.tup [y1, y2, y3], []⟩ .ret s :=
 ⟨trivial, [], by simp, trivial, ⟨trivial, trivial, trivial, trivial⟩, ⟨_, rfl⟩, ⟨h1, h2, h3, trivial⟩⟩
end
theorem aIA {P : Program} {w : World} {t : TypeId} {a b : Bool} (d : Nat) (h : P.underlying t = some .bool) : (Op.equalIn (d + 1) t (.bool a) (.bool b)).run P w = .ok (a == b) w := by
 simp [Op.equalIn, run_underlying h]
theorem aJy {P : Program} {w : World} {t : TypeId} {a b : Bool} (h : P.underlying t = some .bool) : (Op.equal t (.bool a) (.bool b)).run P w = .ok (a == b) w := by
 exact aIA 9999 h
theorem vH {P : Program} {t : TypeId} {x y : Operand} {a b : Bool} (h : P.underlying t = some .bool) : zG P .neq t x y (.bool a) (.bool b) (.bool (a != b)) := fun w => by
 simp [eqGuard, binOp, aJy h]; cases a <;> cases b <;> rfl
attribute [local irreducible] xD xJ xQ yD yJ Pre ACG
theorem yV {x lo hi : Int} (h : lo ≤ x) (h' : x ≤ hi) : AC Tryz.prog 81 [.v (.int .i64 x), .v (.int .i64 lo), .v (.int .i64 hi)] ⟨.v (.bool true), []⟩ := by
 refine qrf Tryz.func81 Tryz.ntmps81 Tryz.results81 ?_; conv => whnf
 repeat ((refine qz ?_; conv => whnf))
 exact yE rfl trivial
theorem aJW {x lo hi : Int} (h : ¬ (lo ≤ x ∧ x ≤ hi)) : AC Tryz.prog 81 [.v (.int .i64 x), .v (.int .i64 lo), .v (.int .i64 hi)] ⟨.v (.bool false), []⟩ := by
 by_cases h1 : lo ≤ x
 · refine qrf Tryz.func81 Tryz.ntmps81 Tryz.results81 ?_; conv => whnf
   repeat ((refine qz ?_; conv => whnf))
   exact yE rfl trivial
 · refine qrf Tryz.func81 Tryz.ntmps81 Tryz.results81 ?_; conv => whnf
   repeat ((refine qz ?_; conv => whnf))
   exact yE rfl trivial
def aDm (N : Nat) (cs : List Cmt) : Prop := ∀ c ∈ cs, c.1.length ≤ N ∧ c.2.length ≤ N ∧ ∀ e ∈ c.2, e.1.size ≤ N
theorem aDm.le {N M : Nat} {cs : List Cmt} (h : aDm N cs) (k : N ≤ M) : aDm M cs := fun c hc => ⟨Nat.le_trans (h c hc).1 k, Nat.le_trans (h c hc).2.1 k, fun e he => Nat.le_trans ((h c hc).2.2 e he) k⟩
end Go.Proofs.YtodckioppgjbdaaGreatDoor.AM
namespace Go.Proofs.YtodckioppgjbdaaGreatDoor.AM
open Go Go.RowKit Go.ChangeShapes Go.WideShapes Go.Deep
section
variable {S : Nat → Prop} {w : World}
end
section
variable {H : Type} {enc : TypeId × Value → H} {P : Program} {w : World} {base : Nat} {held : Bool}
end
end Go.Proofs.YtodckioppgjbdaaGreatDoor.AM
namespace Go.Proofs.YtodckioppgjbdaaGreatDoor.AM
open Go Go.RowKit
structure Rf where
 name : ByteArray
 head : Int
 ver : Int
 gone : Bool
def aKe (r : Rf) : AV := .agg [.v (.string r.name), .v (.int .i64 r.head), .v (.int .i64 r.ver), .v (.bool r.gone)]
theorem kU (e : Rf) : yM (aKe e) := by unfold aKe; simp [yM, zH]
theorem aJv {a b : Rf} : a = b ↔ a.name = b.name ∧ a.head = b.head ∧ a.ver = b.ver ∧ a.gone = b.gone := by
 cases a; cases b; simp
attribute [local irreducible] xD xJ xQ yD yJ Pre ACG
end Go.Proofs.YtodckioppgjbdaaGreatDoor.AM
namespace Go.Proofs.YtodckioppgjbdaaGreatDoor.AM
open Go Go.RowKit Go.ChangeShapes Go.WideShapes Go.Deep
section
variable {S : Nat → Prop} {w : World}
end
section
variable {H : Type} {enc : TypeId × Value → H} {P : Program} {w : World} {base : Nat} {held : Bool}
end
end Go.Proofs.YtodckioppgjbdaaGreatDoor.AM
namespace Go.Proofs.YtodckioppgjbdaaGreatDoor
open Go.RowKit Go.ChangeShapes Go.WideShapes Go.Deep
section
variable {H : Type} {enc : TypeId × Value → H} {P : Program} {w : World} {base : Nat} {held : Bool}
end
end Go.Proofs.YtodckioppgjbdaaGreatDoor
namespace Go.Proofs.YtodckioppgjbdaaGreatDoor.AM
open Go Go.RowKit
end Go.Proofs.YtodckioppgjbdaaGreatDoor.AM
namespace Go.Proofs.YtodckioppgjbdaaGreatDoor.AM
open Go Go.RowKit Go.ChangeShapes Go.WideShapes Go.Deep
structure Opr where
 kind : Int
 frm : Int
 name : ByteArray
 key : ByteArray
 edits : List Edt
structure Bas where
 store : List Cmt
 refs : List Rf
structure Rst where
 code : Int
 com : Int
 val : Int
 keys : List ByteArray
 map : List Ent
def aIi (o : Opr) : AV := .agg [.v (.int .i64 o.kind), .v (.int .i64 o.frm), .v (.string o.name), .v (.string o.key), .lst 3 (o.edits.map x9)]
def Opr.ok (o : Opr) (N : Nat) : Prop := o.name.size ≤ N ∧ o.key.size ≤ N ∧ o.edits.length ≤ N ∧ ∀ e ∈ o.edits, e.key.size ≤ N
def Rst.ok (r : Rst) (N : Nat) : Prop := r.keys.length ≤ N ∧ (∀ k ∈ r.keys, k.size ≤ N) ∧ r.map.length ≤ N ∧ ∀ e ∈ r.map, e.1.size ≤ N
section
variable {S : Nat → Prop} {w : World}
theorem aGC : ∀ (l : List ByteArray), RL S w (l.map xP) (l.map fun x => .string x)
 | [] => by simp only [List.map_nil]; exact aEr
 | x :: l => by simp only [List.map_cons]; exact jb (c1 := [_]) (aCx rfl) (aGC l)
end
section
variable {H : Type} {enc : TypeId × Value → H} {P : Program} {w : World} {base : Nat} {held : Bool}
end
end Go.Proofs.YtodckioppgjbdaaGreatDoor.AM
namespace Go.Proofs.YtodckioppgjbdaaGreatDoor.AM
open Go.ChangeShapes Go.WideShapes Go.ChangeAt Go.RowKit
section
variable {P : Program} {W : World}
theorem trodVars_cons {H : Type} {enc : TypeId × Value → H} {spare : Nat → Bool} {n : String} {r : List String} {gs : List (DataW H)} {ps : List MemPlace} (h : DataW.TrodVars enc P W spare (n :: r) gs ps) : ∃ d ds q, gs = d :: ds ∧ DataW.TrodVars enc P W spare r ds q := by
 cases gs with
 | nil => simp [DataW.TrodVars] at h
 | cons d ds =>
  obtain ⟨g, t, cs, fuel, p, q, h1, h2, h3, h4, hs, e⟩ := h
  exact ⟨d, ds, q, rfl, hs⟩
def Lv (P : Program) (w : World) (n : String) (d : DataW Unit) : Prop := ∃ g t cs fuel p, P.globalNamed n = some g ∧ (P.globals[g]?).map (·.type) = some t ∧ w.var? P n = some cs ∧ DataW.trod (fun _ => ()) P w 0 (fun _ => true) false fuel t cs.toList = some (d, p)
theorem aFh : ∀ {l : List (String × DataW Unit)} {ps : List MemPlace}, DataW.LaidVars P W l ps → ∀ n d, (n, d) ∈ l → Lv P W n d
 | [], _, _, n, d, h => by cases h
 | (m, e) :: r, ps, hl, n, d, h => by
  obtain ⟨g, t, cs, fuel, p, q, h1, h2, h3, h4, h5, _⟩ := hl
  rcases List.mem_cons.1 h with e' | h
  · cases e'; exact ⟨g, t, cs, fuel, p, h1, h2, h3, h4⟩
  · exact aFh h5 n d h
theorem met_lv {l : List (String × DataW Unit)} (hh : (l.filter fun x => x.2.handleName?.isSome) = []) (h : laidMetH P l W) {n : String} {d : DataW Unit} (hm : (n, d) ∈ l) : Lv P W n d := by
 unfold laidMetH at h
 rw [hh] at h
 obtain ⟨ps, h1, _⟩ := h
 exact aFh h1 n d hm
theorem aE5 {n : String} {g : Nat} {cs : Array Value} (hg : P.globalNamed n = some g) (hv : W.var? P n = some cs) : g < W.heap.size ∧ ∃ t p, W.heap[g]? = some (.cells cs t p) := by
 unfold World.var? at hv
 rw [hg] at hv
 simp only [Option.bind_some] at hv
 cases hh : W.heap[g]? with
 | none => rw [hh] at hv; cases hv
 | some o =>
  rw [hh] at hv
  cases o with
  | cells c t p => simp only [Option.some.injEq] at hv; subst hv; exact ⟨(Array.getElem?_eq_some_iff.1 hh).1, t, p, rfl⟩
  | _ => cases hv
theorem aF8 {α : Type} (f : α → Value) : ∀ (l : List α), asz (.agg (l.map fun x => .v (f x))) = l.length
 | [] => rfl
 | x :: l => by
  have := aF8 f l
  rw [List.map_cons]
  show 1 + xB _ = _
  have h2 : xB (l.map fun x => .v (f x)) = l.length := this
  rw [h2, List.length_cons]; omega
theorem aHy {α : Type} {S : Nat → Prop} {w : World} (f : α → Value) (h1 : ∀ x, (f x).oneCell' = true) : ∀ (l : List α), RL S w (l.map fun x => .v (f x)) (l.map f)
 | [] => by simp only [List.map_nil]; unfold RL; rfl
 | x :: l => by
  simp only [List.map_cons]
  unfold RL
  exact ⟨[f x], l.map f, rfl, by unfold RA; exact ⟨rfl, h1 x⟩, aHy f h1 l⟩
theorem rg_of {α : Type} (f : α → Value) (h1 : ∀ x, (f x).oneCell' = true) {ls : List α} {n : String} {g : Nat} {cs : Array Value} (hg : P.globalNamed n = some g) (hv : W.var? P n = some cs) (hsz : cs.size = ls.length) (hc : ∀ (j : Nat) x, ls[j]? = some x → cs[j]? = some (f x)) : RG (InW W) W g (.agg (ls.map fun x => .v (f x))) := by
 obtain ⟨hlt, t, p, hb⟩ := aE5 hg hv
 refine ⟨hlt, fun _ => ?_, cs, t, p, hb, by show cs.size = _; rw [hsz, aF8]⟩
 unfold RA
 refine ⟨g, 0, ls.map f, rfl, hlt, by unfold RA; exact aHy f h1 ls, fun j u hu => ?_⟩
 rw [List.getElem?_map] at hu
 obtain ⟨x, hx, rfl⟩ := Option.map_eq_some_iff.1 hu
 rw [Nat.zero_add, World.var?_cell hg hv j]
 exact hc j x hx
theorem rg_str {ls : List ByteArray} {n : String} {d : DataW Unit} {g te ee m : Nat} (h : Lv P W n d) (hd : d = .agg (ls.map fun s => .lit (.string s.data.toList))) (hg : P.globalNamed n = some g) (ht : (P.globals[g]?).map (·.type) = some te)
 (hu : P.underlying te = some (.array m ee)) (he : P.underlying ee = some .string) (hc1 : P.cellsOf ee = 1) (hct : P.cellsOf te = m) (hm : ls.length = m) : RG (InW W) W g (.agg (ls.map fun s => .v (.string s))) := by
 obtain ⟨g', t', cs, fuel, p, q1, q2, q3, q4⟩ := h
 obtain rfl := Option.some.inj (hg.symm.trans q1)
 obtain rfl := Option.some.inj (ht.symm.trans q2)
 subst hd
 obtain ⟨xs, k, _, ex, hl, hxl, hel⟩ := DataW.trod_array hu q4
 have hsz : cs.size = m := by simpa [hct] using hl
 refine rg_of Value.string (fun _ => rfl) hg q3 (by omega) fun j x hx => ?_
 obtain ⟨hj, rfl⟩ := List.getElem?_eq_some_iff.1 hx
 have hE := hel j (by omega)
 rw [hc1, Nat.mul_one, List.getElem?_eq_getElem (by omega : j < xs.length)] at hE
 obtain ⟨z, e1, e2, _⟩ := DataW.trod_string he hE
 have e3 : (xs.map (·.1)) = ls.map fun s => (DataW.lit (.string s.data.toList) : DataW Unit) := by
  have := (Prod.mk.inj ex).1
  exact (DataW.agg.inj this).symm
 have e4 : (xs.map (·.1))[j]? = (ls.map fun s => (DataW.lit (.string s.data.toList) : DataW Unit))[j]? := by rw [e3]
 rw [List.getElem?_map, List.getElem?_map, List.getElem?_eq_getElem (by omega : j < xs.length), List.getElem?_eq_getElem hj, e2] at e4
 have hz : z = ls[j] := by
  simp only [Option.map_some, Option.some.injEq, DataW.lit.injEq, Lit.string.injEq] at e4
  exact toList_inj (by simpa [ByteArray.toList_eq] using e4)
 have h0 : ((cs.toList.drop j).take 1)[0]? = some (.string z) := by rw [e1]; rfl
 have : cs.toList[j]? = some (.string z) := by simpa using h0
 rw [← hz]; simpa using this
theorem rg_int {ls : List Int} {k : IntKind} {n : String} {d : DataW Unit} {g te ee m : Nat} (h : Lv P W n d) (hd : d = .agg (ls.map fun s => .lit (.int k s))) (hg : P.globalNamed n = some g) (ht : (P.globals[g]?).map (·.type) = some te)
 (hu : P.underlying te = some (.array m ee)) (he : P.underlying ee = some (.int k)) (hc1 : P.cellsOf ee = 1) (hct : P.cellsOf te = m) (hm : ls.length = m) : RG (InW W) W g (.agg (ls.map fun s => .v (.int k s))) := by
 obtain ⟨g', t', cs, fuel, p, q1, q2, q3, q4⟩ := h
 obtain rfl := Option.some.inj (hg.symm.trans q1)
 obtain rfl := Option.some.inj (ht.symm.trans q2)
 subst hd
 obtain ⟨xs, k', _, ex, hl, hxl, hel⟩ := DataW.trod_array hu q4
 have hsz : cs.size = m := by simpa [hct] using hl
 refine rg_of (Value.int k) (fun _ => rfl) hg q3 (by omega) fun j x hx => ?_
 obtain ⟨hj, rfl⟩ := List.getElem?_eq_some_iff.1 hx
 have hE := hel j (by omega)
 rw [hc1, Nat.mul_one, List.getElem?_eq_getElem (by omega : j < xs.length)] at hE
 obtain ⟨z, e1, e2, _⟩ := DataW.trod_int he hE
 have e3 : (xs.map (·.1)) = ls.map fun s => (DataW.lit (.int k s) : DataW Unit) := by
  have := (Prod.mk.inj ex).1
  exact (DataW.agg.inj this).symm
 have e4 : (xs.map (·.1))[j]? = (ls.map fun s => (DataW.lit (.int k s) : DataW Unit))[j]? := by rw [e3]
 rw [List.getElem?_map, List.getElem?_map, List.getElem?_eq_getElem (by omega : j < xs.length), List.getElem?_eq_getElem hj, e2] at e4
 have hz : z = ls[j] := by
  simp only [Option.map_some, Option.some.injEq, DataW.lit.injEq, Lit.int.injEq] at e4
  exact e4.2
 have h0 : ((cs.toList.drop j).take 1)[0]? = some (.int k z) := by rw [e1]; rfl
 have : cs.toList[j]? = some (.int k z) := by simpa using h0
 rw [← hz]; simpa using this
theorem rg_err {n nm : String} {d : DataW Unit} {g te : Nat} {ms : Array (String × TypeId)} (h : Lv P W n (.iface nm d)) (hg : P.globalNamed n = some g) (ht : (P.globals[g]?).map (·.type) = some te) (hu : P.underlying te = some (.interface ms)) : RG (InW W) W g (.tup []) := by
 obtain ⟨g', t', cs, fuel, p, q1, q2, q3, q4⟩ := h
 obtain rfl := Option.some.inj (hg.symm.trans q1)
 obtain rfl := Option.some.inj (ht.symm.trans q2)
 obtain ⟨f1, u, v, e, _⟩ := iface_of_trod hu q4
 obtain ⟨hlt, t, p', hb⟩ := aE5 hg q3
 exact ⟨hlt, fun hk => (by cases hk), cs, t, p', hb, u, v, Array.toList_inj.1 e⟩
end
end Go.Proofs.YtodckioppgjbdaaGreatDoor.AM
namespace Go.Proofs.YtodckioppgjbdaaGreatDoor.AM
open Go Go.RowKit
section
variable {P : Program} {t : TypeId} {x y : Operand} {a b c : Int}
theorem qh (h : a * b = c) (hl : -9223372036854775808 ≤ c) (hu : c ≤ 9223372036854775807) : zG P .mul t x y (.int .i64 a) (.int .i64 b) (.int .i64 c) := fun w => by
 have hw : IntKind.i64.wrap (a * b) = c := by rw [IntKind.wrap_i64, h]; omega
 simp [eqGuard, binOp, Op.intArith, hw]
end
section
variable {Θ : Tab} {s : St} {d : Option Tmp} {ty : TypeId} {pos : String} {after : Array Edge} {g : Option (Nat × Bool)}
theorem aGj {x : Operand} {n : Nat} (hx : s.ev x = .v (.int .u8 (n : Int))) (hn : n < 256) : Pre Tryz.prog Θ ⟨d, .convert 5 3 x, ty, pos, after, g⟩ s ⟨.v (.int .i64 (n : Int)), none⟩ :=
 aLB (fun w => by
  have hw : IntKind.i64.wrap (n : Int) = n := by rw [IntKind.wrap_i64]; omega
  have h1 : (underlying 5).run Tryz.prog w = .ok (.int .u8) w := run_underlying Tryz.underlying5 w
  have h2 : (underlying 3).run Tryz.prog w = .ok (.int .i64) w := run_underlying Tryz.underlying3 w
  simp [convert, h1, h2, Conv.intToInt, hw]) hx rfl
end
abbrev okN (s : ByteArray) : Bool := Nm.nameOK s.data.toList
theorem aKY : ∀ vs w, (callFunc 92 vs).run Tryz.prog w = .ok (.enter 92 vs) w := uU Tryz.func92 (by kernel_rfl) (by kernel_rfl)
theorem aKZ : ∀ vs w, (callFunc 98 vs).run Tryz.prog w = .ok (.enter 98 vs) w := uU Tryz.func98 (by kernel_rfl) (by kernel_rfl)
theorem xL {s : ByteArray} {b : Bool} (hs : s.size ≤ maxLen) (hb : okN s = b) : AC Tryz.prog 92 [.v (.string s)] ⟨.v (.bool b), []⟩ :=
 hb ▸ jd aKY rfl fun w S0 vs hS hv => by
  obtain ⟨u', rfl, h2⟩ := kL hv
  rw [aDk h2]
  exact (aB9 s w hs).mono fun e w' ⟨h1, h2⟩ => ⟨h1, by subst h2; exact Below.refl _ _⟩
theorem xM {s : ByteArray} {b : Bool} (hs : s.size ≤ maxLen) (hb : okN s = b) : AC Tryz.prog 98 [.v (.string s)] ⟨.v (.bool b), []⟩ :=
 hb ▸ jd aKZ rfl fun w S0 vs hS hv => by
  obtain ⟨u', rfl, h2⟩ := kL hv
  rw [aDk h2]
  exact (aCY s w hs).mono fun e w' ⟨h1, h2⟩ => ⟨h1, by subst h2; exact Below.refl _ _⟩
attribute [local irreducible] xD xJ xQ yD yJ Pre ACG
theorem za {x : Int} (h : 1 ≤ x) (h' : x ≤ 60) : AC Tryz.prog 159 [.v (.int .i64 x)] ⟨.v (.bool true), []⟩ := by
 refine qrf Tryz.func159 Tryz.ntmps159 Tryz.results159 ?_; conv => whnf
 repeat ((refine qz ?_; conv => whnf))
 exact yE rfl trivial
theorem qV {x : Int} (h : ¬ (1 ≤ x ∧ x ≤ 60)) : AC Tryz.prog 159 [.v (.int .i64 x)] ⟨.v (.bool false), []⟩ := by
 by_cases h1 : 1 ≤ x
 · refine qrf Tryz.func159 Tryz.ntmps159 Tryz.results159 ?_; conv => whnf
   repeat ((refine qz ?_; conv => whnf))
   exact yE rfl trivial
 · refine qrf Tryz.func159 Tryz.ntmps159 Tryz.results159 ?_; conv => whnf
   repeat ((refine qz ?_; conv => whnf))
   exact yE rfl trivial
end Go.Proofs.YtodckioppgjbdaaGreatDoor.AM
namespace Go.Proofs.YtodckioppgjbdaaGreatDoor.AM
open Go Go.RowKit
def aLO (N : Nat) (l : List Rf) : Prop := ∀ e ∈ l, e.name.size ≤ N
attribute [local irreducible] xD xJ xQ yD yJ Pre ACG
end Go.Proofs.YtodckioppgjbdaaGreatDoor.AM
namespace Go.Proofs.YtodckioppgjbdaaGreatDoor.AM
open Go Go.RowKit
theorem ku {s : St} {Θ : Tab} {t1 t2 t3 : Nat} {y1 y2 y3 : Value} (h1 : s.sl t1 = .v y1) (h2 : s.sl t2 = .v y2) (h3 : s.sl t3 = .v y3) : wN Θ [.tmp t1, .tmp t2, .tmp t3] ⟨.tup [.v y1, .v y2, .v y3], []⟩ .ret s := aKc (aEo h1 trivial) (aEo h2 trivial) (aEo h3 trivial)
theorem zT {s : St} {Θ : Tab} {t1 t2 : Nat} {y1 y2 : Value} (h1 : s.sl t1 = .v y1) (h2 : s.sl t2 = .v y2) : wN Θ [.tmp t1, .tmp t2] ⟨.tup [.v y1, .v y2], []⟩ .ret s :=
 ⟨trivial, [], by simp, trivial, ⟨trivial, trivial, trivial⟩, ⟨_, rfl⟩, ⟨aEo h1 trivial, aEo h2 trivial, trivial⟩⟩
attribute [local irreducible] xD xJ xQ yD yJ Pre ACG
end Go.Proofs.YtodckioppgjbdaaGreatDoor.AM
namespace Go.Proofs.YtodckioppgjbdaaGreatDoor.AM
open Go Go.RowKit
section
variable {Θ : Tab} {s : St} {d : Option Tmp} {ty : TypeId} {pos : String} {after : Array Edge} {g : Option (Nat × Bool)}
theorem aGi {x lo hi : Operand} {a : ByteArray} {k k' : IntKind} {i j : Nat} (hij : i ≤ j) (hj : j ≤ a.size) (hx : s.ev x = .v (.string a)) (hl : s.ev lo = .v (.int k (i : Int))) (hh : s.ev hi = .v (.int k' (j : Int))) : Pre Tryz.prog Θ ⟨d, .slice 9 x (some lo) (some hi) none, ty, pos, after, g⟩ s ⟨.v (.string (a.extract i j)), none⟩ := by
 refine .inl ⟨.string a, .string (a.extract i j), by rw [hx]; rfl, fun y hy => ?_, fun w => ?_, rfl, rfl⟩
 · simp only [Option.toList, List.append_nil, List.cons_append, List.nil_append, List.mem_cons, List.not_mem_nil, or_false] at hy
   rcases hy with rfl | rfl
   · rw [hl]; rfl
   · rw [hh]; rfl
 · simp only [Option.map_some, Option.map_none, hl, hh, xX, Option.getD_some]
   rw [run_sliceAt_string w _ _ _ _ _ Tryz.underlying9]
   have := run_slice_string (P := Tryz.prog) w 9 a k k' (i : Int) (j : Int) Tryz.underlying9 (by omega) (by omega) (by omega)
   simpa using this
end
attribute [local irreducible] xD xJ xQ yD yJ Pre ACG
end Go.Proofs.YtodckioppgjbdaaGreatDoor.AM
namespace Go.Proofs.YtodckioppgjbdaaGreatDoor.AM
open Go Go.RowKit
def aGV (ops : Array Oper) (k : Nat) (s : St) (ls : List Nat) : Bool :=
 (List.range ops.size).all fun j => Nat.beq j k || (zi ops j k || (match ops[j]? with
  | some o => (tmpsOf o).all fun t => ((List.range ops.size).any fun j' => match (ops[j']?).bind (·.dst) with
   | some t' => Nat.beq t' t && (!(Nat.blt j' k) && !(kH ops j'))
   | none => false) || ls.all fun l => !((s.sl t).names l)
  | none => true))
theorem aI0 {ops : Array Oper} {k : Nat} {s : St} {ls : List Nat} (h : aGV ops k s ls = true) : ∀ j o, ops[j]? = some o → j ≠ k → zi ops j k = false → ∀ t, t ∈ tmpsOf o → (∀ j' o', ops[j']? = some o' → o'.dst = some t → Nat.blt j' k = true ∨ kH ops j' = true) → ∀ l ∈ ls, (s.sl t).names l = false := by
 intro j o hj hne hor t ht hL l hl
 have h1 := List.all_eq_true.1 h j (List.mem_range.2 (Array.getElem?_eq_some_iff.1 hj).1)
 simp only [xY hne, hor, Bool.false_or, hj] at h1
 have h2 := List.all_eq_true.1 h1 t ht
 rw [Bool.or_eq_true] at h2
 rcases h2 with h2 | h2
 · obtain ⟨j', hj', h3⟩ := List.any_eq_true.1 h2
   cases ho' : ops[j']? with
   | none => rw [ho'] at h3; cases h3
   | some o' =>
    rw [ho'] at h3
    cases hd : o'.dst with
    | none => simp only [Option.bind_some, hd] at h3; cases h3
    | some t' =>
     simp only [Option.bind_some, hd, Bool.and_eq_true, Bool.not_eq_true'] at h3
     have : t' = t := Nat.eq_of_beq_eq_true h3.1
     subst this
     rcases hL j' o' ho' hd with h4 | h4 <;> rw [h4] at h3 <;> simp at h3
 · have := List.all_eq_true.1 h2 l hl
   simpa using this
theorem aHT {ops : Array Oper} {k : Nat} {s : St} {ls : List Nat} (h : aGV ops k s ls = true) : ∀ j o, ops[j]? = some o → j ≠ k → zi ops j k = false → ∀ t, t ∈ tmpsOf o → (∀ j' o', ops[j']? = some o' → o'.dst = some t → Nat.blt j' k = true) → ∀ l ∈ ls, (s.sl t).names l = false :=
 fun j o h1 h2 h3 t ht hL => aI0 h j o h1 h2 h3 t ht fun j' o' a b => .inl (hL j' o' a b)
section
variable {Θ : Tab} {ops : Array Oper} {k : Nat} {s : St}
theorem uF {l : Nat} {o : Option OB} {v : AV} (hs : soft Θ ops true k = true) (hc : aGV ops k s [l] = true) : ve Θ ops (fun j => Nat.blt j k) k s ⟨v, some fun s' => s'.set l o⟩ :=
 ⟨true, [l], _, id, fun hp j => bif Nat.beq j l then o else hp j, fun mp j => bif Nat.beq j l then none else mp j, rfl, hs, fun s => rfl, fun x _ => rfl, fun _ => ⟨fun x => rfl, fun hp j hj => by
  have : j ≠ l := by simpa using hj
  show (bif Nat.beq j l then o else hp j) = hp j
  rw [xY this]; rfl⟩, aHT hc⟩
end
section
variable {P : Program} {Θ : Tab} {s : St} {ty : TypeId} {pos : String} {after : Array Edge} {g : Option (Nat × Bool)}
theorem kZ {d : Option Tmp} {t : TypeId} {ps : Array (Nat × Operand)} {fs : List (Nat × Nat)} {z : List AV} (ht : Θ.look t = .struct fs z) (hm : aAU s (wW z) ps.toList) (hc : vX (ps.toList.map (·.2)) = true) :
 Pre P Θ ⟨d, .build t ps, ty, pos, after, g⟩ s ⟨.mix (vN s (wW z) ps.toList), none⟩ := ⟨fs, z, ht, .inr ⟨hm, zU hc, rfl⟩⟩
end
def aLD (ops : Array Oper) : Bool :=
 (List.range ops.size).all fun j => match ops[j]? with
  | some o => (tmpsOf o).all fun t => (List.range ops.size).all fun j' => match (ops[j']?).bind (·.dst) with
   | some t' => !(Nat.beq t' t) || (!(Nat.beq j' j) && (((Region.before ops).getD j 0).testBit j' || kH ops j'))
   | none => true
  | none => true
theorem aIq {ops : Array Oper} (h : aLD ops = true) : qH ops := by
 intro j o ho t ht j' o' ho' hd
 have h1 := List.all_eq_true.1 h j (List.mem_range.2 (Array.getElem?_eq_some_iff.1 ho).1)
 simp only [ho] at h1
 have h2 := List.all_eq_true.1 (List.all_eq_true.1 h1 t ht) j' (List.mem_range.2 (Array.getElem?_eq_some_iff.1 ho').1)
 simp only [ho', Option.bind_some, hd, Nat.beq_refl, Bool.not_true, Bool.false_or, Bool.and_eq_true, Bool.not_eq_true', Bool.or_eq_true] at h2
 exact ⟨fun e => by rw [e] at h2; simp at h2, h2.2⟩
mutual
def wD : AV → List Nat
 | .own l => [l]
 | .optr l _ _ _ => [l]
 | .mapv l => [l]
 | .tup xs => aAQ xs
 | .mix xs => aAQ xs
 | .fn _ xs ys => aAQ xs ++ aAQ ys
 | .ifc _ x => wD x
 | _ => []
def aAQ : List AV → List Nat
 | [] => []
 | x :: xs => wD x ++ aAQ xs
end
mutual
theorem vO {l : Nat} : ∀ x : AV, x.names l = true → l ∈ wD x
 | .own l', h => by simp only [AV.names] at h; simp [wD, Nat.eq_of_beq_eq_true h]
 | .optr l' _ _ _, h => by simp only [AV.names] at h; simp [wD, Nat.eq_of_beq_eq_true h]
 | .mapv l', h => by simp only [AV.names] at h; simp [wD, Nat.eq_of_beq_eq_true h]
 | .tup xs, h => by simp only [AV.names] at h; unfold wD; exact wO xs h
 | .mix xs, h => by simp only [AV.names] at h; unfold wD; exact wO xs h
 | .fn _ xs ys, h => by
  simp only [AV.names, Bool.or_eq_true] at h; unfold wD
  exact List.mem_append.2 (h.imp (wO xs) (wO ys))
 | .ifc _ x, h => by simp only [AV.names] at h; unfold wD; exact vO x h
 | .any, h => by simp [AV.names] at h
 | .v _, h => by simp [AV.names] at h
 | .agg _, h => by simp [AV.names] at h
 | .lst _ _, h => by simp [AV.names] at h
 | .ptr _, h => by simp [AV.names] at h
 | .rd _, h => by simp [AV.names] at h
theorem wO {l : Nat} : ∀ xs : List AV, xI l xs = true → l ∈ aAQ xs
 | [], h => by simp [xI] at h
 | x :: xs, h => by
  simp only [xI, Bool.or_eq_true] at h; unfold aAQ
  exact List.mem_append.2 (h.imp (vO x) (wO xs))
end
theorem aAN {l : Nat} : ∀ {nu : List (Nat × Option OB)}, xq nu l → l ∈ nu.map (·.1)
 | [], ⟨o, h⟩ => by simp [yN] at h
 | (m, ob) :: r, ⟨o, h⟩ => by
  simp only [yN] at h
  cases e : Nat.beq l m with
  | true => simp [Nat.eq_of_beq_eq_true e]
  | false => rw [e] at h; exact List.mem_cons_of_mem _ (aAN ⟨o, h⟩)
def aDo (ops : Array Oper) (k : Nat) (t : Tmp) : Bool := (List.range ops.size).any fun j' => match (ops[j']?).bind (·.dst) with
 | some t' => Nat.beq t' t && (!(Nat.blt j' k) && !(kH ops j'))
 | none => false
theorem aBk {ops : Array Oper} {k : Nat} {t : Tmp} (h : aDo ops k t = true) (hf : uJ ops (fun j => Nat.blt j k) t) : False := by
 obtain ⟨j', hj', h3⟩ := List.any_eq_true.1 h
 cases ho' : ops[j']? with
 | none => rw [ho'] at h3; cases h3
 | some o' =>
  rw [ho'] at h3
  cases hd : o'.dst with
  | none => simp only [Option.bind_some, hd] at h3; cases h3
  | some t' =>
   simp only [Option.bind_some, hd, Bool.and_eq_true, Bool.not_eq_true'] at h3
   have : t' = t := Nat.eq_of_beq_eq_true h3.1
   subst this
   rcases hf j' o' ho' hd with h4 | h4
   · simp only at h4
     rw [h4] at h3; simp at h3
   · rw [h4] at h3; simp at h3
def aJC (ops : Array Oper) (k : Nat) (s : St) (ks ls : List Nat) : Bool :=
 (List.range ops.size).all fun j => Nat.beq j k || (zi ops j k || (match ops[j]? with
  | some o => ((tmpsOf o).all fun t => ((List.range ops.size).any fun j' => match (ops[j']?).bind (·.dst) with
   | some t' => Nat.beq t' t && (!(Nat.blt j' k) && !(kH ops j'))
   | none => false) || ls.all fun l => !((s.sl t).names l)) || (ks.isEmpty && wvB ops k o)
  | none => true))
theorem aI1 {ops : Array Oper} {k : Nat} {s : St} {ks ls : List Nat} (h : aJC ops k s ks ls = true) : ∀ j o, ops[j]? = some o → j ≠ k → zi ops j k = false → (ks = [] ∧ wvB ops k o = true) ∨ ∀ t, t ∈ tmpsOf o → (∀ j' o', ops[j']? = some o' → o'.dst = some t → Nat.blt j' k = true ∨ kH ops j' = true) → ∀ l ∈ ls, (s.sl t).names l = false := by
 intro j o hj hne hor
 have h1 := List.all_eq_true.1 h j (List.mem_range.2 (Array.getElem?_eq_some_iff.1 hj).1)
 simp only [xY hne, hor, Bool.false_or, hj] at h1
 rcases (Bool.or_eq_true _ _).mp h1 with h1 | h1
 case inr =>
  rw [Bool.and_eq_true] at h1
  exact .inl ⟨List.isEmpty_iff.1 h1.1, h1.2⟩
 refine .inr fun t ht hL l hl => ?_
 have h2 := List.all_eq_true.1 h1 t ht
 rw [Bool.or_eq_true] at h2
 rcases h2 with h2 | h2
 · obtain ⟨j', hj', h3⟩ := List.any_eq_true.1 h2
   cases ho' : ops[j']? with
   | none => rw [ho'] at h3; cases h3
   | some o' =>
    rw [ho'] at h3
    cases hd : o'.dst with
    | none => simp only [Option.bind_some, hd] at h3; cases h3
    | some t' =>
     simp only [Option.bind_some, hd, Bool.and_eq_true, Bool.not_eq_true'] at h3
     have : t' = t := Nat.eq_of_beq_eq_true h3.1
     subst this
     rcases hL j' o' ho' hd with h4 | h4 <;> rw [h4] at h3 <;> simp at h3
 · have := List.all_eq_true.1 h2 l hl
   simpa using this
def evB (ops : Array Oper) (k : Nat) (s : St) (o : Oper) (ks ls : List Nat) : Bool :=
 (aJC ops k s ks ls && (((ls.isEmpty || (List.range ops.size).all fun j => Nat.beq j k || (zi ops j k || (match ops[j]? with
  | some o' => (tmpsOf o').all fun t => aDo ops k t || (wD (s.sl t)).all fun l0 => match s.hp l0 with | some ob => ls.all fun l => !(yS l ob.e) | none => true
  | none => true))) && (ks.isEmpty || (List.range ops.size).all fun j => match ops[j]? with
  | some o' => (tmpsOf o').all fun t => aDo ops k t || (wD (s.sl t)).all fun l => match s.hp l with | some ob => ob.e.shut | none => true
  | none => true)) && ((!(aFC o) || (List.range ops.size).all fun j => Nat.beq j k || (zi ops j k || (match ops[j]? with
  | some o' => aCu o'
  | none => true))) && (!(aCu o) || ks.isEmpty)))) &&
 ((ks.isEmpty || (List.range ops.size).all fun j => match ops[j]? with
  | some o => (tmpsOf o).all fun t => aDo ops k t || ((ks.all fun l => !((s.sl t).names l)) || (wD (s.sl t)).all fun l => ls.contains l) &&
   (Nat.beq j k || (zi ops j k || (wD (s.sl t)).all fun l => match s.hp l with | some ob => ob.e.shut | none => true))
  | none => true) &&
 (List.range ops.size).all fun j => Nat.beq j k || (zi ops j k || (match (ops[j]?).bind (·.dst) with
  | some d => ls.all fun l => !(Nat.beq (l % 1000) ((d + 1) % 1000))
  | none => true)))
section
variable {P : Program} {Θ : Tab} {n : Nat} {ops : Array Oper} {k : Nat} {s : St} {o : Oper} {u : AV} {ks : List Nat} {nu : List (Nat × Option OB)}
theorem aJD (hs : SftG P Θ o s u ks nu) (hin : ∀ l ∈ nu.map (·.1), xq nu l) (hB : evB ops k s o ks (nu.map (·.1)) = true) (hqt : wP o = true → nu = [] ∧ Pre P Θ o s ⟨u, none⟩) : Ev P Θ ops (fun j => Nat.blt j k) k o s u ks nu := by
 simp only [evB, Bool.and_eq_true] at hB
 obtain ⟨⟨b1, ⟨bf, bc⟩, bo, bn⟩, b2, b3⟩ := hB
 have key : ∀ (j : Nat) (o' : Oper), ops[j]? = some o' → ∀ t ∈ tmpsOf o', uJ ops (fun j => Nat.blt j k) t → ks = [] ∨
  (((ks.all fun l => !((s.sl t).names l)) || (wD (s.sl t)).all fun l => (nu.map (·.1)).contains l) = true ∧ (Nat.beq j k || (zi ops j k || (wD (s.sl t)).all fun l => match s.hp l with | some ob => ob.e.shut | none => true)) = true) := fun j o' ho t ht hf => by
  rcases (Bool.or_eq_true _ _).mp b2 with h | h
  · exact .inl (List.isEmpty_iff.1 h)
  · have h1 := List.all_eq_true.1 h j (List.mem_range.2 (Array.getElem?_eq_some_iff.1 ho).1)
    simp only [ho] at h1
    have h2 := List.all_eq_true.1 h1 t ht
    rcases (Bool.or_eq_true _ _).mp h2 with h3 | h3
    · exact (aBk h3 hf).elim
    · exact .inr (by simpa [Bool.and_eq_true] using h3)
 refine ⟨hs, fun j o' ho hne hor => (aI1 b1 j o' ho hne hor).imp id fun hA t ht hf l hl => hA t ht hf l (aAN hl), fun j o' ho t ht hf => ?_, fun j o' ho hne hor t ht hf l ob hn hob => ?_, fun j o' ho hne hor d hd l hl => ?_, fun j o' ho hne hor t ht hf l0 ob l hn hob hl => ?_, ?_, fun hst j o' ho hne hor => ?_, fun hnk => ?_, hqt⟩
 · rcases key j o' ho t ht hf with rfl | ⟨h, _⟩
   · exact .inl fun l hl => by cases hl
   · rcases (Bool.or_eq_true _ _).mp h with h | h
     · exact .inl fun l hl => by simpa using List.all_eq_true.1 h l hl
     · exact .inr fun l hl => hin l (by simpa using List.all_eq_true.1 h l (vO _ hl))
 · rcases key j o' ho t ht hf with rfl | ⟨_, h⟩
   · exact .inl rfl
   · rw [xY hne, hor] at h
     simp only [Bool.false_or] at h
     have := List.all_eq_true.1 h l (vO _ hn)
     simp only [hob] at this
     exact .inr this
 · have h1 := List.all_eq_true.1 b3 j (List.mem_range.2 (Array.getElem?_eq_some_iff.1 ho).1)
   rw [xY hne, hor] at h1
   simp only [Bool.false_or, ho, Option.bind_some, hd] at h1
   have := List.all_eq_true.1 h1 l (aAN hl)
   intro e
   rw [e] at this
   simp at this
 · have hm := aAN hl
   rcases (Bool.or_eq_true _ _).mp bf with h | h
   · rw [List.isEmpty_iff.1 h] at hm; cases hm
   · have h1 := List.all_eq_true.1 h j (List.mem_range.2 (Array.getElem?_eq_some_iff.1 ho).1)
     rw [xY hne, hor] at h1
     simp only [Bool.false_or, ho] at h1
     have h2 := List.all_eq_true.1 h1 t ht
     rcases (Bool.or_eq_true _ _).mp h2 with h3 | h3
     · exact (aBk h3 hf).elim
     · have h4 := List.all_eq_true.1 h3 l0 (vO _ hn)
       simp only [hob] at h4
       have h5 := List.all_eq_true.1 h4 l hm
       simpa using h5
 · rcases (Bool.or_eq_true _ _).mp bc with h | h
   · exact .inl (List.isEmpty_iff.1 h)
   · refine .inr fun j o' ho t ht hf l0 ob hn hob => ?_
     have h1 := List.all_eq_true.1 h j (List.mem_range.2 (Array.getElem?_eq_some_iff.1 ho).1)
     simp only [ho] at h1
     have h2 := List.all_eq_true.1 h1 t ht
     rcases (Bool.or_eq_true _ _).mp h2 with h3 | h3
     · exact (aBk h3 hf).elim
     · have h4 := List.all_eq_true.1 h3 l0 (vO _ hn)
       simp only [hob] at h4
       exact h4
 · rw [hst] at bo
   have h1 := List.all_eq_true.1 bo j (List.mem_range.2 (Array.getElem?_eq_some_iff.1 ho).1)
   rw [xY hne, hor] at h1
   simpa only [Bool.false_or, ho] using h1
 · rw [hnk] at bn
   exact List.isEmpty_iff.1 bn
theorem aAO {l : Nat} (h : xq [] l) : False := by obtain ⟨o, h⟩ := h; simp [yN] at h
theorem aIv {v : AV} (hp : Pre P Θ o s ⟨v, none⟩) (hc : calm Θ true o = true) (hv : vJ o = true ∨ v.within (fun _ => false) = true) : Sft P Θ o s v [] [] := by
 refine ⟨fun s' h1 h2 => ⟨⟨v, none⟩, ko (two := true) hc h1 (fun _ l ⟨x, hx, hn⟩ => ?_) hp, fun K hK => .done hK⟩, fun l ob h => by simp [yN] at h, fun l hl => (by cases hl), fun l hl => ?_, fun l hl => (aAO hl).elim, fun l ob hl => (aAO hl).elim⟩
 · cases x with
   | tmp t => exact (h2 l (.inr ⟨t, uE hx, hn⟩)).1
   | global g => simp [St.ev, kC] at hn
   | _ => simp [St.ev, AV.names, xI] at hn
 · rcases hv with hv | hv
   · exact .inr (jM hv hp l hl)
   · have := uZ v hv hl; cases this
theorem aHg {K : St → Prop} (h : K s) : xQ P Θ n ops k [] s K := Gh.done h
theorem u7 {r : List Oper} {K : St → Prop} {v : AV} (hp : Pre P Θ o s ⟨v, none⟩) (hin : inN n o.dst = true) (hg : o.guard = none) (hc : calm Θ true o = true) (hv : vJ o = true ∨ v.within (fun _ => false) = true) (hB : evB ops k s o [] [] = true) (h : xQ P Θ n ops (k + 1) r (s.put o.dst v) K) : xQ P Θ n ops k (o :: r) s K :=
 ⟨hin, hg, .inl ⟨v, [], [], aJD (aIv hp hc hv).g (fun l hl => by cases hl) hB (fun _ => ⟨rfl, hp⟩), h⟩⟩
theorem aC3 {r : List Oper} {K : St → Prop} (hs : Sft P Θ o s u ks nu) (hn : ∀ l ∈ nu.map (·.1), xq nu l) (hin : inN n o.dst = true) (hg : o.guard = none) (hB : evB ops k s o ks (nu.map (·.1)) = true) (h : xQ P Θ n ops (k + 1) r ((shp ks nu s).put o.dst u) K) (hq : wP o = false := by rfl) : xQ P Θ n ops k (o :: r) s K :=
 ⟨hin, hg, .inl ⟨u, ks, nu, aJD hs.g hn hB (fun h => by rw [hq] at h; cases h), h⟩⟩
end
abbrev ul (x : AV) : Bool := x.within (fun _ => false)
mutual
theorem aAf (s s' : St) : ∀ x : AV, ul x = true → s'.dat x = s.dat x
 | .own l, h => by simp [ul, AV.within] at h
 | .optr l _ _ _, h => by simp [ul, AV.within] at h
 | .mix xs, h => by unfold St.dat; rw [aCJ s s' xs (by simpa [ul, AV.within] using h)]
 | .ifc t x, h => by unfold St.dat; rw [aAf s s' x (by simpa [ul, AV.within] using h)]
 | .mapv l, h => by simp [ul, AV.within] at h
 | .tup xs, h => by simp [St.dat]
 | .fn _ xs ys, h => by simp [St.dat]
 | .any, h => by simp [St.dat]
 | .v _, h => by simp [St.dat]
 | .agg _, h => by simp [St.dat]
 | .lst _ _, h => by simp [St.dat]
 | .ptr _, h => by simp [St.dat]
 | .rd _, h => by simp [St.dat]
theorem aCJ (s s' : St) : ∀ xs : List AV, yC (fun _ => false) xs = true → s'.datL xs = s.datL xs
 | [], _ => by simp [St.datL]
 | x :: xs, h => by
  simp only [yC, Bool.and_eq_true] at h
  simp only [St.datL]; rw [aAf s s' x h.1, aCJ s s' xs h.2]
end
mutual
theorem jo (s s' : St) : ∀ x : AV, ul x = true → xG s' x = xG s x
 | .own l, h => by simp [ul, AV.within] at h
 | .optr l _ _ _, h => by simp [ul, AV.within] at h
 | .mix xs, h => by unfold xG; rw [aA6 s s' xs (by simpa [ul, AV.within] using h)]
 | .ifc t x, h => by simp [xG]
 | .mapv l, h => by simp [ul, AV.within] at h
 | .tup xs, h => by simp [xG]
 | .fn _ xs ys, h => by simp [xG]
 | .any, h => by simp [xG]
 | .v _, h => by simp [xG]
 | .agg _, h => by simp [xG]
 | .lst _ _, h => by simp [xG]
 | .ptr _, h => by simp [xG]
 | .rd _, h => by simp [xG]
theorem aA6 (s s' : St) : ∀ xs : List AV, yC (fun _ => false) xs = true → zX s' xs = zX s xs
 | [], _ => by simp [zX]
 | x :: xs, h => by
  simp only [yC, Bool.and_eq_true] at h
  simp only [zX]; rw [jo s s' x h.1, aA6 s s' xs h.2]
end
theorem aGQ (s s' : St) (x : AV) (h : ul x = true) : wT s' x = wT s x := by
 cases x with
 | ifc t y => simp only [wT]; exact jo s s' y (by simpa [ul, AV.within] using h)
 | own l => simp [ul, AV.within] at h
 | optr l i p c => simp [ul, AV.within] at h
 | mix xs => simp only [wT]; exact jo s s' (.mix xs) h
 | fn f xs ys => cases xs <;> cases ys <;> simp [wT]
 | _ => simp [wT, xG]
theorem aB4 (s s' : St) : ∀ xs : List AV, (xs.all ul) = true → zo s' xs = zo s xs
 | [], _ => rfl
 | x :: xs, h => by
  simp only [List.all_cons, Bool.and_eq_true] at h
  simp only [zo]; rw [aGQ s s' x h.1, aB4 s s' xs h.2]
def um (d : Nat) : Nat → List OB → List (Nat × Option OB)
 | _, [] => []
 | k, ob :: r => (d + 1000 * k, some ob) :: um d (k + 1) r
theorem aAX {d : Nat} : ∀ (r : List OB) (k k' : Nat), k < k' → yN (um d k' r) (d + 1000 * k) = none
 | [], _, _, _ => rfl
 | ob :: r, k, k', h => by
  have hne : d + 1000 * k ≠ d + 1000 * k' := by omega
  simp only [um, yN]
  rw [xY hne]; exact aAX r k (k' + 1) (by omega)
theorem aAW {d : Nat} : ∀ (r : List OB) (k l : Nat) (o : Option OB), yN (um d k r) l = some o → ∃ j ob, l = d + 1000 * j ∧ o = some ob ∧ ob ∈ r ∧ k ≤ j ∧ r[j - k]? = some ob
 | [], _, _, _, h => by simp [um, yN] at h
 | ob :: r, k, l, o, h => by
  simp only [um, yN] at h
  cases e : Nat.beq l (d + 1000 * k) with
  | true =>
   rw [e] at h; simp only [cond_true, Option.some.injEq] at h
   exact ⟨k, ob, Nat.eq_of_beq_eq_true e, h.symm, by simp, Nat.le_refl _, by simp⟩
  | false =>
   rw [e] at h
   obtain ⟨j, ob', h1, h2, h3, h4, h5⟩ := aAW r (k + 1) l o h
   exact ⟨j, ob', h1, h2, List.mem_cons_of_mem _ h3, by omega, by
    have : j - k = (j - (k + 1)) + 1 := by omega
    rw [this, List.getElem?_cons_succ]; exact h5⟩
theorem aC1 {s : St} {d : Nat} : ∀ (r : List OB) (k : Nat), yB s d k r → ∀ j, k ≤ j → j < k + r.length → s.hp (d + 1000 * j) = none
 | [], k, _, j, h1, h2 => by simp at h2; omega
 | ob :: r, k, h, j, h1, h2 => by
  unfold yB at h
  rcases Nat.eq_or_lt_of_le h1 with e | e
  · subst e; exact h.1.1
  · exact aC1 r (k + 1) h.2 j (by omega) (by simp at h2; omega)
theorem aB6 {s s' : St} {d : Nat} : ∀ (r : List OB) (k : Nat), (∀ j, k ≤ j → j < k + r.length → s'.hp (d + 1000 * j) = s.hp (d + 1000 * j)) → yB s d k r → yB s' d k r
 | [], _, _, _ => trivial
 | ob :: r, k, hh, h => by
  unfold yB at h ⊢
  exact ⟨⟨(hh k (Nat.le_refl _) (by simp)).trans h.1.1, h.1.2⟩, aB6 r (k + 1) (fun j h1 h2 => hh j (by omega) (by simp; omega)) h.2⟩
theorem aDZ {d : Nat} : ∀ (r : List OB) (k j : Nat), k ≤ j → j < k + r.length → xq (um d k r) (d + 1000 * j)
 | [], k, j, h1, h2 => by simp at h2; omega
 | ob :: r, k, j, h1, h2 => by
  unfold xq
  simp only [um, yN]
  cases e : Nat.beq (d + 1000 * j) (d + 1000 * k) with
  | true => exact ⟨_, rfl⟩
  | false =>
   have hne : j ≠ k := fun h => by subst h; rw [Nat.beq_refl] at e; cases e
   exact aDZ r (k + 1) j (by omega) (by simp at h2; omega)
theorem aCc {d : Nat} : ∀ (r : List OB) (k : Nat) (s : St), yx d k r s = shp [] (um d k r) s
 | [], k, s => rfl
 | ob :: r, k, s => by
  show yx d (k + 1) r (s.set (d + 1000 * k) (some ob)) = _
  rw [aCc r (k + 1)]
  unfold shp St.set
  congr 1
  · funext j
    simp only [um, yN]
    cases e : Nat.beq j (d + 1000 * k) with
    | true =>
     have := Nat.eq_of_beq_eq_true e
     subst this
     rw [aAX r k (k + 1) (by omega)]; rfl
    | false => rfl
  · funext j
    simp only [um, yN]
    cases e : Nat.beq j (d + 1000 * k) with
    | true =>
     have := Nat.eq_of_beq_eq_true e
     subst this
     rw [aAX r k (k + 1) (by omega)]; rfl
    | false => rfl
section
variable {P : Program} {Θ : Tab} {s : St} {ty : TypeId} {pos : String} {after : Array Edge} {g : Option (Nat × Bool)}
theorem aEx {f : FuncId} {ags : Array Operand} {ts : Array TypeId} {t : Nat} {args : List AV} {out : Out} (hac : AC P f args out) (ha : (ags.toList.map fun x => s.dat (s.ev x)) = args) (hfl : (yF s ags.toList).isEmpty = true) (hw : (ags.toList.map s.ev).all ul = true) (hfr : yB s (t + 1) 0 out.obs) (hok : zo s (ags.toList.map s.ev) = true) (hc : vX ags.toList = true)
 (hv : (ren (t + 1) out.val).within (fun l => (yN (um (t + 1) 0 out.obs) l).isSome) = true) :
 Sft P Θ ⟨some t, .call ⟨.value (.func f), ags, ts⟩, ty, pos, after, g⟩ s (ren (t + 1) out.val) [] (um (t + 1) 0 out.obs) := by
 have hsh := aAl out.obs 0 hfr
 refine ⟨fun s' h1 h2 => ?_, fun l ob h => ?_, fun l hl => (by cases hl), fun l hl => ?_, fun l ⟨o, hl⟩ => ?_, fun l ob ⟨o, hl⟩ ho => ?_⟩
 · have hev : ∀ x ∈ ags.toList, s'.ev x = s.ev x := fun x hx => h1 x (by simp [Op.operands, Call.operands] at hx ⊢; exact .inr hx)
   have hmap : ags.toList.map s'.ev = ags.toList.map s.ev := List.map_congr_left hev
   refine ⟨⟨ren (t + 1) out.val, jC (t + 1) out.obs⟩, aEj hac ?_ (.inl ?_) (aB6 out.obs 0 (fun j h3 h4 => (h2 _ (.inl (aDZ out.obs 0 j h3 h4))).1) hfr) ?_ hc, fun K hK => .done ?_⟩
   · rw [← ha]
     refine List.map_congr_left fun x hx => ?_
     rw [hev x hx]
     exact aAf s s' _ (List.all_eq_true.1 hw _ (List.mem_map_of_mem hx))
   · unfold yF at hfl ⊢; rw [hmap]; exact hfl
   · rw [hmap, aB4 s s' _ hw]; exact hok
   · cases ho : out.obs with
     | nil => rw [ho] at hK; exact hK
     | cons ob r =>
      rw [ho] at hK
      show K ((yx (t + 1) 0 (ob :: r) s').put (some t) (ren (t + 1) out.val))
      rw [aCc]; exact hK
 · obtain ⟨j, ob', _, e, hm, _⟩ := aAW out.obs 0 l _ h
   cases e; exact hsh ob hm
 · have := uZ _ hv hl
   obtain ⟨o, ho⟩ := Option.isSome_iff_exists.1 this
   exact .inl ⟨o, ho⟩
 · obtain ⟨j, ob', e, _⟩ := aAW out.obs 0 l _ hl
   exact .inl ⟨t, rfl, by rw [e]; omega⟩
 · obtain ⟨j, ob', e, _, _, h4, h5⟩ := aAW out.obs 0 l _ hl
   have hj := (List.getElem?_eq_some_iff.1 h5).1
   have := aC1 out.obs 0 hfr j h4 (by omega)
   rw [← e, ho] at this; cases this
end
section
variable {P : Program} {Θ : Tab} {s : St} {ty : TypeId} {pos : String} {after : Array Edge} {g : Option (Nat × Bool)}
end
section
variable {P : Program} {Θ : Tab} {s : St} {ty : TypeId} {pos : String} {after : Array Edge} {g : Option (Nat × Bool)}
end
mutual
theorem aFd {s s' : St} : ∀ x : AV, (∀ l, x.names l = true → s'.hp l = s.hp l) → s'.dat x = s.dat x ∧ xG s' x = xG s x
 | .own l, h => by
  have := h l (by simp [AV.names])
  simp only [St.dat, xG, this, and_self]
 | .optr l i p c, h => by
  have := h l (by simp [AV.names])
  simp only [St.dat, xG, this, and_self]
 | .mix xs, h => by
  obtain ⟨h1, h2⟩ := aEO xs (fun l hl => h l (by simpa [AV.names] using hl))
  simp only [St.dat, xG, h1, h2, and_self]
 | .ifc t x, h => by
  obtain ⟨h1, _⟩ := aFd x (fun l hl => h l (by simpa [AV.names] using hl))
  simp only [St.dat, xG, h1, and_self]
 | .rd x, _ => ⟨rfl, rfl⟩
 | .any, _ => ⟨rfl, rfl⟩
 | .v _, _ => ⟨rfl, rfl⟩
 | .agg _, _ => ⟨rfl, rfl⟩
 | .lst _ _, _ => ⟨rfl, rfl⟩
 | .ptr _, _ => ⟨rfl, rfl⟩
 | .tup _, _ => ⟨rfl, rfl⟩
 | .mapv _, _ => ⟨rfl, rfl⟩
 | .fn _ _ _, _ => ⟨rfl, rfl⟩
theorem aEO {s s' : St} : ∀ xs : List AV, (∀ l, xI l xs = true → s'.hp l = s.hp l) → s'.datL xs = s.datL xs ∧ zX s' xs = zX s xs
 | [], _ => ⟨rfl, rfl⟩
 | x :: xs, h => by
  obtain ⟨h1, h2⟩ := aFd x (fun l hl => h l (by simp [xI, hl]))
  obtain ⟨h3, h4⟩ := aEO xs (fun l hl => h l (by simp [xI, hl]))
  simp only [St.datL, zX, h1, h2, h3, h4, and_self]
end
section
variable {P : Program} {Θ : Tab} {s : St} {ty : TypeId} {pos : String} {after : Array Edge} {g : Option (Nat × Bool)}
theorem aH7 {d k : Nat} {obs : List OB} : ∀ l ∈ (um d k obs).map (·.1), xq (um d k obs) l := by
 induction obs generalizing k with
 | nil => intro l hl; cases hl
 | cons ob r ih =>
  intro l hl
  unfold xq
  simp only [um, List.map_cons, List.mem_cons] at hl
  simp only [um, yN]
  cases e : Nat.beq l (d + 1000 * k) with
  | true => exact ⟨_, rfl⟩
  | false =>
   rcases hl with h | h
   · rw [h, Nat.beq_refl] at e; cases e
   · obtain ⟨o, ho⟩ := ih l h; exact ⟨o, ho⟩
theorem aJE : ∀ m ∈ ([] : List (Nat × Option OB)).map (·.1), xq [] m := fun m hm => by cases hm
end
section
variable {P : Program} {Θ : Tab} {s : St} {ty : TypeId} {pos : String} {after : Array Edge} {g : Option (Nat × Bool)}
theorem aID {o : Oper} {v : AV} (hp : Pre P Θ o s ⟨v, none⟩) (hc : calm Θ true o = true) (hn : ((wD v).all fun l => (tmpsOf o).any fun t => (s.sl t).names l) = true) : Sft P Θ o s v [] [] := by
 refine ⟨fun s' h1 h2 => ⟨⟨v, none⟩, ko (two := true) hc h1 (fun _ l ⟨x, hx, hn⟩ => ?_) hp, fun K hK => .done hK⟩, fun l ob h => by simp [yN] at h, fun l hl => (by cases hl), fun l hl => ?_, fun l hl => (aAO hl).elim, fun l ob hl => (aAO hl).elim⟩
 · cases x with
   | tmp t => exact (h2 l (.inr ⟨t, uE hx, hn⟩)).1
   | global g => simp [St.ev, kC] at hn
   | _ => simp [St.ev, AV.names, xI] at hn
 · have h3 := List.all_eq_true.1 hn l (vO v hl)
   obtain ⟨t, ht, h4⟩ := List.any_eq_true.1 h3
   exact .inr ⟨t, ht, h4⟩
end
section
variable {P : Program} {Θ : Tab} {s : St} {ty : TypeId} {pos : String} {after : Array Edge} {g : Option (Nat × Bool)}
end
def vz (n : Nat) : List UInt8 := if h : n < 10 then [UInt8.ofNat (48 + n)] else vz (n / 10) ++ [UInt8.ofNat (48 + n % 10)]
termination_by n
decreasing_by omega
def zP (n : Nat) : ByteArray := ⟨(vz n).toArray⟩
def zx (n : Int) : ByteArray := if n < 0 then ⟨#[45]⟩ ++ zP (-n).toNat else zP n.toNat
theorem jf {n : Nat} (h : n < 10) : vz n = [UInt8.ofNat (48 + n)] := by rw [vz, dif_pos h]
theorem aAg {n : Nat} (h : ¬ n < 10) : vz n = vz (n / 10) ++ [UInt8.ofNat (48 + n % 10)] := by rw [vz, dif_neg h]
theorem aHV {n : Nat} (h : n < 10) : zP n = ⟨[UInt8.ofNat (48 + n)].toArray⟩ := by unfold zP; rw [jf h]
theorem aKQ {n : Nat} (h : ¬ n < 10) : zP n = zP (n / 10) ++ ⟨[UInt8.ofNat (48 + n % 10)].toArray⟩ := by
 unfold zP; rw [aAg h]
 apply ByteArray.ext
 simp
theorem aBY {n : Nat} (h : n < 256) : (UInt8.ofNat n).toNat = n := by simp; omega
attribute [local irreducible] xD xJ xQ yD yJ Pre ACG
end Go.Proofs.YtodckioppgjbdaaGreatDoor.AM
namespace Go.Proofs.YtodckioppgjbdaaGreatDoor
open Go.RowKit
end Go.Proofs.YtodckioppgjbdaaGreatDoor
namespace Go.Proofs.YtodckioppgjbdaaGreatDoor.AM
open Go Go.RowKit
attribute [local irreducible] xD xJ xQ yD yJ Pre ACG
end Go.Proofs.YtodckioppgjbdaaGreatDoor.AM
namespace Go.Proofs.YtodckioppgjbdaaGreatDoor.AM
open Go Go.RowKit
instance : DecidableEq Rf := fun a b => decidable_of_iff _ aJv.symm
structure Bas.ok (b : Bas) (N : Nat) : Prop where
 sm : b.store.length ≤ N
 sc : aDm N b.store
 rm : b.refs.length ≤ N
 rk : aLO N b.refs
attribute [local irreducible] xD xJ xQ yD yJ Pre ACG
theorem aJ2 {a b : Bas} : a = b ↔ a.store = b.store ∧ a.refs = b.refs := by cases a; cases b; simp
instance : DecidableEq Bas := fun a b => decidable_of_iff _ aJ2.symm
end Go.Proofs.YtodckioppgjbdaaGreatDoor.AM
namespace Go.Proofs.YtodckioppgjbdaaGreatDoor.AM
open Go Go.RowKit
def aLK (l : List Ent) : Prop := ∀ e ∈ l, e.1.size ≤ 12 ∧ -1000000 ≤ e.2 ∧ e.2 ≤ 1000000
structure CmtS (c : Cmt) : Prop where
 pl : c.1.length ≤ 60
 pp : ∀ p ∈ c.1, 0 ≤ p ∧ p ≤ 1000
 ml : c.2.length ≤ 100
 me : aLK c.2
attribute [local irreducible] xD xJ xQ yD yJ Pre ACG
theorem jy {x : ByteArray} (h : okN x = true) : x.size ≤ 12 := by
 unfold okN Nm.nameOK at h
 have e : x.size = x.data.toList.length := by rw [Array.length_toList]; rfl
 rw [e]
 split at h
 · simp at h
 · rename_i c cs hc
   rw [hc]
   simp only [Bool.and_eq_true, decide_eq_true_eq] at h
   simp only [List.length_cons]
   omega
end Go.Proofs.YtodckioppgjbdaaGreatDoor.AM
namespace Go.Proofs.YtodckioppgjbdaaGreatDoor
def kv (es : List Edt) : List Ent := es.map fun e => (e.key, e.val)
theorem wC (es : List Edt) : (kv es).length = es.length := by simp [kv]
theorem aAq (es : List Edt) (k : Nat) (h : k < es.length) : kAt (kv es) k = es[k].key := by simp [kAt, kv, h]
theorem aFn (es : List Edt) (k : Nat) (h : k < es.length) (hn : nm es[k].key = false) : zJ (kv es) k = false := by
 rw [zJ, aAq es k h, hn]; rfl
theorem aD0 (es : List Edt) (h : 0 < es.length) (hn : nm es[0].key = true) : zJ (kv es) 0 = true := by
 rw [zJ, aAq es 0 h, hn]; rfl
theorem aEi (es : List Edt) (k : Nat) (h0 : 0 < k) (h : k < es.length) (hn : nm es[k].key = true) : zJ (kv es) k = klt (es[k - 1]'(by omega)).key es[k].key := by
 rw [zJ, aAq es k h, aAq es (k - 1) (by omega), hn, decide_eq_false (by omega)]; simp
def aKR (e : Edt) : Bool := aBt e.val && (!e.gone || decide (e.val = 0))
def uL (es : List Edt) (i : Nat) : Bool := aKR (es.getD i ⟨ByteArray.empty, 0, false⟩)
theorem aBj (es : List Edt) (k : Nat) (h : k < es.length) : uL es k = (aBt es[k].val && (!es[k].gone || decide (es[k].val = 0))) := by simp [uL, aKR, h]
def aBK (es : List Edt) : Bool := (List.range es.length).all (uL es)
def xO (es : List Edt) : Bool := decide (es.length ≤ 6) && (qA (kv es) && aBK es)
theorem aI4 {es : List Edt} (h : ∀ i, i < es.length → uL es i = true) : aBK es = true := by
 rw [aBK, List.all_eq_true]; intro i hi; exact h i (List.mem_range.1 hi)
theorem aH0 {es : List Edt} {i : Nat} (hi : i < es.length) (h : uL es i = false) : aBK es = false := by
 rw [aBK, List.all_eq_false]; exact ⟨i, List.mem_range.2 hi, by rw [h]; simp⟩
theorem aCK {es : List Edt} (h0 : es.length ≤ 6) (h : ∀ i, i < es.length → zJ (kv es) i = true ∧ uL es i = true) : xO es = true := by
 rw [xO, aFp (fun i hi => (h i (by rw [wC] at hi; exact hi)).1), aI4 fun i hi => (h i hi).2, decide_eq_true h0]; rfl
theorem aA5 {es : List Edt} {i : Nat} (hi : i < es.length) (h : zJ (kv es) i = false) : xO es = false := by
 rw [xO, aBn (by rw [wC]; exact hi) h]; simp
theorem wQ {es : List Edt} {i : Nat} (hi : i < es.length) (h : uL es i = false) : xO es = false := by
 rw [xO, aH0 hi h]; simp
theorem aAh {es : List Edt} (h : 6 < es.length) : xO es = false := by
 rw [xO, decide_eq_false (by omega)]; rfl
theorem aCO (g : Bool) (v : Int) : (g = true ∧ v ≠ 0) ∨ g = false ∨ (g = true ∧ v = 0) := by
 cases g <;> by_cases h : v = 0 <;> simp [h]
end Go.Proofs.YtodckioppgjbdaaGreatDoor
