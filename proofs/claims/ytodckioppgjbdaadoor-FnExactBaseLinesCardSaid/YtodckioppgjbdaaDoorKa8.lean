/- Texts of the machine over data, folded. -/
import Derived.Test.YtodckioppgjbdaaDoorKa7
import Derived.ProofKit
import Derived.OpenShut
import Derived.ShutString
import Derived.LaidMore
import Derived.Lay
import Derived.OpenVars
import Derived.ChangeOld
import Derived.ChangeArms
import Derived.FnData
import Derived.Below
import Derived.Test.YtodckioppgjbdaaDoorKa5
import Derived.Test.YtodckioppgjbdaaDoorKa6
import Derived.Laws.StructEq
set_option linter.unusedVariables false
set_option linter.unusedSimpArgs false
set_option maxRecDepth 100000
namespace Go.Proofs.YtodckioppgjbdaaDoor.AM
open Go.ChangeShapes Go.WideShapes Go.ChangeAt Go.RowKit
section
variable {P : Program} {W : World}
def Lv (P : Program) (w : World) (n : String) (d : DataW Unit) : Prop := ∃ g t cs fuel p, P.globalNamed n = some g ∧ (P.globals[g]?).map (·.type) = some t ∧ w.var? P n = some cs ∧ DataW.trod (fun _ => ()) P w 0 (fun _ => true) false fuel t cs.toList = some (d, p)
theorem aF1 : ∀ {l : List (String × DataW Unit)} {ps : List MemPlace}, DataW.LaidVars P W l ps → ∀ n d, (n, d) ∈ l → Lv P W n d
 | [], _, _, n, d, h => by cases h
 | (m, e) :: r, ps, hl, n, d, h => by
  obtain ⟨g, t, cs, fuel, p, q, h1, h2, h3, h4, h5, _⟩ := hl
  rcases List.mem_cons.1 h with e' | h
  · cases e'; exact ⟨g, t, cs, fuel, p, h1, h2, h3, h4⟩
  · exact aF1 h5 n d h
theorem met_lv {l : List (String × DataW Unit)} (hh : (l.filter fun x => x.2.handleName?.isSome) = []) (h : laidMetH P l W) {n : String} {d : DataW Unit} (hm : (n, d) ∈ l) : Lv P W n d := by
 unfold laidMetH at h
 rw [hh] at h
 obtain ⟨ps, h1, _⟩ := h
 exact aF1 h1 n d hm
theorem aIB {n : String} {g : Nat} {cs : Array Value} (hg : P.globalNamed n = some g) (hv : W.var? P n = some cs) : g < W.heap.size ∧ ∃ t p, W.heap[g]? = some (.cells cs t p) := by
 unfold World.var? at hv
 rw [hg] at hv
 simp only [Option.bind_some] at hv
 cases hh : W.heap[g]? with
 | none => rw [hh] at hv; cases hv
 | some o =>
  rw [hh] at hv
  cases o with
  | cells c t p => simp only [Option.some.injEq] at hv; subst hv; exact ⟨(Array.getElem?_eq_some_iff.1 hh).1, t, p, rfl⟩
  | _ => cases hv
theorem aFU {α : Type} (f : α → Value) : ∀ (l : List α), asz (.agg (l.map fun x => .v (f x))) = l.length
 | [] => rfl
 | x :: l => by
  have := aFU f l
  rw [List.map_cons]
  show 1 + xB _ = _
  have h2 : xB (l.map fun x => .v (f x)) = l.length := this
  rw [h2, List.length_cons]; omega
theorem aH1 {α : Type} {S : Nat → Prop} {w : World} (f : α → Value) (h1 : ∀ x, (f x).oneCell' = true) : ∀ (l : List α), RL S w (l.map fun x => .v (f x)) (l.map f)
 | [] => by simp only [List.map_nil]; unfold RL; rfl
 | x :: l => by
  simp only [List.map_cons]
  unfold RL
  exact ⟨[f x], l.map f, rfl, by unfold RA; exact ⟨rfl, h1 x⟩, aH1 f h1 l⟩
theorem rg_of {α : Type} (f : α → Value) (h1 : ∀ x, (f x).oneCell' = true) {ls : List α} {n : String} {g : Nat} {cs : Array Value} (hg : P.globalNamed n = some g) (hv : W.var? P n = some cs) (hsz : cs.size = ls.length) (hc : ∀ (j : Nat) x, ls[j]? = some x → cs[j]? = some (f x)) : RG (InW W) W g (.agg (ls.map fun x => .v (f x))) := by
 obtain ⟨hlt, t, p, hb⟩ := aIB hg hv
 refine ⟨hlt, fun _ => ?_, cs, t, p, hb, by show cs.size = _; rw [hsz, aFU]⟩
 unfold RA
 refine ⟨g, 0, ls.map f, rfl, hlt, by unfold RA; exact aH1 f h1 ls, fun j u hu => ?_⟩
 rw [List.getElem?_map] at hu
 obtain ⟨x, hx, rfl⟩ := Option.map_eq_some_iff.1 hu
 rw [Nat.zero_add, World.var?_cell hg hv j]
 exact hc j x hx
theorem rg_int {ls : List Int} {k : IntKind} {n : String} {d : DataW Unit} {g te ee m : Nat} (h : Lv P W n d) (hd : d = .agg (ls.map fun s => .lit (.int k s))) (hg : P.globalNamed n = some g) (ht : (P.globals[g]?).map (·.type) = some te)
 (hu : P.underlying te = some (.array m ee)) (he : P.underlying ee = some (.int k)) (hc1 : P.cellsOf ee = 1) (hct : P.cellsOf te = m) (hm : ls.length = m) : RG (InW W) W g (.agg (ls.map fun s => .v (.int k s))) := by
 obtain ⟨g', t', cs, fuel, p, q1, q2, q3, q4⟩ := h
 obtain rfl := Option.some.inj (hg.symm.trans q1)
 obtain rfl := Option.some.inj (ht.symm.trans q2)
 subst hd
 obtain ⟨xs, k', _, ex, hl, hxl, hel⟩ := DataW.trod_array hu q4
 have hsz : cs.size = m := by simpa [hct] using hl
 refine rg_of (Value.int k) (fun _ => rfl) hg q3 (by omega) fun j x hx => ?_
 obtain ⟨hj, rfl⟩ := List.getElem?_eq_some_iff.1 hx
 have hE := hel j (by omega)
 rw [hc1, Nat.mul_one, List.getElem?_eq_getElem (by omega : j < xs.length)] at hE
 obtain ⟨z, e1, e2, _⟩ := DataW.trod_int he hE
 have e3 : (xs.map (·.1)) = ls.map fun s => (DataW.lit (.int k s) : DataW Unit) := by
  have := (Prod.mk.inj ex).1
  exact (DataW.agg.inj this).symm
 have e4 : (xs.map (·.1))[j]? = (ls.map fun s => (DataW.lit (.int k s) : DataW Unit))[j]? := by rw [e3]
 rw [List.getElem?_map, List.getElem?_map, List.getElem?_eq_getElem (by omega : j < xs.length), List.getElem?_eq_getElem hj, e2] at e4
 have hz : z = ls[j] := by
  simp only [Option.map_some, Option.some.injEq, DataW.lit.injEq, Lit.int.injEq] at e4
  exact e4.2
 have h0 : ((cs.toList.drop j).take 1)[0]? = some (.int k z) := by rw [e1]; rfl
 have : cs.toList[j]? = some (.int k z) := by simpa using h0
 rw [← hz]; simpa using this
end
end Go.Proofs.YtodckioppgjbdaaDoor.AM
namespace Go.Proofs.YtodckioppgjbdaaDoor.AM
open Go Go.RowKit
def aHr (b : UInt8) : AV := .v (.int .u8 b.toNat)
theorem aFd {S : Nat → Prop} {w : World} : ∀ {l : List UInt8} {cs : List Value}, RL S w (l.map aHr) cs → cs = l.map fun b => .int .u8 b.toNat
 | [], cs, h => by simp only [List.map_nil] at h; unfold RL at h; exact h
 | x :: l, cs, h => by
  simp only [List.map_cons] at h
  unfold RL at h
  obtain ⟨c1, c2, rfl, h1, h2⟩ := h
  rw [aFd h2]
  unfold aHr RA at h1
  rw [h1.1]; rfl
section
variable {P : Program} {t : TypeId} {x y : Operand} {a b c : Int}
theorem aJ5 (h0 : 0 ≤ a) (hb : 0 < b) (hc : a % b = c) : yj P .rem t x y (.int .i64 a) (.int .i64 b) (.int .i64 c) := fun w => by
 have hb0 : b ≠ 0 := by omega
 have hr : (Op.intDiv .rem .i64 a b).run P w = .ok (.int .i64 (a.tmod b)) w := by simp [Op.intDiv, hb0]
 subst hc
 rw [← Int.tmod_eq_emod_of_nonneg h0]
 simp [eqGuard, binOp, hr]
theorem aJ4 (h0 : 0 ≤ a) (h1 : a ≤ 9223372036854775807) (hb : 1 < b) (hc : a / b = c) : yj P .quo t x y (.int .i64 a) (.int .i64 b) (.int .i64 c) := fun w => by
 have hb0 : b ≠ 0 := by omega
 have hle : a / b ≤ a := Int.ediv_le_self b h0
 have hnn : 0 ≤ a / b := Int.ediv_nonneg h0 (by omega)
 have hw : IntKind.i64.wrap (a.tdiv b) = c := by rw [Int.tdiv_eq_ediv_of_nonneg h0, IntKind.wrap_i64, hc]; omega
 have hr : (Op.intDiv .quo .i64 a b).run P w = .ok (.int .i64 c) w := by simp [Op.intDiv, hb0, hw]
 simp [eqGuard, binOp, hr]
theorem wB {a b : ByteArray} (h : a.size + b.size ≤ 9223372036854775807) : yj P .add t x y (.string a) (.string b) (.string (a ++ b)) := aBh fun w => by
 unfold Op.stringOp
 have : ¬ ((((a.size + b.size : Nat) : Int)) > IntKind.i64.max) := by
  have e : IntKind.i64.max = 9223372036854775807 := by decide
  rw [e]; omega
 simp only [this, if_false]; rfl
end
section
variable {Θ : Tab} {s : St} {d : Option Tmp} {ty : TypeId} {pos : String} {after : Array Edge} {g : Option (Nat × Bool)}
theorem aI4 {x : Operand} {n : Int} {b : UInt8} (hb : n = (b.toNat : Int)) (hx : s.ev x = .v (.int .i64 n)) : Pre Tryd.prog Θ ⟨d, .convert 3 5 x, ty, pos, after, g⟩ s ⟨.v (.int .u8 (b.toNat : Int)), none⟩ :=
 aKc (fun w => by
  have hlt := b.toNat_lt
  subst hb
  have hw : IntKind.u8.wrap (b.toNat : Int) = b.toNat := by rw [IntKind.wrap_u8]; omega
  have h1 : (underlying 5).run Tryd.prog w = .ok (.int .u8) w := run_underlying Tryd.underlying5 w
  have h2 : (underlying 3).run Tryd.prog w = .ok (.int .i64) w := run_underlying Tryd.underlying3 w
  simp [convert, h1, h2, Conv.intToInt, hw]) hx rfl
theorem aHH (l : List UInt8) : strOfNums (l.map fun b => ((b.toNat : Nat) : Int)) = ⟨l.toArray⟩ := by
 unfold strOfNums
 congr 2
 rw [List.map_map]
 have : ((fun n : Int => UInt8.ofNat n.toNat) ∘ fun b : UInt8 => ((b.toNat : Nat) : Int)) = id := by
  funext b; simp
 rw [this, List.map_id]
theorem aCt (l : List UInt8) : aDa Tryd.prog 157 9 (.lst 1 (l.map aHr)) (.string ⟨l.toArray⟩) := by
 intro S w hp B V u h
 unfold RV RA at h
 obtain ⟨A, c, e, h1, h2, _, _, h4⟩ := h
 simp only [List.cons.injEq, and_true, List.length_map] at e h1
 subst e
 rcases h4 with h4 | ⟨b, off, us, rfl, hb, hr, hc⟩
 · have h0 := List.map_eq_nil_iff.1 h4
   subst h0
   cases A with
   | none => exact run_convert_bytes_nil w 157 5 Tryd.underlying157 Tryd.underlying5 _ _ 9 Tryd.underlying9
   | some a =>
    rw [run_convert_bytes_string w 157 9 5 _ _ _ Tryd.underlying157 Tryd.underlying5 Tryd.underlying9, run_bytesToString w a _ c [] (by rfl)]
    rfl
 · have hus := aFd hr
   rw [← aHH]
   refine run_convert_bytes_arg w 157 5 Tryd.underlying157 Tryd.underlying5 b off l.length c (l.map fun b => ((b.toNat : Nat) : Int)) (by simp) (fun i hi => ?_) 9 Tryd.underlying9
   have := hc i (.int .u8 ((l[i]).toNat : Int)) (by rw [hus]; simp [hi])
   rw [this]
   simp [List.getD, hi]
end
abbrev okN (s : ByteArray) : Bool := Nm.nameOK s.data.toList
def vY (r : Rf) : Bool := okN r.name && (decide (1 ≤ r.ver ∧ r.ver ≤ 1000000) && (if r.gone = true then decide (r.head = 0) else decide (1 ≤ r.head ∧ r.head ≤ 60)))
def rAt : List Rf → ByteArray → Nat → Int
 | [], _, _ => -1
 | y :: l, x, k => if y.name = x then k else rAt l x (k + 1)
theorem aE5 {l : List Rf} {x : ByteArray} {k : Nat} (h : k < l.length) : rAt (l.drop k) x k = if l[k].name = x then (k : Int) else rAt (l.drop (k + 1)) x (k + 1) := by
 rw [List.drop_eq_getElem_cons h, rAt]
theorem qi : ∀ (l : List Rf) (x : ByteArray) (k : Nat), (rAt l x k = -1 ∧ ∀ i (h : i < l.length), l[i].name ≠ x) ∨ ∃ j, ∃ h : j < l.length, rAt l x k = ((k + j : Nat) : Int) ∧ l[j].name = x ∧ ∀ i (hi : i < j), (l[i]'(by omega)).name ≠ x
 | [], x, k => .inl ⟨rfl, fun i h => by simp at h⟩
 | y :: l, x, k => by
  unfold rAt
  by_cases e : y.name = x
  · rw [if_pos e]; exact .inr ⟨0, by simp, by simp, e, fun i h => by omega⟩
  · rw [if_neg e]
    rcases qi l x (k + 1) with ⟨h1, h2⟩ | ⟨j, hj, h1, h2, h3⟩
    · refine .inl ⟨h1, fun i h => ?_⟩
      cases i with
      | zero => exact e
      | succ i => exact h2 i (by simpa using h)
    · refine .inr ⟨j + 1, by simpa using hj, by rw [h1]; omega, h2, fun i h => ?_⟩
      cases i with
      | zero => exact e
      | succ i => exact h3 i (by omega)
theorem aE6 {l : List Rf} {i : Nat} (h : i < l.length) : rAt l l[i].name 0 = (i : Int) ↔ rAt (l.take i) l[i].name 0 < 0 := by
 rcases qi (l.take i) l[i].name 0 with ⟨h1, h2⟩ | ⟨j, hj, h1, h2, h3⟩
 · rw [h1]
   refine ⟨fun _ => by omega, fun _ => ?_⟩
   rcases qi l l[i].name 0 with ⟨k1, k2⟩ | ⟨j, hj, k1, k2, k3⟩
   · exact absurd rfl (k2 i h)
   · rw [k1]
     rcases Nat.lt_trichotomy j i with q | q | q
     · exact absurd (by rw [List.getElem_take]; exact k2) (h2 j (by simp; omega))
     · omega
     · exact absurd rfl (k3 i q)
 · rw [h1]
   have hji : j < i := by simp at hj; omega
   refine ⟨fun e => ?_, fun e => by omega⟩
   rcases qi l l[i].name 0 with ⟨k1, k2⟩ | ⟨j', hj', k1, k2, k3⟩
   · omega
   · rw [k1] at e
     have : j' = i := by omega
     subst this
     exact absurd (by rw [← h2, List.getElem_take]) (k3 j hji)
def aB6 (l : List Rf) (i : Nat) : Prop := ∃ h : i < l.length, vY l[i] = true ∧ rAt (l.take i) l[i].name 0 < 0
open Classical in
noncomputable def vS (l : List Rf) : Bool := decide (l.length ≤ 8 ∧ ∀ i, i < l.length → aB6 l i)
theorem qE {l : List Rf} (h : ¬ (l.length ≤ 8 ∧ ∀ i, i < l.length → aB6 l i)) : vS l = false := by unfold vS; simpa using h
theorem aFf {l : List Rf} (h : l.length ≤ 8 ∧ ∀ i, i < l.length → aB6 l i) : vS l = true := by unfold vS; simpa using h
theorem aEa {l : List Rf} (h : vS l = true) : l.length ≤ 8 ∧ ∀ i, i < l.length → aB6 l i := by unfold vS at h; simpa using h
theorem aJn : ∀ vs w, (callFunc 98 vs).run Tryd.prog w = .ok (.enter 98 vs) w := wD Tryd.func98 (by kernel_rfl) (by kernel_rfl)
theorem aIh : ∀ vs w, (callFunc 118 vs).run Tryd.prog w = .ok (.enter 118 vs) w := wD Tryd.func118 (by kernel_rfl) (by kernel_rfl)
theorem uL {s : ByteArray} {b : Bool} (hs : s.size ≤ maxLen) (hb : okN s = b) : AC Tryd.prog 98 [.v (.string s)] ⟨.v (.bool b), []⟩ :=
 hb ▸ ji aJn rfl fun w S0 vs hS hv => by
  obtain ⟨u', rfl, h2⟩ := ql hv
  rw [aGF h2]
  exact (aBG s w hs).mono fun e w' ⟨h1, h2⟩ => ⟨h1, by subst h2; exact Below.refl _ _⟩
theorem uh {s : ByteArray} {b : Bool} (hs : s.size ≤ maxLen) (hb : okN s = b) : AC Tryd.prog 118 [.v (.string s)] ⟨.v (.bool b), []⟩ :=
 hb ▸ ji aIh rfl fun w S0 vs hS hv => by
  obtain ⟨u', rfl, h2⟩ := ql hv
  rw [aGF h2]
  exact (aCD s w hs).mono fun e w' ⟨h1, h2⟩ => ⟨h1, by subst h2; exact Below.refl _ _⟩
attribute [local irreducible] xI xJ xL yF yH Pre ACG
theorem aEy {x : Int} (h : 1 ≤ x) (h' : x ≤ 60) : AC Tryd.prog 161 [.v (.int .i64 x)] ⟨.v (.bool true), []⟩ := by
 refine qrf Tryd.func161 Tryd.ntmps161 Tryd.results161 ?_; conv => whnf
 repeat ((refine qz ?_; conv => whnf))
 exact xA rfl trivial
theorem aEx {x : Int} (h : ¬ (1 ≤ x ∧ x ≤ 60)) : AC Tryd.prog 161 [.v (.int .i64 x)] ⟨.v (.bool false), []⟩ := by
 by_cases h1 : 1 ≤ x
 · refine qrf Tryd.func161 Tryd.ntmps161 Tryd.results161 ?_; conv => whnf
   repeat ((refine qz ?_; conv => whnf))
   exact xA rfl trivial
 · refine qrf Tryd.func161 Tryd.ntmps161 Tryd.results161 ?_; conv => whnf
   repeat ((refine qz ?_; conv => whnf))
   exact xA rfl trivial
theorem aHi {l : List Rf} {x : ByteArray} (hm : l.length ≤ maxLen) : AC Tryd.prog 155 [.lst 4 (l.map xV), .v (.string x)] ⟨.v (.int .i64 (rAt l x 0)), []⟩ := by
 unfold maxLen at hm
 refine qrf Tryd.func155 Tryd.ntmps155 Tryd.results155 ?_; conv => whnf
 refine xX (ι := { k : Nat // k ≤ l.length ∧ rAt (l.drop k) x k = rAt l x 0 }) (fun k => ⟨[(0, .lst 4 (l.map xV)), (1, .v (.string x)), (5, .v (.int .i64 (k.1 : Int)))], []⟩) (fun k => l.length - k.1) ⟨0, Nat.zero_le _, rfl⟩ (by exact qle) ?_
 rintro ⟨k, hk, hd⟩
 dsimp only at hk hd ⊢
 conv => whnf
 by_cases hlt : k < l.length
 · rw [aE5 hlt] at hd
   by_cases he : l[k].name = x
   · rw [if_pos he] at hd
     rw [← hd]
     repeat ((first | refine qz ?_ | refine qp (xk (aC0 he) rfl rfl rfl) ?_); conv => whnf)
     exact xA rfl trivial
   · rw [if_neg he] at hd
     repeat ((first | refine qz ?_ | refine qp (xk (aCZ he) rfl rfl rfl) ?_); conv => whnf)
     exact ⟨⟨k + 1, hlt, hd⟩, by exact qle, by simp; omega⟩
 · rw [← hd, List.drop_eq_nil_of_le (by omega)]
   repeat ((refine qz ?_; conv => whnf))
   exact xA rfl trivial
theorem aCm {r : Rf} {x : ByteArray} {b : Bool} (hb : decide (r.name = x) = b) : AC Tryd.prog 175 [xV r, .ptr (.v (.string x))] ⟨.v (.bool b), []⟩ := by
 by_cases h : r.name = x
 · rw [← hb, decide_eq_true h]
   refine qrf Tryd.func175 Tryd.ntmps175 Tryd.results175 ?_; conv => whnf
   repeat ((first | refine qz ?_ | refine qp (xk (aC0 h) rfl rfl rfl) ?_); conv => whnf)
   exact xA rfl trivial
 · rw [← hb, decide_eq_false h]
   refine qrf Tryd.func175 Tryd.ntmps175 Tryd.results175 ?_; conv => whnf
   repeat ((first | refine qz ?_ | refine qp (xk (aCZ h) rfl rfl rfl) ?_); conv => whnf)
   exact xA rfl trivial
theorem aFA {l : List Rf} {x : ByteArray} (hm : l.length ≤ maxLen) : AC Tryd.prog 174 [.lst 4 (l.map xV), .fn 175 [] [.ptr (.v (.string x))]] ⟨.v (.int .i64 (rAt l x 0)), []⟩ := by
 unfold maxLen at hm
 refine qrf Tryd.func174 Tryd.ntmps174 Tryd.results174 ?_; conv => whnf
 repeat ((refine qz ?_; conv => whnf))
 refine xX (ι := { k : Nat // k ≤ l.length ∧ rAt (l.drop k) x k = rAt l x 0 }) (fun k => ⟨[(0, .lst 4 (l.map xV)), (1, .fn 175 [] [.ptr (.v (.string x))]), (7, .v (.int .i64 (l.length : Int))), (8, .v (.int .i64 (k.1 : Int)))], []⟩) (fun k => l.length - k.1) ⟨0, Nat.zero_le _, rfl⟩ (by exact qle) ?_
 rintro ⟨k, hk, hd⟩
 dsimp only at hk hd ⊢
 conv => whnf
 by_cases hlt : k < l.length
 · rw [aE5 hlt] at hd
   by_cases he : l[k].name = x
   · rw [if_pos he] at hd
     rw [← hd]
     repeat ((first | refine qz ?_ | refine qr (aC9 (aCm (r := l[k]) (decide_eq_true he)) rfl rfl (.inl rfl) trivial rfl rfl) ?_); conv => whnf)
     exact xA rfl trivial
   · rw [if_neg he] at hd
     repeat ((first | refine qz ?_ | refine qr (aC9 (aCm (r := l[k]) (decide_eq_false he)) rfl rfl (.inl rfl) trivial rfl rfl) ?_); conv => whnf)
     exact ⟨⟨k + 1, hlt, hd⟩, by exact qle, by simp; omega⟩
 · rw [← hd, List.drop_eq_nil_of_le (by omega)]
   repeat ((refine qz ?_; conv => whnf))
   exact xA rfl trivial
theorem aD3 {l : List Rf} {x : ByteArray} (hm : l.length ≤ maxLen) : AC Tryd.prog 159 [.lst 4 (l.map xV), .v (.string x)] ⟨.v (.int .i64 (rAt l x 0)), []⟩ := by
 refine qrf Tryd.func159 Tryd.ntmps159 Tryd.results159 ?_; conv => whnf
 repeat ((first | refine qz ?_ | refine qr (aI2 (y := .v _) rfl rfl rfl rfl) ?_); conv => whnf)
 refine qr (aFb [] (aFA hm) rfl rfl trivial rfl rfl trivial rfl rfl rfl (.inr ⟨⟨by simp [xu], aAj⟩, by simp⟩) rfl) ?_
 conv => whnf
 repeat ((refine qz ?_; conv => whnf))
 exact xA rfl trivial
theorem aHZ {r : Rf} (h : okN r.name = false) : vY r = false := by simp only [vY, h, Bool.false_and]
theorem aH0 {r : Rf} (h : ¬ (1 ≤ r.ver ∧ r.ver ≤ 1000000)) : vY r = false := by simp only [vY, decide_eq_false h, Bool.false_and, Bool.and_false]
theorem aHX {r : Rf} (hn : okN r.name = true) (hv : 1 ≤ r.ver ∧ r.ver ≤ 1000000) (hg : r.gone = true) : vY r = decide (r.head = 0) := by simp only [vY, hn, hg, decide_eq_true hv, Bool.true_and, if_true]
theorem aHY {r : Rf} (hn : okN r.name = true) (hv : 1 ≤ r.ver ∧ r.ver ≤ 1000000) (hg : r.gone = false) : vY r = decide (1 ≤ r.head ∧ r.head ≤ 60) := by
 simp only [vY, hn, hg, decide_eq_true hv, Bool.true_and]; rfl
theorem aHl {r : Rf} (hs : r.name.size ≤ maxLen) : AC Tryd.prog 158 [xV r] ⟨.v (.bool (vY r)), []⟩ := by
 cases hn : okN r.name with
 | false =>
  rw [aHZ hn]
  refine qrf Tryd.func158 Tryd.ntmps158 Tryd.results158 ?_; conv => whnf
  repeat ((first | refine qz ?_ | refine qc (uh hs hn) ?_); conv => whnf)
  exact xA rfl trivial
 | true =>
  by_cases hv : 1 ≤ r.ver ∧ r.ver ≤ 1000000
  case neg =>
   rw [aH0 hv]
   by_cases h1 : 1 ≤ r.ver
   · have h2 : ¬ r.ver ≤ 1000000 := fun e => hv ⟨h1, e⟩
     refine qrf Tryd.func158 Tryd.ntmps158 Tryd.results158 ?_; conv => whnf
     repeat ((first | refine qz ?_ | refine qc (uh hs hn) ?_); conv => whnf)
     exact xA rfl trivial
   · refine qrf Tryd.func158 Tryd.ntmps158 Tryd.results158 ?_; conv => whnf
     repeat ((first | refine qz ?_ | refine qc (uh hs hn) ?_); conv => whnf)
     exact xA rfl trivial
  obtain ⟨v1, v2⟩ := id hv
  cases hg : r.gone with
  | true =>
   rw [aHX hn hv hg]
   by_cases h0 : r.head = 0
   · rw [decide_eq_true h0]
     refine qrf Tryd.func158 Tryd.ntmps158 Tryd.results158 ?_; conv => whnf
     repeat (first | (refine qz ?_; conv => whnf) | (refine qc (uh hs hn) ?_; conv => whnf) | (rw [hg]; conv => whnf))
     exact xA rfl trivial
   · rw [decide_eq_false h0]
     refine qrf Tryd.func158 Tryd.ntmps158 Tryd.results158 ?_; conv => whnf
     repeat (first | (refine qz ?_; conv => whnf) | (refine qc (uh hs hn) ?_; conv => whnf) | (rw [hg]; conv => whnf))
     exact xA rfl trivial
  | false =>
   rw [aHY hn hv hg]
   by_cases h0 : 1 ≤ r.head ∧ r.head ≤ 60
   · rw [decide_eq_true h0]
     refine qrf Tryd.func158 Tryd.ntmps158 Tryd.results158 ?_; conv => whnf
     repeat (first | (refine qz ?_; conv => whnf) | (refine qc (uh hs hn) ?_; conv => whnf) | (rw [hg]; conv => whnf) | (refine qc (aEy h0.1 h0.2) ?_; conv => whnf))
     exact xA rfl trivial
   · rw [decide_eq_false h0]
     refine qrf Tryd.func158 Tryd.ntmps158 Tryd.results158 ?_; conv => whnf
     repeat (first | (refine qz ?_; conv => whnf) | (refine qc (uh hs hn) ?_; conv => whnf) | (rw [hg]; conv => whnf) | (refine qc (aEx h0) ?_; conv => whnf))
     exact xA rfl trivial
theorem aFy {l : List Rf} (hm : l.length ≤ maxLen) (hk : ∀ e ∈ l, e.name.size ≤ maxLen) : AC Tryd.prog 131 [.lst 4 (l.map xV)] ⟨.v (.bool (vS l)), []⟩ := by
 have hm' := hm
 unfold maxLen at hm'
 by_cases hin : l.length ≤ 8
 case neg =>
  rw [qE (fun h => hin h.1)]
  refine qrf Tryd.func131 Tryd.ntmps131 Tryd.results131 ?_; conv => whnf
  repeat ((refine qz ?_; conv => whnf))
  exact xA rfl trivial
 refine qrf Tryd.func131 Tryd.ntmps131 Tryd.results131 ?_; conv => whnf
 repeat ((refine qz ?_; conv => whnf))
 refine xX (ι := { k : Nat // k ≤ l.length ∧ ∀ i, i < k → aB6 l i }) (fun k => ⟨[(0, .lst 4 (l.map xV)), (8, .lst 4 (l.map xV)), (9, .v (.int .i64 (l.length : Int))), (10, .v (.int .i64 (k.1 : Int)))], []⟩) (fun k => l.length - k.1) ⟨0, Nat.zero_le _, fun i h => by omega⟩ (by exact qle) ?_
 rintro ⟨k, hk', hd⟩
 dsimp only at hk' hd ⊢
 conv => whnf
 by_cases hlt : k < l.length
 case neg =>
  rw [aFf ⟨hin, fun i hi => hd i (by omega)⟩]
  repeat ((refine qz ?_; conv => whnf))
  exact xA rfl trivial
 have hsz := hk _ (List.getElem_mem hlt)
 have hac := aHl hsz
 have hpl := aD3 (l := l.take k) (x := l[k].name) (by unfold maxLen; simp; omega)
 cases hb : vY l[k] with
 | false =>
  rw [hb] at hac
  rw [qE (fun h => by obtain ⟨_, q, _⟩ := h.2 k hlt; rw [hb] at q; cases q)]
  repeat ((first | refine qz ?_ | refine qc (hac) ?_ | refine qst ?_ | refine qdr ?_); conv => whnf)
  exact xA rfl trivial
 | true =>
  rw [hb] at hac
  by_cases hp : rAt (l.take k) l[k].name 0 < 0
  · repeat ((first | refine qz ?_ | refine qc (hac) ?_ | refine qst ?_ | refine qdr ?_ | refine qp (qA (h := k) (xs := l) (f := xV) (by omega) rfl rfl rfl) ?_ | refine qc (hpl) ?_); conv => whnf)
    exact ⟨⟨k + 1, hlt, fun i hi => by
     rcases Nat.lt_or_ge i k with h | h
     · exact hd i h
     · have : i = k := by omega
       subst this; exact ⟨hlt, hb, hp⟩⟩, by exact qle, by simp; omega⟩
  · rw [qE (fun h => by obtain ⟨_, _, q⟩ := h.2 k hlt; exact hp q)]
    repeat ((first | refine qz ?_ | refine qc (hac) ?_ | refine qst ?_ | refine qdr ?_ | refine qp (qA (h := k) (xs := l) (f := xV) (by omega) rfl rfl rfl) ?_ | refine qc (hpl) ?_); conv => whnf)
    exact xA rfl trivial
set_option maxHeartbeats 4000000 in
theorem aHj {l : List Rf} (hm : l.length ≤ maxLen) (hk : ∀ e ∈ l, e.name.size ≤ maxLen) : AC Tryd.prog 127 [.lst 4 (l.map xV)] ⟨.v (.bool (vS l)), []⟩ := by
 have hm' := hm
 unfold maxLen at hm'
 by_cases hin : l.length ≤ 8
 case neg =>
  rw [qE (fun h => hin h.1)]
  refine qrf Tryd.func127 Tryd.ntmps127 Tryd.results127 ?_; conv => whnf
  repeat ((refine qz ?_; conv => whnf))
  exact xA rfl trivial
 refine qrf Tryd.func127 Tryd.ntmps127 Tryd.results127 ?_; conv => whnf
 repeat ((refine qz ?_; conv => whnf))
 refine aGn (fun k : { k : Nat // k ≤ l.length ∧ ∀ i, i < k → aB6 l i } => ⟨[(0, .lst 4 (l.map xV)), (3, .v (.int .i64 (k.1 : Int)))], [], []⟩) (fun k => l.length - k.1) ⟨0, Nat.zero_le _, fun i h => by omega⟩ ⟨by exact qle, trivial⟩ ?_
 rintro ⟨k, hk', hd⟩
 dsimp only at hk' hd ⊢
 by_cases hlt : k < l.length
 case neg =>
  rw [aFf ⟨hin, fun i hi => hd i (by omega)⟩]
  refine zD _ _ _ ?_
  conv => whnf
  repeat (first | (refine qz ?_; conv => whnf))
  exact xA rfl trivial
 have hsz := hk _ (List.getElem_mem hlt)
 have hpl := aHi (l := l) (x := l[k].name) hm
 have bad : (vY l[k] = true → ¬ rAt (l.take k) l[k].name 0 < 0) → vS l = false := fun q => qE (fun h => by obtain ⟨_, q1, q2⟩ := h.2 k hlt; exact q q1 q2)
 have nxt : vY l[k] = true → rAt (l.take k) l[k].name 0 < 0 → ∀ i, i < k + 1 → aB6 l i := fun q1 q2 i hi => by
  rcases Nat.lt_or_ge i k with h | h
  · exact hd i h
  · have : i = k := by omega
    subst this; exact ⟨hlt, q1, q2⟩
 refine aIW ?_
 refine zD _ _ _ ?_
 conv => whnf
 repeat (first | (refine qz ?_; conv => whnf))
 refine aIW (aIe ?_)
 obtain ⟨g, hgg⟩ : ∃ g, g = l[k].gone := ⟨_, rfl⟩
 have hik : (l.map xV)[k]? = some (.agg [.v (.string l[k].name), .v (.int .i64 l[k].head), .v (.int .i64 l[k].ver), .v (.bool g)]) := by rw [List.getElem?_map, List.getElem?_eq_getElem hlt, hgg]; rfl
 refine aKY (ι := Unit) (fun _ => ⟨[(0, .lst 4 (l.map xV)), (3, .v (.int .i64 (k : Int))), (4, .optr 5 0 [] 0)], [(5, ⟨.s 125, 4, [.agg [.v (.string l[k].name), .v (.int .i64 l[k].head), .v (.int .i64 l[k].ver), .v (.bool g)]]⟩)], []⟩) ?_ (fun _ => ?_)
 · refine zD _ _ _ ?_
   conv => whnf
   repeat ((first | refine qp (aDf hik rfl rfl rfl) ?_ | refine qst ?_ | refine qz ?_); conv => whnf)
   exact ⟨(), ⟨by exact qle, trivial⟩⟩
 refine zD _ _ _ ?_
 conv => whnf
 cases hw : okN l[k].name with
 | false =>
  rw [bad (fun q => by rw [aHZ hw] at q; cases q)]
  as_aux_lemma =>
   repeat ((first | refine qc (uL hsz hw) ?_ | refine qz ?_); conv => whnf)
   exact xA rfl trivial
 | true =>
  by_cases hv : 1 ≤ l[k].ver ∧ l[k].ver ≤ 1000000
  case neg =>
   rw [bad (fun q => by rw [aH0 hv] at q; cases q)]
   as_aux_lemma =>
    repeat ((first | refine qc (uL hsz hw) ?_ | refine qc (aAc hv) ?_ | refine qz ?_); conv => whnf)
    exact xA rfl trivial
  by_cases hp : rAt l l[k].name 0 = (k : Int)
  case neg =>
   rw [bad (fun _ q => hp ((aE6 hlt).2 q))]
   as_aux_lemma =>
    repeat ((first | refine qc (uL hsz hw) ?_ | refine qc (uV hv.1 hv.2) ?_ | refine qc (hpl) ?_ | refine qz ?_); conv => whnf)
    exact xA rfl trivial
  have hp' := (aE6 hlt).1 hp
  cases g with
  | true =>
   have hb := aHX hw hv hgg.symm
   by_cases h0 : l[k].head = 0
   · rw [decide_eq_true h0] at hb
     as_aux_lemma =>
      repeat ((first | refine qc (uL hsz hw) ?_ | refine qc (uV hv.1 hv.2) ?_ | refine qc (hpl) ?_ | refine qz ?_); conv => whnf)
      refine zD _ _ _ ?_
      conv => whnf
      repeat ((first | refine qp (xk (aAe (c := ((k + 1 : Nat) : Int)) (by omega) (by omega) (by omega)) rfl rfl rfl) ?_ | refine qz ?_); conv => whnf)
      exact ⟨⟨k + 1, hlt, nxt hb hp'⟩, ⟨by exact qle, trivial⟩, by simp; omega⟩
   · rw [decide_eq_false h0] at hb
     rw [bad (fun q => by rw [hb] at q; cases q)]
     as_aux_lemma =>
      repeat ((first | refine qc (uL hsz hw) ?_ | refine qc (uV hv.1 hv.2) ?_ | refine qc (hpl) ?_ | refine qz ?_); conv => whnf)
      exact xA rfl trivial
  | false =>
   have hb := aHY hw hv hgg.symm
   by_cases h0 : 1 ≤ l[k].head ∧ l[k].head ≤ 60
   · rw [decide_eq_true h0] at hb
     as_aux_lemma =>
      repeat ((first | refine qc (uL hsz hw) ?_ | refine qc (uV hv.1 hv.2) ?_ | refine qc (hpl) ?_ | refine qc (uV h0.1 h0.2) ?_ | refine qz ?_); conv => whnf)
      refine zD _ _ _ ?_
      conv => whnf
      repeat ((first | refine qp (xk (aAe (c := ((k + 1 : Nat) : Int)) (by omega) (by omega) (by omega)) rfl rfl rfl) ?_ | refine qz ?_); conv => whnf)
      exact ⟨⟨k + 1, hlt, nxt hb hp'⟩, ⟨by exact qle, trivial⟩, by simp; omega⟩
   · rw [decide_eq_false h0] at hb
     rw [bad (fun q => by rw [hb] at q; cases q)]
     as_aux_lemma =>
      repeat ((first | refine qc (uL hsz hw) ?_ | refine qc (uV hv.1 hv.2) ?_ | refine qc (hpl) ?_ | refine qc (aAc h0) ?_ | refine qz ?_); conv => whnf)
      exact xA rfl trivial
end Go.Proofs.YtodckioppgjbdaaDoor.AM
namespace Go.Proofs.YtodckioppgjbdaaDoor.AM
open Go Go.RowKit
def aKv (N : Nat) (l : List Rf) : Prop := ∀ e ∈ l, e.name.size ≤ N
attribute [local irreducible] xI xJ xL yF yH Pre ACG
end Go.Proofs.YtodckioppgjbdaaDoor.AM
namespace Go.Proofs.YtodckioppgjbdaaDoor.AM
open Go Go.RowKit
def jV (k : Int) : Rf := ⟨zn k, k + 1, k + 1 + 1, decide ((k + 1 + 1 + 1) % 3 = 0)⟩
def yt : Nat → Int → List Rf
 | 0, _ => []
 | n + 1, k => jV k :: yt n (k + 4)
theorem vI : ∀ (n : Nat) (k : Int), (yt n k).length = n
 | 0, _ => rfl
 | n + 1, k => by simp [yt, vI n (k + 4)]
theorem aAT : ∀ (n : Nat) (k : Int), yt (n + 1) k = yt n k ++ [jV (k + 4 * n)]
 | 0, k => by simp [yt]
 | n + 1, k => by
  rw [yt, aAT n (k + 4), yt]
  have e : k + 4 + 4 * (n : Int) = k + 4 * ((n + 1 : Nat) : Int) := by omega
  rw [e]; rfl
theorem aCy {α : Type} (l : List α) (k : Nat) (a b c d : α) : (((l.set k a).set k b).set k c).set k d = l.set k d := by simp [List.set_set]
attribute [local irreducible] xI xJ xL yF yH Pre ACG
set_option maxHeartbeats 2000000 in
theorem aFC {l : List Rf} {k0 : Int} (hm : l.length ≤ 1048600) (h0 : 0 ≤ k0) (h1 : k0 ≤ 8388608) : ACM Tryd.prog 87 ⟨125, 4, l.map xV⟩ ((yt l.length k0).map xV) [.v (.int .i64 k0)] (.int .i64 (k0 + 4 * l.length)) := by
 refine aI5 qJ (by kernel_rfl) Tryd.func87 rfl Tryd.ntmps87 Tryd.results87 (by kernel_rfl) rfl ?_ ?_
 · exact yL qP _
 conv => whnf
 refine xX (ι := { k : Nat // k ≤ l.length }) (fun k => ⟨[(0, .own 0), (1, .v (.int .i64 (k0 + 4 * (k.1 : Int)))), (5, .v (.int .i64 (k.1 : Int)))], [(0, ⟨125, 4, (yt k.1 k0 ++ l.drop k.1).map xV⟩)]⟩) (fun k => l.length - k.1) ⟨0, Nat.zero_le _⟩ (by
  refine ⟨⟨rfl, trivial⟩, .inl ⟨rfl, rfl⟩, .inl ⟨?_, rfl⟩, .inl ⟨rfl, rfl⟩, trivial⟩
  show AV.v (.int .i64 k0) = _
  simp) ?_
 rintro ⟨k, hk⟩
 dsimp only
 have hml : (yt k k0 ++ l.drop k).length = l.length := by simp [vI]; omega
 conv => whnf
 by_cases hlt : k < l.length
 · have hlt' : k < (yt k k0 ++ l.drop k).length := by omega
   have hset : (yt k k0 ++ l.drop k).set k (jV (k0 + 4 * k)) = yt (k + 1) k0 ++ l.drop (k + 1) := by
    rw [List.set_append_right _ _ (by rw [vI]; exact Nat.le_refl _), vI, Nat.sub_self, List.drop_eq_getElem_cons hlt, List.set_cons_zero, aAT, List.append_assoc]; rfl
   have hset' : ((yt k k0 ++ l.drop k).map xV).set k (xV (jV (k0 + 4 * k))) = (yt (k + 1) k0 ++ l.drop (k + 1)).map xV := by rw [← List.map_set, hset]
   generalize hX : yt k k0 ++ l.drop k = X at *
   have hX0 : k < (X.map xV).length := by simpa using hlt'
   by_cases hz : (k0 + 4 * (k : Int) + 1 + 1 + 1) % 3 = 0
   · have hdz : decide ((k0 + 4 * (k : Int) + 1 + 1 + 1) % 3 = 0) = true := decide_eq_true hz
     repeat ((first | refine qz ?_ | refine qdr ?_ | refine qc (vO (k := k0 + 4 * (k : Int)) (by omega) (by omega)) ?_ | refine qp (xk (aIV (by omega) (by omega) (by omega) (by omega) rfl) rfl rfl rfl) ?_ | refine qp (uT (by simpa using hlt') rfl rfl rfl rfl rfl) ?_ | refine qr (yh (wO _ hlt') rfl rfl rfl rfl rfl rfl) ?_ | refine qr (yh (aCM (by simpa using hlt')) rfl rfl rfl rfl rfl rfl) ?_); conv => whnf)
     refine ⟨⟨k + 1, hlt⟩, ⟨⟨?_, trivial⟩, .inl ⟨rfl, rfl⟩, .inl ⟨?_, rfl⟩, .inl ⟨rfl, rfl⟩, trivial⟩, by simp; omega⟩
     · refine congrArg (fun x => some (OB.mk _ _ x)) (Eq.trans (aCy _ _ _ _ _ _) (Eq.trans ?_ hset'))
       show _ = List.set _ k (xV (jV (k0 + 4 * k)))
       unfold jV; rw [hdz]; rfl
     · show AV.v (.int .i64 (k0 + 4 * k + 1 + 1 + 1 + 1)) = _
       congr 2
       simp; omega
   · have hdz : decide ((k0 + 4 * (k : Int) + 1 + 1 + 1) % 3 = 0) = false := decide_eq_false hz
     repeat ((first | refine qz ?_ | refine qdr ?_ | refine qc (vO (k := k0 + 4 * (k : Int)) (by omega) (by omega)) ?_ | refine qp (xk (aIV (by omega) (by omega) (by omega) (by omega) rfl) rfl rfl rfl) ?_ | refine qp (uT (by simpa using hlt') rfl rfl rfl rfl rfl) ?_ | refine qr (yh (wO _ hlt') rfl rfl rfl rfl rfl rfl) ?_ | refine qr (yh (aCM (by simpa using hlt')) rfl rfl rfl rfl rfl rfl) ?_); conv => whnf)
     refine ⟨⟨k + 1, hlt⟩, ⟨⟨?_, trivial⟩, .inl ⟨rfl, rfl⟩, .inl ⟨?_, rfl⟩, .inl ⟨rfl, rfl⟩, trivial⟩, by simp; omega⟩
     · refine congrArg (fun x => some (OB.mk _ _ x)) (Eq.trans (aCy _ _ _ _ _ _) (Eq.trans ?_ hset'))
       show _ = List.set _ k (xV (jV (k0 + 4 * k)))
       unfold jV; rw [hdz]; rfl
     · show AV.v (.int .i64 (k0 + 4 * k + 1 + 1 + 1 + 1)) = _
       congr 2
       simp; omega
 · have hkk : k = l.length := by omega
   subst hkk
   repeat (first | (refine qz ?_; conv => whnf) | (refine qdr ?_; conv => whnf) | (rw [hml]))
   exact aA5 rfl (by show some (OB.mk _ _ _) = _; simp)
end Go.Proofs.YtodckioppgjbdaaDoor.AM
namespace Go.Proofs.YtodckioppgjbdaaDoor.AM
open Go Go.RowKit
section
variable {Θ : Tab} {s : St} {d : Option Tmp} {ty : TypeId} {pos : String} {after : Array Edge} {g : Option (Nat × Bool)}
theorem aKg {x : Operand} {a c : Int} (h : c = -a) (hl : -9223372036854775808 ≤ c) (hu : c ≤ 9223372036854775807) {t : TypeId} (hx : s.ev x = .v (.int .i64 a)) : Pre Tryd.prog Θ ⟨d, .unOp .neg t x, ty, pos, after, g⟩ s ⟨.v (.int .i64 c), none⟩ := by
 refine ⟨_, _, by rw [hx]; rfl, fun w => ?_, rfl, rfl⟩
 subst h
 have hw : IntKind.i64.wrap (-a) = -a := by rw [IntKind.wrap_i64]; omega
 simp [Op.unary, Op.intArith, hw]
end
attribute [local irreducible] xI xJ xL yF yH Pre ACG
end Go.Proofs.YtodckioppgjbdaaDoor.AM
namespace Go.Proofs.YtodckioppgjbdaaDoor.AM
open Go Go.RowKit
section
variable {Θ : Tab} {ops : Array Oper} {k : Nat} {s : St}
end
section
variable {P : Program} {Θ : Tab} {s : St} {ty : TypeId} {pos : String} {after : Array Edge} {g : Option (Nat × Bool)}
theorem aKB {d : Nat} {t : TypeId} {x : Operand} {el sz b : Nat} {z y : AV} (hf : s.hp (d + 1) = none) (ht : Θ.look t = .slice el sz b z) (hx : s.ev x = y) (hk : (match y with | .v c => c.oneCell' | .agg _ => true | .lst _ _ => true | .ptr _ => true | _ => false) = true) (hz : Nat.beq (asz y) (asz z) = true) (hsz : Nat.ble sz 65536 = true) (hok : okL (d + 1) = true := by rfl) :
 Pre P Θ ⟨some d, .buildSlice t 1 #[(0, x)], ty, pos, after, g⟩ s ⟨.own (d + 1), some fun s' => s'.set (d + 1) (some ⟨.s el, sz, [y]⟩)⟩ := by
 have hd : s.dat (s.ev x) = y := by rw [hx]; cases y <;> first | rfl | cases hk
 have ho : yD (s.ev x) = [] := by rw [hx]; cases y <;> first | rfl | cases hk
 have hda : xE s (s.ev x) = true := by rw [hx]; cases y <;> first | exact hk | rfl | cases hk
 refine ⟨d, el, sz, b, z, rfl, hf, hok, ht, by rw [Nat.one_mul]; exact Nat.le_of_ble_eq_true hsz, .inl ⟨⟨⟨z, rfl, by rw [hd]; exact Nat.eq_of_beq_eq_true hz⟩, hda, trivial⟩, fun y' hy c e => ?_, ?_, ?_⟩⟩
 · simp at hy
   subst hy; subst e
   simp only [St.ev] at hx; subst hx; exact hk
 · simp [xS, xQ, ho]
 · have h1 : xS s (([(0, x)] : List (Nat × Operand)).map (·.2)) = [] := by simp [xS, xQ, ho]
   show _ = Eff.mk _ (wN (xS s (([(0, x)] : List (Nat × Operand)).map (·.2))) _)
   rw [h1]
   show _ = Eff.mk _ (some _)
   congr 2
   funext s'
   show s'.set (d + 1) (some ⟨.s el, sz, [y]⟩) = s'.set (d + 1) (some ⟨.s el, sz, [s.dat (s.ev x)]⟩)
   rw [hd]
end
def aKi (ops : Array Oper) : Bool :=
 (List.range ops.size).all fun j => match ops[j]? with
  | some o => (tmpsOf o).all fun t => (List.range ops.size).all fun j' => match (ops[j']?).bind (·.dst) with
   | some t' => !(Nat.beq t' t) || (!(Nat.beq j' j) && (((Region.before ops).getD j 0).testBit j' || jF ops j'))
   | none => true
  | none => true
theorem aB4 {ops : Array Oper} (h : aKi ops = true) : jK ops := by
 intro j o ho t ht j' o' ho' hd
 have h1 := List.all_eq_true.1 h j (List.mem_range.2 (Array.getElem?_eq_some_iff.1 ho).1)
 simp only [ho] at h1
 have h2 := List.all_eq_true.1 (List.all_eq_true.1 h1 t ht) j' (List.mem_range.2 (Array.getElem?_eq_some_iff.1 ho').1)
 simp only [ho', Option.bind_some, hd, Nat.beq_refl, Bool.not_true, Bool.false_or, Bool.and_eq_true, Bool.not_eq_true', Bool.or_eq_true] at h2
 exact ⟨fun e => by rw [e] at h2; simp at h2, h2.2⟩
mutual
def vM : AV → List Nat
 | .own l => [l]
 | .optr l _ _ _ => [l]
 | .mapv l => [l]
 | .tup xs => qW xs
 | .mix xs => qW xs
 | .fn _ xs ys => qW xs ++ qW ys
 | .ifc _ x => vM x
 | _ => []
def qW : List AV → List Nat
 | [] => []
 | x :: xs => vM x ++ qW xs
end
mutual
theorem vJ {l : Nat} : ∀ x : AV, x.names l = true → l ∈ vM x
 | .own l', h => by simp only [AV.names] at h; simp [vM, Nat.eq_of_beq_eq_true h]
 | .optr l' _ _ _, h => by simp only [AV.names] at h; simp [vM, Nat.eq_of_beq_eq_true h]
 | .mapv l', h => by simp only [AV.names] at h; simp [vM, Nat.eq_of_beq_eq_true h]
 | .tup xs, h => by simp only [AV.names] at h; unfold vM; exact vP xs h
 | .mix xs, h => by simp only [AV.names] at h; unfold vM; exact vP xs h
 | .fn _ xs ys, h => by
  simp only [AV.names, Bool.or_eq_true] at h; unfold vM
  exact List.mem_append.2 (h.imp (vP xs) (vP ys))
 | .ifc _ x, h => by simp only [AV.names] at h; unfold vM; exact vJ x h
 | .any, h => by simp [AV.names] at h
 | .v _, h => by simp [AV.names] at h
 | .agg _, h => by simp [AV.names] at h
 | .lst _ _, h => by simp [AV.names] at h
 | .ptr _, h => by simp [AV.names] at h
 | .rd _, h => by simp [AV.names] at h
theorem vP {l : Nat} : ∀ xs : List AV, xD l xs = true → l ∈ qW xs
 | [], h => by simp [xD] at h
 | x :: xs, h => by
  simp only [xD, Bool.or_eq_true] at h; unfold qW
  exact List.mem_append.2 (h.imp (vJ x) (vP xs))
end
theorem qU {l : Nat} : ∀ {nu : List (Nat × Option OB)}, xW nu l → l ∈ nu.map (·.1)
 | [], ⟨o, h⟩ => by simp [xh] at h
 | (m, ob) :: r, ⟨o, h⟩ => by
  simp only [xh] at h
  cases e : Nat.beq l m with
  | true => simp [Nat.eq_of_beq_eq_true e]
  | false => rw [e] at h; exact List.mem_cons_of_mem _ (qU ⟨o, h⟩)
def aDc (ops : Array Oper) (k : Nat) (t : Tmp) : Bool := (List.range ops.size).any fun j' => match (ops[j']?).bind (·.dst) with
 | some t' => Nat.beq t' t && (!(Nat.blt j' k) && !(jF ops j'))
 | none => false
theorem aBZ {ops : Array Oper} {k : Nat} {t : Tmp} (h : aDc ops k t = true) (hf : zX ops (fun j => Nat.blt j k) t) : False := by
 obtain ⟨j', hj', h3⟩ := List.any_eq_true.1 h
 cases ho' : ops[j']? with
 | none => rw [ho'] at h3; cases h3
 | some o' =>
  rw [ho'] at h3
  cases hd : o'.dst with
  | none => simp only [Option.bind_some, hd] at h3; cases h3
  | some t' =>
   simp only [Option.bind_some, hd, Bool.and_eq_true, Bool.not_eq_true'] at h3
   have : t' = t := Nat.eq_of_beq_eq_true h3.1
   subst this
   rcases hf j' o' ho' hd with h4 | h4
   · simp only at h4
     rw [h4] at h3; simp at h3
   · rw [h4] at h3; simp at h3
def aIX (ops : Array Oper) (k : Nat) (s : St) (ks ls : List Nat) : Bool :=
 (List.range ops.size).all fun j => Nat.beq j k || (zk ops j k || (match ops[j]? with
  | some o => ((tmpsOf o).all fun t => ((List.range ops.size).any fun j' => match (ops[j']?).bind (·.dst) with
   | some t' => Nat.beq t' t && (!(Nat.blt j' k) && !(jF ops j'))
   | none => false) || ls.all fun l => !((s.sl t).names l)) || (ks.isEmpty && wvB ops k o)
  | none => true))
theorem aHs {ops : Array Oper} {k : Nat} {s : St} {ks ls : List Nat} (h : aIX ops k s ks ls = true) : ∀ j o, ops[j]? = some o → j ≠ k → zk ops j k = false → (ks = [] ∧ wvB ops k o = true) ∨ ∀ t, t ∈ tmpsOf o → (∀ j' o', ops[j']? = some o' → o'.dst = some t → Nat.blt j' k = true ∨ jF ops j' = true) → ∀ l ∈ ls, (s.sl t).names l = false := by
 intro j o hj hne hor
 have h1 := List.all_eq_true.1 h j (List.mem_range.2 (Array.getElem?_eq_some_iff.1 hj).1)
 simp only [xU hne, hor, Bool.false_or, hj] at h1
 rcases (Bool.or_eq_true _ _).mp h1 with h1 | h1
 case inr =>
  rw [Bool.and_eq_true] at h1
  exact .inl ⟨List.isEmpty_iff.1 h1.1, h1.2⟩
 refine .inr fun t ht hL l hl => ?_
 have h2 := List.all_eq_true.1 h1 t ht
 rw [Bool.or_eq_true] at h2
 rcases h2 with h2 | h2
 · obtain ⟨j', hj', h3⟩ := List.any_eq_true.1 h2
   cases ho' : ops[j']? with
   | none => rw [ho'] at h3; cases h3
   | some o' =>
    rw [ho'] at h3
    cases hd : o'.dst with
    | none => simp only [Option.bind_some, hd] at h3; cases h3
    | some t' =>
     simp only [Option.bind_some, hd, Bool.and_eq_true, Bool.not_eq_true'] at h3
     have : t' = t := Nat.eq_of_beq_eq_true h3.1
     subst this
     rcases hL j' o' ho' hd with h4 | h4 <;> rw [h4] at h3 <;> simp at h3
 · have := List.all_eq_true.1 h2 l hl
   simpa using this
def evB (ops : Array Oper) (k : Nat) (s : St) (o : Oper) (ks ls : List Nat) : Bool :=
 (aIX ops k s ks ls && (((ls.isEmpty || (List.range ops.size).all fun j => Nat.beq j k || (zk ops j k || (match ops[j]? with
  | some o' => (tmpsOf o').all fun t => aDc ops k t || (vM (s.sl t)).all fun l0 => match s.hp l0 with | some ob => ls.all fun l => !(yK l ob.e) | none => true
  | none => true))) && (ks.isEmpty || (List.range ops.size).all fun j => match ops[j]? with
  | some o' => (tmpsOf o').all fun t => aDc ops k t || (vM (s.sl t)).all fun l => match s.hp l with | some ob => ob.e.shut | none => true
  | none => true)) && ((!(aEl o) || (List.range ops.size).all fun j => Nat.beq j k || (zk ops j k || (match ops[j]? with
  | some o' => aC7 o'
  | none => true))) && (!(aC7 o) || ks.isEmpty)))) &&
 ((ks.isEmpty || (List.range ops.size).all fun j => match ops[j]? with
  | some o => (tmpsOf o).all fun t => aDc ops k t || ((ks.all fun l => !((s.sl t).names l)) || (vM (s.sl t)).all fun l => ls.contains l) &&
   (Nat.beq j k || (zk ops j k || (vM (s.sl t)).all fun l => match s.hp l with | some ob => ob.e.shut | none => true))
  | none => true) &&
 (List.range ops.size).all fun j => Nat.beq j k || (zk ops j k || (match (ops[j]?).bind (·.dst) with
  | some d => ls.all fun l => !(Nat.beq (l % 1000) ((d + 1) % 1000))
  | none => true)))
section
variable {P : Program} {Θ : Tab} {n : Nat} {ops : Array Oper} {k : Nat} {s : St} {o : Oper} {u : AV} {ks : List Nat} {nu : List (Nat × Option OB)}
theorem aIZ (hs : SftG P Θ o s u ks nu) (hin : ∀ l ∈ nu.map (·.1), xW nu l) (hB : evB ops k s o ks (nu.map (·.1)) = true) (hqt : vQ o = true → nu = [] ∧ Pre P Θ o s ⟨u, none⟩) : Ev P Θ ops (fun j => Nat.blt j k) k o s u ks nu := by
 simp only [evB, Bool.and_eq_true] at hB
 obtain ⟨⟨b1, ⟨bf, bc⟩, bo, bn⟩, b2, b3⟩ := hB
 have key : ∀ (j : Nat) (o' : Oper), ops[j]? = some o' → ∀ t ∈ tmpsOf o', zX ops (fun j => Nat.blt j k) t → ks = [] ∨
  (((ks.all fun l => !((s.sl t).names l)) || (vM (s.sl t)).all fun l => (nu.map (·.1)).contains l) = true ∧ (Nat.beq j k || (zk ops j k || (vM (s.sl t)).all fun l => match s.hp l with | some ob => ob.e.shut | none => true)) = true) := fun j o' ho t ht hf => by
  rcases (Bool.or_eq_true _ _).mp b2 with h | h
  · exact .inl (List.isEmpty_iff.1 h)
  · have h1 := List.all_eq_true.1 h j (List.mem_range.2 (Array.getElem?_eq_some_iff.1 ho).1)
    simp only [ho] at h1
    have h2 := List.all_eq_true.1 h1 t ht
    rcases (Bool.or_eq_true _ _).mp h2 with h3 | h3
    · exact (aBZ h3 hf).elim
    · exact .inr (by simpa [Bool.and_eq_true] using h3)
 refine ⟨hs, fun j o' ho hne hor => (aHs b1 j o' ho hne hor).imp id fun hA t ht hf l hl => hA t ht hf l (qU hl), fun j o' ho t ht hf => ?_, fun j o' ho hne hor t ht hf l ob hn hob => ?_, fun j o' ho hne hor d hd l hl => ?_, fun j o' ho hne hor t ht hf l0 ob l hn hob hl => ?_, ?_, fun hst j o' ho hne hor => ?_, fun hnk => ?_, hqt⟩
 · rcases key j o' ho t ht hf with rfl | ⟨h, _⟩
   · exact .inl fun l hl => by cases hl
   · rcases (Bool.or_eq_true _ _).mp h with h | h
     · exact .inl fun l hl => by simpa using List.all_eq_true.1 h l hl
     · exact .inr fun l hl => hin l (by simpa using List.all_eq_true.1 h l (vJ _ hl))
 · rcases key j o' ho t ht hf with rfl | ⟨_, h⟩
   · exact .inl rfl
   · rw [xU hne, hor] at h
     simp only [Bool.false_or] at h
     have := List.all_eq_true.1 h l (vJ _ hn)
     simp only [hob] at this
     exact .inr this
 · have h1 := List.all_eq_true.1 b3 j (List.mem_range.2 (Array.getElem?_eq_some_iff.1 ho).1)
   rw [xU hne, hor] at h1
   simp only [Bool.false_or, ho, Option.bind_some, hd] at h1
   have := List.all_eq_true.1 h1 l (qU hl)
   intro e
   rw [e] at this
   simp at this
 · have hm := qU hl
   rcases (Bool.or_eq_true _ _).mp bf with h | h
   · rw [List.isEmpty_iff.1 h] at hm; cases hm
   · have h1 := List.all_eq_true.1 h j (List.mem_range.2 (Array.getElem?_eq_some_iff.1 ho).1)
     rw [xU hne, hor] at h1
     simp only [Bool.false_or, ho] at h1
     have h2 := List.all_eq_true.1 h1 t ht
     rcases (Bool.or_eq_true _ _).mp h2 with h3 | h3
     · exact (aBZ h3 hf).elim
     · have h4 := List.all_eq_true.1 h3 l0 (vJ _ hn)
       simp only [hob] at h4
       have h5 := List.all_eq_true.1 h4 l hm
       simpa using h5
 · rcases (Bool.or_eq_true _ _).mp bc with h | h
   · exact .inl (List.isEmpty_iff.1 h)
   · refine .inr fun j o' ho t ht hf l0 ob hn hob => ?_
     have h1 := List.all_eq_true.1 h j (List.mem_range.2 (Array.getElem?_eq_some_iff.1 ho).1)
     simp only [ho] at h1
     have h2 := List.all_eq_true.1 h1 t ht
     rcases (Bool.or_eq_true _ _).mp h2 with h3 | h3
     · exact (aBZ h3 hf).elim
     · have h4 := List.all_eq_true.1 h3 l0 (vJ _ hn)
       simp only [hob] at h4
       exact h4
 · rw [hst] at bo
   have h1 := List.all_eq_true.1 bo j (List.mem_range.2 (Array.getElem?_eq_some_iff.1 ho).1)
   rw [xU hne, hor] at h1
   simpa only [Bool.false_or, ho] using h1
 · rw [hnk] at bn
   exact List.isEmpty_iff.1 bn
theorem uq {l : Nat} (h : xW [] l) : False := by obtain ⟨o, h⟩ := h; simp [xh] at h
theorem aIN {v : AV} (hp : Pre P Θ o s ⟨v, none⟩) (hc : calm Θ true o = true) (hv : uN o = true ∨ v.within (fun _ => false) = true) : Sft P Θ o s v [] [] := by
 refine ⟨fun s' h1 h2 => ⟨⟨v, none⟩, jJ (two := true) hc h1 (fun _ l ⟨x, hx, hn⟩ => ?_) hp, fun K hK => .done hK⟩, fun l ob h => by simp [xh] at h, fun l hl => (by cases hl), fun l hl => ?_, fun l hl => (uq hl).elim, fun l ob hl => (uq hl).elim⟩
 · cases x with
   | tmp t => exact (h2 l (.inr ⟨t, yw hx, hn⟩)).1
   | global g => simp [St.ev, vG] at hn
   | _ => simp [St.ev, AV.names, xD] at hn
 · rcases hv with hv | hv
   · exact .inr (wh hv hp l hl)
   · have := zF v hv hl; cases this
theorem aE0 {K : St → Prop} (h : K s) : xL P Θ n ops k [] s K := Gh.done h
theorem uH {r : List Oper} {K : St → Prop} {v : AV} (hp : Pre P Θ o s ⟨v, none⟩) (hin : inN n o.dst = true) (hg : o.guard = none) (hc : calm Θ true o = true) (hv : uN o = true ∨ v.within (fun _ => false) = true) (hB : evB ops k s o [] [] = true) (h : xL P Θ n ops (k + 1) r (s.put o.dst v) K) : xL P Θ n ops k (o :: r) s K :=
 ⟨hin, hg, .inl ⟨v, [], [], aIZ (aIN hp hc hv).g (fun l hl => by cases hl) hB (fun _ => ⟨rfl, hp⟩), h⟩⟩
theorem uI {r : List Oper} {K : St → Prop} (hs : Sft P Θ o s u ks nu) (hn : ∀ l ∈ nu.map (·.1), xW nu l) (hin : inN n o.dst = true) (hg : o.guard = none) (hB : evB ops k s o ks (nu.map (·.1)) = true) (h : xL P Θ n ops (k + 1) r ((shp ks nu s).put o.dst u) K) (hq : vQ o = false := by rfl) : xL P Θ n ops k (o :: r) s K :=
 ⟨hin, hg, .inl ⟨u, ks, nu, aIZ hs.g hn hB (fun h => by rw [hq] at h; cases h), h⟩⟩
end
abbrev zy (x : AV) : Bool := x.within (fun _ => false)
mutual
theorem aAH (s s' : St) : ∀ x : AV, zy x = true → s'.dat x = s.dat x
 | .own l, h => by simp [zy, AV.within] at h
 | .optr l _ _ _, h => by simp [zy, AV.within] at h
 | .mix xs, h => by unfold St.dat; rw [aBm s s' xs (by simpa [zy, AV.within] using h)]
 | .ifc t x, h => by unfold St.dat; rw [aAH s s' x (by simpa [zy, AV.within] using h)]
 | .mapv l, h => by simp [zy, AV.within] at h
 | .tup xs, h => by simp [St.dat]
 | .fn _ xs ys, h => by simp [St.dat]
 | .any, h => by simp [St.dat]
 | .v _, h => by simp [St.dat]
 | .agg _, h => by simp [St.dat]
 | .lst _ _, h => by simp [St.dat]
 | .ptr _, h => by simp [St.dat]
 | .rd _, h => by simp [St.dat]
theorem aBm (s s' : St) : ∀ xs : List AV, xw (fun _ => false) xs = true → s'.datL xs = s.datL xs
 | [], _ => by simp [St.datL]
 | x :: xs, h => by
  simp only [xw, Bool.and_eq_true] at h
  simp only [St.datL]; rw [aAH s s' x h.1, aBm s s' xs h.2]
end
mutual
theorem jB (s s' : St) : ∀ x : AV, zy x = true → xE s' x = xE s x
 | .own l, h => by simp [zy, AV.within] at h
 | .optr l _ _ _, h => by simp [zy, AV.within] at h
 | .mix xs, h => by unfold xE; rw [qx s s' xs (by simpa [zy, AV.within] using h)]
 | .ifc t x, h => by simp [xE]
 | .mapv l, h => by simp [zy, AV.within] at h
 | .tup xs, h => by simp [xE]
 | .fn _ xs ys, h => by simp [xE]
 | .any, h => by simp [xE]
 | .v _, h => by simp [xE]
 | .agg _, h => by simp [xE]
 | .lst _ _, h => by simp [xE]
 | .ptr _, h => by simp [xE]
 | .rd _, h => by simp [xE]
theorem qx (s s' : St) : ∀ xs : List AV, xw (fun _ => false) xs = true → zG s' xs = zG s xs
 | [], _ => by simp [zG]
 | x :: xs, h => by
  simp only [xw, Bool.and_eq_true] at h
  simp only [zG]; rw [jB s s' x h.1, qx s s' xs h.2]
end
theorem aGE (s s' : St) (x : AV) (h : zy x = true) : uZ s' x = uZ s x := by
 cases x with
 | ifc t y => simp only [uZ]; exact jB s s' y (by simpa [zy, AV.within] using h)
 | own l => simp [zy, AV.within] at h
 | optr l i p c => simp [zy, AV.within] at h
 | mix xs => simp only [uZ]; exact jB s s' (.mix xs) h
 | fn f xs ys => cases xs <;> cases ys <;> simp [uZ]
 | _ => simp [uZ, xE]
theorem aBC (s s' : St) : ∀ xs : List AV, (xs.all zy) = true → yu s' xs = yu s xs
 | [], _ => rfl
 | x :: xs, h => by
  simp only [List.all_cons, Bool.and_eq_true] at h
  simp only [yu]; rw [aGE s s' x h.1, aBC s s' xs h.2]
def za (d : Nat) : Nat → List OB → List (Nat × Option OB)
 | _, [] => []
 | k, ob :: r => (d + 1000 * k, some ob) :: za d (k + 1) r
theorem qd {d : Nat} : ∀ (r : List OB) (k k' : Nat), k < k' → xh (za d k' r) (d + 1000 * k) = none
 | [], _, _, _ => rfl
 | ob :: r, k, k', h => by
  have hne : d + 1000 * k ≠ d + 1000 * k' := by omega
  simp only [za, xh]
  rw [xU hne]; exact qd r k (k' + 1) (by omega)
theorem vX {d : Nat} : ∀ (r : List OB) (k l : Nat) (o : Option OB), xh (za d k r) l = some o → ∃ j ob, l = d + 1000 * j ∧ o = some ob ∧ ob ∈ r ∧ k ≤ j ∧ r[j - k]? = some ob
 | [], _, _, _, h => by simp [za, xh] at h
 | ob :: r, k, l, o, h => by
  simp only [za, xh] at h
  cases e : Nat.beq l (d + 1000 * k) with
  | true =>
   rw [e] at h; simp only [cond_true, Option.some.injEq] at h
   exact ⟨k, ob, Nat.eq_of_beq_eq_true e, h.symm, by simp, Nat.le_refl _, by simp⟩
  | false =>
   rw [e] at h
   obtain ⟨j, ob', h1, h2, h3, h4, h5⟩ := vX r (k + 1) l o h
   exact ⟨j, ob', h1, h2, List.mem_cons_of_mem _ h3, by omega, by
    have : j - k = (j - (k + 1)) + 1 := by omega
    rw [this, List.getElem?_cons_succ]; exact h5⟩
theorem qb {s : St} {d : Nat} : ∀ (r : List OB) (k : Nat), xg s d k r → ∀ j, k ≤ j → j < k + r.length → s.hp (d + 1000 * j) = none
 | [], k, _, j, h1, h2 => by simp at h2; omega
 | ob :: r, k, h, j, h1, h2 => by
  unfold xg at h
  rcases Nat.eq_or_lt_of_le h1 with e | e
  · subst e; exact h.1.1
  · exact qb r (k + 1) h.2 j (by omega) (by simp at h2; omega)
theorem jc {s s' : St} {d : Nat} : ∀ (r : List OB) (k : Nat), (∀ j, k ≤ j → j < k + r.length → s'.hp (d + 1000 * j) = s.hp (d + 1000 * j)) → xg s d k r → xg s' d k r
 | [], _, _, _ => trivial
 | ob :: r, k, hh, h => by
  unfold xg at h ⊢
  exact ⟨⟨(hh k (Nat.le_refl _) (by simp)).trans h.1.1, h.1.2⟩, jc r (k + 1) (fun j h1 h2 => hh j (by omega) (by simp; omega)) h.2⟩
theorem aAW {d : Nat} : ∀ (r : List OB) (k j : Nat), k ≤ j → j < k + r.length → xW (za d k r) (d + 1000 * j)
 | [], k, j, h1, h2 => by simp at h2; omega
 | ob :: r, k, j, h1, h2 => by
  unfold xW
  simp only [za, xh]
  cases e : Nat.beq (d + 1000 * j) (d + 1000 * k) with
  | true => exact ⟨_, rfl⟩
  | false =>
   have hne : j ≠ k := fun h => by subst h; rw [Nat.beq_refl] at e; cases e
   exact aAW r (k + 1) j (by omega) (by simp at h2; omega)
theorem qo {d : Nat} : ∀ (r : List OB) (k : Nat) (s : St), y8 d k r s = shp [] (za d k r) s
 | [], k, s => rfl
 | ob :: r, k, s => by
  show y8 d (k + 1) r (s.set (d + 1000 * k) (some ob)) = _
  rw [qo r (k + 1)]
  unfold shp St.set
  congr 1
  · funext j
    simp only [za, xh]
    cases e : Nat.beq j (d + 1000 * k) with
    | true =>
     have := Nat.eq_of_beq_eq_true e
     subst this
     rw [qd r k (k + 1) (by omega)]; rfl
    | false => rfl
  · funext j
    simp only [za, xh]
    cases e : Nat.beq j (d + 1000 * k) with
    | true =>
     have := Nat.eq_of_beq_eq_true e
     subst this
     rw [qd r k (k + 1) (by omega)]; rfl
    | false => rfl
section
variable {P : Program} {Θ : Tab} {s : St} {ty : TypeId} {pos : String} {after : Array Edge} {g : Option (Nat × Bool)}
theorem aBa {f : FuncId} {ags : Array Operand} {ts : Array TypeId} {t : Nat} {args : List AV} {out : Out} (hac : AC P f args out) (ha : (ags.toList.map fun x => s.dat (s.ev x)) = args) (hfl : (xS s ags.toList).isEmpty = true) (hw : (ags.toList.map s.ev).all zy = true) (hfr : xg s (t + 1) 0 out.obs) (hok : yu s (ags.toList.map s.ev) = true) (hc : vW ags.toList = true)
 (hv : (ren (t + 1) out.val).within (fun l => (xh (za (t + 1) 0 out.obs) l).isSome) = true) :
 Sft P Θ ⟨some t, .call ⟨.value (.func f), ags, ts⟩, ty, pos, after, g⟩ s (ren (t + 1) out.val) [] (za (t + 1) 0 out.obs) := by
 have hsh := jQ out.obs 0 hfr
 refine ⟨fun s' h1 h2 => ?_, fun l ob h => ?_, fun l hl => (by cases hl), fun l hl => ?_, fun l ⟨o, hl⟩ => ?_, fun l ob ⟨o, hl⟩ ho => ?_⟩
 · have hev : ∀ x ∈ ags.toList, s'.ev x = s.ev x := fun x hx => h1 x (by simp [Op.operands, Call.operands] at hx ⊢; exact .inr hx)
   have hmap : ags.toList.map s'.ev = ags.toList.map s.ev := List.map_congr_left hev
   refine ⟨⟨ren (t + 1) out.val, jN (t + 1) out.obs⟩, wJ hac ?_ (.inl ?_) (jc out.obs 0 (fun j h3 h4 => (h2 _ (.inl (aAW out.obs 0 j h3 h4))).1) hfr) ?_ hc, fun K hK => .done ?_⟩
   · rw [← ha]
     refine List.map_congr_left fun x hx => ?_
     rw [hev x hx]
     exact aAH s s' _ (List.all_eq_true.1 hw _ (List.mem_map_of_mem hx))
   · unfold xS at hfl ⊢; rw [hmap]; exact hfl
   · rw [hmap, aBC s s' _ hw]; exact hok
   · cases ho : out.obs with
     | nil => rw [ho] at hK; exact hK
     | cons ob r =>
      rw [ho] at hK
      show K ((y8 (t + 1) 0 (ob :: r) s').put (some t) (ren (t + 1) out.val))
      rw [qo]; exact hK
 · obtain ⟨j, ob', _, e, hm, _⟩ := vX out.obs 0 l _ h
   cases e; exact hsh ob hm
 · have := zF _ hv hl
   obtain ⟨o, ho⟩ := Option.isSome_iff_exists.1 this
   exact .inl ⟨o, ho⟩
 · obtain ⟨j, ob', e, _⟩ := vX out.obs 0 l _ hl
   exact .inl ⟨t, rfl, by rw [e]; omega⟩
 · obtain ⟨j, ob', e, _, _, h4, h5⟩ := vX out.obs 0 l _ hl
   have hj := (List.getElem?_eq_some_iff.1 h5).1
   have := qb out.obs 0 hfr j h4 (by omega)
   rw [← e, ho] at this; cases this
end
theorem aFp (l : Nat) (ob : OB) (s : St) : s.set l (some ob) = shp [] [(l, some ob)] s := by
 unfold shp St.set
 congr 1
 · funext j; show (bif Nat.beq j l then some ob else s.hp j) = (match (bif Nat.beq j l then some (some ob) else none) with | some o => o | none => s.hp j)
   cases Nat.beq j l <;> rfl
 · funext j; show (bif Nat.beq j l then none else s.mp j) = (match (bif Nat.beq j l then some (some ob) else none) with | some _ => none | none => s.mp j)
   cases Nat.beq j l <;> rfl
theorem nu1 {l m : Nat} {ob : OB} {o : Option OB} (h : xh [(l, some ob)] m = some o) : m = l ∧ o = some ob := by
 simp only [xh] at h
 cases e : Nat.beq m l with
 | true => rw [e] at h; simp only [cond_true, Option.some.injEq] at h; exact ⟨Nat.eq_of_beq_eq_true e, h.symm⟩
 | false => rw [e] at h; cases h
theorem in1 (l : Nat) (ob : OB) : xW [(l, some ob)] l := ⟨some ob, by simp [xh]⟩
section
variable {P : Program} {Θ : Tab} {s : St} {ty : TypeId} {pos : String} {after : Array Edge} {g : Option (Nat × Bool)}
end
section
variable {P : Program} {Θ : Tab} {s : St} {ty : TypeId} {pos : String} {after : Array Edge} {g : Option (Nat × Bool)}
end
mutual
theorem jm {s s' : St} : ∀ x : AV, (∀ l, x.names l = true → s'.hp l = s.hp l) → s'.dat x = s.dat x ∧ xE s' x = xE s x
 | .own l, h => by
  have := h l (by simp [AV.names])
  simp only [St.dat, xE, this, and_self]
 | .optr l i p c, h => by
  have := h l (by simp [AV.names])
  simp only [St.dat, xE, this, and_self]
 | .mix xs, h => by
  obtain ⟨h1, h2⟩ := aEC xs (fun l hl => h l (by simpa [AV.names] using hl))
  simp only [St.dat, xE, h1, h2, and_self]
 | .ifc t x, h => by
  obtain ⟨h1, _⟩ := jm x (fun l hl => h l (by simpa [AV.names] using hl))
  simp only [St.dat, xE, h1, and_self]
 | .rd x, _ => ⟨rfl, rfl⟩
 | .any, _ => ⟨rfl, rfl⟩
 | .v _, _ => ⟨rfl, rfl⟩
 | .agg _, _ => ⟨rfl, rfl⟩
 | .lst _ _, _ => ⟨rfl, rfl⟩
 | .ptr _, _ => ⟨rfl, rfl⟩
 | .tup _, _ => ⟨rfl, rfl⟩
 | .mapv _, _ => ⟨rfl, rfl⟩
 | .fn _ _ _, _ => ⟨rfl, rfl⟩
theorem aEC {s s' : St} : ∀ xs : List AV, (∀ l, xD l xs = true → s'.hp l = s.hp l) → s'.datL xs = s.datL xs ∧ zG s' xs = zG s xs
 | [], _ => ⟨rfl, rfl⟩
 | x :: xs, h => by
  obtain ⟨h1, h2⟩ := jm x (fun l hl => h l (by simp [xD, hl]))
  obtain ⟨h3, h4⟩ := aEC xs (fun l hl => h l (by simp [xD, hl]))
  simp only [St.datL, zG, h1, h2, h3, h4, and_self]
end
theorem aHn {s s' : St} (x : AV) (h : ∀ l, x.names l = true → s'.hp l = s.hp l) : uZ s' x = uZ s x := by
 cases x with
 | fn f xs ys => cases xs <;> cases ys <;> rfl
 | ifc t x => exact (jm x (fun l hl => h l (by simpa [AV.names] using hl))).2
 | _ => first | rfl | exact (jm _ h).2
theorem aCq {s s' : St} : ∀ xs : List AV, (∀ l, xD l xs = true → s'.hp l = s.hp l) → yu s' xs = yu s xs
 | [], _ => rfl
 | x :: xs, h => by
  simp only [yu]
  rw [aHn x (fun l hl => h l (by simp [xD, hl])), aCq xs (fun l hl => h l (by simp [xD, hl]))]
theorem aCE {s : St} {l : Nat} : ∀ xs : List Operand, xD l (xs.map s.ev) = true → ∃ t, Operand.tmp t ∈ xs ∧ (s.sl t).names l = true
 | [], h => by simp [xD] at h
 | x :: xs, h => by
  simp only [List.map_cons, xD, Bool.or_eq_true] at h
  rcases h with h | h
  · cases x with
    | tmp t => exact ⟨t, by simp, h⟩
    | global g => simp [St.ev, vG] at h
    | _ => simp [St.ev, AV.names, xD] at h
  · obtain ⟨t, h1, h2⟩ := aCE xs h
    exact ⟨t, List.mem_cons_of_mem _ h1, h2⟩
section
variable {P : Program} {Θ : Tab} {s : St} {ty : TypeId} {pos : String} {after : Array Edge} {g : Option (Nat × Bool)}
theorem aDU {f : FuncId} {ags : Array Operand} {ts : Array TypeId} {t : Nat} {args : List AV} {out : Out} (hac : AC P f args out) (ha : (ags.toList.map fun x => s.dat (s.ev x)) = args) (hfl : out.flat) (hfr : xg s (t + 1) 0 out.obs) (hok : yu s (ags.toList.map s.ev) = true) (hc : vW ags.toList = true)
 (hv : (ren (t + 1) out.val).within (fun l => (xh (za (t + 1) 0 out.obs) l).isSome) = true) :
 Sft P Θ ⟨some t, .call ⟨.value (.func f), ags, ts⟩, ty, pos, after, g⟩ s (ren (t + 1) out.val) [] (za (t + 1) 0 out.obs) := by
 have hsh := jQ out.obs 0 hfr
 refine ⟨fun s' h1 h2 => ?_, fun l ob h => ?_, fun l hl => (by cases hl), fun l hl => ?_, fun l ⟨o, hl⟩ => ?_, fun l ob ⟨o, hl⟩ ho => ?_⟩
 · have hev : ∀ x ∈ ags.toList, s'.ev x = s.ev x := fun x hx => h1 x (by simp [Op.operands, Call.operands] at hx ⊢; exact .inr hx)
   have hmap : ags.toList.map s'.ev = ags.toList.map s.ev := List.map_congr_left hev
   have hn : ∀ l, xD l (ags.toList.map s.ev) = true → s'.hp l = s.hp l := fun l hl => by
    obtain ⟨t', h3, h4⟩ := aCE _ hl
    exact (h2 l (.inr ⟨t', yw (by simp [Op.operands, Call.operands] at h3 ⊢; exact h3), h4⟩)).1
   refine ⟨⟨ren (t + 1) out.val, jN (t + 1) out.obs⟩, wJ hac ?_ (.inr hfl) (jc out.obs 0 (fun j h3 h4 => (h2 _ (.inl (aAW out.obs 0 j h3 h4))).1) hfr) ?_ hc, fun K hK => .done ?_⟩
   · rw [← ha]
     refine List.map_congr_left fun x hx => ?_
     rw [hev x hx]
     refine (jm _ fun l hl => ?_).1
     cases x with
     | tmp t' => exact (h2 l (.inr ⟨t', yw (by simp [Op.operands, Call.operands] at hx ⊢; exact hx), hl⟩)).1
     | global g => simp [St.ev, vG] at hl
     | _ => simp [St.ev, AV.names, xD] at hl
   · rw [hmap, aCq _ hn]; exact hok
   · cases ho : out.obs with
     | nil => rw [ho] at hK; exact hK
     | cons ob r =>
      rw [ho] at hK
      show K ((y8 (t + 1) 0 (ob :: r) s').put (some t) (ren (t + 1) out.val))
      rw [qo]; exact hK
 · obtain ⟨j, ob', _, e, hm, _⟩ := vX out.obs 0 l _ h
   cases e; exact hsh ob hm
 · have := zF _ hv hl
   obtain ⟨o, ho⟩ := Option.isSome_iff_exists.1 this
   exact .inl ⟨o, ho⟩
 · obtain ⟨j, ob', e, _⟩ := vX out.obs 0 l _ hl
   exact .inl ⟨t, rfl, by rw [e]; omega⟩
 · obtain ⟨j, ob', e, _, _, h4, h5⟩ := vX out.obs 0 l _ hl
   have hj := (List.getElem?_eq_some_iff.1 h5).1
   have := qb out.obs 0 hfr j h4 (by omega)
   rw [← e, ho] at this; cases this
theorem aCh {d : Option Tmp} {t : Nat} {y : AV} (hx : s.sl t = y) : Sft P Θ ⟨d, .assign (.tmp t), ty, pos, after, g⟩ s y [] [] := by
 refine ⟨fun s' h1 h2 => ⟨⟨y, none⟩, aJz ((h1 (.tmp t) (by simp [Op.operands])).trans hx), fun K hK => .done hK⟩, fun l ob h => by simp [xh] at h, fun l hl => (by cases hl), fun l hl => .inr ⟨t, yw (by simp [Op.operands]), by rw [hx]; exact hl⟩, fun l hl => (uq hl).elim, fun l ob hl => (uq hl).elim⟩
theorem aAP {d k : Nat} {obs : List OB} : ∀ l ∈ (za d k obs).map (·.1), xW (za d k obs) l := by
 induction obs generalizing k with
 | nil => intro l hl; cases hl
 | cons ob r ih =>
  intro l hl
  unfold xW
  simp only [za, List.map_cons, List.mem_cons] at hl
  simp only [za, xh]
  cases e : Nat.beq l (d + 1000 * k) with
  | true => exact ⟨_, rfl⟩
  | false =>
   rcases hl with h | h
   · rw [h, Nat.beq_refl] at e; cases e
   · obtain ⟨o, ho⟩ := ih l h; exact ⟨o, ho⟩
theorem aGK {l : Nat} {ob : OB} : ∀ m ∈ ([(l, some ob)] : List (Nat × Option OB)).map (·.1), xW [(l, some ob)] m := fun m hm => by
 simp only [List.map_cons, List.map_nil, List.mem_singleton] at hm
 subst hm; exact in1 _ _
theorem aBq : ∀ m ∈ ([] : List (Nat × Option OB)).map (·.1), xW [] m := fun m hm => by cases hm
end
section
variable {P : Program} {Θ : Tab} {s : St} {ty : TypeId} {pos : String} {after : Array Edge} {g : Option (Nat × Bool)}
end
section
variable {P : Program} {Θ : Tab} {s : St} {ty : TypeId} {pos : String} {after : Array Edge} {g : Option (Nat × Bool)}
theorem aIO {o : Oper} {v : AV} (hp : ∀ s' : St, (∀ x ∈ o.op.operands, s'.ev x = s.ev x) → Pre P Θ o s' ⟨v, none⟩) (hv : v.within (fun _ => false) = true) : Sft P Θ o s v [] [] := by
 refine ⟨fun s' h1 h2 => ⟨⟨v, none⟩, hp s' h1, fun K hK => .done hK⟩, fun l ob h => by simp [xh] at h, fun l hl => (by cases hl), fun l hl => ?_, fun l hl => (uq hl).elim, fun l ob hl => (uq hl).elim⟩
 have := zF v hv hl; cases this
theorem aJH {d : Option Tmp} {x : Operand} {n : Int} {b : UInt8} (hb : n = (b.toNat : Int)) (hx : s.ev x = .v (.int .i64 n)) : Sft Tryd.prog Θ ⟨d, .convert 3 5 x, ty, pos, after, g⟩ s (.v (.int .u8 (b.toNat : Int))) [] [] :=
 aIO (fun s' hs => aI4 hb ((hs x (by simp [Op.operands])).trans hx)) (by simp [AV.within])
theorem aJF {d : Nat} {t : TypeId} {x : Operand} {el sz b : Nat} {z : AV} {c : Value} (hf : s.hp (d + 1) = none) (ht : Θ.look t = .slice el sz b z) (hx : s.ev x = .v c) (hc : c.oneCell' = true) (hz : Nat.beq 1 (asz z) = true) (hsz : Nat.ble sz 65536 = true) (hok : okL (d + 1) = true := by rfl) :
 Sft P Θ ⟨some d, .buildSlice t 1 #[(0, x)], ty, pos, after, g⟩ s (.own (d + 1)) [] [(d + 1, some ⟨.s el, sz, [.v c]⟩)] := by
 refine ⟨fun s' h1 h2 => ⟨⟨.own (d + 1), some fun s'' => s''.set (d + 1) (some ⟨.s el, sz, [.v c]⟩)⟩, ?_, fun K hK => .done ?_⟩, fun l ob h => ?_, fun l hl => (by cases hl), fun l hl => .inl ?_, fun l ⟨o, hl⟩ => .inl ?_, fun l ob ⟨o, hl⟩ ho => ?_⟩
 · exact aKB ((h2 _ (.inl (in1 _ _))).1.trans hf) ht ((h1 x (by simp [Op.operands])).trans hx) hc hz hsz hok
 · rw [uM, aFp]; exact hK
 · obtain ⟨_, e⟩ := nu1 h; cases e; rfl
 · simp only [AV.names] at hl; rw [← Nat.eq_of_beq_eq_true hl]; exact in1 _ _
 · obtain ⟨rfl, _⟩ := nu1 hl; exact ⟨d, rfl, rfl⟩
 · obtain ⟨rfl, _⟩ := nu1 hl; rw [hf] at ho; cases ho
theorem aJG {d : Option Tmp} {t1 t2 : TypeId} {t l : Nat} {ob : OB} {r : Value} (hx : s.sl t = .own l) (ho : s.hp l = some ob) (hsh : ob.e.shut = true) (h : aDa P t1 t2 (.lst ob.sz ob.xs) r) (h1 : r.oneCell' = true) (hok : okL l = true := by rfl) : Sft P Θ ⟨d, .convert t1 t2 (.tmp t), ty, pos, after, g⟩ s (.v r) [] [] := by
 refine ⟨fun s' hs h2 => ⟨⟨.v r, none⟩, ?_, fun K hK => .done hK⟩, fun l ob h => by simp [xh] at h, fun l hl => (by cases hl), fun l hl => by simp [AV.names] at hl, fun l hl => (uq hl).elim, fun l ob hl => (uq hl).elim⟩
 have e1 : s'.ev (.tmp t) = .own l := (hs (.tmp t) (by simp [Op.operands])).trans hx
 have e2 : s'.hp l = some ob := (h2 l (.inr ⟨t, yw (by simp [Op.operands]), by rw [hx]; simp [AV.names]⟩)).1.trans ho
 exact aI3 h (by rw [e1]; simp [St.dat, e2, hsh]) (by rw [e1]; simp [yu, uZ, xE, e2, hsh]) rfl h1
end
def kY (n : Nat) : List UInt8 := if h : n < 10 then [UInt8.ofNat (48 + n)] else kY (n / 10) ++ [UInt8.ofNat (48 + n % 10)]
termination_by n
decreasing_by omega
def kX (n : Nat) : ByteArray := ⟨(kY n).toArray⟩
def yO (n : Int) : ByteArray := if n < 0 then ⟨#[45]⟩ ++ kX (-n).toNat else kX n.toNat
theorem aBn {n : Nat} (h : n < 10) : kY n = [UInt8.ofNat (48 + n)] := by rw [kY, dif_pos h]
theorem aEE {n : Nat} (h : ¬ n < 10) : kY n = kY (n / 10) ++ [UInt8.ofNat (48 + n % 10)] := by rw [kY, dif_neg h]
theorem aEF : ∀ (k n : Nat), n < 10 ^ (k + 1) → (kY n).length ≤ k + 1
 | 0, n, h => by rw [aBn (by simpa using h)]; simp
 | k + 1, n, h => by
  by_cases hn : n < 10
  · rw [aBn hn]; simp
  · rw [aEE hn, List.length_append]
    have := aEF k (n / 10) (by rw [Nat.div_lt_iff_lt_mul (by omega)]; rw [Nat.pow_succ] at h; exact h)
    simp only [List.length_cons, List.length_nil]; omega
theorem aAi {n : Nat} (h : n ≤ 1000000000000) : (kX n).size ≤ 13 := aEF 12 n (by omega)
theorem zq {n : Int} (h0 : -1000000000000 ≤ n) (h1 : n ≤ 1000000000000) : (yO n).size ≤ 14 := by
 unfold yO
 split
 · rw [ByteArray.size_append]
   have := aAi (n := (-n).toNat) (by omega)
   have e : (⟨#[45]⟩ : ByteArray).size = 1 := rfl
   omega
 · have := aAi (n := n.toNat) (by omega); omega
theorem aJf {n : Nat} (h : n < 10) : kX n = ⟨[UInt8.ofNat (48 + n)].toArray⟩ := by unfold kX; rw [aBn h]
theorem aJe {n : Nat} (h : ¬ n < 10) : kX n = kX (n / 10) ++ ⟨[UInt8.ofNat (48 + n % 10)].toArray⟩ := by
 unfold kX; rw [aEE h]
 apply ByteArray.ext
 simp
theorem aI7 {n : Nat} (h : n < 256) : (UInt8.ofNat n).toNat = n := by simp; omega
attribute [local irreducible] xI xJ xL yF yH Pre ACG
theorem aFQ : ∀ (n : Nat), n ≤ 1000000000000 → AC Tryd.prog 99 [.v (.int .i64 (n : Int))] ⟨.v (.string (kX n)), []⟩ := fun n => by
 induction n using Nat.strongRecOn with
 | _ n ih =>
  intro hn
  by_cases h : n < 10
  · rw [aJf h]
    have hb := aI7 (n := 48 + n) (by omega)
    refine qrf Tryd.func99 Tryd.ntmps99 Tryd.results99 ?_; conv => whnf
    repeat ((first | refine qz ?_ | refine qp (aI4 (b := UInt8.ofNat (48 + n)) (by omega) rfl) ?_); conv => whnf)
    refine qp (aI3 (aCt [UInt8.ofNat (48 + n)]) rfl rfl rfl rfl) ?_
    conv => whnf
    repeat ((refine qz ?_; conv => whnf))
    exact xA rfl trivial
  · have c1 := ih (n / 10) (by omega) (by omega)
    rw [aJe h]
    have hb := aI7 (n := 48 + n % 10) (by omega)
    have hs := aAi (n := n / 10) (by omega)
    have hs1 : (⟨[UInt8.ofNat (48 + n % 10)].toArray⟩ : ByteArray).size = 1 := rfl
    refine qrf Tryd.func99 Tryd.ntmps99 Tryd.results99 ?_; conv => whnf
    repeat ((refine qz ?_; conv => whnf))
    refine .inr ⟨by kernel_rfl, aB4 (by kernel_rfl), ?_⟩
    repeat (first
     | refine uH (aGZ rfl) rfl rfl rfl (.inl rfl) (by kernel_rfl) ?_
     | refine uH (xk (aJ4 (c := ((n / 10 : Nat) : Int)) (by omega) (by omega) (by omega) (by omega)) rfl rfl rfl) rfl rfl rfl (.inl rfl) (by kernel_rfl) ?_
     | refine uH (xk (aJ5 (c := ((n % 10 : Nat) : Int)) (by omega) (by omega) (by omega)) rfl rfl rfl) rfl rfl rfl (.inl rfl) (by kernel_rfl) ?_
     | refine uH (xk (aAe (c := ((48 + n % 10 : Nat) : Int)) (by omega) (by omega) (by omega)) rfl rfl rfl) rfl rfl rfl (.inl rfl) (by kernel_rfl) ?_
     | refine uH (xk (wB (by first | omega | (simp only [ByteArray.size_append]; omega))) rfl rfl rfl) rfl rfl rfl (.inl rfl) (by kernel_rfl) ?_
     | refine uI (aBa c1 rfl rfl rfl trivial rfl rfl rfl) aAP rfl rfl (by kernel_rfl) ?_
     | refine uI (aJH (b := UInt8.ofNat (48 + n % 10)) (by omega) rfl) aBq rfl rfl (by kernel_rfl) ?_
     | refine uI (aJF rfl rfl rfl rfl rfl rfl) aGK rfl rfl (by kernel_rfl) ?_
     | refine uI (aJG rfl rfl rfl (aCt [UInt8.ofNat (48 + n % 10)]) rfl) aBq rfl rfl (by kernel_rfl) ?_
     | refine uI (aCh rfl) aBq rfl rfl (by kernel_rfl) ?_)
    refine aE0 ?_
    conv => whnf
    repeat ((refine qz ?_; conv => whnf))
    exact xA rfl trivial
theorem aAB {n : Int} (h0 : -1000000000000 ≤ n) (h1 : n ≤ 1000000000000) : AC Tryd.prog 99 [.v (.int .i64 n)] ⟨.v (.string (yO n)), []⟩ := by
 unfold yO
 by_cases h : n < 0
 · rw [if_pos h]
   obtain ⟨m, hm⟩ : ∃ m : Nat, -n = (m : Int) := ⟨(-n).toNat, by omega⟩
   have c1 := aFQ m (by omega)
   have hs := aAi (n := m) (by omega)
   rw [hm, Int.toNat_natCast]
   have e1 : (⟨#[45]⟩ : ByteArray).size = 1 := rfl
   refine qrf Tryd.func99 Tryd.ntmps99 Tryd.results99 ?_; conv => whnf
   repeat (first | (refine qp (aKg (c := (m : Int)) (by omega) (by omega) (by omega) rfl) ?_; conv => whnf) | (refine qz ?_; conv => whnf) | (refine qc (c1) ?_; conv => whnf) | (refine qp (xk (wB (by first | omega | (simp only [ByteArray.size_append]; omega))) rfl rfl rfl) ?_; conv => whnf))
   exact xA rfl trivial
 · rw [if_neg h]
   obtain ⟨m, hm⟩ : ∃ m : Nat, n = (m : Int) := ⟨n.toNat, by omega⟩
   have c1 := aFQ m (by omega)
   rw [hm, Int.toNat_natCast]
   exact c1
end Go.Proofs.YtodckioppgjbdaaDoor.AM
namespace Go.Proofs.YtodckioppgjbdaaDoor
open Go.RowKit
end Go.Proofs.YtodckioppgjbdaaDoor
namespace Go.Proofs.YtodckioppgjbdaaDoor.AM
open Go Go.RowKit
attribute [local irreducible] xI xJ xL yF yH Pre ACG
theorem aCs {cs : List Cmt} {l : Int} (h : 0 ≤ zW cs l) (h1 : l ≤ 1048576) : zW cs l ≤ l ∧ cs.length ≤ 1048576 ∧ wC 1048576 cs := by
 obtain ⟨k1, k2⟩ := aJI h
 refine ⟨?_, by omega, fun c hc => by obtain ⟨q1, q2, q3⟩ := k2 c hc; exact ⟨by omega, by omega, fun e he => by have := q3 e he; omega⟩⟩
 unfold zW at h ⊢
 split
 · omega
 · rename_i hn
   rw [if_neg hn] at h
   have := (aEn h).1
   omega
end Go.Proofs.YtodckioppgjbdaaDoor.AM
