/- Texts of the machine over data, folded. -/
import Derived.Test.YtodckioppgjbdaaGreatDoorKc6
import Derived.ProofKit
import Derived.OpenShut
import Derived.ShutString
import Derived.LaidMore
import Derived.LaidLaws
import Derived.Lay
import Derived.OpenVars
import Derived.ChangeOld
import Derived.ChangeArms
import Derived.FnData
import Derived.Below
import Derived.Test.YtodckioppgjbdaaGreatDoorKc5
import Derived.Laws.StructEq
set_option linter.unusedVariables false
set_option linter.unusedSimpArgs false
set_option maxRecDepth 100000
namespace Go.Proofs.YtodckioppgjbdaaGreatDoor.AM
open Go.ChangeShapes Go.WideShapes Go.ChangeAt Go.RowKit
section
variable {P : Program} {W : World}
theorem trodVars_cons {H : Type} {enc : TypeId × Value → H} {spare : Nat → Bool} {n : String} {r : List String} {gs : List (DataW H)} {ps : List MemPlace} (h : DataW.TrodVars enc P W spare (n :: r) gs ps) : ∃ d ds q, gs = d :: ds ∧ DataW.TrodVars enc P W spare r ds q := by
 cases gs with
 | nil => simp [DataW.TrodVars] at h
 | cons d ds =>
  obtain ⟨g, t, cs, fuel, p, q, h1, h2, h3, h4, hs, e⟩ := h
  exact ⟨d, ds, q, rfl, hs⟩
def Lv (P : Program) (w : World) (n : String) (d : DataW Unit) : Prop := ∃ g t cs fuel p, P.globalNamed n = some g ∧ (P.globals[g]?).map (·.type) = some t ∧ w.var? P n = some cs ∧ DataW.trod (fun _ => ()) P w 0 (fun _ => true) false fuel t cs.toList = some (d, p)
theorem aEE : ∀ {l : List (String × DataW Unit)} {ps : List MemPlace}, DataW.LaidVars P W l ps → ∀ n d, (n, d) ∈ l → Lv P W n d
 | [], _, _, n, d, h => by cases h
 | (m, e) :: r, ps, hl, n, d, h => by
  obtain ⟨g, t, cs, fuel, p, q, h1, h2, h3, h4, h5, _⟩ := hl
  rcases List.mem_cons.1 h with e' | h
  · cases e'; exact ⟨g, t, cs, fuel, p, h1, h2, h3, h4⟩
  · exact aEE h5 n d h
theorem met_lv {l : List (String × DataW Unit)} (hh : (l.filter fun x => x.2.handleName?.isSome) = []) (h : laidMetH P l W) {n : String} {d : DataW Unit} (hm : (n, d) ∈ l) : Lv P W n d := by
 unfold laidMetH at h
 rw [hh] at h
 obtain ⟨ps, h1, _⟩ := h
 exact aEE h1 n d hm
theorem aDN {n : String} {g : Nat} {cs : Array Value} (hg : P.globalNamed n = some g) (hv : W.var? P n = some cs) : g < W.heap.size ∧ ∃ t p, W.heap[g]? = some (.cells cs t p) := by
 unfold World.var? at hv
 rw [hg] at hv
 simp only [Option.bind_some] at hv
 cases hh : W.heap[g]? with
 | none => rw [hh] at hv; cases hv
 | some o =>
  rw [hh] at hv
  cases o with
  | cells c t p => simp only [Option.some.injEq] at hv; subst hv; exact ⟨(Array.getElem?_eq_some_iff.1 hh).1, t, p, rfl⟩
  | _ => cases hv
theorem aDx {α : Type} (f : α → Value) : ∀ (l : List α), asz (.agg (l.map fun x => .v (f x))) = l.length
 | [] => rfl
 | x :: l => by
  have := aDx f l
  rw [List.map_cons]
  show 1 + xB _ = _
  have h2 : xB (l.map fun x => .v (f x)) = l.length := this
  rw [h2, List.length_cons]; omega
theorem aGE {α : Type} {S : Nat → Prop} {w : World} (f : α → Value) (h1 : ∀ x, (f x).oneCell' = true) : ∀ (l : List α), RL S w (l.map fun x => .v (f x)) (l.map f)
 | [] => by simp only [List.map_nil]; unfold RL; rfl
 | x :: l => by
  simp only [List.map_cons]
  unfold RL
  exact ⟨[f x], l.map f, rfl, by unfold RA; exact ⟨rfl, h1 x⟩, aGE f h1 l⟩
theorem rg_of {α : Type} (f : α → Value) (h1 : ∀ x, (f x).oneCell' = true) {ls : List α} {n : String} {g : Nat} {cs : Array Value} (hg : P.globalNamed n = some g) (hv : W.var? P n = some cs) (hsz : cs.size = ls.length) (hc : ∀ (j : Nat) x, ls[j]? = some x → cs[j]? = some (f x)) : RG (InW W) W g (.agg (ls.map fun x => .v (f x))) := by
 obtain ⟨hlt, t, p, hb⟩ := aDN hg hv
 refine ⟨hlt, fun _ => ?_, cs, t, p, hb, by show cs.size = _; rw [hsz, aDx]⟩
 unfold RA
 refine ⟨g, 0, ls.map f, rfl, hlt, by unfold RA; exact aGE f h1 ls, fun j u hu => ?_⟩
 rw [List.getElem?_map] at hu
 obtain ⟨x, hx, rfl⟩ := Option.map_eq_some_iff.1 hu
 rw [Nat.zero_add, World.var?_cell hg hv j]
 exact hc j x hx
theorem rg_str {ls : List ByteArray} {n : String} {d : DataW Unit} {g te ee m : Nat} (h : Lv P W n d) (hd : d = .agg (ls.map fun s => .lit (.string s.data.toList))) (hg : P.globalNamed n = some g) (ht : (P.globals[g]?).map (·.type) = some te)
 (hu : P.underlying te = some (.array m ee)) (he : P.underlying ee = some .string) (hc1 : P.cellsOf ee = 1) (hct : P.cellsOf te = m) (hm : ls.length = m) : RG (InW W) W g (.agg (ls.map fun s => .v (.string s))) := by
 obtain ⟨g', t', cs, fuel, p, q1, q2, q3, q4⟩ := h
 obtain rfl := Option.some.inj (hg.symm.trans q1)
 obtain rfl := Option.some.inj (ht.symm.trans q2)
 subst hd
 obtain ⟨xs, k, _, ex, hl, hxl, hel⟩ := DataW.trod_array hu q4
 have hsz : cs.size = m := by simpa [hct] using hl
 refine rg_of Value.string (fun _ => rfl) hg q3 (by omega) fun j x hx => ?_
 obtain ⟨hj, rfl⟩ := List.getElem?_eq_some_iff.1 hx
 have hE := hel j (by omega)
 rw [hc1, Nat.mul_one, List.getElem?_eq_getElem (by omega : j < xs.length)] at hE
 obtain ⟨z, e1, e2, _⟩ := DataW.trod_string he hE
 have e3 : (xs.map (·.1)) = ls.map fun s => (DataW.lit (.string s.data.toList) : DataW Unit) := by
  have := (Prod.mk.inj ex).1
  exact (DataW.agg.inj this).symm
 have e4 : (xs.map (·.1))[j]? = (ls.map fun s => (DataW.lit (.string s.data.toList) : DataW Unit))[j]? := by rw [e3]
 rw [List.getElem?_map, List.getElem?_map, List.getElem?_eq_getElem (by omega : j < xs.length), List.getElem?_eq_getElem hj, e2] at e4
 have hz : z = ls[j] := by
  simp only [Option.map_some, Option.some.injEq, DataW.lit.injEq, Lit.string.injEq] at e4
  exact toList_inj (by simpa [ByteArray.toList_eq] using e4)
 have h0 : ((cs.toList.drop j).take 1)[0]? = some (.string z) := by rw [e1]; rfl
 have : cs.toList[j]? = some (.string z) := by simpa using h0
 rw [← hz]; simpa using this
theorem rg_int {ls : List Int} {k : IntKind} {n : String} {d : DataW Unit} {g te ee m : Nat} (h : Lv P W n d) (hd : d = .agg (ls.map fun s => .lit (.int k s))) (hg : P.globalNamed n = some g) (ht : (P.globals[g]?).map (·.type) = some te)
 (hu : P.underlying te = some (.array m ee)) (he : P.underlying ee = some (.int k)) (hc1 : P.cellsOf ee = 1) (hct : P.cellsOf te = m) (hm : ls.length = m) : RG (InW W) W g (.agg (ls.map fun s => .v (.int k s))) := by
 obtain ⟨g', t', cs, fuel, p, q1, q2, q3, q4⟩ := h
 obtain rfl := Option.some.inj (hg.symm.trans q1)
 obtain rfl := Option.some.inj (ht.symm.trans q2)
 subst hd
 obtain ⟨xs, k', _, ex, hl, hxl, hel⟩ := DataW.trod_array hu q4
 have hsz : cs.size = m := by simpa [hct] using hl
 refine rg_of (Value.int k) (fun _ => rfl) hg q3 (by omega) fun j x hx => ?_
 obtain ⟨hj, rfl⟩ := List.getElem?_eq_some_iff.1 hx
 have hE := hel j (by omega)
 rw [hc1, Nat.mul_one, List.getElem?_eq_getElem (by omega : j < xs.length)] at hE
 obtain ⟨z, e1, e2, _⟩ := DataW.trod_int he hE
 have e3 : (xs.map (·.1)) = ls.map fun s => (DataW.lit (.int k s) : DataW Unit) := by
  have := (Prod.mk.inj ex).1
  exact (DataW.agg.inj this).symm
 have e4 : (xs.map (·.1))[j]? = (ls.map fun s => (DataW.lit (.int k s) : DataW Unit))[j]? := by rw [e3]
 rw [List.getElem?_map, List.getElem?_map, List.getElem?_eq_getElem (by omega : j < xs.length), List.getElem?_eq_getElem hj, e2] at e4
 have hz : z = ls[j] := by
  simp only [Option.map_some, Option.some.injEq, DataW.lit.injEq, Lit.int.injEq] at e4
  exact e4.2
 have h0 : ((cs.toList.drop j).take 1)[0]? = some (.int k z) := by rw [e1]; rfl
 have : cs.toList[j]? = some (.int k z) := by simpa using h0
 rw [← hz]; simpa using this
theorem rg_err {n nm : String} {d : DataW Unit} {g te : Nat} {ms : Array (String × TypeId)} (h : Lv P W n (.iface nm d)) (hg : P.globalNamed n = some g) (ht : (P.globals[g]?).map (·.type) = some te) (hu : P.underlying te = some (.interface ms)) : RG (InW W) W g (.tup []) := by
 obtain ⟨g', t', cs, fuel, p, q1, q2, q3, q4⟩ := h
 obtain rfl := Option.some.inj (hg.symm.trans q1)
 obtain rfl := Option.some.inj (ht.symm.trans q2)
 obtain ⟨f1, u, v, e, _⟩ := iface_of_trod hu q4
 obtain ⟨hlt, t, p', hb⟩ := aDN hg q3
 exact ⟨hlt, fun hk => (by cases hk), cs, t, p', hb, u, v, Array.toList_inj.1 e⟩
end
end Go.Proofs.YtodckioppgjbdaaGreatDoor.AM
namespace Go.Proofs.YtodckioppgjbdaaGreatDoor.AM
open Go Go.RowKit
def aGT (b : UInt8) : AV := .v (.int .u8 b.toNat)
theorem aES {S : Nat → Prop} {w : World} : ∀ {l : List UInt8} {cs : List Value}, RL S w (l.map aGT) cs → cs = l.map fun b => .int .u8 b.toNat
 | [], cs, h => by simp only [List.map_nil] at h; unfold RL at h; exact h
 | x :: l, cs, h => by
  simp only [List.map_cons] at h
  unfold RL at h
  obtain ⟨c1, c2, rfl, h1, h2⟩ := h
  rw [aES h2]
  unfold aGT RA at h1
  rw [h1.1]; rfl
section
variable {P : Program} {t : TypeId} {x y : Operand} {a b c : Int}
theorem aHt (h0 : 0 ≤ a) (hb : 0 < b) (hc : a % b = c) : yg P .rem t x y (.int .i64 a) (.int .i64 b) (.int .i64 c) := fun w => by
 have hb0 : b ≠ 0 := by omega
 have hr : (Op.intDiv .rem .i64 a b).run P w = .ok (.int .i64 (a.tmod b)) w := by simp [Op.intDiv, hb0]
 subst hc
 rw [← Int.tmod_eq_emod_of_nonneg h0]
 simp [eqGuard, binOp, hr]
theorem aHs (h0 : 0 ≤ a) (h1 : a ≤ 9223372036854775807) (hb : 1 < b) (hc : a / b = c) : yg P .quo t x y (.int .i64 a) (.int .i64 b) (.int .i64 c) := fun w => by
 have hb0 : b ≠ 0 := by omega
 have hle : a / b ≤ a := Int.ediv_le_self b h0
 have hnn : 0 ≤ a / b := Int.ediv_nonneg h0 (by omega)
 have hw : IntKind.i64.wrap (a.tdiv b) = c := by rw [Int.tdiv_eq_ediv_of_nonneg h0, IntKind.wrap_i64, hc]; omega
 have hr : (Op.intDiv .quo .i64 a b).run P w = .ok (.int .i64 c) w := by simp [Op.intDiv, hb0, hw]
 simp [eqGuard, binOp, hr]
theorem zV {a b : ByteArray} (h : a.size + b.size ≤ 9223372036854775807) : yg P .add t x y (.string a) (.string b) (.string (a ++ b)) := aBI fun w => by
 unfold Op.stringOp
 have : ¬ ((((a.size + b.size : Nat) : Int)) > IntKind.i64.max) := by
  have e : IntKind.i64.max = 9223372036854775807 := by decide
  rw [e]; omega
 simp only [this, if_false]; rfl
end
section
variable {Θ : Tab} {s : St} {d : Option Tmp} {ty : TypeId} {pos : String} {after : Array Edge} {g : Option (Nat × Bool)}
theorem aHD {x : Operand} {n : Int} {b : UInt8} (hb : n = (b.toNat : Int)) (hx : s.ev x = .v (.int .i64 n)) : Pre Tryz.prog Θ ⟨d, .convert 3 5 x, ty, pos, after, g⟩ s ⟨.v (.int .u8 (b.toNat : Int)), none⟩ :=
 aIm (fun w => by
  have hlt := b.toNat_lt
  subst hb
  have hw : IntKind.u8.wrap (b.toNat : Int) = b.toNat := by rw [IntKind.wrap_u8]; omega
  have h1 : (underlying 5).run Tryz.prog w = .ok (.int .u8) w := run_underlying Tryz.underlying5 w
  have h2 : (underlying 3).run Tryz.prog w = .ok (.int .i64) w := run_underlying Tryz.underlying3 w
  simp [convert, h1, h2, Conv.intToInt, hw]) hx rfl
theorem aFm (l : List UInt8) : strOfNums (l.map fun b => ((b.toNat : Nat) : Int)) = ⟨l.toArray⟩ := by
 unfold strOfNums
 congr 2
 rw [List.map_map]
 have : ((fun n : Int => UInt8.ofNat n.toNat) ∘ fun b : UInt8 => ((b.toNat : Nat) : Int)) = id := by
  funext b; simp
 rw [this, List.map_id]
theorem aCM (l : List UInt8) : aCb Tryz.prog 38 9 (.lst 1 (l.map aGT)) (.string ⟨l.toArray⟩) := by
 intro S w hp B V u h
 unfold RV RA at h
 obtain ⟨A, c, e, h1, h2, _, _, h4⟩ := h
 simp only [List.cons.injEq, and_true, List.length_map] at e h1
 subst e
 rcases h4 with h4 | ⟨b, off, us, rfl, hb, hr, hc⟩
 · have h0 := List.map_eq_nil_iff.1 h4
   subst h0
   cases A with
   | none => exact run_convert_bytes_nil w 38 5 Tryz.underlying38 Tryz.underlying5 _ _ 9 Tryz.underlying9
   | some a =>
    rw [run_convert_bytes_string w 38 9 5 _ _ _ Tryz.underlying38 Tryz.underlying5 Tryz.underlying9, run_bytesToString w a _ c [] (by rfl)]
    rfl
 · have hus := aES hr
   rw [← aFm]
   refine run_convert_bytes_arg w 38 5 Tryz.underlying38 Tryz.underlying5 b off l.length c (l.map fun b => ((b.toNat : Nat) : Int)) (by simp) (fun i hi => ?_) 9 Tryz.underlying9
   have := hc i (.int .u8 ((l[i]).toNat : Int)) (by rw [hus]; simp [hi])
   rw [this]
   simp [List.getD, hi]
end
abbrev okN (s : ByteArray) : Bool := Nm.nameOK s.data.toList
theorem aIE : ∀ vs w, (callFunc 92 vs).run Tryz.prog w = .ok (.enter 92 vs) w := wm Tryz.func92 (by kernel_rfl) (by kernel_rfl)
theorem aIF : ∀ vs w, (callFunc 98 vs).run Tryz.prog w = .ok (.enter 98 vs) w := wm Tryz.func98 (by kernel_rfl) (by kernel_rfl)
theorem xK {s : ByteArray} {b : Bool} (hs : s.size ≤ maxLen) (hb : okN s = b) : AC Tryz.prog 92 [.v (.string s)] ⟨.v (.bool b), []⟩ :=
 hb ▸ aAF aIE rfl fun w S0 vs hS hv => by
  obtain ⟨u', rfl, h2⟩ := aAX hv
  rw [aGp h2]
  exact (aAl s w hs).mono fun e w' ⟨h1, h2⟩ => ⟨h1, by subst h2; exact Below.refl _ _⟩
theorem xL {s : ByteArray} {b : Bool} (hs : s.size ≤ maxLen) (hb : okN s = b) : AC Tryz.prog 98 [.v (.string s)] ⟨.v (.bool b), []⟩ :=
 hb ▸ aAF aIF rfl fun w S0 vs hS hv => by
  obtain ⟨u', rfl, h2⟩ := aAX hv
  rw [aGp h2]
  exact (aB4 s w hs).mono fun e w' ⟨h1, h2⟩ => ⟨h1, by subst h2; exact Below.refl _ _⟩
attribute [local irreducible] xM xR xh y9 zF Pre ACG
theorem zN {x : Int} (h : 1 ≤ x) (h' : x ≤ 60) : AC Tryz.prog 159 [.v (.int .i64 x)] ⟨.v (.bool true), []⟩ := by
 refine qrf Tryz.func159 Tryz.ntmps159 Tryz.results159 ?_; conv => whnf
 repeat ((refine qz ?_; conv => whnf))
 exact xI rfl trivial
theorem jZ {x : Int} (h : ¬ (1 ≤ x ∧ x ≤ 60)) : AC Tryz.prog 159 [.v (.int .i64 x)] ⟨.v (.bool false), []⟩ := by
 by_cases h1 : 1 ≤ x
 · refine qrf Tryz.func159 Tryz.ntmps159 Tryz.results159 ?_; conv => whnf
   repeat ((refine qz ?_; conv => whnf))
   exact xI rfl trivial
 · refine qrf Tryz.func159 Tryz.ntmps159 Tryz.results159 ?_; conv => whnf
   repeat ((refine qz ?_; conv => whnf))
   exact xI rfl trivial
end Go.Proofs.YtodckioppgjbdaaGreatDoor.AM
namespace Go.Proofs.YtodckioppgjbdaaGreatDoor.AM
open Go Go.RowKit
def aJE (N : Nat) (l : List Rf) : Prop := ∀ e ∈ l, e.name.size ≤ N
attribute [local irreducible] xM xR xh y9 zF Pre ACG
end Go.Proofs.YtodckioppgjbdaaGreatDoor.AM
namespace Go.Proofs.YtodckioppgjbdaaGreatDoor.AM
open Go Go.RowKit
theorem vP {s : St} {Θ : Tab} {t1 t2 : Nat} {y1 y2 : Value} (h1 : s.sl t1 = .v y1) (h2 : s.sl t2 = .v y2) : kE Θ [.tmp t1, .tmp t2] ⟨.tup [.v y1, .v y2], []⟩ .ret s :=
 ⟨trivial, [], by simp, trivial, ⟨trivial, trivial, trivial⟩, ⟨_, rfl⟩, ⟨aIX h1 trivial, aIX h2 trivial, trivial⟩⟩
attribute [local irreducible] xM xR xh y9 zF Pre ACG
end Go.Proofs.YtodckioppgjbdaaGreatDoor.AM
namespace Go.Proofs.YtodckioppgjbdaaGreatDoor.AM
open Go Go.RowKit
section
variable {Θ : Tab} {s : St} {d : Option Tmp} {ty : TypeId} {pos : String} {after : Array Edge} {g : Option (Nat × Bool)}
theorem aIo {x : Operand} {a c : Int} (h : c = -a) (hl : -9223372036854775808 ≤ c) (hu : c ≤ 9223372036854775807) {t : TypeId} (hx : s.ev x = .v (.int .i64 a)) : Pre Tryz.prog Θ ⟨d, .unOp .neg t x, ty, pos, after, g⟩ s ⟨.v (.int .i64 c), none⟩ := by
 refine ⟨_, _, by rw [hx]; rfl, fun w => ?_, rfl, rfl⟩
 subst h
 have hw : IntKind.i64.wrap (-a) = -a := by rw [IntKind.wrap_i64]; omega
 simp [Op.unary, Op.intArith, hw]
end
attribute [local irreducible] xM xR xh y9 zF Pre ACG
end Go.Proofs.YtodckioppgjbdaaGreatDoor.AM
namespace Go.Proofs.YtodckioppgjbdaaGreatDoor.AM
open Go Go.RowKit
section
variable {Θ : Tab} {ops : Array Oper} {k : Nat} {s : St}
end
section
variable {P : Program} {Θ : Tab} {s : St} {ty : TypeId} {pos : String} {after : Array Edge} {g : Option (Nat × Bool)}
theorem aIQ {d : Nat} {t : TypeId} {x : Operand} {el sz b : Nat} {z y : AV} (hf : s.hp (d + 1) = none) (ht : Θ.look t = .slice el sz b z) (hx : s.ev x = y) (hk : (match y with | .v c => c.oneCell' | .agg _ => true | .lst _ _ => true | .ptr _ => true | _ => false) = true) (hz : Nat.beq (asz y) (asz z) = true) (hsz : Nat.ble sz 65536 = true) (hok : okL (d + 1) = true := by rfl) :
 Pre P Θ ⟨some d, .buildSlice t 1 #[(0, x)], ty, pos, after, g⟩ s ⟨.own (d + 1), some fun s' => s'.set (d + 1) (some ⟨.s el, sz, [y]⟩)⟩ := by
 have hd : s.dat (s.ev x) = y := by rw [hx]; cases y <;> first | rfl | cases hk
 have ho : yK (s.ev x) = [] := by rw [hx]; cases y <;> first | rfl | cases hk
 have hda : xE s (s.ev x) = true := by rw [hx]; cases y <;> first | exact hk | rfl | cases hk
 refine ⟨d, el, sz, b, z, rfl, hf, hok, ht, by rw [Nat.one_mul]; exact Nat.le_of_ble_eq_true hsz, .inl ⟨⟨⟨z, rfl, by rw [hd]; exact Nat.eq_of_beq_eq_true hz⟩, hda, trivial⟩, fun y' hy c e => ?_, ?_, ?_⟩⟩
 · simp at hy
   subst hy; subst e
   simp only [St.ev] at hx; subst hx; exact hk
 · simp [yF, xk, ho]
 · have h1 : yF s (([(0, x)] : List (Nat × Operand)).map (·.2)) = [] := by simp [yF, xk, ho]
   show _ = Eff.mk _ (qJ (yF s (([(0, x)] : List (Nat × Operand)).map (·.2))) _)
   rw [h1]
   show _ = Eff.mk _ (some _)
   congr 2
   funext s'
   show s'.set (d + 1) (some ⟨.s el, sz, [y]⟩) = s'.set (d + 1) (some ⟨.s el, sz, [s.dat (s.ev x)]⟩)
   rw [hd]
theorem jG {d : Option Tmp} {t : TypeId} {ps : Array (Nat × Operand)} {fs : List (Nat × Nat)} {z : List AV} (ht : Θ.look t = .struct fs z) (hm : qV s (vZ z) ps.toList) (hc : vY (ps.toList.map (·.2)) = true) :
 Pre P Θ ⟨d, .build t ps, ty, pos, after, g⟩ s ⟨.mix (uV s (vZ z) ps.toList), none⟩ := ⟨fs, z, ht, .inr ⟨hm, uQ hc, rfl⟩⟩
end
def aIp (ops : Array Oper) : Bool :=
 (List.range ops.size).all fun j => match ops[j]? with
  | some o => (tmpsOf o).all fun t => (List.range ops.size).all fun j' => match (ops[j']?).bind (·.dst) with
   | some t' => !(Nat.beq t' t) || (!(Nat.beq j' j) && (((Region.before ops).getD j 0).testBit j' || jC ops j'))
   | none => true
  | none => true
theorem zw {ops : Array Oper} (h : aIp ops = true) : jL ops := by
 intro j o ho t ht j' o' ho' hd
 have h1 := List.all_eq_true.1 h j (List.mem_range.2 (Array.getElem?_eq_some_iff.1 ho).1)
 simp only [ho] at h1
 have h2 := List.all_eq_true.1 (List.all_eq_true.1 h1 t ht) j' (List.mem_range.2 (Array.getElem?_eq_some_iff.1 ho').1)
 simp only [ho', Option.bind_some, hd, Nat.beq_refl, Bool.not_true, Bool.false_or, Bool.and_eq_true, Bool.not_eq_true', Bool.or_eq_true] at h2
 exact ⟨fun e => by rw [e] at h2; simp at h2, h2.2⟩
mutual
def vI : AV → List Nat
 | .own l => [l]
 | .optr l _ _ _ => [l]
 | .mapv l => [l]
 | .tup xs => qP xs
 | .mix xs => qP xs
 | .fn _ xs ys => qP xs ++ qP ys
 | .ifc _ x => vI x
 | _ => []
def qP : List AV → List Nat
 | [] => []
 | x :: xs => vI x ++ qP xs
end
mutual
theorem uW {l : Nat} : ∀ x : AV, x.names l = true → l ∈ vI x
 | .own l', h => by simp only [AV.names] at h; simp [vI, Nat.eq_of_beq_eq_true h]
 | .optr l' _ _ _, h => by simp only [AV.names] at h; simp [vI, Nat.eq_of_beq_eq_true h]
 | .mapv l', h => by simp only [AV.names] at h; simp [vI, Nat.eq_of_beq_eq_true h]
 | .tup xs, h => by simp only [AV.names] at h; unfold vI; exact vS xs h
 | .mix xs, h => by simp only [AV.names] at h; unfold vI; exact vS xs h
 | .fn _ xs ys, h => by
  simp only [AV.names, Bool.or_eq_true] at h; unfold vI
  exact List.mem_append.2 (h.imp (vS xs) (vS ys))
 | .ifc _ x, h => by simp only [AV.names] at h; unfold vI; exact uW x h
 | .any, h => by simp [AV.names] at h
 | .v _, h => by simp [AV.names] at h
 | .agg _, h => by simp [AV.names] at h
 | .lst _ _, h => by simp [AV.names] at h
 | .ptr _, h => by simp [AV.names] at h
 | .rd _, h => by simp [AV.names] at h
theorem vS {l : Nat} : ∀ xs : List AV, xD l xs = true → l ∈ qP xs
 | [], h => by simp [xD] at h
 | x :: xs, h => by
  simp only [xD, Bool.or_eq_true] at h; unfold qP
  exact List.mem_append.2 (h.imp (uW x) (vS xs))
end
theorem qL {l : Nat} : ∀ {nu : List (Nat × Option OB)}, xg nu l → l ∈ nu.map (·.1)
 | [], ⟨o, h⟩ => by simp [xw] at h
 | (m, ob) :: r, ⟨o, h⟩ => by
  simp only [xw] at h
  cases e : Nat.beq l m with
  | true => simp [Nat.eq_of_beq_eq_true e]
  | false => rw [e] at h; exact List.mem_cons_of_mem _ (qL ⟨o, h⟩)
def aCe (ops : Array Oper) (k : Nat) (t : Tmp) : Bool := (List.range ops.size).any fun j' => match (ops[j']?).bind (·.dst) with
 | some t' => Nat.beq t' t && (!(Nat.blt j' k) && !(jC ops j'))
 | none => false
theorem aAs {ops : Array Oper} {k : Nat} {t : Tmp} (h : aCe ops k t = true) (hf : zf ops (fun j => Nat.blt j k) t) : False := by
 obtain ⟨j', hj', h3⟩ := List.any_eq_true.1 h
 cases ho' : ops[j']? with
 | none => rw [ho'] at h3; cases h3
 | some o' =>
  rw [ho'] at h3
  cases hd : o'.dst with
  | none => simp only [Option.bind_some, hd] at h3; cases h3
  | some t' =>
   simp only [Option.bind_some, hd, Bool.and_eq_true, Bool.not_eq_true'] at h3
   have : t' = t := Nat.eq_of_beq_eq_true h3.1
   subst this
   rcases hf j' o' ho' hd with h4 | h4
   · simp only at h4
     rw [h4] at h3; simp at h3
   · rw [h4] at h3; simp at h3
def aGt (ops : Array Oper) (k : Nat) (s : St) (ks ls : List Nat) : Bool :=
 (List.range ops.size).all fun j => Nat.beq j k || (zu ops j k || (match ops[j]? with
  | some o => ((tmpsOf o).all fun t => ((List.range ops.size).any fun j' => match (ops[j']?).bind (·.dst) with
   | some t' => Nat.beq t' t && (!(Nat.blt j' k) && !(jC ops j'))
   | none => false) || ls.all fun l => !((s.sl t).names l)) || (ks.isEmpty && wvB ops k o)
  | none => true))
theorem aGU {ops : Array Oper} {k : Nat} {s : St} {ks ls : List Nat} (h : aGt ops k s ks ls = true) : ∀ j o, ops[j]? = some o → j ≠ k → zu ops j k = false → (ks = [] ∧ wvB ops k o = true) ∨ ∀ t, t ∈ tmpsOf o → (∀ j' o', ops[j']? = some o' → o'.dst = some t → Nat.blt j' k = true ∨ jC ops j' = true) → ∀ l ∈ ls, (s.sl t).names l = false := by
 intro j o hj hne hor
 have h1 := List.all_eq_true.1 h j (List.mem_range.2 (Array.getElem?_eq_some_iff.1 hj).1)
 simp only [x9 hne, hor, Bool.false_or, hj] at h1
 rcases (Bool.or_eq_true _ _).mp h1 with h1 | h1
 case inr =>
  rw [Bool.and_eq_true] at h1
  exact .inl ⟨List.isEmpty_iff.1 h1.1, h1.2⟩
 refine .inr fun t ht hL l hl => ?_
 have h2 := List.all_eq_true.1 h1 t ht
 rw [Bool.or_eq_true] at h2
 rcases h2 with h2 | h2
 · obtain ⟨j', hj', h3⟩ := List.any_eq_true.1 h2
   cases ho' : ops[j']? with
   | none => rw [ho'] at h3; cases h3
   | some o' =>
    rw [ho'] at h3
    cases hd : o'.dst with
    | none => simp only [Option.bind_some, hd] at h3; cases h3
    | some t' =>
     simp only [Option.bind_some, hd, Bool.and_eq_true, Bool.not_eq_true'] at h3
     have : t' = t := Nat.eq_of_beq_eq_true h3.1
     subst this
     rcases hL j' o' ho' hd with h4 | h4 <;> rw [h4] at h3 <;> simp at h3
 · have := List.all_eq_true.1 h2 l hl
   simpa using this
def evB (ops : Array Oper) (k : Nat) (s : St) (o : Oper) (ks ls : List Nat) : Bool :=
 (aGt ops k s ks ls && (((ls.isEmpty || (List.range ops.size).all fun j => Nat.beq j k || (zu ops j k || (match ops[j]? with
  | some o' => (tmpsOf o').all fun t => aCe ops k t || (vI (s.sl t)).all fun l0 => match s.hp l0 with | some ob => ls.all fun l => !(yN l ob.e) | none => true
  | none => true))) && (ks.isEmpty || (List.range ops.size).all fun j => match ops[j]? with
  | some o' => (tmpsOf o').all fun t => aCe ops k t || (vI (s.sl t)).all fun l => match s.hp l with | some ob => ob.e.shut | none => true
  | none => true)) && ((!(aD9 o) || (List.range ops.size).all fun j => Nat.beq j k || (zu ops j k || (match ops[j]? with
  | some o' => aBy o'
  | none => true))) && (!(aBy o) || ks.isEmpty)))) &&
 ((ks.isEmpty || (List.range ops.size).all fun j => match ops[j]? with
  | some o => (tmpsOf o).all fun t => aCe ops k t || ((ks.all fun l => !((s.sl t).names l)) || (vI (s.sl t)).all fun l => ls.contains l) &&
   (Nat.beq j k || (zu ops j k || (vI (s.sl t)).all fun l => match s.hp l with | some ob => ob.e.shut | none => true))
  | none => true) &&
 (List.range ops.size).all fun j => Nat.beq j k || (zu ops j k || (match (ops[j]?).bind (·.dst) with
  | some d => ls.all fun l => !(Nat.beq (l % 1000) ((d + 1) % 1000))
  | none => true)))
section
variable {P : Program} {Θ : Tab} {n : Nat} {ops : Array Oper} {k : Nat} {s : St} {o : Oper} {u : AV} {ks : List Nat} {nu : List (Nat × Option OB)}
theorem aGu (hs : SftG P Θ o s u ks nu) (hin : ∀ l ∈ nu.map (·.1), xg nu l) (hB : evB ops k s o ks (nu.map (·.1)) = true) (hqt : vT o = true → nu = [] ∧ Pre P Θ o s ⟨u, none⟩) : Ev P Θ ops (fun j => Nat.blt j k) k o s u ks nu := by
 simp only [evB, Bool.and_eq_true] at hB
 obtain ⟨⟨b1, ⟨bf, bc⟩, bo, bn⟩, b2, b3⟩ := hB
 have key : ∀ (j : Nat) (o' : Oper), ops[j]? = some o' → ∀ t ∈ tmpsOf o', zf ops (fun j => Nat.blt j k) t → ks = [] ∨
  (((ks.all fun l => !((s.sl t).names l)) || (vI (s.sl t)).all fun l => (nu.map (·.1)).contains l) = true ∧ (Nat.beq j k || (zu ops j k || (vI (s.sl t)).all fun l => match s.hp l with | some ob => ob.e.shut | none => true)) = true) := fun j o' ho t ht hf => by
  rcases (Bool.or_eq_true _ _).mp b2 with h | h
  · exact .inl (List.isEmpty_iff.1 h)
  · have h1 := List.all_eq_true.1 h j (List.mem_range.2 (Array.getElem?_eq_some_iff.1 ho).1)
    simp only [ho] at h1
    have h2 := List.all_eq_true.1 h1 t ht
    rcases (Bool.or_eq_true _ _).mp h2 with h3 | h3
    · exact (aAs h3 hf).elim
    · exact .inr (by simpa [Bool.and_eq_true] using h3)
 refine ⟨hs, fun j o' ho hne hor => (aGU b1 j o' ho hne hor).imp id fun hA t ht hf l hl => hA t ht hf l (qL hl), fun j o' ho t ht hf => ?_, fun j o' ho hne hor t ht hf l ob hn hob => ?_, fun j o' ho hne hor d hd l hl => ?_, fun j o' ho hne hor t ht hf l0 ob l hn hob hl => ?_, ?_, fun hst j o' ho hne hor => ?_, fun hnk => ?_, hqt⟩
 · rcases key j o' ho t ht hf with rfl | ⟨h, _⟩
   · exact .inl fun l hl => by cases hl
   · rcases (Bool.or_eq_true _ _).mp h with h | h
     · exact .inl fun l hl => by simpa using List.all_eq_true.1 h l hl
     · exact .inr fun l hl => hin l (by simpa using List.all_eq_true.1 h l (uW _ hl))
 · rcases key j o' ho t ht hf with rfl | ⟨_, h⟩
   · exact .inl rfl
   · rw [x9 hne, hor] at h
     simp only [Bool.false_or] at h
     have := List.all_eq_true.1 h l (uW _ hn)
     simp only [hob] at this
     exact .inr this
 · have h1 := List.all_eq_true.1 b3 j (List.mem_range.2 (Array.getElem?_eq_some_iff.1 ho).1)
   rw [x9 hne, hor] at h1
   simp only [Bool.false_or, ho, Option.bind_some, hd] at h1
   have := List.all_eq_true.1 h1 l (qL hl)
   intro e
   rw [e] at this
   simp at this
 · have hm := qL hl
   rcases (Bool.or_eq_true _ _).mp bf with h | h
   · rw [List.isEmpty_iff.1 h] at hm; cases hm
   · have h1 := List.all_eq_true.1 h j (List.mem_range.2 (Array.getElem?_eq_some_iff.1 ho).1)
     rw [x9 hne, hor] at h1
     simp only [Bool.false_or, ho] at h1
     have h2 := List.all_eq_true.1 h1 t ht
     rcases (Bool.or_eq_true _ _).mp h2 with h3 | h3
     · exact (aAs h3 hf).elim
     · have h4 := List.all_eq_true.1 h3 l0 (uW _ hn)
       simp only [hob] at h4
       have h5 := List.all_eq_true.1 h4 l hm
       simpa using h5
 · rcases (Bool.or_eq_true _ _).mp bc with h | h
   · exact .inl (List.isEmpty_iff.1 h)
   · refine .inr fun j o' ho t ht hf l0 ob hn hob => ?_
     have h1 := List.all_eq_true.1 h j (List.mem_range.2 (Array.getElem?_eq_some_iff.1 ho).1)
     simp only [ho] at h1
     have h2 := List.all_eq_true.1 h1 t ht
     rcases (Bool.or_eq_true _ _).mp h2 with h3 | h3
     · exact (aAs h3 hf).elim
     · have h4 := List.all_eq_true.1 h3 l0 (uW _ hn)
       simp only [hob] at h4
       exact h4
 · rw [hst] at bo
   have h1 := List.all_eq_true.1 bo j (List.mem_range.2 (Array.getElem?_eq_some_iff.1 ho).1)
   rw [x9 hne, hor] at h1
   simpa only [Bool.false_or, ho] using h1
 · rw [hnk] at bn
   exact List.isEmpty_iff.1 bn
theorem zZ {l : Nat} (h : xg [] l) : False := by obtain ⟨o, h⟩ := h; simp [xw] at h
theorem aGk {v : AV} (hp : Pre P Θ o s ⟨v, none⟩) (hc : calm Θ true o = true) (hv : uT o = true ∨ v.within (fun _ => false) = true) : Sft P Θ o s v [] [] := by
 refine ⟨fun s' h1 h2 => ⟨⟨v, none⟩, wT (two := true) hc h1 (fun _ l ⟨x, hx, hn⟩ => ?_) hp, fun K hK => .done hK⟩, fun l ob h => by simp [xw] at h, fun l hl => (by cases hl), fun l hl => ?_, fun l hl => (zZ hl).elim, fun l ob hl => (zZ hl).elim⟩
 · cases x with
   | tmp t => exact (h2 l (.inr ⟨t, yc hx, hn⟩)).1
   | global g => simp [St.ev, uU] at hn
   | _ => simp [St.ev, AV.names, xD] at hn
 · rcases hv with hv | hv
   · exact .inr (kD hv hp l hl)
   · have := zJ v hv hl; cases this
theorem vJ {K : St → Prop} (h : K s) : xh P Θ n ops k [] s K := Gh.done h
theorem xN {r : List Oper} {K : St → Prop} {v : AV} (hp : Pre P Θ o s ⟨v, none⟩) (hin : inN n o.dst = true) (hg : o.guard = none) (hc : calm Θ true o = true) (hv : uT o = true ∨ v.within (fun _ => false) = true) (hB : evB ops k s o [] [] = true) (h : xh P Θ n ops (k + 1) r (s.put o.dst v) K) : xh P Θ n ops k (o :: r) s K :=
 ⟨hin, hg, .inl ⟨v, [], [], aGu (aGk hp hc hv).g (fun l hl => by cases hl) hB (fun _ => ⟨rfl, hp⟩), h⟩⟩
theorem xX {r : List Oper} {K : St → Prop} (hs : Sft P Θ o s u ks nu) (hn : ∀ l ∈ nu.map (·.1), xg nu l) (hin : inN n o.dst = true) (hg : o.guard = none) (hB : evB ops k s o ks (nu.map (·.1)) = true) (h : xh P Θ n ops (k + 1) r ((shp ks nu s).put o.dst u) K) (hq : vT o = false := by rfl) : xh P Θ n ops k (o :: r) s K :=
 ⟨hin, hg, .inl ⟨u, ks, nu, aGu hs.g hn hB (fun h => by rw [hq] at h; cases h), h⟩⟩
end
abbrev uD (x : AV) : Bool := x.within (fun _ => false)
mutual
theorem jQ (s s' : St) : ∀ x : AV, uD x = true → s'.dat x = s.dat x
 | .own l, h => by simp [uD, AV.within] at h
 | .optr l _ _ _, h => by simp [uD, AV.within] at h
 | .mix xs, h => by unfold St.dat; rw [aBM s s' xs (by simpa [uD, AV.within] using h)]
 | .ifc t x, h => by unfold St.dat; rw [jQ s s' x (by simpa [uD, AV.within] using h)]
 | .mapv l, h => by simp [uD, AV.within] at h
 | .tup xs, h => by simp [St.dat]
 | .fn _ xs ys, h => by simp [St.dat]
 | .any, h => by simp [St.dat]
 | .v _, h => by simp [St.dat]
 | .agg _, h => by simp [St.dat]
 | .lst _ _, h => by simp [St.dat]
 | .ptr _, h => by simp [St.dat]
 | .rd _, h => by simp [St.dat]
theorem aBM (s s' : St) : ∀ xs : List AV, zq (fun _ => false) xs = true → s'.datL xs = s.datL xs
 | [], _ => by simp [St.datL]
 | x :: xs, h => by
  simp only [zq, Bool.and_eq_true] at h
  simp only [St.datL]; rw [jQ s s' x h.1, aBM s s' xs h.2]
end
mutual
theorem kr (s s' : St) : ∀ x : AV, uD x = true → xE s' x = xE s x
 | .own l, h => by simp [uD, AV.within] at h
 | .optr l _ _ _, h => by simp [uD, AV.within] at h
 | .mix xs, h => by unfold xE; rw [aAA s s' xs (by simpa [uD, AV.within] using h)]
 | .ifc t x, h => by simp [xE]
 | .mapv l, h => by simp [uD, AV.within] at h
 | .tup xs, h => by simp [xE]
 | .fn _ xs ys, h => by simp [xE]
 | .any, h => by simp [xE]
 | .v _, h => by simp [xE]
 | .agg _, h => by simp [xE]
 | .lst _ _, h => by simp [xE]
 | .ptr _, h => by simp [xE]
 | .rd _, h => by simp [xE]
theorem aAA (s s' : St) : ∀ xs : List AV, zq (fun _ => false) xs = true → zL s' xs = zL s xs
 | [], _ => by simp [zL]
 | x :: xs, h => by
  simp only [zq, Bool.and_eq_true] at h
  simp only [zL]; rw [kr s s' x h.1, aAA s s' xs h.2]
end
theorem aEb (s s' : St) (x : AV) (h : uD x = true) : uo s' x = uo s x := by
 cases x with
 | ifc t y => simp only [uo]; exact kr s s' y (by simpa [uD, AV.within] using h)
 | own l => simp [uD, AV.within] at h
 | optr l i p c => simp [uD, AV.within] at h
 | mix xs => simp only [uo]; exact kr s s' (.mix xs) h
 | fn f xs ys => cases xs <;> cases ys <;> simp [uo]
 | _ => simp [uo, xE]
theorem j5 (s s' : St) : ∀ xs : List AV, (xs.all uD) = true → zD s' xs = zD s xs
 | [], _ => rfl
 | x :: xs, h => by
  simp only [List.all_cons, Bool.and_eq_true] at h
  simp only [zD]; rw [aEb s s' x h.1, j5 s s' xs h.2]
def zl (d : Nat) : Nat → List OB → List (Nat × Option OB)
 | _, [] => []
 | k, ob :: r => (d + 1000 * k, some ob) :: zl d (k + 1) r
theorem qY {d : Nat} : ∀ (r : List OB) (k k' : Nat), k < k' → xw (zl d k' r) (d + 1000 * k) = none
 | [], _, _, _ => rfl
 | ob :: r, k, k', h => by
  have hne : d + 1000 * k ≠ d + 1000 * k' := by omega
  simp only [zl, xw]
  rw [x9 hne]; exact qY r k (k' + 1) (by omega)
theorem ve {d : Nat} : ∀ (r : List OB) (k l : Nat) (o : Option OB), xw (zl d k r) l = some o → ∃ j ob, l = d + 1000 * j ∧ o = some ob ∧ ob ∈ r ∧ k ≤ j ∧ r[j - k]? = some ob
 | [], _, _, _, h => by simp [zl, xw] at h
 | ob :: r, k, l, o, h => by
  simp only [zl, xw] at h
  cases e : Nat.beq l (d + 1000 * k) with
  | true =>
   rw [e] at h; simp only [cond_true, Option.some.injEq] at h
   exact ⟨k, ob, Nat.eq_of_beq_eq_true e, h.symm, by simp, Nat.le_refl _, by simp⟩
  | false =>
   rw [e] at h
   obtain ⟨j, ob', h1, h2, h3, h4, h5⟩ := ve r (k + 1) l o h
   exact ⟨j, ob', h1, h2, List.mem_cons_of_mem _ h3, by omega, by
    have : j - k = (j - (k + 1)) + 1 := by omega
    rw [this, List.getElem?_cons_succ]; exact h5⟩
theorem qX {s : St} {d : Nat} : ∀ (r : List OB) (k : Nat), yG s d k r → ∀ j, k ≤ j → j < k + r.length → s.hp (d + 1000 * j) = none
 | [], k, _, j, h1, h2 => by simp at h2; omega
 | ob :: r, k, h, j, h1, h2 => by
  unfold yG at h
  rcases Nat.eq_or_lt_of_le h1 with e | e
  · subst e; exact h.1.1
  · exact qX r (k + 1) h.2 j (by omega) (by simp at h2; omega)
theorem jc {s s' : St} {d : Nat} : ∀ (r : List OB) (k : Nat), (∀ j, k ≤ j → j < k + r.length → s'.hp (d + 1000 * j) = s.hp (d + 1000 * j)) → yG s d k r → yG s' d k r
 | [], _, _, _ => trivial
 | ob :: r, k, hh, h => by
  unfold yG at h ⊢
  exact ⟨⟨(hh k (Nat.le_refl _) (by simp)).trans h.1.1, h.1.2⟩, jc r (k + 1) (fun j h1 h2 => hh j (by omega) (by simp; omega)) h.2⟩
theorem aAS {d : Nat} : ∀ (r : List OB) (k j : Nat), k ≤ j → j < k + r.length → xg (zl d k r) (d + 1000 * j)
 | [], k, j, h1, h2 => by simp at h2; omega
 | ob :: r, k, j, h1, h2 => by
  unfold xg
  simp only [zl, xw]
  cases e : Nat.beq (d + 1000 * j) (d + 1000 * k) with
  | true => exact ⟨_, rfl⟩
  | false =>
   have hne : j ≠ k := fun h => by subst h; rw [Nat.beq_refl] at e; cases e
   exact aAS r (k + 1) j (by omega) (by simp at h2; omega)
theorem qh {d : Nat} : ∀ (r : List OB) (k : Nat) (s : St), zT d k r s = shp [] (zl d k r) s
 | [], k, s => rfl
 | ob :: r, k, s => by
  show zT d (k + 1) r (s.set (d + 1000 * k) (some ob)) = _
  rw [qh r (k + 1)]
  unfold shp St.set
  congr 1
  · funext j
    simp only [zl, xw]
    cases e : Nat.beq j (d + 1000 * k) with
    | true =>
     have := Nat.eq_of_beq_eq_true e
     subst this
     rw [qY r k (k + 1) (by omega)]; rfl
    | false => rfl
  · funext j
    simp only [zl, xw]
    cases e : Nat.beq j (d + 1000 * k) with
    | true =>
     have := Nat.eq_of_beq_eq_true e
     subst this
     rw [qY r k (k + 1) (by omega)]; rfl
    | false => rfl
section
variable {P : Program} {Θ : Tab} {s : St} {ty : TypeId} {pos : String} {after : Array Edge} {g : Option (Nat × Bool)}
theorem vo {f : FuncId} {ags : Array Operand} {ts : Array TypeId} {t : Nat} {args : List AV} {out : Out} (hac : AC P f args out) (ha : (ags.toList.map fun x => s.dat (s.ev x)) = args) (hfl : (yF s ags.toList).isEmpty = true) (hw : (ags.toList.map s.ev).all uD = true) (hfr : yG s (t + 1) 0 out.obs) (hok : zD s (ags.toList.map s.ev) = true) (hc : vY ags.toList = true)
 (hv : (ren (t + 1) out.val).within (fun l => (xw (zl (t + 1) 0 out.obs) l).isSome) = true) :
 Sft P Θ ⟨some t, .call ⟨.value (.func f), ags, ts⟩, ty, pos, after, g⟩ s (ren (t + 1) out.val) [] (zl (t + 1) 0 out.obs) := by
 have hsh := jS out.obs 0 hfr
 refine ⟨fun s' h1 h2 => ?_, fun l ob h => ?_, fun l hl => (by cases hl), fun l hl => ?_, fun l ⟨o, hl⟩ => ?_, fun l ob ⟨o, hl⟩ ho => ?_⟩
 · have hev : ∀ x ∈ ags.toList, s'.ev x = s.ev x := fun x hx => h1 x (by simp [Op.operands, Call.operands] at hx ⊢; exact .inr hx)
   have hmap : ags.toList.map s'.ev = ags.toList.map s.ev := List.map_congr_left hev
   refine ⟨⟨ren (t + 1) out.val, vk (t + 1) out.obs⟩, jq hac ?_ (.inl ?_) (jc out.obs 0 (fun j h3 h4 => (h2 _ (.inl (aAS out.obs 0 j h3 h4))).1) hfr) ?_ hc, fun K hK => .done ?_⟩
   · rw [← ha]
     refine List.map_congr_left fun x hx => ?_
     rw [hev x hx]
     exact jQ s s' _ (List.all_eq_true.1 hw _ (List.mem_map_of_mem hx))
   · unfold yF at hfl ⊢; rw [hmap]; exact hfl
   · rw [hmap, j5 s s' _ hw]; exact hok
   · cases ho : out.obs with
     | nil => rw [ho] at hK; exact hK
     | cons ob r =>
      rw [ho] at hK
      show K ((zT (t + 1) 0 (ob :: r) s').put (some t) (ren (t + 1) out.val))
      rw [qh]; exact hK
 · obtain ⟨j, ob', _, e, hm, _⟩ := ve out.obs 0 l _ h
   cases e; exact hsh ob hm
 · have := zJ _ hv hl
   obtain ⟨o, ho⟩ := Option.isSome_iff_exists.1 this
   exact .inl ⟨o, ho⟩
 · obtain ⟨j, ob', e, _⟩ := ve out.obs 0 l _ hl
   exact .inl ⟨t, rfl, by rw [e]; omega⟩
 · obtain ⟨j, ob', e, _, _, h4, h5⟩ := ve out.obs 0 l _ hl
   have hj := (List.getElem?_eq_some_iff.1 h5).1
   have := qX out.obs 0 hfr j h4 (by omega)
   rw [← e, ho] at this; cases this
end
theorem aEY (l : Nat) (ob : OB) (s : St) : s.set l (some ob) = shp [] [(l, some ob)] s := by
 unfold shp St.set
 congr 1
 · funext j; show (bif Nat.beq j l then some ob else s.hp j) = (match (bif Nat.beq j l then some (some ob) else none) with | some o => o | none => s.hp j)
   cases Nat.beq j l <;> rfl
 · funext j; show (bif Nat.beq j l then none else s.mp j) = (match (bif Nat.beq j l then some (some ob) else none) with | some _ => none | none => s.mp j)
   cases Nat.beq j l <;> rfl
theorem nu1 {l m : Nat} {ob : OB} {o : Option OB} (h : xw [(l, some ob)] m = some o) : m = l ∧ o = some ob := by
 simp only [xw] at h
 cases e : Nat.beq m l with
 | true => rw [e] at h; simp only [cond_true, Option.some.injEq] at h; exact ⟨Nat.eq_of_beq_eq_true e, h.symm⟩
 | false => rw [e] at h; cases h
theorem in1 (l : Nat) (ob : OB) : xg [(l, some ob)] l := ⟨some ob, by simp [xw]⟩
section
variable {P : Program} {Θ : Tab} {s : St} {ty : TypeId} {pos : String} {after : Array Edge} {g : Option (Nat × Bool)}
end
section
variable {P : Program} {Θ : Tab} {s : St} {ty : TypeId} {pos : String} {after : Array Edge} {g : Option (Nat × Bool)}
end
mutual
theorem ji {s s' : St} : ∀ x : AV, (∀ l, x.names l = true → s'.hp l = s.hp l) → s'.dat x = s.dat x ∧ xE s' x = xE s x
 | .own l, h => by
  have := h l (by simp [AV.names])
  simp only [St.dat, xE, this, and_self]
 | .optr l i p c, h => by
  have := h l (by simp [AV.names])
  simp only [St.dat, xE, this, and_self]
 | .mix xs, h => by
  obtain ⟨h1, h2⟩ := aCx xs (fun l hl => h l (by simpa [AV.names] using hl))
  simp only [St.dat, xE, h1, h2, and_self]
 | .ifc t x, h => by
  obtain ⟨h1, _⟩ := ji x (fun l hl => h l (by simpa [AV.names] using hl))
  simp only [St.dat, xE, h1, and_self]
 | .rd x, _ => ⟨rfl, rfl⟩
 | .any, _ => ⟨rfl, rfl⟩
 | .v _, _ => ⟨rfl, rfl⟩
 | .agg _, _ => ⟨rfl, rfl⟩
 | .lst _ _, _ => ⟨rfl, rfl⟩
 | .ptr _, _ => ⟨rfl, rfl⟩
 | .tup _, _ => ⟨rfl, rfl⟩
 | .mapv _, _ => ⟨rfl, rfl⟩
 | .fn _ _ _, _ => ⟨rfl, rfl⟩
theorem aCx {s s' : St} : ∀ xs : List AV, (∀ l, xD l xs = true → s'.hp l = s.hp l) → s'.datL xs = s.datL xs ∧ zL s' xs = zL s xs
 | [], _ => ⟨rfl, rfl⟩
 | x :: xs, h => by
  obtain ⟨h1, h2⟩ := ji x (fun l hl => h l (by simp [xD, hl]))
  obtain ⟨h3, h4⟩ := aCx xs (fun l hl => h l (by simp [xD, hl]))
  simp only [St.datL, zL, h1, h2, h3, h4, and_self]
end
theorem aGR {s s' : St} (x : AV) (h : ∀ l, x.names l = true → s'.hp l = s.hp l) : uo s' x = uo s x := by
 cases x with
 | fn f xs ys => cases xs <;> cases ys <;> rfl
 | ifc t x => exact (ji x (fun l hl => h l (by simpa [AV.names] using hl))).2
 | _ => first | rfl | exact (ji _ h).2
theorem aCK {s s' : St} : ∀ xs : List AV, (∀ l, xD l xs = true → s'.hp l = s.hp l) → zD s' xs = zD s xs
 | [], _ => rfl
 | x :: xs, h => by
  simp only [zD]
  rw [aGR x (fun l hl => h l (by simp [xD, hl])), aCK xs (fun l hl => h l (by simp [xD, hl]))]
theorem aB5 {s : St} {l : Nat} : ∀ xs : List Operand, xD l (xs.map s.ev) = true → ∃ t, Operand.tmp t ∈ xs ∧ (s.sl t).names l = true
 | [], h => by simp [xD] at h
 | x :: xs, h => by
  simp only [List.map_cons, xD, Bool.or_eq_true] at h
  rcases h with h | h
  · cases x with
    | tmp t => exact ⟨t, by simp, h⟩
    | global g => simp [St.ev, uU] at h
    | _ => simp [St.ev, AV.names, xD] at h
  · obtain ⟨t, h1, h2⟩ := aB5 xs h
    exact ⟨t, List.mem_cons_of_mem _ h1, h2⟩
section
variable {P : Program} {Θ : Tab} {s : St} {ty : TypeId} {pos : String} {after : Array Edge} {g : Option (Nat × Bool)}
theorem jX {f : FuncId} {ags : Array Operand} {ts : Array TypeId} {t : Nat} {args : List AV} {out : Out} (hac : AC P f args out) (ha : (ags.toList.map fun x => s.dat (s.ev x)) = args) (hfl : out.flat) (hfr : yG s (t + 1) 0 out.obs) (hok : zD s (ags.toList.map s.ev) = true) (hc : vY ags.toList = true)
 (hv : (ren (t + 1) out.val).within (fun l => (xw (zl (t + 1) 0 out.obs) l).isSome) = true) :
 Sft P Θ ⟨some t, .call ⟨.value (.func f), ags, ts⟩, ty, pos, after, g⟩ s (ren (t + 1) out.val) [] (zl (t + 1) 0 out.obs) := by
 have hsh := jS out.obs 0 hfr
 refine ⟨fun s' h1 h2 => ?_, fun l ob h => ?_, fun l hl => (by cases hl), fun l hl => ?_, fun l ⟨o, hl⟩ => ?_, fun l ob ⟨o, hl⟩ ho => ?_⟩
 · have hev : ∀ x ∈ ags.toList, s'.ev x = s.ev x := fun x hx => h1 x (by simp [Op.operands, Call.operands] at hx ⊢; exact .inr hx)
   have hmap : ags.toList.map s'.ev = ags.toList.map s.ev := List.map_congr_left hev
   have hn : ∀ l, xD l (ags.toList.map s.ev) = true → s'.hp l = s.hp l := fun l hl => by
    obtain ⟨t', h3, h4⟩ := aB5 _ hl
    exact (h2 l (.inr ⟨t', yc (by simp [Op.operands, Call.operands] at h3 ⊢; exact h3), h4⟩)).1
   refine ⟨⟨ren (t + 1) out.val, vk (t + 1) out.obs⟩, jq hac ?_ (.inr hfl) (jc out.obs 0 (fun j h3 h4 => (h2 _ (.inl (aAS out.obs 0 j h3 h4))).1) hfr) ?_ hc, fun K hK => .done ?_⟩
   · rw [← ha]
     refine List.map_congr_left fun x hx => ?_
     rw [hev x hx]
     refine (ji _ fun l hl => ?_).1
     cases x with
     | tmp t' => exact (h2 l (.inr ⟨t', yc (by simp [Op.operands, Call.operands] at hx ⊢; exact hx), hl⟩)).1
     | global g => simp [St.ev, uU] at hl
     | _ => simp [St.ev, AV.names, xD] at hl
   · rw [hmap, aCK _ hn]; exact hok
   · cases ho : out.obs with
     | nil => rw [ho] at hK; exact hK
     | cons ob r =>
      rw [ho] at hK
      show K ((zT (t + 1) 0 (ob :: r) s').put (some t) (ren (t + 1) out.val))
      rw [qh]; exact hK
 · obtain ⟨j, ob', _, e, hm, _⟩ := ve out.obs 0 l _ h
   cases e; exact hsh ob hm
 · have := zJ _ hv hl
   obtain ⟨o, ho⟩ := Option.isSome_iff_exists.1 this
   exact .inl ⟨o, ho⟩
 · obtain ⟨j, ob', e, _⟩ := ve out.obs 0 l _ hl
   exact .inl ⟨t, rfl, by rw [e]; omega⟩
 · obtain ⟨j, ob', e, _, _, h4, h5⟩ := ve out.obs 0 l _ hl
   have hj := (List.getElem?_eq_some_iff.1 h5).1
   have := qX out.obs 0 hfr j h4 (by omega)
   rw [← e, ho] at this; cases this
theorem uO {d : Option Tmp} {t : Nat} {y : AV} (hx : s.sl t = y) : Sft P Θ ⟨d, .assign (.tmp t), ty, pos, after, g⟩ s y [] [] := by
 refine ⟨fun s' h1 h2 => ⟨⟨y, none⟩, aEs ((h1 (.tmp t) (by simp [Op.operands])).trans hx), fun K hK => .done hK⟩, fun l ob h => by simp [xw] at h, fun l hl => (by cases hl), fun l hl => .inr ⟨t, yc (by simp [Op.operands]), by rw [hx]; exact hl⟩, fun l hl => (zZ hl).elim, fun l ob hl => (zZ hl).elim⟩
theorem vF {d k : Nat} {obs : List OB} : ∀ l ∈ (zl d k obs).map (·.1), xg (zl d k obs) l := by
 induction obs generalizing k with
 | nil => intro l hl; cases hl
 | cons ob r ih =>
  intro l hl
  unfold xg
  simp only [zl, List.map_cons, List.mem_cons] at hl
  simp only [zl, xw]
  cases e : Nat.beq l (d + 1000 * k) with
  | true => exact ⟨_, rfl⟩
  | false =>
   rcases hl with h | h
   · rw [h, Nat.beq_refl] at e; cases e
   · obtain ⟨o, ho⟩ := ih l h; exact ⟨o, ho⟩
theorem aBU {l : Nat} {ob : OB} : ∀ m ∈ ([(l, some ob)] : List (Nat × Option OB)).map (·.1), xg [(l, some ob)] m := fun m hm => by
 simp only [List.map_cons, List.map_nil, List.mem_singleton] at hm
 subst hm; exact in1 _ _
theorem y7 : ∀ m ∈ ([] : List (Nat × Option OB)).map (·.1), xg [] m := fun m hm => by cases hm
end
section
variable {P : Program} {Θ : Tab} {s : St} {ty : TypeId} {pos : String} {after : Array Edge} {g : Option (Nat × Bool)}
theorem qA {o : Oper} {v : AV} (hp : Pre P Θ o s ⟨v, none⟩) (hc : calm Θ true o = true) (hn : ((vI v).all fun l => (tmpsOf o).any fun t => (s.sl t).names l) = true) : Sft P Θ o s v [] [] := by
 refine ⟨fun s' h1 h2 => ⟨⟨v, none⟩, wT (two := true) hc h1 (fun _ l ⟨x, hx, hn⟩ => ?_) hp, fun K hK => .done hK⟩, fun l ob h => by simp [xw] at h, fun l hl => (by cases hl), fun l hl => ?_, fun l hl => (zZ hl).elim, fun l ob hl => (zZ hl).elim⟩
 · cases x with
   | tmp t => exact (h2 l (.inr ⟨t, yc hx, hn⟩)).1
   | global g => simp [St.ev, uU] at hn
   | _ => simp [St.ev, AV.names, xD] at hn
 · have h3 := List.all_eq_true.1 hn l (uW v hl)
   obtain ⟨t, ht, h4⟩ := List.any_eq_true.1 h3
   exact .inr ⟨t, ht, h4⟩
end
section
variable {P : Program} {Θ : Tab} {s : St} {ty : TypeId} {pos : String} {after : Array Edge} {g : Option (Nat × Bool)}
theorem aGl {o : Oper} {v : AV} (hp : ∀ s' : St, (∀ x ∈ o.op.operands, s'.ev x = s.ev x) → Pre P Θ o s' ⟨v, none⟩) (hv : v.within (fun _ => false) = true) : Sft P Θ o s v [] [] := by
 refine ⟨fun s' h1 h2 => ⟨⟨v, none⟩, hp s' h1, fun K hK => .done hK⟩, fun l ob h => by simp [xw] at h, fun l hl => (by cases hl), fun l hl => ?_, fun l hl => (zZ hl).elim, fun l ob hl => (zZ hl).elim⟩
 have := zJ v hv hl; cases this
theorem aHi {d : Option Tmp} {x : Operand} {n : Int} {b : UInt8} (hb : n = (b.toNat : Int)) (hx : s.ev x = .v (.int .i64 n)) : Sft Tryz.prog Θ ⟨d, .convert 3 5 x, ty, pos, after, g⟩ s (.v (.int .u8 (b.toNat : Int))) [] [] :=
 aGl (fun s' hs => aHD hb ((hs x (by simp [Op.operands])).trans hx)) (by simp [AV.within])
theorem aHg {d : Nat} {t : TypeId} {x : Operand} {el sz b : Nat} {z : AV} {c : Value} (hf : s.hp (d + 1) = none) (ht : Θ.look t = .slice el sz b z) (hx : s.ev x = .v c) (hc : c.oneCell' = true) (hz : Nat.beq 1 (asz z) = true) (hsz : Nat.ble sz 65536 = true) (hok : okL (d + 1) = true := by rfl) :
 Sft P Θ ⟨some d, .buildSlice t 1 #[(0, x)], ty, pos, after, g⟩ s (.own (d + 1)) [] [(d + 1, some ⟨.s el, sz, [.v c]⟩)] := by
 refine ⟨fun s' h1 h2 => ⟨⟨.own (d + 1), some fun s'' => s''.set (d + 1) (some ⟨.s el, sz, [.v c]⟩)⟩, ?_, fun K hK => .done ?_⟩, fun l ob h => ?_, fun l hl => (by cases hl), fun l hl => .inl ?_, fun l ⟨o, hl⟩ => .inl ?_, fun l ob ⟨o, hl⟩ ho => ?_⟩
 · exact aIQ ((h2 _ (.inl (in1 _ _))).1.trans hf) ht ((h1 x (by simp [Op.operands])).trans hx) hc hz hsz hok
 · rw [uS, aEY]; exact hK
 · obtain ⟨_, e⟩ := nu1 h; cases e; rfl
 · simp only [AV.names] at hl; rw [← Nat.eq_of_beq_eq_true hl]; exact in1 _ _
 · obtain ⟨rfl, _⟩ := nu1 hl; exact ⟨d, rfl, rfl⟩
 · obtain ⟨rfl, _⟩ := nu1 hl; rw [hf] at ho; cases ho
theorem aHh {d : Option Tmp} {t1 t2 : TypeId} {t l : Nat} {ob : OB} {r : Value} (hx : s.sl t = .own l) (ho : s.hp l = some ob) (hsh : ob.e.shut = true) (h : aCb P t1 t2 (.lst ob.sz ob.xs) r) (h1 : r.oneCell' = true) (hok : okL l = true := by rfl) : Sft P Θ ⟨d, .convert t1 t2 (.tmp t), ty, pos, after, g⟩ s (.v r) [] [] := by
 refine ⟨fun s' hs h2 => ⟨⟨.v r, none⟩, ?_, fun K hK => .done hK⟩, fun l ob h => by simp [xw] at h, fun l hl => (by cases hl), fun l hl => by simp [AV.names] at hl, fun l hl => (zZ hl).elim, fun l ob hl => (zZ hl).elim⟩
 have e1 : s'.ev (.tmp t) = .own l := (hs (.tmp t) (by simp [Op.operands])).trans hx
 have e2 : s'.hp l = some ob := (h2 l (.inr ⟨t, yc (by simp [Op.operands]), by rw [hx]; simp [AV.names]⟩)).1.trans ho
 exact aGz h (by rw [e1]; simp [St.dat, e2, hsh]) (by rw [e1]; simp [zD, uo, xE, e2, hsh]) rfl h1
end
def ja (n : Nat) : List UInt8 := if h : n < 10 then [UInt8.ofNat (48 + n)] else ja (n / 10) ++ [UInt8.ofNat (48 + n % 10)]
termination_by n
decreasing_by omega
def j6 (n : Nat) : ByteArray := ⟨(ja n).toArray⟩
def qM (n : Int) : ByteArray := if n < 0 then ⟨#[45]⟩ ++ j6 (-n).toNat else j6 n.toNat
theorem aDA {n : Nat} (h : n < 10) : ja n = [UInt8.ofNat (48 + n)] := by rw [ja, dif_pos h]
theorem aF5 {n : Nat} (h : ¬ n < 10) : ja n = ja (n / 10) ++ [UInt8.ofNat (48 + n % 10)] := by rw [ja, dif_neg h]
theorem aCz : ∀ (k n : Nat), n < 10 ^ (k + 1) → (ja n).length ≤ k + 1
 | 0, n, h => by rw [aDA (by simpa using h)]; simp
 | k + 1, n, h => by
  by_cases hn : n < 10
  · rw [aDA hn]; simp
  · rw [aF5 hn, List.length_append]
    have := aCz k (n / 10) (by rw [Nat.div_lt_iff_lt_mul (by omega)]; rw [Nat.pow_succ] at h; exact h)
    simp only [List.length_cons, List.length_nil]; omega
theorem aA3 {n : Nat} (h : n ≤ 1000000000000) : (j6 n).size ≤ 13 := aCz 12 n (by omega)
theorem aBt {n : Int} (h0 : -1000000000000 ≤ n) (h1 : n ≤ 1000000000000) : (qM n).size ≤ 14 := by
 unfold qM
 split
 · rw [ByteArray.size_append]
   have := aA3 (n := (-n).toNat) (by omega)
   have e : (⟨#[45]⟩ : ByteArray).size = 1 := rfl
   omega
 · have := aA3 (n := n.toNat) (by omega); omega
theorem aHz {n : Nat} (h : n < 10) : j6 n = ⟨[UInt8.ofNat (48 + n)].toArray⟩ := by unfold j6; rw [aDA h]
theorem aHy {n : Nat} (h : ¬ n < 10) : j6 n = j6 (n / 10) ++ ⟨[UInt8.ofNat (48 + n % 10)].toArray⟩ := by
 unfold j6; rw [aF5 h]
 apply ByteArray.ext
 simp
theorem aHH {n : Nat} (h : n < 256) : (UInt8.ofNat n).toNat = n := by simp; omega
attribute [local irreducible] xM xR xh y9 zF Pre ACG
theorem aDs : ∀ (n : Nat), n ≤ 1000000000000 → AC Tryz.prog 121 [.v (.int .i64 (n : Int))] ⟨.v (.string (j6 n)), []⟩ := fun n => by
 induction n using Nat.strongRecOn with
 | _ n ih =>
  intro hn
  by_cases h : n < 10
  · rw [aHz h]
    have hb := aHH (n := 48 + n) (by omega)
    refine qrf Tryz.func121 Tryz.ntmps121 Tryz.results121 ?_; conv => whnf
    repeat ((first | refine qz ?_ | refine qp (aHD (b := UInt8.ofNat (48 + n)) (by omega) rfl) ?_); conv => whnf)
    refine qp (aGz (aCM [UInt8.ofNat (48 + n)]) rfl rfl rfl rfl) ?_
    conv => whnf
    repeat ((refine qz ?_; conv => whnf))
    exact xI rfl trivial
  · have c1 := ih (n / 10) (by omega) (by omega)
    rw [aHy h]
    have hb := aHH (n := 48 + n % 10) (by omega)
    have hs := aA3 (n := n / 10) (by omega)
    have hs1 : (⟨[UInt8.ofNat (48 + n % 10)].toArray⟩ : ByteArray).size = 1 := rfl
    refine qrf Tryz.func121 Tryz.ntmps121 Tryz.results121 ?_; conv => whnf
    repeat ((refine qz ?_; conv => whnf))
    refine .inr ⟨by kernel_rfl, zw (by kernel_rfl), ?_⟩
    repeat (first
     | refine xN (aAT rfl) rfl rfl rfl (.inl rfl) (by kernel_rfl) ?_
     | refine xN (xA (aHs (c := ((n / 10 : Nat) : Int)) (by omega) (by omega) (by omega) (by omega)) rfl rfl rfl) rfl rfl rfl (.inl rfl) (by kernel_rfl) ?_
     | refine xN (xA (aHt (c := ((n % 10 : Nat) : Int)) (by omega) (by omega) (by omega)) rfl rfl rfl) rfl rfl rfl (.inl rfl) (by kernel_rfl) ?_
     | refine xN (xA (aEc (c := ((48 + n % 10 : Nat) : Int)) (by omega) (by omega) (by omega)) rfl rfl rfl) rfl rfl rfl (.inl rfl) (by kernel_rfl) ?_
     | refine xN (xA (zV (by first | omega | (simp only [ByteArray.size_append]; omega))) rfl rfl rfl) rfl rfl rfl (.inl rfl) (by kernel_rfl) ?_
     | refine xX (vo c1 rfl rfl rfl trivial rfl rfl rfl) vF rfl rfl (by kernel_rfl) ?_
     | refine xX (aHi (b := UInt8.ofNat (48 + n % 10)) (by omega) rfl) y7 rfl rfl (by kernel_rfl) ?_
     | refine xX (aHg rfl rfl rfl rfl rfl rfl) aBU rfl rfl (by kernel_rfl) ?_
     | refine xX (aHh rfl rfl rfl (aCM [UInt8.ofNat (48 + n % 10)]) rfl) y7 rfl rfl (by kernel_rfl) ?_
     | refine xX (uO rfl) y7 rfl rfl (by kernel_rfl) ?_)
    refine vJ ?_
    conv => whnf
    repeat ((refine qz ?_; conv => whnf))
    exact xI rfl trivial
theorem aHq {n : Int} (h0 : -1000000000000 ≤ n) (h1 : n ≤ 1000000000000) : AC Tryz.prog 121 [.v (.int .i64 n)] ⟨.v (.string (qM n)), []⟩ := by
 unfold qM
 by_cases h : n < 0
 · rw [if_pos h]
   obtain ⟨m, hm⟩ : ∃ m : Nat, -n = (m : Int) := ⟨(-n).toNat, by omega⟩
   have c1 := aDs m (by omega)
   have hs := aA3 (n := m) (by omega)
   rw [hm, Int.toNat_natCast]
   have e1 : (⟨#[45]⟩ : ByteArray).size = 1 := rfl
   refine qrf Tryz.func121 Tryz.ntmps121 Tryz.results121 ?_; conv => whnf
   repeat (first | (refine qp (aIo (c := (m : Int)) (by omega) (by omega) (by omega) rfl) ?_; conv => whnf) | (refine qz ?_; conv => whnf) | (refine qc (c1) ?_; conv => whnf) | (refine qp (xA (zV (by first | omega | (simp only [ByteArray.size_append]; omega))) rfl rfl rfl) ?_; conv => whnf))
   exact xI rfl trivial
 · rw [if_neg h]
   obtain ⟨m, hm⟩ : ∃ m : Nat, n = (m : Int) := ⟨n.toNat, by omega⟩
   have c1 := aDs m (by omega)
   rw [hm, Int.toNat_natCast]
   exact c1
end Go.Proofs.YtodckioppgjbdaaGreatDoor.AM
namespace Go.Proofs.YtodckioppgjbdaaGreatDoor
open Go.RowKit
end Go.Proofs.YtodckioppgjbdaaGreatDoor
namespace Go.Proofs.YtodckioppgjbdaaGreatDoor.AM
open Go Go.RowKit
attribute [local irreducible] xM xR xh y9 zF Pre ACG
end Go.Proofs.YtodckioppgjbdaaGreatDoor.AM
namespace Go.Proofs.YtodckioppgjbdaaGreatDoor.AM
open Go Go.RowKit
instance : DecidableEq Rf := fun a b => decidable_of_iff _ aHd.symm
structure Bas.ok (b : Bas) (N : Nat) : Prop where
 sm : b.store.length ≤ N
 sc : aCd N b.store
 rm : b.refs.length ≤ N
 rk : aJE N b.refs
attribute [local irreducible] xM xR xh y9 zF Pre ACG
theorem aHU {a b : Bas} : a = b ↔ a.store = b.store ∧ a.refs = b.refs := by cases a; cases b; simp
instance : DecidableEq Bas := fun a b => decidable_of_iff _ aHU.symm
end Go.Proofs.YtodckioppgjbdaaGreatDoor.AM
namespace Go.Proofs.YtodckioppgjbdaaGreatDoor.AM
open Go Go.RowKit
def aJA (l : List Ent) : Prop := ∀ e ∈ l, e.1.size ≤ 12 ∧ -1000000 ≤ e.2 ∧ e.2 ≤ 1000000
structure CmtS (c : Cmt) : Prop where
 pl : c.1.length ≤ 60
 pp : ∀ p ∈ c.1, 0 ≤ p ∧ p ≤ 1000
 ml : c.2.length ≤ 100
 me : aJA c.2
attribute [local irreducible] xM xR xh y9 zF Pre ACG
theorem jE {x : ByteArray} (h : okN x = true) : x.size ≤ 12 := by
 unfold okN Nm.nameOK at h
 have e : x.size = x.data.toList.length := by rw [Array.length_toList]; rfl
 rw [e]
 split at h
 · simp at h
 · rename_i c cs hc
   rw [hc]
   simp only [Bool.and_eq_true, decide_eq_true_eq] at h
   simp only [List.length_cons]
   omega
end Go.Proofs.YtodckioppgjbdaaGreatDoor.AM
namespace Go.Proofs.YtodckioppgjbdaaGreatDoor
def kv (es : List Edt) : List Ent := es.map fun e => (e.key, e.val)
theorem vH (es : List Edt) : (kv es).length = es.length := by simp [kv]
theorem aAP (es : List Edt) (k : Nat) (h : k < es.length) : kAt (kv es) k = es[k].key := by simp [kAt, kv, h]
theorem aEJ (es : List Edt) (k : Nat) (h : k < es.length) (hn : nm es[k].key = false) : yt (kv es) k = false := by
 rw [yt, aAP es k h, hn]; rfl
theorem aCZ (es : List Edt) (h : 0 < es.length) (hn : nm es[0].key = true) : yt (kv es) 0 = true := by
 rw [yt, aAP es 0 h, hn]; rfl
theorem aDV (es : List Edt) (k : Nat) (h0 : 0 < k) (h : k < es.length) (hn : nm es[k].key = true) : yt (kv es) k = klt (es[k - 1]'(by omega)).key es[k].key := by
 rw [yt, aAP es k h, aAP es (k - 1) (by omega), hn, decide_eq_false (by omega)]; simp
def aIB (e : Edt) : Bool := aAy e.val && (!e.gone || decide (e.val = 0))
def zi (es : List Edt) (i : Nat) : Bool := aIB (es.getD i ⟨ByteArray.empty, 0, false⟩)
theorem aAr (es : List Edt) (k : Nat) (h : k < es.length) : zi es k = (aAy es[k].val && (!es[k].gone || decide (es[k].val = 0))) := by simp [zi, aIB, h]
def aA4 (es : List Edt) : Bool := (List.range es.length).all (zi es)
def xP (es : List Edt) : Bool := decide (es.length ≤ 6) && (jF (kv es) && aA4 es)
theorem aGV {es : List Edt} (h : ∀ i, i < es.length → zi es i = true) : aA4 es = true := by
 rw [aA4, List.all_eq_true]; intro i hi; exact h i (List.mem_range.1 hi)
theorem aF7 {es : List Edt} {i : Nat} (hi : i < es.length) (h : zi es i = false) : aA4 es = false := by
 rw [aA4, List.all_eq_false]; exact ⟨i, List.mem_range.2 hi, by rw [h]; simp⟩
theorem aBN {es : List Edt} (h0 : es.length ≤ 6) (h : ∀ i, i < es.length → yt (kv es) i = true ∧ zi es i = true) : xP es = true := by
 rw [xP, aEL (fun i hi => (h i (by rw [vH] at hi; exact hi)).1), aGV fun i hi => (h i hi).2, decide_eq_true h0]; rfl
theorem qw {es : List Edt} {i : Nat} (hi : i < es.length) (h : yt (kv es) i = false) : xP es = false := by
 rw [xP, aAu (by rw [vH]; exact hi) h]; simp
theorem vV {es : List Edt} {i : Nat} (hi : i < es.length) (h : zi es i = false) : xP es = false := by
 rw [xP, aF7 hi h]; simp
theorem aAI {es : List Edt} (h : 6 < es.length) : xP es = false := by
 rw [xP, decide_eq_false (by omega)]; rfl
theorem aBR (g : Bool) (v : Int) : (g = true ∧ v ≠ 0) ∨ g = false ∨ (g = true ∧ v = 0) := by
 cases g <;> by_cases h : v = 0 <;> simp [h]
end Go.Proofs.YtodckioppgjbdaaGreatDoor
