/- Texts of the machine over data, folded. -/
import Derived.Test.YtkfllfhcjegfoaaGreatDoorKq6
import Derived.Test.YtkfllfhcjegfoaaGreatDoorKq9
import Derived.Test.YtkfllfhcjegfoaaGreatDoorKq5
import Derived.Laws.StructEq
import Derived.Stop.Asserts
set_option linter.unusedVariables false
set_option maxRecDepth 100000
set_option linter.unusedSimpArgs false
namespace Go.Proofs.YtkfllfhcjegfoaaGreatDoor.AM
open Go Go.RowKit
def szF {α : Type} (g : α → Nat) : List α → Int → Int
 | [], l => l
 | e :: es, l => if l - g e < 0 then -1 else szF g es (l - g e)
def szL {α : Type} (g : α → Nat) (es : List α) (l : Int) : Int := if l - es.length < 0 then -1 else szF g es (l - es.length)
theorem aM2 {α : Type} {g : α → Nat} : ∀ {es : List α} {l : Int}, 0 ≤ szF g es l → szF g es l ≤ l ∧ ∀ e ∈ es, (g e : Int) ≤ l
 | [], l, h => ⟨Int.le_refl _, by simp⟩
 | e :: es, l, h => by
  unfold szF at h ⊢
  split at h
  · omega
  · rename_i hn
    rw [if_neg hn]
    obtain ⟨h1, h2⟩ := aM2 h
    refine ⟨by omega, fun x hx => ?_⟩
    rcases List.mem_cons.1 hx with rfl | hx
    · omega
    · have := h2 x hx; omega
theorem aAa {α : Type} {g : α → Nat} {es : List α} {l : Int} (h : 0 ≤ szL g es l) : szL g es l ≤ l ∧ (es.length : Int) ≤ l ∧ ∀ e ∈ es, (g e : Int) ≤ l := by
 unfold szL at h ⊢
 split at h
 · omega
 · rename_i hn
   rw [if_neg hn]
   obtain ⟨h1, h2⟩ := aM2 h
   exact ⟨by omega, by omega, fun e he => by have := h2 e he; omega⟩
abbrev eSz (e : Ent) : Nat := e.1.size
abbrev xSz (e : Edt) : Nat := e.key.size
attribute [local irreducible] xM xN xW yF yL Pre ACG
theorem aFC {e : Ent} {l : Int} (hk : e.1.size ≤ maxLen) (h0 : 0 ≤ l) (h1 : l ≤ 1048576) : AC Tryz.prog 91 [xP e, .v (.int .i64 l)] ⟨.v (.int .i64 (if l - e.1.size < 0 then -1 else l - e.1.size)), []⟩ := by
 unfold maxLen at hk
 by_cases hn : l - e.1.size < 0
 · rw [if_pos hn]
   refine qrf Tryz.func91 Tryz.ntmps91 Tryz.results91 ?_; conv => whnf
   repeat ((refine qz ?_; conv => whnf))
   exact xA rfl trivial
 · rw [if_neg hn]
   refine qrf Tryz.func91 Tryz.ntmps91 Tryz.results91 ?_; conv => whnf
   repeat ((refine qz ?_; conv => whnf))
   exact xA rfl trivial
theorem aC1 {α : Type} {g : α → Nat} {es : List α} {k : Nat} {l : Int} (h : k < es.length) : szF g (es.drop k) l = if l - g es[k] < 0 then -1 else szF g (es.drop (k + 1)) (l - g es[k]) := by
 rw [List.drop_eq_getElem_cons h, szF]
theorem aAZ {es : List Ent} {l : Int} (hm : es.length ≤ maxLen) (hk : ∀ e ∈ es, e.1.size ≤ maxLen) (h0 : 0 ≤ l) (h1 : l ≤ 1048576) : AC Tryz.prog 56 [.lst 2 (es.map xP), .v (.int .i64 l)] ⟨.v (.int .i64 (szL eSz es l)), []⟩ := by
 unfold maxLen at hm
 by_cases hn : l - es.length < 0
 · rw [szL, if_pos hn]
   refine qrf Tryz.func56 Tryz.ntmps56 Tryz.results56 ?_; conv => whnf
   repeat ((refine qz ?_; conv => whnf))
   exact xA rfl trivial
 · rw [szL, if_neg hn]
   refine qrf Tryz.func56 Tryz.ntmps56 Tryz.results56 ?_; conv => whnf
   repeat ((refine qz ?_; conv => whnf))
   refine xX (ι := { p : Nat × Int // p.1 ≤ es.length ∧ 0 ≤ p.2 ∧ p.2 ≤ l ∧ szF eSz (es.drop p.1) p.2 = szF eSz es (l - es.length) }) (fun p => ⟨[(0, .lst 2 (es.map xP)), (1, .v (.int .i64 p.1.2)), (5, .v (.int .i64 (p.1.1 : Int)))], []⟩) (fun p => es.length - p.1.1) ⟨(0, l - es.length), by simp, by omega, by omega, rfl⟩ (by exact qle) ?_
   rintro ⟨⟨k, cur⟩, hkl, hc0, hc1, hsz⟩
   simp only at hkl hc0 hc1 hsz ⊢
   conv => whnf
   by_cases hlt : k < es.length
   · have hd := aC1 (g := eSz) (l := cur) hlt
     rw [hsz] at hd
     by_cases hneg : cur - (es[k]).1.size < 0
     · rw [if_pos hneg] at hd
       rw [hd]
       repeat (first | (refine qz ?_; conv => whnf) | (refine qp (qG (aFC (hk _ (List.getElem_mem hlt)) (by omega) (by omega)) rfl (.inl rfl) trivial rfl rfl) ?_; rw [if_pos hneg]; conv => whnf))
       exact xA rfl trivial
     · rw [if_neg hneg] at hd
       repeat (first | (refine qz ?_; conv => whnf) | (refine qp (qG (aFC (hk _ (List.getElem_mem hlt)) (by omega) (by omega)) rfl (.inl rfl) trivial rfl rfl) ?_; rw [if_neg hneg]; conv => whnf))
       exact ⟨⟨(k + 1, cur - (es[k]).1.size), by simp; omega, by omega, by omega, hd.symm⟩, by exact qle, by simp; omega⟩
   · have hkk : k = es.length := by omega
     rw [hkk, List.drop_length] at hsz
     rw [← hsz]
     repeat ((refine qz ?_; conv => whnf))
     exact xA rfl trivial
end Go.Proofs.YtkfllfhcjegfoaaGreatDoor.AM
namespace Go.Proofs.YtkfllfhcjegfoaaGreatDoor.AM
open Go Go.RowKit
section
variable {P : Program} {t : TypeId} {x y : Operand} {a b : ByteArray}
theorem uU (h : a ≠ b) : zk P .neq t x y (.string a) (.string b) (.bool true) := aHX fun w => by simp [Op.stringOp, uQ, h]
theorem z8 (h : a = b) : zk P .neq t x y (.string a) (.string b) (.bool false) := aHX fun w => by simp [Op.stringOp, h]
theorem yJ (h : a = b) : zk P .eql t x y (.string a) (.string b) (.bool true) := aHX fun w => by simp [Op.stringOp, h]
theorem yo (h : a ≠ b) : zk P .eql t x y (.string a) (.string b) (.bool false) := aHX fun w => by simp [Op.stringOp, uQ, h]
end
attribute [local irreducible] xM xN xW yF yL Pre ACG
theorem aIg {l : List ByteArray} (hm : l.length ≤ maxLen) : AC Tryz.prog 125 [.lst 1 (l.map strA), .lst 1 (l.map strA)] ⟨.v (.bool true), []⟩ := by
 unfold maxLen at hm
 refine qrf Tryz.func125 Tryz.ntmps125 Tryz.results125 ?_; conv => whnf
 repeat ((refine qz ?_; conv => whnf))
 refine xX (ι := { k : Nat // k ≤ l.length }) (fun k => ⟨[(0, .lst 1 (l.map strA)), (1, .lst 1 (l.map strA)), (5, .v (.int .i64 (k.1 : Int)))], []⟩) (fun k => l.length - k.1) ⟨0, Nat.zero_le _⟩ (by exact qle) ?_
 rintro ⟨k, hk⟩
 dsimp only
 conv => whnf
 by_cases hlt : k < l.length
 · repeat ((refine qz ?_; conv => whnf))
   refine .inl ⟨by kernel_rfl, ?_⟩
   conv => whnf
   repeat ((first | refine qz ?_ | refine qp (xB (z8 rfl) rfl rfl rfl) ?_); conv => whnf)
   exact ⟨⟨k + 1, hlt⟩, by exact qle, by simp; omega⟩
 · repeat ((refine qz ?_; conv => whnf))
   exact xA rfl trivial
theorem aHF {e : Edt} {l : Int} (hk : e.key.size ≤ maxLen) (h0 : 0 ≤ l) (h1 : l ≤ 1048576) : AC Tryz.prog 126 [xg e, .v (.int .i64 l)] ⟨.v (.int .i64 (if l - e.key.size < 0 then -1 else l - e.key.size)), []⟩ := by
 unfold maxLen at hk
 by_cases hn : l - e.key.size < 0
 · rw [if_pos hn]
   refine qrf Tryz.func126 Tryz.ntmps126 Tryz.results126 ?_; conv => whnf
   repeat ((refine qz ?_; conv => whnf))
   exact xA rfl trivial
 · rw [if_neg hn]
   refine qrf Tryz.func126 Tryz.ntmps126 Tryz.results126 ?_; conv => whnf
   repeat ((refine qz ?_; conv => whnf))
   exact xA rfl trivial
theorem aFF {es : List Edt} {l : Int} (hm : es.length ≤ maxLen) (hk : ∀ e ∈ es, e.key.size ≤ maxLen) (h0 : 0 ≤ l) (h1 : l ≤ 1048576) : AC Tryz.prog 92 [.lst 3 (es.map xg), .v (.int .i64 l)] ⟨.v (.int .i64 (szL xSz es l)), []⟩ := by
 unfold maxLen at hm
 by_cases hn : l - es.length < 0
 · rw [szL, if_pos hn]
   refine qrf Tryz.func92 Tryz.ntmps92 Tryz.results92 ?_; conv => whnf
   repeat ((refine qz ?_; conv => whnf))
   exact xA rfl trivial
 · rw [szL, if_neg hn]
   refine qrf Tryz.func92 Tryz.ntmps92 Tryz.results92 ?_; conv => whnf
   repeat ((refine qz ?_; conv => whnf))
   refine xX (ι := { p : Nat × Int // p.1 ≤ es.length ∧ 0 ≤ p.2 ∧ p.2 ≤ l ∧ szF xSz (es.drop p.1) p.2 = szF xSz es (l - es.length) }) (fun p => ⟨[(0, .lst 3 (es.map xg)), (1, .v (.int .i64 p.1.2)), (5, .v (.int .i64 (p.1.1 : Int)))], []⟩) (fun p => es.length - p.1.1) ⟨(0, l - es.length), by simp, by omega, by omega, rfl⟩ (by exact qle) ?_
   rintro ⟨⟨k, cur⟩, hkl, hc0, hc1, hsz⟩
   simp only at hkl hc0 hc1 hsz ⊢
   conv => whnf
   by_cases hlt : k < es.length
   · have hd := aC1 (g := xSz) (l := cur) hlt
     rw [hsz] at hd
     by_cases hneg : cur - (es[k]).key.size < 0
     · rw [if_pos hneg] at hd
       rw [hd]
       repeat (first | (refine qz ?_; conv => whnf) | (refine qp (qG (aHF (hk _ (List.getElem_mem hlt)) (by omega) (by omega)) rfl (.inl rfl) trivial rfl rfl) ?_; rw [if_pos hneg]; conv => whnf))
       exact xA rfl trivial
     · rw [if_neg hneg] at hd
       repeat (first | (refine qz ?_; conv => whnf) | (refine qp (qG (aHF (hk _ (List.getElem_mem hlt)) (by omega) (by omega)) rfl (.inl rfl) trivial rfl rfl) ?_; rw [if_neg hneg]; conv => whnf))
       exact ⟨⟨(k + 1, cur - (es[k]).key.size), by simp; omega, by omega, by omega, hd.symm⟩, by exact qle, by simp; omega⟩
   · have hkk : k = es.length := by omega
     rw [hkk, List.drop_length] at hsz
     rw [← hsz]
     repeat ((refine qz ?_; conv => whnf))
     exact xA rfl trivial
end Go.Proofs.YtkfllfhcjegfoaaGreatDoor.AM
namespace Go.Proofs.YtkfllfhcjegfoaaGreatDoor.AM
open Go Go.RowKit
theorem aKE : Tryz.prog.underlying 191 = some (.struct (Tryz.prog.fieldsOf 191)) := by kernel_rfl
theorem aNQ : Tryz.prog.stoodInHeld 191 = false := by kernel_rfl
theorem aLb : Tryz.prog.eqGuardType Tryz.prog.depth 191 = false := by kernel_rfl
theorem aPQ (a b : ByteArray) (x y : Int) (g h : Bool) (w : World) : (Op.equalIn 10000 191 (.agg #[.string a, .int .i64 x, .bool g]) (.agg #[.string b, .int .i64 y, .bool h])).run Tryz.prog w = .ok (decide (a = b ∧ x = y ∧ g = h)) w := by
 have hf := Option.some.inj (aKE.symm.trans Tryz.underlying191)
 injection hf with hf
 rw [run_equalIn_struct w 9999 _ _ _ aKE aNQ, hf]
 have q0 : ∀ (s : ByteArray) (n : Int) (c : Bool) (w : World), (part 9 #[.string s, .int .i64 n, .bool c] 0).run Tryz.prog w = .ok (.string s) w := fun s n c w => rfl
 have q1 : ∀ (s : ByteArray) (n : Int) (c : Bool) (w : World), (part 3 #[.string s, .int .i64 n, .bool c] 1).run Tryz.prog w = .ok (.int .i64 n) w := fun s n c w => rfl
 have q2 : ∀ (s : ByteArray) (n : Int) (c : Bool) (w : World), (part 4 #[.string s, .int .i64 n, .bool c] 2).run Tryz.prog w = .ok (.bool c) w := fun s n c w => rfl
 have r0 := fun a b w => run_equalIn_string (P := Tryz.prog) w 9998 9 a b Tryz.underlying9
 have r1 := fun a b w => run_equalIn_int (P := Tryz.prog) w 9998 3 .i64 .i64 a b Tryz.underlying3
 have r2 := fun a b w => run_equalIn_bool' (P := Tryz.prog) w 9998 4 a b Tryz.underlying4
 by_cases h1 : a = b
 · subst h1
   by_cases h2 : x = y
   · subst h2
     cases g <;> cases h <;> simp [Op.eqFields, q0, q1, q2, r0, r1, r2, Result.andThen]
   · simp [Op.eqFields, q0, q1, q2, r0, r1, r2, Result.andThen, h2]
 · simp [Op.eqFields, q0, q1, q2, r0, r1, r2, Result.andThen, uQ, h1]
theorem aKM {a b : Edt} : a = b ↔ a.key = b.key ∧ a.val = b.val ∧ a.gone = b.gone := by
 cases a; cases b; simp
theorem aAE {a b : Edt} {x y : Operand} {r : Bool} (h : decide (a ≠ b) = r) : zk Tryz.prog .neq 191 x y (.agg #[.string a.key, .int .i64 a.val, .bool a.gone]) (.agg #[.string b.key, .int .i64 b.val, .bool b.gone]) (.bool r) := fun w => by
 rw [Sem.run_bind, run_eqGuard_agg w _ _ _ _ _ _ aLb, Result.andThen_ok, run_neq_struct, aPQ, Result.andThen_ok, ← h]
 have : decide (a.key = b.key ∧ a.val = b.val ∧ a.gone = b.gone) = decide (a = b) := by
  rw [decide_eq_decide]; exact aKM.symm
 rw [this]
 by_cases e : a = b <;> simp [e]
section
variable {P : Program} {Θ : Tab} {s : St} {d : Option Tmp} {ty : TypeId} {pos : String} {after : Array Edge} {g : Option (Nat × Bool)}
theorem aCD {op : BinOp} {t t2 : TypeId} {x y : Operand} {a b r : Value} (h : zk P op t x y a b r) (hx : yw (s.ev x) = some a) (hy : yw (s.ev y) = some b) (h1 : r.oneCell' = true) : Pre P Θ ⟨d, .binOp op t x y t2, ty, pos, after, g⟩ s ⟨.v r, none⟩ :=
 .inl ⟨a, b, r, hx, hy, h, h1, rfl⟩
end
section
variable {s : St} {Θ : Tab}
theorem aDB {t l sz : Nat} {e : ET} {xs : List AV} (h : s.sl t = .own l) (ho : s.hp l = some ⟨e, sz, xs⟩) (hok : okL l = true := by rfl) (hsh : e.shut = true := by rfl) : aAP s [] (s.sl t) (.lst sz xs) :=
 .inr ⟨by rw [h]; simp [xR, ho, hsh], by rw [h]; simp [yt, hok], by rw [h]; simp [St.dat, ho, hsh]⟩
theorem aFz {t : Nat} {y : AV} (h : s.sl t = y) (hy : (match y with | .v _ | .agg _ | .lst _ _ | .any => True | _ => False)) : aAP s [] (s.sl t) y := .inl (by cases y <;> first | exact ⟨h, rfl⟩ | exact hy.elim)
theorem aIU {t1 t2 t3 : Nat} {y1 y2 y3 : AV} (h1 : aAP s [] (s.sl t1) y1) (h2 : aAP s [] (s.sl t2) y2) (h3 : aAP s [] (s.sl t3) y3) : vU Θ [.tmp t1, .tmp t2, .tmp t3] ⟨.tup [y1, y2, y3], []⟩ .ret s :=
 ⟨trivial, [], by simp, trivial, ⟨trivial, trivial, trivial, trivial⟩, ⟨_, rfl⟩, ⟨h1, h2, h3, trivial⟩⟩
end
section
variable {P : Program}
theorem aIG {S : Nat → Prop} {w : World} {hp : Nat → Option OB} {B : Nat → Nat} {V : Nat → Value} {t : TypeId} {y : AV} {u : Value} (h : RV S w hp B V (.ifc t y) u) : ∃ u', u = .iface t u' ∧ RV S w hp B V y u' := by
 unfold RV at h; exact h
theorem aKP {S : Nat → Prop} {w : World} {hp : Nat → Option OB} {B : Nat → Nat} {V : Nat → Value} {x y : AV} {u v : Value} (h : RV S w hp B V x u) (h' : RV S w hp B V y v) : RV S w hp B V (.tup [x, y]) (.tuple #[u, v]) := by
 unfold RV
 exact ⟨[u, v], rfl, by unfold RVs; exact ⟨u, [v], rfl, h, by unfold RVs; exact ⟨v, [], rfl, h', by unfold RVs; rfl⟩⟩⟩
theorem aO8 {S : Nat → Prop} {w : World} {hp : Nat → Option OB} {B : Nat → Nat} {V : Nat → Value} {x : Value} (h : x.oneCell' = true) : RV S w hp B V (.v x) x := by
 unfold RV; exact ⟨rfl, h⟩
theorem aQc {t xT asserted : TypeId} {y : AV} {want : Array (String × TypeId)} (hu : P.underlying asserted = some (.interface want)) (h : (P.info? t).map (fun i => (lacking want i.methods).isEmpty) = some true) : aGI P (.ifc t y) xT asserted true (.tup [.ifc t y, .v (.bool true)]) := by
 intro S w hp B V u hr
 obtain ⟨u', rfl, hr'⟩ := aIG hr
 exact ⟨_, run_typeAssert_hasB hu h u' xT w, aKP hr (aO8 rfl)⟩
theorem aOW {t xT asserted : TypeId} {y : AV} {want : Array (String × TypeId)} (hu : P.underlying asserted = some (.interface want)) (h : (P.info? t).map (fun i => (lacking want i.methods).isEmpty) = some false) (hz : (P.info? asserted).map (·.zero) = some (some .nilIface)) : aGI P (.ifc t y) xT asserted true (.tup [.v .nilIface, .v (.bool false)]) := by
 intro S w hp B V u hr
 obtain ⟨u', rfl, hr'⟩ := aIG hr
 exact ⟨_, run_typeAssert_lacksB hu h hz u' xT w, aKP (aO8 rfl) (aO8 rfl)⟩
theorem aPM {t : TypeId} {y : AV} {m : String} {f : FuncId} {d : TypeDesc} (hm : ((P.info? t).bind fun i => i.methods.find? (·.name == m)).map (fun x => (x.path.isEmpty, x.func)) = some (true, some (f, false))) (hu : P.underlying t = some d) (hd : (match d with | .pointer _ => false | _ => true) = true) : aHQ P t y m f y := by
 intro S w hp B V u hr
 refine ⟨u, ?_, hr⟩
 obtain ⟨x, hx, he⟩ := Option.map_eq_some_iff.1 hm
 obtain ⟨i, hi, hf⟩ := Option.bind_eq_some_iff.1 hx
 simp only [Prod.mk.injEq] at he
 obtain ⟨h1, h2⟩ := he
 have hp0 : x.path.toList = [] := by simpa using h1
 obtain ⟨k, hk⟩ : ∃ k, k = P.types.size + 99 := ⟨_, rfl⟩
 have hk2 : P.types.size + Made.depth = k + 1 := by rw [hk]; rfl
 rw [hk2]
 have e1 : (typeInfo t).run P w = .ok i w := by simp [typeInfo, hi]
 unfold method
 simp only [Sem.run_bind, e1, Result.andThen_ok, hf, hp0, follow, h2, Sem.run_pure]
 simp only [receiverAt, Sem.run_bind, run_underlying hu, Result.andThen_ok]
 cases d <;> simp_all [Place.get]
end
theorem aQu {P : Program} {ti t : TypeId} {x y : Operand} {z : AV} {ms : Array (String × TypeId)} (hi : P.underlying ti = some (.interface ms)) : aKy P .eql ti x y (.ifc t z) (.v .nilIface) (.bool false) := by
 intro S w hp B V u v hr hv
 obtain ⟨u', rfl, hr'⟩ := aIG hr
 unfold RV at hv
 obtain ⟨rfl, _⟩ := hv
 have h : ∀ d : Nat, (Op.equalIn (d + 1) ti (.iface t u') .nilIface).run P w = .ok false w := fun d => by simp [Op.equalIn, run_underlying hi]
 simp [eqGuard, binOp, Op.equal, Op.maxDepth, h 9999]
def asB (P : Program) (t asserted : TypeId) : Option Bool := match P.underlying asserted with
 | some (.interface want) => (P.info? t).map fun i => (lacking want i.methods).isEmpty
 | _ => none
def aHR (P : Program) (t : TypeId) : Bool := match P.underlying t with
 | some (.interface _) => true
 | _ => false
def aQg (P : Program) (t : TypeId) (m : String) : Option FuncId := match (P.info? t).bind fun i => i.methods.find? (·.name == m), P.underlying t with
 | some x, some (.pointer _) => none
 | some x, some _ => match x.path.isEmpty, x.func with
  | true, some (f, false) => some f
  | _, _ => none
 | _, _ => none
section
variable {P : Program}
theorem qw {t xT asserted : TypeId} {y : AV} (h : asB P t asserted = some true) : aGI P (.ifc t y) xT asserted true (.tup [.ifc t y, .v (.bool true)]) := by
 unfold asB at h
 split at h
 · rename_i want hu; exact aQc hu h
 · cases h
theorem aBj {t xT asserted : TypeId} {y : AV} (h : asB P t asserted = some false) (hz : (P.info? asserted).map (·.zero) = some (some .nilIface)) : aGI P (.ifc t y) xT asserted true (.tup [.v .nilIface, .v (.bool false)]) := by
 unfold asB at h
 split at h
 · rename_i want hu; exact aOW hu h hz
 · cases h
theorem jg {t : TypeId} {y : AV} {m : String} {f : FuncId} (h : aQg P t m = some f) : aHQ P t y m f y := by
 unfold aQg at h
 split at h
 · cases h
 · rename_i x d hnp hx hu
   split at h
   · rename_i f' e1 e2
     cases h
     refine aPM (d := d) (by rw [hx]; simp [e1, e2]) hu ?_
     cases d <;> first | rfl | exact absurd rfl (hnp _)
   · cases h
 · cases h
theorem aBB {ti t : TypeId} {x y : Operand} {z : AV} (h : aHR P ti = true) : aKy P .eql ti x y (.ifc t z) (.v .nilIface) (.bool false) := by
 unfold aHR at h
 split at h
 · rename_i ms hu; exact aQu hu
 · cases h
end
section
variable {s : St} {Θ : Tab}
theorem aCH {r : Nat} {v : AV} (h1 : s.sl r = v) (hm : mapA (fun k => ([] : List Nat).getD k 0) v = v) (hw : v.within (fun k => Nat.blt k ([] : List Nat).length) = true) : vU Θ [.tmp r] ⟨v, []⟩ .ret s :=
 ⟨trivial, [], by simp, trivial, ⟨trivial, trivial⟩, trivial, ⟨.inl ⟨h1.trans hm.symm, hw⟩, trivial⟩⟩
theorem uR {a t l r : Nat} {ob : OB} {x y : AV} {obs : List OB} (Ls : List Nat) (h1 : s.sl a = .optr l 0 [] 0) (ho : s.hp l = some ob) (hx : ob.xs[0]? = some x) (hy : s.sl r = mapA (fun k => Ls.getD k 0) y) (hw : y.within (fun k => Nat.blt k Ls.length) = true) (hobs : aBG s Ls obs) (hk : ((Θ.look t).known && (Bool.xor (zn x) (Θ.look t).isAgg).not && Nat.beq (asz x) (Θ.look t).size) = true) (hd : (match x with | .v _ | .agg _ | .lst _ _ | .any => True | _ => False)) (hop : ob.e.open_ = true := by rfl) (hnd : aIa Ls = true := by rfl) :
 vU Θ [.cell a t, .tmp r] ⟨.tup [x, y], obs⟩ .ret s := by
 have hr : rvA s (.cell a t) = x := by
  simp only [rvA, h1, ho, hop, hx, cond_true, Option.getD_some]
 simp only [Bool.and_eq_true] at hk
 refine ⟨trivial, Ls, aGW hnd, hobs, ⟨⟨hk.1.1, by rw [hr]; exact xor_not hk.1.2, by rw [hr]; exact Nat.eq_of_beq_eq_true hk.2, .inl ⟨l, ob, x, h1, ho, .inl ⟨hop, hx⟩⟩⟩, trivial, trivial⟩, ⟨_, rfl⟩, ⟨.inl ?_, .inl ⟨hy, hw⟩, trivial⟩⟩
 rw [hr]
 cases x <;> first | exact ⟨rfl, rfl⟩ | exact hd.elim
theorem aOw {P : Program} {d : Option Tmp} {ty : TypeId} {pos : String} {after : Array Edge} {g : Option (Nat × Bool)} {t : TypeId} {ps : Array (Nat × Operand)} {fs : List (Nat × Nat)} {z : List AV} (ht : Θ.look t = .struct fs z) (hp : kG s z ps.toList) (hc : wD (ps.toList.map (·.2)) = true) (hl : (yN s (ps.toList.map (·.2))).all okL = true := by rfl) :
 Pre P Θ ⟨d, .build t ps, ty, pos, after, g⟩ s ⟨.agg (zw s z ps.toList), aOR (yN s (ps.toList.map (·.2)))⟩ := ⟨fs, z, ht, .inl ⟨hp, uD hc, hl, rfl⟩⟩
end
attribute [local irreducible] xM xN xW yF yL Pre ACG
abbrev vT (nm : ByteArray) (frm : Int) : AV := .agg [.v (.string nm), .v (.int .i64 frm)]
section
variable {frm : Int} {nm key : ByteArray} {es : List AV}
theorem aFh : AC Tryz.prog 169 [.agg [.v (.int .i64 1), .v (.int .i64 frm), .v (.string nm), .v (.string key), .lst 3 es]] ⟨.ifc 243 (.agg [vT nm frm]), []⟩ := by
 refine qrf Tryz.func169 Tryz.ntmps169 Tryz.results169 ?_; conv => whnf
 repeat ((first | refine qz ?_ | refine qst ?_ | refine qdr ?_); conv => whnf)
 exact aCH rfl rfl rfl
theorem aFM : AC Tryz.prog 169 [.agg [.v (.int .i64 2), .v (.int .i64 frm), .v (.string nm), .v (.string key), .lst 3 es]] ⟨.ifc 244 (.agg [vT nm frm]), []⟩ := by
 refine qrf Tryz.func169 Tryz.ntmps169 Tryz.results169 ?_; conv => whnf
 repeat ((first | refine qz ?_ | refine qst ?_ | refine qdr ?_); conv => whnf)
 exact aCH rfl rfl rfl
theorem qH : AC Tryz.prog 169 [.agg [.v (.int .i64 3), .v (.int .i64 frm), .v (.string nm), .v (.string key), .lst 3 es]] ⟨.ifc 246 (.agg [vT nm frm, .lst 3 es]), []⟩ := by
 refine qrf Tryz.func169 Tryz.ntmps169 Tryz.results169 ?_; conv => whnf
 repeat ((first | refine qz ?_ | refine qst ?_ | refine qdr ?_); conv => whnf)
 exact aCH rfl rfl rfl
theorem kS : AC Tryz.prog 169 [.agg [.v (.int .i64 4), .v (.int .i64 frm), .v (.string nm), .v (.string key), .lst 3 es]] ⟨.ifc 247 (.agg [vT nm frm]), []⟩ := by
 refine qrf Tryz.func169 Tryz.ntmps169 Tryz.results169 ?_; conv => whnf
 repeat ((first | refine qz ?_ | refine qst ?_ | refine qdr ?_); conv => whnf)
 exact aCH rfl rfl rfl
theorem aFJ : AC Tryz.prog 169 [.agg [.v (.int .i64 5), .v (.int .i64 frm), .v (.string nm), .v (.string key), .lst 3 es]] ⟨.ifc 249 (.agg [vT nm frm, .v (.string key)]), []⟩ := by
 refine qrf Tryz.func169 Tryz.ntmps169 Tryz.results169 ?_; conv => whnf
 repeat ((first | refine qz ?_ | refine qst ?_ | refine qdr ?_); conv => whnf)
 exact aCH rfl rfl rfl
theorem aFb {k : Int} (h1 : k ≠ 1) (h2 : k ≠ 2) (h3 : k ≠ 3) (h4 : k ≠ 4) (h5 : k ≠ 5) : AC Tryz.prog 169 [.agg [.v (.int .i64 k), .v (.int .i64 frm), .v (.string nm), .v (.string key), .lst 3 es]] ⟨.ifc 250 (.agg [vT nm frm]), []⟩ := by
 refine qrf Tryz.func169 Tryz.ntmps169 Tryz.results169 ?_; conv => whnf
 repeat ((first | refine qz ?_ | refine qst ?_ | refine qdr ?_); conv => whnf)
 exact aCH rfl rfl rfl
end
abbrev nh0 : AV := .agg [zI, .agg [.lst 1 [], .lst 2 []]]
abbrev uN (c : Int) : AV := .ifc 238 (.v (.int .i64 c))
section
variable {base m hd out : List AV} {ps keys : List AV} {c : Int}
theorem aFq (hM : AC Tryz.prog 194 [.lst 2 base, .lst 2 m, .lst 2 hd] ⟨.tup [.own 0, .own 1, .v (.int .i64 c)], [⟨167, 2, out⟩, ⟨9, 1, keys⟩]⟩) (hc : c ≠ 0) :
 AC Tryz.prog 192 [.lst 2 base, .lst 2 m, .lst 2 hd, .lst 1 ps] ⟨.tup [nh0, .ifc 272 (.mix [uN c, .own 0])], [⟨9, 1, keys⟩]⟩ := by
 refine qrf Tryz.func192 Tryz.ntmps192 Tryz.results192 ?_; conv => whnf
 repeat ((first | refine qz ?_ | refine qc (hM) ?_ | refine qst ?_ | refine qdr ?_); conv => whnf)
 refine qp (aCf rfl ⟨⟨_, _, rfl, rfl, rfl⟩, ⟨_, _, rfl, rfl, rfl⟩, trivial⟩ rfl) ?_
 conv => whnf
 repeat ((first | refine qz ?_ | refine qc (hM) ?_ | refine qst ?_ | refine qdr ?_); conv => whnf)
 exact uR [18 + 1000] rfl rfl rfl rfl rfl ⟨⟨rfl, rfl, rfl⟩, trivial⟩ rfl trivial
theorem aFl (hM : AC Tryz.prog 194 [.lst 2 base, .lst 2 m, .lst 2 hd] ⟨.tup [.own 0, .own 1, .v (.int .i64 0)], [⟨167, 2, out⟩, ⟨9, 1, keys⟩]⟩) (hE : AC Tryz.prog 157 [.lst 2 out, .lst 2 hd] ⟨.v (.bool true), []⟩) :
 AC Tryz.prog 192 [.lst 2 base, .lst 2 m, .lst 2 hd, .lst 1 ps] ⟨.tup [nh0, uN 18], []⟩ := by
 refine qrf Tryz.func192 Tryz.ntmps192 Tryz.results192 ?_; conv => whnf
 repeat ((first | refine qz ?_ | refine qc (hM) ?_ | refine qc (hE) ?_ | refine qst ?_ | refine qdr ?_); conv => whnf)
 exact uR [] rfl rfl rfl rfl rfl trivial rfl trivial
theorem aGV (hM : AC Tryz.prog 194 [.lst 2 base, .lst 2 m, .lst 2 hd] ⟨.tup [.own 0, .own 1, .v (.int .i64 0)], [⟨167, 2, out⟩, ⟨9, 1, keys⟩]⟩) (hE : AC Tryz.prog 157 [.lst 2 out, .lst 2 hd] ⟨.v (.bool false), []⟩) :
 AC Tryz.prog 192 [.lst 2 base, .lst 2 m, .lst 2 hd, .lst 1 ps] ⟨.tup [.agg [zI, .agg [.lst 1 ps, .lst 2 out]], .v .nilIface], []⟩ := by
 refine qrf Tryz.func192 Tryz.ntmps192 Tryz.results192 ?_; conv => whnf
 repeat ((first | refine qz ?_ | refine qc (hM) ?_ | refine qc (hE) ?_ | refine qst ?_ | refine qdr ?_); conv => whnf)
 refine qr (aOw rfl ⟨⟨_, rfl, rfl⟩, rfl, ⟨_, rfl, rfl⟩, rfl, trivial⟩ rfl) ?_
 conv => whnf
 repeat ((first | refine qz ?_ | refine qst ?_ | refine qdr ?_); conv => whnf)
 exact uR [] rfl rfl rfl rfl rfl trivial rfl trivial
end
section
variable {nm : ByteArray} {frm : Int} {f h : Nat} {es st bm hm m out keys : List AV} {p1 p2 : List AV} {c : Int}
theorem aLi (hs : st.length ≤ maxLen) (h1 : st[f]? = some (.agg [.lst 1 p1, .lst 2 bm])) (h2 : st[h]? = some (.agg [.lst 1 p2, .lst 2 hm])) (hf : frm = (f : Int) + 1) (hA : AC Tryz.prog 191 [.lst 2 bm, .lst 3 es] ⟨.tup [.lst 2 [], .v (.int .i64 c)], []⟩) (hc : c ≠ 0) :
 AC Tryz.prog 190 [.agg [vT nm frm, .lst 3 es], .lst 2 st, .v (.int .i64 ((h : Int) + 1))] ⟨.tup [nh0, uN c], []⟩ := by
 unfold maxLen at hs
 have k1 := (List.getElem?_eq_some_iff.1 h1).1
 have k2 := (List.getElem?_eq_some_iff.1 h2).1
 refine qrf Tryz.func190 Tryz.ntmps190 Tryz.results190 ?_; conv => whnf
 repeat ((first | refine qp (xB (xZ (c := (f : Int)) (by omega) (by omega) (by omega)) rfl rfl rfl) ?_ | refine qp (xB (xZ (c := (h : Int)) (by omega) (by omega) (by omega)) rfl rfl rfl) ?_ | refine qp (xk h1 rfl rfl rfl) ?_ | refine qp (xk h2 rfl rfl rfl) ?_ | refine qz ?_ | refine qc (hA) ?_ | refine qst ?_ | refine qdr ?_); conv => whnf)
 exact uR [] rfl rfl rfl rfl rfl trivial rfl trivial
theorem aMC (hs : st.length ≤ maxLen) (h1 : st[f]? = some (.agg [.lst 1 p1, .lst 2 bm])) (h2 : st[h]? = some (.agg [.lst 1 p2, .lst 2 hm])) (hf : frm = (f : Int) + 1) (hA : AC Tryz.prog 191 [.lst 2 bm, .lst 3 es] ⟨.tup [.own 0, .v (.int .i64 0)], [⟨167, 2, m⟩]⟩) (hM : AC Tryz.prog 192 [.lst 2 bm, .lst 2 m, .lst 2 hm, .lst 1 [.v (.int .i64 ((h : Int) + 1))]] ⟨.tup [nh0, .ifc 272 (.mix [uN c, .own 0])], [⟨9, 1, keys⟩]⟩) :
 AC Tryz.prog 190 [.agg [vT nm frm, .lst 3 es], .lst 2 st, .v (.int .i64 ((h : Int) + 1))] ⟨.tup [nh0, .ifc 272 (.mix [uN c, .own 0])], [⟨9, 1, keys⟩]⟩ := by
 unfold maxLen at hs
 have k1 := (List.getElem?_eq_some_iff.1 h1).1
 have k2 := (List.getElem?_eq_some_iff.1 h2).1
 refine qrf Tryz.func190 Tryz.ntmps190 Tryz.results190 ?_; conv => whnf
 repeat ((first | refine qp (xB (xZ (c := (f : Int)) (by omega) (by omega) (by omega)) rfl rfl rfl) ?_ | refine qp (xB (xZ (c := (h : Int)) (by omega) (by omega) (by omega)) rfl rfl rfl) ?_ | refine qp (xk h1 rfl rfl rfl) ?_ | refine qp (xk h2 rfl rfl rfl) ?_ | refine qz ?_ | refine qc (hA) ?_ | refine qf (hM) ?_ | refine qst ?_ | refine qdr ?_); conv => whnf)
 exact uR [47] rfl rfl rfl rfl rfl ⟨⟨rfl, rfl, rfl⟩, trivial⟩ rfl trivial
theorem aLY (hs : st.length ≤ maxLen) (h1 : st[f]? = some (.agg [.lst 1 p1, .lst 2 bm])) (h2 : st[h]? = some (.agg [.lst 1 p2, .lst 2 hm])) (hf : frm = (f : Int) + 1) (hA : AC Tryz.prog 191 [.lst 2 bm, .lst 3 es] ⟨.tup [.own 0, .v (.int .i64 0)], [⟨167, 2, m⟩]⟩) (hM : AC Tryz.prog 192 [.lst 2 bm, .lst 2 m, .lst 2 hm, .lst 1 [.v (.int .i64 ((h : Int) + 1))]] ⟨.tup [nh0, uN 18], []⟩) :
 AC Tryz.prog 190 [.agg [vT nm frm, .lst 3 es], .lst 2 st, .v (.int .i64 ((h : Int) + 1))] ⟨.tup [nh0, uN 18], []⟩ := by
 unfold maxLen at hs
 have k1 := (List.getElem?_eq_some_iff.1 h1).1
 have k2 := (List.getElem?_eq_some_iff.1 h2).1
 refine qrf Tryz.func190 Tryz.ntmps190 Tryz.results190 ?_; conv => whnf
 repeat ((first | refine qp (xB (xZ (c := (f : Int)) (by omega) (by omega) (by omega)) rfl rfl rfl) ?_ | refine qp (xB (xZ (c := (h : Int)) (by omega) (by omega) (by omega)) rfl rfl rfl) ?_ | refine qp (xk h1 rfl rfl rfl) ?_ | refine qp (xk h2 rfl rfl rfl) ?_ | refine qz ?_ | refine qc (hA) ?_ | refine qf (hM) ?_ | refine qst ?_ | refine qdr ?_); conv => whnf)
 exact uR [] rfl rfl rfl rfl rfl trivial rfl trivial
theorem aLX (hs : st.length ≤ maxLen) (h1 : st[f]? = some (.agg [.lst 1 p1, .lst 2 bm])) (h2 : st[h]? = some (.agg [.lst 1 p2, .lst 2 hm])) (hf : frm = (f : Int) + 1) (hA : AC Tryz.prog 191 [.lst 2 bm, .lst 3 es] ⟨.tup [.own 0, .v (.int .i64 0)], [⟨167, 2, m⟩]⟩) (hM : AC Tryz.prog 192 [.lst 2 bm, .lst 2 m, .lst 2 hm, .lst 1 [.v (.int .i64 ((h : Int) + 1))]] ⟨.tup [.agg [zI, .agg [.lst 1 [.v (.int .i64 ((h : Int) + 1))], .lst 2 out]], .v .nilIface], []⟩) :
 AC Tryz.prog 190 [.agg [vT nm frm, .lst 3 es], .lst 2 st, .v (.int .i64 ((h : Int) + 1))] ⟨.tup [.agg [zI, .agg [.lst 1 [.v (.int .i64 ((h : Int) + 1))], .lst 2 out]], .v .nilIface], []⟩ := by
 unfold maxLen at hs
 have k1 := (List.getElem?_eq_some_iff.1 h1).1
 have k2 := (List.getElem?_eq_some_iff.1 h2).1
 refine qrf Tryz.func190 Tryz.ntmps190 Tryz.results190 ?_; conv => whnf
 repeat ((first | refine qp (xB (xZ (c := (f : Int)) (by omega) (by omega) (by omega)) rfl rfl rfl) ?_ | refine qp (xB (xZ (c := (h : Int)) (by omega) (by omega) (by omega)) rfl rfl rfl) ?_ | refine qp (xk h1 rfl rfl rfl) ?_ | refine qp (xk h2 rfl rfl rfl) ?_ | refine qz ?_ | refine qc (hA) ?_ | refine qf (hM) ?_ | refine qst ?_ | refine qdr ?_); conv => whnf)
 exact uR [] rfl rfl rfl rfl rfl trivial rfl trivial
end
end Go.Proofs.YtkfllfhcjegfoaaGreatDoor.AM
namespace Go.Proofs.YtkfllfhcjegfoaaGreatDoor.AM
open Go Go.RowKit
def aRP (ops : Array Oper) : Bool :=
 (List.range ops.size).all fun j => match ops[j]? with
  | some o => (tmpsOf o).all fun t => (List.range ops.size).all fun j' => match (ops[j']?).bind (·.dst) with
   | some t' => !(Nat.beq t' t) || (!(Nat.beq j' j) && (((Region.before ops).getD j 0).testBit j' || aBY ops j'))
   | none => true
  | none => true
theorem wV {ops : Array Oper} (h : aRP ops = true) : aBO ops := by
 intro j o ho t ht j' o' ho' hd
 have h1 := List.all_eq_true.1 h j (List.mem_range.2 (Array.getElem?_eq_some_iff.1 ho).1)
 simp only [ho] at h1
 have h2 := List.all_eq_true.1 (List.all_eq_true.1 h1 t ht) j' (List.mem_range.2 (Array.getElem?_eq_some_iff.1 ho').1)
 simp only [ho', Option.bind_some, hd, Nat.beq_refl, Bool.not_true, Bool.false_or, Bool.and_eq_true, Bool.not_eq_true', Bool.or_eq_true] at h2
 exact ⟨fun e => by rw [e] at h2; simp at h2, h2.2⟩
mutual
def jW : AV → List Nat
 | .own l => [l]
 | .optr l _ _ _ => [l]
 | .mapv l => [l]
 | .tup xs => aCN xs
 | .mix xs => aCN xs
 | .fn _ xs ys => aCN xs ++ aCN ys
 | .ifc _ x => jW x
 | _ => []
def aCN : List AV → List Nat
 | [] => []
 | x :: xs => jW x ++ aCN xs
end
mutual
theorem jJ {l : Nat} : ∀ x : AV, x.names l = true → l ∈ jW x
 | .own l', h => by simp only [AV.names] at h; simp [jW, Nat.eq_of_beq_eq_true h]
 | .optr l' _ _ _, h => by simp only [AV.names] at h; simp [jW, Nat.eq_of_beq_eq_true h]
 | .mapv l', h => by simp only [AV.names] at h; simp [jW, Nat.eq_of_beq_eq_true h]
 | .tup xs, h => by simp only [AV.names] at h; unfold jW; exact j6 xs h
 | .mix xs, h => by simp only [AV.names] at h; unfold jW; exact j6 xs h
 | .fn _ xs ys, h => by
  simp only [AV.names, Bool.or_eq_true] at h; unfold jW
  exact List.mem_append.2 (h.imp (j6 xs) (j6 ys))
 | .ifc _ x, h => by simp only [AV.names] at h; unfold jW; exact jJ x h
 | .any, h => by simp [AV.names] at h
 | .v _, h => by simp [AV.names] at h
 | .agg _, h => by simp [AV.names] at h
 | .lst _ _, h => by simp [AV.names] at h
 | .ptr _, h => by simp [AV.names] at h
 | .rd _, h => by simp [AV.names] at h
theorem j6 {l : Nat} : ∀ xs : List AV, x9 l xs = true → l ∈ aCN xs
 | [], h => by simp [x9] at h
 | x :: xs, h => by
  simp only [x9, Bool.or_eq_true] at h; unfold aCN
  exact List.mem_append.2 (h.imp (jJ x) (j6 xs))
end
theorem aCR {l : Nat} : ∀ {nu : List (Nat × Option OB)}, yS nu l → l ∈ nu.map (·.1)
 | [], ⟨o, h⟩ => by simp [zA] at h
 | (m, ob) :: r, ⟨o, h⟩ => by
  simp only [zA] at h
  cases e : Nat.beq l m with
  | true => simp [Nat.eq_of_beq_eq_true e]
  | false => rw [e] at h; exact List.mem_cons_of_mem _ (aCR ⟨o, h⟩)
def aHU (ops : Array Oper) (k : Nat) (t : Tmp) : Bool := (List.range ops.size).any fun j' => match (ops[j']?).bind (·.dst) with
 | some t' => Nat.beq t' t && (!(Nat.blt j' k) && !(aBY ops j'))
 | none => false
theorem aEW {ops : Array Oper} {k : Nat} {t : Tmp} (h : aHU ops k t = true) (hf : vC ops (fun j => Nat.blt j k) t) : False := by
 obtain ⟨j', hj', h3⟩ := List.any_eq_true.1 h
 cases ho' : ops[j']? with
 | none => rw [ho'] at h3; cases h3
 | some o' =>
  rw [ho'] at h3
  cases hd : o'.dst with
  | none => simp only [Option.bind_some, hd] at h3; cases h3
  | some t' =>
   simp only [Option.bind_some, hd, Bool.and_eq_true, Bool.not_eq_true'] at h3
   have : t' = t := Nat.eq_of_beq_eq_true h3.1
   subst this
   rcases hf j' o' ho' hd with h4 | h4
   · simp only at h4
     rw [h4] at h3; simp at h3
   · rw [h4] at h3; simp at h3
def evB (ops : Array Oper) (k : Nat) (s : St) (o : Oper) (ks ls : List Nat) : Bool :=
 (aEm ops k s ls && (((ls.isEmpty || (List.range ops.size).all fun j => Nat.beq j k || (vV ops j k || (match ops[j]? with
  | some o' => (tmpsOf o').all fun t => aHU ops k t || (jW (s.sl t)).all fun l0 => match s.hp l0 with | some ob => ls.all fun l => !(zK l ob.e) | none => true
  | none => true))) && (ks.isEmpty || (List.range ops.size).all fun j => match ops[j]? with
  | some o' => (tmpsOf o').all fun t => aHU ops k t || (jW (s.sl t)).all fun l => match s.hp l with | some ob => ob.e.shut | none => true
  | none => true)) && ((!(aOe o) || (List.range ops.size).all fun j => Nat.beq j k || (vV ops j k || (match ops[j]? with
  | some o' => aLL o'
  | none => true))) && (!(aLL o) || ks.isEmpty)))) &&
 ((ks.isEmpty || (List.range ops.size).all fun j => match ops[j]? with
  | some o => (tmpsOf o).all fun t => aHU ops k t || ((ks.all fun l => !((s.sl t).names l)) || (jW (s.sl t)).all fun l => ls.contains l) &&
   (Nat.beq j k || (vV ops j k || (jW (s.sl t)).all fun l => match s.hp l with | some ob => ob.e.shut | none => true))
  | none => true) &&
 (List.range ops.size).all fun j => Nat.beq j k || (vV ops j k || (match (ops[j]?).bind (·.dst) with
  | some d => ls.all fun l => !(Nat.beq (l % 1000) ((d + 1) % 1000))
  | none => true)))
section
variable {P : Program} {Θ : Tab} {n : Nat} {ops : Array Oper} {k : Nat} {s : St} {o : Oper} {u : AV} {ks : List Nat} {nu : List (Nat × Option OB)}
theorem aPH (hs : SftG P Θ o s u ks nu) (hin : ∀ l ∈ nu.map (·.1), yS nu l) (hB : evB ops k s o ks (nu.map (·.1)) = true) : Ev P Θ ops (fun j => Nat.blt j k) k o s u ks nu := by
 simp only [evB, Bool.and_eq_true] at hB
 obtain ⟨⟨b1, ⟨bf, bc⟩, bo, bn⟩, b2, b3⟩ := hB
 have key : ∀ (j : Nat) (o' : Oper), ops[j]? = some o' → ∀ t ∈ tmpsOf o', vC ops (fun j => Nat.blt j k) t → ks = [] ∨
  (((ks.all fun l => !((s.sl t).names l)) || (jW (s.sl t)).all fun l => (nu.map (·.1)).contains l) = true ∧ (Nat.beq j k || (vV ops j k || (jW (s.sl t)).all fun l => match s.hp l with | some ob => ob.e.shut | none => true)) = true) := fun j o' ho t ht hf => by
  rcases (Bool.or_eq_true _ _).mp b2 with h | h
  · exact .inl (List.isEmpty_iff.1 h)
  · have h1 := List.all_eq_true.1 h j (List.mem_range.2 (Array.getElem?_eq_some_iff.1 ho).1)
    simp only [ho] at h1
    have h2 := List.all_eq_true.1 h1 t ht
    rcases (Bool.or_eq_true _ _).mp h2 with h3 | h3
    · exact (aEW h3 hf).elim
    · exact .inr (by simpa [Bool.and_eq_true] using h3)
 refine ⟨hs, fun j o' ho hne hor t ht hf l hl => aHa b1 j o' ho hne hor t ht hf l (aCR hl), fun j o' ho t ht hf => ?_, fun j o' ho hne hor t ht hf l ob hn hob => ?_, fun j o' ho hne hor d hd l hl => ?_, fun j o' ho hne hor t ht hf l0 ob l hn hob hl => ?_, ?_, fun hst j o' ho hne hor => ?_, fun hnk => ?_⟩
 · rcases key j o' ho t ht hf with rfl | ⟨h, _⟩
   · exact .inl fun l hl => by cases hl
   · rcases (Bool.or_eq_true _ _).mp h with h | h
     · exact .inl fun l hl => by simpa using List.all_eq_true.1 h l hl
     · exact .inr fun l hl => hin l (by simpa using List.all_eq_true.1 h l (jJ _ hl))
 · rcases key j o' ho t ht hf with rfl | ⟨_, h⟩
   · exact .inl rfl
   · rw [yO hne, hor] at h
     simp only [Bool.false_or] at h
     have := List.all_eq_true.1 h l (jJ _ hn)
     simp only [hob] at this
     exact .inr this
 · have h1 := List.all_eq_true.1 b3 j (List.mem_range.2 (Array.getElem?_eq_some_iff.1 ho).1)
   rw [yO hne, hor] at h1
   simp only [Bool.false_or, ho, Option.bind_some, hd] at h1
   have := List.all_eq_true.1 h1 l (aCR hl)
   intro e
   rw [e] at this
   simp at this
 · have hm := aCR hl
   rcases (Bool.or_eq_true _ _).mp bf with h | h
   · rw [List.isEmpty_iff.1 h] at hm; cases hm
   · have h1 := List.all_eq_true.1 h j (List.mem_range.2 (Array.getElem?_eq_some_iff.1 ho).1)
     rw [yO hne, hor] at h1
     simp only [Bool.false_or, ho] at h1
     have h2 := List.all_eq_true.1 h1 t ht
     rcases (Bool.or_eq_true _ _).mp h2 with h3 | h3
     · exact (aEW h3 hf).elim
     · have h4 := List.all_eq_true.1 h3 l0 (jJ _ hn)
       simp only [hob] at h4
       have h5 := List.all_eq_true.1 h4 l hm
       simpa using h5
 · rcases (Bool.or_eq_true _ _).mp bc with h | h
   · exact .inl (List.isEmpty_iff.1 h)
   · refine .inr fun j o' ho t ht hf l0 ob hn hob => ?_
     have h1 := List.all_eq_true.1 h j (List.mem_range.2 (Array.getElem?_eq_some_iff.1 ho).1)
     simp only [ho] at h1
     have h2 := List.all_eq_true.1 h1 t ht
     rcases (Bool.or_eq_true _ _).mp h2 with h3 | h3
     · exact (aEW h3 hf).elim
     · have h4 := List.all_eq_true.1 h3 l0 (jJ _ hn)
       simp only [hob] at h4
       exact h4
 · rw [hst] at bo
   have h1 := List.all_eq_true.1 bo j (List.mem_range.2 (Array.getElem?_eq_some_iff.1 ho).1)
   rw [yO hne, hor] at h1
   simpa only [Bool.false_or, ho] using h1
 · rw [hnk] at bn
   exact List.isEmpty_iff.1 bn
theorem aCQ {l : Nat} (h : yS [] l) : False := by obtain ⟨o, h⟩ := h; simp [zA] at h
theorem aOc {v : AV} (hp : Pre P Θ o s ⟨v, none⟩) (hc : calm Θ true o = true) (hv : jT o = true ∨ v.within (fun _ => false) = true) : Sft P Θ o s v [] [] := by
 refine ⟨fun s' h1 h2 => ⟨⟨v, none⟩, aET (two := true) hc h1 (fun _ l ⟨x, hx, hn⟩ => ?_) hp, fun K hK => .done hK⟩, fun l ob h => by simp [zA] at h, fun l hl => (by cases hl), fun l hl => ?_, fun l hl => (aCQ hl).elim, fun l ob hl => (aCQ hl).elim⟩
 · cases x with
   | tmp t => exact (h2 l (.inr ⟨t, wB hx, hn⟩)).1
   | global g => simp [St.ev, aAt] at hn
   | _ => simp [St.ev, AV.names, x9] at hn
 · rcases hv with hv | hv
   · exact .inr (aBf hv hp l hl)
   · have := vL v hv hl; cases this
theorem qL {K : St → Prop} (h : K s) : xW P Θ n ops k [] s K := Gh.done h
theorem xK {r : List Oper} {K : St → Prop} {v : AV} (hp : Pre P Θ o s ⟨v, none⟩) (hin : inN n o.dst = true) (hg : o.guard = none) (hc : calm Θ true o = true) (hv : jT o = true ∨ v.within (fun _ => false) = true) (hB : evB ops k s o [] [] = true) (h : xW P Θ n ops (k + 1) r (s.put o.dst v) K) : xW P Θ n ops k (o :: r) s K :=
 ⟨hin, hg, .inl ⟨v, [], [], aPH (aOc hp hc hv).g (fun l hl => by cases hl) hB, h⟩⟩
theorem yQ {r : List Oper} {K : St → Prop} (hs : Sft P Θ o s u ks nu) (hn : ∀ l ∈ nu.map (·.1), yS nu l) (hin : inN n o.dst = true) (hg : o.guard = none) (hB : evB ops k s o ks (nu.map (·.1)) = true) (h : xW P Θ n ops (k + 1) r ((shp ks nu s).put o.dst u) K) : xW P Θ n ops k (o :: r) s K :=
 ⟨hin, hg, .inl ⟨u, ks, nu, aPH hs.g hn hB, h⟩⟩
theorem aFk {r : List Oper} {K : St → Prop} {e : Eff} (hp : Pre P Θ o s e) (hin : inN n o.dst = true) (hg : o.guard = none) (ht : tied ops k = true) (h : xW P Θ n ops (k + 1) r (s.app o.dst e) K) : xW P Θ n ops k (o :: r) s K :=
 ⟨hin, hg, .inr ⟨ht, e, hp, .done h⟩⟩
end
abbrev vv (x : AV) : Bool := x.within (fun _ => false)
mutual
theorem aDP (s s' : St) : ∀ x : AV, vv x = true → s'.dat x = s.dat x
 | .own l, h => by simp [vv, AV.within] at h
 | .optr l _ _ _, h => by simp [vv, AV.within] at h
 | .mix xs, h => by unfold St.dat; rw [aFP s s' xs (by simpa [vv, AV.within] using h)]
 | .ifc t x, h => by unfold St.dat; rw [aDP s s' x (by simpa [vv, AV.within] using h)]
 | .mapv l, h => by simp [vv, AV.within] at h
 | .tup xs, h => by simp [St.dat]
 | .fn _ xs ys, h => by simp [St.dat]
 | .any, h => by simp [St.dat]
 | .v _, h => by simp [St.dat]
 | .agg _, h => by simp [St.dat]
 | .lst _ _, h => by simp [St.dat]
 | .ptr _, h => by simp [St.dat]
 | .rd _, h => by simp [St.dat]
theorem aFP (s s' : St) : ∀ xs : List AV, uq (fun _ => false) xs = true → s'.datL xs = s.datL xs
 | [], _ => by simp [St.datL]
 | x :: xs, h => by
  simp only [uq, Bool.and_eq_true] at h
  simp only [St.datL]; rw [aDP s s' x h.1, aFP s s' xs h.2]
end
mutual
theorem aB3 (s s' : St) : ∀ x : AV, vv x = true → xR s' x = xR s x
 | .own l, h => by simp [vv, AV.within] at h
 | .optr l _ _ _, h => by simp [vv, AV.within] at h
 | .mix xs, h => by unfold xR; rw [aCp s s' xs (by simpa [vv, AV.within] using h)]
 | .ifc t x, h => by simp [xR]
 | .mapv l, h => by simp [vv, AV.within] at h
 | .tup xs, h => by simp [xR]
 | .fn _ xs ys, h => by simp [xR]
 | .any, h => by simp [xR]
 | .v _, h => by simp [xR]
 | .agg _, h => by simp [xR]
 | .lst _ _, h => by simp [xR]
 | .ptr _, h => by simp [xR]
 | .rd _, h => by simp [xR]
theorem aCp (s s' : St) : ∀ xs : List AV, uq (fun _ => false) xs = true → uW s' xs = uW s xs
 | [], _ => by simp [uW]
 | x :: xs, h => by
  simp only [uq, Bool.and_eq_true] at h
  simp only [uW]; rw [aB3 s s' x h.1, aCp s s' xs h.2]
end
theorem aL5 (s s' : St) (x : AV) (h : vv x = true) : jm s' x = jm s x := by
 cases x with
 | ifc t y => simp only [jm]; exact aB3 s s' y (by simpa [vv, AV.within] using h)
 | own l => simp [vv, AV.within] at h
 | optr l i p c => simp [vv, AV.within] at h
 | mix xs => simp only [jm]; exact aB3 s s' (.mix xs) h
 | fn f xs ys => cases xs <;> cases ys <;> simp [jm]
 | _ => simp [jm, xR]
theorem aDk (s s' : St) : ∀ xs : List AV, (xs.all vv) = true → vE s' xs = vE s xs
 | [], _ => rfl
 | x :: xs, h => by
  simp only [List.all_cons, Bool.and_eq_true] at h
  simp only [vE]; rw [aL5 s s' x h.1, aDk s s' xs h.2]
def vk (d : Nat) : Nat → List OB → List (Nat × Option OB)
 | _, [] => []
 | k, ob :: r => (d + 1000 * k, some ob) :: vk d (k + 1) r
theorem aC3 {d : Nat} : ∀ (r : List OB) (k k' : Nat), k < k' → zA (vk d k' r) (d + 1000 * k) = none
 | [], _, _, _ => rfl
 | ob :: r, k, k', h => by
  have hne : d + 1000 * k ≠ d + 1000 * k' := by omega
  simp only [vk, zA]
  rw [yO hne]; exact aC3 r k (k' + 1) (by omega)
theorem aCZ {d : Nat} : ∀ (r : List OB) (k l : Nat) (o : Option OB), zA (vk d k r) l = some o → ∃ j ob, l = d + 1000 * j ∧ o = some ob ∧ ob ∈ r ∧ k ≤ j ∧ r[j - k]? = some ob
 | [], _, _, _, h => by simp [vk, zA] at h
 | ob :: r, k, l, o, h => by
  simp only [vk, zA] at h
  cases e : Nat.beq l (d + 1000 * k) with
  | true =>
   rw [e] at h; simp only [cond_true, Option.some.injEq] at h
   exact ⟨k, ob, Nat.eq_of_beq_eq_true e, h.symm, by simp, Nat.le_refl _, by simp⟩
  | false =>
   rw [e] at h
   obtain ⟨j, ob', h1, h2, h3, h4, h5⟩ := aCZ r (k + 1) l o h
   exact ⟨j, ob', h1, h2, List.mem_cons_of_mem _ h3, by omega, by
    have : j - k = (j - (k + 1)) + 1 := by omega
    rw [this, List.getElem?_cons_succ]; exact h5⟩
theorem aEn {s : St} {d : Nat} : ∀ (r : List OB) (k : Nat), yX s d k r → ∀ j, k ≤ j → j < k + r.length → s.hp (d + 1000 * j) = none
 | [], k, _, j, h1, h2 => by simp at h2; omega
 | ob :: r, k, h, j, h1, h2 => by
  unfold yX at h
  rcases Nat.eq_or_lt_of_le h1 with e | e
  · subst e; exact h.1.1
  · exact aEn r (k + 1) h.2 j (by omega) (by simp at h2; omega)
theorem aEI {s s' : St} {d : Nat} : ∀ (r : List OB) (k : Nat), (∀ j, k ≤ j → j < k + r.length → s'.hp (d + 1000 * j) = s.hp (d + 1000 * j)) → yX s d k r → yX s' d k r
 | [], _, _, _ => trivial
 | ob :: r, k, hh, h => by
  unfold yX at h ⊢
  exact ⟨⟨(hh k (Nat.le_refl _) (by simp)).trans h.1.1, h.1.2⟩, aEI r (k + 1) (fun j h1 h2 => hh j (by omega) (by simp; omega)) h.2⟩
theorem aGb {d : Nat} : ∀ (r : List OB) (k j : Nat), k ≤ j → j < k + r.length → yS (vk d k r) (d + 1000 * j)
 | [], k, j, h1, h2 => by simp at h2; omega
 | ob :: r, k, j, h1, h2 => by
  unfold yS
  simp only [vk, zA]
  cases e : Nat.beq (d + 1000 * j) (d + 1000 * k) with
  | true => exact ⟨_, rfl⟩
  | false =>
   have hne : j ≠ k := fun h => by subst h; rw [Nat.beq_refl] at e; cases e
   exact aGb r (k + 1) j (by omega) (by simp at h2; omega)
theorem aF4 {d : Nat} : ∀ (r : List OB) (k : Nat) (s : St), uG d k r s = shp [] (vk d k r) s
 | [], k, s => rfl
 | ob :: r, k, s => by
  show uG d (k + 1) r (s.set (d + 1000 * k) (some ob)) = _
  rw [aF4 r (k + 1)]
  unfold shp St.set
  congr 1
  · funext j
    simp only [vk, zA]
    cases e : Nat.beq j (d + 1000 * k) with
    | true =>
     have := Nat.eq_of_beq_eq_true e
     subst this
     rw [aC3 r k (k + 1) (by omega)]; rfl
    | false => rfl
  · funext j
    simp only [vk, zA]
    cases e : Nat.beq j (d + 1000 * k) with
    | true =>
     have := Nat.eq_of_beq_eq_true e
     subst this
     rw [aC3 r k (k + 1) (by omega)]; rfl
    | false => rfl
section
variable {P : Program} {Θ : Tab} {s : St} {ty : TypeId} {pos : String} {after : Array Edge} {g : Option (Nat × Bool)}
theorem uy {f : FuncId} {ags : Array Operand} {ts : Array TypeId} {t : Nat} {args : List AV} {out : Out} (hac : AC P f args out) (ha : (ags.toList.map fun x => s.dat (s.ev x)) = args) (hfl : (yN s ags.toList).isEmpty = true) (hw : (ags.toList.map s.ev).all vv = true) (hfr : yX s (t + 1) 0 out.obs) (hok : vE s (ags.toList.map s.ev) = true) (hc : wD ags.toList = true)
 (hv : (ren (t + 1) out.val).within (fun l => (zA (vk (t + 1) 0 out.obs) l).isSome) = true) :
 Sft P Θ ⟨some t, .call ⟨.value (.func f), ags, ts⟩, ty, pos, after, g⟩ s (ren (t + 1) out.val) [] (vk (t + 1) 0 out.obs) := by
 have hsh := aDH out.obs 0 hfr
 refine ⟨fun s' h1 h2 => ?_, fun l ob h => ?_, fun l hl => (by cases hl), fun l hl => ?_, fun l ⟨o, hl⟩ => ?_, fun l ob ⟨o, hl⟩ ho => ?_⟩
 · have hev : ∀ x ∈ ags.toList, s'.ev x = s.ev x := fun x hx => h1 x (by simp [Op.operands, Call.operands] at hx ⊢; exact .inr hx)
   have hmap : ags.toList.map s'.ev = ags.toList.map s.ev := List.map_congr_left hev
   refine ⟨⟨ren (t + 1) out.val, qh (t + 1) out.obs⟩, qG hac ?_ (.inl ?_) (aEI out.obs 0 (fun j h3 h4 => (h2 _ (.inl (aGb out.obs 0 j h3 h4))).1) hfr) ?_ hc, fun K hK => .done ?_⟩
   · rw [← ha]
     refine List.map_congr_left fun x hx => ?_
     rw [hev x hx]
     exact aDP s s' _ (List.all_eq_true.1 hw _ (List.mem_map_of_mem hx))
   · unfold yN at hfl ⊢; rw [hmap]; exact hfl
   · rw [hmap, aDk s s' _ hw]; exact hok
   · cases ho : out.obs with
     | nil => rw [ho] at hK; exact hK
     | cons ob r =>
      rw [ho] at hK
      show K ((uG (t + 1) 0 (ob :: r) s').put (some t) (ren (t + 1) out.val))
      rw [aF4]; exact hK
 · obtain ⟨j, ob', _, e, hm, _⟩ := aCZ out.obs 0 l _ h
   cases e; exact hsh ob hm
 · have := vL _ hv hl
   obtain ⟨o, ho⟩ := Option.isSome_iff_exists.1 this
   exact .inl ⟨o, ho⟩
 · obtain ⟨j, ob', e, _⟩ := aCZ out.obs 0 l _ hl
   exact .inl ⟨t, rfl, by rw [e]; omega⟩
 · obtain ⟨j, ob', e, _, _, h4, h5⟩ := aCZ out.obs 0 l _ hl
   have hj := (List.getElem?_eq_some_iff.1 h5).1
   have := aEn out.obs 0 hfr j h4 (by omega)
   rw [← e, ho] at this; cases this
end
theorem aGL (l : Nat) (ob : OB) (s : St) : s.set l (some ob) = shp [] [(l, some ob)] s := by
 unfold shp St.set
 congr 1
 · funext j; show (bif Nat.beq j l then some ob else s.hp j) = (match (bif Nat.beq j l then some (some ob) else none) with | some o => o | none => s.hp j)
   cases Nat.beq j l <;> rfl
 · funext j; show (bif Nat.beq j l then none else s.mp j) = (match (bif Nat.beq j l then some (some ob) else none) with | some _ => none | none => s.mp j)
   cases Nat.beq j l <;> rfl
theorem nu1 {l m : Nat} {ob : OB} {o : Option OB} (h : zA [(l, some ob)] m = some o) : m = l ∧ o = some ob := by
 simp only [zA] at h
 cases e : Nat.beq m l with
 | true => rw [e] at h; simp only [cond_true, Option.some.injEq] at h; exact ⟨Nat.eq_of_beq_eq_true e, h.symm⟩
 | false => rw [e] at h; cases h
theorem in1 (l : Nat) (ob : OB) : yS [(l, some ob)] l := ⟨some ob, by simp [zA]⟩
section
variable {P : Program} {Θ : Tab} {s : St} {ty : TypeId} {pos : String} {after : Array Edge} {g : Option (Nat × Bool)}
end
section
variable {P : Program} {Θ : Tab} {s : St} {ty : TypeId} {pos : String} {after : Array Edge} {g : Option (Nat × Bool)}
end
mutual
theorem aKk {s s' : St} : ∀ x : AV, (∀ l, x.names l = true → s'.hp l = s.hp l) → s'.dat x = s.dat x ∧ xR s' x = xR s x
 | .own l, h => by
  have := h l (by simp [AV.names])
  simp only [St.dat, xR, this, and_self]
 | .optr l i p c, h => by
  have := h l (by simp [AV.names])
  simp only [St.dat, xR, this, and_self]
 | .mix xs, h => by
  obtain ⟨h1, h2⟩ := aIq xs (fun l hl => h l (by simpa [AV.names] using hl))
  simp only [St.dat, xR, h1, h2, and_self]
 | .ifc t x, h => by
  obtain ⟨h1, _⟩ := aKk x (fun l hl => h l (by simpa [AV.names] using hl))
  simp only [St.dat, xR, h1, and_self]
 | .rd x, _ => ⟨rfl, rfl⟩
 | .any, _ => ⟨rfl, rfl⟩
 | .v _, _ => ⟨rfl, rfl⟩
 | .agg _, _ => ⟨rfl, rfl⟩
 | .lst _ _, _ => ⟨rfl, rfl⟩
 | .ptr _, _ => ⟨rfl, rfl⟩
 | .tup _, _ => ⟨rfl, rfl⟩
 | .mapv _, _ => ⟨rfl, rfl⟩
 | .fn _ _ _, _ => ⟨rfl, rfl⟩
theorem aIq {s s' : St} : ∀ xs : List AV, (∀ l, x9 l xs = true → s'.hp l = s.hp l) → s'.datL xs = s.datL xs ∧ uW s' xs = uW s xs
 | [], _ => ⟨rfl, rfl⟩
 | x :: xs, h => by
  obtain ⟨h1, h2⟩ := aKk x (fun l hl => h l (by simp [x9, hl]))
  obtain ⟨h3, h4⟩ := aIq xs (fun l hl => h l (by simp [x9, hl]))
  simp only [St.datL, uW, h1, h2, h3, h4, and_self]
end
theorem aPK (t : Nat) (z : AV) : (kz t z).shut = true := by unfold kz; cases zl z <;> rfl
section
variable {P : Program} {Θ : Tab} {s : St} {ty : TypeId} {pos : String} {after : Array Edge} {g : Option (Nat × Bool)}
theorem aAN {t : TypeId} {d : Nat} (hf : s.hp (d + 1) = none) (hk : (Θ.look t).known = true) (hok : okL (d + 1) = true := by rfl) :
 Sft P Θ ⟨some d, .alloc t, ty, pos, after, g⟩ s (.optr (d + 1) 0 [] 0) [] [(d + 1, some ⟨kz t (Θ.look t).zero, (Θ.look t).size, [(Θ.look t).zero]⟩)] := by
 refine ⟨fun s' h1 h2 => ⟨⟨.optr (d + 1) 0 [] 0, some fun s => s.set (d + 1) (some ⟨kz t (Θ.look t).zero, (Θ.look t).size, [(Θ.look t).zero]⟩)⟩, zP ((h2 _ (.inl (in1 _ _))).1.trans hf) hk hok, fun K hK => .done ?_⟩, fun l ob h => ?_, fun l hl => (by cases hl), fun l hl => .inl ?_, fun l ⟨o, hl⟩ => .inl ?_, fun l ob ⟨o, hl⟩ ho => ?_⟩
 · rw [vz, aGL]; exact hK
 · obtain ⟨_, e⟩ := nu1 h; cases e; exact aPK _ _
 · simp only [AV.names] at hl; rw [← Nat.eq_of_beq_eq_true hl]; exact in1 _ _
 · obtain ⟨rfl, _⟩ := nu1 hl; exact ⟨d, rfl, rfl⟩
 · obtain ⟨rfl, _⟩ := nu1 hl; rw [hf] at ho; cases ho
theorem wT {t : TypeId} {tx ty' : Tmp} {l i c : Nat} {p : List Nat} {ob : OB} {q z v : AV} (hq : ob.xs[i]? = some q) (hx : s.sl tx = .optr l i p c) (ho : s.hp l = some ob) (hg : xq q p 0 = some (z, c)) (hs : ((Θ.look t).known && (Nat.beq (asz z) (Θ.look t).size && Nat.beq (asz v) (asz z))) = true) (hy : s.sl ty' = v) (hv : (match v with | .v c => c.oneCell' | .agg _ => true | .lst _ _ => true | .ptr _ => true | _ => false) = true) (hop : ob.e.open_ = true := by rfl) :
 Sft P Θ ⟨none, .store t (.tmp tx) (.tmp ty'), ty, pos, after, g⟩ s .any [] [(l, some ⟨.s (ob.e.typ.getD 0), ob.sz, ob.xs.set i (uM q p v)⟩)] := by
 have m1 : tx ∈ tmpsOf (⟨none, .store t (.tmp tx) (.tmp ty'), ty, pos, after, g⟩ : Oper) := wB (by simp [Op.operands])
 refine ⟨fun s' h1 h2 => ⟨⟨.any, some fun s' => s'.set l (some ⟨.s (ob.e.typ.getD 0), ob.sz, ob.xs.set i (uM q p v)⟩)⟩, xS hq ((h1 (.tmp tx) (by simp [Op.operands])).trans hx) ((h2 _ (.inl (in1 _ _))).1.trans ho) hg hs ((h1 (.tmp ty') (by simp [Op.operands])).trans hy) (by cases v <;> first | exact hv | rfl) hop, fun K hK => .done ?_⟩, fun l ob h => ?_, fun l hl => (by cases hl), fun l hl => by simp [AV.names] at hl, fun m ⟨o, hl⟩ => .inr ?_, fun m ob' ⟨o, hl⟩ ho' => ?_⟩
 · rw [vz, aGL]; exact hK
 · obtain ⟨_, e⟩ := nu1 h; cases e; rfl
 · obtain ⟨rfl, _⟩ := nu1 hl; exact ⟨tx, m1, by rw [hx]; simp [AV.names]⟩
 · obtain ⟨rfl, _⟩ := nu1 hl; rw [ho] at ho'; cases ho'
   obtain ⟨e, sz, xs⟩ := ob
   cases e <;> first | rfl | cases hop
theorem jS {d : Option Tmp} {t : Nat} {y : AV} (hx : s.sl t = y) : Sft P Θ ⟨d, .assign (.tmp t), ty, pos, after, g⟩ s y [] [] := by
 refine ⟨fun s' h1 h2 => ⟨⟨y, none⟩, aLo ((h1 (.tmp t) (by simp [Op.operands])).trans hx), fun K hK => .done hK⟩, fun l ob h => by simp [zA] at h, fun l hl => (by cases hl), fun l hl => .inr ⟨t, wB (by simp [Op.operands]), by rw [hx]; exact hl⟩, fun l hl => (aCQ hl).elim, fun l ob hl => (aCQ hl).elim⟩
theorem wu {d k : Nat} {obs : List OB} : ∀ l ∈ (vk d k obs).map (·.1), yS (vk d k obs) l := by
 induction obs generalizing k with
 | nil => intro l hl; cases hl
 | cons ob r ih =>
  intro l hl
  unfold yS
  simp only [vk, List.map_cons, List.mem_cons] at hl
  simp only [vk, zA]
  cases e : Nat.beq l (d + 1000 * k) with
  | true => exact ⟨_, rfl⟩
  | false =>
   rcases hl with h | h
   · rw [h, Nat.beq_refl] at e; cases e
   · obtain ⟨o, ho⟩ := ih l h; exact ⟨o, ho⟩
theorem vO {l : Nat} {ob : OB} : ∀ m ∈ ([(l, some ob)] : List (Nat × Option OB)).map (·.1), yS [(l, some ob)] m := fun m hm => by
 simp only [List.map_cons, List.map_nil, List.mem_singleton] at hm
 subst hm; exact in1 _ _
theorem aAu : ∀ m ∈ ([] : List (Nat × Option OB)).map (·.1), yS [] m := fun m hm => by cases hm
end
section
variable {P : Program} {Θ : Tab} {s : St} {ty : TypeId} {pos : String} {after : Array Edge} {g : Option (Nat × Bool)}
end
end Go.Proofs.YtkfllfhcjegfoaaGreatDoor.AM
