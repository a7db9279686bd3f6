/- Texts of the machine over data, folded. -/
import Derived.Test.YtodckioppgjbdaaGreatDoorKd1
import Derived.Laws.MakeOwn
import Derived.Great.BuildSlice
set_option linter.unusedVariables false
set_option linter.unusedSimpArgs false
namespace Go.Proofs.YtodckioppgjbdaaGreatDoor.AM
open Go Go.RowKit
inductive TI where
 | non
 | str
 | int (k : IntKind)
 | bool
 | slice (e sz bytes : Nat) (z : AV)
 | struct (fs : List (Nat × Nat)) (z : List AV)
 | map (kt vt : TypeId) (z : AV)
 | ptr
 | func
 | iface
 | arr (e m sz : Nat) (z : AV)
abbrev Tab := List (Nat × TI)
def Tab.look : Tab → Nat → TI
 | [], _ => .non
 | (t, x) :: r, u => bif Nat.beq t u then x else Tab.look r u
def kJ (P : Program) : Nat → List Field → List (Nat × Nat) → Prop
 | _, [], [] => True
 | n, f :: fs, (o, z) :: r => f.offset = o ∧ o = n ∧ 0 < z ∧ (P.info? f.type).map (·.size) = some z ∧ kJ P (n + z) fs r
 | _, _, _ => False
def sizes : List (Nat × Nat) → Nat
 | [] => 0
 | (_, z) :: r => z + sizes r
def Fa : Nat → Prop := fun _ => False
def vB (P : Program) (t : TypeId) : TI → Prop
 | .non => True
 | .str => P.underlying t = some .string ∧ ∃ i, P.info? t = some i ∧ i.size = 1 ∧ i.zero = some (.string ByteArray.empty)
 | .int k => P.underlying t = some (.int k) ∧ ∃ i, P.info? t = some i ∧ i.size = 1 ∧ i.zero = some (.int k 0)
 | .bool => P.underlying t = some .bool ∧ ∃ i, P.info? t = some i ∧ i.size = 1 ∧ i.zero = some (.bool false)
 | .slice e sz by_ z => P.underlying t = some (.slice e) ∧ (∃ j, P.info? t = some j ∧ j.size = 1 ∧ j.zero = some (.slice none 0 0)) ∧
  ∃ i zv, P.info? e = some i ∧ i.zero = some zv ∧ i.size = sz ∧ i.bytes = by_ ∧ 0 < sz ∧ asz z = sz ∧ ∀ w, RD w z Fa zv.cells.toList
 | .struct fs z => ∃ fields i cs, P.underlying t = some (.struct fields) ∧ kJ P 0 fields.toList fs ∧ P.info? t = some i ∧ i.size = sizes fs ∧ 0 < sizes fs ∧
  z.map asz = fs.map (·.2) ∧ i.zero = some (.agg cs) ∧ ∀ w, RDL w z Fa cs.toList
 | .map kt vt z => P.underlying t = some (.map kt vt) ∧ P.underlying kt = some .string ∧ ∃ i zv, P.info? vt = some i ∧ i.zero = some zv ∧ ∀ S w hp B V, RV S w hp B V z zv
 | .ptr => (∃ e, P.underlying t = some (.pointer e)) ∧ ∃ i, P.info? t = some i ∧ i.size = 1 ∧ i.zero = some (.pointer none)
 | .func => (∃ a b c, P.underlying t = some (.func a b c)) ∧ ∃ i, P.info? t = some i ∧ i.size = 1 ∧ i.zero = some .nilFunc
 | .iface => (∃ a, P.underlying t = some (.interface a)) ∧ ∃ i, P.info? t = some i ∧ i.size = 1 ∧ i.zero = some .nilIface
 | .arr e m sz z => P.underlying t = some (.array m e) ∧ (∃ i cs, P.info? t = some i ∧ i.size = m * sz ∧ i.zero = some (.agg cs) ∧ ∀ w, RDL w (List.replicate m z) Fa cs.toList) ∧ 0 < m ∧ 0 < sz ∧ asz z = sz ∧ ∃ j, P.info? e = some j ∧ j.size = sz
def yP (P : Program) (Θ : Tab) : Prop := ∀ t, vB P t (Θ.look t)
def zY : List (ByteArray × AV) → ByteArray → Option AV
 | [], _ => none
 | (k, y) :: r, q => if q = k then some y else zY r q
def vE : List (ByteArray × AV) → ByteArray → AV → List (ByteArray × AV)
 | [], q, v => [(q, v)]
 | (k, y) :: r, q, v => if q = k then (q, v) :: r else (k, y) :: vE r q v
def aAR : List (ByteArray × AV) → ByteArray → List (ByteArray × AV)
 | [], _ => []
 | (k, y) :: r, q => if q = k then r else (k, y) :: aAR r q
structure Eff where
 val : AV
 upd : Option (St → St)
def St.app (s : St) (d : Option Tmp) (e : Eff) : St :=
 match e.upd with
 | none => s.put d e.val
 | some f => (f s).put d e.val
def xX : AV → Option Value
 | .v x => some x
 | .agg xs => (concL xs).map fun cs => .agg cs.toArray
 | .fn f [] [] => some (.func (.func f) #[] #[])
 | .mix xs => (concM xs).map fun cs => .agg cs.toArray
 | _ => none
where
 concL : List AV → Option (List Value)
 | [] => some []
 | .v x :: r => (concL r).map (x :: ·)
 | _ :: _ => none
 concM : List AV → Option (List Value)
 | [] => some []
 | .fn f [] [] :: r => (concM r).map (Value.func (.func f) #[] #[] :: ·)
 | _ :: _ => none
def rowAt (ob : OB) (i : Nat) (p : List Nat) (c : Nat) : AV :=
 match ob.xs[i]? with
 | some y => match xU y p 0 with
  | some (z, c') => bif Nat.beq c' c then .ptr z else .any
  | none => .any
 | none => .any
def aEW (ob : OB) (l : Nat) : AV → AV
 | .own l' => bif Nat.beq l' l then (bif ob.e.shut then .lst ob.sz ob.xs else .any) else .own l'
 | .optr l' i p c => bif Nat.beq l' l then (bif ob.e.shut then rowAt ob i p c else .any) else .optr l' i p c
 | x => bif x.names l then .any else x
def St.frz (s : St) (l : Nat) : St :=
 match s.hp l with
 | none => s
 | some ob => ⟨fun j => aEW ob l (s.sl j), fun j => bif Nat.beq j l then none else xV l (s.hp j), fun j => bif Nat.beq j l then none else s.mp j⟩
def ji : List Nat → St → St
 | [], s => s
 | l :: ls, s => ji ls (s.frz l)
mutual
def St.dat (s : St) : AV → AV
 | .own l => match s.hp l with | some ob => bif ob.e.shut then .lst ob.sz ob.xs else .any | none => .any
 | .optr l i p c => match s.hp l with | some ob => bif ob.e.shut then rowAt ob i p c else .any | none => .any
 | .mix xs => .agg (St.datL s xs)
 | .ifc t x => .ifc t (s.dat x)
 | .rd x => x
 | x => x
def St.datL (s : St) : List AV → List AV
 | [] => []
 | x :: xs => s.dat x :: s.datL xs
end
mutual
def yT : AV → List Nat
 | .own l => [l]
 | .optr l _ _ _ => [l]
 | .mix xs => xu xs
 | .ifc _ x => yT x
 | .fn _ xs ys => xu xs ++ xu ys
 | _ => []
def xu : List AV → List Nat
 | [] => []
 | x :: xs => yT x ++ xu xs
end
def yF (s : St) (xs : List Operand) : List Nat := xu (xs.map s.ev)
def aI6 (ls : List Nat) : Option (St → St) := match ls with | [] => none | _ => some (ji ls)
def jk (ls : List Nat) (f : St → St) : Option (St → St) := match ls with | [] => some f | _ => some fun s => f (ji ls s)
mutual
def xG (s : St) : AV → Bool
 | .v x => x.oneCell'
 | .agg _ => true
 | .lst _ _ => true
 | .ptr _ => true
 | .own l => match s.hp l with | some ob => ob.e.shut | none => false
 | .optr l i p c => match s.hp l with | some ob => ob.e.shut && (match rowAt ob i p c with | .ptr _ => true | _ => false) | none => false
 | .mix xs => zX s xs
 | .rd _ => true
 | _ => false
def zX (s : St) : List AV → Bool
 | [] => true
 | x :: xs => xG s x && zX s xs
end
def wT (s : St) : AV → Bool
 | .any => true
 | .fn _ [] [] => true
 | .fn _ _ _ => false
 | .ifc _ x => xG s x
 | .tup _ => false
 | .mapv _ => false
 | .rd _ => false
 | x => xG s x
def zo (s : St) : List AV → Bool
 | [] => true
 | x :: r => wT s x && zo s r
def zD (s : St) : List AV → List (Nat × Operand) → List AV
 | z, [] => z
 | z, (i, x) :: r => zD s (z.set i (s.dat (s.ev x))) r
def vU (s : St) : List AV → List (Nat × Operand) → Prop
 | _, [] => True
 | z, (i, x) :: r => (∃ y, z[i]? = some y ∧ asz (s.dat (s.ev x)) = asz y) ∧ xG s (s.ev x) = true ∧ vU s (z.set i (s.dat (s.ev x))) r
mutual
def aCr : AV → AV
 | .lst _ _ => .v (.slice none 0 0)
 | .agg xs => .mix (wW xs)
 | x => x
def wW : List AV → List AV
 | [] => []
 | x :: xs => aCr x :: wW xs
end
def vN (s : St) : List AV → List (Nat × Operand) → List AV
 | z, [] => z
 | z, (i, x) :: r => vN s (z.set i ((toO (s.ev x)).getD .any)) r
def aAU (s : St) : List AV → List (Nat × Operand) → Prop
 | _, [] => True
 | z, (i, x) :: r => (∃ y y', z[i]? = some y ∧ toO (s.ev x) = some y' ∧ asz y' = asz y) ∧ aAU s (z.set i ((toO (s.ev x)).getD .any)) r
def TI.isAgg : TI → Bool
 | .struct _ _ => true
 | .arr _ _ _ _ => true
 | _ => false
def TI.size : TI → Nat
 | .struct fs _ => sizes fs
 | .arr _ m sz _ => m * sz
 | _ => 1
def TI.known : TI → Bool
 | .non => false
 | .map _ _ _ => false
 | _ => true
def TI.zero : TI → AV
 | .str => .v (.string ByteArray.empty)
 | .int k => .v (.int k 0)
 | .bool => .v (.bool false)
 | .slice _ sz _ _ => .lst sz []
 | .struct _ z => .agg z
 | .ptr => .v (.pointer none)
 | .func => .v .nilFunc
 | .iface => .v .nilIface
 | .arr _ m _ z => .agg (List.replicate m z)
 | .non => .any
 | .map _ _ _ => .any
def aLP : AV → Bool
 | .agg xs => xs.all fun | .v .nilFunc => false | _ => true
 | _ => true
def kzS (z : AV) : Bool := zb z && aLP z
def kz (t : Nat) (z : AV) : ET := bif kzS z then .s t else .z t
def ET.open_ : ET → Bool
 | .s _ => true
 | .z _ => true
 | _ => false
def ET.deep : ET → Bool
 | .z _ => true
 | .d _ => true
 | .u => true
 | _ => false
def ET.shutd : Option Nat → ET
 | some t => .d t
 | none => .u
structure Out where
 val : AV
 obs : List OB
mutual
def mapA (ρ : Nat → Nat) : AV → AV
 | .own l => .own (ρ l)
 | .optr l i p c => .optr (ρ l) i p c
 | .mapv l => .mapv (ρ l)
 | .tup xs => .tup (uN ρ xs)
 | .mix xs => .mix (uN ρ xs)
 | .fn f xs ys => .fn f (uN ρ xs) (uN ρ ys)
 | .ifc t x => .ifc t (mapA ρ x)
 | x => x
def uN (ρ : Nat → Nat) : List AV → List AV
 | [] => []
 | x :: xs => mapA ρ x :: uN ρ xs
end
def ren (d : Nat) (x : AV) : AV := mapA (fun k => d + 1000 * k) x
def zh (obs : List OB) : Nat → Option OB := fun l => obs[l]?
def yx (d : Nat) : Nat → List OB → St → St
 | _, [], s => s
 | k, ob :: r, s => yx d (k + 1) r (s.set (d + 1000 * k) (some ob))
def jC (d : Nat) (obs : List OB) : Option (St → St) :=
 match obs with
 | [] => none
 | _ => some (yx d 0 obs)
def yB (s : St) (d : Nat) : Nat → List OB → Prop
 | _, [] => True
 | k, ob :: r => (s.hp (d + 1000 * k) = none ∧ okL (d + 1000 * k) = true ∧ ob.e.shut = true) ∧ yB s d (k + 1) r
def xH : Nat → List OB → Nat → Option OB
 | _, [], _ => none
 | k, ob :: r, l => bif Nat.beq l k then some ob else xH (k + 1000000) r l
def xk : Nat → List Nat → Nat → Nat
 | _, [], l => l
 | k, L :: r, l => bif Nat.beq l k then L else xk (k + 1000000) r l
def aKk (Ls : List Nat) (x : AV) : AV := mapA (xk 0 Ls) x
def aDs (Ls : List Nat) (xs : List AV) : List AV := uN (xk 0 Ls) xs
def aIx (Ls : List Nat) : ET → ET
 | .o t i y => .o t i (aKk Ls y)
 | e => e
def vY (Ls : List Nat) (ob : OB) : OB := ⟨aIx Ls ob.e, ob.sz, ob.xs⟩
def handed (s : St) (Ls : List Nat) : List Nat → List OB → Prop
 | [], [] => True
 | L :: r, ob :: obs => s.hp L = some (vY Ls ob) ∧ handed s Ls r obs
 | _, _ => False
def yu (Ls : List Nat) : List Nat → List OB → St → St
 | L :: r, ob :: obs, s => yu Ls r obs (s.set L (some (vY Ls ob)))
 | _, _, s => s
def St.drop (s : St) (l : Nat) : St := ⟨fun j => bif (s.sl j).names l then .any else s.sl j, fun j => bif Nat.beq j l then none else xV l (s.hp j), fun j => bif Nat.beq j l then none else s.mp j⟩
def uT (p : Nat → Bool) : ET → Bool
 | .o _ _ y => y.within p
 | _ => true
def uX (Ls ls : List Nat) : List Nat := ls.filter fun l => !Ls.contains l
mutual
def vW (s : St) (Ls : List Nat) : AV → Bool
 | .own l => Ls.contains l || xG s (.own l)
 | .optr l i p c => Ls.contains l || xG s (.optr l i p c)
 | .mix xs => (xu xs).all (fun l => Ls.contains l) || (zX s xs && (xu xs).all (fun l => !Ls.contains l))
 | .ifc _ x => vW s Ls x
 | .fn _ xs ys => wH s Ls xs && wH s Ls ys
 | .tup _ => false
 | .mapv l => Ls.contains l
 | .rd _ => false
 | .any => true
 | x => xG s x
def wH (s : St) (Ls : List Nat) : List AV → Bool
 | [] => true
 | x :: r => vW s Ls x && wH s Ls r
end
mutual
def St.datH (s : St) (Ls : List Nat) : AV → AV
 | .own l => bif Ls.contains l then .own l else s.dat (.own l)
 | .optr l i p c => bif Ls.contains l then .optr l i p c else s.dat (.optr l i p c)
 | .mix xs => bif (xu xs).all (fun l => Ls.contains l) then .mix xs else .agg (s.datL xs)
 | .ifc t x => .ifc t (s.datH Ls x)
 | .fn f xs ys => .fn f (s.datHL Ls xs) (s.datHL Ls ys)
 | x => x
def St.datHL (s : St) (Ls : List Nat) : List AV → List AV
 | [] => []
 | x :: xs => s.datH Ls x :: s.datHL Ls xs
end
def HB (hp : Nat → Option OB) (V : Nat → Value) (T : Nat → Nat → Prop) (g : Nat) : Prop := ∃ l ob, hp l = some ob ∧ Blk V T l g
def ACG (P : Program) (f : FuncId) (args : List AV) (rin rout : List OB) (out : Out) : Prop :=
 (∀ vs w, (callFunc f vs).run P w = .ok (.enter f vs) w) ∧
 ∀ (w : World) (S0 : Nat → Prop) (B0 : Nat → Nat) (V0 : Nat → Value) (T0 : Nat → Nat → Prop) (vs : List Value), (∀ b, S0 b → b < w.heap.size) → (∀ g y, GT g = some y → RG S0 w g y) →
  Rows S0 w (xH 0 rin) (fun _ => none) B0 V0 T0 (fun _ => True) → RVs S0 w (xH 0 rin) B0 V0 args vs →
  Calls P f vs.toArray w fun e w' => ∃ v S B V T T1, e = .returned v ∧ Grown w w' (HB (xH 0 rin) V0 T0) ∧ (∀ b, S0 b → S b) ∧ (∀ b, S b → b < w'.heap.size ∧ (S0 b ∨ w.heap.size ≤ b ∨ HB (xH 0 rin) V0 T0 b)) ∧
   RV S w' (zh out.obs) B V out.val v ∧ Rows S w' (zh out.obs) (fun _ => none) B V T (fun g => w.heap.size ≤ g ∨ HB (xH 0 rin) V0 T0 g) ∧
   Rows S w' (xH 0 rout) (fun _ => none) B0 V0 T1 (fun g => w.heap.size ≤ g ∨ HB (xH 0 rin) V0 T0 g) ∧
   ∀ l l' ob ob' g, zh out.obs l = some ob → xH 0 rout l' = some ob' → Blk V T l g → ¬ Blk V0 T1 l' g
abbrev AC (P : Program) (f : FuncId) (args : List AV) (out : Out) : Prop := ACG P f args [] [] out
abbrev ACM (P : Program) (f : FuncId) (ob : OB) (xs' : List AV) (args : List AV) (v : Value) : Prop := ACG P f (.own 0 :: args) [ob] [⟨ob.e, ob.sz, xs'⟩] ⟨.v v, []⟩
mutual
def yM : AV → Prop
 | .v _ => True
 | .agg xs => zH xs
 | .own _ => True
 | .optr _ _ _ _ => True
 | .tup xs => zH xs
 | .mix xs => zH xs
 | .lst _ xs => xs = []
 | .rd x => yM x
 | .ifc _ x => yM x
 | .fn _ xs ys => zH xs ∧ zH ys
 | .any => True
 | .ptr _ => False
 | .mapv _ => False
def zH : List AV → Prop
 | [] => True
 | x :: xs => yM x ∧ zH xs
end
def kE (ob : OB) : Prop := match ob.e with | .s _ => zH ob.xs | .o _ _ y => yM y | .p _ _ => False | _ => True
def Out.flat (o : Out) : Prop := yM o.val ∧ ∀ ob ∈ o.obs, kE ob
def zG (P : Program) (op : BinOp) (t : TypeId) (x y : Operand) (a b r : Value) : Prop :=
 ∀ w, (do eqGuard op t x y a b; binOp op t a b).run P w = .ok r w
def kX (s : St) : AV → Option Nat
 | .v (.string b) => some b.size
 | .v (.slice none 0 0) => some 0
 | .lst _ xs => some xs.length
 | .own l => (s.hp l).map (·.xs.length)
 | _ => none
def aCV (Θ : Tab) (t : TypeId) : AV → Prop
 | .v (.string _) => Θ.look t = .str
 | .v _ => ∃ e sz b z, Θ.look t = .slice e sz b z
 | .lst _ _ | .own _ => ∃ e sz b z, Θ.look t = .slice e sz b z
 | _ => False
def aCX (s : St) (x : Option Operand) (n : Nat) : Prop :=
 match x with
 | none => n = 0
 | some y => ∃ k, s.ev y = .v (.int k (n : Int))
def aAo (s : St) (x : Option Operand) (len n : Nat) : Prop :=
 match x with
 | none => n = len
 | some y => ∃ k, s.ev y = .v (.int k (n : Int))
def wU (xs : List Operand) : Prop := ∀ x ∈ xs, ∀ c, x = .const c → c.oneCell' = true
def aLH (P : Program) (q : AV) (xT asserted : TypeId) (ok : Bool) (r : AV) : Prop :=
 ∀ (S : Nat → Prop) (w : World) (hp : Nat → Option OB) (B : Nat → Nat) (V : Nat → Value) (u : Value), RV S w hp B V q u → ∃ r', (Instr.typeAssert u xT asserted ok).run P w = .ok r' w ∧ RV S w hp B V r r'
def aKt (P : Program) (t : TypeId) (f : Nat) (q r : AV) : Prop :=
 ∀ (S : Nat → Prop) (w : World) (hp : Nat → Option OB) (B : Nat → Nat) (V : Nat → Value) (u : Value), RV S w hp B V q u → ∃ r', (Instr.field t u f).run P w = .ok r' w ∧ RV S w hp B V r r'
def aKs (P : Program) (t1 t2 : TypeId) (q : AV) (r : Value) : Prop :=
 ∀ (S : Nat → Prop) (w : World) (hp : Nat → Option OB) (B : Nat → Nat) (V : Nat → Value) (u : Value), RV S w hp B V q u → (convert t1 t2 u).run P w = .ok r w
def aKu (P : Program) (t : TypeId) (y : AV) (m : String) (f : FuncId) (y' : AV) : Prop :=
 ∀ (S : Nat → Prop) (w : World) (hp : Nat → Option OB) (B : Nat → Nat) (V : Nat → Value) (u : Value), RV S w hp B V y u → ∃ u', (method (P.types.size + Made.depth) t u m).run P w = .ok (f, u') w ∧ RV S w hp B V y' u'
def aLE (P : Program) (op : BinOp) (t : TypeId) (x y : Operand) (p q : AV) (r : Value) : Prop :=
 ∀ (S : Nat → Prop) (w : World) (hp : Nat → Option OB) (B : Nat → Nat) (V : Nat → Value) (u v : Value), RV S w hp B V p u → RV S w hp B V q v → (do eqGuard op t x y u v; binOp op t u v).run P w = .ok r w
def aBE (P : Program) (s : St) (f : FuncId) (d : Tmp) (out : Out) (A : List AV) (e : Eff) : Prop :=
 ((∃ args, (A.map s.dat) = args ∧ ACG P f args [] [] out ∧ yB s (d + 1) 0 out.obs ∧ zo s A = true ∧
  (((xu A = [] ∨ out.flat) ∧ e = ⟨ren (d + 1) out.val, jC (d + 1) out.obs⟩) ∨
   ((xu A).all okL = true ∧ e = ⟨ren (d + 1) out.val, jk (xu A) (yx (d + 1) 0 out.obs)⟩))) ∨
  ∃ args rin rout Ls, s.datHL Ls A = aDs Ls args ∧ ACG P f args rin rout out ∧ handed s Ls Ls rin ∧ Ls.Nodup ∧ rout.map OB.sz = rin.map OB.sz ∧ yB s (d + 1) 0 out.obs ∧
   wH s Ls A = true ∧ yC (fun l => (xH 0 rin l).isSome) args = true ∧ (rin ++ rout).all (fun ob => uT (fun l => (xH 0 rin l).isSome) ob.e) = true ∧
   ((uX Ls (xu A)) = [] ∨ (out.flat ∧ ∀ ob ∈ rout, kE ob)) ∧
   e = ⟨ren (d + 1) out.val, some fun s => yx (d + 1) 0 out.obs (yu Ls Ls rout s)⟩)
def Pre (P : Program) (Θ : Tab) (o : Oper) (s : St) (e : Eff) : Prop :=
 match o.op with
 | .move x | .assign x => (∀ c, x = .const c → c.oneCell' = true) ∧ (e = ⟨s.ev x, none⟩ ∨
  (∃ l ob, s.ev x = .own l ∧ s.hp l = some ob ∧ ob.e.shut = true ∧ okL l = true ∧ e = ⟨.lst ob.sz ob.xs, some fun s => s.frz l⟩) ∨
  (∃ d el sz, o.dst = some d ∧ 0 < sz ∧ ET.row el = true ∧ okL (d + 1) = true ∧ x = .const (.slice none 0 0) ∧ e = ⟨.own (d + 1), some fun s => (s.kill (d + 1)).set (d + 1) (some ⟨el, sz, []⟩)⟩) ∨
  ∃ l L ob, s.ev x = .own l ∧ s.hp l = some ob ∧ ob.e.shut = true ∧ okL l = true ∧ okL L = true ∧ L ≠ l ∧ e = ⟨.own L, some fun s => s.relab l L ob⟩)
 | .nilCheck x => e = ⟨s.ev x, none⟩ ∧ ((∃ y, s.ev x = .ptr y) ∨ (∃ l i p c, s.ev x = .optr l i p c) ∨ (∃ f xs ys, s.ev x = .fn f xs ys) ∨ ∃ t y, s.ev x = .ifc t y)
 | .pick c a b => (∀ c, a = .const c → c.oneCell' = true) ∧ (∀ c, b = .const c → c.oneCell' = true) ∧ ∃ t, s.ev c = .v (.bool t) ∧ e = ⟨bif t then s.ev a else s.ev b, none⟩
 | .binOp op t x y _ => (∃ a b r, xX (s.ev x) = some a ∧ xX (s.ev y) = some b ∧ zG P op t x y a b r ∧ r.oneCell' = true ∧ e = ⟨.v r, none⟩) ∨
  ∃ r, (∀ c, x = .const c → c.oneCell' = true) ∧ (∀ c, y = .const c → c.oneCell' = true) ∧ aLE P op t x y (s.ev x) (s.ev y) r ∧ r.oneCell' = true ∧ e = ⟨.v r, none⟩
 | .unOp op _ x => ∃ a r, xX (s.ev x) = some a ∧ (∀ w, (Op.unary op a).run P w = .ok r w) ∧ r.oneCell' = true ∧ e = ⟨.v r, none⟩
 | .convert src dst x => (∃ a r, xX (s.ev x) = some a ∧ (∀ w, (convert src dst a).run P w = .ok r w) ∧ r.oneCell' = true ∧ e = ⟨.v r, none⟩) ∨
  ∃ r, (∀ c, x = .const c → c.oneCell' = true) ∧ zo s [s.ev x] = true ∧ aKs P src dst (s.dat (s.ev x)) r ∧ r.oneCell' = true ∧ e = ⟨.v r, none⟩
 | .index t x i => (∃ a b r, xX (s.ev x) = some a ∧ xX (s.ev i) = some b ∧ (∀ w, (Instr.index t a b).run P w = .ok r w) ∧ r.oneCell' = true ∧ e = ⟨.v r, none⟩) ∨
  ∃ el m sz z k j xs y, Θ.look t = .arr el m sz z ∧ s.ev i = .v (.int k ((j : Nat) : Int)) ∧ s.ev x = .agg xs ∧ xs.length = m ∧ (∀ x ∈ xs, asz x = sz) ∧ xs[j]? = some y ∧ (Θ.look el).known = true ∧ zV y = (Θ.look el).isAgg ∧ asz y = (Θ.look el).size ∧ e = ⟨y, none⟩
 | .slice t x lo hi mx => (∃ a r, xX (s.ev x) = some a ∧ (∀ y ∈ lo.toList ++ hi.toList ++ mx.toList, (xX (s.ev y)).isSome = true) ∧
  (∀ w, (Instr.sliceAt t a (lo.map fun y => (xX (s.ev y)).getD undef) (hi.map fun y => (xX (s.ev y)).getD undef) (mx.map fun y => (xX (s.ev y)).getD undef)).run P w = .ok r w) ∧ r.oneCell' = true ∧ e = ⟨.v r, none⟩) ∨
  ∃ el sz b z xs l h, Θ.look t = .slice el sz b z ∧ mx = none ∧ s.ev x = .lst sz xs ∧ aCX s lo l ∧ aAo s hi xs.length h ∧ l ≤ h ∧ h ≤ xs.length ∧ e = ⟨.lst sz ((xs.take h).drop l), none⟩
 | .extract x i => ∃ xs y, s.ev x = .tup xs ∧ xs[i]? = some y ∧ e = ⟨y, none⟩
 | .field t x f => (∀ c, x = .const c → c.oneCell' = true) ∧ ∃ r, aKt P t f (s.ev x) r ∧ e = ⟨r, none⟩
 | .alloc t => ∃ d, o.dst = some d ∧ s.hp (d + 1) = none ∧ okL (d + 1) = true ∧ (Θ.look t).known = true ∧ e = ⟨.optr (d + 1) 0 [] 0, some fun s => s.set (d + 1) (some ⟨kz t (Θ.look t).zero, (Θ.look t).size, [(Θ.look t).zero]⟩)⟩
 | .box t x => (∀ c, x = .const c → c.oneCell' = true) ∧ ∃ d, o.dst = some d ∧ s.hp (d + 1) = none ∧ okL (d + 1) = true ∧ (Θ.look t).known = true ∧
  ((asz (s.dat (s.ev x)) = (Θ.look t).size ∧ xG s (s.ev x) = true ∧ (yT (s.ev x)).all okL = true ∧
   e = ⟨.optr (d + 1) 0 [] 0, jk (yT (s.ev x)) fun s' => s'.set (d + 1) (some ⟨.s t, (Θ.look t).size, [s.dat (s.ev x)]⟩)⟩) ∨
   ∃ y, toO (s.ev x) = some y ∧ asz y = (Θ.look t).size ∧ e = ⟨.optr (d + 1) 0 [] 0, some fun s' => s'.set (d + 1) (some ⟨.o (some t) 0 y, (Θ.look t).size, [y]⟩)⟩)
 | .build t ps => ∃ fs z, Θ.look t = .struct fs z ∧ ((vU s z ps.toList ∧ wU (ps.toList.map (·.2)) ∧ (yF s (ps.toList.map (·.2))).all okL = true ∧ e = ⟨.agg (zD s z ps.toList), aI6 (yF s (ps.toList.map (·.2)))⟩) ∨
  (aAU s (wW z) ps.toList ∧ wU (ps.toList.map (·.2)) ∧ e = ⟨.mix (vN s (wW z) ps.toList), none⟩))
 | .buildSlice t n ps => ∃ d el sz b z, o.dst = some d ∧ s.hp (d + 1) = none ∧ okL (d + 1) = true ∧ Θ.look t = .slice el sz b z ∧ n * sz ≤ 65536 ∧
  ((vU s (List.replicate n z) ps.toList ∧ wU (ps.toList.map (·.2)) ∧ (yF s (ps.toList.map (·.2))).all okL = true ∧
   e = ⟨.own (d + 1), jk (yF s (ps.toList.map (·.2))) fun s' => s'.set (d + 1) (some ⟨.s el, sz, zD s (List.replicate n z) ps.toList⟩)⟩) ∨
   ∃ x y, n = 1 ∧ ps = #[(0, x)] ∧ (∀ c, x = .const c → c.oneCell' = true) ∧ toO (s.ev x) = some y ∧ asz y = sz ∧ e = ⟨.own (d + 1), some fun s' => s'.set (d + 1) (some ⟨.o (some el) 0 y, sz, [y]⟩)⟩)
 | .makeSlice t l c => ∃ d el sz b z n k k', o.dst = some d ∧ s.hp (d + 1) = none ∧ okL (d + 1) = true ∧ Θ.look t = .slice el sz b z ∧ s.ev l = .v (.int k ((n : Nat) : Int)) ∧ s.ev c = .v (.int k' (n : Int)) ∧ b * n ≤ 140737488355328 ∧ n ≤ 9223372036854775807 ∧
  e = ⟨.own (d + 1), some fun s => s.set (d + 1) (some ⟨kz el z, sz, List.replicate n z⟩)⟩
 | .load t x => (Θ.look t).known = true ∧ ((∃ y, s.ev x = .ptr y ∧ zV y = (Θ.look t).isAgg ∧ asz y = (Θ.look t).size ∧ e = ⟨y, none⟩) ∨
  ∃ l i p c ob, s.ev x = .optr l i p c ∧ s.hp l = some ob ∧
   ((∃ y z, (ob.e.open_ = true ∨ ∃ t0 k, ob.e = .p t0 k ∧ k ≤ i) ∧ ob.xs[i]? = some y ∧ xU y p 0 = some (z, c) ∧ zV z = (Θ.look t).isAgg ∧ asz z = (Θ.look t).size ∧ e = ⟨z, none⟩) ∨
    ∃ t' y z, y8 ob.e ob.xs i = some (.o t' i y) ∧ xU y p 0 = some (z, c) ∧
     ((∃ x', ofO z = some x' ∧ zV x' = (Θ.look t).isAgg ∧ asz x' = (Θ.look t).size ∧ e = ⟨x', none⟩) ∨
      (∃ d el sz b z0 ek, z = .v (.slice none 0 0) ∧ o.dst = some d ∧ Θ.look t = .slice el sz b z0 ∧ ET.row ek = true ∧ okL (d + 1) = true ∧ e = ⟨.own (d + 1), some fun s => (s.kill (d + 1)).set (d + 1) (some ⟨ek, sz, []⟩)⟩) ∨
      ∃ d sz' xs' el sz b z0, z = .lst sz' xs' ∧ o.dst = some d ∧ Θ.look t = .slice el sz b z0 ∧ s.hp (d + 1) = none ∧ okL (d + 1) = true ∧
       e = ⟨.own (d + 1), some fun s => (s.set l (some ⟨.o t' i (setM y p (.own (d + 1))), ob.sz, ob.xs⟩)).set (d + 1) (some ⟨.u, sz', xs'⟩)⟩)))
 | .store t x y => (∀ c, y = .const c → c.oneCell' = true) ∧ (Θ.look t).known = true ∧ ∃ l i p c ob, s.ev x = .optr l i p c ∧ s.hp l = some ob ∧
  ((∃ t0 q z, (ob.e = .s t0 ∨ ob.e = .z t0) ∧ ob.xs[i]? = some q ∧ xU q p 0 = some (z, c) ∧ asz z = (Θ.look t).size ∧ asz (s.dat (s.ev y)) = asz z ∧ xG s (s.ev y) = true ∧ (yT (s.ev y)).contains l = false ∧ (yT (s.ev y)).all okL = true ∧
   e = ⟨.any, jk (yT (s.ev y)) fun s' => s'.set l (some ⟨.s t0, ob.sz, ob.xs.set i (uO q p (s.dat (s.ev y)))⟩)⟩) ∨
   (∃ t' q z y', y8 ob.e ob.xs i = some (.o t' i q) ∧ xU q p 0 = some (z, c) ∧ asz z = (Θ.look t).size ∧ toO (s.ev y) = some y' ∧ asz y' = asz z ∧
    e = ⟨.any, some fun s' => s'.set l (some ⟨.o t' i (setM q p y'), ob.sz, ob.xs⟩)⟩) ∨
   (∃ q z y', ob.e.deep = true ∧ ob.xs[i]? = some q ∧ xU q p 0 = some (z, c) ∧ asz z = (Θ.look t).size ∧ s.ev y = y' ∧ zb y' = true ∧ asz y' = asz z ∧
    e = ⟨.any, some fun s' => s'.set l (some ⟨ob.e, ob.sz, ob.xs.set i (uO q p y')⟩)⟩) ∨
   (∃ t0 q y', ob.e = .s t0 ∧ ob.xs = [q] ∧ i = 0 ∧ p = [] ∧ c = 0 ∧ asz q = (Θ.look t).size ∧ toO (s.ev y) = some y' ∧ asz y' = asz q ∧
    e = ⟨.any, some fun s' => s'.set l (some ⟨.o (some t0) 0 y', ob.sz, [y']⟩)⟩) ∨
   ∃ t0 ys z j L obL, ob.e = .p t0 i ∧ ob.xs[i]? = some (.agg ys) ∧ ys[j]? = some z ∧ xB (ys.take j) = c ∧ asz z = 1 ∧ (Θ.look t).size = 1 ∧ zL (ys.set j (.agg [])) = true ∧ s.ev y = .own L ∧ L ≠ l ∧ okL L = true ∧ s.hp L = some obL ∧ (obL.e.deep = true ∨ ((∃ t1, obL.e = .s t1) ∧ ∀ x ∈ obL.xs, zb x = true)) ∧
    e = ⟨.any, some fun s' => (s'.drop L).set l (some ⟨.p t0 (i + 1), ob.sz, ob.xs.set i (.agg (ys.set j (.lst obL.sz obL.xs)))⟩)⟩)
 | .fieldAddr t x f => ∃ fs z o_ z_, Θ.look t = .struct fs z ∧ fs[f]? = some (o_, z_) ∧
  ((∃ ys y, s.ev x = .ptr (.agg ys) ∧ ys[f]? = some y ∧ xB (ys.take f) = o_ ∧ e = ⟨.ptr y, none⟩) ∨
   ∃ l i p c, s.ev x = .optr l i p c ∧ e = ⟨.optr l i (p ++ [f]) (c + o_), none⟩)
 | .indexAddr t x ix => ∃ k j, s.ev ix = .v (.int k ((j : Nat) : Int)) ∧
  ((∃ el sz b z, Θ.look t = .slice el sz b z ∧
   ((∃ xs y, s.ev x = .lst sz xs ∧ xs[j]? = some y ∧ e = ⟨.ptr y, none⟩) ∨
    ∃ l ob, s.ev x = .own l ∧ s.hp l = some ob ∧ ob.sz = sz ∧ j < ob.xs.length ∧ e = ⟨.optr l j [] 0, none⟩)) ∨
   ∃ el m sz z, Θ.look t = .arr el m sz z ∧ j < m ∧
    ((∃ xs y, s.ev x = .ptr (.agg xs) ∧ xs[j]? = some y ∧ (∀ x ∈ xs, asz x = sz) ∧ e = ⟨.ptr y, none⟩) ∨
     ∃ l i p c, s.ev x = .optr l i p c ∧ e = ⟨.optr l i (p ++ [j]) (c + j * sz), none⟩))
 | .makeFunc fn first captured => ∃ f, fn = .func f ∧ wU (first.toList ++ captured.toList) ∧ e = ⟨.fn f (first.toList.map s.ev) (captured.toList.map s.ev), none⟩
 | .makeInterface t x => (∀ c, x = .const c → c.oneCell' = true) ∧ (Θ.look t).known = true ∧ Θ.look t ≠ .iface ∧ e = ⟨.ifc t (s.ev x), none⟩
 | .makeMap t r => ∃ d kt vt z, o.dst = some d ∧ s.hp (d + 1) = none ∧ okL (d + 1) = true ∧ Θ.look t = .map kt vt z ∧ (∀ x ∈ r.toList, ∃ k m, s.ev x = .v (.int k m)) ∧ e = ⟨.mapv (d + 1), some fun s => (s.set (d + 1) (some ⟨.s t, 1, []⟩)).setM (d + 1) []⟩
 | .mapUpdate t m k v => ∃ l ent kk b kt vt z, Θ.look t = .map kt vt z ∧ s.ev m = .mapv l ∧ s.mp l = some ent ∧ s.ev k = .v (.string kk) ∧ xX (s.ev v) = some b ∧ (∀ c, v = .const c → c.oneCell' = true) ∧ e = ⟨.any, some fun s' => s'.setM l (vE ent kk (s.ev v))⟩
 | .insert t m k v => ∃ l ent kk b kt vt z, Θ.look t = .map kt vt z ∧ s.ev m = .mapv l ∧ s.mp l = some ent ∧ s.ev k = .v (.string kk) ∧ xX (s.ev v) = some b ∧ (∀ c, v = .const c → c.oneCell' = true) ∧ e = ⟨.any, some fun s' => s'.setM l (vE ent kk (s.ev v))⟩
 | .lookup t m k ok => ∃ l ent kk kt vt z, Θ.look t = .map kt vt z ∧ s.ev m = .mapv l ∧ s.mp l = some ent ∧ s.ev k = .v (.string kk) ∧ e = ⟨bif ok then .tup [(zY ent kk).getD z, .v (.bool (zY ent kk).isSome)] else (zY ent kk).getD z, none⟩
 | .call c => match c.callee with
  | .builtin .delete => ∃ x y t t2 l ent kk kt vt z, c.args = #[x, y] ∧ c.argTypes = #[t, t2] ∧ Θ.look t = .map kt vt z ∧ s.ev x = .mapv l ∧ s.mp l = some ent ∧ s.ev y = .v (.string kk) ∧ e = ⟨.tup [], some fun s' => s'.setM l (aAR ent kk)⟩
  | .builtin .len => ∃ x t n, c.args = #[x] ∧ c.argTypes = #[t] ∧ kX s (s.ev x) = some n ∧ aCV Θ t (s.ev x) ∧ e = ⟨.v (.int .i64 (n : Int)), none⟩
  | .builtin .append => ∃ x y t el sz b z l ob ys, c.args = #[x, y] ∧ c.argTypes = #[t, t] ∧ Θ.look t = .slice el sz b z ∧ s.ev x = .own l ∧ s.hp l = some ob ∧ okL l = true ∧ ob.sz = sz ∧
   (ob.xs.length + ys.length) * b ≤ 140737488355328 ∧ ob.xs.length + ys.length ≤ maxLen ∧
   ((∃ t0, (ob.e = .s t0 ∨ ob.e = .z t0) ∧ t0 = el ∧
    (s.ev y = .lst sz ys ∨ ∃ l' ob', s.ev y = .own l' ∧ l' ≠ l ∧ s.hp l' = some ob' ∧ ob'.e.open_ = true ∧ ob'.sz = sz ∧ ys = ob'.xs) ∧
    e = ⟨.own l, some fun s => (s.kill l).set l (some ⟨.s el, sz, ob.xs ++ ys⟩)⟩) ∨
    (∃ l' ob', (ob.e = .z el ∨ ob.e = .d el ∨ (ob.e = .s el ∧ ∀ x ∈ ob.xs, zb x = true)) ∧ s.ev y = .own l' ∧ l' ≠ l ∧ okL l' = true ∧ s.hp l' = some ob' ∧ ob'.e.deep = true ∧ ob'.sz = sz ∧ ys = ob'.xs ∧ 0 < ys.length ∧
     e = ⟨.own l, some fun s => ((s.kill l).drop l').set l (some ⟨.d el, sz, ob.xs ++ ys⟩)⟩))
  | .builtin b => ∃ vs r, (c.args.toList.mapM fun x => xX (s.ev x)) = some vs ∧ (∀ w, (builtin b c.argTypes o.type (c.args.map fun | .const _ => true | _ => false) vs.toArray).run P w = .ok (.value r) w) ∧ r.oneCell' = true ∧ e = ⟨.v r, none⟩
  | .value g => ∃ f xs ys d out, s.ev g = .fn f xs ys ∧ o.dst = some d ∧ wU c.args.toList ∧
   ((∃ args, ((xs ++ c.args.toList.map s.ev ++ ys).map s.dat) = args ∧ ACG P f args [] [] out ∧ yB s (d + 1) 0 out.obs ∧ zo s (xs ++ c.args.toList.map s.ev ++ ys) = true ∧
    (((xu (xs ++ c.args.toList.map s.ev ++ ys) = [] ∨ out.flat) ∧ e = ⟨ren (d + 1) out.val, jC (d + 1) out.obs⟩) ∨
     ((xu (xs ++ c.args.toList.map s.ev ++ ys)).all okL = true ∧ e = ⟨ren (d + 1) out.val, jk (xu (xs ++ c.args.toList.map s.ev ++ ys)) (yx (d + 1) 0 out.obs)⟩))) ∨
    ∃ args rin rout Ls, s.datHL Ls (xs ++ c.args.toList.map s.ev ++ ys) = aDs Ls args ∧ ACG P f args rin rout out ∧ handed s Ls Ls rin ∧ Ls.Nodup ∧ rout.map OB.sz = rin.map OB.sz ∧ yB s (d + 1) 0 out.obs ∧
     wH s Ls (xs ++ c.args.toList.map s.ev ++ ys) = true ∧ yC (fun l => (xH 0 rin l).isSome) args = true ∧ (rin ++ rout).all (fun ob => uT (fun l => (xH 0 rin l).isSome) ob.e) = true ∧
     ((uX Ls (xu (xs ++ c.args.toList.map s.ev ++ ys))) = [] ∨ (out.flat ∧ ∀ ob ∈ rout, kE ob)) ∧
     e = ⟨ren (d + 1) out.val, some fun s => yx (d + 1) 0 out.obs (yu Ls Ls rout s)⟩)
  | .invoke x m => ∃ t y y' f d out, s.ev x = .ifc t y ∧ aKu P t y m f y' ∧ o.dst = some d ∧ wU c.args.toList ∧ aBE P s f d out (y' :: c.args.toList.map s.ev) e
 | .typeAssert x xT asserted ok => (∀ c, x = .const c → c.oneCell' = true) ∧ ∃ r, aLH P (s.ev x) xT asserted ok r ∧ e = ⟨r, none⟩
 | _ => False
section
variable {S : Nat → Prop} {w : World}
theorem RL.set : ∀ {xs : List AV} {cs : List Value} (i : Nat) {x y : AV} {us : List Value}, RL S w xs cs → xs[i]? = some y → RA S w x us → asz x = asz y → RL S w (xs.set i x) (cs.take (xB (xs.take i)) ++ us ++ cs.drop (xB (xs.take i) + us.length))
 | [], _, i, x, y, us, _, h, _, _ => by simp at h
 | z :: xs, cs, 0, x, y, us, h, hx, hr, hz => by
  unfold RL at h
  obtain ⟨c1, c2, e, h1, h2⟩ := h
  simp at hx; subst hx
  have e1 := RA.size _ _ h1
  have e2 := RA.size _ _ hr
  simp only [List.set_cons_zero, List.take_zero, xB, List.nil_append, Nat.zero_add]
  unfold RL
  refine ⟨us, c2, ?_, hr, h2⟩
  rw [e, List.drop_left' (by omega)]
 | z :: xs, cs, i + 1, x, y, us, h, hx, hr, hz => by
  unfold RL at h
  obtain ⟨c1, c2, e, h1, h2⟩ := h
  simp at hx
  have e1 := RA.size _ _ h1
  have ha : xB ((z :: xs).take (i + 1)) = c1.length + xB (xs.take i) := by rw [List.take_succ_cons, xB, e1]
  rw [List.set_cons_succ]
  unfold RL
  refine ⟨c1, _, ?_, h1, RL.set i h2 hx hr hz⟩
  rw [ha, e, List.take_append, List.take_of_length_le (by omega), Nat.add_sub_cancel_left, Nat.add_assoc, List.drop_append, List.drop_eq_nil_of_le (by omega), List.nil_append, Nat.add_sub_cancel_left]
  simp only [List.append_assoc]
theorem qm : ∀ (p : List Nat) (x : AV) (us : List Value) (c0 c : Nat) (z : AV), RA S w x us → xU x p c0 = some (z, c) → ∃ vs, c0 ≤ c ∧ RA S w z vs ∧ (c - c0) + vs.length ≤ us.length ∧ ∀ j u, vs[j]? = some u → us[c - c0 + j]? = some u
 | [], x, us, c0, c, z, h, hg => by
  unfold xU at hg; cases hg
  exact ⟨us, Nat.le_refl _, h, by omega, fun j u hu => by rw [Nat.sub_self, Nat.zero_add]; exact hu⟩
 | i :: p, .agg xs, us, c0, c, z, h, hg => by
  unfold xU at hg
  cases hx : xs[i]? with
  | none => rw [hx] at hg; cases hg
  | some y =>
   rw [hx] at hg
   simp only at hg
   unfold RA at h
   obtain ⟨vs, k1, k2, _, k4⟩ := RL.at i h hx
   obtain ⟨ws, m1, m2, m3, m4⟩ := qm p y vs _ c z k1 hg
   refine ⟨ws, by omega, m2, by omega, fun j u hu => ?_⟩
   have := k4 _ _ (m4 j u hu)
   rwa [show xB (xs.take i) + (c - (c0 + xB (xs.take i)) + j) = c - c0 + j from by omega] at this
 | i :: p, .mix xs, us, c0, c, z, h, hg => by unfold RA at h; exact h.elim
 | i :: p, .v _, us, c0, c, z, h, hg => by simp [xU] at hg
 | i :: p, .any, us, c0, c, z, h, hg => by simp [xU] at hg
 | i :: p, .lst _ _, us, c0, c, z, h, hg => by simp [xU] at hg
 | i :: p, .ptr _, us, c0, c, z, h, hg => by simp [xU] at hg
 | i :: p, .own _, us, c0, c, z, h, hg => by simp [xU] at hg
 | i :: p, .optr _ _ _ _, us, c0, c, z, h, hg => by simp [xU] at hg
 | i :: p, .tup _, us, c0, c, z, h, hg => by simp [xU] at hg
 | i :: p, .mapv _, us, c0, c, z, h, hg => by simp [xU] at hg
 | i :: p, .rd _, us, c0, c, z, h, hg => by simp [xU] at hg
 | i :: p, .fn _ _ _, us, c0, c, z, h, hg => by simp [xU] at hg
 | i :: p, .ifc _ _, us, c0, c, z, h, hg => by simp [xU] at hg
theorem aBf {α : Type} (cs vs : List α) (i j l : Nat) (h : i + j + vs.length ≤ i + l) :
 cs.take i ++ (((cs.drop i).take l).take j ++ vs ++ ((cs.drop i).take l).drop (j + vs.length)) ++ cs.drop (i + l) = cs.take (i + j) ++ vs ++ cs.drop (i + j + vs.length) := by
 have e1 : cs.take i ++ ((cs.drop i).take l).take j = cs.take (i + j) := by
  rw [List.take_take, Nat.min_eq_left (by omega), ← List.take_add]
 have e2 : ((cs.drop i).take l).drop (j + vs.length) ++ cs.drop (i + l) = cs.drop (i + j + vs.length) := by
  rw [List.drop_take, List.drop_drop]
  have : cs.drop (i + l) = (cs.drop (i + (j + vs.length))).drop (l - (j + vs.length)) := by rw [List.drop_drop]; congr 1; omega
  rw [this, List.take_append_drop]; congr 1; omega
 simp only [List.append_assoc] at *
 rw [e2, ← e1]; simp only [List.append_assoc]
theorem aDD : ∀ (p : List Nat) (x : AV) (us : List Value) (c0 c : Nat) (z y : AV) (vs : List Value), RA S w x us → xU x p c0 = some (z, c) → RA S w y vs → asz y = asz z →
 RA S w (uO x p y) (us.take (c - c0) ++ vs ++ us.drop (c - c0 + vs.length)) ∧ asz (uO x p y) = asz x
 | [], x, us, c0, c, z, y, vs, h, hg, hy, hz => by
  unfold xU at hg; cases hg
  have e1 := RA.size _ _ h
  have e2 := RA.size _ _ hy
  simp only [uO, Nat.sub_self, List.take_zero, List.nil_append, Nat.zero_add]
  rw [List.drop_eq_nil_of_le (by omega), List.append_nil]
  exact ⟨hy, hz⟩
 | i :: p, .agg xs, us, c0, c, z, y, vs, h, hg, hy, hz => by
  unfold xU at hg
  cases hx : xs[i]? with
  | none => rw [hx] at hg; cases hg
  | some q =>
   rw [hx] at hg
   simp only at hg
   unfold RA at h
   obtain ⟨qs, k1, k2, k3, k4⟩ := RL.at i h hx
   obtain ⟨m1, m2⟩ := aDD p q qs _ c z y vs k1 hg hy hz
   obtain ⟨ws, n1, n2, n3, _⟩ := qm p q qs _ c z k1 hg
   have e1 := RA.size _ _ k1
   have e2 := RA.size _ _ m1
   have e3 := RA.size _ _ n2
   have e4 := RA.size _ _ hy
   simp only [uO, hx]
   unfold RA
   refine ⟨?_, by unfold asz; exact kN i hx m2⟩
   have := RL.set i h hx m1 m2
   rw [e2, m2, ← e1] at this
   obtain ⟨L, hL⟩ : ∃ L, L = qs.length := ⟨_, rfl⟩
   rw [← hL] at this k3 n3
   rw [← k3, aBf us vs (xB (xs.take i)) (c - (c0 + xB (xs.take i))) L (by omega)] at this
   rwa [show xB (xs.take i) + (c - (c0 + xB (xs.take i))) = c - c0 from by omega] at this
 | i :: p, .mix xs, us, c0, c, z, y, vs, h, hg, _, _ => by unfold RA at h; exact h.elim
 | i :: p, .v _, us, c0, c, z, y, vs, h, hg, _, _ => by simp [xU] at hg
 | i :: p, .any, us, c0, c, z, y, vs, h, hg, _, _ => by simp [xU] at hg
 | i :: p, .lst _ _, us, c0, c, z, y, vs, h, hg, _, _ => by simp [xU] at hg
 | i :: p, .ptr _, us, c0, c, z, y, vs, h, hg, _, _ => by simp [xU] at hg
 | i :: p, .own _, us, c0, c, z, y, vs, h, hg, _, _ => by simp [xU] at hg
 | i :: p, .optr _ _ _ _, us, c0, c, z, y, vs, h, hg, _, _ => by simp [xU] at hg
 | i :: p, .tup _, us, c0, c, z, y, vs, h, hg, _, _ => by simp [xU] at hg
 | i :: p, .mapv _, us, c0, c, z, y, vs, h, hg, _, _ => by simp [xU] at hg
 | i :: p, .rd _, us, c0, c, z, y, vs, h, hg, _, _ => by simp [xU] at hg
 | i :: p, .fn _ _ _, us, c0, c, z, y, vs, h, hg, _, _ => by simp [xU] at hg
 | i :: p, .ifc _ _, us, c0, c, z, y, vs, h, hg, _, _ => by simp [xU] at hg
theorem aAk : ∀ (vs : List Value) (k off : Nat) (cells : Array Value), off + k + vs.length ≤ cells.size →
 ((vs.zipIdx k).foldl (fun cs (x : Value × Nat) => cs.setIfInBounds (off + x.2) x.1) cells).toList = cells.toList.take (off + k) ++ vs ++ cells.toList.drop (off + k + vs.length)
 | [], k, off, cells, _ => by simp
 | v :: vs, k, off, cells, h => by
  simp only [List.zipIdx_cons, List.foldl_cons]
  simp only [List.length_cons] at h
  rw [aAk vs (k + 1) off _ (by simp; omega)]
  simp only [Array.toList_setIfInBounds, List.length_cons]
  rw [show off + (k + 1) = off + k + 1 from by omega, List.take_succ_eq_append_getElem (by simp; omega), List.take_set_of_le (Nat.le_refl _), List.getElem_set_self, List.drop_set_of_lt (by omega)]
  simp only [List.append_assoc, List.singleton_append]
  rw [show off + k + 1 + vs.length = off + k + (vs.length + 1) from by omega]
theorem aAK {ι : Type} (R : List AV → List Value → Prop) (put : AV → List Value → Prop) (hset : ∀ (z : List AV) (cs : List Value) (i : Nat) (x y : AV) (us : List Value), R z cs → z[i]? = some y → put x us → asz x = asz y → R (z.set i x) (cs.take (xB (z.take i)) ++ us ++ cs.drop (xB (z.take i) + us.length)) ∧ us.length = asz x ∧ xB (z.take i) + us.length ≤ cs.length)
 {place : Nat → Option (Nat × Nat)} (dat : ι → AV) (val : ι → Value) :
 ∀ (ps : List (Nat × ι)) (z : List AV) (cells : Array Value), (∀ x ∈ ps, put (dat x.2) (val x.2).cells.toList) → R z cells.toList → (∀ (pre : List (Nat × ι)) (q : Nat × ι) (post : List (Nat × ι)), ps = pre ++ q :: post → ∃ y, (pre.foldl (fun z x => z.set x.1 (dat x.2)) z)[q.1]? = some y ∧ asz (dat q.2) = asz y) →
 (∀ i y, z[i]? = some y → place i = some (xB (z.take i), asz y)) → ∃ cells', Instr.fill place cells (ps.map fun x => (x.1, val x.2)) = some cells' ∧ R (ps.foldl (fun z x => z.set x.1 (dat x.2)) z) cells'.toList
 | [], z, cells, _, h, _, _ => ⟨cells, rfl, h⟩
 | (i, x) :: ps, z, cells, hall, h, hp, hpl => by
  obtain ⟨y, hy, hsz⟩ := hp [] (i, x) ps rfl
  simp only [List.foldl_nil] at hy hsz
  have hx := hall (i, x) (by simp)
  simp only at hx
  obtain ⟨hs, e1, e2⟩ := hset z cells.toList i _ y _ h hy hx hsz
  simp only [List.map_cons, Instr.fill, hpl i y hy]
  have e3 : (val x).cells.size = asz y := by rw [← hsz, ← e1]; simp
  have e4 : cells.toList.length = cells.size := Array.length_toList
  rw [if_neg (by simp only [Array.length_toList] at e2; simp; omega)]
  have hfold := aAk (val x).cells.toList 0 (xB (z.take i)) cells (by simp only [Array.length_toList] at e2 ⊢; omega)
  simp only [Nat.add_zero] at hfold
  have hz2 : ∀ k, xB ((z.set i (dat x)).take k) = xB (z.take k) := fun k => by
   by_cases hk : i < k
   · rw [List.take_set]; exact kN i (y := y) (by rw [List.getElem?_take, if_pos hk]; exact hy) hsz
   · rw [List.take_set_of_le (by omega)]
  refine aAK R put hset dat val ps (z.set i (dat x)) _ (fun q hq => hall q (List.mem_cons_of_mem _ hq)) ?_ (fun pre q post e => hp ((i, x) :: pre) q post (by rw [e]; rfl)) (fun k q hq => ?_)
  · rw [← Array.foldl_toList, Array.toList_zipIdx, hfold]; exact hs
  · rw [hz2]
    by_cases hk : k = i
    · subst hk
      have hlt : k < z.length := (List.getElem?_eq_some_iff.1 hy).1
      rw [List.getElem?_set_self hlt] at hq
      cases hq
      rw [hpl k y hy, hsz]
    · rw [List.getElem?_set_ne (Ne.symm hk)] at hq
      exact hpl k q hq
theorem jW {z : AV} {zc : Array Value} {sz : Nat} (h : RD w z Fa zc.toList) (hs : asz z = sz) (hp : 0 < sz) : ∀ n, RDL w (List.replicate n z) Fa (madeCells zc (n * sz)).toList
 | 0 => by simp only [List.replicate_zero, Nat.zero_mul]; unfold RDL; exact ⟨by simp [madeCells], noF⟩
 | n + 1 => by
  have e1 := RD.size _ _ _ h
  have hzs : zc.size = sz := by rw [← Array.length_toList, e1, hs]
  rw [List.replicate_succ]
  unfold RDL
  refine ⟨zc.toList, (madeCells zc (n * sz)).toList, Fa, Fa, ?_, Split.l0 noF, h, jW h hs hp n⟩
  simp only [madeCells, Array.toList_map, Array.toList_range]
  rw [show (n + 1) * sz = sz + n * sz from by rw [Nat.add_mul, Nat.one_mul, Nat.add_comm], List.range_add, List.map_append, List.map_map]
  congr 1
  · apply List.ext_getElem
    · simp [hzs]
    · intro i h1 h2
      simp at h1
      simp [hzs, Nat.mod_eq_of_lt h1, Array.getElem!_eq_getD]
      rw [Array.getElem?_eq_getElem (by omega)]; rfl
  · apply List.map_congr_left
    intro i _
    simp [hzs]
theorem RD.f_ra {S : Nat → Prop} {w' : World} {x : AV} {cs : List Value} (h : RD w x Fa cs) : RA S w' x cs := RD.toRA (S := S) x Fa cs (fun g hg => hg.elim) (RD.mono x Fa cs (fun g hg => hg.elim) h)
theorem RDL.f_rl {S : Nat → Prop} {w' : World} {x : List AV} {cs : List Value} (h : RDL w x Fa cs) : RL S w' x cs := RDL.toRL (S := S) x Fa cs (fun g hg => hg.elim) (RDL.mono x Fa cs (fun g hg => hg.elim) h)
mutual
theorem aFj {hp : Nat → Option OB} {B : Nat → Nat} {V : Nat → Value} : ∀ (x : AV) (cs : List Value), RD w x Fa cs → RO1 S w hp B V (aCr x) Fa cs ∧ asz (aCr x) = asz x
 | .lst sz xs, cs, h => by
  unfold RD at h
  obtain ⟨v, t, us, T', rfl, h2, _, _, _, h6, _⟩ := h
  unfold aCr
  have : v = .slice none 0 0 := by
   rcases h2.2 with ⟨e, _⟩ | ⟨g, cap, cur, e, _⟩
   · exact e
   · exact ((h6 g).2 (.inl (by rw [e]; rfl))).elim
  subst this
  exact ⟨by unfold RO1; unfold RD; exact ⟨noF, rfl, rfl⟩, rfl⟩
 | .agg xs, cs, h => by
  unfold RD at h
  unfold aCr
  obtain ⟨a, b⟩ := aCs (hp := hp) (B := B) (V := V) xs cs h
  exact ⟨by unfold RO1; exact a, by simp only [asz]; exact b⟩
 | .v x, cs, h => by unfold aCr; exact ⟨RD.toRO1 _ _ _ h, rfl⟩
 | .any, cs, h | .ptr _, cs, h | .own _, cs, h | .optr _ _ _ _, cs, h | .tup _, cs, h | .mapv _, cs, h | .mix _, cs, h | .rd _, cs, h | .fn _ _ _, cs, h | .ifc _ _, cs, h => by unfold RD at h; exact h.elim
theorem aCs {hp : Nat → Option OB} {B : Nat → Nat} {V : Nat → Value} : ∀ (xs : List AV) (cs : List Value), RDL w xs Fa cs → ROs S w hp B V (wW xs) Fa cs ∧ xB (wW xs) = xB xs
 | [], cs, h => by unfold RDL at h; unfold wW ROs; exact ⟨h, rfl⟩
 | x :: xs, cs, h => by
  unfold RDL at h
  obtain ⟨c1, c2, T1, T2, e, hs, h1, h2⟩ := h
  obtain ⟨n1, n2⟩ := hs.none noF
  rw [n1.eq noF] at h1
  rw [n2.eq noF] at h2
  obtain ⟨a1, b1⟩ := aFj (hp := hp) (B := B) (V := V) x c1 h1
  obtain ⟨a2, b2⟩ := aCs (hp := hp) (B := B) (V := V) xs c2 h2
  unfold wW ROs
  exact ⟨⟨c1, c2, Fa, Fa, e, Split.l0 noF, a1, a2⟩, by simp only [xB, b1, b2]⟩
end
end
theorem aAI : ∀ (z : List AV) (fs : List (Nat × Nat)), z.map asz = fs.map (·.2) → xB z = sizes fs
 | [], [], _ => rfl
 | [], _ :: _, h => by simp at h
 | _ :: _, [], h => by simp at h
 | x :: z, (o, q) :: fs, h => by
  simp at h
  simp only [xB, sizes, h.1, aAI z fs (by simpa using h.2)]
theorem aIZ {m sz : Nat} {z : AV} (h : asz z = sz) : xB (List.replicate m z) = m * sz := by
 rw [xW (sz := sz) (fun x hx => by rw [(List.mem_replicate.1 hx).2]; exact h), List.length_replicate]
theorem jc {P : Program} {t : TypeId} {ti : TI} (h : vB P t ti) (hk : ti.known = true) :
 ∃ i, P.info? t = some i ∧ i.size = ti.size ∧ (∀ w, (isAgg t).run P w = .ok ti.isAgg w) ∧ (∃ zv, i.zero = some zv ∧ ∀ w, RD w ti.zero Fa zv.cells.toList) ∧ asz ti.zero = ti.size ∧ 0 < ti.size := by
 have one : ∀ {x : Value}, x.oneCell' = true → ∀ w : World, RD w (.v x) Fa x.cells.toList := fun hx w => by rw [wm hx]; exact RD.v hx
 cases ti with
 | non => simp [TI.known] at hk
 | map kt vt z => simp [TI.known] at hk
 | str =>
  obtain ⟨hu, i, hi, hs, hz⟩ := h
  exact ⟨i, hi, hs, fun w => by simp [isAgg, run_underlying hu, TI.isAgg], ⟨_, hz, one rfl⟩, rfl, by simp [TI.size]⟩
 | int k =>
  obtain ⟨hu, i, hi, hs, hz⟩ := h
  exact ⟨i, hi, hs, fun w => by simp [isAgg, run_underlying hu, TI.isAgg], ⟨_, hz, one rfl⟩, rfl, by simp [TI.size]⟩
 | bool =>
  obtain ⟨hu, i, hi, hs, hz⟩ := h
  exact ⟨i, hi, hs, fun w => by simp [isAgg, run_underlying hu, TI.isAgg], ⟨_, hz, one rfl⟩, rfl, by simp [TI.size]⟩
 | ptr =>
  obtain ⟨⟨e, hu⟩, i, hi, hs, hz⟩ := h
  exact ⟨i, hi, hs, fun w => by simp [isAgg, run_underlying hu, TI.isAgg], ⟨_, hz, one rfl⟩, rfl, by simp [TI.size]⟩
 | func =>
  obtain ⟨⟨a, b, c, hu⟩, i, hi, hs, hz⟩ := h
  exact ⟨i, hi, hs, fun w => by simp [isAgg, run_underlying hu, TI.isAgg], ⟨_, hz, one rfl⟩, rfl, by simp [TI.size]⟩
 | iface =>
  obtain ⟨⟨a, hu⟩, i, hi, hs, hz⟩ := h
  exact ⟨i, hi, hs, fun w => by simp [isAgg, run_underlying hu, TI.isAgg], ⟨_, hz, one rfl⟩, rfl, by simp [TI.size]⟩
 | slice e sz b z =>
  obtain ⟨hu, ⟨j, hj, hs, hz⟩, i, zv, _, _, _, _, h0, _⟩ := h
  refine ⟨j, hj, hs, fun w => by simp [isAgg, run_underlying hu, TI.isAgg], ⟨_, hz, fun w => ?_⟩, rfl, by simp [TI.size]⟩
  simp only [TI.zero, Value.cells]
  unfold RD
  exact ⟨.slice none 0 0, 0, [], Fa, rfl, World.ownsRow_nil _ _ _ _, by simp, h0, by unfold RDL; exact ⟨rfl, noF⟩, fun g => by simp [Value.ownBlock], fun g hg => by simp [Value.ownBlock] at hg⟩
 | struct fs z =>
  obtain ⟨fields, i, cs, hu, _, hi, hs, hpos, hm, hz, hr⟩ := h
  refine ⟨i, hi, hs, fun w => by simp [isAgg, run_underlying hu, TI.isAgg], ⟨_, hz, fun w => by simp only [TI.zero, Value.cells]; unfold RD; exact hr w⟩, ?_, hpos⟩
  simp only [TI.zero, TI.size, asz]
  exact aAI z fs hm
 | arr e m sz z =>
  obtain ⟨hu, ⟨i, cs, hi, hs, hz, hr⟩, hm, hp, ha, _⟩ := h
  refine ⟨i, hi, hs, fun w => by simp [isAgg, run_underlying hu, TI.isAgg], ⟨_, hz, fun w => by simp only [TI.zero, Value.cells]; unfold RD; exact hr w⟩, ?_, Nat.mul_pos hm hp⟩
  simp only [TI.zero, TI.size, asz]
  exact aIZ ha
section
variable {P : Program} {Θ : Tab} {W : World} {M : Hand} {S0 : Nat → Prop} {n : Nat} {s : St} {a : Act} {w : World} {S : Nat → Prop} {B : Nat → Nat} {V : Nat → Value} {T : Nat → Nat → Prop} {tmps : Array Value}
theorem yo {o : Oper} {K : Act → World → Prop} {Q : Exit → Act → World → Prop} {v : Value} {w1 : World} (h : (execOp a.eval o).run P w = .ok (.value v) w1) (hk : K (a.put o.dst v) w1) : o.wp P a w K Q := by
 unfold Oper.wp; rw [h]; exact hk
theorem aA4 {o : Oper} {K : Act → World → Prop} {Q : Exit → Act → World → Prop} {w1 : World} (h : (execOp a.eval o).run P w = .ok .skip w1) (hk : K (a.put o.dst undef) w1) : o.wp P a w K Q := by
 unfold Oper.wp; rw [h]; exact hk
theorem zu (h : SimW W M S0 s a.tmps w S B V T) (x : Operand) (hc : ∀ c, x = .const c → c.oneCell' = true) : RV S w s.hp B V (s.ev x) (a.eval x) := by
 cases x with
 | tmp t => exact h.sl t
 | const c => show RV S w s.hp B V (.v c) c; unfold RV; exact ⟨rfl, hc c rfl⟩
 | global g =>
  show RV S w s.hp B V (aCo g) (.pointer (some ⟨g, 0, none⟩))
  unfold aCo
  cases hg : GT g with
  | none => unfold RV; trivial
  | some y =>
   dsimp only
   cases hk : aAs y with
   | false => unfold RV; trivial
   | true => unfold RV; exact (h.glob (fun _ h => h) hg).ra hk
 | func f => show RV S w s.hp B V (.fn f [] []) (.func (.func f) #[] #[]); unfold RV; exact ⟨[], [], rfl, by unfold RVs; rfl, by unfold RVs; rfl⟩
theorem aEM : ∀ {xs : List AV} {cs us : List Value}, xX.concL xs = some cs → RL S w xs us → us = cs
 | [], cs, us, h, k => by unfold RL at k; simp [xX.concL] at h; rw [k, h]
 | .v x :: r, cs, us, h, k => by
  unfold RL at k
  obtain ⟨c1, c2, e, h1, h2⟩ := k
  unfold RA at h1
  simp only [xX.concL, Option.map_eq_some_iff] at h
  obtain ⟨cs', h3, rfl⟩ := h
  rw [e, h1.1, aEM h3 h2]; rfl
 | .any :: r, cs, us, h, k | .agg _ :: r, cs, us, h, k | .lst _ _ :: r, cs, us, h, k | .ptr _ :: r, cs, us, h, k | .own _ :: r, cs, us, h, k | .optr _ _ _ _ :: r, cs, us, h, k | .tup _ :: r, cs, us, h, k | .mapv _ :: r, cs, us, h, k | .mix _ :: r, cs, us, h, k | .rd _ :: r, cs, us, h, k | .fn _ _ _ :: r, cs, us, h, k | .ifc _ _ :: r, cs, us, h, k => by simp [xX.concL] at h
theorem aEw {S : Nat → Prop} {w : World} {hp : Nat → Option OB} {B : Nat → Nat} {V : Nat → Value} {us vs : List Value} (h1 : RVs S w hp B V [] us) (h2 : RVs S w hp B V [] vs) : us = [] ∧ vs = [] := by
 unfold RVs at h1 h2; exact ⟨h1, h2⟩
theorem aCH {S S' : Nat → Prop} {w w' : World} {hp hp' : Nat → Option OB} {B B' : Nat → Nat} {V V' : Nat → Value} : ∀ {xs : List AV} {T : Nat → Prop} {cs bs : List Value}, xX.concM xs = some bs → ROs S w hp B V xs T cs → cs = bs ∧ ROs S' w' hp' B' V' xs T cs := by
 intro xs
 induction xs with
 | nil => intro T cs bs hc h; unfold ROs at h ⊢; simp [xX.concM] at hc; exact ⟨by rw [h.1, hc], h⟩
 | cons x xs ih =>
  intro T cs bs hc h
  cases x with
  | fn f aa bb' =>
   cases aa with
   | cons _ _ => simp [xX.concM] at hc
   | nil =>
    cases bb' with
    | cons _ _ => simp [xX.concM] at hc
    | nil =>
     simp only [xX.concM, Option.map_eq_some_iff] at hc
     obtain ⟨b', hb, rfl⟩ := hc
     unfold ROs at h ⊢
     obtain ⟨c1, c2, T1, T2, e, hs, h1, h2⟩ := h
     obtain ⟨r1, r2⟩ := ih hb h2
     unfold RO1 at h1
     obtain ⟨hn, us, vs, e1, h3, h4⟩ := h1
     obtain ⟨rfl, rfl⟩ := aEw h3 h4
     refine ⟨by rw [e, e1, r1]; rfl, c1, c2, T1, T2, e, hs, ?_, r2⟩
     unfold RO1
     exact ⟨hn, [], [], e1, by unfold RVs; rfl, by unfold RVs; rfl⟩
  | _ => simp [xX.concM] at hc
theorem aJ3 {x : AV} {u b : Value} {hp : Nat → Option OB} (hc : xX x = some b) (h : RV S w hp B V x u) : u = b := by
 cases x with
 | v x => unfold RV at h; simp [xX] at hc; rw [h.1, hc]
 | fn f aa bb =>
  cases aa with
  | cons _ _ => simp [xX] at hc
  | nil =>
   cases bb with
   | cons _ _ => simp [xX] at hc
   | nil =>
    unfold RV at h
    obtain ⟨us, vs, e, h1, h2⟩ := h
    obtain ⟨rfl, rfl⟩ := aEw h1 h2
    simp only [xX, Option.some.injEq] at hc
    rw [e, ← hc]
 | mix xs =>
  unfold RV at h
  obtain ⟨cs, e, hr⟩ := h
  simp only [xX, Option.map_eq_some_iff] at hc
  obtain ⟨cs', h1, rfl⟩ := hc
  rw [e, (aCH (S' := S) (w' := w) (hp' := hp) (B' := B) (V' := V) h1 hr).1]
 | agg xs =>
  unfold RV at h
  obtain ⟨cs, e, hr⟩ := h
  simp only [xX, Option.map_eq_some_iff] at hc
  obtain ⟨cs', h1, rfl⟩ := hc
  rw [e, aEM h1 hr]
 | _ => simp [xX] at hc
theorem zq (h : SimW W M S0 s a.tmps w S B V T) {x : Operand} {b : Value} (hc : xX (s.ev x) = some b) : a.eval x = b := by
 cases x with
 | tmp t => exact aJ3 hc (h.sl t)
 | const c => simp [St.ev, xX] at hc; exact hc
 | global g =>
  simp only [St.ev, aCo] at hc
  cases hg : GT g with
  | none => rw [hg] at hc; simp [xX] at hc
  | some y =>
   rw [hg] at hc
   dsimp only at hc
   cases hk : aAs y <;> rw [hk] at hc <;> simp [xX] at hc
 | func f => simp only [St.ev, xX, Option.some.injEq] at hc; rw [← hc]; rfl
theorem uh (h : SimW W M S0 s a.tmps w S B V T) {x : Operand} {b : Value} (hc : s.ev x = .v b) : a.eval x = b := zq h (by rw [hc]; rfl)
theorem yt (h : SimW W M S0 s a.tmps w S B V T) {x : Operand} {y : AV} (hy : s.ev x = y) (hn : ∀ c, y ≠ .v c) : RV S w s.hp B V y (a.eval x) := by
 have := zu h x (fun c hc => by subst hc; exact absurd hy.symm (by simpa [St.ev] using hn c))
 rwa [hy] at this
theorem xw (hn : a.tmps.size = n) (hdf : a.defers = []) (h : SimW W M S0 s a.tmps w S B V T) {o : Oper} {K : Act → World → Prop} {Q : Exit → Act → World → Prop} {x : AV} {v : Value} (hr : (execOp a.eval o).run P w = .ok (.value v) w) (hx : RV S w s.hp B V x v) (hin : inN n o.dst = true)
 (hK : ∀ a' w', Sim W M S0 n (s.put o.dst x) a' w' → K a' w') : o.wp P a w K Q :=
 yo hr (hK _ _ (Sim.put hn hdf h o.dst hx hin))
theorem wG (b o j : Nat) : (⟨b, o, none⟩ : Addr).add j = ⟨b, o + j, none⟩ := by unfold Addr.add; split <;> simp_all
theorem uR (t : TypeId) {b off : Nat} {us : List Value} {i : TypeInfo} (hi : P.info? t = some i) (hs : i.size = us.length) (hc : ∀ j u, us[j]? = some u → w.cell? ⟨b, off + j, none⟩ = some u) {g : Bool} (hg : (isAgg t).run P w = .ok g w) (h1 : g = false → us.length = 1) :
 (Instr.loadAt t (.pointer (some ⟨b, off, none⟩))).run P w = .ok (if g then .agg us.toArray else us.headD undef) w := by
 simp only [Instr.loadAt, Instr.sureAddr, loadVar, Sem.run_bind, Sem.run_pure, Result.andThen_ok, hg]
 cases g with
 | true =>
  have := run_loadCells_list (P := P) w ⟨b, off, none⟩ us (fun j v hv => by rw [wG]; exact hc j v hv)
  simp [sizeOf, typeInfo, hi, hs, this]
 | false =>
  have hl := h1 rfl
  match us, hl with
  | [u], _ =>
   have := hc 0 u rfl
   simp only [Nat.add_zero] at this
   simp [this]
theorem wX {b t : Nat} {cur : Array Value} {cs : List Value} {m : Nat} (hb : w.heap[b]? = some (.cells cur t (0, 0))) (ht : cur.toList.take m = cs) {j : Nat} {u : Value} (hu : cs[j]? = some u) : w.cell? ⟨b, j, none⟩ = some u := by
 rw [cell_of_row w b j cur t (0, 0) hb]
 rw [← ht, List.getElem?_take] at hu
 split at hu
 · simpa using hu
 · cases hu
theorem aBr {hp : Nat → Option OB} {T : Nat → Prop} {ob : OB} {b : Nat} {v : Value} (h : RO S w hp B V T ob b v) (hs : ob.e.shut = true) {i c : Nat} {p : List Nat} {z : AV} (hz : rowAt ob i p c = .ptr z) :
 RA (fun g => S g ∨ v.ownBlock = some g ∨ T g) w (.ptr z) [.pointer (some ⟨b, i * ob.sz + c, none⟩)] := by
 unfold rowAt at hz
 split at hz
 · rename_i y hy
   split at hz
   · rename_i z' c' hg
     cases hb : Nat.beq c' c with
     | false => rw [hb] at hz; cases hz
     | true =>
      rw [hb] at hz
      simp only [cond_true, AV.ptr.injEq] at hz
      subst hz
      obtain rfl := Nat.eq_of_beq_eq_true hb
      have hne : ob.xs ≠ [] := fun e => by rw [e] at hy; simp at hy
      obtain ⟨t, cs, cap, cur, h1, h2, h3, h4, rfl, hheap, hc, hm, hs', ht⟩ := h.block hne
      have hr := RL.mono (S' := fun g => S g ∨ (Value.slice (some ⟨b, 0, none⟩) ob.xs.length cap).ownBlock = some g ∨ T g) (w' := w) (fun g hg => hg.elim .inl (fun k => .inr (.inr k))) (fun _ _ => rfl) _ _ (RK.list hs h2)
      obtain ⟨qs, k1, k2, k3, k4⟩ := RL.at i hr hy
      obtain ⟨vs, m1, m2, m3, m4⟩ := qm p y qs 0 c' z' k1 hg
      have hilt : i < ob.xs.length := (List.getElem?_eq_some_iff.1 hy).1
      have hpre : xB (ob.xs.take i) = i * ob.sz := by rw [xW (fun x hx' => h3 x (List.mem_of_mem_take hx')), List.length_take, Nat.min_eq_left (by omega)]
      unfold RA
      refine ⟨b, i * ob.sz + c', vs, rfl, .inr (.inl rfl), m2, fun j u hu => ?_⟩
      have h5 := k4 _ _ (m4 j u hu)
      rw [hpre, Nat.sub_zero, ← Nat.add_assoc] at h5
      exact wX hheap ht h5
   · cases hz
 · cases hz
theorem aBq (ob : OB) (i : Nat) (p : List Nat) (c : Nat) : rowAt ob i p c = .any ∨ ∃ z, rowAt ob i p c = .ptr z := by
 unfold rowAt
 split
 · split
   · rename_i z c' _
     cases Nat.beq c' c
     · exact .inl rfl
     · exact .inr ⟨_, rfl⟩
   · exact .inl rfl
 · exact .inl rfl
theorem SimW.frz (h : SimW W M S0 s tmps w S B V T) (l : Nat) (hok : okL l = true) : ∃ S', (∀ b, S b → S' b) ∧ SimW W M S0 (s.frz l) tmps w S' B V T ∧ ∀ ob, s.hp l = some ob → ob.e.shut = true → ∀ g, Blk V T l g → S' g := by
 unfold St.frz
 cases ho : s.hp l with
 | none => exact ⟨S, fun _ h => h, h, fun ob e => by cases e⟩
 | some ob =>
  have hro := h.rows.ro l ob ho
  have hsub : ∀ b, S b → S b ∨ (ob.e.shut = true ∧ Blk V T l b) := fun b hb => .inl hb
  have hsame : ∀ j, j ≠ l → Same s.hp (fun j => bif Nat.beq j l then none else xV l (s.hp j)) B B V V j := fun j hj o hjo => ⟨⟨yR l o.e, o.sz, o.xs⟩, by simp only [xY hj, cond_false]; exact jr hjo, rfl, rfl, rfl⟩
  have hat : ∀ j o, (bif Nat.beq j l then none else xV l (s.hp j)) = some o → j ≠ l ∧ ∃ o', s.hp j = some o' ∧ o = ⟨yR l o'.e, o'.sz, o'.xs⟩ := fun j o e => by
   have hj : j ≠ l := fun e' => by rw [e'] at e; simp at e
   rw [xY hj] at e
   exact ⟨hj, y7 e⟩
  refine ⟨fun g => S g ∨ (ob.e.shut = true ∧ Blk V T l g), hsub, ⟨h.below, fun b hb => .inl (h.s0 b hb), fun b hb => ?_, fun t => ?_, ⟨fun j o e => ?_, fun j o g e hb => ?_, fun j o g e => ?_, fun j j' o o' g e1 e2 => ?_, fun j es e => ?_⟩, h.pin, h.gl⟩, fun ob' e hs g hg => by cases e; exact .inr ⟨hs, hg⟩⟩
  · rcases hb with hb | ⟨_, hb⟩
    · exact h.slt b hb
    · obtain ⟨_, k2, k3⟩ := h.rows.me l ob b ho hb
      exact ⟨k2, .inr k3⟩
  · have ht := h.sl t
    have hother : ∀ x u, x.names l = false → RV S w s.hp B V x u → RV (fun g => S g ∨ (ob.e.shut = true ∧ Blk V T l g)) w (fun j => bif Nat.beq j l then none else xV l (s.hp j)) B V x u := fun x u hx hr =>
     RV.carry hsub (fun _ _ => rfl) x u (fun j hj => hsame j (fun e => by rw [e, hx] at hj; cases hj)) hr
    have hgen : RV (fun g => S g ∨ (ob.e.shut = true ∧ Blk V T l g)) w (fun j => bif Nat.beq j l then none else xV l (s.hp j)) B V (bif (s.sl t).names l then .any else s.sl t) (tmps.getD t undef) := by
     cases hn : (s.sl t).names l with
     | true => simp only [cond_true]; unfold RV; trivial
     | false => simp only [cond_false]; exact hother _ _ hn ht
    show RV _ w (fun j => bif Nat.beq j l then none else xV l (s.hp j)) B V (aEW ob l (s.sl t)) _
    cases hx : s.sl t with
    | own l' =>
     rw [hx] at ht
     simp only [aEW]
     by_cases e : l' = l
     · subst e
       simp only [Nat.beq_refl, cond_true]
       cases hs : ob.e.shut with
       | true =>
        simp only [cond_true]
        unfold RV at ht ⊢
        rw [ht.2]
        exact RA.mono (fun g hg => hg.elim .inl (fun k => .inr ⟨by trivial, k⟩)) (fun _ _ => rfl) _ _ (hro.list hs)
       | false => simp only [cond_false]; unfold RV; trivial
     · simp only [xY e, cond_false]
       exact hother _ _ (by simp [AV.names, xY e]) ht
    | optr l' i p c =>
     rw [hx] at ht
     simp only [aEW]
     by_cases e : l' = l
     · subst e
       simp only [Nat.beq_refl, cond_true]
       cases hs : ob.e.shut with
       | true =>
        simp only [cond_true]
        rcases aBq ob i p c with hr | ⟨z, hr⟩
        · rw [hr]; unfold RV; trivial
        · rw [hr]
          unfold RV at ht ⊢
          obtain ⟨ob', ho', e⟩ := ht
          rw [ho] at ho'; cases ho'
          rw [e]
          exact RA.mono (fun g hg => hg.elim .inl (fun k => .inr ⟨by trivial, k⟩)) (fun _ _ => rfl) _ _ (aBr hro hs hr)
       | false => simp only [cond_false]; unfold RV; trivial
     · simp only [xY e, cond_false]
       exact hother _ _ (by simp [AV.names, xY e]) ht
    | _ =>
     rw [hx] at hgen
     simp only [aEW]
     exact hgen
  · obtain ⟨hj, o', e', rfl⟩ := hat j o e
    exact ((h.rows.ro j o' e').kill l).carry hsub (fun _ _ => rfl) (fun i hi => hsame i (fun e2 => by rw [e2, vS] at hi; cases hi)) (fun _ _ => rfl) (fun _ _ => rfl)
  · obtain ⟨hj, o', e', rfl⟩ := hat j o e
    obtain ⟨k1, k2, k3⟩ := h.rows.me j o' g e' hb
    exact ⟨fun hs => hs.elim k1 (fun hs => (h.far ho).2 j o' g hj e' hb hs.2), k2, k3⟩
  · obtain ⟨hj, o', e', rfl⟩ := hat j o e
    exact h.rows.nd j o' g e'
  · obtain ⟨_, p, k1, rfl⟩ := hat j o e1
    obtain ⟨_, q, k2, rfl⟩ := hat j' o' e2
    exact h.rows.ds j j' p q g k1 k2
  · have e0 : (bif Nat.beq j l then none else s.mp j) = some es := e
    have hj : j ≠ l := fun e' => by rw [e'] at e0; simp at e0
    rw [xY hj] at e0
    obtain ⟨⟨t, hq⟩, k⟩ := h.rows.mp j es e0
    exact ⟨⟨t, by simp only [xY hj, cond_false]; rw [hq]; rfl⟩, k⟩
theorem kW : ∀ (ls : List Nat) {s : St} {S : Nat → Prop}, ls.all okL = true → SimW W M S0 s tmps w S B V T → ∃ S', (∀ b, S b → S' b) ∧ SimW W M S0 (ji ls s) tmps w S' B V T ∧ (∀ l ∈ ls, ∀ ob, s.hp l = some ob → ob.e.shut = true → ∀ g, Blk V T l g → S' g) ∧ (∀ d, s.hp d = none → (ji ls s).hp d = none) ∧ (∀ d ob, d ∉ ls → s.hp d = some ob → ob.e.shut = true → (ji ls s).hp d = some ob)
 | [], s, S, _, h => ⟨S, fun _ h => h, h, by simp, fun _ h => h, fun _ _ _ h _ => h⟩
 | l :: ls, s, S, hl, h => by
  simp only [List.all_cons, Bool.and_eq_true] at hl
  obtain ⟨S1, m1, h1, r1⟩ := h.frz l hl.1
  obtain ⟨S2, m2, h2, r2, f2, g2⟩ := kW ls hl.2 h1
  have hkeep : ∀ d ob, d ≠ l → s.hp d = some ob → ob.e.shut = true → (s.frz l).hp d = some ob := fun d ob hd hq hs => by
   unfold St.frz
   cases s.hp l with
   | none => exact hq
   | some o => simp only [xY hd, cond_false]; rw [jr hq, aAP l _ hs]
  have hnone : ∀ d, s.hp d = none → (s.frz l).hp d = none := fun d hd => by
   unfold St.frz
   cases ho : s.hp l with
   | none => exact hd
   | some ob => simp only [hd, xV]; cases Nat.beq d l <;> rfl
  refine ⟨S2, fun b hb => m2 b (m1 b hb), h2, fun l' hl' ob ho hs g hg => ?_, fun d hd => f2 d (hnone d hd), fun d ob hd hq hs => ?_⟩
  · by_cases e : l' = l
    · subst e; exact m2 g (r1 ob ho hs g hg)
    · rcases List.mem_cons.1 hl' with e' | hm
      · exact absurd e' e
      · exact r2 l' hm ob (hkeep l' ob e ho hs) hs g hg
  · simp at hd
    exact g2 d ob hd.2 (hkeep d ob hd.1 hq hs) hs
theorem aAS : ∀ {xs : List AV} {x : AV} {l : Nat}, x ∈ xs → l ∈ yT x → l ∈ xu xs
 | y :: xs, x, l, hx, hl => by
  unfold xu
  rcases List.mem_cons.1 hx with rfl | hm
  · simp [hl]
  · simp [aAS hm hl]
section
variable {S' : Nat → Prop}
theorem aBJ (h : SimW W M S0 s tmps w S B V T) (hm : ∀ b, S b → S' b) {l : Nat} {ob : OB} (ho : s.hp l = some ob) (hs : ob.e.shut = true) (hb : ∀ g, Blk V T l g → S' g) : RA S' w (.lst ob.sz ob.xs) [V l] :=
 RA.mono (fun g hg => hg.elim (hm g) (hb g)) (fun _ _ => rfl) _ _ ((h.rows.ro l ob ho).list hs)
mutual
theorem aKO (h : SimW W M S0 s tmps w S B V T) (hm : ∀ b, S b → S' b) : ∀ (x : AV) (cs : List Value), (∀ l ∈ yT x, ∀ ob, s.hp l = some ob → ob.e.shut = true → ∀ g, Blk V T l g → S' g) → xG s x = true → RO1 S w s.hp B V x Fa cs → RA S' w (s.dat x) cs
 | .v x, cs, _, _, hr => by unfold RO1 at hr; unfold RD at hr; unfold St.dat; unfold RA; exact hr.2
 | .agg xs, cs, _, _, hr => by unfold RO1 at hr; unfold St.dat; exact RD.f_ra hr
 | .lst sz xs, cs, _, _, hr => by unfold RO1 at hr; unfold St.dat; exact RD.f_ra hr
 | .own l, cs, hb, hd, hr => by
  unfold RO1 at hr
  obtain ⟨_, ⟨ob, ho⟩, rfl, _⟩ := hr
  simp only [xG, ho] at hd
  simp only [St.dat, ho, hd, cond_true]
  exact aBJ h hm ho hd (hb l (by simp [yT]) ob ho hd)
 | .optr l i p c, cs, hb, hd, hr => by
  unfold RO1 at hr
  obtain ⟨_, ob, ho, rfl⟩ := hr
  simp only [xG, ho, Bool.and_eq_true] at hd
  simp only [St.dat, ho, hd.1, cond_true]
  rcases aBq ob i p c with hq | ⟨z, hq⟩
  · rw [hq] at hd; simp at hd
  · rw [hq]
    exact RA.mono (fun g hg => hg.elim (hm g) (hb l (by simp [yT]) ob ho hd.1 g)) (fun _ _ => rfl) _ _ (aBr (h.rows.ro l ob ho) hd.1 hq)
 | .mix xs, cs, hb, hd, hr => by
  unfold RO1 at hr
  simp only [xG] at hd
  simp only [St.dat]
  unfold RA
  exact aCn h hm xs cs (fun l hl => hb l (by simpa [yT] using hl)) hd hr
 | .rd x, cs, _, _, hr => by unfold RO1 at hr; unfold St.dat; exact RA.mono hm (fun _ _ => rfl) _ _ hr.2
 | .any, cs, _, hd, _ => by simp [xG] at hd
 | .ptr _, cs, _, hd, hr => by unfold RO1 at hr; exact hr.elim
 | .tup _, cs, _, hd, _ => by simp [xG] at hd
 | .mapv _, cs, _, hd, _ => by simp [xG] at hd
 | .fn _ _ _, cs, _, hd, _ => by simp [xG] at hd
 | .ifc _ _, cs, _, hd, _ => by simp [xG] at hd
theorem aCn (h : SimW W M S0 s tmps w S B V T) (hm : ∀ b, S b → S' b) : ∀ (xs : List AV) (cs : List Value), (∀ l ∈ xu xs, ∀ ob, s.hp l = some ob → ob.e.shut = true → ∀ g, Blk V T l g → S' g) → zX s xs = true → ROs S w s.hp B V xs Fa cs → RL S' w (s.datL xs) cs
 | [], cs, _, _, hr => by unfold ROs at hr; unfold St.datL RL; exact hr.1
 | x :: xs, cs, hb, hd, hr => by
  unfold ROs at hr
  obtain ⟨c1, c2, T1, T2, e, hs, h1, h2⟩ := hr
  obtain ⟨n1, n2⟩ := hs.none noF
  rw [n1.eq noF] at h1
  rw [n2.eq noF] at h2
  simp only [zX, Bool.and_eq_true] at hd
  unfold St.datL RL
  exact ⟨c1, c2, e, aKO h hm x c1 (fun l hl => hb l (by unfold xu; simp [hl])) hd.1 h1, aCn h hm xs c2 (fun l hl => hb l (by unfold xu; simp [hl])) hd.2 h2⟩
end
theorem vw (h : SimW W M S0 s tmps w S B V T) (hm : ∀ b, S b → S' b) {x : AV} {u : Value} (hb : ∀ l ∈ yT x, ∀ ob, s.hp l = some ob → ob.e.shut = true → ∀ g, Blk V T l g → S' g) (hd : xG s x = true) (hr : RV S w s.hp B V x u) {hp' : Nat → Option OB} {B' : Nat → Nat} {V' : Nat → Value} :
 RV S' w hp' B' V' (s.dat x) u ∧ RA S' w (s.dat x) u.cells.toList := by
 cases x with
 | v x => unfold RV at hr; obtain ⟨rfl, h1⟩ := hr; unfold St.dat; exact ⟨by unfold RV; exact ⟨rfl, h1⟩, by unfold RA; exact ⟨wm h1, h1⟩⟩
 | agg xs => unfold RV at hr; obtain ⟨cs, rfl, h1⟩ := hr; unfold St.dat; have := RL.mono hm (fun _ _ => rfl) _ _ h1; exact ⟨by unfold RV; exact ⟨cs, rfl, this⟩, by unfold RA; simpa [Value.cells] using this⟩
 | lst sz xs =>
  unfold RV at hr
  have h0 := RA.mono (S' := S') (w' := w) hm (fun _ _ => rfl) _ _ hr
  unfold St.dat
  refine ⟨by unfold RV; exact h0, ?_⟩
  unfold RA at hr
  obtain ⟨A, c, e, _⟩ := hr
  simp only [List.cons.injEq, and_true] at e
  subst e
  simpa [Value.cells] using h0
 | ptr x =>
  unfold RV at hr
  have h0 := RA.mono (S' := S') (w' := w) hm (fun _ _ => rfl) _ _ hr
  unfold St.dat
  refine ⟨by unfold RV; exact h0, ?_⟩
  unfold RA at hr
  obtain ⟨A, c, us, e, _⟩ := hr
  simp only [List.cons.injEq, and_true] at e
  subst e
  simpa [Value.cells] using h0
 | own l =>
  unfold RV at hr
  obtain ⟨⟨ob, ho⟩, rfl⟩ := hr
  simp only [xG, ho] at hd
  simp only [St.dat, ho, hd, cond_true]
  have := aBJ h hm ho hd (hb l (by simp [yT]) ob ho hd)
  exact ⟨by unfold RV; exact this, by rw [wm (h.oneV l ob ho)]; exact this⟩
 | optr l i p c =>
  unfold RV at hr
  obtain ⟨ob, ho, rfl⟩ := hr
  simp only [xG, ho, Bool.and_eq_true] at hd
  simp only [St.dat, ho, hd.1, cond_true]
  rcases aBq ob i p c with hq | ⟨z, hq⟩
  · rw [hq] at hd; simp at hd
  · rw [hq]
    have := RA.mono (S' := S') (w' := w) (fun g hg => hg.elim (hm g) (hb l (by simp [yT]) ob ho hd.1 g)) (fun _ _ => rfl) _ _ (aBr (h.rows.ro l ob ho) hd.1 hq)
    exact ⟨by unfold RV; exact this, by simpa [Value.cells] using this⟩
 | mix xs =>
  unfold RV at hr
  obtain ⟨cs, rfl, h1⟩ := hr
  simp only [xG] at hd
  simp only [St.dat]
  have := aCn h hm xs cs (fun l hl => hb l (by simpa [yT] using hl)) hd h1
  exact ⟨by unfold RV; exact ⟨cs, rfl, this⟩, by unfold RA; simpa [Value.cells] using this⟩
 | rd _ => unfold RV at hr; exact hr.elim
 | _ => simp [xG] at hd
theorem aBF (h : SimW W M S0 s tmps w S B V T) (hm : ∀ b, S b → S' b) {hp' : Nat → Option OB} {B' : Nat → Nat} {V' : Nat → Value} : ∀ (xs : List AV) (us : List Value), (∀ l ∈ xu xs, ∀ ob, s.hp l = some ob → ob.e.shut = true → ∀ g, Blk V T l g → S' g) → zo s xs = true → RVs S w s.hp B V xs us → RVs S' w hp' B' V' (xs.map s.dat) us
 | [], us, _, _, hr => by unfold RVs at hr; show RVs _ _ _ _ _ [] us; unfold RVs; exact hr
 | x :: xs, us, hb, hd, hr => by
  unfold RVs at hr
  obtain ⟨u, us', rfl, h1, h2⟩ := hr
  simp only [zo, Bool.and_eq_true] at hd
  show RVs _ _ _ _ _ (s.dat x :: xs.map s.dat) _
  unfold RVs
  refine ⟨u, us', rfl, ?_, aBF h hm xs us' (fun l hl => hb l (by unfold xu; simp [hl])) hd.2 h2⟩
  have hb' : ∀ l ∈ yT x, ∀ ob, s.hp l = some ob → ob.e.shut = true → ∀ g, Blk V T l g → S' g := fun l hl => hb l (by unfold xu; simp [hl])
  have h3 := hd.1
  cases x with
  | any => unfold St.dat RV; trivial
  | fn f xs ys =>
   unfold RV at h1
   unfold wT at h3
   split at h3 <;> simp_all
   · unfold St.dat RV
     obtain ⟨us, vs, e, k1, k2⟩ := h1
     unfold RVs at k1 k2
     subst k1 k2
     exact ⟨[], [], e, by unfold RVs; rfl, by unfold RVs; rfl⟩
  | ifc t x =>
   unfold RV at h1
   obtain ⟨u', rfl, h1⟩ := h1
   unfold wT at h3
   simp only [St.dat]
   unfold RV
   exact ⟨u', rfl, (vw h hm (fun l hl => hb' l (by simpa [yT] using hl)) h3 h1).1⟩
  | tup _ => simp [wT] at h3
  | mapv _ => simp [wT] at h3
  | rd _ => simp [wT] at h3
  | _ => exact (vw h hm hb' (by simpa [wT] using h3) h1).1
end
end
section
variable {P : Program} {Θ : Tab} {W : World} {M : Hand} {S0 : Nat → Prop} {n : Nat} {s : St} {a : Act} {w : World} {S : Nat → Prop} {B : Nat → Nat} {V : Nat → Value} {T : Nat → Nat → Prop} {tmps : Array Value}
variable {K : Act → World → Prop} {Q : Exit → Act → World → Prop}
theorem aIu (c x y : Value) (t : Bool) (hc : c = .bool t) : (do pure (Next.value (if ← asBool c then x else y)) : Sem Next).run P w = .ok (.value (if t then x else y)) w := by
 subst hc; cases t <;> rfl
theorem aA0 {x : Value} (h : x.oneCell' = true) : RV S w s.hp B V (.v x) x := by unfold RV; exact ⟨rfl, h⟩
theorem aCv {P : Program} : ∀ (fields : List Field) (fs : List (Nat × Nat)) (k : Nat), kJ P k fields fs → ∀ (i o z : Nat), fs[i]? = some (o, z) → ∃ f, fields[i]? = some f ∧ f.offset = o ∧ 0 < z ∧ (P.info? f.type).map (·.size) = some z ∧ o = k + sizes (fs.take i)
 | [], [], _, _, i, o, z, h => by simp at h
 | [], _ :: _, _, h, _, _, _, _ => by simp [kJ] at h
 | _ :: _, [], _, h, _, _, _, _ => by simp [kJ] at h
 | f :: fields, (o', z') :: fs, k, h, 0, o, z, hi => by
  obtain ⟨h1, h2, h3, h4, _⟩ := h
  simp at hi
  obtain ⟨rfl, rfl⟩ := hi
  exact ⟨f, rfl, h1, h3, h4, by simp [sizes, h2]⟩
 | f :: fields, (o', z') :: fs, k, h, i + 1, o, z, hi => by
  obtain ⟨h1, h2, h3, h4, h5⟩ := h
  simp at hi
  obtain ⟨f', k1, k2, k3, k4, k5⟩ := aCv fields fs _ h5 i o z hi
  exact ⟨f', by simpa using k1, k2, k3, k4, by rw [k5, List.take_succ_cons, sizes]; omega⟩
theorem aBe {t : TypeId} {fs : List (Nat × Nat)} {z : List AV} (hT : vB P t (.struct fs z)) {f o_ z_ : Nat} (hf : fs[f]? = some (o_, z_)) (b off : Nat) :
 (Instr.fieldAt t (.pointer (some ⟨b, off, none⟩)) f).run P w = .ok (.pointer (some ⟨b, off + o_, none⟩)) w := by
 obtain ⟨fields, i, cs, hu, ho, _⟩ := hT
 obtain ⟨fl, h1, h2, h3, h4, _⟩ := aCv _ _ _ ho f o_ z_ hf
 have h1' : fields[f]? = some fl := by rw [← Array.getElem?_toList]; exact h1
 cases hi : P.info? fl.type with
 | none => rw [hi] at h4; simp at h4
 | some j =>
  rw [hi] at h4
  simp at h4
  have hz : ¬ j.size = 0 := by omega
  simp [Instr.fieldAt, run_underlying hu, h1', Instr.sureAddr, fieldPlace, sizeOf, typeInfo, hi, hz, wG, h2]
theorem run_indexAt {t e : TypeId} {sz b : Nat} {z : AV} (hT : vB P t (.slice e sz b z)) {k : IntKind} {A : Addr} {m c j : Nat} (hj : j < m) :
 (Instr.indexAt t (.slice (some A) m c) (.int k (j : Int))).run P w = .ok (.pointer (some (A.add (j * sz)))) w := by
 obtain ⟨hu, _, i, zv, hi, _, hs, _⟩ := hT
 have h1 : (0 : Int) ≤ (j : Int) ∧ (j : Int) < (m : Int) := by omega
 simp [Instr.indexAt, asIntOf, run_underlying hu, h1, sizeOf, typeInfo, hi, hs]
 intro hge; omega
theorem aBB {t e : TypeId} {m sz : Nat} {z : AV} (hT : vB P t (.arr e m sz z)) {k : IntKind} {A : Addr} {j : Nat} (hj : j < m) :
 (Instr.indexAt t (.pointer (some A)) (.int k (j : Int))).run P w = .ok (.pointer (some (A.add (j * sz)))) w := by
 obtain ⟨hu, _, _, _, _, i, hi, hs⟩ := hT
 have h1 : (0 : Int) ≤ (j : Int) ∧ (j : Int) < (m : Int) := by omega
 simp [Instr.indexAt, Instr.sureAddr, asIntOf, run_underlying hu, h1, sizeOf, typeInfo, hi, hs]
 intro hge; omega
theorem aHz {t : TypeId} {zv : Value} {i : TypeInfo} (hi : P.info? t = some i) (hz : i.zero = some zv) : (Instr.alloc t true (.tuple #[])).run P w = .ok (.pointer (some ⟨w.heap.size, 0, none⟩)) (w.alloc (.cells zv.cells t)) := by
 simp [Instr.alloc, zeroValue, typeInfo, hi, hz, newVar, newRow]
theorem aGE {t : TypeId} {x : Value} : (Instr.box t x).run P w = .ok (.pointer (some ⟨w.heap.size, 0, none⟩)) (w.alloc (.cells x.cells t)) := by
 simp [Instr.box, newVar, newRow]
theorem aK6 {t : Nat} {z : AV} : ∀ Q, kz t z ≠ .c Q := fun Q h => by unfold kz at h; cases hn : kzS z <;> rw [hn] at h <;> cases h
theorem ROc.of {w : World} {b : Nat} {T : Nat → Prop} {e : ET} (h : ∀ Q, e ≠ .c Q) : ROc w b T e := by
 cases e with
 | c Q => exact absurd rfl (h Q)
 | _ => trivial
theorem wJ (h : SimW W M S0 s tmps w S B V T) {d : Nat} (hok : okL d = true) (hf : s.hp d = none) {t : TypeId} {sz m : Nat} {xs : List AV} {cs : Array Value} {e : ET} (hty : ∀ t', e.typ = some t' → t = t') (hr : RK S w s.hp B V sz xs Fa cs.toList e) (ha : ∀ x ∈ xs, asz x = sz) (h0 : 0 < sz) (hm : xs.length = m) (hmax : m ≤ maxLen) (hnc : ∀ Q, e ≠ .c Q := by first | exact aK6 | (intro Q hQ; cases hQ)) :
 SimW W M S0 (s.set d (some ⟨e, sz, xs⟩)) tmps (w.alloc (.cells cs t)) S (upd B d w.heap.size) (upd V d (.slice (some ⟨w.heap.size, 0, none⟩) m m)) (upd T d Fa) := by
 have hb : Below w.heap.size w (w.alloc (.cells cs t)) := (Below.refl _ _).alloc (Nat.le_refl _) _
 have hl := hr.size ha
 rw [Array.length_toList, hm] at hl
 obtain ⟨hn1, hn2⟩ := jF h hf
 have hlt : w.heap.size < (w.alloc (.cells cs t)).heap.size := (Array.getElem?_eq_some_iff.1 (heap_alloc_new w (.cells cs t))).1
 refine h.repl hok hn1 (fun j ob _ ho => hn2 j ob ho) (Grown.of hb _) ⟨t, cs.toList, ⟨hty, ROc.of hnc⟩, ?_, ha, h0, ⟨by simp only [Array.length_toList, hm, hl], .inr ⟨w.heap.size, m, cs, by simp [hm], Nat.zero_le _, heap_alloc_new w _, by simp [hm], hmax, hl, ?_⟩⟩, fun g hg => by simp [Value.ownBlock] at hg; exact hg.symm⟩ (fun g hg => ?_) (fun g _ hg => hg)
 · refine hr.carry (fun _ h => h) (fun b hs => hb.block b (h.slt b hs).1) (fun l _ ob ho => ?_) (fun g hg => hg.elim)
   have hne : l ≠ d := fun e => by rw [e, hf] at ho; cases ho
   exact ⟨ob, by rw [yG hne]; exact ho, rfl, upd_ne hne, upd_ne hne⟩
 · simp only [hm]; rw [List.take_of_length_le (by simp only [Array.length_toList]; omega)]
 · rcases hg with hg | hg
   · simp [Value.ownBlock] at hg; subst hg; exact ⟨hlt, .inl (.inl (Nat.le_refl _))⟩
   · exact hg.elim
theorem aHb (t : Nat) (z : AV) : (kz t z).typ = some t := by unfold kz; cases kzS z <;> rfl
theorem aJG {hp : Nat → Option OB} {sz t : Nat} {z : AV} {xs : List AV} {cs : List Value} (h : RDL w xs Fa cs) : RK S w hp B V sz xs Fa cs (kz t z) := by
 unfold kz
 cases kzS z with
 | true => exact RDL.f_rl h
 | false => exact ⟨noF, h⟩
theorem RDL.sing {x : AV} {T : Nat → Prop} {cs : List Value} (h : RD w x T cs) : RDL w [x] T cs := by
 unfold RDL; exact ⟨cs, [], T, Fa, by simp, Split.r0 noF, h, by unfold RDL; exact ⟨rfl, noF⟩⟩
theorem qg {x : AV} {sz : Nat} (h : asz x = sz) : ∀ y ∈ [x], asz y = sz := fun y hy => by rw [List.mem_singleton] at hy; subst hy; exact h
theorem aDB {hp : Nat → Option OB} {sz : Nat} {y z : AV} {T : Nat → Prop} {cs : List Value} {t : Option Nat} (hz : asz y = sz) (h : RO1 S w hp B V y T cs) : RK S w hp B V sz [z] T cs (.o t 0 y) :=
 ⟨by simp, hz, [], cs, [], Fa, T, T, Fa, by simp, Split.l0 noF, Split.r0 noF, by simp only [List.take_zero]; unfold RDL; exact ⟨rfl, noF⟩, h, by simp only [List.drop_succ_cons, List.drop_nil]; unfold RDL; exact ⟨rfl, noF⟩⟩
theorem aHk (hΘ : yP P Θ) (hn : a.tmps.size = n) (hdf : a.defers = []) (h : SimW W M S0 s a.tmps w S B V T) {dst : Option Tmp} {t : TypeId} {ty : TypeId} {pos : String} {after : Array Edge} {guard : Option (Nat × Bool)} {e : Eff}
 (hp : Pre P Θ ⟨dst, .alloc t, ty, pos, after, guard⟩ s e) (hin : inN n dst = true) (hK : ∀ a' w', Sim W M S0 n (s.app dst e) a' w' → K a' w') : (⟨dst, .alloc t, ty, pos, after, guard⟩ : Oper).wp P a w K Q := by
 simp only [Pre] at hp
 obtain ⟨d, rfl, hf, hok, hk, rfl⟩ := hp
 obtain ⟨i0, hi0, hs0, _, ⟨zv, hz, hzr⟩, hasz, hpos⟩ := jc (hΘ t) hk
 have hsim := wJ h hok hf (t := t) (cs := zv.cells) (xs := [(Θ.look t).zero]) (e := kz t (Θ.look t).zero) (fun t' e => by rw [aHb] at e; cases e; rfl) (aJG (RDL.sing (hzr w))) (qg hasz) hpos rfl (by simp [maxLen])
 refine yo (v := .pointer (some ⟨w.heap.size, 0, none⟩)) (w1 := w.alloc (.cells zv.cells t)) (by simp only [execOp, Sem.run_bind, aHz hi0 hz, Result.andThen_ok, Sem.run_pure]) (hK _ _ ?_)
 refine Sim.put hn hdf hsim (some d) ?_ hin
 unfold RV
 exact ⟨_, yY, by rw [upd_same]; simp⟩
theorem aBL {ls : List Nat} {f : St → St} {d : Option Tmp} {v : AV} : s.app d ⟨v, jk ls f⟩ = (f (ji ls s)).put d v := by cases ls <;> rfl
theorem aJf {ls : List Nat} {d : Option Tmp} {v : AV} : s.app d ⟨v, aI6 ls⟩ = (ji ls s).put d v := by cases ls <;> rfl
theorem aJp (hΘ : yP P Θ) (hn : a.tmps.size = n) (hdf : a.defers = []) (h : SimW W M S0 s a.tmps w S B V T) {dst : Option Tmp} {t : TypeId} {x : Operand} {ty : TypeId} {pos : String} {after : Array Edge} {guard : Option (Nat × Bool)} {e : Eff}
 (hp : Pre P Θ ⟨dst, .box t x, ty, pos, after, guard⟩ s e) (hin : inN n dst = true) (hK : ∀ a' w', Sim W M S0 n (s.app dst e) a' w' → K a' w') : (⟨dst, .box t x, ty, pos, after, guard⟩ : Oper).wp P a w K Q := by
 simp only [Pre] at hp
 obtain ⟨hc, d, rfl, hf, hok, hk, hp⟩ := hp
 obtain ⟨i0, hi0, hs0, _, _, _, hpos⟩ := jc (hΘ t) hk
 have hrv := zu h x hc
 rcases hp with ⟨hsz, hd, hall, rfl⟩ | ⟨y, hy, hsz, rfl⟩
 · obtain ⟨S', mm, h', r, f, g⟩ := kW (yT (s.ev x)) hall h
   have hra := (vw (hp' := s.hp) (B' := B) (V' := V) h mm (fun l hl ob ho hs => r l hl ob ho hs) hd hrv).2
   have hsim := wJ h' hok (f (d + 1) hf) (t := t) (cs := (a.eval x).cells) (xs := [s.dat (s.ev x)]) (e := .s t) (fun t' e => by cases e; rfl) (RL.sing hra) (qg hsz) hpos rfl (by simp [maxLen])
   refine yo (v := .pointer (some ⟨w.heap.size, 0, none⟩)) (w1 := w.alloc (.cells (a.eval x).cells t)) (by simp only [execOp, Sem.run_bind, aGE, Result.andThen_ok, Sem.run_pure]) (hK _ _ ?_)
   rw [aBL]
   refine Sim.put hn hdf hsim (some d) ?_ hin
   unfold RV
   exact ⟨_, yY, by rw [upd_same]; simp⟩
 · have hro := hrv.toO h.oneV hy
   have hsim := wJ h hok hf (t := t) (cs := (a.eval x).cells) (xs := [y]) (e := .o (some t) 0 y) (fun t' e => by cases e; rfl) (aDB hsz hro) (qg hsz) hpos rfl (by simp [maxLen])
   refine yo (v := .pointer (some ⟨w.heap.size, 0, none⟩)) (w1 := w.alloc (.cells (a.eval x).cells t)) (by simp only [execOp, Sem.run_bind, aGE, Result.andThen_ok, Sem.run_pure]) (hK _ _ ?_)
   refine Sim.put hn hdf hsim (some d) ?_ hin
   unfold RV
   exact ⟨_, yY, by rw [upd_same]; simp⟩
theorem aD3 : ∀ (ps : List (Nat × Operand)) (z : List AV) (sz : Nat), (∀ x ∈ z, asz x = sz) → vU s z ps → (∀ x ∈ zD s z ps, asz x = sz) ∧ (zD s z ps).length = z.length
 | [], z, sz, h, _ => ⟨h, rfl⟩
 | (i, x) :: ps, z, sz, h, hp => by
  obtain ⟨⟨y, hy, hsz⟩, hd, hp'⟩ := hp
  have := aD3 ps (z.set i (s.dat (s.ev x))) sz (fun q hq => by
   rcases List.mem_or_eq_of_mem_set hq with hq | rfl
   · exact h q hq
   · rw [hsz]; exact h y (List.mem_of_getElem? hy)) hp'
  exact ⟨this.1, by rw [zD, this.2]; simp⟩
theorem jR : ∀ (ps : List (Nat × Operand)) (z : List AV), zD s z ps = ps.foldl (fun z x => z.set x.1 (s.dat (s.ev x.2))) z
 | [], z => rfl
 | (i, x) :: ps, z => by rw [zD, jR ps, List.foldl_cons]
theorem aA1 : ∀ (ps : List (Nat × Operand)) (z : List AV), vU s z ps → (∀ x ∈ ps, xG s (s.ev x.2) = true) ∧ ∀ pre q post, ps = pre ++ q :: post → ∃ y, (pre.foldl (fun z x => z.set x.1 (s.dat (s.ev x.2))) z)[q.1]? = some y ∧ asz (s.dat (s.ev q.2)) = asz y
 | [], z, _ => ⟨by simp, fun pre q post e => by cases pre <;> simp at e⟩
 | (i, x) :: ps, z, hp => by
  obtain ⟨hy, hd, hp'⟩ := hp
  obtain ⟨k1, k2⟩ := aA1 ps _ hp'
  refine ⟨fun q hq => ?_, fun pre q post e => ?_⟩
  · rcases List.mem_cons.1 hq with rfl | hq
    · exact hd
    · exact k1 q hq
  · cases pre with
    | nil => simp at e; obtain ⟨rfl, _⟩ := e; exact hy
    | cons p pre => simp at e; obtain ⟨rfl, e⟩ := e; exact k2 pre q post e
theorem aA7 : ∀ (ps : List (Nat × Operand)) (z : List AV), vN s z ps = ps.foldl (fun z x => z.set x.1 ((toO (s.ev x.2)).getD .any)) z
 | [], z => rfl
 | (i, x) :: ps, z => by rw [vN, aA7 ps, List.foldl_cons]
theorem aE9 : ∀ (ps : List (Nat × Operand)) (z : List AV), aAU s z ps → (∀ x ∈ ps, ∃ y, toO (s.ev x.2) = some y) ∧ ∀ pre q post, ps = pre ++ q :: post → ∃ y, (pre.foldl (fun z x => z.set x.1 ((toO (s.ev x.2)).getD .any)) z)[q.1]? = some y ∧ asz ((toO (s.ev q.2)).getD .any) = asz y
 | [], z, _ => ⟨by simp, fun pre q post e => by cases pre <;> simp at e⟩
 | (i, x) :: ps, z, hp => by
  obtain ⟨⟨y, y', hy, hy', hsz⟩, hp'⟩ := hp
  obtain ⟨k1, k2⟩ := aE9 ps _ hp'
  refine ⟨fun q hq => ?_, fun pre q post e => ?_⟩
  · rcases List.mem_cons.1 hq with rfl | hq
    · exact ⟨y', hy'⟩
    · exact k1 q hq
  · cases pre with
    | nil => simp at e; obtain ⟨rfl, _⟩ := e; exact ⟨y, hy, by rw [hy']; exact hsz⟩
    | cons p pre => simp at e; obtain ⟨rfl, e⟩ := e; exact k2 pre q post e
theorem ROs.setAt {hp : Nat → Option OB} (z : List AV) (cs : List Value) (i : Nat) (x y : AV) (us : List Value) (h : ROs S w hp B V z Fa cs) (hy : z[i]? = some y) (hx : RO1 S w hp B V x Fa us) (hz : asz x = asz y) :
 ROs S w hp B V (z.set i x) Fa (cs.take (xB (z.take i)) ++ us ++ cs.drop (xB (z.take i) + us.length)) ∧ us.length = asz x ∧ xB (z.take i) + us.length ≤ cs.length := by
 obtain ⟨c1, c2, c3, T1, Tr, e, hl, k1, k2, k3⟩ := ROs.focus i h hy
 obtain ⟨n1, n2⟩ := k2.none noF
 have e1 := RO1.size _ _ _ hx
 have e2 := RO1.size _ _ _ k1
 have := k3 x us Fa Fa hx (by rw [n2.eq noF]; exact Split.l0 noF)
 refine ⟨?_, e1, by rw [e]; simp only [List.length_append]; omega⟩
 have e3 : cs.take (xB (z.take i)) = c1 := by rw [e, ← hl, List.take_left]
 have e4 : cs.drop (xB (z.take i) + us.length) = c3 := by
  rw [e, ← hl, ← List.drop_drop, List.drop_left, show us.length = c2.length from by omega, List.drop_left]
 rw [e3, e4, List.append_assoc]; exact this
theorem aA8 {t : TypeId} {fs : List (Nat × Nat)} {z : List AV} (hT : vB P t (.struct fs z)) (R : List AV → List Value → Prop) (put : AV → List Value → Prop) (hset : ∀ (z : List AV) (cs : List Value) (i : Nat) (x y : AV) (us : List Value), R z cs → z[i]? = some y → put x us → asz x = asz y → R (z.set i x) (cs.take (xB (z.take i)) ++ us ++ cs.drop (xB (z.take i) + us.length)) ∧ us.length = asz x ∧ xB (z.take i) + us.length ≤ cs.length)
 (zz : List AV) (hzz : zz.map asz = z.map asz) (hzr : ∀ cs, RDL w z Fa cs → R zz cs) (dat : Operand → AV) (ps : Array (Nat × Operand)) (hall : ∀ x ∈ ps.toList, put (dat x.2) (a.eval x.2).cells.toList) (hp : ∀ (pre : List (Nat × Operand)) (q : Nat × Operand) (post : List (Nat × Operand)), ps.toList = pre ++ q :: post → ∃ y, (pre.foldl (fun z x => z.set x.1 (dat x.2)) zz)[q.1]? = some y ∧ asz (dat q.2) = asz y) :
 ∃ cs, (Instr.build t (ps.map fun (i, x) => (i, a.eval x))).run P w = .ok (.agg cs) w ∧ R (ps.toList.foldl (fun z x => z.set x.1 (dat x.2)) zz) cs.toList := by
 obtain ⟨fields, i, cs, hu, ho, hi, hs, hpos, hm, hz, hr⟩ := hT
 have hplaces : ∀ (l : List Field) (f2 : List (Nat × Nat)) (k : Nat), kJ P k l f2 → (l.mapM (fun f => do pure (f.offset, ← sizeOf f.type) : Field → Sem (Nat × Nat))).run P w = .ok f2 w := by
  intro l
  induction l with
  | nil => intro f2 k h; cases f2 with
   | nil => simp
   | cons _ _ => simp [kJ] at h
  | cons f l ih =>
   intro f2 k h
   cases f2 with
   | nil => simp [kJ] at h
   | cons q f2 =>
    obtain ⟨o', z'⟩ := q
    obtain ⟨h1, h2, h3, h4, h5⟩ := h
    cases hj : P.info? f.type with
    | none => rw [hj] at h4; simp at h4
    | some j =>
     rw [hj] at h4
     simp at h4
     have hsz : (sizeOf f.type).run P w = .ok z' w := by simp [sizeOf, typeInfo, hj, h4]
     simp only [List.mapM_cons, Sem.run_bind, Sem.run_pure, Result.andThen_ok, hsz, ih f2 _ h5, h1]
 have hpl := hplaces _ _ _ ho
 have hplace : ∀ i y, zz[i]? = some y → (fs.toArray)[i]? = some (xB (zz.take i), asz y) := fun i y hy => by
  have e := congrArg (fun l => l[i]?) (hzz.trans hm)
  simp only [List.getElem?_map, hy, Option.map_some] at e
  cases hq : fs[i]? with
  | none => rw [hq] at e; simp at e
  | some q =>
   obtain ⟨o', z'⟩ := q
   rw [hq] at e
   simp at e
   obtain ⟨_, _, _, _, _, k5⟩ := aCv _ _ _ ho i o' z' hq
   have ht : xB (zz.take i) = sizes (fs.take i) := aAI _ _ (by rw [List.map_take, List.map_take, hzz, hm])
   simp [hq, k5, ht, e]
 obtain ⟨cells', h1, h2⟩ := aAK R put hset (place := fun i => fs.toArray[i]?) dat a.eval ps.toList zz cs hall (hzr _ (hr w)) hp hplace
 refine ⟨cells', ?_, h2⟩
 have hmap : (ps.map fun (i, x) => (i, a.eval x)).toList = ps.toList.map fun x => (x.1, a.eval x.2) := by simp
 have hmp : (fields.mapM (fun f => do pure (f.offset, ← sizeOf f.type) : Field → Sem (Nat × Nat))).run P w = .ok fs.toArray w := by
  rw [Array.mapM_eq_mapM_toList]
  simp only [Sem.run_map, hpl, Result.andThen_ok]
 simp only [Instr.build, zeroValue, typeInfo, Sem.run_bind, run_program, Result.andThen_ok, hi, Sem.run_pure, hz, run_underlying hu, Value.cells, hmp, hmap]
 simp only [h1, Sem.run_pure]
theorem RL.setAt {S : Nat → Prop} (z : List AV) (cs : List Value) (i : Nat) (x y : AV) (us : List Value) (h : RL S w z cs) (hy : z[i]? = some y) (hx : RA S w x us) (hz : asz x = asz y) :
 RL S w (z.set i x) (cs.take (xB (z.take i)) ++ us ++ cs.drop (xB (z.take i) + us.length)) ∧ us.length = asz x ∧ xB (z.take i) + us.length ≤ cs.length := by
 have e1 := RA.size _ _ hx
 obtain ⟨qs, k1, k2, _⟩ := RL.at i h hy
 have e2 := RA.size _ _ k1
 exact ⟨RL.set i h hy hx hz, e1, by omega⟩
theorem aEb : ∀ (z : List AV) (cs : List Value), RDL w z Fa cs → (wW z).map asz = z.map asz
 | [], _, _ => rfl
 | x :: z, cs, h => by
  unfold RDL at h
  obtain ⟨c1, c2, T1, T2, e, hs, h1, h2⟩ := h
  obtain ⟨n1, n2⟩ := hs.none noF
  rw [n1.eq noF] at h1
  rw [n2.eq noF] at h2
  simp only [wW, List.map_cons, aEb z c2 h2, (aFj (S := fun _ => False) (hp := fun _ => none) (B := fun _ => 0) (V := fun _ => undef) x c1 h1).2]
theorem aHl (hΘ : yP P Θ) (hn : a.tmps.size = n) (hdf : a.defers = []) (h : SimW W M S0 s a.tmps w S B V T) {dst : Option Tmp} {t : TypeId} {ps : Array (Nat × Operand)} {ty : TypeId} {pos : String} {after : Array Edge} {guard : Option (Nat × Bool)} {e : Eff}
 (hp : Pre P Θ ⟨dst, .build t ps, ty, pos, after, guard⟩ s e) (hin : inN n dst = true) (hK : ∀ a' w', Sim W M S0 n (s.app dst e) a' w' → K a' w') : (⟨dst, .build t ps, ty, pos, after, guard⟩ : Oper).wp P a w K Q := by
 simp only [Pre] at hp
 obtain ⟨fs, z, ht, hp⟩ := hp
 have hT := hΘ t
 rw [ht] at hT
 rcases hp with ⟨hps, hcs, hall, rfl⟩ | ⟨hps, hcs, rfl⟩
 · obtain ⟨S', m, h', r, f, g⟩ := kW (yF s (ps.toList.map (·.2))) hall h
   obtain ⟨q1, q2⟩ := aA1 _ _ hps
   obtain ⟨cs, hrun, hrl⟩ := aA8 (P := P) (w := w) (a := a) hT (RL S' w) (RA S' w) RL.setAt z rfl (fun cs h => RDL.f_rl h) (fun x => s.dat (s.ev x)) ps (fun x hx => (vw (hp' := s.hp) (B' := B) (V' := V) h m (fun l hl ob ho hs => r l (aAS (List.mem_map.2 ⟨x.2, List.mem_map.2 ⟨x, hx, rfl⟩, rfl⟩) hl) ob ho hs) (q1 x hx) (zu h x.2 (fun c e => hcs x.2 (List.mem_map.2 ⟨x, hx, rfl⟩) c e))).2) q2
   rw [← jR] at hrl
   refine yo (v := .agg cs) (w1 := w) (by simp only [execOp, Sem.run_bind, hrun, Result.andThen_ok, Sem.run_pure]) (hK _ _ ?_)
   rw [aJf]
   exact Sim.put hn hdf h' dst (by unfold RV; exact ⟨cs.toList, by simp, hrl⟩) hin
 · obtain ⟨q1, q2⟩ := aE9 _ _ hps
   obtain ⟨fields, i, zc, _, _, _, _, _, _, _, hzr⟩ := id hT
   obtain ⟨cs, hrun, hrl⟩ := aA8 (P := P) (w := w) (a := a) hT (fun z cs => ROs S w s.hp B V z Fa cs) (fun x us => RO1 S w s.hp B V x Fa us) ROs.setAt (wW z) (aEb z _ (hzr w)) (fun cs h => (aCs z cs h).1) (fun x => (toO (s.ev x)).getD .any) ps (fun x hx => by
    obtain ⟨y, hy⟩ := q1 x hx
    simp only [hy, Option.getD_some]
    exact (zu h x.2 (fun c e => hcs x.2 (List.mem_map.2 ⟨x, hx, rfl⟩) c e)).toO h.oneV hy) q2
   rw [← aA7] at hrl
   exact xw (x := .mix (vN s (wW z) ps.toList)) (v := .agg cs) hn hdf h (by simp only [execOp, Sem.run_bind, hrun, Result.andThen_ok, Sem.run_pure]) (by unfold RV; exact ⟨cs.toList, by simp, hrl⟩) hin hK
theorem aBQ {z : AV} {sz : Nat} {k : Nat} (h : asz z = sz) : ∀ x ∈ List.replicate k z, asz x = sz := fun x hx => by rw [(List.mem_replicate.1 hx).2]; exact h
theorem aD6 {z : AV} {sz m : Nat} (hasz : asz z = sz) : ∀ i y, (List.replicate m z)[i]? = some y → (fun i => some (i * sz, sz)) i = some (xB ((List.replicate m z).take i), asz y) := fun i y hy => by
 have hy' := List.mem_of_getElem? hy
 simp only
 rw [aBQ hasz y hy', xW (sz := sz) (fun x hx => aBQ hasz x (List.mem_of_mem_take hx)), List.length_take, Nat.min_eq_left (Nat.le_of_lt (List.getElem?_eq_some_iff.1 hy).1)]
theorem aCb {t el : TypeId} {sz b : Nat} {z : AV} (hT : vB P t (.slice el sz b z)) {m : Nat} {ps : Array (Nat × Operand)} (hsmall : m * sz ≤ 65536) {cells' : Array Value} {zv : Value} {i : TypeInfo} (hi : P.info? el = some i) (hz : i.zero = some zv) (hfill : Instr.fill (fun i => some (i * sz, sz)) (madeCells zv.cells (m * sz)) (ps.toList.map fun x => (x.1, a.eval x.2)) = some cells') (hps : m = 0 → ps.toList = []) :
 (Instr.buildSlice t m (ps.map fun (i, x) => (i, a.eval x))).run P w = .ok (.slice (some ⟨w.heap.size, 0, none⟩) m m) (w.alloc (.cells cells' el)) := by
 obtain ⟨hu, _, i', zv', hi', hz', hs, hby, h0, hasz, hzr⟩ := hT
 rw [hi] at hi'; cases hi'
 rw [hz] at hz'; cases hz'
 have hmap : (ps.map fun (i, x) => (i, a.eval x)).toList = ps.toList.map fun x => (x.1, a.eval x.2) := by simp
 have hns : ¬ 2 ^ 24 < m * sz := by omega
 by_cases hm0 : m * sz = 0
 · have hm0' : m = 0 := by
    rcases Nat.eq_zero_or_pos m with e | e
    · exact e
    · have := Nat.mul_pos e h0; omega
   have hpe' : ps = #[] := by have := hps hm0'; cases ps; simp_all
   subst hpe'
   subst hm0'
   have hz0 : madeCells zv.cells (0 * sz) = #[] := by simp [madeCells]
   rw [hz0] at hfill
   simp [Instr.fill] at hfill
   subst hfill
   simp [Instr.buildSlice, run_underlying hu, sizeOf, typeInfo, hi, newRow, Instr.fill, Array.range_zero']
 · rw [← hs] at hfill hm0 hns
   exact run_buildSlice w t el m _ cells' i zv hu hi hz (by omega) hm0 (by rw [hmap]; exact hfill)
theorem aCw (hΘ : yP P Θ) (hn : a.tmps.size = n) (hdf : a.defers = []) (h : SimW W M S0 s a.tmps w S B V T) {dst : Option Tmp} {t : TypeId} {m : Nat} {ps : Array (Nat × Operand)} {ty : TypeId} {pos : String} {after : Array Edge} {guard : Option (Nat × Bool)} {e : Eff}
 (hp : Pre P Θ ⟨dst, .buildSlice t m ps, ty, pos, after, guard⟩ s e) (hin : inN n dst = true) (hK : ∀ a' w', Sim W M S0 n (s.app dst e) a' w' → K a' w') : (⟨dst, .buildSlice t m ps, ty, pos, after, guard⟩ : Oper).wp P a w K Q := by
 simp only [Pre] at hp
 obtain ⟨d, el, sz, b, z, rfl, hf, hok, ht, hsmall, hp⟩ := hp
 have hT := hΘ t
 rw [ht] at hT
 obtain ⟨hu, _, i, zv, hi, hz, hs, hby, h0, hasz, hzr⟩ := id hT
 have hml : m ≤ maxLen := by
  have : m * 1 ≤ m * sz := Nat.mul_le_mul_left _ h0
  unfold maxLen; omega
 rcases hp with ⟨hps, hcs, hall, rfl⟩ | ⟨x, y, rfl, rfl, hc, hy, hsz, rfl⟩
 · obtain ⟨S', mm, h', r, f, g⟩ := kW (yF s (ps.toList.map (·.2))) hall h
   obtain ⟨q1, q2⟩ := aA1 _ _ hps
   obtain ⟨cells', hfill, hrl⟩ := aAK (RL S' w) (RA S' w) RL.setAt (place := fun i => some (i * sz, sz)) (fun x => s.dat (s.ev x)) a.eval ps.toList (List.replicate m z) (madeCells zv.cells (m * sz)) (fun x hx => (vw (hp' := s.hp) (B' := B) (V' := V) h mm (fun l hl ob ho hs => r l (aAS (List.mem_map.2 ⟨x.2, List.mem_map.2 ⟨x, hx, rfl⟩, rfl⟩) hl) ob ho hs) (q1 x hx) (zu h x.2 (fun c e => hcs x.2 (List.mem_map.2 ⟨x, hx, rfl⟩) c e))).2) (RDL.f_rl (jW (hzr w) hasz h0 m)) q2 (aD6 hasz)
   rw [← jR] at hrl
   have hrun := aCb (w := w) (a := a) hT hsmall hi hz hfill (fun hm0 => by
    cases hq : ps.toList with
    | nil => rfl
    | cons q r =>
     obtain ⟨i', x'⟩ := q
     rw [hq, hm0] at hps
     obtain ⟨⟨y, hy, _⟩, _⟩ := hps
     simp at hy)
   obtain ⟨hpa, hpl⟩ := aD3 ps.toList (List.replicate m z) sz (aBQ hasz) hps
   have hsim := wJ h' hok (f (d + 1) hf) (t := el) (cs := cells') (e := .s el) (fun t' e => by cases e; rfl) hrl hpa h0 (by rw [hpl]; simp) hml
   refine yo (v := .slice (some ⟨w.heap.size, 0, none⟩) m m) (w1 := w.alloc (.cells cells' el)) (by show (do pure (Next.value (← Instr.buildSlice t m (ps.map fun (i, x) => (i, a.eval x)))) : Sem Next).run P w = _; rw [Sem.run_bind, hrun]; rfl) (hK _ _ ?_)
   rw [aBL]
   refine Sim.put hn hdf hsim (some d) ?_ hin
   unfold RV
   exact ⟨⟨_, yY⟩, by rw [upd_same]⟩
 · have hro := (zu h x hc).toO h.oneV hy
   obtain ⟨cells', hfill, hrl⟩ := aAK (fun z cs => ROs S w s.hp B V z Fa cs) (fun x us => RO1 S w s.hp B V x Fa us) ROs.setAt (place := fun i => some (i * sz, sz)) (fun (_ : Operand) => y) a.eval [(0, x)] (List.replicate 1 z) (madeCells zv.cells (1 * sz)) (fun q hq => by rw [List.mem_singleton] at hq; subst hq; exact hro) (RDL.toROs _ _ _ (jW (hzr w) hasz h0 1)) (fun pre q post e => by
    cases pre with
    | nil => simp at e; obtain ⟨rfl, _⟩ := e; exact ⟨z, by simp, by rw [hsz, hasz]⟩
    | cons p pre => simp at e) (aD6 hasz)
   have hrun := aCb (w := w) (a := a) (ps := #[(0, x)]) hT hsmall hi hz (by simpa using hfill) (fun hm0 => by cases hm0)
   have hrl' : ROs S w s.hp B V [y] Fa cells'.toList := by simpa using hrl
   unfold ROs at hrl'
   obtain ⟨c1, c2, T1, T2, e1, s1, k1, k2⟩ := hrl'
   unfold ROs at k2
   obtain ⟨rfl, _⟩ := k2
   rw [(s1.none noF).1.eq noF] at k1
   rw [List.append_nil] at e1
   have hsim := wJ h hok hf (t := el) (cs := cells') (xs := [y]) (e := .o (some el) 0 y) (fun t' e => by cases e; rfl) (aDB hsz (by rw [e1]; exact k1)) (qg hsz) h0 rfl hml
   refine yo (v := .slice (some ⟨w.heap.size, 0, none⟩) 1 1) (w1 := w.alloc (.cells cells' el)) (by show (do pure (Next.value (← Instr.buildSlice t 1 ((#[(0, x)] : Array (Nat × Operand)).map fun (i, x) => (i, a.eval x)))) : Sem Next).run P w = _; rw [Sem.run_bind, hrun]; rfl) (hK _ _ ?_)
   refine Sim.put hn hdf hsim (some d) ?_ hin
   unfold RV
   exact ⟨⟨_, yY⟩, by rw [upd_same]; simp⟩
theorem aIp (hΘ : yP P Θ) (hn : a.tmps.size = n) (hdf : a.defers = []) (h : SimW W M S0 s a.tmps w S B V T) {dst : Option Tmp} {t : TypeId} {l c : Operand} {ty : TypeId} {pos : String} {after : Array Edge} {guard : Option (Nat × Bool)} {e : Eff}
 (hp : Pre P Θ ⟨dst, .makeSlice t l c, ty, pos, after, guard⟩ s e) (hin : inN n dst = true) (hK : ∀ a' w', Sim W M S0 n (s.app dst e) a' w' → K a' w') : (⟨dst, .makeSlice t l c, ty, pos, after, guard⟩ : Oper).wp P a w K Q := by
 simp only [Pre] at hp
 obtain ⟨d, el, sz, b, z, m, k, k', rfl, hf, hok, ht, hl, hc, hb, h63, rfl⟩ := hp
 have hT := hΘ t
 rw [ht] at hT
 obtain ⟨hu, _, i, zv, hi, hz, hs, hby, h0, hasz, hzr⟩ := hT
 have hmade := jW (hzr w) hasz h0 m
 have hbi : (i.bytes : Int) * (m : Int) ≤ 281474976710656 := by
  have : ((i.bytes * m : Nat) : Int) ≤ 281474976710656 := by rw [hby]; omega
  rwa [Int.natCast_mul] at this
 have hrun := run_make (P := P) w t el i zv hu hi hz k k' m m (by omega) (by omega) hbi (by omega)
 simp only [Int.toNat_natCast, hs] at hrun
 have hsim := wJ h hok hf (t := el) (cs := madeCells zv.cells (m * sz)) (e := kz el z) (fun t' e => by rw [aHb] at e; cases e; rfl) (aJG hmade) (aBQ hasz) h0 (m := m) (by simp) (by unfold maxLen; omega)
 refine yo (v := .slice (some ⟨w.heap.size, 0, none⟩) m m) (w1 := w.alloc (.cells (madeCells zv.cells (m * sz)) el)) (by simp only [execOp, uh h hl, uh h hc, Sem.run_bind, hrun, Result.andThen_ok, Sem.run_pure]) (hK _ _ ?_)
 refine Sim.put hn hdf hsim (some d) ?_ hin
 unfold RV
 exact ⟨⟨_, yY⟩, by rw [upd_same]⟩
end
section
variable {P : Program} {Θ : Tab} {W : World} {M : Hand} {S0 : Nat → Prop} {n : Nat} {s : St} {a : Act} {w : World} {S : Nat → Prop} {B : Nat → Nat} {V : Nat → Value} {T : Nat → Nat → Prop} {tmps : Array Value}
variable {K : Act → World → Prop} {Q : Exit → Act → World → Prop}
theorem aFD {α : Type} (L vs : List α) (i m : Nat) (h : i + vs.length ≤ m) (hm : m ≤ L.length) : (L.take i ++ vs ++ L.drop (i + vs.length)).take m = (L.take m).take i ++ vs ++ (L.take m).drop (i + vs.length) := by
 rw [List.take_append, List.drop_take, List.take_take, Nat.min_eq_left (by omega)]
 have hl : (L.take i ++ vs).length = i + vs.length := by simp; omega
 rw [hl, List.take_of_length_le (by omega)]
theorem SimW.drop (h : SimW W M S0 s tmps w S B V T) (l : Nat) (hok : okL l = true) : SimW W M S0 (s.drop l) tmps w S B V T := by
 have hk := h.kill l
 obtain ⟨kn1, kn2⟩ := kG (s := s) (l := l)
 have hat : ∀ j o, (s.drop l).hp j = some o → j ≠ l ∧ (s.kill l).hp j = some o := fun j o e => by
  have e0 : (bif Nat.beq j l then none else xV l (s.hp j)) = some o := e
  have hj : j ≠ l := fun e' => by rw [e'] at e0; simp at e0
  rw [xY hj] at e0
  exact ⟨hj, e0⟩
 have hsame : ∀ j, j ≠ l → Same (s.kill l).hp (s.drop l).hp B B V V j := fun j hj o e => ⟨o, by show (bif Nat.beq j l then none else xV l (s.hp j)) = some o; rw [xY hj]; exact e, rfl, rfl, rfl⟩
 refine ⟨hk.below, hk.s0, hk.slt, fun t => ?_, ⟨fun j o e => ?_, fun j o g e => ?_, fun j o g e => ?_, fun j j' o o' g e1 e2 => ?_, fun j es e => ?_⟩, hk.pin, hk.gl⟩
 · exact RV.carry (fun _ h => h) (fun _ _ => rfl) _ _ (fun j hj => hsame j (fun e => by rw [e] at hj; exact absurd ((kn1 t).symm.trans hj) (by simp))) (hk.sl t)
 · obtain ⟨hj, e'⟩ := hat j o e
   exact (hk.rows.ro j o e').carry (fun _ h => h) (fun _ _ => rfl) (fun i hi => hsame i (fun e2 => by rw [e2, kn2 j o e'] at hi; cases hi)) (fun _ _ => rfl) (fun _ _ => rfl)
 · exact hk.rows.me j o g (hat j o e).2
 · exact hk.rows.nd j o g (hat j o e).2
 · exact hk.rows.ds j j' o o' g (hat j o e1).2 (hat j' o' e2).2
 · have e0 : (bif Nat.beq j l then none else s.mp j) = some es := e
   have hj : j ≠ l := fun e' => by rw [e'] at e0; simp at e0
   rw [xY hj] at e0
   obtain ⟨⟨t, ho'⟩, k⟩ := hk.rows.mp j es e0
   exact ⟨⟨t, by show (bif Nat.beq j l then none else xV l (s.hp j)) = _; rw [xY hj]; exact ho'⟩, k⟩
theorem SimW.merge (h : SimW W M S0 s tmps w S B V T) {l l' t k sz : Nat} {xs : List AV} {ob' : OB} (ho : s.hp l = some ⟨.p t k, sz, xs⟩) (hne : l' ≠ l) (hok : okL l' = true) (ho' : s.hp l' = some ob') :
 (s.drop l').hp l = some ⟨.p t k, sz, xs⟩ ∧ SimW W M S0 (s.drop l') tmps w S B V (upd T l (fun g => Blk V T l' g ∨ T l g)) := by
 have hlne : l ≠ l' := Ne.symm hne
 have hd' := h.drop l' hok
 have hdl : (s.drop l').hp l = some ⟨.p t k, sz, xs⟩ := by
  show (bif Nat.beq l l' then none else xV l' (s.hp l)) = _
  rw [xY hlne, ho]; rfl
 refine ⟨hdl, ?_⟩
 have hblk : ∀ j g, j ≠ l → (Blk V (upd T l (fun g => Blk V T l' g ∨ T l g)) j g ↔ Blk V T j g) := fun j g hj => by unfold Blk; rw [upd_ne hj]
 have hblkl : ∀ g, Blk V (upd T l (fun g => Blk V T l' g ∨ T l g)) l g → Blk V T l g ∨ Blk V T l' g := fun g hg => by
  unfold Blk at hg; rw [upd_same] at hg
  rcases hg with hg | hg | hg
  · exact .inl (.inl hg)
  · exact .inr hg
  · exact .inl (.inr hg)
 have hex : ∀ j o, (s.drop l').hp j = some o → j ≠ l' ∧ ∃ o', s.hp j = some o' := fun j o e => by
  have e0 : (bif Nat.beq j l' then none else xV l' (s.hp j)) = some o := e
  have hj : j ≠ l' := fun e' => by rw [e'] at e0; simp at e0
  rw [xY hj] at e0
  obtain ⟨o', e', _⟩ := y7 e0
  exact ⟨hj, o', e'⟩
 refine ⟨hd'.below, hd'.s0, hd'.slt, hd'.sl, ⟨fun j o e => ?_, fun j o g e hg => ?_, fun j o g e hg => ?_, fun j j' o o' g e1 e2 h1 h2 => ?_, fun j es e => ?_⟩, hd'.pin, hd'.gl⟩
 · by_cases h1 : j = l
   · subst h1
     rw [hdl] at e; cases e
     rw [upd_same]
     obtain ⟨tt, cs, h0, hr, ha, hpos, hown, hB⟩ := hd'.rows.ro j _ hdl
     obtain ⟨q0, c1, c2, T1, q1, q2, q3, q4⟩ := hr
     refine ⟨tt, cs, ⟨h0.1, trivial⟩, ⟨fun g hg => ?_, c1, c2, T1, q1, fun g hg => .inr (q2 g hg), q3, q4⟩, ha, hpos, hown, hB⟩
     rcases hg with hg | hg
     · exact (h.rows.me l' ob' g ho' hg).2.1
     · exact q0 g hg
   · rw [upd_ne h1]
     exact hd'.rows.ro j o e
 · by_cases h1 : j = l
   · subst h1
     rcases hblkl g hg with k | k
     · exact h.rows.me j _ g ho k
     · exact h.rows.me l' _ g ho' k
   · obtain ⟨_, o', e'⟩ := hex j o e
     exact h.rows.me j o' g e' ((hblk j g h1).1 hg)
 · by_cases h1 : j = l
   · subst h1
     rw [upd_same]
     rintro (k | k)
     · exact hne (h.rows.ds l' j _ _ g ho' ho k (.inl hg))
     · exact h.rows.nd j _ g ho hg k
   · obtain ⟨_, o', e'⟩ := hex j o e
     rw [upd_ne h1]
     exact h.rows.nd j o' g e' hg
 · by_cases hj : j = l
   · by_cases hj' : j' = l
     · rw [hj, hj']
     · subst hj
       obtain ⟨n1, o2, e3⟩ := hex j' o' e2
       have b2 := (hblk j' g hj').1 h2
       rcases hblkl g h1 with k | k
       · exact h.rows.ds j j' _ _ g ho e3 k b2
       · exact absurd (h.rows.ds l' j' _ _ g ho' e3 k b2).symm n1
   · obtain ⟨n1, o1, e3⟩ := hex j o e1
     have b1 := (hblk j g hj).1 h1
     by_cases hj' : j' = l
     · subst hj'
       rcases hblkl g h2 with k | k
       · exact h.rows.ds j j' _ _ g e3 ho b1 k
       · exact absurd (h.rows.ds j l' _ _ g e3 ho' b1 k) n1
     · obtain ⟨n2, o2, e4⟩ := hex j' o' e2
       exact h.rows.ds j j' _ _ g e3 e4 b1 ((hblk j' g hj').1 h2)
 · obtain ⟨⟨t', hq⟩, k1, arr, clock, k2, k3⟩ := hd'.rows.mp j es e
   have hj : j ≠ l := fun e' => by rw [e', hdl] at hq; cases hq
   rw [upd_ne hj]
   exact ⟨⟨t', hq⟩, k1, arr, clock, k2, k3⟩
theorem RL.allRD {S : Nat → Prop} {w : World} : ∀ (xs : List AV) (cs : List Value), (∀ x ∈ xs, zb x = true) → RL S w xs cs → RDL w xs Fa cs
 | [], cs, _, h => by unfold RL at h; unfold RDL; exact ⟨h, noF⟩
 | x :: xs, cs, hx, h => by
  unfold RL at h
  obtain ⟨c1, c2, e, h1, h2⟩ := h
  unfold RDL
  exact ⟨c1, c2, Fa, Fa, e, Split.l0 noF, RA.toRD noF _ _ (hx x (by simp)) h1, RL.allRD xs c2 (fun y hy => hx y (List.mem_cons_of_mem _ hy)) h2⟩
theorem RL.parts {w : World} : ∀ {xs ys : List AV} {cs : List Value}, RL S w (xs ++ ys) cs → ∃ c1 c2, cs = c1 ++ c2 ∧ RL S w xs c1 ∧ RL S w ys c2
 | [], ys, cs, h => ⟨[], cs, rfl, by unfold RL; rfl, h⟩
 | x :: xs, ys, cs, h => by
  have h' : RL S w (x :: (xs ++ ys)) cs := h
  unfold RL at h'
  obtain ⟨c1, c2, e, h1, h2⟩ := h'
  obtain ⟨d1, d2, e2, k1, k2⟩ := RL.parts h2
  exact ⟨c1 ++ d1, d2, by rw [e, e2, List.append_assoc], by unfold RL; exact ⟨c1, d1, rfl, h1, k1⟩, k2⟩
theorem aC0 : ∀ {xs : List AV} {j : Nat} {x : AV}, zL (xs.set j x) = true → zL (xs.take j) = true ∧ zL (xs.drop (j + 1)) = true
 | [], j, x, h => by simp [zL]
 | y :: xs, 0, x, h => by simp only [List.set_cons_zero, zL, Bool.and_eq_true] at h; simp [zL, h.2]
 | y :: xs, j + 1, x, h => by
  simp only [List.set_cons_succ, zL, Bool.and_eq_true] at h
  have := aC0 h.2
  simp [zL, h.1, this.1, this.2]
theorem RK.setp {hp : Nat → Option OB} {w : World} {t i j c sz sz' : Nat} {xs ys xs' : List AV} {z : AV} {T0 Ts T' : Nat → Prop} {cs us : List Value} {v : Value} {te : Nat} (ha : ∀ x ∈ xs, asz x = sz) (hq : xs[i]? = some (.agg ys)) (hj : ys[j]? = some z) (hc : xB (ys.take j) = c) (hz : asz z = 1) (hn : zL (ys.set j (.agg [])) = true)
 (hr : RK S w hp B V sz xs T0 cs (.p t i)) (h1 : w.ownsRow 0 te sz' v xs'.length us) (h2 : ∀ x ∈ xs', asz x = sz') (h3 : 0 < sz') (h4 : RDL w xs' T' us) (h5 : ∀ g, v.ownBlock = some g → ¬ T' g) (hd : ∀ g, T0 g → (v.ownBlock = some g ∨ T' g) → False) (hs : ∀ g, T0 g ∨ (v.ownBlock = some g ∨ T' g) → Ts g) (hl : ∀ g, Ts g → g < w.heap.size) :
 i * sz + c + 1 ≤ cs.length ∧ RK S w hp B V sz (xs.set i (.agg (ys.set j (.lst sz' xs')))) Ts (cs.take (i * sz + c) ++ [v] ++ cs.drop (i * sz + c + 1)) (.p t (i + 1)) := by
 obtain ⟨q0, c1, c2, T1, q1, q2, q3, q4⟩ := hr
 obtain ⟨hlt, ee⟩ := List.getElem?_eq_some_iff.1 hq
 obtain ⟨hltj, ej⟩ := List.getElem?_eq_some_iff.1 hj
 rw [List.drop_eq_getElem_cons hlt, ee] at q4
 unfold RL at q4
 obtain ⟨d1, d2, e1, k1, k2⟩ := q4
 unfold RA at k1
 have hsp : ys = ys.take j ++ (z :: ys.drop (j + 1)) := by rw [← ej, ← List.drop_eq_getElem_cons hltj, List.take_append_drop]
 rw [hsp] at k1
 obtain ⟨a0, a1, e2, m1, m2⟩ := RL.parts k1
 unfold RL at m2
 obtain ⟨a2, a3, e3, m3, m4⟩ := m2
 obtain ⟨n1, n2⟩ := aC0 hn
 have l1 : c1.length = i * sz := by rw [RDL.size _ _ _ q3, xW (fun x hx => ha x (List.mem_of_mem_take hx)), List.length_take, Nat.min_eq_left (by omega)]
 have l2 : a0.length = c := by rw [RL.size _ _ m1, hc]
 have l3 : a2.length = 1 := by rw [RA.size _ _ m3, hz]
 have hin : RD w (.lst sz' xs') (fun g => v.ownBlock = some g ∨ T' g) [v] := by
  unfold RD
  exact ⟨v, te, us, T', rfl, h1, h2, h3, h4, fun g => Iff.rfl, h5⟩
 have hel : RD w (.agg (ys.set j (.lst sz' xs'))) (fun g => v.ownBlock = some g ∨ T' g) (a0 ++ ([v] ++ a3)) := by
  unfold RD
  rw [List.set_eq_take_append_cons_drop, if_pos hltj]
  refine RDL.app (RL.toRDL noF _ _ n1 m1) (?_ : RDL w (.lst sz' xs' :: ys.drop (j + 1)) (fun g => v.ownBlock = some g ∨ T' g) _) (Split.l0 noF)
  unfold RDL
  exact ⟨_, _, _, Fa, rfl, Split.r0 noF, hin, RL.toRDL noF _ _ n2 m4⟩
 have hcells : cs.take (i * sz + c) ++ [v] ++ cs.drop (i * sz + c + 1) = (c1 ++ (a0 ++ ([v] ++ a3))) ++ d2 := by
  have e4 : cs = (c1 ++ a0) ++ (a2 ++ (a3 ++ d2)) := by rw [q1, e1, e2, e3]; simp
  have e5 : (c1 ++ a0).length = i * sz + c := by simp [l1, l2]
  have e6 : cs.take (i * sz + c) = c1 ++ a0 := by rw [e4, ← e5, List.take_left]
  have e7 : cs.drop (i * sz + c + 1) = a3 ++ d2 := by
   rw [e4, List.drop_append, e5, List.drop_eq_nil_of_le (by omega), List.nil_append, show i * sz + c + 1 - (i * sz + c) = a2.length from by omega, List.drop_left]
  rw [e6, e7]; simp
 refine ⟨?_, hl, c1 ++ (a0 ++ ([v] ++ a3)), d2, fun g => T1 g ∨ (v.ownBlock = some g ∨ T' g), hcells, fun g hg => hs g (hg.imp (q2 g) id), ?_, ?_⟩
 · rw [q1, e1, e2, e3]; simp only [List.length_append]; omega
 · have e8 : (xs.set i (.agg (ys.set j (.lst sz' xs')))).take (i + 1) = xs.take i ++ [.agg (ys.set j (.lst sz' xs'))] := by
    rw [List.set_eq_take_append_cons_drop, if_pos hlt, List.take_append, List.length_take, Nat.min_eq_left (by omega), List.take_of_length_le (by simp; omega), show i + 1 - i = 1 from by omega]; rfl
   rw [e8]
   refine RDL.app q3 (?_ : RDL w [.agg (ys.set j (.lst sz' xs'))] (fun g => v.ownBlock = some g ∨ T' g) _) ⟨fun g => Iff.rfl, fun g a b => hd g (q2 g a) b⟩
   unfold RDL
   exact ⟨_, [], _, Fa, by simp, Split.r0 noF, hel, by unfold RDL; exact ⟨rfl, noF⟩⟩
 · have e9 : (xs.set i (.agg (ys.set j (.lst sz' xs')))).drop (i + 1) = xs.drop (i + 1) := by
    rw [List.drop_set_of_lt (by omega)]
   rw [e9]; exact k2
theorem aCe (h : SimW W M S0 s tmps w S B V T) {l : Nat} {ob ob' : OB} (ho : s.hp l = some ob) {q0 : Nat} {vs : List Value} (hsz : ob'.sz = ob.sz) (hlen : ob'.xs.length = ob.xs.length) (hty : ∀ t', ob'.e.typ = some t' → ob.e.typ = some t') (hne : ob.xs ≠ []) (ha' : ∀ x ∈ ob'.xs, asz x = ob.sz) (h1c : ∀ u ∈ vs, u.oneCell' = true)
 (hk : ∀ cs, cs.length = ob.xs.length * ob.sz → (∃ (cur : Array Value) (tt : Nat), w.heap[B l]? = some (.cells cur tt (0, 0)) ∧ cur.toList.take (ob.xs.length * ob.sz) = cs) → RK S w s.hp B V ob.sz ob.xs (T l) cs ob.e → q0 + vs.length ≤ cs.length ∧ ∃ T', (∀ g, T' g → T l g) ∧ RK S w s.hp B V ob.sz ob'.xs T' (cs.take q0 ++ vs ++ cs.drop (q0 + vs.length)) ob'.e)
 {t : TypeId} {ti : TypeInfo} {val : Value} (hv : val.cells.toList = vs) (hti : P.info? t = some ti) (hts : ti.size = vs.length) (hnc : ∀ Q, ob'.e ≠ .c Q := by (intro Q hQ; cases hQ)) :
 ∃ w1 T', (Instr.storeAt t (.pointer (some ⟨B l, q0, none⟩)) val).run P w = .ok () w1 ∧ SimW W M S0 (s.set l (some ob')) tmps w1 S B V (upd T l T') := by
 have hro := h.rows.ro l ob ho
 obtain ⟨tt, cs, cap, cur, h0, hr, ha, hpos, hV, hheap, hc, hm, hs, ht⟩ := hro.block hne
 have hcl := hr.size ha
 obtain ⟨hle, T', hT', hr'⟩ := hk cs hcl ⟨cur, tt, hheap, ht⟩ hr
 have hcurlen : cs.length ≤ cur.size := by rw [← ht]; simp; omega
 have hst := run_storeCells_at P (B l) q0 tt vs 0 cur w hheap (by omega) h1c
 simp only [Nat.add_zero] at hst
 have hvs : val.cells.size = ti.size := by rw [← Array.length_toList, hv, hts]
 have hVl : (V l).ownBlock = some (B l) := by rw [hV]; rfl
 have hnT : ¬ T l (B l) := h.rows.nd l ob _ ho hVl
 have hnS : ¬ S (B l) := (h.rows.me l ob _ ho (.inl hVl)).1
 refine ⟨w.setRow (B l) (cur.toList.take q0 ++ vs ++ cur.toList.drop (q0 + vs.length)).toArray, T', ?_, ?_⟩
 · simp [Instr.storeAt, Instr.sureAddr, storeVar, sizeOf, typeInfo, hti, hvs, hv, hst]
 · have hnew := setRow_heap w (B l) cur (cur.toList.take q0 ++ vs ++ cur.toList.drop (q0 + vs.length)).toArray tt (0, 0) hheap
   have hoth : ∀ b, b ≠ B l → (w.setRow (B l) (cur.toList.take q0 ++ vs ++ cur.toList.drop (q0 + vs.length)).toArray).heap[b]? = w.heap[b]? := fun b hb => setRow_other w (B l) b _ (fun e => hb e)
   have hgr : Grown w (w.setRow (B l) (cur.toList.take q0 ++ vs ++ cur.toList.drop (q0 + vs.length)).toArray) (Blk V T l) :=
    ⟨rfl, rfl, rfl, by simp [World.setRow], fun k _ hk => hoth k (fun e => hk (by rw [e]; exact .inl hVl))⟩
   generalize w.setRow (B l) (cur.toList.take q0 ++ vs ++ cur.toList.drop (q0 + vs.length)).toArray = w1 at *
   have hsame : ∀ j, Same s.hp (s.set l (some ob')).hp B B V V j := fun j o hjo => by
    by_cases hj : j = l
    · subst hj; rw [ho] at hjo; cases hjo; exact ⟨ob', yY, hsz, rfl, rfl⟩
    · exact ⟨o, by rw [yG hj]; exact hjo, rfl, rfl, rfl⟩
   refine h.inpl ho hsz hgr ⟨tt, cs.take q0 ++ vs ++ cs.drop (q0 + vs.length), ⟨fun t' e => h0 t' (hty t' e), ROc.of hnc⟩, ?_, by rw [hsz]; exact ha', by rw [hsz]; exact hpos, ?_, fun g hg => by rw [hVl] at hg; cases hg; rfl⟩ hT'
   · rw [hsz]
     exact hr'.carry (fun _ h => h) (fun b hs => hoth b (fun e => hnS (e ▸ hs))) (fun j _ => hsame j) (fun g hg => hoth g (fun e => hnT (e ▸ hT' g hg)))
   · rw [hsz, hlen]
     refine ⟨?_, .inr ⟨B l, cap, _, by rw [hV], Nat.zero_le _, hnew, hc, hm, ?_, ?_⟩⟩
     · simp only [List.length_append, List.length_take, List.length_drop]; omega
     · simp only [List.size_toArray, List.length_append, List.length_take, List.length_drop, Array.length_toList]; omega
     · rw [← ht]
       exact aFD _ _ _ _ (by omega) (by simp; omega)
theorem qU (h : SimW W M S0 s tmps w S B V T) {l : Nat} {ob ob' : OB} (ho : s.hp l = some ob) {q0 : Nat} {vs : List Value} (hsz : ob'.sz = ob.sz) (hlen : ob'.xs.length = ob.xs.length) (hty : ∀ t', ob'.e.typ = some t' → ob.e.typ = some t') (hne : ob.xs ≠ []) (ha' : ∀ x ∈ ob'.xs, asz x = ob.sz) (h1c : ∀ u ∈ vs, u.oneCell' = true)
 (hk : ∀ cs, cs.length = ob.xs.length * ob.sz → RK S w s.hp B V ob.sz ob.xs (T l) cs ob.e → q0 + vs.length ≤ cs.length ∧ ∃ T', (∀ g, T' g → T l g) ∧ RK S w s.hp B V ob.sz ob'.xs T' (cs.take q0 ++ vs ++ cs.drop (q0 + vs.length)) ob'.e)
 {t : TypeId} {ti : TypeInfo} {val : Value} (hv : val.cells.toList = vs) (hti : P.info? t = some ti) (hts : ti.size = vs.length) (hnc : ∀ Q, ob'.e ≠ .c Q := by (intro Q hQ; cases hQ)) :
 ∃ w1 T', (Instr.storeAt t (.pointer (some ⟨B l, q0, none⟩)) val).run P w = .ok () w1 ∧ SimW W M S0 (s.set l (some ob')) tmps w1 S B V (upd T l T') :=
 aCe h ho hsz hlen hty hne ha' h1c (fun cs hcl _ hr => hk cs hcl hr) hv hti hts hnc
theorem aBW {α : Type} {l : List α} {i : Nat} {x : α} : (l.set i x).length = l.length := by simp
theorem aCl {xs : List AV} {i : Nat} {y q : AV} {sz : Nat} (ha : ∀ x ∈ xs, asz x = sz) (hq : xs[i]? = some q) (hy : asz y = asz q) : ∀ x ∈ xs.set i y, asz x = sz := fun x hx => by
 rcases List.mem_or_eq_of_mem_set hx with hx | hx
 · exact ha x hx
 · subst hx; rw [hy]; exact ha q (List.mem_of_getElem? hq)
theorem RK.len {hp : Nat → Option OB} {sz : Nat} {xs : List AV} {T : Nat → Prop} {cs : List Value} {t : Option Nat} {i : Nat} {y : AV} (h : RK S w hp B V sz xs T cs (.o t i y)) : i < xs.length := h.1
theorem aHp (hΘ : yP P Θ) (hn : a.tmps.size = n) (hdf : a.defers = []) (h : SimW W M S0 s a.tmps w S B V T) {dst : Option Tmp} {t : TypeId} {x y : Operand} {ty : TypeId} {pos : String} {after : Array Edge} {guard : Option (Nat × Bool)} {e : Eff}
 (hp : Pre P Θ ⟨dst, .store t x y, ty, pos, after, guard⟩ s e) (hin : inN n dst = true) (hK : ∀ a' w', Sim W M S0 n (s.app dst e) a' w' → K a' w') : (⟨dst, .store t x y, ty, pos, after, guard⟩ : Oper).wp P a w K Q := by
 simp only [Pre] at hp
 obtain ⟨hc, hk, l, i, p, c, ob, hx, ho, hp⟩ := hp
 obtain ⟨i0, hi0, hs0, _⟩ := jc (hΘ t) hk
 have hpx := yt h hx (fun c => by simp)
 unfold RV at hpx
 obtain ⟨ob', ho', hpx⟩ := hpx
 rw [ho] at ho'; cases ho'
 have hrv := zu h y hc
 have hro := h.rows.ro l ob ho
 have fin : ∀ {s1 : St} {S1 : Nat → Prop} {T1 : Nat → Nat → Prop} {ob1 : OB} {w1 : World}, (Instr.storeAt t (.pointer (some ⟨B l, i * ob.sz + c, none⟩)) (a.eval y)).run P w = .ok () w1 → SimW W M S0 (s1.set l (some ob1)) a.tmps w1 S1 B V T1 → e.val = .any → s.app dst e = (s1.set l (some ob1)).put dst .any → (⟨dst, .store t x y, ty, pos, after, guard⟩ : Oper).wp P a w K Q := fun {s1 S1 T1 ob1 w1} hrun hsim hv he => by
  refine aA4 (w1 := w1) ?_ (hK _ _ ?_)
  · simp only [execOp, hpx, Sem.run_bind, hrun, Result.andThen_ok, Sem.run_pure]
  · rw [he]; exact Sim.put hn hdf hsim dst (by unfold RV; trivial) hin
 rcases hp with ⟨t0, q, z, hkd, hq, hg, hsz, hdz, hd, hnl, hall, rfl⟩ | ⟨t', q, z, y', hop, hg, hsz, hy, hyz, rfl⟩ | ⟨q, z, y', hdp, hq, hg, hsz, rfl, hyn, hyz, rfl⟩ | ⟨t0, q, y', he, hxs, rfl, rfl, rfl, hsz, hy, hyz, rfl⟩ | ⟨t0, ys, z, j, L, obL, hkd, hq, hj, hc0, hz, hsz, hn, hy, hne', hok, hoL, hdp, rfl⟩
 ·
   have hne : ob.xs ≠ [] := fun e => by rw [e] at hq; simp at hq
   have hsh : ob.e.shut = true := by rcases hkd with e | e <;> rw [e] <;> rfl
   obtain ⟨S', m, h', r, f, g⟩ := kW (yT (s.ev y)) hall h
   have hra := (vw (hp' := s.hp) (B' := B) (V' := V) h m (fun l hl ob ho hs => r l hl ob ho hs) hd hrv).2
   have hl : l ∉ yT (s.ev y) := fun hm => by simp at hnl; exact hnl hm
   have ho2 := g l ob hl ho hsh
   obtain ⟨tt, cs0, _, _, h0, _, ha, _⟩ := hro.block hne
   have hqs : asz (uO q p (s.dat (s.ev y))) = asz q := by
    have : ∀ (p : List Nat) (q : AV) (c0 c : Nat), xU q p c0 = some (z, c) → (∀ xs, q ≠ .mix xs) → True := fun _ _ _ _ _ _ => trivial
    obtain ⟨tt, cs, _, _, _, hr, ha, _⟩ := (h'.rows.ro l ob ho2).block hne
    have hr' : RL S' w ob.xs cs := by
     rcases hkd with e | e
     · rw [e] at hr; exact hr
     · rw [e] at hr; exact RDL.toRL _ _ _ (fun g hg => (hr.1 g hg).elim) hr.2
    obtain ⟨qs, k1, _⟩ := RL.at i hr' hq
    exact (aDD p q qs 0 c z _ _ k1 hg hra hdz).2
   obtain ⟨w1, T', hrun, hsim⟩ := qU (P := P) h' ho2 (ob' := ⟨.s t0, ob.sz, ob.xs.set i (uO q p (s.dat (s.ev y)))⟩) (q0 := i * ob.sz + c) (vs := (a.eval y).cells.toList) rfl aBW (fun t' e => by cases e; rcases hkd with e | e <;> rw [e] <;> rfl) hne (aCl ha hq hqs) (RA.one _ _ hra) (fun cs hcl hr => by
    have hr' : RL S' w ob.xs cs := by
     rcases hkd with e | e
     · rw [e] at hr; exact hr
     · rw [e] at hr; exact RDL.toRL _ _ _ (fun g hg => (hr.1 g hg).elim) hr.2
    obtain ⟨qs, k1, k2, k3, k4⟩ := RL.at i hr' hq
    have hpre : xB (ob.xs.take i) = i * ob.sz := by rw [xW (fun x hx' => ha x (List.mem_of_mem_take hx')), List.length_take, Nat.min_eq_left (by have := (List.getElem?_eq_some_iff.1 hq).1; omega)]
    obtain ⟨ws, m1, m2, m3, _⟩ := qm p q qs 0 c z k1 hg
    have e2 := RA.size _ _ m2
    have e3 := RA.size _ _ hra
    obtain ⟨s1, s2⟩ := aDD p q qs 0 c z _ _ k1 hg hra hdz
    simp only [Nat.sub_zero] at s1 m3
    have hset := RL.set i hr' hq s1 s2
    refine ⟨by omega, fun _ => False, fun g hg => hg.elim, ?_⟩
    have hmid := aBf cs (a.eval y).cells.toList (i * ob.sz) c qs.length (by omega)
    have hqq : qs = (cs.drop (i * ob.sz)).take qs.length := by rw [← hpre]; exact k3.symm
    rw [hpre] at hset
    have hle : (qs.take c ++ (a.eval y).cells.toList ++ qs.drop (c + (a.eval y).cells.toList.length)).length = qs.length := by
     simp only [List.length_append, List.length_take, List.length_drop]; omega
    rw [hle] at hset
    obtain ⟨L, hL⟩ : ∃ L, L = qs.length := ⟨_, rfl⟩
    rw [← hL] at hset hqq hmid
    rw [hqq, hmid] at hset
    exact hset) rfl hi0 (by rw [hs0, ← hsz, ← hdz]; exact (RA.size _ _ hra).symm)
   exact fin hrun hsim rfl (aBL)
 ·
   have hro1 := hrv.toO h.oneV hy
   have hsz1 := RO1.size _ _ _ hro1
   have hne : ob.xs ≠ [] := by
    rcases Nat.eq_zero_or_pos ob.xs.length with e | e
    · intro _
      obtain ⟨tt, cs, h0, hr, ha, hpos, hown, _⟩ := hro
      obtain ⟨_, _, hr'⟩ := RK.opn ha hop hr
      have := hr'.len; omega
    · exact fun e' => by rw [e'] at e; simp at e
   obtain ⟨tt, cs0, _, _, h0, _, ha, _⟩ := hro.block hne
   obtain ⟨w1, T', hrun, hsim⟩ := qU (P := P) h ho (ob' := ⟨.o t' i (setM q p y'), ob.sz, ob.xs⟩) (q0 := i * ob.sz + c) (vs := (a.eval y).cells.toList) rfl rfl (fun t2 e => by
    cases hoe : ob.e with
    | s _ => rw [hoe] at hop; cases hop
    | z t3 => rw [hoe] at hop; simp only [y8] at hop; split at hop <;> cases hop; exact e
    | d t3 => rw [hoe] at hop; simp only [y8] at hop; split at hop <;> cases hop; exact e
    | u => rw [hoe] at hop; simp only [y8] at hop; split at hop <;> cases hop; exact e
    | o t3 j yy => rw [hoe] at hop; simp only [y8] at hop; cases hb : Nat.beq j i <;> rw [hb] at hop <;> cases hop; exact e
    | c Q => rw [hoe] at hop; cases hop
    | p _ _ => rw [hoe] at hop; cases hop) hne ha (RO1.one _ _ _ hro1) (fun cs hcl hr => by
    obtain ⟨_, _, hr'⟩ := RK.opn ha hop hr
    obtain ⟨vs, T1, Tr, k1, k2, k3, k4, k5⟩ := hr'.focus ha hg
    have e1 := RO1.size _ _ _ k1
    refine ⟨by omega, Tr, fun g hg => k2.right hg, k5 y' _ (fun _ => False) Tr hyz hro1 (Split.l0 noF)⟩) rfl hi0 (by rw [hs0, ← hsz, ← hyz]; exact hsz1.symm)
   exact fin hrun hsim rfl rfl
 ·
   have hra : RA S w (s.ev y) (a.eval y).cells.toList := by
    have : xG s (s.ev y) = true := by
     cases hq : s.ev y with
     | v x => rw [hq] at hrv; unfold RV at hrv; simpa [xG] using hrv.2
     | agg xs => rfl
     | _ => rw [hq] at hyn; simp [zb] at hyn
    have h2 := (vw (S' := S) (hp' := s.hp) (B' := B) (V' := V) h (fun _ h => h) (fun l hl ob ho hs => by
     cases hq : s.ev y with
     | v x => rw [hq] at hl; simp [yT] at hl
     | agg xs => rw [hq] at hl; simp [yT] at hl
     | _ => rw [hq] at hyn; simp [zb] at hyn) this hrv).2
    cases hq : s.ev y with
    | v x => rw [hq] at h2; exact h2
    | agg xs => rw [hq] at h2; exact h2
    | _ => rw [hq] at hyn; simp [zb] at hyn
   have hrd : RD w (s.ev y) Fa (a.eval y).cells.toList := RA.toRD noF _ _ hyn hra
   have hne : ob.xs ≠ [] := fun e => by rw [e] at hq; simp at hq
   obtain ⟨tt, cs0, _, _, h0, _, ha, _⟩ := hro.block hne
   have key : ∀ (p : List Nat) (q : AV) (T : Nat → Prop) (us : List Value) (c0 c : Nat), RD w q T us → xU q p c0 = some (z, c) → ∃ T', (∀ g, T' g → T g) ∧ (c - c0) + asz z ≤ us.length ∧ RD w (uO q p (s.ev y)) T' (us.take (c - c0) ++ (a.eval y).cells.toList ++ us.drop (c - c0 + (a.eval y).cells.toList.length)) ∧ asz (uO q p (s.ev y)) = asz q ∧ c0 ≤ c := by
    intro p
    induction p with
    | nil =>
     intro q T us c0 c h1 hg
     unfold xU at hg; cases hg
     have e1 := RD.size _ _ _ h1
     have e2 := RD.size _ _ _ hrd
     refine ⟨Fa, fun g hg => hg.elim, by omega, ?_, hyz, Nat.le_refl _⟩
     simp only [uO, Nat.sub_self, List.take_zero, List.nil_append, Nat.zero_add]
     rw [List.drop_eq_nil_of_le (by omega), List.append_nil]; exact hrd
    | cons j p ih =>
     intro q T us c0 c h1 hg
     cases q with
     | agg xs =>
      simp only [xU] at hg
      cases hq : xs[j]? with
      | none => rw [hq] at hg; cases hg
      | some x =>
       rw [hq] at hg
       simp only at hg
       unfold RD at h1
       obtain ⟨hlt, ee⟩ := List.getElem?_eq_some_iff.1 hq
       have hsp : xs = xs.take j ++ (x :: xs.drop (j + 1)) := by rw [← ee, ← List.drop_eq_getElem_cons hlt, List.take_append_drop]
       rw [hsp] at h1
       obtain ⟨d0, d, T0, T1, e1, s1, k1, k2⟩ := RDL.parts h1
       unfold RDL at k2
       obtain ⟨d1, d2, T2, T3, e2, s2, k3, k4⟩ := k2
       have l0 := RDL.size _ _ _ k1
       obtain ⟨T', n1, n2, n3, n4, n5⟩ := ih x T2 d1 _ c k3 hg
       have e5 := RD.size _ _ _ k3
       have e6 := RD.size _ _ _ hrd
       refine ⟨fun g => T0 g ∨ (T' g ∨ T3 g), fun g hg => ?_, by rw [e1, e2]; simp only [List.length_append]; omega, ?_, ?_, by omega⟩
       · rcases hg with hg | hg | hg
         · exact s1.left hg
         · exact s1.right (s2.left (n1 g hg))
         · exact s1.right (s2.right hg)
       · simp only [uO, hq]
         unfold RD
         have hset : xs.set j (uO x p (s.ev y)) = xs.take j ++ (uO x p (s.ev y) :: xs.drop (j + 1)) := by rw [List.set_eq_take_append_cons_drop, if_pos hlt]
         rw [hset]
         have e3 : us.take (c - c0) = d0 ++ d1.take (c - (c0 + xB (xs.take j))) := by
          rw [e1, e2, List.take_append, List.take_of_length_le (by omega), List.take_append_of_le_length (by omega)]
          congr 2; omega
         have e4 : us.drop (c - c0 + (a.eval y).cells.toList.length) = d1.drop (c - (c0 + xB (xs.take j)) + (a.eval y).cells.toList.length) ++ d2 := by
          rw [e1, e2, List.drop_append, List.drop_eq_nil_of_le (by omega), List.nil_append, List.drop_append_of_le_length (by omega)]
          congr 2; omega
         rw [e3, e4]
         have : RDL w (uO x p (s.ev y) :: xs.drop (j + 1)) (fun g => T' g ∨ T3 g) ((d1.take (c - (c0 + xB (xs.take j))) ++ (a.eval y).cells.toList ++ d1.drop (c - (c0 + xB (xs.take j)) + (a.eval y).cells.toList.length)) ++ d2) := by
          unfold RDL
          exact ⟨_, d2, T', T3, rfl, ⟨fun g => Iff.rfl, fun g a b => s2.2 g (n1 g a) b⟩, n3, k4⟩
         have := RDL.app k1 this (T := fun g => T0 g ∨ (T' g ∨ T3 g)) ⟨fun g => Iff.rfl, fun g a b => b.elim (fun b => s1.2 g a (s2.left (n1 g b))) (fun b => s1.2 g a (s2.right b))⟩
         simp only [List.append_assoc] at this ⊢
         exact this
       · simp only [uO, hq, asz]
         exact kN j hq n4
     | mix xs => unfold RD at h1; exact h1.elim
     | _ => simp [xU] at hg
   have hdl : ∀ cs, RK S w s.hp B V ob.sz ob.xs (T l) cs ob.e → RDL w ob.xs (T l) cs ∧ ∀ (xs' : List AV) (T' : Nat → Prop) (cs' : List Value), (∀ g, T' g → T l g) → RDL w xs' T' cs' → RK S w s.hp B V ob.sz xs' T' cs' ob.e := fun cs hr => by
    cases hoe : ob.e with
    | s _ => rw [hoe] at hdp; cases hdp
    | o _ _ _ => rw [hoe] at hdp; cases hdp
    | z t3 => rw [hoe] at hr; exact ⟨hr.2, fun xs' T' cs' k1 k2 => ⟨fun g hg => hr.1 g (k1 g hg), k2⟩⟩
    | d t3 => rw [hoe] at hr; exact ⟨hr, fun xs' T' cs' k1 k2 => k2⟩
    | u => rw [hoe] at hr; exact ⟨hr, fun xs' T' cs' k1 k2 => k2⟩
    | c Q => rw [hoe] at hdp; cases hdp
    | p _ _ => rw [hoe] at hdp; cases hdp
   have hagg : ∀ cs, RK S w s.hp B V ob.sz ob.xs (T l) cs ob.e → cs.length = ob.xs.length * ob.sz → (i * ob.sz + c) + asz z ≤ cs.length ∧ asz (uO q p (s.ev y)) = asz q ∧ ∃ T', (∀ g, T' g → T l g) ∧ RDL w (ob.xs.set i (uO q p (s.ev y))) T' (cs.take (i * ob.sz + c) ++ (a.eval y).cells.toList ++ cs.drop (i * ob.sz + c + (a.eval y).cells.toList.length)) := fun cs hr hcl => by
    have h1 : RD w (.agg ob.xs) (T l) cs := by unfold RD; exact (hdl cs hr).1
    have hpre : xB (ob.xs.take i) = i * ob.sz := by rw [xW (fun x hx' => ha x (List.mem_of_mem_take hx')), List.length_take, Nat.min_eq_left (by have := (List.getElem?_eq_some_iff.1 hq).1; omega)]
    have hcc : ∀ (p : List Nat) (q : AV) (c0 c k : Nat), xU q p c0 = some (z, c) → xU q p (c0 + k) = some (z, c + k) := by
     intro p
     induction p with
     | nil => intro q c0 c k h; unfold xU at h ⊢; cases h; rfl
     | cons j p ih =>
      intro q c0 c k h
      cases q with
      | agg xs =>
       simp only [xU] at h ⊢
       cases hq : xs[j]? with
       | none => rw [hq] at h; cases h
       | some x => rw [hq] at h; simp only at h ⊢; have := ih x _ _ k h; rw [show c0 + k + xB (xs.take j) = c0 + xB (xs.take j) + k from by omega]; exact this
      | mix xs =>
       simp only [xU] at h ⊢
       cases hq : xs[j]? with
       | none => rw [hq] at h; cases h
       | some x => rw [hq] at h; simp only at h ⊢; have := ih x _ _ k h; rw [show c0 + k + xB (xs.take j) = c0 + xB (xs.take j) + k from by omega]; exact this
      | _ => simp [xU] at h
    have hg2 : xU (.agg ob.xs) (i :: p) 0 = some (z, i * ob.sz + c) := by
     simp only [xU, hq, hpre]
     have := hcc p q 0 c (i * ob.sz) hg
     rw [show c + i * ob.sz = i * ob.sz + c from by omega] at this
     exact this
    obtain ⟨T', n1, n2, n3, n4, n5⟩ := key (i :: p) (.agg ob.xs) (T l) cs 0 _ h1 hg2
    simp only [Nat.sub_zero, uO, hq] at n2 n3
    unfold RD at n3
    obtain ⟨_, _, _, _, _, hrx, _⟩ := hro.block hne
    have hq2 : asz (uO q p (s.ev y)) = asz q := by
     obtain ⟨d0, d, T0, T1, e1, s1, k1, k2⟩ := RDL.parts (xs := ob.xs.take i) (ys := ob.xs.drop i) (by rw [List.take_append_drop]; exact (hdl cs hr).1)
     obtain ⟨hlt, ee⟩ := List.getElem?_eq_some_iff.1 hq
     rw [List.drop_eq_getElem_cons hlt, ee] at k2
     unfold RDL at k2
     obtain ⟨d1, d2, T2, T3, e2, s2, k3, k4⟩ := k2
     exact (key p q T2 d1 0 c k3 hg).choose_spec.2.2.2.1
    exact ⟨n2, hq2, T', n1, n3⟩
   obtain ⟨tt2, cs2, _, _, _, hr2, _⟩ := hro.block hne
   have hqs := (hagg cs2 hr2 (hr2.size ha)).2.1
   have e3 := RA.size _ _ hra
   obtain ⟨w1, T', hrun, hsim⟩ := qU (P := P) h ho (ob' := ⟨ob.e, ob.sz, ob.xs.set i (uO q p (s.ev y))⟩) (q0 := i * ob.sz + c) (vs := (a.eval y).cells.toList) rfl aBW (fun t' e => e) hne (aCl ha hq hqs) (RA.one _ _ hra) (fun cs hcl hr => by
    obtain ⟨m1, m2, T', m3, m4⟩ := hagg cs hr hcl
    exact ⟨by omega, T', m3, (hdl cs hr).2 _ T' _ m3 m4⟩) rfl hi0 (by rw [hs0, ← hsz, ← hyz]; exact e3.symm) (fun Q hQ => by rw [show ob.e = .c Q from hQ] at hdp; cases hdp)
   exact fin hrun hsim rfl rfl
 ·
   have hro1 := hrv.toO h.oneV hy
   have hsz1 := RO1.size _ _ _ hro1
   have hne : ob.xs ≠ [] := fun e => by rw [e] at hxs; cases hxs
   obtain ⟨tt, cs0, _, _, h0, _, ha, _⟩ := hro.block hne
   have hqz : asz q = ob.sz := ha q (by rw [hxs]; simp)
   obtain ⟨w1, T', hrun, hsim⟩ := qU (P := P) h ho (ob' := ⟨.o (some t0) 0 y', ob.sz, [y']⟩) (q0 := 0 * ob.sz + 0) (vs := (a.eval y).cells.toList) rfl (by rw [hxs]; rfl) (fun t' e => by rw [he]; exact e) hne (qg (hyz.trans hqz)) (RO1.one _ _ _ hro1) (fun cs hcl hr => by
    rw [hxs] at hcl
    simp only [List.length_singleton, Nat.one_mul] at hcl
    refine ⟨by omega, fun _ => False, fun g hg => hg.elim, ?_⟩
    simp only [Nat.zero_mul, Nat.add_zero, List.take_zero, List.nil_append, Nat.zero_add]
    rw [List.drop_eq_nil_of_le (by omega), List.append_nil]
    exact aDB (hyz.trans hqz) hro1) rfl hi0 (by rw [hs0, ← hsz, ← hyz]; exact hsz1.symm)
   exact fin hrun hsim rfl rfl
 ·
   have hne : ob.xs ≠ [] := fun e => by rw [e] at hq; simp at hq
   obtain ⟨tt, cs0, cap0, cur0, h0, hr0, ha, hpos, hV, hheap0, _, _, _, ht0⟩ := hro.block hne
   rw [hkd] at hr0
   obtain ⟨te, us, g0, gr, ga, gpos, gown, gB⟩ := h.rows.ro L obL hoL
   obtain ⟨TL, hTL, hus⟩ : ∃ TL : Nat → Prop, (∀ g, TL g → T L g) ∧ RDL w obL.xs TL us := by
    rcases hdp with hdp | ⟨⟨t1, hoe⟩, hxn⟩
    · refine ⟨T L, fun _ h => h, ?_⟩
      cases hoe : obL.e with
      | s _ => rw [hoe] at hdp; cases hdp
      | o _ _ _ => rw [hoe] at hdp; cases hdp
      | z t3 => rw [hoe] at gr; exact gr.2
      | d t3 => rw [hoe] at gr; exact gr
      | u => rw [hoe] at gr; exact gr
      | c Q => rw [hoe] at hdp; cases hdp
      | p _ _ => rw [hoe] at hdp; cases hdp
    · rw [hoe] at gr
      exact ⟨Fa, fun g hg => hg.elim, RL.allRD _ _ hxn gr⟩
   have hBL : ∀ g, ((V L).ownBlock = some g ∨ TL g) → Blk V T L g := fun g hg => hg.imp id (hTL g)
   have ho' : s.hp l = some ⟨.p t0 i, ob.sz, ob.xs⟩ := by rw [ho, ← hkd]
   obtain ⟨hdl, h1⟩ := h.merge ho' hne' hok hoL
   have hyv : a.eval y = V L := by
    rw [hy] at hrv; unfold RV at hrv; exact hrv.2
   have hcl1 : (a.eval y).cells.toList = [V L] := by rw [hyv]; exact wm (h.oneV L obL hoL)
   have hqs : asz (.agg (ys.set j (.lst obL.sz obL.xs))) = asz (.agg ys) := by
    simp only [asz]; exact kN j hj (by rw [hz]; rfl)
   obtain ⟨w1, T', hrun, hsim⟩ := aCe (P := P) h1 hdl (ob' := ⟨.p t0 (i + 1), ob.sz, ob.xs.set i (.agg (ys.set j (.lst obL.sz obL.xs)))⟩) (q0 := i * ob.sz + c) (vs := (a.eval y).cells.toList) rfl aBW (fun t' e => e) hne (aCl ha hq hqs) (by rw [hcl1]; intro u hu; rw [List.mem_singleton] at hu; subst hu; exact h.oneV L obL hoL) (fun cs hcl ⟨cur, tt', hh, hct⟩ hr => by
    rw [hheap0] at hh; cases hh
    have : cs = cs0 := by rw [← hct, ← ht0]
    subst this
    have key := RK.setp (t := t0) (B := B) (V := V) (hp := (s.drop L).hp) (Ts := upd T l (fun g => Blk V T L g ∨ T l g) l) ha hq hj hc0 hz hn hr0 gown ga gpos hus (fun g hg k => h.rows.nd L obL g hoL hg (hTL g k)) (fun g k1 k2 => hne' (h.rows.ds L l obL ob g hoL ho (hBL g k2) (.inr k1))) (fun g hg => by
     rw [upd_same]; exact hg.elim .inr (fun k => .inl (hBL g k))) (fun g hg => by
     rw [upd_same] at hg
     rcases hg with hg | hg
     · exact (h.rows.me L obL g hoL hg).2.1
     · exact (h.rows.me l ob g ho (.inr hg)).2.1)
    rw [hcl1]
    exact ⟨key.1, _, fun g hg => hg, key.2⟩) rfl hi0 (by rw [hs0, hsz, hcl1]; rfl)
   exact fin hrun hsim rfl rfl
end
end Go.Proofs.YtodckioppgjbdaaGreatDoor.AM
