/- The machine over data, second make (N5): what an operation does to the slots' data, what a body does, what a call is. -/
import Derived.Test.YtmafbodblpgcjaaN4
namespace Go.Proofs.Ytmafbodblpgcjaa.AM
open Go Go.RowKit
set_option linter.unusedVariables false
set_option linter.unusedSimpArgs false

inductive TI where
  | non
  | str
  | int (k : IntKind)
  | bool
  | slice (e sz bytes : Nat) (z : AV)
  | struct (fs : List (Nat × Nat)) (z : List AV)
  | map (kt vt : TypeId) (z : AV)
  | ptr
  | func
  | iface
  | arr (e m sz : Nat) (z : AV)

abbrev Tab := List (Nat × TI)
def Tab.look : Tab → Nat → TI
  | [], _ => .non
  | (t, x) :: r, u => bif Nat.beq t u then x else Tab.look r u

def offsOK (P : Program) : Nat → List Field → List (Nat × Nat) → Prop
  | _, [], [] => True
  | n, f :: fs, (o, z) :: r => f.offset = o ∧ o = n ∧ 0 < z ∧ (P.info? f.type).map (·.size) = some z ∧ offsOK P (n + z) fs r
  | _, _, _ => False
def sizes : List (Nat × Nat) → Nat
  | [] => 0
  | (_, z) :: r => z + sizes r
def Fa : Nat → Prop := fun _ => False
def TIok (P : Program) (t : TypeId) : TI → Prop
  | .non => True
  | .str => P.underlying t = some .string ∧ ∃ i, P.info? t = some i ∧ i.size = 1 ∧ i.zero = some (.string ByteArray.empty)
  | .int k => P.underlying t = some (.int k) ∧ ∃ i, P.info? t = some i ∧ i.size = 1 ∧ i.zero = some (.int k 0)
  | .bool => P.underlying t = some .bool ∧ ∃ i, P.info? t = some i ∧ i.size = 1 ∧ i.zero = some (.bool false)
  | .slice e sz by_ z => P.underlying t = some (.slice e) ∧ (∃ j, P.info? t = some j ∧ j.size = 1 ∧ j.zero = some (.slice none 0 0)) ∧
      ∃ i zv, P.info? e = some i ∧ i.zero = some zv ∧ i.size = sz ∧ i.bytes = by_ ∧ 0 < sz ∧ asz z = sz ∧ ∀ w, RD w z Fa zv.cells.toList
  | .struct fs z => ∃ fields i cs, P.underlying t = some (.struct fields) ∧ offsOK P 0 fields.toList fs ∧ P.info? t = some i ∧ i.size = sizes fs ∧ 0 < sizes fs ∧
      z.map asz = fs.map (·.2) ∧ i.zero = some (.agg cs) ∧ ∀ w, RDL w z Fa cs.toList
  | .map kt vt z => P.underlying t = some (.map kt vt) ∧ P.underlying kt = some .string ∧ ∃ i zv, P.info? vt = some i ∧ i.zero = some zv ∧ ∀ S w hp B V, RV S w hp B V z zv
  | .ptr => (∃ e, P.underlying t = some (.pointer e)) ∧ ∃ i, P.info? t = some i ∧ i.size = 1 ∧ i.zero = some (.pointer none)
  | .func => (∃ a b c, P.underlying t = some (.func a b c)) ∧ ∃ i, P.info? t = some i ∧ i.size = 1 ∧ i.zero = some .nilFunc
  | .iface => (∃ a, P.underlying t = some (.interface a)) ∧ ∃ i, P.info? t = some i ∧ i.size = 1 ∧ i.zero = some .nilIface
  | .arr e m sz z => P.underlying t = some (.array m e) ∧ (∃ i cs, P.info? t = some i ∧ i.size = m * sz ∧ i.zero = some (.agg cs) ∧ ∀ w, RDL w (List.replicate m z) Fa cs.toList) ∧ 0 < m ∧ 0 < sz ∧ asz z = sz ∧ ∃ j, P.info? e = some j ∧ j.size = sz
def TabOK (P : Program) (Θ : Tab) : Prop := ∀ t, TIok P t (Θ.look t)
def mget : List (ByteArray × AV) → ByteArray → Option AV
  | [], _ => none
  | (k, y) :: r, q => if q = k then some y else mget r q
def mput : List (ByteArray × AV) → ByteArray → AV → List (ByteArray × AV)
  | [], q, v => [(q, v)]
  | (k, y) :: r, q, v => if q = k then (q, v) :: r else (k, y) :: mput r q v
def mdel : List (ByteArray × AV) → ByteArray → List (ByteArray × AV)
  | [], _ => []
  | (k, y) :: r, q => if q = k then r else (k, y) :: mdel r q

structure Eff where
  val : AV
  upd : Option (St → St)
def St.app (s : St) (d : Option Tmp) (e : Eff) : St :=
  match e.upd with
  | none => s.put d e.val
  | some f => (f s).put d e.val

/-- what a value is, if the datum says it all -/
def conc : AV → Option Value
  | .v x => some x
  | .agg xs => (concL xs).map fun cs => .agg cs.toArray
  | _ => none
where
  concL : List AV → Option (List Value)
  | [] => some []
  | .v x :: r => (concL r).map (x :: ·)
  | _ :: _ => none

/-! ### rows given up: they may be read from now on -/
/-- a closed row's part, as what may only be read -/
def rowAt (ob : OB) (i : Nat) (p : List Nat) (c : Nat) : AV :=
  match ob.xs[i]? with
  | some y => match getP y p 0 with
    | some (z, c') => bif Nat.beq c' c then .ptr z else .any
    | none => .any
  | none => .any
def frzA (ob : OB) (l : Nat) : AV → AV
  | .own l' => bif Nat.beq l' l then (bif ob.e.shut then .lst ob.sz ob.xs else .any) else .own l'
  | .optr l' i p c => bif Nat.beq l' l then (bif ob.e.shut then rowAt ob i p c else .any) else .optr l' i p c
  | x => bif x.names l then .any else x
def St.frz (s : St) (l : Nat) : St :=
  match s.hp l with
  | none => s
  | some ob => ⟨fun j => frzA ob l (s.sl j), fun j => bif Nat.beq j l then none else killO l (s.hp j), fun j => bif Nat.beq j l then none else s.mp j⟩
def frzL : List Nat → St → St
  | [], s => s
  | l :: ls, s => frzL ls (s.frz l)
mutual
/-- the datum that is read, or stored to be read -/
def St.dat (s : St) : AV → AV
  | .own l => match s.hp l with | some ob => bif ob.e.shut then .lst ob.sz ob.xs else .any | none => .any
  | .optr l i p c => match s.hp l with | some ob => bif ob.e.shut then rowAt ob i p c else .any | none => .any
  | .mix xs => .agg (St.datL s xs)
  | .ifc t x => .ifc t (s.dat x)
  | .rd x => x
  | x => x
def St.datL (s : St) : List AV → List AV
  | [] => []
  | x :: xs => s.dat x :: s.datL xs
end
mutual
def ownsA : AV → List Nat
  | .own l => [l]
  | .optr l _ _ _ => [l]
  | .mix xs => ownsAL xs
  | .ifc _ x => ownsA x
  | .fn _ xs ys => ownsAL xs ++ ownsAL ys
  | _ => []
def ownsAL : List AV → List Nat
  | [] => []
  | x :: xs => ownsA x ++ ownsAL xs
end
def ownsOf (s : St) (xs : List Operand) : List Nat := ownsAL (xs.map s.ev)
def frzU (ls : List Nat) : Option (St → St) := match ls with | [] => none | _ => some (frzL ls)
def frzT (ls : List Nat) (f : St → St) : Option (St → St) := match ls with | [] => some f | _ => some fun s => f (frzL ls s)

mutual
/-- it reads as a datum, once its rows are given up -/
def isDataA (s : St) : AV → Bool
  | .v x => x.oneCell'
  | .agg _ => true
  | .lst _ _ => true
  | .ptr _ => true
  | .own l => match s.hp l with | some ob => ob.e.shut | none => false
  | .optr l i p c => match s.hp l with | some ob => ob.e.shut && (match rowAt ob i p c with | .ptr _ => true | _ => false) | none => false
  | .mix xs => isDataL s xs
  | .rd _ => true
  | _ => false
def isDataL (s : St) : List AV → Bool
  | [] => true
  | x :: xs => isDataA s x && isDataL s xs
end
/-- it may be handed to a call that reads it -/
def argA (s : St) : AV → Bool
  | .any => true
  | .fn _ [] [] => true
  | .fn _ _ _ => false
  | .ifc _ x => isDataA s x
  | .tup _ => false
  | .mapv _ => false
  | .rd _ => false
  | x => isDataA s x
def argsA (s : St) : List AV → Bool
  | [] => true
  | x :: r => argA s x && argsA s r

def setParts (s : St) : List AV → List (Nat × Operand) → List AV
  | z, [] => z
  | z, (i, x) :: r => setParts s (z.set i (s.dat (s.ev x))) r
def partsOK (s : St) : List AV → List (Nat × Operand) → Prop
  | _, [] => True
  | z, (i, x) :: r => (∃ y, z[i]? = some y ∧ asz (s.dat (s.ev x)) = asz y) ∧ isDataA s (s.ev x) = true ∧ partsOK s (z.set i (s.dat (s.ev x))) r
mutual
/-- a type's zero value, as an open row's datum -/
def nilA : AV → AV
  | .lst _ _ => .v (.slice none 0 0)
  | .agg xs => .mix (nilL xs)
  | x => x
def nilL : List AV → List AV
  | [] => []
  | x :: xs => nilA x :: nilL xs
end
def mixParts (s : St) : List AV → List (Nat × Operand) → List AV
  | z, [] => z
  | z, (i, x) :: r => mixParts s (z.set i ((toO (s.ev x)).getD .any)) r
def mixOK (s : St) : List AV → List (Nat × Operand) → Prop
  | _, [] => True
  | z, (i, x) :: r => (∃ y y', z[i]? = some y ∧ toO (s.ev x) = some y' ∧ asz y' = asz y) ∧ mixOK s (z.set i ((toO (s.ev x)).getD .any)) r

def TI.isAgg : TI → Bool
  | .struct _ _ => true
  | .arr _ _ _ _ => true
  | _ => false
def TI.size : TI → Nat
  | .struct fs _ => sizes fs
  | .arr _ m sz _ => m * sz
  | _ => 1
def TI.known : TI → Bool
  | .non => false
  | .map _ _ _ => false
  | _ => true
def TI.zero : TI → AV
  | .str => .v (.string ByteArray.empty)
  | .int k => .v (.int k 0)
  | .bool => .v (.bool false)
  | .slice _ sz _ _ => .lst sz []
  | .struct _ z => .agg z
  | .ptr => .v (.pointer none)
  | .func => .v .nilFunc
  | .iface => .v .nilIface
  | .arr _ m _ z => .agg (List.replicate m z)
  | .non => .any
  | .map _ _ _ => .any
/-- the kind of a row of zero values -/
def kz (t : Nat) (z : AV) : ET := bif noLst z then .s t else .z t
/-- the kinds whose rows may be read as they lie -/
def ET.open_ : ET → Bool
  | .s _ => true
  | .z _ => true
  | _ => false
def ET.deep : ET → Bool
  | .z _ => true
  | .d _ => true
  | .u => true
  | _ => false
def ET.shutd : Option Nat → ET
  | some t => .d t
  | none => .u

structure Out where
  val : AV
  obs : List OB
mutual
/-- other labels -/
def mapA (ρ : Nat → Nat) : AV → AV
  | .own l => .own (ρ l)
  | .optr l i p c => .optr (ρ l) i p c
  | .mapv l => .mapv (ρ l)
  | .tup xs => .tup (mapAL ρ xs)
  | .mix xs => .mix (mapAL ρ xs)
  | .fn f xs ys => .fn f (mapAL ρ xs) (mapAL ρ ys)
  | .ifc t x => .ifc t (mapA ρ x)
  | x => x
def mapAL (ρ : Nat → Nat) : List AV → List AV
  | [] => []
  | x :: xs => mapA ρ x :: mapAL ρ xs
end
def ren (d : Nat) (x : AV) : AV := mapA (fun k => d + 1000 * k) x
def obsF (obs : List OB) : Nat → Option OB := fun l => obs[l]?
/-- the rows of a call's result come to labels -/
def setObs (d : Nat) : Nat → List OB → St → St
  | _, [], s => s
  | k, ob :: r, s => setObs d (k + 1) r (s.set (d + 1000 * k) (some ob))
def setU (d : Nat) (obs : List OB) : Option (St → St) :=
  match obs with
  | [] => none
  | _ => some (setObs d 0 obs)
def freeObs (s : St) (d : Nat) : Nat → List OB → Prop
  | _, [] => True
  | k, ob :: r => (s.hp (d + 1000 * k) = none ∧ okL (d + 1000 * k) = true ∧ ob.e.shut = true) ∧ freeObs s d (k + 1) r

/-! ### rows handed over: the k-th under the label 1000000 k -/
def rowsF : Nat → List OB → Nat → Option OB
  | _, [], _ => none
  | k, ob :: r, l => bif Nat.beq l k then some ob else rowsF (k + 1000000) r l
/-- the callee's labels as the caller's -/
def subl : Nat → List Nat → Nat → Nat
  | _, [], l => l
  | k, L :: r, l => bif Nat.beq l k then L else subl (k + 1000000) r l
def subA (Ls : List Nat) (x : AV) : AV := mapA (subl 0 Ls) x
def subAL (Ls : List Nat) (xs : List AV) : List AV := mapAL (subl 0 Ls) xs
def subE (Ls : List Nat) : ET → ET
  | .o t i y => .o t i (subA Ls y)
  | e => e
def subO (Ls : List Nat) (ob : OB) : OB := ⟨subE Ls ob.e, ob.sz, ob.xs⟩
/-- the handed rows lie so -/
def handed (s : St) (Ls : List Nat) : List Nat → List OB → Prop
  | [], [] => True
  | L :: r, ob :: obs => s.hp L = some (subO Ls ob) ∧ handed s Ls r obs
  | _, _ => False
def setHanded (Ls : List Nat) : List Nat → List OB → St → St
  | L :: r, ob :: obs, s => setHanded Ls r obs (s.set L (some (subO Ls ob)))
  | _, _, s => s
/-- a row is forgotten -/
def St.drop (s : St) (l : Nat) : St := ⟨fun j => bif (s.sl j).names l then .any else s.sl j, fun j => bif Nat.beq j l then none else killO l (s.hp j), fun j => bif Nat.beq j l then none else s.mp j⟩
def withinE (p : Nat → Bool) : ET → Bool
  | .o _ _ y => y.within p
  | _ => true
def readsL (Ls ls : List Nat) : List Nat := ls.filter fun l => !Ls.contains l
mutual
def argH (s : St) (Ls : List Nat) : AV → Bool
  | .own l => Ls.contains l || isDataA s (.own l)
  | .optr l i p c => Ls.contains l || isDataA s (.optr l i p c)
  | .mix xs => (ownsAL xs).all (fun l => Ls.contains l) || (isDataL s xs && (ownsAL xs).all (fun l => !Ls.contains l))
  | .ifc _ x => argH s Ls x
  | .fn _ xs ys => argsH s Ls xs && argsH s Ls ys
  | .tup _ => false
  | .mapv _ => false
  | .rd _ => false
  | .any => true
  | x => isDataA s x
def argsH (s : St) (Ls : List Nat) : List AV → Bool
  | [] => true
  | x :: r => argH s Ls x && argsH s Ls r
end
mutual
/-- an argument: what is handed over keeps its label, what is read becomes a datum -/
def St.datH (s : St) (Ls : List Nat) : AV → AV
  | .own l => bif Ls.contains l then .own l else s.dat (.own l)
  | .optr l i p c => bif Ls.contains l then .optr l i p c else s.dat (.optr l i p c)
  | .mix xs => bif (ownsAL xs).all (fun l => Ls.contains l) then .mix xs else .agg (s.datL xs)
  | .ifc t x => .ifc t (s.datH Ls x)
  | .fn f xs ys => .fn f (s.datHL Ls xs) (s.datHL Ls ys)
  | x => x
def St.datHL (s : St) (Ls : List Nat) : List AV → List AV
  | [] => []
  | x :: xs => s.datH Ls x :: s.datHL Ls xs
end

def HB (hp : Nat → Option OB) (V : Nat → Value) (T : Nat → Nat → Prop) (g : Nat) : Prop := ∃ l ob, hp l = some ob ∧ Blk V T l g
/-- A CALL over data: whatever the memory is in which the arguments read so, it comes back with the result. rin: rows of the caller's that are handed over, rout: how they lie afterwards. -/
def ACG (P : Program) (f : FuncId) (args : List AV) (rin rout : List OB) (out : Out) : Prop :=
  (∀ vs w, (callFunc f vs).run P w = .ok (.enter f vs) w) ∧
  ∀ (w : World) (S0 : Nat → Prop) (B0 : Nat → Nat) (V0 : Nat → Value) (T0 : Nat → Nat → Prop) (vs : List Value), (∀ b, S0 b → b < w.heap.size) →
    Rows S0 w (rowsF 0 rin) (fun _ => none) B0 V0 T0 (fun _ => True) → RVs S0 w (rowsF 0 rin) B0 V0 args vs →
    Calls P f vs.toArray w fun e w' => ∃ v S B V T T1, e = .returned v ∧ Grown w w' (HB (rowsF 0 rin) V0 T0) ∧ (∀ b, S0 b → S b) ∧ (∀ b, S b → b < w'.heap.size ∧ (S0 b ∨ w.heap.size ≤ b ∨ HB (rowsF 0 rin) V0 T0 b)) ∧
      RV S w' (obsF out.obs) B V out.val v ∧ Rows S w' (obsF out.obs) (fun _ => none) B V T (fun g => w.heap.size ≤ g ∨ HB (rowsF 0 rin) V0 T0 g) ∧
      Rows S w' (rowsF 0 rout) (fun _ => none) B0 V0 T1 (fun g => w.heap.size ≤ g ∨ HB (rowsF 0 rin) V0 T0 g) ∧
      ∀ l l' ob ob' g, obsF out.obs l = some ob → rowsF 0 rout l' = some ob' → Blk V T l g → ¬ Blk V0 T1 l' g
abbrev AC (P : Program) (f : FuncId) (args : List AV) (out : Out) : Prop := ACG P f args [] [] out
/-- a call that writes into a row of the caller's (its first argument), and hands back a plain value -/
abbrev ACM (P : Program) (f : FuncId) (ob : OB) (xs' : List AV) (args : List AV) (v : Value) : Prop := ACG P f (.own 0 :: args) [ob] [⟨ob.e, ob.sz, xs'⟩] ⟨.v v, []⟩

mutual
def flatA : AV → Prop
  | .v _ => True
  | .agg xs => flatL xs
  | .own _ => True
  | .optr _ _ _ _ => True
  | .tup xs => flatL xs
  | .mix xs => flatL xs
  | .lst _ xs => xs = []
  | .rd x => flatA x
  | .ifc _ x => flatA x
  | .fn _ xs ys => flatL xs ∧ flatL ys
  | .any => True
  | .ptr _ => False
  | .mapv _ => False
def flatL : List AV → Prop
  | [] => True
  | x :: xs => flatA x ∧ flatL xs
end
def flatO (ob : OB) : Prop := match ob.e with | .s _ => flatL ob.xs | .o _ _ y => flatA y | _ => True
def Out.flat (o : Out) : Prop := flatA o.val ∧ ∀ ob ∈ o.obs, flatO ob

def BinOK (P : Program) (op : BinOp) (t : TypeId) (x y : Operand) (a b r : Value) : Prop :=
  ∀ w, (do eqGuard op t x y a b; binOp op t a b).run P w = .ok r w

def lenA (s : St) : AV → Option Nat
  | .v (.string b) => some b.size
  | .v (.slice none 0 0) => some 0
  | .lst _ xs => some xs.length
  | .own l => (s.hp l).map (·.xs.length)
  | _ => none
def lenOK (Θ : Tab) (t : TypeId) : AV → Prop
  | .v (.string _) => Θ.look t = .str
  | .v _ => ∃ e sz b z, Θ.look t = .slice e sz b z
  | .lst _ _ | .own _ => ∃ e sz b z, Θ.look t = .slice e sz b z
  | _ => False
def lowAt (s : St) (x : Option Operand) (n : Nat) : Prop :=
  match x with
  | none => n = 0
  | some y => ∃ k, s.ev y = .v (.int k (n : Int))
def highAt (s : St) (x : Option Operand) (len n : Nat) : Prop :=
  match x with
  | none => n = len
  | some y => ∃ k, s.ev y = .v (.int k (n : Int))
def constsOK (xs : List Operand) : Prop := ∀ x ∈ xs, ∀ c, x = .const c → c.oneCell' = true

def Pre (P : Program) (Θ : Tab) (o : Oper) (s : St) (e : Eff) : Prop :=
  match o.op with
  | .move x | .assign x => (∀ c, x = .const c → c.oneCell' = true) ∧ (e = ⟨s.ev x, none⟩ ∨
      (∃ l ob, s.ev x = .own l ∧ s.hp l = some ob ∧ ob.e.shut = true ∧ okL l = true ∧ e = ⟨.lst ob.sz ob.xs, some fun s => s.frz l⟩) ∨
      (∃ d el sz, o.dst = some d ∧ 0 < sz ∧ ET.shut el = true ∧ okL (d + 1) = true ∧ x = .const (.slice none 0 0) ∧ e = ⟨.own (d + 1), some fun s => (s.kill (d + 1)).set (d + 1) (some ⟨el, sz, []⟩)⟩) ∨
      ∃ l L ob, s.ev x = .own l ∧ s.hp l = some ob ∧ ob.e.shut = true ∧ okL l = true ∧ okL L = true ∧ L ≠ l ∧ e = ⟨.own L, some fun s => s.relab l L ob⟩)
  | .nilCheck x => e = ⟨s.ev x, none⟩ ∧ ((∃ y, s.ev x = .ptr y) ∨ (∃ l i p c, s.ev x = .optr l i p c) ∨ (∃ f xs ys, s.ev x = .fn f xs ys) ∨ ∃ t y, s.ev x = .ifc t y)
  | .pick c a b => (∀ c, a = .const c → c.oneCell' = true) ∧ (∀ c, b = .const c → c.oneCell' = true) ∧ ∃ t, s.ev c = .v (.bool t) ∧ e = ⟨bif t then s.ev a else s.ev b, none⟩
  | .binOp op t x y _ => ∃ a b r, conc (s.ev x) = some a ∧ conc (s.ev y) = some b ∧ BinOK P op t x y a b r ∧ r.oneCell' = true ∧ e = ⟨.v r, none⟩
  | .unOp op _ x => ∃ a r, conc (s.ev x) = some a ∧ (∀ w, (Op.unary op a).run P w = .ok r w) ∧ r.oneCell' = true ∧ e = ⟨.v r, none⟩
  | .convert src dst x => ∃ a r, conc (s.ev x) = some a ∧ (∀ w, (convert src dst a).run P w = .ok r w) ∧ r.oneCell' = true ∧ e = ⟨.v r, none⟩
  | .index t x i => (∃ a b r, conc (s.ev x) = some a ∧ conc (s.ev i) = some b ∧ (∀ w, (Instr.index t a b).run P w = .ok r w) ∧ r.oneCell' = true ∧ e = ⟨.v r, none⟩) ∨
      ∃ el m sz z k j xs y, Θ.look t = .arr el m sz z ∧ s.ev i = .v (.int k ((j : Nat) : Int)) ∧ s.ev x = .agg xs ∧ xs.length = m ∧ (∀ x ∈ xs, asz x = sz) ∧ xs[j]? = some y ∧ (Θ.look el).known = true ∧ isAggA y = (Θ.look el).isAgg ∧ asz y = (Θ.look el).size ∧ e = ⟨y, none⟩
  | .slice t x lo hi mx => (∃ a r, conc (s.ev x) = some a ∧ (∀ y ∈ lo.toList ++ hi.toList ++ mx.toList, (conc (s.ev y)).isSome = true) ∧
      (∀ w, (Instr.sliceAt t a (lo.map fun y => (conc (s.ev y)).getD undef) (hi.map fun y => (conc (s.ev y)).getD undef) (mx.map fun y => (conc (s.ev y)).getD undef)).run P w = .ok r w) ∧ r.oneCell' = true ∧ e = ⟨.v r, none⟩) ∨
      ∃ el sz b z xs l h, Θ.look t = .slice el sz b z ∧ mx = none ∧ s.ev x = .lst sz xs ∧ lowAt s lo l ∧ highAt s hi xs.length h ∧ l ≤ h ∧ h ≤ xs.length ∧ e = ⟨.lst sz ((xs.take h).drop l), none⟩
  | .extract x i => ∃ xs y, s.ev x = .tup xs ∧ xs[i]? = some y ∧ e = ⟨y, none⟩
  | .alloc t => ∃ d, o.dst = some d ∧ s.hp (d + 1) = none ∧ okL (d + 1) = true ∧ (Θ.look t).known = true ∧ e = ⟨.optr (d + 1) 0 [] 0, some fun s => s.set (d + 1) (some ⟨kz t (Θ.look t).zero, (Θ.look t).size, [(Θ.look t).zero]⟩)⟩
  | .box t x => (∀ c, x = .const c → c.oneCell' = true) ∧ ∃ d, o.dst = some d ∧ s.hp (d + 1) = none ∧ okL (d + 1) = true ∧ (Θ.look t).known = true ∧
      ((asz (s.dat (s.ev x)) = (Θ.look t).size ∧ isDataA s (s.ev x) = true ∧ (ownsA (s.ev x)).all okL = true ∧
        e = ⟨.optr (d + 1) 0 [] 0, frzT (ownsA (s.ev x)) fun s' => s'.set (d + 1) (some ⟨.s t, (Θ.look t).size, [s.dat (s.ev x)]⟩)⟩) ∨
       ∃ y, toO (s.ev x) = some y ∧ asz y = (Θ.look t).size ∧ e = ⟨.optr (d + 1) 0 [] 0, some fun s' => s'.set (d + 1) (some ⟨.o (some t) 0 y, (Θ.look t).size, [y]⟩)⟩)
  | .build t ps => ∃ fs z, Θ.look t = .struct fs z ∧ ((partsOK s z ps.toList ∧ constsOK (ps.toList.map (·.2)) ∧ (ownsOf s (ps.toList.map (·.2))).all okL = true ∧ e = ⟨.agg (setParts s z ps.toList), frzU (ownsOf s (ps.toList.map (·.2)))⟩) ∨
      (mixOK s (nilL z) ps.toList ∧ constsOK (ps.toList.map (·.2)) ∧ e = ⟨.mix (mixParts s (nilL z) ps.toList), none⟩))
  | .buildSlice t n ps => ∃ d el sz b z, o.dst = some d ∧ s.hp (d + 1) = none ∧ okL (d + 1) = true ∧ Θ.look t = .slice el sz b z ∧ n * sz ≤ 65536 ∧
      ((partsOK s (List.replicate n z) ps.toList ∧ constsOK (ps.toList.map (·.2)) ∧ (ownsOf s (ps.toList.map (·.2))).all okL = true ∧
        e = ⟨.own (d + 1), frzT (ownsOf s (ps.toList.map (·.2))) fun s' => s'.set (d + 1) (some ⟨.s el, sz, setParts s (List.replicate n z) ps.toList⟩)⟩) ∨
       ∃ x y, n = 1 ∧ ps = #[(0, x)] ∧ (∀ c, x = .const c → c.oneCell' = true) ∧ toO (s.ev x) = some y ∧ asz y = sz ∧ e = ⟨.own (d + 1), some fun s' => s'.set (d + 1) (some ⟨.o (some el) 0 y, sz, [y]⟩)⟩)
  | .makeSlice t l c => ∃ d el sz b z n k k', o.dst = some d ∧ s.hp (d + 1) = none ∧ okL (d + 1) = true ∧ Θ.look t = .slice el sz b z ∧ s.ev l = .v (.int k ((n : Nat) : Int)) ∧ s.ev c = .v (.int k' (n : Int)) ∧ b * n ≤ 140737488355328 ∧ n ≤ 9223372036854775807 ∧
      e = ⟨.own (d + 1), some fun s => s.set (d + 1) (some ⟨kz el z, sz, List.replicate n z⟩)⟩
  | .load t x => (Θ.look t).known = true ∧ ((∃ y, s.ev x = .ptr y ∧ isAggA y = (Θ.look t).isAgg ∧ asz y = (Θ.look t).size ∧ e = ⟨y, none⟩) ∨
      ∃ l i p c ob, s.ev x = .optr l i p c ∧ s.hp l = some ob ∧
        ((∃ y z, ob.e.open_ = true ∧ ob.xs[i]? = some y ∧ getP y p 0 = some (z, c) ∧ isAggA z = (Θ.look t).isAgg ∧ asz z = (Θ.look t).size ∧ e = ⟨z, none⟩) ∨
         ∃ t' y z, openE ob.e ob.xs i = some (.o t' i y) ∧ getP y p 0 = some (z, c) ∧
          ((∃ x', ofO z = some x' ∧ isAggA x' = (Θ.look t).isAgg ∧ asz x' = (Θ.look t).size ∧ e = ⟨x', none⟩) ∨
           (∃ d el sz b z0 ek, z = .v (.slice none 0 0) ∧ o.dst = some d ∧ Θ.look t = .slice el sz b z0 ∧ ET.shut ek = true ∧ okL (d + 1) = true ∧ e = ⟨.own (d + 1), some fun s => (s.kill (d + 1)).set (d + 1) (some ⟨ek, sz, []⟩)⟩) ∨
           ∃ d sz' xs' el sz b z0, z = .lst sz' xs' ∧ o.dst = some d ∧ Θ.look t = .slice el sz b z0 ∧ s.hp (d + 1) = none ∧ okL (d + 1) = true ∧
             e = ⟨.own (d + 1), some fun s => (s.set l (some ⟨.o t' i (setM y p (.own (d + 1))), ob.sz, ob.xs⟩)).set (d + 1) (some ⟨.u, sz', xs'⟩)⟩)))
  | .store t x y => (∀ c, y = .const c → c.oneCell' = true) ∧ (Θ.look t).known = true ∧ ∃ l i p c ob, s.ev x = .optr l i p c ∧ s.hp l = some ob ∧
      ((∃ t0 q z, (ob.e = .s t0 ∨ ob.e = .z t0) ∧ ob.xs[i]? = some q ∧ getP q p 0 = some (z, c) ∧ asz z = (Θ.look t).size ∧ asz (s.dat (s.ev y)) = asz z ∧ isDataA s (s.ev y) = true ∧ (ownsA (s.ev y)).contains l = false ∧ (ownsA (s.ev y)).all okL = true ∧
        e = ⟨.any, frzT (ownsA (s.ev y)) fun s' => s'.set l (some ⟨.s t0, ob.sz, ob.xs.set i (setP q p (s.dat (s.ev y)))⟩)⟩) ∨
       (∃ t' q z y', openE ob.e ob.xs i = some (.o t' i q) ∧ getP q p 0 = some (z, c) ∧ asz z = (Θ.look t).size ∧ toO (s.ev y) = some y' ∧ asz y' = asz z ∧
        e = ⟨.any, some fun s' => s'.set l (some ⟨.o t' i (setM q p y'), ob.sz, ob.xs⟩)⟩) ∨
       (∃ q z y', ob.e.deep = true ∧ ob.xs[i]? = some q ∧ getP q p 0 = some (z, c) ∧ asz z = (Θ.look t).size ∧ s.ev y = y' ∧ noLst y' = true ∧ asz y' = asz z ∧
        e = ⟨.any, some fun s' => s'.set l (some ⟨ob.e, ob.sz, ob.xs.set i (setP q p y')⟩)⟩) ∨
       ∃ t0 q y', ob.e = .s t0 ∧ ob.xs = [q] ∧ i = 0 ∧ p = [] ∧ c = 0 ∧ asz q = (Θ.look t).size ∧ toO (s.ev y) = some y' ∧ asz y' = asz q ∧
        e = ⟨.any, some fun s' => s'.set l (some ⟨.o (some t0) 0 y', ob.sz, [y']⟩)⟩)
  | .fieldAddr t x f => ∃ fs z o_ z_, Θ.look t = .struct fs z ∧ fs[f]? = some (o_, z_) ∧
      ((∃ ys y, s.ev x = .ptr (.agg ys) ∧ ys[f]? = some y ∧ aszs (ys.take f) = o_ ∧ e = ⟨.ptr y, none⟩) ∨
       ∃ l i p c, s.ev x = .optr l i p c ∧ e = ⟨.optr l i (p ++ [f]) (c + o_), none⟩)
  | .indexAddr t x ix => ∃ k j, s.ev ix = .v (.int k ((j : Nat) : Int)) ∧
      ((∃ el sz b z, Θ.look t = .slice el sz b z ∧
        ((∃ xs y, s.ev x = .lst sz xs ∧ xs[j]? = some y ∧ e = ⟨.ptr y, none⟩) ∨
         ∃ l ob, s.ev x = .own l ∧ s.hp l = some ob ∧ ob.sz = sz ∧ j < ob.xs.length ∧ e = ⟨.optr l j [] 0, none⟩)) ∨
       ∃ el m sz z, Θ.look t = .arr el m sz z ∧ j < m ∧
        ((∃ xs y, s.ev x = .ptr (.agg xs) ∧ xs[j]? = some y ∧ (∀ x ∈ xs, asz x = sz) ∧ e = ⟨.ptr y, none⟩) ∨
         ∃ l i p c, s.ev x = .optr l i p c ∧ e = ⟨.optr l i (p ++ [j]) (c + j * sz), none⟩))
  | .makeFunc fn first captured => ∃ f, fn = .func f ∧ constsOK (first.toList ++ captured.toList) ∧ e = ⟨.fn f (first.toList.map s.ev) (captured.toList.map s.ev), none⟩
  | .makeInterface t x => (∀ c, x = .const c → c.oneCell' = true) ∧ (Θ.look t).known = true ∧ Θ.look t ≠ .iface ∧ e = ⟨.ifc t (s.ev x), none⟩
  | .makeMap t r => ∃ d kt vt z, o.dst = some d ∧ s.hp (d + 1) = none ∧ okL (d + 1) = true ∧ Θ.look t = .map kt vt z ∧ (∀ x ∈ r.toList, ∃ k m, s.ev x = .v (.int k m)) ∧ e = ⟨.mapv (d + 1), some fun s => (s.set (d + 1) (some ⟨.s t, 1, []⟩)).setM (d + 1) []⟩
  | .mapUpdate t m k v => ∃ l ent kk b kt vt z, Θ.look t = .map kt vt z ∧ s.ev m = .mapv l ∧ s.mp l = some ent ∧ s.ev k = .v (.string kk) ∧ conc (s.ev v) = some b ∧ (∀ c, v = .const c → c.oneCell' = true) ∧ e = ⟨.any, some fun s' => s'.setM l (mput ent kk (s.ev v))⟩
  | .lookup t m k ok => ∃ l ent kk kt vt z, Θ.look t = .map kt vt z ∧ s.ev m = .mapv l ∧ s.mp l = some ent ∧ s.ev k = .v (.string kk) ∧ e = ⟨bif ok then .tup [(mget ent kk).getD z, .v (.bool (mget ent kk).isSome)] else (mget ent kk).getD z, none⟩
  | .call c => match c.callee with
    | .builtin .delete => ∃ x y t t2 l ent kk kt vt z, c.args = #[x, y] ∧ c.argTypes = #[t, t2] ∧ Θ.look t = .map kt vt z ∧ s.ev x = .mapv l ∧ s.mp l = some ent ∧ s.ev y = .v (.string kk) ∧ e = ⟨.tup [], some fun s' => s'.setM l (mdel ent kk)⟩
    | .builtin .len => ∃ x t n, c.args = #[x] ∧ c.argTypes = #[t] ∧ lenA s (s.ev x) = some n ∧ lenOK Θ t (s.ev x) ∧ e = ⟨.v (.int .i64 (n : Int)), none⟩
    | .builtin .append => ∃ x y t el sz b z l ob ys, c.args = #[x, y] ∧ c.argTypes = #[t, t] ∧ Θ.look t = .slice el sz b z ∧ s.ev x = .own l ∧ s.hp l = some ob ∧ okL l = true ∧ ob.sz = sz ∧
        (ob.xs.length + ys.length) * b ≤ 140737488355328 ∧ ob.xs.length + ys.length ≤ maxLen ∧
        ((∃ t0, (ob.e = .s t0 ∨ ob.e = .z t0) ∧ t0 = el ∧
          (s.ev y = .lst sz ys ∨ ∃ l' ob', s.ev y = .own l' ∧ l' ≠ l ∧ s.hp l' = some ob' ∧ ob'.e.open_ = true ∧ ob'.sz = sz ∧ ys = ob'.xs) ∧
          e = ⟨.own l, some fun s => (s.kill l).set l (some ⟨.s el, sz, ob.xs ++ ys⟩)⟩) ∨
         (∃ l' ob', (ob.e = .z el ∨ ob.e = .d el ∨ (ob.e = .s el ∧ ∀ x ∈ ob.xs, noLst x = true)) ∧ s.ev y = .own l' ∧ l' ≠ l ∧ okL l' = true ∧ s.hp l' = some ob' ∧ ob'.e.deep = true ∧ ob'.sz = sz ∧ ys = ob'.xs ∧ 0 < ys.length ∧
          e = ⟨.own l, some fun s => ((s.kill l).drop l').set l (some ⟨.d el, sz, ob.xs ++ ys⟩)⟩))
    | .builtin b => ∃ vs r, (c.args.toList.mapM fun x => conc (s.ev x)) = some vs ∧ (∀ w, (builtin b c.argTypes o.type (c.args.map fun | .const _ => true | _ => false) vs.toArray).run P w = .ok (.value r) w) ∧ r.oneCell' = true ∧ e = ⟨.v r, none⟩
    | .value g => ∃ f xs ys d out, s.ev g = .fn f xs ys ∧ o.dst = some d ∧ constsOK c.args.toList ∧
        ((∃ args, ((xs ++ c.args.toList.map s.ev ++ ys).map s.dat) = args ∧ ACG P f args [] [] out ∧ freeObs s (d + 1) 0 out.obs ∧ argsA s (xs ++ c.args.toList.map s.ev ++ ys) = true ∧
          (((ownsAL (xs ++ c.args.toList.map s.ev ++ ys) = [] ∨ out.flat) ∧ e = ⟨ren (d + 1) out.val, setU (d + 1) out.obs⟩) ∨
           ((ownsAL (xs ++ c.args.toList.map s.ev ++ ys)).all okL = true ∧ e = ⟨ren (d + 1) out.val, frzT (ownsAL (xs ++ c.args.toList.map s.ev ++ ys)) (setObs (d + 1) 0 out.obs)⟩))) ∨
         ∃ args rin rout Ls, s.datHL Ls (xs ++ c.args.toList.map s.ev ++ ys) = subAL Ls args ∧ ACG P f args rin rout out ∧ handed s Ls Ls rin ∧ Ls.Nodup ∧ rout.map OB.sz = rin.map OB.sz ∧ freeObs s (d + 1) 0 out.obs ∧
          argsH s Ls (xs ++ c.args.toList.map s.ev ++ ys) = true ∧ withinL (fun l => (rowsF 0 rin l).isSome) args = true ∧ (rin ++ rout).all (fun ob => withinE (fun l => (rowsF 0 rin l).isSome) ob.e) = true ∧
          ((readsL Ls (ownsAL (xs ++ c.args.toList.map s.ev ++ ys))) = [] ∨ (out.flat ∧ ∀ ob ∈ rout, flatO ob)) ∧
          e = ⟨ren (d + 1) out.val, some fun s => setObs (d + 1) 0 out.obs (setHanded Ls Ls rout s)⟩)
    | _ => False
  | _ => False
end Go.Proofs.Ytmafbodblpgcjaa.AM
