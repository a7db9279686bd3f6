/- The machine over data: what an operation does to the slots' data, what a body does. -/
import Derived.Test.YtciacgmdeaihlaaAm1
namespace Go.Proofs.Ytciacgmdeaihlaa.AM
open Go Go.RowKit

inductive TI where
  | non
  | str
  | int (k : IntKind)
  | bool
  | slice (e : TypeId) (sz bytes : Nat) (z : AV)
  | struct (fs : List (Nat × Nat)) (z : List AV)

abbrev Tab := List (Nat × TI)
def Tab.look : Tab → Nat → TI
  | [], _ => .non
  | (t, x) :: r, u => bif Nat.beq t u then x else Tab.look r u

def offsOK (P : Program) : Nat → List Field → List (Nat × Nat) → Prop
  | _, [], [] => True
  | n, f :: fs, (o, z) :: r => f.offset = o ∧ o = n ∧ 0 < z ∧ (P.info? f.type).map (·.size) = some z ∧ offsOK P (n + z) fs r
  | _, _, _ => False
def sizes : List (Nat × Nat) → Nat
  | [] => 0
  | (_, z) :: r => z + sizes r
def NoS : Nat → Prop := fun _ => False
def TIok (P : Program) (t : TypeId) : TI → Prop
  | .non => True
  | .str => P.underlying t = some .string ∧ ∃ i, P.info? t = some i ∧ i.size = 1 ∧ i.zero = some (.string ByteArray.empty)
  | .int k => P.underlying t = some (.int k) ∧ ∃ i, P.info? t = some i ∧ i.size = 1 ∧ i.zero = some (.int k 0)
  | .bool => P.underlying t = some .bool ∧ ∃ i, P.info? t = some i ∧ i.size = 1 ∧ i.zero = some (.bool false)
  | .slice e sz by_ z => P.underlying t = some (.slice e) ∧ (∃ j, P.info? t = some j ∧ j.size = 1 ∧ j.zero = some (.slice none 0 0)) ∧
      ∃ i zv, P.info? e = some i ∧ i.zero = some zv ∧ i.size = sz ∧ i.bytes = by_ ∧ 0 < sz ∧ asz z = sz ∧ ∀ w, RA NoS w z zv.cells.toList
  | .struct fs z => ∃ fields i cs, P.underlying t = some (.struct fields) ∧ offsOK P 0 fields.toList fs ∧ P.info? t = some i ∧ i.size = sizes fs ∧ 0 < sizes fs ∧
      z.map asz = fs.map (·.2) ∧ i.zero = some (.agg cs) ∧ ∀ w, RL NoS w z cs.toList
def TabOK (P : Program) (Θ : Tab) : Prop := ∀ t, TIok P t (Θ.look t)

structure Eff where
  val : AV
  upd : Option (St → St)
def St.app (s : St) (d : Option Tmp) (e : Eff) : St :=
  match e.upd with
  | none => s.put d e.val
  | some f => (f s).put d e.val

/-- what a value is, if the datum says it all -/
def conc : AV → Option Value
  | .v x => some x
  | .agg xs => (concL xs).map fun cs => .agg cs.toArray
  | _ => none
where
  concL : List AV → Option (List Value)
  | [] => some []
  | .v x :: r => (concL r).map (x :: ·)
  | _ :: _ => none

/-- an owned row becomes a list that is read alone -/
def St.frz (s : St) (l : Nat) : St :=
  match s.hp l with
  | none => s
  | some ob => ⟨fun j => match s.sl j with
      | .own l' => bif Nat.beq l' l then .lst ob.sz ob.xs else .own l'
      | x => bif x.names l then .any else x, fun j => bif Nat.beq j l then none else s.hp j⟩
def frzL : List Nat → St → St
  | [], s => s
  | l :: ls, s => frzL ls (s.frz l)
/-- the datum that is stored -/
def St.dat (s : St) : AV → AV
  | .own l => match s.hp l with | some ob => .lst ob.sz ob.xs | none => .any
  | x => x
def ownsOf (s : St) : List Operand → List Nat
  | [] => []
  | x :: r => match s.ev x with | .own l => l :: ownsOf s r | _ => ownsOf s r
def frzU (ls : List Nat) : Option (St → St) := match ls with | [] => none | _ => some (frzL ls)
def frzT (ls : List Nat) (f : St → St) : Option (St → St) := some fun s => f (frzL ls s)

def isDataA : AV → Bool
  | .v x => x.oneCell'
  | .agg _ => true
  | .lst _ _ => true
  | _ => false
def setParts (s : St) : List AV → List (Nat × Operand) → List AV
  | z, [] => z
  | z, (i, x) :: r => setParts s (z.set i (s.dat (s.ev x))) r
def partsOK (s : St) : List AV → List (Nat × Operand) → Prop
  | _, [] => True
  | z, (i, x) :: r => (∃ y, z[i]? = some y ∧ asz (s.dat (s.ev x)) = asz y) ∧ isDataA (s.dat (s.ev x)) = true ∧ partsOK s (z.set i (s.dat (s.ev x))) r

def getP : AV → List Nat → Nat → Option (AV × Nat)
  | x, [], c => some (x, c)
  | .agg xs, i :: p, c => match xs[i]? with | some y => getP y p (c + aszs (xs.take i)) | none => none
  | _, _, _ => none
def setP : AV → List Nat → AV → AV
  | _, [], y => y
  | .agg xs, i :: p, y => match xs[i]? with | some x => .agg (xs.set i (setP x p y)) | none => .agg xs
  | x, _, _ => x
def isAggA : AV → Bool
  | .agg _ => true
  | _ => false
def TI.isAgg : TI → Bool
  | .struct _ _ => true
  | _ => false
def TI.size : TI → Nat
  | .struct fs _ => sizes fs
  | _ => 1
def TI.known : TI → Bool
  | .non => false
  | _ => true
def TI.zero : TI → AV
  | .str => .v (.string ByteArray.empty)
  | .int k => .v (.int k 0)
  | .bool => .v (.bool false)
  | .slice _ sz _ _ => .lst sz []
  | .struct _ z => .agg z
  | .non => .any

structure Out where
  val : AV
  obs : List OB
mutual
def ren (d : Nat) : AV → AV
  | .own k => .own (d + 1000 * k)
  | .tup xs => .tup (renL d xs)
  | .optr _ _ _ _ => .any
  | x => x
def renL (d : Nat) : List AV → List AV
  | [] => []
  | x :: xs => ren d x :: renL d xs
end
def obsF (obs : List OB) : Nat → Option OB := fun l => obs[l]?
/-- the rows of a call's result come to labels -/
def setObs (d : Nat) : Nat → List OB → St → St
  | _, [], s => s
  | k, ob :: r, s => setObs d (k + 1) r (s.set (d + 1000 * k) (some ob))
def setU (d : Nat) (obs : List OB) : Option (St → St) :=
  match obs with
  | [] => none
  | _ => some (setObs d 0 obs)
def freeObs (s : St) (d : Nat) : Nat → List OB → Prop
  | _, [] => True
  | k, _ :: r => s.hp (d + 1000 * k) = none ∧ freeObs s d (k + 1) r

/-- A CALL over data: whatever the memory is in which the arguments read so, it comes back with the result -/
def AC (P : Program) (f : FuncId) (args : List AV) (out : Out) : Prop :=
  (∀ vs w, (callFunc f vs).run P w = .ok (.enter f vs) w) ∧ ∀ (w : World) (S0 : Nat → Prop) (vs : List Value), (∀ b, S0 b → b < w.heap.size) → RVs S0 w (fun _ => none) (fun _ => 0) (fun _ => undef) args vs →
    Calls P f vs.toArray w fun e w' => ∃ v S B V, e = .returned v ∧ Below w.heap.size w w' ∧ (∀ b, S0 b → S b) ∧ (∀ b, S b → b < w'.heap.size ∧ (S0 b ∨ w.heap.size ≤ b)) ∧
      RV S w' (obsF out.obs) B V out.val v ∧ (∀ l ob, obsF out.obs l = some ob → RO S w' w.heap.size ob (B l) (V l)) ∧
      ∀ l l' ob ob' g, obsF out.obs l = some ob → obsF out.obs l' = some ob' → (V l).ownBlock = some g → (V l').ownBlock = some g → l = l'

/-- A CALL that writes into a row of the caller's (its first argument), and hands back a plain value -/
def ACM (P : Program) (f : FuncId) (ob : OB) (xs' : List AV) (args : List AV) (v : Value) : Prop :=
  (∀ vs w, (callFunc f vs).run P w = .ok (.enter f vs) w) ∧ ∀ (w : World) (S0 : Nat → Prop) (B : Nat) (V : Value) (vs : List Value), (∀ b, S0 b → b < w.heap.size) → RO S0 w 0 ob B V → RVs S0 w (fun _ => none) (fun _ => 0) (fun _ => undef) args vs →
    Calls P f (V :: vs).toArray w fun e w' => e = .returned v ∧ w.grownBy w' V.ownBlock ∧ RO S0 w' 0 ⟨ob.e, ob.sz, xs'⟩ B V

mutual
def flatA : AV → Prop
  | .v _ => True
  | .agg xs => flatL xs
  | .own _ => True
  | .tup xs => flatL xs
  | .lst _ xs => xs = []
  | .any => True
  | _ => False
def flatL : List AV → Prop
  | [] => True
  | x :: xs => flatA x ∧ flatL xs
end
def Out.flat (o : Out) : Prop := flatA o.val ∧ ∀ ob ∈ o.obs, flatL ob.xs

def BinOK (P : Program) (op : BinOp) (t : TypeId) (x y : Operand) (a b r : Value) : Prop :=
  ∀ w, (do eqGuard op t x y a b; binOp op t a b).run P w = .ok r w

def isArgA : AV → Bool
  | .optr _ _ _ _ => false
  | .tup _ => false
  | _ => true
def argsOK (s : St) : List Operand → Bool
  | [] => true
  | x :: r => isArgA (s.ev x) && argsOK s r
def lenA (s : St) : AV → Option Nat
  | .v (.string b) => some b.size
  | .lst _ xs => some xs.length
  | .own l => (s.hp l).map (·.xs.length)
  | _ => none
def lenOK (Θ : Tab) (t : TypeId) : AV → Prop
  | .v (.string _) => Θ.look t = .str
  | .lst _ _ | .own _ => ∃ e sz b z, Θ.look t = .slice e sz b z
  | _ => False

def Pre (P : Program) (Θ : Tab) (o : Oper) (s : St) (e : Eff) : Prop :=
  match o.op with
  | .move x | .assign x => (∀ c, x = .const c → c.oneCell' = true) ∧ (e = ⟨s.ev x, none⟩ ∨ (∃ l ob, s.ev x = .own l ∧ s.hp l = some ob ∧ e = ⟨.lst ob.sz ob.xs, some fun s => s.frz l⟩) ∨ ∃ d el sz, o.dst = some d ∧ 0 < sz ∧ x = .const (.slice none 0 0) ∧ e = ⟨.own (d + 1), some fun s => (s.kill (d + 1)).set (d + 1) (some ⟨el, sz, []⟩)⟩)
  | .nilCheck x => (∃ y, s.ev x = .ptr y ∧ e = ⟨.ptr y, none⟩) ∨ ∃ l i p c, s.ev x = .optr l i p c ∧ e = ⟨.optr l i p c, none⟩
  | .pick c a b => (∀ c, a = .const c → c.oneCell' = true) ∧ (∀ c, b = .const c → c.oneCell' = true) ∧ ∃ t, s.ev c = .v (.bool t) ∧ e = ⟨bif t then s.ev a else s.ev b, none⟩
  | .binOp op t x y _ => ∃ a b r, conc (s.ev x) = some a ∧ conc (s.ev y) = some b ∧ BinOK P op t x y a b r ∧ r.oneCell' = true ∧ e = ⟨.v r, none⟩
  | .unOp op _ x => ∃ a r, conc (s.ev x) = some a ∧ (∀ w, (Op.unary op a).run P w = .ok r w) ∧ r.oneCell' = true ∧ e = ⟨.v r, none⟩
  | .convert src dst x => ∃ a r, conc (s.ev x) = some a ∧ (∀ w, (convert src dst a).run P w = .ok r w) ∧ r.oneCell' = true ∧ e = ⟨.v r, none⟩
  | .index t x i => ∃ a b r, conc (s.ev x) = some a ∧ conc (s.ev i) = some b ∧ (∀ w, (Instr.index t a b).run P w = .ok r w) ∧ r.oneCell' = true ∧ e = ⟨.v r, none⟩
  | .slice t x lo hi mx => ∃ a r, conc (s.ev x) = some a ∧ (∀ y ∈ lo.toList ++ hi.toList ++ mx.toList, (conc (s.ev y)).isSome = true) ∧
      (∀ w, (Instr.sliceAt t a (lo.map fun y => (conc (s.ev y)).getD undef) (hi.map fun y => (conc (s.ev y)).getD undef) (mx.map fun y => (conc (s.ev y)).getD undef)).run P w = .ok r w) ∧ r.oneCell' = true ∧ e = ⟨.v r, none⟩
  | .extract x i => ∃ xs y, s.ev x = .tup xs ∧ xs[i]? = some y ∧ e = ⟨y, none⟩
  | .alloc t => ∃ d, o.dst = some d ∧ s.hp (d + 1) = none ∧ (Θ.look t).known = true ∧ e = ⟨.optr (d + 1) 0 [] 0, some fun s => s.set (d + 1) (some ⟨t, (Θ.look t).size, [(Θ.look t).zero]⟩)⟩
  | .box t x => ∃ d, o.dst = some d ∧ s.hp (d + 1) = none ∧ (Θ.look t).known = true ∧ asz (s.dat (s.ev x)) = (Θ.look t).size ∧ isDataA (s.dat (s.ev x)) = true ∧
      e = ⟨.optr (d + 1) 0 [] 0, frzT (ownsOf s [x]) fun s' => s'.set (d + 1) (some ⟨t, (Θ.look t).size, [s.dat (s.ev x)]⟩)⟩
  | .build t ps => ∃ fs z, Θ.look t = .struct fs z ∧ partsOK s z ps.toList ∧ e = ⟨.agg (setParts s z ps.toList), frzU (ownsOf s (ps.toList.map (·.2)))⟩
  | .buildSlice t n ps => ∃ d el sz b z, o.dst = some d ∧ s.hp (d + 1) = none ∧ Θ.look t = .slice el sz b z ∧ n * sz ≤ 65536 ∧ partsOK s (List.replicate n z) ps.toList ∧
      e = ⟨.own (d + 1), frzT (ownsOf s (ps.toList.map (·.2))) fun s' => s'.set (d + 1) (some ⟨el, sz, setParts s (List.replicate n z) ps.toList⟩)⟩
  | .makeSlice t l c => ∃ d el sz b z n k k', o.dst = some d ∧ s.hp (d + 1) = none ∧ Θ.look t = .slice el sz b z ∧ s.ev l = .v (.int k ((n : Nat) : Int)) ∧ s.ev c = .v (.int k' (n : Int)) ∧ b * n ≤ 140737488355328 ∧ n ≤ 9223372036854775807 ∧
      e = ⟨.own (d + 1), some fun s => s.set (d + 1) (some ⟨el, sz, List.replicate n z⟩)⟩
  | .load t x => (Θ.look t).known = true ∧ ((∃ y, s.ev x = .ptr y ∧ isAggA y = (Θ.look t).isAgg ∧ asz y = (Θ.look t).size ∧ e = ⟨y, none⟩) ∨
      ∃ l i p c ob y z, s.ev x = .optr l i p c ∧ s.hp l = some ob ∧ ob.xs[i]? = some y ∧ getP y p 0 = some (z, c) ∧ isAggA z = (Θ.look t).isAgg ∧ asz z = (Θ.look t).size ∧ e = ⟨z, none⟩)
  | .store t x y => ∃ l i p c ob q z, s.ev x = .optr l i p c ∧ s.hp l = some ob ∧ ob.xs[i]? = some q ∧ getP q p 0 = some (z, c) ∧ asz z = (Θ.look t).size ∧ (Θ.look t).known = true ∧ asz (s.dat (s.ev y)) = asz z ∧ isDataA (s.dat (s.ev y)) = true ∧ (ownsOf s [y]).contains l = false ∧
      e = ⟨.any, frzT (ownsOf s [y]) fun s' => s'.set l (some ⟨ob.e, ob.sz, ob.xs.set i (setP q p (s.dat (s.ev y)))⟩)⟩
  | .fieldAddr t x f => ∃ fs z o_ z_, Θ.look t = .struct fs z ∧ fs[f]? = some (o_, z_) ∧
      ((∃ ys y, s.ev x = .ptr (.agg ys) ∧ ys[f]? = some y ∧ aszs (ys.take f) = o_ ∧ e = ⟨.ptr y, none⟩) ∨
       ∃ l i p c, s.ev x = .optr l i p c ∧ e = ⟨.optr l i (p ++ [f]) (c + o_), none⟩)
  | .indexAddr t x ix => ∃ el sz b z k j, Θ.look t = .slice el sz b z ∧ s.ev ix = .v (.int k ((j : Nat) : Int)) ∧
      ((∃ xs y, s.ev x = .lst sz xs ∧ xs[j]? = some y ∧ e = ⟨.ptr y, none⟩) ∨
       ∃ l ob, s.ev x = .own l ∧ s.hp l = some ob ∧ ob.sz = sz ∧ j < ob.xs.length ∧ e = ⟨.optr l j [] 0, none⟩)
  | .call c => match c.callee with
    | .builtin .len => ∃ x t n, c.args = #[x] ∧ c.argTypes = #[t] ∧ lenA s (s.ev x) = some n ∧ lenOK Θ t (s.ev x) ∧ e = ⟨.v (.int .i64 (n : Int)), none⟩
    | .builtin .append => ∃ x y t el sz b z l ob ys, c.args = #[x, y] ∧ c.argTypes = #[t, t] ∧ Θ.look t = .slice el sz b z ∧ s.ev x = .own l ∧ s.hp l = some ob ∧ l ≠ 0 ∧ ob.e = el ∧ ob.sz = sz ∧
        (s.ev y = .lst sz ys ∨ ∃ l' ob', s.ev y = .own l' ∧ l' ≠ l ∧ s.hp l' = some ob' ∧ ob'.sz = sz ∧ ys = ob'.xs) ∧
        (ob.xs.length + ys.length) * b ≤ 140737488355328 ∧ ob.xs.length + ys.length ≤ maxLen ∧
        e = ⟨.own l, some fun s => (s.kill l).set l (some ⟨el, sz, ob.xs ++ ys⟩)⟩
    | .value (.func f) => (∃ d out, o.dst = some d ∧ AC P f (c.args.toList.map fun x => s.dat (s.ev x)) out ∧ ((ownsOf s c.args.toList).isEmpty = true ∨ out.flat) ∧ freeObs s (d + 1) 0 out.obs ∧ argsOK s c.args.toList = true ∧
        (∀ x ∈ c.args.toList, ∀ k, x = .const k → k.oneCell' = true) ∧
        e = ⟨ren (d + 1) out.val, setU (d + 1) out.obs⟩) ∨
        ∃ x r l ob xs' v, c.args.toList = x :: r ∧ s.ev x = .own l ∧ s.hp l = some ob ∧ ACM P f ob xs' (r.map fun x => s.dat (s.ev x)) v ∧ (ownsOf s r).isEmpty = true ∧ argsOK s r = true ∧
        (∀ x ∈ r, ∀ k, x = .const k → k.oneCell' = true) ∧ v.oneCell' = true ∧ e = ⟨.v v, some fun s => s.set l (some ⟨ob.e, ob.sz, xs'⟩)⟩
    | _ => False
  | _ => False

def inN (n : Nat) : Option Tmp → Bool
  | none => true
  | some t => Nat.blt t n

/-- is the operation at place k ordered against every other of the region? -/
def tied (ops : Array Oper) (k : Nat) : Bool :=
  let b := Region.before ops
  (List.range ops.size).all fun j => Nat.beq j k || (bif Nat.blt j k then (b.getD k 0).testBit j else (b.getD j 0).testBit k)

def guardA (ops : Array Oper) (s : St) (o : Oper) : Option Bool :=
  match o.guard with
  | none => some true
  | some (j, want) => match (ops[j]?).bind (·.dst) with
    | none => none
    | some t => match s.sl t with
      | .v (.bool b) => some (b == want)
      | .tup [] => some false
      | _ => none

def AOps (P : Program) (Θ : Tab) (n : Nat) (ops : Array Oper) (draw : Bool) : Nat → List Oper → St → (St → Prop) → Prop
  | _, [], s, K => K s
  | k, o :: r, s, K => inN n o.dst = true ∧
    match guardA ops s o with
    | some true => ∃ e, Pre P Θ o s e ∧ (draw = true → e.upd = none ∨ tied ops k = true) ∧ AOps P Θ n ops draw (k + 1) r (s.app o.dst e) K
    | some false => AOps P Θ n ops draw (k + 1) r (s.put o.dst (.tup [])) K
    | none => False

/-! ### weaker states -/
structure Inv where
  slots : List (Nat × AV)
  rows : List (Nat × OB)
def lookS : List (Nat × AV) → Nat → AV
  | [], _ => .any
  | (t, x) :: r, j => bif Nat.beq j t then x else lookS r j
def lookR : List (Nat × OB) → Nat → Option OB
  | [], _ => none
  | (t, x) :: r, j => bif Nat.beq j t then some x else lookR r j
def Inv.st (i : Inv) : St := ⟨lookS i.slots, lookR i.rows⟩
def AV.namedIn (rows : List (Nat × OB)) : AV → Bool
  | .own l => (lookR rows l).isSome
  | .optr l _ _ _ => (lookR rows l).isSome
  | .tup _ => false
  | _ => true
/-- a slot's datum may be read as another: the row that is owned no longer need be -/
def slotLe (s : St) (rows : List (Nat × OB)) (x y : AV) : Prop :=
  x = y ∧ y.namedIn rows = true ∨ ∃ l ob, x = .own l ∧ lookR rows l = none ∧ s.hp l = some ob ∧ y = .lst ob.sz ob.xs
def slotsLe (s : St) (rows : List (Nat × OB)) : List (Nat × AV) → Prop
  | [] => True
  | (t, y) :: r => slotLe s rows (s.sl t) y ∧ slotsLe s rows r
def rowsLe (s : St) : List (Nat × OB) → Prop
  | [] => True
  | (l, ob) :: r => s.hp l = some ob ∧ rowsLe s r
def St.le (s : St) (i : Inv) : Prop := rowsLe s i.rows ∧ slotsLe s i.rows i.slots

inductive AEx where
  | normal | exit (id : Nat) | ret
def AEx.then (next : St → Prop) (Q : AEx → St → Prop) : AEx → St → Prop
  | .normal, s => next s
  | e, s => Q e s
def AEx.inBlock (id : Nat) (Q : AEx → St → Prop) : AEx → St → Prop
  | .exit j, s => bif Nat.beq j id then Q .normal s else Q (.exit j) s
  | e, s => Q e s

def ACode (P : Program) (Θ : Tab) (n : Nat) : Code → (AEx → St → Prop) → St → Prop
  | .skip, Q, s => Q .normal s
  | .label _, Q, s => Q .normal s
  | .region _ ops draw, Q, s => (draw = true → Region.lexB .any ops = true) ∧ AOps P Θ n ops draw 0 ops.toList s (Q .normal)
  | .seq a b, Q, s => ACode P Θ n a (AEx.then (ACode P Θ n b Q) Q) s ∨ ∃ (ι : Type) (I : ι → Inv), ACode P Θ n a (AEx.then (fun s' => ∃ j, s'.le (I j)) Q) s ∧ ∀ j, ACode P Θ n b Q (I j).st
  | .cond c x y, Q, s => ∃ b, s.ev c = .v (.bool b) ∧ (match b with | true => ACode P Θ n x Q s | false => ACode P Θ n y Q s)
  | .block id c, Q, s => ACode P Θ n c (AEx.inBlock id Q) s
  | .loop c, Q, s => ∃ (ι : Type) (I : ι → Inv) (μ : ι → Nat), (∃ i, s.le (I i)) ∧ ∀ i, ACode P Θ n c (AEx.then (fun s' => ∃ j, s'.le (I j) ∧ μ j < μ i) Q) (I i).st
  | .exit id, Q, s => Q (.exit id) s
  | .ret, Q, s => Q .ret s
  | _, _, _ => False
end Go.Proofs.Ytciacgmdeaihlaa.AM
