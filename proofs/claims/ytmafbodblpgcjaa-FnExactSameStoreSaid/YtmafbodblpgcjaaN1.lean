/- The machine over data, second make (N1): data and what reads as them. -/
import Derived.Test.YtmafbodblpgcjaaRows
import Derived.WalkKit
import Derived.WalkLawsBesides
import Derived.Lib.Hide
import Derived.Deep.Draws
import Derived.Deep.Slices
import Derived.Deep.AppendLies
import Derived.Deep.Quiet
import Derived.ChangeSame
namespace Go.Proofs.Ytmafbodblpgcjaa.AM
open Go Go.RowKit
set_option linter.unusedVariables false
set_option linter.unusedSimpArgs false

/-- data: scalars, structs and lists that may only be read (agg, lst, ptr), rows of the call's own by their label (own, optr, mapv), a struct's value with such labels among its parts (mix; there rd x is what may only be read), a function's value, an interface's. -/
inductive AV where
  | any
  | v (x : Value)
  | agg (xs : List AV)
  | lst (sz : Nat) (xs : List AV)
  | ptr (x : AV)
  | own (l : Nat)
  | optr (l i : Nat) (p : List Nat) (c : Nat)
  | tup (xs : List AV)
  | mapv (l : Nat)
  | mix (xs : List AV)
  | rd (x : AV)
  | fn (f : FuncId) (xs ys : List AV)
  | ifc (t : TypeId) (x : AV)
  deriving Inhabited

mutual
def asz : AV → Nat
  | .agg xs => aszs xs
  | .mix xs => aszs xs
  | .rd x => asz x
  | _ => 1
def aszs : List AV → Nat
  | [] => 0
  | x :: xs => asz x + aszs xs
end

mutual
/-- the cells cs read as the datum, every row that is met lying in blocks of S -/
def RA (S : Nat → Prop) (w : World) : AV → List Value → Prop
  | .v x, cs => cs = [x] ∧ x.oneCell' = true
  | .agg xs, cs => RL S w xs cs
  | .lst sz xs, cs => ∃ A c, cs = [.slice A xs.length c] ∧ xs.length ≤ c ∧ c ≤ maxLen ∧ (∀ x ∈ xs, asz x = sz) ∧ 0 < sz ∧
      (xs = [] ∨ ∃ b off us, A = some ⟨b, off, none⟩ ∧ S b ∧ RL S w xs us ∧ ∀ j u, us[j]? = some u → w.cell? ⟨b, off + j, none⟩ = some u)
  | .ptr x, cs => ∃ b off us, cs = [.pointer (some ⟨b, off, none⟩)] ∧ S b ∧ RA S w x us ∧ ∀ j u, us[j]? = some u → w.cell? ⟨b, off + j, none⟩ = some u
  | _, _ => False
def RL (S : Nat → Prop) (w : World) : List AV → List Value → Prop
  | [], cs => cs = []
  | x :: xs, cs => ∃ c1 c2, cs = c1 ++ c2 ∧ RA S w x c1 ∧ RL S w xs c2
end

/-! ### rows owned in depth: T are the blocks of the rows within -/
def NoT (T : Nat → Prop) : Prop := ∀ g, ¬ T g
def Split (T A B : Nat → Prop) : Prop := (∀ g, T g ↔ (A g ∨ B g)) ∧ ∀ g, A g → ¬ B g
mutual
def RD (w : World) : AV → (Nat → Prop) → List Value → Prop
  | .v x, T, cs => NoT T ∧ cs = [x] ∧ x.oneCell' = true
  | .agg xs, T, cs => RDL w xs T cs
  | .lst sz xs, T, cs => ∃ v t us T', cs = [v] ∧ w.ownsRow 0 t sz v xs.length us ∧ (∀ x ∈ xs, asz x = sz) ∧ 0 < sz ∧ RDL w xs T' us ∧ (∀ g, T g ↔ (v.ownBlock = some g ∨ T' g)) ∧ ∀ g, v.ownBlock = some g → ¬ T' g
  | _, _, _ => False
def RDL (w : World) : List AV → (Nat → Prop) → List Value → Prop
  | [], T, cs => cs = [] ∧ NoT T
  | x :: xs, T, cs => ∃ c1 c2 T1 T2, cs = c1 ++ c2 ∧ Split T T1 T2 ∧ RD w x T1 c1 ∧ RDL w xs T2 c2
end

/-- a row's kind: s: its lists are read alone; z: as a type's zero value, it owns nothing within; d: it owns its lists in depth; u: so too, the elements' type unknown; o: so too, but the element at i is y, where labels may stand -/
inductive ET where
  | s (t : Nat)
  | z (t : Nat)
  | d (t : Nat)
  | u
  | o (t : Option Nat) (i : Nat) (y : AV)
instance (n : Nat) : OfNat ET n := ⟨.s n⟩
instance : Coe Nat ET := ⟨.s⟩
def ET.typ : ET → Option Nat
  | .s t => some t
  | .z t => some t
  | .d t => some t
  | .u => none
  | .o t _ _ => t
def ET.shut : ET → Bool
  | .o _ _ _ => false
  | _ => true

structure OB where
  e : ET
  sz : Nat
  xs : List AV

mutual
def AV.names (l : Nat) : AV → Bool
  | .own l' => Nat.beq l' l
  | .optr l' _ _ _ => Nat.beq l' l
  | .mapv l' => Nat.beq l' l
  | .tup xs => namesL l xs
  | .mix xs => namesL l xs
  | .fn _ xs ys => namesL l xs || namesL l ys
  | .ifc _ x => x.names l
  | _ => false
def namesL (l : Nat) : List AV → Bool
  | [] => false
  | x :: xs => x.names l || namesL l xs
end
mutual
/-- every label that is named is one of p's -/
def AV.within (p : Nat → Bool) : AV → Bool
  | .own l => p l
  | .optr l _ _ _ => p l
  | .mapv l => p l
  | .tup xs => withinL p xs
  | .mix xs => withinL p xs
  | .fn _ xs ys => withinL p xs && withinL p ys
  | .ifc _ x => x.within p
  | _ => true
def withinL (p : Nat → Bool) : List AV → Bool
  | [] => true
  | x :: xs => x.within p && withinL p xs
end
mutual
theorem within_names {p : Nat → Bool} {l : Nat} : ∀ (x : AV), x.within p = true → x.names l = true → p l = true
  | .own l', h, n => by simp only [AV.within] at h; simp only [AV.names] at n; rw [Nat.eq_of_beq_eq_true n] at h; exact h
  | .optr l' _ _ _, h, n => by simp only [AV.within] at h; simp only [AV.names] at n; rw [Nat.eq_of_beq_eq_true n] at h; exact h
  | .mapv l', h, n => by simp only [AV.within] at h; simp only [AV.names] at n; rw [Nat.eq_of_beq_eq_true n] at h; exact h
  | .tup xs, h, n => by simp only [AV.within] at h; simp only [AV.names] at n; exact withinL_names xs h n
  | .mix xs, h, n => by simp only [AV.within] at h; simp only [AV.names] at n; exact withinL_names xs h n
  | .fn _ xs ys, h, n => by
    simp only [AV.within, Bool.and_eq_true] at h; simp only [AV.names, Bool.or_eq_true] at n
    rcases n with n | n
    · exact withinL_names xs h.1 n
    · exact withinL_names ys h.2 n
  | .ifc _ x, h, n => by simp only [AV.within] at h; simp only [AV.names] at n; exact within_names x h n
  | .any, _, n => by simp [AV.names] at n
  | .v _, _, n => by simp [AV.names] at n
  | .agg _, _, n => by simp [AV.names] at n
  | .lst _ _, _, n => by simp [AV.names] at n
  | .ptr _, _, n => by simp [AV.names] at n
  | .rd _, _, n => by simp [AV.names] at n
theorem withinL_names {p : Nat → Bool} {l : Nat} : ∀ (xs : List AV), withinL p xs = true → namesL l xs = true → p l = true
  | [], _, n => by simp [namesL] at n
  | x :: xs, h, n => by
    simp only [withinL, Bool.and_eq_true] at h; simp only [namesL, Bool.or_eq_true] at n
    rcases n with n | n
    · exact within_names x h.1 n
    · exact withinL_names xs h.2 n
end
mutual
/-- a label that a datum of an open row names is forgotten -/
def killA (l : Nat) : AV → AV
  | .own l' => bif Nat.beq l' l then .any else .own l'
  | .optr l' i p c => bif Nat.beq l' l then .any else .optr l' i p c
  | .mapv l' => bif Nat.beq l' l then .any else .mapv l'
  | .mix xs => .mix (killL l xs)
  | .fn f xs ys => bif namesL l xs || namesL l ys then .any else .fn f xs ys
  | .ifc t x => bif x.names l then .any else .ifc t x
  | .tup _ => .any
  | x => x
def killL (l : Nat) : List AV → List AV
  | [] => []
  | x :: xs => killA l x :: killL l xs
end
def killE (l : Nat) : ET → ET
  | .o t i y => .o t i (killA l y)
  | e => e
def killO (l : Nat) : Option OB → Option OB
  | some ⟨e, sz, xs⟩ => some ⟨killE l e, sz, xs⟩
  | none => none

structure St where
  sl : Nat → AV
  hp : Nat → Option OB
  mp : Nat → Option (List (ByteArray × AV))

def St.ev (s : St) : Operand → AV
  | .tmp t => s.sl t
  | .const c => .v c
  | .func f => .fn f [] []
  | _ => .any
def St.put (s : St) (d : Option Tmp) (x : AV) : St :=
  match d with
  | some t => ⟨fun j => bif Nat.beq j t then x else s.sl j, s.hp, s.mp⟩
  | none => s
def St.set (s : St) (l : Nat) (o : Option OB) : St := ⟨s.sl, fun j => bif Nat.beq j l then o else s.hp j, fun j => bif Nat.beq j l then none else s.mp j⟩
/-- a map's entries -/
def St.setM (s : St) (l : Nat) (o : List (ByteArray × AV)) : St := ⟨s.sl, s.hp, fun j => bif Nat.beq j l then some o else s.mp j⟩
/-- nothing names l any more -/
def St.kill (s : St) (l : Nat) : St := ⟨fun j => bif (s.sl j).names l then .any else s.sl j, fun j => killO l (s.hp j), s.mp⟩
/-- a row comes to another label; who named either forgets it -/
def St.relab (s : St) (l L : Nat) (ob : OB) : St := ⟨fun j => bif (s.sl j).names l || (s.sl j).names L then .any else s.sl j, fun j => bif Nat.beq j L then some ob else bif Nat.beq j l then none else killO l (killO L (s.hp j)), fun j => bif Nat.beq j L || Nat.beq j l then none else s.mp j⟩

mutual
/-- a slot's value -/
def RV (S : Nat → Prop) (w : World) (hp : Nat → Option OB) (B : Nat → Nat) (V : Nat → Value) : AV → Value → Prop
  | .any, _ => True
  | .v x, u => u = x ∧ x.oneCell' = true
  | .agg xs, u => ∃ cs, u = .agg cs.toArray ∧ RL S w xs cs
  | .lst sz xs, u => RA S w (.lst sz xs) [u]
  | .ptr x, u => RA S w (.ptr x) [u]
  | .own l, u => (∃ ob, hp l = some ob) ∧ u = V l
  | .optr l i _ c, u => ∃ ob, hp l = some ob ∧ u = .pointer (some ⟨B l, i * ob.sz + c, none⟩)
  | .tup xs, u => ∃ us, u = .tuple us.toArray ∧ RVs S w hp B V xs us
  | .mapv l, u => (∃ ob, hp l = some ob) ∧ u = .map (some (B l))
  | .mix xs, u => ∃ cs, u = .agg cs.toArray ∧ ROs S w hp B V xs (fun _ => False) cs
  | .rd _, _ => False
  | .fn f xs ys, u => ∃ us vs, u = .func (.func f) us.toArray vs.toArray ∧ RVs S w hp B V xs us ∧ RVs S w hp B V ys vs
  | .ifc t x, u => ∃ u', u = .iface t u' ∧ RV S w hp B V x u'
def RVs (S : Nat → Prop) (w : World) (hp : Nat → Option OB) (B : Nat → Nat) (V : Nat → Value) : List AV → List Value → Prop
  | [], us => us = []
  | x :: xs, us => ∃ u us', us = u :: us' ∧ RV S w hp B V x u ∧ RVs S w hp B V xs us'
/-- the cells of an open row's element -/
def RO1 (S : Nat → Prop) (w : World) (hp : Nat → Option OB) (B : Nat → Nat) (V : Nat → Value) : AV → (Nat → Prop) → List Value → Prop
  | .own l, T, cs => NoT T ∧ (∃ ob, hp l = some ob) ∧ cs = [V l] ∧ (V l).oneCell' = true
  | .optr l i _ c, T, cs => NoT T ∧ ∃ ob, hp l = some ob ∧ cs = [.pointer (some ⟨B l, i * ob.sz + c, none⟩)]
  | .mapv l, T, cs => NoT T ∧ (∃ ob, hp l = some ob) ∧ cs = [.map (some (B l))]
  | .mix xs, T, cs => ROs S w hp B V xs T cs
  | .rd x, T, cs => NoT T ∧ RA S w x cs
  | .fn f xs ys, T, cs => NoT T ∧ ∃ us vs, cs = [.func (.func f) us.toArray vs.toArray] ∧ RVs S w hp B V xs us ∧ RVs S w hp B V ys vs
  | .ifc t x, T, cs => NoT T ∧ ∃ u, cs = [.iface t u] ∧ RV S w hp B V x u
  | .any, T, cs => NoT T ∧ ∃ u, cs = [u] ∧ u.oneCell' = true
  | .v x, T, cs => RD w (.v x) T cs
  | .agg xs, T, cs => RD w (.agg xs) T cs
  | .lst sz xs, T, cs => RD w (.lst sz xs) T cs
  | .ptr _, _, _ => False
  | .tup _, _, _ => False
def ROs (S : Nat → Prop) (w : World) (hp : Nat → Option OB) (B : Nat → Nat) (V : Nat → Value) : List AV → (Nat → Prop) → List Value → Prop
  | [], T, cs => cs = [] ∧ NoT T
  | x :: xs, T, cs => ∃ c1 c2 T1 T2, cs = c1 ++ c2 ∧ Split T T1 T2 ∧ RO1 S w hp B V x T1 c1 ∧ ROs S w hp B V xs T2 c2
end

/-- a row's cells, by its kind -/
def RK (S : Nat → Prop) (w : World) (hp : Nat → Option OB) (B : Nat → Nat) (V : Nat → Value) (sz : Nat) (xs : List AV) (T : Nat → Prop) (cs : List Value) : ET → Prop
  | .s _ => RL S w xs cs
  | .z _ => NoT T ∧ RDL w xs T cs
  | .d _ => RDL w xs T cs
  | .u => RDL w xs T cs
  | .o _ i y => i < xs.length ∧ asz y = sz ∧ ∃ c0 c1 c2 T0 T' T1 T2, cs = c0 ++ (c1 ++ c2) ∧ Split T T0 T' ∧ Split T' T1 T2 ∧ RDL w (xs.take i) T0 c0 ∧ RO1 S w hp B V y T1 c1 ∧ RDL w (xs.drop (i + 1)) T2 c2
/-- a row of the call's own: its value is v, in block b -/
def RO (S : Nat → Prop) (w : World) (hp : Nat → Option OB) (B : Nat → Nat) (V : Nat → Value) (T : Nat → Prop) (ob : OB) (b : Nat) (v : Value) : Prop :=
  ∃ t cs, (∀ t', ob.e.typ = some t' → t = t') ∧ RK S w hp B V ob.sz ob.xs T cs ob.e ∧ (∀ x ∈ ob.xs, asz x = ob.sz) ∧ 0 < ob.sz ∧ w.ownsRow 0 t ob.sz v ob.xs.length cs ∧ ∀ g, v.ownBlock = some g → g = b

/-- what a map's entries are -/
def MapR : List (ByteArray × AV) → List MapEntry → Prop
  | [], es => es = []
  | (k, y) :: xs, es => ∃ e r, es = e :: r ∧ e.key = .string k ∧ (∀ S w hp B V, RV S w hp B V y e.val) ∧ MapR xs r

/-- the blocks that a label stands for -/
def Blk (V : Nat → Value) (T : Nat → Nat → Prop) (l g : Nat) : Prop := (V l).ownBlock = some g ∨ T l g
/-- the call's own rows -/
structure Rows (S : Nat → Prop) (w : World) (hp : Nat → Option OB) (mp : Nat → Option (List (ByteArray × AV))) (B : Nat → Nat) (V : Nat → Value) (T : Nat → Nat → Prop) (lo : Nat → Prop) : Prop where
  ro : ∀ l ob, hp l = some ob → RO S w hp B V (T l) ob (B l) (V l)
  me : ∀ l ob g, hp l = some ob → Blk V T l g → ¬ S g ∧ g < w.heap.size ∧ lo g
  nd : ∀ l ob g, hp l = some ob → (V l).ownBlock = some g → ¬ T l g
  ds : ∀ l l' ob ob' g, hp l = some ob → hp l' = some ob' → Blk V T l g → Blk V T l' g → l = l'
  mp : ∀ l es, mp l = some es → (∃ t sz, hp l = some ⟨.s t, sz, []⟩) ∧ T l (B l) ∧ ∃ arr clock, w.heap[B l]? = some (.map arr clock) ∧ MapR es arr.toList

/-- what the caller has handed over: the blocks, and the labels' blocks and values -/
structure Hand where
  bl : Nat → Prop
  pin : Nat → Option (Nat × Value)
def noHand : Hand := ⟨fun _ => False, fun _ => none⟩
/-- a label that nothing is handed over under -/
def okL (l : Nat) : Bool := Nat.blt 0 l && Nat.blt l 1000000
structure Grown (a b : World) (M : Nat → Prop) : Prop where
  os : b.os = a.os
  tape : b.tape = a.tape
  output : b.output = a.output
  size : a.heap.size ≤ b.heap.size
  block : ∀ k, k < a.heap.size → ¬ M k → b.heap[k]? = a.heap[k]?

structure SimW (W : World) (M : Hand) (S0 : Nat → Prop) (s : St) (tmps : Array Value) (w : World) (S : Nat → Prop) (B : Nat → Nat) (V : Nat → Value) (T : Nat → Nat → Prop) : Prop where
  below : Grown W w M.bl
  s0 : ∀ b, S0 b → S b
  slt : ∀ b, S b → b < w.heap.size ∧ (S0 b ∨ W.heap.size ≤ b ∨ M.bl b)
  sl : ∀ t, RV S w s.hp B V (s.sl t) (tmps.getD t undef)
  rows : Rows S w s.hp s.mp B V T (fun g => W.heap.size ≤ g ∨ M.bl g)
  pin : ∀ l b u, M.pin l = some (b, u) → okL l = false ∧ B l = b ∧ V l = u

def Sim (W : World) (M : Hand) (S0 : Nat → Prop) (n : Nat) (s : St) (a : Act) (w : World) : Prop :=
  a.tmps.size = n ∧ a.defers = [] ∧ ∃ S B V T, SimW W M S0 s a.tmps w S B V T

theorem Grown.refl (w : World) (M : Nat → Prop) : Grown w w M := ⟨rfl, rfl, rfl, Nat.le_refl _, fun _ _ _ => rfl⟩
theorem Grown.trans {a b c : World} {M r : Nat → Prop} (h : Grown a b M) (k : Grown b c r) (hr : ∀ g, r g → g < a.heap.size → M g) : Grown a c M :=
  ⟨k.os.trans h.os, k.tape.trans h.tape, k.output.trans h.output, Nat.le_trans h.size k.size, fun i hi hM => (k.block i (Nat.lt_of_lt_of_le hi h.size) (fun e => hM (hr i e hi))).trans (h.block i hi hM)⟩
theorem Grown.of {a b : World} (h : Below a.heap.size a b) (M : Nat → Prop) : Grown a b M := ⟨h.os, h.tape, h.output, h.size, fun k hk _ => h.block k hk⟩
theorem Grown.below {a b : World} {M : Nat → Prop} (h : Grown a b M) (hM : NoT M) : Below a.heap.size a b := ⟨h.os, h.tape, h.output, h.size, fun k hk => h.block k hk (hM k)⟩
theorem Grown.by {a b : World} {r : Option Nat} (h : a.grownBy b r) : Grown a b (fun g => r = some g) := ⟨h.os, h.tape, h.output, h.size, fun k hk hn => h.block k hk (fun e => hn e.symm)⟩

/-! ### the words carry over -/
section
variable {S S' : Nat → Prop} {w w' : World}
theorem cell_same {b : Nat} (hw : w'.heap[b]? = w.heap[b]?) (o : Nat) : w'.cell? ⟨b, o, none⟩ = w.cell? ⟨b, o, none⟩ := World.cell?_of_block (a := ⟨b, o, none⟩) hw
mutual
theorem RA.mono (hS : ∀ b, S b → S' b) (hw : ∀ b, S b → w'.heap[b]? = w.heap[b]?) : ∀ (x : AV) (cs : List Value), RA S w x cs → RA S' w' x cs
  | .v x, cs, h => by unfold RA at h ⊢; exact h
  | .agg xs, cs, h => by unfold RA at h ⊢; exact RL.mono hS hw xs cs h
  | .lst sz xs, cs, h => by
    unfold RA at h ⊢
    obtain ⟨A, c, h1, h2, h3, h4, h4', h5⟩ := h
    refine ⟨A, c, h1, h2, h3, h4, h4', ?_⟩
    rcases h5 with h5 | ⟨b, off, us, e, hb, hr, hc⟩
    · exact .inl h5
    · exact .inr ⟨b, off, us, e, hS b hb, RL.mono hS hw xs us hr, fun j u hu => (cell_same (hw b hb) _).trans (hc j u hu)⟩
  | .ptr x, cs, h => by
    unfold RA at h ⊢
    obtain ⟨b, off, us, e, hb, hr, hc⟩ := h
    exact ⟨b, off, us, e, hS b hb, RA.mono hS hw x us hr, fun j u hu => (cell_same (hw b hb) _).trans (hc j u hu)⟩
  | .any, cs, h | .own _, cs, h | .optr _ _ _ _, cs, h | .tup _, cs, h | .mapv _, cs, h | .mix _, cs, h | .rd _, cs, h | .fn _ _ _, cs, h | .ifc _ _, cs, h => by unfold RA at h; exact h.elim
theorem RL.mono (hS : ∀ b, S b → S' b) (hw : ∀ b, S b → w'.heap[b]? = w.heap[b]?) : ∀ (xs : List AV) (cs : List Value), RL S w xs cs → RL S' w' xs cs
  | [], cs, h => by unfold RL at h ⊢; exact h
  | x :: xs, cs, h => by
    unfold RL at h ⊢
    obtain ⟨c1, c2, e, h1, h2⟩ := h
    exact ⟨c1, c2, e, RA.mono hS hw x c1 h1, RL.mono hS hw xs c2 h2⟩
end
mutual
theorem RA.size : ∀ (x : AV) (cs : List Value), RA S w x cs → cs.length = asz x
  | .v x, cs, h => by unfold RA at h; rw [h.1]; rfl
  | .agg xs, cs, h => by unfold RA at h; unfold asz; exact RL.size xs cs h
  | .lst sz xs, cs, h => by unfold RA at h; obtain ⟨A, c, h1, _⟩ := h; rw [h1]; rfl
  | .ptr x, cs, h => by unfold RA at h; obtain ⟨A, c, _, h1, _⟩ := h; rw [h1]; rfl
  | .any, cs, h | .own _, cs, h | .optr _ _ _ _, cs, h | .tup _, cs, h | .mapv _, cs, h | .mix _, cs, h | .rd _, cs, h | .fn _ _ _, cs, h | .ifc _ _, cs, h => by unfold RA at h; exact h.elim
theorem RL.size : ∀ (xs : List AV) (cs : List Value), RL S w xs cs → cs.length = aszs xs
  | [], cs, h => by unfold RL at h; rw [h]; rfl
  | x :: xs, cs, h => by
    unfold RL at h
    obtain ⟨c1, c2, e, h1, h2⟩ := h
    unfold aszs
    rw [e, List.length_append, RA.size x c1 h1, RL.size xs c2 h2]
end
mutual
theorem RA.one : ∀ (x : AV) (cs : List Value), RA S w x cs → ∀ u ∈ cs, u.oneCell' = true
  | .v x, cs, h => by unfold RA at h; rw [h.1]; simpa using h.2
  | .agg xs, cs, h => by unfold RA at h; exact RL.one xs cs h
  | .lst sz xs, cs, h => by unfold RA at h; obtain ⟨A, c, h1, _⟩ := h; rw [h1]; simp [Value.oneCell']
  | .ptr x, cs, h => by unfold RA at h; obtain ⟨A, c, _, h1, _⟩ := h; rw [h1]; simp [Value.oneCell']
  | .any, cs, h | .own _, cs, h | .optr _ _ _ _, cs, h | .tup _, cs, h | .mapv _, cs, h | .mix _, cs, h | .rd _, cs, h | .fn _ _ _, cs, h | .ifc _ _, cs, h => by unfold RA at h; exact h.elim
theorem RL.one : ∀ (xs : List AV) (cs : List Value), RL S w xs cs → ∀ u ∈ cs, u.oneCell' = true
  | [], cs, h => by unfold RL at h; rw [h]; simp
  | x :: xs, cs, h => by
    unfold RL at h
    obtain ⟨c1, c2, e, h1, h2⟩ := h
    intro u hu
    rw [e, List.mem_append] at hu
    rcases hu with hu | hu
    · exact RA.one x c1 h1 u hu
    · exact RL.one xs c2 h2 u hu
end
theorem RL.app : ∀ {xs ys : List AV} {cs ds : List Value}, RL S w xs cs → RL S w ys ds → RL S w (xs ++ ys) (cs ++ ds)
  | [], ys, cs, ds, h, k => by unfold RL at h; subst h; exact k
  | x :: xs, ys, cs, ds, h, k => by
    unfold RL at h
    obtain ⟨c1, c2, e, h1, h2⟩ := h
    show RL S w (x :: (xs ++ ys)) _
    unfold RL
    exact ⟨c1, c2 ++ ds, by rw [e, List.append_assoc], h1, RL.app h2 k⟩
theorem RL.sing {x : AV} {cs : List Value} (h : RA S w x cs) : RL S w [x] cs := by
  unfold RL; exact ⟨cs, [], by simp, h, by unfold RL; rfl⟩
theorem RL.ofSing {x : AV} {cs : List Value} (h : RL S w [x] cs) : RA S w x cs := by
  unfold RL at h; obtain ⟨c1, c2, e, h1, h2⟩ := h; unfold RL at h2; subst h2; rw [e, List.append_nil]; exact h1
theorem aszs_const {sz : Nat} : ∀ {xs : List AV}, (∀ x ∈ xs, asz x = sz) → aszs xs = xs.length * sz
  | [], _ => by unfold aszs; simp
  | x :: xs, h => by
    unfold aszs
    rw [h x (by simp), aszs_const (fun y hy => h y (List.mem_cons_of_mem _ hy)), List.length_cons, Nat.add_mul, Nat.one_mul, Nat.add_comm]
/-- the part of the cells that belongs to the datum at place i -/
theorem RL.at : ∀ {xs : List AV} {cs : List Value} (i : Nat) {x : AV}, RL S w xs cs → xs[i]? = some x → ∃ us, RA S w x us ∧ aszs (xs.take i) + us.length ≤ cs.length ∧ (cs.drop (aszs (xs.take i))).take us.length = us ∧ ∀ j u, us[j]? = some u → cs[aszs (xs.take i) + j]? = some u
  | [], _, i, x, _, h => by simp at h
  | y :: xs, cs, 0, x, h, hx => by
    unfold RL at h
    obtain ⟨c1, c2, e, h1, h2⟩ := h
    simp at hx; subst hx
    refine ⟨c1, h1, ?_, ?_, ?_⟩
    · rw [e]; simp [aszs]
    · rw [e]; simp [aszs]
    · intro j u hu; rw [e]; simp [aszs]; rw [List.getElem?_append_left (List.getElem?_eq_some_iff.1 hu).1]; exact hu
  | y :: xs, cs, i + 1, x, h, hx => by
    unfold RL at h
    obtain ⟨c1, c2, e, h1, h2⟩ := h
    simp at hx
    obtain ⟨us, k1, k2, k3, k4⟩ := RL.at i h2 hx
    have hs := RA.size y c1 h1
    have ha : aszs ((y :: xs).take (i + 1)) = c1.length + aszs (xs.take i) := by rw [List.take_succ_cons]; rw [aszs, hs]
    refine ⟨us, k1, ?_, ?_, ?_⟩
    · rw [ha, e, List.length_append]; omega
    · rw [ha, e, List.drop_append, List.drop_eq_nil_of_le (by omega), List.nil_append, Nat.add_sub_cancel_left]; exact k3
    · intro j u hu; rw [ha, e, Nat.add_assoc, List.getElem?_append_right (by omega), Nat.add_sub_cancel_left]; exact k4 j u hu
end

/-! ### in depth -/
theorem Split.left {T A B : Nat → Prop} (h : Split T A B) {g : Nat} (k : A g) : T g := (h.1 g).2 (.inl k)
theorem Split.right {T A B : Nat → Prop} (h : Split T A B) {g : Nat} (k : B g) : T g := (h.1 g).2 (.inr k)
theorem Split.none {T A B : Nat → Prop} (h : Split T A B) (n : NoT T) : NoT A ∧ NoT B := ⟨fun g k => n g (h.left k), fun g k => n g (h.right k)⟩
theorem noF : NoT (fun _ => False) := fun _ h => h
theorem Split.l0 {T A : Nat → Prop} (h : NoT A) : Split T A T := ⟨fun g => ⟨.inr, fun k => k.elim (fun k => (h g k).elim) id⟩, fun g k => (h g k).elim⟩
theorem Split.r0 {T B : Nat → Prop} (h : NoT B) : Split T T B := ⟨fun g => ⟨.inl, fun k => k.elim id (fun k => (h g k).elim)⟩, fun g _ k => h g k⟩
theorem NoT.eq {A B : Nat → Prop} (h : NoT A) (k : NoT B) : A = B := funext fun g => propext ⟨fun x => (h g x).elim, fun x => (k g x).elim⟩
theorem Split.eqr {T A B : Nat → Prop} (h : Split T A B) (n : NoT A) : T = B := funext fun g => propext ⟨fun x => ((h.1 g).1 x).elim (fun y => (n g y).elim) id, fun x => h.right x⟩
theorem Split.eql {T A B : Nat → Prop} (h : Split T A B) (n : NoT B) : T = A := funext fun g => propext ⟨fun x => ((h.1 g).1 x).elim id (fun y => (n g y).elim), fun x => h.left x⟩
section
variable {w w' : World}
theorem owns_carry {t sz n : Nat} {v : Value} {us : List Value} (h : w.ownsRow 0 t sz v n us) (hw : ∀ g, v.ownBlock = some g → w'.heap[g]? = w.heap[g]?) : w'.ownsRow 0 t sz v n us := by
  refine ⟨h.1, ?_⟩
  rcases h.2 with k | ⟨g, cap, cur, e, hb, hh, r⟩
  · exact .inl k
  · subst e; exact .inr ⟨g, cap, cur, rfl, hb, (hw g rfl).trans hh, r⟩
mutual
theorem RD.mono : ∀ (x : AV) (T : Nat → Prop) (cs : List Value), (∀ g, T g → w'.heap[g]? = w.heap[g]?) → RD w x T cs → RD w' x T cs
  | .v x, T, cs, _, h => by unfold RD at h ⊢; exact h
  | .agg xs, T, cs, hw, h => by unfold RD at h ⊢; exact RDL.mono xs T cs hw h
  | .lst sz xs, T, cs, hw, h => by
    unfold RD at h ⊢
    obtain ⟨v, t, us, T', h1, h2, h3, h4, h5, h6, h7⟩ := h
    exact ⟨v, t, us, T', h1, owns_carry h2 (fun g hg => hw g ((h6 g).2 (.inl hg))), h3, h4, RDL.mono xs T' us (fun g hg => hw g ((h6 g).2 (.inr hg))) h5, h6, h7⟩
  | .any, T, cs, _, h | .ptr _, T, cs, _, h | .own _, T, cs, _, h | .optr _ _ _ _, T, cs, _, h | .tup _, T, cs, _, h | .mapv _, T, cs, _, h | .mix _, T, cs, _, h | .rd _, T, cs, _, h | .fn _ _ _, T, cs, _, h | .ifc _ _, T, cs, _, h => by unfold RD at h; exact h.elim
theorem RDL.mono : ∀ (xs : List AV) (T : Nat → Prop) (cs : List Value), (∀ g, T g → w'.heap[g]? = w.heap[g]?) → RDL w xs T cs → RDL w' xs T cs
  | [], T, cs, _, h => by unfold RDL at h ⊢; exact h
  | x :: xs, T, cs, hw, h => by
    unfold RDL at h ⊢
    obtain ⟨c1, c2, T1, T2, e, hs, h1, h2⟩ := h
    exact ⟨c1, c2, T1, T2, e, hs, RD.mono x T1 c1 (fun g hg => hw g (hs.left hg)) h1, RDL.mono xs T2 c2 (fun g hg => hw g (hs.right hg)) h2⟩
end
mutual
theorem RD.size : ∀ (x : AV) (T : Nat → Prop) (cs : List Value), RD w x T cs → cs.length = asz x
  | .v x, T, cs, h => by unfold RD at h; rw [h.2.1]; rfl
  | .agg xs, T, cs, h => by unfold RD at h; unfold asz; exact RDL.size xs T cs h
  | .lst sz xs, T, cs, h => by unfold RD at h; obtain ⟨v, t, us, T', h1, _⟩ := h; rw [h1]; rfl
  | .any, T, cs, h | .ptr _, T, cs, h | .own _, T, cs, h | .optr _ _ _ _, T, cs, h | .tup _, T, cs, h | .mapv _, T, cs, h | .mix _, T, cs, h | .rd _, T, cs, h | .fn _ _ _, T, cs, h | .ifc _ _, T, cs, h => by unfold RD at h; exact h.elim
theorem RDL.size : ∀ (xs : List AV) (T : Nat → Prop) (cs : List Value), RDL w xs T cs → cs.length = aszs xs
  | [], T, cs, h => by unfold RDL at h; rw [h.1]; rfl
  | x :: xs, T, cs, h => by
    unfold RDL at h
    obtain ⟨c1, c2, T1, T2, e, hs, h1, h2⟩ := h
    unfold aszs
    rw [e, List.length_append, RD.size x T1 c1 h1, RDL.size xs T2 c2 h2]
end
mutual
theorem RD.one : ∀ (x : AV) (T : Nat → Prop) (cs : List Value), RD w x T cs → ∀ u ∈ cs, u.oneCell' = true
  | .v x, T, cs, h => by unfold RD at h; rw [h.2.1]; simpa using h.2.2
  | .agg xs, T, cs, h => by unfold RD at h; exact RDL.one xs T cs h
  | .lst sz xs, T, cs, h => by
    unfold RD at h
    obtain ⟨v, t, us, T', h1, h2, _⟩ := h
    rw [h1]
    rcases h2.2 with ⟨rfl, _⟩ | ⟨g, cap, cur, rfl, _⟩ <;> simp [Value.oneCell']
  | .any, T, cs, h | .ptr _, T, cs, h | .own _, T, cs, h | .optr _ _ _ _, T, cs, h | .tup _, T, cs, h | .mapv _, T, cs, h | .mix _, T, cs, h | .rd _, T, cs, h | .fn _ _ _, T, cs, h | .ifc _ _, T, cs, h => by unfold RD at h; exact h.elim
theorem RDL.one : ∀ (xs : List AV) (T : Nat → Prop) (cs : List Value), RDL w xs T cs → ∀ u ∈ cs, u.oneCell' = true
  | [], T, cs, h => by unfold RDL at h; rw [h.1]; simp
  | x :: xs, T, cs, h => by
    unfold RDL at h
    obtain ⟨c1, c2, T1, T2, e, hs, h1, h2⟩ := h
    intro u hu
    rw [e, List.mem_append] at hu
    rcases hu with hu | hu
    · exact RD.one x T1 c1 h1 u hu
    · exact RDL.one xs T2 c2 h2 u hu
end
mutual
theorem RD.lt : ∀ (x : AV) (T : Nat → Prop) (cs : List Value), RD w x T cs → ∀ g, T g → g < w.heap.size
  | .v x, T, cs, h => by unfold RD at h; exact fun g hg => (h.1 g hg).elim
  | .agg xs, T, cs, h => by unfold RD at h; exact RDL.lt xs T cs h
  | .lst sz xs, T, cs, h => by
    unfold RD at h
    obtain ⟨v, t, us, T', h1, h2, _, _, h5, h6, _⟩ := h
    intro g hg
    rcases (h6 g).1 hg with k | k
    · exact (h2.lt g k).2
    · exact RDL.lt xs T' us h5 g k
  | .any, T, cs, h | .ptr _, T, cs, h | .own _, T, cs, h | .optr _ _ _ _, T, cs, h | .tup _, T, cs, h | .mapv _, T, cs, h | .mix _, T, cs, h | .rd _, T, cs, h | .fn _ _ _, T, cs, h | .ifc _ _, T, cs, h => by unfold RD at h; exact h.elim
theorem RDL.lt : ∀ (xs : List AV) (T : Nat → Prop) (cs : List Value), RDL w xs T cs → ∀ g, T g → g < w.heap.size
  | [], T, cs, h => by unfold RDL at h; exact fun g hg => (h.2 g hg).elim
  | x :: xs, T, cs, h => by
    unfold RDL at h
    obtain ⟨c1, c2, T1, T2, e, hs, h1, h2⟩ := h
    intro g hg
    rcases (hs.1 g).1 hg with k | k
    · exact RD.lt x T1 c1 h1 g k
    · exact RDL.lt xs T2 c2 h2 g k
end
theorem owns_ra {S : Nat → Prop} {t sz : Nat} {v : Value} {xs : List AV} {us : List Value} (h : w.ownsRow 0 t sz v xs.length us) (ha : ∀ x ∈ xs, asz x = sz) (h0 : 0 < sz) (hr : RL S w xs us) (hS : ∀ g, v.ownBlock = some g → S g) : RA S w (.lst sz xs) [v] := by
  unfold RA
  rcases h.2 with ⟨rfl, hn⟩ | ⟨g, cap, cur, rfl, hb, hg, hc, hm, hs, ht⟩
  · exact ⟨none, 0, by rw [hn], by omega, by unfold maxLen; omega, ha, h0, .inl (List.eq_nil_of_length_eq_zero hn)⟩
  · refine ⟨_, cap, rfl, hc, hm, ha, h0, .inr ⟨g, 0, us, rfl, hS g rfl, hr, fun j u hu => ?_⟩⟩
    rw [cell_of_row w g (0 + j) cur t (0, 0) hg]
    rw [← ht, List.getElem?_take] at hu
    split at hu
    · simpa using hu
    · cases hu
mutual
theorem RD.toRA {S : Nat → Prop} : ∀ (x : AV) (T : Nat → Prop) (cs : List Value), (∀ g, T g → S g) → RD w x T cs → RA S w x cs
  | .v x, T, cs, _, h => by unfold RD at h; unfold RA; exact h.2
  | .agg xs, T, cs, hS, h => by unfold RD at h; unfold RA; exact RDL.toRL xs T cs hS h
  | .lst sz xs, T, cs, hS, h => by
    unfold RD at h
    obtain ⟨v, t, us, T', rfl, h2, h3, h4, h5, h6, _⟩ := h
    exact owns_ra h2 h3 h4 (RDL.toRL xs T' us (fun g hg => hS g ((h6 g).2 (.inr hg))) h5) (fun g hg => hS g ((h6 g).2 (.inl hg)))
  | .any, T, cs, _, h | .ptr _, T, cs, _, h | .own _, T, cs, _, h | .optr _ _ _ _, T, cs, _, h | .tup _, T, cs, _, h | .mapv _, T, cs, _, h | .mix _, T, cs, _, h | .rd _, T, cs, _, h | .fn _ _ _, T, cs, _, h | .ifc _ _, T, cs, _, h => by unfold RD at h; exact h.elim
theorem RDL.toRL {S : Nat → Prop} : ∀ (xs : List AV) (T : Nat → Prop) (cs : List Value), (∀ g, T g → S g) → RDL w xs T cs → RL S w xs cs
  | [], T, cs, _, h => by unfold RDL at h; unfold RL; exact h.1
  | x :: xs, T, cs, hS, h => by
    unfold RDL at h; unfold RL
    obtain ⟨c1, c2, T1, T2, e, hs, h1, h2⟩ := h
    exact ⟨c1, c2, e, RD.toRA x T1 c1 (fun g hg => hS g (hs.left hg)) h1, RDL.toRL xs T2 c2 (fun g hg => hS g (hs.right hg)) h2⟩
end
mutual
/-- no list within -/
def noLst : AV → Bool
  | .v _ => true
  | .agg xs => noLstL xs
  | _ => false
def noLstL : List AV → Bool
  | [] => true
  | x :: xs => noLst x && noLstL xs
end
mutual
theorem RD.plain : ∀ (x : AV) (T : Nat → Prop) (cs : List Value), noLst x = true → RD w x T cs → NoT T ∧ ∀ S w', RA S w' x cs
  | .v x, T, cs, _, h => by unfold RD at h; exact ⟨h.1, fun S w' => by unfold RA; exact h.2⟩
  | .agg xs, T, cs, hn, h => by
    unfold RD at h; unfold noLst at hn
    obtain ⟨a, b⟩ := RDL.plain xs T cs hn h
    exact ⟨a, fun S w' => by unfold RA; exact b S w'⟩
  | .lst _ _, _, _, hn, _ | .any, _, _, hn, _ | .ptr _, _, _, hn, _ | .own _, _, _, hn, _ | .optr _ _ _ _, _, _, hn, _ | .tup _, _, _, hn, _ | .mapv _, _, _, hn, _ | .mix _, _, _, hn, _ | .rd _, _, _, hn, _ | .fn _ _ _, _, _, hn, _ | .ifc _ _, _, _, hn, _ => by simp [noLst] at hn
theorem RDL.plain : ∀ (xs : List AV) (T : Nat → Prop) (cs : List Value), noLstL xs = true → RDL w xs T cs → NoT T ∧ ∀ S w', RL S w' xs cs
  | [], T, cs, _, h => by unfold RDL at h; exact ⟨h.2, fun S w' => by unfold RL; exact h.1⟩
  | x :: xs, T, cs, hn, h => by
    unfold RDL at h
    simp only [noLstL, Bool.and_eq_true] at hn
    obtain ⟨c1, c2, T1, T2, e, hs, h1, h2⟩ := h
    obtain ⟨a1, b1⟩ := RD.plain x T1 c1 hn.1 h1
    obtain ⟨a2, b2⟩ := RDL.plain xs T2 c2 hn.2 h2
    exact ⟨fun g hg => ((hs.1 g).1 hg).elim (a1 g) (a2 g), fun S w' => by unfold RL; exact ⟨c1, c2, e, b1 S w', b2 S w'⟩⟩
end
mutual
/-- a plain datum that is read is owned as well -/
theorem RA.toRD {S : Nat → Prop} {T : Nat → Prop} (hT : NoT T) : ∀ (x : AV) (cs : List Value), noLst x = true → RA S w x cs → RD w' x T cs
  | .v x, cs, _, h => by unfold RA at h; unfold RD; exact ⟨hT, h⟩
  | .agg xs, cs, hn, h => by unfold RA at h; unfold noLst at hn; unfold RD; exact RL.toRDL hT xs cs hn h
  | .lst _ _, _, hn, _ | .any, _, hn, _ | .ptr _, _, hn, _ | .own _, _, hn, _ | .optr _ _ _ _, _, hn, _ | .tup _, _, hn, _ | .mapv _, _, hn, _ | .mix _, _, hn, _ | .rd _, _, hn, _ | .fn _ _ _, _, hn, _ | .ifc _ _, _, hn, _ => by simp [noLst] at hn
theorem RL.toRDL {S : Nat → Prop} {T : Nat → Prop} (hT : NoT T) : ∀ (xs : List AV) (cs : List Value), noLstL xs = true → RL S w xs cs → RDL w' xs T cs
  | [], cs, _, h => by unfold RL at h; unfold RDL; exact ⟨h, hT⟩
  | x :: xs, cs, hn, h => by
    unfold RL at h
    simp only [noLstL, Bool.and_eq_true] at hn
    obtain ⟨c1, c2, e, h1, h2⟩ := h
    unfold RDL
    exact ⟨c1, c2, T, T, e, Split.l0 hT, RA.toRD hT x c1 hn.1 h1, RL.toRDL hT xs c2 hn.2 h2⟩
end
theorem RDL.app : ∀ {xs ys : List AV} {T A B : Nat → Prop} {cs ds : List Value}, RDL w xs A cs → RDL w ys B ds → Split T A B → RDL w (xs ++ ys) T (cs ++ ds)
  | [], ys, T, A, B, cs, ds, h, k, hs => by
    unfold RDL at h
    rw [h.1, List.nil_append, List.nil_append, hs.eqr h.2]; exact k
  | x :: xs, ys, T, A, B, cs, ds, h, k, hs => by
    unfold RDL at h
    obtain ⟨c1, c2, T1, T2, e, hs', h1, h2⟩ := h
    show RDL w (x :: (xs ++ ys)) _ _
    unfold RDL
    refine ⟨c1, c2 ++ ds, T1, fun g => T2 g ∨ B g, by rw [e, List.append_assoc], ⟨fun g => ?_, fun g a b => ?_⟩, h1, RDL.app h2 k ⟨fun g => Iff.rfl, fun g a b => hs.2 g (hs'.right a) b⟩⟩
    · rw [hs.1 g, hs'.1 g, or_assoc]
    · rcases b with b | b
      · exact hs'.2 g a b
      · exact hs.2 g (hs'.left a) b
theorem RDL.parts : ∀ {xs ys : List AV} {T : Nat → Prop} {cs : List Value}, RDL w (xs ++ ys) T cs → ∃ c1 c2 A B, cs = c1 ++ c2 ∧ Split T A B ∧ RDL w xs A c1 ∧ RDL w ys B c2
  | [], ys, T, cs, h => ⟨[], cs, fun _ => False, T, rfl, Split.l0 noF, by unfold RDL; exact ⟨rfl, noF⟩, h⟩
  | x :: xs, ys, T, cs, h => by
    have h' : RDL w (x :: (xs ++ ys)) T cs := h
    unfold RDL at h'
    obtain ⟨c1, c2, T1, T2, e, hs, h1, h2⟩ := h'
    obtain ⟨d1, d2, A, B, e2, hs2, k1, k2⟩ := RDL.parts h2
    refine ⟨c1 ++ d1, d2, fun g => T1 g ∨ A g, B, by rw [e, e2, List.append_assoc], ⟨fun g => ?_, fun g a b => ?_⟩, ?_, k2⟩
    · rw [hs.1 g, hs2.1 g, or_assoc]
    · rcases a with a | a
      · exact hs.2 g a (hs2.right b)
      · exact hs2.2 g a b
    · unfold RDL
      exact ⟨c1, d1, T1, A, rfl, ⟨fun g => Iff.rfl, fun g a b => hs.2 g a (hs2.left b)⟩, h1, k1⟩
end
end Go.Proofs.Ytmafbodblpgcjaa.AM
