/- Texts of the machine over data, folded. -/
import Derived.Test.YtodckioppgjbdaaGreatDoorRows
import Derived.WalkKit
import Derived.WalkLawsBesides
import Derived.Lib.Hide
import Derived.Deep.Draws
import Derived.Deep.Slices
import Derived.Deep.AppendLies
import Derived.Deep.Quiet
import Derived.ChangeSame
set_option linter.unusedVariables false
set_option linter.unusedSimpArgs false
namespace Go.Proofs.YtodckioppgjbdaaGreatDoor.AM
open Go Go.RowKit
inductive AV where
 | any
 | v (x : Value)
 | agg (xs : List AV)
 | lst (sz : Nat) (xs : List AV)
 | ptr (x : AV)
 | own (l : Nat)
 | optr (l i : Nat) (p : List Nat) (c : Nat)
 | tup (xs : List AV)
 | mapv (l : Nat)
 | mix (xs : List AV)
 | rd (x : AV)
 | fn (f : FuncId) (xs ys : List AV)
 | ifc (t : TypeId) (x : AV)
 deriving Inhabited
mutual
def asz : AV → Nat
 | .agg xs => xB xs
 | .mix xs => xB xs
 | .rd x => asz x
 | _ => 1
def xB : List AV → Nat
 | [] => 0
 | x :: xs => asz x + xB xs
end
mutual
def RA (S : Nat → Prop) (w : World) : AV → List Value → Prop
 | .v x, cs => cs = [x] ∧ x.oneCell' = true
 | .agg xs, cs => RL S w xs cs
 | .lst sz xs, cs => ∃ A c, cs = [.slice A xs.length c] ∧ xs.length ≤ c ∧ c ≤ maxLen ∧ (∀ x ∈ xs, asz x = sz) ∧ 0 < sz ∧
  (xs = [] ∨ ∃ b off us, A = some ⟨b, off, none⟩ ∧ S b ∧ RL S w xs us ∧ ∀ j u, us[j]? = some u → w.cell? ⟨b, off + j, none⟩ = some u)
 | .ptr x, cs => ∃ b off us, cs = [.pointer (some ⟨b, off, none⟩)] ∧ S b ∧ RA S w x us ∧ ∀ j u, us[j]? = some u → w.cell? ⟨b, off + j, none⟩ = some u
 | _, _ => False
def RL (S : Nat → Prop) (w : World) : List AV → List Value → Prop
 | [], cs => cs = []
 | x :: xs, cs => ∃ c1 c2, cs = c1 ++ c2 ∧ RA S w x c1 ∧ RL S w xs c2
end
def NoT (T : Nat → Prop) : Prop := ∀ g, ¬ T g
def Split (T A B : Nat → Prop) : Prop := (∀ g, T g ↔ (A g ∨ B g)) ∧ ∀ g, A g → ¬ B g
mutual
def RD (w : World) : AV → (Nat → Prop) → List Value → Prop
 | .v x, T, cs => NoT T ∧ cs = [x] ∧ x.oneCell' = true
 | .agg xs, T, cs => RDL w xs T cs
 | .lst sz xs, T, cs => ∃ v t us T', cs = [v] ∧ w.ownsRow 0 t sz v xs.length us ∧ (∀ x ∈ xs, asz x = sz) ∧ 0 < sz ∧ RDL w xs T' us ∧ (∀ g, T g ↔ (v.ownBlock = some g ∨ T' g)) ∧ ∀ g, v.ownBlock = some g → ¬ T' g
 | _, _, _ => False
def RDL (w : World) : List AV → (Nat → Prop) → List Value → Prop
 | [], T, cs => cs = [] ∧ NoT T
 | x :: xs, T, cs => ∃ c1 c2 T1 T2, cs = c1 ++ c2 ∧ Split T T1 T2 ∧ RD w x T1 c1 ∧ RDL w xs T2 c2
end
structure AbsR where
 rel : World → Nat → (Nat → Prop) → Prop
 frame : ∀ (w w' : World) (b : Nat) (T : Nat → Prop), (∀ g, T g → w'.heap[g]? = w.heap[g]?) → rel w b T → rel w' b T
inductive ET where
 | s (t : Nat)
 | z (t : Nat)
 | d (t : Nat)
 | u
 | o (t : Option Nat) (i : Nat) (y : AV)
 | c (Q : AbsR)
 | p (t k : Nat)
instance (n : Nat) : OfNat ET n := ⟨.s n⟩
instance : Coe Nat ET := ⟨.s⟩
def ET.typ : ET → Option Nat
 | .s t => some t
 | .z t => some t
 | .d t => some t
 | .u => none
 | .o t _ _ => t
 | .c _ => none
 | .p t _ => some t
def ET.shut : ET → Bool
 | .o _ _ _ => false
 | .p _ _ => false
 | _ => true
def ET.row : ET → Bool
 | .o _ _ _ => false
 | .c _ => false
 | .p _ _ => false
 | _ => true
theorem aEs {e : ET} (h : e.row = true) : e.shut = true := by cases e <;> first | rfl | cases h
theorem aGD {e : ET} (h : e.row = true) : ∀ Q, e ≠ .c Q := fun Q k => by rw [k] at h; cases h
structure OB where
 e : ET
 sz : Nat
 xs : List AV
mutual
def AV.names (l : Nat) : AV → Bool
 | .own l' => Nat.beq l' l
 | .optr l' _ _ _ => Nat.beq l' l
 | .mapv l' => Nat.beq l' l
 | .tup xs => xI l xs
 | .mix xs => xI l xs
 | .fn _ xs ys => xI l xs || xI l ys
 | .ifc _ x => x.names l
 | _ => false
def xI (l : Nat) : List AV → Bool
 | [] => false
 | x :: xs => x.names l || xI l xs
end
mutual
def AV.within (p : Nat → Bool) : AV → Bool
 | .own l => p l
 | .optr l _ _ _ => p l
 | .mapv l => p l
 | .tup xs => yC p xs
 | .mix xs => yC p xs
 | .fn _ xs ys => yC p xs && yC p ys
 | .ifc _ x => x.within p
 | _ => true
def yC (p : Nat → Bool) : List AV → Bool
 | [] => true
 | x :: xs => x.within p && yC p xs
end
mutual
theorem uZ {p : Nat → Bool} {l : Nat} : ∀ (x : AV), x.within p = true → x.names l = true → p l = true
 | .own l', h, n => by simp only [AV.within] at h; simp only [AV.names] at n; rw [Nat.eq_of_beq_eq_true n] at h; exact h
 | .optr l' _ _ _, h, n => by simp only [AV.within] at h; simp only [AV.names] at n; rw [Nat.eq_of_beq_eq_true n] at h; exact h
 | .mapv l', h, n => by simp only [AV.within] at h; simp only [AV.names] at n; rw [Nat.eq_of_beq_eq_true n] at h; exact h
 | .tup xs, h, n => by simp only [AV.within] at h; simp only [AV.names] at n; exact uH xs h n
 | .mix xs, h, n => by simp only [AV.within] at h; simp only [AV.names] at n; exact uH xs h n
 | .fn _ xs ys, h, n => by
  simp only [AV.within, Bool.and_eq_true] at h; simp only [AV.names, Bool.or_eq_true] at n
  rcases n with n | n
  · exact uH xs h.1 n
  · exact uH ys h.2 n
 | .ifc _ x, h, n => by simp only [AV.within] at h; simp only [AV.names] at n; exact uZ x h n
 | .any, _, n => by simp [AV.names] at n
 | .v _, _, n => by simp [AV.names] at n
 | .agg _, _, n => by simp [AV.names] at n
 | .lst _ _, _, n => by simp [AV.names] at n
 | .ptr _, _, n => by simp [AV.names] at n
 | .rd _, _, n => by simp [AV.names] at n
theorem uH {p : Nat → Bool} {l : Nat} : ∀ (xs : List AV), yC p xs = true → xI l xs = true → p l = true
 | [], _, n => by simp [xI] at n
 | x :: xs, h, n => by
  simp only [yC, Bool.and_eq_true] at h; simp only [xI, Bool.or_eq_true] at n
  rcases n with n | n
  · exact uZ x h.1 n
  · exact uH xs h.2 n
end
mutual
def xE (l : Nat) : AV → AV
 | .own l' => bif Nat.beq l' l then .any else .own l'
 | .optr l' i p c => bif Nat.beq l' l then .any else .optr l' i p c
 | .mapv l' => bif Nat.beq l' l then .any else .mapv l'
 | .mix xs => .mix (uM l xs)
 | .fn f xs ys => bif xI l xs || xI l ys then .any else .fn f xs ys
 | .ifc t x => bif x.names l then .any else .ifc t x
 | .tup _ => .any
 | x => x
def uM (l : Nat) : List AV → List AV
 | [] => []
 | x :: xs => xE l x :: uM l xs
end
def yR (l : Nat) : ET → ET
 | .o t i y => .o t i (xE l y)
 | e => e
def xV (l : Nat) : Option OB → Option OB
 | some ⟨e, sz, xs⟩ => some ⟨yR l e, sz, xs⟩
 | none => none
structure St where
 sl : Nat → AV
 hp : Nat → Option OB
 mp : Nat → Option (List (ByteArray × AV))
def p10L : List Int := [1, 10, 100, 1000, 10000, 100000, 1000000, 10000000, 100000000, 1000000000, 10000000000, 100000000000, 1000000000000, 10000000000000, 100000000000000, 1000000000000000, 10000000000000000, 100000000000000000, 1000000000000000000, 10000000000000000000]
def owL : List ByteArray := [⟨#[]⟩, ⟨#[99, 114, 101, 97, 116, 101]⟩, ⟨#[100, 101, 108, 101, 116, 101]⟩, ⟨#[99, 111, 109, 109, 105, 116]⟩, ⟨#[109, 101, 114, 103, 101]⟩, ⟨#[103, 101, 116]⟩, ⟨#[115, 99, 97, 110]⟩]
def GTl : List (Nat × AV) := [
 ]
 ++ [(3, .agg (p10L.map fun x => .v (.int .u64 x)))]
 ++ [(6, .tup [])]
 ++ [(0, .agg (owL.map fun s => .v (.string s)))]
def GT (g : Nat) : Option AV := (GTl.find? fun p => Nat.beq p.1 g).map (·.2)
def aAs : AV → Bool
 | .any => false
 | .tup _ => false
 | _ => true
def aCo (g : Nat) : AV := match GT g with | some y => bif aAs y then .ptr y else .any | none => .any
def St.ev (s : St) : Operand → AV
 | .tmp t => s.sl t
 | .const c => .v c
 | .func f => .fn f [] []
 | .global g => aCo g
def St.put (s : St) (d : Option Tmp) (x : AV) : St :=
 match d with
 | some t => ⟨fun j => bif Nat.beq j t then x else s.sl j, s.hp, s.mp⟩
 | none => s
def St.set (s : St) (l : Nat) (o : Option OB) : St := ⟨s.sl, fun j => bif Nat.beq j l then o else s.hp j, fun j => bif Nat.beq j l then none else s.mp j⟩
def St.setM (s : St) (l : Nat) (o : List (ByteArray × AV)) : St := ⟨s.sl, s.hp, fun j => bif Nat.beq j l then some o else s.mp j⟩
def St.kill (s : St) (l : Nat) : St := ⟨fun j => bif (s.sl j).names l then .any else s.sl j, fun j => xV l (s.hp j), s.mp⟩
def St.relab (s : St) (l L : Nat) (ob : OB) : St := ⟨fun j => bif (s.sl j).names l || (s.sl j).names L then .any else s.sl j, fun j => bif Nat.beq j L then some ob else bif Nat.beq j l then none else xV l (xV L (s.hp j)), fun j => bif Nat.beq j L || Nat.beq j l then none else s.mp j⟩
def mpW (sz b : Nat) : Value := bif Nat.beq sz 2 then .chan (some b) else .map (some b)
theorem aFi {sz b : Nat} : (mpW sz b).oneCell' = true := by unfold mpW; cases Nat.beq sz 2 <;> rfl
theorem aHd {sz b : Nat} : (mpW sz b).cells.toList = [mpW sz b] := by unfold mpW; cases Nat.beq sz 2 <;> rfl
mutual
def RV (S : Nat → Prop) (w : World) (hp : Nat → Option OB) (B : Nat → Nat) (V : Nat → Value) : AV → Value → Prop
 | .any, _ => True
 | .v x, u => u = x ∧ x.oneCell' = true
 | .agg xs, u => ∃ cs, u = .agg cs.toArray ∧ RL S w xs cs
 | .lst sz xs, u => RA S w (.lst sz xs) [u]
 | .ptr x, u => RA S w (.ptr x) [u]
 | .own l, u => (∃ ob, hp l = some ob) ∧ u = V l
 | .optr l i _ c, u => ∃ ob, hp l = some ob ∧ u = .pointer (some ⟨B l, i * ob.sz + c, none⟩)
 | .tup xs, u => ∃ us, u = .tuple us.toArray ∧ RVs S w hp B V xs us
 | .mapv l, u => ∃ ob, hp l = some ob ∧ u = mpW ob.sz (B l)
 | .mix xs, u => ∃ cs, u = .agg cs.toArray ∧ ROs S w hp B V xs (fun _ => False) cs
 | .rd _, _ => False
 | .fn f xs ys, u => ∃ us vs, u = .func (.func f) us.toArray vs.toArray ∧ RVs S w hp B V xs us ∧ RVs S w hp B V ys vs
 | .ifc t x, u => ∃ u', u = .iface t u' ∧ RV S w hp B V x u'
def RVs (S : Nat → Prop) (w : World) (hp : Nat → Option OB) (B : Nat → Nat) (V : Nat → Value) : List AV → List Value → Prop
 | [], us => us = []
 | x :: xs, us => ∃ u us', us = u :: us' ∧ RV S w hp B V x u ∧ RVs S w hp B V xs us'
def RO1 (S : Nat → Prop) (w : World) (hp : Nat → Option OB) (B : Nat → Nat) (V : Nat → Value) : AV → (Nat → Prop) → List Value → Prop
 | .own l, T, cs => NoT T ∧ (∃ ob, hp l = some ob) ∧ cs = [V l] ∧ (V l).oneCell' = true
 | .optr l i _ c, T, cs => NoT T ∧ ∃ ob, hp l = some ob ∧ cs = [.pointer (some ⟨B l, i * ob.sz + c, none⟩)]
 | .mapv l, T, cs => NoT T ∧ ∃ ob, hp l = some ob ∧ cs = [mpW ob.sz (B l)]
 | .mix xs, T, cs => ROs S w hp B V xs T cs
 | .rd x, T, cs => NoT T ∧ RA S w x cs
 | .fn f xs ys, T, cs => NoT T ∧ ∃ us vs, cs = [.func (.func f) us.toArray vs.toArray] ∧ RVs S w hp B V xs us ∧ RVs S w hp B V ys vs
 | .ifc t x, T, cs => NoT T ∧ ∃ u, cs = [.iface t u] ∧ RV S w hp B V x u
 | .any, T, cs => NoT T ∧ ∃ u, cs = [u] ∧ u.oneCell' = true
 | .v x, T, cs => RD w (.v x) T cs
 | .agg xs, T, cs => RD w (.agg xs) T cs
 | .lst sz xs, T, cs => RD w (.lst sz xs) T cs
 | .ptr _, _, _ => False
 | .tup _, _, _ => False
def ROs (S : Nat → Prop) (w : World) (hp : Nat → Option OB) (B : Nat → Nat) (V : Nat → Value) : List AV → (Nat → Prop) → List Value → Prop
 | [], T, cs => cs = [] ∧ NoT T
 | x :: xs, T, cs => ∃ c1 c2 T1 T2, cs = c1 ++ c2 ∧ Split T T1 T2 ∧ RO1 S w hp B V x T1 c1 ∧ ROs S w hp B V xs T2 c2
end
def RK (S : Nat → Prop) (w : World) (hp : Nat → Option OB) (B : Nat → Nat) (V : Nat → Value) (sz : Nat) (xs : List AV) (T : Nat → Prop) (cs : List Value) : ET → Prop
 | .s _ => RL S w xs cs
 | .z _ => NoT T ∧ RDL w xs T cs
 | .d _ => RDL w xs T cs
 | .u => RDL w xs T cs
 | .c _ => xs = [] ∧ cs = [] ∧ ∀ g, T g → g < w.heap.size
 | .o _ i y => i < xs.length ∧ asz y = sz ∧ ∃ c0 c1 c2 T0 T' T1 T2, cs = c0 ++ (c1 ++ c2) ∧ Split T T0 T' ∧ Split T' T1 T2 ∧ RDL w (xs.take i) T0 c0 ∧ RO1 S w hp B V y T1 c1 ∧ RDL w (xs.drop (i + 1)) T2 c2
 | .p _ k => (∀ g, T g → g < w.heap.size) ∧ ∃ c1 c2 T1, cs = c1 ++ c2 ∧ (∀ g, T1 g → T g) ∧ RDL w (xs.take k) T1 c1 ∧ RL S w (xs.drop k) c2
def ROc (w : World) (b : Nat) (T : Nat → Prop) : ET → Prop
 | .c Q => Q.rel w b T
 | _ => True
def RO (S : Nat → Prop) (w : World) (hp : Nat → Option OB) (B : Nat → Nat) (V : Nat → Value) (T : Nat → Prop) (ob : OB) (b : Nat) (v : Value) : Prop :=
 ∃ t cs, ((∀ t', ob.e.typ = some t' → t = t') ∧ ROc w b T ob.e) ∧ RK S w hp B V ob.sz ob.xs T cs ob.e ∧ (∀ x ∈ ob.xs, asz x = ob.sz) ∧ 0 < ob.sz ∧ w.ownsRow 0 t ob.sz v ob.xs.length cs ∧ ∀ g, v.ownBlock = some g → g = b
def zA : List (ByteArray × AV) → List MapEntry → Prop
 | [], es => es = []
 | (k, y) :: xs, es => ∃ e r, es = e :: r ∧ e.key = .string k ∧ (∀ S w hp B V, RV S w hp B V y e.val) ∧ zA xs r
def Blk (V : Nat → Value) (T : Nat → Nat → Prop) (l g : Nat) : Prop := (V l).ownBlock = some g ∨ T l g
structure Rows (S : Nat → Prop) (w : World) (hp : Nat → Option OB) (mp : Nat → Option (List (ByteArray × AV))) (B : Nat → Nat) (V : Nat → Value) (T : Nat → Nat → Prop) (lo : Nat → Prop) : Prop where
 ro : ∀ l ob, hp l = some ob → RO S w hp B V (T l) ob (B l) (V l)
 me : ∀ l ob g, hp l = some ob → Blk V T l g → ¬ S g ∧ g < w.heap.size ∧ lo g
 nd : ∀ l ob g, hp l = some ob → (V l).ownBlock = some g → ¬ T l g
 ds : ∀ l l' ob ob' g, hp l = some ob → hp l' = some ob' → Blk V T l g → Blk V T l' g → l = l'
 mp : ∀ l es, mp l = some es → (∃ t, hp l = some ⟨.s t, 1, []⟩) ∧ T l (B l) ∧ ∃ arr clock, w.heap[B l]? = some (.map arr clock) ∧ zA es arr.toList
structure Hand where
 bl : Nat → Prop
 pin : Nat → Option (Nat × Value)
def okL (l : Nat) : Bool := Nat.blt 0 l && Nat.blt l 1000000
structure Grown (a b : World) (M : Nat → Prop) : Prop where
 os : b.os = a.os
 tape : b.tape = a.tape
 output : b.output = a.output
 size : a.heap.size ≤ b.heap.size
 block : ∀ k, k < a.heap.size → ¬ M k → b.heap[k]? = a.heap[k]?
def RC (cs : Array Value) : AV → Prop
 | .any => ∃ n, cs = #[.int .i64 n]
 | .tup _ => ∃ t q, cs = #[.iface t q]
 | y => cs.size = asz y
structure RG (S0 : Nat → Prop) (w : World) (g : Nat) (y : AV) : Prop where
 s0 : S0 g
 ra : aAs y = true → RA S0 w (.ptr y) [.pointer (some ⟨g, 0, none⟩)]
 full : ∃ cs t p, w.heap[g]? = some (.cells cs t p) ∧ RC cs y
def aLF (W : World) (S0 Mb : Nat → Prop) : Prop := (∀ b, S0 b → ¬ Mb b ∧ b < W.heap.size) ∧ ∀ g y, GT g = some y → RG S0 W g y
structure SimW (W : World) (M : Hand) (S0 : Nat → Prop) (s : St) (tmps : Array Value) (w : World) (S : Nat → Prop) (B : Nat → Nat) (V : Nat → Value) (T : Nat → Nat → Prop) : Prop where
 below : Grown W w M.bl
 s0 : ∀ b, S0 b → S b
 slt : ∀ b, S b → b < w.heap.size ∧ (S0 b ∨ W.heap.size ≤ b ∨ M.bl b)
 sl : ∀ t, RV S w s.hp B V (s.sl t) (tmps.getD t undef)
 rows : Rows S w s.hp s.mp B V T (fun g => W.heap.size ≤ g ∨ M.bl g)
 pin : ∀ l b u, M.pin l = some (b, u) → okL l = false ∧ B l = b ∧ V l = u
 gl : aLF W S0 M.bl
def Sim (W : World) (M : Hand) (S0 : Nat → Prop) (n : Nat) (s : St) (a : Act) (w : World) : Prop :=
 a.tmps.size = n ∧ a.defers = [] ∧ ∃ S B V T, SimW W M S0 s a.tmps w S B V T
theorem Grown.refl (w : World) (M : Nat → Prop) : Grown w w M := ⟨rfl, rfl, rfl, Nat.le_refl _, fun _ _ _ => rfl⟩
theorem Grown.trans {a b c : World} {M r : Nat → Prop} (h : Grown a b M) (k : Grown b c r) (hr : ∀ g, r g → g < a.heap.size → M g) : Grown a c M :=
 ⟨k.os.trans h.os, k.tape.trans h.tape, k.output.trans h.output, Nat.le_trans h.size k.size, fun i hi hM => (k.block i (Nat.lt_of_lt_of_le hi h.size) (fun e => hM (hr i e hi))).trans (h.block i hi hM)⟩
theorem Grown.of {a b : World} (h : Below a.heap.size a b) (M : Nat → Prop) : Grown a b M := ⟨h.os, h.tape, h.output, h.size, fun k hk _ => h.block k hk⟩
theorem Grown.below {a b : World} {M : Nat → Prop} (h : Grown a b M) (hM : NoT M) : Below a.heap.size a b := ⟨h.os, h.tape, h.output, h.size, fun k hk => h.block k hk (hM k)⟩
theorem Grown.by {a b : World} {r : Option Nat} (h : a.grownBy b r) : Grown a b (fun g => r = some g) := ⟨h.os, h.tape, h.output, h.size, fun k hk hn => h.block k hk (fun e => hn e.symm)⟩
section
variable {S S' : Nat → Prop} {w w' : World}
theorem aDK {b : Nat} (hw : w'.heap[b]? = w.heap[b]?) (o : Nat) : w'.cell? ⟨b, o, none⟩ = w.cell? ⟨b, o, none⟩ := World.cell?_of_block (a := ⟨b, o, none⟩) hw
mutual
theorem RA.mono (hS : ∀ b, S b → S' b) (hw : ∀ b, S b → w'.heap[b]? = w.heap[b]?) : ∀ (x : AV) (cs : List Value), RA S w x cs → RA S' w' x cs
 | .v x, cs, h => by unfold RA at h ⊢; exact h
 | .agg xs, cs, h => by unfold RA at h ⊢; exact RL.mono hS hw xs cs h
 | .lst sz xs, cs, h => by
  unfold RA at h ⊢
  obtain ⟨A, c, h1, h2, h3, h4, h4', h5⟩ := h
  refine ⟨A, c, h1, h2, h3, h4, h4', ?_⟩
  rcases h5 with h5 | ⟨b, off, us, e, hb, hr, hc⟩
  · exact .inl h5
  · exact .inr ⟨b, off, us, e, hS b hb, RL.mono hS hw xs us hr, fun j u hu => (aDK (hw b hb) _).trans (hc j u hu)⟩
 | .ptr x, cs, h => by
  unfold RA at h ⊢
  obtain ⟨b, off, us, e, hb, hr, hc⟩ := h
  exact ⟨b, off, us, e, hS b hb, RA.mono hS hw x us hr, fun j u hu => (aDK (hw b hb) _).trans (hc j u hu)⟩
 | .any, cs, h | .own _, cs, h | .optr _ _ _ _, cs, h | .tup _, cs, h | .mapv _, cs, h | .mix _, cs, h | .rd _, cs, h | .fn _ _ _, cs, h | .ifc _ _, cs, h => by unfold RA at h; exact h.elim
theorem RL.mono (hS : ∀ b, S b → S' b) (hw : ∀ b, S b → w'.heap[b]? = w.heap[b]?) : ∀ (xs : List AV) (cs : List Value), RL S w xs cs → RL S' w' xs cs
 | [], cs, h => by unfold RL at h ⊢; exact h
 | x :: xs, cs, h => by
  unfold RL at h ⊢
  obtain ⟨c1, c2, e, h1, h2⟩ := h
  exact ⟨c1, c2, e, RA.mono hS hw x c1 h1, RL.mono hS hw xs c2 h2⟩
end
theorem RG.mono {g : Nat} {y : AV} (hS : ∀ b, S b → S' b) (hw : ∀ b, S b → w'.heap[b]? = w.heap[b]?) (h : RG S w g y) : RG S' w' g y :=
 ⟨hS g h.s0, fun hk => RA.mono hS hw _ _ (h.ra hk), by
  obtain ⟨cs, t, p, hb, hn⟩ := h.full
  exact ⟨cs, t, p, (hw g h.s0).trans hb, hn⟩⟩
mutual
theorem RA.size : ∀ (x : AV) (cs : List Value), RA S w x cs → cs.length = asz x
 | .v x, cs, h => by unfold RA at h; rw [h.1]; rfl
 | .agg xs, cs, h => by unfold RA at h; unfold asz; exact RL.size xs cs h
 | .lst sz xs, cs, h => by unfold RA at h; obtain ⟨A, c, h1, _⟩ := h; rw [h1]; rfl
 | .ptr x, cs, h => by unfold RA at h; obtain ⟨A, c, _, h1, _⟩ := h; rw [h1]; rfl
 | .any, cs, h | .own _, cs, h | .optr _ _ _ _, cs, h | .tup _, cs, h | .mapv _, cs, h | .mix _, cs, h | .rd _, cs, h | .fn _ _ _, cs, h | .ifc _ _, cs, h => by unfold RA at h; exact h.elim
theorem RL.size : ∀ (xs : List AV) (cs : List Value), RL S w xs cs → cs.length = xB xs
 | [], cs, h => by unfold RL at h; rw [h]; rfl
 | x :: xs, cs, h => by
  unfold RL at h
  obtain ⟨c1, c2, e, h1, h2⟩ := h
  unfold xB
  rw [e, List.length_append, RA.size x c1 h1, RL.size xs c2 h2]
end
mutual
theorem RA.one : ∀ (x : AV) (cs : List Value), RA S w x cs → ∀ u ∈ cs, u.oneCell' = true
 | .v x, cs, h => by unfold RA at h; rw [h.1]; simpa using h.2
 | .agg xs, cs, h => by unfold RA at h; exact RL.one xs cs h
 | .lst sz xs, cs, h => by unfold RA at h; obtain ⟨A, c, h1, _⟩ := h; rw [h1]; simp [Value.oneCell']
 | .ptr x, cs, h => by unfold RA at h; obtain ⟨A, c, _, h1, _⟩ := h; rw [h1]; simp [Value.oneCell']
 | .any, cs, h | .own _, cs, h | .optr _ _ _ _, cs, h | .tup _, cs, h | .mapv _, cs, h | .mix _, cs, h | .rd _, cs, h | .fn _ _ _, cs, h | .ifc _ _, cs, h => by unfold RA at h; exact h.elim
theorem RL.one : ∀ (xs : List AV) (cs : List Value), RL S w xs cs → ∀ u ∈ cs, u.oneCell' = true
 | [], cs, h => by unfold RL at h; rw [h]; simp
 | x :: xs, cs, h => by
  unfold RL at h
  obtain ⟨c1, c2, e, h1, h2⟩ := h
  intro u hu
  rw [e, List.mem_append] at hu
  rcases hu with hu | hu
  · exact RA.one x c1 h1 u hu
  · exact RL.one xs c2 h2 u hu
end
theorem RL.app : ∀ {xs ys : List AV} {cs ds : List Value}, RL S w xs cs → RL S w ys ds → RL S w (xs ++ ys) (cs ++ ds)
 | [], ys, cs, ds, h, k => by unfold RL at h; subst h; exact k
 | x :: xs, ys, cs, ds, h, k => by
  unfold RL at h
  obtain ⟨c1, c2, e, h1, h2⟩ := h
  show RL S w (x :: (xs ++ ys)) _
  unfold RL
  exact ⟨c1, c2 ++ ds, by rw [e, List.append_assoc], h1, RL.app h2 k⟩
theorem RL.sing {x : AV} {cs : List Value} (h : RA S w x cs) : RL S w [x] cs := by
 unfold RL; exact ⟨cs, [], by simp, h, by unfold RL; rfl⟩
theorem xW {sz : Nat} : ∀ {xs : List AV}, (∀ x ∈ xs, asz x = sz) → xB xs = xs.length * sz
 | [], _ => by unfold xB; simp
 | x :: xs, h => by
  unfold xB
  rw [h x (by simp), xW (fun y hy => h y (List.mem_cons_of_mem _ hy)), List.length_cons, Nat.add_mul, Nat.one_mul, Nat.add_comm]
theorem RL.at : ∀ {xs : List AV} {cs : List Value} (i : Nat) {x : AV}, RL S w xs cs → xs[i]? = some x → ∃ us, RA S w x us ∧ xB (xs.take i) + us.length ≤ cs.length ∧ (cs.drop (xB (xs.take i))).take us.length = us ∧ ∀ j u, us[j]? = some u → cs[xB (xs.take i) + j]? = some u
 | [], _, i, x, _, h => by simp at h
 | y :: xs, cs, 0, x, h, hx => by
  unfold RL at h
  obtain ⟨c1, c2, e, h1, h2⟩ := h
  simp at hx; subst hx
  refine ⟨c1, h1, ?_, ?_, ?_⟩
  · rw [e]; simp [xB]
  · rw [e]; simp [xB]
  · intro j u hu; rw [e]; simp [xB]; rw [List.getElem?_append_left (List.getElem?_eq_some_iff.1 hu).1]; exact hu
 | y :: xs, cs, i + 1, x, h, hx => by
  unfold RL at h
  obtain ⟨c1, c2, e, h1, h2⟩ := h
  simp at hx
  obtain ⟨us, k1, k2, k3, k4⟩ := RL.at i h2 hx
  have hs := RA.size y c1 h1
  have ha : xB ((y :: xs).take (i + 1)) = c1.length + xB (xs.take i) := by rw [List.take_succ_cons]; rw [xB, hs]
  refine ⟨us, k1, ?_, ?_, ?_⟩
  · rw [ha, e, List.length_append]; omega
  · rw [ha, e, List.drop_append, List.drop_eq_nil_of_le (by omega), List.nil_append, Nat.add_sub_cancel_left]; exact k3
  · intro j u hu; rw [ha, e, Nat.add_assoc, List.getElem?_append_right (by omega), Nat.add_sub_cancel_left]; exact k4 j u hu
end
theorem Split.left {T A B : Nat → Prop} (h : Split T A B) {g : Nat} (k : A g) : T g := (h.1 g).2 (.inl k)
theorem Split.right {T A B : Nat → Prop} (h : Split T A B) {g : Nat} (k : B g) : T g := (h.1 g).2 (.inr k)
theorem Split.none {T A B : Nat → Prop} (h : Split T A B) (n : NoT T) : NoT A ∧ NoT B := ⟨fun g k => n g (h.left k), fun g k => n g (h.right k)⟩
theorem noF : NoT (fun _ => False) := fun _ h => h
theorem Split.l0 {T A : Nat → Prop} (h : NoT A) : Split T A T := ⟨fun g => ⟨.inr, fun k => k.elim (fun k => (h g k).elim) id⟩, fun g k => (h g k).elim⟩
theorem Split.r0 {T B : Nat → Prop} (h : NoT B) : Split T T B := ⟨fun g => ⟨.inl, fun k => k.elim id (fun k => (h g k).elim)⟩, fun g _ k => h g k⟩
theorem NoT.eq {A B : Nat → Prop} (h : NoT A) (k : NoT B) : A = B := funext fun g => propext ⟨fun x => (h g x).elim, fun x => (k g x).elim⟩
theorem Split.eqr {T A B : Nat → Prop} (h : Split T A B) (n : NoT A) : T = B := funext fun g => propext ⟨fun x => ((h.1 g).1 x).elim (fun y => (n g y).elim) id, fun x => h.right x⟩
theorem Split.eql {T A B : Nat → Prop} (h : Split T A B) (n : NoT B) : T = A := funext fun g => propext ⟨fun x => ((h.1 g).1 x).elim id (fun y => (n g y).elim), fun x => h.left x⟩
section
variable {w w' : World}
theorem jX {t sz n : Nat} {v : Value} {us : List Value} (h : w.ownsRow 0 t sz v n us) (hw : ∀ g, v.ownBlock = some g → w'.heap[g]? = w.heap[g]?) : w'.ownsRow 0 t sz v n us := by
 refine ⟨h.1, ?_⟩
 rcases h.2 with k | ⟨g, cap, cur, e, hb, hh, r⟩
 · exact .inl k
 · subst e; exact .inr ⟨g, cap, cur, rfl, hb, (hw g rfl).trans hh, r⟩
mutual
theorem RD.mono : ∀ (x : AV) (T : Nat → Prop) (cs : List Value), (∀ g, T g → w'.heap[g]? = w.heap[g]?) → RD w x T cs → RD w' x T cs
 | .v x, T, cs, _, h => by unfold RD at h ⊢; exact h
 | .agg xs, T, cs, hw, h => by unfold RD at h ⊢; exact RDL.mono xs T cs hw h
 | .lst sz xs, T, cs, hw, h => by
  unfold RD at h ⊢
  obtain ⟨v, t, us, T', h1, h2, h3, h4, h5, h6, h7⟩ := h
  exact ⟨v, t, us, T', h1, jX h2 (fun g hg => hw g ((h6 g).2 (.inl hg))), h3, h4, RDL.mono xs T' us (fun g hg => hw g ((h6 g).2 (.inr hg))) h5, h6, h7⟩
 | .any, T, cs, _, h | .ptr _, T, cs, _, h | .own _, T, cs, _, h | .optr _ _ _ _, T, cs, _, h | .tup _, T, cs, _, h | .mapv _, T, cs, _, h | .mix _, T, cs, _, h | .rd _, T, cs, _, h | .fn _ _ _, T, cs, _, h | .ifc _ _, T, cs, _, h => by unfold RD at h; exact h.elim
theorem RDL.mono : ∀ (xs : List AV) (T : Nat → Prop) (cs : List Value), (∀ g, T g → w'.heap[g]? = w.heap[g]?) → RDL w xs T cs → RDL w' xs T cs
 | [], T, cs, _, h => by unfold RDL at h ⊢; exact h
 | x :: xs, T, cs, hw, h => by
  unfold RDL at h ⊢
  obtain ⟨c1, c2, T1, T2, e, hs, h1, h2⟩ := h
  exact ⟨c1, c2, T1, T2, e, hs, RD.mono x T1 c1 (fun g hg => hw g (hs.left hg)) h1, RDL.mono xs T2 c2 (fun g hg => hw g (hs.right hg)) h2⟩
end
mutual
theorem RD.size : ∀ (x : AV) (T : Nat → Prop) (cs : List Value), RD w x T cs → cs.length = asz x
 | .v x, T, cs, h => by unfold RD at h; rw [h.2.1]; rfl
 | .agg xs, T, cs, h => by unfold RD at h; unfold asz; exact RDL.size xs T cs h
 | .lst sz xs, T, cs, h => by unfold RD at h; obtain ⟨v, t, us, T', h1, _⟩ := h; rw [h1]; rfl
 | .any, T, cs, h | .ptr _, T, cs, h | .own _, T, cs, h | .optr _ _ _ _, T, cs, h | .tup _, T, cs, h | .mapv _, T, cs, h | .mix _, T, cs, h | .rd _, T, cs, h | .fn _ _ _, T, cs, h | .ifc _ _, T, cs, h => by unfold RD at h; exact h.elim
theorem RDL.size : ∀ (xs : List AV) (T : Nat → Prop) (cs : List Value), RDL w xs T cs → cs.length = xB xs
 | [], T, cs, h => by unfold RDL at h; rw [h.1]; rfl
 | x :: xs, T, cs, h => by
  unfold RDL at h
  obtain ⟨c1, c2, T1, T2, e, hs, h1, h2⟩ := h
  unfold xB
  rw [e, List.length_append, RD.size x T1 c1 h1, RDL.size xs T2 c2 h2]
end
mutual
theorem RD.one : ∀ (x : AV) (T : Nat → Prop) (cs : List Value), RD w x T cs → ∀ u ∈ cs, u.oneCell' = true
 | .v x, T, cs, h => by unfold RD at h; rw [h.2.1]; simpa using h.2.2
 | .agg xs, T, cs, h => by unfold RD at h; exact RDL.one xs T cs h
 | .lst sz xs, T, cs, h => by
  unfold RD at h
  obtain ⟨v, t, us, T', h1, h2, _⟩ := h
  rw [h1]
  rcases h2.2 with ⟨rfl, _⟩ | ⟨g, cap, cur, rfl, _⟩ <;> simp [Value.oneCell']
 | .any, T, cs, h | .ptr _, T, cs, h | .own _, T, cs, h | .optr _ _ _ _, T, cs, h | .tup _, T, cs, h | .mapv _, T, cs, h | .mix _, T, cs, h | .rd _, T, cs, h | .fn _ _ _, T, cs, h | .ifc _ _, T, cs, h => by unfold RD at h; exact h.elim
theorem RDL.one : ∀ (xs : List AV) (T : Nat → Prop) (cs : List Value), RDL w xs T cs → ∀ u ∈ cs, u.oneCell' = true
 | [], T, cs, h => by unfold RDL at h; rw [h.1]; simp
 | x :: xs, T, cs, h => by
  unfold RDL at h
  obtain ⟨c1, c2, T1, T2, e, hs, h1, h2⟩ := h
  intro u hu
  rw [e, List.mem_append] at hu
  rcases hu with hu | hu
  · exact RD.one x T1 c1 h1 u hu
  · exact RDL.one xs T2 c2 h2 u hu
end
mutual
theorem RD.lt : ∀ (x : AV) (T : Nat → Prop) (cs : List Value), RD w x T cs → ∀ g, T g → g < w.heap.size
 | .v x, T, cs, h => by unfold RD at h; exact fun g hg => (h.1 g hg).elim
 | .agg xs, T, cs, h => by unfold RD at h; exact RDL.lt xs T cs h
 | .lst sz xs, T, cs, h => by
  unfold RD at h
  obtain ⟨v, t, us, T', h1, h2, _, _, h5, h6, _⟩ := h
  intro g hg
  rcases (h6 g).1 hg with k | k
  · exact (h2.lt g k).2
  · exact RDL.lt xs T' us h5 g k
 | .any, T, cs, h | .ptr _, T, cs, h | .own _, T, cs, h | .optr _ _ _ _, T, cs, h | .tup _, T, cs, h | .mapv _, T, cs, h | .mix _, T, cs, h | .rd _, T, cs, h | .fn _ _ _, T, cs, h | .ifc _ _, T, cs, h => by unfold RD at h; exact h.elim
theorem RDL.lt : ∀ (xs : List AV) (T : Nat → Prop) (cs : List Value), RDL w xs T cs → ∀ g, T g → g < w.heap.size
 | [], T, cs, h => by unfold RDL at h; exact fun g hg => (h.2 g hg).elim
 | x :: xs, T, cs, h => by
  unfold RDL at h
  obtain ⟨c1, c2, T1, T2, e, hs, h1, h2⟩ := h
  intro g hg
  rcases (hs.1 g).1 hg with k | k
  · exact RD.lt x T1 c1 h1 g k
  · exact RDL.lt xs T2 c2 h2 g k
end
theorem aFr {S : Nat → Prop} {t sz : Nat} {v : Value} {xs : List AV} {us : List Value} (h : w.ownsRow 0 t sz v xs.length us) (ha : ∀ x ∈ xs, asz x = sz) (h0 : 0 < sz) (hr : RL S w xs us) (hS : ∀ g, v.ownBlock = some g → S g) : RA S w (.lst sz xs) [v] := by
 unfold RA
 rcases h.2 with ⟨rfl, hn⟩ | ⟨g, cap, cur, rfl, hb, hg, hc, hm, hs, ht⟩
 · exact ⟨none, 0, by rw [hn], by omega, by unfold maxLen; omega, ha, h0, .inl (List.eq_nil_of_length_eq_zero hn)⟩
 · refine ⟨_, cap, rfl, hc, hm, ha, h0, .inr ⟨g, 0, us, rfl, hS g rfl, hr, fun j u hu => ?_⟩⟩
   rw [cell_of_row w g (0 + j) cur t (0, 0) hg]
   rw [← ht, List.getElem?_take] at hu
   split at hu
   · simpa using hu
   · cases hu
mutual
theorem RD.toRA {S : Nat → Prop} : ∀ (x : AV) (T : Nat → Prop) (cs : List Value), (∀ g, T g → S g) → RD w x T cs → RA S w x cs
 | .v x, T, cs, _, h => by unfold RD at h; unfold RA; exact h.2
 | .agg xs, T, cs, hS, h => by unfold RD at h; unfold RA; exact RDL.toRL xs T cs hS h
 | .lst sz xs, T, cs, hS, h => by
  unfold RD at h
  obtain ⟨v, t, us, T', rfl, h2, h3, h4, h5, h6, _⟩ := h
  exact aFr h2 h3 h4 (RDL.toRL xs T' us (fun g hg => hS g ((h6 g).2 (.inr hg))) h5) (fun g hg => hS g ((h6 g).2 (.inl hg)))
 | .any, T, cs, _, h | .ptr _, T, cs, _, h | .own _, T, cs, _, h | .optr _ _ _ _, T, cs, _, h | .tup _, T, cs, _, h | .mapv _, T, cs, _, h | .mix _, T, cs, _, h | .rd _, T, cs, _, h | .fn _ _ _, T, cs, _, h | .ifc _ _, T, cs, _, h => by unfold RD at h; exact h.elim
theorem RDL.toRL {S : Nat → Prop} : ∀ (xs : List AV) (T : Nat → Prop) (cs : List Value), (∀ g, T g → S g) → RDL w xs T cs → RL S w xs cs
 | [], T, cs, _, h => by unfold RDL at h; unfold RL; exact h.1
 | x :: xs, T, cs, hS, h => by
  unfold RDL at h; unfold RL
  obtain ⟨c1, c2, T1, T2, e, hs, h1, h2⟩ := h
  exact ⟨c1, c2, e, RD.toRA x T1 c1 (fun g hg => hS g (hs.left hg)) h1, RDL.toRL xs T2 c2 (fun g hg => hS g (hs.right hg)) h2⟩
end
mutual
def zb : AV → Bool
 | .v _ => true
 | .agg xs => zL xs
 | _ => false
def zL : List AV → Bool
 | [] => true
 | x :: xs => zb x && zL xs
end
mutual
theorem RD.plain : ∀ (x : AV) (T : Nat → Prop) (cs : List Value), zb x = true → RD w x T cs → NoT T ∧ ∀ S w', RA S w' x cs
 | .v x, T, cs, _, h => by unfold RD at h; exact ⟨h.1, fun S w' => by unfold RA; exact h.2⟩
 | .agg xs, T, cs, hn, h => by
  unfold RD at h; unfold zb at hn
  obtain ⟨a, b⟩ := RDL.plain xs T cs hn h
  exact ⟨a, fun S w' => by unfold RA; exact b S w'⟩
 | .lst _ _, _, _, hn, _ | .any, _, _, hn, _ | .ptr _, _, _, hn, _ | .own _, _, _, hn, _ | .optr _ _ _ _, _, _, hn, _ | .tup _, _, _, hn, _ | .mapv _, _, _, hn, _ | .mix _, _, _, hn, _ | .rd _, _, _, hn, _ | .fn _ _ _, _, _, hn, _ | .ifc _ _, _, _, hn, _ => by simp [zb] at hn
theorem RDL.plain : ∀ (xs : List AV) (T : Nat → Prop) (cs : List Value), zL xs = true → RDL w xs T cs → NoT T ∧ ∀ S w', RL S w' xs cs
 | [], T, cs, _, h => by unfold RDL at h; exact ⟨h.2, fun S w' => by unfold RL; exact h.1⟩
 | x :: xs, T, cs, hn, h => by
  unfold RDL at h
  simp only [zL, Bool.and_eq_true] at hn
  obtain ⟨c1, c2, T1, T2, e, hs, h1, h2⟩ := h
  obtain ⟨a1, b1⟩ := RD.plain x T1 c1 hn.1 h1
  obtain ⟨a2, b2⟩ := RDL.plain xs T2 c2 hn.2 h2
  exact ⟨fun g hg => ((hs.1 g).1 hg).elim (a1 g) (a2 g), fun S w' => by unfold RL; exact ⟨c1, c2, e, b1 S w', b2 S w'⟩⟩
end
mutual
theorem RA.toRD {S : Nat → Prop} {T : Nat → Prop} (hT : NoT T) : ∀ (x : AV) (cs : List Value), zb x = true → RA S w x cs → RD w' x T cs
 | .v x, cs, _, h => by unfold RA at h; unfold RD; exact ⟨hT, h⟩
 | .agg xs, cs, hn, h => by unfold RA at h; unfold zb at hn; unfold RD; exact RL.toRDL hT xs cs hn h
 | .lst _ _, _, hn, _ | .any, _, hn, _ | .ptr _, _, hn, _ | .own _, _, hn, _ | .optr _ _ _ _, _, hn, _ | .tup _, _, hn, _ | .mapv _, _, hn, _ | .mix _, _, hn, _ | .rd _, _, hn, _ | .fn _ _ _, _, hn, _ | .ifc _ _, _, hn, _ => by simp [zb] at hn
theorem RL.toRDL {S : Nat → Prop} {T : Nat → Prop} (hT : NoT T) : ∀ (xs : List AV) (cs : List Value), zL xs = true → RL S w xs cs → RDL w' xs T cs
 | [], cs, _, h => by unfold RL at h; unfold RDL; exact ⟨h, hT⟩
 | x :: xs, cs, hn, h => by
  unfold RL at h
  simp only [zL, Bool.and_eq_true] at hn
  obtain ⟨c1, c2, e, h1, h2⟩ := h
  unfold RDL
  exact ⟨c1, c2, T, T, e, Split.l0 hT, RA.toRD hT x c1 hn.1 h1, RL.toRDL hT xs c2 hn.2 h2⟩
end
theorem RDL.app : ∀ {xs ys : List AV} {T A B : Nat → Prop} {cs ds : List Value}, RDL w xs A cs → RDL w ys B ds → Split T A B → RDL w (xs ++ ys) T (cs ++ ds)
 | [], ys, T, A, B, cs, ds, h, k, hs => by
  unfold RDL at h
  rw [h.1, List.nil_append, List.nil_append, hs.eqr h.2]; exact k
 | x :: xs, ys, T, A, B, cs, ds, h, k, hs => by
  unfold RDL at h
  obtain ⟨c1, c2, T1, T2, e, hs', h1, h2⟩ := h
  show RDL w (x :: (xs ++ ys)) _ _
  unfold RDL
  refine ⟨c1, c2 ++ ds, T1, fun g => T2 g ∨ B g, by rw [e, List.append_assoc], ⟨fun g => ?_, fun g a b => ?_⟩, h1, RDL.app h2 k ⟨fun g => Iff.rfl, fun g a b => hs.2 g (hs'.right a) b⟩⟩
  · rw [hs.1 g, hs'.1 g, or_assoc]
  · rcases b with b | b
    · exact hs'.2 g a b
    · exact hs.2 g (hs'.left a) b
theorem RDL.parts : ∀ {xs ys : List AV} {T : Nat → Prop} {cs : List Value}, RDL w (xs ++ ys) T cs → ∃ c1 c2 A B, cs = c1 ++ c2 ∧ Split T A B ∧ RDL w xs A c1 ∧ RDL w ys B c2
 | [], ys, T, cs, h => ⟨[], cs, fun _ => False, T, rfl, Split.l0 noF, by unfold RDL; exact ⟨rfl, noF⟩, h⟩
 | x :: xs, ys, T, cs, h => by
  have h' : RDL w (x :: (xs ++ ys)) T cs := h
  unfold RDL at h'
  obtain ⟨c1, c2, T1, T2, e, hs, h1, h2⟩ := h'
  obtain ⟨d1, d2, A, B, e2, hs2, k1, k2⟩ := RDL.parts h2
  refine ⟨c1 ++ d1, d2, fun g => T1 g ∨ A g, B, by rw [e, e2, List.append_assoc], ⟨fun g => ?_, fun g a b => ?_⟩, ?_, k2⟩
  · rw [hs.1 g, hs2.1 g, or_assoc]
  · rcases a with a | a
    · exact hs.2 g a (hs2.right b)
    · exact hs2.2 g a b
  · unfold RDL
    exact ⟨c1, d1, T1, A, rfl, ⟨fun g => Iff.rfl, fun g a b => hs.2 g a (hs2.left b)⟩, h1, k1⟩
end
theorem xY {j d : Nat} (h : j ≠ d) : Nat.beq j d = false := by
 cases e : Nat.beq j d with
 | false => rfl
 | true => exact absurd (Nat.eq_of_beq_eq_true e) h
def upd {α : Type} (f : Nat → α) (d : Nat) (x : α) : Nat → α := fun j => bif Nat.beq j d then x else f j
theorem upd_same {α : Type} {f : Nat → α} {d : Nat} {x : α} : upd f d x d = x := by simp [upd]
theorem upd_ne {α : Type} {f : Nat → α} {d j : Nat} {x : α} (h : j ≠ d) : upd f d x j = f j := by simp [upd, xY h]
def yS (l : Nat) : ET → Bool
 | .o _ _ y => y.names l
 | _ => false
section
variable {S S' : Nat → Prop} {w w' : World} {hp hp' : Nat → Option OB} {B B' : Nat → Nat} {V V' : Nat → Value}
def Same (hp hp' : Nat → Option OB) (B B' : Nat → Nat) (V V' : Nat → Value) (l : Nat) : Prop := ∀ ob, hp l = some ob → ∃ ob', hp' l = some ob' ∧ ob'.sz = ob.sz ∧ V' l = V l ∧ B' l = B l
mutual
theorem RV.carry (hS : ∀ b, S b → S' b) (hw : ∀ b, S b → w'.heap[b]? = w.heap[b]?) : ∀ (x : AV) (u : Value), (∀ l, x.names l = true → Same hp hp' B B' V V' l) → RV S w hp B V x u → RV S' w' hp' B' V' x u
 | .any, u, _, h => by unfold RV at h ⊢; trivial
 | .v x, u, _, h => by unfold RV at h ⊢; exact h
 | .agg xs, u, _, h => by
  unfold RV at h ⊢
  obtain ⟨cs, e, h⟩ := h
  exact ⟨cs, e, RL.mono hS hw xs cs h⟩
 | .lst sz xs, u, _, h => by unfold RV at h ⊢; exact RA.mono hS hw _ _ h
 | .ptr x, u, _, h => by unfold RV at h ⊢; exact RA.mono hS hw _ _ h
 | .own l, u, hn, h => by
  unfold RV at h ⊢
  obtain ⟨⟨ob, ho⟩, e⟩ := h
  obtain ⟨ob', h1, _, h2, _⟩ := hn l (by simp [AV.names]) ob ho
  exact ⟨⟨ob', h1⟩, e.trans h2.symm⟩
 | .optr l i p c, u, hn, h => by
  unfold RV at h ⊢
  obtain ⟨ob, ho, e⟩ := h
  obtain ⟨ob', h1, h2, _, h3⟩ := hn l (by simp [AV.names]) ob ho
  exact ⟨ob', h1, by rw [e, h2, h3]⟩
 | .tup xs, u, hn, h => by
  unfold RV at h ⊢
  obtain ⟨us, e, h⟩ := h
  exact ⟨us, e, RVs.carry hS hw xs us (fun l hl => hn l (by simpa [AV.names] using hl)) h⟩
 | .mapv l, u, hn, h => by
  unfold RV at h ⊢
  obtain ⟨ob, ho, e⟩ := h
  obtain ⟨ob', h1, h2, _, h3⟩ := hn l (by simp [AV.names]) ob ho
  exact ⟨ob', h1, by rw [e, h2, h3]⟩
 | .mix xs, u, hn, h => by
  unfold RV at h ⊢
  obtain ⟨cs, e, h⟩ := h
  exact ⟨cs, e, ROs.carry hS hw xs _ cs (fun l hl => hn l (by simpa [AV.names] using hl)) (fun g hg => hg.elim) h⟩
 | .rd _, u, _, h => by unfold RV at h; exact h.elim
 | .fn f xs ys, u, hn, h => by
  unfold RV at h ⊢
  obtain ⟨us, vs, e, h1, h2⟩ := h
  exact ⟨us, vs, e, RVs.carry hS hw xs us (fun l hl => hn l (by simp [AV.names, hl])) h1, RVs.carry hS hw ys vs (fun l hl => hn l (by simp [AV.names, hl])) h2⟩
 | .ifc t x, u, hn, h => by
  unfold RV at h ⊢
  obtain ⟨u', e, h⟩ := h
  exact ⟨u', e, RV.carry hS hw x u' (fun l hl => hn l (by simpa [AV.names] using hl)) h⟩
theorem RVs.carry (hS : ∀ b, S b → S' b) (hw : ∀ b, S b → w'.heap[b]? = w.heap[b]?) : ∀ (xs : List AV) (us : List Value), (∀ l, xI l xs = true → Same hp hp' B B' V V' l) → RVs S w hp B V xs us → RVs S' w' hp' B' V' xs us
 | [], us, _, h => by unfold RVs at h ⊢; exact h
 | x :: xs, us, hn, h => by
  unfold RVs at h ⊢
  obtain ⟨u, us', e, h1, h2⟩ := h
  exact ⟨u, us', e, RV.carry hS hw x u (fun l hl => hn l (by simp [xI, hl])) h1, RVs.carry hS hw xs us' (fun l hl => hn l (by simp [xI, hl])) h2⟩
theorem RO1.carry (hS : ∀ b, S b → S' b) (hw : ∀ b, S b → w'.heap[b]? = w.heap[b]?) : ∀ (x : AV) (T : Nat → Prop) (cs : List Value), (∀ l, x.names l = true → Same hp hp' B B' V V' l) → (∀ g, T g → w'.heap[g]? = w.heap[g]?) → RO1 S w hp B V x T cs → RO1 S' w' hp' B' V' x T cs
 | .any, T, cs, _, _, h => by unfold RO1 at h ⊢; exact h
 | .v x, T, cs, _, ht, h => by unfold RO1 at h ⊢; exact RD.mono _ _ _ ht h
 | .agg xs, T, cs, _, ht, h => by unfold RO1 at h ⊢; exact RD.mono _ _ _ ht h
 | .lst sz xs, T, cs, _, ht, h => by unfold RO1 at h ⊢; exact RD.mono _ _ _ ht h
 | .ptr x, T, cs, _, _, h => by unfold RO1 at h; exact h.elim
 | .tup x, T, cs, _, _, h => by unfold RO1 at h; exact h.elim
 | .own l, T, cs, hn, _, h => by
  unfold RO1 at h ⊢
  obtain ⟨h0, ⟨ob, ho⟩, e, h1⟩ := h
  obtain ⟨ob', k1, _, k2, _⟩ := hn l (by simp [AV.names]) ob ho
  exact ⟨h0, ⟨ob', k1⟩, by rw [e, k2], by rw [k2]; exact h1⟩
 | .optr l i p c, T, cs, hn, _, h => by
  unfold RO1 at h ⊢
  obtain ⟨h0, ob, ho, e⟩ := h
  obtain ⟨ob', k1, k2, _, k3⟩ := hn l (by simp [AV.names]) ob ho
  exact ⟨h0, ob', k1, by rw [e, k2, k3]⟩
 | .mapv l, T, cs, hn, _, h => by
  unfold RO1 at h ⊢
  obtain ⟨h0, ob, ho, e⟩ := h
  obtain ⟨ob', k1, k2, _, k3⟩ := hn l (by simp [AV.names]) ob ho
  exact ⟨h0, ob', k1, by rw [e, k2, k3]⟩
 | .mix xs, T, cs, hn, ht, h => by
  unfold RO1 at h ⊢
  exact ROs.carry hS hw xs T cs (fun l hl => hn l (by simpa [AV.names] using hl)) ht h
 | .rd x, T, cs, _, _, h => by unfold RO1 at h ⊢; exact ⟨h.1, RA.mono hS hw x cs h.2⟩
 | .fn f xs ys, T, cs, hn, _, h => by
  unfold RO1 at h ⊢
  obtain ⟨h0, us, vs, e, h1, h2⟩ := h
  exact ⟨h0, us, vs, e, RVs.carry hS hw xs us (fun l hl => hn l (by simp [AV.names, hl])) h1, RVs.carry hS hw ys vs (fun l hl => hn l (by simp [AV.names, hl])) h2⟩
 | .ifc t x, T, cs, hn, _, h => by
  unfold RO1 at h ⊢
  obtain ⟨h0, u', e, h⟩ := h
  exact ⟨h0, u', e, RV.carry hS hw x u' (fun l hl => hn l (by simpa [AV.names] using hl)) h⟩
theorem ROs.carry (hS : ∀ b, S b → S' b) (hw : ∀ b, S b → w'.heap[b]? = w.heap[b]?) : ∀ (xs : List AV) (T : Nat → Prop) (cs : List Value), (∀ l, xI l xs = true → Same hp hp' B B' V V' l) → (∀ g, T g → w'.heap[g]? = w.heap[g]?) → ROs S w hp B V xs T cs → ROs S' w' hp' B' V' xs T cs
 | [], T, cs, _, _, h => by unfold ROs at h ⊢; exact h
 | x :: xs, T, cs, hn, ht, h => by
  unfold ROs at h ⊢
  obtain ⟨c1, c2, T1, T2, e, hs, h1, h2⟩ := h
  exact ⟨c1, c2, T1, T2, e, hs, RO1.carry hS hw x T1 c1 (fun l hl => hn l (by simp [xI, hl])) (fun g hg => ht g (hs.left hg)) h1, ROs.carry hS hw xs T2 c2 (fun l hl => hn l (by simp [xI, hl])) (fun g hg => ht g (hs.right hg)) h2⟩
end
mutual
theorem RV.there {l : Nat} : ∀ (x : AV) (u : Value), x.names l = true → RV S w hp B V x u → ∃ ob, hp l = some ob
 | .own l', u, n, h => by unfold RV at h; simp only [AV.names] at n; rw [Nat.eq_of_beq_eq_true n] at h; exact h.1
 | .optr l' _ _ _, u, n, h => by unfold RV at h; simp only [AV.names] at n; rw [Nat.eq_of_beq_eq_true n] at h; obtain ⟨ob, ho, _⟩ := h; exact ⟨ob, ho⟩
 | .mapv l', u, n, h => by unfold RV at h; simp only [AV.names] at n; rw [Nat.eq_of_beq_eq_true n] at h; obtain ⟨ob, ho, _⟩ := h; exact ⟨ob, ho⟩
 | .tup xs, u, n, h => by unfold RV at h; obtain ⟨us, _, h⟩ := h; exact RVs.there xs us (by simpa [AV.names] using n) h
 | .mix xs, u, n, h => by unfold RV at h; obtain ⟨cs, _, h⟩ := h; exact ROs.there xs _ cs (by simpa [AV.names] using n) h
 | .fn f xs ys, u, n, h => by
  unfold RV at h; obtain ⟨us, vs, _, h1, h2⟩ := h
  simp only [AV.names, Bool.or_eq_true] at n
  rcases n with n | n
  · exact RVs.there xs us n h1
  · exact RVs.there ys vs n h2
 | .ifc t x, u, n, h => by unfold RV at h; obtain ⟨u', _, h⟩ := h; exact RV.there x u' (by simpa [AV.names] using n) h
 | .any, u, n, _ => by simp [AV.names] at n
 | .v _, u, n, _ => by simp [AV.names] at n
 | .agg _, u, n, _ => by simp [AV.names] at n
 | .lst _ _, u, n, _ => by simp [AV.names] at n
 | .ptr _, u, n, _ => by simp [AV.names] at n
 | .rd _, u, n, _ => by simp [AV.names] at n
theorem RVs.there {l : Nat} : ∀ (xs : List AV) (us : List Value), xI l xs = true → RVs S w hp B V xs us → ∃ ob, hp l = some ob
 | [], us, n, _ => by simp [xI] at n
 | x :: xs, us, n, h => by
  unfold RVs at h
  obtain ⟨u, us', e, h1, h2⟩ := h
  simp only [xI, Bool.or_eq_true] at n
  rcases n with n | n
  · exact RV.there x u n h1
  · exact RVs.there xs us' n h2
theorem RO1.there {l : Nat} : ∀ (x : AV) (T : Nat → Prop) (cs : List Value), x.names l = true → RO1 S w hp B V x T cs → ∃ ob, hp l = some ob
 | .own l', T, cs, n, h => by unfold RO1 at h; simp only [AV.names] at n; rw [Nat.eq_of_beq_eq_true n] at h; exact h.2.1
 | .optr l' _ _ _, T, cs, n, h => by unfold RO1 at h; simp only [AV.names] at n; rw [Nat.eq_of_beq_eq_true n] at h; obtain ⟨_, ob, ho, _⟩ := h; exact ⟨ob, ho⟩
 | .mapv l', T, cs, n, h => by unfold RO1 at h; simp only [AV.names] at n; rw [Nat.eq_of_beq_eq_true n] at h; obtain ⟨_, ob, ho, _⟩ := h; exact ⟨ob, ho⟩
 | .mix xs, T, cs, n, h => by unfold RO1 at h; exact ROs.there xs T cs (by simpa [AV.names] using n) h
 | .fn f xs ys, T, cs, n, h => by
  unfold RO1 at h; obtain ⟨_, us, vs, _, h1, h2⟩ := h
  simp only [AV.names, Bool.or_eq_true] at n
  rcases n with n | n
  · exact RVs.there xs us n h1
  · exact RVs.there ys vs n h2
 | .ifc t x, T, cs, n, h => by unfold RO1 at h; obtain ⟨_, u', _, h⟩ := h; exact RV.there x u' (by simpa [AV.names] using n) h
 | .any, T, cs, n, _ => by simp [AV.names] at n
 | .v _, T, cs, n, _ => by simp [AV.names] at n
 | .agg _, T, cs, n, _ => by simp [AV.names] at n
 | .lst _ _, T, cs, n, _ => by simp [AV.names] at n
 | .ptr _, T, cs, n, _ => by simp [AV.names] at n
 | .rd _, T, cs, n, _ => by simp [AV.names] at n
 | .tup _, T, cs, n, h => by unfold RO1 at h; exact h.elim
theorem ROs.there {l : Nat} : ∀ (xs : List AV) (T : Nat → Prop) (cs : List Value), xI l xs = true → ROs S w hp B V xs T cs → ∃ ob, hp l = some ob
 | [], T, cs, n, _ => by simp [xI] at n
 | x :: xs, T, cs, n, h => by
  unfold ROs at h
  obtain ⟨c1, c2, T1, T2, e, hs, h1, h2⟩ := h
  simp only [xI, Bool.or_eq_true] at n
  rcases n with n | n
  · exact RO1.there x T1 c1 n h1
  · exact ROs.there xs T2 c2 n h2
end
theorem RD.toRO1 : ∀ (x : AV) (T : Nat → Prop) (cs : List Value), RD w x T cs → RO1 S w hp B V x T cs
 | .v x, T, cs, h => by unfold RO1; exact h
 | .agg xs, T, cs, h => by unfold RO1; exact h
 | .lst sz xs, T, cs, h => by unfold RO1; exact h
 | .any, T, cs, h | .ptr _, T, cs, h | .own _, T, cs, h | .optr _ _ _ _, T, cs, h | .tup _, T, cs, h | .mapv _, T, cs, h | .mix _, T, cs, h | .rd _, T, cs, h | .fn _ _ _, T, cs, h | .ifc _ _, T, cs, h => by unfold RD at h; exact h.elim
theorem RDL.toROs : ∀ (xs : List AV) (T : Nat → Prop) (cs : List Value), RDL w xs T cs → ROs S w hp B V xs T cs
 | [], T, cs, h => by unfold RDL at h; unfold ROs; exact h
 | x :: xs, T, cs, h => by
  unfold RDL at h; unfold ROs
  obtain ⟨c1, c2, T1, T2, e, hs, h1, h2⟩ := h
  exact ⟨c1, c2, T1, T2, e, hs, RD.toRO1 x T1 c1 h1, RDL.toROs xs T2 c2 h2⟩
mutual
theorem RO1.size : ∀ (x : AV) (T : Nat → Prop) (cs : List Value), RO1 S w hp B V x T cs → cs.length = asz x
 | .any, T, cs, h => by unfold RO1 at h; obtain ⟨_, u, e, _⟩ := h; rw [e]; rfl
 | .v x, T, cs, h => by unfold RO1 at h; exact RD.size _ _ _ h
 | .agg xs, T, cs, h => by unfold RO1 at h; exact RD.size _ _ _ h
 | .lst sz xs, T, cs, h => by unfold RO1 at h; exact RD.size _ _ _ h
 | .ptr x, T, cs, h => by unfold RO1 at h; exact h.elim
 | .tup x, T, cs, h => by unfold RO1 at h; exact h.elim
 | .own l, T, cs, h => by unfold RO1 at h; rw [h.2.2.1]; rfl
 | .optr l i p c, T, cs, h => by unfold RO1 at h; obtain ⟨_, _, _, e⟩ := h; rw [e]; rfl
 | .mapv l, T, cs, h => by unfold RO1 at h; obtain ⟨_, _, _, e⟩ := h; rw [e]; rfl
 | .mix xs, T, cs, h => by unfold RO1 at h; unfold asz; exact ROs.size xs T cs h
 | .rd x, T, cs, h => by unfold RO1 at h; unfold asz; exact RA.size _ _ h.2
 | .fn f xs ys, T, cs, h => by unfold RO1 at h; obtain ⟨_, _, _, e, _⟩ := h; rw [e]; rfl
 | .ifc t x, T, cs, h => by unfold RO1 at h; obtain ⟨_, _, e, _⟩ := h; rw [e]; rfl
theorem ROs.size : ∀ (xs : List AV) (T : Nat → Prop) (cs : List Value), ROs S w hp B V xs T cs → cs.length = xB xs
 | [], T, cs, h => by unfold ROs at h; rw [h.1]; rfl
 | x :: xs, T, cs, h => by
  unfold ROs at h
  obtain ⟨c1, c2, T1, T2, e, hs, h1, h2⟩ := h
  unfold xB
  rw [e, List.length_append, RO1.size x T1 c1 h1, ROs.size xs T2 c2 h2]
end
mutual
theorem RO1.one : ∀ (x : AV) (T : Nat → Prop) (cs : List Value), RO1 S w hp B V x T cs → ∀ u ∈ cs, u.oneCell' = true
 | .any, T, cs, h => by unfold RO1 at h; obtain ⟨_, u, e, h1⟩ := h; rw [e]; simpa using h1
 | .v x, T, cs, h => by unfold RO1 at h; exact RD.one _ _ _ h
 | .agg xs, T, cs, h => by unfold RO1 at h; exact RD.one _ _ _ h
 | .lst sz xs, T, cs, h => by unfold RO1 at h; exact RD.one _ _ _ h
 | .ptr x, T, cs, h => by unfold RO1 at h; exact h.elim
 | .tup x, T, cs, h => by unfold RO1 at h; exact h.elim
 | .own l, T, cs, h => by unfold RO1 at h; rw [h.2.2.1]; simpa using h.2.2.2
 | .optr l i p c, T, cs, h => by unfold RO1 at h; obtain ⟨_, _, _, e⟩ := h; rw [e]; simp [Value.oneCell']
 | .mapv l, T, cs, h => by unfold RO1 at h; obtain ⟨_, _, _, e⟩ := h; rw [e]; simp [aFi]
 | .mix xs, T, cs, h => by unfold RO1 at h; exact ROs.one xs T cs h
 | .rd x, T, cs, h => by unfold RO1 at h; exact RA.one _ _ h.2
 | .fn f xs ys, T, cs, h => by unfold RO1 at h; obtain ⟨_, _, _, e, _⟩ := h; rw [e]; simp [Value.oneCell']
 | .ifc t x, T, cs, h => by unfold RO1 at h; obtain ⟨_, _, e, _⟩ := h; rw [e]; simp [Value.oneCell']
theorem ROs.one : ∀ (xs : List AV) (T : Nat → Prop) (cs : List Value), ROs S w hp B V xs T cs → ∀ u ∈ cs, u.oneCell' = true
 | [], T, cs, h => by unfold ROs at h; rw [h.1]; simp
 | x :: xs, T, cs, h => by
  unfold ROs at h
  obtain ⟨c1, c2, T1, T2, e, hs, h1, h2⟩ := h
  intro u hu
  rw [e, List.mem_append] at hu
  rcases hu with hu | hu
  · exact RO1.one x T1 c1 h1 u hu
  · exact ROs.one xs T2 c2 h2 u hu
end
mutual
theorem RO1.lt : ∀ (x : AV) (T : Nat → Prop) (cs : List Value), RO1 S w hp B V x T cs → ∀ g, T g → g < w.heap.size
 | .v x, T, cs, h => by unfold RO1 at h; exact RD.lt _ _ _ h
 | .agg xs, T, cs, h => by unfold RO1 at h; exact RD.lt _ _ _ h
 | .lst sz xs, T, cs, h => by unfold RO1 at h; exact RD.lt _ _ _ h
 | .ptr x, T, cs, h => by unfold RO1 at h; exact h.elim
 | .tup x, T, cs, h => by unfold RO1 at h; exact h.elim
 | .mix xs, T, cs, h => by unfold RO1 at h; exact ROs.lt xs T cs h
 | .any, T, cs, h | .own _, T, cs, h | .optr _ _ _ _, T, cs, h | .mapv _, T, cs, h | .rd _, T, cs, h | .fn _ _ _, T, cs, h | .ifc _ _, T, cs, h => by unfold RO1 at h; exact fun g hg => (h.1 g hg).elim
theorem ROs.lt : ∀ (xs : List AV) (T : Nat → Prop) (cs : List Value), ROs S w hp B V xs T cs → ∀ g, T g → g < w.heap.size
 | [], T, cs, h => by unfold ROs at h; exact fun g hg => (h.2 g hg).elim
 | x :: xs, T, cs, h => by
  unfold ROs at h
  obtain ⟨c1, c2, T1, T2, e, hs, h1, h2⟩ := h
  intro g hg
  rcases (hs.1 g).1 hg with k | k
  · exact RO1.lt x T1 c1 h1 g k
  · exact ROs.lt xs T2 c2 h2 g k
end
mutual
theorem RO1.kill (l : Nat) : ∀ (x : AV) (T : Nat → Prop) (cs : List Value), RO1 S w hp B V x T cs → RO1 S w hp B V (xE l x) T cs
 | .own l', T, cs, h => by
  simp only [xE]
  cases Nat.beq l' l with
  | false => exact h
  | true => simp only [cond_true]; unfold RO1 at h ⊢; exact ⟨h.1, _, h.2.2.1, h.2.2.2⟩
 | .optr l' i p c, T, cs, h => by
  simp only [xE]
  cases Nat.beq l' l with
  | false => exact h
  | true => simp only [cond_true]; unfold RO1 at h ⊢; obtain ⟨h0, _, _, e⟩ := h; exact ⟨h0, _, e, rfl⟩
 | .mapv l', T, cs, h => by
  simp only [xE]
  cases Nat.beq l' l with
  | false => exact h
  | true => simp only [cond_true]; unfold RO1 at h ⊢; obtain ⟨h0, _, _, e⟩ := h; exact ⟨h0, _, e, aFi⟩
 | .mix xs, T, cs, h => by simp only [xE]; unfold RO1 at h ⊢; exact ROs.kill l xs T cs h
 | .fn f xs ys, T, cs, h => by
  simp only [xE]
  cases xI l xs || xI l ys with
  | false => exact h
  | true => simp only [cond_true]; unfold RO1 at h ⊢; obtain ⟨h0, _, _, e, _⟩ := h; exact ⟨h0, _, e, rfl⟩
 | .ifc t x, T, cs, h => by
  simp only [xE]
  cases x.names l with
  | false => exact h
  | true => simp only [cond_true]; unfold RO1 at h ⊢; obtain ⟨h0, _, e, _⟩ := h; exact ⟨h0, _, e, rfl⟩
 | .any, T, cs, h => h
 | .v _, T, cs, h => h
 | .agg _, T, cs, h => h
 | .lst _ _, T, cs, h => h
 | .ptr _, T, cs, h => h
 | .tup _, T, cs, h => by unfold RO1 at h; exact h.elim
 | .rd _, T, cs, h => h
theorem ROs.kill (l : Nat) : ∀ (xs : List AV) (T : Nat → Prop) (cs : List Value), ROs S w hp B V xs T cs → ROs S w hp B V (uM l xs) T cs
 | [], T, cs, h => h
 | x :: xs, T, cs, h => by
  simp only [uM]
  unfold ROs at h ⊢
  obtain ⟨c1, c2, T1, T2, e, hs, h1, h2⟩ := h
  exact ⟨c1, c2, T1, T2, e, hs, RO1.kill l x T1 c1 h1, ROs.kill l xs T2 c2 h2⟩
end
end
mutual
theorem aB7 (l : Nat) : ∀ x : AV, (xE l x).names l = false
 | .own l' => by
  simp only [xE]
  cases e : Nat.beq l' l with
  | false => simpa [AV.names] using e
  | true => rfl
 | .optr l' i p c => by
  simp only [xE]
  cases e : Nat.beq l' l with
  | false => simpa [AV.names] using e
  | true => rfl
 | .mapv l' => by
  simp only [xE]
  cases e : Nat.beq l' l with
  | false => simpa [AV.names] using e
  | true => rfl
 | .mix xs => by simp only [xE, AV.names]; exact aB8 l xs
 | .fn f xs ys => by
  simp only [xE]
  cases e : xI l xs || xI l ys with
  | false => simpa [AV.names] using e
  | true => rfl
 | .ifc t x => by
  simp only [xE]
  cases e : x.names l with
  | false => simpa [AV.names] using e
  | true => rfl
 | .any => rfl
 | .v _ => rfl
 | .agg _ => rfl
 | .lst _ _ => rfl
 | .ptr _ => rfl
 | .rd _ => rfl
 | .tup xs => rfl
theorem aB8 (l : Nat) : ∀ xs : List AV, xI l (uM l xs) = false
 | [] => rfl
 | x :: xs => by simp only [uM, xI, aB8 l xs, aB7 l x, Bool.or_false]
end
mutual
theorem aDQ (l l' : Nat) : ∀ x : AV, (xE l x).names l' = true → x.names l' = true
 | .own k => by
  simp only [xE]
  cases e : Nat.beq k l with
  | false => exact id
  | true => intro h; simp [AV.names] at h
 | .optr k i p c => by
  simp only [xE]
  cases e : Nat.beq k l with
  | false => exact id
  | true => intro h; simp [AV.names] at h
 | .mapv k => by
  simp only [xE]
  cases e : Nat.beq k l with
  | false => exact id
  | true => intro h; simp [AV.names] at h
 | .mix xs => by simp only [xE, AV.names]; exact aDS l l' xs
 | .fn f xs ys => by
  simp only [xE]
  cases e : xI l xs || xI l ys with
  | false => exact id
  | true => intro h; simp [AV.names] at h
 | .ifc t x => by
  simp only [xE]
  cases e : x.names l with
  | false => exact id
  | true => intro h; simp [AV.names] at h
 | .any => id
 | .v _ => id
 | .agg _ => id
 | .lst _ _ => id
 | .ptr _ => id
 | .rd _ => id
 | .tup xs => fun h => by simp [xE, AV.names] at h
theorem aDS (l l' : Nat) : ∀ xs : List AV, xI l' (uM l xs) = true → xI l' xs = true
 | [] => id
 | x :: xs => by
  simp only [uM, xI, Bool.or_eq_true]
  exact fun h => h.imp (aDQ l l' x) (aDS l l' xs)
end
mutual
theorem aDP (l : Nat) : ∀ x : AV, asz (xE l x) = asz x
 | .own k => by simp only [xE]; cases Nat.beq k l <;> rfl
 | .optr k i p c => by simp only [xE]; cases Nat.beq k l <;> rfl
 | .mapv k => by simp only [xE]; cases Nat.beq k l <;> rfl
 | .mix xs => by simp only [xE, asz]; exact aDR l xs
 | .fn f xs ys => by simp only [xE]; cases xI l xs || xI l ys <;> rfl
 | .ifc t x => by simp only [xE]; cases x.names l <;> rfl
 | .any => rfl
 | .v _ => rfl
 | .agg _ => rfl
 | .lst _ _ => rfl
 | .ptr _ => rfl
 | .rd _ => rfl
 | .tup xs => rfl
theorem aDR (l : Nat) : ∀ xs : List AV, xB (uM l xs) = xB xs
 | [] => rfl
 | x :: xs => by simp only [uM, xB, aDR l xs, aDP l x]
end
mutual
theorem aLM (l : Nat) : ∀ x : AV, x.names l = false → (∀ xs, x ≠ .tup xs) → xE l x = x ∨ ∃ xs, x = .mix xs
 | .own k, h, _ => by simp only [AV.names] at h; simp [xE, h]
 | .optr k i p c, h, _ => by simp only [AV.names] at h; simp [xE, h]
 | .mapv k, h, _ => by simp only [AV.names] at h; simp [xE, h]
 | .mix xs, h, _ => .inr ⟨xs, rfl⟩
 | .fn f xs ys, h, _ => by simp only [AV.names] at h; simp [xE, h]
 | .ifc t x, h, _ => by simp only [AV.names] at h; simp [xE, h]
 | .any, _, _ => .inl rfl
 | .v _, _, _ => .inl rfl
 | .agg _, _, _ => .inl rfl
 | .lst _ _, _, _ => .inl rfl
 | .ptr _, _, _ => .inl rfl
 | .rd _, _, _ => .inl rfl
 | .tup xs, _, h => absurd rfl (h xs)
end
def xU : AV → List Nat → Nat → Option (AV × Nat)
 | x, [], c => some (x, c)
 | .agg xs, i :: p, c => match xs[i]? with | some y => xU y p (c + xB (xs.take i)) | none => none
 | .mix xs, i :: p, c => match xs[i]? with | some y => xU y p (c + xB (xs.take i)) | none => none
 | _, _, _ => none
def uO : AV → List Nat → AV → AV
 | _, [], y => y
 | .agg xs, i :: p, y => match xs[i]? with | some x => .agg (xs.set i (uO x p y)) | none => .agg xs
 | x, _, _ => x
def setM : AV → List Nat → AV → AV
 | _, [], y => y
 | .agg xs, i :: p, y => match xs[i]? with | some x => .mix (xs.set i (setM x p y)) | none => .agg xs
 | .mix xs, i :: p, y => match xs[i]? with | some x => .mix (xs.set i (setM x p y)) | none => .mix xs
 | x, _, _ => x
theorem kN : ∀ {xs : List AV} (i : Nat) {x y : AV}, xs[i]? = some y → asz x = asz y → xB (xs.set i x) = xB xs
 | [], i, x, y, h, _ => by simp at h
 | z :: xs, 0, x, y, h, e => by simp at h; subst h; simp [xB, e]
 | z :: xs, i + 1, x, y, h, e => by simp at h; simp [xB, kN i h e]
section
variable {S : Nat → Prop} {w : World} {hp : Nat → Option OB} {B : Nat → Nat} {V : Nat → Value}
theorem ROs.focus : ∀ {xs : List AV} {T : Nat → Prop} {us : List Value} (i : Nat) {q : AV}, ROs S w hp B V xs T us → xs[i]? = some q →
 ∃ c1 c2 c3 T1 Tr, us = c1 ++ (c2 ++ c3) ∧ c1.length = xB (xs.take i) ∧ RO1 S w hp B V q T1 c2 ∧ Split T T1 Tr ∧
  ∀ q' c2' T1' T', RO1 S w hp B V q' T1' c2' → Split T' T1' Tr → ROs S w hp B V (xs.set i q') T' (c1 ++ (c2' ++ c3))
 | [], T, us, i, q, _, h => by simp at h
 | x :: xs, T, us, 0, q, h, hx => by
  unfold ROs at h
  obtain ⟨d1, d2, A, Bq, e, hs, h1, h2⟩ := h
  simp at hx; subst hx
  refine ⟨[], d1, d2, A, Bq, e, by simp [xB], h1, hs, fun q' c2' T1' T' k1 k2 => ?_⟩
  rw [List.set_cons_zero, List.nil_append]
  unfold ROs
  exact ⟨c2', d2, T1', Bq, rfl, k2, k1, h2⟩
 | x :: xs, T, us, i + 1, q, h, hx => by
  unfold ROs at h
  obtain ⟨d1, d2, A, Bq, e, hs, h1, h2⟩ := h
  simp at hx
  obtain ⟨c1, c2, c3, T1, Tr, e2, hl, k1, k2, k3⟩ := ROs.focus i h2 hx
  refine ⟨d1 ++ c1, c2, c3, T1, fun g => A g ∨ Tr g, by rw [e, e2, List.append_assoc], ?_, k1, ⟨fun g => ?_, fun g a b => ?_⟩, fun q' c2' T1' T' m1 m2 => ?_⟩
  · rw [List.take_succ_cons, xB, List.length_append, RO1.size _ _ _ h1, hl]
  · rw [hs.1 g, k2.1 g]
    constructor
    · rintro (x | x | x)
      · exact .inr (.inl x)
      · exact .inl x
      · exact .inr (.inr x)
    · rintro (x | x | x)
      · exact .inr (.inl x)
      · exact .inl x
      · exact .inr (.inr x)
  · rcases b with b | b
    · exact hs.2 g b (k2.left a)
    · exact k2.2 g a b
  · rw [List.set_cons_succ]
    unfold ROs
    refine ⟨d1, c1 ++ (c2' ++ c3), A, fun g => T1' g ∨ Tr g, by rw [List.append_assoc], ⟨fun g => ?_, fun g a b => ?_⟩, h1, k3 q' c2' T1' _ m1 ⟨fun g => Iff.rfl, fun g a b => m2.2 g a (.inr b)⟩⟩
    · rw [m2.1 g]
      constructor
      · rintro (x | x | x)
        · exact .inr (.inl x)
        · exact .inl x
        · exact .inr (.inr x)
      · rintro (x | x | x)
        · exact .inr (.inl x)
        · exact .inl x
        · exact .inr (.inr x)
    · rcases b with b | b
      · exact m2.2 g b (.inl a)
      · exact hs.2 g a (k2.right b)
theorem RO1.focus : ∀ (p : List Nat) (y : AV) (T : Nat → Prop) (us : List Value) (c0 c : Nat) (z : AV), RO1 S w hp B V y T us → xU y p c0 = some (z, c) →
 ∃ vs T1 Tr, Split T T1 Tr ∧ c0 ≤ c ∧ RO1 S w hp B V z T1 vs ∧ (c - c0) + vs.length ≤ us.length ∧ (∀ j u, vs[j]? = some u → us[c - c0 + j]? = some u) ∧
  ∀ y' vs' T1' T', asz y' = asz z → RO1 S w hp B V y' T1' vs' → Split T' T1' Tr → RO1 S w hp B V (setM y p y') T' (us.take (c - c0) ++ vs' ++ us.drop (c - c0 + vs'.length)) ∧ asz (setM y p y') = asz y
 | [], y, T, us, c0, c, z, h, hg => by
  unfold xU at hg; cases hg
  refine ⟨us, T, fun _ => False, Split.r0 noF, Nat.le_refl _, h, by omega, fun j u hu => by rw [Nat.sub_self, Nat.zero_add]; exact hu, fun y' vs' T1' T' hz k1 k2 => ?_⟩
  have e1 := RO1.size _ _ _ h
  have e2 := RO1.size _ _ _ k1
  simp only [setM, Nat.sub_self, List.take_zero, List.nil_append, Nat.zero_add]
  rw [List.drop_eq_nil_of_le (by omega), List.append_nil, k2.eql noF]
  exact ⟨k1, hz⟩
 | i :: p, y, T, us, c0, c, z, h, hg => by
  have key : ∀ (xs : List AV), ROs S w hp B V xs T us → (match xs[i]? with | some y => xU y p (c0 + xB (xs.take i)) | none => none) = some (z, c) →
   ∃ vs T1 Tr, Split T T1 Tr ∧ c0 ≤ c ∧ RO1 S w hp B V z T1 vs ∧ (c - c0) + vs.length ≤ us.length ∧ (∀ j u, vs[j]? = some u → us[c - c0 + j]? = some u) ∧
   ∀ y' vs' T1' T', asz y' = asz z → RO1 S w hp B V y' T1' vs' → Split T' T1' Tr → ∃ x, xs[i]? = some x ∧ ROs S w hp B V (xs.set i (setM x p y')) T' (us.take (c - c0) ++ vs' ++ us.drop (c - c0 + vs'.length)) ∧ xB (xs.set i (setM x p y')) = xB xs := by
   intro xs hx hg
   cases hq : xs[i]? with
   | none => rw [hq] at hg; cases hg
   | some q =>
    rw [hq] at hg
    simp only at hg
    obtain ⟨c1, c2, c3, A, Ar, e, hl, k1, k2, k3⟩ := ROs.focus i hx hq
    obtain ⟨vs, T1, Tr, s1, s2, s3, s4, s5, s6⟩ := RO1.focus p q A c2 _ c z k1 hg
    refine ⟨vs, T1, fun g => Tr g ∨ Ar g, ⟨fun g => ?_, fun g a b => ?_⟩, by omega, s3, ?_, fun j u hu => ?_, fun y' vs' T1' T' hz m1 m2 => ⟨q, rfl, ?_, ?_⟩⟩
    · rw [k2.1 g, s1.1 g, or_assoc]
    · rcases b with b | b
      · exact s1.2 g a b
      · exact k2.2 g (s1.left a) b
    · rw [e]; simp only [List.length_append]; omega
    · rw [e]
      have := s5 j u hu
      rw [List.getElem?_append_right (by omega), List.getElem?_append_left (by have := (List.getElem?_eq_some_iff.1 this).1; omega)]
      rw [show c - c0 + j - c1.length = c - (c0 + xB (xs.take i)) + j from by omega]
      exact this
    · obtain ⟨n1, n2⟩ := s6 y' vs' T1' (fun g => T1' g ∨ Tr g) hz m1 ⟨fun g => Iff.rfl, fun g a b => m2.2 g a (.inl b)⟩
      have := k3 _ _ _ T' n1 ⟨fun g => by rw [m2.1 g, or_assoc], fun g a b => by
       rcases a with a | a
       · exact m2.2 g a (.inr b)
       · exact k2.2 g (s1.right a) b⟩
      have e1 := RO1.size _ _ _ s3
      have e2 := RO1.size _ _ _ m1
      have e3 : us.take (c - c0) = c1 ++ c2.take (c - (c0 + xB (xs.take i))) := by
       rw [e, List.take_append, List.take_of_length_le (by omega), List.take_append_of_le_length (by omega)]
       congr 2; omega
      have e4 : us.drop (c - c0 + vs'.length) = c2.drop (c - (c0 + xB (xs.take i)) + vs'.length) ++ c3 := by
       rw [e, List.drop_append, List.drop_eq_nil_of_le (by omega), List.nil_append, List.drop_append_of_le_length (by omega)]
       congr 2; omega
      rw [e3, e4]
      simp only [List.append_assoc] at this ⊢
      exact this
    · exact kN i hq (s6 y' vs' T1' (fun g => T1' g ∨ Tr g) hz m1 ⟨fun g => Iff.rfl, fun g a b => m2.2 g a (.inl b)⟩).2
  have fin : ∀ (xs : List AV), asz y = xB xs → (∀ y', setM y (i :: p) y' = match xs[i]? with | some x => .mix (xs.set i (setM x p y')) | none => y) → ROs S w hp B V xs T us → (match xs[i]? with | some y => xU y p (c0 + xB (xs.take i)) | none => none) = some (z, c) →
   ∃ vs T1 Tr, Split T T1 Tr ∧ c0 ≤ c ∧ RO1 S w hp B V z T1 vs ∧ (c - c0) + vs.length ≤ us.length ∧ (∀ j u, vs[j]? = some u → us[c - c0 + j]? = some u) ∧
   ∀ y' vs' T1' T', asz y' = asz z → RO1 S w hp B V y' T1' vs' → Split T' T1' Tr → RO1 S w hp B V (setM y (i :: p) y') T' (us.take (c - c0) ++ vs' ++ us.drop (c - c0 + vs'.length)) ∧ asz (setM y (i :: p) y') = asz y := fun xs ha hm hx hg => by
   obtain ⟨vs, T1, Tr, s1, s2, s3, s4, s5, s6⟩ := key xs hx hg
   exact ⟨vs, T1, Tr, s1, s2, s3, s4, s5, fun y' vs' T1' T' hz m1 m2 => by
    obtain ⟨x, hq, n1, n2⟩ := s6 y' vs' T1' T' hz m1 m2
    rw [hm y', hq]
    simp only
    refine ⟨by unfold RO1; exact n1, ?_⟩
    rw [ha]; unfold asz; exact n2⟩
  cases y with
  | agg xs =>
   unfold RO1 at h; unfold RD at h
   exact fin xs (by unfold asz; rfl) (fun y' => rfl) (RDL.toROs xs T us h) hg
  | mix xs =>
   unfold RO1 at h
   exact fin xs (by unfold asz; rfl) (fun y' => rfl) h hg
  | _ => simp [xU] at hg
def toO : AV → Option AV
 | .v x => some (.v x)
 | .own l => some (.own l)
 | .optr l i p c => some (.optr l i p c)
 | .mapv l => some (.mapv l)
 | .mix xs => some (.mix xs)
 | .fn f xs ys => some (.fn f xs ys)
 | .ifc t x => some (.ifc t x)
 | .lst sz xs => some (.rd (.lst sz xs))
 | .ptr x => some (.rd (.ptr x))
 | .agg xs => some (.rd (.agg xs))
 | _ => none
theorem wm {u : Value} (h : u.oneCell' = true) : u.cells.toList = [u] := by
 cases u <;> first | rfl | simp [Value.oneCell'] at h
theorem RV.toO (hV : ∀ l ob, hp l = some ob → (V l).oneCell' = true) {x y : AV} {u : Value} (h : RV S w hp B V x u) (hy : toO x = some y) : RO1 S w hp B V y (fun _ => False) u.cells.toList := by
 cases x <;> simp only [AM.toO, Option.some.injEq, reduceCtorEq] at hy <;> subst hy <;> unfold RV at h <;> unfold RO1
 case v x => obtain ⟨rfl, h1⟩ := h; unfold RD; exact ⟨noF, wm h1, h1⟩
 case own l => obtain ⟨⟨ob, ho⟩, rfl⟩ := h; exact ⟨noF, ⟨ob, ho⟩, wm (hV l ob ho), hV l ob ho⟩
 case optr l i p c => obtain ⟨ob, ho, rfl⟩ := h; exact ⟨noF, ob, ho, rfl⟩
 case mapv l => obtain ⟨ob, ho, rfl⟩ := h; exact ⟨noF, ob, ho, aHd⟩
 case mix xs => obtain ⟨cs, rfl, h1⟩ := h; simpa [Value.cells] using h1
 case fn f xs ys => obtain ⟨us, vs, rfl, h1, h2⟩ := h; exact ⟨noF, us, vs, rfl, h1, h2⟩
 case ifc t x => obtain ⟨u', rfl, h1⟩ := h; exact ⟨noF, u', rfl, h1⟩
 case lst sz xs =>
  have h0 := h
  unfold RA at h
  obtain ⟨A, c, e, _⟩ := h
  simp only [List.cons.injEq, and_true] at e
  subst e
  exact ⟨noF, by simpa [Value.cells] using h0⟩
 case ptr x =>
  have h0 := h
  unfold RA at h
  obtain ⟨b, off, us, e, _⟩ := h
  simp only [List.cons.injEq, and_true] at e
  subst e
  exact ⟨noF, by simpa [Value.cells] using h0⟩
 case agg xs => obtain ⟨cs, rfl, h1⟩ := h; exact ⟨noF, by unfold RA; simpa [Value.cells] using h1⟩
mutual
def plainO : AV → Bool
 | .lst _ _ => false
 | .agg xs => zL xs
 | .mix xs => qG xs
 | _ => true
def qG : List AV → Bool
 | [] => true
 | x :: xs => plainO x && qG xs
end
mutual
theorem RO1.plain : ∀ (x : AV) (T : Nat → Prop) (cs : List Value), plainO x = true → RO1 S w hp B V x T cs → NoT T
 | .agg xs, T, cs, hn, h => by unfold RO1 at h; unfold plainO at hn; exact (RD.plain (.agg xs) T cs (by unfold zb; exact hn) h).1
 | .mix xs, T, cs, hn, h => by unfold RO1 at h; unfold plainO at hn; exact ROs.plain xs T cs hn h
 | .lst _ _, T, cs, hn, h => by simp [plainO] at hn
 | .v x, T, cs, _, h => by unfold RO1 at h; unfold RD at h; exact h.1
 | .tup x, T, cs, _, h => by unfold RO1 at h; exact h.elim
 | .ptr x, T, cs, _, h => by unfold RO1 at h; exact h.elim
 | .any, T, cs, _, h | .own _, T, cs, _, h | .optr _ _ _ _, T, cs, _, h | .mapv _, T, cs, _, h | .rd _, T, cs, _, h | .fn _ _ _, T, cs, _, h | .ifc _ _, T, cs, _, h => by unfold RO1 at h; exact h.1
theorem ROs.plain : ∀ (xs : List AV) (T : Nat → Prop) (cs : List Value), qG xs = true → ROs S w hp B V xs T cs → NoT T
 | [], T, cs, _, h => by unfold ROs at h; exact h.2
 | x :: xs, T, cs, hn, h => by
  unfold ROs at h
  simp only [qG, Bool.and_eq_true] at hn
  obtain ⟨c1, c2, T1, T2, e, hs, h1, h2⟩ := h
  exact fun g hg => ((hs.1 g).1 hg).elim (RO1.plain x T1 c1 hn.1 h1 g) (ROs.plain xs T2 c2 hn.2 h2 g)
end
def ofO : AV → Option AV
 | .rd x => some x
 | .agg xs => bif zL xs then some (.agg xs) else none
 | .mix xs => bif qG xs then some (.mix xs) else none
 | .lst _ _ => none
 | .ptr _ => none
 | .tup _ => none
 | x => some x
def zV : AV → Bool
 | .agg _ => true
 | .mix _ => true
 | _ => false
theorem RV.ofRA {x : AV} {us : List Value} (h : RA S w x us) : ∃ u, RV S w hp B V x u ∧ (if zV x then Value.agg us.toArray else us.headD undef) = u ∧ (zV x = false → us.length = 1) := by
 cases x with
 | v x => unfold RA at h; obtain ⟨rfl, h1⟩ := h; exact ⟨x, by unfold RV; exact ⟨rfl, h1⟩, rfl, fun _ => rfl⟩
 | agg xs => unfold RA at h; exact ⟨_, by unfold RV; exact ⟨us, rfl, h⟩, rfl, fun e => by cases e⟩
 | lst sz xs =>
  have h0 := h
  unfold RA at h
  obtain ⟨A, c, rfl, _⟩ := h
  exact ⟨_, by unfold RV; exact h0, rfl, fun _ => rfl⟩
 | ptr x =>
  have h0 := h
  unfold RA at h
  obtain ⟨b, off, us', rfl, _⟩ := h
  exact ⟨_, by unfold RV; exact h0, rfl, fun _ => rfl⟩
 | _ => unfold RA at h; exact h.elim
theorem RV.ofO {z x : AV} {T : Nat → Prop} {us : List Value} (h : RO1 S w hp B V z T us) (hx : ofO z = some x) : ∃ u, RV S w hp B V x u ∧ (if zV x then Value.agg us.toArray else us.headD undef) = u ∧ (zV x = false → us.length = 1) := by
 cases z with
 | rd y => simp only [AM.ofO, Option.some.injEq] at hx; subst hx; unfold RO1 at h; exact RV.ofRA h.2
 | agg xs =>
  simp only [AM.ofO] at hx
  cases hn : zL xs with
  | false => rw [hn] at hx; cases hx
  | true =>
   rw [hn] at hx; cases hx
   unfold RO1 at h
   exact RV.ofRA ((RD.plain (.agg xs) T us (by unfold zb; exact hn) h).2 S w)
 | mix xs =>
  simp only [AM.ofO] at hx
  cases hn : qG xs with
  | false => rw [hn] at hx; cases hx
  | true =>
   rw [hn] at hx; cases hx
   unfold RO1 at h
   have hT := ROs.plain xs T us hn h
   rw [hT.eq noF] at h
   exact ⟨_, by unfold RV; exact ⟨us, rfl, h⟩, rfl, fun e => by cases e⟩
 | v x => simp only [AM.ofO, Option.some.injEq] at hx; subst hx; unfold RO1 at h; unfold RD at h; obtain ⟨_, rfl, h1⟩ := h; exact ⟨x, by unfold RV; exact ⟨rfl, h1⟩, rfl, fun _ => rfl⟩
 | any => simp only [AM.ofO, Option.some.injEq] at hx; subst hx; unfold RO1 at h; obtain ⟨_, u, rfl, _⟩ := h; exact ⟨u, by unfold RV; trivial, rfl, fun _ => rfl⟩
 | own l => simp only [AM.ofO, Option.some.injEq] at hx; subst hx; unfold RO1 at h; obtain ⟨_, h1, rfl, _⟩ := h; exact ⟨_, by unfold RV; exact ⟨h1, rfl⟩, rfl, fun _ => rfl⟩
 | optr l i p c => simp only [AM.ofO, Option.some.injEq] at hx; subst hx; unfold RO1 at h; obtain ⟨_, ob, h1, rfl⟩ := h; exact ⟨_, by unfold RV; exact ⟨ob, h1, rfl⟩, rfl, fun _ => rfl⟩
 | mapv l => simp only [AM.ofO, Option.some.injEq] at hx; subst hx; unfold RO1 at h; obtain ⟨_, ob, h1, rfl⟩ := h; exact ⟨_, by unfold RV; exact ⟨ob, h1, rfl⟩, rfl, fun _ => rfl⟩
 | fn f xs ys => simp only [AM.ofO, Option.some.injEq] at hx; subst hx; unfold RO1 at h; obtain ⟨_, vs, ws, rfl, h1, h2⟩ := h; exact ⟨_, by unfold RV; exact ⟨vs, ws, rfl, h1, h2⟩, rfl, fun _ => rfl⟩
 | ifc t y => simp only [AM.ofO, Option.some.injEq] at hx; subst hx; unfold RO1 at h; obtain ⟨_, u, rfl, h1⟩ := h; exact ⟨_, by unfold RV; exact ⟨u, rfl, h1⟩, rfl, fun _ => rfl⟩
 | lst _ _ => cases hx
 | ptr _ => cases hx
 | tup _ => cases hx
theorem aFm {x y : AV} (h : ofO x = some y) : asz y = asz x := by
 cases x with
 | agg xs =>
  simp only [AM.ofO] at h
  cases hn : zL xs with
  | false => rw [hn] at h; cases h
  | true => rw [hn] at h; cases h; rfl
 | mix xs =>
  simp only [AM.ofO] at h
  cases hn : qG xs with
  | false => rw [hn] at h; cases h
  | true => rw [hn] at h; cases h; rfl
 | _ => simp only [AM.ofO, Option.some.injEq, reduceCtorEq] at h <;> subst h <;> simp [asz]
mutual
def yc : AV → AV → Option AV
 | z, .v x => match z, x with
  | .lst sz _, .slice none 0 0 => bif Nat.blt 0 sz then some (.lst sz []) else none
  | .lst _ _, _ => none
  | _, x => some (.v x)
 | _, .agg xs => some (.agg xs)
 | _, .lst sz xs => some (.lst sz xs)
 | .agg zs, .mix xs => (jZ zs xs).map .agg
 | _, _ => none
def jZ : List AV → List AV → Option (List AV)
 | [], [] => some []
 | z :: zs, x :: xs => match yc z x, jZ zs xs with
  | some y, some ys => some (y :: ys)
  | _, _ => none
 | _, _ => none
end
theorem RD.v {x : Value} (h : x.oneCell' = true) : RD w (.v x) (fun _ => False) [x] := by unfold RD; exact ⟨noF, rfl, h⟩
mutual
theorem RO1.shut : ∀ (z x y : AV) (T : Nat → Prop) (cs : List Value), yc z x = some y → RO1 S w hp B V x T cs → RD w y T cs ∧ asz y = asz x
 | z, .v x, y, T, cs, e, h => by
  unfold RO1 at h
  unfold yc at e
  split at e
  · rename_i sz xs
    cases hb : Nat.blt 0 sz with
    | false => rw [hb] at e; cases e
    | true =>
     rw [hb] at e; cases e
     have h0 : 0 < sz := by simpa using hb
     unfold RD at h ⊢
     exact ⟨⟨.slice none 0 0, 0, [], T, h.2.1, World.ownsRow_nil _ _ _ _, by simp, h0, by unfold RDL; exact ⟨rfl, h.1⟩, fun g => by simp [Value.ownBlock], fun g hg => by simp [Value.ownBlock] at hg⟩, rfl⟩
  · cases e
  · cases e; exact ⟨h, rfl⟩
 | z, .agg xs, y, T, cs, e, h => by unfold RO1 at h; unfold yc at e; cases e; exact ⟨h, rfl⟩
 | z, .lst sz xs, y, T, cs, e, h => by unfold RO1 at h; unfold yc at e; cases e; exact ⟨h, rfl⟩
 | .agg zs, .mix xs, y, T, cs, e, h => by
  unfold RO1 at h
  unfold yc at e
  cases hq : jZ zs xs with
  | none => rw [hq] at e; cases e
  | some ys =>
   rw [hq] at e; cases e
   obtain ⟨a, b⟩ := ROs.shut zs xs ys T cs hq h
   unfold RD
   exact ⟨a, by simp only [asz]; exact b⟩
 | z, .any, y, T, cs, e, h => by unfold yc at e; cases e
 | z, .ptr _, y, T, cs, e, h => by unfold yc at e; cases e
 | z, .own _, y, T, cs, e, h => by unfold yc at e; cases e
 | z, .optr _ _ _ _, y, T, cs, e, h => by unfold yc at e; cases e
 | z, .tup _, y, T, cs, e, h => by unfold yc at e; cases e
 | z, .mapv _, y, T, cs, e, h => by unfold yc at e; cases e
 | z, .rd _, y, T, cs, e, h => by unfold yc at e; cases e
 | z, .fn _ _ _, y, T, cs, e, h => by unfold yc at e; cases e
 | z, .ifc _ _, y, T, cs, e, h => by unfold yc at e; cases e
 | .any, .mix xs, y, T, cs, e, h => by unfold yc at e; cases e
 | .v _, .mix xs, y, T, cs, e, h => by unfold yc at e; cases e
 | .lst _ _, .mix xs, y, T, cs, e, h => by unfold yc at e; cases e
 | .ptr _, .mix xs, y, T, cs, e, h => by unfold yc at e; cases e
 | .own _, .mix xs, y, T, cs, e, h => by unfold yc at e; cases e
 | .optr _ _ _ _, .mix xs, y, T, cs, e, h => by unfold yc at e; cases e
 | .tup _, .mix xs, y, T, cs, e, h => by unfold yc at e; cases e
 | .mapv _, .mix xs, y, T, cs, e, h => by unfold yc at e; cases e
 | .mix _, .mix xs, y, T, cs, e, h => by unfold yc at e; cases e
 | .rd _, .mix xs, y, T, cs, e, h => by unfold yc at e; cases e
 | .fn _ _ _, .mix xs, y, T, cs, e, h => by unfold yc at e; cases e
 | .ifc _ _, .mix xs, y, T, cs, e, h => by unfold yc at e; cases e
theorem ROs.shut : ∀ (zs xs ys : List AV) (T : Nat → Prop) (cs : List Value), jZ zs xs = some ys → ROs S w hp B V xs T cs → RDL w ys T cs ∧ xB ys = xB xs
 | [], [], ys, T, cs, e, h => by unfold jZ at e; cases e; unfold ROs at h; unfold RDL; exact ⟨h, rfl⟩
 | z :: zs, x :: xs, ys, T, cs, e, h => by
  unfold jZ at e
  cases h1 : yc z x with
  | none => rw [h1] at e; cases e
  | some y =>
   cases h2 : jZ zs xs with
   | none => rw [h1, h2] at e; cases e
   | some ys' =>
    rw [h1, h2] at e; cases e
    unfold ROs at h
    obtain ⟨c1, c2, T1, T2, e', hs, k1, k2⟩ := h
    obtain ⟨a1, b1⟩ := RO1.shut z x y T1 c1 h1 k1
    obtain ⟨a2, b2⟩ := ROs.shut zs xs ys' T2 c2 h2 k2
    unfold RDL
    exact ⟨⟨c1, c2, T1, T2, e', hs, a1, a2⟩, by simp [xB, b1, b2]⟩
 | [], x :: xs, ys, T, cs, e, h => by unfold jZ at e; cases e
 | z :: zs, [], ys, T, cs, e, h => by unfold jZ at e; cases e
end
end
section
variable {S S' : Nat → Prop} {w w' : World} {hp hp' : Nat → Option OB} {B B' : Nat → Nat} {V V' : Nat → Value} {T : Nat → Prop} {sz : Nat} {xs : List AV} {cs : List Value} {e : ET}
theorem RK.carry (hS : ∀ b, S b → S' b) (hw : ∀ b, S b → w'.heap[b]? = w.heap[b]?) (hn : ∀ l, yS l e = true → Same hp hp' B B' V V' l) (hT : ∀ g, T g → w'.heap[g]? = w.heap[g]?) (h : RK S w hp B V sz xs T cs e) : RK S' w' hp' B' V' sz xs T cs e := by
 cases e with
 | s t => exact RL.mono hS hw xs cs h
 | z t => exact ⟨h.1, RDL.mono xs T cs hT h.2⟩
 | d t => exact RDL.mono xs T cs hT h
 | u => exact RDL.mono xs T cs hT h
 | o t i y =>
  obtain ⟨h1, h2, c0, c1, c2, T0, T', T1, T2, h3, h4, h5, h6, h7, h8⟩ := h
  exact ⟨h1, h2, c0, c1, c2, T0, T', T1, T2, h3, h4, h5, RDL.mono _ _ _ (fun g hg => hT g (h4.left hg)) h6, RO1.carry hS hw y T1 c1 hn (fun g hg => hT g (h4.right (h5.left hg))) h7, RDL.mono _ _ _ (fun g hg => hT g (h4.right (h5.right hg))) h8⟩
 | c Q =>
  refine ⟨h.1, h.2.1, fun g hg => ?_⟩
  have h1 := h.2.2 g hg
  have h2 := hT g hg
  rw [Array.getElem?_eq_getElem h1] at h2
  exact (Array.getElem?_eq_some_iff.1 h2).1
 | p t k =>
  obtain ⟨h0, c1, c2, T1, h1, h2, h3, h4⟩ := h
  refine ⟨fun g hg => ?_, c1, c2, T1, h1, h2, RDL.mono _ _ _ (fun g hg => hT g (h2 g hg)) h3, RL.mono hS hw _ _ h4⟩
  have h1 := h0 g hg
  have h2 := hT g hg
  rw [Array.getElem?_eq_getElem h1] at h2
  exact (Array.getElem?_eq_some_iff.1 h2).1
theorem ROc.carry {b : Nat} (hT : ∀ g, T g → w'.heap[g]? = w.heap[g]?) (h : ROc w b T e) : ROc w' b T e := by
 cases e with
 | c Q => exact Q.frame w w' b T hT h
 | _ => trivial
theorem ROc.kill {b : Nat} (l : Nat) (h : ROc w b T e) : ROc w b T (yR l e) := by
 cases e with
 | c Q => exact h
 | _ => trivial
theorem RK.kill (l : Nat) (h : RK S w hp B V sz xs T cs e) : RK S w hp B V sz xs T cs (yR l e) := by
 cases e with
 | o t i y =>
  obtain ⟨h1, h2, c0, c1, c2, T0, T', T1, T2, h3, h4, h5, h6, h7, h8⟩ := h
  exact ⟨h1, (aDP l y).trans h2, c0, c1, c2, T0, T', T1, T2, h3, h4, h5, h6, RO1.kill l y T1 c1 h7, h8⟩
 | _ => exact h
theorem aH9 (l : Nat) (e : ET) : (yR l e).typ = e.typ := by cases e <;> rfl
theorem aAP (l : Nat) (e : ET) (h : e.shut = true) : yR l e = e := by cases e <;> first | rfl | simp [ET.shut] at h
theorem vS (l : Nat) (e : ET) : yS l (yR l e) = false := by
 cases e with
 | o t i y => exact aB7 l y
 | _ => rfl
theorem vo (l l' : Nat) (e : ET) (h : yS l' (yR l e) = true) : yS l' e = true := by
 cases e with
 | o t i y => exact aDQ l l' y h
 | _ => simp [yS, yR] at h
theorem RK.size (ha : ∀ x ∈ xs, asz x = sz) (h : RK S w hp B V sz xs T cs e) : cs.length = xs.length * sz := by
 cases e with
 | s t => rw [RL.size _ _ h, xW ha]
 | z t => rw [RDL.size _ _ _ h.2, xW ha]
 | d t => rw [RDL.size _ _ _ h, xW ha]
 | u => rw [RDL.size _ _ _ h, xW ha]
 | o t i y =>
  obtain ⟨h1, h2, c0, c1, c2, T0, T', T1, T2, h3, h4, h5, h6, h7, h8⟩ := h
  rw [h3, List.length_append, List.length_append, RDL.size _ _ _ h6, RDL.size _ _ _ h8, RO1.size _ _ _ h7, h2, xW (fun x hx => ha x (List.mem_of_mem_take hx)), xW (fun x hx => ha x (List.mem_of_mem_drop hx)), List.length_take, List.length_drop, Nat.min_eq_left (by omega)]
  have : xs.length = i + (1 + (xs.length - (i + 1))) := by omega
  conv => rhs; rw [this]
  rw [Nat.add_mul, Nat.add_mul, Nat.one_mul]
 | c Q => rw [h.1, h.2.1]; simp
 | p t k =>
  obtain ⟨h0, c1, c2, T1, h1, h2, h3, h4⟩ := h
  rw [h1, List.length_append, RDL.size _ _ _ h3, RL.size _ _ h4, xW (fun x hx => ha x (List.mem_of_mem_take hx)), xW (fun x hx => ha x (List.mem_of_mem_drop hx)), ← Nat.add_mul, ← List.length_append, List.take_append_drop]
theorem RK.one (h : RK S w hp B V sz xs T cs e) : ∀ u ∈ cs, u.oneCell' = true := by
 cases e with
 | s t => exact RL.one _ _ h
 | z t => exact RDL.one _ _ _ h.2
 | d t => exact RDL.one _ _ _ h
 | u => exact RDL.one _ _ _ h
 | o t i y =>
  obtain ⟨h1, h2, c0, c1, c2, T0, T', T1, T2, h3, h4, h5, h6, h7, h8⟩ := h
  intro u hu
  rw [h3, List.mem_append, List.mem_append] at hu
  rcases hu with hu | hu | hu
  · exact RDL.one _ _ _ h6 u hu
  · exact RO1.one _ _ _ h7 u hu
  · exact RDL.one _ _ _ h8 u hu
 | c Q => intro u hu; rw [h.2.1] at hu; cases hu
 | p t k =>
  obtain ⟨h0, c1, c2, T1, h1, h2, h3, h4⟩ := h
  intro u hu
  rw [h1, List.mem_append] at hu
  rcases hu with hu | hu
  · exact RDL.one _ _ _ h3 u hu
  · exact RL.one _ _ h4 u hu
theorem RK.lt (hs : ∀ t, e ≠ .s t) (h : RK S w hp B V sz xs T cs e) : ∀ g, T g → g < w.heap.size := by
 cases e with
 | s t => exact absurd rfl (hs t)
 | z t => exact RDL.lt _ _ _ h.2
 | d t => exact RDL.lt _ _ _ h
 | u => exact RDL.lt _ _ _ h
 | o t i y =>
  obtain ⟨h1, h2, c0, c1, c2, T0, T', T1, T2, h3, h4, h5, h6, h7, h8⟩ := h
  intro g hg
  rcases (h4.1 g).1 hg with k | k
  · exact RDL.lt _ _ _ h6 g k
  · rcases (h5.1 g).1 k with k | k
    · exact RO1.lt _ _ _ h7 g k
    · exact RDL.lt _ _ _ h8 g k
 | c Q => exact h.2.2
 | p t k => exact h.1
theorem RK.list (hs : e.shut = true) (h : RK S w hp B V sz xs T cs e) : RL (fun g => S g ∨ T g) w xs cs := by
 cases e with
 | s t => exact RL.mono (fun _ h => .inl h) (fun _ _ => rfl) _ _ h
 | z t => exact RDL.toRL _ _ _ (fun g hg => .inr hg) h.2
 | d t => exact RDL.toRL _ _ _ (fun g hg => .inr hg) h
 | u => exact RDL.toRL _ _ _ (fun g hg => .inr hg) h
 | o t i y => cases hs
 | c Q => rw [h.1, h.2.1]; unfold RL; rfl
 | p t k => cases hs
def y8 (e : ET) (xs : List AV) (i : Nat) : Option ET :=
 match e with
 | .s _ => none
 | .z t => match xs[i]? with | some y => some (.o (some t) i y) | none => none
 | .d t => match xs[i]? with | some y => some (.o (some t) i y) | none => none
 | .u => match xs[i]? with | some y => some (.o none i y) | none => none
 | .o t j y => bif Nat.beq j i then some (.o t i y) else none
 | .c _ => none
 | .p _ _ => none
theorem RDL.opn {t : Option Nat} {i : Nat} {y : AV} (ha : ∀ x ∈ xs, asz x = sz) (hx : xs[i]? = some y) (h : RDL w xs T cs) : RK S w hp B V sz xs T cs (.o t i y) := by
 obtain ⟨hlt, e⟩ := List.getElem?_eq_some_iff.1 hx
 have hsp : xs = xs.take i ++ (y :: xs.drop (i + 1)) := by
  rw [← e, ← List.drop_eq_getElem_cons hlt, List.take_append_drop]
 refine ⟨hlt, ha y (List.mem_of_getElem? hx), ?_⟩
 rw [hsp] at h
 obtain ⟨c0, d, T0, T', e1, s1, k1, k2⟩ := RDL.parts h
 unfold RDL at k2
 obtain ⟨c1, c2, T1, T2, e2, s2, k3, k4⟩ := k2
 exact ⟨c0, c1, c2, T0, T', T1, T2, by rw [e1, e2], s1, s2, k1, RD.toRO1 _ _ _ k3, k4⟩
theorem RK.opn {e' : ET} {i : Nat} (ha : ∀ x ∈ xs, asz x = sz) (ho : y8 e xs i = some e') (h : RK S w hp B V sz xs T cs e) : (∃ t y, e' = .o t i y) ∧ e'.typ = e.typ ∧ RK S w hp B V sz xs T cs e' := by
 cases e with
 | s t => cases ho
 | z t =>
  simp only [y8] at ho
  cases hx : xs[i]? with
  | none => rw [hx] at ho; cases ho
  | some y => rw [hx] at ho; cases ho; exact ⟨⟨_, _, rfl⟩, rfl, RDL.opn ha hx h.2⟩
 | d t =>
  simp only [y8] at ho
  cases hx : xs[i]? with
  | none => rw [hx] at ho; cases ho
  | some y => rw [hx] at ho; cases ho; exact ⟨⟨_, _, rfl⟩, rfl, RDL.opn ha hx h⟩
 | u =>
  simp only [y8] at ho
  cases hx : xs[i]? with
  | none => rw [hx] at ho; cases ho
  | some y => rw [hx] at ho; cases ho; exact ⟨⟨_, _, rfl⟩, rfl, RDL.opn ha hx h⟩
 | o t j y =>
  simp only [y8] at ho
  cases hb : Nat.beq j i with
  | false => rw [hb] at ho; cases ho
  | true => rw [hb] at ho; cases ho; rw [Nat.eq_of_beq_eq_true hb] at h; exact ⟨⟨_, _, rfl⟩, rfl, h⟩
 | c Q => cases ho
 | p _ _ => cases ho
theorem RK.shut {t : Option Nat} {i : Nat} {y y' z : AV} (hy : yc z y = some y') (h : RK S w hp B V sz xs T cs (.o t i y)) : RDL w (xs.set i y') T cs ∧ asz y' = sz := by
 obtain ⟨h1, h2, c0, c1, c2, T0, T', T1, T2, h3, h4, h5, h6, h7, h8⟩ := h
 obtain ⟨k1, k2⟩ := RO1.shut z y y' T1 c1 hy h7
 refine ⟨?_, k2.trans h2⟩
 have hsp : xs.set i y' = xs.take i ++ (y' :: xs.drop (i + 1)) := by rw [List.set_eq_take_append_cons_drop, if_pos h1]
 rw [hsp, h3]
 refine RDL.app h6 ?_ h4
 unfold RDL
 exact ⟨c1, c2, T1, T2, rfl, h5, k1, h8⟩
theorem RK.focus {t : Option Nat} {i c : Nat} {y z : AV} {p : List Nat} (ha : ∀ x ∈ xs, asz x = sz) (hg : xU y p 0 = some (z, c)) (h : RK S w hp B V sz xs T cs (.o t i y)) :
 ∃ vs T1 Tr, RO1 S w hp B V z T1 vs ∧ Split T T1 Tr ∧ i * sz + c + vs.length ≤ cs.length ∧ (∀ j u, vs[j]? = some u → cs[i * sz + c + j]? = some u) ∧
  ∀ y' vs' T1' T', asz y' = asz z → RO1 S w hp B V y' T1' vs' → Split T' T1' Tr → RK S w hp B V sz xs T' (cs.take (i * sz + c) ++ vs' ++ cs.drop (i * sz + c + vs'.length)) (.o t i (setM y p y')) := by
 obtain ⟨h1, h2, c0, c1, c2, T0, T', T1, T2, h3, h4, h5, h6, h7, h8⟩ := h
 obtain ⟨vs, A, Ar, s1, s2, s3, s4, s5, s6⟩ := RO1.focus p y T1 c1 0 c z h7 hg
 have l0 : c0.length = i * sz := by rw [RDL.size _ _ _ h6, xW (fun x hx => ha x (List.mem_of_mem_take hx)), List.length_take, Nat.min_eq_left (by omega)]
 simp only [Nat.sub_zero] at s4 s5 s6
 refine ⟨vs, A, fun g => T0 g ∨ (Ar g ∨ T2 g), s3, ⟨fun g => ?_, fun g a b => ?_⟩, by rw [h3]; simp only [List.length_append]; omega, fun j u hu => ?_, fun y' vs' A' T'' hz k1 k2 => ?_⟩
 · rw [h4.1 g, h5.1 g, s1.1 g]
   constructor
   · rintro (x | (x | x) | x)
     · exact .inr (.inl x)
     · exact .inl x
     · exact .inr (.inr (.inl x))
     · exact .inr (.inr (.inr x))
   · rintro (x | x | x | x)
     · exact .inr (.inl (.inl x))
     · exact .inl x
     · exact .inr (.inl (.inr x))
     · exact .inr (.inr x)
 · rcases b with b | b | b
   · exact h4.2 g b (h5.left (s1.left a))
   · exact s1.2 g a b
   · exact h5.2 g (s1.left a) b
 · rw [h3]
   have := s5 j u hu
   rw [List.getElem?_append_right (by omega), List.getElem?_append_left (by have := (List.getElem?_eq_some_iff.1 this).1; omega)]
   rw [show i * sz + c + j - c0.length = c + j from by omega]
   exact this
 · obtain ⟨n1, n2⟩ := s6 y' vs' A' (fun g => A' g ∨ Ar g) hz k1 ⟨fun g => Iff.rfl, fun g a b => k2.2 g a (.inr (.inl b))⟩
   have e1 := RO1.size _ _ _ s3
   have e2 := RO1.size _ _ _ k1
   have e3 : cs.take (i * sz + c) = c0 ++ c1.take c := by
    rw [h3, List.take_append, List.take_of_length_le (by omega), List.take_append_of_le_length (by omega)]
    congr 2; omega
   have e4 : cs.drop (i * sz + c + vs'.length) = c1.drop (c + vs'.length) ++ c2 := by
    rw [h3, List.drop_append, List.drop_eq_nil_of_le (by omega), List.nil_append, List.drop_append_of_le_length (by omega)]
    congr 2; omega
   refine ⟨h1, n2.trans h2, c0, c1.take c ++ vs' ++ c1.drop (c + vs'.length), c2, T0, fun g => (A' g ∨ Ar g) ∨ T2 g, fun g => A' g ∨ Ar g, T2, ?_, ⟨fun g => ?_, fun g a b => ?_⟩, ⟨fun g => Iff.rfl, fun g a b => ?_⟩, h6, n1, h8⟩
   · rw [e3, e4]; simp only [List.append_assoc]
   · rw [k2.1 g]
     constructor
     · rintro (x | x | x | x)
       · exact .inr (.inl (.inl x))
       · exact .inl x
       · exact .inr (.inl (.inr x))
       · exact .inr (.inr x)
     · rintro (x | (x | x) | x)
       · exact .inr (.inl x)
       · exact .inl x
       · exact .inr (.inr (.inl x))
       · exact .inr (.inr (.inr x))
   · rcases b with (b | b) | b
     · exact k2.2 g b (.inl a)
     · exact h4.2 g a (h5.left (s1.right b))
     · exact h4.2 g a (h5.right b)
   · rcases a with a | a
     · exact k2.2 g a (.inr (.inr b))
     · exact h5.2 g (s1.right a) b
theorem RO.carry {ob : OB} {b : Nat} {v : Value} (hS : ∀ b, S b → S' b) (hw : ∀ b, S b → w'.heap[b]? = w.heap[b]?) (hn : ∀ l, yS l ob.e = true → Same hp hp' B B' V V' l) (hT : ∀ g, T g → w'.heap[g]? = w.heap[g]?) (hv : ∀ g, v.ownBlock = some g → w'.heap[g]? = w.heap[g]?) (h : RO S w hp B V T ob b v) : RO S' w' hp' B' V' T ob b v := by
 obtain ⟨t, cs, h1, h2, h3, h4, h5, h6⟩ := h
 exact ⟨t, cs, ⟨h1.1, h1.2.carry hT⟩, RK.carry hS hw hn hT h2, h3, h4, jX h5 hv, h6⟩
theorem RO.kill {ob : OB} {b : Nat} {v : Value} (l : Nat) (h : RO S w hp B V T ob b v) : RO S w hp B V T ⟨yR l ob.e, ob.sz, ob.xs⟩ b v := by
 obtain ⟨t, cs, h1, h2, h3, h4, h5, h6⟩ := h
 exact ⟨t, cs, ⟨by rw [aH9]; exact h1.1, h1.2.kill l⟩, RK.kill l h2, h3, h4, h5, h6⟩
theorem RO.oneV {ob : OB} {b : Nat} {v : Value} (h : RO S w hp B V T ob b v) : v.oneCell' = true := by
 obtain ⟨t, cs, h1, h2, h3, h4, h5, h6⟩ := h
 rcases h5.2 with ⟨rfl, _⟩ | ⟨g, cap, cur, rfl, _⟩ <;> rfl
theorem RO.list {ob : OB} {b : Nat} {v : Value} (hs : ob.e.shut = true) (h : RO S w hp B V T ob b v) : RA (fun g => S g ∨ v.ownBlock = some g ∨ T g) w (.lst ob.sz ob.xs) [v] := by
 obtain ⟨t, cs, h1, h2, h3, h4, h5, h6⟩ := h
 exact aFr h5 h3 h4 (RL.mono (fun g hg => hg.elim .inl (fun k => .inr (.inr k))) (fun _ _ => rfl) _ _ (RK.list hs h2)) (fun g hg => .inr (.inl hg))
theorem RO.block {ob : OB} {b : Nat} {v : Value} (h : RO S w hp B V T ob b v) (hne : ob.xs ≠ []) : ∃ t cs cap cur, (∀ t', ob.e.typ = some t' → t = t') ∧ RK S w hp B V ob.sz ob.xs T cs ob.e ∧ (∀ x ∈ ob.xs, asz x = ob.sz) ∧ 0 < ob.sz ∧ v = .slice (some ⟨b, 0, none⟩) ob.xs.length cap ∧ w.heap[b]? = some (.cells cur t (0, 0)) ∧ ob.xs.length ≤ cap ∧ cap ≤ maxLen ∧ cur.size = cap * ob.sz ∧ cur.toList.take (ob.xs.length * ob.sz) = cs := by
 obtain ⟨t, cs, h1, h2, h3, h4, h5, h6⟩ := h
 rcases h5.2 with ⟨_, hn⟩ | ⟨g', cap, cur, rfl, hb, hg, hc, hm, hs, ht⟩
 · exact absurd (List.eq_nil_of_length_eq_zero hn) hne
 · obtain rfl := h6 g' rfl
   exact ⟨t, cs, cap, cur, h1.1, h2, h3, h4, rfl, hg, hc, hm, hs, ht⟩
end
section
variable {W : World} {M : Hand} {S0 : Nat → Prop} {s : St} {a : Act} {w w' : World} {n : Nat} {tmps : Array Value} {S : Nat → Prop} {B : Nat → Nat} {V : Nat → Value} {T : Nat → Nat → Prop}
theorem y7 {l : Nat} {o : Option OB} {ob' : OB} (h : xV l o = some ob') : ∃ ob, o = some ob ∧ ob' = ⟨yR l ob.e, ob.sz, ob.xs⟩ := by
 cases o with
 | none => cases h
 | some ob => cases h; exact ⟨ob, rfl, rfl⟩
theorem jr {l : Nat} {o : Option OB} {ob : OB} (h : o = some ob) : xV l o = some ⟨yR l ob.e, ob.sz, ob.xs⟩ := by subst h; rfl
theorem Same.refl {hp : Nat → Option OB} {B : Nat → Nat} {V : Nat → Value} (l : Nat) : Same hp hp B B V V l := fun ob h => ⟨ob, h, rfl, rfl, rfl⟩
theorem aD9 {hp : Nat → Option OB} {B : Nat → Nat} {V : Nat → Value} (k l : Nat) : Same hp (fun j => xV k (hp j)) B B V V l := fun ob h => ⟨_, jr h, rfl, rfl, rfl⟩
theorem aJr {tmps : Array Value} {d t : Nat} {u : Value} (hd : d < tmps.size) : (tmps.setIfInBounds d u).getD t undef = if t = d then u else tmps.getD t undef := by
 by_cases h : t = d
 · subst h; simp [hd]
 · simp [h, Array.getElem?_setIfInBounds_ne (Ne.symm h)]
theorem SimW.glob (h : SimW W M S0 s tmps w S B V T) {S' : Nat → Prop} (hm : ∀ b, S b → S' b) {g : Nat} {y : AV} (hg : GT g = some y) : RG S' w g y :=
 RG.mono (fun b hb => hm b (h.s0 b hb)) (fun b hb => h.below.block b (h.gl.1 b hb).2 (h.gl.1 b hb).1) (h.gl.2 g y hg)
theorem kC (g l : Nat) : (aCo g).names l = false := by
 unfold aCo
 cases GT g with
 | none => rfl
 | some y => dsimp only; cases aAs y <;> rfl
theorem SimW.put (h : SimW W M S0 s tmps w S B V T) {x : AV} {u : Value} (hx : RV S w s.hp B V x u) (d : Tmp) (hd : d < tmps.size) : SimW W M S0 (s.put (some d) x) (tmps.setIfInBounds d u) w S B V T := by
 refine ⟨h.below, h.s0, h.slt, fun t => ?_, h.rows, h.pin, h.gl⟩
 rw [aJr hd]
 show RV S w s.hp B V (bif Nat.beq t d then x else s.sl t) _
 by_cases ht : t = d
 · subst ht; simp [hx]
 · rw [if_neg ht, xY ht]; exact h.sl t
def inN (n : Nat) : Option Tmp → Bool
 | none => true
 | some t => Nat.blt t n
theorem Sim.put (hn : a.tmps.size = n) (hdf : a.defers = []) (h : SimW W M S0 s a.tmps w S B V T) {x : AV} {u : Value} (d : Option Tmp) (hx : RV S w s.hp B V x u) (hd : inN n d = true) : Sim W M S0 n (s.put d x) (a.put d u) w := by
 cases d with
 | none => exact ⟨hn, hdf, S, B, V, T, h⟩
 | some d => exact ⟨by simpa [Act.put] using hn, hdf, S, B, V, T, h.put hx d (by rw [hn]; simpa [inN] using hd)⟩
theorem SimW.oneV (h : SimW W M S0 s tmps w S B V T) (l : Nat) (ob : OB) (ho : s.hp l = some ob) : (V l).oneCell' = true := (h.rows.ro l ob ho).oneV
theorem SimW.far (h : SimW W M S0 s tmps w S B V T) {l : Nat} {ob : OB} (ho : s.hp l = some ob) : (∀ g, S g → ¬ Blk V T l g) ∧ ∀ j o g, j ≠ l → s.hp j = some o → Blk V T j g → ¬ Blk V T l g :=
 ⟨fun g hs hb => (h.rows.me l ob g ho hb).1 hs, fun j o g hj hjo hb hb' => hj (h.rows.ds j l o ob g hjo ho hb hb')⟩
theorem SimW.world (h : SimW W M S0 s tmps w S B V T) (hb : Below w.heap.size w w') : SimW W M S0 s tmps w' S B V T := by
 have hw : ∀ b, b < w.heap.size → w'.heap[b]? = w.heap[b]? := fun b hb' => hb.block b hb'
 refine ⟨h.below.trans (Grown.of hb (fun _ => False)) (fun g e => e.elim), h.s0, fun b hs => ⟨Nat.lt_of_lt_of_le (h.slt b hs).1 hb.size, (h.slt b hs).2⟩, fun t => ?_, ⟨fun l ob ho => ?_, fun l ob g ho hg => ?_, h.rows.nd, h.rows.ds, fun l es e => ?_⟩, h.pin, h.gl⟩
 · exact RV.carry (fun _ h => h) (fun b hs => hw b (h.slt b hs).1) _ _ (fun l _ => Same.refl l) (h.sl t)
 · exact (h.rows.ro l ob ho).carry (fun _ h => h) (fun b hs => hw b (h.slt b hs).1) (fun l _ => Same.refl l) (fun g hg => hw g (h.rows.me l ob g ho (.inr hg)).2.1) (fun g hg => hw g (h.rows.me l ob g ho (.inl hg)).2.1)
 · obtain ⟨a, b, c⟩ := h.rows.me l ob g ho hg
   exact ⟨a, Nat.lt_of_lt_of_le b hb.size, c⟩
 · obtain ⟨⟨t, ho⟩, k1, arr, clock, k2, k3⟩ := h.rows.mp l es e
   exact ⟨⟨t, ho⟩, k1, arr, clock, (hw _ (h.rows.me l _ _ ho (.inr k1)).2.1).trans k2, k3⟩
theorem SimW.more (h : SimW W M S0 s tmps w S B V T) {S' : Nat → Prop} (hm : ∀ b, S b → S' b) (hs : ∀ b, S' b → b < w.heap.size ∧ (S0 b ∨ W.heap.size ≤ b ∨ M.bl b)) (hd : ∀ l ob g, s.hp l = some ob → Blk V T l g → ¬ S' g) : SimW W M S0 s tmps w S' B V T :=
 ⟨h.below, fun b hb => hm b (h.s0 b hb), hs, fun t => RV.carry hm (fun _ _ => rfl) _ _ (fun l _ => Same.refl l) (h.sl t),
  ⟨fun l ob ho => (h.rows.ro l ob ho).carry hm (fun _ _ => rfl) (fun l _ => Same.refl l) (fun _ _ => rfl) (fun _ _ => rfl), fun l ob g ho hg => ⟨hd l ob g ho hg, (h.rows.me l ob g ho hg).2⟩, h.rows.nd, h.rows.ds, h.rows.mp⟩, h.pin, h.gl⟩
theorem SimW.kill (h : SimW W M S0 s tmps w S B V T) (l : Nat) : SimW W M S0 (s.kill l) tmps w S B V T := by
 refine ⟨h.below, h.s0, h.slt, fun t => ?_, ⟨fun j ob ho => ?_, fun j ob g ho hg => ?_, fun j ob g ho => ?_, fun j j' o o' g h1 h2 => ?_, fun j es e => ?_⟩, h.pin, h.gl⟩
 · show RV S w (fun j => xV l (s.hp j)) B V (bif (s.sl t).names l then .any else s.sl t) _
   cases (s.sl t).names l with
   | true => simp only [cond_true]; unfold RV; trivial
   | false => exact RV.carry (fun _ h => h) (fun _ _ => rfl) _ _ (fun j _ => aD9 l j) (h.sl t)
 · obtain ⟨o, k1, rfl⟩ := y7 ho
   exact ((h.rows.ro j o k1).kill l).carry (fun _ h => h) (fun _ _ => rfl) (fun j _ => aD9 l j) (fun _ _ => rfl) (fun _ _ => rfl)
 · obtain ⟨o, k1, rfl⟩ := y7 ho
   exact h.rows.me j o g k1 hg
 · obtain ⟨o, k1, rfl⟩ := y7 ho
   exact h.rows.nd j o g k1
 · obtain ⟨p, k1, rfl⟩ := y7 h1
   obtain ⟨q, k2, rfl⟩ := y7 h2
   exact h.rows.ds j j' p q g k1 k2
 · obtain ⟨⟨t, ho⟩, k⟩ := h.rows.mp j es e
   exact ⟨⟨t, by show xV l (s.hp j) = _; rw [ho]; rfl⟩, k⟩
theorem kG {l : Nat} : (∀ t, ((s.kill l).sl t).names l = false) ∧ ∀ j ob, (s.kill l).hp j = some ob → yS l ob.e = false := by
 refine ⟨fun t => ?_, fun j ob ho => ?_⟩
 · show AV.names l (bif (s.sl t).names l then .any else s.sl t) = false
   cases hn : (s.sl t).names l with
   | true => rfl
   | false => simpa using hn
 · obtain ⟨o, k1, rfl⟩ := y7 ho
   exact vS l o.e
theorem jF (h : SimW W M S0 s tmps w S B V T) {l : Nat} (hf : s.hp l = none) : (∀ t, (s.sl t).names l = false) ∧ ∀ j ob, s.hp j = some ob → yS l ob.e = false := by
 refine ⟨fun t => ?_, fun j ob ho => ?_⟩
 · cases hn : (s.sl t).names l with
   | false => rfl
   | true => obtain ⟨ob, ho⟩ := RV.there _ _ hn (h.sl t); rw [hf] at ho; cases ho
 · cases hn : yS l ob.e with
   | false => rfl
   | true =>
    obtain ⟨t, cs, _, h2, _⟩ := h.rows.ro j ob ho
    obtain ⟨e, sz, xs⟩ := ob
    cases e with
    | o t' i y =>
     obtain ⟨_, _, c0, c1, c2, T0, T', T1, T2, _, _, _, _, h7, _⟩ := h2
     obtain ⟨ob, ho⟩ := RO1.there y T1 c1 hn h7; rw [hf] at ho; cases ho
    | _ => cases hn
theorem qJ {l j : Nat} {o : Option OB} {es : List (ByteArray × AV)} (e : (s.set l o).mp j = some es) : j ≠ l ∧ s.mp j = some es := by
 by_cases hl : j = l
 · subst hl; simp [St.set] at e
 · exact ⟨hl, by simpa [St.set, xY hl] using e⟩
theorem yY {s : St} {l : Nat} {o : Option OB} : (s.set l o).hp l = o := by simp [St.set]
theorem yG {s : St} {l j : Nat} {o : Option OB} (h : j ≠ l) : (s.set l o).hp j = s.hp j := by simp [St.set, xY h]
theorem aHh {l j : Nat} (h : okL l = true) (k : okL j = false) : j ≠ l := fun e => by rw [e, h] at k; cases k
theorem SimW.repl (h : SimW W M S0 s tmps w S B V T) {l : Nat} (hok : okL l = true) (hk1 : ∀ t, (s.sl t).names l = false) (hk2 : ∀ j ob, j ≠ l → s.hp j = some ob → yS l ob.e = false)
 (hg : Grown w w' (fun g => (∃ ob, s.hp l = some ob) ∧ Blk V T l g)) {ob' : OB} {b' : Nat} {v' : Value} {T' : Nat → Prop}
 (hro : RO S w' (s.set l (some ob')).hp (upd B l b') (upd V l v') T' ob' b' v') (hme : ∀ g, (v'.ownBlock = some g ∨ T' g) → g < w'.heap.size ∧ ((w.heap.size ≤ g ∨ ((∃ ob, s.hp l = some ob) ∧ Blk V T l g)) ∨ (¬ S g ∧ (W.heap.size ≤ g ∨ M.bl g) ∧ ∀ j o, s.hp j = some o → ¬ Blk V T j g))) (hnd : ∀ g, v'.ownBlock = some g → ¬ T' g) :
 SimW W M S0 (s.set l (some ob')) tmps w' S (upd B l b') (upd V l v') (upd T l T') := by
 have hSw : ∀ b, S b → w'.heap[b]? = w.heap[b]? := fun b hs => hg.block b (h.slt b hs).1 (fun ⟨⟨ob, ho⟩, hb⟩ => (h.far ho).1 b hs hb)
 have hoth : ∀ j o g, j ≠ l → s.hp j = some o → Blk V T j g → w'.heap[g]? = w.heap[g]? := fun j o g hj hjo hb => hg.block g (h.rows.me j o g hjo hb).2.1 (fun ⟨⟨ob, ho⟩, hb'⟩ => (h.far ho).2 j o g hj hjo hb hb')
 have hsame : ∀ j, j ≠ l → Same s.hp (s.set l (some ob')).hp B (upd B l b') V (upd V l v') j := fun j hj ob ho => ⟨ob, by rw [yG hj]; exact ho, rfl, upd_ne hj, upd_ne hj⟩
 have hblk : ∀ j g, j ≠ l → (Blk (upd V l v') (upd T l T') j g ↔ Blk V T j g) := fun j g hj => by unfold Blk; rw [upd_ne hj, upd_ne hj]
 have hblkl : ∀ g, Blk (upd V l v') (upd T l T') l g ↔ (v'.ownBlock = some g ∨ T' g) := fun g => by unfold Blk; rw [upd_same, upd_same]
 refine ⟨h.below.trans hg (fun g ⟨⟨ob, ho⟩, hb⟩ hlt => (h.rows.me l ob g ho hb).2.2.resolve_left (by omega)), h.s0, fun b hs => ⟨Nat.lt_of_lt_of_le (h.slt b hs).1 hg.size, (h.slt b hs).2⟩, fun t => ?_, ⟨fun j ob ho => ?_, fun j ob g ho hb => ?_, fun j ob g ho hb => ?_, fun j j' o1 o2 g h1 h2 e1 e2 => ?_, fun j es e => ?_⟩, fun j b u hp => ?_, h.gl⟩
 · exact RV.carry (fun _ h => h) hSw _ _ (fun j hj => hsame j (fun e => by rw [e] at hj; exact absurd ((hk1 t).symm.trans hj) (by simp))) (h.sl t)
 · by_cases e : j = l
   · subst e
     rw [yY] at ho; cases ho
     rw [upd_same, upd_same, upd_same]; exact hro
   · rw [yG e] at ho
     rw [upd_ne e, upd_ne e, upd_ne e]
     exact (h.rows.ro j ob ho).carry (fun _ h => h) hSw (fun i hi => hsame i (fun e' => by rw [e', hk2 j ob e ho] at hi; cases hi)) (fun g hg => hoth j ob g e ho (.inr hg)) (fun g hg => hoth j ob g e ho (.inl hg))
 · by_cases e : j = l
   · subst e
     obtain ⟨k1, k2⟩ := hme g ((hblkl g).1 hb)
     rcases k2 with (k2 | ⟨⟨o, ho'⟩, k2⟩) | k2
     · exact ⟨fun hs => absurd (h.slt g hs).1 (by omega), k1, .inl (Nat.le_trans h.below.size k2)⟩
     · exact ⟨(h.rows.me j o g ho' k2).1, k1, (h.rows.me j o g ho' k2).2.2⟩
     · exact ⟨k2.1, k1, k2.2.1⟩
   · rw [yG e] at ho
     obtain ⟨k1, k2, k3⟩ := h.rows.me j ob g ho ((hblk j g e).1 hb)
     exact ⟨k1, Nat.lt_of_lt_of_le k2 hg.size, k3⟩
 · by_cases e : j = l
   · subst e; rw [upd_same] at hb ⊢; exact hnd g hb
   · rw [yG e] at ho; rw [upd_ne e] at hb ⊢; exact h.rows.nd j ob g ho hb
 · by_cases e : j = l
   · by_cases e' : j' = l
     · rw [e, e']
     · subst e
       rw [yG e'] at h2
       have b2 := (hblk j' g e').1 e2
       rcases (hme g ((hblkl g).1 e1)).2 with (k | ⟨⟨o, ho'⟩, k⟩) | k
       · have := (h.rows.me j' o2 g h2 b2).2.1; omega
       · exact absurd k ((h.far ho').2 j' o2 g e' h2 b2)
       · exact absurd b2 (k.2.2 j' o2 h2)
   · rw [yG e] at h1
     have b1 := (hblk j g e).1 e1
     by_cases e' : j' = l
     · subst e'
       rcases (hme g ((hblkl g).1 e2)).2 with (k | ⟨⟨o, ho'⟩, k⟩) | k
       · have := (h.rows.me j o1 g h1 b1).2.1; omega
       · exact absurd k ((h.far ho').2 j o1 g e h1 b1)
       · exact absurd b1 (k.2.2 j o1 h1)
     · rw [yG e'] at h2
       exact h.rows.ds j j' o1 o2 g h1 h2 b1 ((hblk j' g e').1 e2)
 · obtain ⟨hj, hm⟩ := qJ e
   obtain ⟨⟨t, ho⟩, k1, arr, clock, k2, k3⟩ := h.rows.mp j es hm
   rw [upd_ne hj, upd_ne hj]
   exact ⟨⟨t, by rw [yG hj]; exact ho⟩, k1, arr, clock, (hoth j _ _ hj ho (.inr k1)).trans k2, k3⟩
 · obtain ⟨p1, p2, p3⟩ := h.pin j b u hp
   have hj := aHh hok p1
   exact ⟨p1, by rw [upd_ne hj]; exact p2, by rw [upd_ne hj]; exact p3⟩
theorem SimW.inpl (h : SimW W M S0 s tmps w S B V T) {l : Nat} {ob ob' : OB} (ho : s.hp l = some ob) (hsz : ob'.sz = ob.sz) (hg : Grown w w' (Blk V T l)) {T' : Nat → Prop} (hro : RO S w' (s.set l (some ob')).hp B V T' ob' (B l) (V l)) (hT : ∀ g, T' g → T l g) :
 SimW W M S0 (s.set l (some ob')) tmps w' S B V (upd T l T') := by
 have hSw : ∀ b, S b → w'.heap[b]? = w.heap[b]? := fun b hs => hg.block b (h.slt b hs).1 (fun hb => (h.far ho).1 b hs hb)
 have hoth : ∀ j o g, j ≠ l → s.hp j = some o → Blk V T j g → w'.heap[g]? = w.heap[g]? := fun j o g hj hjo hb => hg.block g (h.rows.me j o g hjo hb).2.1 (fun hb' => (h.far ho).2 j o g hj hjo hb hb')
 have hsame : ∀ j, Same s.hp (s.set l (some ob')).hp B B V V j := fun j o hjo => by
  by_cases hj : j = l
  · subst hj; rw [ho] at hjo; cases hjo; exact ⟨ob', yY, hsz, rfl, rfl⟩
  · exact ⟨o, by rw [yG hj]; exact hjo, rfl, rfl, rfl⟩
 have hblk : ∀ j g, Blk V (upd T l T') j g → Blk V T j g := fun j g hb => by
  by_cases hj : j = l
  · subst hj; unfold Blk at hb ⊢; rw [upd_same] at hb; exact hb.imp id (hT g)
  · unfold Blk at hb ⊢; rw [upd_ne hj] at hb; exact hb
 have hex : ∀ j o, (s.set l (some ob')).hp j = some o → ∃ o', s.hp j = some o' := fun j o e => by
  by_cases hj : j = l
  · subst hj; exact ⟨ob, ho⟩
  · exact ⟨o, by rw [yG hj] at e; exact e⟩
 refine ⟨h.below.trans hg (fun g hb hlt => (h.rows.me l ob g ho hb).2.2.resolve_left (by omega)), h.s0, fun b hs => ⟨Nat.lt_of_lt_of_le (h.slt b hs).1 hg.size, (h.slt b hs).2⟩, fun t => ?_, ⟨fun j o e => ?_, fun j o g e hb => ?_, fun j o g e hb ht => ?_, fun j j' o1 o2 g h1 h2 e1 e2 => ?_, fun j es e => ?_⟩, h.pin, h.gl⟩
 · exact RV.carry (fun _ h => h) hSw _ _ (fun j _ => hsame j) (h.sl t)
 · by_cases hj : j = l
   · subst hj; rw [yY] at e; cases e; rw [upd_same]; exact hro
   · rw [yG hj] at e
     rw [upd_ne hj]
     exact (h.rows.ro j o e).carry (fun _ h => h) hSw (fun i _ => hsame i) (fun g hg => hoth j o g hj e (.inr hg)) (fun g hg => hoth j o g hj e (.inl hg))
 · obtain ⟨o', e'⟩ := hex j o e
   obtain ⟨k1, k2, k3⟩ := h.rows.me j o' g e' (hblk j g hb)
   exact ⟨k1, Nat.lt_of_lt_of_le k2 hg.size, k3⟩
 · obtain ⟨o', e'⟩ := hex j o e
   refine h.rows.nd j o' g e' hb ?_
   by_cases hj : j = l
   · subst hj; rw [upd_same] at ht; exact hT g ht
   · rw [upd_ne hj] at ht; exact ht
 · obtain ⟨p, e3⟩ := hex j o1 h1
   obtain ⟨q, e4⟩ := hex j' o2 h2
   exact h.rows.ds j j' p q g e3 e4 (hblk j g e1) (hblk j' g e2)
 · obtain ⟨hj, hm⟩ := qJ e
   obtain ⟨⟨t, ho'⟩, k1, arr, clock, k2, k3⟩ := h.rows.mp j es hm
   rw [upd_ne hj]
   exact ⟨⟨t, by rw [yG hj]; exact ho'⟩, k1, arr, clock, (hoth j _ _ hj ho' (.inr k1)).trans k2, k3⟩
end
end Go.Proofs.YtodckioppgjbdaaGreatDoor.AM
