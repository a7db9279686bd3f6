/- A machine over data: slots hold data (scalars, structs, lists that may only be read, rows that the call owns), no memory is named. Definitions, and what a slot's datum says of the memory. -/
import Derived.Test.YtciacgmdeaihlaaRows
import Derived.WalkKit
import Derived.WalkLawsBesides
import Derived.Lib.Hide
import Derived.Deep.Draws
import Derived.Deep.Slices
import Derived.Deep.AppendLies
import Derived.Deep.Quiet
import Derived.ChangeSame
namespace Go.Proofs.Ytciacgmdeaihlaa.AM
open Go Go.RowKit

inductive AV where
  | any
  | v (x : Value)
  | agg (xs : List AV)
  | lst (sz : Nat) (xs : List AV)
  | ptr (x : AV)
  | own (l : Nat)
  | optr (l i : Nat) (p : List Nat) (c : Nat)
  | tup (xs : List AV)
  deriving Inhabited

mutual
def asz : AV → Nat
  | .agg xs => aszs xs
  | _ => 1
def aszs : List AV → Nat
  | [] => 0
  | x :: xs => asz x + aszs xs
end

mutual
/-- the cells cs read as the datum, every row that is met lying in blocks of S -/
def RA (S : Nat → Prop) (w : World) : AV → List Value → Prop
  | .v x, cs => cs = [x] ∧ x.oneCell' = true
  | .agg xs, cs => RL S w xs cs
  | .lst sz xs, cs => ∃ A c, cs = [.slice A xs.length c] ∧ xs.length ≤ c ∧ c ≤ maxLen ∧ (∀ x ∈ xs, asz x = sz) ∧ 0 < sz ∧
      (xs = [] ∨ ∃ b off us, A = some ⟨b, off, none⟩ ∧ S b ∧ RL S w xs us ∧ ∀ j u, us[j]? = some u → w.cell? ⟨b, off + j, none⟩ = some u)
  | _, _ => False
def RL (S : Nat → Prop) (w : World) : List AV → List Value → Prop
  | [], cs => cs = []
  | x :: xs, cs => ∃ c1 c2, cs = c1 ++ c2 ∧ RA S w x c1 ∧ RL S w xs c2
end

structure OB where
  e : TypeId
  sz : Nat
  xs : List AV

mutual
def AV.names (l : Nat) : AV → Bool
  | .own l' => Nat.beq l' l
  | .optr l' _ _ _ => Nat.beq l' l
  | .tup xs => namesL l xs
  | _ => false
def namesL (l : Nat) : List AV → Bool
  | [] => false
  | x :: xs => x.names l || namesL l xs
end

structure St where
  sl : Nat → AV
  hp : Nat → Option OB

def St.ev (s : St) : Operand → AV
  | .tmp t => s.sl t
  | .const c => .v c
  | _ => .any
def St.put (s : St) (d : Option Tmp) (x : AV) : St :=
  match d with
  | some t => ⟨fun j => bif Nat.beq j t then x else s.sl j, s.hp⟩
  | none => s
def St.set (s : St) (l : Nat) (o : Option OB) : St := ⟨s.sl, fun j => bif Nat.beq j l then o else s.hp j⟩
/-- no slot names l any more -/
def St.kill (s : St) (l : Nat) : St := ⟨fun j => bif (s.sl j).names l then .any else s.sl j, s.hp⟩

mutual
def RV (S : Nat → Prop) (w : World) (hp : Nat → Option OB) (B : Nat → Nat) (V : Nat → Value) : AV → Value → Prop
  | .any, _ => True
  | .v x, u => u = x ∧ x.oneCell' = true
  | .agg xs, u => ∃ cs, u = .agg cs.toArray ∧ RL S w xs cs
  | .lst sz xs, u => RA S w (.lst sz xs) [u]
  | .ptr x, u => ∃ b off us, u = .pointer (some ⟨b, off, none⟩) ∧ S b ∧ RA S w x us ∧ ∀ j y, us[j]? = some y → w.cell? ⟨b, off + j, none⟩ = some y
  | .own l, u => (∃ ob, hp l = some ob) ∧ u = V l
  | .optr l i _ c, u => ∃ ob, hp l = some ob ∧ u = .pointer (some ⟨B l, i * ob.sz + c, none⟩)
  | .tup xs, u => ∃ us, u = .tuple us.toArray ∧ RVs S w hp B V xs us
def RVs (S : Nat → Prop) (w : World) (hp : Nat → Option OB) (B : Nat → Nat) (V : Nat → Value) : List AV → List Value → Prop
  | [], us => us = []
  | x :: xs, us => ∃ u us', us = u :: us' ∧ RV S w hp B V x u ∧ RVs S w hp B V xs us'
end

/-- what the call owns: the row's value is V, in block B -/
def RO (S : Nat → Prop) (w : World) (base : Nat) (ob : OB) (B : Nat) (V : Value) : Prop :=
  ∃ cs, RL S w ob.xs cs ∧ (∀ x ∈ ob.xs, asz x = ob.sz) ∧ 0 < ob.sz ∧ w.ownsRow base ob.e ob.sz V ob.xs.length cs ∧ ∀ g, V.ownBlock = some g → g = B ∧ ¬ S g

def mb (M : Option Value) : Option Nat := M.bind Value.ownBlock
structure SimW (W : World) (M : Option Value) (S0 : Nat → Prop) (s : St) (tmps : Array Value) (w : World) (S : Nat → Prop) (B : Nat → Nat) (V : Nat → Value) : Prop where
  below : W.grownBy w (mb M)
  s0 : ∀ b, S0 b → S b
  slt : ∀ b, S b → b < w.heap.size ∧ (S0 b ∨ W.heap.size ≤ b ∨ mb M = some b)
  sl : ∀ t, RV S w s.hp B V (s.sl t) (tmps.getD t undef)
  hp : ∀ l ob, s.hp l = some ob → RO S w 0 ob (B l) (V l)
  dist : ∀ l l' ob ob' g, s.hp l = some ob → s.hp l' = some ob' → (V l).ownBlock = some g → (V l').ownBlock = some g → l = l'
  mine : ∀ l ob g, s.hp l = some ob → (V l).ownBlock = some g → W.heap.size ≤ g ∨ mb M = some g
  pin : ∀ u, M = some u → V 0 = u

def Sim (W : World) (M : Option Value) (S0 : Nat → Prop) (n : Nat) (s : St) (a : Act) (w : World) : Prop :=
  a.tmps.size = n ∧ a.defers = [] ∧ ∃ S B V, SimW W M S0 s a.tmps w S B V

theorem grown_trans {a b c : World} {M r : Option Nat} (h : a.grownBy b M) (k : b.grownBy c r) (hr : ∀ g, r = some g → g < a.heap.size → M = some g) : a.grownBy c M :=
  ⟨k.os.trans h.os, k.tape.trans h.tape, k.output.trans h.output, Nat.le_trans h.size k.size, fun i hi hM => (k.block i (Nat.lt_of_lt_of_le hi h.size) (fun e => hM (hr i e.symm hi).symm)).trans (h.block i hi hM)⟩
theorem grown_of_below {a b : World} (h : Below a.heap.size a b) (M : Option Nat) : a.grownBy b M := ⟨h.os, h.tape, h.output, h.size, fun k hk _ => h.block k hk⟩
theorem below_of_grown {a b : World} (h : a.grownBy b none) : Below a.heap.size a b := ⟨h.os, h.tape, h.output, h.size, fun k hk => h.block k hk (by simp)⟩

/-! ### the words carry over -/
section
variable {S S' : Nat → Prop} {w w' : World}
theorem cell_same {b : Nat} (hw : w'.heap[b]? = w.heap[b]?) (o : Nat) : w'.cell? ⟨b, o, none⟩ = w.cell? ⟨b, o, none⟩ := World.cell?_of_block (a := ⟨b, o, none⟩) hw
mutual
theorem RA.mono (hS : ∀ b, S b → S' b) (hw : ∀ b, S b → w'.heap[b]? = w.heap[b]?) : ∀ (x : AV) (cs : List Value), RA S w x cs → RA S' w' x cs
  | .v x, cs, h => by unfold RA at h ⊢; exact h
  | .agg xs, cs, h => by unfold RA at h ⊢; exact RL.mono hS hw xs cs h
  | .lst sz xs, cs, h => by
    unfold RA at h ⊢
    obtain ⟨A, c, h1, h2, h3, h4, h4', h5⟩ := h
    refine ⟨A, c, h1, h2, h3, h4, h4', ?_⟩
    rcases h5 with h5 | ⟨b, off, us, e, hb, hr, hc⟩
    · exact .inl h5
    · exact .inr ⟨b, off, us, e, hS b hb, RL.mono hS hw xs us hr, fun j u hu => (cell_same (hw b hb) _).trans (hc j u hu)⟩
  | .any, cs, h => by unfold RA at h; exact h.elim
  | .ptr _, cs, h => by unfold RA at h; exact h.elim
  | .own _, cs, h => by unfold RA at h; exact h.elim
  | .optr _ _ _ _, cs, h => by unfold RA at h; exact h.elim
  | .tup _, cs, h => by unfold RA at h; exact h.elim
theorem RL.mono (hS : ∀ b, S b → S' b) (hw : ∀ b, S b → w'.heap[b]? = w.heap[b]?) : ∀ (xs : List AV) (cs : List Value), RL S w xs cs → RL S' w' xs cs
  | [], cs, h => by unfold RL at h ⊢; exact h
  | x :: xs, cs, h => by
    unfold RL at h ⊢
    obtain ⟨c1, c2, e, h1, h2⟩ := h
    exact ⟨c1, c2, e, RA.mono hS hw x c1 h1, RL.mono hS hw xs c2 h2⟩
end
mutual
theorem RA.size : ∀ (x : AV) (cs : List Value), RA S w x cs → cs.length = asz x
  | .v x, cs, h => by unfold RA at h; rw [h.1]; rfl
  | .agg xs, cs, h => by unfold RA at h; unfold asz; exact RL.size xs cs h
  | .lst sz xs, cs, h => by unfold RA at h; obtain ⟨A, c, h1, _⟩ := h; rw [h1]; rfl
  | .any, cs, h => by unfold RA at h; exact h.elim
  | .ptr _, cs, h => by unfold RA at h; exact h.elim
  | .own _, cs, h => by unfold RA at h; exact h.elim
  | .optr _ _ _ _, cs, h => by unfold RA at h; exact h.elim
  | .tup _, cs, h => by unfold RA at h; exact h.elim
theorem RL.size : ∀ (xs : List AV) (cs : List Value), RL S w xs cs → cs.length = aszs xs
  | [], cs, h => by unfold RL at h; rw [h]; rfl
  | x :: xs, cs, h => by
    unfold RL at h
    obtain ⟨c1, c2, e, h1, h2⟩ := h
    unfold aszs
    rw [e, List.length_append, RA.size x c1 h1, RL.size xs c2 h2]
end
mutual
theorem RA.one : ∀ (x : AV) (cs : List Value), RA S w x cs → ∀ u ∈ cs, u.oneCell' = true
  | .v x, cs, h => by unfold RA at h; rw [h.1]; simpa using h.2
  | .agg xs, cs, h => by unfold RA at h; exact RL.one xs cs h
  | .lst sz xs, cs, h => by unfold RA at h; obtain ⟨A, c, h1, _⟩ := h; rw [h1]; simp [Value.oneCell']
  | .any, cs, h => by unfold RA at h; exact h.elim
  | .ptr _, cs, h => by unfold RA at h; exact h.elim
  | .own _, cs, h => by unfold RA at h; exact h.elim
  | .optr _ _ _ _, cs, h => by unfold RA at h; exact h.elim
  | .tup _, cs, h => by unfold RA at h; exact h.elim
theorem RL.one : ∀ (xs : List AV) (cs : List Value), RL S w xs cs → ∀ u ∈ cs, u.oneCell' = true
  | [], cs, h => by unfold RL at h; rw [h]; simp
  | x :: xs, cs, h => by
    unfold RL at h
    obtain ⟨c1, c2, e, h1, h2⟩ := h
    intro u hu
    rw [e, List.mem_append] at hu
    rcases hu with hu | hu
    · exact RA.one x c1 h1 u hu
    · exact RL.one xs c2 h2 u hu
end
theorem RL.app : ∀ {xs ys : List AV} {cs ds : List Value}, RL S w xs cs → RL S w ys ds → RL S w (xs ++ ys) (cs ++ ds)
  | [], ys, cs, ds, h, k => by unfold RL at h; subst h; exact k
  | x :: xs, ys, cs, ds, h, k => by
    unfold RL at h
    obtain ⟨c1, c2, e, h1, h2⟩ := h
    show RL S w (x :: (xs ++ ys)) _
    unfold RL
    exact ⟨c1, c2 ++ ds, by rw [e, List.append_assoc], h1, RL.app h2 k⟩
theorem RL.sing {x : AV} {cs : List Value} (h : RA S w x cs) : RL S w [x] cs := by
  unfold RL; exact ⟨cs, [], by simp, h, by unfold RL; rfl⟩
theorem RL.ofSing {x : AV} {cs : List Value} (h : RL S w [x] cs) : RA S w x cs := by
  unfold RL at h; obtain ⟨c1, c2, e, h1, h2⟩ := h; unfold RL at h2; subst h2; rw [e, List.append_nil]; exact h1
theorem aszs_const {sz : Nat} : ∀ {xs : List AV}, (∀ x ∈ xs, asz x = sz) → aszs xs = xs.length * sz
  | [], _ => by unfold aszs; simp
  | x :: xs, h => by
    unfold aszs
    rw [h x (by simp), aszs_const (fun y hy => h y (List.mem_cons_of_mem _ hy)), List.length_cons, Nat.add_mul, Nat.one_mul, Nat.add_comm]
/-- the part of the cells that belongs to the datum at place i -/
theorem RL.at : ∀ {xs : List AV} {cs : List Value} (i : Nat) {x : AV}, RL S w xs cs → xs[i]? = some x → ∃ us, RA S w x us ∧ aszs (xs.take i) + us.length ≤ cs.length ∧ (cs.drop (aszs (xs.take i))).take us.length = us ∧ ∀ j u, us[j]? = some u → cs[aszs (xs.take i) + j]? = some u
  | [], _, i, x, _, h => by simp at h
  | y :: xs, cs, 0, x, h, hx => by
    unfold RL at h
    obtain ⟨c1, c2, e, h1, h2⟩ := h
    simp at hx; subst hx
    refine ⟨c1, h1, ?_, ?_, ?_⟩
    · rw [e]; simp [aszs]
    · rw [e]; simp [aszs]
    · intro j u hu; rw [e]; simp [aszs]; rw [List.getElem?_append_left (List.getElem?_eq_some_iff.1 hu).1]; exact hu
  | y :: xs, cs, i + 1, x, h, hx => by
    unfold RL at h
    obtain ⟨c1, c2, e, h1, h2⟩ := h
    simp at hx
    obtain ⟨us, k1, k2, k3, k4⟩ := RL.at i h2 hx
    have hs := RA.size y c1 h1
    have ha : aszs ((y :: xs).take (i + 1)) = c1.length + aszs (xs.take i) := by rw [List.take_succ_cons]; rw [aszs, hs]
    refine ⟨us, k1, ?_, ?_, ?_⟩
    · rw [ha, e, List.length_append]; omega
    · rw [ha, e, List.drop_append, List.drop_eq_nil_of_le (by omega), List.nil_append, Nat.add_sub_cancel_left]; exact k3
    · intro j u hu; rw [ha, e, Nat.add_assoc, List.getElem?_append_right (by omega), Nat.add_sub_cancel_left]; exact k4 j u hu
end
end Go.Proofs.Ytciacgmdeaihlaa.AM
